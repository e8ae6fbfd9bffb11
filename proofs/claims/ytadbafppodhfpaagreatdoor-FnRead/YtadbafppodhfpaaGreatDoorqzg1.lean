/-
 What the program's own DeedOk answers: whether the deed is right; for keys of at most 2^40 bytes.
-/
import Derived.Test.YtadbafppodhfpaaGreatDoorqzg0
set_option linter.unusedVariables false
set_option maxRecDepth 100000
set_option maxHeartbeats 6400000
namespace Go.Proofs.YtadbafppodhfpaaGreatDoor
open Go.RowKit
section
namespace Cur
theorem and_bd(n m:Int)(h0:0≤m)(h1:m<9223372036854775808):0≤bits .and .i64 n m∧bits .and .i64 n m≤m:=by
 obtain⟨M,rfl⟩:=Int.eq_ofNat_of_zero_le h0;have hM:(BitVec.ofInt 64 (M:Int)).toNat=M:=ofInt_u64 M (by omega);have hx:(BitVec.ofInt 64 n &&& BitVec.ofInt 64 (M:Int)).toNat≤M:=by
  rw [BitVec.toNat_and,hM];exact Nat.and_le_right
 have e:bits .and .i64 n (M:Int)=IntKind.i64.wrap ((BitVec.ofInt 64 n &&& BitVec.ofInt 64 (M:Int)).toNat:Int):=rfl;rw [e];generalize (BitVec.ofInt 64 n &&& BitVec.ofInt 64 (M:Int)).toNat=x at hx;simp only [IntKind.wrap,IntKind.bits,IntKind.signed];simp;omega
def Bytes(w:World)(c:Nat)(a:Option Addr)(len:Nat):Prop:=
 len=0∨∃b off,a=some ⟨b,off,none⟩∧b≠c∧b<w.heap.size∧∀j,j<len→∃z:Int,w.cell? ⟨b,off+j,none⟩=some (.int .u8 z)∧0≤z∧z≤255
structure At(c:Nat)(a:Option Addr)(len cap:Nat)(w:World):Prop where
 lt:c<w.heap.size
 b:w.cell? ⟨c,0,none⟩=some (.slice a len cap)
 i:∃i:Int,w.cell? ⟨c,1,none⟩=some (.int .i64 i)∧0≤i∧i≤(len:Int)
 h:∃h:Int,w.cell? ⟨c,2,none⟩=some (.int .i64 h)∧-9223372036854775808≤h∧h≤9223372036854775807
 f1:w.frozen? ⟨c,1,none⟩=false
 f2:w.frozen? ⟨c,2,none⟩=false
 bytes:Bytes w c a len
theorem At.below{c:Nat}{a:Option Addr}{len cap:Nat}{w w':World}(h:At c a len cap w)(hb:Below w.heap.size w w'):At c a len cap w' where
 lt:=Nat.lt_of_lt_of_le h.lt hb.size
 b:=(hb.cell (p:=⟨c,0,none⟩) h.lt).trans h.b
 i:=by obtain⟨i,h1,h2⟩:=h.i;exact⟨i,(hb.cell (p:=⟨c,1,none⟩) h.lt).trans h1,h2⟩
 h:=by obtain⟨i,h1,h2⟩:=h.h;exact⟨i,(hb.cell (p:=⟨c,2,none⟩) h.lt).trans h1,h2⟩
 f1:=(hb.frozen (p:=⟨c,1,none⟩) h.lt).trans h.f1
 f2:=(hb.frozen (p:=⟨c,2,none⟩) h.lt).trans h.f2
 bytes:=by
  rcases h.bytes with h0 | ⟨b,off,ha,hne,hlt,hc⟩
  ·exact .inl h0
  ·refine .inr ⟨b,off,ha,hne,Nat.lt_of_lt_of_le hlt hb.size,fun j hj=>?_⟩;obtain⟨z,h1,h2⟩:=hc j hj;exact⟨z,(hb.cell (p:=⟨b,off+j,none⟩) hlt).trans h1,h2⟩
theorem At.drewN{c:Nat}{a:Option Addr}{len cap:Nat}{w:World}(h:At c a len cap w)(n:Nat):At c a len cap (w.drewN n):=⟨h.lt,h.b,h.i,h.h,h.f1,h.f2,h.bytes⟩
theorem At.setI{c:Nat}{a:Option Addr}{len cap:Nat}{w:World}(h:At c a len cap w)(i:Int)(h0:0≤i)(h1:i≤(len:Int)):At c a len cap (w.setCell ⟨c,1,none⟩ (.int .i64 i)) where
 lt:=by simpa using h.lt
 b:=(World.cell?_setCell_other _ _ _ _ (by simp)).trans h.b
 i:=by obtain⟨j,hj,_⟩:=h.i;exact⟨i,World.cell?_setCell_same _ _ _ hj,h0,h1⟩
 h:=by obtain⟨j,hj,hh⟩:=h.h;exact⟨j,(World.cell?_setCell_other _ _ _ _ (by simp)).trans hj,hh⟩
 f1:=by simpa using h.f1
 f2:=by simpa using h.f2
 bytes:=by
  rcases h.bytes with h0 | ⟨b,off,ha,hne,hlt,hc⟩
  ·exact .inl h0
  ·refine .inr ⟨b,off,ha,hne,by simpa using hlt,fun j hj=>?_⟩;obtain⟨z,h1,h2⟩:=hc j hj;exact⟨z,(World.cell?_setCell_other _ _ _ _ (by simp)).trans h1,h2⟩
theorem At.setH{c:Nat}{a:Option Addr}{len cap:Nat}{w:World}(h:At c a len cap w)(i:Int)(h0:-9223372036854775808≤i)(h1:i≤9223372036854775807):At c a len cap (w.setCell ⟨c,2,none⟩ (.int .i64 i)) where
 lt:=by simpa using h.lt
 b:=(World.cell?_setCell_other _ _ _ _ (by simp)).trans h.b
 i:=by obtain⟨j,hj,hh⟩:=h.i;exact⟨j,(World.cell?_setCell_other _ _ _ _ (by simp)).trans hj,hh⟩
 h:=by obtain⟨j,hj,_⟩:=h.h;exact⟨i,World.cell?_setCell_same _ _ _ hj,h0,h1⟩
 f1:=by simpa using h.f1
 f2:=by simpa using h.f2
 bytes:=by
  rcases h.bytes with h0 | ⟨b,off,ha,hne,hlt,hc⟩
  ·exact .inl h0
  ·refine .inr ⟨b,off,ha,hne,by simpa using hlt,fun j hj=>?_⟩;obtain⟨z,h1,h2⟩:=hc j hj;exact⟨z,(World.cell?_setCell_other _ _ _ _ (by simp)).trans h1,h2⟩
theorem grownBy_trans{a b d:World}{r:Option Nat}(h:a.grownBy b r)(k:b.grownBy d r):a.grownBy d r where
 os:=k.os.trans h.os
 tape:=k.tape.trans h.tape
 output:=k.output.trans h.output
 size:=Nat.le_trans h.size k.size
 block:=fun j hj hne=>(k.block j (Nat.lt_of_lt_of_le hj h.size) hne).trans (h.block j hj hne)
theorem grownBy_drewN{a b:World}{r:Option Nat}(h:a.grownBy b r)(n:Nat):a.grownBy (b.drewN n) r:=⟨h.os,h.tape,h.output,h.size,h.block⟩
theorem grownBy_set{a b:World}{c:Nat}(h:a.grownBy b (some c))(j:Nat)(u:Value):a.grownBy (b.setCell ⟨c,j,none⟩ u) (some c) where
 os:=h.os
 tape:=h.tape
 output:=h.output
 size:=by simpa using h.size
 block:=fun k hk hne=>(heap_setCell_other b ⟨c,j,none⟩ k u (fun e=>hne (by simp [e]))).trans (h.block k hk hne)
theorem wrap64_bd(n:Int):-9223372036854775808≤wrap64 n∧wrap64 n≤9223372036854775807:=by unfold wrap64;omega
theorem byte(c:Nat)(a:Option Addr)(len cap:Nat)(w:World)(hl:len≤4096)(hc:At c a len cap w) :
  Calls Tryz.prog 41 #[.pointer (some ⟨c,0,none⟩)] w fun e w'=>∃x:Int,e=.returned (.int .i64 x)∧0≤x∧x≤255∧At c a len cap w'∧w.grownBy w' (some c):=by
 obtain⟨h,ch,hh0,hh1⟩:=hc.h;have f2:=hc.f2;have hb:=wrap64_bd (wrap64 (h*6364136223846793005)+1442695040888963407);have A1:At c a len cap (w.setCell ⟨c,2,none⟩ (.int .i64 (wrap64 (wrap64 (h*6364136223846793005)+1442695040888963407)))):=hc.setH _ hb.1 hb.2;have G1:w.grownBy (w.setCell ⟨c,2,none⟩ (.int .i64 (wrap64 (wrap64 (h*6364136223846793005)+1442695040888963407)))) (some c):=grownBy_set (World.grownBy.refl _ _) _ _;clear hb;have HA:Hid _:=A1;have HG:Hid _:=G1;clear A1 G1;go_enter Tryz.func41,Tryz.ntmps41
 go_wp2_with fail
 clear ch f2 hc hh0 hh1;generalize w.setCell ⟨c,2,none⟩ (.int .i64 (wrap64 (wrap64 (h*6364136223846793005)+1442695040888963407)))=w1 at HA HG ⊢;generalize wrap64 (wrap64 (h*6364136223846793005)+1442695040888963407)=h1;generalize wrap64 (h*6364136223846793005)=h2;have A1:=HA.out;clear HA;obtain⟨i,ci,hi0,hi1⟩:=A1.i;obtain⟨h,ch,hh0,hh1⟩:=A1.h;have cb:=A1.b;have f1:=A1.f1;have HA:Hid (At c a len cap w1):=A1;clear A1;go_quiet (fail)
 have hx:=and_bd (bits .xor .i64 (h / 8589934592) (h / 35184372088832)) 255 (by omega) (by omega);go_wp2_with fail
 generalize bits .and .i64 (bits .xor .i64 (h / 8589934592) (h / 35184372088832)) 255=x0 at hx ⊢;obtain⟨hx0,hx1⟩:=hx;by_cases hlt:i<(len:Int)
 ·obtain⟨b,off,ha,hcell⟩:∃b off,a=some ⟨b,off,none⟩∧∀j,j<len→∃z:Int,w1.cell? ⟨b,off+j,none⟩=some (.int .u8 z)∧0≤z∧z≤255:=by
   rcases HA.out.bytes with h | ⟨b,off,ha,_,_,hcell⟩
   ·exfalso;omega
   ·exact⟨b,off,ha,hcell⟩
  subst ha;obtain⟨z,cz,hz0,hz1⟩:=hcell i.toNat (by omega);clear hcell;have HB:Hid (At c (some ⟨b,off,none⟩) len cap (w1.setCell ⟨c,1,none⟩ (.int .i64 (i+1)))):=HA.out.setI (i+1) (by omega) (by omega);have HS:Hid (w.grownBy (w1.setCell ⟨c,1,none⟩ (.int .i64 (i+1))) (some c)):=grownBy_set HG.out _ _;go_quiet (fail)
  go_wp2_with fail
  go_quiet (fail)
  have hy:=and_bd (x0+z) 255 (by omega) (by omega);go_wp2;go_ret;exact⟨_,rfl,hy.1,hy.2,HB.out.drewN _,grownBy_drewN HS.out _⟩
 ·go_quiet (fail)
  go_wp2;go_ret;exact⟨_,rfl,hx0,hx1,HA.out.drewN _,grownBy_drewN HG.out _⟩
theorem below(c:Nat)(a:Option Addr)(len cap:Nat)(n:Int)(w:World)(hl:len≤4096)(hn:n≤1000000000000)(hc:At c a len cap w) :
  Calls Tryz.prog 26 #[.pointer (some ⟨c,0,none⟩),.int .i64 n] w fun e w'=>∃x:Int,e=.returned (.int .i64 x)∧0≤x∧(0<n→x<n)∧At c a len cap w'∧w.grownBy w' (some c):=by
 by_cases h0:n≤0
 ·go_enter Tryz.func26,Tryz.ntmps26
  go_wp2_with fail
  go_ret;exact⟨0,rfl,by omega,by omega,hc,World.grownBy.refl _ _⟩
 ·by_cases h1:n≤256
  ·go_enter Tryz.func26,Tryz.ntmps26
   go_wp2_with fail
   refine(byte c a len cap _ hl hc).mono ?_;rintro e w1 ⟨x,rfl,hx0,hx1,hA,hG⟩;have m0:=Int.emod_nonneg x (show n≠0 by omega);have m1:=Int.emod_lt_of_pos x (show 0<n by omega);go_wp2;go_ret;exact⟨x % n,rfl,m0,fun _=>m1,hA,hG⟩
  ·go_enter Tryz.func26,Tryz.ntmps26
   go_wp2_with fail
   refine(byte c a len cap _ hl hc).mono ?_;rintro e w1 ⟨x,rfl,hx0,hx1,hA,hG⟩;go_wp2_with fail
   refine(byte c a len cap _ hl hA).mono ?_;rintro e w2 ⟨y,rfl,hy0,hy1,hA2,hG2⟩;go_wp2_with fail
   refine(byte c a len cap _ hl hA2).mono ?_;rintro e w3 ⟨z,rfl,hz0,hz1,hA3,hG3⟩;go_wp2_with fail
   refine(byte c a len cap _ hl hA3).mono ?_;rintro e w4 ⟨u,rfl,hu0,hu1,hA4,hG4⟩;have m0:=Int.emod_nonneg (x*16777216+y*65536+z*256+u) (show n≠0 by omega);have m1:=Int.emod_lt_of_pos (x*16777216+y*65536+z*256+u) (show 0<n by omega);go_wp2;go_ret;exact⟨(x*16777216+y*65536+z*256+u) % n,rfl,m0,fun _=>m1,hA4,grownBy_trans (grownBy_trans (grownBy_trans hG hG2) hG3) hG4⟩
theorem once(c:Nat)(a:Option Addr)(len cap:Nat)(n:Int)(w:World)(hl:len≤4096)(hn:n≤1000000000000)(hc:At c a len cap w) :
  Calls Tryz.prog 29 #[.pointer (some ⟨c,0,none⟩),.int .i64 n] w fun e w'=>∃b:Bool,e=.returned (.bool b)∧At c a len cap w'∧w.grownBy w' (some c):=by
 go_enter Tryz.func29,Tryz.ntmps29
 go_wp2_with fail
 refine(below c a len cap n _ hl hn hc).mono ?_;rintro e w1 ⟨x,rfl,hx0,hx1,hA,hG⟩;go_wp2;go_ret;exact⟨_,rfl,hA,hG⟩
def Code(w:World)(a:Option Addr)(len:Nat):Prop:=
 len=0∨∃b off,a=some ⟨b,off,none⟩∧b<w.heap.size∧∀j,j<len→∃z:Int,w.cell? ⟨b,off+j,none⟩=some (.int .u8 z)∧0≤z∧z≤255
theorem at_new(w:World)(a:Option Addr)(len cap:Nat)(h:Int)(h0:-9223372036854775808≤h)(h1:h≤9223372036854775807)(hc:Code w a len) :
  At w.heap.size a len cap (w.alloc (.cells #[.slice a len cap,.int .i64 0,.int .i64 h] 67)) where
 lt:=by simp
 b:=by simp
 i:=⟨0,by simp,by omega,by omega⟩
 h:=⟨h,by simp,h0,h1⟩
 f1:=by simp
 f2:=by simp
 bytes:=by
  rcases hc with hc | ⟨b,off,ha,hb,hcell⟩
  ·exact .inl hc
  ·refine .inr ⟨b,off,ha,by omega,by simp;omega,fun j hj=>?_⟩;obtain⟨z,hz,hz'⟩:=hcell j hj;exact⟨z,(World.cell?_alloc_lt w _ ⟨b,off+j,none⟩ hb).trans hz,hz'⟩
theorem new(a:Option Addr)(len cap:Nat)(w:World)(hl:len≤4096)(hc:Code w a len) :
  Calls Tryz.prog 25 #[.slice a len cap] w fun e w'=>e=.returned (.pointer (some ⟨w.heap.size,0,none⟩))∧At w.heap.size a len cap w'∧Below w.heap.size w w':=by
 go_enter Tryz.func25,Tryz.ntmps25
 go_wp2;go_loop [3,4] (fun v i=>∃(k:Nat) (h:Int),k≤len∧i=.int .i64 k∧v=.int .i64 h∧0≤h∧h≤1073741823) (fun _ i=>len-(intOf i).toNat)
 case atStart=>exact⟨0,_,by omega,rfl,rfl,by omega,by omega⟩
 case round=>
  obtain⟨k,h,hk,rfl,rfl,hh0,hh1⟩:=hrel;by_cases hlt:k<len
  ·rcases hc with hc | ⟨b,off,rfl,hb,hcell⟩
   ·exfalso;omega
   ·obtain⟨z,cz,hz0,hz1⟩:=hcell k hlt;clear hcell;have hy:=and_bd (h*137+z+11) 1073741823 (by omega) (by omega);go_wp2;go_round
    case rel=>exact⟨k+1,_,by omega,by go_num,rfl,hy.1,hy.2⟩
    case measure=>simp [intOf];omega
  ·go_wp2;go_ret;exact⟨rfl,at_new w a len cap h (by omega) (by omega) hc,(Below.refl _ _).alloc (Nat.le_refl _) _⟩
end Cur
namespace Kn
theorem l1Split32(s:ByteArray)(w:World)(hs:s.size≤1099511627776):Calls Tryz.prog 33 #[.string s,.int .u8 32] w fun e w'=>
  ∃ao cap,e=.returned (.slice ao (split 32 s.data.toList).length cap)∧OwnS w.heap.size w' ao cap (split 32 s.data.toList)∧Below w.heap.size w w':=l1Split s 32 w hs
theorem split_pos(c:UInt8)(cur l:List UInt8):0<(splitGo c cur l).length:=by
 induction l generalizing cur with
 | nil=>simp [splitGo]
 | cons x l ih=>rw [splitGo];split <;> simp [ih]
theorem piece_len(c:UInt8)(cur l:List UInt8):∀x∈splitGo c cur l,x.length≤cur.length+l.length:=by
 induction l generalizing cur with
 | nil=>intro x hx;simp [splitGo] at hx;subst hx;simp
 | cons y l ih=>
  intro x hx;rw [splitGo] at hx;split at hx
  ·rcases List.mem_cons.1 hx with rfl | h
   ·simp
   ·have:=ih [] x h;simp at this ⊢;omega
  ·have:=ih (cur++[y]) x hx;simp at this ⊢;omega
theorem split_len(c:UInt8)(cur l:List UInt8):(splitGo c cur l).length≤l.length+1:=by
 induction l generalizing cur with
 | nil=>simp [splitGo]
 | cons y l ih=>
  rw [splitGo];split
  ·have:=ih [];simp;omega
  ·have:=ih (cur++[y]);simp;omega
theorem ownS_cell{base:Nat}{w:World}{ao:Option Addr}{cap:Nat}{L:List (List UInt8)}(h:OwnS base w ao cap L)(j:Nat)(hj:j<L.length):∃g,ao=some ⟨g,0,none⟩∧base≤g∧w.cell? ⟨g,j,none⟩=some (.string (B L[j])):=by
 have hc:=h;obtain⟨_,⟨_,hn⟩ | ⟨g,cap',cur,hv,hB,_⟩⟩:=h
 ·omega
 ·simp only [Value.slice.injEq] at hv;obtain⟨rfl,_,rfl⟩:=hv;refine⟨g,rfl,hB,?_⟩;have:=World.ownsRow.cellAt hc j (by omega);rw [this];simp [hj,S]
end Kn
end
section
namespace De
open Kn (dec B split Reads)
def zeroD:D:=⟨0,⟨#[]⟩,0,0⟩
def ReadsD(s:ByteArray)(d:D)(b:Bool):Prop:=(b=true∧okD d=true∧showD d=s.data.toList)∨(b=false∧d=zeroD∧∀d',okD d'=true→showD d'≠s.data.toList)
def ReadPostD(s:ByteArray)(w:World)(e:Ending)(w':World):Prop:=∃d b,e=.returned (.tuple #[.agg #[.int .i64 d.kind,.string d.key,.int .i64 d.val,.int .i64 d.new],.bool b])∧ReadsD s d b∧Below w.heap.size w w'
theorem reads_unique{s:ByteArray}{d d':D}{b b':Bool}(h:ReadsD s d b)(h':ReadsD s d' b'):d=d'∧b=b':=by
 rcases h with⟨e1,o,q⟩ | ⟨e1,z,q⟩ <;> rcases h' with⟨e2,o',q'⟩ | ⟨e2,z',q'⟩
 ·exact⟨showD_inj o o' (by rw [q,q']),by rw [e1,e2]⟩
 ·exact absurd q (q' d o)
 ·exact absurd q' (q d' o')
 ·exact⟨by rw [z,z'],by rw [e1,e2]⟩
def kindTo(x:List UInt8):Nat→Int
 | 0=>0
 | n+1=>if x=kindW ((n:Int)+1) then (n:Int)+1 else kindTo x n
theorem kindTo_bd(x:List UInt8):∀n:Nat,0≤kindTo x n∧kindTo x n≤n:=by
 intro n;induction n with
 | zero=>exact⟨Int.le_refl _,Int.le_refl _⟩
 | succ n ih=>unfold kindTo;split <;> omega
theorem kindTo_kind{k:Int}(h:1≤k∧k≤4):kindTo (kindW k) 4=k:=by
 have e:k=1∨k=2∨k=3∨k=4:=by omega
 rcases e with rfl | rfl | rfl | rfl <;> rfl
def many(k:Int):Nat:=if k=0 then 0 else if k=2 then 2 else if k=4 then 4 else 3
theorem words_many{d:D}(h:OkD d):(wordsD d).length=many d.kind:=by
 have a:=h.k1;have b:=h.k4;have e:d.kind=1∨d.kind=2∨d.kind=3∨d.kind=4:=by omega
 unfold wordsD many;rcases e with e | e | e | e <;> rw [e] <;> simp
theorem pieces_of{s:ByteArray}{d:D}(h:okD d=true)(q:showD d=s.data.toList):split 32 s.data.toList=wordsD d:=by rw [← q];exact split_show ((okD_iff d).1 h)
theorem no_deed{s:ByteArray}{P:List (List UInt8)}(hP:split 32 s.data.toList=P)(h:kindTo (P.getD 0 []) 4=0∨P.length≠many (kindTo (P.getD 0 []) 4)):∀d',okD d'=true→showD d'≠s.data.toList:=by
 intro d' o q;have e:=pieces_of o q;rw [hP] at e;have o':=(okD_iff d').1 o;have hk:kindTo (P.getD 0 []) 4=d'.kind:=by rw [e];exact kindTo_kind ⟨o'.k1,o'.k4⟩
 rcases h with h | h
 ·have:=o'.k1;omega
 ·rw [hk,e] at h;exact h (words_many o')
theorem the_deed{s:ByteArray}{P:List (List UInt8)}{k v n:Int}{key:ByteArray}(hP:split 32 s.data.toList=P)(hk:kindTo (P.getD 0 []) 4=k)(hkey:key=B (P.getD 1 []))(hv:2<P.length→∃b,Reads (B (P.getD 2 [])) v b)(hv0:¬ 2<P.length→v=0)(hn:3<P.length→∃b,Reads (B (P.getD 3 [])) n b)(hn0:¬ 3<P.length→n=0){d':D}(o:okD d'=true)(q:showD d'=s.data.toList):d'=⟨k,key,v,n⟩:=by
 have e:=pieces_of o q;rw [hP] at e;have o':=(okD_iff d').1 o;have ek:k=d'.kind:=by rw [← hk,e];exact kindTo_kind ⟨o'.k1,o'.k4⟩
 have em:=words_many o';rw [← e] at em;have a1:=o'.k1;have a2:=o'.k4;have b1:=o'.v0;have b2:=o'.v1;have b3:=o'.n0;have b4:=o'.n1;have c1:=o'.cut;have c2:=o'.ifs;obtain⟨k',key',v',n'⟩:=d';dsimp only at *;subst ek;have e1:key=key':=by rw [hkey,e];exact Kn.B_data key'
 subst e1;have ev:v'=v:=by
  by_cases h2:k=2
  ·rw [hv0 (by rw [em,h2];decide),c1 h2]
  ·have hl:2<P.length:=by rw [em];unfold many;rw [if_neg (by omega),if_neg h2];split <;> omega
   obtain⟨b,hR⟩:=hv hl;have e2:P.getD 2 []=dec v'.toNat:=by rw [e];unfold wordsD;simp [h2]
   have:=(hR.2.2 v'.toNat (by omega) (by rw [e2])).1;omega
 have en:n'=n:=by
  by_cases h4:k=4
  ·have hl:3<P.length:=by rw [em,h4];decide
   obtain⟨b,hR⟩:=hn hl;have e2:P.getD 3 []=dec n'.toNat:=by rw [e];unfold wordsD;simp [h4]
   have:=(hR.2.2 n'.toNat (by omega) (by rw [e2])).1;omega
  ·have hl:¬ 3<P.length:=by rw [em];unfold many;rw [if_neg (by omega)];split <;> (try split) <;> omega
   rw [hn0 hl,c2 h4]
 rw [ev,en]
structure TwoD(b x:Nat)(w:World)(k:Int)(s:ByteArray)(v n:Int):Prop where
 bx:b<x
 lt:x<w.heap.size
 r0:w.cell? ⟨b,0,none⟩=some (.int .i64 0)
 r1:w.cell? ⟨b,1,none⟩=some (.string ⟨#[]⟩)
 r2:w.cell? ⟨b,2,none⟩=some (.int .i64 0)
 r3:w.cell? ⟨b,3,none⟩=some (.int .i64 0)
 rf:∀j,w.frozen? ⟨b,j,none⟩=false
 k0:w.cell? ⟨x,0,none⟩=some (.int .i64 k)
 k1:w.cell? ⟨x,1,none⟩=some (.string s)
 k2:w.cell? ⟨x,2,none⟩=some (.int .i64 v)
 k3:w.cell? ⟨x,3,none⟩=some (.int .i64 n)
 kf:∀j,w.frozen? ⟨x,j,none⟩=false
section
variable {b x:Nat} {w:World} {k v n:Int} {s:ByteArray}
theorem TwoD.below{w':World}(t:TwoD b x w k s v n)(hb:Below w.heap.size w w'):TwoD b x w' k s v n:=by
 have l:=t.lt;have l2:=t.bx;have h0:b<w.heap.size:=by omega
 exact⟨l2,Nat.lt_of_lt_of_le l hb.size,(hb.cell (p:=⟨b,0,none⟩) h0).trans t.r0,(hb.cell (p:=⟨b,1,none⟩) h0).trans t.r1,(hb.cell (p:=⟨b,2,none⟩) h0).trans t.r2,(hb.cell (p:=⟨b,3,none⟩) h0).trans t.r3,fun j=>(hb.frozen (p:=⟨b,j,none⟩) h0).trans (t.rf j),(hb.cell (p:=⟨x,0,none⟩) l).trans t.k0,(hb.cell (p:=⟨x,1,none⟩) l).trans t.k1,(hb.cell (p:=⟨x,2,none⟩) l).trans t.k2,(hb.cell (p:=⟨x,3,none⟩) l).trans t.k3,fun j=>(hb.frozen (p:=⟨x,j,none⟩) l).trans (t.kf j)⟩
theorem TwoD.set0(t:TwoD b x w k s v n)(y:Int):TwoD b x (w.setCell ⟨x,0,none⟩ (.int .i64 y)) y s v n:=
 ⟨t.bx,by simpa using t.lt,(World.cell?_setCell_other _ _ _ _ (by have:=t.bx;intro e;injection e with e;omega)).trans t.r0,(World.cell?_setCell_other _ _ _ _ (by have:=t.bx;intro e;injection e with e;omega)).trans t.r1,(World.cell?_setCell_other _ _ _ _ (by have:=t.bx;intro e;injection e with e;omega)).trans t.r2,(World.cell?_setCell_other _ _ _ _ (by have:=t.bx;intro e;injection e with e;omega)).trans t.r3,fun j=>by simpa using t.rf j,World.cell?_setCell_same _ _ _ t.k0,(World.cell?_setCell_other _ _ _ _ (by simp)).trans t.k1,(World.cell?_setCell_other _ _ _ _ (by simp)).trans t.k2,(World.cell?_setCell_other _ _ _ _ (by simp)).trans t.k3,fun j=>by simpa using t.kf j⟩
theorem TwoD.set1(t:TwoD b x w k s v n)(y:ByteArray):TwoD b x (w.setCell ⟨x,1,none⟩ (.string y)) k y v n:=
 ⟨t.bx,by simpa using t.lt,(World.cell?_setCell_other _ _ _ _ (by have:=t.bx;intro e;injection e with e;omega)).trans t.r0,(World.cell?_setCell_other _ _ _ _ (by have:=t.bx;intro e;injection e with e;omega)).trans t.r1,(World.cell?_setCell_other _ _ _ _ (by have:=t.bx;intro e;injection e with e;omega)).trans t.r2,(World.cell?_setCell_other _ _ _ _ (by have:=t.bx;intro e;injection e with e;omega)).trans t.r3,fun j=>by simpa using t.rf j,(World.cell?_setCell_other _ _ _ _ (by simp)).trans t.k0,World.cell?_setCell_same _ _ _ t.k1,(World.cell?_setCell_other _ _ _ _ (by simp)).trans t.k2,(World.cell?_setCell_other _ _ _ _ (by simp)).trans t.k3,fun j=>by simpa using t.kf j⟩
theorem TwoD.set2(t:TwoD b x w k s v n)(y:Int):TwoD b x (w.setCell ⟨x,2,none⟩ (.int .i64 y)) k s y n:=
 ⟨t.bx,by simpa using t.lt,(World.cell?_setCell_other _ _ _ _ (by have:=t.bx;intro e;injection e with e;omega)).trans t.r0,(World.cell?_setCell_other _ _ _ _ (by have:=t.bx;intro e;injection e with e;omega)).trans t.r1,(World.cell?_setCell_other _ _ _ _ (by have:=t.bx;intro e;injection e with e;omega)).trans t.r2,(World.cell?_setCell_other _ _ _ _ (by have:=t.bx;intro e;injection e with e;omega)).trans t.r3,fun j=>by simpa using t.rf j,(World.cell?_setCell_other _ _ _ _ (by simp)).trans t.k0,(World.cell?_setCell_other _ _ _ _ (by simp)).trans t.k1,World.cell?_setCell_same _ _ _ t.k2,(World.cell?_setCell_other _ _ _ _ (by simp)).trans t.k3,fun j=>by simpa using t.kf j⟩
theorem TwoD.set3(t:TwoD b x w k s v n)(y:Int):TwoD b x (w.setCell ⟨x,3,none⟩ (.int .i64 y)) k s v y:=
 ⟨t.bx,by simpa using t.lt,(World.cell?_setCell_other _ _ _ _ (by have:=t.bx;intro e;injection e with e;omega)).trans t.r0,(World.cell?_setCell_other _ _ _ _ (by have:=t.bx;intro e;injection e with e;omega)).trans t.r1,(World.cell?_setCell_other _ _ _ _ (by have:=t.bx;intro e;injection e with e;omega)).trans t.r2,(World.cell?_setCell_other _ _ _ _ (by have:=t.bx;intro e;injection e with e;omega)).trans t.r3,fun j=>by simpa using t.rf j,(World.cell?_setCell_other _ _ _ _ (by simp)).trans t.k0,(World.cell?_setCell_other _ _ _ _ (by simp)).trans t.k1,(World.cell?_setCell_other _ _ _ _ (by simp)).trans t.k2,World.cell?_setCell_same _ _ _ t.k3,fun j=>by simpa using t.kf j⟩
end
theorem zd_new(w:World)(t:TypeId):w.heap.size<(w.alloc (.cells #[.int .i64 0,.string ⟨#[]⟩,.int .i64 0,.int .i64 0] t)).heap.size∧(w.alloc (.cells #[.int .i64 0,.string ⟨#[]⟩,.int .i64 0,.int .i64 0] t)).cell? ⟨w.heap.size,0,none⟩=some (.int .i64 0)∧(w.alloc (.cells #[.int .i64 0,.string ⟨#[]⟩,.int .i64 0,.int .i64 0] t)).cell? ⟨w.heap.size,1,none⟩=some (.string ⟨#[]⟩)∧(w.alloc (.cells #[.int .i64 0,.string ⟨#[]⟩,.int .i64 0,.int .i64 0] t)).cell? ⟨w.heap.size,2,none⟩=some (.int .i64 0)∧(w.alloc (.cells #[.int .i64 0,.string ⟨#[]⟩,.int .i64 0,.int .i64 0] t)).cell? ⟨w.heap.size,3,none⟩=some (.int .i64 0)∧(∀j,(w.alloc (.cells #[.int .i64 0,.string ⟨#[]⟩,.int .i64 0,.int .i64 0] t)).frozen? ⟨w.heap.size,j,none⟩=false):=⟨by simp,by simp,by simp,by simp,by simp,fun j=>by simp⟩
end De
end
section
namespace De
open Kn (dec B split Reads OwnS)
structure RSt(w wr:World)(g x:Nat)(P:List (List UInt8))(k:Int)(s:ByteArray)(v n:Int):Prop where
 bel:Below w.heap.size w wr
 two:TwoD w.heap.size x wr k s v n
 gx:g<x
 wg:w.heap.size<g
 cells:∀j,j<P.length→wr.cell? ⟨g,j,none⟩=some (.string (B (P.getD j [])))
section
variable {w wr:World} {g x:Nat} {P:List (List UInt8)} {k v n:Int} {s:ByteArray}
theorem RSt.below{V:World}(t:RSt w wr g x P k s v n)(hb:Below wr.heap.size wr V):RSt w V g x P k s v n:=
 ⟨t.bel.trans (hb.mono t.bel.size),t.two.below hb,t.gx,t.wg,fun j hj=>(hb.cell (p:=⟨g,j,none⟩) (Nat.lt_trans t.gx t.two.lt)).trans (t.cells j hj)⟩
theorem RSt.put(t:RSt w wr g x P k s v n){k' v' n':Int}{s':ByteArray}(i:Nat)(u:Value)(h:TwoD w.heap.size x (wr.setCell ⟨x,i,none⟩ u) k' s' v' n'):RSt w (wr.setCell ⟨x,i,none⟩ u) g x P k' s' v' n':=
 ⟨t.bel.setCell (p:=⟨x,i,none⟩) (by have:=t.two.bx;show w.heap.size≤x;omega) _,h,t.gx,t.wg,fun j hj=>(World.cell?_setCell_other _ _ _ _ (by have:=t.gx;intro e;injection e with e;omega)).trans (t.cells j hj)⟩
theorem RSt.drew(t:RSt w wr g x P k s v n):RSt w wr.drew g x P k s v n:=t.below (Below.refl _ _).drew
theorem RSt.alloc(t:RSt w wr g x P k s v n)(o:Obj):RSt w (wr.alloc o) g x P k s v n:=t.below ((Below.refl _ _).alloc (Nat.le_refl _) o)
end
theorem kindTo_succ(x:List UInt8)(n:Nat):kindTo x (n+1)=if x=kindW ((n:Int)+1) then (n:Int)+1 else kindTo x n:=rfl
theorem put4D{w:World}{b:Nat}{u0 u1 u2 u3:Value}(r0:w.cell? ⟨b,0,none⟩=some u0)(r1:w.cell? ⟨b,1,none⟩=some u1)(r2:w.cell? ⟨b,2,none⟩=some u2)(r3:w.cell? ⟨b,3,none⟩=some u3)(v0 v1 v2 v3:Value) :
  ((((w.setCell ⟨b,0,none⟩ v0).setCell ⟨b,1,none⟩ v1).setCell ⟨b,2,none⟩ v2).setCell ⟨b,3,none⟩ v3).cell? ⟨b,0,none⟩=some v0 ∧
  ((((w.setCell ⟨b,0,none⟩ v0).setCell ⟨b,1,none⟩ v1).setCell ⟨b,2,none⟩ v2).setCell ⟨b,3,none⟩ v3).cell? ⟨b,1,none⟩=some v1 ∧
  ((((w.setCell ⟨b,0,none⟩ v0).setCell ⟨b,1,none⟩ v1).setCell ⟨b,2,none⟩ v2).setCell ⟨b,3,none⟩ v3).cell? ⟨b,2,none⟩=some v2 ∧
  ((((w.setCell ⟨b,0,none⟩ v0).setCell ⟨b,1,none⟩ v1).setCell ⟨b,2,none⟩ v2).setCell ⟨b,3,none⟩ v3).cell? ⟨b,3,none⟩=some v3:=by
 refine⟨?_,?_,?_,?_⟩
 ·rw [World.cell?_setCell_other _ _ _ _ (by simp),World.cell?_setCell_other _ _ _ _ (by simp),World.cell?_setCell_other _ _ _ _ (by simp)];exact World.cell?_setCell_same _ _ _ r0
 ·rw [World.cell?_setCell_other _ _ _ _ (by simp),World.cell?_setCell_other _ _ _ _ (by simp)];exact World.cell?_setCell_same _ _ _ ((World.cell?_setCell_other _ _ _ _ (by simp)).trans r1)
 ·rw [World.cell?_setCell_other _ _ _ _ (by simp)];exact World.cell?_setCell_same _ _ _ ((World.cell?_setCell_other _ _ _ _ (by simp)).trans ((World.cell?_setCell_other _ _ _ _ (by simp)).trans r2))
 ·exact World.cell?_setCell_same _ _ _ ((World.cell?_setCell_other _ _ _ _ (by simp)).trans ((World.cell?_setCell_other _ _ _ _ (by simp)).trans ((World.cell?_setCell_other _ _ _ _ (by simp)).trans r3)))
theorem put4B{w V:World}(h:Below w.heap.size w V)(v0 v1 v2 v3:Value):Below w.heap.size w ((((V.setCell ⟨w.heap.size,0,none⟩ v0).setCell ⟨w.heap.size,1,none⟩ v1).setCell ⟨w.heap.size,2,none⟩ v2).setCell ⟨w.heap.size,3,none⟩ v3):=
 (((h.setCell (p:=⟨w.heap.size,0,none⟩) (Nat.le_refl _) _).setCell (p:=⟨w.heap.size,1,none⟩) (Nat.le_refl _) _).setCell (p:=⟨w.heap.size,2,none⟩) (Nat.le_refl _) _).setCell (p:=⟨w.heap.size,3,none⟩) (Nat.le_refl _) _
theorem specReadDeed(s:ByteArray)(w:World)(hs:s.size≤1073741824):Calls Tryz.prog 12 #[.string s] w (ReadPostD s w):=by
 have hz:=zd_new w 34;have HB0:Hid (Below w.heap.size w (w.alloc (.cells #[.int .i64 0,.string ⟨#[]⟩,.int .i64 0,.int .i64 0] 34))):=(Below.refl _ _).alloc (Nat.le_refl _) _;generalize hv:w.alloc (.cells #[.int .i64 0,.string ⟨#[]⟩,.int .i64 0,.int .i64 0] 34)=W0 at hz HB0;have HV:Hid (w.alloc (.cells #[.int .i64 0,.string ⟨#[]⟩,.int .i64 0,.int .i64 0] 34)=W0):=hv;have HZ:Hid (_):=hz;have hsp:=Kn.l1Split32 s W0 (by omega);obtain⟨P,hP⟩:∃P,split 32 s.data.toList=P:=⟨_,rfl⟩
 have hp0:0<P.length:=by rw [← hP];exact Kn.split_pos 32 [] _
 have hpl:P.length≤1073741825:=by rw [← hP];have:=Kn.split_len 32 [] s.data.toList;unfold Kn.split;simp at this ⊢;omega
 have hpe:Hid (∀j,(P.getD j []).length≤1073741824):=fun j=>by
   by_cases hj:j<P.length
   · have := Kn.piece_len 32 [] s.data.toList (P.getD j []) (by
       have e:P.getD j []=P[j]:=by simp [List.getD,List.getElem?_eq_getElem hj]
       rw [e];have:P[j]∈P:=List.getElem_mem hj;rw [show Kn.splitGo 32 [] s.data.toList=P from hP];exact this)
     have h2:s.data.toList.length=s.size:=by simp
     simp only [List.length_nil] at this;omega
   · simp [List.getD,List.getElem?_eq_none (Nat.le_of_not_lt hj)]
 rw [hP] at hsp;have HP:Hid (split 32 s.data.toList=P):=hP;clear hv hz hP;go_enter Tryz.func12,Tryz.ntmps12
 go_wp2_with fail
 rw [HV.out];clear HV;go_wp2_with fail
 refine hsp.mono ?_;rintro e w1 ⟨ao,ca,rfl,hown,hb1⟩;clear hsp;obtain⟨g,rfl,hg,hlt,hcs⟩:∃g,ao=some ⟨g,0,none⟩∧W0.heap.size≤g∧g<w1.heap.size∧∀j,j<P.length→w1.cell? ⟨g,j,none⟩=some (.string (B (P.getD j []))):=by
   obtain⟨g,e,h1,h2⟩:=Kn.ownS_cell hown 0 hp0;refine⟨g,e,h1,(World.ownsRow.lt hown g (by rw [e];rfl)).2,fun j hj=>?_⟩;obtain⟨g',e',_,h3⟩:=Kn.ownS_cell hown j hj;rw [e] at e';injection e' with e';injection e' with e';subst e';rw [h3];simp [List.getD,List.getElem?_eq_getElem hj]
 have HR:Hid (RSt w (w1.alloc (.cells #[.int .i64 0,.string ⟨#[]⟩,.int .i64 0,.int .i64 0] 34)) g w1.heap.size P 0 ⟨#[]⟩ 0 0):=by
   obtain⟨z0,z1,z2,z3,z4,z5⟩:=HZ.out;have hb2:Below W0.heap.size W0 (w1.alloc (.cells #[.int .i64 0,.string ⟨#[]⟩,.int .i64 0,.int .i64 0] 34)):=hb1.alloc hb1.size _;obtain⟨y0,y1,y2,y3,y4,y5⟩:=zd_new w1 34;exact⟨HB0.out.trans (hb2.mono HB0.out.size),⟨by have:=hb1.size;omega,y0,(hb2.cell (p:=⟨w.heap.size,0,none⟩) z0).trans z1,(hb2.cell (p:=⟨w.heap.size,1,none⟩) z0).trans z2,(hb2.cell (p:=⟨w.heap.size,2,none⟩) z0).trans z3,(hb2.cell (p:=⟨w.heap.size,3,none⟩) z0).trans z4,fun j=>(hb2.frozen (p:=⟨w.heap.size,j,none⟩) z0).trans (z5 j),y1,y2,y3,y4,y5⟩,hlt,by omega,fun j hj=>(World.cell?_alloc_lt _ _ ⟨g,j,none⟩ hlt).trans (hcs j hj)⟩
 clear hown hb1 HZ HB0 hg hlt hcs;go_upto_region 3 with fail
 generalize w1.alloc (.cells #[.int .i64 0,.string ⟨#[]⟩,.int .i64 0,.int .i64 0] 34)=W2 at HR ⊢;generalize w1.heap.size=x at HR ⊢;have hpi:(0:Int)<(P.length:Int):=by omega
 go_wp2_with fail
 go_loopw [6] (fun iv wr=>∃j:Nat,j≤4∧iv=.int .i64 j∧Hid (RSt w wr g x P (kindTo (P.getD 0 []) j) ⟨#[]⟩ 0 0)) (fun iv _=>4-(intOf iv).toNat)
 case atStart=>exact⟨0,by omega,rfl,HR⟩
 case round=>
   clear HR;obtain⟨j,hj,rfl,HR⟩:=hrel;by_cases hj4:j<4
   · have hji:(j:Int)<4:=by omega
     rcases(show j=0∨j=1∨j=2∨j=3 by omega) with rfl | rfl | rfl | rfl
     · have c0:=HR.out.cells 0 hp0;have ca:=(HR.out.alloc (.cells #[.string ⟨#[112,117,116]⟩,.string ⟨#[99,117,116]⟩,.string ⟨#[97,100,100]⟩,.string ⟨#[105,102]⟩] 9)).cells 0 hp0;have HRV:Hid (RSt w ((wr.alloc (.cells #[.string ⟨#[112,117,116]⟩,.string ⟨#[99,117,116]⟩,.string ⟨#[97,100,100]⟩,.string ⟨#[105,102]⟩] 9)).drew) g x P (kindTo (P.getD 0 []) 0) ⟨#[]⟩ 0 0):=(HR.out.alloc _).drew;rw [show((0:Nat):Int)=0 from rfl];by_cases hx:P.getD 0 []=kindW 1
       · have HK:Hid (kindTo (P.getD 0 []) (1)=1):=((kindTo_succ _ 0).trans (if_pos hx)).trans rfl;have hb:((B (P.getD 0 [])).toList == [112,117,116])=true:=by rw [Kn.B_list,hx];rfl
         generalize B (P.getD 0 [])=bp at c0 ca hb;clear hx HR;go_wp2_with fail
         go_region
         generalize (wr.alloc (.cells #[.string ⟨#[112,117,116]⟩,.string ⟨#[99,117,116]⟩,.string ⟨#[97,100,100]⟩,.string ⟨#[105,102]⟩] 9)).drew=V at HRV ⊢;have k0:=HRV.out.two.k0;have f0:=HRV.out.two.kf 0;have HRN:Hid (RSt w (V.setCell ⟨x,0,none⟩ (.int .i64 (1))) g x P (kindTo (P.getD 0 []) (1)) ⟨#[]⟩ 0 0):=by show RSt _ _ _ _ _ _ _ _ _;rw [HK.out];exact HRV.out.put 0 _ (HRV.out.two.set0 (1))
         generalize kindTo (P.getD 0 []) 0=kj at k0;go_wp2;go_roundw
         case rel=>exact⟨1,by omega,by first | rfl | go_num,HRN⟩
         case measure=>simp [intOf]
       · have HK:Hid (kindTo (P.getD 0 []) (1)=kindTo (P.getD 0 []) 0):=(kindTo_succ _ 0).trans (if_neg hx);have hb:((B (P.getD 0 [])).toList == [112,117,116])=false:=by rw [Kn.B_list,beq_eq_false_iff_ne];exact hx
         generalize B (P.getD 0 [])=bp at c0 ca hb;clear hx HR;go_wp2_with fail
         go_region
         generalize (wr.alloc (.cells #[.string ⟨#[112,117,116]⟩,.string ⟨#[99,117,116]⟩,.string ⟨#[97,100,100]⟩,.string ⟨#[105,102]⟩] 9)).drew=V at HRV ⊢;have HRN:Hid (RSt w V g x P (kindTo (P.getD 0 []) (1)) ⟨#[]⟩ 0 0):=by show RSt _ _ _ _ _ _ _ _ _;rw [HK.out];exact HRV.out
         go_wp2;go_roundw
         case rel=>exact⟨1,by omega,by first | rfl | go_num,HRN⟩
         case measure=>simp [intOf]
     · have c0:=HR.out.cells 0 hp0;have ca:=(HR.out.alloc (.cells #[.string ⟨#[112,117,116]⟩,.string ⟨#[99,117,116]⟩,.string ⟨#[97,100,100]⟩,.string ⟨#[105,102]⟩] 9)).cells 0 hp0;have HRV:Hid (RSt w ((wr.alloc (.cells #[.string ⟨#[112,117,116]⟩,.string ⟨#[99,117,116]⟩,.string ⟨#[97,100,100]⟩,.string ⟨#[105,102]⟩] 9)).drew) g x P (kindTo (P.getD 0 []) 1) ⟨#[]⟩ 0 0):=(HR.out.alloc _).drew;rw [show((1:Nat):Int)=1 from rfl];by_cases hx:P.getD 0 []=kindW 2
       · have HK:Hid (kindTo (P.getD 0 []) (2)=2):=((kindTo_succ _ 1).trans (if_pos hx)).trans rfl;have hb:((B (P.getD 0 [])).toList == [99,117,116])=true:=by rw [Kn.B_list,hx];rfl
         generalize B (P.getD 0 [])=bp at c0 ca hb;clear hx HR;go_wp2_with fail
         go_region
         generalize (wr.alloc (.cells #[.string ⟨#[112,117,116]⟩,.string ⟨#[99,117,116]⟩,.string ⟨#[97,100,100]⟩,.string ⟨#[105,102]⟩] 9)).drew=V at HRV ⊢;have k0:=HRV.out.two.k0;have f0:=HRV.out.two.kf 0;have HRN:Hid (RSt w (V.setCell ⟨x,0,none⟩ (.int .i64 (2))) g x P (kindTo (P.getD 0 []) (2)) ⟨#[]⟩ 0 0):=by show RSt _ _ _ _ _ _ _ _ _;rw [HK.out];exact HRV.out.put 0 _ (HRV.out.two.set0 (2))
         generalize kindTo (P.getD 0 []) 1=kj at k0;go_wp2;go_roundw
         case rel=>exact⟨2,by omega,by first | rfl | go_num,HRN⟩
         case measure=>simp [intOf]
       · have HK:Hid (kindTo (P.getD 0 []) (2)=kindTo (P.getD 0 []) 1):=(kindTo_succ _ 1).trans (if_neg hx);have hb:((B (P.getD 0 [])).toList == [99,117,116])=false:=by rw [Kn.B_list,beq_eq_false_iff_ne];exact hx
         generalize B (P.getD 0 [])=bp at c0 ca hb;clear hx HR;go_wp2_with fail
         go_region
         generalize (wr.alloc (.cells #[.string ⟨#[112,117,116]⟩,.string ⟨#[99,117,116]⟩,.string ⟨#[97,100,100]⟩,.string ⟨#[105,102]⟩] 9)).drew=V at HRV ⊢;have HRN:Hid (RSt w V g x P (kindTo (P.getD 0 []) (2)) ⟨#[]⟩ 0 0):=by show RSt _ _ _ _ _ _ _ _ _;rw [HK.out];exact HRV.out
         go_wp2;go_roundw
         case rel=>exact⟨2,by omega,by first | rfl | go_num,HRN⟩
         case measure=>simp [intOf]
     · have c0:=HR.out.cells 0 hp0;have ca:=(HR.out.alloc (.cells #[.string ⟨#[112,117,116]⟩,.string ⟨#[99,117,116]⟩,.string ⟨#[97,100,100]⟩,.string ⟨#[105,102]⟩] 9)).cells 0 hp0;have HRV:Hid (RSt w ((wr.alloc (.cells #[.string ⟨#[112,117,116]⟩,.string ⟨#[99,117,116]⟩,.string ⟨#[97,100,100]⟩,.string ⟨#[105,102]⟩] 9)).drew) g x P (kindTo (P.getD 0 []) 2) ⟨#[]⟩ 0 0):=(HR.out.alloc _).drew;rw [show((2:Nat):Int)=2 from rfl];by_cases hx:P.getD 0 []=kindW 3
       · have HK:Hid (kindTo (P.getD 0 []) (3)=3):=((kindTo_succ _ 2).trans (if_pos hx)).trans rfl;have hb:((B (P.getD 0 [])).toList == [97,100,100])=true:=by rw [Kn.B_list,hx];rfl
         generalize B (P.getD 0 [])=bp at c0 ca hb;clear hx HR;go_wp2_with fail
         go_region
         generalize (wr.alloc (.cells #[.string ⟨#[112,117,116]⟩,.string ⟨#[99,117,116]⟩,.string ⟨#[97,100,100]⟩,.string ⟨#[105,102]⟩] 9)).drew=V at HRV ⊢;have k0:=HRV.out.two.k0;have f0:=HRV.out.two.kf 0;have HRN:Hid (RSt w (V.setCell ⟨x,0,none⟩ (.int .i64 (3))) g x P (kindTo (P.getD 0 []) (3)) ⟨#[]⟩ 0 0):=by show RSt _ _ _ _ _ _ _ _ _;rw [HK.out];exact HRV.out.put 0 _ (HRV.out.two.set0 (3))
         generalize kindTo (P.getD 0 []) 2=kj at k0;go_wp2;go_roundw
         case rel=>exact⟨3,by omega,by first | rfl | go_num,HRN⟩
         case measure=>simp [intOf]
       · have HK:Hid (kindTo (P.getD 0 []) (3)=kindTo (P.getD 0 []) 2):=(kindTo_succ _ 2).trans (if_neg hx);have hb:((B (P.getD 0 [])).toList == [97,100,100])=false:=by rw [Kn.B_list,beq_eq_false_iff_ne];exact hx
         generalize B (P.getD 0 [])=bp at c0 ca hb;clear hx HR;go_wp2_with fail
         go_region
         generalize (wr.alloc (.cells #[.string ⟨#[112,117,116]⟩,.string ⟨#[99,117,116]⟩,.string ⟨#[97,100,100]⟩,.string ⟨#[105,102]⟩] 9)).drew=V at HRV ⊢;have HRN:Hid (RSt w V g x P (kindTo (P.getD 0 []) (3)) ⟨#[]⟩ 0 0):=by show RSt _ _ _ _ _ _ _ _ _;rw [HK.out];exact HRV.out
         go_wp2;go_roundw
         case rel=>exact⟨3,by omega,by first | rfl | go_num,HRN⟩
         case measure=>simp [intOf]
     · have c0:=HR.out.cells 0 hp0;have ca:=(HR.out.alloc (.cells #[.string ⟨#[112,117,116]⟩,.string ⟨#[99,117,116]⟩,.string ⟨#[97,100,100]⟩,.string ⟨#[105,102]⟩] 9)).cells 0 hp0;have HRV:Hid (RSt w ((wr.alloc (.cells #[.string ⟨#[112,117,116]⟩,.string ⟨#[99,117,116]⟩,.string ⟨#[97,100,100]⟩,.string ⟨#[105,102]⟩] 9)).drew) g x P (kindTo (P.getD 0 []) 3) ⟨#[]⟩ 0 0):=(HR.out.alloc _).drew;rw [show((3:Nat):Int)=3 from rfl];by_cases hx:P.getD 0 []=kindW 4
       · have HK:Hid (kindTo (P.getD 0 []) (4)=4):=((kindTo_succ _ 3).trans (if_pos hx)).trans rfl;have hb:((B (P.getD 0 [])).toList == [105,102])=true:=by rw [Kn.B_list,hx];rfl
         generalize B (P.getD 0 [])=bp at c0 ca hb;clear hx HR;go_wp2_with fail
         go_region
         generalize (wr.alloc (.cells #[.string ⟨#[112,117,116]⟩,.string ⟨#[99,117,116]⟩,.string ⟨#[97,100,100]⟩,.string ⟨#[105,102]⟩] 9)).drew=V at HRV ⊢;have k0:=HRV.out.two.k0;have f0:=HRV.out.two.kf 0;have HRN:Hid (RSt w (V.setCell ⟨x,0,none⟩ (.int .i64 (4))) g x P (kindTo (P.getD 0 []) (4)) ⟨#[]⟩ 0 0):=by show RSt _ _ _ _ _ _ _ _ _;rw [HK.out];exact HRV.out.put 0 _ (HRV.out.two.set0 (4))
         generalize kindTo (P.getD 0 []) 3=kj at k0;go_wp2;go_roundw
         case rel=>exact⟨4,by omega,by first | rfl | go_num,HRN⟩
         case measure=>simp [intOf]
       · have HK:Hid (kindTo (P.getD 0 []) (4)=kindTo (P.getD 0 []) 3):=(kindTo_succ _ 3).trans (if_neg hx);have hb:((B (P.getD 0 [])).toList == [105,102])=false:=by rw [Kn.B_list,beq_eq_false_iff_ne];exact hx
         generalize B (P.getD 0 [])=bp at c0 ca hb;clear hx HR;go_wp2_with fail
         go_region
         generalize (wr.alloc (.cells #[.string ⟨#[112,117,116]⟩,.string ⟨#[99,117,116]⟩,.string ⟨#[97,100,100]⟩,.string ⟨#[105,102]⟩] 9)).drew=V at HRV ⊢;have HRN:Hid (RSt w V g x P (kindTo (P.getD 0 []) (4)) ⟨#[]⟩ 0 0):=by show RSt _ _ _ _ _ _ _ _ _;rw [HK.out];exact HRV.out
         go_wp2;go_roundw
         case rel=>exact⟨4,by omega,by first | rfl | go_num,HRN⟩
         case measure=>simp [intOf]
   · obtain rfl:j=4:=by omega
     clear hj hj4;obtain⟨k,hk⟩:∃k,kindTo (P.getD 0 []) 4=k:=⟨_,rfl⟩
     have hkb:=kindTo_bd (P.getD 0 []) 4;rw [hk] at HR hkb;have HK:Hid (kindTo (P.getD 0 []) 4=k):=hk;have HNO:Hid (k=0∨P.length≠many k→∀d',okD d'=true→showD d'≠s.data.toList):=fun h=>no_deed HP.out (by rw [hk];exact h)
     clear hk;have HDE:Hid (∀(v n:Int),(2<P.length→∃b,Reads (B (P.getD 2 [])) v b)→(¬ 2<P.length→v=0)→(3<P.length→∃b,Reads (B (P.getD 3 [])) n b)→(¬ 3<P.length→n=0)→∀d',okD d'=true→showD d'=s.data.toList→d'=⟨k,B (P.getD 1 []),v,n⟩):=fun v n h1 h2 h3 h4 d' o q=>the_deed HP.out HK.out rfl h1 h2 h3 h4 o q
     have HZE:Hid (∀(V:World) (k':Int) (s':ByteArray) (v' n':Int),RSt w V g x P k' s' v' n'→(∀d',okD d'=true→showD d'≠s.data.toList)→(∃W4,W4=((((V.setCell ⟨w.heap.size,0,none⟩ (.int .i64 0)).setCell ⟨w.heap.size,1,none⟩ (.string ⟨#[]⟩)).setCell ⟨w.heap.size,2,none⟩ (.int .i64 0)).setCell ⟨w.heap.size,3,none⟩ (.int .i64 0))∧W4.cell? ⟨w.heap.size,0,none⟩=some (.int .i64 0)∧W4.cell? ⟨w.heap.size,1,none⟩=some (.string ⟨#[]⟩)∧W4.cell? ⟨w.heap.size,2,none⟩=some (.int .i64 0)∧W4.cell? ⟨w.heap.size,3,none⟩=some (.int .i64 0)∧ReadPostD s w (.returned (.tuple #[.agg #[.int .i64 0,.string ⟨#[]⟩,.int .i64 0,.int .i64 0],.bool false])) W4)):=fun V k' s' v' n' h hb=>by
       obtain⟨q0,q1,q2,q3⟩:=put4D h.two.r0 h.two.r1 h.two.r2 h.two.r3 (.int .i64 0) (.string ⟨#[]⟩) (.int .i64 0) (.int .i64 0);exact⟨_,rfl,q0,q1,q2,q3,zeroD,false,rfl,.inr ⟨rfl,rfl,hb⟩,put4B h.bel _ _ _ _⟩
     rcases(show k=0∨k=1∨k=2∨k=3∨k=4 by omega) with rfl | rfl | rfl | rfl | rfl
     · have k0:=HR.out.two.k0;have HB:=(HNO.out (.inl rfl))
       obtain⟨W4,hW4,q0,q1,q2,q3,HPO⟩:=HZE.out _ _ _ _ _ HR.out HB;obtain⟨_,_,r0,r1,r2,r3,rf,_⟩:=HR.out.two;have rf0:=rf 0;have rf1:=rf 1;have rf2:=rf 2;have rf3:=rf 3;have HPH:Hid (ReadPostD s w (.returned (.tuple #[.agg #[.int .i64 0,.string ⟨#[]⟩,.int .i64 0,.int .i64 0],.bool false])) W4):=HPO;have HW4:Hid (W4=_):=hW4;clear HPO hW4 rf;go_wp2;rw [← HW4.out];refine bodyPost_ret (v:=.tuple #[.agg #[.int .i64 0,.string ⟨#[]⟩,.int .i64 0,.int .i64 0],.bool false]) (by simp [results,Tryz.f12,go_sem,q0,q1,q2,q3]) rfl ?_;exact HPH.out
     · have k0:=HR.out.two.k0;have HR1:Hid (RSt w (wr.alloc (.cells #[.int .i64 0,.int .i64 3,.int .i64 2,.int .i64 3,.int .i64 4] 3)) g x P 1 ⟨#[]⟩ 0 0):=HR.out.alloc _;have ka:=HR1.out.two.k0;by_cases hm:P.length=3
       · have hne:((P.length:Int) != 3)=false:=by rw [hm];rfl
         have c1:=HR1.out.cells 1 (by omega);have kf1:=HR1.out.two.kf 1;have k1:=HR1.out.two.k1;have hl1:(1:Int)<(P.length:Int):=by omega
         have g2:(2:Int)<(P.length:Int):=by omega
         have g3:¬ (3:Int)<(P.length:Int):=by omega
         have hks:(B (P.getD 1 [])).size≤1099511627776:=by have:=hpe.out 1;rw [Kn.B_size];omega
         have HR2:Hid (RSt w ((wr.alloc (.cells #[.int .i64 0,.int .i64 3,.int .i64 2,.int .i64 3,.int .i64 4] 3)).setCell ⟨x,1,none⟩ (.string (B (P.getD 1 [])))) g x P 1 (B (P.getD 1 [])) 0 0):=HR1.out.put 1 _ (HR1.out.two.set1 _);have HM:Hid (P.length=3):=hm;clear hm HNO HR;generalize hkb2:B (P.getD 1 [])=key at c1 HR2 HDE hks;clear hkb2;go_upto_region 12 with fail
         generalize (wr.alloc (.cells #[.int .i64 0,.int .i64 3,.int .i64 2,.int .i64 3,.int .i64 4] 3)).setCell ⟨x,1,none⟩ (.string key)=V2 at HR2 ⊢;clear HR1 c1 kf1 k1 ka k0;have c2:=HR2.out.cells 2 (by have:=HM.out;omega);have kf2:=HR2.out.two.kf 2;have k2:=HR2.out.two.k2;have hrd2:=Kn.l1Read (B (P.getD 2 [])) V2 (by have:=hpe.out 2;rw [Kn.B_size];omega);generalize hbq2:B (P.getD 2 [])=bq2 at c2 hrd2;have HBQ2:Hid (B (P.getD 2 [])=bq2):=hbq2;clear hbq2;go_wp2_with fail
         refine hrd2.mono ?_;rintro e w' ⟨v,rb2,rfl,hR2,rfl⟩;have HRE2:Hid (Reads (B (P.getD 2 [])) v rb2):=by show Reads _ _ _;rw [HBQ2.out];exact hR2
         have HR3:Hid (RSt w (V2.setCell ⟨x,2,none⟩ (.int .i64 v)) g x P 1 key v 0):=HR2.out.put 2 _ (HR2.out.two.set2 v);clear hrd2 hR2;go_upto_region 15 with fail
         generalize V2.setCell ⟨x,2,none⟩ (.int .i64 v)=V3 at HR3 ⊢;clear HR2 c2 kf2 k2;have HTD:Hid (∀d',okD d'=true→showD d'=s.data.toList→d'=(⟨1,key,v,0⟩:D)):=HDE.out v 0 (fun _=>⟨_,HRE2.out⟩) (fun h=>absurd (by have:=HM.out;omega) h) (fun h=>absurd h (by have:=HM.out;omega)) (fun _=>rfl);have hok:=specDeedOk 1 key v 0 V3 hks;obtain⟨_,_,_,_,_,_,_,k0,k1,k2,k3,_⟩:=HR3.out.two;clear HDE;go_wp2_with fail
         refine hok.mono ?_;rintro e w5 ⟨rfl,hb5⟩;have HR5:Hid (RSt w w5 g x P 1 key v 0):=HR3.out.below hb5;clear hok hb5 k0 k1 k2 k3
         cases ho:okD (⟨1,key,v,0⟩:D)
         · have HB:∀d',okD d'=true→showD d'≠s.data.toList:=fun d' o q=>by
             have:=HTD.out d' o q;rw [this,ho] at o;cases o
           clear ho HTD;obtain⟨W4,hW4,q0,q1,q2,q3,HPO⟩:=HZE.out _ _ _ _ _ HR5.out HB;obtain⟨_,_,r0,r1,r2,r3,rf,_⟩:=HR5.out.two;have rf0:=rf 0;have rf1:=rf 1;have rf2:=rf 2;have rf3:=rf 3;have HPH:Hid (ReadPostD s w (.returned (.tuple #[.agg #[.int .i64 0,.string ⟨#[]⟩,.int .i64 0,.int .i64 0],.bool false])) W4):=HPO;have HW4:Hid (W4=_):=hW4;clear HPO hW4 rf;go_wp2;rw [← HW4.out];refine bodyPost_ret (v:=.tuple #[.agg #[.int .i64 0,.string ⟨#[]⟩,.int .i64 0,.int .i64 0],.bool false]) (by simp [results,Tryz.f12,go_sem,q0,q1,q2,q3]) rfl ?_;exact HPH.out
         · have hsh:=l16ShowD (⟨1,key,v,0⟩:D) w5 ho;obtain⟨_,_,_,_,_,_,_,k0,k1,k2,k3,_⟩:=HR5.out.two;have HOK:Hid (okD (⟨1,key,v,0⟩:D)=true):=ho;clear ho;go_wp2_with fail
           refine hsh.mono ?_;rintro e w6 ⟨rfl,hb6⟩;have HR6:Hid (RSt w w6 g x P 1 key v 0):=HR5.out.below hb6;clear hsh hb6 k0 k1 k2 k3;by_cases heq:showD (⟨1,key,v,0⟩:D)=s.data.toList
           · have hsb:((B (showD (⟨1,key,v,0⟩:D))).toList != s.toList)=false:=by
               rw [Kn.B_list,heq,ByteArray.toList_eq];simp
             have hsb2:((B (showD (⟨1,key,v,0⟩:D))).toList == s.toList)=true:=by
               rw [Kn.B_list,heq,ByteArray.toList_eq];simp
             have HE:Hid (showD (⟨1,key,v,0⟩:D)=s.data.toList):=heq;generalize B (showD (⟨1,key,v,0⟩:D))=sd at hsb hsb2;clear heq HTD;obtain⟨_,_,r0,r1,r2,r3,rf,k0,k1,k2,k3,_⟩:=HR6.out.two;have rf0:=rf 0;have rf1:=rf 1;have rf2:=rf 2;have rf3:=rf 3;clear rf;have HQ:Hid (_):=put4D r0 r1 r2 r3 (.int .i64 1) (.string key) (.int .i64 v) (.int .i64 0);have HBE:Hid (_):=put4B HR6.out.bel (.int .i64 1) (.string key) (.int .i64 v) (.int .i64 0);go_wp2;obtain⟨q0,q1,q2,q3⟩:=HQ.out;refine bodyPost_ret (v:=.tuple #[.agg #[.int .i64 1,.string key,.int .i64 v,.int .i64 0],.bool true]) (by simp [results,Tryz.f12,go_sem,q0,q1,q2,q3]) rfl ?_;exact⟨⟨1,key,v,0⟩,true,rfl,.inl ⟨rfl,HOK.out,HE.out⟩,HBE.out⟩
           · have hsb:((B (showD (⟨1,key,v,0⟩:D))).toList != s.toList)=true:=by
               rw [bne_iff_ne,Kn.B_list,ByteArray.toList_eq];exact heq
             have hsb2:((B (showD (⟨1,key,v,0⟩:D))).toList == s.toList)=false:=by
               rw [beq_eq_false_iff_ne,Kn.B_list,ByteArray.toList_eq];exact heq
             have HB:∀d',okD d'=true→showD d'≠s.data.toList:=fun d' o q=>by
               have:=HTD.out d' o q;rw [this] at q;exact heq q
             generalize B (showD (⟨1,key,v,0⟩:D))=sd at hsb hsb2;clear heq HTD;obtain⟨W4,hW4,q0,q1,q2,q3,HPO⟩:=HZE.out _ _ _ _ _ HR6.out HB;obtain⟨_,_,r0,r1,r2,r3,rf,_⟩:=HR6.out.two;have rf0:=rf 0;have rf1:=rf 1;have rf2:=rf 2;have rf3:=rf 3;have HPH:Hid (ReadPostD s w (.returned (.tuple #[.agg #[.int .i64 0,.string ⟨#[]⟩,.int .i64 0,.int .i64 0],.bool false])) W4):=HPO;have HW4:Hid (W4=_):=hW4;clear HPO hW4 rf;go_wp2;rw [← HW4.out];refine bodyPost_ret (v:=.tuple #[.agg #[.int .i64 0,.string ⟨#[]⟩,.int .i64 0,.int .i64 0],.bool false]) (by simp [results,Tryz.f12,go_sem,q0,q1,q2,q3]) rfl ?_;exact HPH.out
       · have hne:((P.length:Int) != 3)=true:=by simpa using (by omega:¬ (P.length:Int)=3)
         have HB:∀d',okD d'=true→showD d'≠s.data.toList:=HNO.out (.inr hm);clear hm HNO HR HDE;go_upto_region 9 with fail
         generalize wr.alloc (.cells #[.int .i64 0,.int .i64 3,.int .i64 2,.int .i64 3,.int .i64 4] 3)=V1 at HR1 ka ⊢;obtain⟨W4,hW4,q0,q1,q2,q3,HPO⟩:=HZE.out _ _ _ _ _ HR1.out HB;obtain⟨_,_,r0,r1,r2,r3,rf,_⟩:=HR1.out.two;have rf0:=rf 0;have rf1:=rf 1;have rf2:=rf 2;have rf3:=rf 3;have HPH:Hid (ReadPostD s w (.returned (.tuple #[.agg #[.int .i64 0,.string ⟨#[]⟩,.int .i64 0,.int .i64 0],.bool false])) W4):=HPO;have HW4:Hid (W4=_):=hW4;clear HPO hW4 rf;go_wp2;rw [← HW4.out];refine bodyPost_ret (v:=.tuple #[.agg #[.int .i64 0,.string ⟨#[]⟩,.int .i64 0,.int .i64 0],.bool false]) (by simp [results,Tryz.f12,go_sem,q0,q1,q2,q3]) rfl ?_;exact HPH.out
     · have k0:=HR.out.two.k0;have HR1:Hid (RSt w (wr.alloc (.cells #[.int .i64 0,.int .i64 3,.int .i64 2,.int .i64 3,.int .i64 4] 3)) g x P 2 ⟨#[]⟩ 0 0):=HR.out.alloc _;have ka:=HR1.out.two.k0;by_cases hm:P.length=2
       · have hne:((P.length:Int) != 2)=false:=by rw [hm];rfl
         have c1:=HR1.out.cells 1 (by omega);have kf1:=HR1.out.two.kf 1;have k1:=HR1.out.two.k1;have hl1:(1:Int)<(P.length:Int):=by omega
         have g2:¬ (2:Int)<(P.length:Int):=by omega
         have g3:¬ (3:Int)<(P.length:Int):=by omega
         have hks:(B (P.getD 1 [])).size≤1099511627776:=by have:=hpe.out 1;rw [Kn.B_size];omega
         have HR2:Hid (RSt w ((wr.alloc (.cells #[.int .i64 0,.int .i64 3,.int .i64 2,.int .i64 3,.int .i64 4] 3)).setCell ⟨x,1,none⟩ (.string (B (P.getD 1 [])))) g x P 2 (B (P.getD 1 [])) 0 0):=HR1.out.put 1 _ (HR1.out.two.set1 _);have HM:Hid (P.length=2):=hm;clear hm HNO HR;generalize hkb2:B (P.getD 1 [])=key at c1 HR2 HDE hks;clear hkb2;go_upto_region 15 with fail
         generalize (wr.alloc (.cells #[.int .i64 0,.int .i64 3,.int .i64 2,.int .i64 3,.int .i64 4] 3)).setCell ⟨x,1,none⟩ (.string key)=V2 at HR2 ⊢;clear HR1 c1 kf1 k1 ka k0;have HTD:Hid (∀d',okD d'=true→showD d'=s.data.toList→d'=(⟨2,key,0,0⟩:D)):=HDE.out 0 0 (fun h=>absurd h (by have:=HM.out;omega)) (fun _=>rfl) (fun h=>absurd h (by have:=HM.out;omega)) (fun _=>rfl);have hok:=specDeedOk 2 key 0 0 V2 hks;obtain⟨_,_,_,_,_,_,_,k0,k1,k2,k3,_⟩:=HR2.out.two;clear HDE;go_wp2_with fail
         refine hok.mono ?_;rintro e w5 ⟨rfl,hb5⟩;have HR5:Hid (RSt w w5 g x P 2 key 0 0):=HR2.out.below hb5;clear hok hb5 k0 k1 k2 k3
         cases ho:okD (⟨2,key,0,0⟩:D)
         · have HB:∀d',okD d'=true→showD d'≠s.data.toList:=fun d' o q=>by
             have:=HTD.out d' o q;rw [this,ho] at o;cases o
           clear ho HTD;obtain⟨W4,hW4,q0,q1,q2,q3,HPO⟩:=HZE.out _ _ _ _ _ HR5.out HB;obtain⟨_,_,r0,r1,r2,r3,rf,_⟩:=HR5.out.two;have rf0:=rf 0;have rf1:=rf 1;have rf2:=rf 2;have rf3:=rf 3;have HPH:Hid (ReadPostD s w (.returned (.tuple #[.agg #[.int .i64 0,.string ⟨#[]⟩,.int .i64 0,.int .i64 0],.bool false])) W4):=HPO;have HW4:Hid (W4=_):=hW4;clear HPO hW4 rf;go_wp2;rw [← HW4.out];refine bodyPost_ret (v:=.tuple #[.agg #[.int .i64 0,.string ⟨#[]⟩,.int .i64 0,.int .i64 0],.bool false]) (by simp [results,Tryz.f12,go_sem,q0,q1,q2,q3]) rfl ?_;exact HPH.out
         · have hsh:=l16ShowD (⟨2,key,0,0⟩:D) w5 ho;obtain⟨_,_,_,_,_,_,_,k0,k1,k2,k3,_⟩:=HR5.out.two;have HOK:Hid (okD (⟨2,key,0,0⟩:D)=true):=ho;clear ho;go_wp2_with fail
           refine hsh.mono ?_;rintro e w6 ⟨rfl,hb6⟩;have HR6:Hid (RSt w w6 g x P 2 key 0 0):=HR5.out.below hb6;clear hsh hb6 k0 k1 k2 k3;by_cases heq:showD (⟨2,key,0,0⟩:D)=s.data.toList
           · have hsb:((B (showD (⟨2,key,0,0⟩:D))).toList != s.toList)=false:=by
               rw [Kn.B_list,heq,ByteArray.toList_eq];simp
             have hsb2:((B (showD (⟨2,key,0,0⟩:D))).toList == s.toList)=true:=by
               rw [Kn.B_list,heq,ByteArray.toList_eq];simp
             have HE:Hid (showD (⟨2,key,0,0⟩:D)=s.data.toList):=heq;generalize B (showD (⟨2,key,0,0⟩:D))=sd at hsb hsb2;clear heq HTD;obtain⟨_,_,r0,r1,r2,r3,rf,k0,k1,k2,k3,_⟩:=HR6.out.two;have rf0:=rf 0;have rf1:=rf 1;have rf2:=rf 2;have rf3:=rf 3;clear rf;have HQ:Hid (_):=put4D r0 r1 r2 r3 (.int .i64 2) (.string key) (.int .i64 0) (.int .i64 0);have HBE:Hid (_):=put4B HR6.out.bel (.int .i64 2) (.string key) (.int .i64 0) (.int .i64 0);go_wp2;obtain⟨q0,q1,q2,q3⟩:=HQ.out;refine bodyPost_ret (v:=.tuple #[.agg #[.int .i64 2,.string key,.int .i64 0,.int .i64 0],.bool true]) (by simp [results,Tryz.f12,go_sem,q0,q1,q2,q3]) rfl ?_;exact⟨⟨2,key,0,0⟩,true,rfl,.inl ⟨rfl,HOK.out,HE.out⟩,HBE.out⟩
           · have hsb:((B (showD (⟨2,key,0,0⟩:D))).toList != s.toList)=true:=by
               rw [bne_iff_ne,Kn.B_list,ByteArray.toList_eq];exact heq
             have hsb2:((B (showD (⟨2,key,0,0⟩:D))).toList == s.toList)=false:=by
               rw [beq_eq_false_iff_ne,Kn.B_list,ByteArray.toList_eq];exact heq
             have HB:∀d',okD d'=true→showD d'≠s.data.toList:=fun d' o q=>by
               have:=HTD.out d' o q;rw [this] at q;exact heq q
             generalize B (showD (⟨2,key,0,0⟩:D))=sd at hsb hsb2;clear heq HTD;obtain⟨W4,hW4,q0,q1,q2,q3,HPO⟩:=HZE.out _ _ _ _ _ HR6.out HB;obtain⟨_,_,r0,r1,r2,r3,rf,_⟩:=HR6.out.two;have rf0:=rf 0;have rf1:=rf 1;have rf2:=rf 2;have rf3:=rf 3;have HPH:Hid (ReadPostD s w (.returned (.tuple #[.agg #[.int .i64 0,.string ⟨#[]⟩,.int .i64 0,.int .i64 0],.bool false])) W4):=HPO;have HW4:Hid (W4=_):=hW4;clear HPO hW4 rf;go_wp2;rw [← HW4.out];refine bodyPost_ret (v:=.tuple #[.agg #[.int .i64 0,.string ⟨#[]⟩,.int .i64 0,.int .i64 0],.bool false]) (by simp [results,Tryz.f12,go_sem,q0,q1,q2,q3]) rfl ?_;exact HPH.out
       · have hne:((P.length:Int) != 2)=true:=by simpa using (by omega:¬ (P.length:Int)=2)
         have HB:∀d',okD d'=true→showD d'≠s.data.toList:=HNO.out (.inr hm);clear hm HNO HR HDE;go_upto_region 9 with fail
         generalize wr.alloc (.cells #[.int .i64 0,.int .i64 3,.int .i64 2,.int .i64 3,.int .i64 4] 3)=V1 at HR1 ka ⊢;obtain⟨W4,hW4,q0,q1,q2,q3,HPO⟩:=HZE.out _ _ _ _ _ HR1.out HB;obtain⟨_,_,r0,r1,r2,r3,rf,_⟩:=HR1.out.two;have rf0:=rf 0;have rf1:=rf 1;have rf2:=rf 2;have rf3:=rf 3;have HPH:Hid (ReadPostD s w (.returned (.tuple #[.agg #[.int .i64 0,.string ⟨#[]⟩,.int .i64 0,.int .i64 0],.bool false])) W4):=HPO;have HW4:Hid (W4=_):=hW4;clear HPO hW4 rf;go_wp2;rw [← HW4.out];refine bodyPost_ret (v:=.tuple #[.agg #[.int .i64 0,.string ⟨#[]⟩,.int .i64 0,.int .i64 0],.bool false]) (by simp [results,Tryz.f12,go_sem,q0,q1,q2,q3]) rfl ?_;exact HPH.out
     · have k0:=HR.out.two.k0;have HR1:Hid (RSt w (wr.alloc (.cells #[.int .i64 0,.int .i64 3,.int .i64 2,.int .i64 3,.int .i64 4] 3)) g x P 3 ⟨#[]⟩ 0 0):=HR.out.alloc _;have ka:=HR1.out.two.k0;by_cases hm:P.length=3
       · have hne:((P.length:Int) != 3)=false:=by rw [hm];rfl
         have c1:=HR1.out.cells 1 (by omega);have kf1:=HR1.out.two.kf 1;have k1:=HR1.out.two.k1;have hl1:(1:Int)<(P.length:Int):=by omega
         have g2:(2:Int)<(P.length:Int):=by omega
         have g3:¬ (3:Int)<(P.length:Int):=by omega
         have hks:(B (P.getD 1 [])).size≤1099511627776:=by have:=hpe.out 1;rw [Kn.B_size];omega
         have HR2:Hid (RSt w ((wr.alloc (.cells #[.int .i64 0,.int .i64 3,.int .i64 2,.int .i64 3,.int .i64 4] 3)).setCell ⟨x,1,none⟩ (.string (B (P.getD 1 [])))) g x P 3 (B (P.getD 1 [])) 0 0):=HR1.out.put 1 _ (HR1.out.two.set1 _);have HM:Hid (P.length=3):=hm;clear hm HNO HR;generalize hkb2:B (P.getD 1 [])=key at c1 HR2 HDE hks;clear hkb2;go_upto_region 12 with fail
         generalize (wr.alloc (.cells #[.int .i64 0,.int .i64 3,.int .i64 2,.int .i64 3,.int .i64 4] 3)).setCell ⟨x,1,none⟩ (.string key)=V2 at HR2 ⊢;clear HR1 c1 kf1 k1 ka k0;have c2:=HR2.out.cells 2 (by have:=HM.out;omega);have kf2:=HR2.out.two.kf 2;have k2:=HR2.out.two.k2;have hrd2:=Kn.l1Read (B (P.getD 2 [])) V2 (by have:=hpe.out 2;rw [Kn.B_size];omega);generalize hbq2:B (P.getD 2 [])=bq2 at c2 hrd2;have HBQ2:Hid (B (P.getD 2 [])=bq2):=hbq2;clear hbq2;go_wp2_with fail
         refine hrd2.mono ?_;rintro e w' ⟨v,rb2,rfl,hR2,rfl⟩;have HRE2:Hid (Reads (B (P.getD 2 [])) v rb2):=by show Reads _ _ _;rw [HBQ2.out];exact hR2
         have HR3:Hid (RSt w (V2.setCell ⟨x,2,none⟩ (.int .i64 v)) g x P 3 key v 0):=HR2.out.put 2 _ (HR2.out.two.set2 v);clear hrd2 hR2;go_upto_region 15 with fail
         generalize V2.setCell ⟨x,2,none⟩ (.int .i64 v)=V3 at HR3 ⊢;clear HR2 c2 kf2 k2;have HTD:Hid (∀d',okD d'=true→showD d'=s.data.toList→d'=(⟨3,key,v,0⟩:D)):=HDE.out v 0 (fun _=>⟨_,HRE2.out⟩) (fun h=>absurd (by have:=HM.out;omega) h) (fun h=>absurd h (by have:=HM.out;omega)) (fun _=>rfl);have hok:=specDeedOk 3 key v 0 V3 hks;obtain⟨_,_,_,_,_,_,_,k0,k1,k2,k3,_⟩:=HR3.out.two;clear HDE;go_wp2_with fail
         refine hok.mono ?_;rintro e w5 ⟨rfl,hb5⟩;have HR5:Hid (RSt w w5 g x P 3 key v 0):=HR3.out.below hb5;clear hok hb5 k0 k1 k2 k3
         cases ho:okD (⟨3,key,v,0⟩:D)
         · have HB:∀d',okD d'=true→showD d'≠s.data.toList:=fun d' o q=>by
             have:=HTD.out d' o q;rw [this,ho] at o;cases o
           clear ho HTD;obtain⟨W4,hW4,q0,q1,q2,q3,HPO⟩:=HZE.out _ _ _ _ _ HR5.out HB;obtain⟨_,_,r0,r1,r2,r3,rf,_⟩:=HR5.out.two;have rf0:=rf 0;have rf1:=rf 1;have rf2:=rf 2;have rf3:=rf 3;have HPH:Hid (ReadPostD s w (.returned (.tuple #[.agg #[.int .i64 0,.string ⟨#[]⟩,.int .i64 0,.int .i64 0],.bool false])) W4):=HPO;have HW4:Hid (W4=_):=hW4;clear HPO hW4 rf;go_wp2;rw [← HW4.out];refine bodyPost_ret (v:=.tuple #[.agg #[.int .i64 0,.string ⟨#[]⟩,.int .i64 0,.int .i64 0],.bool false]) (by simp [results,Tryz.f12,go_sem,q0,q1,q2,q3]) rfl ?_;exact HPH.out
         · have hsh:=l16ShowD (⟨3,key,v,0⟩:D) w5 ho;obtain⟨_,_,_,_,_,_,_,k0,k1,k2,k3,_⟩:=HR5.out.two;have HOK:Hid (okD (⟨3,key,v,0⟩:D)=true):=ho;clear ho;go_wp2_with fail
           refine hsh.mono ?_;rintro e w6 ⟨rfl,hb6⟩;have HR6:Hid (RSt w w6 g x P 3 key v 0):=HR5.out.below hb6;clear hsh hb6 k0 k1 k2 k3;by_cases heq:showD (⟨3,key,v,0⟩:D)=s.data.toList
           · have hsb:((B (showD (⟨3,key,v,0⟩:D))).toList != s.toList)=false:=by
               rw [Kn.B_list,heq,ByteArray.toList_eq];simp
             have hsb2:((B (showD (⟨3,key,v,0⟩:D))).toList == s.toList)=true:=by
               rw [Kn.B_list,heq,ByteArray.toList_eq];simp
             have HE:Hid (showD (⟨3,key,v,0⟩:D)=s.data.toList):=heq;generalize B (showD (⟨3,key,v,0⟩:D))=sd at hsb hsb2;clear heq HTD;obtain⟨_,_,r0,r1,r2,r3,rf,k0,k1,k2,k3,_⟩:=HR6.out.two;have rf0:=rf 0;have rf1:=rf 1;have rf2:=rf 2;have rf3:=rf 3;clear rf;have HQ:Hid (_):=put4D r0 r1 r2 r3 (.int .i64 3) (.string key) (.int .i64 v) (.int .i64 0);have HBE:Hid (_):=put4B HR6.out.bel (.int .i64 3) (.string key) (.int .i64 v) (.int .i64 0);go_wp2;obtain⟨q0,q1,q2,q3⟩:=HQ.out;refine bodyPost_ret (v:=.tuple #[.agg #[.int .i64 3,.string key,.int .i64 v,.int .i64 0],.bool true]) (by simp [results,Tryz.f12,go_sem,q0,q1,q2,q3]) rfl ?_;exact⟨⟨3,key,v,0⟩,true,rfl,.inl ⟨rfl,HOK.out,HE.out⟩,HBE.out⟩
           · have hsb:((B (showD (⟨3,key,v,0⟩:D))).toList != s.toList)=true:=by
               rw [bne_iff_ne,Kn.B_list,ByteArray.toList_eq];exact heq
             have hsb2:((B (showD (⟨3,key,v,0⟩:D))).toList == s.toList)=false:=by
               rw [beq_eq_false_iff_ne,Kn.B_list,ByteArray.toList_eq];exact heq
             have HB:∀d',okD d'=true→showD d'≠s.data.toList:=fun d' o q=>by
               have:=HTD.out d' o q;rw [this] at q;exact heq q
             generalize B (showD (⟨3,key,v,0⟩:D))=sd at hsb hsb2;clear heq HTD;obtain⟨W4,hW4,q0,q1,q2,q3,HPO⟩:=HZE.out _ _ _ _ _ HR6.out HB;obtain⟨_,_,r0,r1,r2,r3,rf,_⟩:=HR6.out.two;have rf0:=rf 0;have rf1:=rf 1;have rf2:=rf 2;have rf3:=rf 3;have HPH:Hid (ReadPostD s w (.returned (.tuple #[.agg #[.int .i64 0,.string ⟨#[]⟩,.int .i64 0,.int .i64 0],.bool false])) W4):=HPO;have HW4:Hid (W4=_):=hW4;clear HPO hW4 rf;go_wp2;rw [← HW4.out];refine bodyPost_ret (v:=.tuple #[.agg #[.int .i64 0,.string ⟨#[]⟩,.int .i64 0,.int .i64 0],.bool false]) (by simp [results,Tryz.f12,go_sem,q0,q1,q2,q3]) rfl ?_;exact HPH.out
       · have hne:((P.length:Int) != 3)=true:=by simpa using (by omega:¬ (P.length:Int)=3)
         have HB:∀d',okD d'=true→showD d'≠s.data.toList:=HNO.out (.inr hm);clear hm HNO HR HDE;go_upto_region 9 with fail
         generalize wr.alloc (.cells #[.int .i64 0,.int .i64 3,.int .i64 2,.int .i64 3,.int .i64 4] 3)=V1 at HR1 ka ⊢;obtain⟨W4,hW4,q0,q1,q2,q3,HPO⟩:=HZE.out _ _ _ _ _ HR1.out HB;obtain⟨_,_,r0,r1,r2,r3,rf,_⟩:=HR1.out.two;have rf0:=rf 0;have rf1:=rf 1;have rf2:=rf 2;have rf3:=rf 3;have HPH:Hid (ReadPostD s w (.returned (.tuple #[.agg #[.int .i64 0,.string ⟨#[]⟩,.int .i64 0,.int .i64 0],.bool false])) W4):=HPO;have HW4:Hid (W4=_):=hW4;clear HPO hW4 rf;go_wp2;rw [← HW4.out];refine bodyPost_ret (v:=.tuple #[.agg #[.int .i64 0,.string ⟨#[]⟩,.int .i64 0,.int .i64 0],.bool false]) (by simp [results,Tryz.f12,go_sem,q0,q1,q2,q3]) rfl ?_;exact HPH.out
     · have k0:=HR.out.two.k0;have HR1:Hid (RSt w (wr.alloc (.cells #[.int .i64 0,.int .i64 3,.int .i64 2,.int .i64 3,.int .i64 4] 3)) g x P 4 ⟨#[]⟩ 0 0):=HR.out.alloc _;have ka:=HR1.out.two.k0;by_cases hm:P.length=4
       · have hne:((P.length:Int) != 4)=false:=by rw [hm];rfl
         have c1:=HR1.out.cells 1 (by omega);have kf1:=HR1.out.two.kf 1;have k1:=HR1.out.two.k1;have hl1:(1:Int)<(P.length:Int):=by omega
         have g2:(2:Int)<(P.length:Int):=by omega
         have g3:(3:Int)<(P.length:Int):=by omega
         have hks:(B (P.getD 1 [])).size≤1099511627776:=by have:=hpe.out 1;rw [Kn.B_size];omega
         have HR2:Hid (RSt w ((wr.alloc (.cells #[.int .i64 0,.int .i64 3,.int .i64 2,.int .i64 3,.int .i64 4] 3)).setCell ⟨x,1,none⟩ (.string (B (P.getD 1 [])))) g x P 4 (B (P.getD 1 [])) 0 0):=HR1.out.put 1 _ (HR1.out.two.set1 _);have HM:Hid (P.length=4):=hm;clear hm HNO HR;generalize hkb2:B (P.getD 1 [])=key at c1 HR2 HDE hks;clear hkb2;go_upto_region 12 with fail
         generalize (wr.alloc (.cells #[.int .i64 0,.int .i64 3,.int .i64 2,.int .i64 3,.int .i64 4] 3)).setCell ⟨x,1,none⟩ (.string key)=V2 at HR2 ⊢;clear HR1 c1 kf1 k1 ka k0;have c2:=HR2.out.cells 2 (by have:=HM.out;omega);have kf2:=HR2.out.two.kf 2;have k2:=HR2.out.two.k2;have hrd2:=Kn.l1Read (B (P.getD 2 [])) V2 (by have:=hpe.out 2;rw [Kn.B_size];omega);generalize hbq2:B (P.getD 2 [])=bq2 at c2 hrd2;have HBQ2:Hid (B (P.getD 2 [])=bq2):=hbq2;clear hbq2;go_wp2_with fail
         refine hrd2.mono ?_;rintro e w' ⟨v,rb2,rfl,hR2,rfl⟩;have HRE2:Hid (Reads (B (P.getD 2 [])) v rb2):=by show Reads _ _ _;rw [HBQ2.out];exact hR2
         have HR3:Hid (RSt w (V2.setCell ⟨x,2,none⟩ (.int .i64 v)) g x P 4 key v 0):=HR2.out.put 2 _ (HR2.out.two.set2 v);clear hrd2 hR2;go_upto_region 14 with fail
         generalize V2.setCell ⟨x,2,none⟩ (.int .i64 v)=V3 at HR3 ⊢;clear HR2 c2 kf2 k2;have c3:=HR3.out.cells 3 (by have:=HM.out;omega);have kf3:=HR3.out.two.kf 3;have k3:=HR3.out.two.k3;have hrd3:=Kn.l1Read (B (P.getD 3 [])) V3 (by have:=hpe.out 3;rw [Kn.B_size];omega);generalize hbq3:B (P.getD 3 [])=bq3 at c3 hrd3;have HBQ3:Hid (B (P.getD 3 [])=bq3):=hbq3;clear hbq3;go_wp2_with fail
         refine hrd3.mono ?_;rintro e w' ⟨n,rb3,rfl,hR3,rfl⟩;have HRE3:Hid (Reads (B (P.getD 3 [])) n rb3):=by show Reads _ _ _;rw [HBQ3.out];exact hR3
         have HR4:Hid (RSt w (V3.setCell ⟨x,3,none⟩ (.int .i64 n)) g x P 4 key v n):=HR3.out.put 3 _ (HR3.out.two.set3 n);clear hrd3 hR3;go_upto_region 15 with fail
         generalize V3.setCell ⟨x,3,none⟩ (.int .i64 n)=V4 at HR4 ⊢;clear HR3 c3 kf3 k3;have HTD:Hid (∀d',okD d'=true→showD d'=s.data.toList→d'=(⟨4,key,v,n⟩:D)):=HDE.out v n (fun _=>⟨_,HRE2.out⟩) (fun h=>absurd (by have:=HM.out;omega) h) (fun _=>⟨_,HRE3.out⟩) (fun h=>absurd (by have:=HM.out;omega) h);have hok:=specDeedOk 4 key v n V4 hks;obtain⟨_,_,_,_,_,_,_,k0,k1,k2,k3,_⟩:=HR4.out.two;clear HDE;go_wp2_with fail
         refine hok.mono ?_;rintro e w5 ⟨rfl,hb5⟩;have HR5:Hid (RSt w w5 g x P 4 key v n):=HR4.out.below hb5;clear hok hb5 k0 k1 k2 k3
         cases ho:okD (⟨4,key,v,n⟩:D)
         · have HB:∀d',okD d'=true→showD d'≠s.data.toList:=fun d' o q=>by
             have:=HTD.out d' o q;rw [this,ho] at o;cases o
           clear ho HTD;obtain⟨W4,hW4,q0,q1,q2,q3,HPO⟩:=HZE.out _ _ _ _ _ HR5.out HB;obtain⟨_,_,r0,r1,r2,r3,rf,_⟩:=HR5.out.two;have rf0:=rf 0;have rf1:=rf 1;have rf2:=rf 2;have rf3:=rf 3;have HPH:Hid (ReadPostD s w (.returned (.tuple #[.agg #[.int .i64 0,.string ⟨#[]⟩,.int .i64 0,.int .i64 0],.bool false])) W4):=HPO;have HW4:Hid (W4=_):=hW4;clear HPO hW4 rf;go_wp2;rw [← HW4.out];refine bodyPost_ret (v:=.tuple #[.agg #[.int .i64 0,.string ⟨#[]⟩,.int .i64 0,.int .i64 0],.bool false]) (by simp [results,Tryz.f12,go_sem,q0,q1,q2,q3]) rfl ?_;exact HPH.out
         · have hsh:=l16ShowD (⟨4,key,v,n⟩:D) w5 ho;obtain⟨_,_,_,_,_,_,_,k0,k1,k2,k3,_⟩:=HR5.out.two;have HOK:Hid (okD (⟨4,key,v,n⟩:D)=true):=ho;clear ho;go_wp2_with fail
           refine hsh.mono ?_;rintro e w6 ⟨rfl,hb6⟩;have HR6:Hid (RSt w w6 g x P 4 key v n):=HR5.out.below hb6;clear hsh hb6 k0 k1 k2 k3;by_cases heq:showD (⟨4,key,v,n⟩:D)=s.data.toList
           · have hsb:((B (showD (⟨4,key,v,n⟩:D))).toList != s.toList)=false:=by
               rw [Kn.B_list,heq,ByteArray.toList_eq];simp
             have hsb2:((B (showD (⟨4,key,v,n⟩:D))).toList == s.toList)=true:=by
               rw [Kn.B_list,heq,ByteArray.toList_eq];simp
             have HE:Hid (showD (⟨4,key,v,n⟩:D)=s.data.toList):=heq;generalize B (showD (⟨4,key,v,n⟩:D))=sd at hsb hsb2;clear heq HTD;obtain⟨_,_,r0,r1,r2,r3,rf,k0,k1,k2,k3,_⟩:=HR6.out.two;have rf0:=rf 0;have rf1:=rf 1;have rf2:=rf 2;have rf3:=rf 3;clear rf;have HQ:Hid (_):=put4D r0 r1 r2 r3 (.int .i64 4) (.string key) (.int .i64 v) (.int .i64 n);have HBE:Hid (_):=put4B HR6.out.bel (.int .i64 4) (.string key) (.int .i64 v) (.int .i64 n);go_wp2;obtain⟨q0,q1,q2,q3⟩:=HQ.out;refine bodyPost_ret (v:=.tuple #[.agg #[.int .i64 4,.string key,.int .i64 v,.int .i64 n],.bool true]) (by simp [results,Tryz.f12,go_sem,q0,q1,q2,q3]) rfl ?_;exact⟨⟨4,key,v,n⟩,true,rfl,.inl ⟨rfl,HOK.out,HE.out⟩,HBE.out⟩
           · have hsb:((B (showD (⟨4,key,v,n⟩:D))).toList != s.toList)=true:=by
               rw [bne_iff_ne,Kn.B_list,ByteArray.toList_eq];exact heq
             have hsb2:((B (showD (⟨4,key,v,n⟩:D))).toList == s.toList)=false:=by
               rw [beq_eq_false_iff_ne,Kn.B_list,ByteArray.toList_eq];exact heq
             have HB:∀d',okD d'=true→showD d'≠s.data.toList:=fun d' o q=>by
               have:=HTD.out d' o q;rw [this] at q;exact heq q
             generalize B (showD (⟨4,key,v,n⟩:D))=sd at hsb hsb2;clear heq HTD;obtain⟨W4,hW4,q0,q1,q2,q3,HPO⟩:=HZE.out _ _ _ _ _ HR6.out HB;obtain⟨_,_,r0,r1,r2,r3,rf,_⟩:=HR6.out.two;have rf0:=rf 0;have rf1:=rf 1;have rf2:=rf 2;have rf3:=rf 3;have HPH:Hid (ReadPostD s w (.returned (.tuple #[.agg #[.int .i64 0,.string ⟨#[]⟩,.int .i64 0,.int .i64 0],.bool false])) W4):=HPO;have HW4:Hid (W4=_):=hW4;clear HPO hW4 rf;go_wp2;rw [← HW4.out];refine bodyPost_ret (v:=.tuple #[.agg #[.int .i64 0,.string ⟨#[]⟩,.int .i64 0,.int .i64 0],.bool false]) (by simp [results,Tryz.f12,go_sem,q0,q1,q2,q3]) rfl ?_;exact HPH.out
       · have hne:((P.length:Int) != 4)=true:=by simpa using (by omega:¬ (P.length:Int)=4)
         have HB:∀d',okD d'=true→showD d'≠s.data.toList:=HNO.out (.inr hm);clear hm HNO HR HDE;go_upto_region 9 with fail
         generalize wr.alloc (.cells #[.int .i64 0,.int .i64 3,.int .i64 2,.int .i64 3,.int .i64 4] 3)=V1 at HR1 ka ⊢;obtain⟨W4,hW4,q0,q1,q2,q3,HPO⟩:=HZE.out _ _ _ _ _ HR1.out HB;obtain⟨_,_,r0,r1,r2,r3,rf,_⟩:=HR1.out.two;have rf0:=rf 0;have rf1:=rf 1;have rf2:=rf 2;have rf3:=rf 3;have HPH:Hid (ReadPostD s w (.returned (.tuple #[.agg #[.int .i64 0,.string ⟨#[]⟩,.int .i64 0,.int .i64 0],.bool false])) W4):=HPO;have HW4:Hid (W4=_):=hW4;clear HPO hW4 rf;go_wp2;rw [← HW4.out];refine bodyPost_ret (v:=.tuple #[.agg #[.int .i64 0,.string ⟨#[]⟩,.int .i64 0,.int .i64 0],.bool false]) (by simp [results,Tryz.f12,go_sem,q0,q1,q2,q3]) rfl ?_;exact HPH.out
end De
end
section
namespace De
theorem isKey(s:ByteArray)(w:World)(hs:s.size≤1099511627776):Calls Tryz.prog 54 #[.string s] w fun e w'=>e=.returned (.bool (keyB s))∧w=w':=by
 by_cases h1:s.size<1
 ·have H:Hid (keyB s=false):=by
   show _=false;have:decide (1≤s.size)=false:=decide_eq_false (by omega);unfold keyB;rw [this,Bool.false_and,Bool.and_false]
  have h1':(s.size:Int)<1:=by omega
  go_enter Tryz.func54,Tryz.ntmps54
  go_wp2;go_ret;exact⟨Base.ret_bool H.out.symm,rfl⟩
 have h1':¬ (s.size:Int)<1:=by omega
 by_cases h3:3<s.size
 ·have H:Hid (keyB s=false):=by
   show _=false;have:decide (s.size≤3)=false:=decide_eq_false (by omega);unfold keyB;rw [this,Bool.and_false,Bool.and_false]
  have h3':(3:Int)<(s.size:Int):=by omega
  go_enter Tryz.func54,Tryz.ntmps54
  go_wp2;go_ret;exact⟨Base.ret_bool H.out.symm,rfl⟩
 have h3':¬ (3:Int)<(s.size:Int):=by omega
 go_enter Tryz.func54,Tryz.ntmps54
 go_wp2;go_loop [14] (fun i=>∃k:Nat,k≤s.size∧i=.int .i64 k∧Hid ((s.data.toList.take k).all okL=true)) (fun i=>s.size-(intOf i).toNat)
 case atStart=>exact⟨0,Nat.zero_le _,rfl,rfl⟩
 case round=>
  obtain⟨k,hk,rfl,HA⟩:=hrel;by_cases hlt:k<s.size
  ·have HS:Hid ((s.data.toList.take (k+1)).all okL=((s.data.toList.take k).all okL&&okL s[k])):=allL_snoc s k hlt;have HO:Hid (okL s[k]=true↔(97≤(s[k].toNat:Int)∧(s[k].toNat:Int)≤122)):=by
    show _↔_;simp [okL];omega
   have HB:Hid (okL s[k]=false→keyB s=false):=by
    intro h;have hm:s[k]∈s.data.toList:=by
     have hk2:k<s.data.toList.length:=by simpa using hlt
     have e:s[k]=s.data.toList[k]:=rfl;rw [e];exact List.getElem_mem hk2
    unfold keyB;have:s.data.toList.all okL=false:=by
     rw [List.all_eq_false];exact⟨s[k],hm,by simp [h]⟩
    rw [this];rfl
   by_cases c1:(97:Int)≤(s[k].toNat:Int)∧(s[k].toNat:Int)≤122
   ·have HC:Hid ((s.data.toList.take (k+1)).all okL=true):=by
     show _=true;rw [HS.out,HA.out,HO.out.2 c1];rfl
    obtain⟨c1,c1'⟩:=c1;clear HS HO HB;go_wp2;go_round
    case rel=>exact⟨k+1,by omega,by go_num,HC⟩
    case measure=>simp [intOf];omega
   ·have HC:Hid (keyB s=false):=by
     apply HB.out
     cases h:okL s[k]
     ·rfl
     ·exfalso;exact c1 (HO.out.1 h)
    clear HS HO HB HA;by_cases d1:(s[k].toNat:Int)<97
    ·clear c1;go_wp2;go_ret;exact⟨Base.ret_bool HC.out.symm,rfl⟩
    ·have d4:122<(s[k].toNat:Int):=by omega
     clear c1;go_wp2;go_ret;exact⟨Base.ret_bool HC.out.symm,rfl⟩
  ·have hk':k=s.size:=by omega
   have HT:Hid (keyB s=true):=by
    show _=_;unfold keyB;have:=HA.out;rw [hk',Kn.take_all] at this;rw [this,Bool.true_and];simp;omega
   go_wp2;go_ret;exact⟨Base.ret_bool HT.out.symm,rfl⟩
def numB(n:Int):Bool:=decide (0≤n)&&decide (n≤99)
theorem isNumber(n:Int)(w:World):Calls Tryz.prog 55 #[.int .i64 n] w fun e w'=>e=.returned (.bool (numB n))∧w=w':=by
 by_cases h1:0≤n
 ·go_enter Tryz.func55,Tryz.ntmps55
  go_wp2;go_ret;exact⟨Base.ret_bool (by simp [numB,h1]),rfl⟩
 ·go_enter Tryz.func55,Tryz.ntmps55
  go_wp2;go_ret;exact⟨Base.ret_bool (by simp [numB];omega),rfl⟩
theorem implDeedOk(kind:Int)(key:ByteArray)(val new:Int)(w:World)(hs:key.size≤1099511627776):Calls Tryz.prog 44 #[.agg #[.int .i64 kind,.string key,.int .i64 val,.int .i64 new]] w fun e w'=>
  e=.returned (.bool (okD ⟨kind,key,val,new⟩))∧Below w.heap.size w w':=by
 have HO:Hid (okD ⟨kind,key,val,new⟩=((decide (1≤kind)&&decide (kind≤4))&&(keyB key&&(numB val&&(numB new&&(((kind != 2) || (val == 0))&&((kind == 4) || (new == 0)))))))):=rfl;have HK:Hid (∀W:World,Calls Tryz.prog 54 #[.string key] W fun e w'=>e=.returned (.bool (keyB key))∧W=w'):=fun W=>isKey key W hs
 have HN:Hid (∀(n:Int) (W:World),Calls Tryz.prog 55 #[.int .i64 n] W fun e w'=>e=.returned (.bool (numB n))∧W=w'):=fun n W=>isNumber n W
 have B1:Hid (∀o:Obj,Below w.heap.size w (w.alloc o)):=fun o=>(Below.refl _ _).alloc (Nat.le_refl _) o
 generalize okD ⟨kind,key,val,new⟩=ok at HO ⊢;generalize keyB key=b2 at HO HK;have E6:Hid ((val == 0) = !(val != 0)):=by show _=_;simp [bne]
 have E8:Hid ((new == 0) = !(new != 0)):=by show _=_;simp [bne]
 generalize h6:(val != 0)=b6 at E6;generalize h8:(new != 0)=b8 at E8;generalize h3:numB val=b3 at HO;generalize h4:numB new=b4 at HO;have H3:Hid (numB val=b3):=h3;have H4:Hid (numB new=b4):=h4;clear hs h3 h4;rcases(show kind=1∨kind=2∨kind=3∨kind=4∨(kind<1∨4<kind) by omega) with rfl | rfl | rfl | rfl | hk
 case inr.inr.inr.inr=>
  have HF:Hid (ok=false):=by
   show _=_;rw [HO.out];rcases hk with h | h
   ·rw [show decide (1≤kind)=false from by simp;omega];rfl
   ·rw [show decide (kind≤4)=false from by simp;omega,Bool.and_false];rfl
  have k1:(kind == 1)=false:=by simp;omega
  have k2:(kind == 2)=false:=by simp;omega
  have k3:(kind == 3)=false:=by simp;omega
  have k4:(kind == 4)=false:=by simp;omega
  clear HO hk HK HN;go_enter Tryz.func44,Tryz.ntmps44
  go_wp2;go_ret;exact⟨Base.ret_bool HF.out.symm,B1.out _⟩
 case inl=>
  rcases(show(b8=true)∨(b8=false∧b2=false)∨(b8=false∧b2=true∧b3=false)∨(b8=false∧b2=true∧b3=true∧b4=false)∨(b8=false∧b2=true∧b3=true∧b4=true) by cases b8 <;> cases b2 <;> cases b3 <;> cases b4 <;> simp) with rfl | ⟨rfl,rfl⟩ | ⟨rfl,rfl,rfl⟩ | ⟨rfl,rfl,rfl,rfl⟩ | ⟨rfl,rfl,rfl,rfl⟩
  all_goals
   go_enter Tryz.func44,Tryz.ntmps44
   go_wp2_with (first | (go_at_call 54;refine(HK.out _).mono ?_;rintro e w' ⟨rfl,rfl⟩) | (go_at_call 55;refine(HN.out _ _).mono ?_;rintro e w' ⟨rfl,rfl⟩;first | rw [H3.out] | rw [H4.out]))
   go_ret;exact⟨Base.ret_bool (by rw [HO.out,E6.out,E8.out];first | rfl | simp),B1.out _⟩
 case inr.inl=>
  rcases(show(b6=true)∨(b6=false∧b8=true)∨(b6=false∧b8=false∧b2=false)∨(b6=false∧b8=false∧b2=true∧b3=false)∨(b6=false∧b8=false∧b2=true∧b3=true∧b4=false)∨(b6=false∧b8=false∧b2=true∧b3=true∧b4=true) by cases b6 <;> cases b8 <;> cases b2 <;> cases b3 <;> cases b4 <;> simp) with rfl | ⟨rfl,rfl⟩ | ⟨rfl,rfl,rfl⟩ | ⟨rfl,rfl,rfl,rfl⟩ | ⟨rfl,rfl,rfl,rfl,rfl⟩ | ⟨rfl,rfl,rfl,rfl,rfl⟩
  all_goals
   go_enter Tryz.func44,Tryz.ntmps44
   go_wp2_with (first | (go_at_call 54;refine(HK.out _).mono ?_;rintro e w' ⟨rfl,rfl⟩) | (go_at_call 55;refine(HN.out _ _).mono ?_;rintro e w' ⟨rfl,rfl⟩;first | rw [H3.out] | rw [H4.out]))
   go_ret;exact⟨Base.ret_bool (by rw [HO.out,E6.out,E8.out];first | rfl | simp),B1.out _⟩
 case inr.inr.inl=>
  rcases(show(b8=true)∨(b8=false∧b2=false)∨(b8=false∧b2=true∧b3=false)∨(b8=false∧b2=true∧b3=true∧b4=false)∨(b8=false∧b2=true∧b3=true∧b4=true) by cases b8 <;> cases b2 <;> cases b3 <;> cases b4 <;> simp) with rfl | ⟨rfl,rfl⟩ | ⟨rfl,rfl,rfl⟩ | ⟨rfl,rfl,rfl,rfl⟩ | ⟨rfl,rfl,rfl,rfl⟩
  all_goals
   go_enter Tryz.func44,Tryz.ntmps44
   go_wp2_with (first | (go_at_call 54;refine(HK.out _).mono ?_;rintro e w' ⟨rfl,rfl⟩) | (go_at_call 55;refine(HN.out _ _).mono ?_;rintro e w' ⟨rfl,rfl⟩;first | rw [H3.out] | rw [H4.out]))
   go_ret;exact⟨Base.ret_bool (by rw [HO.out,E6.out,E8.out];first | rfl | simp),B1.out _⟩
 case inr.inr.inr.inl=>
  rcases(show(b2=false)∨(b2=true∧b3=false)∨(b2=true∧b3=true∧b4=false)∨(b2=true∧b3=true∧b4=true) by cases b2 <;> cases b3 <;> cases b4 <;> simp) with rfl | ⟨rfl,rfl⟩ | ⟨rfl,rfl,rfl⟩ | ⟨rfl,rfl,rfl⟩
  all_goals
   go_enter Tryz.func44,Tryz.ntmps44
   go_wp2_with (first | (go_at_call 54;refine(HK.out _).mono ?_;rintro e w' ⟨rfl,rfl⟩) | (go_at_call 55;refine(HN.out _ _).mono ?_;rintro e w' ⟨rfl,rfl⟩;first | rw [H3.out] | rw [H4.out]))
   go_ret;exact⟨Base.ret_bool (by rw [HO.out,E6.out,E8.out];first | rfl | simp),B1.out _⟩
end De
end
end Go.Proofs.YtadbafppodhfpaaGreatDoor
