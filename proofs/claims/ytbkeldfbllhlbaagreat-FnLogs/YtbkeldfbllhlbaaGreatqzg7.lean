/-
 What the program's own LaceOk, CanTie, HandsOf and AtRound answer, in the words of LaceM, and the lace that it takes a list for, in memory of its own; words of at most 2^40 bytes.
-/
import Derived.Test.YtbkeldfbllhlbaaGreatqzg6
set_option linter.unusedVariables false
set_option maxRecDepth 100000
set_option maxHeartbeats 3200000
namespace Go.Proofs.YtbkeldfbllhlbaaGreat
open Go.RowKit
namespace Cur
theorem and_bd(n m:Int)(h0:0≤m)(h1:m<9223372036854775808):0≤bits .and .i64 n m∧bits .and .i64 n m≤m:=by
 obtain⟨M,rfl⟩:=Int.eq_ofNat_of_zero_le h0;have hM:(BitVec.ofInt 64 (M:Int)).toNat=M:=ofInt_u64 M (by omega);have hx:(BitVec.ofInt 64 n &&& BitVec.ofInt 64 (M:Int)).toNat≤M:=by
  rw [BitVec.toNat_and,hM];exact Nat.and_le_right
 have e:bits .and .i64 n (M:Int)=IntKind.i64.wrap ((BitVec.ofInt 64 n &&& BitVec.ofInt 64 (M:Int)).toNat:Int):=rfl;rw [e];generalize (BitVec.ofInt 64 n &&& BitVec.ofInt 64 (M:Int)).toNat=x at hx;simp only [IntKind.wrap,IntKind.bits,IntKind.signed];simp;omega
def Bytes(w:World)(c:Nat)(a:Option Addr)(len:Nat):Prop:=
 len=0∨∃b off,a=some ⟨b,off,none⟩∧b≠c∧b<w.heap.size∧∀j,j<len→∃z:Int,w.cell? ⟨b,off+j,none⟩=some (.int .u8 z)∧0≤z∧z≤255
structure At(c:Nat)(a:Option Addr)(len cap:Nat)(w:World):Prop where
 lt:c<w.heap.size
 b:w.cell? ⟨c,0,none⟩=some (.slice a len cap)
 i:∃i:Int,w.cell? ⟨c,1,none⟩=some (.int .i64 i)∧0≤i∧i≤(len:Int)
 h:∃h:Int,w.cell? ⟨c,2,none⟩=some (.int .i64 h)∧-9223372036854775808≤h∧h≤9223372036854775807
 f1:w.frozen? ⟨c,1,none⟩=false
 f2:w.frozen? ⟨c,2,none⟩=false
 bytes:Bytes w c a len
theorem At.below{c:Nat}{a:Option Addr}{len cap:Nat}{w w':World}(h:At c a len cap w)(hb:Below w.heap.size w w'):At c a len cap w' where
 lt:=Nat.lt_of_lt_of_le h.lt hb.size
 b:=(hb.cell (p:=⟨c,0,none⟩) h.lt).trans h.b
 i:=by obtain⟨i,h1,h2⟩:=h.i;exact⟨i,(hb.cell (p:=⟨c,1,none⟩) h.lt).trans h1,h2⟩
 h:=by obtain⟨i,h1,h2⟩:=h.h;exact⟨i,(hb.cell (p:=⟨c,2,none⟩) h.lt).trans h1,h2⟩
 f1:=(hb.frozen (p:=⟨c,1,none⟩) h.lt).trans h.f1
 f2:=(hb.frozen (p:=⟨c,2,none⟩) h.lt).trans h.f2
 bytes:=by
  rcases h.bytes with h0 | ⟨b,off,ha,hne,hlt,hc⟩
  ·exact .inl h0
  ·refine .inr ⟨b,off,ha,hne,Nat.lt_of_lt_of_le hlt hb.size,fun j hj=>?_⟩;obtain⟨z,h1,h2⟩:=hc j hj;exact⟨z,(hb.cell (p:=⟨b,off+j,none⟩) hlt).trans h1,h2⟩
theorem At.drewN{c:Nat}{a:Option Addr}{len cap:Nat}{w:World}(h:At c a len cap w)(n:Nat):At c a len cap (w.drewN n):=⟨h.lt,h.b,h.i,h.h,h.f1,h.f2,h.bytes⟩
theorem At.setI{c:Nat}{a:Option Addr}{len cap:Nat}{w:World}(h:At c a len cap w)(i:Int)(h0:0≤i)(h1:i≤(len:Int)):At c a len cap (w.setCell ⟨c,1,none⟩ (.int .i64 i)) where
 lt:=by simpa using h.lt
 b:=(World.cell?_setCell_other _ _ _ _ (by simp)).trans h.b
 i:=by obtain⟨j,hj,_⟩:=h.i;exact⟨i,World.cell?_setCell_same _ _ _ hj,h0,h1⟩
 h:=by obtain⟨j,hj,hh⟩:=h.h;exact⟨j,(World.cell?_setCell_other _ _ _ _ (by simp)).trans hj,hh⟩
 f1:=by simpa using h.f1
 f2:=by simpa using h.f2
 bytes:=by
  rcases h.bytes with h0 | ⟨b,off,ha,hne,hlt,hc⟩
  ·exact .inl h0
  ·refine .inr ⟨b,off,ha,hne,by simpa using hlt,fun j hj=>?_⟩;obtain⟨z,h1,h2⟩:=hc j hj;exact⟨z,(World.cell?_setCell_other _ _ _ _ (by simp)).trans h1,h2⟩
theorem At.setH{c:Nat}{a:Option Addr}{len cap:Nat}{w:World}(h:At c a len cap w)(i:Int)(h0:-9223372036854775808≤i)(h1:i≤9223372036854775807):At c a len cap (w.setCell ⟨c,2,none⟩ (.int .i64 i)) where
 lt:=by simpa using h.lt
 b:=(World.cell?_setCell_other _ _ _ _ (by simp)).trans h.b
 i:=by obtain⟨j,hj,hh⟩:=h.i;exact⟨j,(World.cell?_setCell_other _ _ _ _ (by simp)).trans hj,hh⟩
 h:=by obtain⟨j,hj,_⟩:=h.h;exact⟨i,World.cell?_setCell_same _ _ _ hj,h0,h1⟩
 f1:=by simpa using h.f1
 f2:=by simpa using h.f2
 bytes:=by
  rcases h.bytes with h0 | ⟨b,off,ha,hne,hlt,hc⟩
  ·exact .inl h0
  ·refine .inr ⟨b,off,ha,hne,by simpa using hlt,fun j hj=>?_⟩;obtain⟨z,h1,h2⟩:=hc j hj;exact⟨z,(World.cell?_setCell_other _ _ _ _ (by simp)).trans h1,h2⟩
theorem grownBy_trans{a b d:World}{r:Option Nat}(h:a.grownBy b r)(k:b.grownBy d r):a.grownBy d r where
 os:=k.os.trans h.os
 tape:=k.tape.trans h.tape
 output:=k.output.trans h.output
 size:=Nat.le_trans h.size k.size
 block:=fun j hj hne=>(k.block j (Nat.lt_of_lt_of_le hj h.size) hne).trans (h.block j hj hne)
theorem grownBy_drewN{a b:World}{r:Option Nat}(h:a.grownBy b r)(n:Nat):a.grownBy (b.drewN n) r:=⟨h.os,h.tape,h.output,h.size,h.block⟩
theorem grownBy_set{a b:World}{c:Nat}(h:a.grownBy b (some c))(j:Nat)(u:Value):a.grownBy (b.setCell ⟨c,j,none⟩ u) (some c) where
 os:=h.os
 tape:=h.tape
 output:=h.output
 size:=by simpa using h.size
 block:=fun k hk hne=>(heap_setCell_other b ⟨c,j,none⟩ k u (fun e=>hne (by simp [e]))).trans (h.block k hk hne)
theorem wrap64_bd(n:Int):-9223372036854775808≤wrap64 n∧wrap64 n≤9223372036854775807:=by unfold wrap64;omega
theorem byte(c:Nat)(a:Option Addr)(len cap:Nat)(w:World)(hl:len≤4096)(hc:At c a len cap w) :
  Calls Tryz.prog 102 #[.pointer (some ⟨c,0,none⟩)] w fun e w'=>∃x:Int,e=.returned (.int .i64 x)∧0≤x∧x≤255∧At c a len cap w'∧w.grownBy w' (some c):=by
 obtain⟨h,ch,hh0,hh1⟩:=hc.h;have f2:=hc.f2;have hb:=wrap64_bd (wrap64 (h*6364136223846793005)+1442695040888963407);have A1:At c a len cap (w.setCell ⟨c,2,none⟩ (.int .i64 (wrap64 (wrap64 (h*6364136223846793005)+1442695040888963407)))):=hc.setH _ hb.1 hb.2;have G1:w.grownBy (w.setCell ⟨c,2,none⟩ (.int .i64 (wrap64 (wrap64 (h*6364136223846793005)+1442695040888963407)))) (some c):=grownBy_set (World.grownBy.refl _ _) _ _;clear hb;have HA:Hid _:=A1;have HG:Hid _:=G1;clear A1 G1;go_enter Tryz.func102,Tryz.ntmps102
 go_wp2_with fail
 clear ch f2 hc hh0 hh1;generalize w.setCell ⟨c,2,none⟩ (.int .i64 (wrap64 (wrap64 (h*6364136223846793005)+1442695040888963407)))=w1 at HA HG ⊢;generalize wrap64 (wrap64 (h*6364136223846793005)+1442695040888963407)=h1;generalize wrap64 (h*6364136223846793005)=h2;have A1:=HA.out;clear HA;obtain⟨i,ci,hi0,hi1⟩:=A1.i;obtain⟨h,ch,hh0,hh1⟩:=A1.h;have cb:=A1.b;have f1:=A1.f1;have HA:Hid (At c a len cap w1):=A1;clear A1;go_quiet (fail)
 have hx:=and_bd (bits .xor .i64 (h / 8589934592) (h / 35184372088832)) 255 (by omega) (by omega);go_wp2_with fail
 generalize bits .and .i64 (bits .xor .i64 (h / 8589934592) (h / 35184372088832)) 255=x0 at hx ⊢;obtain⟨hx0,hx1⟩:=hx;by_cases hlt:i<(len:Int)
 ·obtain⟨b,off,ha,hcell⟩:∃b off,a=some ⟨b,off,none⟩∧∀j,j<len→∃z:Int,w1.cell? ⟨b,off+j,none⟩=some (.int .u8 z)∧0≤z∧z≤255:=by
   rcases HA.out.bytes with h | ⟨b,off,ha,_,_,hcell⟩
   ·exfalso;omega
   ·exact⟨b,off,ha,hcell⟩
  subst ha;obtain⟨z,cz,hz0,hz1⟩:=hcell i.toNat (by omega);clear hcell;have HB:Hid (At c (some ⟨b,off,none⟩) len cap (w1.setCell ⟨c,1,none⟩ (.int .i64 (i+1)))):=HA.out.setI (i+1) (by omega) (by omega);have HS:Hid (w.grownBy (w1.setCell ⟨c,1,none⟩ (.int .i64 (i+1))) (some c)):=grownBy_set HG.out _ _;go_quiet (fail)
  go_wp2_with fail
  go_quiet (fail)
  have hy:=and_bd (x0+z) 255 (by omega) (by omega);go_wp2;go_ret;exact⟨_,rfl,hy.1,hy.2,HB.out.drewN _,grownBy_drewN HS.out _⟩
 ·go_quiet (fail)
  go_wp2;go_ret;exact⟨_,rfl,hx0,hx1,HA.out.drewN _,grownBy_drewN HG.out _⟩
theorem below(c:Nat)(a:Option Addr)(len cap:Nat)(n:Int)(w:World)(hl:len≤4096)(hn:n≤1000000000000)(hc:At c a len cap w) :
  Calls Tryz.prog 71 #[.pointer (some ⟨c,0,none⟩),.int .i64 n] w fun e w'=>∃x:Int,e=.returned (.int .i64 x)∧0≤x∧(0<n→x<n)∧At c a len cap w'∧w.grownBy w' (some c):=by
 by_cases h0:n≤0
 ·go_enter Tryz.func71,Tryz.ntmps71
  go_wp2_with fail
  go_ret;exact⟨0,rfl,by omega,by omega,hc,World.grownBy.refl _ _⟩
 ·by_cases h1:n≤256
  ·go_enter Tryz.func71,Tryz.ntmps71
   go_wp2_with fail
   refine(byte c a len cap _ hl hc).mono ?_;rintro e w1 ⟨x,rfl,hx0,hx1,hA,hG⟩;have m0:=Int.emod_nonneg x (show n≠0 by omega);have m1:=Int.emod_lt_of_pos x (show 0<n by omega);go_wp2;go_ret;exact⟨x % n,rfl,m0,fun _=>m1,hA,hG⟩
  ·go_enter Tryz.func71,Tryz.ntmps71
   go_wp2_with fail
   refine(byte c a len cap _ hl hc).mono ?_;rintro e w1 ⟨x,rfl,hx0,hx1,hA,hG⟩;go_wp2_with fail
   refine(byte c a len cap _ hl hA).mono ?_;rintro e w2 ⟨y,rfl,hy0,hy1,hA2,hG2⟩;go_wp2_with fail
   refine(byte c a len cap _ hl hA2).mono ?_;rintro e w3 ⟨z,rfl,hz0,hz1,hA3,hG3⟩;go_wp2_with fail
   refine(byte c a len cap _ hl hA3).mono ?_;rintro e w4 ⟨u,rfl,hu0,hu1,hA4,hG4⟩;have m0:=Int.emod_nonneg (x*16777216+y*65536+z*256+u) (show n≠0 by omega);have m1:=Int.emod_lt_of_pos (x*16777216+y*65536+z*256+u) (show 0<n by omega);go_wp2;go_ret;exact⟨(x*16777216+y*65536+z*256+u) % n,rfl,m0,fun _=>m1,hA4,grownBy_trans (grownBy_trans (grownBy_trans hG hG2) hG3) hG4⟩
theorem once(c:Nat)(a:Option Addr)(len cap:Nat)(n:Int)(w:World)(hl:len≤4096)(hn:n≤1000000000000)(hc:At c a len cap w) :
  Calls Tryz.prog 70 #[.pointer (some ⟨c,0,none⟩),.int .i64 n] w fun e w'=>∃b:Bool,e=.returned (.bool b)∧At c a len cap w'∧w.grownBy w' (some c):=by
 go_enter Tryz.func70,Tryz.ntmps70
 go_wp2_with fail
 refine(below c a len cap n _ hl hn hc).mono ?_;rintro e w1 ⟨x,rfl,hx0,hx1,hA,hG⟩;go_wp2;go_ret;exact⟨_,rfl,hA,hG⟩
def Code(w:World)(a:Option Addr)(len:Nat):Prop:=
 len=0∨∃b off,a=some ⟨b,off,none⟩∧b<w.heap.size∧∀j,j<len→∃z:Int,w.cell? ⟨b,off+j,none⟩=some (.int .u8 z)∧0≤z∧z≤255
theorem at_new(w:World)(a:Option Addr)(len cap:Nat)(h:Int)(h0:-9223372036854775808≤h)(h1:h≤9223372036854775807)(hc:Code w a len) :
  At w.heap.size a len cap (w.alloc (.cells #[.slice a len cap,.int .i64 0,.int .i64 h] 113)) where
 lt:=by simp
 b:=by simp
 i:=⟨0,by simp,by omega,by omega⟩
 h:=⟨h,by simp,h0,h1⟩
 f1:=by simp
 f2:=by simp
 bytes:=by
  rcases hc with hc | ⟨b,off,ha,hb,hcell⟩
  ·exact .inl hc
  ·refine .inr ⟨b,off,ha,by omega,by simp;omega,fun j hj=>?_⟩;obtain⟨z,hz,hz'⟩:=hcell j hj;exact⟨z,(World.cell?_alloc_lt w _ ⟨b,off+j,none⟩ hb).trans hz,hz'⟩
theorem new(a:Option Addr)(len cap:Nat)(w:World)(hl:len≤4096)(hc:Code w a len) :
  Calls Tryz.prog 51 #[.slice a len cap] w fun e w'=>e=.returned (.pointer (some ⟨w.heap.size,0,none⟩))∧At w.heap.size a len cap w'∧Below w.heap.size w w':=by
 go_enter Tryz.func51,Tryz.ntmps51
 go_wp2;go_loop [3,4] (fun v i=>∃(k:Nat) (h:Int),k≤len∧i=.int .i64 k∧v=.int .i64 h∧0≤h∧h≤1073741823) (fun _ i=>len-(intOf i).toNat)
 case atStart=>exact⟨0,_,by omega,rfl,rfl,by omega,by omega⟩
 case round=>
  obtain⟨k,h,hk,rfl,rfl,hh0,hh1⟩:=hrel;by_cases hlt:k<len
  ·rcases hc with hc | ⟨b,off,rfl,hb,hcell⟩
   ·exfalso;omega
   ·obtain⟨z,cz,hz0,hz1⟩:=hcell k hlt;clear hcell;have hy:=and_bd (h*137+z+11) 1073741823 (by omega) (by omega);go_wp2;go_round
    case rel=>exact⟨k+1,_,by omega,by go_num,rfl,hy.1,hy.2⟩
    case measure=>simp [intOf];omega
  ·go_wp2;go_ret;exact⟨rfl,at_new w a len cap h (by omega) (by omega) hc,(Below.refl _ _).alloc (Nat.le_refl _) _⟩
end Cur
namespace Lsx
open Memb (Own)
open Lst (Rd own_block own_rd own_below)
end Lsx
namespace Nu
open Kn (K)
open Db (RowI)
def RdI(w:World)(ao:Option Addr)(C:List Int):Prop:=C=[]∨∃g off,ao=some ⟨g,off,none⟩∧g<w.heap.size∧∀j,j<C.length→w.cell? ⟨g,off+j,none⟩=some (.int .i64 (C.getD j 0))
theorem RdI.below{w w':World}{ao:Option Addr}{C:List Int}(h:RdI w ao C)(hb:Below w.heap.size w w'):RdI w' ao C:=by
 rcases h with h | ⟨g,off,e,hg,hc⟩
 ·exact .inl h
 ·exact .inr ⟨g,off,e,Nat.lt_of_lt_of_le hg hb.size,fun j hj=>(hb.cell (p:=⟨g,off+j,none⟩) hg).trans (hc j hj)⟩
theorem below_drewN{b:Nat}{a w:World}(h:Below b a w)(n:Nat):Below b a (w.drewN n):=⟨h.os,h.tape,h.output,h.size,h.block⟩
theorem own_below{B:Nat}{w w':World}{ao:Option Addr}{cap:Nat}{l:List Int}(h:Memb.Own B w ao cap l)(hb:Below w.heap.size w w'):Memb.Own B w' ao cap l:=Lst.own_below h hb
theorem own_base{B B':Nat}{w:World}{ao:Option Addr}{cap:Nat}{l:List Int}(h:Memb.Own B w ao cap l)(hB:B'≤B):Memb.Own B' w ao cap l:=by
 obtain⟨h1,h2 | ⟨g,cp,cur,e,hg,r⟩⟩:=h
 ·exact⟨h1,.inl h2⟩
 ·exact⟨h1,.inr ⟨g,cp,cur,e,Nat.le_trans hB hg,r⟩⟩
end Nu
namespace Tl
open Kn (K okK)
open Bit (bit withB memTo)
open Lc (at' RdK WordsOk laceB setB)
open Sg (isB bel belows NumsPost)
open Ch (chainL)
theorem orderedI_len(L:List K)(s:Int):(orderedI L s).length≤60:=by
 unfold orderedI;split
 ·rw [ord_len];exact Bit.memTo_le _ 60
 ·simp
theorem taleF_len(L:List K):∀(l:List Int) (e:Int),(taleF L e l).length≤60*l.length:=by
 intro l;induction l with
 | nil=>intro e;exact Nat.le_refl _
 | cons c r ih=>
  intro e;show(freshL L c e++taleF L c r).length≤_;have h1:=fresh_len L c e;have h2:=ih c;rw [List.length_append,List.length_cons];omega
theorem taleI_len(L:List K)(C:List Int)(k:Int):(taleI L C k).length≤3660:=by
 have hc:=@Ch.chainI_len L C k;unfold taleI;split
 ·rename_i h;have e:Ch.chainI L C k=chainL L C k:=by unfold Ch.chainI;rw [if_pos h]
  rw [e] at hc;have:=taleF_len L (chainL L C k) (-1);unfold taleL;omega
 ·simp
theorem outI_len(L:List K)(C:List Int)(s:Int):(outI L C s).length≤3660:=by
 unfold outI;split
 ·rename_i h;unfold Fm.rightB at h;rw [Bool.and_eq_true] at h;rcases last_spec L C s L.length with⟨q,_⟩ | ⟨f,q,hf,_⟩
  ·rw [out_none (by rw [q];omega)];simp
  ·rw [out_some (by rw [q];omega),q];have hl:=(Fm.closed_set h.1).1;have hon:Ch.onB L C (f:Int)=true:=by
    unfold Ch.onB;rw [h.2];unfold Sg.isB;rw [hl];simp;omega
   have:=taleI_len L C (f:Int);unfold taleI at this;rw [if_pos hon] at this;exact this
 ·simp
theorem l12OutE(g off cap:Nat)(ao:Option Addr)(cc:Nat)(C:List Int)(s:Int)(w:World)(hg:g<w.heap.size)(hrd:Lst.Rd w ao C)(hao:∀c,ao=some ⟨c,0,none⟩→c<w.heap.size)(h0:0≤s)(h1:s<1152921504606846976) :
  Calls Tryz.prog 38 #[.slice (some ⟨g,off,none⟩) 0 cap,.slice ao C.length cc,.int .i64 s] w (NumsPost [] w):=by
 have hl:laceB ([]:List K)=true:=rfl;have HRD:Hid (∀W:World,Below w.heap.size w W→Lst.Rd W ao C∧∀c,ao=some ⟨c,0,none⟩→c<W.heap.size):=fun W hW=>⟨Ch.rd_below hrd hao hW,fun c e=>Nat.lt_of_lt_of_le (hao c e) hW.size⟩
 have HN:Hid (∀W:World,RdK W (some ⟨g,off,none⟩) ([]:List K)):=fun W=>.inl rfl
 have HB4:Hid (Calls Tryz.prog 48 #[.slice (some ⟨g,off,none⟩) 0 cap] w (NumsPost [] w)):=Sg.l4All (some ⟨g,off,none⟩) cap [] w (by simp) (Sg.frm_lace hl) (HN.out w);clear hrd hao;go_enter Tryz.func38,Tryz.ntmps38
 go_wp2_with fail
 refine HB4.out.mono ?_;rintro e w1 ⟨bo,bc,rfl,hown,hb1⟩;have h7:Calls Tryz.prog 77 #[.slice (some ⟨g,off,none⟩) 0 cap,.slice bo 0 bc] w1 (Sl.SealPost [] w1):=Sl.l7All g off cap [] bo bc w1 hl (HN.out w1) (.inl rfl) (fun c e=>by subst e;exact(World.ownsRow.lt hown c rfl).2);clear hown HB4;simp only [List.length_nil] at *;go_wp2_with fail
 refine h7.mono ?_;rintro e w2 ⟨h,O,rfl,_,hrow,hO,hb2⟩;have hB2:=hb1.trans (hb2.mono hb1.size);have h9:Calls Tryz.prog 76 #[.slice (some ⟨g,off,none⟩) 0 cap,.slice ao C.length cc,.slice (some ⟨h,0,none⟩) 0 0,.int .i64 s] w2 (NumsPost [] w2):=Fm.l9Firm g off cap [] ao cc C h O s w2 hl (HN.out w2) (Nat.lt_of_lt_of_le hg hB2.size) (HRD.out w2 hB2).1 (HRD.out w2 hB2).2 hrow hO h0 h1;clear h7 hb1 hb2 hrow hO;simp only [List.length_nil] at *;go_wp2_with fail
 refine h9.mono ?_;rintro e w3 ⟨fo,fc,rfl,hof,hb3⟩;have hB3:=hB2.trans (hb3.mono hB2.size);have hla:Calls Tryz.prog 41 #[.slice (some ⟨g,off,none⟩) 0 cap,.slice fo 0 fc] w3 fun e w'=>e=.returned (.int .i64 (-1))∧∃n,w'=w3.drewN n:=Fm.l9Last g off cap [] fo fc [] w3 (fun x hx=>absurd hx (by simp)) (by simp) (HN.out w3) (.inl rfl)
 clear h9 hof hb3 hB2;simp only [List.length_nil] at *;go_wp2_with fail
 refine hla.mono ?_;rintro e w4 ⟨rfl,n4,rfl⟩;have HB4:Hid (Below w.heap.size w (w3.drewN n4)):=Db.below_drewN hB3 n4;clear hla hB3;generalize w3.drewN n4=V at HB4 ⊢;have HP:Hid _:=Ch.nums_nil HB4.out;go_wp2;go_ret;exact⟨some ⟨V.heap.size,0,none⟩,0,rfl,HP.out.1,HP.out.2⟩
theorem specOutOf(g off cap:Nat)(L:List K)(ao:Option Addr)(cc:Nat)(C:List Int)(s:Int)(w:World)(hcap:L.length≤cap)(hw:WordsOk L)(hg:g<w.heap.size)(hr:RdK w (some ⟨g,off,none⟩) L)(hC:C.length≤1048576)(hrd:Lst.Rd w ao C)(hao:∀c,ao=some ⟨c,0,none⟩→c<w.heap.size) :
  Calls Tryz.prog 11 #[.slice (some ⟨g,off,none⟩) L.length cap,.slice ao C.length cc,.int .i64 s] w (NumsPost (outI L C s) w):=by
 have HRD:Hid (∀W:World,Below w.heap.size w W→Lst.Rd W ao C∧∀c,ao=some ⟨c,0,none⟩→c<W.heap.size):=fun W hW=>⟨Ch.rd_below hrd hao hW,fun c e=>Nat.lt_of_lt_of_le (hao c e) hW.size⟩
 have hcall:=Fm.l9Right g off cap L ao cc C s w hcap hw hr hC hrd hao;have HR:Hid (RdK w (some ⟨g,off,none⟩) L):=hr;clear hrd hao hr;go_enter Tryz.func11,Tryz.ntmps11
 go_wp2_with fail
 refine hcall.mono ?_;rintro e w1 ⟨rfl,hb1⟩;clear hcall
 cases hq:Fm.rightB L C s
 ·have HT:Hid (outI L C s=[]):=by show _=_;unfold outI;rw [hq];rfl
  have HP:Hid _:=Ch.nums_nil hb1;clear hq;go_wp2;go_ret;rw [HT.out];exact⟨some ⟨w1.heap.size,0,none⟩,0,rfl,HP.out.1,HP.out.2⟩
 ·have HT:Hid (outI L C s=outL L C s):=by show _=_;unfold outI;rw [hq];rfl
  unfold Fm.rightB at hq;rw [Bool.and_eq_true] at hq;obtain⟨hlc,s0,s1⟩:=Fm.closed_set hq.1;have hE:Calls Tryz.prog 38 #[.slice (some ⟨g,off,none⟩) L.length cap,.slice ao C.length cc,.int .i64 s] w1 (NumsPost (outL L C s) w1):=by
   by_cases hN:0<L.length
   ·exact l12Out g off cap L ao cc C s w1 hlc hN (Nat.lt_of_lt_of_le hg hb1.size) (HR.out.below hb1) (HRD.out w1 hb1).1 (HRD.out w1 hb1).2 s0 s1
   ·obtain rfl:L=[]:=List.length_eq_zero_iff.1 (by omega);exact l12OutE g off cap ao cc C s w1 (Nat.lt_of_lt_of_le hg hb1.size) (HRD.out w1 hb1).1 (HRD.out w1 hb1).2 s0 s1
  clear hq hlc;generalize hol:outL L C s=ol at hE HT;have HOL:Hid (outL L C s=ol):=hol;clear hol;go_wp2_with fail
  refine hE.mono ?_;rintro e w4 ⟨ro,rc,rfl,hown,hb4⟩;have HP:Hid (Memb.Own w.heap.size w4 ro rc ol∧Below w.heap.size w w4):=⟨Ch.own_base hown hb1.size,hb1.trans (hb4.mono hb1.size)⟩
  clear hE hb4 hown;go_wp2;go_ret;rw [HT.out];exact⟨ro,rc,rfl,HP.out.1,HP.out.2⟩
def beginsB(a b:List Int):Bool:=decide (b.length≤a.length)&&(List.range b.length).all fun i=>a.getD i 0 == b.getD i 0
theorem begins_long{a b:List Int}(h:a.length<b.length):beginsB a b=false:=by
 unfold beginsB;rw [decide_eq_false (by omega)];rfl
theorem begins_no{a b:List Int}(j:Nat)(hj:j<b.length)(h:(a.getD j 0 == b.getD j 0)=false):beginsB a b=false:=by
 rw [Bool.eq_false_iff];intro hb;unfold beginsB at hb;rw [Bool.and_eq_true,List.all_eq_true] at hb;have:=hb.2 j (by simpa using hj);rw [h] at this;exact Bool.noConfusion this
theorem begins_yes{a b:List Int}(hl:b.length≤a.length)(h:∀j,j<b.length→(a.getD j 0 == b.getD j 0)=true):beginsB a b=true:=by
 unfold beginsB;rw [decide_eq_true hl,Bool.true_and,List.all_eq_true];intro j hj;exact h j (by simpa using hj)
theorem specBegins(ao:Option Addr)(ca:Nat)(A:List Int)(bo:Option Addr)(cb:Nat)(D:List Int)(w:World)(hA:A.length≤1048576)(hD:D.length≤1048576)(ha:Lst.Rd w ao A)(hb:Lst.Rd w bo D) :
  Calls Tryz.prog 29 #[.slice ao A.length ca,.slice bo D.length cb] w fun e w'=>e=.returned (.bool (beginsB A D))∧Below w.heap.size w w':=by
 by_cases hlong:A.length<D.length
 ·have HT:Hid (beginsB A D=false):=begins_long hlong;have hl':(A.length:Int)<(D.length:Int):=by omega
  go_enter Tryz.func29,Tryz.ntmps29
  go_wp2;go_ret;exact⟨by rw [HT.out];rfl,Below.refl _ _⟩
 ·have hl':¬ (A.length:Int)<(D.length:Int):=by omega
  have hle:D.length≤A.length:=by omega
  clear hlong;go_enter Tryz.func29,Tryz.ntmps29
  go_wp2;go_loopw [5] (fun i wr=>∃j n:Nat,j≤D.length∧i=.int .i64 j∧wr=w.drewN n∧Hid (∀q,q<j→(A.getD q 0 == D.getD q 0)=true)) (fun i _=>D.length-(intOf i).toNat)
  case atStart=>exact⟨0,0,by omega,rfl,rfl,fun q hq=>absurd hq (by omega)⟩
  case round=>
   obtain⟨j,n,hj,rfl,rfl,HE⟩:=hrel;by_cases hlt:j<D.length
   ·rcases ha with h | ⟨g,rfl,hc⟩
    ·exfalso;rw [h] at hle;simp at hle;rw [hle] at hlt;simp at hlt
    rcases hb with h | ⟨g',rfl,hc'⟩
    ·exfalso;rw [h] at hlt;simp at hlt
    have h1:=hc j (by omega);have h2:=hc' j hlt;have HNO:Hid ((A.getD j 0 == D.getD j 0)=false→beginsB A D=false):=begins_no j hlt;have HST:Hid ((A.getD j 0 == D.getD j 0)=true→∀q,q<j+1→(A.getD q 0 == D.getD q 0)=true):=fun h q hq=>by
     by_cases e:q=j
     ·subst e;exact h
     ·exact HE.out q (by omega)
    have hjA:(j:Int)<(A.length:Int):=by omega
    clear hc hc' HE;generalize A.getD j 0=x at h1 HNO HST;generalize D.getD j 0=y at h2 HNO HST
    cases hxy:(x == y)
    ·have HT:Hid (beginsB A D=false):=HNO.out hxy;clear HNO HST;go_wp2_with fail
     go_quiet (fail)
     go_wp2;go_ret;exact⟨by rw [HT.out];rfl,by first | exact Nu.below_drewN (Below.refl _ _) _ | exact Nu.below_drewN (Nu.below_drewN (Below.refl _ _) _) _⟩
    ·have HS2:Hid (_):=HST.out hxy;clear HNO HST;go_wp2_with fail
     go_quiet (fail)
     go_wp2;go_roundw
     case rel=>exact⟨j+1,_,by omega,by go_num,rfl,HS2⟩
     case measure=>simp [intOf];omega
   ·obtain rfl:j=D.length:=by omega
    have HT:Hid (beginsB A D=true):=begins_yes hle HE.out;clear HE;go_wp2;go_ret;exact⟨by rw [HT.out];rfl,by first | exact Nu.below_drewN (Below.refl _ _) _ | exact Nu.below_drewN (Nu.below_drewN (Below.refl _ _) _) _⟩
end Tl
namespace Rm
open Kn (K okK)
open Bit (bit)
open Lc (at' RdK roundS handsN HandsOk amongI)
theorem l3RoundO(ao:Option Addr)(cap:Nat)(L:List K)(s r:Int)(w:World)(hL:L.length≤60)(hr:RdK w ao L)(h0:0≤s)(h1:s<1152921504606846976):Calls Tryz.prog 107 #[.slice ao L.length cap,.int .i64 s,.int .i64 r] w fun e w'=>
  e=.returned (.int .i64 (roundS L s r))∧w=w':=by
 rcases hr with h | ⟨g,off,rfl,hg,hc⟩
 ·subst h;have HT:Hid (roundS [] s r=0):=rfl;go_enter Tryz.func107,Tryz.ntmps107
  go_wp2;go_loop [7,8] (fun o i=>o=.int .i64 0∧i=.int .i64 0) (fun _ _=>0)
  case atStart=>exact⟨rfl,rfl⟩
  case round=>
   obtain⟨rfl,rfl⟩:=hrel;go_wp2;go_ret;exact⟨by rw [HT.out];rfl,rfl⟩
 ·exact Lc.l3Round g off cap L s r w hL (.inr ⟨g,off,rfl,hg,hc⟩) h0 h1
def lastTo(L:List K)(who s:Int):Nat→Int
 | 0=>-1
 | n+1=>if bit s n&&(decide ((at' L n).hand=who)&&(decide (lastTo L who s n<0) || decide ((at' L (lastTo L who s n).toNat).round<(at' L n).round))) then (n:Int) else lastTo L who s n
theorem lastTo_bd(L:List K)(who s:Int)(n:Nat):-1≤lastTo L who s n∧lastTo L who s n<(n:Int):=by
 induction n with
 | zero=>simp [lastTo]
 | succ n ih=>unfold lastTo;split <;> omega
theorem has_call(f:Int)(i:Nat)(b:Bool)(h0:0≤f)(h1:f<1152921504606846976)(hi:i≤60)(hb:bit f i=b)(W:World):Calls Tryz.prog 45 #[.int .i64 f,.int .i64 (i:Int)] W fun e w'=>e=.returned (.bool b)∧w'=W:=by
 refine(Base.l1Has f (i:Int) W h0 h1 (by omega) (by omega)).mono ?_;rintro e w' ⟨rfl,rfl⟩;exact⟨by rw [Int.toNat_natCast,hb],rfl⟩
theorem l13Last(ao:Option Addr)(cap:Nat)(L:List K)(who s:Int)(w:World)(hL:L.length≤60)(hr:RdK w ao L)(h0:0≤s)(h1:s<1152921504606846976):Calls Tryz.prog 179 #[.slice ao L.length cap,.int .i64 who,.int .i64 s] w fun e w'=>
  e=.returned (.int .i64 (lastTo L who s L.length))∧∃n,w'=w.drewN n:=by
 go_enter Tryz.func179,Tryz.ntmps179
 go_wp2;go_loopw [7,8] (fun o i wr=>∃j n:Nat,j≤L.length∧i=.int .i64 j∧o=.int .i64 (lastTo L who s j)∧wr=w.drewN n) (fun _ i _=>L.length-(intOf i).toNat)
 case atStart=>exact⟨0,0,by omega,rfl,rfl,rfl⟩
 case round=>
  obtain⟨j,n,hj,rfl,rfl,rfl⟩:=hrel;by_cases hlt:j<L.length
  ·have hrl:=hr;obtain⟨g,off,rfl,hg,hc⟩:=hr.at j hlt;have hbd:=lastTo_bd L who s j;have HST:Hid (lastTo L who s (j+1)=if bit s j&&(decide ((at' L j).hand=who)&&(decide (lastTo L who s j<0) || decide ((at' L (lastTo L who s j).toNat).round<(at' L j).round))) then (j:Int) else lastTo L who s j):=rfl;obtain⟨c0,c1,_,_⟩:=hc;clear hr;generalize lastTo L who s j=x at hbd HST ⊢
   cases hb:bit s j
   ·have HS:Hid (lastTo L who s (j+1)=x):=by show _=_;rw [HST.out,hb];rfl
    have hcall:=has_call s j false h0 h1 (by omega) hb;clear hb HST;go_wp2_with fail
    go_quiet (first | (go_at_call 45;exact(hcall _).mono fun _ _ h=>⟨h.1,_,h.2⟩))
    go_wp2;go_roundw
    case rel=>exact⟨j+1,n+nq,by omega,by go_num,by rw [HS.out],by simp⟩
    case measure=>simp [intOf];omega
   ·have hcall:=has_call s j true h0 h1 (by omega) hb;by_cases hq:(at' L j).hand=who
    ·have hq1:((at' L j).hand == who)=true:=by simpa using hq
     by_cases hx:x<0
     ·have HS:Hid (lastTo L who s (j+1)=(j:Int)):=by show _=_;rw [HST.out,hb];simp [hq,hx]
      clear hb HST hq;go_wp2_with fail
      go_quiet (first | (go_at_call 45;exact(hcall _).mono fun _ _ h=>⟨h.1,_,h.2⟩))
      go_wp2;go_roundw
      case rel=>exact⟨j+1,n+nq,by omega,by go_num,by rw [HS.out],by simp⟩
      case measure=>simp [intOf];omega
     ·obtain⟨p,rfl⟩:=Int.eq_ofNat_of_zero_le (show 0≤x by omega);have hpl:p<L.length:=by omega
      obtain⟨_,_,e1,_,_⟩:=hrl.on p hpl;have hx1:decide ((p:Int)<0)=false:=decide_eq_false hx;have hpi:(p:Int)<(L.length:Int):=by omega
      by_cases hy:(at' L p).round<(at' L j).round
      ·have HS:Hid (lastTo L who s (j+1)=(j:Int)):=by show _=_;rw [HST.out,hb];simp [hq,hy]
       clear hb HST hq hx;go_wp2_with fail
       go_quiet (first | (go_at_call 45;exact(hcall _).mono fun _ _ h=>⟨h.1,_,h.2⟩))
       go_wp2;go_roundw
       case rel=>exact⟨j+1,n+nq,by omega,by go_num,by rw [HS.out],by simp⟩
       case measure=>simp [intOf];omega
      ·have HS:Hid (lastTo L who s (j+1)=(p:Int)):=by show _=_;rw [HST.out,hb];simp [hy];omega
       have hy1:decide ((at' L p).round<(at' L j).round)=false:=decide_eq_false hy;clear hb HST hq hx;go_wp2_with fail
       go_quiet (first | (go_at_call 45;exact(hcall _).mono fun _ _ h=>⟨h.1,_,h.2⟩))
       go_wp2;go_roundw
       case rel=>exact⟨j+1,n+nq,by omega,by go_num,by rw [HS.out],by simp⟩
       case measure=>simp [intOf];omega
    ·have HS:Hid (lastTo L who s (j+1)=x):=by show _=_;rw [HST.out,hb];simp [hq]
     have hq1:((at' L j).hand == who)=false:=by simpa using hq
     clear hb HST hq;go_wp2_with fail
     go_quiet (first | (go_at_call 45;exact(hcall _).mono fun _ _ h=>⟨h.1,_,h.2⟩))
     go_wp2;go_roundw
     case rel=>exact⟨j+1,n+nq,by omega,by go_num,by rw [HS.out],by simp⟩
     case measure=>simp [intOf];omega
  ·obtain rfl:j=L.length:=by omega
   go_wp2;go_ret;exact⟨rfl,n,rfl⟩
def nextTo(L:List K)(has:Int):Nat→Int
 | 0=>0
 | k+1=>if 3≤handsN L (roundS L has (k:Int)) then ((k+1:Nat):Int) else nextTo L has k
def nextI(L:List K)(has last:Int):Int:=if 0≤last∧nextTo L has 19≤(at' L last.toNat).round then -1 else nextTo L has 19
theorem l14Next(ao:Option Addr)(cap:Nat)(L:List K)(who has kept last:Int)(w:World)(hL:L.length≤60)(hh:HandsOk L)(hr:RdK w ao L)(h0:0≤has)(h1:has<1152921504606846976)(hl:last<(L.length:Int)) :
  Calls Tryz.prog 188 #[.slice ao L.length cap,.agg #[.int .i64 who,.int .i64 has,.int .i64 kept,.int .i64 last]] w fun e w'=>e=.returned (.int .i64 (nextI L has last))∧Below w.heap.size w w':=by
 have P0:Hid (Below w.heap.size w (w.alloc (.cells #[.int .i64 who,.int .i64 has,.int .i64 kept,.int .i64 last] 186))∧(w.alloc (.cells #[.int .i64 who,.int .i64 has,.int .i64 kept,.int .i64 last] 186)).cell? ⟨w.heap.size,1,none⟩=some (.int .i64 has)∧(w.alloc (.cells #[.int .i64 who,.int .i64 has,.int .i64 kept,.int .i64 last] 186)).cell? ⟨w.heap.size,3,none⟩=some (.int .i64 last)∧w.heap.size<(w.alloc (.cells #[.int .i64 who,.int .i64 has,.int .i64 kept,.int .i64 last] 186)).heap.size):=
  ⟨(Below.refl _ _).alloc (Nat.le_refl _) _,by simp,by simp,by simp⟩
 go_enter Tryz.func188,Tryz.ntmps188
 go_wp2;generalize w.alloc (.cells #[.int .i64 who,.int .i64 has,.int .i64 kept,.int .i64 last] 186)=w0 at P0 ⊢;obtain⟨B0,C1,C3,S0⟩:=P0;have hr0:=hr.below B0;generalize hbe:w.heap.size=b at *;go_loopw [5,6] (fun o i wr=>∃j:Nat,j≤19∧i=.int .i64 ((j:Int)+1)∧o=.int .i64 (nextTo L has j)∧Hid (Below w0.heap.size w0 wr)) (fun _ i _=>20-(intOf i).toNat)
 case atStart=>exact⟨0,by omega,rfl,rfl,Below.refl _ _⟩
 case round=>
  obtain⟨j,hj,rfl,rfl,HB⟩:=hrel;have c1:=(HB.out.cell (p:=⟨b,1,none⟩) S0).trans C1;have c3:=(HB.out.cell (p:=⟨b,3,none⟩) S0).trans C3;have HR:Hid (RdK wr ao L):=hr0.below HB.out;by_cases hlt:j<19
  ·have hrb:=Lc.round_bd L has (j:Int) hL;have HST:Hid (nextTo L has (j+1)=if 3≤handsN L (roundS L has (j:Int)) then ((j+1:Nat):Int) else nextTo L has j):=rfl;have hle:(j:Int)+1≤19:=by omega
   clear c3;go_wp2_with fail
   refine(l3RoundO ao cap L has (j:Int) _ hL HR.out h0 h1).mono ?_;rintro e w1 ⟨rfl,rfl⟩;go_wp2_with fail
   refine(Lc.l3Hands ao cap L _ _ hL HR.out hh hrb.1 (by omega)).mono ?_;rintro e w2 ⟨rfl,hb2⟩;have HB2:Hid (Below w0.heap.size w0 w2):=HB.out.trans (hb2.mono HB.out.size);clear hb2 HB HR c1 hrb;by_cases hq:3≤handsN L (roundS L has (j:Int))
   ·have HS:Hid (nextTo L has (j+1)=((j+1:Nat):Int)):=by show _=_;rw [HST.out,if_pos hq]
    clear HST;go_wp2;go_roundw
    case rel=>exact⟨j+1,by omega,by go_num,by rw [HS.out];congr 1,HB2⟩
    case measure=>simp [intOf];omega
   ·have HS:Hid (nextTo L has (j+1)=nextTo L has j):=by show _=_;rw [HST.out,if_neg hq]
    clear HST;go_wp2;go_roundw
    case rel=>exact⟨j+1,by omega,by go_num,by rw [HS.out],HB2⟩
    case measure=>simp [intOf];omega
  ·obtain rfl:j=19:=by omega
   have hle:¬ ((19:Nat):Int)+1≤19:=by omega
   have HT:Hid (nextI L has last=if 0≤last∧nextTo L has 19≤(at' L last.toNat).round then -1 else nextTo L has 19):=rfl;have HBE:Hid (Below b w wr):=B0.trans (HB.out.mono (Nat.le_of_lt S0));generalize nextTo L has 19=x at HT ⊢;by_cases hl0:0≤last
   ·obtain⟨p,rfl⟩:=Int.eq_ofNat_of_zero_le hl0;obtain⟨g,off,rfl,hg,hc⟩:=HR.out.at p (by omega);obtain⟨_,e1,_,_⟩:=hc;rw [Int.toNat_natCast] at HT;by_cases hy:x≤(at' L p).round
    ·have HT2:Hid (nextI L has (p:Int)=-1):=by show _=_;rw [HT.out,if_pos ⟨hl0,hy⟩]
     clear HT;go_wp2;go_ret;exact⟨by rw [HT2.out];rfl,by first | exact HBE.out | (rw [hbe];exact HBE.out)⟩
    ·have HT2:Hid (nextI L has (p:Int)=x):=by show _=_;rw [HT.out,if_neg (fun h=>hy h.2)]
     clear HT;go_wp2;go_ret;exact⟨by rw [HT2.out];rfl,by first | exact HBE.out | (rw [hbe];exact HBE.out)⟩
   ·have HT2:Hid (nextI L has last=x):=by show _=_;rw [HT.out,if_neg (fun h=>hl0 h.1)]
    clear HT;go_wp2;go_ret;exact⟨by rw [HT2.out];rfl,by first | exact HBE.out | (rw [hbe];exact HBE.out)⟩
end Rm
namespace Rm
open Kn (K okK)
open Bit (bit)
open Sg (orB)
open Lc (at' RdK)
theorem andNot_bd(a s:Int)(h0:0≤a)(h1:a<1152921504606846976):0≤bits .andNot .i64 a s∧bits .andNot .i64 a s<1152921504606846976:=by
 obtain⟨A,rfl⟩:=Int.eq_ofNat_of_zero_le h0;have hA:(BitVec.ofInt 64 (A:Int)).toNat=A:=ofInt_u64 A (by omega);have hx:(BitVec.ofInt 64 (A:Int) &&& ~~~ BitVec.ofInt 64 s).toNat≤A:=by
  rw [BitVec.toNat_and,hA];exact Nat.and_le_left
 have e:bits .andNot .i64 (A:Int) s=IntKind.i64.wrap ((BitVec.ofInt 64 (A:Int) &&& ~~~ BitVec.ofInt 64 s).toNat:Int):=rfl;rw [e];generalize (BitVec.ofInt 64 (A:Int) &&& ~~~ BitVec.ofInt 64 s).toNat=x at hx;simp only [IntKind.wrap,IntKind.bits,IntKind.signed];simp;omega
structure HandAt(w:World)(g o:Nat)(who has kept last:Int):Prop where
 lt:g<w.heap.size
 c0:w.cell? ⟨g,o,none⟩=some (.int .i64 who)
 c1:w.cell? ⟨g,o+1,none⟩=some (.int .i64 has)
 c2:w.cell? ⟨g,o+2,none⟩=some (.int .i64 kept)
 c3:w.cell? ⟨g,o+3,none⟩=some (.int .i64 last)
 f0:w.frozen? ⟨g,o,none⟩=false
 f1:w.frozen? ⟨g,o+1,none⟩=false
 f2:w.frozen? ⟨g,o+2,none⟩=false
 f3:w.frozen? ⟨g,o+3,none⟩=false
def lackI(l:List Int)(has:Int)(k:Nat):Int:=bits .andNot .i64 (l.getD k 0) has
def learnB(L:List K)(l:List Int)(who has k:Int)(al:Bool):Bool:=
 decide (0≤k)&&(decide (k<(L.length:Int))&&(!bit has k.toNat&&(!(al&&(lackI l has k.toNat != 2 ^ k.toNat))&&decide (lastTo L who (lackI l has k.toNat) L.length<0))))
def LearnPost(L:List K)(l:List Int)(who has k:Int)(al:Bool)(g o:Nat)(w:World)(e:Ending)(w':World):Prop:=
 e=.returned (.bool (learnB L l who has k al))∧∃d,w'={ (if learnB L l who has k al then w.setCell ⟨g,o+1,none⟩ (.int .i64 (orB has (l.getD k.toNat 0))) else w) with drawn:=d }
theorem learn_no{L:List K}{l:List Int}{who has k:Int}{al:Bool}{g o:Nat}{w w':World}(h:learnB L l who has k al=false)(d:Nat)(hw:w'={ w with drawn:=d }):LearnPost L l who has k al g o w (.returned (.bool false)) w':=
 ⟨by rw [h],d,by rw [h];exact hw⟩
theorem learn_yes{L:List K}{l:List Int}{who has k:Int}{al:Bool}{g o:Nat}{w w':World}(h:learnB L l who has k al=true)(d:Nat)(hw:w'={ w.setCell ⟨g,o+1,none⟩ (.int .i64 (orB has (l.getD k.toNat 0))) with drawn:=d }):LearnPost L l who has k al g o w (.returned (.bool true)) w':=
 ⟨by rw [h],d,by rw [h];exact hw⟩
theorem l13Learn(ao:Option Addr)(cap:Nat)(L:List K)(bo:Option Addr)(bc:Nat)(l:List Int)(g o:Nat)(who has kept last k:Int)(al:Bool)(w:World)(hL:L.length≤60)(hll:l.length=L.length)(hin:Sg.Within l)(hr:RdK w ao L)(hrd:Lst.Rd w bo l)(hh:HandAt w g o who has kept last)(h0:0≤has)(h1:has<1152921504606846976) :
  Calls Tryz.prog 161 #[.slice ao L.length cap,.slice bo l.length bc,.pointer (some ⟨g,o,none⟩),.int .i64 k,.bool al] w (LearnPost L l who has k al g o w):=by
 obtain⟨hlt,c0,c1,c2,c3,f0,f1,f2,f3⟩:=hh;by_cases hk0:k<0
 ·have HT:Hid (learnB L l who has k al=false):=by show _=_;unfold learnB;rw [decide_eq_false (by omega)];rfl
  go_enter Tryz.func161,Tryz.ntmps161
  go_wp2;go_ret;exact learn_no HT.out _ rfl
 ·by_cases hk1:k<(L.length:Int)
  ·obtain⟨p,rfl⟩:=Int.eq_ofNat_of_zero_le (show 0≤k by omega);have hpl:p<l.length:=by omega
   have hpi:(p:Int)<(l.length:Int):=by omega
   cases hb:bit has p
   ·have HL:Hid (learnB L l who has (p:Int) al=(!(al&&(lackI l has p != 2 ^ p))&&decide (lastTo L who (lackI l has p) L.length<0))):=by
     show _=_;unfold learnB;rw [Int.toNat_natCast,hb,decide_eq_true (show(0:Int)≤(p:Int) by omega),decide_eq_true hk1];rfl
    have HBb:Hid (bit has p=false):=hb;have hyb:=Sg.within_get hin p;rcases hrd with hrd | ⟨b,rfl,hcell⟩
    ·rw [hrd] at hpl;simp at hpl
    have cy:=hcell p hpl;have hlb:0≤lackI l has p∧lackI l has p<1152921504606846976:=andNot_bd _ _ hyb.1 hyb.2;have HLK:Hid (bits .andNot .i64 (l.getD p 0) has=lackI l has p):=rfl;have HOR:Hid (bits .or .i64 has (l.getD p 0)=orB has (l.getD p 0)):=Sg.or_eq _ _ h0 h1 hyb.1 hyb.2;have HY:Hid (∀(w':World) (d:Nat),learnB L l who has (p:Int) al=true→w'={ w.setCell ⟨g,o+1,none⟩ (.int .i64 (orB has (l.getD p 0))) with drawn:=d }→LearnPost L l who has (p:Int) al g o w (.returned (.bool true)) w'):=fun w' d h hw=>learn_yes h d hw
    have hlast:=lastTo_bd L who (lackI l has p) L.length;clear hb hcell hyb;generalize l.getD p 0=y at cy HLK HOR HY;go_enter Tryz.func161,Tryz.ntmps161
    go_wp2_with (first | (go_at_call 45;refine(Base.l1Has _ _ _ h0 h1 (by omega) (by omega)).mono ?_;rintro e w' ⟨rfl,rfl⟩;rw [Int.toNat_natCast,HBb.out]) | fail)
    go_quiet (fail)
    rw [HLK.out];generalize lackI l has p=lk at HL hlb hlast HLK ⊢;clear HLK
    cases al
    ·go_wp2_with fail
     refine(l13Last ao cap L who lk _ hL (hr.drewN _) hlb.1 hlb.2).mono ?_;rintro e w2 ⟨rfl,n2,rfl⟩;by_cases hq:lastTo L who lk L.length<0
     ·have HT:Hid (learnB L l who has (p:Int) false=true):=by show _=_;rw [HL.out];simp [hq]
      have hq':¬ 0≤lastTo L who lk L.length:=by omega
      go_wp2_with fail
      go_region
      all_goals
       rw [HOR.out];go_wp2;go_ret;exact HY.out _ _ HT.out rfl
     ·have HT:Hid (learnB L l who has (p:Int) false=false):=by show _=_;rw [HL.out];simp [hq]
      have hq':0≤lastTo L who lk L.length:=by omega
      go_wp2;go_ret;exact learn_no HT.out _ rfl
    ·by_cases hlk:lk=2 ^ p
     ·have hlk':(lk != 2 ^ p)=false:=by rw [hlk];simp
      have HLKb:Hid (lk=2 ^ p):=hlk;clear hlk;go_wp2_with (first | (go_at_call 82;refine(Base.l1Bit _ _ (by omega) (by omega)).mono ?_;rintro e w' ⟨rfl,rfl⟩;rw [Int.toNat_natCast]) | fail)
      refine(l13Last ao cap L who lk _ hL (hr.drewN _) hlb.1 hlb.2).mono ?_;rintro e w2 ⟨rfl,n2,rfl⟩;by_cases hq:lastTo L who lk L.length<0
      ·have HT:Hid (learnB L l who has (p:Int) true=true):=by show _=_;rw [HL.out];rw [hlk'];simp [hq]
       have hq':¬ 0≤lastTo L who lk L.length:=by omega
       go_wp2_with fail
       go_region
       all_goals
        rw [HOR.out];go_wp2;go_ret;exact HY.out _ _ HT.out rfl
      ·have HT:Hid (learnB L l who has (p:Int) true=false):=by show _=_;rw [HL.out];simp [hq]
       have hq':0≤lastTo L who lk L.length:=by omega
       go_wp2;go_ret;exact learn_no HT.out _ rfl
     ·have hlk':(lk != 2 ^ p)=true:=by simpa using hlk
      have HT:Hid (learnB L l who has (p:Int) true=false):=by show _=_;rw [HL.out,hlk'];rfl
      clear hlk;go_wp2_with (first | (go_at_call 82;refine(Base.l1Bit _ _ (by omega) (by omega)).mono ?_;rintro e w' ⟨rfl,rfl⟩;rw [Int.toNat_natCast]) | fail)
      go_ret;exact learn_no HT.out _ rfl
   ·have HT:Hid (learnB L l who has (p:Int) al=false):=by
     show _=_;unfold learnB;rw [Int.toNat_natCast,hb];simp
    have HBb:Hid (bit has p=true):=hb;clear hb;go_enter Tryz.func161,Tryz.ntmps161
    go_wp2_with (first | (go_at_call 45;refine(Base.l1Has _ _ _ h0 h1 (by omega) (by omega)).mono ?_;rintro e w' ⟨rfl,rfl⟩;rw [Int.toNat_natCast,HBb.out]) | fail)
    go_ret;exact learn_no HT.out _ rfl
  ·have HT:Hid (learnB L l who has k al=false):=by show _=_;unfold learnB;rw [decide_eq_false hk1];simp
   go_enter Tryz.func161,Tryz.ntmps161
   go_wp2;go_ret;exact learn_no HT.out _ rfl
end Rm
namespace Lc
open Kn (K okK)
open Bit (bit withB)
def cellsOf(k:K):List Value:=[.int .i64 k.hand,.int .i64 k.round,.int .i64 k.frm,.string k.word]
def flat(L:List K):List Value:=L.flatMap cellsOf
theorem flat_len(L:List K):(flat L).length=L.length*4:=by
 induction L with
 | nil=>rfl
 | cons k L ih=>unfold flat at *;rw [List.flatMap_cons,List.length_append,ih];simp [cellsOf];omega
theorem flat_snoc(L:List K)(k:K):flat (L++[k])=flat L++cellsOf k:=by unfold flat;simp
theorem flat_one(L:List K):∀u∈flat L,u.oneCell'=true:=by
 intro u hu;unfold flat at hu;obtain⟨k,_,hk⟩:=List.mem_flatMap.1 hu;simp [cellsOf] at hk;rcases hk with rfl | rfl | rfl | rfl <;> rfl
theorem flat_at(L:List K)(i c:Nat)(hi:i<L.length)(hc:c<4):(flat L)[i*4+c]? = (cellsOf (at' L i))[c]?:=by
 induction L generalizing i with
 | nil=>simp at hi
 | cons k L ih=>
  have e:flat (k :: L)=cellsOf k++flat L:=by unfold flat;simp
  rw [e]
  cases i with
  | zero=>
   rw [List.getElem?_append_left (by simp [cellsOf];omega)];simp [at',List.getD]
  | succ i=>
   rw [List.getElem?_append_right (by simp [cellsOf];omega)];have:(i+1)*4+c-(cellsOf k).length=i*4+c:=by simp [cellsOf];omega
   rw [this,ih i (by simpa using hi)];simp [at',List.getD]
def OwnK(t:TypeId)(base:Nat)(w:World)(v:Value)(L:List K):Prop:=w.ownsRow base t 4 v L.length (flat L)∧v≠.slice none 0 0
theorem ownK_shape{t:TypeId}{base:Nat}{w:World}{v:Value}{L:List K}(h:OwnK t base w v L):∃g cap,v=.slice (some ⟨g,0,none⟩) L.length cap∧L.length≤cap∧cap≤maxLen∧base≤g∧g<w.heap.size∧RdK w (some ⟨g,0,none⟩) L∧∀i,i<L.length*4→w.frozen? ⟨g,i,none⟩=false:=by
 obtain⟨hown,hne⟩:=h;have hlt:=World.ownsRow.lt hown;have hown':=hown;obtain⟨hl,⟨hv0,_⟩ | ⟨g,cap,cur,hvs,hbg,hcur,hmc,hm,_,htake⟩⟩:=hown
 · exact absurd hv0 hne
 · subst hvs;have hg:=(hlt g rfl).2;have hcell:∀j u,(flat L)[j]? = some u→w.cell? ⟨g,j,none⟩=some u:=by
     intro j u hj;have:=World.ownsRow.cells hown' (g:=g) rfl j u hj;by_cases hj0:j=0
     · subst hj0;simpa [Addr.add] using this
     · simpa [Addr.add,hj0] using this
   refine⟨g,cap,rfl,hmc,hm,hbg,hg,?_,fun i _=>World.ownsRow.frozenAt hown' i⟩;refine .inr ⟨g,0,rfl,hg,fun i hi=>?_⟩;rw [Nat.zero_add];exact ⟨hcell (i*4) _ (by have:=flat_at L i 0 hi (by omega);simpa [cellsOf] using this),hcell (i*4+1) _ (by have:=flat_at L i 1 hi (by omega);simpa [cellsOf] using this),
     hcell (i*4+2) _ (by have:=flat_at L i 2 hi (by omega);simpa [cellsOf] using this),hcell (i*4+3) _ (by have:=flat_at L i 3 hi (by omega);simpa [cellsOf] using this)⟩
theorem ownK_below{t:TypeId}{base:Nat}{w w':World}{v:Value}{L:List K}(h:OwnK t base w v L)(hb:Below w.heap.size w w'):OwnK t base w' v L:=by
 refine⟨?_,h.2⟩;have hlt:=World.ownsRow.lt h.1;obtain⟨h1,h2⟩:=h.1;refine⟨h1,?_⟩;rcases h2 with h2 | ⟨g,cap',cur,hv,hB,hg,rest⟩
 ·exact .inl h2
 ·refine .inr ⟨g,cap',cur,hv,hB,?_,rest⟩;rw [hb.block g (hlt g (by rw [hv];rfl)).2];exact hg
theorem infoK:(Tryz.prog.info? 104).map (fun i=>(i.zero,i.size,i.bytes))=some (some (.agg #[.int .i64 0,.int .i64 0,.int .i64 0,.string ⟨#[]⟩]),4,40):=by kernel_rfl
theorem ownK_made(t:TypeId)(W:World)(z:Array Value)(c:Nat)(hc:c≤1000):OwnK t W.heap.size (W.alloc (.cells (madeCells z (c*4)) t)) (.slice (some ⟨W.heap.size,0,none⟩) 0 c) []:=by
 refine⟨⟨rfl,.inr ⟨W.heap.size,c,madeCells z (c*4),rfl,Nat.le_refl _,?_,by simp,by unfold maxLen;omega,by rw [size_madeCells],rfl⟩⟩,by simp⟩;show(W.heap.push _)[W.heap.size]? = _;rw [Array.getElem?_push_size]
theorem new_cells(W:World)(k:K)(t:TypeId):∀(j:Nat) u,(cellsOf k)[j]? = some u→(W.alloc (.cells #[.int .i64 k.hand,.int .i64 k.round,.int .i64 k.frm,.string k.word] t)).cell? ((⟨W.heap.size,0,none⟩:Addr).add j)=some u:=by
 intro j u hj;match j,hj with
 | 0,hj=>simp [cellsOf] at hj;subst hj;simp [Addr.add]
 | 1,hj=>simp [cellsOf] at hj;subst hj;simp [Addr.add]
 | 2,hj=>simp [cellsOf] at hj;subst hj;simp [Addr.add]
 | 3,hj=>simp [cellsOf] at hj;subst hj;simp [Addr.add]
theorem ownK_step{t:TypeId}{L:List K}{j:Nat}{w w4 w5:World}{v v':Value}{o:Obj}(hlt:j<L.length)(h:OwnK t w.heap.size w4 v (L.take j))(hb:Below w.heap.size w w4)
  (hown:w5.ownsRow w.heap.size t 4 v' (j+1) (flat (L.take j)++cellsOf (at' L j))) (hgrow:(w4.alloc o).grownBy w5 v.ownBlock) (hnil:¬ v'=.slice none 0 0) :
  OwnK t w.heap.size w5 v' (L.take (j+1))∧Below w.heap.size w w5:=by
 refine⟨⟨?_,hnil⟩,?_⟩
 ·have e:(L.take (j+1)).length=j+1:=by simp;omega
  rw [e,take_snoc L j hlt,flat_snoc];exact hown
 ·exact(hb.alloc hb.size o).grown hgrow (by have:=hb.size;simp;omega) (fun i hi=>(World.ownsRow.lt h.1 i hi).1)
def LacePost(L:List K)(w:World)(e:Ending)(w':World):Prop:=
 (laceB L=true∧∃g,e=.returned (.tuple #[.slice (some ⟨g,0,none⟩) L.length L.length,.bool true])∧g<w'.heap.size∧RdK w' (some ⟨g,0,none⟩) L∧Below w.heap.size w w') ∨
 (laceB L=false∧e=.returned (.tuple #[.slice none 0 0,.bool false])∧Below w.heap.size w w')
theorem laceOf(g off cap:Nat)(L:List K)(w:World)(hlen:L.length≤1099511627776)(hw:WordsOk L)(hr:RdK w (some ⟨g,off,none⟩) L) :
  Calls Tryz.prog 35 #[.slice (some ⟨g,off,none⟩) L.length cap] w (LacePost L w):=by
 obtain⟨i0,hi,hz0,hz1,hz2⟩:=info_parts infoK;have hmk:∀W:World,(Instr.makeSlice 55 (.int .i64 0) (.int .i64 60)).run Tryz.prog W=.ok (.slice (some ⟨W.heap.size,0,none⟩) 0 60) (W.alloc (.cells (madeCells (Value.agg #[.int .i64 0,.int .i64 0,.int .i64 0,.string ⟨#[]⟩]).cells (60*4)) 104)):=by
  intro W;have:=run_make (P:=Tryz.prog) W 55 104 i0 _ Tryz.underlying55 hi hz0 .i64 .i64 0 60 (by omega) (by omega) (by rw [hz2];omega) (by omega);rw [hz1] at this;exact this
 have P0:=ownK_made 104 w (Value.agg #[.int .i64 0,.int .i64 0,.int .i64 0,.string ⟨#[]⟩]).cells 60 (by omega);have HP:Hid (OwnK 104 w.heap.size (w.alloc (.cells (madeCells (Value.agg #[.int .i64 0,.int .i64 0,.int .i64 0,.string ⟨#[]⟩]).cells (60*4)) 104)) (.slice (some ⟨w.heap.size,0,none⟩) 0 60) []∧Below w.heap.size w (w.alloc (.cells (madeCells (Value.agg #[.int .i64 0,.int .i64 0,.int .i64 0,.string ⟨#[]⟩]).cells (60*4)) 104))):=⟨P0,(Below.refl _ _).alloc (Nat.le_refl _) _⟩
 clear P0;generalize (Value.agg #[.int .i64 0,.int .i64 0,.int .i64 0,.string ⟨#[]⟩]).cells=zc at hmk HP;generalize madeCells zc (60*4)=mc at hmk HP;go_enter Tryz.func35,Tryz.ntmps35
 go_wp2;go_loopw [4,10] (fun v i wr=>∃j:Nat,j≤L.length∧j≤60∧i=.int .i64 j∧Hid (UpTo L j)∧Hid (OwnK 104 w.heap.size wr v (L.take j))∧Hid (Below w.heap.size w wr)) (fun _ i _=>L.length-(intOf i).toNat)
 case atStart=>exact⟨0,by omega,by omega,rfl,fun i hi=>by omega,HP.out.1,HP.out.2⟩
 case round=>
  obtain⟨j,hj,hj60,rfl,HU,HO,HB⟩:=hrel;have hlenj:(L.take j).length=j:=by simp;omega
  obtain⟨g',cap',hv,hcap',hcm,hbg,hgl,hrd',hfz⟩:=ownK_shape HO.out;rw [hlenj] at hv hcap' hfz;subst hv;have hbw:=HB.out.size;by_cases hlt:j<L.length
  ·have hrj:=hr.below HB.out;obtain⟨hgw,c0,c1,c2,c3⟩:=hrj.on j hlt;have hwj:=hw _ (at_mem L j hlt);have P1:Hid (Below wr.heap.size wr (wr.alloc (.cells #[.int .i64 (at' L j).hand,.int .i64 (at' L j).round,.int .i64 (at' L j).frm,.string (at' L j).word] 38))∧CellsK (wr.alloc (.cells #[.int .i64 (at' L j).hand,.int .i64 (at' L j).round,.int .i64 (at' L j).frm,.string (at' L j).word] 38)) wr.heap.size 0 (at' L j)∧wr.heap.size<(wr.alloc (.cells #[.int .i64 (at' L j).hand,.int .i64 (at' L j).round,.int .i64 (at' L j).frm,.string (at' L j).word] 38)).heap.size):=
    ⟨(Below.refl _ _).alloc (Nat.le_refl _) _,⟨by simp,by simp,by simp,by simp⟩,by simp⟩
   clear hrj hfz;go_wp2_with fail
   generalize wr.alloc (.cells #[.int .i64 (at' L j).hand,.int .i64 (at' L j).round,.int .i64 (at' L j).frm,.string (at' L j).word] 38)=w1 at P1 ⊢;obtain⟨B1,C1,S1⟩:=P1;generalize hbb:wr.heap.size=b at *;refine(Kn.knotOf _ _ _ _ _).mono ?_;rintro e w2 ⟨rfl,hb2⟩;have C2:=C1.below hb2 S1;have S2:b<w2.heap.size:=Nat.lt_of_lt_of_le S1 hb2.size;have B2:=B1.trans (hb2.mono (Nat.le_of_lt S1));have B2':Below wr.heap.size wr w2:=by rw [hbb];exact B2
   clear hb2 B1 S1 C1;go_wp2_with fail
   have hT:Calls Tryz.prog 73 #[.slice (some ⟨g',0,none⟩) j cap',.agg #[.int .i64 (at' L j).hand,.int .i64 (at' L j).round,.int .i64 (at' L j).frm,.string (at' L j).word]] w2 fun e w'=>e=.returned (.bool (takesB (L.take j) (at' L j)))∧Below w2.heap.size w2 w':=by
    have:=takes g' 0 cap' (L.take j) (at' L j) w2 (by omega) hwj (upTo_hands HU.out) (hrd'.below B2');rwa [hlenj] at this
   refine hT.mono ?_;clear hT;rintro e w3 ⟨rfl,hb3⟩;have C3:=C2.below hb3 S2;have S3:b<w3.heap.size:=Nat.lt_of_lt_of_le S2 hb3.size;have B3:=B2.trans (hb3.mono (Nat.le_of_lt S2));have B3':Below wr.heap.size wr w3:=by rw [hbb];exact B3
   clear hb3 B2 B2' S2 C2;obtain⟨d0,d1,d2,d3⟩:=C3;rw [Nat.zero_add] at d1 d2 d3
   cases ht:takesB (L.take j) (at' L j)
   ·have HT:Hid (laceB L=false):=by
     show _=_;unfold takesB at ht;rw [hlenj] at ht;by_cases h60:j<60
     ·simp [h60] at ht;exact lace_no j hlt ht
     ·exact lace_long (by omega)
    clear ht;have HBE:Hid (Below w.heap.size w w3):=HB.out.trans (B3'.mono HB.out.size);go_wp2;go_ret2
    exact .inr ⟨HT.out,rfl,HBE.out⟩
   ·have hcan:j<60∧canB (L.take j) (at' L j)=true:=by
     unfold takesB at ht;rw [hlenj] at ht;simpa using ht
    obtain⟨h60,hcan⟩:=hcan;have HU1:Hid (UpTo L (j+1)):=by
     intro i hi;by_cases he:i=j
     ·rw [he];exact hcan
     ·exact HU.out i (by omega)
    clear ht hcan HU;go_wp2_with fail
    refine(Kn.knotOf _ _ _ _ _).mono ?_;rintro e w4 ⟨rfl,hb4⟩;have B4:=B3.trans (hb4.mono (Nat.le_of_lt S3));have B4':Below wr.heap.size wr w4:=by rw [hbb];exact B4
    clear hb4 B3 B3' d0 d1 d2 d3;have O4:=ownK_below HO.out B4';go_wp2_with (at_builtin;refine wpList_append_own _ rfl _ _ 55 rfl w.heap.size 104 i0 (.agg #[.int .i64 0,.int .i64 0,.int .i64 0,.string ⟨#[]⟩]) 4 40 Tryz.underlying55 hi hz0 hz1 hz2 rfl (by decide) _ _ _ rfl (O4.1.alloc _) ⟨w4.heap.size,0,none⟩ 1 1 (cellsOf (at' L j)) rfl rfl ?c1 ?c2 ?c3 ?c4 ?c5 ?_)
    case c1=>exact new_cells w4 (at' L j) _
    case c2=>intro u hu;exact flat_one [at' L j] u (by simpa [flat] using hu)
    case c3=>unfold maxLen;omega
    case c4=>omega
    case c5=>have:=B4'.size;simp;omega
    intro v' w5 hown' hgrow hnil;have R:=ownK_step hlt O4 (HB.out.trans (B4'.mono (by rw [hbb];exact hbw))) hown' hgrow hnil;have HO5:Hid _:=R.1;have HB5:Hid _:=R.2;clear hown' hgrow hnil O4 HO HB R hrd' hgl hcap' hcm;go_wp2;go_roundw
    case rel=>exact⟨j+1,by omega,by omega,by go_num,HU1,HO5,HB5⟩
    case measure=>simp [intOf];omega
  ·obtain rfl:j=L.length:=by omega
   have HT:Hid (laceB L=true):=lace_of_upTo hj60 HU.out;rw [List.take_length] at hrd';go_wp2;go_ret2
   exact .inl ⟨HT.out,g',rfl,hgl,hrd',HB.out⟩
end Lc
end Go.Proofs.YtbkeldfbllhlbaaGreat
