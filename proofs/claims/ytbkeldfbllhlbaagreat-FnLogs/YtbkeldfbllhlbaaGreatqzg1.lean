/-
 What the model's functions of chapter 4 answer, in the words of SightM; for lists of at most 60 knots whose threads are sets.
-/
import Derived.Test.YtbkeldfbllhlbaaGreatqzg0
import Derived.Deep.OwnRows
import Derived.Deep.QuietTactic
import Derived.WalkSmall
import Derived.Deep.RegionLaw
import Derived.Deep.RegionWith
import Derived.Deep.DeepCutAuto
import Derived.Deep.AppendLies
import Derived.Laws.OwnMore
set_option linter.unusedVariables false
set_option maxRecDepth 100000
set_option maxHeartbeats 3200000
namespace Go.Proofs.YtbkeldfbllhlbaaGreat
open Go.RowKit
namespace Memb
theorem u64w(n:Int)(h0:0≤n)(h1:n<18446744073709551616):IntKind.u64.wrap n=n:=by
 rw [IntKind.wrap_u64];omega
theorem andc(a b:Nat)(ha:a<18446744073709551616)(hb:b<18446744073709551616)(A B:Int)(hA:A=(a:Int))(hB:B=(b:Int)):bits .and .u64 A B=((a &&& b:Nat):Int):=by
 rw [hA,hB];exact u64_and_nat a b ha hb
theorem step1(x:Nat)(hx:x<18446744073709551616):IntKind.u64.wrap (bits .and .u64 ((x:Int) / 2) 6148914691236517205+bits .and .u64 (x:Int) 6148914691236517205)=(((x / 2 &&& 6148914691236517205)+(x &&& 6148914691236517205):Nat):Int):=by
 rw [andc (x / 2) 6148914691236517205 (by omega) (by omega) ((x:Int) / 2) 6148914691236517205 (by omega) (by omega),andc x 6148914691236517205 (by omega) (by omega) (x:Int) 6148914691236517205 rfl (by omega)];have h1:=Bit.and_le' (x / 2) 6148914691236517205;have h2:=Bit.and_le' x 6148914691236517205;rw [u64w _ (by omega) (by omega)];omega
theorem step2(x:Nat)(hx:x<18446744073709551616):IntKind.u64.wrap (bits .and .u64 ((x:Int) / 4) 3689348814741910323+bits .and .u64 (x:Int) 3689348814741910323)=(((x / 4 &&& 3689348814741910323)+(x &&& 3689348814741910323):Nat):Int):=by
 rw [andc (x / 4) 3689348814741910323 (by omega) (by omega) ((x:Int) / 4) 3689348814741910323 (by omega) (by omega),andc x 3689348814741910323 (by omega) (by omega) (x:Int) 3689348814741910323 rfl (by omega)];have h1:=Bit.and_le' (x / 4) 3689348814741910323;have h2:=Bit.and_le' x 3689348814741910323;rw [u64w _ (by omega) (by omega)];omega
theorem step3(x:Nat)(hx:x≤7378697629483820646):bits .and .u64 (IntKind.u64.wrap ((x:Int) / 16+(x:Int))) 1085102592571150095=(((x / 16+x) &&& 1085102592571150095:Nat):Int):=by
 rw [u64w _ (by omega) (by omega),andc (x / 16+x) 1085102592571150095 (by omega) (by omega) ((x:Int) / 16+(x:Int)) 1085102592571150095 (by omega) (by omega)]
theorem step4(x:Nat)(hx:x≤1085102592571150095):IntKind.u64.wrap ((x:Int)+(x:Int) / 256)=((x+x / 256:Nat):Int):=by
 rw [u64w _ (by omega) (by omega)];omega
theorem step5(x:Nat)(hx:x≤2170205185142300190):IntKind.u64.wrap ((x:Int)+(x:Int) / 65536)=((x+x / 65536:Nat):Int):=by
 rw [u64w _ (by omega) (by omega)];omega
theorem step6(x:Nat)(hx:x≤4340410370284600380):wrap64 (IntKind.u64.wrap ((x:Int)+(x:Int) / 4294967296)) % 128=(((x+x / 4294967296) % 128:Nat):Int):=by
 rw [u64w _ (by omega) (by omega)];simp only [wrap64];omega
theorem ones(x:Int)(w:World)(h0:0≤x)(h1:x<1152921504606846976):Calls Tryz.prog 175 #[.int .u64 x] w fun e w'=>e=.returned (.int .i64 ((Bit.memTo x 60).length:Int))∧w=w':=by
 obtain⟨x,rfl⟩:=Int.eq_ofNat_of_zero_le h0;go_enter Tryz.func175,Tryz.ntmps175
 go_wp2;go_ret;refine⟨Base.ret_int ?_,rfl⟩;rw [step1 x (by omega)];have b1:=Bit.and_le' (x / 2) 6148914691236517205;have b1':=Bit.and_le' x 6148914691236517205;have e1:(x / 2 &&& 6148914691236517205)+(x &&& 6148914691236517205)<18446744073709551616:=by omega
 generalize g1:(x / 2 &&& 6148914691236517205)+(x &&& 6148914691236517205)=x1 at *;rw [step2 x1 e1];have b2:=Bit.and_le' (x1 / 4) 3689348814741910323;have b2':=Bit.and_le' x1 3689348814741910323;have e2:(x1 / 4 &&& 3689348814741910323)+(x1 &&& 3689348814741910323)≤7378697629483820646:=by omega
 generalize g2:(x1 / 4 &&& 3689348814741910323)+(x1 &&& 3689348814741910323)=x2 at *;rw [step3 x2 e2];have e3:=Bit.and_le' (x2 / 16+x2) 1085102592571150095;generalize g3:(x2 / 16+x2) &&& 1085102592571150095=x3 at *;rw [step4 x3 e3];have e4:x3+x3 / 256≤2170205185142300190:=by omega
 generalize g4:x3+x3 / 256=x4 at *;rw [step5 x4 e4];have e5:x4+x4 / 65536≤4340410370284600380:=by omega
 generalize g5:x4+x4 / 65536=x5 at *;rw [i64_and127,step6 x5 e5,Bit.ones_nat x x1 x2 x3 x4 x5 g1.symm g2.symm g3.symm g4.symm g5.symm,Bit.pop_64 x (by omega)]
theorem info2:(Tryz.prog.info? 2).map (fun i=>(i.zero,i.size,i.bytes))=some (some (.int .i64 0),1,8):=by kernel_rfl
theorem rel_add{B:Nat}{s:Int}{k:Nat}{w wr w1:World}{v v':Value}{o:Obj}(hb:Bit.bit s k=true)(hB:B≤wr.heap.size)
  (hown:wr.ownsRow B 2 1 v (Bit.memTo s k).length ((Bit.memTo s k).map (Value.int .i64))) (hnx:Below B w wr)
  (hown':w1.ownsRow B 2 1 v' ((Bit.memTo s k).length+1) ((Bit.memTo s k).map (Value.int .i64)++[.int .i64 (k:Int)])) (hgrow:(wr.alloc o).grownBy w1 v.ownBlock) :
  w1.ownsRow B 2 1 v' (Bit.memTo s (k+1)).length ((Bit.memTo s (k+1)).map (Value.int .i64))∧Below B w w1∧B≤w1.heap.size:=by
 have hbel:=(hnx.alloc hB o).grown hgrow (by simp;omega) (fun j hj=>(hown.lt j hj).1);refine⟨by rw [Bit.memTo_succ,hb];simpa using hown',hbel,?_⟩;have:=hgrow.size;simp at this;omega
theorem rel_skip{B:Nat}{s:Int}{k:Nat}{wr:World}{v:Value}(hb:Bit.bit s k=false)
  (hown:wr.ownsRow B 2 1 v (Bit.memTo s k).length ((Bit.memTo s k).map (Value.int .i64))) :
  wr.ownsRow B 2 1 v (Bit.memTo s (k+1)).length ((Bit.memTo s (k+1)).map (Value.int .i64)):=by
 rw [Bit.memTo_succ,hb];simpa using hown
theorem own_empty(w:World):(w.alloc (.cells #[] 2)).ownsRow w.heap.size 2 1 (.slice (some ⟨w.heap.size,0,none⟩) 0 0) 0 []:=
 World.ownsRow_lit w #[] 0 (Nat.le_refl _) (by unfold maxLen;omega) rfl
theorem l1Members(s:Int)(w:World)(h0:0≤s)(h1:s<1152921504606846976):Calls Tryz.prog 112 #[.int .i64 s] w fun e w'=>
  ∃v,e=.returned v∧w'.ownsRow w.heap.size 2 1 v (Bit.memTo s 60).length ((Bit.memTo s 60).map (Value.int .i64))∧Below w.heap.size w w':=by
 obtain⟨i0,hi,hz0,hz1,hz2⟩:=info_parts info2;go_enter Tryz.func112,Tryz.ntmps112
 go_wp2;go_loopw [3,4] (fun v i wr=>∃k:Nat,k≤60∧i=.int .i64 k∧wr.ownsRow w.heap.size 2 1 v (Bit.memTo s k).length ((Bit.memTo s k).map (Value.int .i64))∧Below w.heap.size w wr∧w.heap.size≤wr.heap.size)
  (fun _ i _=>60-(intOf i).toNat)
 case atStart=>exact⟨0,by omega,rfl,own_empty w,(Below.refl _ _).alloc (Nat.le_refl _) _,by simp⟩
 case round=>
  obtain⟨k,hk,rfl,hown,hnx,hB⟩:=hrel;by_cases hs:s / 2 ^ k=0
  ·have hall:=Bit.memTo_all s h0 h1 k hs;rw [hall] at hown;clear hall;go_wp2;go_ret;exact⟨_,rfl,hown,hnx⟩
  ·have hlt:k<60:=by
    apply Classical.byContradiction;intro h;exact hs (Bit.div_big s h0 h1 k (by omega))
   have hle:=Bit.memTo_le s k;have hbne:(s / 2 ^ k == 0)=false:=by simpa using hs
   cases hb:Bit.bit s k
   ·have R:=rel_skip hb hown;go_wp2_with (go_at_call 45;refine(Base.l1Has _ _ _ h0 h1 (by omega) (by omega)).mono ?_;rintro e w' ⟨rfl,rfl⟩)
    go_roundw
    case rel=>exact⟨k+1,by omega,by go_num,R,hnx,hB⟩
    case measure=>simp [intOf];omega
   ·go_wp2_with (first | (go_at_call 45;refine(Base.l1Has _ _ _ h0 h1 (by omega) (by omega)).mono ?_;rintro e w' ⟨rfl,rfl⟩) | (at_builtin;refine wpList_append_own _ rfl _ _ 25 rfl w.heap.size 2 i0 (.int .i64 0) 1 8 Tryz.underlying25 hi hz0 hz1 hz2 rfl (by decide) _ _ _ rfl (hown.alloc _) ⟨wr.heap.size,0,none⟩ 1 1 [.int .i64 (k:Int)] rfl rfl ?c1 ?c2 ?c3 ?c4 ?c5 ?_))
    case c1=>
     intro j u hj;match j,hj with
     | 0,hj=>simp at hj;subst hj;simp [Addr.add]
    case c2=>intro u hu;simp at hu;subst hu;rfl
    case c3=>unfold maxLen;omega
    case c4=>omega
    case c5=>simp;omega
    intro v' w1 hown' hgrow _;have R:=rel_add hb hB hown hnx hown' hgrow;clear hown' hgrow hown;go_wp2;go_roundw
    case rel=>exact⟨k+1,by omega,by go_num,R.1,R.2.1,R.2.2⟩
    case measure=>simp [intOf];omega
def Own(B:Nat)(w:World)(ao:Option Addr)(cap:Nat)(l:List Int):Prop:=w.ownsRow B 2 1 (.slice ao l.length cap) l.length (l.map (Value.int .i64))
theorem own_shape{B:Nat}{w:World}{v:Value}{l:List Int}(h:w.ownsRow B 2 1 v l.length (l.map (Value.int .i64))):∃ao cap,v=.slice ao l.length cap∧Own B w ao cap l:=by
 have h':=h;obtain⟨_,⟨hv,hn⟩ | ⟨g,cap,cur,hv,_⟩⟩:=h'
 ·refine⟨none,0,by rw [hn];exact hv,?_⟩;unfold Own;rw [hn] at h ⊢;rw [← hv];exact h
 ·refine⟨some ⟨g,0,none⟩,cap,hv,?_⟩;unfold Own;rw [← hv];exact h
theorem l1Members'(s:Int)(w:World)(h0:0≤s)(h1:s<1152921504606846976):Calls Tryz.prog 112 #[.int .i64 s] w fun e w'=>
  ∃ao cap,e=.returned (.slice ao (Bit.memTo s 60).length cap)∧Own w.heap.size w' ao cap (Bit.memTo s 60)∧Below w.heap.size w w':=by
 refine(l1Members s w h0 h1).mono ?_;rintro e w' ⟨v,rfl,hown,hb⟩;obtain⟨ao,cap,hv,ho⟩:=own_shape hown;exact⟨ao,cap,by rw [hv],ho,hb⟩
def memI(s:Int):List Int:=if Base.okB s then Bit.memTo s 60 else []
theorem memI_le(s:Int):(memI s).length≤60:=by
 unfold memI;split
 ·exact Bit.memTo_le s 60
 ·simp
theorem size(s:Int)(w:World)(h0:0≤s)(h1:s<1152921504606846976):Calls Tryz.prog 153 #[.int .i64 s] w fun e w'=>e=.returned (.int .i64 ((Bit.memTo s 60).length:Int))∧w=w':=by
 go_enter Tryz.func153,Tryz.ntmps153
 go_wp2_with (go_at_call 175;refine(ones _ _ h0 h1).mono ?_;rintro e w' ⟨rfl,rfl⟩)
 go_ret;exact⟨rfl,rfl⟩
def memK(s:Int)(k:Nat):List Int:=if Base.okB s then Bit.memTo s k else []
theorem memK_le(s:Int)(k:Nat):(memK s k).length≤k:=by
 unfold memK;split
 ·exact Bit.memTo_le s k
 ·simp
theorem memK_hit(s:Int)(k:Nat)(h:(Base.okB s&&(Base.inB (k:Int)&&Bit.bit s k))=true):memK s (k+1)=memK s k++[(k:Int)]:=by
 simp at h;unfold memK;rw [h.1,Bit.memTo_succ,h.2.2];simp
theorem memK_miss(s:Int)(k:Nat)(hk:k<60)(h:(Base.okB s&&(Base.inB (k:Int)&&Bit.bit s k))=false):memK s (k+1)=memK s k:=by
 have hi:Base.inB (k:Int)=true:=(Base.inB_iff _).2 ⟨by omega,by omega⟩;unfold memK
 cases ho:Base.okB s
 ·rfl
 ·rw [ho,hi] at h;simp at h;rw [Bit.memTo_succ,h];simp
theorem rel_put{B:Nat}{w wr w1:World}{v v':Value}{o:Obj}{l l':List Int}{x:Int}(hl:l'=l++[x])(hB:B≤wr.heap.size)
  (hown:wr.ownsRow B 2 1 v l.length (l.map (Value.int .i64))) (hnx:Below B w wr)
  (hown':w1.ownsRow B 2 1 v' (l.length+1) (l.map (Value.int .i64)++[.int .i64 x])) (hgrow:(wr.alloc o).grownBy w1 v.ownBlock) :
  w1.ownsRow B 2 1 v' l'.length (l'.map (Value.int .i64))∧Below B w w1∧B≤w1.heap.size:=by
 have hbel:=(hnx.alloc hB o).grown hgrow (by simp;omega) (fun j hj=>(hown.lt j hj).1);refine⟨by rw [hl];simpa using hown',hbel,?_⟩;have:=hgrow.size;simp at this;omega
theorem picked(s:Int)(w:World):Calls Tryz.prog 141 #[.func (.func 65) #[.int .i64 s] #[]] w fun e w'=>
  ∃ao cap,e=.returned (.slice ao (memI s).length cap)∧Own w.heap.size w' ao cap (memI s)∧Below w.heap.size w w':=by
 obtain⟨i0,hi,hz0,hz1,hz2⟩:=info_parts info2;go_enter Tryz.func141,Tryz.ntmps141
 go_wp2;go_loopw [3,6] (fun v i wr=>∃k:Nat,k≤60∧i=.int .i64 k∧wr.ownsRow w.heap.size 2 1 v (memK s k).length ((memK s k).map (Value.int .i64))∧Below w.heap.size w wr∧w.heap.size≤wr.heap.size)
  (fun _ i _=>60-(intOf i).toNat)
 case atStart=>exact⟨0,by omega,rfl,by have:=own_empty w;simpa [memK,Bit.memTo] using this,(Below.refl _ _).alloc (Nat.le_refl _) _,by simp⟩
 case round=>
  obtain⟨k,hk,rfl,hown,hnx,hB⟩:=hrel;have hle:=memK_le s k;by_cases hlt:k<60
  ·cases hb:(Base.okB s&&(Base.inB (k:Int)&&Bit.bit s k))
   ·have HM:Hid (memK s (k+1)=memK s k):=memK_miss s k hlt hb;have HB:Hid ((Base.okB s&&(Base.inB (k:Int)&&Bit.bit s k))=false):=hb;clear hb;go_wp2_with (go_at_call 65;refine(Base.has _ _ _).mono ?_;rintro e w' ⟨rfl,rfl⟩;rw [Int.toNat_natCast,HB.out])
    go_roundw
    case rel=>exact⟨k+1,by omega,by go_num,by rw [HM.out];exact hown,hnx,hB⟩
    case measure=>simp [intOf];omega
   ·have HM:Hid (memK s (k+1)=memK s k++[(k:Int)]):=memK_hit s k hb;have HB:Hid ((Base.okB s&&(Base.inB (k:Int)&&Bit.bit s k))=true):=hb;clear hb;go_wp2_with (first | (go_at_call 65;refine(Base.has _ _ _).mono ?_;rintro e w' ⟨rfl,rfl⟩;rw [Int.toNat_natCast,HB.out]) | (at_builtin;refine wpList_append_own _ rfl _ _ 25 rfl w.heap.size 2 i0 (.int .i64 0) 1 8 Tryz.underlying25 hi hz0 hz1 hz2 rfl (by decide) _ _ _ rfl (hown.alloc _) ⟨wr.heap.size,0,none⟩ 1 1 [.int .i64 (k:Int)] rfl rfl ?c1 ?c2 ?c3 ?c4 ?c5 ?_))
    case c1=>
     intro j u hj;match j,hj with
     | 0,hj=>simp at hj;subst hj;simp [Addr.add]
    case c2=>intro u hu;simp at hu;subst hu;rfl
    case c3=>unfold maxLen;omega
    case c4=>omega
    case c5=>simp;omega
    intro v' w1 hown' hgrow _;have R:=rel_put HM.out hB hown hnx hown' hgrow;clear hown' hgrow hown;go_wp2;go_roundw
    case rel=>exact⟨k+1,by omega,by go_num,R.1,R.2.1,R.2.2⟩
    case measure=>simp [intOf];omega
  ·obtain rfl:k=60:=by omega
   have hown2:wr.ownsRow w.heap.size 2 1 u3 (memI s).length ((memI s).map (Value.int .i64)):=hown;obtain⟨ao,cap,hv,ho⟩:=own_shape hown2;have HV:Hid (u3=.slice ao (memI s).length cap):=hv;clear hv hown hown2;go_wp2;go_ret;exact⟨ao,cap,by rw [← HV.out];rfl,ho,hnx⟩
end Memb
namespace Lc
open Kn (K okK)
open Bit (bit withB)
structure CellsK(w:World)(g o:Nat)(k:K):Prop where
 c0:w.cell? ⟨g,o,none⟩=some (.int .i64 k.hand)
 c1:w.cell? ⟨g,o+1,none⟩=some (.int .i64 k.round)
 c2:w.cell? ⟨g,o+2,none⟩=some (.int .i64 k.frm)
 c3:w.cell? ⟨g,o+3,none⟩=some (.string k.word)
def RdK(w:World)(ao:Option Addr)(L:List K):Prop:=
 L=[]∨∃g off,ao=some ⟨g,off,none⟩∧g<w.heap.size∧∀i,i<L.length→CellsK w g (off+i*4) (at' L i)
theorem CellsK.below{w w':World}{g o:Nat}{k:K}(h:CellsK w g o k)(hb:Below w.heap.size w w')(hg:g<w.heap.size):CellsK w' g o k where
 c0:=(hb.cell (p:=⟨g,o,none⟩) hg).trans h.c0
 c1:=(hb.cell (p:=⟨g,o+1,none⟩) hg).trans h.c1
 c2:=(hb.cell (p:=⟨g,o+2,none⟩) hg).trans h.c2
 c3:=(hb.cell (p:=⟨g,o+3,none⟩) hg).trans h.c3
theorem RdK.below{w w':World}{ao:Option Addr}{L:List K}(h:RdK w ao L)(hb:Below w.heap.size w w'):RdK w' ao L:=by
 rcases h with h | ⟨g,off,ha,hg,hc⟩
 ·exact .inl h
 ·exact .inr ⟨g,off,ha,Nat.lt_of_lt_of_le hg hb.size,fun i hi=>(hc i hi).below hb hg⟩
theorem RdK.take{w:World}{ao:Option Addr}{L:List K}(h:RdK w ao L)(n:Nat):RdK w ao (L.take n):=by
 rcases h with h | ⟨g,off,ha,hg,hc⟩
 ·exact .inl (by rw [h];simp)
 ·refine .inr ⟨g,off,ha,hg,fun i hi=>?_⟩;have hi':i<n∧i<L.length:=by simp at hi;omega
  rw [at_take L n i hi'.1];exact hc i hi'.2
theorem RdK.at{w:World}{ao:Option Addr}{L:List K}(h:RdK w ao L)(i:Nat)(hi:i<L.length):∃g off,ao=some ⟨g,off,none⟩∧g<w.heap.size∧CellsK w g (off+i*4) (at' L i):=by
 rcases h with h | ⟨g,off,ha,hg,hc⟩
 ·rw [h] at hi;simp at hi
 ·exact⟨g,off,ha,hg,hc i hi⟩
theorem info2:(Tryz.prog.info? 2).map (fun i=>(i.zero,i.size,i.bytes))=some (some (.int .i64 0),1,8):=by kernel_rfl
structure Four(w:World)(g:Nat)(x0 x1 x2 x3:Int):Prop where
 lt:g<w.heap.size
 c0:w.cell? ⟨g,0,none⟩=some (.int .i64 x0)
 c1:w.cell? ⟨g,1,none⟩=some (.int .i64 x1)
 c2:w.cell? ⟨g,2,none⟩=some (.int .i64 x2)
 c3:w.cell? ⟨g,3,none⟩=some (.int .i64 x3)
 f:∀j,j<4→w.frozen? ⟨g,j,none⟩=false
theorem Four.pick{w:World}{g:Nat}{x0 x1 x2 x3:Int}(h:Four w g x0 x1 x2 x3)(j:Nat)(hj:j<4):∃x,w.cell? ⟨g,j,none⟩=some (.int .i64 x)∧x=(if j=0 then x0 else if j=1 then x1 else if j=2 then x2 else x3):=by
 match j,hj with
 | 0,_=>exact⟨x0,h.c0,rfl⟩
 | 1,_=>exact⟨x1,h.c1,rfl⟩
 | 2,_=>exact⟨x2,h.c2,rfl⟩
 | 3,_=>exact⟨x3,h.c3,rfl⟩
theorem Four.put{w:World}{g:Nat}{x0 x1 x2 x3:Int}(h:Four w g x0 x1 x2 x3)(j:Nat)(hj:j<4)(x:Int) :
  Four (w.setCell ⟨g,j,none⟩ (.int .i64 x)) g (if j=0 then x else x0) (if j=1 then x else x1) (if j=2 then x else x2) (if j=3 then x else x3) where
 lt:=by simpa using h.lt
 c0:=by
  by_cases e:j=0
  ·subst e;simpa using World.cell?_setCell_same _ _ _ h.c0
  ·rw [if_neg e];exact(World.cell?_setCell_other _ _ _ _ (by intro q;injection q with _ q;exact e q)).trans h.c0
 c1:=by
  by_cases e:j=1
  ·subst e;simpa using World.cell?_setCell_same _ _ _ h.c1
  ·rw [if_neg e];exact(World.cell?_setCell_other _ _ _ _ (by intro q;injection q with _ q;exact e q)).trans h.c1
 c2:=by
  by_cases e:j=2
  ·subst e;simpa using World.cell?_setCell_same _ _ _ h.c2
  ·rw [if_neg e];exact(World.cell?_setCell_other _ _ _ _ (by intro q;injection q with _ q;exact e q)).trans h.c2
 c3:=by
  by_cases e:j=3
  ·subst e;simpa using World.cell?_setCell_same _ _ _ h.c3
  ·rw [if_neg e];exact(World.cell?_setCell_other _ _ _ _ (by intro q;injection q with _ q;exact e q)).trans h.c3
 f:=fun i hi=>by simpa using h.f i hi
theorem four_new(w:World)(t:TypeId):Four (w.alloc (.cells #[.int .i64 0,.int .i64 0,.int .i64 0,.int .i64 0] t)) w.heap.size 0 0 0 0 where
 lt:=by simp
 c0:=by simp
 c1:=by simp
 c2:=by simp
 c3:=by simp
 f:=fun j hj=>by simp
theorem below_put{b g:Nat}{w w':World}(h:Below b w w')(hg:b≤g)(j:Nat)(v:Value):Below b w (w'.setCell ⟨g,j,none⟩ v):=h.setCell (p:=⟨g,j,none⟩) hg v
end Lc
namespace Kn
def digB(c:UInt8):Bool:=decide (48≤c.toNat)&&decide (c.toNat≤57)
theorem isDigit(c:UInt8)(w:World):Calls Tryz.prog 174 #[.int .u8 (c.toNat:Int)] w fun e w'=>e=.returned (.bool (digB c))∧w=w':=by
 by_cases h1:(48:Int)≤(c.toNat:Int)
 ·go_enter Tryz.func174,Tryz.ntmps174
  go_wp2;go_ret;exact⟨Base.ret_bool (by rw [Bool.eq_iff_iff];simp [digB];omega),rfl⟩
 ·go_enter Tryz.func174,Tryz.ntmps174
  go_wp2;go_ret;exact⟨Base.ret_bool (by rw [Bool.eq_iff_iff];simp [digB];omega),rfl⟩
theorem isWordByte(c:UInt8)(w:World):Calls Tryz.prog 152 #[.int .u8 (c.toNat:Int)] w fun e w'=>e=.returned (.bool (okC c))∧w=w':=by
 have HO:Hid (okC c=((decide (97≤c.toNat)&&decide (c.toNat≤122)) || (digB c || decide (c.toNat=32)))):=rfl;have HE:Hid (decide (c.toNat=32)=(((c.toNat:Int)) == 32)):=by
  show _=_;rw [Bool.eq_iff_iff];simp;omega
 by_cases h1:(97:Int)≤(c.toNat:Int)
 ·by_cases h2:(c.toNat:Int)≤122
  ·have H:Hid (okC c=true):=by
    show _=true;rw [HO.out];simp;omega
   go_enter Tryz.func152,Tryz.ntmps152
   go_wp2_with (go_at_call 174;refine(isDigit c _).mono ?_;rintro e w' ⟨rfl,rfl⟩)
   go_ret;exact⟨Base.ret_bool H.out.symm,rfl⟩
  ·cases hd:digB c
   ·have H:Hid (okC c=(((c.toNat:Int)) == 32)):=by
     show _=_;rw [HO.out,hd,HE.out];have:decide (c.toNat≤122)=false:=by simp;omega
     rw [this];simp
    have HD:Hid (digB c=false):=hd;clear hd;go_enter Tryz.func152,Tryz.ntmps152
    go_wp2_with (go_at_call 174;refine(isDigit c _).mono ?_;rintro e w' ⟨rfl,rfl⟩;rw [HD.out])
    go_ret;exact⟨Base.ret_bool H.out.symm,rfl⟩
   ·have H:Hid (okC c=true):=by
     show _=true;rw [HO.out,hd];simp
    have HD:Hid (digB c=true):=hd;clear hd;go_enter Tryz.func152,Tryz.ntmps152
    go_wp2_with (go_at_call 174;refine(isDigit c _).mono ?_;rintro e w' ⟨rfl,rfl⟩;rw [HD.out])
    go_ret;exact⟨Base.ret_bool H.out.symm,rfl⟩
 ·cases hd:digB c
  ·have H:Hid (okC c=(((c.toNat:Int)) == 32)):=by
    show _=_;rw [HO.out,hd,HE.out];have:decide (97≤c.toNat)=false:=by simp;omega
    rw [this];simp
   have HD:Hid (digB c=false):=hd;clear hd;go_enter Tryz.func152,Tryz.ntmps152
   go_wp2_with (go_at_call 174;refine(isDigit c _).mono ?_;rintro e w' ⟨rfl,rfl⟩;rw [HD.out])
   go_ret;exact⟨Base.ret_bool H.out.symm,rfl⟩
  ·have H:Hid (okC c=true):=by
    show _=true;rw [HO.out,hd];simp
   have HD:Hid (digB c=true):=hd;clear hd;go_enter Tryz.func152,Tryz.ntmps152
   go_wp2_with (go_at_call 174;refine(isDigit c _).mono ?_;rintro e w' ⟨rfl,rfl⟩;rw [HD.out])
   go_ret;exact⟨Base.ret_bool H.out.symm,rfl⟩
theorem isWord(s:ByteArray)(w:World)(hs:s.size≤1099511627776):Calls Tryz.prog 131 #[.string s] w fun e w'=>e=.returned (.bool (okW s))∧w=w':=by
 by_cases h12:12<s.size
 ·have H:Hid (okW s=false):=by
   show _=false;have:decide (s.size≤12)=false:=by simp;omega
   unfold okW;rw [this,Bool.and_false]
  have h12':(12:Int)<(s.size:Int):=by omega
  go_enter Tryz.func131,Tryz.ntmps131
  go_wp2;go_ret;exact⟨Base.ret_bool H.out.symm,rfl⟩
 ·have h12':¬ (12:Int)<(s.size:Int):=by omega
  go_enter Tryz.func131,Tryz.ntmps131
  go_wp2;go_loop [9] (fun i=>∃k:Nat,k≤s.size∧i=.int .i64 k∧Hid ((s.data.toList.take k).all okC=true)) (fun i=>s.size-(intOf i).toNat)
  case atStart=>exact⟨0,Nat.zero_le _,rfl,rfl⟩
  case round=>
   obtain⟨k,hk,rfl,HA⟩:=hrel;by_cases hlt:k<s.size
   ·have HS:Hid ((s.data.toList.take (k+1)).all okC=((s.data.toList.take k).all okC&&okC s[k])):=all_snoc s k hlt
    cases hb:okC s[k]
    ·have H:Hid (okW s=false):=by
      show _=false;have hm:s[k]∈s.data.toList:=by
       have hk2:k<s.data.toList.length:=by simpa using hlt
       have e:s[k]=s.data.toList[k]:=rfl;rw [e];exact List.getElem_mem hk2
      unfold okW;have:s.data.toList.all okC=false:=by
       rw [List.all_eq_false];exact⟨s[k],hm,by simp [hb]⟩
      rw [this];rfl
     have HB:Hid (okC s[k]=false):=hb;clear hb;go_wp2_with (go_at_call 152;refine(isWordByte _ _).mono ?_;rintro e w' ⟨rfl,rfl⟩;rw [HB.out])
     go_ret;exact⟨Base.ret_bool H.out.symm,rfl⟩
    ·have HB:Hid (okC s[k]=true):=hb;have HC:Hid ((s.data.toList.take (k+1)).all okC=true):=by
      show _=true;rw [HS.out,HA.out,hb];rfl
     clear hb;go_wp2_with (go_at_call 152;refine(isWordByte _ _).mono ?_;rintro e w' ⟨rfl,rfl⟩;rw [HB.out])
     go_round
     case rel=>exact⟨k+1,by omega,by go_num,HC⟩
     case measure=>simp [intOf];omega
   ·have H:Hid (okW s=true):=by
     show _=true;have hk':k=s.size:=by omega
     have:=HA.out;rw [hk',take_all] at this;unfold okW;rw [this,Bool.true_and];simp;omega
    go_wp2;go_ret;exact⟨Base.ret_bool H.out.symm,rfl⟩
theorem known(h:Int)(w:World):Calls Tryz.prog 92 #[.int .i64 h] w fun e w'=>e=.returned (.bool (in3 h))∧w=w':=by
 by_cases h1:0≤h
 ·go_enter Tryz.func92,Tryz.ntmps92
  go_wp2;go_ret;exact⟨Base.ret_bool (by rw [Bool.eq_iff_iff];simp [in3,h1];omega),rfl⟩
 ·go_enter Tryz.func92,Tryz.ntmps92
  go_wp2;go_ret;exact⟨Base.ret_bool (by simp [in3];omega),rfl⟩
theorem isRound(r:Int)(w:World):Calls Tryz.prog 129 #[.int .i64 r] w fun e w'=>e=.returned (.bool (in19 r))∧w=w':=by
 by_cases h1:0≤r
 ·go_enter Tryz.func129,Tryz.ntmps129
  go_wp2;go_ret;exact⟨Base.ret_bool (by simp [in19,h1]),rfl⟩
 ·go_enter Tryz.func129,Tryz.ntmps129
  go_wp2;go_ret;exact⟨Base.ret_bool (by simp [in19];omega),rfl⟩
theorem rightFrom(h r f:Int)(s:ByteArray)(w:World):Calls Tryz.prog 130 #[.agg #[.int .i64 h,.int .i64 r,.int .i64 f,.string s]] w fun e w'=>e=.returned (.bool (Base.okB f&&both0 r f))∧Below w.heap.size w w':=by
 have B1:∀o:Obj,Below w.heap.size w (w.alloc o):=fun o=>(Below.refl _ _).alloc (Nat.le_refl _) o
 cases h1:Base.okB f
 ·have H1:Hid (Base.okB f=false):=h1;clear h1;go_enter Tryz.func130,Tryz.ntmps130
  go_wp2_with (go_at_call 94;refine(Base.right _ _).mono ?_;rintro e w' ⟨rfl,rfl⟩;rw [H1.out])
  go_ret;exact⟨rfl,B1 _⟩
 ·have H1:Hid (Base.okB f=true):=h1;clear h1;go_enter Tryz.func130,Tryz.ntmps130
  go_wp2_with (go_at_call 94;refine(Base.right _ _).mono ?_;rintro e w' ⟨rfl,rfl⟩;rw [H1.out])
  go_ret;exact⟨Base.ret_bool (by unfold both0;simp),B1 _⟩
theorem okK_eq(h r f:Int)(s:ByteArray):okK ⟨h,r,f,s⟩=(in3 h&&(in19 r&&((Base.okB f&&both0 r f)&&okW s))):=by
 unfold okK;simp only [Bool.and_assoc]
theorem knotRight(h r f:Int)(s:ByteArray)(w:World)(hs:s.size≤1099511627776):Calls Tryz.prog 103 #[.agg #[.int .i64 h,.int .i64 r,.int .i64 f,.string s]] w fun e w'=>
  e=.returned (.bool (okK ⟨h,r,f,s⟩))∧Below w.heap.size w w':=by
 have B0:Below w.heap.size w (w.alloc (.cells #[.int .i64 h,.int .i64 r,.int .i64 f,.string s] 104)):=(Below.refl _ _).alloc (Nat.le_refl _) _;have S0:w.heap.size<(w.alloc (.cells #[.int .i64 h,.int .i64 r,.int .i64 f,.string s] 104)).heap.size:=by simp
 have c0:(w.alloc (.cells #[.int .i64 h,.int .i64 r,.int .i64 f,.string s] 104)).cell? ⟨w.heap.size,0,none⟩=some (.int .i64 h):=by simp
 have c1:(w.alloc (.cells #[.int .i64 h,.int .i64 r,.int .i64 f,.string s] 104)).cell? ⟨w.heap.size,1,none⟩=some (.int .i64 r):=by simp
 have c2:(w.alloc (.cells #[.int .i64 h,.int .i64 r,.int .i64 f,.string s] 104)).cell? ⟨w.heap.size,2,none⟩=some (.int .i64 f):=by simp
 have c3:(w.alloc (.cells #[.int .i64 h,.int .i64 r,.int .i64 f,.string s] 104)).cell? ⟨w.heap.size,3,none⟩=some (.string s):=by simp
 have P0:Hid (Below w.heap.size w (w.alloc (.cells #[.int .i64 h,.int .i64 r,.int .i64 f,.string s] 104))∧_∧_∧_∧_∧_):=⟨B0,S0,c0,c1,c2,c3⟩
 have HK:Hid (okK ⟨h,r,f,s⟩=(in3 h&&(in19 r&&((Base.okB f&&both0 r f)&&okW s)))):=okK_eq h r f s;clear B0 S0 c0 c1 c2 c3
 cases h1:in3 h
 ·have H1:Hid (in3 h=false):=h1;clear h1;go_enter Tryz.func103,Tryz.ntmps103
  go_wp2_with (go_at_call 92;refine(known _ _).mono ?_;rintro e w' ⟨rfl,rfl⟩;rw [H1.out])
  go_ret;exact⟨Base.ret_bool (by rw [HK.out,H1.out];rfl),P0.out.1⟩
 ·have H1:Hid (in3 h=true):=h1;clear h1;go_enter Tryz.func103,Tryz.ntmps103
  go_wp2_with fail
  generalize w.alloc (.cells #[.int .i64 h,.int .i64 r,.int .i64 f,.string s] 104)=w0 at P0 ⊢;obtain⟨B0,S0,c0,c1,c2,c3⟩:=P0;generalize hb:w.heap.size=b at *;refine(known _ _).mono ?_;rintro e w' ⟨rfl,rfl⟩;rw [H1.out];go_wp2_with fail
  refine(isRound _ _).mono ?_;rintro e w1 ⟨rfl,hw1⟩;have hb1:Below w0.heap.size w0 w1:=hw1 ▸ Below.refl _ _;clear hw1;replace c0:=(hb1.cell (p:=⟨b,0,none⟩) S0).trans c0;replace c1:=(hb1.cell (p:=⟨b,1,none⟩) S0).trans c1;replace c2:=(hb1.cell (p:=⟨b,2,none⟩) S0).trans c2;replace c3:=(hb1.cell (p:=⟨b,3,none⟩) S0).trans c3;have B1:=B0.trans (hb1.mono (Nat.le_of_lt S0));have S1:b<w1.heap.size:=Nat.lt_of_lt_of_le S0 hb1.size;clear hb1 B0 S0
  cases h2:in19 r
  ·have H2:Hid (in19 r=false):=h2;go_wp2;go_ret;exact⟨Base.ret_bool (by rw [HK.out,H1.out,H2.out];rfl),by rw [hb];exact B1⟩
  ·have H2:Hid (in19 r=true):=h2;clear h2;go_wp2_with fail
   refine(rightFrom _ _ _ _ _).mono ?_;rintro e w2 ⟨rfl,hb2⟩;replace c3:=(hb2.cell (p:=⟨b,3,none⟩) S1).trans c3;have B2:=B1.trans (hb2.mono (Nat.le_of_lt S1));clear hb2 B1 S1 c0 c1 c2
   cases h3:(Base.okB f&&both0 r f)
   ·have H3:Hid ((Base.okB f&&both0 r f)=false):=h3;clear h3;go_wp2;go_ret;exact⟨Base.ret_bool (by rw [HK.out,H1.out,H2.out,H3.out];rfl),by rw [hb];exact B2⟩
   ·have H3:Hid ((Base.okB f&&both0 r f)=true):=h3;clear h3;go_wp2_with fail
    refine(isWord _ _ hs).mono ?_;rintro e w3 ⟨rfl,rfl⟩;go_wp2;go_ret;exact⟨Base.ret_bool (by rw [HK.out,H1.out,H2.out,H3.out];rfl),by rw [hb];exact B2⟩
theorem knotOf(h r f:Int)(s:ByteArray)(w:World):Calls Tryz.prog 74 #[.agg #[.int .i64 h,.int .i64 r,.int .i64 f,.string s]] w fun e w'=>
  e=.returned (.agg #[.int .i64 h,.int .i64 r,.int .i64 f,.string s])∧Below w.heap.size w w':=by
 go_enter Tryz.func74,Tryz.ntmps74
 go_wp2;exact bodyPost_ret (v:=.agg #[.int .i64 h,.int .i64 r,.int .i64 f,.string s]) (by simp [results,Tryz.results74,go_sem]) rfl ⟨rfl,((Below.refl _ _).alloc (Nat.le_refl _) _).alloc (by simp) _⟩
end Kn
namespace Lc
open Kn (K okK)
open Bit (bit withB)
theorem RdK.on{w:World}{g off:Nat}{L:List K}(h:RdK w (some ⟨g,off,none⟩) L)(i:Nat)(hi:i<L.length):g<w.heap.size∧CellsK w g (off+i*4) (at' L i):=by
 obtain⟨g',off',ha,hg,hc⟩:=h.at i hi;injection ha with ha;injection ha with h1 h2;subst h1 h2;exact⟨hg,hc⟩
theorem amongLess(g off cap:Nat)(L:List K)(s:Int)(kb:Nat)(k:K)(w:World)(hL:L.length≤60)(hs:Base.okB s=true)(hr:RdK w (some ⟨g,off,none⟩) L)(hkb:kb<w.heap.size)(hk:CellsK w kb 0 k) :
  Calls Tryz.prog 132 #[.slice (some ⟨g,off,none⟩) L.length cap,.int .i64 s,.func (.func 133) #[] #[.pointer (some ⟨kb,0,none⟩)]] w fun e w'=>
   e=.returned (.int .i64 (amongI (fun y=>decide (y.round<k.round)) L s L.length))∧Below w.heap.size w w':=by
 go_enter Tryz.func132,Tryz.ntmps132
 go_wp2;go_loopw [7,12] (fun o i wr=>∃j:Nat,j≤L.length∧i=.int .i64 j∧o=.int .i64 (amongI (fun y=>decide (y.round<k.round)) L s j)∧Hid (Below w.heap.size w wr)) (fun _ i _=>L.length-(intOf i).toNat)
 case atStart=>exact⟨0,by omega,rfl,rfl,Below.refl _ _⟩
 case round=>
  obtain⟨j,hj,rfl,rfl,HB⟩:=hrel;by_cases hlt:j<L.length
  ·obtain⟨hg,hc⟩:=hr.on j hlt;obtain⟨c0,c1,c2,c3⟩:=hc.below HB.out hg;have HO:Hid (Base.okB s=true):=hs;have hin:Base.inB (j:Int)=true:=(Base.inB_iff _).2 ⟨by omega,by omega⟩;have HA:Hid (amongI (fun y=>decide (y.round<k.round)) L s (j+1)=if bit s j&&(fun y=>decide (y.round<k.round)) (at' L j) then withB (amongI (fun y=>decide (y.round<k.round)) L s j) j else amongI (fun y=>decide (y.round<k.round)) L s j):=rfl;have hbd:=among_bd (fun y=>decide (y.round<k.round)) L s j (by omega);have HW:Hid (Base.withI (amongI (fun y=>decide (y.round<k.round)) L s j) (j:Int)=withB (amongI (fun y=>decide (y.round<k.round)) L s j) j):=by
    show _=_;unfold Base.withI;rw [(Base.okB_iff _).2 hbd,hin];simp
   have HN:Hid (Below w.heap.size w (wr.alloc (.cells #[.int .i64 (at' L j).hand,.int .i64 (at' L j).round,.int .i64 (at' L j).frm,.string (at' L j).word] 104))):=HB.out.alloc HB.out.size _;clear hbd;generalize amongI (fun y=>decide (y.round<k.round)) L s j=x at HA HW ⊢
   cases hb:bit s j
   ·have HH:Hid ((Base.okB s&&(Base.inB (j:Int)&&bit s j))=false):=by show _=_;simp [hb]
    have HD:Hid (amongI (fun y=>decide (y.round<k.round)) L s (j+1)=x):=by show _=_;rw [HA.out,hb];simp
    clear hb HA HW hin;go_wp2_with (go_at_call 65;refine(Base.has _ _ _).mono ?_;rintro e w' ⟨rfl,rfl⟩;rw [Int.toNat_natCast,HH.out])
    go_roundw
    case rel=>exact⟨j+1,by omega,by go_num,by rw [HD.out],HN⟩
    case measure=>simp [intOf];omega
   ·have HH:Hid ((Base.okB s&&(Base.inB (j:Int)&&bit s j))=true):=by show _=_;simp [hb,hin,HO.out]
    obtain⟨_,d1,_,_⟩:=hk.below HB.out hkb;rw [Nat.zero_add] at d1;have hkb2:kb<wr.heap.size:=Nat.lt_of_lt_of_le hkb HB.out.size;have HM:Hid (∀o:Obj,Below w.heap.size w ((wr.alloc (.cells #[.int .i64 (at' L j).hand,.int .i64 (at' L j).round,.int .i64 (at' L j).frm,.string (at' L j).word] 104)).alloc o)):=fun o=>HN.out.alloc HN.out.size o
    by_cases hq:(at' L j).round<k.round
    ·have HD:Hid (amongI (fun y=>decide (y.round<k.round)) L s (j+1)=withB x j):=by show _=_;rw [HA.out,hb];simp [hq]
     skip;clear hb HA hin HN;go_wp2_with (first | (go_at_call 65;refine(Base.has _ _ _).mono ?_;rintro e w' ⟨rfl,rfl⟩;rw [Int.toNat_natCast,HH.out]) | (go_at_call 148;refine(Base.withM _ _ _).mono ?_;rintro e w' ⟨rfl,rfl⟩;rw [HW.out]) | go_in)
     go_roundw
     case rel=>exact⟨j+1,by omega,by go_num,by rw [HD.out],HM.out _⟩
     case measure=>simp [intOf];omega
    ·have HD:Hid (amongI (fun y=>decide (y.round<k.round)) L s (j+1)=x):=by show _=_;rw [HA.out,hb];simp [hq]
     skip;clear hb HA hin HN;go_wp2_with (first | (go_at_call 65;refine(Base.has _ _ _).mono ?_;rintro e w' ⟨rfl,rfl⟩;rw [Int.toNat_natCast,HH.out]) | go_in)
     go_roundw
     case rel=>exact⟨j+1,by omega,by go_num,by rw [HD.out],HM.out _⟩
     case measure=>simp [intOf];omega
  ·obtain rfl:j=L.length:=by omega
   go_wp2;go_ret;exact⟨rfl,HB.out⟩
theorem amongRound(g off cap:Nat)(L:List K)(s:Int)(kb:Nat)(r:Int)(w:World)(hL:L.length≤60)(hs:Base.okB s=true)(hr:RdK w (some ⟨g,off,none⟩) L)(hkb:kb<w.heap.size)(hk:w.cell? ⟨kb,0,none⟩=some (.int .i64 r)) :
  Calls Tryz.prog 132 #[.slice (some ⟨g,off,none⟩) L.length cap,.int .i64 s,.func (.func 154) #[] #[.pointer (some ⟨kb,0,none⟩)]] w fun e w'=>
   e=.returned (.int .i64 (amongI (fun y=>decide (y.round=r)) L s L.length))∧Below w.heap.size w w':=by
 go_enter Tryz.func132,Tryz.ntmps132
 go_wp2;go_loopw [7,12] (fun o i wr=>∃j:Nat,j≤L.length∧i=.int .i64 j∧o=.int .i64 (amongI (fun y=>decide (y.round=r)) L s j)∧Hid (Below w.heap.size w wr)) (fun _ i _=>L.length-(intOf i).toNat)
 case atStart=>exact⟨0,by omega,rfl,rfl,Below.refl _ _⟩
 case round=>
  obtain⟨j,hj,rfl,rfl,HB⟩:=hrel;by_cases hlt:j<L.length
  ·obtain⟨hg,hc⟩:=hr.on j hlt;obtain⟨c0,c1,c2,c3⟩:=hc.below HB.out hg;have HO:Hid (Base.okB s=true):=hs;have hin:Base.inB (j:Int)=true:=(Base.inB_iff _).2 ⟨by omega,by omega⟩;have HA:Hid (amongI (fun y=>decide (y.round=r)) L s (j+1)=if bit s j&&(fun y=>decide (y.round=r)) (at' L j) then withB (amongI (fun y=>decide (y.round=r)) L s j) j else amongI (fun y=>decide (y.round=r)) L s j):=rfl;have hbd:=among_bd (fun y=>decide (y.round=r)) L s j (by omega);have HW:Hid (Base.withI (amongI (fun y=>decide (y.round=r)) L s j) (j:Int)=withB (amongI (fun y=>decide (y.round=r)) L s j) j):=by
    show _=_;unfold Base.withI;rw [(Base.okB_iff _).2 hbd,hin];simp
   have HN:Hid (Below w.heap.size w (wr.alloc (.cells #[.int .i64 (at' L j).hand,.int .i64 (at' L j).round,.int .i64 (at' L j).frm,.string (at' L j).word] 104))):=HB.out.alloc HB.out.size _;clear hbd;generalize amongI (fun y=>decide (y.round=r)) L s j=x at HA HW ⊢
   cases hb:bit s j
   ·have HH:Hid ((Base.okB s&&(Base.inB (j:Int)&&bit s j))=false):=by show _=_;simp [hb]
    have HD:Hid (amongI (fun y=>decide (y.round=r)) L s (j+1)=x):=by show _=_;rw [HA.out,hb];simp
    clear hb HA HW hin;go_wp2_with (go_at_call 65;refine(Base.has _ _ _).mono ?_;rintro e w' ⟨rfl,rfl⟩;rw [Int.toNat_natCast,HH.out])
    go_roundw
    case rel=>exact⟨j+1,by omega,by go_num,by rw [HD.out],HN⟩
    case measure=>simp [intOf];omega
   ·have HH:Hid ((Base.okB s&&(Base.inB (j:Int)&&bit s j))=true):=by show _=_;simp [hb,hin,HO.out]
    have d1:=(HB.out.cell (p:=⟨kb,0,none⟩) hkb).trans hk;have hkb2:kb<wr.heap.size:=Nat.lt_of_lt_of_le hkb HB.out.size;have HM:Hid (∀o:Obj,Below w.heap.size w ((wr.alloc (.cells #[.int .i64 (at' L j).hand,.int .i64 (at' L j).round,.int .i64 (at' L j).frm,.string (at' L j).word] 104)).alloc o)):=fun o=>HN.out.alloc HN.out.size o
    by_cases hq:(at' L j).round=r
    ·have HD:Hid (amongI (fun y=>decide (y.round=r)) L s (j+1)=withB x j):=by show _=_;rw [HA.out,hb];simp [hq]
     have hq1:((at' L j).round == r)=true:=by simpa using hq
     clear hq;clear hb HA hin HN;go_wp2_with (first | (go_at_call 65;refine(Base.has _ _ _).mono ?_;rintro e w' ⟨rfl,rfl⟩;rw [Int.toNat_natCast,HH.out]) | (go_at_call 148;refine(Base.withM _ _ _).mono ?_;rintro e w' ⟨rfl,rfl⟩;rw [HW.out]) | go_in)
     go_roundw
     case rel=>exact⟨j+1,by omega,by go_num,by rw [HD.out],HM.out _⟩
     case measure=>simp [intOf];omega
    ·have HD:Hid (amongI (fun y=>decide (y.round=r)) L s (j+1)=x):=by show _=_;rw [HA.out,hb];simp [hq]
     have hq1:((at' L j).round == r)=false:=by simpa using hq
     clear hq;clear hb HA hin HN;go_wp2_with (first | (go_at_call 65;refine(Base.has _ _ _).mono ?_;rintro e w' ⟨rfl,rfl⟩;rw [Int.toNat_natCast,HH.out]) | go_in)
     go_roundw
     case rel=>exact⟨j+1,by omega,by go_num,by rw [HD.out],HM.out _⟩
     case measure=>simp [intOf];omega
  ·obtain rfl:j=L.length:=by omega
   go_wp2;go_ret;exact⟨rfl,HB.out⟩
end Lc
namespace Lst
open Memb (Own)
def Rd(w:World)(ao:Option Addr)(l:List Int):Prop:=l=[]∨∃g,ao=some ⟨g,0,none⟩∧∀j,j<l.length→w.cell? ⟨g,j,none⟩=some (.int .i64 (l.getD j 0))
theorem own_block{B:Nat}{w:World}{ao:Option Addr}{cap:Nat}{l:List Int}(h:Own B w ao cap l)(hl:l≠[]):∃g,ao=some ⟨g,0,none⟩∧B≤g∧g<w.heap.size:=by
 have hlt:=World.ownsRow.lt h;obtain⟨_,⟨_,hn⟩ | ⟨g,cap',cur,hv,hB,_⟩⟩:=h
 ·exact absurd (List.length_eq_zero_iff.1 hn) hl
 ·simp only [Value.slice.injEq] at hv;obtain⟨rfl,_,_⟩:=hv;exact⟨g,rfl,hB,(hlt g rfl).2⟩
theorem own_rd{B:Nat}{w:World}{ao:Option Addr}{cap:Nat}{l:List Int}(h:Own B w ao cap l):Rd w ao l:=by
 by_cases hl:l=[]
 ·exact .inl hl
 ·obtain⟨g,rfl,_,_⟩:=own_block h hl;refine .inr ⟨g,rfl,fun j hj=>?_⟩;have:=World.ownsRow.cellAt h j (by omega);rw [this];simp [hj]
theorem own_below{B:Nat}{w w':World}{ao:Option Addr}{cap:Nat}{l:List Int}(h:Own B w ao cap l)(hb:Below w.heap.size w w'):Own B w' ao cap l:=by
 have hlt:=World.ownsRow.lt h;unfold Own at *;obtain⟨h1,h2⟩:=h;refine⟨h1,?_⟩;rcases h2 with h2 | ⟨g,cap',cur,hv,hB,hg,rest⟩
 ·exact .inl h2
 ·refine .inr ⟨g,cap',cur,hv,hB,?_,rest⟩;rw [hv] at hlt;rw [hb.block g (hlt g rfl).2];exact hg
theorem alike(l:List Int)(a b:Option Addr)(ca cb:Nat)(w:World)(hn:l.length≤1048576)(ha:Rd w a l)(hb:Rd w b l) :
  Calls Tryz.prog 10 #[.slice a l.length ca,.slice b l.length cb] w fun e w'=>e=.returned (.bool true)∧∃n,w'=w.drewN n:=by
 go_enter Tryz.func10,Tryz.ntmps10
 go_wp2;go_loopw [5] (fun i wr=>∃k n:Nat,k≤l.length∧i=.int .i64 k∧wr=w.drewN n) (fun i _=>l.length-(intOf i).toNat)
 case atStart=>exact⟨0,0,by omega,rfl,rfl⟩
 case round=>
  obtain⟨k,n,hkn,rfl,rfl⟩:=hrel;by_cases hlt:k<l.length
  ·rcases ha with h | ⟨g,rfl,hc⟩
   ·exfalso;rw [h] at hlt;simp at hlt
   ·rcases hb with h | ⟨g',rfl,hc'⟩
    ·exfalso;rw [h] at hlt;simp at hlt
    ·have h1:=hc k hlt;have h2:=hc' k hlt;clear hc hc';generalize l.getD k 0=x at h1 h2;go_wp2_with fail
     go_quiet (fail)
     go_wp2;go_roundw
     case rel=>exact⟨k+1,_,by omega,by go_num,rfl⟩
     case measure=>simp [intOf];omega
  ·go_wp2;go_ret;exact⟨rfl,n,rfl⟩
def inL(l:List Int)(x:Int):Bool:=l.contains x
theorem inL_iff(l:List Int)(x:Int):inL l x=true↔x∈l:=by simp [inL]
theorem isIn(l:List Int)(x:Int)(a:Option Addr)(ca:Nat)(w:World)(hn:l.length≤1048576)(ha:Rd w a l) :
  Calls Tryz.prog 17 #[.slice a l.length ca,.int .i64 x] w fun e w'=>e=.returned (.bool (inL l x))∧w=w':=by
 go_enter Tryz.func17,Tryz.ntmps17
 go_wp2;go_loop [5] (fun i=>∃k:Nat,k≤l.length∧i=.int .i64 k∧inL (l.take k) x=false) (fun i=>l.length-(intOf i).toNat)
 case atStart=>exact⟨0,by omega,rfl,by simp [inL]⟩
 case round=>
  obtain⟨k,hkn,rfl,hno⟩:=hrel;have HN:Hid (inL (l.take k) x=false):=hno;clear hno;by_cases hlt:k<l.length
  ·rcases ha with h | ⟨g,rfl,hc⟩
   ·exfalso;rw [h] at hlt;simp at hlt
   ·have h1:=hc k hlt;have e:l.getD k 0=l[k]:=by simp [hlt]
    rw [e] at h1;clear hc e;have HE:Hid (l.take (k+1)=l.take k++[l[k]]):=(List.take_succ_eq_append_getElem hlt)
    by_cases hx:l[k]=x
    ·have HX:Hid (inL l x=true):=by
      show inL l x=true;rw [inL_iff,← hx];exact List.getElem_mem hlt
     have hxb:(l[k] == x)=true:=by simpa using hx
     generalize l[k]=y at *;go_wp2;go_ret;exact⟨Base.ret_bool HX.out.symm,rfl⟩
    ·have hxb:(l[k] == x)=false:=by simpa using hx
     have HX:Hid (inL (l.take (k+1)) x=false):=by
      show inL (l.take (k+1)) x=false;have hn1:=HN.out;unfold inL at hn1 ⊢;rw [HE.out,List.contains_append,hn1];simpa using Ne.symm hx
     clear HE hx;generalize l[k]=y at *;go_wp2;go_round
     case rel=>exact⟨k+1,by omega,by go_num,HX.out⟩
     case measure=>simp [intOf];omega
  ·have hk:l.take k=l:=List.take_of_length_le (by omega);have HX:Hid (inL l x=false):=by
    show inL l x=false;rw [← HN.out,hk]
   clear hk;go_wp2;go_ret;exact⟨Base.ret_bool HX.out.symm,rfl⟩
end Lst
namespace Sg
open Kn (K okK)
open Bit (bit)
open Lc (at' RdK)
open Memb (Own)
def NumsPost(l:List Int)(w:World)(e:Ending)(w':World):Prop:=∃ao cap,e=.returned (.slice ao l.length cap)∧Own w.heap.size w' ao cap l∧Below w.heap.size w w'
theorem one_new(W:World)(x:Int)(t:TypeId):∀(j:Nat) u,([Value.int .i64 x])[j]? = some u→(W.alloc (.cells #[.int .i64 x] t)).cell? ((⟨W.heap.size,0,none⟩:Addr).add j)=some u:=by
 intro q u hq;match q,hq with
 | 0,hq=>simp at hq;subst hq;simp [Addr.add]
theorem one_one(x:Int):∀u∈[Value.int .i64 x],u.oneCell'=true:=by
 intro u hu;simp at hu;subst hu;rfl
theorem l4All(ao:Option Addr)(cap:Nat)(L:List K)(w:World)(hL:L.length≤60)(hf:FrmOk L)(hr:RdK w ao L) :
  Calls Tryz.prog 48 #[.slice ao L.length cap] w (NumsPost (belows L L.length) w):=by
 obtain⟨i0,hi,hz0,hz1,hz2⟩:=info_parts Memb.info2;go_enter Tryz.func48,Tryz.ntmps48
 go_wp2;go_loopw [3,4] (fun v i wr=>∃j:Nat,j≤L.length∧i=.int .i64 j∧Hid (wr.ownsRow w.heap.size 2 1 v (belows L j).length ((belows L j).map (Value.int .i64)))∧Hid (Below w.heap.size w wr)) (fun _ i _=>L.length-(intOf i).toNat)
 case atStart=>exact⟨0,by omega,rfl,Memb.own_empty w,(Below.refl _ _).alloc (Nat.le_refl _) _⟩
 case round=>
  obtain⟨j,hj,rfl,HO,HB⟩:=hrel;by_cases hlt:j<L.length
  ·obtain⟨g,off,rfl,hg,hc⟩:=hr.at j hlt;obtain⟨_,_,c2,_⟩:=hc.below HB.out hg;have hfj:=hf _ (Lc.at_mem L j hlt);have hbl:=belows_len L j;have hbi:=belows_in L j (by omega);obtain⟨bo,bc,hv,hown⟩:=Memb.own_shape HO.out;subst hv;have hrd:=Lst.own_rd hown;have HS:Hid (belows L (j+1)=belows L j++[accB (at' L j).frm (belows L j) j j]):=rfl;have HOA:Hid (∀o:Obj,(wr.alloc o).ownsRow w.heap.size 2 1 (.slice bo (belows L j).length bc) (belows L j).length ((belows L j).map (Value.int .i64))):=fun o=>hown.alloc o
   clear hc;have HBL:Hid ((belows L j).length=j):=hbl;have hl60:(belows L j).length≤60:=by omega
   clear hbl;generalize belows L j=l at HS HO hown hrd HBL hl60 hbi HOA ⊢;go_wp2_with (go_at_call 82;refine(Base.l1Bit _ _ (by omega) (by omega)).mono ?_;rintro e w' ⟨rfl,rfl⟩;rw [Int.toNat_natCast])
   go_loop [5,6] (fun s k=>∃m:Nat,m≤j∧k=.int .i64 m∧s=.int .i64 (accB (at' L j).frm l j m)) (fun _ k=>j-(intOf k).toNat)
   case atStart=>exact⟨0,by omega,rfl,rfl⟩
   case round=>
    obtain⟨m,hm,rfl,rfl⟩:=hrel;by_cases hml:m<j
    ·have hab:=accB_bd (at' L j).frm l j m (by omega) hbi;have hgb:=within_get hbi m;have HA:Hid (accB (at' L j).frm l j (m+1)=if bit (at' L j).frm m then orB (accB (at' L j).frm l j m) (l.getD m 0) else accB (at' L j).frm l j m):=rfl;rcases hrd with hrd | ⟨b,rfl,hcell⟩
     ·have:=HBL.out;rw [hrd] at this;simp at this;omega
     have cm:=hcell m (by have:=HBL.out;omega);have hml2:(m:Int)<(l.length:Int):=by have:=HBL.out;omega
     have hor:=or_eq _ _ hab.1 hab.2 hgb.1 hgb.2;clear hcell hgb hab;generalize accB (at' L j).frm l j m=x at HA hor ⊢;generalize l.getD m 0=y at HA hor cm
     cases hb:bit (at' L j).frm m
     ·have HD:Hid (accB (at' L j).frm l j (m+1)=x):=by show _=_;rw [HA.out,hb];rfl
      have HBb:Hid (bit (at' L j).frm m=false):=hb;clear hb HA hor;go_wp2_with (go_at_call 45;refine(Base.l1Has _ _ _ hfj.1 hfj.2 (by omega) (by omega)).mono ?_;rintro e w' ⟨rfl,rfl⟩;rw [Int.toNat_natCast,HBb.out])
      go_round
      case rel=>exact⟨m+1,by omega,by go_num,by rw [HD.out]⟩
      case measure=>simp [intOf];omega
     ·have HD:Hid (accB (at' L j).frm l j (m+1)=orB x y):=by show _=_;rw [HA.out,hb];rfl
      have HBb:Hid (bit (at' L j).frm m=true):=hb;have HOr:Hid (bits .or .i64 x y=orB x y):=hor;clear hb HA hor;go_wp2_with (go_at_call 45;refine(Base.l1Has _ _ _ hfj.1 hfj.2 (by omega) (by omega)).mono ?_;rintro e w' ⟨rfl,rfl⟩;rw [Int.toNat_natCast,HBb.out])
      go_round
      case rel=>exact⟨m+1,by omega,by go_num,by rw [HD.out,HOr.out]⟩
      case measure=>simp [intOf];omega
    ·obtain rfl:m=j:=by omega
     generalize accB (at' L m).frm l m m=x at HS ⊢;clear hrd c2;go_wp2_with (at_builtin;refine wpList_append_own _ rfl _ _ 25 rfl w.heap.size 2 i0 (.int .i64 0) 1 8 Tryz.underlying25 hi hz0 hz1 hz2 rfl (by decide) _ _ _ rfl (HOA.out _) ⟨wr.heap.size,0,none⟩ 1 1 [.int .i64 x] rfl rfl (one_new wr x _) (one_one x) ?c3 ?c4 ?c5 ?_)
     case c3=>unfold maxLen;omega
     case c4=>omega
     case c5=>have:=HB.out.size;simp;omega
     intro v' w1 hown' hgrow _;have R:=Memb.rel_put HS.out HB.out.size HO.out HB.out hown' hgrow;have HO1:Hid _:=R.1;have HB1:Hid _:=R.2.1;clear hown' hgrow R hown HO HB HOA;go_wp2;go_roundw
     case rel=>exact⟨m+1,by omega,by go_num,HO1,HB1⟩
     case measure=>simp [intOf];omega
  ·obtain rfl:j=L.length:=by omega
   obtain⟨bo,bc,hv,hown⟩:=Memb.own_shape HO.out;have HV:Hid (u3=.slice bo (belows L L.length).length bc):=hv;clear hv;go_wp2;go_ret;exact⟨bo,bc,by rw [← HV.out];rfl,hown,HB.out⟩
theorem l4Closed(bo:Option Addr)(cap:Nat)(l:List Int)(s:Int)(w:World)(hl:l.length≤60)(h0:0≤s)(h1:s<1152921504606846976)(hrd:Lst.Rd w bo l) :
  Calls Tryz.prog 91 #[.slice bo l.length cap,.int .i64 s] w fun e w'=>e=.returned (.bool (closedTo l s l.length))∧w=w':=by
 go_enter Tryz.func91,Tryz.ntmps91
 go_wp2;go_loop [5] (fun i=>∃j:Nat,j≤l.length∧i=.int .i64 j∧Hid (closedTo l s j=true)) (fun i=>l.length-(intOf i).toNat)
 case atStart=>exact⟨0,by omega,rfl,rfl⟩
 case round=>
  obtain⟨j,hj,rfl,HC⟩:=hrel;by_cases hlt:j<l.length
  ·rcases hrd with hrd | ⟨b,rfl,hcell⟩
   ·rw [hrd] at hlt;simp at hlt
   have cj:=hcell j hlt;have HST:Hid (closedTo l s (j+1)=(closedTo l s j&&(!bit s j || (bits .andNot .i64 (l.getD j 0) s == 0)))):=closed_step l s j;have HNO:Hid (bit s j=true→(bits .andNot .i64 (l.getD j 0) s == 0)=false→closedTo l s l.length=false):=closed_no l s j l.length hlt;clear hcell;generalize l.getD j 0=y at HST HNO cj
   cases hb:bit s j
   ·have HS:Hid (closedTo l s (j+1)=true):=by show _=_;rw [HST.out,HC.out,hb];rfl
    have HBb:Hid (bit s j=false):=hb;clear hb HST HNO HC;go_wp2_with (go_at_call 45;refine(Base.l1Has _ _ _ h0 h1 (by omega) (by omega)).mono ?_;rintro e w' ⟨rfl,rfl⟩;rw [Int.toNat_natCast,HBb.out])
    go_round
    case rel=>exact⟨j+1,by omega,by go_num,HS⟩
    case measure=>simp [intOf];omega
   ·have HBb:Hid (bit s j=true):=hb
    cases hq:(bits .andNot .i64 y s == 0)
    ·have HS:Hid (closedTo l s l.length=false):=HNO.out hb hq;have hq':(bits .andNot .i64 y s != 0)=true:=by rw [bne,hq];rfl
     clear hb hq HST HNO HC;go_wp2_with (go_at_call 45;refine(Base.l1Has _ _ _ h0 h1 (by omega) (by omega)).mono ?_;rintro e w' ⟨rfl,rfl⟩;rw [Int.toNat_natCast,HBb.out])
     go_ret;exact⟨by rw [HS.out];rfl,rfl⟩
    ·have HS:Hid (closedTo l s (j+1)=true):=by show _=_;rw [HST.out,HC.out,hb,hq];rfl
     have hq':(bits .andNot .i64 y s != 0)=false:=by rw [bne,hq];rfl
     clear hb hq HST HNO HC;go_wp2_with (go_at_call 45;refine(Base.l1Has _ _ _ h0 h1 (by omega) (by omega)).mono ?_;rintro e w' ⟨rfl,rfl⟩;rw [Int.toNat_natCast,HBb.out])
     go_round
     case rel=>exact⟨j+1,by omega,by go_num,HS⟩
     case measure=>simp [intOf];omega
  ·obtain rfl:j=l.length:=by omega
   go_wp2;go_ret;exact⟨by rw [HC.out];rfl,rfl⟩
theorem l4Tips(bo:Option Addr)(cap:Nat)(l:List Int)(s:Int)(w:World)(hl:l.length≤60)(h0:0≤s)(h1:s<1152921504606846976)(hrd:Lst.Rd w bo l) :
  Calls Tryz.prog 189 #[.slice bo l.length cap,.int .i64 s] w fun e w'=>e=.returned (.int .i64 (tipsTo l s l.length))∧∃n,w'=w.drewN n:=by
 go_enter Tryz.func189,Tryz.ntmps189
 go_wp2;go_loopw [5,6] (fun o i wr=>∃j n:Nat,j≤l.length∧i=.int .i64 j∧o=.int .i64 (tipsTo l s j)∧wr=w.drewN n) (fun _ i _=>l.length-(intOf i).toNat)
 case atStart=>exact⟨0,0,by omega,rfl,rfl,rfl⟩
 case round=>
  obtain⟨j,n,hj,rfl,rfl,rfl⟩:=hrel;by_cases hlt:j<l.length
  ·rcases hrd with hrd | ⟨b,rfl,hcell⟩
   ·rw [hrd] at hlt;simp at hlt
   have cj:=hcell j hlt;have HST:Hid (tipsTo l s (j+1)=if bit s j then bits .andNot .i64 (tipsTo l s j) (bits .andNot .i64 (l.getD j 0) (2 ^ j)) else tipsTo l s j):=rfl;clear hcell;generalize l.getD j 0=y at HST cj;generalize tipsTo l s j=x at HST ⊢
   cases hb:bit s j
   ·have HS:Hid (tipsTo l s (j+1)=x):=by show _=_;rw [HST.out,hb];rfl
    have HBb:Hid (bit s j=false):=hb;clear hb HST;go_wp2_with (go_at_call 45;refine(Base.l1Has _ _ _ h0 h1 (by omega) (by omega)).mono ?_;rintro e w' ⟨rfl,rfl⟩;rw [Int.toNat_natCast,HBb.out])
    go_roundw
    case rel=>exact⟨j+1,n,by omega,by go_num,by rw [HS.out],rfl⟩
    case measure=>simp [intOf];omega
   ·have HS:Hid (tipsTo l s (j+1)=bits .andNot .i64 x (bits .andNot .i64 y (2 ^ j))):=by show _=_;rw [HST.out,hb];rfl
    have HBb:Hid (bit s j=true):=hb;have hcall:∀V:World,Calls Tryz.prog 82 #[.int .i64 (j:Int)] V fun e w'=>e=.returned (.int .i64 (2 ^ j))∧w'=V:=by
     intro V;refine(Base.l1Bit (j:Int) V (by omega) (by omega)).mono ?_;rintro e w' ⟨rfl,rfl⟩;exact⟨by rw [Int.toNat_natCast],rfl⟩
    clear hb HST;go_wp2_with (first | (go_at_call 45;refine(Base.l1Has _ _ _ h0 h1 (by omega) (by omega)).mono ?_;rintro e w' ⟨rfl,rfl⟩;rw [Int.toNat_natCast,HBb.out]) | fail)
    go_quiet (first | (go_at_call 82;exact(hcall _).mono fun _ _ h=>⟨h.1,_,h.2⟩))
    go_wp2;go_roundw
    case rel=>exact⟨j+1,n+nq,by omega,by go_num,by rw [HS.out],by simp⟩
    case measure=>simp [intOf];omega
  ·obtain rfl:j=l.length:=by omega
   go_wp2;go_ret;exact⟨rfl,n,rfl⟩
end Sg
end Go.Proofs.YtbkeldfbllhlbaaGreat
