/-
 What the model's FreshOf, Ordered, TaleOf and OutOf answer; for coins of at most a million numbers and lists of knots whose words have at most 2^40 bytes.
 Plain mathematics of a walk back along the threads: it goes through the numbers from the last to the first, keeps the set of those reached, and adds a reached one's threads; what it meets is what hangs below the set; for laces.
-/
import Derived.Test.YtbkeldfbllhlbaaGreatqzg5
import Derived.Laws.AppendOwnNone
set_option linter.unusedVariables false
set_option maxRecDepth 100000
set_option maxHeartbeats 6400000
namespace Go.Proofs.YtbkeldfbllhlbaaGreat
open Go.RowKit
namespace Sg
open Kn (K okK)
open Bit (bit withB)
open Lc (at')
structure Inv(L:List K)(s:Int)(m:Nat)(r:Int):Prop where
 lo:0≤r
 hi:r<1152921504606846976
 start:∀j,bit s j=true→bit r j=true
 sound:∀j,bit r j=true→bit s j=true∨∃i,i<L.length∧bit s i=true∧Reach L i j
 done:∀i,m≤i→i<L.length→bit r i=true→∀j,bit (at' L i).frm j=true→bit r j=true
theorem inv_start(L:List K)(s:Int)(h0:0≤s)(h1:s<1152921504606846976):Inv L s L.length s:=
 ⟨h0,h1,fun _ h=>h,fun _ h=>.inl h,fun i h1 h2=>by omega⟩
theorem inv_skip{L:List K}{s r:Int}{m:Nat}(h:Inv L s (m+1) r)(hb:bit r m=false):Inv L s m r:=
 ⟨h.lo,h.hi,h.start,h.sound,fun i hi hl hr j hj=>by
   by_cases e:i=m
   · subst e;rw [hb] at hr;exact Bool.noConfusion hr
   · exact h.done i (by omega) hl hr j hj⟩
theorem inv_take{L:List K}(hl:Lc.laceB L=true){s r:Int}{m:Nat}(hm:m<L.length)(h:Inv L s (m+1) r)(hb:bit r m=true):Inv L s m (orB r (at' L m).frm):=by
 have hf:=frm_lace hl _ (Lc.at_mem L m hm);have hbd:=orB_bd r (at' L m).frm h.lo h.hi hf.1 hf.2;refine⟨hbd.1,hbd.2,?_,?_,?_⟩
 ·intro j hj;rw [bit_orB _ _ h.lo hf.1,h.start j hj];rfl
 ·intro j hj;rw [bit_orB _ _ h.lo hf.1,Bool.or_eq_true] at hj;rcases hj with hj | hj
  ·exact h.sound j hj
  ·rcases h.sound m hb with hs | ⟨i,hi,hs,hr⟩
   ·exact .inr ⟨m,hm,hs,.step hj (.self _)⟩
   ·exact .inr ⟨i,hi,hs,hr.trans (.step hj (.self _))⟩
 ·intro i hi hil hr j hj;rw [bit_orB _ _ h.lo hf.1,Bool.or_eq_true] at hr ⊢;by_cases e:i=m
  ·subst e;exact .inr hj
  ·rcases hr with hr | hr
   ·exact .inl (h.done i (by omega) hil hr j hj)
   ·have:=thread_lt hl hm hr;omega
theorem inv_reach{L:List K}(hl:Lc.laceB L=true){s r:Int}(h:Inv L s 0 r){i j:Nat}(hi:i<L.length)(hb:bit r i=true)(hr:Reach L i j):bit r j=true:=by
 induction hr with
 | self=>exact hb
 | step hm _ ih=>exact ih (Nat.lt_trans (thread_lt hl hi hm) hi) (h.done _ (Nat.zero_le _) hi hb _ hm)
structure Met(L:List K)(m:Nat)(r f:Int):Prop where
 lo:0≤f
 hi:f<1152921504606846976
 has:∀j,bit f j=true↔m≤j∧j<L.length∧bit r j=true
theorem met_start(L:List K)(s:Int):Met L L.length s 0:=⟨by omega,by omega,fun j=>by rw [Lc.bit_zero];simp;omega⟩
theorem met_skip{L:List K}{r f:Int}{m:Nat}(h:Met L (m+1) r f)(hb:bit r m=false):Met L m r f:=
 ⟨h.lo,h.hi,fun j=>by
   rw [h.has j];constructor
   · rintro⟨a,b,c⟩;exact⟨by omega,b,c⟩
   · rintro⟨a,b,c⟩;refine⟨?_,b,c⟩;apply Classical.byContradiction;intro hn;obtain rfl:j=m:=by omega
     rw [hb] at c;exact Bool.noConfusion c⟩
theorem met_take{L:List K}(hl:Lc.laceB L=true){s r f:Int}{m:Nat}(hm:m<L.length)(hi:Inv L s (m+1) r)(h:Met L (m+1) r f)(hb:bit r m=true):Met L m (orB r (at' L m).frm) (withB f m):=by
 have h60:=((Lc.lace_iff L).1 hl).1;have hf:=frm_lace hl _ (Lc.at_mem L m hm);have hbd:=Bit.withB_bd f h.lo h.hi m (by omega);refine⟨hbd.1,hbd.2,fun j=>?_⟩;rw [Bit.bit_withB f h.lo,bit_orB _ _ hi.lo hf.1];simp only [Bool.or_eq_true,decide_eq_true_eq];rw [h.has j];constructor
 ·rintro(rfl | ⟨a,b,c⟩)
  ·exact⟨Nat.le_refl _,hm,.inl hb⟩
  ·exact⟨by omega,b,.inl c⟩
 ·rintro⟨a,b,c | c⟩
  ·by_cases e:j=m
   ·exact .inl e
   ·exact .inr ⟨by omega,b,c⟩
  ·have:=thread_lt hl hm c;omega
def oneI(k:Int):Int:=if 0≤k∧k<60 then 2 ^ k.toNat else 0
theorem oneI_bd(k:Int):0≤oneI k∧oneI k<1152921504606846976:=by
 unfold oneI;split
 ·rename_i h;have:=Base.pow_bd k.toNat (by omega);exact⟨by omega,this.2⟩
 ·omega
theorem bit_oneI(k:Int)(j:Nat):bit (oneI k) j=true↔k=(j:Int)∧j<60:=by
 unfold oneI;split
 ·rename_i h;rw [bit_pow];simp;omega
 ·rw [Lc.bit_zero];simp;omega
def metI(L:List K)(k:Int):Int:=if 0≤k∧k<(L.length:Int) then bel L k.toNat else 0
theorem met_end{L:List K}(hl:Lc.laceB L=true){k r f:Int}(hi:Inv L (oneI k) 0 r)(h:Met L 0 r f):f=metI L k:=by
 have h60:=((Lc.lace_iff L).1 hl).1;unfold metI;split
 ·rename_i hk;obtain⟨p,rfl⟩:=Int.eq_ofNat_of_zero_le hk.1;rw [Int.toNat_natCast];have hp:p<L.length:=by omega
  have hbd:=bel_bd L p (by omega);refine Lc.eq_of_bits _ _ h.lo hbd.1 fun j=>?_
  rw [Bool.eq_iff_iff,h.has j,bel_reach hl p hp j];constructor
  ·rintro⟨_,_,c⟩;rcases hi.sound j c with hs | ⟨i,_,hs,hr⟩
   ·have:=((bit_oneI _ _).1 hs).1;obtain rfl:p=j:=by omega
    exact .self _
   ·have:=((bit_oneI _ _).1 hs).1;obtain rfl:p=i:=by omega
    exact hr
  ·intro hr;have:=reach_le hl hp hr;refine⟨Nat.zero_le _,by omega,?_⟩;exact inv_reach hl hi hp (hi.start p ((bit_oneI _ _).2 ⟨rfl,by omega⟩)) hr
 ·rename_i hk;refine Lc.eq_of_bits _ _ h.lo (Int.le_refl _) fun j=>?_
  rw [Lc.bit_zero,Bool.eq_false_iff];intro hj;obtain⟨_,hjl,c⟩:=(h.has j).1 hj;rcases hi.sound j c with hs | ⟨i,hil,hs,_⟩
  ·have:=((bit_oneI _ _).1 hs).1;omega
  ·have:=((bit_oneI _ _).1 hs).1;omega
/-! ### closed -/
def Kept(L:List K)(s:Int)(m:Nat)(r:Int):Prop:=∀j,m≤j→j<L.length→bit r j=true→bit s j=true
theorem kept_start(L:List K)(s r:Int):Kept L s L.length r:=fun j h1 h2=>by omega
theorem kept_skip{L:List K}{s r:Int}{m:Nat}(h:Kept L s (m+1) r)(hb:bit r m=false):Kept L s m r:=fun j h1 h2 h3=>by
 by_cases e:j=m
 ·subst e;rw [hb] at h3;exact Bool.noConfusion h3
 ·exact h j (by omega) h2 h3
theorem kept_take{L:List K}(hl:Lc.laceB L=true){s r:Int}{m:Nat}(hm:m<L.length)(hi:Inv L s (m+1) r)(h:Kept L s (m+1) r)(hs:bit s m=true):Kept L s m (orB r (at' L m).frm):=fun j h1 h2 h3=>by
 have hf:=frm_lace hl _ (Lc.at_mem L m hm);by_cases e:j=m
 ·subst e;exact hs
 ·rw [bit_orB _ _ hi.lo hf.1,Bool.or_eq_true] at h3;rcases h3 with h3 | h3
  ·exact h j (by omega) h2 h3
  ·have:=thread_lt hl hm h3;omega
theorem reach_in{L:List K}(hl:Lc.laceB L=true){s:Int}(h:∀i,i<L.length→bit s i=true→∀m,bit (at' L i).frm m=true→bit s m=true){i j:Nat}(hi:i<L.length)(hb:bit s i=true)(hr:Reach L i j):bit s j=true:=by
 induction hr with
 | self=>exact hb
 | step hm _ ih=>exact ih (Nat.lt_trans (thread_lt hl hi hm) hi) (h _ hi hb _ hm)
theorem closed_end{L:List K}(hl:Lc.laceB L=true){s r:Int}(h0:0≤s)(h1:s<1152921504606846976)(hi:Inv L s 0 r)(h:Kept L s 0 r):closedTo (belows L L.length) s L.length=true:=by
 rw [closed_threads hl s h0 h1];intro i hil hb m hm;have:=thread_lt hl hil hm;exact h m (Nat.zero_le _) (by omega) (hi.done i (Nat.zero_le _) hil (hi.start i hb) m hm)
theorem closed_not{L:List K}(hl:Lc.laceB L=true){s r:Int}(h0:0≤s)(h1:s<1152921504606846976){m j:Nat}(hi:Inv L s m r)(hr:bit r j=true)(hs:bit s j=false):closedTo (belows L L.length) s L.length=false:=by
 rw [Bool.eq_false_iff];intro hc;rw [closed_threads hl s h0 h1] at hc;rcases hi.sound j hr with h | ⟨i,hil,hb,hre⟩
 ·rw [hs] at h;exact Bool.noConfusion h
 ·have:=reach_in hl hc hil hb hre;rw [hs] at this;exact Bool.noConfusion this
/-! ### tips -/
theorem bit_andNot(a s:Int)(h0:0≤a)(h1:a<1152921504606846976)(h2:0≤s)(h3:s<1152921504606846976)(i:Nat):bit (bits .andNot .i64 a s) i=(bit a i&&!bit s i):=by
 obtain⟨A,rfl⟩:=Int.eq_ofNat_of_zero_le h0;obtain⟨S,rfl⟩:=Int.eq_ofNat_of_zero_le h2;have hA:(BitVec.ofInt 64 (A:Int)).toNat=A:=ofInt_u64 A (by omega);have hS:(BitVec.ofInt 64 (S:Int)).toNat=S:=ofInt_u64 S (by omega);have hx:(BitVec.ofInt 64 (A:Int) &&& ~~~ BitVec.ofInt 64 (S:Int)).toNat≤A:=by
  rw [BitVec.toNat_and,hA];exact Nat.and_le_left
 have e:bits .andNot .i64 (A:Int) (S:Int)=((BitVec.ofInt 64 (A:Int) &&& ~~~ BitVec.ofInt 64 (S:Int)).toNat:Int):=by
  show IntKind.i64.wrap ((BitVec.ofInt 64 (A:Int) &&& ~~~ BitVec.ofInt 64 (S:Int)).toNat:Int)=_;rw [IntKind.wrap_i64];omega
 have hn:(0:Int)≤((BitVec.ofInt 64 (A:Int) &&& ~~~ BitVec.ofInt 64 (S:Int)).toNat:Int):=by omega
 rw [e,Bit.bit_testBit _ hn,Int.toNat_natCast,Bit.bit_testBit _ h0,Bit.bit_testBit _ h2,Int.toNat_natCast,Int.toNat_natCast];by_cases h64:i<64
 ·show(BitVec.ofInt 64 (A:Int) &&& ~~~ BitVec.ofInt 64 (S:Int)).getLsbD i=_;rw [BitVec.getLsbD_and,BitVec.getLsbD_not,BitVec.getLsbD,hA,BitVec.getLsbD,hS];simp [h64]
 ·have ha:A.testBit i=false:=Nat.testBit_lt_two_pow (Nat.lt_of_lt_of_le (show A<2 ^ 64 by omega) (Nat.pow_le_pow_right (by decide) (by omega)));have hb:(BitVec.ofInt 64 (A:Int) &&& ~~~ BitVec.ofInt 64 (S:Int)).toNat.testBit i=false:=Nat.testBit_lt_two_pow (Nat.lt_of_lt_of_le (show _<2 ^ 64 by omega) (Nat.pow_le_pow_right (by decide) (by omega)));rw [ha,hb];rfl
theorem andNot_bd'(a s:Int)(h0:0≤a)(h1:a<1152921504606846976):0≤bits .andNot .i64 a s∧bits .andNot .i64 a s<1152921504606846976:=by
 obtain⟨A,rfl⟩:=Int.eq_ofNat_of_zero_le h0;have hA:(BitVec.ofInt 64 (A:Int)).toNat=A:=ofInt_u64 A (by omega);have hx:(BitVec.ofInt 64 (A:Int) &&& ~~~ BitVec.ofInt 64 s).toNat≤A:=by
  rw [BitVec.toNat_and,hA];exact Nat.and_le_left
 have e:bits .andNot .i64 (A:Int) s=((BitVec.ofInt 64 (A:Int) &&& ~~~ BitVec.ofInt 64 s).toNat:Int):=by
  show IntKind.i64.wrap ((BitVec.ofInt 64 (A:Int) &&& ~~~ BitVec.ofInt 64 s).toNat:Int)=_;rw [IntKind.wrap_i64];omega
 rw [e];omega
def visF(L:List K):(m:Nat)→m≤L.length→Int→List (Fin L.length)
 | 0,_,_=>[]
 | m+1,h,r=>if bit r m then ⟨m,h⟩ :: visF L m (Nat.le_of_succ_le h) (orB r (at' L m).frm) else visF L m (Nat.le_of_succ_le h) r
def vis(L:List K)(s:Int):List (Fin L.length):=visF L L.length (Nat.le_refl _) s
theorem visF_yes(L:List K)(m:Nat)(h:m+1≤L.length)(r:Int)(hb:bit r m=true):visF L (m+1) h r=⟨m,h⟩ :: visF L m (Nat.le_of_succ_le h) (orB r (at' L m).frm):=by
 show(if bit r m then _ else _)=_;rw [hb];rfl
theorem visF_no(L:List K)(m:Nat)(h:m+1≤L.length)(r:Int)(hb:bit r m=false):visF L (m+1) h r=visF L m (Nat.le_of_succ_le h) r:=by
 show(if bit r m then _ else _)=_;rw [hb];rfl
theorem visF_len(L:List K)(m:Nat)(h:m≤L.length)(r:Int):(visF L m h r).length≤m:=by
 induction m generalizing r with
 | zero=>exact Nat.le_refl _
 | succ m ih=>
  cases hb:bit r m
  ·rw [visF_no L m h r hb];have:=ih (Nat.le_of_succ_le h) r;omega
  ·rw [visF_yes L m h r hb];have:=ih (Nat.le_of_succ_le h) (orB r (at' L m).frm);simp;omega
theorem vis_len(L:List K)(s:Int):(vis L s).length≤L.length:=visF_len L _ _ s
def gath{n:Nat}(f:Int)(xs:List (Fin n)):Int:=xs.foldl (fun f x=>withB f x.val) f
theorem gath_snoc{n:Nat}(f:Int)(xs:List (Fin n))(x:Fin n):gath f (xs++[x])=withB (gath f xs) x.val:=by simp [gath]
theorem gath_bd{n:Nat}(hn:n≤60)(xs:List (Fin n)):0≤gath 0 xs∧gath 0 xs<1152921504606846976:=by
 have:∀(xs:List (Fin n)) (f:Int),0≤f→f<1152921504606846976→0≤gath f xs∧gath f xs<1152921504606846976:=by
  intro xs;induction xs with
  | nil=>intro f h0 h1;exact⟨h0,h1⟩
  | cons x xs ih=>
   intro f h0 h1;have hx:=x.isLt;have hb:=Bit.withB_bd f h0 h1 x.val (by omega);exact ih _ hb.1 hb.2
 exact this xs 0 (by omega) (by omega)
theorem gath_vis{L:List K}(hl:Lc.laceB L=true)(k:Int):gath 0 (vis L (oneI k))=metI L k:=by
 have h60:=((Lc.lace_iff L).1 hl).1;have:∀(m:Nat) (h:m≤L.length) (r f:Int),Inv L (oneI k) m r→Met L m r f→gath f (visF L m h r)=metI L k:=by
  intro m;induction m with
  | zero=>intro h r f hi hm;exact met_end hl hi hm
  | succ m ih=>
   intro h r f hi hm
   cases hb:bit r m
   ·rw [visF_no L m h r hb];exact ih _ r f (inv_skip hi hb) (met_skip hm hb)
   ·rw [visF_yes L m h r hb];exact ih _ _ _ (inv_take hl h hi hb) (met_take hl h hi hm hb)
 exact this L.length (Nat.le_refl _) (oneI k) 0 (inv_start L _ (oneI_bd k).1 (oneI_bd k).2) (met_start L _)
theorem vis_closed{L:List K}(hl:Lc.laceB L=true)(s:Int)(h0:0≤s)(h1:s<1152921504606846976):(∀x∈vis L s,bit s x.val=true)↔closedTo (belows L L.length) s L.length=true:=by
 have:∀(m:Nat) (h:m≤L.length) (r:Int),Inv L s m r→Kept L s m r→((∀x∈visF L m h r,bit s x.val=true)↔closedTo (belows L L.length) s L.length=true):=by
  intro m;induction m with
  | zero=>intro h r hi hk;exact⟨fun _=>closed_end hl h0 h1 hi hk,fun _ x hx=>by cases hx⟩
  | succ m ih=>
   intro h r hi hk
   cases hb:bit r m
   ·rw [visF_no L m h r hb];exact ih _ r (inv_skip hi hb) (kept_skip hk hb)
   ·rw [visF_yes L m h r hb]
    cases hs:bit s m
    ·constructor
     ·intro hx;have:=hx ⟨m,h⟩ (List.mem_cons_self ..);rw [hs] at this;exact Bool.noConfusion this
     ·intro hc;rw [closed_not hl h0 h1 hi hb hs] at hc;exact Bool.noConfusion hc
    ·have:=ih (Nat.le_of_succ_le h) _ (inv_take hl h hi hb) (kept_take hl h hi hk hs);rw [← this];constructor
     ·intro hx x hm;exact hx x (List.mem_cons_of_mem _ hm)
     ·intro hx x hm;rcases List.mem_cons.1 hm with rfl | hm
      ·exact hs
      ·exact hx x hm
 exact this L.length (Nat.le_refl _) s (inv_start L _ h0 h1) (kept_start L s s)
end Sg
namespace Tl
open Kn (K okK)
open Bit (bit withB memTo)
open Lc (at' RdK WordsOk laceB setB)
open Sg (isB bel belows NumsPost)
open Nd (nodN nodS)
def baseS(L:List K)(k:Nat)(e:Int):Int:=if 0≤e then bits .andNot .i64 (bel L k) (bel L e.toNat) else bel L k
def frP(L:List K)(k:Nat)(e:Int):Nat→Int
 | 0=>baseS L k e
 | b+1=>if bit (frP L k e b) b&&!nodN L k b then bits .andNot .i64 (frP L k e b) (2 ^ b) else frP L k e b
theorem base_bd{L:List K}{k:Nat}(hk:k<60){e:Int}:0≤baseS L k e∧baseS L k e<1152921504606846976:=by
 have h1:=Sg.bel_bd L k hk;unfold baseS;split
 ·exact Sg.andNot_bd' _ _ h1.1 h1.2
 ·exact h1
theorem bit_base{L:List K}{k:Nat}(hk:k<60){e:Int}(he:e<60)(j:Nat):bit (baseS L k e) j=(bit (bel L k) j&&!(decide (0≤e)&&bit (bel L e.toNat) j)):=by
 have h1:=Sg.bel_bd L k hk;unfold baseS;by_cases h0:0≤e
 ·have h2:=Sg.bel_bd L e.toNat (by omega);rw [if_pos h0,Sg.bit_andNot _ _ h1.1 h1.2 h2.1 h2.2,decide_eq_true h0,Bool.true_and]
 ·rw [if_neg h0,decide_eq_false h0];simp
theorem pow_bd{b:Nat}(hb:b<60):(0:Int)≤2 ^ b∧(2:Int) ^ b<1152921504606846976:=by
 have h1:=Bit.pow_pos' b;have h2:(2:Nat) ^ b<2 ^ 60:=Nat.pow_lt_pow_right (by decide) hb;have h3:((2 ^ b:Nat):Int)=(2:Int) ^ b:=by simp
 omega
theorem frP_bits{L:List K}{k:Nat}(hk:k<60){e:Int}(b:Nat)(hb:b≤60):(0≤frP L k e b∧frP L k e b<1152921504606846976)∧∀j,bit (frP L k e b) j=(bit (baseS L k e) j&&(!decide (j<b) || nodN L k j)):=by
 induction b with
 | zero=>exact⟨base_bd hk,fun j=>by simp [frP]⟩
 | succ b ih=>
  have ih:=ih (by omega);have pb:=pow_bd (b:=b) (by omega);unfold frP
  cases hq:(bit (frP L k e b) b&&!nodN L k b)
  ·rw [if_neg (by simp)];refine⟨ih.1,fun j=>?_⟩;rw [ih.2 j];by_cases ej:j=b
   ·subst ej;rw [ih.2 j] at hq
    cases h1:bit (baseS L k e) j
    ·rfl
    ·rw [h1] at hq
     cases h2:nodN L k j
     ·rw [h2] at hq;simp at hq
     ·simp
   ·have:decide (j<b+1)=decide (j<b):=by simp;omega
    rw [this]
  ·rw [if_pos rfl];refine⟨Sg.andNot_bd' _ _ ih.1.1 ih.1.2,fun j=>?_⟩;rw [Sg.bit_andNot _ _ ih.1.1 ih.1.2 pb.1 pb.2,Sg.bit_pow,ih.2 j];rw [Bool.and_eq_true,Bool.not_eq_true'] at hq;by_cases ej:j=b
   ·subst ej;rw [hq.2];simp
   ·have:decide (j<b+1)=decide (j<b):=by simp;omega
    rw [this,decide_eq_false ej];simp
theorem frP_end{L:List K}(hl:laceB L=true){k:Nat}(hk:k<L.length){e:Int}(he:e<(L.length:Int)):frP L k e L.length=frS L k e L.length:=by
 have h60:=((Lc.lace_iff L).1 hl).1;have h1:=frP_bits (L:=L) (show k<60 by omega) (e:=e) L.length h60;refine Lc.eq_of_bits _ _ h1.1.1 (frS_bd L k e _ h60).1 fun j=>?_
 rw [h1.2 j,bit_frS L k e _ h60,bit_base (by omega) (by omega)];unfold fresN;by_cases hj:j<L.length
 ·rw [decide_eq_true hj];simp [Bool.and_assoc]
 ·have hb:bit (bel L k) j=false:=by
   rw [Bool.eq_false_iff];intro q;have:=Ag.sees_le hl hk q;omega
  rw [hb];simp
theorem l11Fresh(bb bc nb nc:Nat)(L:List K)(k:Nat)(e:Int)(w:World)(hl:laceB L=true)(hk:k<L.length)(he0:-1≤e)(he:e<(L.length:Int))(hbel:∀i,i<L.length→w.cell? ⟨bb,i,none⟩=some (.int .i64 (bel L i)))(hnod:∀i,i<L.length→w.cell? ⟨nb,i,none⟩=some (.int .i64 (nodS L i L.length))) :
  Calls Tryz.prog 81 #[.slice (some ⟨bb,0,none⟩) L.length bc,.slice (some ⟨nb,0,none⟩) L.length nc,.int .i64 (k:Int),.int .i64 e] w fun en w'=>en=.returned (.int .i64 (frS L k e L.length))∧w=w':=by
 have h60:=((Lc.lace_iff L).1 hl).1;have hki:(k:Int)<(L.length:Int):=by omega
 have ck:=hbel k hk;have HE:Hid (frP L k e L.length=frS L k e L.length):=frP_end hl hk he;have HNOD:Hid (∀i,i<L.length→w.cell? ⟨nb,i,none⟩=some (.int .i64 (nodS L i L.length))):=hnod;have HFB:Hid (∀b,b≤60→0≤frP L k e b∧frP L k e b<1152921504606846976):=fun b hb=>(frP_bits (by omega) b hb).1
 have HST:Hid (∀b,frP L k e (b+1)=if bit (frP L k e b) b&&!nodN L k b then bits .andNot .i64 (frP L k e b) (2 ^ b) else frP L k e b):=fun b=>rfl
 have HB0:Hid (frP L k e 0=baseS L k e):=rfl;clear hnod hl;by_cases h0:0≤e
 ·obtain⟨q,rfl⟩:=Int.eq_ofNat_of_zero_le h0;have ce:=hbel q (by omega);have HBQ:Hid (baseS L k (q:Int)=bits .andNot .i64 (bel L k) (bel L q)):=by show _=_;unfold baseS;rw [if_pos h0,Int.toNat_natCast]
  clear hbel;generalize bel L k=yk at ck HBQ;generalize bel L q=yq at ce HBQ;go_enter Tryz.func81,Tryz.ntmps81
  go_wp2;go_loop [9,10] (fun sv iv=>∃b:Nat,b≤L.length∧iv=.int .i64 (b:Int)∧sv=.int .i64 (frP L k (q:Int) b)) (fun _ iv=>L.length-(intOf iv).toNat)
  case atStart=>exact⟨0,by omega,rfl,by rw [HB0.out];rw [HBQ.out]⟩
  case round=>
   obtain⟨b,hb,rfl,rfl⟩:=hrel;by_cases hlt:b<L.length
   ·have hbi:(b:Int)<(L.length:Int):=by omega
    have hfb:=HFB.out b (by omega);have HS:=HST.out b;have cn:=HNOD.out b hlt;have hnb:=Nd.nodS_bd L b L.length h60;have hc1:∀W:World,Calls Tryz.prog 45 #[.int .i64 (frP L k (q:Int) b),.int .i64 (b:Int)] W fun en w'=>en=.returned (.bool (bit (frP L k (q:Int) b) b))∧W=w':=fun W=>(Db.has_call _ b _ hfb.1 hfb.2 (by omega) rfl W).mono fun _ _ q=>⟨q.1,q.2.symm⟩
    have hc2:∀W:World,Calls Tryz.prog 45 #[.int .i64 (nodS L b L.length),.int .i64 (k:Int)] W fun en w'=>en=.returned (.bool (nodN L k b))∧W=w':=fun W=>(Db.has_call _ k _ hnb.1 hnb.2 (by omega) (by rw [Nd.bit_nodS L b _ h60,decide_eq_true hk];rfl) W).mono fun _ _ q=>⟨q.1,q.2.symm⟩
    have HSS:Hid (frP L k (q:Int) (b+1)=if bit (frP L k (q:Int) b) b&&!nodN L k b then bits .andNot .i64 (frP L k (q:Int) b) (2 ^ b) else frP L k (q:Int) b):=HS;clear HS hnb;generalize bit (frP L k (q:Int) b) b=b1 at hc1 HSS;generalize nodN L k b=b2 at hc2 HSS;generalize frP L k (q:Int) b=fp at hc1 HSS hfb ⊢;generalize nodS L b L.length=nv at cn hc2
    cases b1
    ·have HD:Hid (frP L k (q:Int) (b+1)=fp):=by show _=_;rw [HSS.out];rfl
     clear HSS hc2;go_wp2_with (go_at_call 45;refine(hc1 _).mono ?_;rintro e' w' ⟨rfl,rfl⟩)
     go_round
     case rel=>exact⟨b+1,by omega,by go_num,by rw [HD.out]⟩
     case measure=>simp [intOf];omega
    ·go_wp2_with fail
     refine(hc1 _).mono ?_;rintro e' w' ⟨rfl,rfl⟩;go_wp2_with fail
     refine(hc2 _).mono ?_;rintro e' w' ⟨rfl,rfl⟩
     cases b2
     ·have HD:Hid (frP L k (q:Int) (b+1)=bits .andNot .i64 fp (2 ^ b)):=by show _=_;rw [HSS.out];rfl
      clear HSS hc1 hc2;go_wp2_with (go_at_call 82;refine(Base.l1Bit _ _ (by omega) (by omega)).mono ?_;rintro e' w' ⟨rfl,rfl⟩;rw [Int.toNat_natCast])
      go_round
      case rel=>exact⟨b+1,by omega,by go_num,by rw [HD.out]⟩
      case measure=>simp [intOf];omega
     ·have HD:Hid (frP L k (q:Int) (b+1)=fp):=by show _=_;rw [HSS.out];rfl
      clear HSS hc1 hc2;go_wp2;go_round
      case rel=>exact⟨b+1,by omega,by go_num,by rw [HD.out]⟩
      case measure=>simp [intOf];omega
   ·obtain rfl:b=L.length:=by omega
    rw [HE.out];go_wp2;go_ret;exact⟨rfl,rfl⟩
 ·have h0':¬ (0:Int)≤e:=h0;have HBQ:Hid (baseS L k e=bel L k):=by show _=_;unfold baseS;rw [if_neg h0]
  clear hbel h0;generalize bel L k=yk at ck HBQ;go_enter Tryz.func81,Tryz.ntmps81
  go_wp2;go_loop [9,10] (fun sv iv=>∃b:Nat,b≤L.length∧iv=.int .i64 (b:Int)∧sv=.int .i64 (frP L k e b)) (fun _ iv=>L.length-(intOf iv).toNat)
  case atStart=>exact⟨0,by omega,rfl,by rw [HB0.out];rw [HBQ.out]⟩
  case round=>
   obtain⟨b,hb,rfl,rfl⟩:=hrel;by_cases hlt:b<L.length
   ·have hbi:(b:Int)<(L.length:Int):=by omega
    have hfb:=HFB.out b (by omega);have HS:=HST.out b;have cn:=HNOD.out b hlt;have hnb:=Nd.nodS_bd L b L.length h60;have hc1:∀W:World,Calls Tryz.prog 45 #[.int .i64 (frP L k e b),.int .i64 (b:Int)] W fun en w'=>en=.returned (.bool (bit (frP L k e b) b))∧W=w':=fun W=>(Db.has_call _ b _ hfb.1 hfb.2 (by omega) rfl W).mono fun _ _ q=>⟨q.1,q.2.symm⟩
    have hc2:∀W:World,Calls Tryz.prog 45 #[.int .i64 (nodS L b L.length),.int .i64 (k:Int)] W fun en w'=>en=.returned (.bool (nodN L k b))∧W=w':=fun W=>(Db.has_call _ k _ hnb.1 hnb.2 (by omega) (by rw [Nd.bit_nodS L b _ h60,decide_eq_true hk];rfl) W).mono fun _ _ q=>⟨q.1,q.2.symm⟩
    have HSS:Hid (frP L k e (b+1)=if bit (frP L k e b) b&&!nodN L k b then bits .andNot .i64 (frP L k e b) (2 ^ b) else frP L k e b):=HS;clear HS hnb;generalize bit (frP L k e b) b=b1 at hc1 HSS;generalize nodN L k b=b2 at hc2 HSS;generalize frP L k e b=fp at hc1 HSS hfb ⊢;generalize nodS L b L.length=nv at cn hc2
    cases b1
    ·have HD:Hid (frP L k e (b+1)=fp):=by show _=_;rw [HSS.out];rfl
     clear HSS hc2;go_wp2_with (go_at_call 45;refine(hc1 _).mono ?_;rintro e' w' ⟨rfl,rfl⟩)
     go_round
     case rel=>exact⟨b+1,by omega,by go_num,by rw [HD.out]⟩
     case measure=>simp [intOf];omega
    ·go_wp2_with fail
     refine(hc1 _).mono ?_;rintro e' w' ⟨rfl,rfl⟩;go_wp2_with fail
     refine(hc2 _).mono ?_;rintro e' w' ⟨rfl,rfl⟩
     cases b2
     ·have HD:Hid (frP L k e (b+1)=bits .andNot .i64 fp (2 ^ b)):=by show _=_;rw [HSS.out];rfl
      clear HSS hc1 hc2;go_wp2_with (go_at_call 82;refine(Base.l1Bit _ _ (by omega) (by omega)).mono ?_;rintro e' w' ⟨rfl,rfl⟩;rw [Int.toNat_natCast])
      go_round
      case rel=>exact⟨b+1,by omega,by go_num,by rw [HD.out]⟩
      case measure=>simp [intOf];omega
     ·have HD:Hid (frP L k e (b+1)=fp):=by show _=_;rw [HSS.out];rfl
      clear HSS hc1 hc2;go_wp2;go_round
      case rel=>exact⟨b+1,by omega,by go_num,by rw [HD.out]⟩
      case measure=>simp [intOf];omega
   ·obtain rfl:b=L.length:=by omega
    rw [HE.out];go_wp2;go_ret;exact⟨rfl,rfl⟩
theorem frS_in{L:List K}(h60:L.length≤60)(k:Nat)(e:Int):∀i,bit (frS L k e L.length) i=true→i<L.length:=fun i hi=>by
 rw [bit_frS L k e _ h60,Bool.and_eq_true,decide_eq_true_eq] at hi;exact hi.1
def orderedI(L:List K)(s:Int):List Int:=if setB L s then ordL L (memTo s 60) else []
theorem specOrdered(g off cap:Nat)(L:List K)(s:Int)(w:World)(hcap:L.length≤cap)(hw:WordsOk L)(hr:RdK w (some ⟨g,off,none⟩) L) :
   Calls Tryz.prog 69 #[.slice (some ⟨g,off,none⟩) L.length cap,.int .i64 s] w (NumsPost (orderedI L s) w):=by
 go_enter Tryz.func69,Tryz.ntmps69
 go_wp2_with fail
 refine(Lc.l3Set g off cap L s _ hcap hw hr).mono ?_;rintro e w1 ⟨rfl,hb1⟩
 cases his:setB L s
 · have HT:Hid (orderedI L s=[]):=by show _=_;unfold orderedI;rw [his];rfl
   have HP:Hid _:=Ch.nums_nil hb1;clear his;go_wp2;go_ret;rw [HT.out];exact⟨some ⟨w1.heap.size,0,none⟩,0,rfl,HP.out.1,HP.out.2⟩
 · have HT:Hid (orderedI L s=ordL L (memTo s 60)):=by show _=_;unfold orderedI;rw [his];rfl
   obtain⟨hl,q0,q1,qd,_,_⟩:=Lc.setB_parts his;have ho := l11Order g off cap L s w1 hl (hr.below hb1) q0 q1 (fun i hi=>by
     apply Classical.byContradiction;intro hn;rw [Lc.bit_hi s L.length q0 qd i (by omega)] at hi;exact Bool.noConfusion hi)
   clear his hl qd hr;go_wp2_with fail
   refine ho.mono ?_;rintro e w2 ⟨ro,rc,rfl,hown,hb2⟩;have HP:Hid (Memb.Own w.heap.size w2 ro rc (ordL L (memTo s 60))∧Below w.heap.size w w2):=⟨Ch.own_base hown hb1.size,hb1.trans (hb2.mono hb1.size)⟩
   clear ho hown hb2 hb1;go_wp2;go_ret;rw [HT.out];exact⟨ro,rc,rfl,HP.out.1,HP.out.2⟩
structure TabsN(w:World)(L:List K)(bb nb:Nat):Prop where
 bel:∀i,i<L.length→w.cell? ⟨bb,i,none⟩=some (.int .i64 (Sg.bel L i))
 nod:∀i,i<L.length→w.cell? ⟨nb,i,none⟩=some (.int .i64 (nodS L i L.length))
 lb:bb<w.heap.size
 ln:nb<w.heap.size
theorem TabsN.below{w w':World}{L:List K}{bb nb:Nat}(t:TabsN w L bb nb)(hb:Below w.heap.size w w'):TabsN w' L bb nb:=
 ⟨fun i hi=>(hb.cell (p:=⟨bb,i,none⟩) t.lb).trans (t.bel i hi),fun i hi=>(hb.cell (p:=⟨nb,i,none⟩) t.ln).trans (t.nod i hi),Nat.lt_of_lt_of_le t.lb hb.size,Nat.lt_of_lt_of_le t.ln hb.size⟩
structure TabB(w:World)(L:List K)(bb:Nat):Prop where
 bel:∀i,i<L.length→w.cell? ⟨bb,i,none⟩=some (.int .i64 (Sg.bel L i))
 lb:bb<w.heap.size
theorem TabB.below{w w':World}{L:List K}{bb:Nat}(t:TabB w L bb)(hb:Below w.heap.size w w'):TabB w' L bb:=⟨fun i hi=>(hb.cell (p:=⟨bb,i,none⟩) t.lb).trans (t.bel i hi),Nat.lt_of_lt_of_le t.lb hb.size⟩
theorem TabB.rd{w : World}{L : List K}{bb : Nat}(t : TabB w L bb) : Lst.Rd w (some ⟨bb, 0, none⟩) (belows L L.length) := .inr ⟨bb,rfl,fun j hj=>by
 rw [Sg.belows_len] at hj;rw [Sg.belows_get L L.length j hj];exact t.bel j hj⟩
theorem allB(g off cap:Nat)(L:List K)(w:World)(hl:laceB L=true)(hN:0<L.length)(hr:RdK w (some ⟨g,off,none⟩) L) :
  Calls Tryz.prog 48 #[.slice (some ⟨g,off,none⟩) L.length cap] w fun e w'=>∃bb bc,e=.returned (.slice (some ⟨bb,0,none⟩) L.length bc)∧TabB w' L bb∧Below w.heap.size w w':=by
 have h60:=((Lc.lace_iff L).1 hl).1;refine(Sg.l4All (some ⟨g,off,none⟩) cap L w h60 (Sg.frm_lace hl) hr).mono ?_;rintro e w1 ⟨bo,bc,rfl,hown,hb1⟩;have hbl:=Sg.belows_len L L.length;rcases Lst.own_rd hown with e | ⟨bb,e,hcell⟩
 ·rw [e] at hbl;simp at hbl;omega
 ·subst e;refine⟨bb,bc,by rw [hbl],⟨fun i hi=>?_,(World.ownsRow.lt hown bb rfl).2⟩,hb1⟩;have:=hcell i (by rw [hbl];exact hi);rwa [Sg.belows_get L L.length i hi] at this
theorem allN(g off cap:Nat)(L:List K)(bb bc:Nat)(w:World)(hl:laceB L=true)(hr:RdK w (some ⟨g,off,none⟩) L)(ht:TabB w L bb) :
  Calls Tryz.prog 50 #[.slice (some ⟨g,off,none⟩) L.length cap,.slice (some ⟨bb,0,none⟩) L.length bc] w fun e w'=>∃nb,e=.returned (.slice (some ⟨nb,0,none⟩) L.length L.length)∧w.heap.size≤nb∧TabsN w' L bb nb∧Below w.heap.size w w':=by
 have h60:=((Lc.lace_iff L).1 hl).1;have hbl:=Sg.belows_len L L.length;have h6:=Nd.l6All (some ⟨g,off,none⟩) cap L (some ⟨bb,0,none⟩) bc (belows L L.length) w h60 hbl (Sg.belows_in L L.length h60) hr ht.rd (fun c e=>by injection e with e;injection e with e;subst e;exact ht.lb);rw [hbl] at h6;refine h6.mono ?_;rintro e w2 ⟨h,D,O,rfl,hge,hrow,hD,hO,hb2⟩;exact⟨h,rfl,hge,⟨(ht.below hb2).bel,fun i hi=>by rw [← Nd.nodR_eq hl hD hi _ (Nat.le_refl _),← hO i hi];exact hrow.rd i hi,(ht.below hb2).lb,hrow.lt⟩,hb2⟩
structure TabsF(w:World)(L:List K)(bb h:Nat):Prop extends Ch.TabsL w L bb h where
 fr:∀i,i<L.length→w.frozen? ⟨h,i,none⟩=false
theorem allS(g off cap:Nat)(L:List K)(bb bc:Nat)(w:World)(hl:laceB L=true)(hr:RdK w (some ⟨g,off,none⟩) L)(ht:TabB w L bb) :
  Calls Tryz.prog 77 #[.slice (some ⟨g,off,none⟩) L.length cap,.slice (some ⟨bb,0,none⟩) L.length bc] w fun e w'=>∃h,e=.returned (.slice (some ⟨h,0,none⟩) L.length L.length)∧TabsF w' L bb h∧Below w.heap.size w w':=by
 refine(Sl.l7All g off cap L (some ⟨bb,0,none⟩) bc w hl hr ht.rd (fun g' e=>by injection e with e;injection e with e;subst e;exact ht.lb)).mono ?_;rintro e w2 ⟨h,O,rfl,_,hrow,hO,hb2⟩;exact⟨h,rfl,⟨⟨(ht.below hb2).bel,fun i hi=>by rw [← hO i hi];exact hrow.rd i hi,(ht.below hb2).lb,hrow.lt⟩,hrow.fr⟩,hb2⟩
theorem chF_mem(L:List K)(C:List Int):∀(f:Nat) (k x:Int),x∈Ch.chF L C f k→0≤x∧x≤k:=by
 intro f;induction f with
 | zero=>intro k x h;simp [Ch.chF] at h
 | succ f ih=>
  intro k x h;unfold Ch.chF at h;by_cases hk:k<0
  ·rw [if_pos hk] at h;simp at h
  ·rw [if_neg hk,List.mem_append] at h;have hlt:=Ch.earlier_lt L C k.toNat;rcases h with h | h
   ·have:=ih _ _ h;omega
   ·have:x=k:=by simpa using h
    omega
theorem taleF_snoc(L:List K):∀(l:List Int) (c e:Int),taleF L e (l++[c])=taleF L e l++freshL L c (l.getLastD e):=by
 intro l;induction l with
 | nil=>intro c e;simp [taleF]
 | cons x l ih=>
  intro c e;show freshL L x e++taleF L x (l++[c])=(freshL L x e++taleF L x l)++freshL L c ((x :: l).getLastD e);rw [ih c x,List.getLastD_cons,List.append_assoc]
theorem fresh_len(L:List K)(k e:Int):(freshL L k e).length≤60:=by
 unfold freshL;rw [ord_len];exact Bit.memTo_le _ 60
structure TlSt(w w3 wr:World)(og0 og cp:Nat)(l:List Int):Prop where
 own:wr.ownsRow w.heap.size 2 1 (.slice (some ⟨og,0,none⟩) l.length cp) l.length (l.map (Value.int .i64))
 bel:Below w.heap.size w wr
 gr:w3.grownBy wr (some og0)
 at':og=og0∨w3.heap.size≤og
theorem TlSt.below{w w3 wr w':World}{og0 og cp:Nat}{l:List Int}(s:TlSt w w3 wr og0 og cp l)(hb:Below wr.heap.size wr w'):TlSt w w3 w' og0 og cp l:=
 ⟨Fm.row_below s.own hb,s.bel.trans (hb.mono s.bel.size),World.grownBy.trans s.gr ⟨hb.os,hb.tape,hb.output,hb.size,fun i hi _=>hb.block i hi⟩,s.at'⟩
theorem TlSt.app{w w3 wr w1:World}{og0 og cp:Nat}{l ns:List Int}{v':Value}(s:TlSt w w3 wr og0 og cp l)(ho:w1.ownsRow w.heap.size 2 1 v' (l.length+ns.length) (l.map (Value.int .i64)++ns.map (Value.int .i64)))(hg:wr.grownBy w1 (some og))(hn:¬ v'=.slice none 0 0)(ha:v'.ownBlock=some og∨v'.ownBlock=some wr.heap.size):∃g2 c2,v'=.slice (some ⟨g2,0,none⟩) (l.length+ns.length) c2∧TlSt w w3 w1 og0 g2 c2 (l++ns):=by
 have ho':=ho;obtain⟨_,⟨hx,_⟩ | ⟨g2,c2,cur,hx,_⟩⟩:=ho'
 ·exact absurd hx hn
 ·subst hx;have hlt:=World.ownsRow.lt s.own og rfl;refine⟨g2,c2,rfl,by simpa using ho,s.bel.grown hg s.bel.size (fun k hk=>by cases hk;exact hlt.1),⟨hg.os.trans s.gr.os,hg.tape.trans s.gr.tape,hg.output.trans s.gr.output,Nat.le_trans s.gr.size hg.size,fun j hj hne=>?_⟩,?_⟩
  ·have h1:=s.gr.block j hj hne;refine(hg.block j (Nat.lt_of_lt_of_le hj s.gr.size) (fun e=>?_)).trans h1;injection e with e;subst e;rcases s.at' with q | q
   ·exact hne (by rw [q])
   ·omega
  ·simp [Value.ownBlock] at ha;rcases ha with e | e
   ·subst e;exact s.at'
   ·exact .inr (by have:=s.gr.size;omega)
theorem l12Tale(g off cap:Nat)(L:List K)(ao:Option Addr)(cc:Nat)(C:List Int)(bb bc:Nat)(k:Nat)(w:World)(hl:laceB L=true)(hg:g<w.heap.size)(hr:RdK w (some ⟨g,off,none⟩) L)(hrd:Lst.Rd w ao C)(hao:∀c,ao=some ⟨c,0,none⟩→c<w.heap.size)(ht:TabB w L bb)(hk:k<L.length) :
  Calls Tryz.prog 47 #[.slice (some ⟨g,off,none⟩) L.length cap,.slice ao C.length cc,.slice (some ⟨bb,0,none⟩) L.length bc,.int .i64 (k:Int)] w (NumsPost (taleL L C (k:Int)) w):=by
 obtain⟨i0,hi,hz0,hz1,hz2⟩:=info_parts Memb.info2;have h60:=((Lc.lace_iff L).1 hl).1;have HLC:Hid (laceB L=true):=hl;have HR:Hid (∀W:World,Below w.heap.size w W→RdK W (some ⟨g,off,none⟩) L):=fun W hW=>hr.below hW
 have HT:Hid (∀W:World,Below w.heap.size w W→TabB W L bb):=fun W hW=>ht.below hW
 have HRD:Hid (∀W:World,Below w.heap.size w W→Lst.Rd W ao C∧∀c,ao=some ⟨c,0,none⟩→c<W.heap.size):=fun W hW=>⟨Ch.rd_below hrd hao hW,fun c e=>Nat.lt_of_lt_of_le (hao c e) hW.size⟩
 have HB0:Hid (Below w.heap.size w (w.alloc (.cells #[] 2))):=(Below.refl _ _).alloc (Nat.le_refl _) _;have HE0:Hid ((w.alloc (.cells #[] 2)).ownsRow w.heap.size 2 1 (.slice (some ⟨w.heap.size,0,none⟩) 0 0) 0 []):=Memb.own_empty w;have hsz0:w.heap.size<(w.alloc (.cells #[] 2)).heap.size:=by simp
 clear hl hr hrd hao ht;go_enter Tryz.func47,Tryz.ntmps47
 go_wp2_with fail
 generalize w.alloc (.cells #[] 2)=w0 at HB0 HE0 hsz0 ⊢;refine(allN g off cap L bb bc w0 HLC.out (HR.out w0 HB0.out) (HT.out w0 HB0.out)).mono ?_;rintro en w1 ⟨nb,rfl,hnb1,hT1,hb1⟩;have HB1:Hid (Below w.heap.size w w1):=HB0.out.trans (hb1.mono HB0.out.size);have HE1:Hid (w1.ownsRow w.heap.size 2 1 (.slice (some ⟨w.heap.size,0,none⟩) 0 0) 0 []):=Fm.row_below HE0.out hb1;have hw01:=hb1.size;have hn0:nb≠w.heap.size:=by omega
 clear hb1 HB0 HE0 hnb1;go_wp2_with fail
 refine(allS g off cap L bb bc w1 HLC.out (HR.out w1 HB1.out) (HT.out w1 HB1.out)).mono ?_;rintro en w2 ⟨h,rfl,hT2,hb2⟩;have HB2:Hid (Below w.heap.size w w2):=HB1.out.trans (hb2.mono HB1.out.size);have HE2:Hid (w2.ownsRow w.heap.size 2 1 (.slice (some ⟨w.heap.size,0,none⟩) 0 0) 0 []):=Fm.row_below HE1.out hb2;have HN2:Hid (TabsN w2 L bb nb):=hT1.below hb2;have hw12:=hb2.size;have hch:=Ch.l10Chain g off cap L ao cc C bb bc h L.length k w2 HLC.out (Nat.lt_of_lt_of_le hg HB2.out.size) (HR.out w2 HB2.out) (HRD.out w2 HB2.out).1 (HRD.out w2 HB2.out).2 hT2.toTabsL hk;clear hb2 HB1 HE1 hT1 hT2;go_wp2_with fail
 refine hch.mono ?_;rintro en w3 ⟨co,ccp,rfl,hoc,hb3⟩;have HS3:Hid (TlSt w w3 w3 w.heap.size w.heap.size 0 []):=⟨Fm.row_below HE2.out hb3,HB2.out.trans (hb3.mono HB2.out.size),World.grownBy.refl _ _,.inl rfl⟩
 have HN3:Hid (TabsN w3 L bb nb):=HN2.out.below hb3;have hcl:=Ch.chain_len L C (k:Int);have HCM:Hid (∀x∈Ch.chainL L C (k:Int),0≤x∧x<(L.length:Int)):=fun x hx=>by
  have:=chF_mem L C _ _ _ hx;omega
 have HTL:Hid (taleL L C (k:Int)=taleF L (-1) (Ch.chainL L C (k:Int))):=rfl;have hcl2:(Ch.chainL L C (k:Int)).length≤60:=by omega
 have HCO:Hid (Ch.chainL L C (k:Int)=[]∨∃cb,co=some ⟨cb,0,none⟩∧cb≠w.heap.size∧cb<w3.heap.size∧∀j,j<(Ch.chainL L C (k:Int)).length→w3.cell? ⟨cb,j,none⟩=some (.int .i64 ((Ch.chainL L C (k:Int)).getD j 0))):=by
  rcases Lst.own_rd hoc with e | ⟨cb,e,hc⟩
  ·exact .inl e
  ·subst e;have:=World.ownsRow.lt hoc cb rfl;exact .inr ⟨cb,rfl,by omega,this.2,hc⟩
 clear hoc hb3 HB2 HE2 HN2 hch hcl;generalize Ch.chainL L C (k:Int)=ch at HCM HTL hcl2 HCO ⊢;go_wp2;go_loopw [9,11,13] (fun v ev iv wr=>∃(i og cp:Nat),i≤ch.length∧iv=.int .i64 (i:Int)∧ev=.int .i64 ((ch.take i).getLastD (-1))∧v=.slice (some ⟨og,0,none⟩) (taleF L (-1) (ch.take i)).length cp∧(taleF L (-1) (ch.take i)).length≤60*i∧Hid (TlSt w w3 wr w.heap.size og cp (taleF L (-1) (ch.take i)))) (fun _ _ iv _=>ch.length-(intOf iv).toNat)
 case atStart=>exact⟨0,w.heap.size,0,by omega,rfl,rfl,rfl,by simp [taleF],HS3⟩
 case round=>
  obtain⟨i,og,cp,hil,rfl,hev,hv,hln,HS⟩:=hrel;clear HS3;by_cases hlt:i<ch.length
  ·subst hv hev;have hii:(i:Int)<(ch.length:Int):=by omega
   rcases HCO.out with e | ⟨cb,rfl,hcb0,hcb3,hcc⟩
   ·rw [e] at hlt;simp at hlt
   have HST:Hid (taleF L (-1) (ch.take (i+1))=taleF L (-1) (ch.take i)++freshL L (ch.getD i 0) ((ch.take i).getLastD (-1))):=by
    show _=_;rw [Lc.take_snocI ch i hlt,taleF_snoc]
   have HLST:Hid ((ch.take (i+1)).getLastD (-1)=ch.getD i 0):=by
    show _=_;rw [Lc.take_snocI ch i hlt];simp
   have hmem:=HCM.out (ch.getD i 0) (by simp [List.getD,List.getElem?_eq_getElem hlt]);have hlast:-1≤(ch.take i).getLastD (-1)∧(ch.take i).getLastD (-1)<(L.length:Int):=by
    rcases hh:(ch.take i) with _ | ⟨y,ys⟩
    ·simp;omega
    ·have hm:(y :: ys).getLastD (-1)∈ch.take i:=by rw [hh,List.getLastD_eq_getLast?,List.getLast?_eq_some_getLast (by simp)];simp
     have:=HCM.out _ (List.mem_of_mem_take hm);omega
   have cj:=World.grownBy.cell HS.out.gr (hcc i hlt) (by intro q;injection q with q;exact hcb0 q);have HTN:Hid (TabsN wr L bb nb):=⟨(HT.out wr HS.out.bel).bel,fun j hj=>World.grownBy.cell HS.out.gr (HN3.out.nod j hj) (by intro q;injection q with q;exact hn0 q),(HT.out wr HS.out.bel).lb,Nat.lt_of_lt_of_le HN3.out.ln HS.out.gr.size⟩
   have hfl60:=fresh_len L (ch.getD i 0) ((ch.take i).getLastD (-1));generalize taleF L (-1) (ch.take i)=tl at HST HS hln ⊢;have HFD:Hid (freshL L (ch.getD i 0) ((ch.take i).getLastD (-1))=ordL L (memTo (frS L (ch.getD i 0).toNat ((ch.take i).getLastD (-1)) L.length) 60)):=rfl;generalize (ch.take i).getLastD (-1)=el at HST hlast HFD hfl60 ⊢;generalize ch.getD i 0=cx at HST HLST hmem cj HFD hfl60;obtain⟨q,rfl⟩:=Int.eq_ofNat_of_zero_le hmem.1;rw [Int.toNat_natCast] at HFD;have hfr:=l11Fresh bb bc nb L.length L q el wr HLC.out (by omega) hlast.1 hlast.2 HTN.out.bel HTN.out.nod;have hfb:=frS_bd L q el L.length h60;have hor:=l11Order g off cap L (frS L q el L.length) wr HLC.out (HR.out wr HS.out.bel) hfb.1 hfb.2 (frS_in h60 q el);rw [← HFD.out] at hor;clear hcc HFD hfb HTN;generalize frS L q el L.length=fr at hfr hor;generalize freshL L (q:Int) el=fl at HST hor hfl60;go_wp2_with fail
   refine hfr.mono ?_;rintro en w5 ⟨rfl,rfl⟩;clear hfr;go_wp2_with fail
   refine hor.mono ?_;rintro en w6 ⟨fo,fc,rfl,hof,hb6⟩;have HS6:Hid (TlSt w w3 w6 w.heap.size og cp tl):=HS.out.below hb6;have cj6:=(hb6.cell (p:=⟨cb,i,none⟩) (Nat.lt_of_lt_of_le hcb3 HS.out.gr.size)).trans cj;have hcb6:cb<w6.heap.size:=Nat.lt_of_lt_of_le (Nat.lt_of_lt_of_le hcb3 HS.out.gr.size) hb6.size;have hogw:=World.ownsRow.lt HS.out.own og rfl;have hcog:cb≠og:=by
    rcases HS.out.at' with q1 | q1
    ·rw [q1];exact hcb0
    ·omega
   have HLN2:Hid ((taleF L (-1) (ch.take (i+1))).length≤60*(i+1)):=by show _≤_;rw [HST.out];simp;omega
   have hwsz6:w.heap.size≤w6.heap.size:=HS6.out.bel.size;clear hor hb6 cj HS
   cases fo with
   | none=>
    obtain⟨_,⟨hq,hq2⟩ | ⟨fb,fcap,cur,hq,_⟩⟩:=hof
    ·injection hq with _ _ hq3;subst hq3;have hfn:fl=[]:=List.eq_nil_of_length_eq_zero hq2;subst hfn;have HST2:Hid (taleF L (-1) (ch.take (i+1))=tl):=by show _=_;rw [HST.out,List.append_nil]
     have HSN:Hid (TlSt w w3 w6 w.heap.size og cp (taleF L (-1) (ch.take (i+1)))):=by show TlSt _ _ _ _ _ _ _;rw [HST2.out];exact HS6.out
     clear HST hq2;go_wp2_with (first | (at_builtin;refine wpList_append_own_none rfl _ _ 25 rfl w.heap.size 2 i0 1 Tryz.underlying25 hi (.slice (some ⟨og,0,none⟩) tl.length cp) tl.length (tl.map (Value.int .i64)) (by first | rfl | simp [Act.eval]) HS6.out.own (by first | rfl | simp [Act.eval]) ?_) | fail)
     go_wp2;go_roundw
     case rel=>exact⟨i+1,og,cp,by omega,by go_num,by rw [HLST.out],by rw [HST2.out],HLN2.out,HSN⟩
     case measure=>simp [intOf];omega
    ·injection hq with hq _ _;exact absurd hq (by simp)
   | some fa=>
    obtain⟨fb,hfa,hfcell,hfb6⟩:∃fb,fa=⟨fb,0,none⟩∧(∀j,j<fl.length→w6.cell? ⟨fb,j,none⟩=some (.int .i64 (fl.getD j 0)))∧fb<w6.heap.size:=by
     have hrdf:=Lst.own_rd hof;have hltf:=World.ownsRow.lt hof fa.block rfl;obtain⟨_,⟨hq,_⟩ | ⟨fb,fcap,cur,hq,_⟩⟩:=hof
     ·injection hq with hq _ _;exact absurd hq (by simp)
     ·injection hq with hq _ _;injection hq with hq;subst hq;refine⟨fb,rfl,fun j hj=>?_,hltf.2⟩;rcases hrdf with e | ⟨g5,e,hc5⟩
      ·rw [e] at hj;simp at hj
      ·injection e with e;injection e with e;subst e;exact hc5 j hj
    subst hfa;have HNEW:Hid (∀(j:Nat) u,(fl.map (Value.int .i64))[j]? = some u→w6.cell? ((⟨fb,0,none⟩:Addr).add j)=some u):=fun j u hu=>by
     rw [List.getElem?_map] at hu;rcases hj:fl[j]? with _ | y
     ·rw [hj] at hu;simp at hu
     ·rw [hj] at hu;simp at hu;subst hu;have hjl:j<fl.length:=(List.getElem?_eq_some_iff.1 hj).1;have:=hfcell j hjl;rw [show fl.getD j 0=y by simp [List.getD,hj]] at this;rw [show(⟨fb,0,none⟩:Addr).add j=⟨fb,j,none⟩ by simp [Addr.add];intro e;exact e.symm];exact this
    have HONE:Hid (∀u∈fl.map (Value.int .i64),u.oneCell'=true):=fun u hu=>by
     obtain⟨y,_,rfl⟩:=List.mem_map.1 hu;rfl
    clear hof hfcell;go_wp2_with (first | (at_builtin;refine wpList_append_own_at _ rfl _ _ 25 rfl w.heap.size 2 i0 (.int .i64 0) 1 8 Tryz.underlying25 hi hz0 hz1 hz2 rfl (by decide) (.slice (some ⟨og,0,none⟩) tl.length cp) tl.length (tl.map (Value.int .i64)) (by first | rfl | simp [Act.eval]) HS6.out.own ⟨fb,0,none⟩ fl.length fc (fl.map (Value.int .i64)) (by first | rfl | simp [Act.eval]) (by simp) HNEW.out HONE.out ?c3 ?c4 ?c5 ?_) | fail)
    case c3=>unfold maxLen;omega
    case c4=>omega
    case c5=>exact hwsz6
    intro v' w7 hown' hgrow hnil hat;obtain⟨g2,c2,rfl,hS7⟩:=HS6.out.app hown' hgrow (by first | exact hnil | exact fun e=>by have:=hnil.1 e;simp at this) (by simpa [Value.ownBlock] using hat);have cj7:=World.grownBy.cell hgrow cj6 (by intro q1;injection q1 with q1;exact hcog q1);have HSN:Hid (TlSt w w3 w7 w.heap.size g2 c2 (taleF L (-1) (ch.take (i+1)))):=by show TlSt _ _ _ _ _ _ _;rw [HST.out];exact hS7
    have HLE:Hid ((taleF L (-1) (ch.take (i+1))).length=tl.length+fl.length):=by show _=_;rw [HST.out];simp
    clear hown' hgrow hnil hat HS6 HNEW HONE hS7 cj6 HST;go_wp2;go_roundw
    case rel=>exact⟨i+1,g2,c2,by omega,by go_num,by rw [HLST.out],by rw [HLE.out],HLN2.out,HSN⟩
    case measure=>simp [intOf];omega
  ·obtain rfl:i=ch.length:=by omega
   have e:ch.take ch.length=ch:=List.take_length;rw [e] at HS hv;have HV:Hid (u9=.slice (some ⟨og,0,none⟩) (taleF L (-1) ch).length cp):=hv;have HF:Hid (Memb.Own w.heap.size wr (some ⟨og,0,none⟩) cp (taleF L (-1) ch)∧Below w.heap.size w wr):=⟨HS.out.own,HS.out.bel⟩
   clear hv HS e hln hev;go_wp2;go_ret;exact⟨some ⟨og,0,none⟩,cp,by rw [HTL.out,← HV.out];rfl,by rw [HTL.out];exact HF.out.1,HF.out.2⟩
def taleI(L:List K)(C:List Int)(k:Int):List Int:=if Ch.onB L C k then taleL L C k else []
def outI(L:List K)(C:List Int)(s:Int):List Int:=if Fm.rightB L C s then outL L C s else []
theorem specTaleOf(g off cap:Nat)(L:List K)(ao:Option Addr)(cc:Nat)(C:List Int)(k:Int)(w:World)(hcap:L.length≤cap)(hw:WordsOk L)(hg:g<w.heap.size)(hr:RdK w (some ⟨g,off,none⟩) L)(hC:C.length≤1048576)(hrd:Lst.Rd w ao C)(hao:∀c,ao=some ⟨c,0,none⟩→c<w.heap.size) :
  Calls Tryz.prog 16 #[.slice (some ⟨g,off,none⟩) L.length cap,.slice ao C.length cc,.int .i64 k] w (NumsPost (taleI L C k) w):=by
 have HRD:Hid (∀W:World,Below w.heap.size w W→Lst.Rd W ao C∧∀c,ao=some ⟨c,0,none⟩→c<W.heap.size):=fun W hW=>⟨Ch.rd_below hrd hao hW,fun c e=>Nat.lt_of_lt_of_le (hao c e) hW.size⟩
 have hcall:=Ch.l10Right g off cap L ao cc C k w hcap hw hr hC hrd hao;have HR:Hid (RdK w (some ⟨g,off,none⟩) L):=hr;clear hrd hao hr;go_enter Tryz.func16,Tryz.ntmps16
 go_wp2_with fail
 refine hcall.mono ?_;rintro e w1 ⟨rfl,hb1⟩;clear hcall
 cases hq:Ch.onB L C k
 ·have HT:Hid (taleI L C k=[]):=by show _=_;unfold taleI;rw [hq];rfl
  have HP:Hid _:=Ch.nums_nil hb1;clear hq;go_wp2;go_ret;rw [HT.out];exact⟨some ⟨w1.heap.size,0,none⟩,0,rfl,HP.out.1,HP.out.2⟩
 ·have HT:Hid (taleI L C k=taleL L C k):=by show _=_;unfold taleI;rw [hq];rfl
  unfold Ch.onB at hq;rw [Bool.and_eq_true] at hq;obtain⟨k0,k1,hlc⟩:=Sg.isB_parts hq.1;have HLC:Hid (laceB L=true):=hlc;clear hq hlc;obtain⟨p,rfl⟩:=Int.eq_ofNat_of_zero_le k0;have hp:p<L.length:=by omega
  go_wp2_with fail
  refine(allB g off cap L _ HLC.out (by omega) (HR.out.below hb1)).mono ?_;rintro e w2 ⟨bb,bc,rfl,hT2,hb2⟩;have hB2:=hb1.trans (hb2.mono hb1.size);have hE:=l12Tale g off cap L ao cc C bb bc p w2 HLC.out (Nat.lt_of_lt_of_le hg hB2.size) (HR.out.below hB2) (HRD.out w2 hB2).1 (HRD.out w2 hB2).2 hT2 hp;clear hb1 hb2 hT2;go_wp2_with fail
  refine hE.mono ?_;rintro e w4 ⟨ro,rc,rfl,hown,hb4⟩;have HP:Hid (Memb.Own w.heap.size w4 ro rc (taleL L C (p:Int))∧Below w.heap.size w w4):=⟨Ch.own_base hown hB2.size,hB2.trans (hb4.mono hB2.size)⟩
  clear hE hb4 hB2 hown;go_wp2;go_ret;rw [HT.out];exact⟨ro,rc,rfl,HP.out.1,HP.out.2⟩
theorem out_none{L:List K}{C:List Int}{s:Int}(h:lastT L (firmL L C s L.length)<0):outL L C s=[]:=by unfold outL;rw [if_pos h]
theorem out_some{L:List K}{C:List Int}{s:Int}(h:¬ lastT L (firmL L C s L.length)<0):outL L C s=taleL L C (lastT L (firmL L C s L.length)):=by unfold outL;rw [if_neg h]
theorem l12Out(g off cap:Nat)(L:List K)(ao:Option Addr)(cc:Nat)(C:List Int)(s:Int)(w:World)(hl:laceB L=true)(hN:0<L.length)(hg:g<w.heap.size)(hr:RdK w (some ⟨g,off,none⟩) L)(hrd:Lst.Rd w ao C)(hao:∀c,ao=some ⟨c,0,none⟩→c<w.heap.size)(h0:0≤s)(h1:s<1152921504606846976) :
  Calls Tryz.prog 38 #[.slice (some ⟨g,off,none⟩) L.length cap,.slice ao C.length cc,.int .i64 s] w (NumsPost (outL L C s) w):=by
 have h60:=((Lc.lace_iff L).1 hl).1;have HLC:Hid (laceB L=true):=hl;have HRD:Hid (∀W:World,Below w.heap.size w W→Lst.Rd W ao C∧∀c,ao=some ⟨c,0,none⟩→c<W.heap.size):=fun W hW=>⟨Ch.rd_below hrd hao hW,fun c e=>Nat.lt_of_lt_of_le (hao c e) hW.size⟩
 have HR:Hid (RdK w (some ⟨g,off,none⟩) L):=hr;clear hl hrd hao hr;go_enter Tryz.func38,Tryz.ntmps38
 go_wp2_with fail
 refine(allB g off cap L _ HLC.out hN HR.out).mono ?_;rintro e w1 ⟨bb,bc,rfl,hT1,hb1⟩;go_wp2_with fail
 refine(allS g off cap L bb bc w1 HLC.out (HR.out.below hb1) hT1).mono ?_;rintro e w2 ⟨h,rfl,hT2,hb2⟩;have hB2:=hb1.trans (hb2.mono hb1.size);have HT2:Hid (TabB w2 L bb):=hT1.below hb2;have hfm:=Fm.l9Firm g off cap L ao cc C h (fun i=>Sl.sealS L i L.length) s w2 HLC.out (HR.out.below hB2) (Nat.lt_of_lt_of_le hg hB2.size) (HRD.out w2 hB2).1 (HRD.out w2 hB2).2 ⟨hT2.lh,hT2.sl,hT2.fr⟩ (fun _ _=>rfl) h0 h1;clear hb1 hb2 hT1 hT2;go_wp2_with fail
 refine hfm.mono ?_;rintro e w3 ⟨fo,fc,rfl,hof,hb3⟩;have HB3:Hid (Below w.heap.size w w3):=hB2.trans (hb3.mono hB2.size);have HT3:Hid (TabB w3 L bb):=HT2.out.below hb3;have hla:=Fm.l9Last g off cap L fo fc (firmL L C s L.length) w3 (fun x hx=>by obtain⟨k,rfl,hk,_⟩:=(mem_firm L C s L.length x).1 hx;omega) (by have:=Fm.firmL_len L C s L.length;omega) (HR.out.below HB3.out) (Lst.own_rd hof);have HLS:Hid ((lastT L (firmL L C s L.length)<0∧outL L C s=[])∨∃f:Nat,lastT L (firmL L C s L.length)=(f:Int)∧f<L.length∧outL L C s=taleL L C (f:Int)):=by
  rcases last_spec L C s L.length with⟨q,_⟩ | ⟨f,q,hf,_⟩
  ·exact .inl ⟨by rw [q];omega,out_none (by rw [q];omega)⟩
  ·exact .inr ⟨f,q,hf,by rw [out_some (by rw [q];omega),q]⟩
 clear hfm hof hb3 hB2 HT2;generalize firmL L C s L.length=fl at hla HLS ⊢;generalize lastT L fl=lt at hla HLS;go_wp2_with fail
 refine hla.mono ?_;rintro e w4 ⟨rfl,n4,rfl⟩;have HB4:Hid (Below w.heap.size w (w3.drewN n4)):=Db.below_drewN HB3.out n4;have HT4:Hid (TabB (w3.drewN n4) L bb):=HT3.out.below (Db.below_drewN (Below.refl _ w3) n4);clear hla HB3 HT3;generalize w3.drewN n4=V at HB4 HT4 ⊢;rcases HLS.out with⟨hneg,ho⟩ | ⟨f,rfl,hf,ho⟩
 ·have HO:Hid (outL L C s=[]):=ho;have HP:Hid _:=Ch.nums_nil HB4.out;clear ho HLS;go_wp2;go_ret;rw [HO.out];exact⟨some ⟨V.heap.size,0,none⟩,0,rfl,HP.out.1,HP.out.2⟩
 ·have HO:Hid (outL L C s=taleL L C (f:Int)):=ho;have hf0:¬ (f:Int)<0:=by omega
  have hE:=l12Tale g off cap L ao cc C bb bc f V HLC.out (Nat.lt_of_lt_of_le hg HB4.out.size) (HR.out.below HB4.out) (HRD.out V HB4.out).1 (HRD.out V HB4.out).2 HT4.out hf;clear ho HLS;go_wp2_with fail
  refine hE.mono ?_;rintro e w5 ⟨ro,rc,rfl,hown,hb5⟩;have HP:Hid (Memb.Own w.heap.size w5 ro rc (taleL L C (f:Int))∧Below w.heap.size w w5):=⟨Ch.own_base hown HB4.out.size,HB4.out.trans (hb5.mono HB4.out.size)⟩
  clear hE hb5 hown HB4;go_wp2;go_ret;rw [HO.out];exact⟨ro,rc,rfl,HP.out.1,HP.out.2⟩
end Tl
end Go.Proofs.YtbkeldfbllhlbaaGreat
