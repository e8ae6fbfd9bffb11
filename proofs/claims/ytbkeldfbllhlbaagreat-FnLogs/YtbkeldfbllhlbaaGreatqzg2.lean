/-
 What the model's functions on a lace answer, in the words of LaceM: whether a knot may stand there, whether it is a lace, whether a knot may be tied, how many hands, which of a round; words of at most 2^40 bytes.
-/
import Derived.Test.YtbkeldfbllhlbaaGreatqzg1
import Derived.BigRegion
import Derived.Below
set_option linter.unusedVariables false
set_option maxRecDepth 100000
set_option maxHeartbeats 6400000
namespace Go.Proofs.YtbkeldfbllhlbaaGreat
open Go.RowKit
section
namespace Sg
open Kn (K okK)
open Bit (bit)
open Lc (at')
theorem bit_pow(i j:Nat):bit (2 ^ i) j=decide (j=i):=by
 have h:((2:Int) ^ i).toNat=2 ^ i:=by
  rw [show((2:Int) ^ i)=((2 ^ i:Nat):Int) by simp,Int.toNat_natCast]
 rw [Bit.bit_testBit _ (Int.le_of_lt (Bit.pow_pos' i)),h,Nat.testBit_two_pow];exact decide_eq_decide.2 eq_comm
theorem bit_acc(f:Int)(l:List Int)(i k:Nat)(hi:i<60)(hl:Within l)(j:Nat):bit (accB f l i k) j=true↔j=i∨∃m,m<k∧bit f m=true∧bit (l.getD m 0) j=true:=by
 induction k with
 | zero=>unfold accB;rw [bit_pow];simp
 | succ k ih=>
  have hb:=accB_bd f l i k hi hl;have hg:=within_get hl k;unfold accB
  cases hf:bit f k
  ·simp only [Bool.false_eq_true,if_false];rw [ih];constructor
   ·rintro(h | ⟨m,hm,h1,h2⟩)
    ·exact .inl h
    ·exact .inr ⟨m,by omega,h1,h2⟩
   ·rintro(h | ⟨m,hm,h1,h2⟩)
    ·exact .inl h
    ·by_cases e:m=k
     ·rw [e,hf] at h1;exact Bool.noConfusion h1
     ·exact .inr ⟨m,by omega,h1,h2⟩
  ·simp only [if_true];rw [bit_orB _ _ hb.1 hg.1,Bool.or_eq_true,ih];constructor
   ·rintro((h | ⟨m,hm,h1,h2⟩) | h)
    ·exact .inl h
    ·exact .inr ⟨m,by omega,h1,h2⟩
    ·exact .inr ⟨k,by omega,hf,h⟩
   ·rintro(h | ⟨m,hm,h1,h2⟩)
    ·exact .inl (.inl h)
    ·by_cases e:m=k
     ·rw [e] at h2;exact .inr h2
     ·exact .inl (.inr ⟨m,by omega,h1,h2⟩)
def bel(L:List K)(i:Nat):Int:=(belows L (i+1)).getD i 0
theorem belows_get(L:List K)(n i:Nat)(h:i<n):(belows L n).getD i 0=bel L i:=by
 induction n with
 | zero=>omega
 | succ n ih=>
  by_cases e:i=n
  ·subst e;rfl
  ·have hn:i<(belows L n).length:=by rw [belows_len];omega
   rw [← ih (by omega)];show(belows L n++_).getD i 0=_;simp [List.getD,List.getElem?_append_left hn]
theorem bel_acc(L:List K)(i:Nat):bel L i=accB (at' L i).frm (belows L i) i i:=by
 unfold bel;show(belows L i++[_]).getD i 0=_;have:=belows_len L i;simp [List.getD,this]
theorem bel_bd(L:List K)(i:Nat)(hi:i<60):0≤bel L i∧bel L i<1152921504606846976:=by
 rw [bel_acc];exact accB_bd _ _ _ _ hi (belows_in L i (by omega))
theorem bit_bel(L:List K)(i:Nat)(hi:i<60)(j:Nat):bit (bel L i) j=true↔j=i∨∃m,m<i∧bit (at' L i).frm m=true∧bit (bel L m) j=true:=by
 rw [bel_acc,bit_acc _ _ _ _ hi (belows_in L i (by omega))];constructor
 ·rintro(h | ⟨m,hm,h1,h2⟩)
  ·exact .inl h
  ·exact .inr ⟨m,hm,h1,by rwa [belows_get L i m hm] at h2⟩
 ·rintro(h | ⟨m,hm,h1,h2⟩)
  ·exact .inl h
  ·exact .inr ⟨m,hm,h1,by rwa [belows_get L i m hm]⟩
/-- thread by thread -/
inductive Reach (L:List K):Nat→Nat→Prop
 | self (i:Nat):Reach L i i
 | step {i m j:Nat}:bit (at' L i).frm m=true→Reach L m j→Reach L i j
theorem Reach.trans{L:List K}{i m j:Nat}(h:Reach L i m)(h2:Reach L m j):Reach L i j:=by
 induction h with
 | self=>exact h2
 | step hb _ ih=>exact .step hb (ih h2)
theorem thread_lt{L:List K}(hl:Lc.laceB L=true){i m:Nat}(hi:i<L.length)(hb:bit (at' L i).frm m=true):m<i:=by
 have hc:=Lc.lace_upTo hl i hi;have hf:=Lc.ok_frm (Lc.can_ok hc);unfold Lc.canB at hc;simp only [Bool.and_eq_true,decide_eq_true_eq] at hc;have hd:(at' L i).frm / 2 ^ (L.take i).length=0:=hc.2.1;have hlen:(L.take i).length=i:=by simp;omega
 rw [hlen] at hd;apply Classical.byContradiction;intro h;rw [Lc.bit_hi _ i hf.1 hd m (by omega)] at hb;exact Bool.noConfusion hb
theorem bel_reach{L:List K}(hl:Lc.laceB L=true)(i:Nat)(hi:i<L.length)(j:Nat):bit (bel L i) j=true↔Reach L i j:=by
 have h60:=((Lc.lace_iff L).1 hl).1;induction i using Nat.strongRecOn generalizing j with
 | _ i ih=>
  rw [bit_bel L i (by omega)];constructor
  ·rintro(rfl | ⟨m,hm,h1,h2⟩)
   ·exact .self _
   ·exact .step h1 ((ih m hm (by omega) j).1 h2)
  ·intro h
   cases h with
   | self=>exact .inl rfl
   | step hb h2=>
    have hm:=thread_lt hl hi hb;exact .inr ⟨_,hm,hb,(ih _ hm (by omega) j).2 h2⟩
theorem reach_le{L:List K}(hl:Lc.laceB L=true){i j:Nat}(hi:i<L.length)(h:Reach L i j):j≤i:=by
 induction h with
 | self=>exact Nat.le_refl _
 | step hb _ ih=>
  have hm:=thread_lt hl hi hb;have:=ih (by omega);omega
theorem andNot_sub(a s:Int)(h0:0≤a)(h1:a<9223372036854775808)(h2:0≤s)(h3:s<9223372036854775808):(bits .andNot .i64 a s == 0)=true↔∀i,bit a i=true→bit s i=true:=by
 obtain⟨A,rfl⟩:=Int.eq_ofNat_of_zero_le h0;obtain⟨S,rfl⟩:=Int.eq_ofNat_of_zero_le h2;have hA:(BitVec.ofInt 64 (A:Int)).toNat=A:=ofInt_u64 A (by omega);have hS:(BitVec.ofInt 64 (S:Int)).toNat=S:=ofInt_u64 S (by omega);have e:bits .andNot .i64 (A:Int) (S:Int)=IntKind.i64.wrap ((BitVec.ofInt 64 (A:Int) &&& ~~~ BitVec.ofInt 64 (S:Int)).toNat:Int):=rfl;have hz:(bits .andNot .i64 (A:Int) (S:Int) == 0)=true↔(BitVec.ofInt 64 (A:Int) &&& ~~~ BitVec.ofInt 64 (S:Int))=0#64:=by
  rw [e,beq_iff_eq];constructor
  ·intro h;have hlt:(BitVec.ofInt 64 (A:Int) &&& ~~~ BitVec.ofInt 64 (S:Int)).toNat<18446744073709551616:=BitVec.isLt _;have hw:∀x:Nat,x<18446744073709551616→IntKind.i64.wrap (x:Int)=0→x=0:=by
    intro x hx hh;simp only [IntKind.wrap,IntKind.bits,IntKind.signed] at hh;simp at hh;omega
   exact BitVec.eq_of_toNat_eq ((hw _ hlt h).trans rfl)
  ·intro h;rw [h];rfl
 rw [hz];have ba:∀i,(BitVec.ofInt 64 (A:Int)).getLsbD i=A.testBit i:=fun i=>by rw [BitVec.getLsbD,hA]
 have bs:∀i,(BitVec.ofInt 64 (S:Int)).getLsbD i=S.testBit i:=fun i=>by rw [BitVec.getLsbD,hS]
 have ta:∀i,bit (A:Int) i=A.testBit i:=fun i=>by rw [Bit.bit_testBit _ h0,Int.toNat_natCast]
 have ts:∀i,bit (S:Int) i=S.testBit i:=fun i=>by rw [Bit.bit_testBit _ h2,Int.toNat_natCast]
 constructor
 ·intro h i hi;rw [ta] at hi;have h64:i<64:=by
   apply Classical.byContradiction;intro hn;have:A.testBit i=false:=Nat.testBit_lt_two_pow (Nat.lt_of_lt_of_le (show A<2 ^ 64 by omega) (Nat.pow_le_pow_right (by decide) (by omega)));rw [this] at hi;exact Bool.noConfusion hi
  have hb:=congrArg (fun v=>v.getLsbD i) h;simp only [BitVec.getLsbD_and,BitVec.getLsbD_not,ba,bs,hi,h64] at hb;rw [ts];simpa using hb
 ·intro h;apply BitVec.eq_of_getLsbD_eq;intro i hi;simp only [BitVec.getLsbD_and,BitVec.getLsbD_not,ba,bs]
  cases hA':A.testBit i
  ·simp
  ·have:=h i (by rw [ta];exact hA');rw [ts] at this;rw [this];simp
theorem closed_iff(L:List K)(s:Int)(n:Nat)(hn:n≤60)(h0:0≤s)(h1:s<1152921504606846976):closedTo (belows L n) s n=true↔∀i,i<n→bit s i=true→∀j,bit (bel L i) j=true→bit s j=true:=by
 unfold closedTo;rw [List.all_eq_true];constructor
 ·intro h i hi hb;have:=h i (by simpa using hi);rw [hb,belows_get L n i hi] at this;have hbd:=bel_bd L i (by omega);exact(andNot_sub _ _ hbd.1 (by omega) h0 (by omega)).1 (by simpa using this)
 ·intro h i hi;have hi':i<n:=by simpa using hi
  cases hb:bit s i
  ·rfl
  ·rw [belows_get L n i hi'];have hbd:=bel_bd L i (by omega);have:=(andNot_sub _ _ hbd.1 (by omega) h0 (by omega)).2 (h i hi' hb);simpa using this
theorem closed_threads{L:List K}(hl:Lc.laceB L=true)(s:Int)(h0:0≤s)(h1:s<1152921504606846976):closedTo (belows L L.length) s L.length=true↔∀i,i<L.length→bit s i=true→∀m,bit (at' L i).frm m=true→bit s m=true:=by
 have h60:=((Lc.lace_iff L).1 hl).1;rw [closed_iff L s L.length h60 h0 h1];constructor
 ·intro h i hi hb m hm;exact h i hi hb m ((bel_reach hl i hi m).2 (.step hm (.self _)))
 ·intro h i hi hb j hj;have r:=(bel_reach hl i hi j).1 hj;clear hj;induction r with
  | self=>exact hb
  | step hm _ ih=>exact ih (Nat.lt_trans (thread_lt hl hi hm) hi) (h _ hi hb _ hm)
end Sg
namespace Db
open Kn (K okK)
open Bit (bit withB)
open Lc (at' RdK)
def pairB(L:List K)(l:List Int)(a b:Nat):Bool:=decide ((at' L a).hand=(at' L b).hand)&&!bit (l.getD a 0) b
def dblB(L:List K)(l:List Int)(i j:Nat):Bool:=if j<i then pairB L l i j else if i<j then pairB L l j i else false
def doneB(a b i j:Nat):Bool:=(decide (i<a)&&decide (j<a)) || ((decide (i=a)&&decide (j<b)) || (decide (j=a)&&decide (i<b)))
structure RowI(w:World)(g n:Nat)(D:Nat→Int):Prop where
 lt:g<w.heap.size
 rd:∀i,i<n→w.cell? ⟨g,i,none⟩=some (.int .i64 (D i))
 fr:∀i,i<n→w.frozen? ⟨g,i,none⟩=false
theorem RowI.put{w:World}{g n:Nat}{D:Nat→Int}(h:RowI w g n D)(m:Nat)(hm:m<n)(x:Int):RowI (w.setCell ⟨g,m,none⟩ (.int .i64 x)) g n (fun i=>if i=m then x else D i) where
 lt:=by simpa using h.lt
 rd:=fun i hi=>by
  by_cases e:i=m
  ·subst e;simpa using World.cell?_setCell_same _ _ _ (h.rd i hi)
  ·rw [if_neg e];exact(World.cell?_setCell_other _ _ _ _ (by intro q;injection q with _ q;exact e q.symm)).trans (h.rd i hi)
 fr:=fun i hi=>by simpa using h.fr i hi
theorem RowI.drew{w:World}{g n:Nat}{D:Nat→Int}(h:RowI w g n D):RowI w.drew g n D:=⟨h.lt,h.rd,h.fr⟩
theorem RowI.drewN{w:World}{g n:Nat}{D:Nat→Int}(h:RowI w g n D)(k:Nat):RowI (w.drewN k) g n D:=⟨h.lt,h.rd,h.fr⟩
def Dbl(L:List K)(l:List Int)(a b:Nat)(D:Nat→Int):Prop:=∀i,i<L.length→(0≤D i∧D i<1152921504606846976)∧∀j,bit (D i) j=(dblB L l i j&&doneB a b i j)
theorem dbl_zero(L:List K)(l:List Int):Dbl L l 0 0 (fun _=>0):=fun i _=>⟨⟨Int.le_refl 0,show(0:Int)<1152921504606846976 by decide⟩,fun j=>by show bit 0 j=_;rw [Lc.bit_zero];simp [doneB]⟩
theorem dbl_next(L:List K)(l:List Int)(a:Nat)(D:Nat→Int)(h:Dbl L l a a D):Dbl L l (a+1) 0 D:=by
 intro i hi;refine⟨(h i hi).1,fun j=>?_⟩;rw [(h i hi).2 j];by_cases he:i=j
 ·subst he;simp [dblB]
 ·have:doneB a a i j=doneB (a+1) 0 i j:=by
   unfold doneB;rw [Bool.eq_iff_iff];simp;omega
  rw [this]
theorem dbl_skip(L:List K)(l:List Int)(a b:Nat)(D:Nat→Int)(hab:b<a)(hp:pairB L l a b=false)(h:Dbl L l a b D):Dbl L l a (b+1) D:=by
 intro i hi;refine⟨(h i hi).1,fun j=>?_⟩;rw [(h i hi).2 j];by_cases hc:(i=a∧j=b)∨(i=b∧j=a)
 ·have:dblB L l i j=false:=by
   unfold dblB;rcases hc with⟨rfl,rfl⟩ | ⟨rfl,rfl⟩
   ·rw [if_pos hab];exact hp
   ·rw [if_neg (by omega),if_pos hab];exact hp
  rw [this];rfl
 ·have:doneB a b i j=doneB a (b+1) i j:=by
   unfold doneB;rw [Bool.eq_iff_iff];simp;omega
  rw [this]
def putD(D:Nat→Int)(a b i:Nat):Int:=if i=b then withB (if b=a then withB (D a) b else D b) a else if i=a then withB (D a) b else D i
theorem dbl_put(L:List K)(l:List Int)(a b:Nat)(D:Nat→Int)(hab:b<a)(ha:a<60)(hp:pairB L l a b=true)(h:Dbl L l a b D):Dbl L l a (b+1) (putD D a b):=by
 intro i hi;unfold putD;by_cases h1:i=b
 ·subst h1;have hd:=h i hi;simp only [if_true];rw [if_neg (show ¬ i=a by omega)];refine⟨Bit.withB_bd _ hd.1.1 hd.1.2 a ha,fun j=>?_⟩;rw [Bit.bit_withB _ hd.1.1,hd.2 j];by_cases hj:j=a
  ·subst hj;have e1:dblB L l i j=true:=by unfold dblB;rw [if_neg (by omega),if_pos hab];exact hp
   have e2:doneB j (i+1) i j=true:=by unfold doneB;simp
   rw [e1,e2];simp
  ·have:doneB a i i j=doneB a (i+1) i j:=by
    unfold doneB;rw [Bool.eq_iff_iff];simp;omega
   rw [this];simp [hj]
 ·by_cases h2:i=a
  ·subst h2;have hd:=h i hi;rw [if_neg h1];simp only [if_true];refine⟨Bit.withB_bd _ hd.1.1 hd.1.2 b (by omega),fun j=>?_⟩;rw [Bit.bit_withB _ hd.1.1,hd.2 j];by_cases hj:j=b
   ·subst hj;have e1:dblB L l i j=true:=by unfold dblB;rw [if_pos hab];exact hp
    have e2:doneB i (j+1) i j=true:=by unfold doneB;simp
    rw [e1,e2];simp
   ·have:doneB i b i j=doneB i (b+1) i j:=by
     unfold doneB;rw [Bool.eq_iff_iff];simp;omega
    rw [this];simp [hj]
  ·have hd:=h i hi;rw [if_neg h1,if_neg h2];refine⟨hd.1,fun j=>?_⟩;rw [hd.2 j];have:doneB a b i j=doneB a (b+1) i j:=by
    unfold doneB;rw [Bool.eq_iff_iff];simp;omega
   rw [this]
theorem rowI_made(w:World)(t:TypeId)(n:Nat):RowI (w.alloc (.cells (madeCells #[.int .i64 0] n) t)) w.heap.size n (fun _=>0) where
 lt:=by simp
 rd:=fun i hi=>by
  rw [World.cell?_alloc_new];have:i<(madeCells #[Value.int .i64 0] n).size:=by rw [size_madeCells];exact hi
  rw [Array.getElem?_eq_getElem this];simp [madeCells,Nat.mod_one]
 fr:=fun i hi=>by simp
theorem has_call(f:Int)(i:Nat)(b:Bool)(h0:0≤f)(h1:f<1152921504606846976)(hi:i≤60)(hb:bit f i=b)(W:World):Calls Tryz.prog 45 #[.int .i64 f,.int .i64 (i:Int)] W fun e w'=>e=.returned (.bool b)∧w'=W:=by
 refine(Base.l1Has f (i:Int) W h0 h1 (by omega) (by omega)).mono ?_;rintro e w' ⟨rfl,rfl⟩;exact⟨by rw [Int.toNat_natCast,hb],rfl⟩
def DblPost(L:List K)(l:List Int)(w:World)(e:Ending)(w':World):Prop:=∃D,e=.returned (.slice (some ⟨w.heap.size,0,none⟩) L.length L.length)∧RowI w' w.heap.size L.length D∧Dbl L l L.length 0 D∧Below w.heap.size w w'
theorem below_drewN{b:Nat}{a w:World}(h:Below b a w)(n:Nat):Below b a (w.drewN n):=⟨h.os,h.tape,h.output,h.size,h.block⟩
theorem l5All(ao:Option Addr)(cap:Nat)(L:List K)(bo:Option Addr)(bc:Nat)(l:List Int)(w:World)(hL:L.length≤60)(hll:l.length=L.length)(hin:Sg.Within l)(hr:RdK w ao L)(hrd:Lst.Rd w bo l)(hbo:∀g,bo=some ⟨g,0,none⟩→g<w.heap.size) :
  Calls Tryz.prog 83 #[.slice ao L.length cap,.slice bo l.length bc] w (DblPost L l w):=by
 have hmk:∀W:World,(Instr.makeSlice 25 (.int .i64 (L.length:Int)) (.int .i64 (L.length:Int))).run Tryz.prog W=.ok (.slice (some ⟨W.heap.size,0,none⟩) L.length L.length) (W.alloc (.cells (madeCells #[.int .i64 0] L.length) 2)):=
  fun W=>run_make_row' (P:=Tryz.prog) 25 2 (.int .i64 0) 8 Tryz.underlying25 Memb.info2 rfl .i64 .i64 L.length (by omega) (by omega) W
 have HP:Hid (RowI (w.alloc (.cells (madeCells #[.int .i64 0] L.length) 2)) w.heap.size L.length (fun _=>0)∧Below w.heap.size w (w.alloc (.cells (madeCells #[.int .i64 0] L.length) 2))):=⟨rowI_made _ _ _,(Below.refl _ _).alloc (Nat.le_refl _) _⟩
 generalize madeCells #[Value.int .i64 0] L.length=mc at hmk HP;have HLL:Hid (l.length=L.length):=hll;have hl60:l.length≤60:=by omega
 clear hll;go_enter Tryz.func83,Tryz.ntmps83
 go_wp2;clear hmk;go_loopw [6] (fun i wr=>∃(a:Nat) (D:Nat→Int),a≤L.length∧i=.int .i64 a∧Hid (RowI wr w.heap.size L.length D)∧Hid (Dbl L l a 0 D)∧Hid (Below w.heap.size w wr)) (fun i _=>L.length-(intOf i).toNat)
 case atStart=>exact⟨0,_,by omega,rfl,HP.out.1,dbl_zero L l,HP.out.2⟩
 case round=>
  obtain⟨a,D0,ha,rfl,HR,HD,HB⟩:=hrel;by_cases hlt:a<L.length
  ·have hal:a<l.length:=by rw [HLL.out];exact hlt
   have hali:(a:Int)<(l.length:Int):=by omega
   go_wp2;go_loopw [7] (fun i wr=>∃(b:Nat) (D:Nat→Int),b≤a∧i=.int .i64 b∧Hid (RowI wr w.heap.size L.length D)∧Hid (Dbl L l a b D)∧Hid (Below w.heap.size w wr)) (fun i _=>a-(intOf i).toNat)
   case atStart=>exact⟨0,D0,by omega,rfl,HR,HD,HB⟩
   case round=>
    obtain⟨b,D,hb,rfl,HR,HD,HB⟩:=hrel;by_cases hba:b<a
    ·obtain⟨g,off,hao,hg,hca⟩:=(hr.below HB.out).at a hlt;obtain⟨g',off',hao',_,hcb⟩:=(hr.below HB.out).at b (by omega);subst hao;injection hao' with hao';injection hao' with q1 q2;subst q1 q2;obtain⟨a0,_,_,_⟩:=hca;obtain⟨b0,_,_,_⟩:=hcb;have hya:=Sg.within_get hin a;rcases hrd with hrd | ⟨bb,rfl,hcell⟩
     ·rw [hrd] at hal;simp at hal
     have cy:=(HB.out.cell (p:=⟨bb,a,none⟩) (hbo bb rfl)).trans (hcell a hal);have HPB:Hid (pairB L l a b=(decide ((at' L a).hand=(at' L b).hand)&&!bit (l.getD a 0) b)):=rfl;clear hcell hbo;generalize l.getD a 0=y at cy hya HPB;by_cases hq:(at' L a).hand=(at' L b).hand
     ·have hq1:((at' L a).hand == (at' L b).hand)=true:=by simpa using hq
      cases hbit:bit y b
      ·have hp:pairB L l a b=true:=by rw [HPB.out,hbit];simp [hq]
       have hcall:=has_call y b false hya.1 hya.2 (by omega) hbit;have HD2:Hid (Dbl L l a (b+1) (putD D a b)):=dbl_put L l a b D hba (by omega) hp HD.out;have hda:=(HD.out a hlt).1;have hdb:=(HD.out b (by omega)).1;clear hbit HPB hq hp;go_wp2_with fail
       go_quiet (first | (go_at_call 45;exact(hcall _).mono fun _ _ h=>⟨h.1,_,h.2⟩))
       go_wp2_with fail
       have R1:=HR.out.drewN nq;have HB1:Hid (Below w.heap.size w (wr.drewN nq)):=below_drewN HB.out nq;clear a0 b0 cy HR HB;generalize wr.drewN nq=V at R1 HB1 ⊢;have e1:=R1.rd a hlt;have f1:=R1.fr a hlt;have HO1:Hid (bits .or .i64 (D a) (2 ^ b)=withB (D a) b):=Base.shl_or _ b hda.1 hda.2 (by omega);have HR2:Hid (RowI (V.setCell ⟨w.heap.size,a,none⟩ (.int .i64 (withB (D a) b))) w.heap.size L.length (fun i=>if i=a then withB (D a) b else D i)):=R1.put a hlt _;have HB2:Hid (Below w.heap.size w (V.setCell ⟨w.heap.size,a,none⟩ (.int .i64 (withB (D a) b)))):=HB1.out.setCell (p:=⟨w.heap.size,a,none⟩) (Nat.le_refl _) _;clear R1 HB1;go_region_with (go_at_call 82;refine(Base.l1Bit _ _ (by omega) (by omega)).mono ?_;rintro e w' ⟨rfl,rfl⟩;rw [Int.toNat_natCast])
       all_goals
        rw [HO1.out];go_wp2_with fail
        have R3:=HR2.out.drew;have HB3:Hid (Below w.heap.size w (V.setCell ⟨w.heap.size,a,none⟩ (.int .i64 (withB (D a) b))).drew):=HB2.out.drew;clear e1 f1 HR2 HB2;generalize (V.setCell ⟨w.heap.size,a,none⟩ (.int .i64 (withB (D a) b))).drew=V3 at R3 HB3 ⊢;have e3:=R3.rd b (by omega);have f3:=R3.fr b (by omega);have hne:¬ b=a:=by omega
        rw [if_neg hne] at e3;have HO3:Hid (bits .or .i64 (D b) (2 ^ a)=withB (D b) a):=Base.shl_or _ a hdb.1 hdb.2 (by omega);have HR4:Hid (RowI (V3.setCell ⟨w.heap.size,b,none⟩ (.int .i64 (withB (D b) a))) w.heap.size L.length (putD D a b)):=by
         have:=R3.put b (by omega) (withB (D b) a);have e:(fun i=>if i=b then withB (D b) a else if i=a then withB (D a) b else D i)=putD D a b:=by
          funext i;unfold putD;rw [if_neg hne]
         rw [← e];exact this
        have HB4:Hid (Below w.heap.size w (V3.setCell ⟨w.heap.size,b,none⟩ (.int .i64 (withB (D b) a)))):=HB3.out.setCell (p:=⟨w.heap.size,b,none⟩) (Nat.le_refl _) _;clear R3 HB3 hne;go_region_with (go_at_call 82;refine(Base.l1Bit _ _ (by omega) (by omega)).mono ?_;rintro e w' ⟨rfl,rfl⟩;rw [Int.toNat_natCast])
        all_goals
         rw [HO3.out];go_wp2;go_roundw
         case rel=>exact⟨b+1,putD D a b,by omega,by go_num,HR4.out.drew,HD2,HB4.out.drew⟩
         case measure=>simp [intOf];omega
      ·have hp:pairB L l a b=false:=by rw [HPB.out,hbit];simp
       have hcall:=has_call y b true hya.1 hya.2 (by omega) hbit;have HD2:Hid (Dbl L l a (b+1) D):=dbl_skip L l a b D hba hp HD.out;clear hbit HPB hq hp;go_wp2_with fail
       go_quiet (first | (go_at_call 45;exact(hcall _).mono fun _ _ h=>⟨h.1,_,h.2⟩))
       go_wp2;go_roundw
       case rel=>exact⟨b+1,D,by omega,by go_num,HR.out.drewN nq,HD2,below_drewN HB.out nq⟩
       case measure=>simp [intOf];omega
     ·have hq1:((at' L a).hand == (at' L b).hand)=false:=by simpa using hq
      have hp:pairB L l a b=false:=by rw [HPB.out];simp [hq]
      have HD2:Hid (Dbl L l a (b+1) D):=dbl_skip L l a b D hba hp HD.out;clear HPB hq hp;go_wp2_with fail
      go_quiet (fail)
      go_wp2;go_roundw
      case rel=>exact⟨b+1,D,by omega,by go_num,HR.out.drewN nq,HD2,below_drewN HB.out nq⟩
      case measure=>simp [intOf];omega
    ·obtain rfl:b=a:=by omega
     have HD2:Hid (Dbl L l (b+1) 0 D):=dbl_next L l b D HD.out;go_wp2;go_roundw
     case rel=>exact⟨b+1,D,by omega,by go_num,HR,HD2,HB⟩
     case measure=>simp [intOf];omega
  ·obtain rfl:a=L.length:=by omega
   go_wp2;go_ret;exact⟨D0,rfl,HR.out,HD.out,HB.out⟩
end Db
namespace Lc
open Kn (K okK)
open Bit (bit withB)
def ofX(L:List K)(h k:Nat):Int:=ofH L (h:Int) k
theorem ofX_eq(L:List K)(h k:Nat)(hh:h<4):(if h=0 then ofH L 0 k else if h=1 then ofH L 1 k else if h=2 then ofH L 2 k else ofH L 3 k)=ofX L h k:=by
 match h,hh with
 | 0,_=>rfl
 | 1,_=>rfl
 | 2,_=>rfl
 | 3,_=>rfl
theorem Four.drew{w:World}{g:Nat}{x0 x1 x2 x3:Int}(h:Four w g x0 x1 x2 x3):Four w.drew g x0 x1 x2 x3:=⟨h.lt,h.c0,h.c1,h.c2,h.c3,h.f⟩
theorem four_step{L:List K}{w:World}{g h k:Nat}(H:Four w g (ofH L 0 k) (ofH L 1 k) (ofH L 2 k) (ofH L 3 k))(e:(at' L k).hand=(h:Int))(hh:h<4)(hk:k<60) :
  Four (w.setCell ⟨g,h,none⟩ (.int .i64 (withB (ofX L h k) k))) g (ofH L 0 (k+1)) (ofH L 1 (k+1)) (ofH L 2 (k+1)) (ofH L 3 (k+1)):=by
 have hp:=H.put h hh (withB (ofX L h k) k);rw [ofH_succ L 0 k hk,ofH_succ L 1 k hk,ofH_succ L 2 k hk,ofH_succ L 3 k hk,e];match h,hh,hp with
 | 0,_,hp=>simpa [ofX] using hp
 | 1,_,hp=>simpa [ofX] using hp
 | 2,_,hp=>simpa [ofX] using hp
 | 3,_,hp=>simpa [ofX] using hp
theorem made4:madeCells #[Value.int .i64 0] 4=#[.int .i64 0,.int .i64 0,.int .i64 0,.int .i64 0]:=by
 apply Array.ext
 ·simp [size_madeCells]
 ·intro i h1 h2;have h:i<4:=by simpa using h2
  match i,h with
  | 0,_=>simp [madeCells]
  | 1,_=>simp [madeCells]
  | 2,_=>simp [madeCells]
  | 3,_=>simp [madeCells]
theorem l3Of(ao:Option Addr)(cap:Nat)(L:List K)(w:World)(hL:L.length≤60)(hr:RdK w ao L)(hh:HandsOk L):Calls Tryz.prog 108 #[.slice ao L.length cap] w fun e w'=>
  ∃c,e=.returned (.slice (some ⟨w.heap.size,0,none⟩) 4 c)∧Four w' w.heap.size (ofH L 0 L.length) (ofH L 1 L.length) (ofH L 2 L.length) (ofH L 3 L.length)∧Below w.heap.size w w':=by
 have hmk:∀W:World,(Instr.makeSlice 25 (.int .i64 4) (.int .i64 4)).run Tryz.prog W=.ok (.slice (some ⟨W.heap.size,0,none⟩) 4 4) (W.alloc (.cells #[.int .i64 0,.int .i64 0,.int .i64 0,.int .i64 0] 2)):=by
  intro W;have:=run_make_row' (P:=Tryz.prog) 25 2 (.int .i64 0) 8 Tryz.underlying25 info2 rfl .i64 .i64 4 (by omega) (by omega) W;rw [made4] at this;exact this
 go_enter Tryz.func108,Tryz.ntmps108
 go_wp2;go_loopw [4] (fun i wr=>∃k:Nat,k≤L.length∧i=.int .i64 k∧Hid (Four wr w.heap.size (ofH L 0 k) (ofH L 1 k) (ofH L 2 k) (ofH L 3 k))∧Hid (Below w.heap.size w wr)) (fun i _=>L.length-(intOf i).toNat)
 case atStart=>exact⟨0,by omega,rfl,four_new w _,(Below.refl _ _).alloc (Nat.le_refl _) _⟩
 case round=>
  obtain⟨k,hk,rfl,HF,HB⟩:=hrel;by_cases hlt:k<L.length
  ·obtain⟨g,off,rfl,hg,hc⟩:=hr.at k hlt;have hb:=hh _ (at_mem L k hlt);obtain⟨c0,_,_,_⟩:=hc.below HB.out hg;obtain⟨h,e⟩:∃h:Nat,(at' L k).hand=(h:Int):=Int.eq_ofNat_of_zero_le hb.1;have hh4:h<4:=by omega
   rw [e] at c0;obtain⟨x,cx,ex⟩:=HF.out.pick h hh4;have fx:=HF.out.f h hh4;have HX:Hid (bits .or .i64 x (2 ^ k)=withB (ofX L h k) k):=by
    show _=_;have hbd:=ofH_bd L (h:Int) k (by omega);have:x=ofX L h k:=ex.trans (ofX_eq L h k hh4);rw [this];unfold ofX;exact Base.shl_or _ k hbd.1 hbd.2 (by omega)
   have HP:Hid (Four (wr.setCell ⟨w.heap.size,h,none⟩ (.int .i64 (withB (ofX L h k) k))) w.heap.size (ofH L 0 (k+1)) (ofH L 1 (k+1)) (ofH L 2 (k+1)) (ofH L 3 (k+1))):=four_step HF.out e hh4 (by omega);have HQ:Hid _:=below_put HB.out (Nat.le_refl _) h (.int .i64 (withB (ofX L h k) k));clear ex hb hc e HF HB;go_wp2_with fail
   go_region_with (go_at_call 82;refine(Base.l1Bit _ _ (by omega) (by omega)).mono ?_;rintro e w' ⟨rfl,rfl⟩)
   all_goals
    rw [HX.out];go_wp2;go_roundw
    case rel=>exact⟨k+1,by omega,by go_num,HP.out.drew,HQ.out.drew⟩
    case measure=>simp [intOf];omega
  ·obtain rfl:k=L.length:=by omega
   go_wp2;go_ret;exact⟨4,rfl,HF.out,HB.out⟩
end Lc
namespace Lc
open Kn (K okK)
open Bit (bit withB)
theorem RdK.drew{w:World}{ao:Option Addr}{L:List K}(h:RdK w ao L):RdK w.drew ao L:=by
 rcases h with h | ⟨g,off,ha,hg,hc⟩
 ·exact .inl h
 ·exact .inr ⟨g,off,ha,hg,fun i hi=>⟨(hc i hi).c0,(hc i hi).c1,(hc i hi).c2,(hc i hi).c3⟩⟩
theorem RdK.drewN{w:World}{ao:Option Addr}{L:List K}(h:RdK w ao L)(n:Nat):RdK (w.drewN n) ao L:=by
 rcases h with h | ⟨g,off,ha,hg,hc⟩
 ·exact .inl h
 ·exact .inr ⟨g,off,ha,hg,fun i hi=>⟨(hc i hi).c0,(hc i hi).c1,(hc i hi).c2,(hc i hi).c3⟩⟩
theorem below_drewN'{b:Nat}{a w:World}(h:Below b a w)(n:Nat):Below b a (w.drewN n):=⟨h.os,h.tape,h.output,h.size,h.block⟩
def cntH(L:List K)(s:Int):Nat→Int
 | 0=>0
 | k+1=>cntH L s k+if hasHand L s (k:Int) then 1 else 0
theorem cntH4(L:List K)(s:Int):cntH L s 4=handsN L s:=by
 simp [cntH,handsN]
theorem cntH_bd(L:List K)(s:Int)(k:Nat):0≤cntH L s k∧cntH L s k≤(k:Int):=by
 induction k with
 | zero=>simp [cntH]
 | succ k ih=>unfold cntH;split <;> omega
theorem l3Count(g c:Nat)(L:List K)(s:Int)(w:World)(hL:L.length≤60)(h0:0≤s)(h1:s<9223372036854775808)(hf:Four w g (ofH L 0 L.length) (ofH L 1 L.length) (ofH L 2 L.length) (ofH L 3 L.length)) :
  Calls Tryz.prog 109 #[.slice (some ⟨g,0,none⟩) 4 c,.int .i64 s] w fun e w'=>e=.returned (.int .i64 (handsN L s))∧w=w':=by
 go_enter Tryz.func109,Tryz.ntmps109
 go_wp2;go_loop [5,6] (fun n h=>∃k:Nat,k≤4∧h=.int .i64 k∧n=.int .i64 (cntH L s k)) (fun _ h=>4-(intOf h).toNat)
 case atStart=>exact⟨0,by omega,rfl,rfl⟩
 case round=>
  obtain⟨k,hk,rfl,rfl⟩:=hrel;by_cases hlt:k<4
  ·obtain⟨x,cx,ex⟩:=hf.pick k hlt;have hbd:=cntH_bd L s k;have hx:(bits .and .i64 x s != 0)=hasHand L s (k:Int):=by
    rw [ex.trans (ofX_eq L k L.length hlt)];exact of_and L (k:Int) s hL h0 h1
   have HC:Hid (cntH L s (k+1)=cntH L s k+if hasHand L s (k:Int) then 1 else 0):=rfl;clear ex
   cases hb:hasHand L s (k:Int)
   ·rw [hb] at hx;have HD:Hid (cntH L s (k+1)=cntH L s k):=by show _=_;rw [HC.out,hb];simp
    clear hb HC;go_wp2;go_round
    case rel=>exact⟨k+1,by omega,by go_num,by rw [HD.out]⟩
    case measure=>simp [intOf];omega
   ·rw [hb] at hx;have HD:Hid (cntH L s (k+1)=cntH L s k+1):=by show _=_;rw [HC.out,hb];simp
    clear hb HC;go_wp2;go_round
    case rel=>exact⟨k+1,by omega,by go_num,by rw [HD.out]⟩
    case measure=>simp [intOf];omega
  ·obtain rfl:k=4:=by omega
   have HD:Hid (cntH L s 4=handsN L s):=cntH4 L s;go_wp2;go_ret;exact⟨by rw [HD.out];rfl,rfl⟩
theorem l3Hands(ao:Option Addr)(cap:Nat)(L:List K)(s:Int)(w:World)(hL:L.length≤60)(hr:RdK w ao L)(hh:HandsOk L)(h0:0≤s)(h1:s<9223372036854775808):Calls Tryz.prog 106 #[.slice ao L.length cap,.int .i64 s] w fun e w'=>
  e=.returned (.int .i64 (handsN L s))∧Below w.heap.size w w':=by
 go_enter Tryz.func106,Tryz.ntmps106
 go_wp2_with fail
 refine(l3Of ao cap L _ hL hr hh).mono ?_;rintro e w1 ⟨c,rfl,hf,hb⟩;go_wp2_with fail
 refine(l3Count _ c L s _ hL h0 h1 hf).mono ?_;rintro e w2 ⟨rfl,rfl⟩;go_wp2;go_ret;exact⟨rfl,hb⟩
theorem l3Round(g off cap:Nat)(L:List K)(s r:Int)(w:World)(hL:L.length≤60)(hr:RdK w (some ⟨g,off,none⟩) L)(h0:0≤s)(h1:s<1152921504606846976):Calls Tryz.prog 107 #[.slice (some ⟨g,off,none⟩) L.length cap,.int .i64 s,.int .i64 r] w fun e w'=>
  e=.returned (.int .i64 (roundS L s r))∧w=w':=by
 go_enter Tryz.func107,Tryz.ntmps107
 go_wp2;go_loop [7,8] (fun o i=>∃k:Nat,k≤L.length∧i=.int .i64 k∧o=.int .i64 (amongI (fun k=>decide (k.round=r)) L s k)) (fun _ i=>L.length-(intOf i).toNat)
 case atStart=>exact⟨0,by omega,rfl,rfl⟩
 case round=>
  obtain⟨k,hk,rfl,rfl⟩:=hrel;by_cases hlt:k<L.length
  ·have hbd:=among_bd (fun k=>decide (k.round=r)) L s k (by omega);have HA:Hid (amongI (fun k=>decide (k.round=r)) L s (k+1)=if bit s k&&decide ((at' L k).round=r) then withB (amongI (fun k=>decide (k.round=r)) L s k) k else amongI (fun k=>decide (k.round=r)) L s k):=rfl;have HW:Hid (bits .or .i64 (amongI (fun k=>decide (k.round=r)) L s k) (2 ^ k)=withB (amongI (fun k=>decide (k.round=r)) L s k) k):=Base.shl_or _ k hbd.1 hbd.2 (by omega);obtain⟨_,_,c1,_,_⟩:=hr.on k hlt;generalize amongI (fun k=>decide (k.round=r)) L s k=x at HA HW ⊢;clear hbd
   cases hb:bit s k
   ·have HD:Hid (amongI (fun k=>decide (k.round=r)) L s (k+1)=x):=by show _=_;rw [HA.out,hb];simp
    have HB:Hid (bit s k=false):=hb;clear hb HA HW;go_wp2_with (go_at_call 45;refine(Base.l1Has _ _ _ h0 h1 (by omega) (by omega)).mono ?_;rintro e w' ⟨rfl,rfl⟩;rw [Int.toNat_natCast,HB.out])
    go_round
    case rel=>exact⟨k+1,by omega,by go_num,by rw [HD.out]⟩
    case measure=>simp [intOf];omega
   ·have HB:Hid (bit s k=true):=hb;by_cases hq:(at' L k).round=r
    ·have HD:Hid (amongI (fun k=>decide (k.round=r)) L s (k+1)=withB x k):=by show _=_;rw [HA.out,hb];simp [hq]
     rw [hq] at c1;clear hb HA hq;go_wp2_with (first | (go_at_call 45;refine(Base.l1Has _ _ _ h0 h1 (by omega) (by omega)).mono ?_;rintro e w' ⟨rfl,rfl⟩;rw [Int.toNat_natCast,HB.out]) | (go_at_call 82;refine(Base.l1Bit _ _ (by omega) (by omega)).mono ?_;rintro e w' ⟨rfl,rfl⟩;rw [Int.toNat_natCast]))
     go_round
     case rel=>exact⟨k+1,by omega,by go_num,by rw [HD.out,HW.out]⟩
     case measure=>simp [intOf];omega
    ·have HD:Hid (amongI (fun k=>decide (k.round=r)) L s (k+1)=x):=by show _=_;rw [HA.out,hb];simp [hq]
     have hq':((at' L k).round == r)=false:=by simpa using hq
     clear hb HA hq HW;go_wp2_with (go_at_call 45;refine(Base.l1Has _ _ _ h0 h1 (by omega) (by omega)).mono ?_;rintro e w' ⟨rfl,rfl⟩;rw [Int.toNat_natCast,HB.out])
     go_round
     case rel=>exact⟨k+1,by omega,by go_num,by rw [HD.out]⟩
     case measure=>simp [intOf];omega
  ·obtain rfl:k=L.length:=by omega
   go_wp2;go_ret;exact⟨rfl,rfl⟩
end Lc
namespace Lc
open Kn (K okK)
open Bit (bit withB)
theorem atRound(g off cap:Nat)(L:List K)(s r:Int)(w:World)(hL:L.length≤60)(hs:Base.okB s=true)(hr:RdK w (some ⟨g,off,none⟩) L) :
  Calls Tryz.prog 135 #[.slice (some ⟨g,off,none⟩) L.length cap,.int .i64 s,.int .i64 r] w fun e w'=>e=.returned (.int .i64 (roundS L s r))∧Below w.heap.size w w':=by
 have B0:Below w.heap.size w (w.alloc (.cells #[.int .i64 r] 2)):=(Below.refl _ _).alloc (Nat.le_refl _) _;go_enter Tryz.func135,Tryz.ntmps135
 go_wp2_with fail
 refine(amongRound g off cap L s w.heap.size r _ hL hs (hr.below B0) (by simp) (by simp)).mono ?_;rintro e w1 ⟨rfl,hb1⟩;have B1:=B0.trans (hb1.mono (by simp));clear hb1 B0;go_wp2;go_ret;exact⟨rfl,B1⟩
theorem round_bd(L:List K)(s r:Int)(hL:L.length≤60):0≤roundS L s r∧roundS L s r<1152921504606846976∧roundS L s r / 2 ^ L.length=0:=by
 have hb:=among_bd (fun k=>decide (k.round=r)) L s L.length hL;refine⟨hb.1,hb.2,div_of_bits _ _ hb.1 fun i hi=>?_⟩;unfold roundS;rw [bit_among _ _ _ _ hL];simp;omega
theorem take_snocI(l:List Int)(j:Nat)(h:j<l.length):l.take (j+1)=l.take j++[l.getD j 0]:=by
 rw [List.take_succ_eq_append_getElem h];simp [List.getD,List.getElem?_eq_getElem h]
theorem mem_in(L:List K)(s:Int)(h0:0≤s)(hd:s / 2 ^ L.length=0):∀i∈Bit.memTo s 60,0≤i∧i<(L.length:Int):=by
 intro i hi;obtain⟨j,_,rfl,hj⟩:=(Bit.mem_memTo s 60 i).1 hi;refine⟨by omega,?_⟩;apply Classical.byContradiction;intro hc;rw [bit_hi s _ h0 hd j (by omega)] at hj;exact Bool.noConfusion hj
theorem hands(g off cap:Nat)(L:List K)(s:Int)(w:World)(hL:L.length≤60)(h0:0≤s)(h1:s<1152921504606846976)(hd:s / 2 ^ L.length=0)(hh:HandsOk L)(hr:RdK w (some ⟨g,off,none⟩) L) :
  Calls Tryz.prog 134 #[.slice (some ⟨g,off,none⟩) L.length cap,.int .i64 s] w fun e w'=>e=.returned (.int .i64 (handsN L s))∧Below w.heap.size w w':=by
 have hok:Base.okB s=true:=(Base.okB_iff s).2 ⟨h0,h1⟩;have hmem:Memb.memI s=Bit.memTo s 60:=by unfold Memb.memI;rw [hok];rfl
 have hin:=mem_in L s h0 hd;have HT:Hid (((Bit.memTo (found L (Bit.memTo s 60)) 60).length:Int)=handsN L s):=found_hands L s hL hh h0 hd;go_enter Tryz.func134,Tryz.ntmps134
 go_wp2_with fail
 refine(Memb.picked s _).mono ?_;rintro e w1 ⟨ao,ca,rfl,hown,hb1⟩;rw [hmem] at hown ⊢;have hr1:=hr.below hb1;have hrd:=Lst.own_rd hown;have hle:(Bit.memTo s 60).length≤60:=Bit.memTo_le s 60;have HI:Hid (∀i∈Bit.memTo s 60,0≤i∧i<(L.length:Int)):=hin;clear hown hmem hok hin h0 h1 hd;generalize Bit.memTo s 60=l at HT hrd hle HI ⊢;go_wp2;go_loop [5,12] (fun o i=>∃j:Nat,j≤l.length∧i=.int .i64 j∧o=.int .i64 (found L (l.take j))) (fun _ i=>l.length-(intOf i).toNat)
 case atStart=>exact⟨0,by omega,rfl,rfl⟩
 case round=>
  obtain⟨j,hj,rfl,rfl⟩:=hrel;have HF:Hid (0≤found L (l.take j)∧found L (l.take j)<16):=found_bd L _ hh (fun i hi=>HI.out i (List.mem_of_mem_take hi));by_cases hlt:j<l.length
  ·rcases hrd with hrd | ⟨b,rfl,hcell⟩
   ·rw [hrd] at hlt;simp at hlt
   have cj:=hcell j hlt;have hx:=HI.out (l.getD j 0) (by simp [List.getD,List.getElem?_eq_getElem hlt]);have HS:Hid (found L (l.take (j+1))=withB (found L (l.take j)) (at' L (l.getD j 0).toNat).hand.toNat):=by
    show _=_;rw [take_snocI l j hlt,found_snoc]
   generalize l.getD j 0=x at cj hx HS;obtain⟨m,rfl⟩:=Int.eq_ofNat_of_zero_le hx.1;have hm:m<L.length:=by omega
   obtain⟨_,c0,_,_,_⟩:=hr1.on m hm;have hk:=hh _ (at_mem L m hm);have HW:Hid (Base.withI (found L (l.take j)) (at' L m).hand=found L (l.take (j+1))):=by
    show _=_;rw [HS.out,Int.toNat_natCast];unfold Base.withI;rw [(Base.okB_iff _).2 ⟨HF.out.1,by have:=HF.out.2;omega⟩,(Base.inB_iff _).2 ⟨hk.1,by omega⟩];simp
   clear hcell HS hk HF;go_wp2_with (go_at_call 148;refine(Base.withM _ _ _).mono ?_;rintro e w' ⟨rfl,rfl⟩;rw [HW.out])
   go_round
   case rel=>exact⟨j+1,by omega,by go_num,rfl⟩
   case measure=>simp [intOf];omega
  ·obtain rfl:j=l.length:=by omega
   have e:l.take l.length=l:=List.take_length;rw [e] at HF ⊢;go_wp2_with fail
   refine(Memb.size _ _ HF.out.1 (by have:=HF.out.2;omega)).mono ?_;rintro e w2 ⟨rfl,rfl⟩;rw [HT.out];go_wp2;go_ret;exact⟨rfl,hb1⟩
theorem bears(g off cap:Nat)(L:List K)(k:K)(w:World)(hL:L.length≤60)(hk:okK k=true)(hh:HandsOk L)(hr:RdK w (some ⟨g,off,none⟩) L) :
  Calls Tryz.prog 104 #[.slice (some ⟨g,off,none⟩) L.length cap,.agg #[.int .i64 k.hand,.int .i64 k.round,.int .i64 k.frm,.string k.word]] w fun e w'=>e=.returned (.bool (bearsB L k))∧Below w.heap.size w w':=by
 have hf:=ok_frm hk;have hrd:=ok_round hk;have HOK:Hid (Base.okB k.frm=true):=(Base.okB_iff _).2 hf;have HB:Hid (bearsB L k=(decide (k.round=0) || (decide (amongI (fun x=>decide (x.round<k.round)) L k.frm L.length=k.frm)&&decide (3≤handsN L (roundS L k.frm (k.round-1)))))):=rfl;have P0:Hid (Below w.heap.size w (w.alloc (.cells #[.int .i64 k.hand,.int .i64 k.round,.int .i64 k.frm,.string k.word] 104))∧CellsK (w.alloc (.cells #[.int .i64 k.hand,.int .i64 k.round,.int .i64 k.frm,.string k.word] 104)) w.heap.size 0 k∧w.heap.size<(w.alloc (.cells #[.int .i64 k.hand,.int .i64 k.round,.int .i64 k.frm,.string k.word] 104)).heap.size):=
  ⟨(Below.refl _ _).alloc (Nat.le_refl _) _,⟨by simp,by simp,by simp,by simp⟩,by simp⟩
 clear hk;by_cases hz:k.round=0
 ·have HT:Hid (bearsB L k=true):=by show _=_;rw [HB.out];simp [hz]
  have hz':(k.round == 0)=true:=by simpa using hz
  clear hz;go_enter Tryz.func104,Tryz.ntmps104
  go_wp2;go_ret;exact⟨by rw [HT.out];rfl,P0.out.1⟩
 ·have HT:Hid (bearsB L k=(decide (amongI (fun x=>decide (x.round<k.round)) L k.frm L.length=k.frm)&&decide (3≤handsN L (roundS L k.frm (k.round-1))))):=by show _=_;rw [HB.out];simp [hz]
  have hz':(k.round == 0)=false:=by simpa using hz
  clear hz HB;go_enter Tryz.func104,Tryz.ntmps104
  go_wp2_with fail
  generalize w.alloc (.cells #[.int .i64 k.hand,.int .i64 k.round,.int .i64 k.frm,.string k.word] 104)=w0 at P0 ⊢;obtain⟨B0,C0,S0⟩:=P0;generalize hb:w.heap.size=b at *;have hr0:RdK w0 (some ⟨g,off,none⟩) L:=hr.below (by rw [hb];exact B0);refine(amongLess g off cap L k.frm b k _ hL HOK.out hr0 S0 C0).mono ?_;rintro e w1 ⟨rfl,hb1⟩;have C1:=C0.below hb1 S0;have S1:b<w1.heap.size:=Nat.lt_of_lt_of_le S0 hb1.size;have B1:=B0.trans (hb1.mono (Nat.le_of_lt S0));have hr1:=hr0.below hb1;clear hb1 B0 S0 C0 hr0;obtain⟨_,c1,c2,_⟩:=C1;rw [Nat.zero_add] at c1 c2;by_cases hq:amongI (fun x=>decide (x.round<k.round)) L k.frm L.length=k.frm
  ·have HT2:Hid (bearsB L k=decide (3≤handsN L (roundS L k.frm (k.round-1)))):=by show _=_;rw [HT.out];simp [hq]
   rw [hq];clear hq HT;have hrb:=round_bd L k.frm (k.round-1) hL;go_wp2_with fail
   refine(atRound g off cap L k.frm (k.round-1) _ hL HOK.out hr1).mono ?_;rintro e w2 ⟨rfl,hb2⟩;have hr2:=hr1.below hb2;have B2:=B1.trans (hb2.mono (Nat.le_of_lt S1));have S2:b<w2.heap.size:=Nat.lt_of_lt_of_le S1 hb2.size;clear hb2 B1 S1 hr1 c1 c2;go_wp2_with fail
   refine(hands g off cap L _ _ hL hrb.1 hrb.2.1 hrb.2.2 hh hr2).mono ?_;rintro e w3 ⟨rfl,hb3⟩;have B3:=B2.trans (hb3.mono (Nat.le_of_lt S2));clear hb3 B2 S2 hr2;go_wp2;go_ret;exact⟨by rw [HT2.out];rfl,by first | exact B3 | (rw [hb];exact B3)⟩
  ·have HT2:Hid (bearsB L k=false):=by show _=_;rw [HT.out];simp [hq]
   have hq':(amongI (fun x=>decide (x.round<k.round)) L k.frm L.length == k.frm)=false:=by simpa using hq
   clear hq HT;go_wp2;go_ret;exact⟨by rw [HT2.out];rfl,by first | exact B1 | (rw [hb];exact B1)⟩
def takesB(L:List K)(k:K):Bool:=decide (L.length<60)&&canB L k
theorem takes(g off cap:Nat)(L:List K)(k:K)(w:World)(hL:L.length≤60)(hw:k.word.size≤1099511627776)(hh:HandsOk L)(hr:RdK w (some ⟨g,off,none⟩) L) :
  Calls Tryz.prog 73 #[.slice (some ⟨g,off,none⟩) L.length cap,.agg #[.int .i64 k.hand,.int .i64 k.round,.int .i64 k.frm,.string k.word]] w fun e w'=>e=.returned (.bool (takesB L k))∧Below w.heap.size w w':=by
 have HT:Hid (takesB L k=(decide (L.length<60)&&(okK k&&bearsB L k))):=by show _=_;rw [takes_can L k hL];rfl
 have P0:Hid (Below w.heap.size w (w.alloc (.cells #[.int .i64 k.hand,.int .i64 k.round,.int .i64 k.frm,.string k.word] 104))∧CellsK (w.alloc (.cells #[.int .i64 k.hand,.int .i64 k.round,.int .i64 k.frm,.string k.word] 104)) w.heap.size 0 k∧w.heap.size<(w.alloc (.cells #[.int .i64 k.hand,.int .i64 k.round,.int .i64 k.frm,.string k.word] 104)).heap.size):=
  ⟨(Below.refl _ _).alloc (Nat.le_refl _) _,⟨by simp,by simp,by simp,by simp⟩,by simp⟩
 by_cases h60:L.length<60
 ·have h60':(L.length:Int)<60:=by omega
  go_enter Tryz.func73,Tryz.ntmps73
  go_wp2_with fail
  generalize w.alloc (.cells #[.int .i64 k.hand,.int .i64 k.round,.int .i64 k.frm,.string k.word] 104)=w0 at P0 ⊢;obtain⟨B0,C0,S0⟩:=P0;generalize hb:w.heap.size=b at *;have hr0:RdK w0 (some ⟨g,off,none⟩) L:=hr.below (by rw [hb];exact B0);refine(Kn.knotRight k.hand k.round k.frm k.word _ hw).mono ?_;rintro e w1 ⟨rfl,hb1⟩;have C1:=C0.below hb1 S0;have S1:b<w1.heap.size:=Nat.lt_of_lt_of_le S0 hb1.size;have B1:=B0.trans (hb1.mono (Nat.le_of_lt S0));have hr1:=hr0.below hb1;clear hb1 B0 S0 C0 hr0;obtain⟨c0,c1,c2,c3⟩:=C1;rw [Nat.zero_add] at c1 c2 c3
  cases hok:okK k
  ·have HT2:Hid (takesB L k=false):=by show _=_;rw [HT.out,hok];simp
   clear hok HT;go_wp2;go_ret;exact⟨by rw [HT2.out];rfl,by first | exact B1 | (rw [hb];exact B1)⟩
  ·have HT2:Hid (takesB L k=bearsB L k):=by show _=_;rw [HT.out,hok];simp [h60]
   have HOK:Hid (okK k=true):=hok;clear hok HT;go_wp2_with fail
   refine(bears g off cap L k _ hL HOK.out hh hr1).mono ?_;rintro e w2 ⟨rfl,hb2⟩;have B2:=B1.trans (hb2.mono (Nat.le_of_lt S1));clear hb2 B1 S1;go_wp2;go_ret;exact⟨by rw [HT2.out];rfl,by first | exact B2 | (rw [hb];exact B2)⟩
 ·have HT2:Hid (takesB L k=false):=by show _=_;rw [HT.out];simp [h60]
  have h60':¬ (L.length:Int)<60:=by omega
  go_enter Tryz.func73,Tryz.ntmps73
  go_wp2;go_ret;exact⟨by rw [HT2.out];rfl,P0.out.1⟩
end Lc
end
section
namespace Fam
theorem region{P:Program}{X:Type}{F:X→World}{id:Nat}{Q:Exit→Act→World→Prop}{a:Act}{w:World}{l:List Oper}(hm:P.follows .mixedOrders=true)(hB:Region.lexB .any l.toArray=true)(hC:∃z,w.drew=F z)
  (h:wpQuiet P l.toArray (fun w'=>∃z,w'=F z) (fun a'=>∀w',(∃z,w'=F z)→Q .normal a' w') l a):(Code.region id l.toArray true).wp P Q a w:=
 wp_region_quiet (C:=fun w'=>∃z,w'=F z) hm hB hC (by simpa using h)
theorem fam(W:World):∃(X:Type) (_:Inhabited X) (F:X→World),Hid (∀z,Below W.heap.size W (F z))∧Hid (∀w',Below W.heap.size W w'→∃z,w'=F z):=
 ⟨{w' // Below W.heap.size W w'},⟨⟨W,Below.refl _ _⟩⟩,Subtype.val,fun z=>z.2,fun w' h=>⟨⟨w',h⟩,rfl⟩⟩
end Fam
namespace Lc
open Kn (K okK)
open Bit (bit withB)
theorem has_call(f:Int)(i:Nat)(b:Bool)(h0:0≤f)(h1:f<1152921504606846976)(hi:i≤60)(hb:bit f i=b)(W:World):Calls Tryz.prog 45 #[.int .i64 f,.int .i64 (i:Int)] W fun e w'=>e=.returned (.bool b)∧w'=W:=by
 refine(Base.l1Has f (i:Int) W h0 h1 (by omega) (by omega)).mono ?_;rintro e w' ⟨rfl,rfl⟩;exact⟨by rw [Int.toNat_natCast,hb],rfl⟩
theorem lesser_step(L:List K)(f r:Int)(n:Nat):lesserB L f r (n+1)=(lesserB L f r n&&(!bit f n || decide ((at' L n).round<r))):=by
 unfold lesserB;rw [List.range_succ];simp
theorem lesser_no(L:List K)(f r:Int)(n m:Nat)(h:n<m)(hb:bit f n=true)(hq:¬ (at' L n).round<r):lesserB L f r m=false:=by
 cases hl:lesserB L f r m
 ·rfl
 ·exact absurd ((lesser_iff L f r m).1 hl n h hb) hq
theorem l3Can(g off cap:Nat)(L:List K)(n:Nat)(k:K)(w:World)(hcap:L.length≤cap)(hn:n≤L.length)(h60:n≤60)(hw:k.word.size≤1099511627776)(hh:HandsOk (L.take n))(hr:RdK w (some ⟨g,off,none⟩) L) :
   Calls Tryz.prog 78 #[.slice (some ⟨g,off,none⟩) L.length cap,.int .i64 (n:Int),.agg #[.int .i64 k.hand,.int .i64 k.round,.int .i64 k.frm,.string k.word]] w fun e w'=>e=.returned (.bool (canB (L.take n) k))∧Below w.heap.size w w':=by
 have hlen:(L.take n).length=n:=by simp;omega
 have HC:Hid (canB (L.take n) k=(okK k&&(decide (k.frm / 2 ^ n=0)&&(lesserB L k.frm k.round n&&handsB (L.take n) k)))):=by
   show _=_;unfold canB;rw [hlen,lesser_take L _ _ n n (Nat.le_refl _)]
 have P0:Hid (Below w.heap.size w (w.alloc (.cells #[.int .i64 k.hand,.int .i64 k.round,.int .i64 k.frm,.string k.word] 38))∧CellsK (w.alloc (.cells #[.int .i64 k.hand,.int .i64 k.round,.int .i64 k.frm,.string k.word] 38)) w.heap.size 0 k∧w.heap.size<(w.alloc (.cells #[.int .i64 k.hand,.int .i64 k.round,.int .i64 k.frm,.string k.word] 38)).heap.size):=
   ⟨(Below.refl _ _).alloc (Nat.le_refl _) _,⟨by simp,by simp,by simp,by simp⟩,by simp⟩
 go_enter Tryz.func78,Tryz.ntmps78
 go_wp2_with fail
 generalize w.alloc (.cells #[.int .i64 k.hand,.int .i64 k.round,.int .i64 k.frm,.string k.word] 38)=w0 at P0 ⊢;obtain⟨B0,C0,S0⟩:=P0;generalize hb:w.heap.size=b at *;have hr0:RdK w0 (some ⟨g,off,none⟩) L:=hr.below (by rw [hb];exact B0);refine(Kn.specKnotOk k.hand k.round k.frm k.word _ hw).mono ?_;rintro e w1 ⟨rfl,hb1⟩;have C1:=C0.below hb1 S0;have S1:b<w1.heap.size:=Nat.lt_of_lt_of_le S0 hb1.size;have B1:=B0.trans (hb1.mono (Nat.le_of_lt S0));have hr1:=hr0.below hb1;clear hb1 B0 S0 C0 hr0;obtain⟨c0,c1,c2,c3⟩:=C1;rw [Nat.zero_add] at c1 c2 c3
 cases hok:okK k
 · have HT2:Hid (canB (L.take n) k=false):=by show _=_;rw [HC.out,hok];simp
   clear hok HC;go_wp2;go_ret;exact⟨by rw [HT2.out];rfl,by first | exact B1 | (rw [hb];exact B1)⟩
 · have hf:=ok_frm hok;have hrd:=ok_round hok;have HT2:Hid (canB (L.take n) k=(decide (k.frm / 2 ^ n=0)&&(lesserB L k.frm k.round n&&handsB (L.take n) k))):=by show _=_;rw [HC.out,hok];simp
   clear hok HC;by_cases hd:k.frm / 2 ^ n=0
   · have HT3:Hid (canB (L.take n) k=(lesserB L k.frm k.round n&&handsB (L.take n) k)):=by show _=_;rw [HT2.out];simp [hd]
     have hd':(k.frm / 2 ^ n != 0)=false:=by simpa using hd
     clear hd HT2;have HB1:Hid (Below b w w1):=B1;have HR1:Hid (RdK w1 (some ⟨g,off,none⟩) L):=hr1;clear B1 hr1;go_wp2;go_loopw [7] (fun i wr=>∃(j m:Nat),j≤n∧i=.int .i64 j∧wr=w1.drewN m∧Hid (lesserB L k.frm k.round j=true)) (fun i _=>n-(intOf i).toNat)
     case atStart=>exact⟨0,0,by omega,rfl,rfl,rfl⟩
     case round=>
       obtain⟨j,m,hj,rfl,rfl,HL⟩:=hrel;by_cases hlt:j<n
       · obtain⟨_,_,e1,_,_⟩:=HR1.out.on j (by omega)
         cases hbit:bit k.frm j
         · have HS:Hid (lesserB L k.frm k.round (j+1)=true):=by show _=_;rw [lesser_step,HL.out,hbit];rfl
           have hcall:=has_call k.frm j false hf.1 hf.2 (by omega) hbit;clear hbit HL;go_wp2_with fail
           go_quiet (first | (go_at_call 45;exact(hcall _).mono fun _ _ h=>⟨h.1,_,h.2⟩))
           go_wp2;go_roundw
           case rel=>exact⟨j+1,_,by omega,by go_num,rfl,HS⟩
           case measure=>simp [intOf];omega
         · have hcall:=has_call k.frm j true hf.1 hf.2 (by omega) hbit;by_cases hq:(at' L j).round<k.round
           · have HS:Hid (lesserB L k.frm k.round (j+1)=true):=by show _=_;rw [lesser_step,HL.out];simp [hq]
             have hq':¬ k.round≤(at' L j).round:=by omega
             have hq2:decide (k.round≤(at' L j).round)=false:=decide_eq_false hq';clear hbit HL hq;go_wp2_with fail
             go_quiet (first | (go_at_call 45;exact(hcall _).mono fun _ _ h=>⟨h.1,_,h.2⟩))
             go_wp2;go_roundw
             case rel=>exact⟨j+1,_,by omega,by go_num,rfl,HS⟩
             case measure=>simp [intOf];omega
           · have HS:Hid (canB (L.take n) k=false):=by show _=_;rw [HT3.out,lesser_no L _ _ j n hlt hbit hq];rfl
             have hq':k.round≤(at' L j).round:=by omega
             clear hbit HL hq;go_wp2_with fail
             go_quiet (first | (go_at_call 45;exact(hcall _).mono fun _ _ h=>⟨h.1,_,h.2⟩))
             go_wp2;go_ret;exact⟨by rw [HS.out];rfl,by have:=below_drewN' (below_drewN' HB1.out m);first | exact this _ | (rw [hb];exact this _)⟩
       · obtain rfl:j=n:=by omega
         have HT4:Hid (canB (L.take j) k=handsB (L.take j) k):=by show _=_;rw [HT3.out,HL.out];rfl
         clear HT3 HL;by_cases hz:k.round=0
         · have HT5:Hid (canB (L.take j) k=true):=by show _=_;rw [HT4.out];simp [handsB,hz]
           have hz':(k.round == 0)=true:=by simpa using hz
           clear hz HT4;go_wp2_with fail
           go_quiet (fail)
           go_wp2;go_ret;exact⟨by rw [HT5.out];rfl,by have:=below_drewN' (below_drewN' HB1.out m);first | exact this _ | (rw [hb];exact this _)⟩
         · have HT5:Hid (canB (L.take j) k=decide (3≤handsN (L.take j) (roundS (L.take j) k.frm (k.round-1)))):=by show _=_;rw [HT4.out];simp [handsB,hz]
           have hz':(k.round == 0)=false:=by simpa using hz
           clear hz HT4;have hrb:=round_bd (L.take j) k.frm (k.round-1) (by omega);have HRT:Hid (∀W:World,RdK W (some ⟨g,off,none⟩) L→Calls Tryz.prog 107 #[.slice (some ⟨g,off,none⟩) j cap,.int .i64 k.frm,.int .i64 (k.round-1)] W fun e w'=>e=.returned (.int .i64 (roundS (L.take j) k.frm (k.round-1)))∧W=w'):=by
             intro W hW;have:=l3Round g off cap (L.take j) k.frm (k.round-1) W (by omega) (hW.take j) hf.1 hf.2;rwa [hlen] at this
           have HHT:Hid (∀W:World,RdK W (some ⟨g,off,none⟩) L→Calls Tryz.prog 106 #[.slice (some ⟨g,off,none⟩) j cap,.int .i64 (roundS (L.take j) k.frm (k.round-1))] W fun e w'=>e=.returned (.int .i64 (handsN (L.take j) (roundS (L.take j) k.frm (k.round-1))))∧Below W.heap.size W w'):=by
             intro W hW;have:=l3Hands (some ⟨g,off,none⟩) cap (L.take j) (roundS (L.take j) k.frm (k.round-1)) W (by omega) (hW.take j) hh hrb.1 (by omega);rwa [hlen] at this
           generalize roundS (L.take j) k.frm (k.round-1)=q at HRT HHT HT5;generalize handsN (L.take j) q=q2 at HHT HT5;clear hrb;have hjc:j≤cap:=by omega
           have hjL:j≤L.length:=by omega
           have P2:Hid (Below b w (w1.drewN m)∧RdK (w1.drewN m) (some ⟨g,off,none⟩) L∧b<(w1.drewN m).heap.size):=⟨below_drewN' HB1.out m,HR1.out.drewN m,S1⟩
           have c1':(w1.drewN m).cell? ⟨b,1,none⟩=some (.int .i64 k.round):=c1;have c2':(w1.drewN m).cell? ⟨b,2,none⟩=some (.int .i64 k.frm):=c2;clear c0 c1 c2 c3 HB1 HR1 S1;go_wp2_with fail
           generalize w1.drewN m=W at P2 c1' c2' ⊢;clear hlen hn hcap hd' hw hh hr;obtain⟨X,_,F,HF,HG⟩:=Fam.fam W;have hc1:∀z,(F z).cell? ⟨b,1,none⟩=some (.int .i64 k.round):=fun z=>((HF.out z).cell (p:=⟨b,1,none⟩) P2.out.2.2).trans c1'
           have hc2:∀z,(F z).cell? ⟨b,2,none⟩=some (.int .i64 k.frm):=fun z=>((HF.out z).cell (p:=⟨b,2,none⟩) P2.out.2.2).trans c2'
           clear c1' c2';refine Fam.region (F:=F) (by kernel_rfl) (by kernel_rfl) (HG.out _ (Below.refl _ W).drew) ?_
           repeat (go_big_quiet_step (first
             | (go_at_call 107;exact(HRT.out _ (P2.out.2.1.below (HF.out _))).mono fun _ _ h=>⟨h.1,_,h.2.symm⟩)
             | (go_at_call 106;exact(HHT.out _ (P2.out.2.1.below (HF.out _))).mono fun _ _ h=>⟨h.1,HG.out _ ((HF.out _).trans (h.2.mono (HF.out _).size))⟩)))
           refine wpQuiet_nil ?_;intro w2 hw2;obtain⟨z,rfl⟩:=hw2;have HB2:Hid (Below b w (F z)):=P2.out.1.trans ((HF.out z).mono (Nat.le_of_lt P2.out.2.2));go_wp2;go_ret;exact⟨by rw [HT5.out];rfl,by first | exact HB2.out | (rw [hb];exact HB2.out)⟩
   · have HT3:Hid (canB (L.take n) k=false):=by show _=_;rw [HT2.out];simp [hd]
     have hd':(k.frm / 2 ^ n != 0)=true:=by simpa using hd
     clear hd HT2;go_wp2;go_ret;exact⟨by rw [HT3.out];rfl,by first | exact B1 | (rw [hb];exact B1)⟩
end Lc
end
end Go.Proofs.YtbkeldfbllhlbaaGreat
