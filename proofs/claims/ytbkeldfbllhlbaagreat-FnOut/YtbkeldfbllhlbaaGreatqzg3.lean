/-
 What the model's WaveOf, LeaderOf and Leads answer; for coins of at most a million numbers and lists of knots whose words have at most 2^40 bytes.
-/
import Derived.Test.YtbkeldfbllhlbaaGreatqzg2
set_option linter.unusedVariables false
set_option maxRecDepth 100000
set_option maxHeartbeats 1600000
namespace Go.Proofs.YtbkeldfbllhlbaaGreat
open Go.RowKit
namespace Lc
open Kn (K okK)
open Bit (bit withB)
def WordsOk(L:List K):Prop:=∀k∈L,k.word.size≤1099511627776
theorem specLaceOk(g off cap:Nat)(L:List K)(w:World)(hcap:L.length≤cap)(hw:WordsOk L)(hr:RdK w (some ⟨g,off,none⟩) L) :
  Calls Tryz.prog 39 #[.slice (some ⟨g,off,none⟩) L.length cap] w fun e w'=>e=.returned (.bool (laceB L))∧Below w.heap.size w w':=by
 by_cases hbig:60<L.length
 ·have HT:Hid (laceB L=false):=lace_long hbig;have hb':(60:Int)<(L.length:Int):=by omega
  go_enter Tryz.func39,Tryz.ntmps39
  go_wp2;go_ret;exact⟨by rw [HT.out];rfl,Below.refl _ _⟩
 ·have hb':¬ (60:Int)<(L.length:Int):=by omega
  have h60:L.length≤60:=by omega
  clear hbig;go_enter Tryz.func39,Tryz.ntmps39
  go_wp2;go_loopw [3] (fun i wr=>∃j:Nat,j≤L.length∧i=.int .i64 j∧Hid (UpTo L j)∧Hid (Below w.heap.size w wr)) (fun i _=>L.length-(intOf i).toNat)
  case atStart=>exact⟨0,by omega,rfl,fun i hi=>by omega,Below.refl _ _⟩
  case round=>
   obtain⟨j,hj,rfl,HU,HB⟩:=hrel;by_cases hlt:j<L.length
   ·have hrj:=hr.below HB.out;obtain⟨_,c0,c1,c2,c3⟩:=hrj.on j hlt;have HR:Hid (RdK wr (some ⟨g,off,none⟩) L):=hrj;have hwj:=hw _ (at_mem L j hlt);clear hrj;go_wp2_with fail
    refine(l3Can g off cap L j (at' L j) _ hcap hj (by omega) hwj (upTo_hands HU.out) HR.out).mono ?_;rintro e w1 ⟨rfl,hb1⟩;have HB1:Hid (Below w.heap.size w w1):=HB.out.trans (hb1.mono HB.out.size);clear hb1 HB HR
    cases hcan:canB (L.take j) (at' L j)
    ·have HT:Hid (laceB L=false):=lace_no j hlt hcan;clear hcan;go_wp2;go_ret;exact⟨by rw [HT.out];rfl,HB1.out⟩
    ·have HU1:Hid (UpTo L (j+1)):=by
      intro i hi;by_cases he:i=j
      ·rw [he];exact hcan
      ·exact HU.out i (by omega)
     clear hcan HU;go_wp2;go_roundw
     case rel=>exact⟨j+1,by omega,by go_num,HU1,HB1⟩
     case measure=>simp [intOf];omega
   ·obtain rfl:j=L.length:=by omega
    have HT:Hid (laceB L=true):=lace_of_upTo h60 HU.out;go_wp2;go_ret;exact⟨by rw [HT.out];rfl,HB.out⟩
theorem l3CanTie(g off cap:Nat)(L:List K)(k:K)(w:World)(hcap:L.length≤cap)(hl:laceB L=true)(hw:k.word.size≤1099511627776)(hr:RdK w (some ⟨g,off,none⟩) L) :
  Calls Tryz.prog 159 #[.slice (some ⟨g,off,none⟩) L.length cap,.agg #[.int .i64 k.hand,.int .i64 k.round,.int .i64 k.frm,.string k.word]] w fun e w'=>e=.returned (.bool (takesB L k))∧Below w.heap.size w w':=by
 have h60:=((lace_iff L).1 hl).1;have hh:=lace_hands hl;have P0:Hid (Below w.heap.size w (w.alloc (.cells #[.int .i64 k.hand,.int .i64 k.round,.int .i64 k.frm,.string k.word] 38))∧CellsK (w.alloc (.cells #[.int .i64 k.hand,.int .i64 k.round,.int .i64 k.frm,.string k.word] 38)) w.heap.size 0 k∧w.heap.size<(w.alloc (.cells #[.int .i64 k.hand,.int .i64 k.round,.int .i64 k.frm,.string k.word] 38)).heap.size):=
  ⟨(Below.refl _ _).alloc (Nat.le_refl _) _,⟨by simp,by simp,by simp,by simp⟩,by simp⟩
 have HC:Hid (∀W:World,RdK W (some ⟨g,off,none⟩) L→Calls Tryz.prog 78 #[.slice (some ⟨g,off,none⟩) L.length cap,.int .i64 (L.length:Int),.agg #[.int .i64 k.hand,.int .i64 k.round,.int .i64 k.frm,.string k.word]] W fun e w'=>e=.returned (.bool (canB L k))∧Below W.heap.size W w'):=by
  intro W hW;have:=l3Can g off cap L L.length k W hcap (Nat.le_refl _) h60 hw (by rw [List.take_length];exact hh) hW;rwa [List.take_length] at this
 clear hl hh hw;by_cases hlt:L.length<60
 ·have hlt':(L.length:Int)<60:=by omega
  have HT:Hid (takesB L k=canB L k):=by show _=_;unfold takesB;simp [hlt]
  go_enter Tryz.func159,Tryz.ntmps159
  go_wp2_with fail
  generalize w.alloc (.cells #[.int .i64 k.hand,.int .i64 k.round,.int .i64 k.frm,.string k.word] 38)=w0 at P0 ⊢;obtain⟨B0,C0,S0⟩:=P0;refine(HC.out _ (hr.below B0)).mono ?_;rintro e w1 ⟨rfl,hb1⟩;have B1:=B0.trans (hb1.mono (Nat.le_of_lt S0));clear hb1 B0 S0 C0;go_wp2;go_ret;exact⟨by rw [HT.out];rfl,B1⟩
 ·have hlt':¬ (L.length:Int)<60:=by omega
  have HT:Hid (takesB L k=false):=by show _=_;unfold takesB;simp [hlt]
  go_enter Tryz.func159,Tryz.ntmps159
  go_wp2;go_ret;exact⟨by rw [HT.out];rfl,P0.out.1⟩
def setB(L:List K)(s:Int):Bool:=laceB L&&(decide (0≤s)&&decide (s / 2 ^ L.length=0))
theorem setB_parts{L:List K}{s:Int}(h:setB L s=true):laceB L=true∧0≤s∧s<1152921504606846976∧s / 2 ^ L.length=0∧L.length≤60∧HandsOk L:=by
 unfold setB at h;simp only [Bool.and_eq_true,decide_eq_true_eq] at h;obtain⟨hl,h0,hd⟩:=h;have h60:=((lace_iff L).1 hl).1;refine⟨hl,h0,?_,hd,h60,lace_hands hl⟩;have:=Bit.div_zero_up s L.length (60-L.length) hd;rw [show L.length+(60-L.length)=60 by omega] at this;omega
theorem l3Set(g off cap:Nat)(L:List K)(s:Int)(w:World)(hcap:L.length≤cap)(hwL:WordsOk L)(hr:RdK w (some ⟨g,off,none⟩) L) :
  Calls Tryz.prog 90 #[.slice (some ⟨g,off,none⟩) L.length cap,.int .i64 s] w fun e w'=>e=.returned (.bool (setB L s))∧Below w.heap.size w w':=by
 go_enter Tryz.func90,Tryz.ntmps90
 go_wp2_with fail
 refine(specLaceOk g off cap L _ hcap hwL hr).mono ?_;rintro e w1 ⟨rfl,hb1⟩
 cases hl:laceB L
 ·have HT:Hid (setB L s=false):=by show _=_;unfold setB;rw [hl];rfl
  clear hl;go_wp2;go_ret;exact⟨by rw [HT.out];rfl,hb1⟩
 ·have h60:=((lace_iff L).1 hl).1;by_cases h0:0≤s
  ·have HT:Hid (setB L s=decide (s / 2 ^ L.length=0)):=by show _=_;unfold setB;rw [hl];simp [h0]
   clear hl;by_cases hd:s / 2 ^ L.length=0
   ·have HT2:Hid (setB L s=true):=by show _=_;rw [HT.out];simp [hd]
    have hd':(s / 2 ^ L.length == 0)=true:=by simpa using hd
    clear hd HT;go_wp2;go_ret;exact⟨by rw [HT2.out];rfl,hb1⟩
   ·have HT2:Hid (setB L s=false):=by show _=_;rw [HT.out];simp [hd]
    have hd':(s / 2 ^ L.length == 0)=false:=by simpa using hd
    clear hd HT;go_wp2;go_ret;exact⟨by rw [HT2.out];rfl,hb1⟩
  ·have HT:Hid (setB L s=false):=by show _=_;unfold setB;rw [hl];simp [h0]
   clear hl;go_wp2;go_ret;exact⟨by rw [HT.out];rfl,hb1⟩
end Lc
namespace Sg
open Kn (K okK)
open Bit (bit)
open Lc (at' RdK laceB WordsOk setB)
def isB(L:List K)(k:Int):Bool:=decide (0≤k)&&(decide (k<(L.length:Int))&&laceB L)
def seesB(L:List K)(a b:Int):Bool:=isB L a&&(isB L b&&bit (bel L a.toNat) b.toNat)
def closedB(L:List K)(s:Int):Bool:=setB L s&&closedTo (belows L L.length) s L.length
theorem isB_parts{L:List K}{k:Int}(h:isB L k=true):0≤k∧k<(L.length:Int)∧laceB L=true:=by
 unfold isB at h;simpa using h
theorem l4Is(g off cap:Nat)(L:List K)(k:Int)(w:World)(hcap:L.length≤cap)(hw:WordsOk L)(hr:RdK w (some ⟨g,off,none⟩) L) :
  Calls Tryz.prog 49 #[.slice (some ⟨g,off,none⟩) L.length cap,.int .i64 k] w fun e w'=>e=.returned (.bool (isB L k))∧Below w.heap.size w w':=by
 by_cases h0:0≤k
 ·by_cases h1:k<(L.length:Int)
  ·have HT:Hid (isB L k=laceB L):=by show _=_;unfold isB;rw [decide_eq_true h0,decide_eq_true h1];rfl
   go_enter Tryz.func49,Tryz.ntmps49
   go_wp2_with fail
   refine(Lc.specLaceOk g off cap L _ hcap hw hr).mono ?_;rintro e w1 ⟨rfl,hb1⟩;go_wp2;go_ret;exact⟨by rw [HT.out];rfl,hb1⟩
  ·have HT:Hid (isB L k=false):=by show _=_;unfold isB;rw [decide_eq_false h1];simp
   go_enter Tryz.func49,Tryz.ntmps49
   go_wp2;go_ret;exact⟨by rw [HT.out];rfl,Below.refl _ _⟩
 ·have HT:Hid (isB L k=false):=by show _=_;unfold isB;rw [decide_eq_false h0];rfl
  go_enter Tryz.func49,Tryz.ntmps49
  go_wp2;go_ret;exact⟨by rw [HT.out];rfl,Below.refl _ _⟩
theorem specClosed(g off cap:Nat)(L:List K)(s:Int)(w:World)(hcap:L.length≤cap)(hw:WordsOk L)(hr:RdK w (some ⟨g,off,none⟩) L) :
  Calls Tryz.prog 57 #[.slice (some ⟨g,off,none⟩) L.length cap,.int .i64 s] w fun e w'=>e=.returned (.bool (closedB L s))∧Below w.heap.size w w':=by
 go_enter Tryz.func57,Tryz.ntmps57
 go_wp2_with fail
 refine(Lc.l3Set g off cap L s _ hcap hw hr).mono ?_;rintro e w1 ⟨rfl,hb1⟩;have hr1:=hr.below hb1
 cases hs:setB L s
 ·have HT:Hid (closedB L s=false):=by show _=_;unfold closedB;rw [hs];rfl
  clear hs;go_wp2;go_ret;exact⟨by rw [HT.out];rfl,hb1⟩
 ·obtain⟨hlc,h0,h1,_,h60,_⟩:=Lc.setB_parts hs;have HT:Hid (closedB L s=closedTo (belows L L.length) s L.length):=by show _=_;unfold closedB;rw [hs];rfl
  have hf:=frm_lace hlc;clear hs hlc;have HBL:Hid ((belows L L.length).length=L.length):=belows_len L L.length;go_wp2_with fail
  refine(l4All (some ⟨g,off,none⟩) cap L _ h60 hf hr1).mono ?_;rintro e w2 ⟨bo,bc,rfl,hown,hb2⟩;have hB2:=hb1.trans (hb2.mono hb1.size);have hrd:=Lst.own_rd hown;clear hb1 hb2 hown hr1;generalize belows L L.length=l at HT HBL hrd ⊢;rw [← HBL.out] at HT;go_wp2_with fail
  refine(l4Closed bo bc l s _ (by rw [HBL.out];exact h60) h0 h1 hrd).mono ?_;rintro e w3 ⟨rfl,rfl⟩;go_wp2;go_ret;exact⟨by rw [HT.out];rfl,hB2⟩
theorem below_drewN{b:Nat}{a w:World}(h:Below b a w)(n:Nat):Below b a (w.drewN n):=⟨h.os,h.tape,h.output,h.size,h.block⟩
end Sg
namespace Db
open Kn (K okK)
open Bit (bit withB)
open Lc (at' RdK WordsOk laceB setB)
open Sg (isB bel belows)
def dblN(L:List K)(i j:Nat):Bool:=decide ((at' L i).hand=(at' L j).hand)&&(!bit (bel L i) j&&!bit (bel L j) i)
def doubledB(L:List K)(a b:Int):Bool:=isB L a&&(isB L b&&dblN L a.toNat b.toNat)
def dblS(L:List K)(i:Nat):Nat→Int
 | 0=>0
 | n+1=>if dblN L i n then withB (dblS L i n) n else dblS L i n
theorem dblS_bd(L:List K)(i n:Nat)(hn:n≤60):0≤dblS L i n∧dblS L i n<1152921504606846976:=by
 induction n with
 | zero=>exact⟨Int.le_refl 0,show(0:Int)<1152921504606846976 by decide⟩
 | succ n ih=>
  have ih:=ih (by omega);unfold dblS;split
  ·exact Bit.withB_bd _ ih.1 ih.2 n (by omega)
  ·exact ih
theorem bit_dblS(L:List K)(i n:Nat)(hn:n≤60)(j:Nat):bit (dblS L i n) j=(decide (j<n)&&dblN L i j):=by
 induction n with
 | zero=>unfold dblS;rw [Lc.bit_zero];simp
 | succ n ih=>
  have ih:=ih (by omega);have hb:=dblS_bd L i n (by omega);unfold dblS
  cases hd:dblN L i n
  ·rw [if_neg (by simp),ih];by_cases e:j=n
   ·subst e;simp [hd]
   ·rw [show decide (j<n+1)=decide (j<n) from by rw [Bool.eq_iff_iff];simp;omega]
  ·rw [if_pos rfl,Bit.bit_withB _ hb.1,ih];by_cases e:j=n
   ·subst e;simp [hd]
   ·rw [show decide (j<n+1)=decide (j<n) from by rw [Bool.eq_iff_iff];simp;omega];simp [e]
theorem bel_hi{L:List K}(hl:laceB L=true){i j:Nat}(hi:i<L.length)(hj:i<j):bit (bel L i) j=false:=by
 rw [Bool.eq_false_iff];intro h;have:=Sg.reach_le hl hi ((Sg.bel_reach hl i hi j).1 h);omega
theorem bel_self{L:List K}(hl:laceB L=true){i:Nat}(hi:i<L.length):bit (bel L i) i=true:=(Sg.bel_reach hl i hi i).2 (.self _)
theorem dbl_n{L:List K}(hl:laceB L=true){i j:Nat}(hi:i<L.length)(hj:j<L.length):dblB L (belows L L.length) i j=dblN L i j:=by
 unfold dblB dblN pairB;rw [Sg.belows_get L L.length i hi,Sg.belows_get L L.length j hj];by_cases h1:j<i
 ·rw [if_pos h1,bel_hi hl hj h1];simp
 ·by_cases h2:i<j
  ·rw [if_neg h1,if_pos h2,bel_hi hl hi h2];rw [show decide ((at' L j).hand=(at' L i).hand)=decide ((at' L i).hand=(at' L j).hand) from by rw [Bool.eq_iff_iff];simp [eq_comm]];simp
  ·obtain rfl:i=j:=by omega
   rw [if_neg h1,if_neg h2,bel_self hl hi];simp
theorem dbl_bit{L:List K}(hl:laceB L=true){D:Nat→Int}(h:Dbl L (belows L L.length) L.length 0 D){i:Nat}(hi:i<L.length)(j:Nat):bit (D i) j=(decide (j<L.length)&&dblN L i j):=by
 rw [(h i hi).2 j];by_cases hj:j<L.length
 ·rw [dbl_n hl hi hj];have:doneB L.length 0 i j=true:=by unfold doneB;simp [hi,hj]
  rw [this];simp [hj]
 ·have:doneB L.length 0 i j=false:=by unfold doneB;simp [hj]
  rw [this];simp [hj]
theorem dbl_eq{L:List K}(hl:laceB L=true){D:Nat→Int}(h:Dbl L (belows L L.length) L.length 0 D){i:Nat}(hi:i<L.length):D i=dblS L i L.length:=by
 have h60:=((Lc.lace_iff L).1 hl).1;exact Lc.eq_of_bits _ _ (h i hi).1.1 (dblS_bd L i _ h60).1 fun j=>by rw [dbl_bit hl h hi j,bit_dblS L i _ h60]
end Db
namespace Nd
open Kn (K okK)
open Bit (bit withB memTo)
open Lc (at' laceB setB)
open Sg (isB bel)
open Db (dblN dblS)
def nodN(L:List K)(a b:Nat):Bool:=bit (bel L a) b&&(bits .and .i64 (bel L a) (dblS L b L.length) == 0)
def nodsB(L:List K)(a b:Int):Bool:=isB L a&&(isB L b&&nodN L a.toNat b.toNat)
def nodS(L:List K)(b:Nat):Nat→Int
 | 0=>0
 | n+1=>if nodN L n b then withB (nodS L b n) n else nodS L b n
theorem nodS_bd(L:List K)(b n:Nat)(hn:n≤60):0≤nodS L b n∧nodS L b n<1152921504606846976:=by
 induction n with
 | zero=>exact⟨Int.le_refl 0,show(0:Int)<1152921504606846976 by decide⟩
 | succ n ih=>
  have h:=ih (by omega);unfold nodS;split
  ·exact Bit.withB_bd _ h.1 h.2 n (by omega)
  ·exact h
theorem bit_nodS(L:List K)(b n:Nat)(hn:n≤60)(j:Nat):bit (nodS L b n) j=(decide (j<n)&&nodN L j b):=by
 induction n with
 | zero=>show bit 0 j=_;rw [Lc.bit_zero];simp
 | succ n ih=>
  have h:=nodS_bd L b n (by omega);unfold nodS
  cases hd:nodN L n b
  ·rw [if_neg (by simp),ih (by omega)];by_cases e:j=n
   ·subst e;rw [hd];simp
   ·have:decide (j<n+1)=decide (j<n):=by simp;omega
    rw [this]
  ·rw [if_pos rfl,Bit.bit_withB _ h.1,ih (by omega)];by_cases e:j=n
   ·subst e;rw [hd];simp
   ·have:decide (j<n+1)=decide (j<n):=by simp;omega
    rw [this,decide_eq_false e,Bool.false_or]
theorem nod_iff{L:List K}(h60:L.length≤60){a b:Nat}(ha:a<60):nodN L a b=true↔bit (bel L a) b=true∧∀j,j<L.length→bit (bel L a) j=true→dblN L b j=false:=by
 have h1:=Sg.bel_bd L a ha;have h2:=Db.dblS_bd L b L.length h60;unfold nodN;rw [Bool.and_eq_true,beq_iff_eq];have hz:=Lc.and_zero_iff (bel L a) (dblS L b L.length) h1.1 (by omega) h2.1 (by omega);constructor
 ·rintro⟨hb,he⟩;refine⟨hb,fun j hj hbj=>?_⟩;rw [Bool.eq_false_iff];intro hd;exact hz.2 ⟨j,hbj,by rw [Db.bit_dblS L b _ h60,hd];simp [hj]⟩ he
 ·rintro⟨hb,hno⟩;refine⟨hb,?_⟩;apply Classical.byContradiction;intro hne;obtain⟨j,h3,h4⟩:=hz.1 hne;rw [Db.bit_dblS L b _ h60,Bool.and_eq_true,decide_eq_true_eq] at h4;rw [hno j h4.1 h3] at h4;exact Bool.noConfusion h4.2
theorem nod_le{L:List K}(hl:laceB L=true){a b:Nat}(ha:a<L.length)(hn:nodN L a b=true):b≤a:=by
 apply Classical.byContradiction;intro h;have h60:=((Lc.lace_iff L).1 hl).1;have h1:=((nod_iff h60 (by omega)).1 hn).1;rw [Db.bel_hi hl ha (by omega)] at h1;exact Bool.noConfusion h1
end Nd
namespace Sl
open Kn (K okK)
open Bit (bit withB memTo)
open Lc (at' laceB setB handsN hasHand)
open Sg (isB bel)
open Nd (nodN nodS)
theorem and_bd(a b:Int)(h0:0≤a)(h1:a<1152921504606846976)(h2:0≤b)(h3:b<1152921504606846976):0≤bits .and .i64 a b∧bits .and .i64 a b<1152921504606846976:=by
 rw [Lc.i64_and a b h0 (by omega) h2 (by omega)];have:=Nat.and_le_left (n:=a.toNat) (m:=b.toNat);omega
theorem bit_and(a b:Int)(h1:0≤a)(h2:a<1152921504606846976)(h3:0≤b)(h4:b<1152921504606846976)(i:Nat):bit (bits .and .i64 a b) i=(bit a i&&bit b i):=by
 rw [Lc.i64_and a b h1 (by omega) h3 (by omega),Bit.bit_testBit _ (by omega),Int.toNat_natCast,Nat.testBit_and,← Bit.bit_testBit _ h1,← Bit.bit_testBit _ h3]
def nodAt(L:List K)(a b:Nat):Int:=bits .and .i64 (bel L a) (nodS L b L.length)
def sealN(L:List K)(a b:Nat):Bool:=decide (3≤handsN L (nodAt L a b))
def sealsB(L:List K)(a b:Int):Bool:=isB L a&&(isB L b&&sealN L a.toNat b.toNat)
def sealS(L:List K)(b:Nat):Nat→Int
 | 0=>0
 | n+1=>if sealN L n b then withB (sealS L b n) n else sealS L b n
theorem nodAt_bd{L:List K}(h60:L.length≤60){a:Nat}(ha:a<60)(b:Nat):0≤nodAt L a b∧nodAt L a b<1152921504606846976:=
 and_bd _ _ (Sg.bel_bd L a ha).1 (Sg.bel_bd L a ha).2 (Nd.nodS_bd L b _ h60).1 (Nd.nodS_bd L b _ h60).2
theorem bit_nodAt{L:List K}(h60:L.length≤60){a:Nat}(ha:a<60)(b i:Nat):bit (nodAt L a b) i=(bit (bel L a) i&&(decide (i<L.length)&&nodN L i b)):=by
 unfold nodAt;rw [bit_and _ _ (Sg.bel_bd L a ha).1 (Sg.bel_bd L a ha).2 (Nd.nodS_bd L b _ h60).1 (Nd.nodS_bd L b _ h60).2,Nd.bit_nodS L b _ h60]
theorem sealS_bd(L:List K)(b n:Nat)(hn:n≤60):0≤sealS L b n∧sealS L b n<1152921504606846976:=by
 induction n with
 | zero=>exact⟨Int.le_refl 0,show(0:Int)<1152921504606846976 by decide⟩
 | succ n ih=>
  have h:=ih (by omega);unfold sealS;split
  ·exact Bit.withB_bd _ h.1 h.2 n (by omega)
  ·exact h
theorem bit_sealS(L:List K)(b n:Nat)(hn:n≤60)(j:Nat):bit (sealS L b n) j=(decide (j<n)&&sealN L j b):=by
 induction n with
 | zero=>show bit 0 j=_;rw [Lc.bit_zero];simp
 | succ n ih=>
  have h:=sealS_bd L b n (by omega);unfold sealS
  cases hd:sealN L n b
  ·rw [if_neg (by simp),ih (by omega)];by_cases e:j=n
   ·subst e;rw [hd];simp
   ·have:decide (j<n+1)=decide (j<n):=by simp;omega
    rw [this]
  ·rw [if_pos rfl,Bit.bit_withB _ h.1,ih (by omega)];by_cases e:j=n
   ·subst e;rw [hd];simp
   ·have:decide (j<n+1)=decide (j<n):=by simp;omega
    rw [this,decide_eq_false e,Bool.false_or]
theorem has_mono{L:List K}{s t:Int}(h:∀i,i<L.length→bit s i=true→bit t i=true)(k:Int)(hs:hasHand L s k=true):hasHand L t k=true:=by
 obtain⟨i,hi,hb,he⟩:=(Lc.hasHand_iff L s k).1 hs;exact(Lc.hasHand_iff L t k).2 ⟨i,hi,h i hi hb,he⟩
theorem if_mono{a b:Bool}(h:a=true→b=true):(if a=true then (1:Int) else 0)≤if b=true then 1 else 0:=by
 cases a
 ·rw [if_neg (by simp)];split <;> omega
 ·rw [if_pos rfl,if_pos (h rfl)];exact Int.le_refl 1
theorem hands_mono{L:List K}{s t:Int}(h:∀i,i<L.length→bit s i=true→bit t i=true):handsN L s≤handsN L t:=by
 have q:=fun k=>if_mono (has_mono h k)
 have h0:=q 0;have h1:=q 1;have h2:=q 2;have h3:=q 3;unfold Lc.handsN;omega
theorem hands_zero{L:List K}{s:Int}(h:∀i,i<L.length→bit s i=false):handsN L s=0:=by
 have q:∀k,hasHand L s k=false:=fun k=>by
  rw [Bool.eq_false_iff];intro hs;obtain⟨i,hi,hb,_⟩:=(Lc.hasHand_iff L s k).1 hs;rw [h i hi] at hb;exact Bool.noConfusion hb
 unfold Lc.handsN;rw [q 0,q 1,q 2,q 3];rfl
theorem hands_two{L:List K}{s:Int}(h:3≤handsN L s){x y:Int}(hx:x=0∨x=1∨x=2∨x=3)(hy:y=0∨y=1∨y=2∨y=3)(hne:x≠y):hasHand L s x=true∨hasHand L s y=true:=by
 unfold Lc.handsN at h;rcases hx with rfl | rfl | rfl | rfl <;> rcases hy with rfl | rfl | rfl | rfl <;> first | exact absurd rfl hne | skip
 all_goals
  cases q0:hasHand L s 0 <;> cases q1:hasHand L s 1 <;> cases q2:hasHand L s 2 <;> cases q3:hasHand L s 3 <;> simp [q0,q1,q2,q3] at h ⊢
theorem seal_sees{L:List K}(hl:laceB L=true){a b:Nat}(ha:a<L.length)(hs:sealN L a b=true):bit (bel L a) b=true:=by
 have h60:=((Lc.lace_iff L).1 hl).1;unfold sealN at hs;rw [decide_eq_true_eq] at hs;apply Classical.byContradiction;intro hn;have hz:handsN L (nodAt L a b)=0:=hands_zero fun i hi=>by
  rw [Bool.eq_false_iff,bit_nodAt h60 (by omega)];intro h;rw [Bool.and_eq_true,Bool.and_eq_true] at h;have h2:=((Nd.nod_iff h60 (by omega)).1 h.2.2).1;apply hn;exact(Sg.bel_reach hl a ha b).2 (Sg.Reach.trans ((Sg.bel_reach hl a ha i).1 h.1) ((Sg.bel_reach hl i hi b).1 h2))
 omega
theorem seal_le{L:List K}(hl:laceB L=true){a b:Nat}(ha:a<L.length)(hs:sealN L a b=true):b≤a:=by
 have:=seal_sees hl ha hs;exact Sg.reach_le hl ha ((Sg.bel_reach hl a ha b).1 this)
end Sl
namespace Ag
open Kn (K okK)
open Bit (bit withB memTo)
open Lc (at' laceB setB handsN hasHand roundS)
open Sg (isB bel)
open Db (dblN)
open Nd (nodN nodS)
open Sl (sealN sealS nodAt)
theorem sees_le{L:List K}(hl:laceB L=true){i j:Nat}(hi:i<L.length)(h:bit (bel L i) j=true):j≤i:=Sg.reach_le hl hi ((Sg.bel_reach hl i hi j).1 h)
theorem sees_trans{L:List K}(hl:laceB L=true){i j m:Nat}(hi:i<L.length)(h:bit (bel L i) j=true)(h2:bit (bel L j) m=true):bit (bel L i) m=true:=by
 have hj:=sees_le hl hi h;exact(Sg.bel_reach hl i hi m).2 (Sg.Reach.trans ((Sg.bel_reach hl i hi j).1 h) ((Sg.bel_reach hl j (by omega) m).1 h2))
theorem bit_round(L:List K)(s r:Int)(h60:L.length≤60)(i:Nat):bit (roundS L s r) i=(decide (i<L.length)&&(bit s i&&decide ((at' L i).round=r))):=Lc.bit_among _ L s L.length h60 i
structure Good(L:List K)(bad:Int):Prop where
 lace:laceB L=true
 one:∀i j,i<L.length→j<L.length→(at' L i).hand=(at' L j).hand→(at' L i).hand≠bad→bit (bel L i) j=true∨bit (bel L j) i=true
theorem Good.len{L:List K}{bad:Int}(h:Good L bad):L.length≤60:=((Lc.lace_iff L).1 h.lace).1
end Ag
namespace Rm
open Memb (Own)
def coinsTo(l:List Int)(n:Nat):Bool:=(List.range n).all fun i=>Kn.in3 (l.getD i 0)
def coinsB(l:List Int):Bool:=coinsTo l l.length&&decide (l.length≤6)
theorem coins_step(l:List Int)(n:Nat):coinsTo l (n+1)=(coinsTo l n&&Kn.in3 (l.getD n 0)):=by
 unfold coinsTo;rw [List.range_succ];simp
theorem coins_no(l:List Int)(n:Nat)(h:n<l.length)(hq:Kn.in3 (l.getD n 0)=false):coinsB l=false:=by
 unfold coinsB coinsTo;have:((List.range l.length).all fun i=>Kn.in3 (l.getD i 0))=false:=by
  rw [List.all_eq_false];exact⟨n,by simpa using h,by rw [hq];decide⟩
 rw [this];rfl
theorem specCoinsOk(ao:Option Addr)(cap:Nat)(l:List Int)(w:World)(hl:l.length≤1048576)(hrd:Lst.Rd w ao l):Calls Tryz.prog 58 #[.slice ao l.length cap] w fun e w'=>e=.returned (.bool (coinsB l))∧w=w':=by
 go_enter Tryz.func58,Tryz.ntmps58
 go_wp2;go_loop [3] (fun i=>∃j:Nat,j≤l.length∧i=.int .i64 j∧Hid (coinsTo l j=true)) (fun i=>l.length-(intOf i).toNat)
 case atStart=>exact⟨0,by omega,rfl,rfl⟩
 case round=>
  obtain⟨j,hj,rfl,HC⟩:=hrel;by_cases hlt:j<l.length
  ·rcases hrd with hrd | ⟨b,rfl,hcell⟩
   ·rw [hrd] at hlt;simp at hlt
   have cj:=hcell j hlt;have HS:Hid (coinsTo l (j+1)=(coinsTo l j&&Kn.in3 (l.getD j 0))):=coins_step l j;have HN:Hid (Kn.in3 (l.getD j 0)=false→coinsB l=false):=coins_no l j hlt;clear hcell;generalize l.getD j 0=y at cj HS HN
   cases hq:Kn.in3 y
   ·have HT:Hid (coinsB l=false):=HN.out hq;have HQ:Hid (Kn.in3 y=false):=hq;clear hq HS HN;go_wp2_with (go_at_call 44;refine(Kn.l1In3 _ _).mono ?_;rintro e w' ⟨rfl,rfl⟩;rw [HQ.out])
    go_ret;exact⟨by rw [HT.out];rfl,rfl⟩
   ·have HT:Hid (coinsTo l (j+1)=true):=by show _=_;rw [HS.out,HC.out,hq];rfl
    have HQ:Hid (Kn.in3 y=true):=hq;clear hq HS HN HC;go_wp2_with (go_at_call 44;refine(Kn.l1In3 _ _).mono ?_;rintro e w' ⟨rfl,rfl⟩;rw [HQ.out])
    go_round
    case rel=>exact⟨j+1,by omega,by go_num,HT⟩
    case measure=>simp [intOf];omega
  ·obtain rfl:j=l.length:=by omega
   by_cases h6:l.length≤6
   ·have HT:Hid (coinsB l=true):=by show _=_;unfold coinsB;rw [HC.out,decide_eq_true h6];rfl
    have h6':(l.length:Int)≤6:=by omega
    go_wp2;go_ret;exact⟨by rw [HT.out];rfl,rfl⟩
   ·have HT:Hid (coinsB l=false):=by show _=_;unfold coinsB;rw [decide_eq_false h6];simp
    have h6':¬ (l.length:Int)≤6:=by omega
    go_wp2;go_ret;exact⟨by rw [HT.out];rfl,rfl⟩
theorem rd_nums{w:World}{ao:Option Addr}{l:List Int}{g:Nat}(h:Lst.Rd w ao l)(ha:ao=some ⟨g,0,none⟩):∀(j:Nat) u,(l.map (Value.int .i64))[j]? = some u→w.cell? ((⟨g,0,none⟩:Addr).add j)=some u:=by
 intro j u hj;rcases h with h | ⟨b,hb,hc⟩
 ·rw [h] at hj;simp at hj
 ·rw [ha] at hb;injection hb with hb;injection hb with hb;subst hb;have hlt:j<l.length:=by
   have:=(List.getElem?_eq_some_iff.1 hj).1;simpa using this
  have hu:u=.int .i64 (l.getD j 0):=by
   simp [hlt] at hj;rw [← hj];simp [List.getD,hlt]
  rw [hu,WideShapes.add_plain,Nat.zero_add];exact hc j hlt
theorem nums_one(l:List Int):∀u∈l.map (Value.int .i64),u.oneCell'=true:=by
 intro u hu;rw [List.mem_map] at hu;obtain⟨z,_,rfl⟩:=hu;rfl
theorem l1Copy(g cap:Nat)(l:List Int)(w:World)(hl:l.length≤1048576)(hlt:g<w.heap.size)(hrd:Lst.Rd w (some ⟨g,0,none⟩) l):Calls Tryz.prog 60 #[.slice (some ⟨g,0,none⟩) l.length cap] w (Sg.NumsPost l w):=by
 obtain⟨i0,hi,hz0,hz1,hz2⟩:=info_parts Memb.info2;have hrd0:Lst.Rd (w.alloc (.cells #[] 2)) (some ⟨g,0,none⟩) l:=by
  rcases hrd with h | ⟨b,hb,hc⟩
  ·exact .inl h
  ·injection hb with hb;injection hb with hb;subst hb;exact .inr ⟨g,rfl,fun j hj=>(World.cell?_alloc_lt w _ ⟨g,j,none⟩ hlt).trans (hc j hj)⟩
 go_enter Tryz.func60,Tryz.ntmps60
 go_wp2_with (at_builtin;refine wpList_append_own _ rfl _ _ 25 rfl w.heap.size 2 i0 (.int .i64 0) 1 8 Tryz.underlying25 hi hz0 hz1 hz2 rfl (by decide) _ 0 [] rfl (Memb.own_empty w) ⟨g,0,none⟩ l.length cap (l.map (Value.int .i64)) rfl (by simp) (rd_nums hrd0 rfl) (nums_one l) ?c3 ?c4 ?c5 ?_)
 case c3=>unfold maxLen;omega
 case c4=>omega
 case c5=>simp
 intro v' w5 hown' hgrow _;have HR:Hid (w5.ownsRow w.heap.size 2 1 v' l.length (l.map (Value.int .i64))∧Below w.heap.size w w5):=
  ⟨by simpa using hown',((Below.refl w.heap.size w).alloc (Nat.le_refl _) _).grown hgrow (by simp) (fun i hi=>by simp [Value.ownBlock] at hi;omega)⟩
 clear hown' hgrow hi hz0 hz1 hz2;obtain⟨ao,ca,hv,ho⟩:=Memb.own_shape HR.out.1;subst hv;go_wp2;go_ret;exact⟨ao,ca,rfl,ho,HR.out.2⟩
end Rm
namespace Ch
open Kn (K okK)
open Lc (at' laceB)
open Sg (isB)
open Rm (coinsB)
def leadI(C:List Int)(wave:Int):Int:=if wave<(C.length:Int) then C.getD wave.toNat 0 else wave % 4
def leadK(C:List Int)(k:K):Bool:=decide (k.round % 3=0)&&decide (k.hand=leadI C (k.round / 3))
def leadsB(L:List K)(C:List Int)(k:Int):Bool:=isB L k&&(coinsB C&&leadK C (at' L k.toNat))
theorem lead_iff(C:List Int)(k:K):leadK C k=true↔k.round % 3=0∧k.hand=leadI C (k.round / 3):=by
 unfold leadK;rw [Bool.and_eq_true,decide_eq_true_eq,decide_eq_true_eq]
end Ch
namespace Ch
open Kn (K okK)
open Bit (bit withB memTo)
open Lc (at' laceB setB handsN hasHand roundS)
open Sg (isB bel)
open Nd (nodN nodS)
open Sl (sealN sealS nodAt)
def sealAt(L:List K)(s:Int)(k:Nat):Int:=bits .and .i64 s (sealS L k L.length)
def firmN(L:List K)(C:List Int)(s:Int)(k:Nat):Bool:=bit s k&&(leadK C (at' L k)&&decide (3≤handsN L (roundS L (sealAt L s k) ((at' L k).round+2))))
def earN(L:List K)(C:List Int)(k x:Nat):Bool:=bit (bel L k) x&&(leadK C (at' L x)&&sealN L k x)
def earI(L:List K)(C:List Int)(k:Nat):Nat→Int
 | 0=>-1
 | n+1=>if earN L C k n&&(decide (earI L C k n<0) || decide ((at' L (earI L C k n).toNat).round<(at' L n).round)) then (n:Int) else earI L C k n
theorem ear_spec(L:List K)(C:List Int)(k n:Nat) :
  (earI L C k n=-1∧∀x,x<n→earN L C k x=false)∨(∃e:Nat,earI L C k n=(e:Int)∧e<n∧earN L C k e=true∧∀x,x<n→earN L C k x=true→(at' L x).round≤(at' L e).round∧((at' L x).round=(at' L e).round→e≤x)):=by
 induction n with
 | zero=>exact .inl ⟨rfl,fun x hx=>by omega⟩
 | succ n ih=>
  unfold earI;rcases ih with⟨h1,h2⟩ | ⟨e,h1,h2,h3,h4⟩
  ·cases hn:earN L C k n
   ·left
    rw [Bool.false_and,if_neg (by simp)];refine⟨h1,fun x hx=>?_⟩;by_cases e:x=n
    ·subst e;exact hn
    ·exact h2 x (by omega)
   ·right
    rw [h1,Bool.true_and,if_pos (by simp)];refine⟨n,rfl,by omega,hn,fun x hx hxe=>?_⟩;by_cases e:x=n
    ·subst e;exact⟨Int.le_refl _,fun _=>Nat.le_refl _⟩
    ·rw [h2 x (by omega)] at hxe;exact Bool.noConfusion hxe
  ·right
   rw [h1,Int.toNat_natCast]
   cases hn:earN L C k n
   ·rw [Bool.false_and,if_neg (by simp)];refine⟨e,rfl,by omega,h3,fun x hx hxe=>?_⟩;by_cases q:x=n
    ·subst q;rw [hn] at hxe;exact Bool.noConfusion hxe
    ·exact h4 x (by omega) hxe
   ·by_cases hr:(at' L e).round<(at' L n).round
    ·rw [Bool.true_and,if_pos (by simp [hr])];refine⟨n,rfl,by omega,hn,fun x hx hxe=>?_⟩;by_cases q:x=n
     ·subst q;exact⟨Int.le_refl _,fun _=>Nat.le_refl _⟩
     ·have:=h4 x (by omega) hxe;exact⟨by omega,fun _=>by omega⟩
    ·rw [Bool.true_and,if_neg (by simp;omega)];refine⟨e,rfl,by omega,h3,fun x hx hxe=>?_⟩;by_cases q:x=n
     ·subst q;exact⟨by omega,fun _=>by omega⟩
     ·exact h4 x (by omega) hxe
def earlierN(L:List K)(C:List Int)(k:Nat):Int:=earI L C k k
theorem earlier_lt(L:List K)(C:List Int)(k:Nat):earlierN L C k<(k:Int):=by
 unfold earlierN;rcases ear_spec L C k k with⟨h,_⟩ | ⟨e,h,he,_⟩ <;> omega
def chF(L:List K)(C:List Int):Nat→Int→List Int
 | 0,_=>[]
 | f+1,k=>if k<0 then [] else chF L C f (earlierN L C k.toNat)++[k]
theorem chF_enough(L:List K)(C:List Int):∀(f g:Nat) (k:Int),k<(f:Int)→k<(g:Int)→chF L C f k=chF L C g k:=by
 intro f;induction f with
 | zero=>
  intro g k h1 h2
  cases g with
  | zero=>rfl
  | succ g=>unfold chF;rw [if_pos (by omega)]
 | succ f ih=>
  intro g k h1 h2
  cases g with
  | zero=>unfold chF;rw [if_pos (by omega)]
  | succ g=>
   unfold chF;by_cases hk:k<0
   ·rw [if_pos hk,if_pos hk]
   ·rw [if_neg hk,if_neg hk];have:=earlier_lt L C k.toNat;rw [ih g _ (by omega) (by omega)]
def chainL(L:List K)(C:List Int)(k:Int):List Int:=chF L C (k.toNat+1) k
theorem chain_neg(L:List K)(C:List Int){k:Int}(h:k<0):chainL L C k=[]:=by
 unfold chainL chF;rw [if_pos h]
theorem chain_step(L:List K)(C:List Int)(k:Nat):chainL L C (k:Int)=chainL L C (earlierN L C k)++[(k:Int)]:=by
 have hlt:=earlier_lt L C k;have:chainL L C (k:Int)=chF L C k (earlierN L C k)++[(k:Int)]:=by
  unfold chainL;rw [Int.toNat_natCast];show(if (k:Int)<0 then [] else chF L C k (earlierN L C (k:Int).toNat)++[(k:Int)])=_;rw [if_neg (by omega),Int.toNat_natCast]
 rw [this];congr 1
 unfold chainL;exact chF_enough L C _ _ _ (by omega) (by omega)
theorem chF_len(L:List K)(C:List Int):∀(f:Nat) (k:Int),(chF L C f k).length≤f:=by
 intro f;induction f with
 | zero=>intro k;exact Nat.le_refl 0
 | succ f ih=>
  intro k;unfold chF;split
  ·simp
  ·have:=ih (earlierN L C k.toNat);simp;omega
theorem chain_len(L:List K)(C:List Int)(k:Int):(chainL L C k).length≤k.toNat+1:=chF_len L C _ _
end Ch
namespace Tl
open Kn (K okK)
open Bit (bit withB memTo)
open Lc (at' laceB setB handsN hasHand roundS)
open Sg (isB bel)
open Db (dblN)
open Nd (nodN nodS)
open Sl (sealN sealS nodAt)
open Ch (leadK firmN earlierN chainL)
def gtB(L:List K)(y x:Int):Bool:=decide ((at' L x.toNat).round<(at' L y.toNat).round) || (decide ((at' L y.toNat).round=(at' L x.toNat).round)&&decide ((at' L x.toNat).hand<(at' L y.toNat).hand))
def insR(L:List K)(x:Int):List Int→List Int
 | []=>[x]
 | y :: r=>if gtB L y x then y :: insR L x r else x :: y :: r
def insB(L:List K)(out:List Int)(x:Int):List Int:=(insR L x out.reverse).reverse
def ordL(L:List K)(m:List Int):List Int:=m.foldl (insB L) []
theorem insR_perm(L:List K)(x:Int)(l:List Int):(insR L x l).Perm (x :: l):=by
 induction l with
 | nil=>exact List.Perm.refl _
 | cons y r ih=>
  unfold insR;split
  ·exact(List.Perm.cons y ih).trans (List.Perm.swap x y r)
  ·exact List.Perm.refl _
theorem insB_perm(L:List K)(out:List Int)(x:Int):(insB L out x).Perm (x :: out):=by
 unfold insB;exact(List.reverse_perm _).trans ((insR_perm L x out.reverse).trans (List.Perm.cons x (List.reverse_perm out)))
theorem ord_fold_perm(L:List K):∀(m out:List Int),(m.foldl (insB L) out).Perm (out++m):=by
 intro m;induction m with
 | nil=>intro out;simp
 | cons x m ih=>
  intro out;rw [List.foldl_cons];refine(ih (insB L out x)).trans ?_;refine((insB_perm L out x).append_right m).trans ?_;show(x :: (out++m)).Perm (out++x :: m);exact List.perm_middle.symm
theorem ord_perm(L:List K)(m:List Int):(ordL L m).Perm m:=by
 have:=ord_fold_perm L m [];simpa [ordL] using this
theorem mem_ord(L:List K)(m:List Int)(x:Int):x∈ordL L m↔x∈m:=(ord_perm L m).mem_iff
theorem ord_nodup(L:List K){m:List Int}(h:m.Nodup):(ordL L m).Nodup:=(ord_perm L m).nodup_iff.2 h
theorem insR_mem(L:List K)(x:Int)(l:List Int)(z:Int):z∈insR L x l↔z=x∨z∈l:=by
 rw [(insR_perm L x l).mem_iff,List.mem_cons]
def fresN(L:List K)(k:Nat)(e:Int)(b:Nat):Bool:=bit (bel L k) b&&(!(decide (0≤e)&&bit (bel L e.toNat) b)&&nodN L k b)
def frS(L:List K)(k:Nat)(e:Int):Nat→Int
 | 0=>0
 | n+1=>if fresN L k e n then withB (frS L k e n) n else frS L k e n
theorem frS_bd(L:List K)(k:Nat)(e:Int)(n:Nat)(hn:n≤60):0≤frS L k e n∧frS L k e n<1152921504606846976:=by
 induction n with
 | zero=>exact⟨Int.le_refl 0,show(0:Int)<1152921504606846976 by decide⟩
 | succ n ih=>
  have h:=ih (by omega);unfold frS;split
  ·exact Bit.withB_bd _ h.1 h.2 n (by omega)
  ·exact h
theorem bit_frS(L:List K)(k:Nat)(e:Int)(n:Nat)(hn:n≤60)(j:Nat):bit (frS L k e n) j=(decide (j<n)&&fresN L k e j):=by
 induction n with
 | zero=>show bit 0 j=_;rw [Lc.bit_zero];simp
 | succ n ih=>
  have h:=frS_bd L k e n (by omega);unfold frS
  cases hd:fresN L k e n
  ·rw [if_neg (by simp),ih (by omega)];by_cases q:j=n
   ·subst q;rw [hd];simp
   ·have:decide (j<n+1)=decide (j<n):=by simp;omega
    rw [this]
  ·rw [if_pos rfl,Bit.bit_withB _ h.1,ih (by omega)];by_cases q:j=n
   ·subst q;rw [hd];simp
   ·have:decide (j<n+1)=decide (j<n):=by simp;omega
    rw [this,decide_eq_false q,Bool.false_or]
def freshL(L:List K)(k e:Int):List Int:=ordL L (memTo (frS L k.toNat e L.length) 60)
theorem mem_fresh{L:List K}(h60:L.length≤60)(k e x:Int):x∈freshL L k e↔∃j:Nat,x=(j:Int)∧j<L.length∧fresN L k.toNat e j=true:=by
 unfold freshL;rw [mem_ord,Bit.mem_memTo];constructor
 ·rintro⟨j,_,rfl,hb⟩;rw [bit_frS L _ _ _ h60,Bool.and_eq_true,decide_eq_true_eq] at hb;exact⟨j,rfl,hb.1,hb.2⟩
 ·rintro⟨j,rfl,hj,hf⟩;exact⟨j,by omega,rfl,by rw [bit_frS L _ _ _ h60,decide_eq_true hj,hf];rfl⟩
def taleF(L:List K)(e:Int):List Int→List Int
 | []=>[]
 | c :: r=>freshL L c e++taleF L c r
def taleL(L:List K)(C:List Int)(k:Int):List Int:=taleF L (-1) (chainL L C k)
def firmL(L:List K)(C:List Int)(s:Int):Nat→List Int
 | 0=>[]
 | n+1=>if firmN L C s n then firmL L C s n++[(n:Int)] else firmL L C s n
theorem mem_firm(L:List K)(C:List Int)(s:Int)(n:Nat)(x:Int):x∈firmL L C s n↔∃k:Nat,x=(k:Int)∧k<n∧firmN L C s k=true:=by
 induction n with
 | zero => unfold firmL; constructor; · intro h;simp at h
           · rintro⟨k,_,hk,_⟩;omega
 | succ n ih=>
   unfold firmL
   cases hf:firmN L C s n
   · rw [if_neg (by simp),ih];constructor
     · rintro⟨k,h1,h2,h3⟩;exact⟨k,h1,by omega,h3⟩
     · rintro⟨k,h1,h2,h3⟩;have:k≠n:=by intro e;subst e;rw [hf] at h3;exact Bool.noConfusion h3
       exact⟨k,h1,by omega,h3⟩
   · rw [if_pos rfl,List.mem_append,ih];constructor
     · rintro(⟨k,h1,h2,h3⟩ | h)
       · exact⟨k,h1,by omega,h3⟩
       · exact⟨n,by simpa using h,by omega,hf⟩
     · rintro⟨k,h1,h2,h3⟩;by_cases e:k=n
       · subst e;exact .inr (by simp [h1])
       · exact .inl ⟨k,h1,by omega,h3⟩
def lastT(L:List K)(l:List Int):Int:=l.foldl (fun out x=>if out<0∨(at' L out.toNat).round<(at' L x.toNat).round then x else out) (-1)
theorem lastT_snoc(L:List K)(l:List Int)(x:Int):lastT L (l++[x])=if lastT L l<0∨(at' L (lastT L l).toNat).round<(at' L x.toNat).round then x else lastT L l:=by
 unfold lastT;rw [List.foldl_append];rfl
theorem last_spec(L:List K)(C:List Int)(s:Int)(n:Nat) :
  (lastT L (firmL L C s n)=-1∧∀k,k<n→firmN L C s k=false)∨(∃f:Nat,lastT L (firmL L C s n)=(f:Int)∧f<n∧firmN L C s f=true∧∀k,k<n→firmN L C s k=true→(at' L k).round≤(at' L f).round∧((at' L k).round=(at' L f).round→f≤k)):=by
 induction n with
 | zero=>exact .inl ⟨rfl,fun k hk=>by omega⟩
 | succ n ih=>
  unfold firmL
  cases hf:firmN L C s n
  ·rw [if_neg (by simp)];rcases ih with⟨h1,h2⟩ | ⟨f,h1,h2,h3,h4⟩
   ·refine .inl ⟨h1,fun k hk=>?_⟩;by_cases e:k=n
    ·subst e;exact hf
    ·exact h2 k (by omega)
   ·refine .inr ⟨f,h1,by omega,h3,fun k hk hkf=>?_⟩;by_cases e:k=n
    ·subst e;rw [hf] at hkf;exact Bool.noConfusion hkf
    ·exact h4 k (by omega) hkf
  ·rw [if_pos rfl,lastT_snoc];rcases ih with⟨h1,h2⟩ | ⟨f,h1,h2,h3,h4⟩
   ·rw [h1,if_pos (.inl (by omega))];refine .inr ⟨n,rfl,by omega,hf,fun k hk hkf=>?_⟩;by_cases e:k=n
    ·subst e;exact⟨Int.le_refl _,fun _=>Nat.le_refl _⟩
    ·rw [h2 k (by omega)] at hkf;exact Bool.noConfusion hkf
   ·rw [h1,Int.toNat_natCast,Int.toNat_natCast];by_cases hr:(at' L f).round<(at' L n).round
    ·rw [if_pos (.inr hr)];refine .inr ⟨n,rfl,by omega,hf,fun k hk hkf=>?_⟩;by_cases e:k=n
     ·subst e;exact⟨Int.le_refl _,fun _=>Nat.le_refl _⟩
     ·have:=h4 k (by omega) hkf;exact⟨by omega,fun _=>by omega⟩
    ·rw [if_neg (by omega)];refine .inr ⟨f,rfl,by omega,h3,fun k hk hkf=>?_⟩;by_cases e:k=n
     ·subst e;exact⟨by omega,fun _=>by omega⟩
     ·exact h4 k (by omega) hkf
def outL(L:List K)(C:List Int)(s:Int):List Int:=if lastT L (firmL L C s L.length)<0 then [] else taleL L C (lastT L (firmL L C s L.length))
end Tl
namespace Ch
open Kn (K okK)
open Lc (at' RdK laceB WordsOk)
open Sg (isB)
open Rm (coinsB)
theorem l8Leader(ao:Option Addr)(cap:Nat)(C:List Int)(wave:Int)(w:World)(h0:0≤wave)(h1:wave≤1000)(hrd:Lst.Rd w ao C) :
  Calls Tryz.prog 136 #[.slice ao C.length cap,.int .i64 wave] w fun e w'=>e=.returned (.int .i64 (leadI C wave))∧w=w':=by
 obtain⟨p,rfl⟩:=Int.eq_ofNat_of_zero_le h0;by_cases hlt:p<C.length
 ·have hi:(p:Int)<(C.length:Int):=by omega
  have HT:Hid (leadI C (p:Int)=C.getD p 0):=by show _=_;unfold leadI;rw [if_pos hi,Int.toNat_natCast]
  rcases hrd with hrd | ⟨b,rfl,hcell⟩
  ·rw [hrd] at hlt;simp at hlt
  have cj:=hcell p hlt;clear hcell;generalize C.getD p 0=y at cj HT;go_enter Tryz.func136,Tryz.ntmps136
  go_wp2;go_ret;exact⟨by rw [HT.out];rfl,rfl⟩
 ·have hi:¬ (p:Int)<(C.length:Int):=by omega
  have HT:Hid (leadI C (p:Int)=(p:Int) % 4):=by show _=_;unfold leadI;rw [if_neg hi]
  clear hrd;go_enter Tryz.func136,Tryz.ntmps136
  go_wp2;go_ret;exact⟨by rw [HT.out];rfl,rfl⟩
theorem rd_below{w w':World}{ao:Option Addr}{l:List Int}(h:Lst.Rd w ao l)(hao:∀c,ao=some ⟨c,0,none⟩→c<w.heap.size)(hb:Below w.heap.size w w'):Lst.Rd w' ao l:=by
 rcases h with h | ⟨g,rfl,hc⟩
 ·exact .inl h
 ·exact .inr ⟨g,rfl,fun j hj=>(hb.cell (p:=⟨g,j,none⟩) (hao g rfl)).trans (hc j hj)⟩
theorem l8Leads(ao:Option Addr)(cap:Nat)(C:List Int)(k:K)(w:World)(h0:0≤k.round)(h1:k.round≤1000)(hrd:Lst.Rd w ao C)(hao:∀c,ao=some ⟨c,0,none⟩→c<w.heap.size) :
  Calls Tryz.prog 105 #[.slice ao C.length cap,.agg #[.int .i64 k.hand,.int .i64 k.round,.int .i64 k.frm,.string k.word]] w fun e w'=>e=.returned (.bool (leadK C k))∧Below w.heap.size w w':=by
 have P0:Hid (Below w.heap.size w (w.alloc (.cells #[.int .i64 k.hand,.int .i64 k.round,.int .i64 k.frm,.string k.word] 38))∧Lc.CellsK (w.alloc (.cells #[.int .i64 k.hand,.int .i64 k.round,.int .i64 k.frm,.string k.word] 38)) w.heap.size 0 k∧w.heap.size<(w.alloc (.cells #[.int .i64 k.hand,.int .i64 k.round,.int .i64 k.frm,.string k.word] 38)).heap.size):=
  ⟨(Below.refl _ _).alloc (Nat.le_refl _) _,⟨by simp,by simp,by simp,by simp⟩,by simp⟩
 have HRD:Hid (∀W:World,Below w.heap.size w W→Lst.Rd W ao C):=fun W hW=>rd_below hrd hao hW
 clear hrd hao;by_cases hz:k.round % 3=0
 ·have HT:Hid (leadK C k=(k.hand == leadI C (k.round / 3))):=by show _=_;unfold leadK;rw [decide_eq_true hz,Bool.true_and];exact(Bool.eq_iff_iff.2 (by simp))
  have hz':(k.round % 3 == 0)=true:=by simpa using hz
  clear hz;go_enter Tryz.func105,Tryz.ntmps105
  go_wp2_with fail
  generalize w.alloc (.cells #[.int .i64 k.hand,.int .i64 k.round,.int .i64 k.frm,.string k.word] 38)=V at P0 ⊢;obtain⟨B0,⟨c0,c1,_,_⟩,hlt⟩:=P0.out;rw [Nat.zero_add] at c1;have HC:Hid (∀n:Nat,Calls Tryz.prog 136 #[.slice ao C.length cap,.int .i64 (k.round / 3)] (V.drewN n) fun e w'=>e=.returned (.int .i64 (leadI C (k.round / 3)))∧V.drewN n=w'):=fun n=>l8Leader ao cap C (k.round / 3) _ (by omega) (by omega) (HRD.out _ (Db.below_drewN B0 n))
  have HB0:Hid (Below w.heap.size w V):=B0;clear HRD P0 B0;generalize leadI C (k.round / 3)=y at HT HC;go_quiet (first | (go_at_call 136;exact(HC.out _).mono fun _ _ h=>⟨h.1,_,h.2.symm⟩))
  go_wp2;go_ret;exact⟨by rw [HT.out];rfl,Db.below_drewN HB0.out _⟩
 ·have HT:Hid (leadK C k=false):=by show _=_;unfold leadK;rw [decide_eq_false hz];rfl
  have hz':(k.round % 3 == 0)=false:=by simpa using hz
  clear hz HRD;go_enter Tryz.func105,Tryz.ntmps105
  go_wp2_with fail
  generalize w.alloc (.cells #[.int .i64 k.hand,.int .i64 k.round,.int .i64 k.frm,.string k.word] 38)=V at P0 ⊢;obtain⟨B0,⟨c0,c1,_,_⟩,hlt⟩:=P0.out;rw [Nat.zero_add] at c1;have HB0:Hid (Below w.heap.size w V):=B0;clear P0 B0;go_quiet (fail)
  go_wp2;go_ret;exact⟨by rw [HT.out];rfl,Db.below_drewN HB0.out _⟩
end Ch
end Go.Proofs.YtbkeldfbllhlbaaGreat
