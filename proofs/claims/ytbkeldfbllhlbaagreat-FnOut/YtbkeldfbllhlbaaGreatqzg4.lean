/-
 What the model's FirmOnes answers: those of a closed set that are firm; for coins of at most a million numbers and lists of knots whose words have at most 2^40 bytes.
-/
import Derived.Test.YtbkeldfbllhlbaaGreatqzg3
set_option linter.unusedVariables false
set_option maxRecDepth 100000
set_option maxHeartbeats 6400000
namespace Go.Proofs.YtbkeldfbllhlbaaGreat
open Go.RowKit
namespace Nd
open Kn (K okK)
open Bit (bit withB)
open Lc (at' RdK WordsOk laceB setB)
open Sg (isB bel belows)
open Db (RowI Dbl dblS)
def nodT(l:List Int)(D:Nat→Int)(b a:Nat):Bool:=bit (l.getD a 0) b&&(bits .and .i64 (l.getD a 0) (D b) == 0)
def nodR(l:List Int)(D:Nat→Int)(b:Nat):Nat→Int
 | 0=>0
 | n+1=>if decide (b≤n)&&nodT l D b n then withB (nodR l D b n) n else nodR l D b n
def tabN(l:List Int)(D:Nat→Int)(N b a i:Nat):Int:=if i<b then nodR l D i N else if i=b then nodR l D i a else 0
theorem nodR_low(l:List Int)(D:Nat→Int)(b n:Nat)(h:n≤b):nodR l D b n=0:=by
 induction n with
 | zero=>rfl
 | succ n ih=>
  unfold nodR;rw [decide_eq_false (by omega),Bool.false_and,if_neg (by simp)];exact ih (by omega)
theorem nodR_bd(l:List Int)(D:Nat→Int)(b n:Nat)(hn:n≤60):0≤nodR l D b n∧nodR l D b n<1152921504606846976:=by
 induction n with
 | zero=>exact⟨Int.le_refl 0,show(0:Int)<1152921504606846976 by decide⟩
 | succ n ih=>
  have h:=ih (by omega);unfold nodR;split
  ·exact Bit.withB_bd _ h.1 h.2 n (by omega)
  ·exact h
theorem tab_zero(l:List Int)(D:Nat→Int)(N:Nat):tabN l D N 0 0=fun _=>0:=by
 funext i
 unfold tabN;rw [if_neg (by omega)];split
 ·rfl
 ·rfl
theorem tab_next(l:List Int)(D:Nat→Int)(N b:Nat):tabN l D N b N=tabN l D N (b+1) (b+1):=by
 funext i
 unfold tabN;by_cases h1:i<b
 ·rw [if_pos h1,if_pos (by omega)]
 ·by_cases h2:i=b
  ·rw [if_neg h1,if_pos h2,if_pos (by omega)]
  ·rw [if_neg h1,if_neg h2,if_neg (by omega)];by_cases h3:i=b+1
   ·rw [if_pos h3,nodR_low _ _ _ _ (by omega)]
   ·rw [if_neg h3]
theorem tab_skip(l:List Int)(D:Nat→Int)(N b a:Nat)(hp:nodT l D b a=false):tabN l D N b (a+1)=tabN l D N b a:=by
 funext i
 unfold tabN;by_cases h2:i=b
 ·subst h2;rw [if_neg (by omega),if_pos rfl,if_neg (by omega),if_pos rfl];show nodR l D i (a+1)=_;conv=>lhs;unfold nodR
  rw [hp,Bool.and_false,if_neg (by simp)]
 ·rw [if_neg h2,if_neg h2]
theorem tab_put(l:List Int)(D:Nat→Int)(N b a:Nat)(hba:b≤a)(hp:nodT l D b a=true):(fun i=>if i=b then withB (nodR l D b a) a else tabN l D N b a i)=tabN l D N b (a+1):=by
 funext i
 unfold tabN;by_cases h2:i=b
 ·subst h2;rw [if_pos rfl,if_neg (by omega),if_pos rfl];show _=nodR l D i (a+1);conv=>rhs;unfold nodR
  rw [hp,decide_eq_true hba,Bool.true_and,if_pos rfl]
 ·rw [if_neg h2,if_neg h2,if_neg h2]
theorem tab_at(l:List Int)(D:Nat→Int)(N b a:Nat):tabN l D N b a b=nodR l D b a:=by
 unfold tabN;rw [if_neg (by omega),if_pos rfl]
def NodPost(L:List K)(l:List Int)(w:World)(e:Ending)(w':World):Prop:=∃h D O,e=.returned (.slice (some ⟨h,0,none⟩) L.length L.length)∧w.heap.size≤h∧RowI w' h L.length O∧Dbl L l L.length 0 D∧(∀i,i<L.length→O i=nodR l D i L.length)∧Below w.heap.size w w'
theorem l6All(ao:Option Addr)(cap:Nat)(L:List K)(bo:Option Addr)(bc:Nat)(l:List Int)(w:World)(hL:L.length≤60)(hll:l.length=L.length)(hin:Sg.Within l)(hr:RdK w ao L)(hrd:Lst.Rd w bo l)(hbo:∀g,bo=some ⟨g,0,none⟩→g<w.heap.size) :
  Calls Tryz.prog 50 #[.slice ao L.length cap,.slice bo l.length bc] w (NodPost L l w):=by
 have hmk:∀W:World,(Instr.makeSlice 25 (.int .i64 (L.length:Int)) (.int .i64 (L.length:Int))).run Tryz.prog W=.ok (.slice (some ⟨W.heap.size,0,none⟩) L.length L.length) (W.alloc (.cells (madeCells #[.int .i64 0] L.length) 2)):=
  fun W=>run_make_row' (P:=Tryz.prog) 25 2 (.int .i64 0) 8 Tryz.underlying25 Memb.info2 rfl .i64 .i64 L.length (by omega) (by omega) W
 have H5:Hid (Calls Tryz.prog 83 #[.slice ao L.length cap,.slice bo l.length bc] w (Db.DblPost L l w)):=Db.l5All ao cap L bo bc l w hL hll hin hr hrd hbo;have HLL:Hid (l.length=L.length):=hll;have hl60:l.length≤60:=by omega
 clear hll hr;go_enter Tryz.func50,Tryz.ntmps50
 go_wp2_with fail
 refine H5.out.mono ?_;rintro e w1 ⟨D,rfl,hrow,hDb,hb1⟩;clear H5;have HP:Hid (RowI (w1.alloc (.cells (madeCells #[.int .i64 0] L.length) 2)) w1.heap.size L.length (fun _=>0)∧Below w1.heap.size w1 (w1.alloc (.cells (madeCells #[.int .i64 0] L.length) 2))):=⟨Db.rowI_made _ _ _,(Below.refl _ _).alloc (Nat.le_refl _) _⟩
 generalize madeCells #[Value.int .i64 0] L.length=mc at hmk HP;have HROW:Hid (RowI w1 w.heap.size L.length D):=hrow;have HDB:Hid (Dbl L l L.length 0 D):=hDb;have HB1:Hid (Below w.heap.size w w1):=hb1;have hw1:w.heap.size<w1.heap.size:=hrow.lt;clear hrow hDb hb1;go_wp2;clear hmk;go_loopw [7] (fun i wr=>∃b:Nat,b≤L.length∧i=.int .i64 b∧Hid (RowI wr w1.heap.size L.length (tabN l D L.length b b))∧Hid (Below w1.heap.size w1 wr)) (fun i _=>L.length-(intOf i).toNat)
 case atStart=>exact⟨0,by omega,rfl,by show RowI _ _ _ _;rw [tab_zero];exact HP.out.1,HP.out.2⟩
 case round=>
  obtain⟨b,hb,rfl,HR,HB⟩:=hrel;clear HP;by_cases hlt:b<L.length
  ·have hbi:(b:Int)<(L.length:Int):=by omega
   go_wp2;go_loopw [8] (fun i wr=>∃a:Nat,b≤a∧a≤L.length∧i=.int .i64 a∧Hid (RowI wr w1.heap.size L.length (tabN l D L.length b a))∧Hid (Below w1.heap.size w1 wr)) (fun i _=>L.length-(intOf i).toNat)
   case atStart=>exact⟨b,by omega,by omega,rfl,HR,HB⟩
   case round=>
    obtain⟨a,hba,ha,rfl,HR,HB⟩:=hrel;by_cases hal':a<L.length
    ·have hal:a<l.length:=by rw [HLL.out];exact hal'
     have hali:(a:Int)<(l.length:Int):=by omega
     have haLi:(a:Int)<(L.length:Int):=by omega
     have hya:=Sg.within_get hin a;rcases hrd with hrd | ⟨bb,rfl,hcell⟩
     ·rw [hrd] at hal;simp at hal
     have hbb:bb<w1.heap.size:=Nat.lt_trans (hbo bb rfl) hw1;have cy:=(HB.out.cell (p:=⟨bb,a,none⟩) hbb).trans ((HB1.out.cell (p:=⟨bb,a,none⟩) (hbo bb rfl)).trans (hcell a hal));have cd:=(HB.out.cell (p:=⟨w.heap.size,b,none⟩) hw1).trans (HROW.out.rd b hlt);have HPB:Hid (nodT l D b a=(bit (l.getD a 0) b&&(bits .and .i64 (l.getD a 0) (D b) == 0))):=rfl;clear hcell hbo;generalize l.getD a 0=y at cy hya HPB
     cases hbit:bit y b
     ·have hp:nodT l D b a=false:=by rw [HPB.out,hbit];rfl
      have hcall:=Db.has_call y b false hya.1 hya.2 (by omega) hbit;have HT2:Hid (tabN l D L.length b (a+1)=tabN l D L.length b a):=tab_skip l D L.length b a hp;clear hbit HPB hp;go_wp2_with fail
      go_quiet (first | (go_at_call 45;exact(hcall _).mono fun _ _ h=>⟨h.1,_,h.2⟩))
      go_wp2;go_roundw
      case rel=>exact⟨a+1,by omega,by omega,by go_num,by show RowI _ _ _ _;rw [HT2.out];exact HR.out.drewN nq,Db.below_drewN HB.out nq⟩
      case measure=>simp [intOf];omega
     ·have hcall:=Db.has_call y b true hya.1 hya.2 (by omega) hbit
      cases hz:(bits .and .i64 y (D b) == 0)
      ·have hp:nodT l D b a=false:=by rw [HPB.out,hbit,hz];rfl
       have HT2:Hid (tabN l D L.length b (a+1)=tabN l D L.length b a):=tab_skip l D L.length b a hp;clear hbit HPB hp;go_wp2_with fail
       go_quiet (first | (go_at_call 45;exact(hcall _).mono fun _ _ h=>⟨h.1,_,h.2⟩))
       go_wp2;go_roundw
       case rel=>exact⟨a+1,by omega,by omega,by go_num,by show RowI _ _ _ _;rw [HT2.out];exact HR.out.drewN nq,Db.below_drewN HB.out nq⟩
       case measure=>simp [intOf];omega
      ·have hp:nodT l D b a=true:=by rw [HPB.out,hbit,hz];rfl
       have HT2:Hid ((fun i=>if i=b then withB (nodR l D b a) a else tabN l D L.length b a i)=tabN l D L.length b (a+1)):=tab_put l D L.length b a hba hp;clear hbit HPB hp;go_wp2_with fail
       go_quiet (first | (go_at_call 45;exact(hcall _).mono fun _ _ h=>⟨h.1,_,h.2⟩))
       go_wp2_with fail
       have R1:=HR.out.drewN nq;have HB2:Hid (Below w1.heap.size w1 (wr.drewN nq)):=Db.below_drewN HB.out nq;clear cy cd HR HB hz hcall;generalize wr.drewN nq=V at R1 HB2 ⊢;have e1:=R1.rd b hlt;rw [tab_at] at e1;have f1:=R1.fr b hlt;have hda:=nodR_bd l D b a (by omega);have HO1:Hid (bits .or .i64 (nodR l D b a) (2 ^ a)=withB (nodR l D b a) a):=Base.shl_or _ a hda.1 hda.2 (by omega);have HR2:Hid (RowI (V.setCell ⟨w1.heap.size,b,none⟩ (.int .i64 (withB (nodR l D b a) a))) w1.heap.size L.length (tabN l D L.length b (a+1))):=by
        show RowI _ _ _ _;rw [← HT2.out];exact R1.put b hlt _
       have HB3:Hid (Below w1.heap.size w1 (V.setCell ⟨w1.heap.size,b,none⟩ (.int .i64 (withB (nodR l D b a) a)))):=HB2.out.setCell (p:=⟨w1.heap.size,b,none⟩) (Nat.le_refl _) _;clear R1 HB2 HT2;generalize nodR l D b a=x at e1 hda HO1 HR2 HB3;go_region_with (go_at_call 82;refine(Base.l1Bit _ _ (by omega) (by omega)).mono ?_;rintro e w' ⟨rfl,rfl⟩;rw [Int.toNat_natCast])
       all_goals
        rw [HO1.out];go_wp2;go_roundw
        case rel=>exact⟨a+1,by omega,by omega,by go_num,HR2.out.drew,HB3.out.drew⟩
        case measure=>simp [intOf];omega
    ·obtain rfl:a=L.length:=by omega
     go_wp2;go_roundw
     case rel=>exact⟨b+1,by omega,by go_num,by show RowI _ _ _ _;rw [← tab_next];exact HR.out,HB⟩
     case measure=>simp [intOf];omega
  ·obtain rfl:b=L.length:=by omega
   go_wp2;go_ret;exact⟨_,D,_,rfl,HB1.out.size,HR.out,HDB.out,fun i hi=>by unfold tabN;rw [if_pos hi],HB1.out.trans (HB.out.mono HB1.out.size)⟩
theorem nodR_eq{L:List K}(hl:laceB L=true){D:Nat→Int}(h:Dbl L (belows L L.length) L.length 0 D){b:Nat}(hb:b<L.length)(n:Nat)(hn:n≤L.length):nodR (belows L L.length) D b n=nodS L b n:=by
 induction n with
 | zero=>rfl
 | succ n ih=>
  have ih:=ih (by omega);unfold nodR nodS;have e:(decide (b≤n)&&nodT (belows L L.length) D b n)=nodN L n b:=by
   have e1:nodT (belows L L.length) D b n=nodN L n b:=by
    unfold nodT nodN;rw [Sg.belows_get L L.length n (by omega),Db.dbl_eq hl h hb]
   rw [e1];by_cases hbn:b≤n
   ·rw [decide_eq_true hbn,Bool.true_and]
   ·rw [decide_eq_false hbn,Bool.false_and];symm
    rw [Bool.eq_false_iff];intro hq;exact hbn (nod_le hl (by omega) hq)
  rw [e,ih]
theorem table6(g off cap:Nat)(L:List K)(w:World)(hl:laceB L=true)(hr:RdK w (some ⟨g,off,none⟩) L) :
  Calls Tryz.prog 48 #[.slice (some ⟨g,off,none⟩) L.length cap] w fun e w'=>∃bo bc,e=.returned (.slice bo L.length bc)∧Below w.heap.size w w' ∧
   Calls Tryz.prog 50 #[.slice (some ⟨g,off,none⟩) L.length cap,.slice bo L.length bc] w' fun e2 w2=>∃h O,e2=.returned (.slice (some ⟨h,0,none⟩) L.length L.length)∧RowI w2 h L.length O∧(∀i,i<L.length→O i=nodS L i L.length)∧Below w'.heap.size w' w2:=by
 have h60:=((Lc.lace_iff L).1 hl).1;refine(Sg.l4All (some ⟨g,off,none⟩) cap L w h60 (Sg.frm_lace hl) hr).mono ?_;rintro e w1 ⟨bo,bc,rfl,hown,hb1⟩;have hbl:=Sg.belows_len L L.length;refine⟨bo,bc,by rw [hbl],hb1,?_⟩;have h5:=l6All (some ⟨g,off,none⟩) cap L bo bc (belows L L.length) w1 h60 hbl (Sg.belows_in L L.length h60) (hr.below hb1) (Lst.own_rd hown) (fun g' e=>by subst e;exact(World.ownsRow.lt hown g' rfl).2);rw [hbl] at h5;refine h5.mono ?_;rintro e w2 ⟨h,D,O,rfl,_,hrow,hD,hO,hb2⟩;exact⟨h,O,rfl,hrow,fun i hi=>by rw [hO i hi,nodR_eq hl hD hi _ (Nat.le_refl _)],hb2⟩
theorem specNods(g off cap:Nat)(L:List K)(a b:Int)(w:World)(hcap:L.length≤cap)(hw:WordsOk L)(hr:RdK w (some ⟨g,off,none⟩) L) :
  Calls Tryz.prog 18 #[.slice (some ⟨g,off,none⟩) L.length cap,.int .i64 a,.int .i64 b] w fun e w'=>e=.returned (.bool (nodsB L a b))∧Below w.heap.size w w':=by
 go_enter Tryz.func18,Tryz.ntmps18
 go_wp2_with fail
 refine(Sg.l4Is g off cap L a _ hcap hw hr).mono ?_;rintro e w1 ⟨rfl,hb1⟩;have hr1:=hr.below hb1
 cases his:isB L a
 ·have HT:Hid (nodsB L a b=false):=by show _=_;unfold nodsB;rw [his];rfl
  clear his;go_wp2;go_ret;exact⟨by rw [HT.out];rfl,hb1⟩
 ·have HT1:Hid (nodsB L a b=(isB L b&&nodN L a.toNat b.toNat)):=by show _=_;unfold nodsB;rw [his];rfl
  obtain⟨h0,h1,hlc⟩:=Sg.isB_parts his;clear his;go_wp2_with fail
  refine(Sg.l4Is g off cap L b _ hcap hw hr1).mono ?_;rintro e w2 ⟨rfl,hb2⟩;have hr2:=hr1.below hb2;have hB2:=hb1.trans (hb2.mono hb1.size);clear hb1 hb2 hr1
  cases hib:isB L b
  ·have HT:Hid (nodsB L a b=false):=by show _=_;rw [HT1.out,hib];rfl
   clear hib HT1;go_wp2;go_ret;exact⟨by rw [HT.out];rfl,hB2⟩
  ·have HT:Hid (nodsB L a b=nodN L a.toNat b.toNat):=by show _=_;rw [HT1.out,hib];rfl
   obtain⟨q0,q1,_⟩:=Sg.isB_parts hib;have h60:=((Lc.lace_iff L).1 hlc).1;have HLC:Hid (laceB L=true):=hlc;clear hib hlc HT1;obtain⟨p,rfl⟩:=Int.eq_ofNat_of_zero_le h0;obtain⟨q,rfl⟩:=Int.eq_ofNat_of_zero_le q0;have hp:p<L.length:=by omega
   have hq:q<L.length:=by omega
   rw [Int.toNat_natCast,Int.toNat_natCast] at HT;go_wp2_with fail
   refine(table6 g off cap L _ HLC.out hr2).mono ?_;rintro e w3 ⟨bo,bc,rfl,hb3,h5⟩;have hB3:=hB2.trans (hb3.mono hB2.size);clear hB2 hb3 hr2 hr;go_wp2_with fail
   refine h5.mono ?_;rintro e w4 ⟨h,O,rfl,hrow,hO,hb4⟩;have hB4:=hB3.trans (hb4.mono hB3.size);have cp:=hrow.rd q hq;rw [hO q hq] at cp;have hbd:=nodS_bd L q L.length h60;have HC:=Db.has_call (nodS L q L.length) p (nodN L p q) hbd.1 hbd.2 (by omega) (by rw [bit_nodS L q _ h60 p];simp [hp]);clear hb4 hB3 hrow hO h5 hbd;go_wp2_with (go_at_call 45;refine(HC _).mono ?_;rintro e w' ⟨rfl,rfl⟩)
   go_ret;exact⟨by rw [HT.out];rfl,hB4⟩
end Nd
namespace Sl
open Kn (K okK)
open Bit (bit withB)
open Lc (at' RdK WordsOk laceB setB Four ofH handsN)
open Sg (isB bel belows)
open Db (RowI)
open Nd (nodS)
def tabS(L:List K)(N b a i:Nat):Int:=if i<b then sealS L i N else if i=b then sealS L i a else 0
theorem sealS_low{L:List K}(hl:laceB L=true)(b n:Nat)(hn:n≤L.length)(h:n≤b):sealS L b n=0:=by
 induction n with
 | zero=>rfl
 | succ n ih=>
  have hf:sealN L n b=false:=by
   rw [Bool.eq_false_iff];intro hs;have:=seal_le hl (by omega) hs;omega
  unfold sealS;rw [hf,if_neg (by simp)];exact ih (by omega) (by omega)
theorem tabS_zero(L:List K)(N:Nat):tabS L N 0 0=fun _=>0:=by
 funext i
 unfold tabS;rw [if_neg (by omega)];split
 ·rfl
 ·rfl
theorem tabS_next{L:List K}(hl:laceB L=true)(b:Nat)(hb:b<L.length)(i:Nat):tabS L L.length b L.length i=tabS L L.length (b+1) (b+1) i:=by
 unfold tabS;by_cases h1:i<b
 ·rw [if_pos h1,if_pos (by omega)]
 ·by_cases h2:i=b
  ·rw [if_neg h1,if_pos h2,if_pos (by omega)]
  ·rw [if_neg h1,if_neg h2,if_neg (by omega)];by_cases h3:i=b+1
   ·rw [if_pos h3,sealS_low hl _ _ (by omega) (by omega)]
   ·rw [if_neg h3]
theorem tabS_skip(L:List K)(N b a:Nat)(hp:sealN L a b=false):tabS L N b (a+1)=tabS L N b a:=by
 funext i
 unfold tabS;by_cases h2:i=b
 ·subst h2;rw [if_neg (by omega),if_pos rfl,if_neg (by omega),if_pos rfl];show sealS L i (a+1)=_;conv=>lhs;unfold sealS
  rw [hp,if_neg (by simp)]
 ·rw [if_neg h2,if_neg h2]
theorem tabS_put(L:List K)(N b a:Nat)(hp:sealN L a b=true):(fun i=>if i=b then withB (sealS L b a) a else tabS L N b a i)=tabS L N b (a+1):=by
 funext i
 unfold tabS;by_cases h2:i=b
 ·subst h2;rw [if_pos rfl,if_neg (by omega),if_pos rfl];show _=sealS L i (a+1);conv=>rhs;unfold sealS
  rw [hp,if_pos rfl]
 ·rw [if_neg h2,if_neg h2,if_neg h2]
theorem tabS_at(L:List K)(N b a:Nat):tabS L N b a b=sealS L b a:=by
 unfold tabS;rw [if_neg (by omega),if_pos rfl]
theorem rowI_eq{w:World}{g n:Nat}{D E:Nat→Int}(h:RowI w g n D)(e:∀i,i<n→D i=E i):RowI w g n E:=⟨h.lt,fun i hi=>by rw [← e i hi];exact h.rd i hi,h.fr⟩
theorem four_below{w w':World}{g:Nat}{x0 x1 x2 x3:Int}(h:Four w g x0 x1 x2 x3)(hb:Below w.heap.size w w'):Four w' g x0 x1 x2 x3 where
 lt:=Nat.lt_of_lt_of_le h.lt hb.size
 c0:=(hb.cell (p:=⟨g,0,none⟩) h.lt).trans h.c0
 c1:=(hb.cell (p:=⟨g,1,none⟩) h.lt).trans h.c1
 c2:=(hb.cell (p:=⟨g,2,none⟩) h.lt).trans h.c2
 c3:=(hb.cell (p:=⟨g,3,none⟩) h.lt).trans h.c3
 f:=fun j hj=>(hb.frozen (p:=⟨g,j,none⟩) h.lt).trans (h.f j hj)
def SealPost(L:List K)(w:World)(e:Ending)(w':World):Prop:=∃h O,e=.returned (.slice (some ⟨h,0,none⟩) L.length L.length)∧w.heap.size≤h∧RowI w' h L.length O∧(∀i,i<L.length→O i=sealS L i L.length)∧Below w.heap.size w w'
theorem l7AllO(ao:Option Addr)(cap:Nat)(L:List K)(bo:Option Addr)(bc:Nat)(w:World)(hl:laceB L=true)(hr:RdK w ao L)(hrd:Lst.Rd w bo (belows L L.length))(hbo:∀c,bo=some ⟨c,0,none⟩→c<w.heap.size) :
  Calls Tryz.prog 77 #[.slice ao L.length cap,.slice bo L.length bc] w (SealPost L w):=by
 have hL:=((Lc.lace_iff L).1 hl).1;have hbl:=Sg.belows_len L L.length;have H6:Hid (Calls Tryz.prog 50 #[.slice ao L.length cap,.slice bo L.length bc] w fun e2 w2=>∃h O,e2=.returned (.slice (some ⟨h,0,none⟩) L.length L.length)∧RowI w2 h L.length O∧(∀i,i<L.length→O i=nodS L i L.length)∧Below w.heap.size w w2):=by
  have h6:=Nd.l6All ao cap L bo bc (belows L L.length) w hL hbl (Sg.belows_in L L.length hL) hr hrd hbo;rw [hbl] at h6;refine h6.mono ?_;rintro e w2 ⟨h,D,O,rfl,_,hrow,hD,hO,hb2⟩;exact⟨h,O,rfl,hrow,fun i hi=>by rw [hO i hi,Nd.nodR_eq hl hD hi _ (Nat.le_refl _)],hb2⟩
 have hmk:∀W:World,(Instr.makeSlice 25 (.int .i64 (L.length:Int)) (.int .i64 (L.length:Int))).run Tryz.prog W=.ok (.slice (some ⟨W.heap.size,0,none⟩) L.length L.length) (W.alloc (.cells (madeCells #[.int .i64 0] L.length) 2)):=
  fun W=>run_make_row' (P:=Tryz.prog) 25 2 (.int .i64 0) 8 Tryz.underlying25 Memb.info2 rfl .i64 .i64 L.length (by omega) (by omega) W
 have HL:Hid (laceB L=true):=hl;have HBEL:Hid (∀a,a<L.length→∀bb,bo=some ⟨bb,0,none⟩→bb<w.heap.size∧w.cell? ⟨bb,a,none⟩=some (.int .i64 (bel L a))):=fun a ha bb hb=>by
  rcases hrd with hrd | ⟨b2,e2,hcell⟩
  ·rw [hrd] at hbl;simp at hbl;omega
  ·rw [hb] at e2;injection e2 with e2;injection e2 with e2;subst e2;refine⟨hbo bb hb,?_⟩;have:=hcell a (by rw [hbl];exact ha);rwa [Sg.belows_get L L.length a ha] at this
 have HBN:Hid (∀a,a<L.length→∃bb,bo=some ⟨bb,0,none⟩):=fun a ha=>by
  rcases hrd with hrd | ⟨b2,e2,hcell⟩
  ·rw [hrd] at hbl;simp at hbl;omega
  ·exact⟨b2,e2⟩
 have HHO:Hid (Lc.HandsOk L):=Lc.lace_hands hl;clear hl hrd hbo hbl;go_enter Tryz.func77,Tryz.ntmps77
 go_wp2_with fail
 refine H6.out.mono ?_;rintro e w1 ⟨h6,O6,rfl,hrow6,hO6,hb1⟩;clear H6;have HROW:Hid (∀i,i<L.length→w1.cell? ⟨h6,i,none⟩=some (.int .i64 (nodS L i L.length))):=fun i hi=>by rw [← hO6 i hi];exact hrow6.rd i hi
 have hlt6:h6<w1.heap.size:=hrow6.lt;have hr1:=hr.below hb1;clear hrow6 hO6;go_wp2_with fail
 refine(Lc.l3Of _ cap L _ hL hr1 HHO.out).mono ?_;rintro e w2 ⟨oc,rfl,hfour,hb2⟩;have HF2:Hid (Four w2 w1.heap.size (ofH L 0 L.length) (ofH L 1 L.length) (ofH L 2 L.length) (ofH L 3 L.length)):=hfour;have HB2:Hid (Below w.heap.size w w2):=hb1.trans (hb2.mono hb1.size);have HROW2:Hid (∀i,i<L.length→w2.cell? ⟨h6,i,none⟩=some (.int .i64 (nodS L i L.length))):=fun i hi=>(hb2.cell (p:=⟨h6,i,none⟩) hlt6).trans (HROW.out i hi)
 have hlt62:h6<w2.heap.size:=Nat.lt_of_lt_of_le hlt6 hb2.size;have HW2:Hid (w.heap.size≤w2.heap.size):=HB2.out.size;generalize w1.heap.size=of at HF2 ⊢;clear hb1 hb2 hr1 hr HROW hlt6 hfour;have HP:Hid (RowI (w2.alloc (.cells (madeCells #[.int .i64 0] L.length) 2)) w2.heap.size L.length (fun _=>0)∧Below w2.heap.size w2 (w2.alloc (.cells (madeCells #[.int .i64 0] L.length) 2))):=⟨Db.rowI_made _ _ _,(Below.refl _ _).alloc (Nat.le_refl _) _⟩
 generalize madeCells #[Value.int .i64 0] L.length=mc at hmk HP;go_wp2;clear hmk;go_loopw [8] (fun i wr=>∃b:Nat,b≤L.length∧i=.int .i64 b∧Hid (RowI wr w2.heap.size L.length (tabS L L.length b b))∧Hid (Below w2.heap.size w2 wr)) (fun i _=>L.length-(intOf i).toNat)
 case atStart=>exact⟨0,by omega,rfl,by show RowI _ _ _ _;rw [tabS_zero];exact HP.out.1,HP.out.2⟩
 case round=>
  obtain⟨b,hb,rfl,HR,HB⟩:=hrel;clear HP;by_cases hlt:b<L.length
  ·have hbi:(b:Int)<(L.length:Int):=by omega
   go_wp2;go_loopw [9] (fun i wr=>∃a:Nat,b≤a∧a≤L.length∧i=.int .i64 a∧Hid (RowI wr w2.heap.size L.length (tabS L L.length b a))∧Hid (Below w2.heap.size w2 wr)) (fun i _=>L.length-(intOf i).toNat)
   case atStart=>exact⟨b,by omega,by omega,rfl,HR,HB⟩
   case round=>
    obtain⟨a,hba,ha,rfl,HR,HB⟩:=hrel;by_cases hal:a<L.length
    ·have hali:(a:Int)<(L.length:Int):=by omega
     obtain⟨bb,rfl⟩:=HBN.out a hal;obtain⟨hbb,cy0⟩:=HBEL.out a hal bb rfl;have cy:=(HB.out.cell (p:=⟨bb,a,none⟩) (Nat.lt_of_lt_of_le hbb HW2.out)).trans ((HB2.out.cell (p:=⟨bb,a,none⟩) hbb).trans cy0);have cd:=(HB.out.cell (p:=⟨h6,b,none⟩) hlt62).trans (HROW2.out b hlt);have HSN:Hid (sealN L a b=decide (3≤handsN L (bits .and .i64 (bel L a) (nodS L b L.length)))):=rfl;have hand:=nodAt_bd (L:=L) hL (a:=a) (by omega) b;unfold nodAt at hand;have HZ:Hid (bits .and .i64 (bel L a) (nodS L b L.length)=0→sealN L a b=false):=fun hz=>by
      rw [HSN.out,hz,hands_zero (fun i _=>Lc.bit_zero i)];rfl
     clear cy0 hbb;generalize bel L a=y at cy HSN hand HZ;generalize nodS L b L.length=z at cd HSN hand HZ;generalize hyz:bits .and .i64 y z=s at HSN hand HZ;by_cases hs:s=0
     ·have hp:=HZ.out hs;have HT2:Hid (tabS L L.length b (a+1)=tabS L L.length b a):=tabS_skip L L.length b a hp;subst hs;have HYZ:Hid (bits .and .i64 y z=0):=hyz;clear hp HSN HZ hand hyz;go_wp2_with fail
      go_quiet (fail)
      rw [HYZ.out];go_wp2;go_roundw
      case rel=>exact⟨a+1,by omega,by omega,by go_num,by show RowI _ _ _ _;rw [HT2.out];exact HR.out.drewN nq,Db.below_drewN HB.out nq⟩
      case measure=>simp [intOf];omega
     ·have hs1:(s != 0)=true:=by simpa using hs
      have HYZ:Hid (bits .and .i64 y z=s):=hyz;have HCNT:Hid (∀W:World,Below w2.heap.size w2 W→Calls Tryz.prog 109 #[.slice (some ⟨of,0,none⟩) 4 oc,.int .i64 s] W fun e w'=>e=.returned (.int .i64 (handsN L s))∧W=w'):=fun W hW=>Lc.l3Count of oc L s W hL hand.1 (by omega) (four_below HF2.out hW)
      have hhb:=Lc.handsN_bd L s;clear hyz HZ hs;generalize handsN L s=hn at HSN HCNT hhb;go_wp2_with fail
      go_quiet (fail)
      rw [HYZ.out];clear cy cd HYZ;have R1:=HR.out.drewN nq;have HB1:Hid (Below w2.heap.size w2 (wr.drewN nq)):=Db.below_drewN HB.out nq;clear HR HB;generalize wr.drewN nq=V at R1 HB1 ⊢;have HR1:Hid (RowI V w2.heap.size L.length (tabS L L.length b a)):=R1;clear R1;go_wp2_with fail
      refine(HCNT.out _ HB1.out).mono ?_;rintro e V' ⟨rfl,rfl⟩;clear HCNT;by_cases h3:3≤hn
      ·have hp:sealN L a b=true:=by rw [HSN.out];exact decide_eq_true h3
       have HT2:Hid ((fun i=>if i=b then withB (sealS L b a) a else tabS L L.length b a i)=tabS L L.length b (a+1)):=tabS_put L L.length b a hp;have e1:=HR1.out.rd b hlt;rw [tabS_at] at e1;have f1:=HR1.out.fr b hlt;have hda:=sealS_bd L b a (by omega);have HO1:Hid (bits .or .i64 (sealS L b a) (2 ^ a)=withB (sealS L b a) a):=Base.shl_or _ a hda.1 hda.2 (by omega);have HR2:Hid (RowI (V.setCell ⟨w2.heap.size,b,none⟩ (.int .i64 (withB (sealS L b a) a))) w2.heap.size L.length (tabS L L.length b (a+1))):=by
        show RowI _ _ _ _;rw [← HT2.out];exact HR1.out.put b hlt _
       have HB3:Hid (Below w2.heap.size w2 (V.setCell ⟨w2.heap.size,b,none⟩ (.int .i64 (withB (sealS L b a) a)))):=HB1.out.setCell (p:=⟨w2.heap.size,b,none⟩) (Nat.le_refl _) _;clear HR1 HB1 HT2 HSN hp;generalize sealS L b a=x at e1 hda HO1 HR2 HB3;go_wp2_with fail
       go_region_with (go_at_call 82;refine(Base.l1Bit _ _ (by omega) (by omega)).mono ?_;rintro e w' ⟨rfl,rfl⟩;rw [Int.toNat_natCast])
       all_goals
        rw [HO1.out];go_wp2;go_roundw
        case rel=>exact⟨a+1,by omega,by omega,by go_num,HR2.out.drew,HB3.out.drew⟩
        case measure=>simp [intOf];omega
      ·have hp:sealN L a b=false:=by rw [HSN.out];exact decide_eq_false h3
       have HT2:Hid (tabS L L.length b (a+1)=tabS L L.length b a):=tabS_skip L L.length b a hp;clear hp HSN;go_wp2;go_roundw
       case rel=>exact⟨a+1,by omega,by omega,by go_num,by show RowI _ _ _ _;rw [HT2.out];exact HR1.out,HB1⟩
       case measure=>simp [intOf];omega
    ·obtain rfl:a=L.length:=by omega
     go_wp2;go_roundw
     case rel=>exact⟨b+1,by omega,by go_num,rowI_eq HR.out fun i _=>tabS_next HL.out b hlt i,HB⟩
     case measure=>simp [intOf];omega
  ·obtain rfl:b=L.length:=by omega
   go_wp2;go_ret;exact⟨_,_,rfl,HW2.out,HR.out,fun i hi=>by unfold tabS;rw [if_pos hi],HB2.out.trans (HB.out.mono HB2.out.size)⟩
theorem l7All(g off cap:Nat)(L:List K)(bo:Option Addr)(bc:Nat)(w:World)(hl:laceB L=true)(hr:RdK w (some ⟨g,off,none⟩) L)(hrd:Lst.Rd w bo (belows L L.length))(hbo:∀c,bo=some ⟨c,0,none⟩→c<w.heap.size) :
  Calls Tryz.prog 77 #[.slice (some ⟨g,off,none⟩) L.length cap,.slice bo L.length bc] w (SealPost L w):=l7AllO (some ⟨g,off,none⟩) cap L bo bc w hl hr hrd hbo
theorem table7(g off cap:Nat)(L:List K)(w:World)(hl:laceB L=true)(hr:RdK w (some ⟨g,off,none⟩) L) :
  Calls Tryz.prog 48 #[.slice (some ⟨g,off,none⟩) L.length cap] w fun e w'=>∃bo bc,e=.returned (.slice bo L.length bc)∧Below w.heap.size w w' ∧
   Calls Tryz.prog 77 #[.slice (some ⟨g,off,none⟩) L.length cap,.slice bo L.length bc] w' (SealPost L w'):=by
 have h60:=((Lc.lace_iff L).1 hl).1;refine(Sg.l4All (some ⟨g,off,none⟩) cap L w h60 (Sg.frm_lace hl) hr).mono ?_;rintro e w1 ⟨bo,bc,rfl,hown,hb1⟩;have hbl:=Sg.belows_len L L.length;refine⟨bo,bc,by rw [hbl],hb1,?_⟩;exact l7All g off cap L bo bc w1 hl (hr.below hb1) (Lst.own_rd hown) (fun g' e=>by subst e;exact(World.ownsRow.lt hown g' rfl).2)
end Sl
namespace Fm
open Kn (K okK)
open Bit (bit withB)
open Lc (at' RdK WordsOk laceB setB handsN roundS)
open Sg (isB bel belows closedB NumsPost)
open Db (RowI)
open Sl (sealS sealN)
open Ch (leadK firmN sealAt)
open Rm (coinsB)
open Tl (firmL)
theorem row_below{base:Nat}{e:TypeId}{size:Nat}{w w':World}{v:Value}{n:Nat}{xs:List Value}(h:w.ownsRow base e size v n xs)(hb:Below w.heap.size w w'):w'.ownsRow base e size v n xs:=by
 have hlt:=World.ownsRow.lt h;obtain⟨h1,h2⟩:=h;refine⟨h1,?_⟩;rcases h2 with h2 | ⟨g,cap,cur,rfl,hB,hg,rest⟩
 ·exact .inl h2
 ·exact .inr ⟨g,cap,cur,rfl,hB,(hb.block g (hlt g rfl).2).trans hg,rest⟩
def firmI(L:List K)(C:List Int)(s:Int):List Int:=if closedB L s&&coinsB C then firmL L C s L.length else []
theorem firmL_len(L:List K)(C:List Int)(s:Int)(n:Nat):(firmL L C s n).length≤n:=by
 induction n with
 | zero=>exact Nat.le_refl 0
 | succ n ih=>
  show(if firmN L C s n then firmL L C s n++[(n:Int)] else firmL L C s n).length≤n+1;split
  ·simp;omega
  ·omega
theorem firmL_step(L:List K)(C:List Int)(s:Int)(n:Nat):firmL L C s (n+1)=if firmN L C s n then firmL L C s n++[(n:Int)] else firmL L C s n:=rfl
theorem l9Firm(g off cap:Nat)(L:List K)(ao:Option Addr)(cc:Nat)(C:List Int)(h:Nat)(O:Nat→Int)(s:Int)(w:World)(hl:laceB L=true)(hr:RdK w (some ⟨g,off,none⟩) L)(hg:g<w.heap.size)(hrd:Lst.Rd w ao C)(hao:∀c,ao=some ⟨c,0,none⟩→c<w.heap.size)(hrow:RowI w h L.length O)(hO:∀i,i<L.length→O i=sealS L i L.length)(h0:0≤s)(h1:s<1152921504606846976) :
   Calls Tryz.prog 76 #[.slice (some ⟨g,off,none⟩) L.length cap,.slice ao C.length cc,.slice (some ⟨h,0,none⟩) L.length L.length,.int .i64 s] w (NumsPost (firmL L C s L.length) w):=by
 obtain⟨i0,hi,hz0,hz1,hz2⟩:=info_parts Memb.info2;have hL:=((Lc.lace_iff L).1 hl).1;have HLC:Hid (laceB L=true):=hl;have HRD:Hid (∀W:World,Below w.heap.size w W→Lst.Rd W ao C∧∀c,ao=some ⟨c,0,none⟩→c<W.heap.size):=fun W hW=>⟨Ch.rd_below hrd hao hW,fun c e=>Nat.lt_of_lt_of_le (hao c e) hW.size⟩
 have HROW:Hid (∀i,i<L.length→h<w.heap.size∧w.cell? ⟨h,i,none⟩=some (.int .i64 (sealS L i L.length))):=fun i hi=>⟨hrow.lt,by rw [← hO i hi];exact hrow.rd i hi⟩
 have HH:Hid (Lc.HandsOk L):=Lc.lace_hands hl;have HR:Hid (RdK w (some ⟨g,off,none⟩) L):=hr;clear hl hrd hao hrow hO hr;go_enter Tryz.func76,Tryz.ntmps76
 go_wp2;go_loopw [9,10] (fun v i wr=>∃k:Nat,k≤L.length∧i=.int .i64 k∧Hid (wr.ownsRow w.heap.size 2 1 v (firmL L C s k).length ((firmL L C s k).map (Value.int .i64)))∧Hid (Below w.heap.size w wr)) (fun _ i _=>L.length-(intOf i).toNat)
 case atStart=>exact⟨0,by omega,rfl,Memb.own_empty w,(Below.refl _ _).alloc (Nat.le_refl _) _⟩
 case round=>
   obtain⟨k,hk,rfl,HOW,HB⟩:=hrel;by_cases hlt:k<L.length
   · have hki:(k:Int)<(L.length:Int):=by omega
     have hcall:∀W:World,Calls Tryz.prog 45 #[.int .i64 s,.int .i64 (k:Int)] W fun e w'=>e=.returned (.bool (bit s k))∧W=w':=fun W=>(Db.has_call s k (bit s k) h0 h1 (by omega) rfl W).mono fun _ _ q=>⟨q.1,q.2.symm⟩
     have HST:Hid (firmL L C s (k+1)=if firmN L C s k then firmL L C s k++[(k:Int)] else firmL L C s k):=firmL_step L C s k;have HFN:Hid (firmN L C s k=(bit s k&&(leadK C (at' L k)&&decide (3≤handsN L (roundS L (sealAt L s k) ((at' L k).round+2)))))):=rfl;have hfl:=firmL_len L C s k
     cases hb:bit s k
     · have HD:Hid (firmL L C s (k+1)=firmL L C s k):=by show _=_;rw [HST.out,HFN.out,hb];rfl
       rw [hb] at hcall;clear hb HST HFN;go_wp2_with (go_at_call 45;refine(hcall _).mono ?_;rintro e w' ⟨rfl,rfl⟩)
       go_roundw
       case rel=>exact⟨k+1,by omega,by go_num,by show World.ownsRow _ _ _ _ _ _ _;rw [HD.out];exact HOW.out,HB⟩
       case measure=>simp [intOf];omega
     · rw [hb] at hcall;obtain⟨_,c0,c1,c2,c3⟩:=(HR.out.below HB.out).on k hlt;have hrb:=Lc.ok_round (Lc.can_ok (Lc.lace_upTo HLC.out k hlt));have hld:=Ch.l8Leads ao cc C (at' L k) wr hrb.1 (by omega) (HRD.out wr HB.out).1 (HRD.out wr HB.out).2
       cases hlk:leadK C (at' L k)
       · have HD:Hid (firmL L C s (k+1)=firmL L C s k):=by show _=_;rw [HST.out,HFN.out,hlk];simp
         rw [hlk] at hld;clear hb HST HFN hlk;generalize at' L k=kk at c0 c1 c2 c3 hld;go_wp2_with (first | (go_at_call 45;refine(hcall _).mono ?_;rintro e w' ⟨rfl,rfl⟩) | fail)
         refine hld.mono ?_;rintro e w1 ⟨rfl,hb1⟩;have HO1:Hid (w1.ownsRow w.heap.size 2 1 u9 (firmL L C s k).length ((firmL L C s k).map (Value.int .i64))):=row_below HOW.out hb1;have HB1:Hid (Below w.heap.size w w1):=HB.out.trans (hb1.mono HB.out.size);clear hld hb1 c0 c1 c2 c3 HOW HB;go_wp2;go_roundw
         case rel=>exact⟨k+1,by omega,by go_num,by show World.ownsRow _ _ _ _ _ _ _;rw [HD.out];exact HO1.out,HB1⟩
         case measure=>simp [intOf];omega
       · rw [hlk] at hld;have HF2:Hid (firmN L C s k=decide (3≤handsN L (roundS L (sealAt L s k) ((at' L k).round+2)))):=by show _=_;rw [HFN.out,hb,hlk];rfl
         have hsb:=Sl.sealS_bd L k L.length hL;have hab:=Sl.and_bd s (sealS L k L.length) h0 h1 hsb.1 hsb.2;have HSA:Hid (sealAt L s k=bits .and .i64 s (sealS L k L.length)):=rfl;have hrbd:=Lc.round_bd L (bits .and .i64 s (sealS L k L.length)) ((at' L k).round+2) hL;rw [HSA.out] at HF2;clear hb HFN hlk HSA;generalize hkk:at' L k=kk at c0 c1 c2 c3 hld HF2 hrb hrbd;have c1':=c1;go_wp2_with (first | (go_at_call 45;refine(hcall _).mono ?_;rintro e w' ⟨rfl,rfl⟩) | fail)
         refine hld.mono ?_;rintro e w1 ⟨rfl,hb1⟩;have HO1:Hid (w1.ownsRow w.heap.size 2 1 u9 (firmL L C s k).length ((firmL L C s k).map (Value.int .i64))):=row_below HOW.out hb1;have HB1:Hid (Below w.heap.size w w1):=HB.out.trans (hb1.mono HB.out.size);have hgr:g<wr.heap.size:=Nat.lt_of_lt_of_le hg HB.out.size;have cr:=(hb1.cell (p:=⟨g,off+k*4+1,none⟩) hgr).trans c1;have hgr1:g<w1.heap.size:=Nat.lt_of_lt_of_le hgr hb1.size;have hhw:=(HROW.out k hlt).1;have cs:=(HB1.out.cell (p:=⟨h,k,none⟩) hhw).trans (HROW.out k hlt).2;have hh1:h<w1.heap.size:=Nat.lt_of_lt_of_le hhw HB1.out.size;clear hld hb1 c0 c1 c2 c3 HOW HB hcall c1';go_wp2_with fail
         have HRN:Hid (∀W:World,Below w1.heap.size w1 W→Calls Tryz.prog 107 #[.slice (some ⟨g,off,none⟩) L.length cap,.int .i64 (bits .and .i64 s (sealS L k L.length)),.int .i64 (kk.round+2)] W fun e w'=>e=.returned (.int .i64 (roundS L (bits .and .i64 s (sealS L k L.length)) (kk.round+2)))∧W=w'):=fun W hW=>Lc.l3Round g off cap L _ _ W hL (HR.out.below (HB1.out.trans (hW.mono HB1.out.size))) hab.1 hab.2
         have HHN:Hid (∀W:World,Below w1.heap.size w1 W→Calls Tryz.prog 106 #[.slice (some ⟨g,off,none⟩) L.length cap,.int .i64 (roundS L (bits .and .i64 s (sealS L k L.length)) (kk.round+2))] W fun e w'=>e=.returned (.int .i64 (handsN L (roundS L (bits .and .i64 s (sealS L k L.length)) (kk.round+2))))∧Below W.heap.size W w'):=fun W hW=>Lc.l3Hands _ cap L _ W hL (HR.out.below (HB1.out.trans (hW.mono HB1.out.size))) HH.out hrbd.1 (by omega)
         generalize roundS L (bits .and .i64 s (sealS L k L.length)) (kk.round+2)=rs at HF2 HRN HHN hrbd;generalize handsN L rs=hn at HF2 HHN;generalize sealS L k L.length=z at cs hab HRN;have hw2:IntKind.i64.wrap (kk.round+2)=kk.round+2:=by rw [IntKind.wrap_i64];omega
         generalize hrr:kk.round=rr at cr HRN hrb hw2;obtain⟨X,_,F,HF,HG⟩:=Fam.fam w1;have hc1:∀z,(F z).cell? ⟨g,off+k*4+1,none⟩=some (.int .i64 rr):=fun y=>((HF.out y).cell (p:=⟨g,off+k*4+1,none⟩) hgr1).trans cr
         have hc2:∀y,(F y).cell? ⟨h,k,none⟩=some (.int .i64 z):=fun y=>((HF.out y).cell (p:=⟨h,k,none⟩) hh1).trans cs
         clear cr cs hrr hkk;refine Fam.region (F:=F) (by kernel_rfl) (by kernel_rfl) (HG.out _ (Below.refl _ w1).drew) ?_
         repeat (go_big_quiet_step (first
           | (go_at_call 107;exact(HRN.out _ (HF.out _)).mono fun _ _ h=>⟨h.1,_,h.2.symm⟩)
           | (go_at_call 106;exact(HHN.out _ (HF.out _)).mono fun _ _ h=>⟨h.1,HG.out _ ((HF.out _).trans (h.2.mono (HF.out _).size))⟩)))
         refine wpQuiet_nil ?_;intro w2 hw2';obtain⟨y,rfl⟩:=hw2';have HB2:Hid (Below w.heap.size w (F y)):=HB1.out.trans ((HF.out y).mono HB1.out.size);have HO2:Hid ((F y).ownsRow w.heap.size 2 1 u9 (firmL L C s k).length ((firmL L C s k).map (Value.int .i64))):=row_below HO1.out (HF.out y);clear HO1 HB1 hc1 hc2 HRN HHN;generalize F y=V at HB2 HO2 ⊢;by_cases h3:3≤hn
         · have HD:Hid (firmL L C s (k+1)=firmL L C s k++[(k:Int)]):=by show _=_;rw [HST.out,HF2.out,decide_eq_true h3];rfl
           have HOA:Hid (∀o:Obj,(V.alloc o).ownsRow w.heap.size 2 1 u9 (firmL L C s k).length ((firmL L C s k).map (Value.int .i64))):=fun o=>HO2.out.alloc o
           clear HF2 HST;go_wp2_with (at_builtin;refine wpList_append_own _ rfl _ _ 25 rfl w.heap.size 2 i0 (.int .i64 0) 1 8 Tryz.underlying25 hi hz0 hz1 hz2 rfl (by decide) _ _ _ rfl (HOA.out _) ⟨V.heap.size,0,none⟩ 1 1 [.int .i64 (k:Int)] rfl rfl (Sg.one_new V (k:Int) _) (Sg.one_one (k:Int)) ?c3 ?c4 ?c5 ?_)
           case c3=>unfold maxLen;omega
           case c4=>omega
           case c5=>have:=HB2.out.size;simp;omega
           intro v' w3 hown' hgrow _;have R:=Memb.rel_put HD.out HB2.out.size HO2.out HB2.out hown' hgrow;have HO3:Hid _:=R.1;have HB3:Hid _:=R.2.1;clear hown' hgrow R HO2 HB2 HOA;go_wp2;go_roundw
           case rel=>exact⟨k+1,by omega,by go_num,HO3,HB3⟩
           case measure=>simp [intOf];omega
         · have HD:Hid (firmL L C s (k+1)=firmL L C s k):=by show _=_;rw [HST.out,HF2.out,decide_eq_false h3];rfl
           clear HF2 HST;go_wp2;go_roundw
           case rel=>exact⟨k+1,by omega,by go_num,by show World.ownsRow _ _ _ _ _ _ _;rw [HD.out];exact HO2.out,HB2⟩
           case measure=>simp [intOf];omega
   · obtain rfl:k=L.length:=by omega
     obtain⟨bo,bc,hv,hown⟩:=Memb.own_shape HOW.out;have HV:Hid (u9=.slice bo (firmL L C s L.length).length bc):=hv;clear hv;go_wp2;go_ret;exact⟨bo,bc,by rw [← HV.out];rfl,hown,HB.out⟩
def rightB(L:List K)(C:List Int)(s:Int):Bool:=closedB L s&&coinsB C
theorem l9Right(g off cap:Nat)(L:List K)(ao:Option Addr)(cc:Nat)(C:List Int)(s:Int)(w:World)(hcap:L.length≤cap)(hw:WordsOk L)(hr:RdK w (some ⟨g,off,none⟩) L)(hC:C.length≤1048576)(hrd:Lst.Rd w ao C)(hao:∀c,ao=some ⟨c,0,none⟩→c<w.heap.size) :
  Calls Tryz.prog 37 #[.slice (some ⟨g,off,none⟩) L.length cap,.slice ao C.length cc,.int .i64 s] w fun e w'=>e=.returned (.bool (rightB L C s))∧Below w.heap.size w w':=by
 go_enter Tryz.func37,Tryz.ntmps37
 go_wp2_with fail
 refine(Sg.specClosed g off cap L s _ hcap hw hr).mono ?_;rintro e w1 ⟨rfl,hb1⟩;have hcall:=Rm.specCoinsOk ao cc C w1 hC (Ch.rd_below hrd hao hb1);have HT:Hid (rightB L C s=(closedB L s&&coinsB C)):=rfl;clear hrd hao hr;generalize closedB L s=b1 at HT ⊢;generalize coinsB C=b2 at HT hcall
 cases b1
 ·clear hcall;go_wp2;go_ret;exact⟨by rw [HT.out];rfl,hb1⟩
 ·go_wp2_with (go_at_call 58;refine hcall.mono ?_;rintro e w' ⟨rfl,rfl⟩)
  go_ret;exact⟨by rw [HT.out];rfl,hb1⟩
theorem closed_set{L:List K}{s:Int}(h:closedB L s=true):laceB L=true∧0≤s∧s<1152921504606846976:=by
 unfold Sg.closedB at h;rw [Bool.and_eq_true] at h;obtain⟨hl,q0,q1,_⟩:=Lc.setB_parts h.1;exact⟨hl,q0,q1⟩
theorem specFirmOnes(g off cap:Nat)(L:List K)(ao:Option Addr)(cc:Nat)(C:List Int)(s:Int)(w:World)(hcap:L.length≤cap)(hw:WordsOk L)(hg:g<w.heap.size)(hr:RdK w (some ⟨g,off,none⟩) L)(hC:C.length≤1048576)(hrd:Lst.Rd w ao C)(hao:∀c,ao=some ⟨c,0,none⟩→c<w.heap.size) :
   Calls Tryz.prog 42 #[.slice (some ⟨g,off,none⟩) L.length cap,.slice ao C.length cc,.int .i64 s] w (NumsPost (firmI L C s) w):=by
 have HRD:Hid (∀W:World,Below w.heap.size w W→Lst.Rd W ao C∧∀c,ao=some ⟨c,0,none⟩→c<W.heap.size):=fun W hW=>⟨Ch.rd_below hrd hao hW,fun c e=>Nat.lt_of_lt_of_le (hao c e) hW.size⟩
 have hcall:=l9Right g off cap L ao cc C s w hcap hw hr hC hrd hao;have HR:Hid (RdK w (some ⟨g,off,none⟩) L):=hr;clear hrd hao hr
 cases hq:rightB L C s
 · have HT:Hid (firmI L C s=[]):=by show _=_;unfold firmI;rw [show(closedB L s&&coinsB C)=false from hq];rfl
   rw [hq] at hcall;clear hq;go_enter Tryz.func42,Tryz.ntmps42
   go_wp2_with fail
   refine hcall.mono ?_;rintro e w1 ⟨rfl,hb1⟩;clear hcall;have HP:Hid ((w1.alloc (.cells #[] 2)).ownsRow w.heap.size 2 1 (.slice (some ⟨w1.heap.size,0,none⟩) 0 0) 0 []∧Below w.heap.size w (w1.alloc (.cells #[] 2))):=by
     refine⟨?_,hb1.alloc hb1.size _⟩;obtain⟨a1,a2⟩:=Memb.own_empty w1;refine⟨a1,?_⟩;rcases a2 with a2 | ⟨g2,c2,cur,e1,e2,rest⟩
     · exact .inl a2
     · exact .inr ⟨g2,c2,cur,e1,Nat.le_trans hb1.size e2,rest⟩
   go_wp2;go_ret;rw [HT.out];exact⟨some ⟨w1.heap.size,0,none⟩,0,rfl,HP.out.1,HP.out.2⟩
 · have HT:Hid (firmI L C s=firmL L C s L.length):=by show _=_;unfold firmI;rw [show(closedB L s&&coinsB C)=true from hq];rfl
   rw [hq] at hcall;have hcl:closedB L s=true:=by unfold rightB at hq;rw [Bool.and_eq_true] at hq;exact hq.1
   obtain⟨hl,h0,h1⟩:=closed_set hcl;have HLC:Hid (laceB L=true):=hl;clear hq hcl hl;rw [HT.out];go_enter Tryz.func42,Tryz.ntmps42
   go_wp2_with fail
   refine hcall.mono ?_;rintro e w1 ⟨rfl,hb1⟩;clear hcall;go_wp2_with fail
   refine(Sl.table7 g off cap L _ HLC.out (HR.out.below hb1)).mono ?_;rintro e w2 ⟨bo,bc,rfl,hb2,h7⟩;have hB2:=hb1.trans (hb2.mono hb1.size);clear hb1 hb2;go_wp2_with fail
   refine h7.mono ?_;rintro e w3 ⟨hh,O,rfl,_,hrow,hO,hb3⟩;have hB3:=hB2.trans (hb3.mono hB2.size);have hfm:=l9Firm g off cap L ao cc C hh O s w3 HLC.out (HR.out.below hB3) (Nat.lt_of_lt_of_le hg hB3.size) (HRD.out w3 hB3).1 (HRD.out w3 hB3).2 hrow hO h0 h1;clear hb3 hB2 hrow hO h7;go_wp2_with fail
   refine hfm.mono ?_;rintro e w4 ⟨ro,rc,rfl,hown,hb4⟩;have HP : Hid (Memb.Own w.heap.size w4 ro rc (firmL L C s L.length) ∧ Below w.heap.size w w4) := ⟨by
     obtain⟨a1,a2⟩:=hown;refine⟨a1,?_⟩;rcases a2 with a2 | ⟨g2,c2,cur,e1,e2,rest⟩
     · exact .inl a2
     · exact .inr ⟨g2,c2,cur,e1,Nat.le_trans hB3.size e2,rest⟩,hB3.trans (hb4.mono hB3.size)⟩
   clear hown hb4 hB3 hfm;go_wp2;go_ret;exact⟨ro,rc,rfl,HP.out.1,HP.out.2⟩
theorem has_step(l:List Int)(k:Int)(j:Nat)(hj:j<l.length):(l.take (j+1)).contains k=((l.take j).contains k || (l.getD j 0 == k)):=by
 rw [Lc.take_snocI l j hj];generalize l.getD j 0=y;generalize l.take j=t;rw [Bool.eq_iff_iff];simp only [List.contains_iff_mem,List.mem_append,List.mem_singleton,Bool.or_eq_true,beq_iff_eq];exact or_congr Iff.rfl eq_comm
theorem firmI_len(L:List K)(C:List Int)(s:Int):(firmI L C s).length≤L.length:=by
 unfold firmI;split
 ·exact firmL_len L C s _
 ·simp
theorem last_mem(L:List K)(l:List Int):Tl.lastT L l=-1∨Tl.lastT L l∈l:=by
 suffices H:∀n,n≤l.length→Tl.lastT L (l.take n)=-1∨Tl.lastT L (l.take n)∈l.take n by
  have:=H l.length (Nat.le_refl _);rwa [List.take_length] at this
 intro n;induction n with
 | zero=>intro _;exact .inl rfl
 | succ n ih=>
  intro hn;rw [Lc.take_snocI l n (by omega),Tl.lastT_snoc];split
  ·exact .inr (by simp)
  ·rcases ih (by omega) with e | e
   ·rename_i hc;exact absurd (.inl (by rw [e];omega)) hc
   ·exact .inr (by simp only [List.mem_append];exact .inl e)
theorem l9Last(g off cap:Nat)(L:List K)(lo:Option Addr)(lc:Nat)(l:List Int)(w:World)(hin:∀x∈l,0≤x∧x<(L.length:Int))(hll:l.length≤1048576)(hr:RdK w (some ⟨g,off,none⟩) L)(hrd:Lst.Rd w lo l) :
  Calls Tryz.prog 41 #[.slice (some ⟨g,off,none⟩) L.length cap,.slice lo l.length lc] w fun e w'=>e=.returned (.int .i64 (Tl.lastT L l))∧∃n,w'=w.drewN n:=by
 have HIN:Hid (∀x∈l,0≤x∧x<(L.length:Int)):=hin;clear hin;go_enter Tryz.func41,Tryz.ntmps41
 go_wp2;go_loopw [5,6] (fun o i wr=>∃j:Nat,j≤l.length∧i=.int .i64 j∧o=.int .i64 (Tl.lastT L (l.take j))∧∃n,wr=w.drewN n) (fun _ i _=>l.length-(intOf i).toNat)
 case atStart=>exact⟨0,by omega,rfl,rfl,0,rfl⟩
 case round=>
  obtain⟨j,hj,rfl,rfl,n,rfl⟩:=hrel;by_cases hlt:j<l.length
  ·have hji:(j:Int)<(l.length:Int):=by omega
   have HST:Hid (Tl.lastT L (l.take (j+1))=if Tl.lastT L (l.take j)<0∨(at' L (Tl.lastT L (l.take j)).toNat).round<(at' L (l.getD j 0).toNat).round then l.getD j 0 else Tl.lastT L (l.take j)):=by
    show _=_;rw [Lc.take_snocI l j hlt,Tl.lastT_snoc]
   have hmem:l.getD j 0∈l:=by simp [List.getD,List.getElem?_eq_getElem hlt]
   have hx:=HIN.out _ hmem;have HO:Hid (Tl.lastT L (l.take j)=-1∨∃e:Nat,Tl.lastT L (l.take j)=(e:Int)∧e<L.length):=by
    rcases last_mem L (l.take j) with e | e
    ·exact .inl e
    ·have hb:=HIN.out _ (List.mem_of_mem_take e);exact .inr ⟨(Tl.lastT L (l.take j)).toNat,by omega,by omega⟩
   rcases hrd with hrd | ⟨lb,rfl,hcell⟩
   ·rw [hrd] at hlt;simp at hlt
   have cj:=hcell j hlt;clear hcell hmem;generalize l.getD j 0=xx at cj hx HST;obtain⟨p,rfl⟩:=Int.eq_ofNat_of_zero_le hx.1;have hp:p<L.length:=by omega
   have hpi:(p:Int)<(L.length:Int):=by omega
   rw [Int.toNat_natCast] at HST;obtain⟨_,_,c1,_,_⟩:=hr.on p hp;have HRO:Hid (∀e:Nat,e<L.length→w.cell? ⟨g,off+e*4+1,none⟩=some (.int .i64 (at' L e).round)):=fun e he=>by obtain⟨_,_,q,_,_⟩:=hr.on e he;exact q
   generalize Tl.lastT L (l.take j)=oo at HST HO ⊢;generalize (at' L p).round=rp at c1 HST;rcases HO.out with e | ⟨e,rfl,hex⟩
   ·subst e;have HD:Hid (Tl.lastT L (l.take (j+1))=(p:Int)):=by show _=_;rw [HST.out,if_pos (.inl (by omega))]
    clear HST HO HRO;go_wp2_with fail
    go_quiet (fail)
    go_wp2;go_roundw
    case rel=>exact⟨j+1,by omega,by go_num,by rw [HD.out],n+nq,rfl⟩
    case measure=>simp [intOf];omega
   ·have ce:=HRO.out e hex;have hei:(e:Int)<(L.length:Int):=by omega
    have he0:decide ((e:Int)<0)=false:=decide_eq_false (by omega);rw [Int.toNat_natCast] at HST;generalize (at' L e).round=er at ce HST;clear HO HRO;by_cases hrr:er<rp
    ·have HD:Hid (Tl.lastT L (l.take (j+1))=(p:Int)):=by show _=_;rw [HST.out,if_pos (.inr hrr)]
     clear HST;go_wp2_with fail
     go_quiet (fail)
     go_wp2;go_roundw
     case rel=>exact⟨j+1,by omega,by go_num,by rw [HD.out],n+nq,rfl⟩
     case measure=>simp [intOf];omega
    ·have HD:Hid (Tl.lastT L (l.take (j+1))=(e:Int)):=by show _=_;rw [HST.out,if_neg (by omega)]
     clear HST;go_wp2_with fail
     go_quiet (fail)
     go_wp2;go_roundw
     case rel=>exact⟨j+1,by omega,by go_num,by rw [HD.out],n+nq,rfl⟩
     case measure=>simp [intOf];omega
  ·obtain rfl:j=l.length:=by omega
   have e:l.take l.length=l:=List.take_length;rw [e];go_wp2;go_ret;exact⟨rfl,n,rfl⟩
theorem firmI_in{L:List K}{C:List Int}{s:Int}:∀x∈firmI L C s,0≤x∧x<(L.length:Int):=by
 intro x hx;unfold firmI at hx;split at hx
 ·obtain⟨k,rfl,hk,_⟩:=(Tl.mem_firm L C s L.length x).1 hx;omega
 ·exact absurd hx (by simp)
def lastI(L:List K)(C:List Int)(s:Int):Int:=Tl.lastT L (firmI L C s)
theorem specLastFirm(g off cap:Nat)(L:List K)(ao:Option Addr)(cc:Nat)(C:List Int)(s:Int)(w:World)(hL:L.length≤1048576)(hcap:L.length≤cap)(hw:WordsOk L)(hg:g<w.heap.size)(hr:RdK w (some ⟨g,off,none⟩) L)(hC:C.length≤1048576)(hrd:Lst.Rd w ao C)(hao:∀c,ao=some ⟨c,0,none⟩→c<w.heap.size) :
  Calls Tryz.prog 14 #[.slice (some ⟨g,off,none⟩) L.length cap,.slice ao C.length cc,.int .i64 s] w fun e w'=>e=.returned (.int .i64 (lastI L C s))∧Below w.heap.size w w':=by
 have hcall:=specFirmOnes g off cap L ao cc C s w hcap hw hg hr hC hrd hao;have hfl:=firmI_len L C s;have HIN:Hid (∀x∈firmI L C s,0≤x∧x<(L.length:Int)):=firmI_in;have HT:Hid (lastI L C s=Tl.lastT L (firmI L C s)):=rfl;have HR:Hid (RdK w (some ⟨g,off,none⟩) L):=hr;clear hrd hao hr;go_enter Tryz.func14,Tryz.ntmps14
 go_wp2_with fail
 refine hcall.mono ?_;rintro e w1 ⟨fo,fc,rfl,hown,hb1⟩;have hrd1:=Lst.own_rd hown;clear hown hcall;generalize firmI L C s=l at HT hfl hrd1 HIN ⊢;have hla:=l9Last g off cap L fo fc l w1 HIN.out (by omega) (HR.out.below hb1) hrd1;go_wp2_with fail
 refine hla.mono ?_;rintro e w2 ⟨rfl,n,rfl⟩;have HB2:Hid (Below w.heap.size w (w1.drewN n)):=Db.below_drewN hb1 n;clear hla hb1 hrd1;go_wp2;go_ret;exact⟨by rw [HT.out];rfl,HB2.out⟩
end Fm
end Go.Proofs.YtbkeldfbllhlbaaGreat
