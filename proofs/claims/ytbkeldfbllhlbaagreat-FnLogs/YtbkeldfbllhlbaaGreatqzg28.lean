/-
 How the model copies a log: the copy owns its memory.
-/
import Derived.Test.YtbkeldfbllhlbaaGreatqzg7
import Derived.Deep.RegionHeld3
import Derived.Deep.CutBlock
import Derived.Deep.CutRange
set_option linter.unusedVariables false
set_option maxRecDepth 100000
set_option maxHeartbeats 6400000
namespace Go.Proofs.YtbkeldfbllhlbaaGreat
open Go.RowKit
namespace Lg
open Kn (K okK)
open Lc (at' RdK WordsOk laceB setB)
open Sg (closedB NumsPost)
open Tl (outL beginsB)
abbrev At:=Nat→Option Addr × Nat
structure RdL(w:World)(so qo:Option Addr)(S:List Int)(T:List (List Int))(f:At):Prop where
 seen:Lst.Rd w so S
 seenB:∀c,so=some ⟨c,0,none⟩→c<w.heap.size
 told:T=[]∨∃tb off,qo=some ⟨tb,off,none⟩∧tb<w.heap.size∧∀i,i<T.length→w.cell? ⟨tb,off+i,none⟩=some (.slice (f i).1 (T.getD i []).length (f i).2)
 row:∀i,i<T.length→Lst.Rd w (f i).1 (T.getD i [])
 rowB:∀i,i<T.length→∀c,(f i).1=some ⟨c,0,none⟩→c<w.heap.size
theorem RdL.below{w w':World}{so qo:Option Addr}{S:List Int}{T:List (List Int)}{f:At}(h:RdL w so qo S T f)(hb:Below w.heap.size w w'):RdL w' so qo S T f where
 seen:=Ch.rd_below h.seen h.seenB hb
 seenB:=fun c e=>Nat.lt_of_lt_of_le (h.seenB c e) hb.size
 told:=by
  rcases h.told with e | ⟨tb,off,e,hlt,hc⟩
  ·exact .inl e
  ·exact .inr ⟨tb,off,e,Nat.lt_of_lt_of_le hlt hb.size,fun i hi=>(hb.cell (p:=⟨tb,off+i,none⟩) hlt).trans (hc i hi)⟩
 row:=fun i hi=>Ch.rd_below (h.row i hi) (h.rowB i hi) hb
 rowB:=fun i hi c e=>Nat.lt_of_lt_of_le (h.rowB i hi c e) hb.size
def sameB(a b:List Int):Bool:=decide (a.length=b.length)&&beginsB a b
def stepB(L:List K)(C S:List Int)(T:List (List Int))(i:Nat):Bool:=
 (closedB L (S.getD i 0)&&(decide (i=0) || (decide (bits .andNot .i64 (S.getD (i-1) 0) (S.getD i 0)=0)&&beginsB (T.getD i []) (T.getD (i-1) []))))&&sameB (T.getD i []) (outL L C (S.getD i 0))
def logB(L:List K)(C S:List Int)(T:List (List Int)):Bool:=(decide (S.length≤40)&&decide (T.length=S.length))&&((laceB L&&Rm.coinsB C)&&(List.range S.length).all (stepB L C S T))
theorem log_no{L:List K}{C S:List Int}{T:List (List Int)}(i:Nat)(hi:i<S.length)(h:stepB L C S T i=false):logB L C S T=false:=by
 rw [Bool.eq_false_iff];intro hb;unfold logB at hb;simp only [Bool.and_eq_true,List.all_eq_true] at hb;have:=hb.2.2 i (by simpa using hi);rw [h] at this;exact Bool.noConfusion this
theorem log_yes{L:List K}{C S:List Int}{T:List (List Int)}(h40:S.length≤40)(hT:T.length=S.length)(hl:laceB L=true)(hc:Rm.coinsB C=true)(h:∀i,i<S.length→stepB L C S T i=true):logB L C S T=true:=by
 unfold logB;rw [decide_eq_true h40,decide_eq_true hT,hl,hc,Bool.true_and,Bool.true_and,Bool.true_and,List.all_eq_true];intro i hi;exact h i (by simpa using hi)
theorem log_parts{L:List K}{C S:List Int}{T:List (List Int)}(h:logB L C S T=true):S.length≤40∧T.length=S.length∧laceB L=true∧Rm.coinsB C=true∧∀i,i<S.length→stepB L C S T i=true:=by
 unfold logB at h;simp only [Bool.and_eq_true,List.all_eq_true,decide_eq_true_eq] at h;exact⟨h.1.1,h.1.2,h.2.1.1,h.2.1.2,fun i hi=>h.2.2 i (by simpa using hi)⟩
theorem l12OutA(g off cap:Nat)(L:List K)(ao:Option Addr)(cc:Nat)(C:List Int)(s:Int)(w:World)(hl:laceB L=true)(hg:g<w.heap.size)(hr:RdK w (some ⟨g,off,none⟩) L)(hrd:Lst.Rd w ao C)(hao:∀c,ao=some ⟨c,0,none⟩→c<w.heap.size)(h0:0≤s)(h1:s<1152921504606846976) :
  Calls Tryz.prog 38 #[.slice (some ⟨g,off,none⟩) L.length cap,.slice ao C.length cc,.int .i64 s] w (NumsPost (outL L C s) w):=by
 by_cases hN:0<L.length
 ·exact Tl.l12Out g off cap L ao cc C s w hl hN hg hr hrd hao h0 h1
 ·obtain rfl:L=[]:=List.length_eq_zero_iff.1 (by omega);exact Tl.l12OutE g off cap ao cc C s w hg hrd hao h0 h1
theorem l15Same(ao:Option Addr)(ca:Nat)(A:List Int)(bo:Option Addr)(cb:Nat)(D:List Int)(w:World)(hA:A.length≤1048576)(hD:D.length≤1048576)(ha:Lst.Rd w ao A)(hb:Lst.Rd w bo D) :
  Calls Tryz.prog 59 #[.slice ao A.length ca,.slice bo D.length cb] w fun e w'=>e=.returned (.bool (sameB A D))∧Below w.heap.size w w':=by
 have hcall:=Tl.specBegins ao ca A bo cb D w hA hD ha hb;by_cases he:A.length=D.length
 ·have HT:Hid (sameB A D=beginsB A D):=by show _=_;unfold sameB;rw [decide_eq_true he];rfl
  have he':((A.length:Int) == (D.length:Int))=true:=by simp [he]
  clear ha hb he;go_enter Tryz.func59,Tryz.ntmps59
  go_wp2_with fail
  refine hcall.mono ?_;rintro e w1 ⟨rfl,hb1⟩;clear hcall;go_wp2;go_ret;exact⟨by rw [HT.out];rfl,hb1⟩
 ·have HT:Hid (sameB A D=false):=by show _=_;unfold sameB;rw [decide_eq_false he];rfl
  have he':((A.length:Int) == (D.length:Int))=false:=by simpa using (by omega:¬ (A.length:Int)=(D.length:Int))
  clear ha hb hcall;go_enter Tryz.func59,Tryz.ntmps59
  go_wp2;go_ret;exact⟨by rw [HT.out];rfl,Below.refl _ _⟩
end Lg
namespace Lg
open Kn (K okK)
open Lc (at' RdK WordsOk laceB setB)
open Sg (closedB NumsPost)
open Tl (outL beginsB)
theorem closed_bd{L:List K}{s:Int}(h:closedB L s=true):laceB L=true∧0≤s∧s<1152921504606846976:=Fm.closed_set h
theorem out_len{L:List K}{C:List Int}{s:Int}(hs:closedB L s=true)(hc:Rm.coinsB C=true):(outL L C s).length≤3660:=by
 have:=Tl.outI_len L C s;unfold Tl.outI Fm.rightB at this;rw [hs,hc] at this;exact this
structure Ask(w W:World)(bx g off cap:Nat)(L:List K)(ao:Option Addr)(cc:Nat)(C:List Int)(so qo:Option Addr)(sc tc:Nat)(S:List Int)(T:List (List Int))(f:At):Prop where
 bel:Below w.heap.size w W
 gl:g<W.heap.size
 rd:RdK W (some ⟨g,off,none⟩) L
 crd:Lst.Rd W ao C
 cat:∀c,ao=some ⟨c,0,none⟩→c<W.heap.size
 log:RdL W so qo S T f
 blt:bx<W.heap.size
 b0:W.cell? ⟨bx,0,none⟩=some (.slice so S.length sc)
 b1:W.cell? ⟨bx,1,none⟩=some (.slice qo T.length tc)
theorem Ask.below{w W W':World}{bx g off cap:Nat}{L:List K}{ao:Option Addr}{cc:Nat}{C:List Int}{so qo:Option Addr}{sc tc:Nat}{S:List Int}{T:List (List Int)}{f:At}(h:Ask w W bx g off cap L ao cc C so qo sc tc S T f)(hb:Below W.heap.size W W'):Ask w W' bx g off cap L ao cc C so qo sc tc S T f:=
 ⟨h.bel.trans (hb.mono h.bel.size),Nat.lt_of_lt_of_le h.gl hb.size,h.rd.below hb,Ch.rd_below h.crd h.cat hb,fun c e=>Nat.lt_of_lt_of_le (h.cat c e) hb.size,h.log.below hb,Nat.lt_of_lt_of_le h.blt hb.size,(hb.cell (p:=⟨bx,0,none⟩) h.blt).trans h.b0,(hb.cell (p:=⟨bx,1,none⟩) h.blt).trans h.b1⟩
theorem seen_at{w:World}{so qo:Option Addr}{S:List Int}{T:List (List Int)}{f:At}(h:RdL w so qo S T f)(hS:0<S.length):∃sb,so=some ⟨sb,0,none⟩:=by
 rcases h.seen with e | ⟨sb,e,_⟩
 ·rw [e] at hS;simp at hS
 ·exact⟨sb,e⟩
theorem seen_cell{w:World}{sb:Nat}{qo:Option Addr}{S:List Int}{T:List (List Int)}{f:At}(h:RdL w (some ⟨sb,0,none⟩) qo S T f)(i:Nat)(hi:i<S.length):w.cell? ⟨sb,i,none⟩=some (.int .i64 (S.getD i 0)):=by
 rcases h.seen with e | ⟨sb',e,hc⟩
 ·rw [e] at hi;simp at hi
 ·injection e with e;injection e with e;subst e;exact hc i hi
theorem told_at{w:World}{so qo:Option Addr}{S:List Int}{T:List (List Int)}{f:At}(h:RdL w so qo S T f)(hT:0<T.length):∃tb toff,qo=some ⟨tb,toff,none⟩:=by
 rcases h.told with e | ⟨tb,toff,e,_⟩
 ·rw [e] at hT;simp at hT
 ·exact⟨tb,toff,e⟩
theorem told_cell{w:World}{so:Option Addr}{tb toff:Nat}{S:List Int}{T:List (List Int)}{f:At}(h:RdL w so (some ⟨tb,toff,none⟩) S T f)(i:Nat)(hi:i<T.length):w.cell? ⟨tb,toff+i,none⟩=some (.slice (f i).1 (T.getD i []).length (f i).2):=by
 rcases h.told with e | ⟨tb',off',e,_,hc⟩
 ·rw [e] at hi;simp at hi
 ·injection e with e;injection e with e e';subst e;subst e';exact hc i hi
theorem specLogOk(g off cap:Nat)(L:List K)(ao:Option Addr)(cc:Nat)(C:List Int)(so qo:Option Addr)(sc tc:Nat)(S:List Int)(T:List (List Int))(f:At)(w:World)(hcap:L.length≤cap)(hw:WordsOk L)(hg:g<w.heap.size)(hr:RdK w (some ⟨g,off,none⟩) L)(hC:C.length≤1048576)(hrd:Lst.Rd w ao C)(hao:∀c,ao=some ⟨c,0,none⟩→c<w.heap.size)(hlog:RdL w so qo S T f)(hS:S.length≤1048576)(hT:T.length≤1048576)(hTT:∀i,i<T.length→(T.getD i []).length≤1048576) :
   Calls Tryz.prog 26 #[.slice (some ⟨g,off,none⟩) L.length cap,.slice ao C.length cc,.agg #[.slice so S.length sc,.slice qo T.length tc]] w fun e w'=>e=.returned (.bool (logB L C S T))∧Below w.heap.size w w':=by
 have HTT:Hid (∀i,i<T.length→(T.getD i []).length≤1048576):=hTT;have HA0:Hid (Ask w (w.alloc (.cells #[.slice so S.length sc,.slice qo T.length tc] 43)) w.heap.size g off cap L ao cc C so qo sc tc S T f):=by
   have hb:Below w.heap.size w (w.alloc (.cells #[.slice so S.length sc,.slice qo T.length tc] 43)):=(Below.refl _ _).alloc (Nat.le_refl _) _;exact⟨hb,Nat.lt_of_lt_of_le hg hb.size,hr.below hb,Ch.rd_below hrd hao hb,fun c e=>Nat.lt_of_lt_of_le (hao c e) hb.size,hlog.below hb,by simp,by simp,by simp⟩
 have HLO:Hid (∀W:World,RdK W (some ⟨g,off,none⟩) L→Calls Tryz.prog 39 #[.slice (some ⟨g,off,none⟩) L.length cap] W fun e w'=>e=.returned (.bool (laceB L))∧Below W.heap.size W w'):=fun W h=>Lc.specLaceOk g off cap L W hcap hw h
 have HCO:Hid (∀W:World,Lst.Rd W ao C→Calls Tryz.prog 58 #[.slice ao C.length cc] W fun e w'=>e=.returned (.bool (Rm.coinsB C))∧W=w'):=fun W h=>(Rm.specCoinsOk ao cc C W hC h).mono fun _ _ q=>⟨q.1,by first | exact q.2 | exact q.2.symm⟩
 have HCL:Hid (∀(W:World) (s:Int),RdK W (some ⟨g,off,none⟩) L→Calls Tryz.prog 57 #[.slice (some ⟨g,off,none⟩) L.length cap,.int .i64 s] W fun e w'=>e=.returned (.bool (closedB L s))∧Below W.heap.size W w'):=fun W s h=>Sg.specClosed g off cap L s W hcap hw h
 clear hcap hw hg hr hrd hao hlog hTT;go_enter Tryz.func26,Tryz.ntmps26
 go_upto_region 1 with fail
 generalize w.alloc (.cells #[.slice so S.length sc,.slice qo T.length tc] 43)=W0 at HA0 ⊢;generalize w.heap.size=bx at HA0 ⊢;have b0:=HA0.out.b0;have b1:=HA0.out.b1;have HNO:Hid (∀P:Prop,(P→logB L C S T=false)→P→logB L C S T=false):=fun P h p=>h p
 clear HNO;by_cases h40:S.length≤40
 · have h40':decide ((40:Int)<(S.length:Int))=false:=by simp;omega
   by_cases hTS:T.length=S.length
   · have hTS':((T.length:Int) != (S.length:Int))=false:=by simp [hTS]
     have hcall:=HLO.out W0 HA0.out.rd
     cases hl:laceB L
     · have HT:Hid (logB L C S T=false):=by show _=_;unfold logB;rw [hl];simp
       rw [hl] at hcall;clear hl;go_wp2_with (first | (go_at_call 39;refine hcall.mono ?_;rintro e w1 ⟨rfl,hb1⟩))
       go_ret;exact⟨by rw [HT.out];rfl,(HA0.out.below hb1).bel⟩
     · rw [hl] at hcall;go_wp2_with (first | (go_at_call 39;refine hcall.mono ?_;rintro e w1 ⟨rfl,hb1⟩))
       have HA1:Hid (Ask w w1 bx g off cap L ao cc C so qo sc tc S T f):=HA0.out.below hb1;have hcc:=HCO.out w1 HA1.out.crd;clear hcall hb1 HA0 b0 b1
       cases hc:Rm.coinsB C
       · have HT:Hid (logB L C S T=false):=by show _=_;unfold logB;rw [hc];simp
         rw [hc] at hcc;clear hc hl;go_wp2_with (first | (go_at_call 58;refine hcc.mono ?_;rintro e w1 ⟨rfl,rfl⟩))
         go_ret;exact⟨by rw [HT.out];rfl,HA1.out.bel⟩
       · rw [hc] at hcc;have HY:Hid ((∀i,i<S.length→stepB L C S T i=true)→logB L C S T=true):=fun h=>log_yes h40 hTS hl hc h
         have HLC:Hid (laceB L=true):=hl;have HCN:Hid (Rm.coinsB C=true):=hc;clear hc hl;go_wp2_with (first | (go_at_call 58;refine hcc.mono ?_;rintro e w1 ⟨rfl,rfl⟩))
         clear hcc;go_loopw [7] (fun iv wr=>∃i:Nat,i≤S.length∧iv=.int .i64 i∧Hid (∀q,q<i→stepB L C S T q=true)∧Hid (Ask w wr bx g off cap L ao cc C so qo sc tc S T f)) (fun iv _=>S.length-(intOf iv).toNat)
         case atStart=>exact⟨0,by omega,rfl,fun q hq=>absurd hq (by omega),HA1⟩
         case round=>
           clear HA1;obtain⟨i,hi,rfl,HOK,HA⟩:=hrel;by_cases hil:i<S.length
           · have hT0:0<T.length:=by omega
             obtain⟨sb,rfl⟩:=seen_at HA.out.log (by omega);obtain⟨tb,toff,rfl⟩:=told_at HA.out.log hT0;have hii:(i:Int)<(S.length:Int):=by omega
             have hiT:(i:Int)<(T.length:Int):=by omega
             have HNO:Hid (stepB L C S T i=false→logB L C S T=false):=fun h=>log_no i hil h
             have b0:=HA.out.b0;go_upto_region 6 with fail
             clear b0;go_cut [79] from 31 to 94 (fun tv wx=>∃t:Bool,tv=.bool t∧Hid (t=true→stepB L C S T i=false)∧Hid (t=false→closedB L (S.getD i 0)=true∧stepB L C S T i=sameB (T.getD i []) (outL L C (S.getD i 0)))∧Hid (Ask w wx bx g off cap L ao cc C (some ⟨sb,0,none⟩) (some ⟨tb,toff,none⟩) sc tc S T f))
             case first=>
               cases hcl:closedB L (S.getD i 0)
               · have HF1:Hid (stepB L C S T i=false):=by show _=_;unfold stepB;rw [hcl];rfl
                 have HCI:Hid (∀W:World,RdK W (some ⟨g,off,none⟩) L→Calls Tryz.prog 57 #[.slice (some ⟨g,off,none⟩) L.length cap,.int .i64 (S.getD i 0)] W fun e w'=>e=.returned (.bool false)∧Below W.heap.size W w'):=fun W h=>by have:=HCL.out W (S.getD i 0) h;rwa [hcl] at this
                 clear hcl;obtain⟨X,_,F,HF,HG⟩:=Fam.fam wr;have HAF:Hid (∀z,Ask w (F z) bx g off cap L ao cc C (some ⟨sb,0,none⟩) (some ⟨tb,toff,none⟩) sc tc S T f):=fun z=>HA.out.below (HF.out z)
                 have hb0:∀z,(F z).cell? ⟨bx,0,none⟩=some (.slice (some ⟨sb,0,none⟩) S.length sc):=fun z=>(HAF.out z).b0
                 have hb1:∀z,(F z).cell? ⟨bx,1,none⟩=some (.slice (some ⟨tb,toff,none⟩) T.length tc):=fun z=>(HAF.out z).b1
                 have hs0:∀z,(F z).cell? ⟨sb,i,none⟩=some (.int .i64 (S.getD i 0)):=fun z=>seen_cell (HAF.out z).log i hil
                 clear HA;generalize S.getD i 0=si at hs0 HCI;refine Fam.region (F:=F) (by kernel_rfl) (by kernel_rfl) (HG.out _ (Below.refl _ wr).drew) ?_
                 repeat (go_big_quiet_step (first
                   | (go_at_call 57;exact(HCI.out _ (HAF.out _).rd).mono fun _ _ h=>⟨h.1,HG.out _ ((HF.out _).trans (h.2.mono (HF.out _).size))⟩)))
                 refine wpQuiet_nil ?_;intro w2 hw2;obtain⟨z,rfl⟩:=hw2;have HA2:Hid (Ask w (F z) bx g off cap L ao cc C (some ⟨sb,0,none⟩) (some ⟨tb,toff,none⟩) sc tc S T f):=HAF.out z;go_wp2_with fail
                 go_meet;exact⟨true,rfl,fun _=>HF1.out,fun h=>Bool.noConfusion h,HA2⟩
               · have HCI:Hid (∀W:World,RdK W (some ⟨g,off,none⟩) L→Calls Tryz.prog 57 #[.slice (some ⟨g,off,none⟩) L.length cap,.int .i64 (S.getD i 0)] W fun e w'=>e=.returned (.bool true)∧Below W.heap.size W w'):=fun W h=>by have:=HCL.out W (S.getD i 0) h;rwa [hcl] at this
                 have HCLD:Hid (closedB L (S.getD i 0)=true):=hcl;by_cases hi0:i=0
                 · subst hi0;have HF2:Hid (stepB L C S T 0=sameB (T.getD 0 []) (outL L C (S.getD 0 0))):=by show _=_;unfold stepB;rw [hcl];simp
                   clear hcl;rw [show((0:Nat):Int)=0 from rfl];obtain⟨X,_,F,HF,HG⟩:=Fam.fam wr;have HAF:Hid (∀z,Ask w (F z) bx g off cap L ao cc C (some ⟨sb,0,none⟩) (some ⟨tb,toff,none⟩) sc tc S T f):=fun z=>HA.out.below (HF.out z)
                   have hb0:∀z,(F z).cell? ⟨bx,0,none⟩=some (.slice (some ⟨sb,0,none⟩) S.length sc):=fun z=>(HAF.out z).b0
                   have hb1:∀z,(F z).cell? ⟨bx,1,none⟩=some (.slice (some ⟨tb,toff,none⟩) T.length tc):=fun z=>(HAF.out z).b1
                   have hs0:∀z,(F z).cell? ⟨sb,0,none⟩=some (.int .i64 (S.getD 0 0)):=fun z=>seen_cell (HAF.out z).log 0 hil
                   clear HA;generalize S.getD 0 0=si at hs0 HCI;refine Fam.region (F:=F) (by kernel_rfl) (by kernel_rfl) (HG.out _ (Below.refl _ wr).drew) ?_
                   repeat (go_big_quiet_step (first
                     | (go_at_call 57;exact(HCI.out _ (HAF.out _).rd).mono fun _ _ h=>⟨h.1,HG.out _ ((HF.out _).trans (h.2.mono (HF.out _).size))⟩)))
                   refine wpQuiet_nil ?_;intro w2 hw2;obtain⟨z,rfl⟩:=hw2;have HA2:Hid (Ask w (F z) bx g off cap L ao cc C (some ⟨sb,0,none⟩) (some ⟨tb,toff,none⟩) sc tc S T f):=HAF.out z;go_wp2_with fail
                   go_meet;exact⟨false,rfl,fun h=>Bool.noConfusion h,fun _=>⟨HCLD.out,HF2.out⟩,HA2⟩
                 · obtain⟨t,ht⟩:∃t:Nat,t=i-1:=⟨_,rfl⟩
                   have hit:(i:Int)-1=(t:Int):=by omega
                   have hi1:0<i:=by omega
                   have hig:decide ((0:Int)<(i:Int))=true:=by simp;omega
                   have htS:(t:Int)<(S.length:Int):=by omega
                   have htT:(t:Int)<(T.length:Int):=by omega
                   have HST:Hid (stepB L C S T i=((decide (bits .andNot .i64 (S.getD t 0) (S.getD i 0)=0)&&beginsB (T.getD i []) (T.getD t []))&&sameB (T.getD i []) (outL L C (S.getD i 0)))):=by show _=_;unfold stepB;rw [hcl,decide_eq_false hi0,ht];rfl
                   have hti:t<i:=by omega
                   clear ht hcl;by_cases hand0:bits .andNot .i64 (S.getD t 0) (S.getD i 0)=0
                   · have hand:(bits .andNot .i64 (S.getD t 0) (S.getD i 0) != 0)=false:=by simpa using hand0
                     cases hbg:beginsB (T.getD i []) (T.getD t [])
                     · have HF1:Hid (stepB L C S T i=false):=by show _=_;rw [HST.out,hbg];simp
                       clear HST hand0;obtain⟨X,_,F,HF,HG⟩:=Fam.fam wr;have HAF:Hid (∀z,Ask w (F z) bx g off cap L ao cc C (some ⟨sb,0,none⟩) (some ⟨tb,toff,none⟩) sc tc S T f):=fun z=>HA.out.below (HF.out z)
                       have hb0:∀z,(F z).cell? ⟨bx,0,none⟩=some (.slice (some ⟨sb,0,none⟩) S.length sc):=fun z=>(HAF.out z).b0
                       have hb1:∀z,(F z).cell? ⟨bx,1,none⟩=some (.slice (some ⟨tb,toff,none⟩) T.length tc):=fun z=>(HAF.out z).b1
                       have hs0:∀z,(F z).cell? ⟨sb,i,none⟩=some (.int .i64 (S.getD i 0)):=fun z=>seen_cell (HAF.out z).log i hil
                       have hs1:∀z,(F z).cell? ⟨sb,t,none⟩=some (.int .i64 (S.getD t 0)):=fun z=>seen_cell (HAF.out z).log t (by omega)
                       have ht0:∀z,(F z).cell? ⟨tb,toff+i,none⟩=some (.slice (f i).1 (T.getD i []).length (f i).2):=fun z=>told_cell (HAF.out z).log i (by omega)
                       have ht1:∀z,(F z).cell? ⟨tb,toff+t,none⟩=some (.slice (f t).1 (T.getD t []).length (f t).2):=fun z=>told_cell (HAF.out z).log t (by omega)
                       have HBG:Hid (∀z,Calls Tryz.prog 29 #[.slice (f i).1 (T.getD i []).length (f i).2,.slice (f t).1 (T.getD t []).length (f t).2] (F z) fun e w'=>e=.returned (.bool (beginsB (T.getD i []) (T.getD t [])))∧Below (F z).heap.size (F z) w'):=fun z=>Tl.specBegins _ _ _ _ _ _ _ (HTT.out i (by omega)) (HTT.out t (by omega)) ((HAF.out z).log.row i (by omega)) ((HAF.out z).log.row t (by omega))
                       rw [hbg] at HBG;clear hbg;generalize (T.getD i []).length=ni at ht0 HBG;generalize (T.getD t []).length=nt at ht1 HBG;generalize (f i).1=fi1 at ht0 HBG;generalize (f i).2=fi2 at ht0 HBG;generalize (f t).1=ft1 at ht1 HBG;generalize (f t).2=ft2 at ht1 HBG;clear HA;generalize S.getD i 0=si at hs0 HCI hand;generalize S.getD t 0=st at hs1 hand;refine Fam.region (F:=F) (by kernel_rfl) (by kernel_rfl) (HG.out _ (Below.refl _ wr).drew) ?_
                       repeat (go_big_quiet_step (first
                         | (go_at_call 57;exact(HCI.out _ (HAF.out _).rd).mono fun _ _ h=>⟨h.1,HG.out _ ((HF.out _).trans (h.2.mono (HF.out _).size))⟩)
                         | (go_at_call 29;exact(HBG.out _).mono fun _ _ h=>⟨h.1,HG.out _ ((HF.out _).trans (h.2.mono (HF.out _).size))⟩)))
                       refine wpQuiet_nil ?_;intro w2 hw2;obtain⟨z,rfl⟩:=hw2;have HA2:Hid (Ask w (F z) bx g off cap L ao cc C (some ⟨sb,0,none⟩) (some ⟨tb,toff,none⟩) sc tc S T f):=HAF.out z;go_wp2_with fail
                       go_meet;exact⟨true,rfl,fun _=>HF1.out,fun h=>Bool.noConfusion h,HA2⟩
                     · have HF2:Hid (stepB L C S T i=sameB (T.getD i []) (outL L C (S.getD i 0))):=by show _=_;rw [HST.out,hbg,decide_eq_true hand0];simp
                       clear HST hand0;obtain⟨X,_,F,HF,HG⟩:=Fam.fam wr;have HAF:Hid (∀z,Ask w (F z) bx g off cap L ao cc C (some ⟨sb,0,none⟩) (some ⟨tb,toff,none⟩) sc tc S T f):=fun z=>HA.out.below (HF.out z)
                       have hb0:∀z,(F z).cell? ⟨bx,0,none⟩=some (.slice (some ⟨sb,0,none⟩) S.length sc):=fun z=>(HAF.out z).b0
                       have hb1:∀z,(F z).cell? ⟨bx,1,none⟩=some (.slice (some ⟨tb,toff,none⟩) T.length tc):=fun z=>(HAF.out z).b1
                       have hs0:∀z,(F z).cell? ⟨sb,i,none⟩=some (.int .i64 (S.getD i 0)):=fun z=>seen_cell (HAF.out z).log i hil
                       have hs1:∀z,(F z).cell? ⟨sb,t,none⟩=some (.int .i64 (S.getD t 0)):=fun z=>seen_cell (HAF.out z).log t (by omega)
                       have ht0:∀z,(F z).cell? ⟨tb,toff+i,none⟩=some (.slice (f i).1 (T.getD i []).length (f i).2):=fun z=>told_cell (HAF.out z).log i (by omega)
                       have ht1:∀z,(F z).cell? ⟨tb,toff+t,none⟩=some (.slice (f t).1 (T.getD t []).length (f t).2):=fun z=>told_cell (HAF.out z).log t (by omega)
                       have HBG:Hid (∀z,Calls Tryz.prog 29 #[.slice (f i).1 (T.getD i []).length (f i).2,.slice (f t).1 (T.getD t []).length (f t).2] (F z) fun e w'=>e=.returned (.bool (beginsB (T.getD i []) (T.getD t [])))∧Below (F z).heap.size (F z) w'):=fun z=>Tl.specBegins _ _ _ _ _ _ _ (HTT.out i (by omega)) (HTT.out t (by omega)) ((HAF.out z).log.row i (by omega)) ((HAF.out z).log.row t (by omega))
                       rw [hbg] at HBG;clear hbg;generalize (T.getD i []).length=ni at ht0 HBG;generalize (T.getD t []).length=nt at ht1 HBG;generalize (f i).1=fi1 at ht0 HBG;generalize (f i).2=fi2 at ht0 HBG;generalize (f t).1=ft1 at ht1 HBG;generalize (f t).2=ft2 at ht1 HBG;clear HA;generalize S.getD i 0=si at hs0 HCI hand;generalize S.getD t 0=st at hs1 hand;refine Fam.region (F:=F) (by kernel_rfl) (by kernel_rfl) (HG.out _ (Below.refl _ wr).drew) ?_
                       repeat (go_big_quiet_step (first
                         | (go_at_call 57;exact(HCI.out _ (HAF.out _).rd).mono fun _ _ h=>⟨h.1,HG.out _ ((HF.out _).trans (h.2.mono (HF.out _).size))⟩)
                         | (go_at_call 29;exact(HBG.out _).mono fun _ _ h=>⟨h.1,HG.out _ ((HF.out _).trans (h.2.mono (HF.out _).size))⟩)))
                       refine wpQuiet_nil ?_;intro w2 hw2;obtain⟨z,rfl⟩:=hw2;have HA2:Hid (Ask w (F z) bx g off cap L ao cc C (some ⟨sb,0,none⟩) (some ⟨tb,toff,none⟩) sc tc S T f):=HAF.out z;go_wp2_with fail
                       go_meet;exact⟨false,rfl,fun h=>Bool.noConfusion h,fun _=>⟨HCLD.out,HF2.out⟩,HA2⟩
                   · have hand:(bits .andNot .i64 (S.getD t 0) (S.getD i 0) != 0)=true:=by simpa using hand0
                     have HF1:Hid (stepB L C S T i=false):=by show _=_;rw [HST.out,decide_eq_false hand0];simp
                     clear HST hand0;obtain⟨X,_,F,HF,HG⟩:=Fam.fam wr;have HAF:Hid (∀z,Ask w (F z) bx g off cap L ao cc C (some ⟨sb,0,none⟩) (some ⟨tb,toff,none⟩) sc tc S T f):=fun z=>HA.out.below (HF.out z)
                     have hb0:∀z,(F z).cell? ⟨bx,0,none⟩=some (.slice (some ⟨sb,0,none⟩) S.length sc):=fun z=>(HAF.out z).b0
                     have hb1:∀z,(F z).cell? ⟨bx,1,none⟩=some (.slice (some ⟨tb,toff,none⟩) T.length tc):=fun z=>(HAF.out z).b1
                     have hs0:∀z,(F z).cell? ⟨sb,i,none⟩=some (.int .i64 (S.getD i 0)):=fun z=>seen_cell (HAF.out z).log i hil
                     have hs1:∀z,(F z).cell? ⟨sb,t,none⟩=some (.int .i64 (S.getD t 0)):=fun z=>seen_cell (HAF.out z).log t (by omega)
                     clear HA;generalize S.getD i 0=si at hs0 HCI hand;generalize S.getD t 0=st at hs1 hand;refine Fam.region (F:=F) (by kernel_rfl) (by kernel_rfl) (HG.out _ (Below.refl _ wr).drew) ?_
                     repeat (go_big_quiet_step (first
                       | (go_at_call 57;exact(HCI.out _ (HAF.out _).rd).mono fun _ _ h=>⟨h.1,HG.out _ ((HF.out _).trans (h.2.mono (HF.out _).size))⟩)))
                     refine wpQuiet_nil ?_;intro w2 hw2;obtain⟨z,rfl⟩:=hw2;have HA2:Hid (Ask w (F z) bx g off cap L ao cc C (some ⟨sb,0,none⟩) (some ⟨tb,toff,none⟩) sc tc S T f):=HAF.out z;go_wp2_with fail
                     go_meet;exact⟨true,rfl,fun _=>HF1.out,fun h=>Bool.noConfusion h,HA2⟩
             case rest=>
               obtain⟨t,rfl,HT1,HT2,HA2⟩:=hcut;clear HA
               cases t
               · have HC2:=HT2.out (by first | rfl | trivial);obtain⟨hl2,s0,s1⟩:=closed_bd HC2.1;have HSS:Hid (stepB L C S T i=sameB (T.getD i []) (outL L C (S.getD i 0))):=HC2.2;have HOUT:Hid (∀W:World,Ask w W bx g off cap L ao cc C (some ⟨sb,0,none⟩) (some ⟨tb,toff,none⟩) sc tc S T f→Calls Tryz.prog 38 #[.slice (some ⟨g,off,none⟩) L.length cap,.slice ao C.length cc,.int .i64 (S.getD i 0)] W (NumsPost (outL L C (S.getD i 0)) W)):=fun W h=>l12OutA g off cap L ao cc C (S.getD i 0) W hl2 h.gl h.rd h.crd h.cat s0 s1
                 have hol:(outL L C (S.getD i 0)).length≤3660:=out_len HC2.1 HCN.out;have HSM:Hid (∀(W:World) (ro:Option Addr) (rc:Nat),Ask w W bx g off cap L ao cc C (some ⟨sb,0,none⟩) (some ⟨tb,toff,none⟩) sc tc S T f→Lst.Rd W ro (outL L C (S.getD i 0))→Calls Tryz.prog 59 #[.slice (f i).1 (T.getD i []).length (f i).2,.slice ro (outL L C (S.getD i 0)).length rc] W fun e w'=>e=.returned (.bool (sameB (T.getD i []) (outL L C (S.getD i 0))))∧Below W.heap.size W w'):=fun W ro rc h hro=>l15Same _ _ _ _ _ _ W (HTT.out i (by omega)) (by omega) (h.log.row i (by omega)) hro
                 have HCE:Hid (∀W:World,Ask w W bx g off cap L ao cc C (some ⟨sb,0,none⟩) (some ⟨tb,toff,none⟩) sc tc S T f→W.cell? ⟨bx,0,none⟩=some (.slice (some ⟨sb,0,none⟩) S.length sc)∧W.cell? ⟨bx,1,none⟩=some (.slice (some ⟨tb,toff,none⟩) T.length tc)∧W.cell? ⟨sb,i,none⟩=some (.int .i64 (S.getD i 0))∧W.cell? ⟨tb,toff+i,none⟩=some (.slice (f i).1 (T.getD i []).length (f i).2)):=fun W h=>⟨h.b0,h.b1,seen_cell h.log i hil,told_cell h.log i (by omega)⟩
                 clear HC2 hl2 s0 s1 HT1 HT2 hol;have HDR:Hid (Ask w wc.drew bx g off cap L ao cc C (some ⟨sb,0,none⟩) (some ⟨tb,toff,none⟩) sc tc S T f):=HA2.out.below (Below.refl _ _).drew;obtain⟨c0,c1,c2,c3⟩:=HCE.out wc HA2.out
                 cases hsm:sameB (T.getD i []) (outL L C (S.getD i 0))
                 · have HT:Hid (logB L C S T=false):=HNO.out (HSS.out.trans hsm);rw [hsm] at HSM;clear hsm HSS HNO HOK HCL HCO HLO HTT HY HA2;generalize S.getD i 0=si at HOUT HSM HCE c2;generalize (T.getD i []).length=ni at HSM HCE c3;generalize outL L C si=ol at HOUT HSM;generalize (f i).1=fi1 at HSM HCE c3;generalize (f i).2=fi2 at HSM HCE c3;go_wp2_with fail
                   go_region_held3 (fun W => W.cell? ⟨bx, 0, none⟩ = some (.slice (some ⟨sb, 0, none⟩) S.length sc) ∧ W.cell? ⟨bx, 1, none⟩ = some (.slice (some ⟨tb, toff, none⟩) T.length tc) ∧ W.cell? ⟨sb, i, none⟩ = some (.int .i64 si) ∧ W.cell? ⟨tb, toff + i, none⟩ = some (.slice fi1 ni fi2)) (first
                       | exact HCE.out _ HDR.out
                       | exact HCE.out _ A1
                       | exact HCE.out _ A2
                       | go_keep) (first
                     | (go_at_call 38
                        refine(HOUT.out _ HDR.out).mono ?_;rintro e V1 ⟨ro,rc,rfl,hO,hb1⟩;have A1:=HDR.out.below hb1;have hro:=Lst.own_rd hO;obtain⟨d0,d1,d2,d3⟩:=HCE.out V1 A1)
                     | (go_at_call 59
                        refine(HSM.out _ _ _ A1 hro).mono ?_;rintro e V2 ⟨rfl,hb2⟩;have A2:=A1.below hb2))
                   all_goals go_wp2
                   all_goals go_ret
                   all_goals exact⟨by rw [HT.out];rfl,A2.bel⟩
                 · have HOK2:Hid (∀q,q<i+1→stepB L C S T q=true):=fun q hq=>by
                     by_cases e:q=i
                     · subst e;exact HSS.out.trans hsm
                     · exact HOK.out q (by omega)
                   rw [hsm] at HSM;clear hsm HSS HNO HOK HCL HCO HLO HTT HY HA2;generalize S.getD i 0=si at HOUT HSM HCE c2;generalize (T.getD i []).length=ni at HSM HCE c3;generalize outL L C si=ol at HOUT HSM;generalize (f i).1=fi1 at HSM HCE c3;generalize (f i).2=fi2 at HSM HCE c3;go_wp2_with fail
                   go_region_held3 (fun W => W.cell? ⟨bx, 0, none⟩ = some (.slice (some ⟨sb, 0, none⟩) S.length sc) ∧ W.cell? ⟨bx, 1, none⟩ = some (.slice (some ⟨tb, toff, none⟩) T.length tc) ∧ W.cell? ⟨sb, i, none⟩ = some (.int .i64 si) ∧ W.cell? ⟨tb, toff + i, none⟩ = some (.slice fi1 ni fi2)) (first
                       | exact HCE.out _ HDR.out
                       | exact HCE.out _ A1
                       | exact HCE.out _ A2
                       | go_keep) (first
                     | (go_at_call 38
                        refine(HOUT.out _ HDR.out).mono ?_;rintro e V1 ⟨ro,rc,rfl,hO,hb1⟩;have A1:=HDR.out.below hb1;have hro:=Lst.own_rd hO;obtain⟨d0,d1,d2,d3⟩:=HCE.out V1 A1)
                     | (go_at_call 59
                        refine(HSM.out _ _ _ A1 hro).mono ?_;rintro e V2 ⟨rfl,hb2⟩;have A2:=A1.below hb2))
                   all_goals go_wp2
                   all_goals go_roundw
                   case rel=>exact⟨i+1,by omega,by go_num,HOK2,A2⟩
                   case measure=>simp [intOf];omega
               · have HT:Hid (logB L C S T=false):=HNO.out (by first | exact HT1.out rfl | exact HT1.out trivial);clear HT1 HT2 HNO HOK;go_wp2;go_ret;exact⟨by rw [HT.out];rfl,HA2.out.bel⟩
           · obtain rfl:i=S.length:=by omega
             have HT:Hid (logB L C S T=true):=HY.out HOK.out;have b0:=HA.out.b0;clear HOK;go_wp2;go_ret;exact⟨by rw [HT.out];rfl,HA.out.bel⟩
   · have HT:Hid (logB L C S T=false):=by show _=_;unfold logB;rw [decide_eq_false hTS];simp
     have hTS':((T.length:Int) != (S.length:Int))=true:=by simpa using (by omega:¬ (T.length:Int)=(S.length:Int))
     go_wp2_with fail
     go_ret;exact⟨by rw [HT.out];rfl,HA0.out.bel⟩
 · have HT:Hid (logB L C S T=false):=by show _=_;unfold logB;rw [decide_eq_false h40];simp
   have h40':decide ((40:Int)<(S.length:Int))=true:=by simp;omega
   go_wp2_with fail
   go_ret;exact⟨by rw [HT.out];rfl,HA0.out.bel⟩
end Lg
namespace Lg
open Kn (K okK)
open Sg (NumsPost)
theorem l1CopyN(w:World):Calls Tryz.prog 60 #[.slice none 0 0] w (NumsPost [] w):=by
 obtain⟨i0,hi,hz0,hz1,hz2⟩:=info_parts Memb.info2;have HB:Hid (Memb.Own w.heap.size (w.alloc (.cells #[] 2)) (some ⟨w.heap.size,0,none⟩) 0 []∧Below w.heap.size w (w.alloc (.cells #[] 2))):=⟨Memb.own_empty w,(Below.refl _ _).alloc (Nat.le_refl _) _⟩
 go_enter Tryz.func60,Tryz.ntmps60
 go_wp2_with (at_builtin;refine wpList_append_own_none rfl _ _ 25 rfl w.heap.size 2 i0 1 Tryz.underlying25 hi _ 0 [] rfl (Memb.own_empty w) rfl ?_)
 go_ret;exact⟨_,0,rfl,HB.out.1,HB.out.2⟩
theorem l1CopyE(ad:Addr)(cap:Nat)(w:World):Calls Tryz.prog 60 #[.slice (some ad) 0 cap] w (NumsPost [] w):=by
 obtain⟨i0,hi,hz0,hz1,hz2⟩:=info_parts Memb.info2;go_enter Tryz.func60,Tryz.ntmps60
 go_wp2_with (at_builtin;refine wpList_append_own _ rfl _ _ 25 rfl w.heap.size 2 i0 (.int .i64 0) 1 8 Tryz.underlying25 hi hz0 hz1 hz2 rfl (by decide) _ 0 [] rfl (Memb.own_empty w) ad 0 cap [] rfl rfl (fun j u h=>by simp at h) (fun u h=>by simp at h) ?c3 ?c4 ?c5 ?_)
 case c3=>unfold maxLen;omega
 case c4=>omega
 case c5=>simp
 intro v' w5 hown' hgrow _;have HR:Hid (w5.ownsRow w.heap.size 2 1 v' ([]:List Int).length (([]:List Int).map (Value.int .i64))∧Below w.heap.size w w5):=
  ⟨by simpa using hown',((Below.refl w.heap.size w).alloc (Nat.le_refl _) _).grown hgrow (by simp) (fun i hi=>by simp [Value.ownBlock] at hi;omega)⟩
 clear hown' hgrow hi hz0 hz1 hz2;obtain⟨ao,ca,hv,ho⟩:=Memb.own_shape HR.out.1;subst hv;go_wp2;go_ret;exact⟨ao,ca,rfl,ho,HR.out.2⟩
theorem l1CopyA(ao:Option Addr)(cap:Nat)(l:List Int)(w:World)(hl:l.length≤1048576)(hrd:Lst.Rd w ao l)(hat:∀c,ao=some ⟨c,0,none⟩→c<w.heap.size)(hn:ao=none→cap=0):Calls Tryz.prog 60 #[.slice ao l.length cap] w (NumsPost l w):=by
 rcases hrd with e | ⟨g,e,hc⟩
 ·subst e
  cases ao with
  | none=>rw [hn rfl];exact l1CopyN w
  | some ad=>exact l1CopyE ad cap w
 ·subst e;exact Rm.l1Copy g cap l w hl (hat g rfl) (.inr ⟨g,rfl,hc⟩)
def lastB(T:List (List Int)):List Int:=T.getD (T.length-1) []
theorem lastTold0(so qo:Option Addr)(sc tc:Nat)(S:List Int)(w:World):Calls Tryz.prog 28 #[.agg #[.slice so S.length sc,.slice qo 0 tc]] w (NumsPost [] w):=by
 have HB:Hid (Below w.heap.size w (w.alloc (.cells #[.slice so S.length sc,.slice qo 0 tc] 43))∧(w.alloc (.cells #[.slice so S.length sc,.slice qo 0 tc] 43)).cell? ⟨w.heap.size,1,none⟩=some (.slice qo 0 tc)):=⟨(Below.refl _ _).alloc (Nat.le_refl _) _,by simp⟩
 have HP:Hid _:=Ch.nums_nil HB.out.1;go_enter Tryz.func28,Tryz.ntmps28
 go_upto_region 1 with fail
 generalize w.alloc (.cells #[.slice so S.length sc,.slice qo 0 tc] 43)=W at HB HP ⊢;have c1:=HB.out.2;go_wp2;go_ret;exact⟨_,0,rfl,HP.out.1,HP.out.2⟩
theorem specLastTold(so qo:Option Addr)(sc tc:Nat)(S:List Int)(T:List (List Int))(f:At)(w:World)(hlog:RdL w so qo S T f)(hN:∀i,i<T.length→(f i).1=none→(f i).2=0)(hT:T.length≤1048576)(hTT:∀i,i<T.length→(T.getD i []).length≤1048576) :
  Calls Tryz.prog 28 #[.agg #[.slice so S.length sc,.slice qo T.length tc]] w (NumsPost (lastB T) w):=by
 have hb:Below w.heap.size w (w.alloc (.cells #[.slice so S.length sc,.slice qo T.length tc] 43)):=(Below.refl _ _).alloc (Nat.le_refl _) _;have HB:Hid (Below w.heap.size w (w.alloc (.cells #[.slice so S.length sc,.slice qo T.length tc] 43))∧(w.alloc (.cells #[.slice so S.length sc,.slice qo T.length tc] 43)).cell? ⟨w.heap.size,1,none⟩=some (.slice qo T.length tc)):=⟨hb,by simp⟩
 have HL:Hid (RdL (w.alloc (.cells #[.slice so S.length sc,.slice qo T.length tc] 43)) so qo S T f):=hlog.below hb;clear hb hlog;by_cases h0:T.length=0
 ·obtain rfl:T=[]:=List.length_eq_zero_iff.1 h0;exact lastTold0 so qo sc tc S w
 ·have h0':((T.length:Int) == 0)=false:=by simpa using (by omega:¬ (T.length:Int)=0)
  obtain⟨t,ht⟩:∃t:Nat,t=T.length-1:=⟨_,rfl⟩
  have htT:(T.length:Int)-1=(t:Int):=by omega
  have hlt:(t:Int)<(T.length:Int):=by omega
  obtain⟨tb,toff,rfl⟩:=told_at HL.out (by omega);have HT:Hid (lastB T=T.getD t []):=by show _=_;unfold lastB;rw [ht]
  have HC:Hid (_):=told_cell HL.out t (by omega);have hcall:=l1CopyA (f t).1 (f t).2 (T.getD t []) _ (hTT t (by omega)) (HL.out.row t (by omega)) (HL.out.rowB t (by omega)) (hN t (by omega));clear hN hTT HL ht;generalize T.getD t []=tl at HT HC hcall;generalize (f t).1=f1 at HC hcall;generalize (f t).2=f2 at HC hcall;go_enter Tryz.func28,Tryz.ntmps28
  go_upto_region 1 with fail
  generalize w.alloc (.cells #[.slice so S.length sc,.slice (some ⟨tb,toff,none⟩) T.length tc] 43)=W at HB HC hcall ⊢;have c1:=HB.out.2;have c2:=HC.out;go_wp2_with fail
  refine hcall.mono ?_;rintro e w2 ⟨ro,rc,rfl,hown,hb2⟩;have HP:Hid (Memb.Own w.heap.size w2 ro rc tl∧Below w.heap.size w w2):=⟨Ch.own_base hown HB.out.1.size,HB.out.1.trans (hb2.mono HB.out.1.size)⟩
  clear hcall hown hb2;go_wp2;go_ret;rw [HT.out];exact⟨ro,rc,rfl,HP.out.1,HP.out.2⟩
end Lg
namespace Lg
open Kn (K okK)
open Sg (NumsPost)
theorem step_own_at{P:Program}{ops:Array Oper}{o:Oper}{a:Act}{w:World}{K:Act→World→Prop}{Q:Exit→Act→World→Prop}{E:Prop}
  (hg:o.guard=none) (s x:Operand) (t:TypeId) (hop:o.op=Op.call { callee:=Callee.builtin Builtin.append,args:=#[s,x],argTypes:=#[t,t] })
  (base:Nat) (e:TypeId) (i:TypeInfo) (z:Value) (size bytes:Nat) (ht:P.underlying t=some (.slice e)) (hi:P.info? e=some i) (hz:i.zero=some z) (hsize:i.size=size) (hby:i.bytes=bytes) (hzs:z.cells.size=size) (hsz:0<size)
  (v:Value) (n:Nat) (xs:List Value) (hs:a.eval s=v) (hown:w.ownsRow base e size v n xs)
  (ad:Addr) (m c:Nat) (news:List Value) (hx:a.eval x=.slice (some ad) m c) (hl:news.length=m*size) (hnews:∀j u,news[j]? = some u→w.cell? (ad.add j)=some u) (h1:∀u∈news,u.oneCell'=true)
  (h63:n+m≤maxLen) (hbytes:(n+m)*bytes≤140737488355328) (hbase:base≤w.heap.size)
  (hK:∀v' w',w'.ownsRow base e size v' (n+m) (xs++news)→w.grownBy w' v.ownBlock→(v'.ownBlock=v.ownBlock∨v'.ownBlock=some w.heap.size)→K (a.put o.dst v') w') :
  if Region.wanted o (yielded ops a.tmps)=true then Oper.wp P o a w K Q else E:=by
 rw [if_pos (by simp [Region.wanted,hg])];obtain⟨v',w',hr,h2,h3,_,h5⟩:=run_append_own_at (P:=P) w base t o.type e i z size bytes ht hi hz hsize hby hzs hsz v n xs hown ad m c news hl hnews h1 h63 hbytes hbase;unfold Oper.wp execOp;simp only [hop,resolve,invoke,builtin,Sem.run_bind,Sem.run_pure,Result.andThen_ok,List.map_toArray,List.map_cons,List.map_nil,hs,hx,hr];exact hK v' w' h2 h3 h5
def vals(f:At)(T:List (List Int)):List Value:=(List.range T.length).map fun i=>.slice (f i).1 (T.getD i []).length (f i).2
theorem vals_len(f:At)(T:List (List Int)):(vals f T).length=T.length:=by simp [vals]
theorem vals_get(f:At)(T:List (List Int))(i:Nat)(hi:i<T.length):(vals f T)[i]? = some (.slice (f i).1 (T.getD i []).length (f i).2):=by simp [vals,hi]
structure OwnLL(B:Nat)(W:World)(v:Value)(T:List (List Int))(f:At):Prop where
 row:W.ownsRow B 25 1 v T.length (vals f T)
 each:∀i,i<T.length→Memb.Own B W (f i).1 (f i).2 (T.getD i [])
 ap:∀i j,i<j→j<T.length→∀g,(f i).1=some ⟨g,0,none⟩→(f j).1≠some ⟨g,0,none⟩
theorem getD_snoc(T:List (List Int))(l:List Int)(i:Nat)(hi:i<T.length):(T++[l]).getD i []=T.getD i []:=by
 simp [List.getD,List.getElem?_append_left hi]
theorem getD_last(T:List (List Int))(l:List Int):(T++[l]).getD T.length []=l:=by simp [List.getD]
def put(f:At)(n:Nat)(a:Option Addr × Nat):At:=fun i=>if i=n then a else f i
theorem vals_snoc(f:At)(T:List (List Int))(l:List Int)(a:Option Addr × Nat):vals (put f T.length a) (T++[l])=vals f T++[.slice a.1 l.length a.2]:=by
 unfold vals;rw [List.length_append,List.length_singleton,List.range_succ,List.map_append,List.map_singleton];congr 1
 ·apply List.map_congr_left;intro i hi;have hi':=List.mem_range.1 hi;unfold put;rw [if_neg (by omega),getD_snoc T l i hi']
 ·unfold put;rw [if_pos rfl,getD_last]
theorem infoS:(Tryz.prog.info? 25).map (fun i=>(i.zero,i.size,i.bytes))=some (some (.slice none 0 0),1,24):=by kernel_rfl
theorem one_newV(W:World)(v:Value)(t:TypeId):∀(j:Nat) u,([v])[j]? = some u→(W.alloc (.cells #[v] t)).cell? ((⟨W.heap.size,0,none⟩:Addr).add j)=some u:=by
 intro q u hq;match q,hq with
 | 0,hq=>simp at hq;subst hq;simp [Addr.add]
theorem one_sl(a:Option Addr)(n c:Nat):∀u∈[Value.slice a n c],u.oneCell'=true:=by
 intro u hu;simp at hu;subst hu;rfl
theorem own_kept{B:Nat}{w w':World}{a:Option Addr}{c:Nat}{l:List Int}{r:Option Nat}(h:Memb.Own B w a c l)(hg:w.grownBy w' r)(hne:∀g,a=some ⟨g,0,none⟩→r≠some g):Memb.Own B w' a c l:=by
 refine World.ownsRow.kept h hg ?_;rcases h.2 with⟨e,_⟩ | ⟨g,cap,cur,e,_⟩
 ·rw [e];exact .inl rfl
 ·right
  injection e with e1 _ _;subst e1;intro q;exact hne g rfl q.symm
theorem own_lift{B B':Nat}{w:World}{a:Option Addr}{c:Nat}{l:List Int}(h:Memb.Own B w a c l)(hb:B'≤B):Memb.Own B' w a c l:=Ch.own_base h hb
theorem gr_one(w:World)(g j:Nat)(v:Value):w.grownBy (w.setCell ⟨g,j,none⟩ v) (some g):=by
 refine⟨rfl,rfl,rfl,by simp,fun k hk hne=>?_⟩;exact Below.heap_setCell w ⟨g,j,none⟩ v k (fun e=>hne (by rw [e]))
structure CpSt(w wr:World)(rb xb:Nat)(so qo:Option Addr)(sc tc:Nat)(S:List Int)(T:List (List Int))(f:At)(so1:Option Addr)(sc1:Nat)(vo:Option Addr)(vc:Nat)(i:Nat)(h:At):Prop where
 bel:Below w.heap.size w wr
 o1:w.heap.size<rb
 o2:rb<xb
 lt:xb<wr.heap.size
 b1:wr.cell? ⟨w.heap.size,1,none⟩=some (.slice qo T.length tc)
 r:(∃u,wr.cell? ⟨rb,0,none⟩=some u)∧(∃u,wr.cell? ⟨rb,1,none⟩=some u)∧wr.frozen? ⟨rb,0,none⟩=false∧wr.frozen? ⟨rb,1,none⟩=false
 x0:wr.cell? ⟨xb,0,none⟩=some (.slice so1 S.length sc1)
 x1:wr.cell? ⟨xb,1,none⟩=some (.slice vo i vc)
 fx:wr.frozen? ⟨xb,0,none⟩=false∧wr.frozen? ⟨xb,1,none⟩=false
 own:Memb.Own (rb+1) wr so1 sc1 S
 far:∀g,so1=some ⟨g,0,none⟩→g<xb
 ll:OwnLL (xb+1) wr (.slice vo i vc) (T.take i) h
theorem CpSt.below{w wr wr':World}{rb xb:Nat}{so qo:Option Addr}{sc tc:Nat}{S:List Int}{T:List (List Int)}{f:At}{so1:Option Addr}{sc1:Nat}{vo:Option Addr}{vc i:Nat}{h:At}(s:CpSt w wr rb xb so qo sc tc S T f so1 sc1 vo vc i h)(hb:Below wr.heap.size wr wr'):CpSt w wr' rb xb so qo sc tc S T f so1 sc1 vo vc i h:=by
 have hlt:=s.lt;have h1:=s.o1;have h2:=s.o2;have hc:∀b j,b≤xb→wr'.cell? ⟨b,j,none⟩=wr.cell? ⟨b,j,none⟩:=fun b j hb'=>hb.cell (p:=⟨b,j,none⟩) (show b<wr.heap.size by omega)
 have hf:∀b j,b≤xb→wr'.frozen? ⟨b,j,none⟩=wr.frozen? ⟨b,j,none⟩:=fun b j hb'=>World.frozen?_of_block (a:=⟨b,j,none⟩) (hb.block b (by omega))
 have hg:wr.grownBy wr' none:=⟨hb.os,hb.tape,hb.output,hb.size,fun k hk _=>hb.block k hk⟩
 obtain⟨⟨u0,q0⟩,⟨u1,q1⟩,q2,q3⟩:=s.r;refine⟨s.bel.trans (hb.mono s.bel.size),h1,h2,Nat.lt_of_lt_of_le hlt hb.size,(hc _ 1 (by omega)).trans s.b1,⟨⟨u0,(hc _ 0 (by omega)).trans q0⟩,⟨u1,(hc _ 1 (by omega)).trans q1⟩,(hf _ 0 (by omega)).trans q2,(hf _ 1 (by omega)).trans q3⟩,(hc _ 0 (by omega)).trans s.x0,(hc _ 1 (by omega)).trans s.x1,⟨(hf _ 0 (by omega)).trans s.fx.1,(hf _ 1 (by omega)).trans s.fx.2⟩,own_kept s.own hg (fun g e q=>by cases q),s.far,⟨?_,fun j hj=>own_kept (s.ll.each j hj) hg (fun g e q=>by cases q),s.ll.ap⟩⟩;exact World.ownsRow.kept s.ll.row hg (by cases hv:(Value.slice vo i vc).ownBlock <;> simp)
theorem rows_apart{B B':Nat}{W:World}{a:Option Addr}{c:Nat}{l:List Int}{v:Value}{n:Nat}{xs:List Value}(h:Memb.Own B W a c l)(k:W.ownsRow B' 25 1 v n xs):∀g,a=some ⟨g,0,none⟩→v.ownBlock≠some g:=by
 intro g e q;subst e;rcases h.2 with⟨e,_⟩ | ⟨g1,c1,cur1,e1,_,hg1,_⟩
 ·injection e with e _ _;cases e
 ·injection e1 with e1 _ _;injection e1 with e1;injection e1 with e1;subst e1;rcases k.2 with⟨e2,_⟩ | ⟨g2,c2,cur2,e2,_,hg2,_⟩
  ·rw [e2] at q;simp [Value.ownBlock] at q
  ·rw [e2] at q;simp [Value.ownBlock] at q;subst q;rw [hg1] at hg2;simp at hg2
theorem cp_step{w wr V1 V3:World}{rb xb:Nat}{so qo:Option Addr}{sc tc:Nat}{S:List Int}{T:List (List Int)}{f:At}{so1:Option Addr}{sc1:Nat}{vo:Option Addr}{vc i:Nat}{h:At}{ro:Option Addr}{rc:Nat}{o:Obj}{v3:Value}(s:CpSt w wr rb xb so qo sc tc S T f so1 sc1 vo vc i h)(hi:i<T.length)(hb1:Below wr.heap.size wr V1)(hO:Memb.Own wr.heap.size V1 ro rc (T.getD i []))
  (h3:V3.ownsRow (xb+1) 25 1 v3 (i+1) (vals h (T.take i)++[.slice ro (T.getD i []).length rc])) (hg:(V1.alloc o).grownBy V3 (Value.slice vo i vc).ownBlock) :
  ∃vo3 vc3,v3=.slice vo3 (i+1) vc3∧CpSt w (V3.setCell ⟨xb,1,none⟩ (.slice vo3 (i+1) vc3)) rb xb so qo sc tc S T f so1 sc1 vo3 vc3 (i+1) (put h i (ro,rc))∧V3.cell? ⟨xb,1,none⟩=some (.slice vo i vc)∧V3.frozen? ⟨xb,1,none⟩=false∧Below w.heap.size w V3∧V3.cell? ⟨w.heap.size,1,none⟩=some (.slice qo T.length tc):=by
 have sA:=(s.below hb1).below ((Below.refl _ V1).alloc (Nat.le_refl _) o);have hlt:=sA.lt;have h1:=sA.o1;have h2:=sA.o2;have hrow:∀k,(Value.slice vo i vc).ownBlock=some k→xb+1≤k:=fun k hk=>(World.ownsRow.lt sA.ll.row k hk).1
 have hblk:∀b,b≤xb→V3.heap[b]? = (V1.alloc o).heap[b]?:=fun b hb=>hg.block b (by omega) (fun e=>by have:=hrow b e.symm;omega)
 have hc:∀b j,b≤xb→V3.cell? ⟨b,j,none⟩=(V1.alloc o).cell? ⟨b,j,none⟩:=fun b j hb=>World.cell?_of_block (a:=⟨b,j,none⟩) (hblk b hb)
 have hf:∀b j,b≤xb→V3.frozen? ⟨b,j,none⟩=(V1.alloc o).frozen? ⟨b,j,none⟩:=fun b j hb=>World.frozen?_of_block (a:=⟨b,j,none⟩) (hblk b hb)
 have hlen:(T.take i).length=i:=by simp;omega
 obtain⟨g3,c3,e3⟩:∃g3 c3,v3=.slice (some ⟨g3,0,none⟩) (i+1) c3:=by
  rcases h3.2 with⟨_,e⟩ | ⟨g,c,cur,e,_⟩
  ·omega
  ·exact⟨g,c,e⟩
 subst e3;have hgS:=gr_one V3 xb 1 (.slice (some ⟨g3,0,none⟩) (i+1) c3);have hbel:Below w.heap.size w V3:=sA.bel.grown hg sA.bel.size (fun k hk=>by have:=hrow k hk;omega);have hOA:Memb.Own (xb+1) (V1.alloc o) ro rc (T.getD i []):=own_lift (own_kept hO (World.grownBy_alloc V1 o none) (fun g e q=>by cases q)) (by have:=s.lt;omega);have hO3:Memb.Own (xb+1) V3 ro rc (T.getD i []):=own_kept hOA hg (rows_apart hOA sA.ll.row);have hE3:∀j,j<(T.take i).length→Memb.Own (xb+1) V3 (h j).1 (h j).2 ((T.take i).getD j []):=fun j hj=>own_kept (sA.ll.each j hj) hg (rows_apart (sA.ll.each j hj) sA.ll.row)
 have hS3:Memb.Own (rb+1) V3 so1 sc1 S:=own_kept sA.own hg (fun g e q=>by have:=sA.far g e;have:=hrow g q;omega);have x1':V3.cell? ⟨xb,1,none⟩=some (.slice vo i vc):=(hc xb 1 (Nat.le_refl _)).trans sA.x1;have f1':V3.frozen? ⟨xb,1,none⟩=false:=(hf xb 1 (Nat.le_refl _)).trans sA.fx.2;obtain⟨⟨u0,q0⟩,⟨u1,q1⟩,q2,q3⟩:=sA.r;have hk:∀b j,b≠xb→(V3.setCell ⟨xb,1,none⟩ (.slice (some ⟨g3,0,none⟩) (i+1) c3)).cell? ⟨b,j,none⟩=V3.cell? ⟨b,j,none⟩:=fun b j hb=>World.cell?_of_block (a:=⟨b,j,none⟩) (Below.heap_setCell V3 ⟨xb,1,none⟩ _ b hb)
 have hkf:∀b j,(V3.setCell ⟨xb,1,none⟩ (.slice (some ⟨g3,0,none⟩) (i+1) c3)).frozen? ⟨b,j,none⟩=V3.frozen? ⟨b,j,none⟩:=fun b j=>by simp
 refine⟨_,_,rfl,⟨?_,h1,h2,?_,?_,⟨⟨u0,?_⟩,⟨u1,?_⟩,?_,?_⟩,?_,?_,⟨?_,?_⟩,?_,sA.far,⟨?_,?_,?_⟩⟩,x1',f1',hbel,(hc _ 1 (by omega)).trans sA.b1⟩
 ·exact hbel.setCell (p:=⟨xb,1,none⟩) (show w.heap.size≤xb by omega) _
 ·have:=hg.size;simp at this ⊢;have:=s.lt;have:=hb1.size;omega
 ·exact(hk _ 1 (by omega)).trans ((hc _ 1 (by omega)).trans sA.b1)
 ·exact(hk _ 0 (by omega)).trans ((hc _ 0 (by omega)).trans q0)
 ·exact(hk _ 1 (by omega)).trans ((hc _ 1 (by omega)).trans q1)
 ·exact(hkf _ 0).trans ((hf _ 0 (by omega)).trans q2)
 ·exact(hkf _ 1).trans ((hf _ 1 (by omega)).trans q3)
 ·exact(World.cell?_setCell_other _ _ _ _ (by intro e;simp at e)).trans ((hc xb 0 (Nat.le_refl _)).trans sA.x0)
 ·exact World.cell?_setCell_same _ _ _ x1'
 ·exact(hkf _ 0).trans ((hf _ 0 (Nat.le_refl _)).trans sA.fx.1)
 ·exact(hkf _ 1).trans f1'
 ·exact own_kept hS3 hgS (fun g e q=>by injection q with q;have:=sA.far g e;omega)
 ·have e:T.take (i+1)=T.take i++[T.getD i []]:=by
   rw [List.take_add_one];congr 1;simp [List.getD,List.getElem?_eq_getElem hi]
  rw [e];have hv:=vals_snoc h (T.take i) (T.getD i []) (ro,rc);rw [hlen] at hv;rw [hv,List.length_append,hlen,List.length_singleton];refine World.ownsRow.kept h3 hgS (.inr ?_);intro q;have:=World.ownsRow.lt h3 g3 rfl;simp [Value.ownBlock] at q;omega
 ·intro j hj;have e:T.take (i+1)=T.take i++[T.getD i []]:=by
   rw [List.take_add_one];congr 1;simp [List.getD,List.getElem?_eq_getElem hi]
  rw [e] at hj ⊢;rw [List.length_append,hlen,List.length_singleton] at hj;unfold put;have far':∀{a:Option Addr} {c:Nat} {l:List Int},Memb.Own (xb+1) V3 a c l→Memb.Own (xb+1) (V3.setCell ⟨xb,1,none⟩ (.slice (some ⟨g3,0,none⟩) (i+1) c3)) a c l:=fun {a c l} ho=>own_kept ho hgS (fun g eg q=>by subst eg;injection q with q;have:=(World.ownsRow.lt ho g rfl).1;omega)
  by_cases ej:j=i
  ·subst ej;rw [if_pos rfl];have:=getD_last (T.take j) (T.getD j []);rw [hlen] at this;rw [this];exact far' hO3
  ·rw [if_neg ej,getD_snoc _ _ j (by rw [hlen];omega)];exact far' (hE3 j (by rw [hlen];omega))
 ·intro j k hjk hkl g ej ek;have hkl':k<i+1:=by simp at hkl;omega
  unfold put at ej ek;rw [if_neg (by omega)] at ej;by_cases e:k=i
  ·rw [if_pos e] at ek;have hlo:g<wr.heap.size:=by
    have:=s.ll.each j (by rw [hlen];omega);rw [ej] at this;exact(World.ownsRow.lt this g rfl).2
   have hhi:wr.heap.size≤g:=by
    have ek':ro=some ⟨g,0,none⟩:=ek;subst ek';exact(World.ownsRow.lt hO g rfl).1
   omega
  ·rw [if_neg e] at ek;exact s.ll.ap j k hjk (by rw [hlen];omega) g ej ek
end Lg
end Go.Proofs.YtbkeldfbllhlbaaGreat
