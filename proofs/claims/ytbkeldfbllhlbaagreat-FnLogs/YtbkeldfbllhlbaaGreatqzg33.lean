/-
 The walk of the program's recordOf.
-/
import Derived.Test.YtbkeldfbllhlbaaGreatqzg32
set_option linter.unusedVariables false
set_option maxRecDepth 100000
set_option maxHeartbeats 6400000
namespace Go.Proofs.YtbkeldfbllhlbaaGreat
open Go.RowKit
section
open Go.RowKit Go.Shelf
attribute [local go_sem] Oper.semAt_some
namespace Lo
open Kn (K okK)
open Lc (at' RdK WordsOk laceB)
open Lg (At sameB)
open Sg (closedB NumsPost)
open Tl (outL beginsB)
theorem logged(g off cap:Nat)(L:List K)(C:List Int)(s:Int)(rv:Value)(n:Nat)(u:Int)(l:List Int)(w:World)(hlc:laceB L=true)(hc:Rm.coinsB C=true)(hg:g<w.heap.size)(hr:RdK w (some ⟨g,off,none⟩) L)(hs0:-9223372036854775808≤s)(hs1:s≤9223372036854775807)(hrec:Rec w rv n u l)(hl20:l.length≤1048576) :
  Calls Tryz.prog 55 #[.slice (some ⟨g,off,none⟩) L.length cap,.agg #[.int .i64 (Ch.leadI C 0),.int .i64 (Ch.leadI C 1),.int .i64 (Ch.leadI C 2),.int .i64 (Ch.leadI C 3),.int .i64 (Ch.leadI C 4),.int .i64 (Ch.leadI C 5),.int .i64 (Ch.leadI C 6)],rv,.int .i64 s] w (LoggedP L C rv n u l s w):=by
 have HB0:Hid (Below w.heap.size w (w.alloc (.cells #[.int .i64 (Ch.leadI C 0),.int .i64 (Ch.leadI C 1),.int .i64 (Ch.leadI C 2),.int .i64 (Ch.leadI C 3),.int .i64 (Ch.leadI C 4),.int .i64 (Ch.leadI C 5),.int .i64 (Ch.leadI C 6)] 58))):=(Below.refl _ _).alloc (Nat.le_refl _) _;have HRW:Hid (Db.RowI (w.alloc (.cells #[.int .i64 (Ch.leadI C 0),.int .i64 (Ch.leadI C 1),.int .i64 (Ch.leadI C 2),.int .i64 (Ch.leadI C 3),.int .i64 (Ch.leadI C 4),.int .i64 (Ch.leadI C 5),.int .i64 (Ch.leadI C 6)] 58)) w.heap.size 7 (fun i=>Ch.leadI C (i:Int))):=Ch.rowI_seven w 58 (fun i=>Ch.leadI C (i:Int));have HCL:Hid (∀W:World,Below w.heap.size w W→Calls Tryz.prog 32 #[.slice (some ⟨g,off,none⟩) L.length cap,.int .i64 s] W fun e w'=>e=.returned (.bool (closedB L s))∧Below W.heap.size W w'):=fun W hW=>by
  have:=Sg.closed g off cap L s W hlc hs0 hs1 (Nat.lt_of_lt_of_le hg hW.size) (hr.below hW);rwa [Sg.closedB_eq L s hlc] at this
 have HOU:Hid (closedB L s=true→∀W:World,Below w.heap.size w W→Calls Tryz.prog 33 #[.slice (some ⟨g,off,none⟩) L.length cap,.agg #[.int .i64 (Ch.leadI C 0),.int .i64 (Ch.leadI C 1),.int .i64 (Ch.leadI C 2),.int .i64 (Ch.leadI C 3),.int .i64 (Ch.leadI C 4),.int .i64 (Ch.leadI C 5),.int .i64 (Ch.leadI C 6)],.int .i64 s] W (NumsPost (outL L C s) W)):=fun hq W hW=>Tp.out g off cap L C s W hlc hc hq (Nat.lt_of_lt_of_le hg hW.size) (hr.below hW)
 have HOL:Hid (closedB L s=true→(outL L C s).length≤3660):=fun hq=>Lg.out_len hq hc
 generalize hv:w.alloc (.cells #[.int .i64 (Ch.leadI C 0),.int .i64 (Ch.leadI C 1),.int .i64 (Ch.leadI C 2),.int .i64 (Ch.leadI C 3),.int .i64 (Ch.leadI C 4),.int .i64 (Ch.leadI C 5),.int .i64 (Ch.leadI C 6)] 58)=V at HB0 HRW;have HV:Hid (w.alloc (.cells #[.int .i64 (Ch.leadI C 0),.int .i64 (Ch.leadI C 1),.int .i64 (Ch.leadI C 2),.int .i64 (Ch.leadI C 3),.int .i64 (Ch.leadI C 4),.int .i64 (Ch.leadI C 5),.int .i64 (Ch.leadI C 6)] 58)=V):=hv;have HRV:Hid (Rec V rv n u l):=by
  rcases hrec with h | ⟨t,x,ao,c,h1,h2,h3,h4⟩
  ·exact .inl h
  ·exact .inr ⟨t,x,ao,c,h1,h2,Ch.rd_below h3 h4 HB0.out,fun g e=>Nat.lt_of_lt_of_le (h4 g e) HB0.out.size⟩
 clear hv hlc hc hg hr hrec;obtain⟨q,hq⟩:∃q:Int,q=(n:Int):=⟨_,rfl⟩
 have HSH:Hid (∃(fp fs:Nat) (x:Value) (t:TypeId),rv=.iface t x):=by
  rcases HRV.out with⟨e,_⟩ | ⟨t,x,ao,c,e,_⟩
  ·exact⟨0,0,_,_,e⟩
  ·exact⟨0,0,_,_,e⟩
 rcases HRV.out with⟨rfl,e1,e2,e3⟩ | ⟨t,x,ao,c,rfl,h2,h3,h4⟩
 ·have HPG:Hid (∀W:World,Calls Tryz.prog 227 #[.agg #[]] W fun e w'=>e=.returned (.int .i64 q)∧Below W.heap.size W w'):=fun W=>by
   have:=pages0 W;rw [hq,e1];exact this
  have HSN:Hid (∀W:World,Calls Tryz.prog 228 #[.agg #[]] W fun e w'=>e=.returned (.int .i64 u)∧Below W.heap.size W w'):=fun W=>by
   have:=seen0 W;rw [e2];exact this
  have HLT:Hid (∀W:World,Below V.heap.size V W→Calls Tryz.prog 88 #[.iface 117 (.agg #[])] W (LastPost l W)):=fun W _=>by rw [e3];exact last0 W
  clear e1 e2 e3 HRV HSH;go_enter Tryz.func55,Tryz.ntmps55
  by_cases h40:n<40
  ·have hq40:¬ (40:Int)≤q:=by omega
   cases hcl:closedB L s
   ·have HT:Hid (goB L C n u l s=false):=go_noC hcl;have hcall:=HCL.out;rw [hcl] at hcall;have HC2:Hid (_):=hcall;clear hcall hcl HCL HOU HOL HLT HSN;go_wp2_with fail
    rw [HV.out];clear HV;go_wp2_with fail
    refine(HPG.out _).mono ?_;rintro e w1 ⟨rfl,hb1⟩;have HB1:Hid (Below w.heap.size w w1):=HB0.out.trans (hb1.mono HB0.out.size);clear hb1;go_wp2_with fail
    refine(HC2.out _ HB1.out).mono ?_;rintro e w2 ⟨rfl,hb2⟩;have HB2:Hid (Below w.heap.size w w2):=HB1.out.trans (hb2.mono HB1.out.size);clear hb2;go_wp2;refine bodyPost_ret (v:=.tuple #[.iface 117 (.agg #[]),.bool false]) (by simp [results,Tryz.f55,go_sem]) rfl ?_;exact⟨.inr ⟨HT.out,rfl⟩,HB2.out⟩
   ·have HCD:Hid (closedB L s=true):=hcl;have HOU2:Hid (_):=HOU.out hcl;have HOL2:Hid (_):=HOL.out hcl;have hcall:=HCL.out;rw [hcl] at hcall;have HC2:Hid (_):=hcall;clear hcall hcl HCL HOU HOL;go_wp2_with fail
    rw [HV.out];clear HV;go_wp2_with fail
    refine(HPG.out _).mono ?_;rintro e w1 ⟨rfl,hb1⟩;have HB1:Hid (Below V.heap.size V w1):=hb1;clear hb1;go_wp2_with fail
    refine(HC2.out _ (HB0.out.trans (HB1.out.mono HB0.out.size))).mono ?_;rintro e w2 ⟨rfl,hb2⟩;have HB2:Hid (Below V.heap.size V w2):=HB1.out.trans (hb2.mono HB1.out.size);clear hb2
    cases han:(bits .andNot .i64 u s != 0)
    ·go_wp2_with fail
     refine(HSN.out _).mono ?_;rintro e w3 ⟨rfl,hb3⟩;have HB3:Hid (Below V.heap.size V w3):=HB2.out.trans (hb3.mono HB2.out.size);have hR3:=Fw.rowI_kept HRW.out HB3.out;have HG:Hid (goB L C n u l s=beginsB (outL L C s) l):=go_yes h40 HCD.out han;have p0:=hR3.rd 0 (by omega);have p1:=hR3.rd 1 (by omega);have p2:=hR3.rd 2 (by omega);have p3:=hR3.rd 3 (by omega);have p4:=hR3.rd 4 (by omega);have p5:=hR3.rd 5 (by omega);have p6:=hR3.rd 6 (by omega);have HRW3:Hid _:=hR3;have hou:=HOU2.out w3 (HB0.out.trans (HB3.out.mono HB0.out.size));clear hb3 hR3 HOU2;go_wp2_with fail
     refine hou.mono ?_;rintro e w4 ⟨ro,rc,rfl,ho4,hb4⟩;have HO4:Hid _:=ho4;have HB4:Hid (Below V.heap.size V w4):=HB3.out.trans (hb4.mono HB3.out.size);have hlt:=HLT.out w4 HB4.out;clear hou ho4 hb4 p0 p1 p2 p3 p4 p5 p6;go_wp2_with fail
     refine hlt.mono ?_;rintro e w5 ⟨lo,lc,rfl,hl5,hb5⟩;have HO5:Hid _:=Lst.own_below HO4.out hb5;have HB5:Hid (Below V.heap.size V w5):=HB4.out.trans (hb5.mono HB4.out.size);have hbw:=Tp.implBegins ro rc (outL L C s) lo lc l w5 (own_cap HO4.out) (by have:=HOL2.out;omega) hl20 (Lst.own_rd HO5.out) hl5;generalize beginsB (outL L C s) l=bb at HG hbw;clear hlt hb5 hl5 HLT;go_wp2_with fail
     refine hbw.mono ?_;rintro e w6 ⟨rfl,hb6⟩;have HO6:Hid (Memb.Own w.heap.size w6 ro rc (outL L C s)):=Ch.own_base (Lst.own_below HO5.out hb6) (Nat.le_trans HB0.out.size HB3.out.size);have HB6:Hid (Below w.heap.size w w6):=HB0.out.trans ((HB5.out.trans (hb6.mono HB5.out.size)).mono HB0.out.size);clear hbw hb6 HO4 HO5
     cases bb
     ·go_wp2;refine bodyPost_ret (v:=.tuple #[.iface 117 (.agg #[]),.bool false]) (by simp [results,Tryz.f55,go_sem]) rfl ?_;exact⟨.inr ⟨HG.out,rfl⟩,HB6.out⟩
     ·go_wp2;refine bodyPost_ret (v:=.tuple #[.iface 121 (.agg #[.iface 117 (.agg #[]),.int .i64 s,.slice ro (outL L C s).length rc]),.bool true]) (by simp [results,Tryz.f55,go_sem]) rfl ?_;exact⟨.inl ⟨HG.out,ro,rc,rfl,HO6.out⟩,HB6.out⟩
    ·have HT:Hid (goB L C n u l s=false):=go_noA han;go_wp2_with fail
     refine(HSN.out _).mono ?_;rintro e w3 ⟨rfl,hb3⟩;have HB3:Hid (Below w.heap.size w w3):=HB0.out.trans ((HB2.out.trans (hb3.mono HB2.out.size)).mono HB0.out.size);clear hb3;go_wp2;refine bodyPost_ret (v:=.tuple #[.iface 117 (.agg #[]),.bool false]) (by simp [results,Tryz.f55,go_sem]) rfl ?_;exact⟨.inr ⟨HT.out,rfl⟩,HB3.out⟩
  ·have hq40:(40:Int)≤q:=by omega
   have HT:Hid (goB L C n u l s=false):=go_no40 h40;clear HCL HOU HOL HLT HSN;go_wp2_with fail
   rw [HV.out];clear HV;go_wp2_with fail
   refine(HPG.out _).mono ?_;rintro e w1 ⟨rfl,hb1⟩;have HB1:Hid (Below w.heap.size w w1):=HB0.out.trans (hb1.mono HB0.out.size);clear hb1;go_wp2;refine bodyPost_ret (v:=.tuple #[.iface 117 (.agg #[]),.bool false]) (by simp [results,Tryz.f55,go_sem]) rfl ?_;exact⟨.inr ⟨HT.out,rfl⟩,HB1.out⟩
 ·have HPG:Hid (∀W:World,Calls Tryz.prog 230 #[.agg #[.iface t x,.int .i64 u,.slice ao l.length c]] W fun e w'=>e=.returned (.int .i64 q)∧Below W.heap.size W w'):=fun W=>by
   have:=h2 W;rw [hq];exact this
  have HSN:Hid (∀W:World,Calls Tryz.prog 231 #[.agg #[.iface t x,.int .i64 u,.slice ao l.length c]] W fun e w'=>e=.returned (.int .i64 u)∧Below W.heap.size W w'):=fun W=>seen1 t x u ao l.length c W
  have HLT:Hid (∀W:World,Below V.heap.size V W→Calls Tryz.prog 88 #[.iface 121 (.agg #[.iface t x,.int .i64 u,.slice ao l.length c])] W (LastPost l W)):=fun W hW=>last1 t x u ao l c W (Ch.rd_below h3 h4 hW) (fun g e=>Nat.lt_of_lt_of_le (h4 g e) hW.size)
  clear h2 h3 h4 HRV HSH;go_enter Tryz.func55,Tryz.ntmps55
  by_cases h40:n<40
  ·have hq40:¬ (40:Int)≤q:=by omega
   cases hcl:closedB L s
   ·have HT:Hid (goB L C n u l s=false):=go_noC hcl;have hcall:=HCL.out;rw [hcl] at hcall;have HC2:Hid (_):=hcall;clear hcall hcl HCL HOU HOL HLT HSN;go_wp2_with fail
    rw [HV.out];clear HV;go_wp2_with fail
    refine(HPG.out _).mono ?_;rintro e w1 ⟨rfl,hb1⟩;have HB1:Hid (Below w.heap.size w w1):=HB0.out.trans (hb1.mono HB0.out.size);clear hb1;go_wp2_with fail
    refine(HC2.out _ HB1.out).mono ?_;rintro e w2 ⟨rfl,hb2⟩;have HB2:Hid (Below w.heap.size w w2):=HB1.out.trans (hb2.mono HB1.out.size);clear hb2;go_wp2;refine bodyPost_ret (v:=.tuple #[.iface 121 (.agg #[.iface t x,.int .i64 u,.slice ao l.length c]),.bool false]) (by simp [results,Tryz.f55,go_sem]) rfl ?_;exact⟨.inr ⟨HT.out,rfl⟩,HB2.out⟩
   ·have HCD:Hid (closedB L s=true):=hcl;have HOU2:Hid (_):=HOU.out hcl;have HOL2:Hid (_):=HOL.out hcl;have hcall:=HCL.out;rw [hcl] at hcall;have HC2:Hid (_):=hcall;clear hcall hcl HCL HOU HOL;go_wp2_with fail
    rw [HV.out];clear HV;go_wp2_with fail
    refine(HPG.out _).mono ?_;rintro e w1 ⟨rfl,hb1⟩;have HB1:Hid (Below V.heap.size V w1):=hb1;clear hb1;go_wp2_with fail
    refine(HC2.out _ (HB0.out.trans (HB1.out.mono HB0.out.size))).mono ?_;rintro e w2 ⟨rfl,hb2⟩;have HB2:Hid (Below V.heap.size V w2):=HB1.out.trans (hb2.mono HB1.out.size);clear hb2
    cases han:(bits .andNot .i64 u s != 0)
    ·go_wp2_with fail
     refine(HSN.out _).mono ?_;rintro e w3 ⟨rfl,hb3⟩;have HB3:Hid (Below V.heap.size V w3):=HB2.out.trans (hb3.mono HB2.out.size);have hR3:=Fw.rowI_kept HRW.out HB3.out;have HG:Hid (goB L C n u l s=beginsB (outL L C s) l):=go_yes h40 HCD.out han;have p0:=hR3.rd 0 (by omega);have p1:=hR3.rd 1 (by omega);have p2:=hR3.rd 2 (by omega);have p3:=hR3.rd 3 (by omega);have p4:=hR3.rd 4 (by omega);have p5:=hR3.rd 5 (by omega);have p6:=hR3.rd 6 (by omega);have HRW3:Hid _:=hR3;have hou:=HOU2.out w3 (HB0.out.trans (HB3.out.mono HB0.out.size));clear hb3 hR3 HOU2;go_wp2_with fail
     refine hou.mono ?_;rintro e w4 ⟨ro,rc,rfl,ho4,hb4⟩;have HO4:Hid _:=ho4;have HB4:Hid (Below V.heap.size V w4):=HB3.out.trans (hb4.mono HB3.out.size);have hlt:=HLT.out w4 HB4.out;clear hou ho4 hb4 p0 p1 p2 p3 p4 p5 p6;go_wp2_with fail
     refine hlt.mono ?_;rintro e w5 ⟨lo,lc,rfl,hl5,hb5⟩;have HO5:Hid _:=Lst.own_below HO4.out hb5;have HB5:Hid (Below V.heap.size V w5):=HB4.out.trans (hb5.mono HB4.out.size);have hbw:=Tp.implBegins ro rc (outL L C s) lo lc l w5 (own_cap HO4.out) (by have:=HOL2.out;omega) hl20 (Lst.own_rd HO5.out) hl5;generalize beginsB (outL L C s) l=bb at HG hbw;clear hlt hb5 hl5 HLT;go_wp2_with fail
     refine hbw.mono ?_;rintro e w6 ⟨rfl,hb6⟩;have HO6:Hid (Memb.Own w.heap.size w6 ro rc (outL L C s)):=Ch.own_base (Lst.own_below HO5.out hb6) (Nat.le_trans HB0.out.size HB3.out.size);have HB6:Hid (Below w.heap.size w w6):=HB0.out.trans ((HB5.out.trans (hb6.mono HB5.out.size)).mono HB0.out.size);clear hbw hb6 HO4 HO5
     cases bb
     ·go_wp2;refine bodyPost_ret (v:=.tuple #[.iface 121 (.agg #[.iface t x,.int .i64 u,.slice ao l.length c]),.bool false]) (by simp [results,Tryz.f55,go_sem]) rfl ?_;exact⟨.inr ⟨HG.out,rfl⟩,HB6.out⟩
     ·go_wp2;refine bodyPost_ret (v:=.tuple #[.iface 121 (.agg #[.iface 121 (.agg #[.iface t x,.int .i64 u,.slice ao l.length c]),.int .i64 s,.slice ro (outL L C s).length rc]),.bool true]) (by simp [results,Tryz.f55,go_sem]) rfl ?_;exact⟨.inl ⟨HG.out,ro,rc,rfl,HO6.out⟩,HB6.out⟩
    ·have HT:Hid (goB L C n u l s=false):=go_noA han;go_wp2_with fail
     refine(HSN.out _).mono ?_;rintro e w3 ⟨rfl,hb3⟩;have HB3:Hid (Below w.heap.size w w3):=HB0.out.trans ((HB2.out.trans (hb3.mono HB2.out.size)).mono HB0.out.size);clear hb3;go_wp2;refine bodyPost_ret (v:=.tuple #[.iface 121 (.agg #[.iface t x,.int .i64 u,.slice ao l.length c]),.bool false]) (by simp [results,Tryz.f55,go_sem]) rfl ?_;exact⟨.inr ⟨HT.out,rfl⟩,HB3.out⟩
  ·have hq40:(40:Int)≤q:=by omega
   have HT:Hid (goB L C n u l s=false):=go_no40 h40;clear HCL HOU HOL HLT HSN;go_wp2_with fail
   rw [HV.out];clear HV;go_wp2_with fail
   refine(HPG.out _).mono ?_;rintro e w1 ⟨rfl,hb1⟩;have HB1:Hid (Below w.heap.size w w1):=HB0.out.trans (hb1.mono HB0.out.size);clear hb1;go_wp2;refine bodyPost_ret (v:=.tuple #[.iface 121 (.agg #[.iface t x,.int .i64 u,.slice ao l.length c]),.bool false]) (by simp [results,Tryz.f55,go_sem]) rfl ?_;exact⟨.inr ⟨HT.out,rfl⟩,HB1.out⟩
end Lo
end
section
open Go.RowKit Go.Shelf
namespace Lo
open Kn (K okK)
open Lc (at' RdK WordsOk laceB)
open Lg (At sameB stepB logB RdL put seen_at seen_cell told_at told_cell)
open Sg (closedB NumsPost)
open Tl (outL beginsB)
theorem same_eq{A D:List Int}(h:sameB A D=true):A=D:=by
 unfold sameB at h;rw [Bool.and_eq_true] at h;have hl:=of_decide_eq_true h.1;have hb:=h.2;unfold beginsB at hb;rw [Bool.and_eq_true,List.all_eq_true] at hb;apply List.ext_getElem hl;intro i h1 h2;have:=hb.2 i (by simpa using h2);simpa [List.getD,List.getElem?_eq_getElem h1,List.getElem?_eq_getElem h2] using this
theorem begins_self(A:List Int):beginsB A A=true:=by unfold beginsB;simp
theorem begins_nil(A:List Int):beginsB A []=true:=by unfold beginsB;simp
theorem same_self(A:List Int):sameB A A=true:=by unfold sameB;rw [begins_self];simp
theorem andNot_nil(s:Int):bits .andNot .i64 0 s=0:=by simp [bits,IntKind.wrap_i64]
def lastS(S:List Int)(n:Nat):Int:=if n=0 then 0 else S.getD (n-1) 0
def lastL(T:List (List Int))(n:Nat):List Int:=if n=0 then [] else T.getD (n-1) []
theorem rec_yes{L:List K}{C S:List Int}{T:List (List Int)}(i:Nat)(hg:goB L C i (lastS S i) (lastL T i) (S.getD i 0)=true)(hs:sameB (outL L C (S.getD i 0)) (T.getD i [])=true):i<40∧stepB L C S T i=true∧T.getD i []=outL L C (S.getD i 0):=by
 have e:=same_eq hs;unfold goB at hg;simp only [Bool.and_eq_true,decide_eq_true_eq] at hg;obtain⟨h1,h2,h3,h4⟩:=hg;refine⟨h1,?_,e.symm⟩;unfold stepB;rw [h2,← e,same_self];by_cases h0:i=0
 ·rw [decide_eq_true h0];rfl
 ·unfold lastS lastL at *;rw [if_neg h0] at h3 h4;rw [h4,decide_eq_true h3];simp
theorem rec_no{L:List K}{C S:List Int}{T:List (List Int)}(i:Nat)(hi:i<S.length)(h:goB L C i (lastS S i) (lastL T i) (S.getD i 0)=false∨sameB (outL L C (S.getD i 0)) (T.getD i [])=false):logB L C S T=false:=by
 rw [Bool.eq_false_iff];intro hb;obtain⟨h40,hT,hl,hc,hst⟩:=Lg.log_parts hb;have st:=hst i hi;unfold stepB at st;rw [Bool.and_eq_true,Bool.and_eq_true] at st;have e:=same_eq st.2;rcases h with h | h
 ·have:goB L C i (lastS S i) (lastL T i) (S.getD i 0)=true:=by
   unfold goB;rw [decide_eq_true (by omega),st.1.1];by_cases h0:i=0
   ·unfold lastS lastL;rw [if_pos h0,if_pos h0,andNot_nil,begins_nil];rfl
   ·have h2:=st.1.2;rw [decide_eq_false h0,Bool.false_or,Bool.and_eq_true] at h2;unfold lastS lastL;rw [if_neg h0,if_neg h0,← e,h2.1,h2.2];rfl
  rw [this] at h;cases h
 ·rw [← e,same_self] at h;cases h
structure Pg(B:Nat)(W:World)(n:Nat)(T:List (List Int))(h:At):Prop where
 each:∀j,j<n→Memb.Own B W (h j).1 (h j).2 (T.getD j [])
 row:∀j,j<n→(T.getD j []).length≤3660
theorem Pg.below{B:Nat}{W W':World}{n:Nat}{T:List (List Int)}{h:At}(p:Pg B W n T h)(hb:Below W.heap.size W W'):Pg B W' n T h:=⟨fun j hj=>Lst.own_below (p.each j hj) hb,p.row⟩
theorem Pg.snoc{B:Nat}{W:World}{i:Nat}{T:List (List Int)}{h:At}{ro:Option Addr}{rc:Nat}(p:Pg B W i T h)(ho:Memb.Own B W ro rc (T.getD i []))(hl:(T.getD i []).length≤3660):Pg B W (i+1) T (put h i (ro,rc)):=by
 refine⟨fun j hj=>?_,fun j hj=>?_⟩
 ·unfold put;by_cases e:j=i
  ·subst e;rw [if_pos rfl];exact ho
  ·rw [if_neg e];exact p.each j (by omega)
 ·by_cases e:j=i
  ·subst e;exact hl
  ·exact p.row j (by omega)
theorem recV_put(h:At)(S:List Int)(T:List (List Int))(i:Nat)(a:Option Addr × Nat):recV (put h i a) S T (i+1)=.iface 121 (.agg #[recV h S T i,.int .i64 (S.getD i 0),.slice a.1 (T.getD i []).length a.2]):=by
 rw [recV_succ,recV_congr (h':=h) (S':=S) (T':=T) i (fun j hj=>⟨by unfold put;rw [if_neg (by omega)],rfl,rfl⟩)];unfold put;rw [if_pos rfl]
theorem own_at{B:Nat}{w:World}{a:Option Addr}{cap:Nat}{l:List Int}(h:Memb.Own B w a cap l):∀g,a=some ⟨g,0,none⟩→g<w.heap.size:=fun g e=>by subst e;exact(World.ownsRow.lt h g rfl).2
theorem rec_of{B:Nat}{W:World}{n:Nat}{S:List Int}{T:List (List Int)}{h:At}(p:Pg B W n T h)(hn:n≤1048576):Rec W (recV h S T n) n (lastS S n) (lastL T n):=by
 cases n with
 | zero=>exact .inl ⟨rfl,rfl,rfl,rfl⟩
 | succ m=>
  obtain⟨t,x,e⟩:=recV_if h S T m;have hp:=pages1 h S T m (by omega) (S.getD m 0) (h m).1 (T.getD m []).length (h m).2;rw [e] at hp;refine .inr ⟨t,x,(h m).1,(h m).2,?_,fun W=>?_,Lst.own_rd (p.each m (by omega)),own_at (p.each m (by omega))⟩
  ·rw [recV_succ,e];rfl
  ·have:=hp W;simpa [lastS,lastL] using this
theorem lastL_len{B:Nat}{W:World}{n:Nat}{T:List (List Int)}{h:At}(p:Pg B W n T h):(lastL T n).length≤1048576:=by
 unfold lastL;by_cases e:n=0
 ·rw [if_pos e];simp
 ·rw [if_neg e];have:=p.row (n-1) (by omega);omega
theorem last1x(t:TypeId)(x:Value)(s:Int)(ao:Option Addr)(n c:Nat)(W:World):Calls Tryz.prog 88 #[.iface 121 (.agg #[.iface t x,.int .i64 s,.slice ao n c])] W fun e w'=>e=.returned (.slice ao n c)∧Below W.heap.size W w':=by
 have hl:=hasT;go_enter Tryz.func88,Tryz.ntmps88
 go_wp2_with fail
 refine(told1 t x s ao n c _).mono ?_;rintro e w1 ⟨rfl,hb1⟩;have HB:Hid _:=hb1;clear hb1;go_wp2;go_ret;exact⟨rfl,HB.out⟩
def RecP(L:List K)(C S:List Int)(T:List (List Int))(w:World)(e:Ending)(w':World):Prop:=
 ((logB L C S T=true∧∃h,e=.returned (.tuple #[recV h S T S.length,.bool true])∧Pg w.heap.size w' S.length T h)∨(logB L C S T=false∧∃v,e=.returned (.tuple #[v,.bool false])))∧Below w.heap.size w w'
end Lo
end
section
open Go.RowKit Go.Shelf
namespace Lo
open Kn (K okK)
open Lc (at' RdK WordsOk laceB)
open Lg (At sameB stepB logB RdL put seen_at seen_cell told_at told_cell)
open Sg (closedB NumsPost)
open Tl (outL beginsB)
theorem recordOf(g off cap:Nat)(L:List K)(C:List Int)(so qo:Option Addr)(sc tc:Nat)(S:List Int)(T:List (List Int))(f:At)(w:World)(hlc:laceB L=true)(hc:Rm.coinsB C=true)(hg:g<w.heap.size)(hr:RdK w (some ⟨g,off,none⟩) L)(hlog:RdL w so qo S T f)(hS20:S.length≤1048576)(hT20:T.length≤1048576)(hsb:∀i,i<S.length→-9223372036854775808≤S.getD i 0∧S.getD i 0≤9223372036854775807) :
   Calls Tryz.prog 54 #[.slice (some ⟨g,off,none⟩) L.length cap,.agg #[.int .i64 (Ch.leadI C 0),.int .i64 (Ch.leadI C 1),.int .i64 (Ch.leadI C 2),.int .i64 (Ch.leadI C 3),.int .i64 (Ch.leadI C 4),.int .i64 (Ch.leadI C 5),.int .i64 (Ch.leadI C 6)],.agg #[.slice so S.length sc,.slice qo T.length tc]] w (RecP L C S T w):=by
 have HB0:Hid (Below w.heap.size w ((w.alloc (.cells #[.int .i64 (Ch.leadI C 0),.int .i64 (Ch.leadI C 1),.int .i64 (Ch.leadI C 2),.int .i64 (Ch.leadI C 3),.int .i64 (Ch.leadI C 4),.int .i64 (Ch.leadI C 5),.int .i64 (Ch.leadI C 6)] 58)).alloc (.cells #[.slice so S.length sc,.slice qo T.length tc] 43))):=((Below.refl _ _).alloc (Nat.le_refl _) _).alloc (by simp) _;have HRW:Hid (Db.RowI ((w.alloc (.cells #[.int .i64 (Ch.leadI C 0),.int .i64 (Ch.leadI C 1),.int .i64 (Ch.leadI C 2),.int .i64 (Ch.leadI C 3),.int .i64 (Ch.leadI C 4),.int .i64 (Ch.leadI C 5),.int .i64 (Ch.leadI C 6)] 58)).alloc (.cells #[.slice so S.length sc,.slice qo T.length tc] 43)) w.heap.size 7 (fun i=>Ch.leadI C (i:Int))):=Nd.rowI_alloc (Ch.rowI_seven w 58 (fun i=>Ch.leadI C (i:Int))) _;have HBX:Hid (w.heap.size+1<((w.alloc (.cells #[.int .i64 (Ch.leadI C 0),.int .i64 (Ch.leadI C 1),.int .i64 (Ch.leadI C 2),.int .i64 (Ch.leadI C 3),.int .i64 (Ch.leadI C 4),.int .i64 (Ch.leadI C 5),.int .i64 (Ch.leadI C 6)] 58)).alloc (.cells #[.slice so S.length sc,.slice qo T.length tc] 43)).heap.size∧((w.alloc (.cells #[.int .i64 (Ch.leadI C 0),.int .i64 (Ch.leadI C 1),.int .i64 (Ch.leadI C 2),.int .i64 (Ch.leadI C 3),.int .i64 (Ch.leadI C 4),.int .i64 (Ch.leadI C 5),.int .i64 (Ch.leadI C 6)] 58)).alloc (.cells #[.slice so S.length sc,.slice qo T.length tc] 43)).cell? ⟨w.heap.size+1,0,none⟩=some (.slice so S.length sc)∧((w.alloc (.cells #[.int .i64 (Ch.leadI C 0),.int .i64 (Ch.leadI C 1),.int .i64 (Ch.leadI C 2),.int .i64 (Ch.leadI C 3),.int .i64 (Ch.leadI C 4),.int .i64 (Ch.leadI C 5),.int .i64 (Ch.leadI C 6)] 58)).alloc (.cells #[.slice so S.length sc,.slice qo T.length tc] 43)).cell? ⟨w.heap.size+1,1,none⟩=some (.slice qo T.length tc)):=by
   have e:(w.alloc (.cells #[.int .i64 (Ch.leadI C 0),.int .i64 (Ch.leadI C 1),.int .i64 (Ch.leadI C 2),.int .i64 (Ch.leadI C 3),.int .i64 (Ch.leadI C 4),.int .i64 (Ch.leadI C 5),.int .i64 (Ch.leadI C 6)] 58)).heap.size=w.heap.size+1:=by simp
   refine⟨by simp,?_,?_⟩
   · rw [← e];simp
   · rw [← e];simp
 generalize hv:((w.alloc (.cells #[.int .i64 (Ch.leadI C 0),.int .i64 (Ch.leadI C 1),.int .i64 (Ch.leadI C 2),.int .i64 (Ch.leadI C 3),.int .i64 (Ch.leadI C 4),.int .i64 (Ch.leadI C 5),.int .i64 (Ch.leadI C 6)] 58)).alloc (.cells #[.slice so S.length sc,.slice qo T.length tc] 43))=V at HB0 HRW HBX;have HV:Hid (((w.alloc (.cells #[.int .i64 (Ch.leadI C 0),.int .i64 (Ch.leadI C 1),.int .i64 (Ch.leadI C 2),.int .i64 (Ch.leadI C 3),.int .i64 (Ch.leadI C 4),.int .i64 (Ch.leadI C 5),.int .i64 (Ch.leadI C 6)] 58)).alloc (.cells #[.slice so S.length sc,.slice qo T.length tc] 43))=V):=hv;have HLG:Hid (∀(W:World) (rv:Value) (n:Nat) (u:Int) (l:List Int) (s:Int),Below V.heap.size V W→Rec W rv n u l→l.length≤1048576→-9223372036854775808≤s∧s≤9223372036854775807→Calls Tryz.prog 55 #[.slice (some ⟨g,off,none⟩) L.length cap,.agg #[.int .i64 (Ch.leadI C 0),.int .i64 (Ch.leadI C 1),.int .i64 (Ch.leadI C 2),.int .i64 (Ch.leadI C 3),.int .i64 (Ch.leadI C 4),.int .i64 (Ch.leadI C 5),.int .i64 (Ch.leadI C 6)],rv,.int .i64 s] W (LoggedP L C rv n u l s W)):=fun W rv n u l s hW h1 h2 h3=>by
   have hB:=HB0.out.trans (hW.mono HB0.out.size);exact logged g off cap L C s rv n u l W hlc hc (Nat.lt_of_lt_of_le hg hB.size) (hr.below hB) h3.1 h3.2 h1 h2
 have HLW:Hid (∀W,Below V.heap.size V W→RdL W so qo S T f):=fun W hW=>(hlog.below HB0.out).below hW
 have HCE:Hid (∀W,Below V.heap.size V W→W.cell? ⟨w.heap.size+1,0,none⟩=some (.slice so S.length sc)∧W.cell? ⟨w.heap.size+1,1,none⟩=some (.slice qo T.length tc)):=fun W hW=>⟨(hW.cell (p:=⟨w.heap.size+1,0,none⟩) HBX.out.1).trans HBX.out.2.1,(hW.cell (p:=⟨w.heap.size+1,1,none⟩) HBX.out.1).trans HBX.out.2.2⟩
 have HLC:Hid (laceB L=true∧Rm.coinsB C=true):=⟨hlc,hc⟩
 have HSB:Hid (∀i,i<S.length→-9223372036854775808≤S.getD i 0∧S.getD i 0≤9223372036854775807):=hsb;have HOL:Hid (∀s,closedB L s=true→(outL L C s).length≤3660):=fun s hq=>Lg.out_len hq hc
 clear hv hlc hc hg hr hlog hsb HBX;obtain⟨b0,b1⟩:=HCE.out V (Below.refl _ _);go_enter Tryz.func54,Tryz.ntmps54
 go_upto_region 1 with fail
 rw [HV.out];clear HV;generalize w.heap.size+1=bx at HCE b0 b1 ⊢;by_cases hTS:T.length=S.length
 · have hTS':((S.length:Int) != (T.length:Int))=false:=by simp [hTS]
   have HTS:Hid (T.length=S.length):=hTS;clear hTS;go_wp2_with fail
   go_loopw [8,26] (fun rv iv wr=>∃(i:Nat) (h:At),i≤S.length∧iv=.int .i64 i∧rv=recV h S T i∧Hid (i≤40∧∀q,q<i→stepB L C S T q=true)∧Hid (Pg V.heap.size wr i T h)∧Hid (Below V.heap.size V wr)) (fun _ iv _=>S.length-(intOf iv).toNat)
   case atStart=>exact⟨0,fun _=>(none,0),by omega,rfl,rfl,⟨by omega,fun q hq=>absurd hq (by omega)⟩,⟨fun j hj=>absurd hj (by omega),fun j hj=>absurd hj (by omega)⟩,Below.refl _ _⟩
   case round=>
     obtain⟨i,h,hi,rfl,hrv,HOK,HPG,HBW⟩:=hrel;obtain⟨t,x,hx⟩:=recV_if h S T i;rw [hx] at hrv;have HRV:Hid (recV h S T i=.iface t x):=hx;clear hx b0 b1;subst hrv;by_cases hil:i<S.length
     · obtain⟨sb,rfl⟩:=seen_at (HLW.out _ HBW.out) (by omega);have hii:(i:Int)<(S.length:Int):=by omega
       have hiT:(i:Int)<(T.length:Int):=by have:=HTS.out;omega
       have cs:=seen_cell (HLW.out _ HBW.out) i hil;have hcall:=HLG.out _ _ i (lastS S i) (lastL T i) (S.getD i 0) HBW.out (rec_of HPG.out (by have:=HOK.out.1;omega)) (lastL_len HPG.out) (HSB.out i hil);rw [HRV.out] at hcall;have HNO:Hid (goB L C i (lastS S i) (lastL T i) (S.getD i 0)=false∨sameB (outL L C (S.getD i 0)) (T.getD i [])=false→logB L C S T=false):=rec_no i hil;have HYES:Hid (_):=rec_yes (L:=L) (C:=C) (S:=S) (T:=T) i;have HRP:Hid (∀(ro:Option Addr) (rc:Nat),T.getD i []=outL L C (S.getD i 0)→recV (put h i (ro,rc)) S T (i+1)=.iface 121 (.agg #[.iface t x,.int .i64 (S.getD i 0),.slice ro (outL L C (S.getD i 0)).length rc])):=fun ro rc e=>by
         show _=_;rw [recV_put,HRV.out,e]
       have HR7:Hid (_):=Fw.rowI_kept HRW.out HBW.out;have hR7:=HR7.out;have p0:=hR7.rd 0 (by omega);have p1:=hR7.rd 1 (by omega);have p2:=hR7.rd 2 (by omega);have p3:=hR7.rd 3 (by omega);have p4:=hR7.rd 4 (by omega);have p5:=hR7.rd 5 (by omega);have p6:=hR7.rd 6 (by omega);clear hR7 HR7;generalize S.getD i 0=si at cs hcall HNO HYES HRP;go_wp2_with fail
       refine hcall.mono ?_;rintro e w1 ⟨hpost,hb1⟩;have HB1:Hid (Below V.heap.size V w1):=HBW.out.trans (hb1.mono HBW.out.size);have HP1:Hid (Pg V.heap.size w1 i T h):=HPG.out.below hb1;clear hcall hb1 cs p0 p1 p2 p3 p4 p5 p6;rcases hpost with⟨hgo,ro,rc,rfl,hO⟩ | ⟨hgo,rfl⟩
       · obtain⟨tb,toff,rfl⟩:=told_at (HLW.out _ HB1.out) (by omega);have HTC:Hid (∀W,Below V.heap.size V W→W.cell? ⟨bx,1,none⟩=some (.slice (some ⟨tb,toff,none⟩) T.length tc)∧W.cell? ⟨tb,toff+i,none⟩=some (.slice (f i).1 (T.getD i []).length (f i).2)):=fun W hW=>⟨(HCE.out W hW).2,told_cell (HLW.out W hW) i (by omega)⟩
         have hol : (outL L C si).length ≤ 3660 := HOL.out si (by
           unfold goB at hgo;simp only [Bool.and_eq_true] at hgo;exact hgo.2.1)
         have HEQ:Hid (∀W,Below w1.heap.size w1 W→Calls Tryz.prog 87 #[.slice ro (outL L C si).length rc,.slice (f i).1 (T.getD i []).length (f i).2] W fun e w'=>e=.returned (.bool (sameB (outL L C si) (T.getD i [])))∧Below W.heap.size W w'):=fun W hW=>equalN ro rc _ _ _ _ W (by omega) (Lst.own_rd (Lst.own_below hO hW)) ((HLW.out W (HB1.out.trans (hW.mono HB1.out.size))).row i (by omega))
         have HO1:Hid (_):=hO;have HGO:Hid (_):=hgo;have HOL3:Hid ((outL L C si).length≤3660):=hol;clear hO hgo hol HCE HLG;obtain⟨X,_,F,HF,HG⟩:=Fam.fam w1;have HBF:Hid (∀z,Below V.heap.size V (F z)):=fun z=>HB1.out.trans ((HF.out z).mono HB1.out.size)
         have hb1:∀z,(F z).cell? ⟨bx,1,none⟩=some (.slice (some ⟨tb,toff,none⟩) T.length tc):=fun z=>(HTC.out _ (HBF.out z)).1
         have ht1:∀z,(F z).cell? ⟨tb,toff+i,none⟩=some (.slice (f i).1 (T.getD i []).length (f i).2):=fun z=>(HTC.out _ (HBF.out z)).2
         generalize hff:f i=fi at HEQ ht1;clear hff HTC;obtain⟨f1,f2⟩:=fi;dsimp only at HEQ ht1;generalize (T.getD i []).length=tn at HEQ ht1
         cases heq:sameB (outL L C si) (T.getD i [])
         · have HT:Hid (logB L C S T=false):=HNO.out (.inr heq);rw [heq] at HEQ;clear heq HNO HYES HRP HGO HO1;generalize (outL L C si).length=on at HEQ ⊢;go_upto_region 8 with fail
           refine Fam.region (F:=F) (by kernel_rfl) (by kernel_rfl) (HG.out _ (Below.refl _ w1).drew) ?_
           repeat (go_big_quiet_step (first
             | (go_at_call 88;exact(last1x _ _ _ _ _ _ _).mono fun _ _ h=>⟨h.1,HG.out _ ((HF.out _).trans (h.2.mono (HF.out _).size))⟩)
             | (go_at_call 87;exact(HEQ.out _ (HF.out _)).mono fun _ _ h=>⟨h.1,HG.out _ ((HF.out _).trans (h.2.mono (HF.out _).size))⟩)))
           refine wpQuiet_nil ?_;intro w2 hw2;obtain⟨z,rfl⟩:=hw2;have HB2:Hid (_):=HBF.out z;clear hb1 ht1;go_wp2_with fail
           refine bodyPost_ret (v:=.tuple #[.iface t x,.bool false]) (by simp [results,Tryz.f54,go_sem]) rfl ?_;exact⟨.inr ⟨HT.out,_,rfl⟩,HB0.out.trans (HB2.out.mono HB0.out.size)⟩
         · have HY:Hid (_):=HYES.out HGO.out heq;rw [heq] at HEQ;have HRN:Hid (_):=HRP.out ro rc HY.out.2.2;have HTL:Hid (T.getD i []=outL L C si):=HY.out.2.2;clear heq HNO HYES HRP HGO;generalize hon:(outL L C si).length=on at HEQ HRN ⊢;have HON:Hid ((outL L C si).length=on):=hon;clear hon;go_upto_region 8 with fail
           refine Fam.region (F:=F) (by kernel_rfl) (by kernel_rfl) (HG.out _ (Below.refl _ w1).drew) ?_
           repeat (go_big_quiet_step (first
             | (go_at_call 88;exact(last1x _ _ _ _ _ _ _).mono fun _ _ h=>⟨h.1,HG.out _ ((HF.out _).trans (h.2.mono (HF.out _).size))⟩)
             | (go_at_call 87;exact(HEQ.out _ (HF.out _)).mono fun _ _ h=>⟨h.1,HG.out _ ((HF.out _).trans (h.2.mono (HF.out _).size))⟩)))
           refine wpQuiet_nil ?_;intro w2 hw2;obtain⟨z,rfl⟩:=hw2;have HB2:Hid (Below V.heap.size V (F z)):=HBF.out z;have HP2:Hid (Pg V.heap.size (F z) (i+1) T (put h i (ro,rc))):=by
             have o2:=Ch.own_base (Lst.own_below HO1.out (HF.out z)) HBW.out.size;exact(HP1.out.below (HF.out z)).snoc (by rw [HTL.out];exact o2) (by rw [HTL.out];exact HOL3.out)
           have HOK2 : Hid (i + 1 ≤ 40 ∧ ∀ q, q < i + 1 → stepB L C S T q = true) := ⟨by have:=HY.out.1;omega,fun q hq=>by
             by_cases e:q=i
             · rw [e];exact HY.out.2.1
             · exact HOK.out.2 q (by omega)⟩
           clear hb1 ht1 HO1 HP1;generalize F z=w2 at HB2 HP2 ⊢;go_wp2_with fail
           go_roundw
           case rel=>exact⟨i+1,_,by omega,by go_num,HRN.out.symm,HOK2,HP2,HB2⟩
           case measure=>simp [intOf];omega
       · have HT:Hid (logB L C S T=false):=HNO.out (.inl hgo);clear hgo HNO HYES HRP;go_wp2_with fail
         go_quiet (fail)
         go_wp2;refine bodyPost_ret (v:=.tuple #[.iface t x,.bool false]) (by simp [results,Tryz.f54,go_sem]) rfl ?_;exact⟨.inr ⟨HT.out,_,rfl⟩,Nu.below_drewN (HB0.out.trans (HB1.out.mono HB0.out.size)) _⟩
     · obtain rfl:i=S.length:=by omega
       have HT:Hid (logB L C S T=true):=Lg.log_yes HOK.out.1 HTS.out HLC.out.1 HLC.out.2 HOK.out.2;clear HCE;go_wp2_with fail
       refine bodyPost_ret (v:=.tuple #[.iface t x,.bool true]) (by simp [results,Tryz.f54,go_sem]) rfl ?_;exact⟨.inl ⟨HT.out,h,by rw [HRV.out],fun j hj=>Ch.own_base (HPG.out.each j hj) HB0.out.size,HPG.out.row⟩,HB0.out.trans (HBW.out.mono HB0.out.size)⟩
 · have hTS':((S.length:Int) != (T.length:Int))=true:=by simpa using (by omega:¬ (S.length:Int)=(T.length:Int))
   have HT:Hid (logB L C S T=false):=by show _=_;unfold Lg.logB;rw [decide_eq_false hTS];simp
   go_wp2_with fail
   refine bodyPost_ret (v:=.tuple #[.iface 117 (.agg #[]),.bool false]) (by simp [results,Tryz.f54,go_sem]) rfl ?_;exact⟨.inr ⟨HT.out,_,rfl⟩,HB0.out⟩
end Lo
end
end Go.Proofs.YtbkeldfbllhlbaaGreat
