/-
 What the program's own Read answers, where the tables, names and errors that its road reads are as they are laid: the book and the codes, each in memory of the call's own.
-/
import Derived.Test.YtadbafppodhfpaaGreatDoorqzg5
import Derived.Shelf.Abstract
import Derived.Test.YtadbafppodhfpaaGreatDoorqzg2
set_option linter.unusedVariables false
set_option maxRecDepth 100000
set_option maxHeartbeats 6400000
namespace Go.Proofs.YtadbafppodhfpaaGreatDoor
open Go.RowKit
section
namespace Bk
open De (D okD)
end Bk
namespace Bk
open Cur (At)
open De (D okD)
end Bk
end
section
open Go.RowKit Go.Shelf
namespace Bk
open De (D okD keyB)
theorem okBook_rises{L:List En}(h:okBook L=true):Rises L:=((okBook_iff L).1 h).2.2
theorem done{B g c:Nat}{L:List En}{w:World}(d:D)(hB:B≤w.heap.size)(h:OwE B w g c L)(hb:okBook L=true)(ho:okD d=true) :
  Calls Tryz.prog 31 #[.slice (some ⟨g,0,none⟩) L.length c,.agg #[.int .i64 d.kind,.string d.key,.int .i64 d.val,.int .i64 d.new]] w (ActPost B g (doB L d) w):=by
 have od:=(De.okD_iff d).1 ho;have h8:=(okBook_parts hb).1;have hv:=okBook_vals hb;have hs:=okBook_rises hb;have a1:=od.v0;have a2:=od.v1;have a3:=od.n0;have a4:=od.n1;have a5:=od.k1;have a6:=od.k4;have hlt:hasB L d.key=true→findN L d.key<L.length:=fun q=>(has_at q).1
 have hle:=findN_le L d.key;have hval:∀x:Int,0≤x→x≤9999→valOk x=true:=fun x h1 h2=>by unfold valOk;simp [h1,h2]
 rcases(show d.kind=1∨d.kind=2∨d.kind=3∨d.kind=4 by omega) with hk | hk | hk | hk
 ·have e:wayF d.kind=(60,61):=by rw [hk];rfl
  refine doneF (f1:=60) (f2:=61) d h hs (by omega) (enters_of Tryz.func60 (by kernel_rfl) rfl) (enters_of Tryz.func61 (by kernel_rfl) rfl) (fun W=>by have:=wayOf d.kind ⟨a5,a6⟩ W;rwa [e] at this) (fun q V hV=>?_) (fun q V hV=>?_)
  ·have eq:doB L d=giveB L (findN L d.key) d.val:=by unfold doB doC giveB;rw [if_pos hk,if_pos q,hval _ a1 (by omega)];rfl
   rw [eq];exact(actRewrite (h.below hV) (findN L d.key) d (hlt q)).mono fun e w' r=>r.behind hV
  ·have eq:doB L d=enterB L (findN L d.key) d.key d.val:=by
    unfold doB doC enterB;rw [if_pos hk,q,if_neg (by simp)];by_cases hl:L.length=8
    ·rw [if_pos hl,if_pos (by omega)]
    ·rw [if_neg hl,if_neg (by omega)]
   rw [eq];exact(actEnter (h.below hV) (findN L d.key) d (Nat.le_trans hB hV.size) hle).mono fun e w' r=>r.behind hV
 ·have e:wayF d.kind=(62,63):=by rw [hk];rfl
  refine doneF (f1:=62) (f2:=63) d h hs (by omega) (enters_of Tryz.func62 (by kernel_rfl) rfl) (enters_of Tryz.func63 (by kernel_rfl) rfl) (fun W=>by have:=wayOf d.kind ⟨a5,a6⟩ W;rwa [e] at this) (fun q V hV=>?_) (fun q V hV=>?_)
  ·have eq:doB L d=(L.take (findN L d.key)++L.drop (findN L d.key+1),0):=by unfold doB doC;rw [if_neg (by omega),if_neg (by rw [q];simp),if_pos hk]
   rw [eq];exact(actCut (h.below hV) (findN L d.key) d (hlt q) (by omega)).mono fun e w' r=>r.behind hV
  ·have eq:doB L d=(L,1):=by unfold doB doC;rw [if_neg (by omega),if_pos q]
   rw [eq];exact(actNone (h.below hV) (findN L d.key) d).mono fun e w' r=>r.behind hV
 ·have e:wayF d.kind=(64,63):=by rw [hk];rfl
  refine doneF (f1:=64) (f2:=63) d h hs (by omega) (enters_of Tryz.func64 (by kernel_rfl) rfl) (enters_of Tryz.func63 (by kernel_rfl) rfl) (fun W=>by have:=wayOf d.kind ⟨a5,a6⟩ W;rwa [e] at this) (fun q V hV=>?_) (fun q V hV=>?_)
  ·have hv0:=((okBook_parts hb).2 _ (hlt q)).2.1;have eq:doB L d=giveB L (findN L d.key) ((atE L (findN L d.key)).val+d.val):=by
    unfold doB doC giveB;rw [if_neg (by omega),if_neg (by rw [q];simp),if_neg (by omega),if_pos hk];by_cases h9:(atE L (findN L d.key)).val+d.val > 9999
    ·rw [if_pos h9,if_neg (by unfold valOk;simp;omega)]
    ·rw [if_neg h9,hval _ (by omega) (by omega)];rfl
   rw [eq];exact(actAdd (h.below hV) (findN L d.key) d (hlt q) (hv _ (atE_mem L _ (hlt q))) ⟨a1,a2⟩).mono fun e w' r=>r.behind hV
  ·have eq:doB L d=(L,1):=by unfold doB doC;rw [if_neg (by omega),if_pos q]
   rw [eq];exact(actNone (h.below hV) (findN L d.key) d).mono fun e w' r=>r.behind hV
 ·have e:wayF d.kind=(65,63):=by rw [hk];rfl
  refine doneF (f1:=65) (f2:=63) d h hs (by omega) (enters_of Tryz.func65 (by kernel_rfl) rfl) (enters_of Tryz.func63 (by kernel_rfl) rfl) (fun W=>by have:=wayOf d.kind ⟨a5,a6⟩ W;rwa [e] at this) (fun q V hV=>?_) (fun q V hV=>?_)
  ·have eq:doB L d=swapB L (findN L d.key) d.val d.new:=by
    unfold doB doC swapB giveB;rw [if_neg (by omega),if_neg (by rw [q];simp),if_neg (by omega),if_neg (by omega)];by_cases h9:(atE L (findN L d.key)).val≠d.val
    ·rw [if_pos h9,if_pos h9]
    ·rw [if_neg h9,if_neg h9,hval _ a3 (by omega)];rfl
   rw [eq];exact(actSwap (h.below hV) (findN L d.key) d (hlt q)).mono fun e w' r=>r.behind hV
  ·have eq:doB L d=(L,1):=by unfold doB doC;rw [if_neg (by omega),if_pos q]
   rw [eq];exact(actNone (h.below hV) (findN L d.key) d).mono fun e w' r=>r.behind hV
end Bk
namespace Bk
open De (D okD keyB ReadsD)
open Tx (RdT)
theorem progRead(ao:Option Addr)(cap:Nat)(S:List ByteArray)(w:World)(hl:S.length≤1048600)(hw:∀s∈S,s.size≤1073741824)(t:De.TabQ w)(hr:RdT w ao S) :
   Calls Tryz.prog 7 #[.slice ao S.length cap] w (ReadPost (readB S) w):=by
 have HT:Hid (∀V:World,Below w.heap.size w V→De.TabQ V):=fun V hV=>t.below hV
 clear t;have HEnd:Hid (readB (S.take S.length)=readB S):=by show _=_;rw [List.take_length]
 generalize readB S=R at HEnd ⊢;have HE0:Hid (OwE w.heap.size (w.alloc (.cells #[] 56)) w.heap.size 0 []):=owE_new w;have HI0:Hid (OwI w.heap.size ((w.alloc (.cells #[] 56)).alloc (.cells #[] 2)) (w.heap.size+1) 0 []):=by
   have:=owI_new (w.alloc (.cells #[] 56));have e:(w.alloc (.cells #[] 56)).heap.size=w.heap.size+1:=by simp
   rw [e] at this;exact Go.Joins.ownsRow_le this (by omega)
 have HB0:Hid (Below w.heap.size w ((w.alloc (.cells #[] 56)).alloc (.cells #[] 2))):=((Below.refl _ _).alloc (Nat.le_refl _) _).alloc (by simp) _;go_enter Tryz.func7,Tryz.ntmps7
 go_wp2;go_loopw [4, 5, 15] (fun bv cv i wr=>∃(j gb cb gc cc:Nat),j≤S.length∧i=.int .i64 j∧bv=.slice (some ⟨gb,0,none⟩) (readB (S.take j)).1.length cb∧cv=.slice (some ⟨gc,0,none⟩) (readB (S.take j)).2.length cc ∧
   Hid (OwE w.heap.size wr gb cb (readB (S.take j)).1)∧Hid (OwI w.heap.size wr gc cc (readB (S.take j)).2)∧Hid (Below w.heap.size w wr)) (fun _ _ i _=>S.length-(intOf i).toNat)
 case atStart=>exact⟨0,w.heap.size,0,w.heap.size+1,0,by omega,rfl,rfl,by first | rfl | simp,HE0.out.alloc _,HI0,HB0⟩
 case round=>
   obtain⟨j,gb,cb,gc,cc,hj,rfl,rfl,rfl,HE,HI,HB⟩:=hrel;clear HE0 HI0 HB0;obtain⟨hok,hcl⟩:=readB_ok (S.take j);have hcl2:(readB (S.take j)).2.length≤1048600:=by rw [hcl];simp;omega
   by_cases hlt:j<S.length
   · have HS:Hid (readB (S.take (j+1))=((readStep (readB (S.take j)).1 S[j]).1,(readB (S.take j)).2++[(readStep (readB (S.take j)).1 S[j]).2])):=by
       show _=_;rw [List.take_succ_eq_append_getElem hlt,readB_snoc]
     have hwj:S[j].size≤1073741824:=hw _ (List.getElem_mem hlt);obtain⟨g,rfl,hgw,hcell⟩:∃g,ao=some ⟨g,0,none⟩∧g<w.heap.size∧w.cell? ⟨g,j,none⟩=some (.string S[j]):=by
       rcases hr with h | ⟨g,ha,hg,hc⟩
       · rw [h] at hlt;simp at hlt
       · refine⟨g,ha,hg,?_⟩;have:=hc j hlt;rwa [show S.getD j ⟨#[]⟩=S[j] from by simp [List.getD,hlt]] at this
     have c0:=(HB.out.cell (p:=⟨g,j,none⟩) hgw).trans hcell;clear hcell;generalize S[j]=sj at *;generalize readB (S.take j)=Rj at *;obtain⟨Lj,Cj⟩:=Rj;dsimp only at hok hcl hcl2 HE HI HS ⊢;go_wp2_with fail
     refine(De.implReadDeed sj wr (HT.out wr HB.out) hwj).mono ?_;rintro e W1 ⟨d,is,rfl,hrd,b1⟩;have H1:Hid (d=(readD sj).1):=(reads_is hrd).1;have H2:Hid (is=(readD sj).2):=(reads_is hrd).2;have HB1:Hid (Below w.heap.size w (W1.alloc (.cells #[.int .i64 d.kind,.string d.key,.int .i64 d.val,.int .i64 d.new] 34))):=(HB.out.trans (b1.mono HB.out.size)).alloc (HB.out.trans (b1.mono HB.out.size)).size _;have bA:=(Below.refl W1.heap.size W1).alloc (Nat.le_refl _) (.cells #[.int .i64 d.kind,.string d.key,.int .i64 d.val,.int .i64 d.new] 34);have HE1:Hid (OwE w.heap.size (W1.alloc (.cells #[.int .i64 d.kind,.string d.key,.int .i64 d.val,.int .i64 d.new] 34)) gb cb Lj):=(HE.out.below b1).below bA;have HI1:Hid (OwI w.heap.size (W1.alloc (.cells #[.int .i64 d.kind,.string d.key,.int .i64 d.val,.int .i64 d.new] 34)) gc cc Cj):=(HI.out.below b1).below bA;have k0:(W1.alloc (.cells #[.int .i64 d.kind,.string d.key,.int .i64 d.val,.int .i64 d.new] 34)).cell? ⟨W1.heap.size,0,none⟩=some (.int .i64 d.kind):=by simp
     have k1:(W1.alloc (.cells #[.int .i64 d.kind,.string d.key,.int .i64 d.val,.int .i64 d.new] 34)).cell? ⟨W1.heap.size,1,none⟩=some (.string d.key):=by simp
     have k2:(W1.alloc (.cells #[.int .i64 d.kind,.string d.key,.int .i64 d.val,.int .i64 d.new] 34)).cell? ⟨W1.heap.size,2,none⟩=some (.int .i64 d.val):=by simp
     have k3:(W1.alloc (.cells #[.int .i64 d.kind,.string d.key,.int .i64 d.val,.int .i64 d.new] 34)).cell? ⟨W1.heap.size,3,none⟩=some (.int .i64 d.new):=by simp
     clear b1 bA HE HI HB c0 hrd hr;dsimp only;go_upto_region 7 with fail
     generalize W1.alloc (.cells #[.int .i64 d.kind,.string d.key,.int .i64 d.val,.int .i64 d.new] 34)=V at HB1 HE1 HI1 k0 k1 k2 k3 ⊢;generalize W1.heap.size=x at k0 k1 k2 k3 ⊢
     cases his:is
     · have HST:Hid (readB (S.take (j+1))=(Lj,Cj++[4])):=by
         show _=_;rw [HS.out];unfold readStep;rw [← H2.out,his];rfl
       clear HS H1 H2 his;go_wp2_with (at_builtin;refine list_I rfl _ _ rfl w.heap.size gc cc Cj 4 V.heap.size (by first | rfl | simp [Act.eval]) (HI1.out.alloc _) (by first | rfl | simp [Act.eval]) (by simp) (by omega) (by have:=HB1.out.size;simp;omega) ?_)
       intro g2 c2 V2 hi2 hg2;have HB2:Hid (Below w.heap.size w V2):=(HB1.out.alloc HB1.out.size _).grown hg2 (by have:=HB1.out.size;simp;omega) (fun q hq=>by have:=HI1.out.lt;simp at hq;omega);have HE2:Hid (OwE w.heap.size V2 gb cb Lj):=(HE1.out.alloc _).keep hg2 (apart HE1.out HI1.out).symm;have HI2:Hid (OwI w.heap.size V2 g2 c2 (Cj++[4])):=hi2;clear hi2 hg2 HE1 HI1 HB1 k0 k1 k2 k3;go_wp2;go_roundw
       case rel=>exact⟨j+1,gb,cb,g2,c2,by omega,by go_num,by rw [HST.out],by rw [HST.out];simp [hcl];try omega,by rw [HST.out];exact HE2,by rw [HST.out];exact HI2,HB2⟩
       case measure=>simp [intOf];omega
     · have hdo:okD d=true:=by rw [H1.out];exact readD_ok (by rw [← H2.out,his])
       have hdv:=(De.okD_iff d).1 hdo;have dv0:=hdv.v0;have dv1:=hdv.v1;have hvl:=okBook_vals hok;have h8:=(okBook_parts hok).1;have HST:Hid (readB (S.take (j+1))=((doB Lj d).1,Cj++[(doB Lj d).2])):=by
         show _=_;rw [HS.out];unfold readStep;rw [← H2.out,his,← H1.out];rfl
       have hcb:=code_bd (L:=Lj) (d:=d);clear HS H1 H2 hdv his;go_wp2_with fail
       refine(done d HB1.out.size HE1.out hok hdo).mono ?_;rintro e V1 ⟨g3,c3,rfl,he3,hg3,_⟩;have hbl:=HE1.out.shape.2.2.1;have HI3:Hid (OwI w.heap.size V1 gc cc Cj):=HI1.out.grown hg3 (apart HE1.out HI1.out);have HE3:Hid (OwE w.heap.size V1 g3 c3 (doB Lj d).1):=he3;have HB3:Hid (Below w.heap.size w V1):=HB1.out.grown hg3 HB1.out.size (fun q hq=>by simp at hq;omega);clear he3 hg3 HE1 HI1 HB1 k0 k1 k2 k3 hok hvl hdo;generalize doB Lj d=M at *;obtain⟨M1,k⟩:=M;dsimp only at hcb HI3 HE3 HST ⊢;go_wp2_with (at_builtin;refine list_I rfl _ _ rfl w.heap.size gc cc Cj k V1.heap.size (by first | rfl | simp [Act.eval]) (HI3.out.alloc _) (by first | rfl | simp [Act.eval]) (by simp) (by omega) (by have:=HB3.out.size;simp;omega) ?_)
       intro g2 c2 V2 hi2 hg2;have HB2:Hid (Below w.heap.size w V2):=(HB3.out.alloc HB3.out.size _).grown hg2 (by have:=HB3.out.size;simp;omega) (fun q hq=>by have:=HI3.out.lt;simp at hq;omega);have HE2:Hid (OwE w.heap.size V2 g3 c3 M1):=(HE3.out.alloc _).keep hg2 (apart HE3.out HI3.out).symm;have HI2:Hid (OwI w.heap.size V2 g2 c2 (Cj++[k])):=hi2;clear hi2 hg2 HE3 HI3 HB3;go_wp2;go_roundw
       case rel=>exact⟨j+1,g3,c3,g2,c2,by omega,by go_num,by rw [HST.out],by rw [HST.out];simp [hcl];try omega,by rw [HST.out];exact HE2,by rw [HST.out];exact HI2,HB2⟩
       case measure=>simp [intOf];omega
   · obtain rfl:j=S.length:=by omega
     rw [HEnd.out] at HE HI ⊢;go_wp2;go_ret2
     exact⟨gb,cb,gc,cc,rfl,HE.out,HI.out,HB.out⟩
theorem implRead:ImplRead De.TabQ:=by
 intro ao cap S W hl hw t hr;refine(progRead ao cap S W (by omega) hw t hr).mono ?_;rintro e w' ⟨g,c,g',c',rfl,he,hi,hb⟩;exact ⟨_,c,some ⟨g',0,none⟩,c',rfl,cpE_own he,fun q=>(by cases q),hi,fun g1 o g2 h1 h2=>by
   injection h1 with h1;injection h1 with h1 _;injection h2 with h2;injection h2 with h2 _;subst h1 h2;exact(apart he hi).symm,hb⟩
end Bk
end
end Go.Proofs.YtadbafppodhfpaaGreatDoor
