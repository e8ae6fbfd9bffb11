/-
 What the model answers for Logged, in plain words.
-/
import Derived.Test.YtbkeldfbllhlbaaGreatqzg28
set_option linter.unusedVariables false
set_option maxRecDepth 100000
set_option maxHeartbeats 6400000
namespace Go.Proofs.YtbkeldfbllhlbaaGreat
open Go.RowKit
namespace Lg
open Kn (K okK)
open Sg (NumsPost)
def CopyPost(S:List Int)(T:List (List Int))(w:World)(e:Ending)(w':World):Prop:=
 ∃(so:Option Addr) (sc:Nat) (vo:Option Addr) (vc:Nat) (f:At),e=.returned (.agg #[.slice so S.length sc,.slice vo T.length vc])∧Memb.Own w.heap.size w' so sc S∧OwnLL w.heap.size w' (.slice vo T.length vc) T f∧(∀i,i<T.length→∀g,(f i).1=some ⟨g,0,none⟩→so≠some ⟨g,0,none⟩)∧Below w.heap.size w w'
theorem cell2(w:World)(o:Obj)(a b:Value)(t:TypeId):((w.alloc (.cells #[a,b] t)).alloc o).cell? ⟨w.heap.size,1,none⟩=some b:=by
 rw [World.cell?_alloc_lt _ _ _ (by simp)];simp
theorem cp_start{w W1:World}{so qo:Option Addr}{sc tc:Nat}{S:List Int}{T:List (List Int)}{f:At}{so1:Option Addr}{sc1:Nat}
  (hb:Below w.heap.size w ((w.alloc (.cells #[.slice so S.length sc,.slice qo T.length tc] 43)).alloc (.cells #[.slice none 0 0,.slice none 0 0] 43)))
  (hL:RdL ((w.alloc (.cells #[.slice so S.length sc,.slice qo T.length tc] 43)).alloc (.cells #[.slice none 0 0,.slice none 0 0] 43)) so qo S T f)
  (hO:Memb.Own ((w.alloc (.cells #[.slice so S.length sc,.slice qo T.length tc] 43)).alloc (.cells #[.slice none 0 0,.slice none 0 0] 43)).heap.size W1 so1 sc1 S)
  (hb1:Below ((w.alloc (.cells #[.slice so S.length sc,.slice qo T.length tc] 43)).alloc (.cells #[.slice none 0 0,.slice none 0 0] 43)).heap.size ((w.alloc (.cells #[.slice so S.length sc,.slice qo T.length tc] 43)).alloc (.cells #[.slice none 0 0,.slice none 0 0] 43)) W1) :
  CpSt w (W1.alloc (.cells #[.slice so1 S.length sc1,.slice none 0 0] 43)) (w.heap.size+1) W1.heap.size so qo sc tc S T f so1 sc1 none 0 0 (fun _=>(none,0)):=by
 have hsz:w.heap.size+2≤W1.heap.size:=by have:=hb1.size;simp at this;omega
 have hbA:Below W1.heap.size W1 (W1.alloc (.cells #[.slice so1 S.length sc1,.slice none 0 0] 43)):=(Below.refl _ _).alloc (Nat.le_refl _) _;have c1:=(hb1.cell (p:=⟨w.heap.size,1,none⟩) (by simp;omega)).trans (cell2 w _ _ _ _);have r0:((w.alloc (.cells #[.slice so S.length sc,.slice qo T.length tc] 43)).alloc (.cells #[.slice none 0 0,.slice none 0 0] 43)).cell? ⟨w.heap.size+1,0,none⟩=some (.slice none 0 0)∧((w.alloc (.cells #[.slice so S.length sc,.slice qo T.length tc] 43)).alloc (.cells #[.slice none 0 0,.slice none 0 0] 43)).cell? ⟨w.heap.size+1,1,none⟩=some (.slice none 0 0)∧((w.alloc (.cells #[.slice so S.length sc,.slice qo T.length tc] 43)).alloc (.cells #[.slice none 0 0,.slice none 0 0] 43)).frozen? ⟨w.heap.size+1,0,none⟩=false∧((w.alloc (.cells #[.slice so S.length sc,.slice qo T.length tc] 43)).alloc (.cells #[.slice none 0 0,.slice none 0 0] 43)).frozen? ⟨w.heap.size+1,1,none⟩=false:=by
  have e:(w.alloc (.cells #[.slice so S.length sc,.slice qo T.length tc] 43)).heap.size=w.heap.size+1:=by simp
  rw [← e];exact⟨by simp,by simp,by simp,by simp⟩
 have hlt1:w.heap.size+1<((w.alloc (.cells #[.slice so S.length sc,.slice qo T.length tc] 43)).alloc (.cells #[.slice none 0 0,.slice none 0 0] 43)).heap.size:=by simp
 have k0:∀j,(W1.alloc (.cells #[.slice so1 S.length sc1,.slice none 0 0] 43)).cell? ⟨w.heap.size+1,j,none⟩=((w.alloc (.cells #[.slice so S.length sc,.slice qo T.length tc] 43)).alloc (.cells #[.slice none 0 0,.slice none 0 0] 43)).cell? ⟨w.heap.size+1,j,none⟩:=fun j=>(hbA.cell (p:=⟨w.heap.size+1,j,none⟩) (show w.heap.size+1<W1.heap.size by omega)).trans (hb1.cell (p:=⟨w.heap.size+1,j,none⟩) hlt1)
 have k1:∀j,(W1.alloc (.cells #[.slice so1 S.length sc1,.slice none 0 0] 43)).frozen? ⟨w.heap.size+1,j,none⟩=((w.alloc (.cells #[.slice so S.length sc,.slice qo T.length tc] 43)).alloc (.cells #[.slice none 0 0,.slice none 0 0] 43)).frozen? ⟨w.heap.size+1,j,none⟩:=fun j=>(World.frozen?_of_block (a:=⟨w.heap.size+1,j,none⟩) (hbA.block (w.heap.size+1) (by omega))).trans (World.frozen?_of_block (a:=⟨w.heap.size+1,j,none⟩) (hb1.block (w.heap.size+1) hlt1))
 refine⟨(hb.trans (hb1.mono hb.size)).trans (hbA.mono (by omega)),by omega,by omega,by simp,(hbA.cell (p:=⟨w.heap.size,1,none⟩) (show w.heap.size<W1.heap.size by omega)).trans c1,⟨⟨_,(k0 0).trans r0.1⟩,⟨_,(k0 1).trans r0.2.1⟩,(k1 0).trans r0.2.2.1,(k1 1).trans r0.2.2.2⟩,by simp,by simp,⟨by simp,by simp⟩,?_,?_,⟨⟨by simp [vals],.inl ⟨rfl,rfl⟩⟩,fun i hi=>by simp at hi,fun i j hij hj=>by simp at hj⟩⟩
 ·have h2:Memb.Own (w.heap.size+1+1) W1 so1 sc1 S:=own_lift hO (by simp);exact own_kept h2 (World.grownBy_alloc W1 _ none) (fun g e q=>by cases q)
 ·intro g e;subst e;exact(World.ownsRow.lt hO g rfl).2
theorem grown_two(w:World)(b:Nat)(x y:Value):w.grownBy ((w.setCell ⟨b,0,none⟩ x).setCell ⟨b,1,none⟩ y) (some b):=by
 refine⟨rfl,rfl,rfl,by simp,fun k hk hne=>?_⟩;have hkb:k≠b:=fun e=>hne (by rw [e])
 exact(Below.heap_setCell _ ⟨b,1,none⟩ y k hkb).trans (Below.heap_setCell w ⟨b,0,none⟩ x k hkb)
theorem row_lift{B B':Nat}{W:World}{t:TypeId}{n:Nat}{v:Value}{xs:List Value}(h:W.ownsRow B t 1 v n xs)(hb:B'≤B):W.ownsRow B' t 1 v n xs:=by
 obtain⟨h1,⟨h2,h3⟩ | ⟨g3,c3,cur,e3,hB3,hrest⟩⟩:=h
 ·exact⟨h1,.inl ⟨h2,h3⟩⟩
 ·exact⟨h1,.inr ⟨g3,c3,cur,e3,Nat.le_trans hb hB3,hrest⟩⟩
theorem row_kept{B:Nat}{w w':World}{t:TypeId}{n b:Nat}{v:Value}{xs:List Value}(h:w.ownsRow B t 1 v n xs)(hg:w.grownBy w' (some b))(hb:b<B):w'.ownsRow B t 1 v n xs:=by
 refine World.ownsRow.kept h hg ?_;rcases h.2 with⟨e,_⟩ | ⟨g,cap,cur,e,hB,_⟩
 ·rw [e];exact .inl rfl
 ·right;rw [e];intro q;simp [Value.ownBlock] at q;omega
theorem ll_kept{B:Nat}{w w':World}{b:Nat}{v:Value}{T:List (List Int)}{f:At}(h:OwnLL B w v T f)(hg:w.grownBy w' (some b))(hb:b<B):OwnLL B w' v T f:=⟨row_kept h.row hg hb,fun i hi=>row_kept (h.each i hi) hg hb,h.ap⟩
theorem ll_lift{B B':Nat}{W:World}{v:Value}{T:List (List Int)}{f:At}(h:OwnLL B W v T f)(hb:B'≤B):OwnLL B' W v T f:=⟨row_lift h.row hb,fun i hi=>own_lift (h.each i hi) hb,h.ap⟩
theorem cp_end{w wr:World}{xb:Nat}{so qo:Option Addr}{sc tc:Nat}{S:List Int}{T:List (List Int)}{f:At}{so1:Option Addr}{sc1:Nat}{vo:Option Addr}{vc:Nat}{h:At}(hs:CpSt w wr (w.heap.size+1) xb so qo sc tc S T f so1 sc1 vo vc T.length h) :
  Memb.Own w.heap.size ((wr.setCell ⟨w.heap.size+1,0,none⟩ (.slice so1 S.length sc1)).setCell ⟨w.heap.size+1,1,none⟩ (.slice vo T.length vc)) so1 sc1 S∧OwnLL w.heap.size ((wr.setCell ⟨w.heap.size+1,0,none⟩ (.slice so1 S.length sc1)).setCell ⟨w.heap.size+1,1,none⟩ (.slice vo T.length vc)) (.slice vo T.length vc) T h∧(∀i,i<T.length→∀g,(h i).1=some ⟨g,0,none⟩→so1≠some ⟨g,0,none⟩)∧Below w.heap.size w ((wr.setCell ⟨w.heap.size+1,0,none⟩ (.slice so1 S.length sc1)).setCell ⟨w.heap.size+1,1,none⟩ (.slice vo T.length vc)):=by
 have hg:=grown_two wr (w.heap.size+1) (.slice so1 S.length sc1) (.slice vo T.length vc);have hll:=hs.ll;rw [List.take_length] at hll;have h1:Memb.Own (w.heap.size+1+1) ((wr.setCell ⟨w.heap.size+1,0,none⟩ (.slice so1 S.length sc1)).setCell ⟨w.heap.size+1,1,none⟩ (.slice vo T.length vc)) so1 sc1 S:=row_kept hs.own hg (by omega);refine⟨own_lift h1 (by omega),ll_lift (ll_kept hll hg (by have:=hs.o2;omega)) (by have:=hs.o2;omega),?_,?_⟩
 ·intro i hi g e1 e2;have h3:=hll.each i hi;rw [e1] at h3;have:=(World.ownsRow.lt h3 g rfl).1;have:=hs.far g e2;omega
 exact(hs.bel.setCell (p:=⟨w.heap.size+1,0,none⟩) (by show _≤w.heap.size+1;omega) _).setCell (p:=⟨w.heap.size+1,1,none⟩) (by show _≤w.heap.size+1;omega) _
theorem l15Copy(so qo:Option Addr)(sc tc:Nat)(S:List Int)(T:List (List Int))(f:At)(w:World)(hlog:RdL w so qo S T f)(hSN:so=none→sc=0)(hN:∀i,i<T.length→(f i).1=none→(f i).2=0)(hS:S.length≤1048576)(hT:T.length≤1048576)(hTT:∀i,i<T.length→(T.getD i []).length≤1048576) :
   Calls Tryz.prog 56 #[.agg #[.slice so S.length sc,.slice qo T.length tc]] w (CopyPost S T w):=by
 have HN:Hid (∀i,i<T.length→(f i).1=none→(f i).2=0):=hN;have HTT:Hid (∀i,i<T.length→(T.getD i []).length≤1048576):=hTT;have hb:Below w.heap.size w ((w.alloc (.cells #[.slice so S.length sc,.slice qo T.length tc] 43)).alloc (.cells #[.slice none 0 0,.slice none 0 0] 43)):=((Below.refl _ _).alloc (Nat.le_refl _) _).alloc (by simp) _;have HL0:Hid (RdL ((w.alloc (.cells #[.slice so S.length sc,.slice qo T.length tc] 43)).alloc (.cells #[.slice none 0 0,.slice none 0 0] 43)) so qo S T f):=hlog.below hb;have hcall:=l1CopyA so sc S _ hS HL0.out.seen HL0.out.seenB hSN;have HLW:Hid (RdL w so qo S T f):=hlog;obtain⟨i0,hi0,hz0,hz1,hz2⟩:=info_parts infoS;clear hN hTT hlog hSN;go_enter Tryz.func56,Tryz.ntmps56
 go_wp2_with fail
 refine hcall.mono ?_;rintro e W1 ⟨so1,sc1,rfl,hO,hb1⟩;have HS0:Hid (CpSt w (W1.alloc (.cells #[.slice so1 S.length sc1,.slice none 0 0] 43)) (w.heap.size+1) W1.heap.size so qo sc tc S T f so1 sc1 none 0 0 (fun _=>(none,0))):=cp_start hb HL0.out hO hb1;clear hcall hO hb1 hb HL0;go_wp2_with fail
 generalize W1.alloc (.cells #[.slice so1 S.length sc1,.slice none 0 0] 43)=U0 at HS0 ⊢;generalize W1.heap.size=xb at HS0 ⊢;go_loopw [4] (fun iv wr=>∃(i:Nat) (vo:Option Addr) (vc:Nat) (h:At),i≤T.length∧iv=.int .i64 i∧Hid (CpSt w wr (w.heap.size+1) xb so qo sc tc S T f so1 sc1 vo vc i h)) (fun iv _=>T.length-(intOf iv).toNat)
 case atStart=>exact⟨0,_,_,_,by omega,rfl,HS0⟩
 case round=>
   clear HS0;obtain⟨i,vo,vc,h,hi,rfl,HS⟩:=hrel;have b1:=HS.out.b1;by_cases hil:i<T.length
   · have hii:(i:Int)<(T.length:Int):=by omega
     obtain⟨tb,toff,rfl⟩:=told_at HLW.out (by omega);have HCE:Hid (∀X:World,Below w.heap.size w X∧X.cell? ⟨w.heap.size,1,none⟩=some (.slice (some ⟨tb,toff,none⟩) T.length tc)∧X.cell? ⟨xb,1,none⟩=some (.slice vo i vc)→X.cell? ⟨w.heap.size,1,none⟩=some (.slice (some ⟨tb,toff,none⟩) T.length tc)∧X.cell? ⟨xb,1,none⟩=some (.slice vo i vc)∧X.cell? ⟨tb,toff+i,none⟩=some (.slice (f i).1 (T.getD i []).length (f i).2)):=fun X s=>⟨s.2.1,s.2.2,told_cell (HLW.out.below s.1) i hil⟩
     have HCP:Hid (∀X:World,CpSt w X (w.heap.size+1) xb so (some ⟨tb,toff,none⟩) sc tc S T f so1 sc1 vo vc i h→Calls Tryz.prog 60 #[.slice (f i).1 (T.getD i []).length (f i).2] X (NumsPost (T.getD i []) X)):=fun X s=>l1CopyA (f i).1 (f i).2 (T.getD i []) X (HTT.out i hil) ((HLW.out.below s.bel).row i hil) ((HLW.out.below s.bel).rowB i hil) (HN.out i hil)
     have HDR:Hid (CpSt w wr.drew (w.heap.size+1) xb so (some ⟨tb,toff,none⟩) sc tc S T f so1 sc1 vo vc i h):=HS.out.below (Below.refl _ _).drew;have HST:Hid (∀(V1 V3:World) (ro:Option Addr) (rc:Nat) (o:Obj) (v3:Value),Below wr.drew.heap.size wr.drew V1→Memb.Own wr.drew.heap.size V1 ro rc (T.getD i [])→V3.ownsRow (xb+1) 25 1 v3 (i+1) (vals h (T.take i)++[.slice ro (T.getD i []).length rc])→(V1.alloc o).grownBy V3 (Value.slice vo i vc).ownBlock→∃vo3 vc3,v3=.slice vo3 (i+1) vc3∧CpSt w (V3.setCell ⟨xb,1,none⟩ (.slice vo3 (i+1) vc3)) (w.heap.size+1) xb so (some ⟨tb,toff,none⟩) sc tc S T f so1 sc1 vo3 vc3 (i+1) (put h i (ro,rc))∧V3.cell? ⟨xb,1,none⟩=some (.slice vo i vc)∧V3.frozen? ⟨xb,1,none⟩=false∧Below w.heap.size w V3∧V3.cell? ⟨w.heap.size,1,none⟩=some (.slice (some ⟨tb,toff,none⟩) T.length tc)):=fun V1 V3 ro rc o v3 b1 hO h3 hg=>cp_step HDR.out hil b1 hO h3 hg
     have HRW:Hid (∀X:World,CpSt w X (w.heap.size+1) xb so (some ⟨tb,toff,none⟩) sc tc S T f so1 sc1 vo vc i h→X.ownsRow (xb+1) 25 1 (.slice vo i vc) i (vals h (T.take i))):=fun X s=>by
       have:=s.ll.row;rwa [show(T.take i).length=i by simp;omega] at this
     have HXL:Hid (xb<wr.heap.size):=HS.out.lt;obtain⟨c1,c2,c3⟩:=HCE.out wr ⟨HS.out.bel,HS.out.b1,HS.out.x1⟩;clear HN HTT HLW HS b1;generalize T.getD i []=tl at HCE HCP HST c3;generalize (f i).1=f1 at HCE HCP c3;generalize (f i).2=f2 at HCE HCP c3;generalize vals h (T.take i)=xs at HST HRW;go_wp2_with fail
     go_region_law (first
         | (refine step_own_at rfl (.tmp 17) (.tmp 24) 41 rfl (xb+1) 25 i0 (.slice none 0 0) 1 24 Tryz.underlying41 hi0 hz0 hz1 hz2 rfl (by decide) (.slice vo i vc) i xs (by simp [Act.eval]) (HRW.out _ A2) ⟨V1.heap.size,0,none⟩ 1 1 [.slice ro tl.length rc] (by simp [Act.eval]) rfl (one_newV V1 _ _) (one_sl _ _ _) (by unfold maxLen;omega) (by omega) (by have:=A2.lt;omega) ?_
            intro v3 V3 h3 hg3 _;obtain⟨vo3,vc3,rfl,HS3,x3,f3,B3,b3⟩:=HST.out V1 V3 ro rc _ v3 bV hO h3 hg3)
         | (rw [if_pos (by simp [Region.wanted])]
            go_simp
            refine(HCP.out _ HDR.out).mono ?_;rintro e V1 ⟨ro,rc,rfl,hO,bV⟩;have A1:=HDR.out.below bV;have A2:=A1.below ((Below.refl _ V1).alloc (Nat.le_refl _) (.cells #[.slice ro tl.length rc] 25));have d2:=A1.x1;have e2:=A2.x1))
     all_goals (go_wp2)
     all_goals go_roundw
     all_goals first | exact⟨i+1,vo3,vc3,_,by omega,by go_num,HS3⟩ | (simp [intOf];omega)
   · obtain rfl:i=T.length:=by omega
     have x0:=HS.out.x0;have x1:=HS.out.x1;obtain⟨u0,r0⟩:=HS.out.r.1;obtain⟨u1,r1⟩:=HS.out.r.2.1;have f0:=HS.out.r.2.2.1;have f1:=HS.out.r.2.2.2;have r1':(wr.setCell ⟨w.heap.size+1,0,none⟩ (.slice so1 S.length sc1)).cell? ⟨w.heap.size+1,1,none⟩=some u1:=(World.cell?_setCell_other _ _ _ _ (by intro e;simp at e)).trans r1;have f1':(wr.setCell ⟨w.heap.size+1,0,none⟩ (.slice so1 S.length sc1)).frozen? ⟨w.heap.size+1,1,none⟩=false:=by simpa using f1
     have HE:Hid (Memb.Own w.heap.size ((wr.setCell ⟨w.heap.size+1,0,none⟩ (.slice so1 S.length sc1)).setCell ⟨w.heap.size+1,1,none⟩ (.slice vo T.length vc)) so1 sc1 S∧OwnLL w.heap.size ((wr.setCell ⟨w.heap.size+1,0,none⟩ (.slice so1 S.length sc1)).setCell ⟨w.heap.size+1,1,none⟩ (.slice vo T.length vc)) (.slice vo T.length vc) T h∧(∀i,i<T.length→∀g,(h i).1=some ⟨g,0,none⟩→so1≠some ⟨g,0,none⟩)∧Below w.heap.size w ((wr.setCell ⟨w.heap.size+1,0,none⟩ (.slice so1 S.length sc1)).setCell ⟨w.heap.size+1,1,none⟩ (.slice vo T.length vc))):=cp_end HS.out;have c0:((wr.setCell ⟨w.heap.size+1,0,none⟩ (.slice so1 S.length sc1)).setCell ⟨w.heap.size+1,1,none⟩ (.slice vo T.length vc)).cell? ⟨w.heap.size+1,0,none⟩=some (.slice so1 S.length sc1):=(World.cell?_setCell_other _ _ _ _ (by intro e;simp at e)).trans (World.cell?_setCell_same _ _ _ r0);have c1:((wr.setCell ⟨w.heap.size+1,0,none⟩ (.slice so1 S.length sc1)).setCell ⟨w.heap.size+1,1,none⟩ (.slice vo T.length vc)).cell? ⟨w.heap.size+1,1,none⟩=some (.slice vo T.length vc):=World.cell?_setCell_same _ _ _ r1';clear HS;go_wp2_with fail
     refine bodyPost_ret (v:=.agg #[.slice so1 S.length sc1,.slice vo T.length vc]) (by simp [results,Tryz.f56,go_sem,c0,c1]) rfl ?_;exact⟨so1,sc1,vo,vc,h,rfl,HE.out.1,HE.out.2.1,HE.out.2.2.1,HE.out.2.2.2⟩
end Lg
namespace Lg
open Kn (K okK)
open Lc (at' RdK WordsOk laceB setB)
open Sg (closedB NumsPost)
open Tl (outL beginsB)
def goesB(L:List K)(C S:List Int)(T:List (List Int))(s:Int):Bool:=logB L C S T&&(closedB L s&&logB L C (S++[s]) (T++[outL L C s]))
def seenL(L:List K)(C S:List Int)(T:List (List Int))(s:Int):List Int:=if logB L C S T then (if goesB L C S T s then S++[s] else S) else []
def toldL(L:List K)(C S:List Int)(T:List (List Int))(s:Int):List (List Int):=if logB L C S T then (if goesB L C S T s then T++[outL L C s] else T) else []
def LoggedPost(L:List K)(C S:List Int)(T:List (List Int))(s:Int)(w:World)(e:Ending)(w':World):Prop:=
 ∃(so:Option Addr) (sc:Nat) (vo:Option Addr) (vc:Nat) (f:At),e=.returned (.tuple #[.agg #[.slice so (seenL L C S T s).length sc,.slice vo (toldL L C S T s).length vc],.bool (goesB L C S T s)])∧Memb.Own w.heap.size w' so sc (seenL L C S T s)∧OwnLL w.heap.size w' (.slice vo (toldL L C S T s).length vc) (toldL L C S T s) f∧(∀i,i<(toldL L C S T s).length→∀g,(f i).1=some ⟨g,0,none⟩→so≠some ⟨g,0,none⟩)∧Below w.heap.size w w'
theorem own_log{B:Nat}{W:World}{so vo:Option Addr}{sc vc:Nat}{S:List Int}{T:List (List Int)}{f:At}(h1:Memb.Own B W so sc S)(h2:OwnLL B W (.slice vo T.length vc) T f):RdL W so vo S T f∧(so=none→sc=0)∧∀i,i<T.length→(f i).1=none→(f i).2=0:=by
 have nil0:∀{a:Option Addr} {c:Nat} {l:List Int},Memb.Own B W a c l→a=none→c=0:=fun {a c l} h e=>by
  subst e;rcases h.2 with⟨e,_⟩ | ⟨g,cap,cur,e,_⟩
  ·injection e
  ·injection e with e _ _;cases e
 have blt:∀{a:Option Addr} {c:Nat} {l:List Int},Memb.Own B W a c l→∀g,a=some ⟨g,0,none⟩→g<W.heap.size:=fun {a c l} h g e=>by subst e;exact(World.ownsRow.lt h g rfl).2
 refine⟨⟨Lst.own_rd h1,blt h1,?_,fun i hi=>Lst.own_rd (h2.each i hi),fun i hi=>blt (h2.each i hi)⟩,nil0 h1,fun i hi=>nil0 (h2.each i hi)⟩;rcases h2.row.2 with⟨e,e'⟩ | ⟨g,cap,cur,e,hB,hg,hn,hm,hs,ht⟩
 ·exact .inl (List.length_eq_zero_iff.1 e')
 ·injection e with e _ e3;subst e;refine .inr ⟨g,0,rfl,(World.ownsRow.lt h2.row g rfl).2,fun i hi=>?_⟩;rw [Nat.zero_add];have hv:=vals_get f T i hi;have h3:=World.ownsRow.cellAt h2.row i (by omega);rw [h3,hv]
end Lg
namespace Lg
structure XSt(W:World)(B xb:Nat)(a:Option Addr)(c:Nat)(S:List Int)(vo:Option Addr)(vc:Nat)(T:List (List Int))(f:At):Prop where
 bx:B≤xb
 lt:xb<W.heap.size
 ty:∃cur,W.heap[xb]? = some (.cells cur 43)
 x0:W.cell? ⟨xb,0,none⟩=some (.slice a S.length c)
 x1:W.cell? ⟨xb,1,none⟩=some (.slice vo T.length vc)
 f0:W.frozen? ⟨xb,0,none⟩=false
 f1:W.frozen? ⟨xb,1,none⟩=false
 own:Memb.Own B W a c S
 ll:OwnLL B W (.slice vo T.length vc) T f
 ap:∀i,i<T.length→∀g,(f i).1=some ⟨g,0,none⟩→a≠some ⟨g,0,none⟩
variable {W:World} {B xb:Nat} {a:Option Addr} {c:Nat} {S:List Int} {vo:Option Addr} {vc:Nat} {T:List (List Int)} {f:At}
theorem XSt.below{W':World}(s:XSt W B xb a c S vo vc T f)(hb:Below W.heap.size W W'):XSt W' B xb a c S vo vc T f:=by
 have hg:W.grownBy W' none:=⟨hb.os,hb.tape,hb.output,hb.size,fun k hk _=>hb.block k hk⟩
 obtain⟨cur,ht⟩:=s.ty;refine⟨s.bx,Nat.lt_of_lt_of_le s.lt hb.size,⟨cur,(hb.block xb s.lt).trans ht⟩,(hb.cell (p:=⟨xb,0,none⟩) s.lt).trans s.x0,(hb.cell (p:=⟨xb,1,none⟩) s.lt).trans s.x1,(World.frozen?_of_block (a:=⟨xb,0,none⟩) (hb.block xb s.lt)).trans s.f0,(World.frozen?_of_block (a:=⟨xb,1,none⟩) (hb.block xb s.lt)).trans s.f1,own_kept s.own hg (fun g e q=>by cases q),⟨?_,fun j hj=>own_kept (s.ll.each j hj) hg (fun g e q=>by cases q),s.ll.ap⟩,s.ap⟩;exact World.ownsRow.kept s.ll.row hg (by cases hv:(Value.slice vo T.length vc).ownBlock <;> simp)
theorem x_new{W1:World}(hB:B≤W1.heap.size)(h1:Memb.Own B W1 a c S)(h2:OwnLL B W1 (.slice vo T.length vc) T f)(h3:∀i,i<T.length→∀g,(f i).1=some ⟨g,0,none⟩→a≠some ⟨g,0,none⟩) :
  XSt (W1.alloc (.cells #[.slice a S.length c,.slice vo T.length vc] 43)) B W1.heap.size a c S vo vc T f:=by
 have hg:=World.grownBy_alloc W1 (.cells #[.slice a S.length c,.slice vo T.length vc] 43) none;refine⟨hB,by simp,⟨_,Array.getElem?_push_size⟩,by simp,by simp,by simp,by simp,own_kept h1 hg (fun g e q=>by cases q),⟨?_,fun j hj=>own_kept (h2.each j hj) hg (fun g e q=>by cases q),h2.ap⟩,h3⟩;exact World.ownsRow.kept h2.row hg (by cases hv:(Value.slice vo T.length vc).ownBlock <;> simp)
theorem ty_ne{t:TypeId}{v:Value}{n:Nat}{xs:List Value}(h:W.ownsRow B t 1 v n xs)(ht:t≠43)(hx:∃cur,W.heap[xb]? = some (.cells cur 43)):v.ownBlock≠some xb:=by
 obtain⟨cur,hx⟩:=hx;intro q;rcases h.2 with⟨e,_⟩ | ⟨g,cap,cur2,e,_,hg,_⟩
 ·rw [e] at q;simp [Value.ownBlock] at q
 ·rw [e] at q;simp [Value.ownBlock] at q;subst q;rw [hg] at hx;simp at hx;exact ht hx.2
theorem own_put{W3:World}{j:Nat}{u:Value}{a':Option Addr}{c':Nat}{l:List Int}(h:Memb.Own B W3 a' c' l)(hx:∃cur,W3.heap[xb]? = some (.cells cur 43)):Memb.Own B (W3.setCell ⟨xb,j,none⟩ u) a' c' l:=
 own_kept h (gr_one W3 xb j u) (fun g e q=>by
   subst e;injection q with q;have:=ty_ne h (by decide) hx;exact this (by rw [q];rfl))
theorem row_put{W3:World}{j:Nat}{u v:Value}{n:Nat}{xs:List Value}(h:W3.ownsRow B 25 1 v n xs)(hx:∃cur,W3.heap[xb]? = some (.cells cur 43)):(W3.setCell ⟨xb,j,none⟩ u).ownsRow B 25 1 v n xs:=
 World.ownsRow.kept h (gr_one W3 xb j u) (.inr (ty_ne h (by decide) hx))
theorem ty_put{W3:World}{j:Nat}{u:Value}(hx:∃cur,W3.heap[xb]? = some (.cells cur 43)):∃cur,(W3.setCell ⟨xb,j,none⟩ u).heap[xb]? = some (.cells cur 43):=by
 obtain⟨cur,hx⟩:=hx;exact⟨_,heap_setCell_same W3 xb j cur _ _ hx⟩
theorem x_seen{V3:World}{o:Obj}{v3:Value}{x:Int}(s:XSt W B xb a c S vo vc T f)(hBW:B≤W.heap.size)(h3:V3.ownsRow B 2 1 v3 (S.length+1) (S.map (Value.int .i64)++[.int .i64 x]))(hg:(W.alloc o).grownBy V3 (Value.slice a S.length c).ownBlock)(hat:v3.ownBlock=(Value.slice a S.length c).ownBlock∨v3.ownBlock=some (W.alloc o).heap.size) :
   ∃a3 c3,v3=.slice a3 (S++[x]).length c3∧XSt (V3.setCell ⟨xb,0,none⟩ (.slice a3 (S++[x]).length c3)) B xb a3 c3 (S++[x]) vo vc T f∧(∃u,V3.cell? ⟨xb,0,none⟩=some u)∧V3.frozen? ⟨xb,0,none⟩=false∧Below B W (V3.setCell ⟨xb,0,none⟩ (.slice a3 (S++[x]).length c3)):=by
 have sA:=s.below ((Below.refl _ W).alloc (Nat.le_refl _) o);have hlt:=sA.lt;have hrow:∀k,(Value.slice a S.length c).ownBlock=some k→B≤k:=fun k hk=>(World.ownsRow.lt sA.own k hk).1
 have hnx:(Value.slice a S.length c).ownBlock≠some xb:=ty_ne sA.own (by decide) sA.ty;have hblk:V3.heap[xb]? = (W.alloc o).heap[xb]?:=hg.block xb hlt (fun e=>hnx e.symm);have hty:∃cur,V3.heap[xb]? = some (.cells cur 43):=by obtain⟨cur,h⟩:=sA.ty;exact⟨cur,hblk.trans h⟩
 obtain⟨g3,c3,e3⟩:∃g3 c3,v3=.slice (some ⟨g3,0,none⟩) (S++[x]).length c3:=by
   rcases h3.2 with⟨_,e⟩ | ⟨g,c,cur,e,_⟩
   · omega
   · exact⟨g,c,by rw [e];simp⟩
 subst e3;have h3':Memb.Own B V3 (some ⟨g3,0,none⟩) c3 (S++[x]):=by
   unfold Memb.Own;rw [List.map_append,List.length_append,List.length_singleton];rw [List.length_append,List.length_singleton] at h3;exact h3
 have hE : ∀ i, i < T.length → Memb.Own B V3 (f i).1 (f i).2 (T.getD i []) := fun i hi => own_kept (sA.ll.each i hi) hg (fun g e q=>by
   have h5:=s.ap i hi g e;rcases(sA.own).2 with⟨e6,_⟩ | ⟨g6,c6,cur6,e6,_⟩
   · rw [e6] at q;simp [Value.ownBlock] at q
   · injection e6 with e6 _ _;rw [e6] at q;simp [Value.ownBlock] at q;rw [e6] at h5;exact h5 (by rw [q]))
 have hR : V3.ownsRow B 25 1 (.slice vo T.length vc) T.length (vals f T) := World.ownsRow.kept sA.ll.row hg (by
   cases hv:(Value.slice vo T.length vc).ownBlock with
   | none=>exact .inl rfl
   | some k=>
     right
     intro q;rcases(sA.own).2 with⟨e6,_⟩ | ⟨g6,c6,cur6,e6,_⟩
     · rw [e6] at q;simp [Value.ownBlock] at q
     · injection e6 with e6 _ _;have:=rows_apart sA.own sA.ll.row g6 e6;rw [e6] at q;simp [Value.ownBlock] at q;rw [hv,q] at this;exact this rfl)
 have u0:V3.cell? ⟨xb,0,none⟩=some (.slice a S.length c):=(World.cell?_of_block (a:=⟨xb,0,none⟩) hblk).trans sA.x0;have u1:V3.cell? ⟨xb,1,none⟩=some (.slice vo T.length vc):=(World.cell?_of_block (a:=⟨xb,1,none⟩) hblk).trans sA.x1;have fr0:V3.frozen? ⟨xb,0,none⟩=false:=(World.frozen?_of_block (a:=⟨xb,0,none⟩) hblk).trans sA.f0;have fr1:V3.frozen? ⟨xb,1,none⟩=false:=(World.frozen?_of_block (a:=⟨xb,1,none⟩) hblk).trans sA.f1;have hB3:Below B W V3:=((Below.refl B W).alloc hBW o).grown hg (by simp;omega) hrow;refine⟨some ⟨g3,0,none⟩,c3,rfl,⟨s.bx,?_,ty_put hty,World.cell?_setCell_same _ _ _ u0,(World.cell?_setCell_other _ _ _ _ (by intro e;simp at e)).trans u1,by simpa using fr0,by simpa using fr1,own_put h3' hty,⟨row_put hR hty,fun i hi=>own_put (hE i hi) hty,s.ll.ap⟩,?_⟩,⟨_,u0⟩,fr0,hB3.setCell (p:=⟨xb,0,none⟩) s.bx _⟩
 · have:=hg.size;simp at this ⊢;have:=s.lt;omega
 · intro i hi g e1 e2;injection e2 with e2;injection e2 with e2;subst e2;have h5:=s.ap i hi g3 e1;have h6:=s.ll.each i hi;rw [e1] at h6;have h7:=(World.ownsRow.lt h6 g3 rfl).2;rcases hat with q | q
   · simp [Value.ownBlock] at q;rcases(sA.own).2 with⟨e6,_⟩ | ⟨g6,c6,cur6,e6,_⟩
     · injection e6 with e6 _ _;rw [e6] at q;simp at q
     · injection e6 with e6 _ _;rw [e6] at q h5;simp at q;exact h5 (by rw [q])
   · simp [Value.ownBlock] at q;omega
theorem x_told{V1 V3:World}{o:Obj}{v3:Value}{ro:Option Addr}{rc:Nat}{l:List Int}(s:XSt W B xb a c S vo vc T f)(hBW:B≤W.heap.size)(hb1:Below W.heap.size W V1)(hO:Memb.Own W.heap.size V1 ro rc l)(h3:V3.ownsRow B 25 1 v3 (T.length+1) (vals f T++[.slice ro l.length rc]))(hg:(V1.alloc o).grownBy V3 (Value.slice vo T.length vc).ownBlock) :
  ∃vo3 vc3,v3=.slice vo3 (T++[l]).length vc3∧XSt (V3.setCell ⟨xb,1,none⟩ (.slice vo3 (T++[l]).length vc3)) B xb a c S vo3 vc3 (T++[l]) (put f T.length (ro,rc))∧(∃u,V3.cell? ⟨xb,1,none⟩=some u)∧V3.frozen? ⟨xb,1,none⟩=false∧Below B W (V3.setCell ⟨xb,1,none⟩ (.slice vo3 (T++[l]).length vc3)):=by
 have hbA:Below W.heap.size W (V1.alloc o):=hb1.alloc hb1.size o;have sA:=s.below hbA;have hlt:=sA.lt;have hrow:∀k,(Value.slice vo T.length vc).ownBlock=some k→B≤k:=fun k hk=>(World.ownsRow.lt sA.ll.row k hk).1
 have hnx:(Value.slice vo T.length vc).ownBlock≠some xb:=ty_ne sA.ll.row (by decide) sA.ty;have hblk:V3.heap[xb]? = (V1.alloc o).heap[xb]?:=hg.block xb hlt (fun e=>hnx e.symm);have hty:∃cur,V3.heap[xb]? = some (.cells cur 43):=by obtain⟨cur,h⟩:=sA.ty;exact⟨cur,hblk.trans h⟩
 obtain⟨g3,c3,e3⟩:∃g3 c3,v3=.slice (some ⟨g3,0,none⟩) (T++[l]).length c3:=by
  rcases h3.2 with⟨_,e⟩ | ⟨g,c,cur,e,_⟩
  ·omega
  ·exact⟨g,c,by rw [e];simp⟩
 subst e3;have hOA:Memb.Own B (V1.alloc o) ro rc l:=own_lift (own_kept hO (World.grownBy_alloc V1 o none) (fun g e q=>by cases q)) hBW;have hO3:Memb.Own B V3 ro rc l:=own_kept hOA hg (rows_apart hOA sA.ll.row);have hS3:Memb.Own B V3 a c S:=own_kept sA.own hg (rows_apart sA.own sA.ll.row);have hE:∀i,i<T.length→Memb.Own B V3 (f i).1 (f i).2 (T.getD i []):=fun i hi=>own_kept (sA.ll.each i hi) hg (rows_apart (sA.ll.each i hi) sA.ll.row)
 have u0:V3.cell? ⟨xb,0,none⟩=some (.slice a S.length c):=(World.cell?_of_block (a:=⟨xb,0,none⟩) hblk).trans sA.x0;have u1:V3.cell? ⟨xb,1,none⟩=some (.slice vo T.length vc):=(World.cell?_of_block (a:=⟨xb,1,none⟩) hblk).trans sA.x1;have fr0:V3.frozen? ⟨xb,0,none⟩=false:=(World.frozen?_of_block (a:=⟨xb,0,none⟩) hblk).trans sA.f0;have fr1:V3.frozen? ⟨xb,1,none⟩=false:=(World.frozen?_of_block (a:=⟨xb,1,none⟩) hblk).trans sA.f1;have hB3:Below B W V3:=(hbA.mono hBW).grown hg (by have:=hbA.size;omega) hrow;have hold:∀{a':Option Addr} {c':Nat} {l':List Int},Memb.Own B W a' c' l'→∀g,a'=some ⟨g,0,none⟩→g<W.heap.size:=fun {a' c' l'} h g e=>by subst e;exact(World.ownsRow.lt h g rfl).2
 have hnew:∀g,ro=some ⟨g,0,none⟩→W.heap.size≤g:=fun g e=>by subst e;exact(World.ownsRow.lt hO g rfl).1
 refine⟨some ⟨g3,0,none⟩,c3,rfl,⟨s.bx,?_,ty_put hty,(World.cell?_setCell_other _ _ _ _ (by intro e;simp at e)).trans u0,World.cell?_setCell_same _ _ _ u1,by simpa using fr0,by simpa using fr1,own_put hS3 hty,⟨?_,?_,?_⟩,?_⟩,⟨_,u1⟩,fr1,hB3.setCell (p:=⟨xb,1,none⟩) s.bx _⟩
 ·have:=hg.size;simp at this ⊢;have:=s.lt;have:=hb1.size;omega
 ·rw [vals_snoc f T l (ro,rc)];have:=row_put (j:=1) (u:=.slice (some ⟨g3,0,none⟩) (T++[l]).length c3) h3 hty;rw [List.length_append,List.length_singleton] at this ⊢;exact this
 ·intro i hi;rw [List.length_append,List.length_singleton] at hi;unfold put;by_cases e:i=T.length
  ·subst e;rw [if_pos rfl,getD_last];exact own_put hO3 hty
  ·rw [if_neg e,getD_snoc _ _ i (by omega)];exact own_put (hE i (by omega)) hty
 ·intro i j hij hj g e1 e2;rw [List.length_append,List.length_singleton] at hj;unfold put at e1 e2;rw [if_neg (by omega)] at e1;by_cases e:j=T.length
  ·rw [if_pos e] at e2;have:=hold (s.ll.each i (by omega)) g e1;have:=hnew g e2;omega
  ·rw [if_neg e] at e2;exact s.ll.ap i j hij (by omega) g e1 e2
 ·intro i hi g e1 e2;rw [List.length_append,List.length_singleton] at hi;unfold put at e1;by_cases e:i=T.length
  ·rw [if_pos e] at e1;have:=hold s.own g e2;have:=hnew g e1;omega
  ·rw [if_neg e] at e1;exact s.ap i (by omega) g e1 e2
theorem fin_put{w W:World}{rb:Nat}{x y u0 u1:Value}(hw:w.heap.size≤rb)(hb:Below w.heap.size w W)(r0:W.cell? ⟨rb,0,none⟩=some u0)(r1:W.cell? ⟨rb,1,none⟩=some u1)(f1:W.frozen? ⟨rb,1,none⟩=false) :
  (W.setCell ⟨rb,0,none⟩ x).cell? ⟨rb,1,none⟩=some u1∧(W.setCell ⟨rb,0,none⟩ x).frozen? ⟨rb,1,none⟩=false∧((W.setCell ⟨rb,0,none⟩ x).setCell ⟨rb,1,none⟩ y).cell? ⟨rb,0,none⟩=some x∧((W.setCell ⟨rb,0,none⟩ x).setCell ⟨rb,1,none⟩ y).cell? ⟨rb,1,none⟩=some y∧Below w.heap.size w ((W.setCell ⟨rb,0,none⟩ x).setCell ⟨rb,1,none⟩ y):=by
 have r1':(W.setCell ⟨rb,0,none⟩ x).cell? ⟨rb,1,none⟩=some u1:=(World.cell?_setCell_other _ _ _ _ (by intro e;simp at e)).trans r1;exact⟨r1',by simpa using f1,(World.cell?_setCell_other _ _ _ _ (by intro e;simp at e)).trans (World.cell?_setCell_same _ _ _ r0),World.cell?_setCell_same _ _ _ r1',(hb.setCell (p:=⟨rb,0,none⟩) hw _).setCell (p:=⟨rb,1,none⟩) hw _⟩
theorem fin_own{w W:World}{rb:Nat}{x y:Value}(hb:rb<B)(hB:w.heap.size≤B)(s:XSt W B xb a c S vo vc T f):Memb.Own w.heap.size ((W.setCell ⟨rb,0,none⟩ x).setCell ⟨rb,1,none⟩ y) a c S∧OwnLL w.heap.size ((W.setCell ⟨rb,0,none⟩ x).setCell ⟨rb,1,none⟩ y) (.slice vo T.length vc) T f:=by
 have hg:=grown_two W rb x y;exact⟨own_lift (row_kept s.own hg hb) hB,ll_lift (ll_kept s.ll hg hb) hB⟩
end Lg
namespace Lg
open Kn (K okK)
open Lc (at' RdK WordsOk laceB setB)
open Sg (closedB NumsPost)
open Tl (outL beginsB)
structure LSt(w W:World)(so qo:Option Addr)(sc tc:Nat)(S:List Int)(T:List (List Int)):Prop where
 bel:Below w.heap.size w W
 lt:w.heap.size+1<W.heap.size
 b0:W.cell? ⟨w.heap.size,0,none⟩=some (.slice so S.length sc)
 b1:W.cell? ⟨w.heap.size,1,none⟩=some (.slice qo T.length tc)
 r0:W.cell? ⟨w.heap.size+1,0,none⟩=some (.slice none 0 0)
 r1:W.cell? ⟨w.heap.size+1,1,none⟩=some (.slice none 0 0)
 f0:W.frozen? ⟨w.heap.size+1,0,none⟩=false
 f1:W.frozen? ⟨w.heap.size+1,1,none⟩=false
theorem LSt.below{w W W':World}{so qo:Option Addr}{sc tc:Nat}{S:List Int}{T:List (List Int)}(s:LSt w W so qo sc tc S T)(hb:Below W.heap.size W W'):LSt w W' so qo sc tc S T:=
 have h0:w.heap.size<W.heap.size:=by have:=s.lt;omega
 ⟨s.bel.trans (hb.mono s.bel.size),Nat.lt_of_lt_of_le s.lt hb.size,(hb.cell (p:=⟨w.heap.size,0,none⟩) h0).trans s.b0,(hb.cell (p:=⟨w.heap.size,1,none⟩) h0).trans s.b1,(hb.cell (p:=⟨w.heap.size+1,0,none⟩) s.lt).trans s.r0,(hb.cell (p:=⟨w.heap.size+1,1,none⟩) s.lt).trans s.r1,(World.frozen?_of_block (a:=⟨w.heap.size+1,0,none⟩) (hb.block _ s.lt)).trans s.f0,(World.frozen?_of_block (a:=⟨w.heap.size+1,1,none⟩) (hb.block _ s.lt)).trans s.f1⟩
theorem l_start(w:World)(so qo:Option Addr)(sc tc:Nat)(S:List Int)(T:List (List Int)):LSt w ((w.alloc (.cells #[.slice so S.length sc,.slice qo T.length tc] 43)).alloc (.cells #[.slice none 0 0,.slice none 0 0] 43)) so qo sc tc S T:=by
 have e:(w.alloc (.cells #[.slice so S.length sc,.slice qo T.length tc] 43)).heap.size=w.heap.size+1:=by simp
 refine⟨((Below.refl _ _).alloc (Nat.le_refl _) _).alloc (by simp) _,by simp,?_,cell2 w _ _ _ _,?_,?_,?_,?_⟩
 ·rw [World.cell?_alloc_lt _ _ _ (by simp)];simp
 ·rw [← e];simp
 ·rw [← e];simp
 ·rw [← e];simp
 ·rw [← e];simp
theorem nil_own(B:Nat)(W:World):Memb.Own B W none 0 []:=⟨rfl,.inl ⟨rfl,rfl⟩⟩
theorem nil_ll(B:Nat)(W:World)(f:At):OwnLL B W (.slice none 0 0) [] f:=⟨⟨rfl,.inl ⟨rfl,rfl⟩⟩,fun i hi=>by simp at hi,fun i j hij hj=>by simp at hj⟩
theorem specLogged(g off cap:Nat)(L:List K)(ao:Option Addr)(cc:Nat)(C:List Int)(so qo:Option Addr)(sc tc:Nat)(S:List Int)(T:List (List Int))(f:At)(s:Int)(w:World)(hcap:L.length≤cap)(hw:WordsOk L)(hg:g<w.heap.size)(hr:RdK w (some ⟨g,off,none⟩) L)(hC:C.length≤1048576)(hrd:Lst.Rd w ao C)(hao:∀c,ao=some ⟨c,0,none⟩→c<w.heap.size)(hlog:RdL w so qo S T f)(hSN:so=none→sc=0)(hN:∀i,i<T.length→(f i).1=none→(f i).2=0)(hS:S.length≤1048576)(hT:T.length≤1048576)(hTT:∀i,i<T.length→(T.getD i []).length≤1048576) :
   Calls Tryz.prog 23 #[.slice (some ⟨g,off,none⟩) L.length cap,.slice ao C.length cc,.agg #[.slice so S.length sc,.slice qo T.length tc],.int .i64 s] w (LoggedPost L C S T s w):=by
 have HLX:Hid (∀(W:World) (a vo:Option Addr) (c vc:Nat) (S':List Int) (T':List (List Int)) (f':At),Below w.heap.size w W→RdL W a vo S' T' f'→S'.length≤1048576→T'.length≤1048576→(∀i,i<T'.length→(T'.getD i []).length≤1048576)→Calls Tryz.prog 26 #[.slice (some ⟨g,off,none⟩) L.length cap,.slice ao C.length cc,.agg #[.slice a S'.length c,.slice vo T'.length vc]] W fun e w'=>e=.returned (.bool (logB L C S' T'))∧Below W.heap.size W w'):=fun W a vo c vc S' T' f' hW hl h1 h2 h3=>specLogOk g off cap L ao cc C a vo c vc S' T' f' W hcap hw (Nat.lt_of_lt_of_le hg hW.size) (hr.below hW) hC (Ch.rd_below hrd hao hW) (fun c e=>Nat.lt_of_lt_of_le (hao c e) hW.size) hl h1 h2 h3
 have HLO:Hid (∀W:World,Below w.heap.size w W→Calls Tryz.prog 26 #[.slice (some ⟨g,off,none⟩) L.length cap,.slice ao C.length cc,.agg #[.slice so S.length sc,.slice qo T.length tc]] W fun e w'=>e=.returned (.bool (logB L C S T))∧Below W.heap.size W w'):=fun W hW=>HLX.out W so qo sc tc S T f hW (hlog.below hW) hS hT hTT
 have HCP:Hid (∀W:World,Below w.heap.size w W→Calls Tryz.prog 56 #[.agg #[.slice so S.length sc,.slice qo T.length tc]] W (CopyPost S T W)):=fun W hW=>l15Copy so qo sc tc S T f W (hlog.below hW) hSN hN hS hT hTT
 have HCL:Hid (∀W:World,Below w.heap.size w W→Calls Tryz.prog 57 #[.slice (some ⟨g,off,none⟩) L.length cap,.int .i64 s] W fun e w'=>e=.returned (.bool (closedB L s))∧Below W.heap.size W w'):=fun W hW=>Sg.specClosed g off cap L s W hcap hw (hr.below hW)
 have HOU:Hid (closedB L s=true→∀W:World,Below w.heap.size w W→Calls Tryz.prog 38 #[.slice (some ⟨g,off,none⟩) L.length cap,.slice ao C.length cc,.int .i64 s] W (NumsPost (outL L C s) W)):=fun hc W hW=>l12OutA g off cap L ao cc C s W (closed_bd hc).1 (Nat.lt_of_lt_of_le hg hW.size) (hr.below hW) (Ch.rd_below hrd hao hW) (fun c e=>Nat.lt_of_lt_of_le (hao c e) hW.size) (closed_bd hc).2.1 (closed_bd hc).2.2
 have HT60:Hid (∀i,i<T.length→(T.getD i []).length≤1048576):=hTT;have HS0:Hid (LSt w ((w.alloc (.cells #[.slice so S.length sc,.slice qo T.length tc] 43)).alloc (.cells #[.slice none 0 0,.slice none 0 0] 43)) so qo sc tc S T):=l_start w so qo sc tc S T;clear hcap hw hg hr hC hrd hao hlog hSN hN hTT;go_enter Tryz.func23,Tryz.ntmps23
 go_upto_region 1 with fail
 generalize (w.alloc (.cells #[.slice so S.length sc,.slice qo T.length tc] 43)).alloc (.cells #[.slice none 0 0,.slice none 0 0] 43)=W0 at HS0 ⊢;have b0:=HS0.out.b0;have b1:=HS0.out.b1;go_wp2_with fail
 refine(HLO.out W0 HS0.out.bel).mono ?_;rintro e W1 ⟨rfl,hb1⟩;have HS1:Hid (LSt w W1 so qo sc tc S T):=HS0.out.below hb1;clear hb1 HS0 b0 b1 HLO
 cases hlo:logB L C S T
 · have HT:Hid (seenL L C S T s=[]∧toldL L C S T s=[]∧goesB L C S T s=false):=by
     show _∧_∧_;unfold seenL toldL goesB;rw [hlo];exact⟨rfl,rfl,rfl⟩
   have r0:=HS1.out.r0;have r1:=HS1.out.r1;have f0:=HS1.out.f0;have f1:=HS1.out.f1;obtain⟨k1,k2,k3,k4,k5⟩:=fin_put (x:=.slice none 0 0) (y:=.slice none 0 0) (Nat.le_succ w.heap.size) HS1.out.bel r0 r1 f1;clear hlo HLX HCP HCL HOU HT60;go_wp2_with fail
   refine bodyPost_ret (v:=.tuple #[.agg #[.slice none 0 0,.slice none 0 0],.bool false]) (by simp [results,Tryz.f23,go_sem,k3,k4]) rfl ?_;unfold LoggedPost;rw [HT.out.1,HT.out.2.1,HT.out.2.2];exact⟨none,0,none,0,fun _=>(none,0),rfl,nil_own _ _,nil_ll _ _ _,fun i hi=>by simp at hi,k5⟩
 · obtain⟨h40,hTS,_,hcn,_⟩:=log_parts hlo;have HLG:Hid (logB L C S T=true):=hlo;have HCN:Hid (Rm.coinsB C=true):=hcn;have HTS:Hid (T.length=S.length):=hTS;clear hTS;have b0:=HS1.out.b0;have b1:=HS1.out.b1;clear hlo hcn;go_wp2_with fail
   refine(HCP.out W1 HS1.out.bel).mono ?_;rintro e W2 ⟨so1,sc1,vo1,vc1,f1,rfl,hO1,hL1,hA1,hb2⟩;have HX3:Hid (XSt (W2.alloc (.cells #[.slice so1 S.length sc1,.slice vo1 T.length vc1] 43)) W1.heap.size W2.heap.size so1 sc1 S vo1 vc1 T f1):=x_new hb2.size hO1 hL1 hA1;have HS3:Hid (LSt w (W2.alloc (.cells #[.slice so1 S.length sc1,.slice vo1 T.length vc1] 43)) so qo sc tc S T):=(HS1.out.below hb2).below ((Below.refl _ _).alloc (Nat.le_refl _) _);have hB1:w.heap.size+1<W1.heap.size:=HS1.out.lt;clear hO1 hL1 hA1 hb2 b0 b1 HS1;go_wp2_with fail
   generalize W2.alloc (.cells #[.slice so1 S.length sc1,.slice vo1 T.length vc1] 43)=W3 at HX3 HS3 ⊢;generalize W2.heap.size=ob at HX3 ⊢;generalize W1.heap.size=B1 at HX3 hB1;refine(HCL.out W3 HS3.out.bel).mono ?_;rintro e W4 ⟨rfl,hb4⟩;have HX4:Hid (XSt W4 B1 ob so1 sc1 S vo1 vc1 T f1):=HX3.out.below hb4;have HS4:Hid (LSt w W4 so qo sc tc S T):=HS3.out.below hb4;clear hb4 HX3 HS3 HCL
   cases hcl:closedB L s
   · have HT:Hid (seenL L C S T s=S∧toldL L C S T s=T∧goesB L C S T s=false):=by
       have hgo:goesB L C S T s=false:=by unfold goesB;rw [hcl];simp
       show _∧_∧_;unfold seenL toldL;rw [HLG.out,hgo];exact⟨rfl,rfl,rfl⟩
     have r0:=HS4.out.r0;have r1:=HS4.out.r1;have f0:=HS4.out.f0;have f1':=HS4.out.f1;have x0:=HX4.out.x0;have x1:=HX4.out.x1;obtain⟨k1,k2,k3,k4,k5⟩:=fin_put (x:=.slice so1 S.length sc1) (y:=.slice vo1 T.length vc1) (Nat.le_succ w.heap.size) HS4.out.bel r0 r1 f1';have HF:Hid (_):=fin_own (w:=w) (x:=.slice so1 S.length sc1) (y:=.slice vo1 T.length vc1) hB1 (by omega) HX4.out;have HAP:Hid (_):=HX4.out.ap;clear hcl HLX HCP HOU HT60 HLG HCN HX4 HS4;go_wp2_with fail
     refine bodyPost_ret (v:=.tuple #[.agg #[.slice so1 S.length sc1,.slice vo1 T.length vc1],.bool false]) (by simp [results,Tryz.f23,go_sem,k3,k4]) rfl ?_;unfold LoggedPost;rw [HT.out.1,HT.out.2.1,HT.out.2.2];exact⟨so1,sc1,vo1,vc1,f1,rfl,HF.out.1,HF.out.2,HAP.out,k5⟩
   · have HOU2:Hid (∀W:World,Below w.heap.size w W→Calls Tryz.prog 38 #[.slice (some ⟨g,off,none⟩) L.length cap,.slice ao C.length cc,.int .i64 s] W (NumsPost (outL L C s) W)):=HOU.out hcl;have hol:=out_len hcl HCN.out;have HCD:Hid (closedB L s=true):=hcl;have b0:=HS4.out.b0;have b1:=HS4.out.b1;clear hcl HOU;go_wp2_with fail
     refine(HCP.out W4 HS4.out.bel).mono ?_;rintro e W5 ⟨so2,sc2,vo2,vc2,f2,rfl,hO2,hL2,hA2,hb5⟩;have HX6:Hid (XSt (W5.alloc (.cells #[.slice so2 S.length sc2,.slice vo2 T.length vc2] 43)) W4.heap.size W5.heap.size so2 sc2 S vo2 vc2 T f2):=x_new hb5.size hO2 hL2 hA2;have HB6:Hid (Below W4.heap.size W4 (W5.alloc (.cells #[.slice so2 S.length sc2,.slice vo2 T.length vc2] 43))):=hb5.alloc hb5.size _;clear hO2 hL2 hA2 hb5 b0 b1 HCP;go_upto_region 7 with fail
     generalize W5.alloc (.cells #[.slice so2 S.length sc2,.slice vo2 T.length vc2] 43)=W6 at HX6 HB6 ⊢;generalize W5.heap.size=xb at HX6 ⊢;obtain⟨i0,hi0,hz0,hz1,hz2⟩:=info_parts Memb.info2;obtain⟨j0,hj0,hy0,hy1,hy2⟩:=info_parts infoS;obtain⟨S2,hS2⟩:∃S2,S2=S++[s]:=⟨_,rfl⟩
     have HS2:Hid (S2=S++[s]):=hS2;have x0:=HX6.out.x0;clear hS2;go_wp2_with (first | (at_builtin;refine wpList_append_own_at _ rfl _ _ 25 rfl W4.heap.size 2 i0 (.int .i64 0) 1 8 Tryz.underlying25 hi0 hz0 hz1 hz2 rfl (by decide) (.slice so2 S.length sc2) S.length (S.map (Value.int .i64)) (by first | rfl | simp [Act.eval]) (World.ownsRow.alloc HX6.out.own _) ⟨W6.heap.size,0,none⟩ 1 1 [.int .i64 s] (by first | rfl | simp [Act.eval]) rfl (Sg.one_new W6 s _) (Sg.one_one s) ?c3 ?c4 ?c5 ?_) | fail)
     case c3=>unfold maxLen;omega
     case c4=>omega
     case c5=>have:=HB6.out.size;simp;omega
     intro v3 W7 h3 hg3 _ hat;have hx:=x_seen HX6.out HB6.out.size h3 hg3 (by simpa using hat);rw [← HS2.out] at hx;obtain⟨a3,c3,rfl,hX8,⟨u,hu⟩,hfz,hB8⟩:=hx;have HX8:Hid (XSt (W7.setCell ⟨xb,0,none⟩ (.slice a3 S2.length c3)) W4.heap.size xb a3 c3 S2 vo2 vc2 T f2):=hX8;have HB8:Hid (Below W4.heap.size W4 (W7.setCell ⟨xb,0,none⟩ (.slice a3 S2.length c3))):=HB6.out.trans hB8;clear h3 hg3 hat hX8 hB8 HX6 HB6 x0;go_upto_region 8 with fail
     generalize W7.setCell ⟨xb,0,none⟩ (.slice a3 S2.length c3)=W8 at HX8 HB8 ⊢;clear hu hfz;obtain⟨ol,hol2⟩:∃ol,ol=outL L C s:=⟨_,rfl⟩
     obtain⟨T2,hT2⟩:∃T2,T2=T++[ol]:=⟨_,rfl⟩
     have HOL:Hid (ol=outL L C s):=hol2;have HT2:Hid (T2=T++[ol]):=hT2;rw [← hol2] at HOU2 hol;have HDR:Hid (XSt W8.drew W4.heap.size xb a3 c3 S2 vo2 vc2 T f2):=HX8.out.below (Below.refl _ _).drew;have HSZ:Hid (W4.heap.size≤W8.drew.heap.size):=HB8.out.size;have HST:Hid (∀(V1 V3:World) (ro:Option Addr) (rc:Nat) (o:Obj) (v3:Value),Below W8.drew.heap.size W8.drew V1→Memb.Own W8.drew.heap.size V1 ro rc ol→V3.ownsRow W4.heap.size 25 1 v3 (T.length+1) (vals f2 T++[.slice ro ol.length rc])→(V1.alloc o).grownBy V3 (Value.slice vo2 T.length vc2).ownBlock→∃vo3 vc3,v3=.slice vo3 T2.length vc3∧(∃f4,XSt (V3.setCell ⟨xb,1,none⟩ (.slice vo3 T2.length vc3)) W4.heap.size xb a3 c3 S2 vo3 vc3 T2 f4)∧(∃u,V3.cell? ⟨xb,1,none⟩=some u)∧V3.frozen? ⟨xb,1,none⟩=false∧Below W4.heap.size W4 (V3.setCell ⟨xb,1,none⟩ (.slice vo3 T2.length vc3))):=fun V1 V3 ro rc o v3 b1 hO h3 hg=>by
       obtain⟨vo3,vc3,e,q1,q2,q3,q4⟩:=x_told HDR.out HSZ.out b1 hO h3 hg;rw [← hT2] at e q1 q4;exact⟨vo3,vc3,e,⟨_,q1⟩,q2,q3,HB8.out.drew.trans q4⟩
     have HRW:Hid (∀X:World,XSt X W4.heap.size xb a3 c3 S2 vo2 vc2 T f2→X.ownsRow W4.heap.size 25 1 (.slice vo2 T.length vc2) T.length (vals f2 T)):=fun X q=>q.ll.row
     have HBW:Hid (∀X:World,Below W4.heap.size W4 X→Below w.heap.size w X):=fun X q=>HS4.out.bel.trans (q.mono HS4.out.bel.size)
     have y1:=HX8.out.x1;clear hol2 hT2;go_cut [9] from 12 to 48 (fun bv wx=>bv=.bool false∧∃vo4 vc4 f4,Hid (XSt wx W4.heap.size xb a3 c3 S2 vo4 vc4 T2 f4)∧Hid (Below W4.heap.size W4 wx))
     case first=>
       generalize vals f2 T=xs at HST HRW;go_region_law (first
         | (refine step_own_at rfl (.tmp 34) (.tmp 39) 41 rfl W4.heap.size 25 j0 (.slice none 0 0) 1 24 Tryz.underlying41 hj0 hy0 hy1 hy2 rfl (by decide) (.slice vo2 T.length vc2) T.length xs (by simp [Act.eval]) (HRW.out _ A2) ⟨V1.heap.size,0,none⟩ 1 1 [.slice ro ol.length rc] (by simp [Act.eval]) rfl (one_newV V1 _ _) (one_sl _ _ _) (by unfold maxLen;omega) (by omega) (by have:=HSZ.out;have:=bV.size;simp;omega) ?_
            intro v4 V3 h4 hg4 _;obtain⟨vo4,vc4,rfl,⟨f4,HX9⟩,⟨u9,x9⟩,f9,B9⟩:=HST.out V1 V3 ro rc _ v4 bV hO h4 hg4)
         | (rw [if_pos (by simp [Region.wanted])]
            go_simp
            refine(HOU2.out _ (HBW.out _ (HB8.out.drew))).mono ?_;rintro e V1 ⟨ro,rc,rfl,hO,bV⟩;have A1:=HDR.out.below bV;have A2:=A1.below ((Below.refl _ V1).alloc (Nat.le_refl _) (.cells #[.slice ro ol.length rc] 25));have d2:=A1.x1;have e2:=A2.x1))
       all_goals go_wp2_with fail
       all_goals go_meet
       all_goals exact⟨rfl,vo4,vc4,f4,HX9,B9⟩
     case rest=>
       obtain⟨rfl,vo4,vc4,f4,HX9,HB9⟩:=hcut;have hS2l:S2.length≤1048576:=by rw [HS2.out];simp;omega
       have hT2l:T2.length≤1048576:=by rw [HT2.out];have:=HTS.out;simp;omega
       have HT3:Hid (∀i,i<T2.length→(T2.getD i []).length≤1048576):=fun i hi=>by
         rw [HT2.out] at hi ⊢;rw [List.length_append,List.length_singleton] at hi;by_cases e:i=T.length
         · subst e;rw [getD_last];omega
         · rw [getD_snoc _ _ i (by omega)];exact HT60.out i (by omega)
       have hcall:=HLX.out wc a3 vo4 c3 vc4 S2 T2 f4 (HBW.out _ HB9.out) (own_log HX9.out.own HX9.out.ll).1 hS2l hT2l HT3.out;have z0:=HX9.out.x0;have z1:=HX9.out.x1;clear HX8 HB8 HDR HSZ HST HRW y1 HLX HOU2;go_wp2_with fail
       refine hcall.mono ?_;rintro e W9 ⟨rfl,hb9⟩;have HBX:Hid (Below W4.heap.size W4 W9):=HB9.out.trans (hb9.mono HB9.out.size);have HX10:Hid (XSt W9 W4.heap.size xb a3 c3 S2 vo4 vc4 T2 f4):=HX9.out.below hb9;have HX5:Hid (XSt W9 B1 ob so1 sc1 S vo1 vc1 T f1):=HX4.out.below HBX.out;have HS9:Hid (LSt w W9 so qo sc tc S T):=HS4.out.below HBX.out;have hrb4:w.heap.size+1<W4.heap.size:=HS4.out.lt;have r0:=HS9.out.r0;have r1:=HS9.out.r1;have g0:=HS9.out.f0;have g1:=HS9.out.f1;clear hcall hb9 HB9 HX9 HX4 HS4 z0 z1 HBX HT3 hS2l hT2l
       cases hlx:logB L C S2 T2
       · have HT:Hid (seenL L C S T s=S∧toldL L C S T s=T∧goesB L C S T s=false):=by
           have hgo:goesB L C S T s=false:=by unfold goesB;rw [← HOL.out,← HS2.out,← HT2.out,hlx];simp
           show _∧_∧_;unfold seenL toldL;rw [HLG.out,hgo];exact⟨rfl,rfl,rfl⟩
         have x0:=HX5.out.x0;have x1:=HX5.out.x1;obtain⟨k1,k2,k3,k4,k5⟩:=fin_put (x:=.slice so1 S.length sc1) (y:=.slice vo1 T.length vc1) (Nat.le_succ w.heap.size) HS9.out.bel r0 r1 g1;have HF:Hid (_):=fin_own (w:=w) (x:=.slice so1 S.length sc1) (y:=.slice vo1 T.length vc1) hB1 (by omega) HX5.out;have HAP:Hid (_):=HX5.out.ap;clear hlx HLG HCN HCD HX10 HX5 HS9 HT60 HS2 HT2 HOL HTS;go_wp2_with fail
         refine bodyPost_ret (v:=.tuple #[.agg #[.slice so1 S.length sc1,.slice vo1 T.length vc1],.bool false]) (by simp [results,Tryz.f23,go_sem,k3,k4]) rfl ?_;unfold LoggedPost;rw [HT.out.1,HT.out.2.1,HT.out.2.2];exact⟨so1,sc1,vo1,vc1,f1,rfl,HF.out.1,HF.out.2,HAP.out,k5⟩
       · have HT:Hid (seenL L C S T s=S2∧toldL L C S T s=T2∧goesB L C S T s=true):=by
           have hgo:goesB L C S T s=true:=by unfold goesB;rw [← HOL.out,← HS2.out,← HT2.out,hlx,HLG.out,HCD.out];rfl
           show _∧_∧_;unfold seenL toldL;rw [HLG.out,hgo,← HOL.out,← HS2.out,← HT2.out];exact⟨rfl,rfl,rfl⟩
         have x0:=HX10.out.x0;have x1:=HX10.out.x1;obtain⟨k1,k2,k3,k4,k5⟩:=fin_put (x:=.slice a3 S2.length c3) (y:=.slice vo4 T2.length vc4) (Nat.le_succ w.heap.size) HS9.out.bel r0 r1 g1;have HF:Hid (_):=fin_own (w:=w) (x:=.slice a3 S2.length c3) (y:=.slice vo4 T2.length vc4) hrb4 (by omega) HX10.out;have HAP:Hid (_):=HX10.out.ap;clear hlx HLG HCN HCD HX10 HX5 HS9 HT60 HS2 HT2 HOL HTS;go_wp2_with fail
         refine bodyPost_ret (v:=.tuple #[.agg #[.slice a3 S2.length c3,.slice vo4 T2.length vc4],.bool true]) (by simp [results,Tryz.f23,go_sem,k3,k4]) rfl ?_;unfold LoggedPost;rw [HT.out.1,HT.out.2.1,HT.out.2.2];exact⟨a3,c3,vo4,vc4,f4,rfl,HF.out.1,HF.out.2,HAP.out,k5⟩
end Lg
end Go.Proofs.YtbkeldfbllhlbaaGreat
