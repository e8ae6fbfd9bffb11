/-
 FnExactRead answers true at every argument, for Read answers as its model does, writes into no argument, and its answers own their memory; the library's tables and errors and the kinds' names that its road reads are tied to the program's text (of a pruned copy of the project).
-/
import Derived.Stop.Joined
import Derived.SevenTiedAt
import Derived.Lay
import Derived.Test.YtadbafppodhfpaaGreatDoorCards
import Derived.Test.YtadbafppodhfpaaGreatDoorTie
import Derived.Test.YtadbafppodhfpaaGreatDoorqzg6
import Derived.Test.YtadbafppodhfpaaGreatDoorqzg7
set_option linter.unusedVariables false
namespace Go.Proofs.YtadbafppodhfpaaGreatDoor.fnExactRead
open Go.ChangeShapes Go.WideShapes Go.ChangeAt Go.RowKit Go.Joins
open Bk (En RdE CpE MkE readB)
open Tx (RdS RdT OwnT)
set_option linter.unusedVariables false
set_option maxRecDepth 100000
theorem own:ownKnob Tryz.prog.godebug=none:=by kernel_rfl
theorem laidOut:laidOutB Tryz.prog=true:=by kernel_rfl
theorem rd_below{w w':World}{bo:Option Addr}{l:List Int}(h:Lst.Rd w bo l)(hl:∀g,bo=some ⟨g,0,none⟩→g<w.heap.size)(hb:Below w.heap.size w w'):Lst.Rd w' bo l:=by
 rcases h with h | ⟨g,e,hc⟩
 ·exact .inl h
 ·exact .inr ⟨g,e,fun j hj=>(hb.cell (p:=⟨g,j,none⟩) (hl g e)).trans (hc j hj)⟩
set_option maxHeartbeats 12800000 in
theorem walk(a0:Option Addr)(cap0:Nat)(S:List ByteArray)(w:World)(hl:S.length≤maxLen)(hws:∀k∈S,k.size≤maxLen)(hr:RdS w a0 S)(t:De.TabQ w) :
   Calls Tryz.prog 4 #[.slice a0 S.length cap0] w fun e w'=>e=.returned (.bool true)∧Below w.heap.size w w':=by
 have HT:Hid (∀X:World,Below w.heap.size w X→De.TabQ X):=fun X hX=>t.below hX
 have HIN:Hid (RdS w a0 S):=hr;clear t hr;go_enter Tryz.func4,Tryz.ntmps4
 go_wp2_with fail
 refine(Tx.szStringS a0 cap0 S 1048576 _ hl hws (by omega) (by omega) HIN.out).mono ?_;rintro e w1 ⟨r0,rfl,hr0',hr1',hsm,hb1⟩;have HSK:Hid (0≤r0→Tx.SmallS S):=hsm;have B1:Hid (Below w.heap.size w w1):=hb1;clear hsm hb1;by_cases hneg0:r0<0
 · go_wp2;go_ret;exact⟨rfl,B1.out⟩
 have hSK:=HSK.out (by omega);have HW:Hid (∀k∈S,k.size≤1073741824):=fun k hk=>by have:=hSK.2 k hk;omega
 have hL2:S.length≤1048576:=hSK.1;clear HSK hl hws hSK;have HCK:Hid (∀X:World,Below w.heap.size w X→Calls Tryz.prog 16 #[.slice a0 S.length cap0] X fun e w'=>∃q,e=.returned (.slice (some ⟨q,0,none⟩) S.length S.length)∧OwnT X.heap.size w' (some ⟨q,0,none⟩) S.length S∧Below w.heap.size w w'∧Below X.heap.size X w'):=fun X hX=>(Tx.toStringS a0 cap0 S X hL2 (HIN.out.below hX)).mono fun e w' z=>by
   obtain⟨e1,e2,e3⟩:=z;exact⟨_,e1,e2,hX.trans (e3.mono hX.size),e3⟩
 obtain⟨R,hR⟩:∃R,R=readB S:=⟨_,rfl⟩
 have hro:=Bk.readB_ok S;have hN1:R.1.length≤8:=by rw [hR];exact((Bk.okBook_iff _).1 hro.1).1
 have hN2:R.2.length≤1048576:=by rw [hR,hro.2];exact hL2
 clear hro;have HSP:Hid (∀(ao:Option Addr) (cap:Nat) (X:World),RdT X ao S→Calls Tryz.prog 8 #[.slice ao S.length cap] X fun e w'=>∃g c g' c',e=.returned (.tuple #[.slice (some ⟨g,0,none⟩) R.1.length c,.slice (some ⟨g',0,none⟩) R.2.length c'])∧CpE X.heap.size w'.heap.size w' (some ⟨g,0,none⟩) R.1∧Memb.Own X.heap.size w' (some ⟨g',0,none⟩) c' R.2∧Below X.heap.size X w'):=fun ao cap X h=>by
   rw [hR];exact(Bk.specRead ao cap S X (by omega) HW.out h).mono fun e w' z=>by
     obtain⟨g,c,g',c',e1,e2,e3,e4⟩:=z;exact⟨g,c,g',c',e1,Bk.cpE_own e2,e3,e4⟩
 have HIM:Hid (∀(ao:Option Addr) (cap:Nat) (X:World),Below w.heap.size w X→RdT X ao S→Calls Tryz.prog 7 #[.slice ao S.length cap] X (Bk.ReadsOk R X)):=fun ao cap X hX h=>by
   rw [hR];exact Bk.implRead ao cap S X hL2 HW.out (HT.out X hX) h
 have HEG:Hid (∀(X:World) (a b:Option Addr) (ca cb:Nat),RdE X a R.1→RdE X b R.1→Calls Tryz.prog 17 #[.slice a R.1.length ca,.slice b R.1.length cb] X fun e w'=>e=.returned (.bool true)∧Below X.heap.size X w'):=fun X a b ca cb h1 h2=>Bk.eqEntryS a b ca cb R.1 X (by omega) h1 h2
 have HEI:Hid (∀(X:World) (a b:Option Addr) (ca cb:Nat),Lst.Rd X a R.2→Lst.Rd X b R.2→Calls Tryz.prog 18 #[.slice a R.2.length ca,.slice b R.2.length cb] X fun e w'=>e=.returned (.bool true)∧Below X.heap.size X w'):=fun X a b ca cb h1 h2=>Nu.alikeB R.2 a b ca cb X hN2 h1 h2
 clear HT HW hR HIN;go_wp2_with fail
 refine(HCK.out _ B1.out).mono ?_;rintro e w2 ⟨q2,rfl,ho,hb2,hb⟩;have HT2:Hid (RdT w2 (some ⟨q2,0,none⟩) S):=Tx.own_rd ho;have B2:Hid (Below w.heap.size w w2):=hb2;clear ho hb2 hb B1;go_wp2_with fail
 refine(HSP.out _ _ _ HT2.out).mono ?_;rintro e w3 ⟨g,c,g',c',rfl,h1,h2,hb⟩;have B3:Hid (Below w.heap.size w w3):=B2.out.trans (hb.mono B2.out.size);have HO:Hid (∀X:World,Below w3.heap.size w3 X→RdE X (some ⟨g,0,none⟩) R.1∧Lst.Rd X (some ⟨g',0,none⟩) R.2):=fun X hX=>⟨(h1.below hX).rd,Nu.own_rd (Nu.own_below h2 hX)⟩
 have BW:Hid (∀X:World,Below w3.heap.size w3 X→Below w.heap.size w X):=fun X hX=>B3.out.trans (hX.mono B3.out.size)
 clear h1 h2 hb B2 HT2 HSP;go_wp2_with fail
 refine(HCK.out _ B3.out).mono ?_;rintro e w4 ⟨q,rfl,ho,hb2,hb⟩;have HX4:Hid (OwnT w3.heap.size w4 (some ⟨q,0,none⟩) S.length S):=ho;have B4:Hid (Below w3.heap.size w3 w4):=hb;clear ho hb2 hb B3;go_wp2_with fail
 refine(HIM.out _ _ _ (BW.out _ B4.out) (Tx.own_rd HX4.out)).mono ?_;rintro e w5 ⟨go,gc,bo,bc,rfl,hg,_,hi1,hap,hb⟩;have HG5:Hid (CpE w4.heap.size w5.heap.size w5 go R.1):=hg;have HI5:Hid (Memb.Own w4.heap.size w5 bo bc R.2):=hi1;have HAP:Hid (∀g o g',go=some ⟨g,o,none⟩→bo=some ⟨g',0,none⟩→g≠g'):=hap;have HX5:Hid (OwnT w3.heap.size w5 (some ⟨q,0,none⟩) S.length S):=Tx.own_below HX4.out hb;have hq:=Tx.own_far HX4.out q rfl;have B5:Hid (Below w3.heap.size w3 w5):=B4.out.trans (hb.mono B4.out.size);have hw4:w3.heap.size≤w4.heap.size:=B4.out.size;clear hg hi1 hap hb HX4 B4;generalize w4.heap.size=g0 at HG5 HI5 hq hw4;obtain⟨g1,hg1⟩:∃g1,g1=w5.heap.size:=⟨_,rfl⟩
 rw [← hg1] at HG5;clear hg1;go_wp2_with fail
 refine(HEG.out _ _ _ _ _ HG5.out.rd (HO.out _ B5.out).1).mono ?_;rintro e w6 ⟨rfl,hb⟩;have B6:Hid (_):=B5.out.trans (hb.mono B5.out.size);have HG6:Hid (_):=HG5.out.below hb;have HI6:Hid (_):=Nu.own_below HI5.out hb;have HX6:Hid (_):=Tx.own_below HX5.out hb;clear hb B5 HG5 HI5 HX5;go_wp2_with fail
 refine(HEI.out _ _ _ _ _ (Nu.own_rd HI6.out) (HO.out _ B6.out).2).mono ?_;rintro e w7 ⟨rfl,hb⟩;have B7:Hid (_):=B6.out.trans (hb.mono B6.out.size);have HG7:Hid (_):=HG6.out.below hb;have HI7:Hid (_):=Nu.own_below HI6.out hb;have HX7:Hid (_):=Tx.own_below HX6.out hb;clear hb B6 HG6 HI6 HX6;go_wp2_with fail
 refine(HCK.out _ (BW.out _ B7.out)).mono ?_;rintro e w8 ⟨q8,rfl,ho,hb2,hb⟩;have HC8:Hid (RdT w8 (some ⟨q8,0,none⟩) S):=Tx.own_rd ho;clear ho hb2;have B8:Hid (_):=B7.out.trans (hb.mono B7.out.size);have HG8:Hid (_):=HG7.out.below hb;have HI8:Hid (_):=Nu.own_below HI7.out hb;have HX8:Hid (_):=Tx.own_below HX7.out hb;clear hb B7 HG7 HI7 HX7;go_wp2_with fail
 refine(Tx.eqT S _ _ _ _ _ hL2 (Tx.own_rd HX8.out) HC8.out).mono ?_;rintro e w9 ⟨rfl,hb⟩;clear HC8;have B9:Hid (_):=B8.out.trans (hb.mono B8.out.size);have HG9:Hid (_):=HG8.out.below hb;have HI9:Hid (_):=Nu.own_below HI8.out hb;have HX9:Hid (_):=Tx.own_below HX8.out hb;clear hb B8 HG8 HI8 HX8;go_wp2_with fail
 refine(Bk.markTG q S.length S.length _ hL2 (Bk.row1_own HX9.out)).mono ?_;rintro e wa ⟨rfl,hgr⟩;have HGa:Hid (_):=HG9.out.keep hgr (fun b e=>by injection e with e;omega);have HIa:Hid (Memb.Own g0 wa bo bc R.2):=Nu.own_grown HI9.out hgr (fun g e=>by have:=Nu.own_far HI9.out g e;omega);have Ba:Hid (_):=B9.out.grown hgr B9.out.size (fun b e=>by injection e with e;omega);have hnk:¬ 1+(S.length:Int)<0:=by omega
 clear hgr HG9 HI9 HX9 B9;go_wp2_with fail
 refine(HEG.out _ _ _ _ _ HGa.out.rd (HO.out _ Ba.out).1).mono ?_;rintro e wb ⟨rfl,hb⟩;have Bb:Hid (_):=Ba.out.trans (hb.mono Ba.out.size);have HGb:Hid (_):=HGa.out.below hb;have HIb:Hid (_):=Nu.own_below HIa.out hb;clear hb Ba HGa HIa;go_wp2_with fail
 refine(HEI.out _ _ _ _ _ (Nu.own_rd HIb.out) (HO.out _ Bb.out).2).mono ?_;rintro e wc ⟨rfl,hb⟩;have Bc:Hid (_):=Bb.out.trans (hb.mono Bb.out.size);have HGc:Hid (_):=HGb.out.below hb;have HIc:Hid (_):=Nu.own_below HIb.out hb;clear hb Bb HGb HIb;go_wp2_with fail
 refine(Bk.markEntryS go R.1.length gc _ _ (by omega) HGc.out.mq).mono ?_;rintro e we ⟨rfl,hmk,rr,hrr,hgr⟩;have HMe:Hid (MkE we go R.1.length Bk.cellM):=hmk;have HIe:Hid (Memb.Own g0 we bo bc R.2):=by
   cases rr with
   | none=>exact Nu.own_below HIc.out ⟨hgr.os,hgr.tape,hgr.output,hgr.size,fun k hk=>hgr.block k hk (by simp)⟩
   | some b => exact Nu.own_grown HIc.out hgr (fun g' e=>by
       obtain⟨o,z⟩:=hrr b rfl;exact fun cc=>HAP.out b o g' z e cc.symm)
 have Be : Hid (_) := Bc.out.grown hgr Bc.out.size (fun b e=>by
   obtain⟨o,z⟩:=hrr b e;have:=HGc.out.bl b o z;omega)
 have hn1:¬ 1+(R.1.length:Int)*2<0:=by omega
 have hn2:¬ 1+(R.1.length:Int)*2+(R.2.length:Int)<0:=by omega
 clear hmk hgr hrr HGc HIc Bc;go_wp2_with fail
 refine(Bk.markO g0 R.2 bo bc (1+(R.1.length:Int)*2) _ (by omega) (by omega) hN2 HIe.out).mono ?_;rintro e wf ⟨rfl,hmi,rr,hrr,hgr⟩;have HMf:Hid (MkE wf go R.1.length Bk.cellM):=Bk.MkE.keep HMe.out hgr (fun b o z cc=>HAP.out b o b z (hrr b cc) rfl);have HNf:Hid (Lst.Rd wf bo (Lsx.marks (1+(R.1.length:Int)*2) R.2.length)):=hmi;have HLf:Hid (∀g,bo=some ⟨g,0,none⟩→g<wf.heap.size):=fun g e=>Nat.lt_of_lt_of_le (Nu.own_far HIe.out g e).2 hgr.size
 have Bf:Hid (_):=Be.out.grown hgr Be.out.size (fun b e=>by have:=Nu.own_far HIe.out b (hrr b e);omega);clear hmi hgr hrr HMe HIe Be HAP;go_wp2_with fail
 refine(Bk.heldEntryS go R.1.length gc _ (by omega) HMf.out).mono ?_;rintro e wg ⟨rfl,hb⟩;have Bg:Hid (_):=Bf.out.trans (hb.mono Bf.out.size);have HMg:Hid (MkE wg go R.1.length Bk.cellM):=Bk.MkE.below HMf.out hb;have HNg:Hid (Lst.Rd wg bo (Lsx.marks (1+(R.1.length:Int)*2) R.2.length)):=rd_below HNf.out HLf.out hb;have HLg:Hid (∀g,bo=some ⟨g,0,none⟩→g<wg.heap.size):=fun g e=>Nat.lt_of_lt_of_le (HLf.out g e) hb.size
 clear hb Bf HMf HNf HLf;go_wp2_with fail
 refine(Lsx.held (1+(R.1.length:Int)*2) R.2.length bo bc _ (by omega) (by omega) hN2 HNg.out).mono ?_;rintro e wg' ⟨rfl,rfl⟩;go_wp2_with fail
 refine(HCK.out _ (BW.out _ Bg.out)).mono ?_;rintro e wh ⟨qh,rfl,ho,hb2,hb⟩;have HCh:Hid (RdT wh (some ⟨qh,0,none⟩) S):=Tx.own_rd ho;clear ho hb2;have Bh:Hid (_):=Bg.out.trans (hb.mono Bg.out.size);have HMh:Hid (MkE wh go R.1.length Bk.cellM):=Bk.MkE.below HMg.out hb;have HNh:Hid (Lst.Rd wh bo (Lsx.marks (1+(R.1.length:Int)*2) R.2.length)):=rd_below HNg.out HLg.out hb;have HLh:Hid (∀g,bo=some ⟨g,0,none⟩→g<wh.heap.size):=fun g e=>Nat.lt_of_lt_of_le (HLg.out g e) hb.size
 clear hb Bg HMg HNg HLg;go_wp2_with fail
 refine(HIM.out _ _ _ (BW.out _ Bh.out) HCh.out).mono ?_;rintro e wi ⟨go2,gc2,bo2,bc2,rfl,hg,_,hi1,_,hb⟩;have HGi:Hid (CpE wh.heap.size wi.heap.size wi go2 R.1):=hg;have HIi:Hid (Memb.Own wh.heap.size wi bo2 bc2 R.2):=hi1;clear hg hi1 HCh;have Bi:Hid (_):=Bh.out.trans (hb.mono Bh.out.size);have HMi:Hid (MkE wi go R.1.length Bk.cellM):=Bk.MkE.below HMh.out hb;have HNi:Hid (Lst.Rd wi bo (Lsx.marks (1+(R.1.length:Int)*2) R.2.length)):=rd_below HNh.out HLh.out hb;have HLi:Hid (∀g,bo=some ⟨g,0,none⟩→g<wi.heap.size):=fun g e=>Nat.lt_of_lt_of_le (HLh.out g e) hb.size
 clear hb Bh HMh HNh HLh;go_wp2_with fail
 refine(HEG.out _ _ _ _ _ HGi.out.rd (HO.out _ Bi.out).1).mono ?_;rintro e wj ⟨rfl,hb⟩;have Bj:Hid (_):=Bi.out.trans (hb.mono Bi.out.size);have HMj:Hid (MkE wj go R.1.length Bk.cellM):=Bk.MkE.below HMi.out hb;have HNj:Hid (Lst.Rd wj bo (Lsx.marks (1+(R.1.length:Int)*2) R.2.length)):=rd_below HNi.out HLi.out hb;have HLj:Hid (∀g,bo=some ⟨g,0,none⟩→g<wj.heap.size):=fun g e=>Nat.lt_of_lt_of_le (HLi.out g e) hb.size
 have HIj:Hid (_):=Nu.own_below HIi.out hb;clear hb Bi HMi HNi HLi HIi;go_wp2_with fail
 refine(HEI.out _ _ _ _ _ (Nu.own_rd HIj.out) (HO.out _ Bj.out).2).mono ?_;rintro e wm ⟨rfl,hb⟩;have Bm:Hid (_):=Bj.out.trans (hb.mono Bj.out.size);have HMm:Hid (MkE wm go R.1.length Bk.cellM):=Bk.MkE.below HMj.out hb;have HNm:Hid (Lst.Rd wm bo (Lsx.marks (1+(R.1.length:Int)*2) R.2.length)):=rd_below HNj.out HLj.out hb;have HLm:Hid (∀g,bo=some ⟨g,0,none⟩→g<wm.heap.size):=fun g e=>Nat.lt_of_lt_of_le (HLj.out g e) hb.size
 clear hb Bj HMj HNj HLj;go_wp2_with fail
 refine(Bk.heldEntryS go R.1.length gc _ (by omega) HMm.out).mono ?_;rintro e wl ⟨rfl,hb⟩;have Bl:Hid (_):=Bm.out.trans (hb.mono Bm.out.size);have HNl:Hid (Lst.Rd wl bo (Lsx.marks (1+(R.1.length:Int)*2) R.2.length)):=rd_below HNm.out HLm.out hb;have HLl:Hid (∀g,bo=some ⟨g,0,none⟩→g<wl.heap.size):=fun g e=>Nat.lt_of_lt_of_le (HLm.out g e) hb.size
 clear hb Bm HNm HLm;have HF:Hid (_):=BW.out _ Bl.out;go_wp2_with fail
 refine(Lsx.held (1+(R.1.length:Int)*2) R.2.length bo bc _ (by omega) (by omega) hN2 HNl.out).mono ?_;rintro e wl' ⟨rfl,rfl⟩;go_wp2;go_ret;exact⟨rfl,HF.out⟩
theorem tabs{W:World}(h:laidMetH Tryz.prog Rows.fnExactReadRow.laid W)(hsh:W.ShapedOpen Tryz.prog):De.TabQ W:=by
 rw [MakeChecks.laidMetH_plain _ _ _ (by kernel_rfl)] at h;exact De.tabQ_of h hsh (.tail _ (.tail _ (.head _))) (.tail _ (.tail _ (.tail _ (.tail _ (.tail _ (.tail _ (.head _))))))) (.tail _ (.tail _ (.tail _ (.tail _ (.tail _ (.head _)))))) (.tail _ (.tail _ (.tail _ (.tail _ (.head _)))))
theorem lifted(os:Os)(started:os.Started)(H:Type)(enc:TypeId × Value→H) :
   ReturnsInHanded {} Tryz.checked os 4 .any (fun w args=>(Rows.fnExactReadSpec.pre enc Tryz.prog Tryz.f4 [] false w args∧laidMetH Tryz.prog Rows.fnExactReadRow.laid w)∧sizedMet enc Tryz.prog Tryz.f4 (OpenSpec.ofChange Rows.fnExactReadSpec) false w args) (Rows.fnExactReadSpec.post enc Tryz.prog Tryz.f4 false true false false):=by
 refine De.wrap (C:=Tryz.checked) (X:=fun w=>laidMetH Tryz.prog Rows.fnExactReadRow.laid w) (fun _ _ hh h=>h.of_heap hh) own started (by kernel_rfl) Tryz.func4
   (ChangeSpec.witness_shaped (enc:=enc) (C:=Tryz.checked) (os:=os) (X:=fun w _=>laidMetH Tryz.prog Rows.fnExactReadRow.laid w) false (World.laidAll Tryz.prog os Rows.fnExactReadRow.laid) #[.slice none 0 0] 8 (World.laidAll_os _ _ _)
     (World.shaped_of_ZipB (by kernel_rfl) (by kernel_rfl)) (by kernel_rfl) (by kernel_rfl) (by kernel_rfl)
     (by rw [MakeChecks.laidMetH_plain _ _ _ (by kernel_rfl)];exact laidMet_laidAll _ (by kernel_rfl) (by kernel_rfl))) ?_
 intro W base args ds gs before hval0 hW hL hsh;have hval:∀(j:Nat) t v,Tryz.f4.params[j]? = some t→args[j]? = some v→Value.okWide Tryz.prog W .any base t v:=hval0;have hW':=hW;obtain⟨p,q,hA0,hV0,rfl,hfz,hnd⟩:=hW;have hA:DataW.TrodAll enc Tryz.prog W 0 (fun _=>true) true Tryz.f4.params.toList args.toList ds p:=hA0;have hV:DataW.TrodVars enc Tryz.prog W (fun _=>true) ["loop.example/g00418/impl.kindNames"] gs q:=hV0;rw [Tryz.params4] at hA hval;obtain⟨v0,vs0,d0,ds0,p0,q0,hargs,rfl,rfl,h0,r0⟩:=trodAll_cons hA;obtain⟨rfl,rfl,rfl⟩:=trodAll_nil r0;obtain rfl:args=#[v0]:=by cases args;simp_all
 have hT:=tabs hL hsh;have hK:=hT.p.knd;obtain⟨rfl,rfl⟩:=hV.unique (De.kind_read enc hK _);obtain⟨a0,len0,cap0,rfl⟩:=okWide_slice Tryz.underlying24 (hval 0 24 v0 rfl rfl);have k0:=h0;have lt0:∀x∈p0,x.block<W.heap.size:=by obtain⟨m,hm⟩:=k0;exact DataW.trod_lt m _ _ _ hm
 obtain⟨fuel,hf⟩:=h0;obtain⟨L,rfl,hrd,hws,hl⟩:=Tx.openS (a0:=a0) (len0:=len0) (cap0:=cap0) hf;clear hA0 hV0 hval0;refine(walk a0 cap0 L W hl hws hrd hT).mono fun e W' ⟨he,bel⟩=>?_
 subst he;exact⟨_,rfl,_,_,_,[],_,De.kindP,hW',trodAll_mk1 (shut_bool Tryz.underlying4 _),(trodAll_cons_mk (Below.trod laidOut (by kernel_rfl) (of_decide_eq_true (by kernel_rfl)) k0 bel lt0) trodAll_mk0),De.kind_read enc (De.var_keep De.gKind bel hK) _,bel.frame _,fun h=>by cases h⟩
theorem over:Rows.fnExactReadRow.holds Tryz.pinned (OpenSpec.ofChange Rows.fnExactReadSpec):=
 OpenClaim.holds_of_wide 4 Tryz.f4 rfl rfl rfl rfl rfl rfl rfl ⟨rfl,rfl,rfl,rfl,rfl⟩ rfl rfl rfl rfl rfl (by kernel_rfl) Tryz.func4 (by kernel_rfl)
  (of_decide_eq_true (by kernel_rfl)) (by unfold Func.isWrapper;first | (rw [if_pos (by decide +kernel)];kernel_rfl) | (rw [if_neg (by decide +kernel)];exact⟨rfl,rfl⟩))
  (fun os started H enc _=>lifted os started H enc)
theorem proved:Rows.FnExactReadCardSaid:=
 Claim7.holds_tied_plain_at .later [] [.data,.data,.data,.data,.sentinel,.sentinel,.data,.pinned] true (true, "2a9ea635d45c3c7dcf0691dfb1d2b371b1f1586976d0c621b43c21c6e2ced9b2") true
   over (fun _ h=>by cases h) (by kernel_rfl) (fun _ h=>by cases h) fnExactRead_row_tie rfl ⟨rfl,rfl⟩ (by kernel_rfl) rfl
   (fun f fn hf hfn=>by
     obtain rfl:f=4:=Option.some.inj ((show Tryz.prog.funcNamed "loop.example/g00418/laws.FnExactRead" = some 4 by kernel_rfl).symm.trans hf) |>.symm;obtain rfl:fn=Tryz.f4:=(Option.some.inj (Tryz.func4.symm.trans hfn)).symm;exact ⟨by kernel_rfl,fun j t ht=>by
       rw [Tryz.params4] at ht;have hm:t∈[24]:=by simpa using Array.mem_of_getElem? ht
       have hall:([24].all fun u=>!Tryz.prog.wantsStandIn u)=true:=by kernel_rfl
       exact(show Tryz.prog.wantsStandIn t=false by simpa using List.all_eq_true.1 hall t hm)⟩)
   (by kernel_rfl)
end Go.Proofs.YtadbafppodhfpaaGreatDoor.fnExactRead
