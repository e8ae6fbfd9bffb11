/-
 FnExactDone answers true at every argument, for Done answers as its model does, writes into no argument, and its answer owns its memory; no condition.
-/
import Derived.Test.YtadbafppodhfpaaezBkG
import Derived.Test.Ytadbafppodhfpaaezg4
set_option linter.unusedVariables false
namespace Go.Proofs.Ytadbafppodhfpaa.fnExactDone
open Go.ChangeShapes Go.WideShapes Go.ChangeAt Go.RowKit Go.Joins
open Bk (En RdE CpE MkE doneB)
open De (D)
set_option linter.unusedVariables false
set_option maxRecDepth 100000
theorem own:ownKnob Try.prog.godebug=none:=by kernel_rfl
theorem laidOut:laidOutB Try.prog=true:=by kernel_rfl
theorem cellsK:Try.prog.cellsOf 43=4:=by kernel_rfl
theorem words{L:List En}(h:Bk.Small L):∀k∈L,k.key.size≤1073741824:=fun k hk=>by have:=h.2 k hk;omega
theorem unD{X V:World}(hb:Below X.drew.heap.size X.drew V):Below X.heap.size X V:=(Below.refl _ X).drew.trans hb
theorem trI{H:Type}{enc:TypeId × Value→H}{w:World}{base:Nat}{spare:Nat→Bool}{held:Bool}(a:Int)(wa:(Lit.int .i64 a).wf=true):∃n,DataW.trod enc Try.prog w base spare held n 2 [.int .i64 a]=some (.lit (.int .i64 a),[]):=
 ⟨1,by simp [DataW.trod,Try.underlying2,wa]⟩
theorem trS{H:Type}{enc:TypeId × Value→H}{w:World}{base:Nat}{spare:Nat→Bool}{held:Bool}(a:ByteArray)(wa:a.size≤maxLen):∃n,DataW.trod enc Try.prog w base spare held n 9 [.string a]=some (.lit (.string a.data.toList),[]):=
 ⟨1,by simp [DataW.trod,Try.underlying9,wa]⟩
set_option maxHeartbeats 12800000 in
theorem walk(a0:Option Addr)(cap0:Nat)(L:List En)(h r f:Int)(s:ByteArray)(w:World)(hl:L.length≤maxLen)(hws:∀k∈L,k.key.size≤maxLen)(hrd0:RdE w a0 L)(hs:s.size≤maxLen) :
   Calls Try.prog 5 #[.slice a0 L.length cap0,.agg #[.int .i64 h,.string s,.int .i64 r,.int .i64 f]] w fun e w'=>e=.returned (.bool true)∧Below w.heap.size w w':=by
 have HII:Hid (Bk.ImplDone fun _=>True):=(Bk.implDone fun _=>True)
 have P0:Hid (Below w.heap.size w (w.alloc (.cells #[.int .i64 h,.string s,.int .i64 r,.int .i64 f] 43))∧(∀V,V=(w.alloc (.cells #[.int .i64 h,.string s,.int .i64 r,.int .i64 f] 43))→V.cell? ⟨w.heap.size,0,none⟩=some (.int .i64 h)∧V.cell? ⟨w.heap.size,1,none⟩=some (.string s)∧V.cell? ⟨w.heap.size,2,none⟩=some (.int .i64 r)∧V.cell? ⟨w.heap.size,3,none⟩=some (.int .i64 f))∧w.heap.size<(w.alloc (.cells #[.int .i64 h,.string s,.int .i64 r,.int .i64 f] 43)).heap.size):=⟨(Below.refl _ _).alloc (Nat.le_refl _) _,fun V e=>by subst e;simp,by simp⟩
 have HIN:Hid (RdE w a0 L):=hrd0;clear hrd0;go_enter Try.func5,Try.ntmps5
 go_upto_region 2 with fail
 generalize w.alloc (.cells #[.int .i64 h,.string s,.int .i64 r,.int .i64 f] 43)=W0 at P0 ⊢;have HB0:Hid (Below w.heap.size w W0):=P0.out.1;have HBX:Hid (∀V:World,Below W0.heap.size W0 V→V.cell? ⟨w.heap.size,0,none⟩=some (.int .i64 h)∧V.cell? ⟨w.heap.size,1,none⟩=some (.string s)∧V.cell? ⟨w.heap.size,2,none⟩=some (.int .i64 r)∧V.cell? ⟨w.heap.size,3,none⟩=some (.int .i64 f)):=fun V hV=>by
   obtain⟨q0,q1,q2,q3⟩:=P0.out.2.1 W0 rfl;have hb:=P0.out.2.2;exact⟨(hV.cell (p:=⟨w.heap.size,0,none⟩) hb).trans q0,(hV.cell (p:=⟨w.heap.size,1,none⟩) hb).trans q1,(hV.cell (p:=⟨w.heap.size,2,none⟩) hb).trans q2,(hV.cell (p:=⟨w.heap.size,3,none⟩) hb).trans q3⟩
 have HIV:Hid (∀V:World,Below W0.heap.size W0 V→RdE V a0 L):=fun V hV=>(HIN.out.below HB0.out).below hV
 have HE:Hid (∀V:World,Below W0.heap.size W0 V→Below w.heap.size w V):=fun V hV=>HB0.out.trans (hV.mono HB0.out.size)
 clear P0 HIN HB0;generalize w.heap.size=bb at HBX ⊢;go_wp2_with fail
 refine(Bk.szEntryS a0 cap0 L 1048576 _ hl hws (by omega) (by omega) (HIV.out _ (Below.refl _ _))).mono ?_;rintro e w1 ⟨r0,rfl,hr0',hr1',hsm,hb1⟩;have HSK:Hid (0≤r0→Bk.Small L):=hsm;have B1:Hid (Below W0.heap.size W0 w1):=hb1;clear hsm hb1;by_cases hneg0:r0<0
 · go_wp2;go_ret;exact⟨rfl,HE.out _ B1.out⟩
 have hSK:=HSK.out (by omega);have HW:Hid (∀k∈L,k.key.size≤1073741824):=words hSK;have hL2:L.length≤1048576:=hSK.1;clear HSK hl hws hSK;obtain⟨c0,c1,c2,c3⟩:=HBX.out w1 B1.out;go_wp2_with fail
 refine(De.szDeed h r f s r0 _ hs (by omega) (by omega)).mono ?_;rintro e w2 ⟨rfl,hb1⟩;have B2:Hid (Below W0.heap.size W0 w2):=B1.out.trans (hb1.mono B1.out.size);clear hb1 c0 c1 c2 c3 B1;by_cases hbig:r0<(s.size:Int)
 · have hz:De.szI r0 s.size=-1:=if_pos hbig;rw [hz];go_wp2;go_ret;exact⟨rfl,HE.out _ B2.out⟩
 have hz:De.szI r0 s.size=r0-(s.size:Int):=if_neg hbig;rw [hz];have hnn:¬ (r0-(s.size:Int))<0:=by omega
 have hs2:s.size≤1073741824:=by omega
 have hrl:r0-(s.size:Int)≤1048576:=by omega
 generalize r0-(s.size:Int)=left at hnn hrl ⊢;clear hz hbig hs;have HCK:Hid (∀X:World,Below W0.heap.size W0 X→Calls Try.prog 18 #[.slice a0 L.length cap0] X fun e w'=>∃q,e=.returned (.slice (some ⟨q,0,none⟩) L.length L.length)∧CpE X.heap.size w'.heap.size w' (some ⟨q,0,none⟩) L∧Below W0.heap.size W0 w'∧Below X.heap.size X w'):=fun X hX=>(Bk.toEntryS a0 cap0 L X hL2 (HIV.out X hX)).mono fun e w' z=>by
   obtain⟨e1,e2,e3⟩:=z;exact⟨_,e1,Bk.cpE_to e2 e3,hX.trans (e3.mono hX.size),e3⟩
 have HTD:Hid (∀X:World,Calls Try.prog 21 #[.agg #[.int .i64 h,.string s,.int .i64 r,.int .i64 f]] X fun e w'=>e=.returned (.agg #[.int .i64 h,.string s,.int .i64 r,.int .i64 f])∧Below X.heap.size X w'):=fun X=>De.toDeed h r f s X
 obtain⟨R,hR⟩:∃R,R=doneB L ⟨h,s,r,f⟩:=⟨_,rfl⟩
 have HSP:Hid (∀(k0 k1 g:Nat) (X:World),CpE k0 k1 X (some ⟨g,0,none⟩) L→Calls Try.prog 12 #[.slice (some ⟨g,0,none⟩) L.length L.length,.agg #[.int .i64 h,.string s,.int .i64 r,.int .i64 f]] X fun e w'=>∃ro rc,e=.returned (.tuple #[.slice ro R.1.length rc,.int .i64 R.2])∧CpE X.heap.size w'.heap.size w' ro R.1∧Below X.heap.size X w'):=fun k0 k1 g X h1=>by
   rw [hR];exact(Bk.specDone (some ⟨g,0,none⟩) L.length L ⟨h,s,r,f⟩ X (by omega) (fun e he=>by have:=HW.out e he;omega) h1.rd (fun e=>by cases e) (by show s.size≤_;omega)).mono fun e w' z=>by
     obtain⟨g',c',e1,e2,e3⟩:=z;exact⟨_,_,e1,Bk.cpE_own e2,e3⟩
 have HIM:Hid (∀(k0 k1 g:Nat) (X:World),CpE k0 k1 X (some ⟨g,0,none⟩) L→Calls Try.prog 9 #[.slice (some ⟨g,0,none⟩) L.length L.length,.agg #[.int .i64 h,.string s,.int .i64 r,.int .i64 f]] X fun e w'=>∃ro rc,e=.returned (.tuple #[.slice ro R.1.length rc,.int .i64 R.2])∧CpE X.heap.size w'.heap.size w' ro R.1∧Below X.heap.size X w'):=fun k0 k1 g X h1=>by
   rw [hR];exact(HII.out (some ⟨g,0,none⟩) L.length L ⟨h,s,r,f⟩ X hL2 HW.out (by show s.size≤_;omega) trivial h1.rd (fun e=>by cases e)).mono fun e w' z=>by
     obtain⟨g',c',e1,e2,_,e3⟩:=z;exact⟨_,_,e1,e2,e3⟩
 have hN:R.1.length≤1048577:=by
   rw [hR];unfold doneB;split
   · have:=Bk.doB_len (L:=L) (d:=⟨h,s,r,f⟩);omega
   · simp
 have HEQ:Hid (∀(X:World) (a b:Option Addr) (ca cb:Nat),RdE X a L→RdE X b L→Calls Try.prog 19 #[.slice a L.length ca,.slice b L.length cb] X fun e w'=>e=.returned (.bool true)∧Below X.heap.size X w'):=fun X a b ca cb h1 h2=>Bk.eqEntryS a b ca cb L X (by omega) h1 h2
 have HEG:Hid (∀(X:World) (a b:Option Addr) (ca cb:Nat),RdE X a R.1→RdE X b R.1→Calls Try.prog 19 #[.slice a R.1.length ca,.slice b R.1.length cb] X fun e w'=>e=.returned (.bool true)∧Below X.heap.size X w'):=fun X a b ca cb h1 h2=>Bk.eqEntryS a b ca cb R.1 X (by omega) h1 h2
 clear HII HW hR;go_upto_region 8 with fail
 have HSB:Hid (∀V:World,Below w2.heap.size w2 V→V.cell? ⟨bb,0,none⟩=some (.int .i64 h)∧V.cell? ⟨bb,1,none⟩=some (.string s)∧V.cell? ⟨bb,2,none⟩=some (.int .i64 r)∧V.cell? ⟨bb,3,none⟩=some (.int .i64 f)):=fun V hV=>HBX.out V (B2.out.trans (hV.mono B2.out.size))
 have HK2:Hid (∀X:World,Below w2.heap.size w2 X→Calls Try.prog 18 #[.slice a0 L.length cap0] X fun e w'=>∃q k0 k1,e=.returned (.slice (some ⟨q,0,none⟩) L.length L.length)∧CpE k0 k1 w' (some ⟨q,0,none⟩) L∧Below w2.heap.size w2 w'∧Below X.heap.size X w'):=fun X hX=>(HCK.out X (B2.out.trans (hX.mono B2.out.size))).mono fun e w' z=>by
   obtain⟨q,e1,e2,_,e3⟩:=z;exact⟨q,_,_,e1,e2,hX.trans (e3.mono hX.size),e3⟩
 go_cut [6,7] from 26 to 34 (fun pv bv wx=>∃(ro:Option Addr) (rc lo hi:Nat),pv=.slice ro R.1.length rc∧bv=.int .i64 R.2∧Hid (CpE lo hi wx ro R.1∧Below w2.heap.size w2 wx))
 case first=>
   clear HIM HEQ HEG HCK HBX HIV HE;go_region_held3 (fun V => V.cell? ⟨bb, 0, none⟩ = some (.int .i64 h) ∧ V.cell? ⟨bb, 1, none⟩ = some (.string s) ∧ V.cell? ⟨bb, 2, none⟩ = some (.int .i64 r) ∧ V.cell? ⟨bb, 3, none⟩ = some (.int .i64 f)) (first
     | exact HSB.out _ BV | exact HSB.out _ BV.drew | exact HSB.out _ (Below.refl _ _) | exact HSB.out _ (Below.refl _ _).drew | go_keep) (first
     | (go_at_call 18
        refine(HK2.out _ (by first | exact BV | exact BV.drew | exact(Below.refl _ _).drew | exact Below.refl _ _)).mono ?_;rintro e V ⟨gk,k0,k1,rfl,RK,BV,bv⟩)
     | (go_at_call 21
        refine(HTD.out _).mono ?_;rintro e V ⟨rfl,bv⟩
        (try have RK:=(by first | exact RK.below bv | exact RK.below (unD bv)))
        have BV:=(by first | exact BV.trans (bv.mono BV.size) | exact BV.trans ((unD bv).mono BV.size) | exact bv | exact unD bv))
     | (go_at_call 12
        refine(HSP.out _ _ _ _ (by first | exact RK | exact RK.below (Below.refl _ _).drew)).mono ?_;rintro e V ⟨ro,rc,rfl,RG,bv⟩;have BV:=(by first | exact BV.trans (bv.mono BV.size) | exact BV.trans ((unD bv).mono BV.size))))
   all_goals go_wp2_with fail
   all_goals go_meet
   all_goals exact⟨_,_,_,_,rfl,rfl,RG,BV⟩
 case rest=>
   obtain⟨uo1,uc1,lo1,hi1,rfl,rfl,HR⟩:=hcut;have B3:Hid (Below W0.heap.size W0 wc):=B2.out.trans (HR.out.2.mono B2.out.size);have HO:Hid (∀X:World,Below wc.heap.size wc X→RdE X uo1 R.1):=fun X hX=>(HR.out.1.below hX).rd
   have BW:Hid (∀X:World,Below wc.heap.size wc X→Below W0.heap.size W0 X):=fun X hX=>B3.out.trans (hX.mono B3.out.size)
   clear HSP HSB HK2 B2 HR;go_wp2_with fail
   refine(HCK.out _ B3.out).mono ?_;rintro e w4 ⟨gk,rfl,hc,hb2,hb⟩;have HK4:Hid (CpE wc.heap.size w4.heap.size w4 (some ⟨gk,0,none⟩) L):=hc;have B4:Hid (Below wc.heap.size wc w4):=hb;clear hc hb hb2 B3;obtain⟨k1,hk1⟩:∃k1,k1=w4.heap.size:=⟨_,rfl⟩
   rw [← hk1] at HK4;obtain⟨c0,c1,c2,c3⟩:=HBX.out _ (BW.out _ B4.out);go_wp2_with fail
   refine(HTD.out _).mono ?_;rintro e w5 ⟨rfl,hb⟩;have HK5:Hid (CpE wc.heap.size k1 w5 (some ⟨gk,0,none⟩) L):=HK4.out.below hb;have B5:Hid (Below wc.heap.size wc w5):=B4.out.trans (hb.mono B4.out.size);have hk5:k1≤w5.heap.size:=by rw [hk1];exact hb.size
   clear hb HK4 B4 hk1 c0 c1 c2 c3;go_wp2_with fail
   refine(HIM.out _ _ _ _ HK5.out).mono ?_;rintro e w6 ⟨go,gc,rfl,hg,hb⟩;have HG6:Hid (CpE w5.heap.size w6.heap.size w6 go R.1):=hg;have HK6:Hid (CpE wc.heap.size k1 w6 (some ⟨gk,0,none⟩) L):=HK5.out.below hb;have B6:Hid (Below wc.heap.size wc w6):=B5.out.trans (hb.mono B5.out.size);have hw5:wc.heap.size≤w5.heap.size:=B5.out.size;clear hg hb HK5 B5;generalize w5.heap.size=g0 at HG6 hk5 hw5;obtain⟨g1,hg1⟩:∃g1,g1=w6.heap.size:=⟨_,rfl⟩
   rw [← hg1] at HG6;clear hg1;go_wp2_with fail
   refine(HEG.out _ _ _ _ _ HG6.out.rd (HO.out _ B6.out)).mono ?_;rintro e w7 ⟨rfl,hb⟩;have HG7:Hid (_):=HG6.out.below hb;have HK7:Hid (_):=HK6.out.below hb;have B7:Hid (_):=B6.out.trans (hb.mono B6.out.size);clear hb HG6 HK6 B6;go_wp2_with fail
   refine(HCK.out _ (BW.out _ B7.out)).mono ?_;rintro e w8 ⟨gk2,rfl,hc,hb2,hb⟩;have HC8:Hid (RdE w8 (some ⟨gk2,0,none⟩) L):=hc.rd;have HG8:Hid (_):=HG7.out.below hb;have HK8:Hid (_):=HK7.out.below hb;have B8:Hid (_):=B7.out.trans (hb.mono B7.out.size);clear hb hb2 hc HG7 HK7 B7;go_wp2_with fail
   refine(HEQ.out _ _ _ _ _ HK8.out.rd HC8.out).mono ?_;rintro e w9 ⟨rfl,hb⟩;have HG9:Hid (_):=HG8.out.below hb;have HK9:Hid (_):=HK8.out.below hb;have B9:Hid (_):=B8.out.trans (hb.mono B8.out.size);clear hb HC8 HG8 HK8 B8;go_wp2_with fail
   refine(Bk.markEntryS (some ⟨gk,0,none⟩) L.length L.length _ _ (by omega) HK9.out.mq).mono ?_;rintro e wa ⟨rfl,_,rr,hrr,hgr⟩;have hgk:=HK9.out.bl gk 0 rfl;have hrb:∀b,rr=some b→b=gk:=fun b e=>by
     obtain⟨o,q⟩:=hrr b e;injection q with q;injection q with q;exact q.symm
   have HGa:Hid (_):=HG9.out.keep hgr (fun b e=>by have:=hrb b e;omega);have Ba:Hid (_):=B9.out.grown hgr B9.out.size (fun b e=>by have:=hrb b e;omega);have hnk:¬ 1+(L.length:Int)*2<0:=by omega
   clear hgr hrr hrb hgk HG9 HK9 B9;go_wp2_with fail
   refine(HEG.out _ _ _ _ _ HGa.out.rd (HO.out _ Ba.out)).mono ?_;rintro e wb ⟨rfl,hb⟩;have HGb:Hid (_):=HGa.out.below hb;have Bb:Hid (_):=Ba.out.trans (hb.mono Ba.out.size);clear hb HGa Ba;go_wp2_with fail
   refine(Bk.markEntryS go R.1.length gc _ _ (by omega) HGb.out.mq).mono ?_;rintro e we ⟨rfl,hmk,rr,hrr,hgr⟩;have HMe:Hid (MkE we go R.1.length Bk.cellM):=hmk;have Be : Hid (_) := Bb.out.grown hgr Bb.out.size (fun b e=>by
     obtain⟨o,q⟩:=hrr b e;have:=HGb.out.bl b o q;omega)
   have hnm:¬ 1+(R.1.length:Int)*2<0:=by omega
   clear hmk hgr hrr HGb Bb;go_wp2_with fail
   refine(Bk.heldEntryS go R.1.length gc _ (by omega) HMe.out).mono ?_;rintro e wf ⟨rfl,hb⟩;have HMf:Hid (MkE wf go R.1.length Bk.cellM):=Bk.MkE.below HMe.out hb;have Bf:Hid (_):=Be.out.trans (hb.mono Be.out.size);clear hb HMe Be;go_upto_region 27 with fail
   have HSB:Hid (∀V:World,Below wf.heap.size wf V→V.cell? ⟨bb,0,none⟩=some (.int .i64 h)∧V.cell? ⟨bb,1,none⟩=some (.string s)∧V.cell? ⟨bb,2,none⟩=some (.int .i64 r)∧V.cell? ⟨bb,3,none⟩=some (.int .i64 f)):=fun V hV=>HBX.out V (BW.out _ (Bf.out.trans (hV.mono Bf.out.size)))
   have HK2:Hid (∀X:World,Below wf.heap.size wf X→Calls Try.prog 18 #[.slice a0 L.length cap0] X fun e w'=>∃q k0 k1,e=.returned (.slice (some ⟨q,0,none⟩) L.length L.length)∧CpE k0 k1 w' (some ⟨q,0,none⟩) L∧Below wf.heap.size wf w'∧Below X.heap.size X w'):=fun X hX=>(HCK.out X (BW.out _ (Bf.out.trans (hX.mono Bf.out.size)))).mono fun e w' z=>by
     obtain⟨q,e1,e2,_,e3⟩:=z;exact⟨q,_,_,e1,e2,hX.trans (e3.mono hX.size),e3⟩
   go_cut [14,15] from 84 to 92 (fun pv bv wx=>∃(ro:Option Addr) (rc lo hi:Nat),pv=.slice ro R.1.length rc∧bv=.int .i64 R.2∧Hid (CpE lo hi wx ro R.1∧Below wf.heap.size wf wx))
   case first=>
     clear HEQ HEG HCK HBX HIV HE HMf Bf HO BW;go_region_held3 (fun V => V.cell? ⟨bb, 0, none⟩ = some (.int .i64 h) ∧ V.cell? ⟨bb, 1, none⟩ = some (.string s) ∧ V.cell? ⟨bb, 2, none⟩ = some (.int .i64 r) ∧ V.cell? ⟨bb, 3, none⟩ = some (.int .i64 f)) (first
       | exact HSB.out _ BV | exact HSB.out _ BV.drew | exact HSB.out _ (Below.refl _ _) | exact HSB.out _ (Below.refl _ _).drew | go_keep) (first
       | (go_at_call 18
          refine(HK2.out _ (by first | exact BV | exact BV.drew | exact(Below.refl _ _).drew | exact Below.refl _ _)).mono ?_;rintro e V ⟨gk,k0,k1,rfl,RK,BV,bv⟩)
       | (go_at_call 21
          refine(HTD.out _).mono ?_;rintro e V ⟨rfl,bv⟩
          (try have RK:=(by first | exact RK.below bv | exact RK.below (unD bv)))
          have BV:=(by first | exact BV.trans (bv.mono BV.size) | exact BV.trans ((unD bv).mono BV.size) | exact bv | exact unD bv))
       | (go_at_call 9
          refine(HIM.out _ _ _ _ (by first | exact RK | exact RK.below (Below.refl _ _).drew)).mono ?_;rintro e V ⟨ro,rc,rfl,RG,bv⟩;have BV:=(by first | exact BV.trans (bv.mono BV.size) | exact BV.trans ((unD bv).mono BV.size))))
     all_goals go_wp2_with fail
     all_goals go_meet
     all_goals exact⟨_,_,_,_,rfl,rfl,RG,BV⟩
   case rest=>
     obtain⟨uo2,uc2,lo2,hi2,rfl,rfl,HR⟩:=hcut;have Bg:Hid (_):=Bf.out.trans (HR.out.2.mono Bf.out.size);have HMg:Hid (MkE _ go R.1.length Bk.cellM):=Bk.MkE.below HMf.out HR.out.2;clear HSB HK2 Bf HMf;go_wp2_with fail
     refine(HEG.out _ _ _ _ _ HR.out.1.rd (HO.out _ Bg.out)).mono ?_;rintro e wh ⟨rfl,hb⟩;have Bh:Hid (_):=Bg.out.trans (hb.mono Bg.out.size);have HMh:Hid (MkE wh go R.1.length Bk.cellM):=Bk.MkE.below HMg.out hb;clear hb HR Bg HMg;go_wp2_with fail
     refine(Bk.heldEntryS go R.1.length gc _ (by omega) HMh.out).mono ?_;rintro e wi ⟨rfl,hb⟩;have HF:Hid (_):=HE.out _ (BW.out _ (Bh.out.trans (hb.mono Bh.out.size)));clear hb Bh HMh;go_wp2;go_ret;exact⟨rfl,HF.out⟩
theorem lifted(os:Os)(started:os.Started)(H:Type)(enc:TypeId × Value→H) :
  ReturnsInHanded {} Try.checked os 5 .any (Rows.fnExactDoneSpec.pre6 enc Try.prog Try.f5 Rows.fnExactDoneRow.domain false) (Rows.fnExactDoneSpec.post enc Try.prog Try.f5 false true false false):=by
 refine returnsInHanded_of_change (C:=Try.checked) own started (by kernel_rfl) Try.func5
  (ChangeSpec.witness6 (enc:=enc) (C:=Try.checked) false ⟨#[],#[.slice none 0 0,.agg #[.int .i64 0,.string ByteArray.empty,.int .i64 0,.int .i64 0]],[]⟩ 8 (by kernel_rfl) (by kernel_rfl) (by kernel_rfl) (by kernel_rfl)) ?_
 intro W base args ds gs before hval0 hW hcnd _;have hval:∀(j:Nat) t v,Try.f5.params[j]? = some t→args[j]? = some v→Value.okWide Try.prog W .any base t v:=hval0;have hW':=hW;obtain⟨p,q,hA0,hV,rfl,hfz,hnd⟩:=hW;have hA:DataW.TrodAll enc Try.prog W 0 (fun _=>true) true Try.f5.params.toList args.toList ds p:=hA0;rw [Try.params5] at hA hval;obtain⟨v0,vs0,d0,ds0,p0,q0,hargs,rfl,rfl,h0,r0⟩:=trodAll_cons hA;obtain⟨v1,vs1,d1,ds1,p1,q1,rfl,rfl,rfl,h1,r1⟩:=trodAll_cons r0;obtain⟨rfl,rfl,rfl⟩:=trodAll_nil r1;obtain rfl:args=#[v0,v1]:=by cases args;simp_all
 obtain⟨rfl,rfl⟩:=trodVars_none hV;obtain⟨a0,len0,cap0,rfl⟩:=okWide_slice Try.underlying39 (hval 0 39 v0 rfl rfl);have k0:=h0;have lt0:∀x∈p0,x.block<W.heap.size:=by obtain⟨m,hm⟩:=k0;exact DataW.trod_lt m _ _ _ hm
 obtain⟨fuel,hf⟩:=h0;obtain⟨L,rfl,hrd,hws,hl⟩:=Bk.openE (a0:=a0) (len0:=len0) (cap0:=cap0) hf;obtain⟨x0,x1,x2,x3,y0,y1,y2,y3,m,rfl,rfl,rfl,hy0,hy1,hy2,hy3⟩:=open_agg4 Try.underlying43 (by kernel_rfl) cellsK (hval 1 43 v1 rfl rfl) h1;obtain⟨b0,e0,rfl,w0⟩:=DataW.trod_int Try.underlying2 hy0;obtain⟨b1,e1,rfl,w1⟩:=DataW.trod_string Try.underlying9 hy1;obtain⟨b2,e2,rfl,w2⟩:=DataW.trod_int Try.underlying2 hy2;obtain⟨b3,e3,rfl,w3⟩:=DataW.trod_int Try.underlying2 hy3;simp only [List.cons.injEq,and_true] at e0 e1 e2 e3;subst e0 e1 e2 e3;clear hA0 hval0;simp only [List.append_nil] at hW';refine(walk a0 cap0 L b0 b2 b3 b1 W hl hws hrd w1).mono fun e W' ⟨he,bel⟩=>?_
 subst he;exact⟨_,rfl,_,_,_,[],_,[],hW',trodAll_mk1 (shut_bool Try.underlying4 _),(trodAll_cons_mk (Below.trod laidOut (by kernel_rfl) (of_decide_eq_true (by kernel_rfl)) k0 bel lt0) (trodAll_cons_mk (shut_agg4 (y0:=(.lit (.int .i64 b0),[])) (y1:=(.lit (.string b1.data.toList),[])) (y2:=(.lit (.int .i64 b2),[])) (y3:=(.lit (.int .i64 b3),[])) Try.underlying43 (by kernel_rfl) cellsK (trI b0 w0) (trS b1 w1) (trI b2 w2) (trI b3 w3)) trodAll_mk0)),rfl,bel.frame _,fun h=>by cases h⟩
theorem over:Rows.fnExactDoneRow.holds Try.pinned (OpenSpec.ofChange Rows.fnExactDoneSpec):=
 OpenClaim.holds_of_wide 5 Try.f5 rfl rfl rfl rfl rfl rfl rfl ⟨rfl,rfl,rfl,rfl,rfl⟩ rfl rfl rfl rfl rfl (by kernel_rfl) Try.func5 (by kernel_rfl)
  (of_decide_eq_true (by kernel_rfl)) (by unfold Func.isWrapper;first | (rw [if_pos (by decide +kernel)];kernel_rfl) | (rw [if_neg (by decide +kernel)];exact⟨rfl,rfl⟩))
  (fun os started H enc _=>lifted os started H enc)
theorem proved:Rows.FnExactDoneSaid:=
 over
end Go.Proofs.Ytadbafppodhfpaa.fnExactDone
