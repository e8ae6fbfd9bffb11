/-
 The model's cursor, exactly: what it answers hangs on its own cells and the code's byte alone; for codes of at most 4096 bytes.
 What the model's drawing of an act hands back, where the drawing of the bad hand's keeps its word: an act with a short word; it changes the cursor alone.
-/
import Derived.Test.YtbkeldfbllhlbaaGreatqzg25
import Derived.Deep.CutBlock
set_option linter.unusedVariables false
set_option maxRecDepth 100000
set_option maxHeartbeats 12800000
namespace Go.Proofs.YtbkeldfbllhlbaaGreat
open Go.RowKit
namespace Rm
open Kn (K okK in3)
open Lc (at' RdK laceB takesB flat OwnK CellsK cellsOf)
open Cur (At)
theorem ac_fin2{c:Nat}{a:Option Addr}{len cap:Nat}{w wr:World}{v0 v1 v2 v3:Value}{ab:Nat}{x y:Ac}(s:AcSt c a len cap w wr v0 v1 v2 v3 ab x)(hcb:CurB c a len w.heap.size)(hw:y.word.size≤13):AcPost c a len cap w (.returned (acV y)) (set6 wr (w.heap.size+1) y):=
 have hf:=set6_fr wr (w.heap.size+1) y
 ⟨y,rfl,hw,at_belowB s.at' hcb (hf.toBelow s.fr.size (fun y hy=>by omega)),s.fr.trans hf (fun y hy hl=>by omega)⟩
theorem l18DrawAct'(HB:DrawsBad):DrawsAct:=by
 intro c a len cap B R w hl hca hcB hp hcvx;obtain⟨co,nc,cc,hcv⟩:=hcvx;obtain⟨ao,cp,hlv,ho,hz,_,hrd,hltv⟩:=own_lace hp.own;have HBB:Hid DrawsBad:=HB;have hcb:=curB_of hca;have hcw:c<w.heap.size:=hca.lt;have h60:=((Lc.lace_iff R.L).1 hp.lace).1;have HV:roV R=.agg #[.slice ao R.L.length cp,.slice co nc cc,.slice (some ⟨R.gh,0,none⟩) 4 R.hc,.int .i64 R.bad]:=by unfold roV;rw [hlv,hcv]
 have hnc:∀x,ao=some x→¬ x.block=c:=fun x hx e=>by
  have h1:=(hltv x.block (by rw [hlv,hx];rfl)).1;have h2:=hcB.1;omega
 have P0:Hid (Below w.heap.size w ((w.alloc (.cells #[.slice ao R.L.length cp,.slice co nc cc,.slice (some ⟨R.gh,0,none⟩) 4 R.hc,.int .i64 R.bad] 137)).alloc (.cells #[.int .i64 0,.int .i64 0,.int .i64 0,.int .i64 0,.int .i64 0,.string ⟨#[]⟩] 166))∧Q4 ((w.alloc (.cells #[.slice ao R.L.length cp,.slice co nc cc,.slice (some ⟨R.gh,0,none⟩) 4 R.hc,.int .i64 R.bad] 137)).alloc (.cells #[.int .i64 0,.int .i64 0,.int .i64 0,.int .i64 0,.int .i64 0,.string ⟨#[]⟩] 166)) w.heap.size (.slice ao R.L.length cp) (.slice co nc cc) (.slice (some ⟨R.gh,0,none⟩) 4 R.hc) (.int .i64 R.bad)∧Q6 ((w.alloc (.cells #[.slice ao R.L.length cp,.slice co nc cc,.slice (some ⟨R.gh,0,none⟩) 4 R.hc,.int .i64 R.bad] 137)).alloc (.cells #[.int .i64 0,.int .i64 0,.int .i64 0,.int .i64 0,.int .i64 0,.string ⟨#[]⟩] 166)) (w.heap.size+1) zeroA):=by
  refine⟨((Below.refl _ w).alloc (Nat.le_refl _) _).alloc (by simp) _,q4_below (q4_new w _ _ _ _ _) ((Below.refl _ _).alloc (Nat.le_refl _) _),?_⟩;have:=q6_new (w.alloc (.cells #[.slice ao R.L.length cp,.slice co nc cc,.slice (some ⟨R.gh,0,none⟩) 4 R.hc,.int .i64 R.bad] 137)) zeroA 166;rw [World.size_alloc] at this;exact this
 have HRD:Hid (∀X:World,FrC c w X→RdK X ao R.L):=fun X hX=>rdK_fr hrd hX hnc
 have HHH:Hid (∀X:World,FrC c w X→∀i,i<4→HAt X R.gh (i*4) (R.hs i)):=fun X hX i hi=>hat_fr (hp.hands i hi) hX (by have:=hp.gB;have:=hcB.1;omega)
 have HLC:Hid (laceB R.L=true):=hp.lace;have HOK:Hid (∀i,i<4→HdOk R.L.length (R.hs i)):=hp.hok;have HNC:Hid (∀x,ao=some x→¬ x.block=c):=hnc;have hcap:=hp.cap;rw [HV];clear HV hp hlv hcv ho hz hrd hltv HB hnc;go_enter Tryz.func158,Tryz.ntmps158
 go_upto_region 1 with fail
 generalize (w.alloc (.cells #[.slice ao R.L.length cp,.slice co nc cc,.slice (some ⟨R.gh,0,none⟩) 4 R.hc,.int .i64 R.bad] 137)).alloc (.cells #[.int .i64 0,.int .i64 0,.int .i64 0,.int .i64 0,.int .i64 0,.string ⟨#[]⟩] 166)=W at P0 ⊢;have HAW:Hid (At c a len cap W):=at_belowB hca hcb P0.out.1;go_wp2_with fail
 refine(Cur.below c a len cap 4 _ hl (by omega) HAW.out).mono ?_;rintro e w0 ⟨who,rfl,hw0,hw1,hA0,hG0⟩;have hw2:=hw1 (by omega);obtain⟨q,rfl⟩:=Int.eq_ofNat_of_zero_le hw0;have hq4:q<4:=by omega
 have hqi:(q:Int)<4:=by omega
 go_wp2_with fail
 refine(Kn.drawWord c a len cap _ hl hA0).mono ?_;rintro e w1 ⟨s,rfl,hs13,hA1,hG1⟩;have HS:Hid (AcSt c a len cap w (w1.alloc (.cells #[.int .i64 1,.int .i64 (q:Int),.int .i64 0,.int .i64 0,.int .i64 0,.string s] 166)) (.slice ao R.L.length cp) (.slice co nc cc) (.slice (some ⟨R.gh,0,none⟩) 4 R.hc) (.int .i64 R.bad) w1.heap.size ⟨1,(q:Int),0,0,0,s⟩):=ac_beg hcw hcb P0.out.1 P0.out.2.1 P0.out.2.2 hA1 ((Fr.of_grown hG0).trans (Fr.of_grown hG1) (fun _ hx _=>hx)) ⟨1,(q:Int),0,0,0,s⟩ _;clear hA1 hG1 HAW hA0 hG0 hw1 hw2 hw0;go_upto_region 2 with fail
 generalize w1.alloc (.cells #[.int .i64 1,.int .i64 (q:Int),.int .i64 0,.int .i64 0,.int .i64 0,.string s] 166)=W2 at HS ⊢;generalize w1.heap.size=ab at HS ⊢;have c0:=HS.out.box.c0;go_wp2_with fail
 refine(Cur.below c a len cap 12 _ hl (by omega) HS.out.at').mono ?_;rintro e w3 ⟨t,rfl,ht0,ht1,hA3,hG3⟩;have ht2:=ht1 (by omega);have HS3:Hid (AcSt c a len cap w w3 (.slice ao R.L.length cp) (.slice co nc cc) (.slice (some ⟨R.gh,0,none⟩) 4 R.hc) (.int .i64 R.bad) ab ⟨1,(q:Int),0,0,0,s⟩):=ac_cur HS.out hcw hA3 hG3;clear hA3 hG3 HS c0 ht1;go_upto_block 0 with fail
 go_cut [6] (fun n wx=>n=.int .i64 (R.L.length:Int)∧∃x:Ac,x.word.size≤13∧Hid (AcSt c a len cap w wx (.slice ao R.L.length cp) (.slice co nc cc) (.slice (some ⟨R.gh,0,none⟩) 4 R.hc) (.int .i64 R.bad) ab x))
 case first=>
  refine wp_block (wp_seq (wp_mono (Q:=fun e a' w'=>∃u19 u20 u21 u22 u23 u24:Value,e=Exit.normal∧w3=w'∧a'={ tmps:=#[.pointer (some ⟨c,0,none⟩),.agg #[.slice ao R.L.length cp,.slice co nc cc,.slice (some ⟨R.gh,0,none⟩) 4 R.hc,.int .i64 R.bad],undef,.pointer (some ⟨w.heap.size,0,none⟩),.pointer (some ⟨w.heap.size+1,0,none⟩),.pointer (some ⟨ab,0,none⟩),.int .i64 (R.L.length:Int),undef,.pointer (some ⟨c,0,none⟩),.int .i64 (q:Int),.pointer (some ⟨c,0,none⟩),.string s,.agg #[.int .i64 1,.int .i64 (q:Int),.int .i64 0,.int .i64 0,.int .i64 0,.string s],.pointer (some ⟨w.heap.size,0,none⟩),.slice ao R.L.length cp,.int .i64 (R.L.length:Int),.pointer (some ⟨c,0,none⟩),.int .i64 t,.bool (decide (t≤5)),u19,u20,u21,u22,u23,u24,undef,undef,undef,undef,undef,undef,undef,undef,undef,undef,undef,undef,undef,undef,undef,undef,undef,undef,undef,undef,undef,undef,undef,undef,undef,undef,undef,undef,undef,undef,undef,undef,undef,undef,undef,undef,undef,undef,undef,undef,undef,undef,undef,undef,undef,undef,undef,undef,undef,undef,undef,undef,undef,undef,undef,undef,undef,undef,undef,undef,undef,undef,undef,undef,undef,undef,undef,undef,undef,undef,undef,undef],defers:=[] }) ?chain ?after))
  case chain=>
   have htc:t=0∨t=1∨t=2∨t=3∨t=4∨t=5∨t=6∨t=7∨t=8∨t=9∨t=10∨t=11:=by omega
   rcases htc with rfl | rfl | rfl | rfl | rfl | rfl | rfl | rfl | rfl | rfl | rfl | rfl
   all_goals go_wp2_with fail
  case after=>
   rintro e a' w' ⟨u19,u20,u21,u22,u23,u24,rfl,rfl,rfl⟩;dsimp only [Exit.then];by_cases ht5:t≤5
   ·have hd5:decide (t≤5)=true:=decide_eq_true ht5;rw [hd5];clear ht5 hd5;have HSl:Hid (AcSt c a len cap w ((w3.setCell ⟨ab,0,none⟩ (.int .i64 2)).setCell ⟨ab,5,none⟩ (.string ⟨#[]⟩)) (.slice ao R.L.length cp) (.slice co nc cc) (.slice (some ⟨R.gh,0,none⟩) 4 R.hc) (.int .i64 R.bad) ab ⟨2,(q:Int),0,0,0,⟨#[]⟩⟩):=by
     have h1:=ac_put HS3.out hcb (Fr.set _ ⟨ab,0,none⟩ (.int .i64 2)) (q6_0 HS3.out.act 2);exact ac_put h1 hcb (Fr.set _ ⟨ab,5,none⟩ (.string ⟨#[]⟩)) (q6_5 h1.act ⟨#[]⟩)
    have b0:=HS3.out.act.c0;have b5:=HS3.out.act.c5;have g0:=HS3.out.act.f0;have g5:=HS3.out.act.f5;go_wp2_with fail
    clear b0 b5 g0 g5;generalize (w3.setCell ⟨ab,0,none⟩ (.int .i64 2)).setCell ⟨ab,5,none⟩ (.string ⟨#[]⟩)=W9 at HSl ⊢;go_loopw [7] (fun i wr=>∃j:Nat,j≤R.L.length∧i=.int .i64 j∧Hid (AcSt c a len cap w wr (.slice ao R.L.length cp) (.slice co nc cc) (.slice (some ⟨R.gh,0,none⟩) 4 R.hc) (.int .i64 R.bad) ab ⟨2,(q:Int),0,0,0,⟨#[]⟩⟩)) (fun i _=>R.L.length-(intOf i).toNat)
    case atStart=>exact⟨0,by omega,rfl,HSl.out⟩
    case round=>
     obtain⟨j,hj,rfl,HSr⟩:=hrel;by_cases hjl:j<R.L.length
     ·have hji:(j:Int)<(R.L.length:Int):=by omega
      have c2:=HSr.out.box.c2;have b1:=HSr.out.act.c1;have x1:=(HHH.out wr HSr.out.fr q hq4).c1;have hh:=HOK.out q hq4;have h0:=hh.h0;have h1:=hh.h1;clear hh HSl
      cases hb:Bit.bit (R.hs q).has j
      ·have HBb:Hid (Bit.bit (R.hs q).has j=false):=hb;clear hb;go_wp2_with (go_at_call 45;refine(Base.l1Has _ _ _ h0 h1 (by omega) (by omega)).mono ?_;rintro e w' ⟨rfl,rfl⟩;rw [Int.toNat_natCast,HBb.out])
       refine(Cur.once c a len cap 5 _ hl (by omega) HSr.out.at').mono ?_;rintro e wz ⟨b,rfl,hAz,hGz⟩;have HSz:Hid (AcSt c a len cap w wz (.slice ao R.L.length cp) (.slice co nc cc) (.slice (some ⟨R.gh,0,none⟩) 4 R.hc) (.int .i64 R.bad) ab ⟨2,(q:Int),0,0,0,⟨#[]⟩⟩):=ac_cur HSr.out hcw hAz hGz;clear hAz hGz HSr c2 b1 x1
       cases b
       ·have b2:=HSz.out.act.c2;have g2:=HSz.out.act.f2;go_wp2;go_meet;exact⟨rfl,⟨2,(q:Int),(j:Int),0,0,⟨#[]⟩⟩,by show(ByteArray.mk #[]).size≤13;decide,ac_put HSz.out hcb (Fr.set _ ⟨ab,2,none⟩ _) (q6_2 HSz.out.act _)⟩
       ·go_wp2;go_roundw
        case rel=>exact⟨j+1,by omega,by go_num,HSz⟩
        case measure=>simp [intOf];omega
      ·have HBb:Hid (Bit.bit (R.hs q).has j=true):=hb;clear hb;go_wp2_with (go_at_call 45;refine(Base.l1Has _ _ _ h0 h1 (by omega) (by omega)).mono ?_;rintro e w' ⟨rfl,rfl⟩;rw [Int.toNat_natCast,HBb.out])
       go_roundw
       case rel=>exact⟨j+1,by omega,by go_num,HSr⟩
       case measure=>simp [intOf];omega
     ·obtain rfl:j=R.L.length:=by omega
      have hjj:¬ (R.L.length:Int)<(R.L.length:Int):=by omega
      go_wp2;go_meet;exact⟨rfl,_,by show(ByteArray.mk #[]).size≤13;decide,HSr⟩
   ·have hd5:decide (t≤5)=false:=decide_eq_false ht5;rw [hd5];have htc:t=6∨t=7∨t=8∨t=9∨t=10∨t=11:=by omega
    clear hd5 ht5;rcases htc with rfl | rfl | rfl | rfl | rfl | rfl
    ·skip;have c3:=HS3.out.box.c3;by_cases hbad:0≤R.bad
     ·have c0:=HS3.out.box.c0;have c1:=HS3.out.box.c1;have c2:=HS3.out.box.c2;go_wp2_with fail
      refine(HBB.out c a len cap ao cp R.L co nc cc (some ⟨R.gh,0,none⟩) 4 R.hc R.bad _ hl HS3.out.at' HLC.out (HRD.out _ HS3.out.fr) HNC.out).mono ?_;rintro e w4 ⟨y,rfl,hy13,hA4,hF4⟩;have HS4:Hid (AcSt c a len cap w w4 (.slice ao R.L.length cp) (.slice co nc cc) (.slice (some ⟨R.gh,0,none⟩) 4 R.hc) (.int .i64 R.bad) ab ⟨1,(q:Int),0,0,0,s⟩):=ac_cur HS3.out hcw hA4 hF4.grown;have HF:Hid (AcPost c a len cap w (.returned (acV y)) (set6 w4 (w.heap.size+1) y)):=ac_fin2 HS4.out hcb hy13;have HQ:Hid (Q6 (set6 w4 (w.heap.size+1) y) (w.heap.size+1) y):=set6_at HS4.out.res;obtain⟨_,r0,r1,r2,r3,r4,r5,f0,f1,f2,f3,f4,f5⟩:=HS4.out.res;clear hA4 hF4;go_wp2;obtain⟨_,y0,y1,y2,y3,y4,y5,_,_,_,_,_,_⟩:=HQ.out;unfold set6 at y0 y1 y2 y3 y4 y5;exact bodyPost_ret (v:=acV y) (by simp [results,Tryz.results158,go_sem,y0,y1,y2,y3,y4,y5]) rfl HF.out
     ·go_wp2;go_meet;exact⟨rfl,_,hs13,HS3⟩
    ·skip;go_wp2_with fail
     refine(Cur.once c a len cap 4 _ hl (by omega) HS3.out.at').mono ?_;rintro e w4 ⟨b,rfl,hA4,hG4⟩;have HS4:Hid (AcSt c a len cap w w4 (.slice ao R.L.length cp) (.slice co nc cc) (.slice (some ⟨R.gh,0,none⟩) 4 R.hc) (.int .i64 R.bad) ab ⟨1,(q:Int),0,0,0,s⟩):=ac_cur HS3.out hcw hA4 hG4;have h3:=ac_put HS4.out hcb (set6_fr w4 ab ⟨3,(q:Int),0,0,0,⟨#[]⟩⟩) (set6_at HS4.out.act);have h4:=ac_put HS4.out hcb (set6_fr w4 ab ⟨4,(q:Int),0,0,0,⟨#[]⟩⟩) (set6_at HS4.out.act);unfold set6 at h3 h4;have H3:Hid _:=h3;have H4:Hid _:=h4;have hz13:(Ac.mk 0 0 0 0 0 ⟨#[]⟩).word.size≤13:=by show(ByteArray.mk #[]).size≤13;decide
     clear h3 h4;obtain⟨_,b0,b1,b2,b3,b4,b5,g0,g1,g2,g3,g4,g5⟩:=HS4.out.act;clear hA4 hG4
     cases b
     ·go_wp2;go_meet;exact⟨rfl,_,hz13,H3⟩
     ·go_wp2;go_meet;exact⟨rfl,_,hz13,H4⟩
    ·skip;go_wp2;go_meet;exact⟨rfl,_,hs13,HS3⟩
    ·skip;go_wp2;go_meet;exact⟨rfl,_,hs13,HS3⟩
    ·skip;go_wp2;go_meet;exact⟨rfl,_,hs13,HS3⟩
    ·skip;go_wp2;go_meet;exact⟨rfl,_,hs13,HS3⟩
 case rest=>
  obtain⟨rfl,x,hx13,HS4⟩:=hcut;clear HS3;go_wp2_with fail
  refine(Cur.once c a len cap 60 _ hl (by omega) HS4.out.at').mono ?_;rintro e w5 ⟨b,rfl,hA5,hG5⟩;have HS5:Hid (AcSt c a len cap w w5 (.slice ao R.L.length cp) (.slice co nc cc) (.slice (some ⟨R.gh,0,none⟩) 4 R.hc) (.int .i64 R.bad) ab x):=ac_cur HS4.out hcw hA5 hG5;clear hA5 hG5 HS4
  cases b
  ·have HF:Hid (AcPost c a len cap w (.returned (acV x)) (set6 w5 (w.heap.size+1) x)):=ac_fin HS5.out hcb hx13;have HQ:Hid (Q6 (set6 w5 (w.heap.size+1) x) (w.heap.size+1) x):=set6_at HS5.out.res;obtain⟨_,b0,b1,b2,b3,b4,b5,_,_,_,_,_,_⟩:=HS5.out.act;obtain⟨_,r0,r1,r2,r3,r4,r5,f0,f1,f2,f3,f4,f5⟩:=HS5.out.res;go_wp2;obtain⟨_,y0,y1,y2,y3,y4,y5,_,_,_,_,_,_⟩:=HQ.out;unfold set6 at y0 y1 y2 y3 y4 y5;exact bodyPost_ret (v:=acV x) (by simp [results,Tryz.results158,go_sem,y0,y1,y2,y3,y4,y5]) rfl HF.out
  ·go_wp2_with fail
   refine(Cur.below c a len cap 3 _ hl (by omega) HS5.out.at').mono ?_;rintro e w6 ⟨p,rfl,hp0,hp1,hA6,hG6⟩;have hp2:=hp1 (by omega);have HS6:Hid (AcSt c a len cap w w6 (.slice ao R.L.length cp) (.slice co nc cc) (.slice (some ⟨R.gh,0,none⟩) 4 R.hc) (.int .i64 R.bad) ab x):=ac_cur HS5.out hcw hA6 hG6;clear hA6 hG6 HS5 hp1;go_upto_block 3 with fail
   go_cut [6] (fun n wx=>n=.int .i64 (R.L.length:Int)∧∃x':Ac,x'.word.size≤13∧Hid (AcSt c a len cap w wx (.slice ao R.L.length cp) (.slice co nc cc) (.slice (some ⟨R.gh,0,none⟩) 4 R.hc) (.int .i64 R.bad) ab x'))
   case first=>
    have hpc:p=0∨p=1∨p=2:=by omega
    rcases hpc with rfl | rfl | rfl
    ·skip;have HN:Hid (AcSt c a len cap w (w6.alloc (.cells #[.int .i64 0,.int .i64 6,.int .i64 (-1)] 2)) (.slice ao R.L.length cp) (.slice co nc cc) (.slice (some ⟨R.gh,0,none⟩) 4 R.hc) (.int .i64 R.bad) ab x∧(w6.alloc (.cells #[.int .i64 0,.int .i64 6,.int .i64 (-1)] 2)).cell? ⟨w6.heap.size,0,none⟩=some (.int .i64 0)∧(w6.alloc (.cells #[.int .i64 0,.int .i64 6,.int .i64 (-1)] 2)).cell? ⟨w6.heap.size,1,none⟩=some (.int .i64 6)∧(w6.alloc (.cells #[.int .i64 0,.int .i64 6,.int .i64 (-1)] 2)).cell? ⟨w6.heap.size,2,none⟩=some (.int .i64 (-1))∧w6.heap.size<(w6.alloc (.cells #[.int .i64 0,.int .i64 6,.int .i64 (-1)] 2)).heap.size):=⟨ac_below HS6.out hcb ((Below.refl _ _).alloc (Nat.le_refl _) _),by simp,by simp,by simp,by simp⟩
     go_wp2_with fail
     generalize w6.alloc (.cells #[.int .i64 0,.int .i64 6,.int .i64 (-1)] 2)=W7 at HN ⊢;have hkc:w6.heap.size≠c:=by have:=HS6.out.fr.size;omega
     generalize w6.heap.size=kb at HN hkc ⊢;refine(Cur.below c a len cap 3 _ hl (by omega) HN.out.1.at').mono ?_;rintro e w8 ⟨y,rfl,hy0,hy1,hA8,hG8⟩;have hy2:=hy1 (by omega);have HS8:Hid (AcSt c a len cap w w8 (.slice ao R.L.length cp) (.slice co nc cc) (.slice (some ⟨R.gh,0,none⟩) 4 R.hc) (.int .i64 R.bad) ab x):=ac_cur HN.out.1 hcw hA8 hG8;have d0:=((Fr.of_grown hG8).cell (p:=⟨kb,0,none⟩) HN.out.2.2.2.2 hkc).trans HN.out.2.1;have d1:=((Fr.of_grown hG8).cell (p:=⟨kb,1,none⟩) HN.out.2.2.2.2 hkc).trans HN.out.2.2.1;have d2:=((Fr.of_grown hG8).cell (p:=⟨kb,2,none⟩) HN.out.2.2.2.2 hkc).trans HN.out.2.2.2.1;have bf:=HS8.out.act.f0;have bc:=HS8.out.act.c0;clear hA8 hG8 hy1 HN HS6;have hyc:y=0∨y=1∨y=2:=by omega
     rcases hyc with rfl | rfl | rfl
     ·go_wp2;go_meet;exact⟨rfl,{ x with kind:=0 },hx13,ac_put HS8.out hcb (Fr.set _ ⟨ab,0,none⟩ _) (q6_0 HS8.out.act _)⟩
     ·go_wp2;go_meet;exact⟨rfl,{ x with kind:=6 },hx13,ac_put HS8.out hcb (Fr.set _ ⟨ab,0,none⟩ _) (q6_0 HS8.out.act _)⟩
     ·go_wp2;go_meet;exact⟨rfl,{ x with kind:=(-1) },hx13,ac_put HS8.out hcb (Fr.set _ ⟨ab,0,none⟩ _) (q6_0 HS8.out.act _)⟩
    ·skip;have HN:Hid (AcSt c a len cap w (w6.alloc (.cells #[.int .i64 (-1),.int .i64 4] 2)) (.slice ao R.L.length cp) (.slice co nc cc) (.slice (some ⟨R.gh,0,none⟩) 4 R.hc) (.int .i64 R.bad) ab x∧(w6.alloc (.cells #[.int .i64 (-1),.int .i64 4] 2)).cell? ⟨w6.heap.size,0,none⟩=some (.int .i64 (-1))∧(w6.alloc (.cells #[.int .i64 (-1),.int .i64 4] 2)).cell? ⟨w6.heap.size,1,none⟩=some (.int .i64 4)∧w6.heap.size<(w6.alloc (.cells #[.int .i64 (-1),.int .i64 4] 2)).heap.size):=⟨ac_below HS6.out hcb ((Below.refl _ _).alloc (Nat.le_refl _) _),by simp,by simp,by simp⟩
     go_wp2_with fail
     generalize w6.alloc (.cells #[.int .i64 (-1),.int .i64 4] 2)=W7 at HN ⊢;have hkc:w6.heap.size≠c:=by have:=HS6.out.fr.size;omega
     generalize w6.heap.size=kb at HN hkc ⊢;refine(Cur.below c a len cap 2 _ hl (by omega) HN.out.1.at').mono ?_;rintro e w8 ⟨y,rfl,hy0,hy1,hA8,hG8⟩;have hy2:=hy1 (by omega);have HS8:Hid (AcSt c a len cap w w8 (.slice ao R.L.length cp) (.slice co nc cc) (.slice (some ⟨R.gh,0,none⟩) 4 R.hc) (.int .i64 R.bad) ab x):=ac_cur HN.out.1 hcw hA8 hG8;have d0:=((Fr.of_grown hG8).cell (p:=⟨kb,0,none⟩) HN.out.2.2.2 hkc).trans HN.out.2.1;have d1:=((Fr.of_grown hG8).cell (p:=⟨kb,1,none⟩) HN.out.2.2.2 hkc).trans HN.out.2.2.1;have bf:=HS8.out.act.f1;have bc:=HS8.out.act.c1;clear hA8 hG8 hy1 HN HS6;have hyc:y=0∨y=1:=by omega
     rcases hyc with rfl | rfl
     ·go_wp2;go_meet;exact⟨rfl,{ x with who:=(-1) },hx13,ac_put HS8.out hcb (Fr.set _ ⟨ab,1,none⟩ _) (q6_1 HS8.out.act _)⟩
     ·go_wp2;go_meet;exact⟨rfl,{ x with who:=4 },hx13,ac_put HS8.out hcb (Fr.set _ ⟨ab,1,none⟩ _) (q6_1 HS8.out.act _)⟩
    ·skip;have HN:Hid (AcSt c a len cap w (w6.alloc (.cells #[.int .i64 (-1),.int .i64 (R.L.length:Int),.int .i64 60] 2)) (.slice ao R.L.length cp) (.slice co nc cc) (.slice (some ⟨R.gh,0,none⟩) 4 R.hc) (.int .i64 R.bad) ab x∧(w6.alloc (.cells #[.int .i64 (-1),.int .i64 (R.L.length:Int),.int .i64 60] 2)).cell? ⟨w6.heap.size,0,none⟩=some (.int .i64 (-1))∧(w6.alloc (.cells #[.int .i64 (-1),.int .i64 (R.L.length:Int),.int .i64 60] 2)).cell? ⟨w6.heap.size,1,none⟩=some (.int .i64 (R.L.length:Int))∧(w6.alloc (.cells #[.int .i64 (-1),.int .i64 (R.L.length:Int),.int .i64 60] 2)).cell? ⟨w6.heap.size,2,none⟩=some (.int .i64 60)∧w6.heap.size<(w6.alloc (.cells #[.int .i64 (-1),.int .i64 (R.L.length:Int),.int .i64 60] 2)).heap.size):=⟨ac_below HS6.out hcb ((Below.refl _ _).alloc (Nat.le_refl _) _),by simp,by simp,by simp,by simp⟩
     go_wp2_with fail
     generalize w6.alloc (.cells #[.int .i64 (-1),.int .i64 (R.L.length:Int),.int .i64 60] 2)=W7 at HN ⊢;have hkc:w6.heap.size≠c:=by have:=HS6.out.fr.size;omega
     generalize w6.heap.size=kb at HN hkc ⊢;refine(Cur.below c a len cap 3 _ hl (by omega) HN.out.1.at').mono ?_;rintro e w8 ⟨y,rfl,hy0,hy1,hA8,hG8⟩;have hy2:=hy1 (by omega);have HS8:Hid (AcSt c a len cap w w8 (.slice ao R.L.length cp) (.slice co nc cc) (.slice (some ⟨R.gh,0,none⟩) 4 R.hc) (.int .i64 R.bad) ab x):=ac_cur HN.out.1 hcw hA8 hG8;have d0:=((Fr.of_grown hG8).cell (p:=⟨kb,0,none⟩) HN.out.2.2.2.2 hkc).trans HN.out.2.1;have d1:=((Fr.of_grown hG8).cell (p:=⟨kb,1,none⟩) HN.out.2.2.2.2 hkc).trans HN.out.2.2.1;have d2:=((Fr.of_grown hG8).cell (p:=⟨kb,2,none⟩) HN.out.2.2.2.2 hkc).trans HN.out.2.2.2.1;have bf:=HS8.out.act.f2;have bc:=HS8.out.act.c2;clear hA8 hG8 hy1 HN HS6;have hyc:y=0∨y=1∨y=2:=by omega
     rcases hyc with rfl | rfl | rfl
     ·go_wp2;go_meet;exact⟨rfl,{ x with knot:=(-1) },hx13,ac_put HS8.out hcb (Fr.set _ ⟨ab,2,none⟩ _) (q6_2 HS8.out.act _)⟩
     ·go_wp2;go_meet;exact⟨rfl,{ x with knot:=(R.L.length:Int) },hx13,ac_put HS8.out hcb (Fr.set _ ⟨ab,2,none⟩ _) (q6_2 HS8.out.act _)⟩
     ·go_wp2;go_meet;exact⟨rfl,{ x with knot:=60 },hx13,ac_put HS8.out hcb (Fr.set _ ⟨ab,2,none⟩ _) (q6_2 HS8.out.act _)⟩
   case rest=>
    obtain⟨rfl,x',hx13',HS9⟩:=hcut;clear HS6;have HF:Hid (AcPost c a len cap w (.returned (acV x')) (set6 wc (w.heap.size+1) x')):=ac_fin HS9.out hcb hx13';have HQ:Hid (Q6 (set6 wc (w.heap.size+1) x') (w.heap.size+1) x'):=set6_at HS9.out.res;obtain⟨_,b0,b1,b2,b3,b4,b5,_,_,_,_,_,_⟩:=HS9.out.act;obtain⟨_,r0,r1,r2,r3,r4,r5,f0,f1,f2,f3,f4,f5⟩:=HS9.out.res;go_wp2;obtain⟨_,y0,y1,y2,y3,y4,y5,_,_,_,_,_,_⟩:=HQ.out;unfold set6 at y0 y1 y2 y3 y4 y5;exact bodyPost_ret (v:=acV x') (by simp [results,Tryz.results158,go_sem,y0,y1,y2,y3,y4,y5]) rfl HF.out
end Rm
namespace Cur
def stepH(h:Int):Int:=wrap64 (wrap64 (h*6364136223846793005)+1442695040888963407)
def mixH(h:Int):Int:=bits .and .i64 (bits .xor .i64 (h / 8589934592) (h / 35184372088832)) 255
def byteV(len:Nat)(i h z:Int):Int:=if i<(len:Int) then bits .and .i64 (mixH (stepH h)+z) 255 else mixH (stepH h)
structure AtX(c:Nat)(a:Option Addr)(len cap:Nat)(w:World)(i h z:Int):Prop where
 at':At c a len cap w
 ci:w.cell? ⟨c,1,none⟩=some (.int .i64 i)
 i0:0≤i
 i1:i≤(len:Int)
 ch:w.cell? ⟨c,2,none⟩=some (.int .i64 h)
 h0:-9223372036854775808≤h
 h1:h≤9223372036854775807
 cz:i<(len:Int)→∃b off,a=some ⟨b,off,none⟩∧w.cell? ⟨b,off+i.toNat,none⟩=some (.int .u8 z)
 z0:0≤z
 z1:z≤255
theorem atX_of{c:Nat}{a:Option Addr}{len cap:Nat}{w:World}(x:At c a len cap w):∃i h z,AtX c a len cap w i h z:=by
 obtain⟨i,ci,i0,i1⟩:=x.i;obtain⟨h,ch,h0,h1⟩:=x.h;by_cases hlt:i<(len:Int)
 ·rcases x.bytes with e | ⟨b,off,ha,_,_,hcell⟩
  ·exfalso;omega
  ·obtain⟨z,cz,hz0,hz1⟩:=hcell i.toNat (by omega);exact⟨i,h,z,x,ci,i0,i1,ch,h0,h1,fun _=>⟨b,off,ha,cz⟩,hz0,hz1⟩
 ·exact⟨i,h,0,x,ci,i0,i1,ch,h0,h1,fun e=>absurd e hlt,by omega,by omega⟩
theorem AtX.drewN{c:Nat}{a:Option Addr}{len cap:Nat}{w:World}{i h z:Int}(x:AtX c a len cap w i h z)(n:Nat):AtX c a len cap (w.drewN n) i h z:=⟨x.at'.drewN n,x.ci,x.i0,x.i1,x.ch,x.h0,x.h1,x.cz,x.z0,x.z1⟩
theorem byteX(c:Nat)(a:Option Addr)(len cap:Nat)(i h z:Int)(w:World)(hl:len≤4096)(hx:AtX c a len cap w i h z) :
  Calls Tryz.prog 102 #[.pointer (some ⟨c,0,none⟩)] w fun e w'=>e=.returned (.int .i64 (byteV len i h z))∧At c a len cap w'∧w.grownBy w' (some c):=by
 have hc:=hx.at';have ch:=hx.ch;have ci:=hx.ci;have f2:=hc.f2;have hh0:=hx.h0;have hh1:=hx.h1;have hi0:=hx.i0;have hi1:=hx.i1;have hb:=wrap64_bd (wrap64 (h*6364136223846793005)+1442695040888963407);have HA:Hid (At c a len cap (w.setCell ⟨c,2,none⟩ (.int .i64 (wrap64 (wrap64 (h*6364136223846793005)+1442695040888963407))))):=hc.setH _ hb.1 hb.2;have HG:Hid (w.grownBy (w.setCell ⟨c,2,none⟩ (.int .i64 (wrap64 (wrap64 (h*6364136223846793005)+1442695040888963407)))) (some c)):=grownBy_set (World.grownBy.refl _ _) _ _;have HC2:Hid ((w.setCell ⟨c,2,none⟩ (.int .i64 (wrap64 (wrap64 (h*6364136223846793005)+1442695040888963407)))).cell? ⟨c,2,none⟩=some (.int .i64 (wrap64 (wrap64 (h*6364136223846793005)+1442695040888963407)))):=World.cell?_setCell_same _ _ _ ch;have HC1:Hid ((w.setCell ⟨c,2,none⟩ (.int .i64 (wrap64 (wrap64 (h*6364136223846793005)+1442695040888963407)))).cell? ⟨c,1,none⟩=some (.int .i64 i)):=(World.cell?_setCell_other _ _ _ _ (by simp)).trans ci;have HZ:Hid (i<(len:Int)→∃b off,a=some ⟨b,off,none⟩∧(w.setCell ⟨c,2,none⟩ (.int .i64 (wrap64 (wrap64 (h*6364136223846793005)+1442695040888963407)))).cell? ⟨b,off+i.toNat,none⟩=some (.int .u8 z)):=fun hlt=>by
  obtain⟨b,off,ha,cz⟩:=hx.cz hlt;refine⟨b,off,ha,?_⟩;rcases hc.bytes with e | ⟨b',off',ha',hne,_,_⟩
  ·exfalso;omega
  ·rw [ha] at ha';injection ha' with e;injection e with e1 e2;subst e1 e2;exact(World.cell?_setCell_other _ _ _ _ (by intro e;injection e with e _;exact hne e.symm)).trans cz
 have HV:Hid (byteV len i h z=if i<(len:Int) then bits .and .i64 (mixH (stepH h)+z) 255 else mixH (stepH h)):=rfl;have HST:Hid (stepH h=wrap64 (wrap64 (h*6364136223846793005)+1442695040888963407)):=rfl;have hz0:=hx.z0;have hz1:=hx.z1;clear hb hx;go_enter Tryz.func102,Tryz.ntmps102
 go_wp2_with fail
 clear ch f2 hc hh0 hh1 ci;generalize w.setCell ⟨c,2,none⟩ (.int .i64 (wrap64 (wrap64 (h*6364136223846793005)+1442695040888963407)))=w1 at HA HG HC1 HC2 HZ ⊢;have hst:=HST.out;have hwb:=wrap64_bd (wrap64 (h*6364136223846793005)+1442695040888963407);generalize wrap64 (wrap64 (h*6364136223846793005)+1442695040888963407)=h1 at HC2 hst hwb ⊢;generalize wrap64 (h*6364136223846793005)=h2;have ci:=HC1.out;have ch:=HC2.out;have cb:=HA.out.b;have f1:=HA.out.f1;clear HC1 HC2 HST;have HST:Hid (stepH h=h1):=hst;clear hst;go_quiet (fail)
 have hx:=and_bd (bits .xor .i64 (h1 / 8589934592) (h1 / 35184372088832)) 255 (by omega) (by omega);have HM:Hid (mixH (stepH h)=bits .and .i64 (bits .xor .i64 (h1 / 8589934592) (h1 / 35184372088832)) 255):=by show _=_;rw [HST.out];rfl
 go_wp2_with fail
 generalize bits .and .i64 (bits .xor .i64 (h1 / 8589934592) (h1 / 35184372088832)) 255=x0 at hx HM ⊢;obtain⟨hx0,hx1⟩:=hx;by_cases hlt:i<(len:Int)
 ·obtain⟨b,off,ha,cz⟩:=HZ.out hlt;subst ha;have HB:Hid (At c (some ⟨b,off,none⟩) len cap (w1.setCell ⟨c,1,none⟩ (.int .i64 (i+1)))):=HA.out.setI (i+1) (by omega) (by omega);have HS:Hid (w.grownBy (w1.setCell ⟨c,1,none⟩ (.int .i64 (i+1))) (some c)):=grownBy_set HG.out _ _;have HT:Hid (byteV len i h z=bits .and .i64 (x0+z) 255):=by show _=_;rw [HV.out,if_pos hlt,HM.out]
  go_quiet (fail)
  go_wp2_with fail
  go_quiet (fail)
  go_wp2;go_ret;exact⟨by rw [HT.out];rfl,HB.out.drewN _,grownBy_drewN HS.out _⟩
 ·have HT:Hid (byteV len i h z=x0):=by show _=_;rw [HV.out,if_neg hlt,HM.out]
  go_quiet (fail)
  go_wp2;go_ret;exact⟨by rw [HT.out];rfl,HA.out.drewN _,grownBy_drewN HG.out _⟩
theorem byteV_bd(len:Nat)(i h z:Int):0≤byteV len i h z∧byteV len i h z≤255:=by
 unfold byteV mixH;split <;> exact and_bd _ 255 (by omega) (by omega)
theorem belowX(c:Nat)(a:Option Addr)(len cap:Nat)(n:Int)(i h z:Int)(w:World)(hl:len≤4096)(hn0:0<n)(hn:n≤256)(hx:AtX c a len cap w i h z) :
  Calls Tryz.prog 71 #[.pointer (some ⟨c,0,none⟩),.int .i64 n] w fun e w'=>e=.returned (.int .i64 (byteV len i h z % n))∧At c a len cap w'∧w.grownBy w' (some c):=by
 have hbd:=byteV_bd len i h z;have hn0':¬ n≤0:=by omega
 have hnz:n≠0:=by omega
 go_enter Tryz.func71,Tryz.ntmps71
 go_wp2_with fail
 refine(byteX c a len cap i h z _ hl hx).mono ?_;rintro e w1 ⟨rfl,hA,hG⟩;go_wp2;go_ret;exact⟨rfl,hA,hG⟩
theorem once_fixed(c:Nat)(a:Option Addr)(len cap:Nat)(n:Int)(w:World)(hl:len≤4096)(hn0:0<n)(hn:n≤256)(hc:At c a len cap w) :
  ∃b:Bool,∀k,Calls Tryz.prog 70 #[.pointer (some ⟨c,0,none⟩),.int .i64 n] (w.drewN k) fun e w'=>e=.returned (.bool b)∧At c a len cap w'∧(w.drewN k).grownBy w' (some c):=by
 obtain⟨i,h,z,hx⟩:=atX_of hc;refine⟨byteV len i h z % n == 0,fun k=>?_⟩;have hxk:=hx.drewN k;generalize w.drewN k=W at hxk ⊢;go_enter Tryz.func70,Tryz.ntmps70
 go_wp2_with fail
 refine(belowX c a len cap n i h z _ hl hn0 hn hxk).mono ?_;rintro e w1 ⟨rfl,hA,hG⟩;go_wp2;go_ret;exact⟨rfl,hA,hG⟩
end Cur
end Go.Proofs.YtbkeldfbllhlbaaGreat
