/-
 How the library's sort chooses: it answers a place between a and b, and writes into nothing that was there; and it turns a row round.
-/
import Derived.Test.YtbkeldfbllhlbaaGreatqzg20
import Derived.Shelf.Small.Bits
import Derived.Shelf.Strconv.Itoa0
import Derived.Test.YtbkeldfbllhlbaaGreatProg
import Derived.Test.YtbkeldfbllhlbaaGreatqzg7
set_option linter.unusedVariables false
namespace Go.Proofs.YtbkeldfbllhlbaaGreat
open Go.RowKit
set_option maxRecDepth 100000
set_option linter.unusedVariables false
namespace So
set_option maxHeartbeats 6400000 in
theorem partition(B g cap:Nat)(lv:Value)(cf:Int→Int→Int)(S:Int→Prop)(a b pv:Nat)(l:List Int)(w:World)(hc:Ctx w g lv cf S)(h:Memb.Own B w (some ⟨g,0,none⟩) cap l)(hg:Good S l)(hap:a≤pv)(hpb:pv<b)(hb:b≤l.length)(hl:l.length≤1048576) :
   Calls Tryz.prog 197 #[.slice (some ⟨g,0,none⟩) l.length cap,.int .i64 a,.int .i64 b,.int .i64 pv,.func (.func 150) #[lv] #[]] w fun e w'=>∃(mid:Nat) (t:Bool) (m:List Int),e=.returned (.tuple #[.int .i64 mid,.bool t])∧a≤mid∧mid<b∧St w w' B g cap S a b l m∧Cut cf a b mid m:=by
 have HC:Hid (Ctx w g lv cf S):=hc;have HM:Hid (St w w B g cap S a b l l):=St.start h hg;clear hc h hg;have lpv:(pv:Int)<(l.length:Int):=by omega
 have la:(a:Int)<(l.length:Int):=by omega
 go_enter Tryz.func197,Tryz.ntmps197
 go_upto_region 1 with fail
 go_cut [1,3] from 14 to 27 (fun sv tv wx=>sv=.int .i64 (a:Nat)∧tv=.int .i64 (pv:Nat)∧Hid (St w wx B g cap S a b l (swp l a pv)))
 case first=>
   by_cases hpqA:a=pv
   · have HMA:Hid (_):=HM.out.swap (by omega) a a (by omega) (by omega) (by omega) (by omega);have HM2A:Hid (∀W,St w W B g cap S a b l (swp l a a)→St w W B g cap S a b l (swp l a pv)):=fun W h=>hpqA ▸ h
     have cpA:=HM.out.row.cell a (by rw [HM.out.len];omega);have fpA:=HM.out.row.frozen a;have hqpA:(pv:Nat)=a:=hpqA.symm;generalize l.getD a 0=xpA at cpA HMA;have HQP:Hid (pv=a):=hqpA;clear HM hpqA;rw [hqpA];clear hqpA;go_wp2_with fail
     go_region
     all_goals go_wp2_with fail
     all_goals go_meet
     all_goals exact⟨rfl,by rw [HQP.out],HM2A.out _ (HMA.out.drewN 1)⟩
   · have cpA:=HM.out.row.cell a (by rw [HM.out.len];omega);have cqA:=HM.out.row.cell pv (by rw [HM.out.len];omega);have fpA:=HM.out.row.frozen a;have fqA:=HM.out.row.frozen pv;have hneA:¬ a=pv:=by omega
     have hnfA:¬ pv=a:=by omega
     have HMA:Hid (St w ((w.setCell ⟨g,a,none⟩ (.int .i64 (l.getD pv 0))).setCell ⟨g,pv,none⟩ (.int .i64 (l.getD a 0))) B g cap S a b l (swp l a pv)):=HM.out.swap (by omega) a pv (by omega) (by omega) (by omega) (by omega);generalize l.getD a 0=xpA at cpA HMA;generalize l.getD pv 0=xqA at cqA HMA;clear HM;go_wp2_with fail
     go_region
     all_goals go_wp2_with fail
     all_goals go_meet
     all_goals exact⟨rfl,rfl,HMA.out.drewN 1⟩
 case rest=>
   obtain⟨rfl,rfl,HMA⟩:=hcut;clear HM;have HM:=HMA;clear HMA;obtain⟨m,hm⟩:∃m,m=swp l a pv:=⟨_,rfl⟩
   rw [← hm] at HM;clear hm;obtain⟨j,hj⟩:∃j:Nat,j=b-1:=⟨_,rfl⟩
   have hbj:(b:Int)-1=(j:Int):=by omega
   have hjj:a≤j∧j<b:=by omega
   have HP:Hid (Part cf a b (a+1) j m):=by show Part _ _ _ _ _ _;rw [hj];exact part_start a b
   clear hj;go_upto_block 0 with fail
   go_cut [12] from 32 to 49 (fun iv wx=>∃i:Nat,iv=.int .i64 i∧a+1≤i∧a+1≤i∧i≤j+1∧Hid (St w wx B g cap S a b l m)∧Hid (Part cf a b i j m)∧Hid (i≤j→¬ Lt cf m i a))
   case first=>
     go_wp2_with fail
     go_loopw [12] (fun iv wx=>∃i:Nat,iv=.int .i64 i∧a+1≤i∧a+1≤i∧i≤j+1∧Hid (St w wx B g cap S a b l m)∧Hid (Part cf a b i j m)) (fun iv _=>j+1-(intOf iv).toNat)
     case atStart=>exact⟨a+1,by go_num,Nat.le_refl _,by omega,by omega,HM,HP⟩
     case round=>
       clear HM HP;obtain⟨i,rfl,hi0U,hi,hi',HM,HP⟩:=hrel;by_cases hij:i≤j
       · have hij':decide ((i:Int)≤(j:Int))=true:=by simp;omega
         have li:(i:Int)<(l.length:Int):=by omega
         have la:(a:Int)<(l.length:Int):=by omega
         have HCAU:Hid (_):=HM.out.asks HC.out (p:=i) (q:=a) (by omega) (by omega);have HLLU:Hid (∀z:Int,z=cf (m.getD i 0) (m.getD a 0)→(Lt cf m i a↔z<0)):=fun z hz=>by rw [hz];exact Iff.rfl
         obtain⟨XU,_,FU,HFU,HGU⟩:=Fam.fam wr;have HMFU:Hid (∀z,St w (FU z) B g cap S a b l m):=fun z=>HM.out.below (HFU.out z)
         have hcpU:∀z,(FU z).cell? ⟨g,i,none⟩=some (.int .i64 (m.getD i 0)):=fun z=>(HMFU.out z).row.cell i (by rw [HM.out.len];omega)
         have hcqU:∀z,(FU z).cell? ⟨g,a,none⟩=some (.int .i64 (m.getD a 0)):=fun z=>(HMFU.out z).row.cell a (by rw [HM.out.len];omega)
         clear HM;generalize m.getD i 0=vpU at hcpU HCAU HLLU;generalize m.getD a 0=vqU at hcqU HCAU HLLU;generalize cf vpU vqU=zU at HCAU HLLU;have HLTU:Hid (Lt cf m i a↔zU<0):=HLLU.out _ rfl;clear HLLU;go_wp2_with fail
         refine Fam.region (F:=FU) (by kernel_rfl) (by kernel_rfl) (HGU.out _ (Below.refl _ wr).drew) ?_
         repeat (go_big_quiet_step (first
           | (go_at_call 150;exact(HCAU.out _ (HFU.out _)).mono fun _ _ h=>⟨h.1,HGU.out _ ((HFU.out _).trans (h.2.mono (HFU.out _).size))⟩)))
         refine wpQuiet_nil ?_;intro w2 hw2;obtain⟨zzU,rfl⟩:=hw2;have HM:Hid (St w (FU zzU) B g cap S a b l m):=HMFU.out zzU;clear hcpU hcqU HMFU HCAU HGU HFU;generalize FU zzU=VU at HM ⊢;by_cases hz:zU<0
         · have HP2:Hid (Part cf a b (i+1) j m):=part_i HP.out (HLTU.out.2 hz);clear HLTU HP;go_wp2;go_roundw
           case rel=>exact⟨i+1,by go_num,by omega,by omega,by omega,HM,HP2⟩
           case measure=>simp [intOf];omega
         · have HX:Hid (i≤j→¬ Lt cf m i a):=fun _ k=>hz (HLTU.out.1 k)
           clear HLTU;go_wp2_with fail
           go_meet;exact⟨i,rfl,hi0U,hi,hi',HM,HP,HX⟩
       · have hij':decide ((i:Int)≤(j:Int))=false:=by simp;omega
         have HMF:Hid (∀n,St w (wr.drewN n) B g cap S a b l m):=fun n=>HM.out.drewN n
         clear HM;go_wp2_with fail
         go_quiet (fail)
         go_wp2_with fail
         go_meet;exact⟨i,rfl,hi0U,hi,hi',HMF.out _,HP,fun h=>absurd h hij⟩
   case rest=>
     clear HM HP;obtain⟨i,rfl,hi0U,hi,hi',HM,HP,HX⟩:=hcut;go_upto_block 2 with fail
     go_cut [13] from 50 to 68 (fun jv wx=>∃jx:Nat,jv=.int .i64 jx∧jx≤j∧a≤jx∧jx<b∧i≤jx+1∧Hid (St w wx B g cap S a b l m)∧Hid (Part cf a b i jx m)∧Hid (i≤jx→Lt cf m jx a)∧Hid (i≤jx→¬ Lt cf m i a))
     case first=>
       go_wp2_with fail
       go_loopw [13] (fun jv wx=>∃jx:Nat,jv=.int .i64 jx∧jx≤j∧a≤jx∧jx<b∧i≤jx+1∧Hid (St w wx B g cap S a b l m)∧Hid (Part cf a b i jx m)∧Hid (i≤jx→¬ Lt cf m i a)) (fun jv _=>(intOf jv).toNat)
       case atStart=>exact⟨j,rfl,Nat.le_refl _,by omega,by omega,by omega,HM,HP,HX⟩
       case round=>
         clear HM HP HX;obtain⟨jx,rfl,hj0D,hj,hjb,hij0,HM,HP,HX⟩:=hrel;by_cases hij:i≤jx
         · have hij':decide ((i:Int)≤(jx:Int))=true:=by simp;omega
           have lj:(jx:Int)<(l.length:Int):=by omega
           have la:(a:Int)<(l.length:Int):=by omega
           have HTOT:Hid (¬ Lt cf m jx a→Part cf a b i (jx-1) m):=fun h=>part_j HC.out.ord HM.out.good HP.out (by rw [HM.out.len];omega) (by omega) hjb h
           have HCAD:Hid (_):=HM.out.asks HC.out (p:=jx) (q:=a) (by omega) (by omega);have HLLD:Hid (∀z:Int,z=cf (m.getD jx 0) (m.getD a 0)→(Lt cf m jx a↔z<0)):=fun z hz=>by rw [hz];exact Iff.rfl
           obtain⟨XD,_,FD,HFD,HGD⟩:=Fam.fam wr;have HMFD:Hid (∀z,St w (FD z) B g cap S a b l m):=fun z=>HM.out.below (HFD.out z)
           have hcpD:∀z,(FD z).cell? ⟨g,jx,none⟩=some (.int .i64 (m.getD jx 0)):=fun z=>(HMFD.out z).row.cell jx (by rw [HM.out.len];omega)
           have hcqD:∀z,(FD z).cell? ⟨g,a,none⟩=some (.int .i64 (m.getD a 0)):=fun z=>(HMFD.out z).row.cell a (by rw [HM.out.len];omega)
           clear HM;generalize m.getD jx 0=vpD at hcpD HCAD HLLD;generalize m.getD a 0=vqD at hcqD HCAD HLLD;generalize cf vpD vqD=zD at HCAD HLLD;have HLTD:Hid (Lt cf m jx a↔zD<0):=HLLD.out _ rfl;clear HLLD;go_wp2_with fail
           refine Fam.region (F:=FD) (by kernel_rfl) (by kernel_rfl) (HGD.out _ (Below.refl _ wr).drew) ?_
           repeat (go_big_quiet_step (first
             | (go_at_call 150;exact(HCAD.out _ (HFD.out _)).mono fun _ _ h=>⟨h.1,HGD.out _ ((HFD.out _).trans (h.2.mono (HFD.out _).size))⟩)))
           refine wpQuiet_nil ?_;intro w2 hw2;obtain⟨zzD,rfl⟩:=hw2;have HM:Hid (St w (FD zzD) B g cap S a b l m):=HMFD.out zzD;clear hcpD hcqD HMFD HCAD HGD HFD;generalize FD zzD=VD at HM ⊢;by_cases hz:zD<0
           · rw [show(!decide (zD<0))=false by simp [hz]];have HY:Hid (i≤jx→Lt cf m jx a):=fun _=>HLTD.out.2 hz
             clear HLTD HTOT;go_wp2_with fail
             go_meet;exact⟨jx,rfl,hj0D,hj,hjb,hij0,HM,HP,HY,HX⟩
           · rw [show(!decide (zD<0))=true by simp [hz]];have HP2:Hid (Part cf a b i (jx-1) m):=HTOT.out fun k=>hz (HLTD.out.1 k)
             have HX2:Hid (i≤jx-1→¬ Lt cf m i a):=fun h=>HX.out (by omega)
             clear HLTD HP HTOT HX;go_wp2;go_roundw
             case rel=>exact⟨jx-1,by rw [show((jx-1:Nat):Int)=(jx:Int)-1 by omega],by omega,by omega,by omega,by omega,HM,HP2,HX2⟩
             case measure=>simp [intOf];omega
         · have hij':decide ((i:Int)≤(jx:Int))=false:=by simp;omega
           have HMF:Hid (∀n,St w (wr.drewN n) B g cap S a b l m):=fun n=>HM.out.drewN n
           clear HM;go_wp2_with fail
           go_quiet (fail)
           go_wp2_with fail
           go_meet;exact⟨jx,rfl,hj0D,hj,hjb,hij0,HMF.out _,HP,fun h=>absurd h hij,HX⟩
     case rest=>
       clear HM HP HX;obtain⟨jx,rfl,hj0D,hj,hjb,hij0,HM,HP,HY,HX⟩:=hcut;by_cases hij:i≤jx
       · have hij':¬ (jx:Int)<(i:Int):=by omega
         have hne0:i≠jx:=fun e=>HX.out hij (e ▸ HY.out hij)
         have hlt:i<jx:=by omega
         have li:(i:Int)<(l.length:Int):=by omega
         have lj:(jx:Int)<(l.length:Int):=by omega
         have HP2:Hid (Part cf a b (i+1) (jx-1) (swp m i jx)):=part_swap HC.out.ord HM.out.good HP.out (by rw [HM.out.len];omega) (by omega) hlt hjb (HX.out hij) (HY.out hij);clear HP HX HY hne0;have cpE:=HM.out.row.cell i (by rw [HM.out.len];omega);have cqE:=HM.out.row.cell jx (by rw [HM.out.len];omega);have fpE:=HM.out.row.frozen i;have fqE:=HM.out.row.frozen jx;have hneE:¬ i=jx:=by omega
         have hnfE:¬ jx=i:=by omega
         have HME:Hid (St w ((wc.setCell ⟨g,i,none⟩ (.int .i64 (m.getD jx 0))).setCell ⟨g,jx,none⟩ (.int .i64 (m.getD i 0))) B g cap S a b l (swp m i jx)):=HM.out.swap (by omega) i jx (by omega) (by omega) (by omega) (by omega);generalize m.getD i 0=xpE at cpE HME;generalize m.getD jx 0=xqE at cqE HME;clear HM;go_wp2_with fail
         go_region
         all_goals go_wp2_with fail
         go_loopw [12,13] (fun iv jv wx=>∃(i j:Nat) (m:List Int),iv=.int .i64 i∧jv=.int .i64 j∧a+1≤i∧a≤j∧j<b∧i≤j+1∧Hid (St w wx B g cap S a b l m)∧Hid (Part cf a b i j m)) (fun iv jv _=>(intOf jv+1-intOf iv).toNat)
         case atStart=>exact⟨i+1,jx-1,swp m i jx,by go_num,by rw [show((jx-1:Nat):Int)=(jx:Int)-1 by omega],by omega,by omega,by omega,by omega,HME.out.drewN 1,HP2⟩
         case round=>
           clear HME HP2 cpE cqE fpE fqE;clear li lj hij hij' hlt hi hi' hj hjb hij0 hneE hnfE;clear hjj hbj;obtain⟨i,j,m,rfl,rfl,hi,hj,hjb,hij0,HM,HP⟩:=hrel;have hi':i≤j+1:=hij0;go_upto_block 6 with fail
           go_cut [12] from 105 to 122 (fun iv wx=>∃ix:Nat,iv=.int .i64 ix∧i≤ix∧a+1≤ix∧ix≤j+1∧Hid (St w wx B g cap S a b l m)∧Hid (Part cf a b ix j m)∧Hid (ix≤j→¬ Lt cf m ix a))
           case first=>
             go_wp2_with fail
             go_loopw [12] (fun iv wx=>∃ix:Nat,iv=.int .i64 ix∧i≤ix∧a+1≤ix∧ix≤j+1∧Hid (St w wx B g cap S a b l m)∧Hid (Part cf a b ix j m)) (fun iv _=>j+1-(intOf iv).toNat)
             case atStart=>exact⟨i,rfl,Nat.le_refl _,by omega,by omega,HM,HP⟩
             case round=>
               clear HM HP;obtain⟨ix,rfl,hi0P,hi,hi',HM,HP⟩:=hrel;by_cases hij:ix≤j
               · have hij':decide ((ix:Int)≤(j:Int))=true:=by simp;omega
                 have li:(ix:Int)<(l.length:Int):=by omega
                 have la:(a:Int)<(l.length:Int):=by omega
                 have HCAP:Hid (_):=HM.out.asks HC.out (p:=ix) (q:=a) (by omega) (by omega);have HLLP:Hid (∀z:Int,z=cf (m.getD ix 0) (m.getD a 0)→(Lt cf m ix a↔z<0)):=fun z hz=>by rw [hz];exact Iff.rfl
                 obtain⟨XP,_,FP,HFP,HGP⟩:=Fam.fam wr;have HMFP:Hid (∀z,St w (FP z) B g cap S a b l m):=fun z=>HM.out.below (HFP.out z)
                 have hcpP:∀z,(FP z).cell? ⟨g,ix,none⟩=some (.int .i64 (m.getD ix 0)):=fun z=>(HMFP.out z).row.cell ix (by rw [HM.out.len];omega)
                 have hcqP:∀z,(FP z).cell? ⟨g,a,none⟩=some (.int .i64 (m.getD a 0)):=fun z=>(HMFP.out z).row.cell a (by rw [HM.out.len];omega)
                 clear HM;generalize m.getD ix 0=vpP at hcpP HCAP HLLP;generalize m.getD a 0=vqP at hcqP HCAP HLLP;generalize cf vpP vqP=zP at HCAP HLLP;have HLTP:Hid (Lt cf m ix a↔zP<0):=HLLP.out _ rfl;clear HLLP;go_wp2_with fail
                 refine Fam.region (F:=FP) (by kernel_rfl) (by kernel_rfl) (HGP.out _ (Below.refl _ wr).drew) ?_
                 repeat (go_big_quiet_step (first
                   | (go_at_call 150;exact(HCAP.out _ (HFP.out _)).mono fun _ _ h=>⟨h.1,HGP.out _ ((HFP.out _).trans (h.2.mono (HFP.out _).size))⟩)))
                 refine wpQuiet_nil ?_;intro w2 hw2;obtain⟨zzP,rfl⟩:=hw2;have HM:Hid (St w (FP zzP) B g cap S a b l m):=HMFP.out zzP;clear hcpP hcqP HMFP HCAP HGP HFP;generalize FP zzP=VP at HM ⊢;by_cases hz:zP<0
                 · have HP2:Hid (Part cf a b (ix+1) j m):=part_i HP.out (HLTP.out.2 hz);clear HLTP HP;go_wp2;go_roundw
                   case rel=>exact⟨ix+1,by go_num,by omega,by omega,by omega,HM,HP2⟩
                   case measure=>simp [intOf];omega
                 · have HX:Hid (ix≤j→¬ Lt cf m ix a):=fun _ k=>hz (HLTP.out.1 k)
                   clear HLTP;go_wp2_with fail
                   go_meet;exact⟨ix,rfl,hi0P,hi,hi',HM,HP,HX⟩
               · have hij':decide ((ix:Int)≤(j:Int))=false:=by simp;omega
                 have HMF:Hid (∀n,St w (wr.drewN n) B g cap S a b l m):=fun n=>HM.out.drewN n
                 clear HM;go_wp2_with fail
                 go_quiet (fail)
                 go_wp2_with fail
                 go_meet;exact⟨ix,rfl,hi0P,hi,hi',HMF.out _,HP,fun h=>absurd h hij⟩
           case rest=>
             clear HM HP;obtain⟨ix,rfl,hi0P,hi,hi',HM,HP,HX⟩:=hcut;go_upto_block 8 with fail
             go_cut [13] from 123 to 141 (fun jv wx=>∃jx:Nat,jv=.int .i64 jx∧jx≤j∧a≤jx∧jx<b∧ix≤jx+1∧Hid (St w wx B g cap S a b l m)∧Hid (Part cf a b ix jx m)∧Hid (ix≤jx→Lt cf m jx a)∧Hid (ix≤jx→¬ Lt cf m ix a))
             case first=>
               go_wp2_with fail
               go_loopw [13] (fun jv wx=>∃jx:Nat,jv=.int .i64 jx∧jx≤j∧a≤jx∧jx<b∧ix≤jx+1∧Hid (St w wx B g cap S a b l m)∧Hid (Part cf a b ix jx m)∧Hid (ix≤jx→¬ Lt cf m ix a)) (fun jv _=>(intOf jv).toNat)
               case atStart=>exact⟨j,rfl,Nat.le_refl _,by omega,by omega,by omega,HM,HP,HX⟩
               case round=>
                 clear HM HP HX;obtain⟨jx,rfl,hj0Q,hj,hjb,hij0,HM,HP,HX⟩:=hrel;by_cases hij:ix≤jx
                 · have hij':decide ((ix:Int)≤(jx:Int))=true:=by simp;omega
                   have lj:(jx:Int)<(l.length:Int):=by omega
                   have la:(a:Int)<(l.length:Int):=by omega
                   have HTOT:Hid (¬ Lt cf m jx a→Part cf a b ix (jx-1) m):=fun h=>part_j HC.out.ord HM.out.good HP.out (by rw [HM.out.len];omega) (by omega) hjb h
                   have HCAQ:Hid (_):=HM.out.asks HC.out (p:=jx) (q:=a) (by omega) (by omega);have HLLQ:Hid (∀z:Int,z=cf (m.getD jx 0) (m.getD a 0)→(Lt cf m jx a↔z<0)):=fun z hz=>by rw [hz];exact Iff.rfl
                   obtain⟨XQ,_,FQ,HFQ,HGQ⟩:=Fam.fam wr;have HMFQ:Hid (∀z,St w (FQ z) B g cap S a b l m):=fun z=>HM.out.below (HFQ.out z)
                   have hcpQ:∀z,(FQ z).cell? ⟨g,jx,none⟩=some (.int .i64 (m.getD jx 0)):=fun z=>(HMFQ.out z).row.cell jx (by rw [HM.out.len];omega)
                   have hcqQ:∀z,(FQ z).cell? ⟨g,a,none⟩=some (.int .i64 (m.getD a 0)):=fun z=>(HMFQ.out z).row.cell a (by rw [HM.out.len];omega)
                   clear HM;generalize m.getD jx 0=vpQ at hcpQ HCAQ HLLQ;generalize m.getD a 0=vqQ at hcqQ HCAQ HLLQ;generalize cf vpQ vqQ=zQ at HCAQ HLLQ;have HLTQ:Hid (Lt cf m jx a↔zQ<0):=HLLQ.out _ rfl;clear HLLQ;go_wp2_with fail
                   refine Fam.region (F:=FQ) (by kernel_rfl) (by kernel_rfl) (HGQ.out _ (Below.refl _ wr).drew) ?_
                   repeat (go_big_quiet_step (first
                     | (go_at_call 150;exact(HCAQ.out _ (HFQ.out _)).mono fun _ _ h=>⟨h.1,HGQ.out _ ((HFQ.out _).trans (h.2.mono (HFQ.out _).size))⟩)))
                   refine wpQuiet_nil ?_;intro w2 hw2;obtain⟨zzQ,rfl⟩:=hw2;have HM:Hid (St w (FQ zzQ) B g cap S a b l m):=HMFQ.out zzQ;clear hcpQ hcqQ HMFQ HCAQ HGQ HFQ;generalize FQ zzQ=VQ at HM ⊢;by_cases hz:zQ<0
                   · rw [show(!decide (zQ<0))=false by simp [hz]];have HY:Hid (ix≤jx→Lt cf m jx a):=fun _=>HLTQ.out.2 hz
                     clear HLTQ HTOT;go_wp2_with fail
                     go_meet;exact⟨jx,rfl,hj0Q,hj,hjb,hij0,HM,HP,HY,HX⟩
                   · rw [show(!decide (zQ<0))=true by simp [hz]];have HP2:Hid (Part cf a b ix (jx-1) m):=HTOT.out fun k=>hz (HLTQ.out.1 k)
                     have HX2:Hid (ix≤jx-1→¬ Lt cf m ix a):=fun h=>HX.out (by omega)
                     clear HLTQ HP HTOT HX;go_wp2;go_roundw
                     case rel=>exact⟨jx-1,by rw [show((jx-1:Nat):Int)=(jx:Int)-1 by omega],by omega,by omega,by omega,by omega,HM,HP2,HX2⟩
                     case measure=>simp [intOf];omega
                 · have hij':decide ((ix:Int)≤(jx:Int))=false:=by simp;omega
                   have HMF:Hid (∀n,St w (wr.drewN n) B g cap S a b l m):=fun n=>HM.out.drewN n
                   clear HM;go_wp2_with fail
                   go_quiet (fail)
                   go_wp2_with fail
                   go_meet;exact⟨jx,rfl,hj0Q,hj,hjb,hij0,HMF.out _,HP,fun h=>absurd h hij,HX⟩
             case rest=>
               clear HM HP HX;obtain⟨jx,rfl,hj0Q,hj,hjb,hij0,HM,HP,HY,HX⟩:=hcut;by_cases hij:ix≤jx
               · have hij':¬ (jx:Int)<(ix:Int):=by omega
                 have hne0:ix≠jx:=fun e=>HX.out hij (e ▸ HY.out hij)
                 have hlt:ix<jx:=by omega
                 have li:(ix:Int)<(l.length:Int):=by omega
                 have lj:(jx:Int)<(l.length:Int):=by omega
                 have HP2:Hid (Part cf a b (ix+1) (jx-1) (swp m ix jx)):=part_swap HC.out.ord HM.out.good HP.out (by rw [HM.out.len];omega) (by omega) hlt hjb (HX.out hij) (HY.out hij);clear HP HX HY hne0;have cpG:=HM.out.row.cell ix (by rw [HM.out.len];omega);have cqG:=HM.out.row.cell jx (by rw [HM.out.len];omega);have fpG:=HM.out.row.frozen ix;have fqG:=HM.out.row.frozen jx;have hneG:¬ ix=jx:=by omega
                 have hnfG:¬ jx=ix:=by omega
                 have HMG:Hid (St w ((wc.setCell ⟨g,ix,none⟩ (.int .i64 (m.getD jx 0))).setCell ⟨g,jx,none⟩ (.int .i64 (m.getD ix 0))) B g cap S a b l (swp m ix jx)):=HM.out.swap (by omega) ix jx (by omega) (by omega) (by omega) (by omega);generalize m.getD ix 0=xpG at cpG HMG;generalize m.getD jx 0=xqG at cqG HMG;clear HM;go_wp2_with fail
                 go_region
                 all_goals go_wp2
                 all_goals go_roundw
                 case rel=>exact⟨ix+1,jx-1,swp m ix jx,by go_num,by rw [show((jx-1:Nat):Int)=(jx:Int)-1 by omega],by omega,by omega,by omega,by omega,HMG.out.drewN 1,HP2⟩
                 case measure=>simp [intOf];omega
               · have hij':(jx:Int)<(ix:Int):=by omega
                 obtain rfl:ix=jx+1:=by omega
                 have HP2:Hid (Cut cf a b jx (swp m jx a)):=part_end HP.out (by rw [HM.out.len];omega) hj hjb;have lj:(jx:Int)<(l.length:Int):=by omega
                 clear HP HX HY;go_upto_region 21 with fail
                 go_cut [13,1] from 14 to 176 (fun sv tv wx=>sv=.int .i64 (jx:Nat)∧tv=.int .i64 (a:Nat)∧Hid (St w wx B g cap S a b l (swp m jx a)))
                 case first=>
                   by_cases hpqH:jx=a
                   · have HMH:Hid (_):=HM.out.swap (by omega) jx jx (by omega) (by omega) (by omega) (by omega);have HM2H:Hid (∀W,St w W B g cap S a b l (swp m jx jx)→St w W B g cap S a b l (swp m jx a)):=fun W h=>hpqH ▸ h
                     have cpH:=HM.out.row.cell jx (by rw [HM.out.len];omega);have fpH:=HM.out.row.frozen jx;have hqpH:(a:Nat)=jx:=hpqH.symm;generalize m.getD jx 0=xpH at cpH HMH;have HQP:Hid (a=jx):=hqpH;clear HM hpqH;rw [hqpH];clear hqpH;go_wp2_with fail
                     go_region
                     all_goals go_wp2_with fail
                     all_goals go_meet
                     all_goals exact⟨rfl,by rw [HQP.out],HM2H.out _ (HMH.out.drewN 1)⟩
                   · have cpH:=HM.out.row.cell jx (by rw [HM.out.len];omega);have cqH:=HM.out.row.cell a (by rw [HM.out.len];omega);have fpH:=HM.out.row.frozen jx;have fqH:=HM.out.row.frozen a;have hneH:¬ jx=a:=by omega
                     have hnfH:¬ a=jx:=by omega
                     have HMH:Hid (St w ((wc.setCell ⟨g,jx,none⟩ (.int .i64 (m.getD a 0))).setCell ⟨g,a,none⟩ (.int .i64 (m.getD jx 0))) B g cap S a b l (swp m jx a)):=HM.out.swap (by omega) jx a (by omega) (by omega) (by omega) (by omega);generalize m.getD jx 0=xpH at cpH HMH;generalize m.getD a 0=xqH at cqH HMH;clear HM;go_wp2_with fail
                     go_region
                     all_goals go_wp2_with fail
                     all_goals go_meet
                     all_goals exact⟨rfl,rfl,HMH.out.drewN 1⟩
                 case rest=>
                   obtain⟨rfl,rfl,HMH⟩:=hcut;clear HM;have HM:=HMH;clear HMH;go_wp2;go_ret2
                   exact⟨jx,false,_,rfl,hj,hjb,HM.out,HP2.out⟩
       · have hij':(jx:Int)<(i:Int):=by omega
         obtain rfl:i=jx+1:=by omega
         have HP2:Hid (Cut cf a b jx (swp m jx a)):=part_end HP.out (by rw [HM.out.len];omega) hj hjb;have lj:(jx:Int)<(l.length:Int):=by omega
         clear HP HX HY;go_upto_region 8 with fail
         go_cut [13,1] from 14 to 85 (fun sv tv wx=>sv=.int .i64 (jx:Nat)∧tv=.int .i64 (a:Nat)∧Hid (St w wx B g cap S a b l (swp m jx a)))
         case first=>
           by_cases hpqF:jx=a
           · have HMF:Hid (_):=HM.out.swap (by omega) jx jx (by omega) (by omega) (by omega) (by omega);have HM2F:Hid (∀W,St w W B g cap S a b l (swp m jx jx)→St w W B g cap S a b l (swp m jx a)):=fun W h=>hpqF ▸ h
             have cpF:=HM.out.row.cell jx (by rw [HM.out.len];omega);have fpF:=HM.out.row.frozen jx;have hqpF:(a:Nat)=jx:=hpqF.symm;generalize m.getD jx 0=xpF at cpF HMF;have HQP:Hid (a=jx):=hqpF;clear HM hpqF;rw [hqpF];clear hqpF;go_wp2_with fail
             go_region
             all_goals go_wp2_with fail
             all_goals go_meet
             all_goals exact⟨rfl,by rw [HQP.out],HM2F.out _ (HMF.out.drewN 1)⟩
           · have cpF:=HM.out.row.cell jx (by rw [HM.out.len];omega);have cqF:=HM.out.row.cell a (by rw [HM.out.len];omega);have fpF:=HM.out.row.frozen jx;have fqF:=HM.out.row.frozen a;have hneF:¬ jx=a:=by omega
             have hnfF:¬ a=jx:=by omega
             have HMF:Hid (St w ((wc.setCell ⟨g,jx,none⟩ (.int .i64 (m.getD a 0))).setCell ⟨g,a,none⟩ (.int .i64 (m.getD jx 0))) B g cap S a b l (swp m jx a)):=HM.out.swap (by omega) jx a (by omega) (by omega) (by omega) (by omega);generalize m.getD jx 0=xpF at cpF HMF;generalize m.getD a 0=xqF at cqF HMF;clear HM;go_wp2_with fail
             go_region
             all_goals go_wp2_with fail
             all_goals go_meet
             all_goals exact⟨rfl,rfl,HMF.out.drewN 1⟩
         case rest=>
           obtain⟨rfl,rfl,HMF⟩:=hcut;clear HM;have HM:=HMF;clear HMF;go_wp2;go_ret2
           exact⟨jx,true,_,rfl,hj,hjb,HM.out,HP2.out⟩
end So
end Go.Proofs.YtbkeldfbllhlbaaGreat
namespace Go.Proofs
open Go.Shelf
def Tryz.lays125_ren:Go.Shelf.Ren:=⟨fun | 125=>182 | 128=>198 | 129=>199 | n=>n,fun | 46=>108 | 3=>3 | 51=>227 | 53=>206 | 4=>4 | 5=>5 | 9=>9 | n=>n,fun | n=>n⟩
theorem Tryz.lays125 : Go.Proofs.Lays.n125 Tryz.prog Tryz.lays125_ren := {
 mixed:=by kernel_rfl
 f125:=Tryz.func182.trans (congrArg some (by kernel_rfl))
 f128:=Tryz.func198.trans (congrArg some (by kernel_rfl))
 f129:=Tryz.func199.trans (congrArg some (by kernel_rfl))
 t3:=Tryz.underlying3
 a3:=Tryz.isAgg3
 z3:=Tryz.sizeOf3
 v3:=Tryz.zeroValue3
 t4:=Tryz.underlying4
 a4:=Tryz.isAgg4
 z4:=Tryz.sizeOf4
 v4:=Tryz.zeroValue4
 t5:=Tryz.underlying5
 a5:=Tryz.isAgg5
 z5:=Tryz.sizeOf5
 v5:=Tryz.zeroValue5
 t9:=Tryz.underlying9
 a9:=Tryz.isAgg9
 z9:=Tryz.sizeOf9
 v9:=Tryz.zeroValue9
 t46:=Tryz.underlying108
 a46:=Tryz.isAgg108
 z46:=Tryz.sizeOf108
 v46:=Tryz.zeroValue108
 t51:=Tryz.underlying227
 a51:=Tryz.isAgg227
 z51:=Tryz.sizeOf227
 v51:=Tryz.zeroValue227
 t53:=Tryz.underlying206
 a53:=Tryz.isAgg206
 z53:=Tryz.sizeOf206
 v53:=Tryz.zeroValue206 }
theorem Tryz.bits_Len(x:Int)(w:World)(h0:0≤x)(h1:x≤18446744073709551615) :
  Calls Tryz.prog 182 #[.int .u64 x] w fun e w'=>e=.returned (.int .i64 (Lib.bitLen x.toNat))∧w'=w:=Any.bits_Len Tryz.lays125 x w h0 h1
end Go.Proofs
namespace Go.Proofs.YtbkeldfbllhlbaaGreat
open Go.RowKit
set_option maxRecDepth 100000
set_option linter.unusedVariables false
namespace So
set_option maxHeartbeats 3200000 in
theorem next(rb:Nat)(x:Int)(w:World)(hc:w.cell? ⟨rb,0,none⟩=some (.int .u64 x))(hf:w.frozen? ⟨rb,0,none⟩=false) :
  Calls Tryz.prog 203 #[.pointer (some ⟨rb,0,none⟩)] w fun e w'=>∃y:Int,e=.returned (.int .u64 y)∧w'.cell? ⟨rb,0,none⟩=some (.int .u64 y)∧w'.frozen? ⟨rb,0,none⟩=false∧w.grownBy w' (some rb):=by
 have HP:Hid (∀(W:World) (v:Int) (u:Value),W.cell? ⟨rb,0,none⟩=some u→W.frozen? ⟨rb,0,none⟩=false→w.grownBy W (some rb)→((W.setCell ⟨rb,0,none⟩ (.int .u64 v)).drewN 1).cell? ⟨rb,0,none⟩=some (.int .u64 v)∧((W.setCell ⟨rb,0,none⟩ (.int .u64 v)).drewN 1).frozen? ⟨rb,0,none⟩=false∧w.grownBy ((W.setCell ⟨rb,0,none⟩ (.int .u64 v)).drewN 1) (some rb)):=fun W v u h1 h2 h3=>
  ⟨World.cell?_setCell_same _ _ _ h1,by simpa using h2,let k:=h3.trans (gr_set rb 0 (.int .u64 v));⟨k.os,k.tape,k.output,k.size,k.block⟩⟩
 have HG0:Hid (w.grownBy w (some rb)):=gr_refl _ _;go_enter Tryz.func203,Tryz.ntmps203
 go_upto_region 1 with fail
 go_cut [0] from 3 to 11 (fun pv wx=>pv=.pointer (some ⟨rb,0,none⟩)∧∃y:Int,wx.cell? ⟨rb,0,none⟩=some (.int .u64 y)∧wx.frozen? ⟨rb,0,none⟩=false∧Hid (w.grownBy wx (some rb)))
 case first=>
  go_region
  all_goals go_wp2_with fail
  all_goals go_meet
  all_goals exact⟨rfl,_,(HP.out _ _ _ hc hf HG0.out).1,(HP.out _ _ _ hc hf HG0.out).2.1,(HP.out _ _ _ hc hf HG0.out).2.2⟩
 case rest=>
  clear hc hf HG0;obtain⟨rfl,x1,hc,hf,HG0⟩:=hcut;go_upto_region 2 with fail
  go_cut [0] from 12 to 20 (fun pv wx=>pv=.pointer (some ⟨rb,0,none⟩)∧∃y:Int,wx.cell? ⟨rb,0,none⟩=some (.int .u64 y)∧wx.frozen? ⟨rb,0,none⟩=false∧Hid (w.grownBy wx (some rb)))
  case first=>
   go_region
   all_goals go_wp2_with fail
   all_goals go_meet
   all_goals exact⟨rfl,_,(HP.out _ _ _ hc hf HG0.out).1,(HP.out _ _ _ hc hf HG0.out).2.1,(HP.out _ _ _ hc hf HG0.out).2.2⟩
  case rest=>
   clear hc hf HG0;obtain⟨rfl,x2,hc,hf,HG0⟩:=hcut;go_upto_region 3 with fail
   go_cut [0] from 21 to 29 (fun pv wx=>pv=.pointer (some ⟨rb,0,none⟩)∧∃y:Int,wx.cell? ⟨rb,0,none⟩=some (.int .u64 y)∧wx.frozen? ⟨rb,0,none⟩=false∧Hid (w.grownBy wx (some rb)))
   case first=>
    go_region
    all_goals go_wp2_with fail
    all_goals go_meet
    all_goals exact⟨rfl,_,(HP.out _ _ _ hc hf HG0.out).1,(HP.out _ _ _ hc hf HG0.out).2.1,(HP.out _ _ _ hc hf HG0.out).2.2⟩
   case rest=>
    clear hc hf HG0;obtain⟨rfl,x3,hc,hf,HG0⟩:=hcut;go_wp2;go_ret;exact⟨x3,rfl,hc,hf,HG0.out⟩
theorem len_zero(f:Nat):Lib.bitLenAux f 0=0:=by cases f <;> simp [Lib.bitLenAux]
theorem len_le:∀(f x:Nat),x≠0→2 ^ Lib.bitLenAux f x≤2*x:=by
 intro f;induction f with
 | zero=>intro x hx;simp only [Lib.bitLenAux];omega
 | succ f ih=>
  intro x hx;unfold Lib.bitLenAux;rw [if_neg hx,Nat.pow_add,Nat.pow_one];by_cases h:x / 2=0
  ·rw [h,len_zero];omega
  ·have:=ih (x / 2) h;omega
set_option maxHeartbeats 3200000 in
theorem nextPower(n:Nat)(w:World)(h0:0<n)(h1:n≤1048576) :
  Calls Tryz.prog 202 #[.int .i64 n] w fun e w'=>∃m:Int,e=.returned (.int .u64 m)∧1≤m∧m≤2*n∧w=w':=by
 have HL:=Tryz.bits_Len (n:Int) w (by omega) (by omega);rw [Int.toNat_natCast] at HL;have hle:Lib.bitLen n≤21:=Lib.bitLen_le n 21 (by omega) (by omega);have hk2:2 ^ Lib.bitLen n≤2*n:=len_le 64 n (by omega);generalize Lib.bitLen n=k at HL hle hk2;have HK:Hid (2 ^ k≤2*n):=hk2;clear hk2;go_enter Tryz.func202,Tryz.ntmps202
 go_wp2_with fail
 refine HL.mono ?_;rintro e w' ⟨rfl,rfl⟩;go_wp2_with fail
 have hpw:(2:Int) ^ k=((2 ^ k:Nat):Int):=by simp
 have hp1:1≤2 ^ k:=Nat.one_le_two_pow;have hp2:=HK.out;rw [hpw];generalize 2 ^ k=m at hp1 hp2;have hw:IntKind.u64.wrap (m:Int)=m:=by
  simp only [IntKind.wrap,IntKind.bits,IntKind.signed];simp;omega
 rw [hw];go_ret;exact⟨m,rfl,by omega,by omega,rfl⟩
theorem and_bd(n m:Int)(h0:0≤m)(h1:m<9223372036854775808):0≤bits .and .u64 n m∧bits .and .u64 n m≤m:=by
 obtain⟨M,rfl⟩:=Int.eq_ofNat_of_zero_le h0;have hM:(BitVec.ofInt 64 (M:Int)).toNat=M:=ofInt_u64 M (by omega);have hx:(BitVec.ofInt 64 n &&& BitVec.ofInt 64 (M:Int)).toNat≤M:=by
  rw [BitVec.toNat_and,hM];exact Nat.and_le_right
 have e:bits .and .u64 n (M:Int)=IntKind.u64.wrap ((BitVec.ofInt 64 n &&& BitVec.ofInt 64 (M:Int)).toNat:Int):=rfl;rw [e];generalize (BitVec.ofInt 64 n &&& BitVec.ofInt 64 (M:Int)).toNat=x at hx;simp only [IntKind.wrap,IntKind.bits,IntKind.signed];simp;omega
theorem gr_then{a b c:World}{g rb:Nat}(h:a.grownBy b (some g))(k:b.grownBy c (some rb))(hr:a.heap.size≤rb):a.grownBy c (some g):=
 ⟨k.os.trans h.os,k.tape.trans h.tape,k.output.trans h.output,Nat.le_trans h.size k.size,fun i hi hne=>(k.block i (Nat.lt_of_lt_of_le hi h.size) (by intro e;injection e with e;omega)).trans (h.block i hi hne)⟩
structure Bx(w wr:World)(B g cap:Nat)(S:Int→Prop)(a b:Nat)(l m:List Int)(rb:Nat):Prop where
 st:St w wr B g cap S a b l m
 far:w.heap.size≤rb
 gw:g<w.heap.size
 box:∃x:Int,wr.cell? ⟨rb,0,none⟩=some (.int .u64 x)
 fz:wr.frozen? ⟨rb,0,none⟩=false
theorem own_gr{B g cap:Nat}{w w':World}{l:List Int}{rb:Nat}(h:Memb.Own B w (some ⟨g,0,none⟩) cap l)(hb:w.grownBy w' (some rb))(hne:g≠rb):Memb.Own B w' (some ⟨g,0,none⟩) cap l:=by
 exact World.ownsRow.kept h hb (.inr (by simp [Value.ownBlock];exact hne))
theorem Bx.step{w wr w':World}{B g cap:Nat}{S:Int→Prop}{a b:Nat}{l m:List Int}{rb:Nat}{y:Int}(h:Bx w wr B g cap S a b l m rb)(hg:wr.grownBy w' (some rb))(hc:w'.cell? ⟨rb,0,none⟩=some (.int .u64 y))(hf:w'.frozen? ⟨rb,0,none⟩=false):Bx w w' B g cap S a b l m rb:=
 ⟨⟨⟨own_gr h.st.row.own hg (by have:=h.gw;have:=h.far;omega),gr_then h.st.row.gr hg h.far⟩,h.st.mix,h.st.good⟩,h.far,h.gw,⟨y,hc⟩,hf⟩
theorem Bx.swap{w wr:World}{B g cap:Nat}{S:Int→Prop}{a b:Nat}{l m:List Int}{rb:Nat}(h:Bx w wr B g cap S a b l m rb)(hb:b≤l.length)(i j:Nat)(hi:a≤i)(hi':i<b)(hj:a≤j)(hj':j<b):Bx w (((wr.setCell ⟨g,i,none⟩ (.int .i64 (m.getD j 0))).setCell ⟨g,j,none⟩ (.int .i64 (m.getD i 0))).drewN 1) B g cap S a b l (swp m i j) rb:=by
 have hne:rb≠g:=by have:=h.gw;have:=h.far;omega
 have e1:=Below.heap_setCell wr ⟨g,i,none⟩ (.int .i64 (m.getD j 0)) rb hne;have e2:=Below.heap_setCell (wr.setCell ⟨g,i,none⟩ (.int .i64 (m.getD j 0))) ⟨g,j,none⟩ (.int .i64 (m.getD i 0)) rb hne;refine⟨(h.st.swap hb i j hi hi' hj hj').drewN 1,h.far,h.gw,?_,?_⟩
 ·obtain⟨x,hx⟩:=h.box;exact⟨x,((World.cell?_of_block (a:=⟨rb,0,none⟩) e2).trans (World.cell?_of_block (a:=⟨rb,0,none⟩) e1)).trans hx⟩
 ·exact((World.frozen?_of_block (a:=⟨rb,0,none⟩) e2).trans (World.frozen?_of_block (a:=⟨rb,0,none⟩) e1)).trans h.fz
set_option maxHeartbeats 3200000 in
theorem breakPatterns(B g cap:Nat)(lv:Value)(S:Int→Prop)(a b:Nat)(l:List Int)(w:World)(h:Memb.Own B w (some ⟨g,0,none⟩) cap l)(hg:Good S l)(hab:a+12<b)(hb:b≤l.length)(hl:l.length≤1048576) :
  Calls Tryz.prog 192 #[.slice (some ⟨g,0,none⟩) l.length cap,.int .i64 a,.int .i64 b,.func (.func 150) #[lv] #[]] w fun e w'=>e=.returned (.tuple #[])∧∃m,St w w' B g cap S a b l m:=by
 obtain⟨n,hn⟩:∃n:Nat,n=b-a:=⟨_,rfl⟩
 obtain⟨q,hq⟩:∃q:Nat,q=n / 4:=⟨_,rfl⟩
 have hba:(b:Int)-(a:Int)=(n:Int):=by omega
 have hn8:(8:Int)≤(n:Int):=by omega
 have hqq:Int.tdiv (n:Int) 4=(q:Int):=by rw [Int.tdiv_eq_ediv_of_nonneg (by omega)];omega
 have hq3:3≤q∧4*q≤n:=by omega
 have hnb:a+n=b:=by omega
 have hgw:g<w.heap.size:=(World.ownsRow.lt h g rfl).2;have HS:Hid (St w w B g cap S a b l l):=St.start h hg;have HNP:Hid (∀W:World,Calls Tryz.prog 202 #[.int .i64 n] W fun e w'=>∃m:Int,e=.returned (.int .u64 m)∧1≤m∧m≤2*n∧W=w'):=fun W=>nextPower n W (by omega) (by omega)
 clear h hg hn hq;go_enter Tryz.func192,Tryz.ntmps192
 have HB0:Hid (Bx w (w.alloc (.cells #[.int .u64 n] 231)) B g cap S a b l l w.heap.size):=⟨HS.out.below ((Below.refl _ _).alloc (Nat.le_refl _) _),Nat.le_refl _,hgw,⟨n,by simp⟩,by simp⟩
 clear HS;go_upto_region 3 with fail
 generalize w.alloc (.cells #[.int .u64 n] 231)=W0 at HB0 ⊢;generalize w.heap.size=rb at HB0 hgw ⊢;clear hgw;go_wp2_with fail
 refine(HNP.out _).mono ?_;rintro e w' ⟨M,rfl,hM1,hM2,rfl⟩;clear HNP;go_wp2_with fail
 go_loopw [11] (fun iv wr=>∃(i:Nat) (m:List Int),iv=.int .i64 i∧a≤i∧i≤a+2*q+2∧Hid (Bx w wr B g cap S a b l m rb)) (fun iv _=>a+2*q+2-(intOf iv).toNat)
 case atStart=>exact⟨a+2*q-1,l,by rw [show((a+2*q-1:Nat):Int)=(a:Int)+(q:Int)*2-1 by omega],by omega,by omega,HB0⟩
 case round=>
  clear HB0;obtain⟨i,m,rfl,hi,hi',HB⟩:=hrel;by_cases hiq:i≤a+2*q+1
  ·have hiq':(i:Int)≤(a:Int)+(q:Int)*2+1:=by omega
   obtain⟨x,hcx⟩:=HB.out.box;have hcall:=next rb x wr hcx HB.out.fz;clear hcx;go_wp2_with fail
   refine hcall.mono ?_;rintro e w1 ⟨y,rfl,hc1,hf1,hg1⟩;have HB1:Hid (Bx w w1 B g cap S a b l m rb):=HB.out.step hg1 hc1 hf1;clear hcall hc1 hf1 hg1 HB;have ho:=and_bd y (M-1) (by omega) (by omega);generalize hob:bits .and .u64 y (M-1)=o at ho;have HOB:Hid (bits .and .u64 y (M-1)=o):=hob;clear hob;go_upto_region 8 with fail
   rw [HOB.out];obtain⟨O,rfl⟩:=Int.eq_ofNat_of_zero_le ho.1;rw [show wrap64 (O:Int)=O by unfold wrap64;omega];clear HOB;go_upto_if 45 with fail
   go_cut [12] from 28 to 66 (fun ov wx=>∃o:Nat,ov=.int .i64 o∧o<n∧Hid (Bx w wx B g cap S a b l m rb))
   case first=>
    by_cases hon:n≤O
    ·have hon':(n:Int)≤(O:Int):=by omega
     go_wp2_with fail
     go_meet;exact⟨O-n,by rw [show((O-n:Nat):Int)=(O:Int)-(n:Int) by omega],by omega,HB1⟩
    ·have hon':¬ (n:Int)≤(O:Int):=by omega
     go_wp2_with fail
     go_meet;exact⟨O,rfl,by omega,HB1⟩
   case rest=>
    clear HB1 ho;obtain⟨o,rfl,hon,HB1⟩:=hcut;have li:(i:Int)<(l.length:Int):=by omega
    by_cases hio:i=a+o
    ·have e1:(a:Int)+(o:Int)=(i:Int):=by omega
     have HB2:Hid (_):=HB1.out.swap hb i i (by omega) (by omega) (by omega) (by omega);have cp:=HB1.out.st.row.cell i (by rw [HB1.out.st.len];omega);have fp:=HB1.out.st.row.frozen i;generalize m.getD i 0=xi at cp HB2;clear HB1 hio;go_wp2_with fail
     go_region
     all_goals go_wp2
     all_goals go_roundw
     case rel=>exact⟨i+1,_,by go_num,by omega,by omega,HB2⟩
     case measure=>simp [intOf];omega
    ·obtain⟨y,hy⟩:∃y:Nat,y=a+o:=⟨_,rfl⟩
     have e1:(a:Int)+(o:Int)=(y:Int):=by omega
     have ly:(y:Int)<(l.length:Int):=by omega
     have hne:¬ i=y:=by omega
     have hne':¬ y=i:=by omega
     have HB2:Hid (_):=HB1.out.swap hb i y (by omega) (by omega) (by omega) (by omega);have cp:=HB1.out.st.row.cell i (by rw [HB1.out.st.len];omega);have fp:=HB1.out.st.row.frozen i;have cq:=HB1.out.st.row.cell y (by rw [HB1.out.st.len];omega);have fq:=HB1.out.st.row.frozen y;generalize m.getD i 0=xi at cp HB2;generalize m.getD y 0=xy at cq HB2;clear HB1 hio hy;go_wp2_with fail
     go_region
     all_goals go_wp2
     all_goals go_roundw
     case rel=>exact⟨i+1,_,by go_num,by omega,by omega,HB2⟩
     case measure=>simp [intOf];omega
  ·have hiq':¬ (i:Int)≤(a:Int)+(q:Int)*2+1:=by omega
   go_wp2;go_end0;exact⟨rfl,m,HB.out.st⟩
end So
namespace So
structure Pv(w wr:World)(B g cap:Nat)(S:Int→Prop)(l:List Int)(sb:Nat):Prop where
 own:Memb.Own B w (some ⟨g,0,none⟩) cap l
 good:Good S l
 bel:Below w.heap.size w wr
 far:w.heap.size≤sb
 lt:sb<wr.heap.size
 box:∃n:Int,wr.cell? ⟨sb,0,none⟩=some (.int .i64 n)
 fz:wr.frozen? ⟨sb,0,none⟩=false
theorem Pv.cell{w wr:World}{B g cap:Nat}{S:Int→Prop}{l:List Int}{sb:Nat}(h:Pv w wr B g cap S l sb)(j:Nat)(hj:j<l.length):wr.cell? ⟨g,j,none⟩=some (.int .i64 (l.getD j 0)):=((Row.start h.own).below h.bel).cell j hj
theorem Pv.below{w wr wr':World}{B g cap:Nat}{S:Int→Prop}{l:List Int}{sb:Nat}(h:Pv w wr B g cap S l sb)(hb:Below wr.heap.size wr wr'):Pv w wr' B g cap S l sb:=
 ⟨h.own,h.good,h.bel.trans (hb.mono h.bel.size),h.far,Nat.lt_of_lt_of_le h.lt hb.size,by obtain⟨n,hn⟩:=h.box;exact⟨n,(hb.cell (p:=⟨sb,0,none⟩) h.lt).trans hn⟩,(World.frozen?_of_block (a:=⟨sb,0,none⟩) (hb.block sb h.lt)).trans h.fz⟩
theorem Pv.count{w wr:World}{B g cap:Nat}{S:Int→Prop}{l:List Int}{sb:Nat}(h:Pv w wr B g cap S l sb)(n:Int):Pv w (wr.setCell ⟨sb,0,none⟩ (.int .i64 n)) B g cap S l sb:=
 ⟨h.own,h.good,h.bel.setCell (p:=⟨sb,0,none⟩) h.far _,h.far,by simpa using h.lt,by obtain⟨k,hk⟩:=h.box;exact⟨n,World.cell?_setCell_same _ _ _ hk⟩,by simpa using h.fz⟩
set_option maxHeartbeats 3200000 in
theorem order2(B g cap:Nat)(lv:Value)(cf:Int→Int→Int)(S:Int→Prop)(a b x y sb:Nat)(l:List Int)(w W:World)(hc:Ctx w g lv cf S)(h:Pv w W B g cap S l sb)(hx:a≤x)(hx':x<b)(hy:a≤y)(hy':y<b)(hb:b≤l.length)(hl:l.length≤1048576) :
   Calls Tryz.prog 207 #[.slice (some ⟨g,0,none⟩) l.length cap,.int .i64 x,.int .i64 y,.pointer (some ⟨sb,0,none⟩),.func (.func 150) #[lv] #[]] W fun e w'=>∃p q:Nat,e=.returned (.tuple #[.int .i64 p,.int .i64 q])∧a≤p∧p<b∧a≤q∧q<b∧Pv w w' B g cap S l sb:=by
 have HCA:Hid (∀V:World,Below W.heap.size W V→Calls Tryz.prog 150 #[lv,.int .i64 (l.getD y 0),.int .i64 (l.getD x 0)] V fun e w'=>e=.returned (.int .i64 (cf (l.getD y 0) (l.getD x 0)))∧Below V.heap.size V w'):=fun V hV=>hc.cmp V _ _ (gr_below (h.below hV).bel _) (h.good.at y (by omega)) (h.good.at x (by omega))
 have HP:Hid (Pv w W B g cap S l sb):=h;have lx:(x:Int)<(l.length:Int):=by omega
 have ly:(y:Int)<(l.length:Int):=by omega
 obtain⟨X,_,F,HF,HG⟩:=Fam.fam W;have HPF:Hid (∀z,Pv w (F z) B g cap S l sb):=fun z=>HP.out.below (HF.out z)
 have hcx:∀z,(F z).cell? ⟨g,x,none⟩=some (.int .i64 (l.getD x 0)):=fun z=>(HPF.out z).cell x (by omega)
 have hcy:∀z,(F z).cell? ⟨g,y,none⟩=some (.int .i64 (l.getD y 0)):=fun z=>(HPF.out z).cell y (by omega)
 clear hc h HP;generalize l.getD x 0=vx at hcx HCA;generalize l.getD y 0=vy at hcy HCA;generalize cf vy vx=z at HCA;go_enter Tryz.func207,Tryz.ntmps207
 go_wp2_with fail
 refine Fam.region (F:=F) (by kernel_rfl) (by kernel_rfl) (HG.out _ (Below.refl _ W).drew) ?_
 repeat (go_big_quiet_step (first
   | (go_at_call 150;exact(HCA.out _ (HF.out _)).mono fun _ _ h=>⟨h.1,HG.out _ ((HF.out _).trans (h.2.mono (HF.out _).size))⟩)))
 refine wpQuiet_nil ?_;intro w2 hw2;obtain⟨zz,rfl⟩:=hw2;have HP:Hid (Pv w (F zz) B g cap S l sb):=HPF.out zz;clear hcx hcy HPF HCA HG HF;generalize F zz=V at HP ⊢;by_cases hz:z<0
 · obtain⟨n,hn⟩:=HP.out.box;have hf:=HP.out.fz;have HP2:Hid (∀k,Pv w (V.setCell ⟨sb,0,none⟩ (.int .i64 k)) B g cap S l sb):=fun k=>HP.out.count k
   clear HP;go_wp2;go_ret2
   exact⟨y,x,rfl,hy,hy',hx,hx',HP2.out _⟩
 · go_wp2;go_ret2
   exact⟨x,y,rfl,hx,hx',hy,hy',HP.out⟩
set_option maxHeartbeats 3200000 in
theorem median(B g cap:Nat)(lv:Value)(cf:Int→Int→Int)(S:Int→Prop)(a b x y z sb:Nat)(l:List Int)(w W:World)(hc:Ctx w g lv cf S)(h:Pv w W B g cap S l sb)(hx:a≤x)(hx':x<b)(hy:a≤y)(hy':y<b)(hz:a≤z)(hz':z<b)(hb:b≤l.length)(hl:l.length≤1048576) :
  Calls Tryz.prog 205 #[.slice (some ⟨g,0,none⟩) l.length cap,.int .i64 x,.int .i64 y,.int .i64 z,.pointer (some ⟨sb,0,none⟩),.func (.func 150) #[lv] #[]] W fun e w'=>∃p:Nat,e=.returned (.int .i64 p)∧a≤p∧p<b∧Pv w w' B g cap S l sb:=by
 have HO:Hid (∀(x y:Nat) (V:World),a≤x→x<b→a≤y→y<b→Pv w V B g cap S l sb→Calls Tryz.prog 207 #[.slice (some ⟨g,0,none⟩) l.length cap,.int .i64 x,.int .i64 y,.pointer (some ⟨sb,0,none⟩),.func (.func 150) #[lv] #[]] V fun e w'=>∃p q:Nat,e=.returned (.tuple #[.int .i64 p,.int .i64 q])∧a≤p∧p<b∧a≤q∧q<b∧Pv w w' B g cap S l sb):=fun x y V h1 h2 h3 h4 hV=>order2 B g cap lv cf S a b x y sb l w V hc hV h1 h2 h3 h4 hb hl
 have HP:Hid (Pv w W B g cap S l sb):=h;clear hc h;go_enter Tryz.func205,Tryz.ntmps205
 go_wp2_with fail
 refine(HO.out x y _ hx hx' hy hy' HP.out).mono ?_;rintro e w1 ⟨x1,y1,rfl,hx1,hx1',hy1,hy1',hp1⟩;have HP1:Hid (Pv w w1 B g cap S l sb):=hp1;clear hp1 HP;go_wp2_with fail
 refine(HO.out y1 z _ hy1 hy1' hz hz' HP1.out).mono ?_;rintro e w2 ⟨y2,z2,rfl,hy2,hy2',hz2,hz2',hp2⟩;have HP2:Hid (Pv w w2 B g cap S l sb):=hp2;clear hp2 HP1;go_wp2_with fail
 refine(HO.out x1 y2 _ hx1 hx1' hy2 hy2' HP2.out).mono ?_;rintro e w3 ⟨x3,y3,rfl,hx3,hx3',hy3,hy3',hp3⟩;have HP3:Hid (Pv w w3 B g cap S l sb):=hp3;clear hp3 HP2;go_wp2;go_ret;exact⟨y3,rfl,hy3,hy3',HP3.out⟩
set_option maxHeartbeats 3200000 in
theorem medianAdjacent(B g cap:Nat)(lv:Value)(cf:Int→Int→Int)(S:Int→Prop)(a b x sb:Nat)(l:List Int)(w W:World)(hc:Ctx w g lv cf S)(h:Pv w W B g cap S l sb)(hx:a<x)(hx':x+1<b)(hb:b≤l.length)(hl:l.length≤1048576) :
  Calls Tryz.prog 204 #[.slice (some ⟨g,0,none⟩) l.length cap,.int .i64 x,.pointer (some ⟨sb,0,none⟩),.func (.func 150) #[lv] #[]] W fun e w'=>∃p:Nat,e=.returned (.int .i64 p)∧a≤p∧p<b∧Pv w w' B g cap S l sb:=by
 obtain⟨u,hu⟩:∃u:Nat,u=x-1:=⟨_,rfl⟩
 obtain⟨v,hv⟩:∃v:Nat,v=x+1:=⟨_,rfl⟩
 have e1:(x:Int)-1=(u:Int):=by omega
 have e2:(x:Int)+1=(v:Int):=by omega
 have hcall:=median B g cap lv cf S a b u x v sb l w W hc h (by omega) (by omega) (by omega) (by omega) (by omega) (by omega) hb hl;clear hc h hu hv;go_enter Tryz.func204,Tryz.ntmps204
 go_wp2_with fail
 refine hcall.mono ?_;rintro e w1 ⟨p,rfl,hp,hp',hp1⟩;have HP1:Hid (Pv w w1 B g cap S l sb):=hp1;clear hp1 hcall;go_wp2;go_ret;exact⟨p,rfl,hp,hp',HP1.out⟩
set_option maxHeartbeats 3200000 in
theorem choosePivot(B g cap:Nat)(lv:Value)(cf:Int→Int→Int)(S:Int→Prop)(a b:Nat)(l:List Int)(w:World)(hc:Ctx w g lv cf S)(h:Memb.Own B w (some ⟨g,0,none⟩) cap l)(hg:Good S l)(hab:a+12<b)(hb:b≤l.length)(hl:l.length≤1048576) :
  Calls Tryz.prog 193 #[.slice (some ⟨g,0,none⟩) l.length cap,.int .i64 a,.int .i64 b,.func (.func 150) #[lv] #[]] w fun e w'=>∃(p:Nat) (t:Int),e=.returned (.tuple #[.int .i64 p,.int .i64 t])∧a≤p∧p<b∧(t=0∨t=1∨t=2)∧Below w.heap.size w w':=by
 obtain⟨n,hn⟩:∃n:Nat,n=b-a:=⟨_,rfl⟩
 obtain⟨q,hq⟩:∃q:Nat,q=n / 4:=⟨_,rfl⟩
 have hba:(b:Int)-(a:Int)=(n:Int):=by omega
 have hn8:(8:Int)≤(n:Int):=by omega
 have hqq:Int.tdiv (n:Int) 4=(q:Int):=by rw [Int.tdiv_eq_ediv_of_nonneg (by omega)];omega
 obtain⟨i,hi⟩:∃i:Nat,i=a+q:=⟨_,rfl⟩
 obtain⟨j,hj⟩:∃j:Nat,j=a+q*2:=⟨_,rfl⟩
 obtain⟨k,hk⟩:∃k:Nat,k=a+q*3:=⟨_,rfl⟩
 have ei:(a:Int)+(q:Int)=(i:Int):=by omega
 have ej:(a:Int)+(q:Int)*2=(j:Int):=by omega
 have ek:(a:Int)+(q:Int)*3=(k:Int):=by omega
 have hij:a<i∧i+1<b∧a<j∧j+1<b∧a<k∧k+1<b:=by omega
 have HP0:Hid (Pv w (w.alloc (.cells #[.int .i64 0] 3)) B g cap S l w.heap.size):=⟨h,hg,(Below.refl _ _).alloc (Nat.le_refl _) _,Nat.le_refl _,by simp,⟨0,by simp⟩,by simp⟩
 have HAD:Hid (∀(x sb:Nat) (V:World),a<x→x+1<b→Pv w V B g cap S l sb→Calls Tryz.prog 204 #[.slice (some ⟨g,0,none⟩) l.length cap,.int .i64 x,.pointer (some ⟨sb,0,none⟩),.func (.func 150) #[lv] #[]] V fun e w'=>∃p:Nat,e=.returned (.int .i64 p)∧a≤p∧p<b∧Pv w w' B g cap S l sb):=fun x sb V h1 h2 hV=>medianAdjacent B g cap lv cf S a b x sb l w V hc hV h1 h2 hb hl
 have HMD:Hid (∀(x y z sb:Nat) (V:World),a≤x→x<b→a≤y→y<b→a≤z→z<b→Pv w V B g cap S l sb→Calls Tryz.prog 205 #[.slice (some ⟨g,0,none⟩) l.length cap,.int .i64 x,.int .i64 y,.int .i64 z,.pointer (some ⟨sb,0,none⟩),.func (.func 150) #[lv] #[]] V fun e w'=>∃p:Nat,e=.returned (.int .i64 p)∧a≤p∧p<b∧Pv w w' B g cap S l sb):=fun x y z sb V h1 h2 h3 h4 h5 h6 hV=>median B g cap lv cf S a b x y z sb l w V hc hV h1 h2 h3 h4 h5 h6 hb hl
 clear hc h hg hn hq hi hj hk;go_enter Tryz.func193,Tryz.ntmps193
 go_upto_region 3 with fail
 generalize w.alloc (.cells #[.int .i64 0] 3)=W0 at HP0 ⊢;generalize w.heap.size=sb at HP0 ⊢;go_upto_if 36 with fail
 go_cut [12,13,14] from 15 to 62 (fun iv jv kv wx=>∃i j k:Nat,iv=.int .i64 i∧jv=.int .i64 j∧kv=.int .i64 k∧(a≤i∧i<b∧a≤j∧j<b∧a≤k∧k<b)∧Hid (Pv w wx B g cap S l sb))
 case first=>
  by_cases h50:50≤n
  ·have h50':(50:Int)≤(n:Int):=by omega
   go_wp2_with fail
   refine(HAD.out i sb _ hij.1 hij.2.1 HP0.out).mono ?_;rintro e w1 ⟨i1,rfl,hi1,hi1',hp1⟩;have HP1:Hid (Pv w w1 B g cap S l sb):=hp1;clear hp1;go_wp2_with fail
   refine(HAD.out j sb _ hij.2.2.1 hij.2.2.2.1 HP1.out).mono ?_;rintro e w2 ⟨j1,rfl,hj1,hj1',hp2⟩;have HP2:Hid (Pv w w2 B g cap S l sb):=hp2;clear hp2 HP1;go_wp2_with fail
   refine(HAD.out k sb _ hij.2.2.2.2.1 hij.2.2.2.2.2 HP2.out).mono ?_;rintro e w3 ⟨k1,rfl,hk1,hk1',hp3⟩;have HP3:Hid (Pv w w3 B g cap S l sb):=hp3;clear hp3 HP2;go_wp2_with fail
   go_meet;exact⟨i1,j1,k1,rfl,rfl,rfl,⟨hi1,hi1',hj1,hj1',hk1,hk1'⟩,HP3⟩
  ·have h50':¬ (50:Int)≤(n:Int):=by omega
   go_wp2_with fail
   go_meet;exact⟨i,j,k,rfl,rfl,rfl,by omega,HP0⟩
 case rest=>
  clear HP0 ei ej ek hij;obtain⟨i,j,k,rfl,rfl,rfl,hr,HP0⟩:=hcut;go_wp2_with fail
  refine(HMD.out i j k sb _ hr.1 hr.2.1 hr.2.2.1 hr.2.2.2.1 hr.2.2.2.2.1 hr.2.2.2.2.2 HP0.out).mono ?_;rintro e w1 ⟨p,rfl,hp,hp',hp1⟩;have HP1:Hid (Pv w w1 B g cap S l sb):=hp1;clear hp1 HP0;obtain⟨c,hcb⟩:=HP1.out.box;by_cases hc0:c=0
  ·subst hc0;go_wp2;go_ret2
   exact⟨p,1,rfl,hp,hp',by omega,HP1.out.bel⟩
  ·by_cases hc12:c=12
   ·subst hc12;go_wp2;go_ret2
    exact⟨p,2,rfl,hp,hp',by omega,HP1.out.bel⟩
   ·go_wp2;go_ret2
    exact⟨p,0,rfl,hp,hp',by omega,HP1.out.bel⟩
set_option maxHeartbeats 3200000 in
theorem reverseRange(B g cap:Nat)(lv:Value)(S:Int→Prop)(a b:Nat)(l:List Int)(w:World)(h:Memb.Own B w (some ⟨g,0,none⟩) cap l)(hg:Good S l)(hab:a<b)(hb:b≤l.length)(hl:l.length≤1048576) :
  Calls Tryz.prog 194 #[.slice (some ⟨g,0,none⟩) l.length cap,.int .i64 a,.int .i64 b,.func (.func 150) #[lv] #[]] w fun e w'=>e=.returned (.tuple #[])∧∃m,St w w' B g cap S a b l m:=by
 have HS:Hid (St w w B g cap S a b l l):=St.start h hg;clear h hg;go_enter Tryz.func194,Tryz.ntmps194
 go_wp2_with fail
 go_loopw [8,9] (fun iv jv wr=>∃(i j:Nat) (m:List Int),iv=.int .i64 i∧jv=.int .i64 j∧a≤i∧j<b∧i≤j+1∧Hid (St w wr B g cap S a b l m)) (fun iv jv _=>(intOf jv+1-intOf iv).toNat)
 case atStart=>exact⟨a,b-1,l,rfl,by rw [show((b-1:Nat):Int)=(b:Int)-1 by omega],by omega,by omega,by omega,HS⟩
 case round=>
  clear HS;obtain⟨i,j,m,rfl,rfl,hi,hj,hij,HM⟩:=hrel;by_cases hlt:i<j
  ·have hlt':(i:Int)<(j:Int):=by omega
   have li:(i:Int)<(l.length:Int):=by omega
   have lj:(j:Int)<(l.length:Int):=by omega
   have cpA:=HM.out.row.cell i (by rw [HM.out.len];omega);have cqA:=HM.out.row.cell j (by rw [HM.out.len];omega);have fpA:=HM.out.row.frozen i;have fqA:=HM.out.row.frozen j;have hneA:¬ i=j:=by omega
   have hnfA:¬ j=i:=by omega
   have HMA:Hid (St w ((wr.setCell ⟨g,i,none⟩ (.int .i64 (m.getD j 0))).setCell ⟨g,j,none⟩ (.int .i64 (m.getD i 0))) B g cap S a b l (swp m i j)):=HM.out.swap (by omega) i j (by omega) (by omega) (by omega) (by omega);generalize m.getD i 0=xpA at cpA HMA;generalize m.getD j 0=xqA at cqA HMA;clear HM;go_wp2_with fail
   go_region
   all_goals go_wp2
   all_goals go_roundw
   case rel=>exact⟨i+1,j-1,_,by go_num,by rw [show((j-1:Nat):Int)=(j:Int)-1 by omega],by omega,by omega,by omega,HMA.out.drewN 1⟩
   case measure=>simp [intOf];omega
  ·have hlt':¬ (i:Int)<(j:Int):=by omega
   go_wp2;go_end0;exact⟨rfl,m,HM.out⟩
end So
end Go.Proofs.YtbkeldfbllhlbaaGreat
