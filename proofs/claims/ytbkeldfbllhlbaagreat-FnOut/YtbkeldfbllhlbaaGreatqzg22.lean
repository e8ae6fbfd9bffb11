/-
 What the program's compare answers of two knots of a lace.
-/
import Derived.Test.YtbkeldfbllhlbaaGreatqzg21
import Derived.Deep.RegionHeld3
set_option linter.unusedVariables false
set_option maxRecDepth 100000
set_option maxHeartbeats 12800000
namespace Go.Proofs.YtbkeldfbllhlbaaGreat
open Go.RowKit
namespace So
def PiPost(w:World)(B g cap:Nat)(S:Int→Prop)(cf:Int→Int→Int)(a b:Nat)(l:List Int)(e:Ending)(w':World):Prop:=∃(t:Bool) (m:List Int),e=.returned (.bool t)∧St w w' B g cap S a b l m∧(t=true→Up cf a b m)
theorem PiPost.mk{w w':World}{B g cap:Nat}{S:Int→Prop}{cf:Int→Int→Int}{a b:Nat}{l:List Int}{e:Ending}(t:Bool)(m:List Int)(he:e=.returned (.bool t))(h:St w w' B g cap S a b l m)(hu:t=true→Up cf a b m):PiPost w B g cap S cf a b l e w':=⟨t,m,he,h,hu⟩
theorem partialInsertion(B g cap:Nat)(lv:Value)(cf:Int→Int→Int)(S:Int→Prop)(a b:Nat)(l:List Int)(w:World)(hc:Ctx w g lv cf S)(h:Memb.Own B w (some ⟨g,0,none⟩) cap l)(hg:Good S l)(hE:Edge cf a b l)(hab:a<b)(hb:b≤l.length)(hl:l.length≤1048576) :
   Calls Tryz.prog 195 #[.slice (some ⟨g,0,none⟩) l.length cap,.int .i64 a,.int .i64 b,.func (.func 150) #[lv] #[]] w (PiPost w B g cap S cf a b l):=by
 have HC:Hid (Ctx w g lv cf S):=hc;have HS:Hid (St w w B g cap S a b l l):=St.start h hg;have HE:Hid (∀(W:World) (m:List Int),St w W B g cap S a b l m→0<a→¬ Lt cf m a (a-1)):=fun W m hM ha=>by
   rcases edge_mix hE hM.mix with e | e
   · omega
   · exact lt_as hc.ord hM.good (by rw [hM.len];omega) (by rw [hM.len];omega) (e a (Nat.le_refl _) hab)
 clear hc h hg hE;go_enter Tryz.func195,Tryz.ntmps195
 go_wp2_with fail
 go_loopw [9,10] (fun iv cv wr=>∃(i c:Nat) (m:List Int),iv=.int .i64 i∧cv=.int .i64 c∧c≤5∧a+1≤i∧i≤b∧Hid (St w wr B g cap S a b l m)∧Hid (Up cf a i m)) (fun _ cv _=>5-(intOf cv).toNat)
 case atStart=>exact⟨a+1,0,l,by go_num,rfl,by omega,by omega,by omega,HS,up_none _ _ (by omega)⟩
 case round=>
   clear HS;obtain⟨i0,c,m,rfl,rfl,hc5,hi0,hib0,HM,HU⟩:=hrel;by_cases hc:c<5
   · have hc':(c:Int)<5:=by omega
     go_upto_block 2 with fail
     go_cut [9] from 19 to 38 (fun iv wx=>∃i:Nat,iv=.int .i64 i∧a+1≤i∧i≤b∧Hid (St w wx B g cap S a b l m)∧Hid (Up cf a i m))
     case first=>
       go_wp2_with fail
       go_loopw [9] (fun iv wx=>∃i:Nat,iv=.int .i64 i∧a+1≤i∧i≤b∧Hid (St w wx B g cap S a b l m)∧Hid (Up cf a i m)) (fun iv _=>b-(intOf iv).toNat)
       case atStart=>exact⟨i0,rfl,by omega,by omega,HM,HU⟩
       case round=>
         clear HM HU;obtain⟨i,rfl,hi,hib,HM,HU⟩:=hrel;by_cases hlt:i<b
         · have hlt':decide ((i:Int)<(b:Int))=true:=by simp;omega
           obtain⟨t,ht⟩:∃t:Nat,t=i-1:=⟨_,rfl⟩
           have eit:(i:Int)-1=(t:Int):=by omega
           have li:(i:Int)<(l.length:Int):=by omega
           have lt':(t:Int)<(l.length:Int):=by omega
           have HT:Hid (t=i-1):=ht;have HUS:Hid (¬ Lt cf m i t→Up cf a (i+1) m):=fun k=>up_snoc HC.out.ord HM.out.good (by omega) (by rw [HM.out.len];omega) HU.out (by rw [← ht];exact k)
           clear ht;have HCAA:Hid (_):=HM.out.asks HC.out (p:=i) (q:=t) (by omega) (by omega);have HLLA:Hid (∀z:Int,z=cf (m.getD i 0) (m.getD t 0)→(Lt cf m i t↔z<0)):=fun z hz=>by rw [hz];exact Iff.rfl
           obtain⟨XA,_,FA,HFA,HGA⟩:=Fam.fam wr;have HMFA:Hid (∀z,St w (FA z) B g cap S a b l m):=fun z=>HM.out.below (HFA.out z)
           have hcpA:∀z,(FA z).cell? ⟨g,i,none⟩=some (.int .i64 (m.getD i 0)):=fun z=>(HMFA.out z).row.cell i (by rw [HM.out.len];omega)
           have hcqA:∀z,(FA z).cell? ⟨g,t,none⟩=some (.int .i64 (m.getD t 0)):=fun z=>(HMFA.out z).row.cell t (by rw [HM.out.len];omega)
           clear HM;generalize m.getD i 0=vpA at hcpA HCAA HLLA;generalize m.getD t 0=vqA at hcqA HCAA HLLA;generalize cf vpA vqA=zA at HCAA HLLA;have HLTA:Hid (Lt cf m i t↔zA<0):=HLLA.out _ rfl;clear HLLA;go_wp2_with fail
           refine Fam.region (F:=FA) (by kernel_rfl) (by kernel_rfl) (HGA.out _ (Below.refl _ wr).drew) ?_
           repeat (go_big_quiet_step (first
             | (go_at_call 150;exact(HCAA.out _ (HFA.out _)).mono fun _ _ h=>⟨h.1,HGA.out _ ((HFA.out _).trans (h.2.mono (HFA.out _).size))⟩)))
           refine wpQuiet_nil ?_;intro w2 hw2;obtain⟨zzA,rfl⟩:=hw2;have HM:Hid (St w (FA zzA) B g cap S a b l m):=HMFA.out zzA;clear hcpA hcqA HMFA HCAA HGA HFA;generalize FA zzA=VA at HM ⊢;by_cases hz:zA<0
           · rw [show(!decide (zA<0))=false by simp [hz]];clear HLTA HUS;go_wp2_with fail
             go_meet;exact⟨i,rfl,hi,hib,HM,HU⟩
           · rw [show(!decide (zA<0))=true by simp [hz]];have HU2:Hid (Up cf a (i+1) m):=HUS.out fun k=>hz (HLTA.out.1 k)
             clear HLTA HUS HU;go_wp2;go_roundw
             case rel=>exact⟨i+1,by go_num,by omega,by omega,HM,HU2⟩
             case measure=>simp [intOf];omega
         · have hlt':decide ((i:Int)<(b:Int))=false:=by simp;omega
           have HMF:Hid (∀n,St w (wr.drewN n) B g cap S a b l m):=fun n=>HM.out.drewN n
           clear HM;go_wp2_with fail
           go_quiet (fail)
           go_wp2_with fail
           go_meet;exact⟨i,rfl,hi,hib,HMF.out _,HU⟩
     case rest=>
       clear HM HU;obtain⟨i,rfl,hi,hib,HM,HU⟩:=hcut;by_cases hieb:i=b
       · subst hieb;go_wp2;go_ret;exact PiPost.mk true m rfl HM.out fun _=>HU.out
       · have hieb':¬ (i:Int)=(b:Int):=by omega
         obtain⟨n,hn⟩:∃n:Nat,n=b-a:=⟨_,rfl⟩
         have hba:(b:Int)-(a:Int)=(n:Int):=by omega
         clear hn;by_cases h50:n<50
         · have h50':(n:Int)<50:=by omega
           go_wp2;go_ret;exact PiPost.mk false m rfl HM.out fun h=>Bool.noConfusion h
         · have h50':¬ (n:Int)<50:=by omega
           obtain⟨t,ht⟩:∃t:Nat,t=i-1:=⟨_,rfl⟩
           have eit:(i:Int)-1=(t:Int):=by omega
           have li:(i:Int)<(l.length:Int):=by omega
           have lt':(t:Int)<(l.length:Int):=by omega
           have hit:i=t+1:=by omega
           have HUT:Hid (Up cf a t (swp m i t)):=by
             refine up_eq (fun p q h1 h2 h3=>HU.out p q h1 h2 (by omega)) fun p h1 h2=>?_
             rw [swp_get m i t p (by rw [HM.out.len];omega) (by rw [HM.out.len];omega),if_neg (by omega),if_neg (by omega)]
           have HIT:Hid (i=t+1):=hit;have hti:t<i∧a≤t:=by omega
           clear HU ht hit;go_upto_region 11 with fail
           go_cut [9] from 15 to 140 (fun iv wx=>iv=.int .i64 i∧Hid (St w wx B g cap S a b l (swp m i t)))
           case first=>
             have cpC:=HM.out.row.cell i (by rw [HM.out.len];omega);have cqC:=HM.out.row.cell t (by rw [HM.out.len];omega);have fpC:=HM.out.row.frozen i;have fqC:=HM.out.row.frozen t;have hneC:¬ i=t:=by omega
             have hnfC:¬ t=i:=by omega
             have HMC:Hid (St w ((wc.setCell ⟨g,i,none⟩ (.int .i64 (m.getD t 0))).setCell ⟨g,t,none⟩ (.int .i64 (m.getD i 0))) B g cap S a b l (swp m i t)):=HM.out.swap (by omega) i t (by omega) (by omega) (by omega) (by omega);generalize m.getD i 0=xpC at cpC HMC;generalize m.getD t 0=xqC at cqC HMC;clear HM;go_wp2_with fail
             go_region
             all_goals go_wp2_with fail
             all_goals go_meet
             all_goals exact⟨rfl,HMC.out.drewN 1⟩
           case rest=>
             clear HM;obtain⟨rfl,HM⟩:=hcut;obtain⟨m1,hm1⟩:∃m1,m1=swp m i t:=⟨_,rfl⟩
             rw [← hm1] at HM HUT;clear hm1;obtain⟨d,hd⟩:∃d:Nat,d=i-a:=⟨_,rfl⟩
             have hia:(i:Int)-(a:Int)=(d:Int):=by omega
             have hdi:d+a=i:=by omega
             have HDI:Hid (d+a=i):=hdi;clear hd hdi;go_upto_if 65 with fail
             go_cut [9] from 15 to 140 (fun iv wx=>∃m2:List Int,iv=.int .i64 i∧Hid (St w wx B g cap S a b l m2)∧Hid (Up cf a i m2))
             case first=>
               by_cases hd2:2≤d
               · have hd2':(2:Int)≤(d:Int):=by omega
                 have HN:Hid (Near cf a i t m1):=by show Near _ _ _ _ _;rw [HIT.out];exact near_start HUT.out
                 clear HUT;go_wp2_with fail
                 go_loopw [11] (fun jv wr=>∃(j:Nat) (m2:List Int),jv=.int .i64 j∧a≤j∧j<i∧Hid (St w wr B g cap S a b l m2)∧Hid (Near cf a i j m2)) (fun jv _=>(intOf jv).toNat)
                 case atStart=>exact⟨t,m1,rfl,by omega,by omega,HM,HN⟩
                 case round=>
                   clear HM HN;clear eit lt';obtain⟨j,m2,rfl,hj,hji,HM,HN⟩:=hrel;by_cases hj1:1≤j
                   · have hj1':(1:Int)≤(j:Int):=by omega
                     obtain⟨s,hs⟩:∃s:Nat,s=j-1:=⟨_,rfl⟩
                     have ejs:(j:Int)-1=(s:Int):=by omega
                     have lj:(j:Int)<(l.length:Int):=by omega
                     have ls:(s:Int)<(l.length:Int):=by omega
                     have HSJ:Hid (s=j-1):=hs;clear hs;have HCAD:Hid (_):=HM.out.asks HC.out (p:=j) (q:=s) (by omega) (by omega);have HLLD:Hid (∀z:Int,z=cf (m2.getD j 0) (m2.getD s 0)→(Lt cf m2 j s↔z<0)):=fun z hz=>by rw [hz];exact Iff.rfl
                     obtain⟨XD,_,FD,HFD,HGD⟩:=Fam.fam wr;have HMFD:Hid (∀z,St w (FD z) B g cap S a b l m2):=fun z=>HM.out.below (HFD.out z)
                     have hcpD:∀z,(FD z).cell? ⟨g,j,none⟩=some (.int .i64 (m2.getD j 0)):=fun z=>(HMFD.out z).row.cell j (by rw [HM.out.len];omega)
                     have hcqD:∀z,(FD z).cell? ⟨g,s,none⟩=some (.int .i64 (m2.getD s 0)):=fun z=>(HMFD.out z).row.cell s (by rw [HM.out.len];omega)
                     clear HM;generalize m2.getD j 0=vpD at hcpD HCAD HLLD;generalize m2.getD s 0=vqD at hcqD HCAD HLLD;generalize cf vpD vqD=zD at HCAD HLLD;have HLTD:Hid (Lt cf m2 j s↔zD<0):=HLLD.out _ rfl;clear HLLD;go_wp2_with fail
                     refine Fam.region (F:=FD) (by kernel_rfl) (by kernel_rfl) (HGD.out _ (Below.refl _ wr).drew) ?_
                     repeat (go_big_quiet_step (first
                       | (go_at_call 150;exact(HCAD.out _ (HFD.out _)).mono fun _ _ h=>⟨h.1,HGD.out _ ((HFD.out _).trans (h.2.mono (HFD.out _).size))⟩)))
                     refine wpQuiet_nil ?_;intro w2 hw2;obtain⟨zzD,rfl⟩:=hw2;have HM:Hid (St w (FD zzD) B g cap S a b l m2):=HMFD.out zzD;clear hcpD hcqD HMFD HCAD HGD HFD;generalize FD zzD=VD at HM ⊢;by_cases hz:zD<0
                     · rw [show(!decide (zD<0))=false by simp [hz]];have hlt:Lt cf m2 j (j-1):=by rw [← HSJ.out];exact HLTD.out.2 hz
                       have haj:a<j:=by
                         apply Classical.byContradiction;intro hn;obtain rfl:a=j:=by omega
                         exact HE.out _ _ HM.out (by omega) hlt
                       have hsj:=HSJ.out;have HN2:Hid (Near cf a i s (swp m2 j s)):=by show Near _ _ _ _ _;rw [hsj];exact near_swap (by rw [HM.out.len];omega) haj hji HN.out hlt
                       have hsa:a≤s∧s<j:=by omega
                       clear hsj hlt HN HLTD HSJ;have cpE:=HM.out.row.cell j (by rw [HM.out.len];omega);have cqE:=HM.out.row.cell s (by rw [HM.out.len];omega);have fpE:=HM.out.row.frozen j;have fqE:=HM.out.row.frozen s;have hneE:¬ j=s:=by omega
                       have hnfE:¬ s=j:=by omega
                       have HME:Hid (St w ((VD.setCell ⟨g,j,none⟩ (.int .i64 (m2.getD s 0))).setCell ⟨g,s,none⟩ (.int .i64 (m2.getD j 0))) B g cap S a b l (swp m2 j s)):=HM.out.swap (by omega) j s (by omega) (by omega) (by omega) (by omega);generalize m2.getD j 0=xpE at cpE HME;generalize m2.getD s 0=xqE at cqE HME;clear HM;go_wp2_with fail
                       go_region
                       all_goals go_wp2
                       all_goals go_roundw
                       case rel=>exact⟨s,_,rfl,by omega,by omega,HME.out.drewN 1,HN2⟩
                       case measure=>simp [intOf];omega
                     · rw [show(!decide (zD<0))=true by simp [hz]];have HU:Hid (Up cf a i m2):=near_end HC.out.ord HM.out.good (by rw [HM.out.len];omega) hji HN.out (.inr (by rw [← HSJ.out];exact fun k=>hz (HLTD.out.1 k)));clear HLTD HSJ HN;go_wp2_with fail
                       go_meet;exact⟨m2,rfl,HM,HU⟩
                   · have hj1':¬ (1:Int)≤(j:Int):=by omega
                     have HU:Hid (Up cf a i m2):=near_end HC.out.ord HM.out.good (by rw [HM.out.len];omega) hji HN.out (.inl (by omega));clear HN;go_wp2_with fail
                     go_meet;exact⟨m2,rfl,HM,HU⟩
               · have hd2':¬ (2:Int)≤(d:Int):=by omega
                 have HU:Hid (Up cf a i m1):=up_none _ _ (by have:=HDI.out;omega);go_wp2_with fail
                 go_meet;exact⟨m1,rfl,HM,HU⟩
             case rest=>
               clear HM HUT hia eit lt' hti HIT HDI;obtain⟨m2,rfl,HM,HU⟩:=hcut;obtain⟨d,hd⟩:∃d:Nat,d=b-i:=⟨_,rfl⟩
               have hbi:(b:Int)-(i:Int)=(d:Int):=by omega
               clear hd;by_cases hd2:2≤d
               · have hd2':(2:Int)≤(d:Int):=by omega
                 go_wp2_with fail
                 go_loopw [12] (fun jv wr=>∃(j:Nat) (m2:List Int),jv=.int .i64 j∧i+1≤j∧j≤b∧Hid (St w wr B g cap S a b l m2)∧Hid (Up cf a i m2)) (fun jv _=>b-(intOf jv).toNat)
                 case atStart=>exact⟨i+1,m2,by go_num,by omega,by omega,HM,HU⟩
                 case round=>
                   clear HM HU;obtain⟨j,m2,rfl,hj,hji,HM,HU⟩:=hrel;by_cases hjb:j<b
                   · have hjb':(j:Int)<(b:Int):=by omega
                     obtain⟨s,hs⟩:∃s:Nat,s=j-1:=⟨_,rfl⟩
                     have ejs:(j:Int)-1=(s:Int):=by omega
                     have lj:(j:Int)<(l.length:Int):=by omega
                     have ls:(s:Int)<(l.length:Int):=by omega
                     have hsa:i≤s∧s<j:=by omega
                     have HU2:Hid (Up cf a i (swp m2 j s)):=up_eq HU.out fun p h1 h2=>by rw [swp_get m2 j s p (by rw [HM.out.len];omega) (by rw [HM.out.len];omega),if_neg (by omega),if_neg (by omega)]
                     clear hs;have HCAF:Hid (_):=HM.out.asks HC.out (p:=j) (q:=s) (by omega) (by omega);have HLLF:Hid (∀z:Int,z=cf (m2.getD j 0) (m2.getD s 0)→(Lt cf m2 j s↔z<0)):=fun z hz=>by rw [hz];exact Iff.rfl
                     obtain⟨XF,_,FF,HFF,HGF⟩:=Fam.fam wr;have HMFF:Hid (∀z,St w (FF z) B g cap S a b l m2):=fun z=>HM.out.below (HFF.out z)
                     have hcpF:∀z,(FF z).cell? ⟨g,j,none⟩=some (.int .i64 (m2.getD j 0)):=fun z=>(HMFF.out z).row.cell j (by rw [HM.out.len];omega)
                     have hcqF:∀z,(FF z).cell? ⟨g,s,none⟩=some (.int .i64 (m2.getD s 0)):=fun z=>(HMFF.out z).row.cell s (by rw [HM.out.len];omega)
                     clear HM;generalize m2.getD j 0=vpF at hcpF HCAF HLLF;generalize m2.getD s 0=vqF at hcqF HCAF HLLF;generalize cf vpF vqF=zF at HCAF HLLF;have HLTF:Hid (Lt cf m2 j s↔zF<0):=HLLF.out _ rfl;clear HLLF;go_wp2_with fail
                     refine Fam.region (F:=FF) (by kernel_rfl) (by kernel_rfl) (HGF.out _ (Below.refl _ wr).drew) ?_
                     repeat (go_big_quiet_step (first
                       | (go_at_call 150;exact(HCAF.out _ (HFF.out _)).mono fun _ _ h=>⟨h.1,HGF.out _ ((HFF.out _).trans (h.2.mono (HFF.out _).size))⟩)))
                     refine wpQuiet_nil ?_;intro w2 hw2;obtain⟨zzF,rfl⟩:=hw2;have HM:Hid (St w (FF zzF) B g cap S a b l m2):=HMFF.out zzF;clear hcpF hcqF HMFF HCAF HGF HFF;generalize FF zzF=VF at HM ⊢;by_cases hz:zF<0
                     · rw [show(!decide (zF<0))=false by simp [hz]];clear HLTF HU;have cpG:=HM.out.row.cell j (by rw [HM.out.len];omega);have cqG:=HM.out.row.cell s (by rw [HM.out.len];omega);have fpG:=HM.out.row.frozen j;have fqG:=HM.out.row.frozen s;have hneG:¬ j=s:=by omega
                       have hnfG:¬ s=j:=by omega
                       have HMG:Hid (St w ((VF.setCell ⟨g,j,none⟩ (.int .i64 (m2.getD s 0))).setCell ⟨g,s,none⟩ (.int .i64 (m2.getD j 0))) B g cap S a b l (swp m2 j s)):=HM.out.swap (by omega) j s (by omega) (by omega) (by omega) (by omega);generalize m2.getD j 0=xpG at cpG HMG;generalize m2.getD s 0=xqG at cqG HMG;clear HM;go_wp2_with fail
                       go_region
                       all_goals go_wp2
                       all_goals go_roundw
                       case rel=>exact⟨j+1,_,by go_num,by omega,by omega,HMG.out.drewN 1,HU2⟩
                       case measure=>simp [intOf];omega
                     · rw [show(!decide (zF<0))=true by simp [hz]];clear HLTF HU2;go_wp2;go_roundw
                       case rel=>exact⟨i,c+1,m2,rfl,by go_num,by omega,by omega,by omega,HM,HU⟩
                       case measure=>simp [intOf];omega
                   · have hjb':¬ (j:Int)<(b:Int):=by omega
                     go_wp2;go_roundw
                     case rel=>exact⟨i,c+1,m2,rfl,by go_num,by omega,by omega,by omega,HM,HU⟩
                     case measure=>simp [intOf];omega
               · have hd2':¬ (2:Int)≤(d:Int):=by omega
                 go_wp2;go_roundw
                 case rel=>exact⟨i,c+1,m2,rfl,by go_num,by omega,by omega,by omega,HM,HU⟩
                 case measure=>simp [intOf];omega
   · have hc':¬ (c:Int)<5:=by omega
     go_wp2;go_ret;exact PiPost.mk false m rfl HM.out fun h=>Bool.noConfusion h
end So
namespace So
structure Pq(w wr:World)(B g cap:Nat)(cf:Int→Int→Int)(S:Int→Prop)(a b c d:Nat)(l m:List Int):Prop where
 st:St w wr B g cap S a b l m
 rest:Rest cf a b c d m
 edge:Edge cf c d m
 ca:a≤c
 db:d≤b
theorem Pq.below{w wr wr':World}{B g cap:Nat}{cf:Int→Int→Int}{S:Int→Prop}{a b c d:Nat}{l m:List Int}(h:Pq w wr B g cap cf S a b c d l m)(hb:Below wr.heap.size wr wr'):Pq w wr' B g cap cf S a b c d l m:=⟨h.st.below hb,h.rest,h.edge,h.ca,h.db⟩
theorem Pq.call{w wr w2:World}{B g cap:Nat}{cf:Int→Int→Int}{S:Int→Prop}{a b c d:Nat}{l m k:List Int}(h:Pq w wr B g cap cf S a b c d l m)(hk:St wr w2 B g cap S c d m k):Pq w w2 B g cap cf S a b c d l k:=
 ⟨h.st.call h.ca h.db hk,rest_mix h.rest h.ca h.db hk.mix,edge_mix h.edge hk.mix,h.ca,h.db⟩
theorem Pq.drewN{w wr:World}{B g cap:Nat}{cf:Int→Int→Int}{S:Int→Prop}{a b c d:Nat}{l m:List Int}(h:Pq w wr B g cap cf S a b c d l m)(n:Nat):Pq w (wr.drewN n) B g cap cf S a b c d l m:=⟨h.st.drewN n,h.rest,h.edge,h.ca,h.db⟩
def Sorts(B g cap:Nat)(lv:Value)(cf:Int→Int→Int)(S:Int→Prop)(N:Nat):Prop:=
 ∀(a b lim:Nat) (l:List Int) (w:World),b-a<N→Ctx w g lv cf S→Memb.Own B w (some ⟨g,0,none⟩) cap l→Good S l→Edge cf a b l→a≤b→b≤l.length→l.length≤1048576→lim≤64 →
  Calls Tryz.prog 181 #[.slice (some ⟨g,0,none⟩) l.length cap,.int .i64 a,.int .i64 b,.int .i64 lim,.func (.func 150) #[lv] #[]] w fun e w'=>e=.returned (.tuple #[])∧∃m,St w w' B g cap S a b l m∧Up cf a b m
theorem pdq_step(B g cap:Nat)(lv:Value)(cf:Int→Int→Int)(S:Int→Prop)(N:Nat)(ih:Sorts B g cap lv cf S N):Sorts B g cap lv cf S (N+1):=by
 intro a b lim l w hN hc h hg hE hab hb hl hlim;have HC:Hid (Ctx w g lv cf S):=hc;have HQ0:Hid (Pq w w B g cap cf S a b a b l l):=⟨St.start h hg,fun p q h1 h2 h3 h4=>absurd ⟨h1,h3⟩ h4,hE,Nat.le_refl _,Nat.le_refl _⟩
 have HIH:Hid (∀(c d mid1 mid2 lim:Nat) (m:List Int) (wr:World),Pq w wr B g cap cf S a b c d l m→mid2-mid1<d-c→Edge cf mid1 mid2 m→mid1≤mid2→mid2≤b→lim≤64→Calls Tryz.prog 181 #[.slice (some ⟨g,0,none⟩) l.length cap,.int .i64 mid1,.int .i64 mid2,.int .i64 lim,.func (.func 150) #[lv] #[]] wr fun e w'=>e=.returned (.tuple #[])∧∃k,St wr w' B g cap S mid1 mid2 m k∧Up cf mid1 mid2 k):=fun c d x y lim m wr hp h1 h2 h3 h4 h5=>by
   have:=ih x y lim m wr (by have:=hp.ca;have:=hp.db;omega) (hc.later hp.st.row.gr) hp.st.row.own hp.st.good h2 h3 (by rw [hp.st.len];omega) (by rw [hp.st.len];omega) h5;rwa [hp.st.len] at this
 clear ih hc h hg hE hN;go_enter Tryz.func181,Tryz.ntmps181
 go_wp2_with fail
 go_loopw [1,2,3,10,11] (fun av bv mv tv uv wr=>∃(c d lim:Nat) (t u:Bool) (m:List Int),av=.int .i64 c∧bv=.int .i64 d∧mv=.int .i64 lim∧tv=.bool t∧uv=.bool u∧c≤d∧d≤b∧lim≤64∧Hid (Pq w wr B g cap cf S a b c d l m)) (fun av bv _ _ _ _=>(intOf bv-intOf av).toNat)
 case atStart=>exact⟨a,b,lim,true,true,l,rfl,rfl,rfl,rfl,rfl,hab,Nat.le_refl _,hlim,HQ0⟩
 case round=>
   clear HQ0 hlim;obtain⟨c,d,lim,t,u,m,rfl,rfl,rfl,rfl,rfl,hcd,hdb,hlim,HQ⟩:=hrel;obtain⟨n,hn⟩:∃n:Nat,n=d-c:=⟨_,rfl⟩
   have hdc:(d:Int)-(c:Int)=(n:Int):=by omega
   have HND:Hid (c+n=d):=by show c+n=d;omega
   have hca:=HQ.out.ca;clear hn;by_cases h12:n≤12
   · have h12':(n:Int)≤12:=by omega
     have hcall:=insertion B g cap lv cf S c d m wr (HC.out.later HQ.out.st.row.gr) HQ.out.st.row.own HQ.out.st.good hcd (by rw [HQ.out.st.len];omega) (by rw [HQ.out.st.len];omega);rw [HQ.out.st.len] at hcall;go_wp2_with fail
     refine hcall.mono ?_;rintro e w1 ⟨rfl,k,hk,hu⟩;have HQ1:Hid (Pq w w1 B g cap cf S a b c d l k):=HQ.out.call hk;have HU:Hid (Up cf c d k):=hu;clear hcall hk hu HQ;go_wp2_with fail
     refine bodyPost_ret (results_none rfl _ _ _) rfl ?_;exact⟨rfl,k,HQ1.out.st,rest_up HQ1.out.rest HU.out⟩
   · have h12':¬ (n:Int)≤12:=by omega
     have hc12:c+12<d:=by have:=HND.out;omega
     by_cases hlim0:lim=0
     · subst hlim0;have hcall:=heapSort B g cap lv cf S c d m wr (HC.out.later HQ.out.st.row.gr) HQ.out.st.row.own HQ.out.st.good (by omega) (by rw [HQ.out.st.len];omega) (by rw [HQ.out.st.len];omega);rw [HQ.out.st.len] at hcall;rw [show((0:Nat):Int)=0 from rfl];go_wp2_with fail
       refine hcall.mono ?_;rintro e w1 ⟨rfl,k,hk,hu⟩;have HQ1:Hid (Pq w w1 B g cap cf S a b c d l k):=HQ.out.call hk;have HU:Hid (Up cf c d k):=hu;clear hcall hk hu HQ;go_wp2_with fail
       refine bodyPost_ret (results_none rfl _ _ _) rfl ?_;exact⟨rfl,k,HQ1.out.st,rest_up HQ1.out.rest HU.out⟩
     · have hlim0':¬ (lim:Int)=0:=by omega
       go_upto_region 7 with fail
       go_cut [39] from 21 to 147 (fun tv wx=>tv=.bool (!t)∧Hid (Pq w wx B g cap cf S a b c d l m))
       case first=>
         go_wp2_with fail
         go_meet;exact⟨rfl,HQ⟩
       case rest=>
         clear HQ;obtain⟨rfl,HQ⟩:=hcut;go_upto_if 39 with fail
         go_cut [3] from 21 to 147 (fun mv wx=>∃(lim:Nat) (m:List Int),mv=.int .i64 lim∧lim≤64∧Hid (Pq w wx B g cap cf S a b c d l m))
         case first=>
           cases t
           · have hcall:=breakPatterns B g cap lv S c d m wc HQ.out.st.row.own HQ.out.st.good hc12 (by rw [HQ.out.st.len];omega) (by rw [HQ.out.st.len];omega);rw [HQ.out.st.len] at hcall;rw [show(!false)=true from rfl];go_wp2_with fail
             refine hcall.mono ?_;rintro e w1 ⟨rfl,k,hk⟩;have HQ1:Hid (Pq w w1 B g cap cf S a b c d l k):=HQ.out.call hk;clear hcall hk HQ;go_wp2_with fail
             go_meet;exact⟨lim-1,k,by rw [show((lim-1:Nat):Int)=(lim:Int)-1 by omega],by omega,HQ1⟩
           · rw [show(!true)=false from rfl];go_wp2_with fail
             go_meet;exact⟨lim,m,rfl,hlim,HQ⟩
         case rest=>
           clear HQ hlim0 hlim0' hlim;obtain⟨lim,m,rfl,hlim,HQ⟩:=hcut;have hcall:=choosePivot B g cap lv cf S c d m wc (HC.out.later HQ.out.st.row.gr) HQ.out.st.row.own HQ.out.st.good hc12 (by rw [HQ.out.st.len];omega) (by rw [HQ.out.st.len];omega);rw [HQ.out.st.len] at hcall;go_wp2_with fail
           refine hcall.mono ?_;rintro e w1 ⟨p,hint,rfl,hp,hp',hh,hb1⟩;have HQ1:Hid (Pq w w1 B g cap cf S a b c d l m):=HQ.out.below hb1;clear hcall hb1 HQ;go_upto_if 56 with fail
           go_cut [13,14] from 21 to 147 (fun pv hv wx=>∃(p:Nat) (hint:Int) (m:List Int),pv=.int .i64 p∧hv=.int .i64 hint∧c≤p∧p<d∧(hint=0∨hint=1)∧Hid (Pq w wx B g cap cf S a b c d l m))
           case first=>
             by_cases hh2:hint=2
             · subst hh2;have hcall:=reverseRange B g cap lv S c d m w1 HQ1.out.st.row.own HQ1.out.st.good (by omega) (by rw [HQ1.out.st.len];omega) (by rw [HQ1.out.st.len];omega);rw [HQ1.out.st.len] at hcall;go_wp2_with fail
               refine hcall.mono ?_;rintro e w2 ⟨rfl,k,hk⟩;have HQ2:Hid (Pq w w2 B g cap cf S a b c d l k):=HQ1.out.call hk;clear hcall hk HQ1;go_wp2_with fail
               go_meet;exact⟨d-1-(p-c),1,k,by rw [show((d-1-(p-c):Nat):Int)=(d:Int)-1-((p:Int)-(c:Int)) by omega],rfl,by omega,by omega,.inr rfl,HQ2⟩
             · go_wp2_with fail
               go_meet;exact⟨p,hint,m,rfl,rfl,hp,hp',by omega,HQ1⟩
           case rest=>
             clear HQ1 hp hp' hh;obtain⟨p,hint,m,rfl,rfl,hp,hp',hh,HQ⟩:=hcut;go_upto_region 15 with fail
             go_cut [75] from 21 to 147 (fun sv wx=>∃s:Bool,sv=.bool s∧Hid (Pq w wx B g cap cf S a b c d l m))
             case first=>
               cases t <;> cases u <;> rcases hh with rfl | rfl
               all_goals go_wp2_with fail
               all_goals go_meet
               all_goals exact⟨_,rfl,HQ⟩
             case rest=>
               clear HQ hh;obtain⟨s,rfl,HQ⟩:=hcut;go_upto_if 75 with fail
               go_cut [13] from 21 to 147 (fun pv wx=>∃m:List Int,pv=.int .i64 p∧Hid (Pq w wx B g cap cf S a b c d l m))
               case first=>
                 cases s
                 · go_wp2_with fail
                   go_meet;exact⟨m,rfl,HQ⟩
                 · have hcall:=partialInsertion B g cap lv cf S c d m wc (HC.out.later HQ.out.st.row.gr) HQ.out.st.row.own HQ.out.st.good HQ.out.edge (by omega) (by rw [HQ.out.st.len];omega) (by rw [HQ.out.st.len];omega);rw [HQ.out.st.len] at hcall;go_wp2_with fail
                   refine hcall.mono ?_;rintro e w1 ⟨t1,k,rfl,hk,hu⟩;have HQ1:Hid (Pq w w1 B g cap cf S a b c d l k):=HQ.out.call hk;have HU:Hid (t1=true→Up cf c d k):=hu;clear hcall hk hu HQ
                   cases t1
                   · go_wp2_with fail
                     go_meet;exact⟨k,rfl,HQ1⟩
                   · go_wp2_with fail
                     refine bodyPost_ret (results_none rfl _ _ _) rfl ?_;exact⟨rfl,k,HQ1.out.st,rest_up HQ1.out.rest (by first | exact HU.out rfl | exact HU.out trivial)⟩
               case rest=>
                 clear HQ;obtain⟨m,rfl,HQ⟩:=hcut;have lp:(p:Int)<(l.length:Int):=by omega
                 go_upto_region 17 with fail
                 go_cut [97] from 21 to 147 (fun sv wx=>sv=.bool false∧Hid (Pq w wx B g cap cf S a b c d l m))
                 case first=>
                   by_cases hc0:0<c
                   · have hc0':decide ((0:Int)<(c:Int))=true:=by simp;omega
                     obtain⟨q,hq⟩:∃q:Nat,q=c-1:=⟨_,rfl⟩
                     have ecq:(c:Int)-1=(q:Int):=by omega
                     have lq:(q:Int)<(l.length:Int):=by omega
                     have HLE:Hid (Lt cf m q p):=by
                       rcases HQ.out.edge with e | e
                       · omega
                       · rw [hq];exact e p hp hp'
                     have HM:Hid (St w wc B g cap S a b l m):=HQ.out.st;have HR:Hid (Rest cf a b c d m∧Edge cf c d m):=⟨HQ.out.rest,HQ.out.edge⟩
                     clear HQ hq;have HCAA:Hid (_):=HM.out.asks HC.out (p:=q) (q:=p) (by omega) (by omega);have HLLA:Hid (∀z:Int,z=cf (m.getD q 0) (m.getD p 0)→(Lt cf m q p↔z<0)):=fun z hz=>by rw [hz];exact Iff.rfl
                     obtain⟨XA,_,FA,HFA,HGA⟩:=Fam.fam wc;have HMFA:Hid (∀z,St w (FA z) B g cap S a b l m):=fun z=>HM.out.below (HFA.out z)
                     have hcpA:∀z,(FA z).cell? ⟨g,q,none⟩=some (.int .i64 (m.getD q 0)):=fun z=>(HMFA.out z).row.cell q (by rw [HM.out.len];omega)
                     have hcqA:∀z,(FA z).cell? ⟨g,p,none⟩=some (.int .i64 (m.getD p 0)):=fun z=>(HMFA.out z).row.cell p (by rw [HM.out.len];omega)
                     clear HM;generalize m.getD q 0=vpA at hcpA HCAA HLLA;generalize m.getD p 0=vqA at hcqA HCAA HLLA;generalize cf vpA vqA=zA at HCAA HLLA;have HLTA:Hid (Lt cf m q p↔zA<0):=HLLA.out _ rfl;clear HLLA;go_wp2_with fail
                     refine Fam.region (F:=FA) (by kernel_rfl) (by kernel_rfl) (HGA.out _ (Below.refl _ wc).drew) ?_
                     repeat (go_big_quiet_step (first
                       | (go_at_call 150;exact(HCAA.out _ (HFA.out _)).mono fun _ _ h=>⟨h.1,HGA.out _ ((HFA.out _).trans (h.2.mono (HFA.out _).size))⟩)))
                     refine wpQuiet_nil ?_;intro w2 hw2;obtain⟨zzA,rfl⟩:=hw2;have HM:Hid (St w (FA zzA) B g cap S a b l m):=HMFA.out zzA;clear hcpA hcqA HMFA HCAA HGA HFA;generalize FA zzA=VA at HM ⊢;have hz:=HLTA.out.1 HLE.out;rw [show(!decide (zA<0))=false by simp [hz]];have HQ2:Hid (Pq w VA B g cap cf S a b c d l m):=⟨HM.out,HR.out.1,HR.out.2,hca,hdb⟩
                     clear HLTA HLE HR HM;go_wp2_with fail
                     go_meet;exact⟨rfl,HQ2⟩
                   · have hc0':decide ((0:Int)<(c:Int))=false:=by simp;omega
                     have HMF:Hid (∀n,Pq w (wc.drewN n) B g cap cf S a b c d l m):=fun n=>HQ.out.drewN n
                     clear HQ;go_wp2_with fail
                     go_quiet (fail)
                     go_wp2_with fail
                     go_meet;exact⟨rfl,HMF.out _⟩
                 case rest=>
                   clear HQ;obtain⟨rfl,HQ⟩:=hcut;have hcall:=partition B g cap lv cf S c d p m wc (HC.out.later HQ.out.st.row.gr) HQ.out.st.row.own HQ.out.st.good hp hp' (by rw [HQ.out.st.len];omega) (by rw [HQ.out.st.len];omega);rw [HQ.out.st.len] at hcall;go_wp2_with fail
                   refine hcall.mono ?_;rintro e w1 ⟨mid,t1,k,rfl,hmid,hmid',hk,hct⟩;have HQ1:Hid (Pq w w1 B g cap cf S a b c d l k):=HQ.out.call hk;have HCT:Hid (Cut cf c d mid k):=hct;clear hcall hk hct HQ;by_cases hlr:(mid:Int)-(c:Int)<(d:Int)-(mid:Int)
                   · have hcall:=HIH.out c d c mid lim k w1 HQ1.out (by omega) (edge_sub HQ1.out.edge (by omega)) (by omega) (by omega) hlim;go_wp2_with fail
                     refine hcall.mono ?_;rintro e w2 ⟨rfl,k2,hk2,hu2⟩;have HQ2:Hid (Pq w w2 B g cap cf S a b (mid+1) d l k2):=by
                       have h1:=cut_left HC.out.ord hk2.good hdb (by rw [hk2.len,HQ1.out.st.len];omega) hmid hmid' hca HQ1.out.rest HCT.out hk2.mix hu2;exact⟨HQ1.out.st.call (by omega) (by omega) hk2,h1.1,h1.2,by omega,hdb⟩
                     clear hcall hk2 hu2 HQ1 HCT;go_wp2_with fail
                     go_roundw
                     case rel=>exact⟨mid+1,d,lim,_,t1,k2,by go_num,rfl,rfl,rfl,rfl,by omega,hdb,hlim,HQ2⟩
                     case measure=>simp [intOf];omega
                   · obtain⟨y,hy⟩:∃y:Nat,y=mid+1:=⟨_,rfl⟩
                     have ey:(mid:Int)+1=(y:Int):=by omega
                     have hcall:=HIH.out c d y d lim k w1 HQ1.out (by omega) (by rw [hy];exact .inr fun p p1 p2=>by rw [Nat.add_sub_cancel];exact HCT.out.hi p (by omega) p2) (by omega) (by omega) hlim;have HY:Hid (y=mid+1):=hy;clear hy;go_wp2_with fail
                     refine hcall.mono ?_;rintro e w2 ⟨rfl,k2,hk2,hu2⟩;have HQ2:Hid (Pq w w2 B g cap cf S a b c mid l k2):=by
                       rw [HY.out] at hk2 hu2;have h1:=cut_right HC.out.ord hk2.good hdb (by rw [hk2.len,HQ1.out.st.len];omega) hmid hmid' hca HQ1.out.rest HQ1.out.edge HCT.out hk2.mix hu2;exact⟨HQ1.out.st.call (by omega) (by omega) hk2,h1.1,h1.2,hca,by omega⟩
                     clear hcall hk2 hu2 HQ1 HCT;go_wp2_with fail
                     go_roundw
                     case rel=>exact⟨c,mid,lim,_,t1,k2,rfl,rfl,rfl,rfl,rfl,by omega,by omega,hlim,HQ2⟩
                     case measure=>simp [intOf];omega
theorem pdq(B g cap:Nat)(lv:Value)(cf:Int→Int→Int)(S:Int→Prop):∀N,Sorts B g cap lv cf S N:=by
 intro N;induction N with
 | zero=>intro a b lim l w hN;omega
 | succ N ih=>exact pdq_step B g cap lv cf S N ih
theorem sortFunc(B g cap:Nat)(lv:Value)(cf:Int→Int→Int)(S:Int→Prop)(l:List Int)(w:World)(hc:Ctx w g lv cf S)(h:Memb.Own B w (some ⟨g,0,none⟩) cap l)(hg:Good S l)(hl:l.length≤1048576) :
  Calls Tryz.prog 168 #[.slice (some ⟨g,0,none⟩) l.length cap,.func (.func 150) #[lv] #[]] w fun e w'=>e=.returned (.tuple #[])∧∃m,St w w' B g cap S 0 l.length l m∧Up cf 0 l.length m:=by
 have HL:=Tryz.bits_Len (l.length:Int) w (by omega) (by omega);rw [Int.toNat_natCast] at HL;have hle:Lib.bitLen l.length≤21:=Lib.bitLen_le l.length 21 (by omega) (by omega);generalize Lib.bitLen l.length=k at HL hle;have hcall:=pdq B g cap lv cf S (l.length+1) 0 l.length k l w (by omega) hc h hg (.inl rfl) (by omega) (Nat.le_refl _) hl (by omega);clear hc h hg;go_enter Tryz.func168,Tryz.ntmps168
 go_wp2_with fail
 refine HL.mono ?_;rintro e w' ⟨rfl,rfl⟩;go_wp2_with fail
 refine hcall.mono ?_;rintro e w1 ⟨rfl,m,hm,hu⟩;have HM:Hid (St w' w1 B g cap S 0 l.length l m):=hm;have HU:Hid (Up cf 0 l.length m):=hu;clear hm hu hcall HL;go_wp2;go_end0;exact⟨rfl,m,HM.out,HU.out⟩
end So
namespace So
open Kn (K okK)
open Lc (at' RdK)
def cmI(x y:Int):Int:=if x<y then -1 else if y<x then 1 else 0
theorem cmI_neg(x y:Int):cmI x y<0↔x<y:=by
 unfold cmI;by_cases h1:x<y
 ·simp [h1]
 ·by_cases h2:y<x
  ·simp [h1,h2]
  ·simp [h1,h2]
theorem cmI_zero(x y:Int):cmI x y=0↔x=y:=by
 unfold cmI;by_cases h1:x<y
 ·rw [if_pos h1];omega
 ·by_cases h2:y<x
  ·rw [if_neg h1,if_pos h2];omega
  ·rw [if_neg h1,if_neg h2];omega
theorem isNaN(x:Int)(w:World):Calls Tryz.prog 183 #[.int .i64 x] w fun e w'=>e=.returned (.bool false)∧w=w':=by
 go_enter Tryz.func183,Tryz.ntmps183
 go_wp2;go_ret;exact⟨by simp,rfl⟩
theorem isNaNH(x:Int)(w:World):Calls Tryz.prog 184 #[.int .i64 x] w fun e w'=>e=.returned (.bool false)∧w=w':=by
 go_enter Tryz.func184,Tryz.ntmps184
 go_wp2;go_ret;exact⟨by simp,rfl⟩
theorem compareI(x y:Int)(w:World):Calls Tryz.prog 170 #[.int .i64 x,.int .i64 y] w fun e w'=>e=.returned (.int .i64 (cmI x y))∧w=w':=by
 go_enter Tryz.func170,Tryz.ntmps170
 by_cases h1:x<y
 ·have HE:Hid (cmI x y=-1):=by show _=_;unfold cmI;rw [if_pos h1]
  go_wp2_with (first | (go_at_call 183;refine(isNaN _ _).mono ?_;rintro e w' ⟨rfl,rfl⟩))
  go_ret;exact⟨by rw [HE.out];rfl,rfl⟩
 ·by_cases h2:y<x
  ·have HE:Hid (cmI x y=1):=by show _=_;unfold cmI;rw [if_neg h1,if_pos h2]
   go_wp2_with (first | (go_at_call 183;refine(isNaN _ _).mono ?_;rintro e w' ⟨rfl,rfl⟩))
   go_ret;exact⟨by rw [HE.out];rfl,rfl⟩
  ·have HE:Hid (cmI x y=0):=by show _=_;unfold cmI;rw [if_neg h1,if_neg h2]
   go_wp2_with (first | (go_at_call 183;refine(isNaN _ _).mono ?_;rintro e w' ⟨rfl,rfl⟩))
   go_ret;exact⟨by rw [HE.out];rfl,rfl⟩
theorem compareH(x y:Int)(w:World):Calls Tryz.prog 171 #[.int .i64 x,.int .i64 y] w fun e w'=>e=.returned (.int .i64 (cmI x y))∧w=w':=by
 go_enter Tryz.func171,Tryz.ntmps171
 by_cases h1:x<y
 ·have HE:Hid (cmI x y=-1):=by show _=_;unfold cmI;rw [if_pos h1]
  go_wp2_with (first | (go_at_call 184;refine(isNaNH _ _).mono ?_;rintro e w' ⟨rfl,rfl⟩))
  go_ret;exact⟨by rw [HE.out];rfl,rfl⟩
 ·by_cases h2:y<x
  ·have HE:Hid (cmI x y=1):=by show _=_;unfold cmI;rw [if_neg h1,if_pos h2]
   go_wp2_with (first | (go_at_call 184;refine(isNaNH _ _).mono ?_;rintro e w' ⟨rfl,rfl⟩))
   go_ret;exact⟨by rw [HE.out];rfl,rfl⟩
  ·have HE:Hid (cmI x y=0):=by show _=_;unfold cmI;rw [if_neg h1,if_neg h2]
   go_wp2_with (first | (go_at_call 184;refine(isNaNH _ _).mono ?_;rintro e w' ⟨rfl,rfl⟩))
   go_ret;exact⟨by rw [HE.out];rfl,rfl⟩
def or3(x y z:Int):Int:=if x≠0 then x else if y≠0 then y else z
theorem orC(vb cap:Nat)(x y z:Int)(w:World)(hx:w.cell? ⟨vb,0,none⟩=some (.int .i64 x))(hy:w.cell? ⟨vb,1,none⟩=some (.int .i64 y))(hz:w.cell? ⟨vb,2,none⟩=some (.int .i64 z)) :
  Calls Tryz.prog 169 #[.slice (some ⟨vb,0,none⟩) 3 cap] w fun e w'=>e=.returned (.int .i64 (or3 x y z))∧w=w':=by
 obtain⟨f,hf⟩:∃f:Nat→Int,f=fun i=>if i=0 then x else if i=1 then y else z:=⟨_,rfl⟩
 have HC:Hid (∀i,i<3→w.cell? ⟨vb,i,none⟩=some (.int .i64 (f i))):=fun i hi=>by
  rcases(show i=0∨i=1∨i=2 by omega) with e | e | e <;> subst e <;> simp [hf,hx,hy,hz]
 have HO:Hid (∀i,i≤3→(∀j,j<i→f j=0)→(∀k,i=k→k<3→f k≠0→or3 x y z=f k)∧(i=3→or3 x y z=0)):=fun i hi h0=>by
  have a0:0<i→x=0:=fun q=>by have:=h0 0 q;simpa [hf] using this
  have a1:1<i→y=0:=fun q=>by have:=h0 1 q;simpa [hf] using this
  have a2:2<i→z=0:=fun q=>by have:=h0 2 q;simpa [hf] using this
  refine⟨fun k e hk hne=>?_,fun e=>?_⟩
  ·subst e;rcases(show i=0∨i=1∨i=2 by omega) with e | e | e <;> subst e <;> simp [hf] at hne ⊢ <;> unfold or3
   ·simp [hne]
   ·simp [a0 (by omega),hne]
   ·simp [a0 (by omega),a1 (by omega)]
  ·subst e;unfold or3;simp [a0 (by omega),a1 (by omega),a2 (by omega)]
 clear hf hx hy hz;generalize or3 x y z=r at HO;go_enter Tryz.func169,Tryz.ntmps169
 go_wp2;go_loop [8] (fun iv=>∃i:Nat,i≤3∧iv=.int .i64 i∧Hid (∀j,j<i→f j=0)) (fun iv=>3-(intOf iv).toNat)
 case atStart=>exact⟨0,by omega,rfl,fun j hj=>absurd hj (by omega)⟩
 case round=>
  obtain⟨i,hi,rfl,HZ⟩:=hrel;by_cases h3:i<3
  ·have h3':(i:Int)<3:=by omega
   have ci:=HC.out i h3;have HR:Hid (f i≠0→r=f i):=fun hne=>(HO.out i hi HZ.out).1 i rfl h3 hne
   have HZ2:Hid (f i=0→∀j,j<i+1→f j=0):=fun h0 j hj=>by
    by_cases e:j=i
    ·subst e;exact h0
    ·exact HZ.out j (by omega)
   generalize f i=v at ci HR HZ2;by_cases hv:v=0
   ·subst hv;have HZ3:Hid (∀j,j<i+1→f j=0):=HZ2.out rfl;clear HZ HZ2 HR;go_wp2;go_round
    case rel=>exact⟨i+1,by omega,by go_num,HZ3⟩
    case measure=>simp [intOf];omega
   ·have HE:Hid (r=v):=HR.out hv;clear HZ HZ2 HR;go_wp2;go_ret;exact⟨by rw [HE.out];rfl,rfl⟩
  ·obtain rfl:i=3:=by omega
   have HE:Hid (r=0):=(HO.out 3 hi HZ.out).2 rfl;clear HZ;rw [show((3:Nat):Int)=3 from rfl];go_wp2;go_ret;exact⟨by rw [HE.out];rfl,rfl⟩
def cfL(L:List K)(x y:Int):Int:=or3 (cmI (at' L x.toNat).round (at' L y.toNat).round) (cmI (at' L x.toNat).hand (at' L y.toNat).hand) (cmI x y)
end So
namespace So
open Kn (K okK)
open Bit (bit withB memTo)
open Lc (at')
open Tl (gtB insR insB ordL)
theorem cfL_neg(L:List K)(x y:Int):cfL L x y<0↔((at' L x.toNat).round<(at' L y.toNat).round∨((at' L x.toNat).round=(at' L y.toNat).round∧((at' L x.toNat).hand<(at' L y.toNat).hand∨((at' L x.toNat).hand=(at' L y.toNat).hand∧x<y)))):=by
 unfold cfL or3;have a1:=cmI_neg (at' L x.toNat).round (at' L y.toNat).round;have a2:=cmI_zero (at' L x.toNat).round (at' L y.toNat).round;have b1:=cmI_neg (at' L x.toNat).hand (at' L y.toNat).hand;have b2:=cmI_zero (at' L x.toNat).hand (at' L y.toNat).hand;have c1:=cmI_neg x y;generalize cmI (at' L x.toNat).round (at' L y.toNat).round=p at a1 a2;generalize cmI (at' L x.toNat).hand (at' L y.toNat).hand=q at b1 b2;generalize cmI x y=r at c1;by_cases h1:p=0
 ·rw [if_neg (by simp [h1])];have e1:=a2.1 h1;by_cases h2:q=0
  ·rw [if_neg (by simp [h2])];have e2:=b2.1 h2;rw [c1,e1,e2];omega
  ·rw [if_pos h2,b1,e1];have e2:¬ (at' L x.toNat).hand=(at' L y.toNat).hand:=fun e=>h2 (b2.2 e)
   omega
 ·rw [if_pos h1,a1];have e1:¬ (at' L x.toNat).round=(at' L y.toNat).round:=fun e=>h1 (a2.2 e)
  omega
theorem ord_cf(L:List K)(S:Int→Prop):Ord (cfL L) S where
 tr:=fun x y z _ _ _ h1 h2=>by rw [cfL_neg] at h1 h2 ⊢;omega
 tot:=fun x y _ _ hne h=>by rw [cfL_neg] at h ⊢;omega
 irr:=fun x _ h=>by rw [cfL_neg] at h;omega
def FallsC(L:List K):List Int→Prop
 | []=>True
 | y :: r=>(∀z∈r,cfL L z y<0)∧FallsC L r
theorem insR_fallsC(L:List K)(x:Int):∀l:List Int,(∀z∈l,z<x)→FallsC L l→FallsC L (insR L x l):=by
 intro l;induction l with
 | nil=>intro _ _;exact⟨fun z hz=>by simp at hz,trivial⟩
 | cons y r ih=>
  rintro hx ⟨h1,h2⟩;unfold insR
  cases hg:gtB L y x
  ·rw [if_neg (by simp)];have hyx:cfL L y x<0:=by
    have:=hx y (by simp);rw [cfL_neg];unfold gtB at hg;rw [Bool.eq_false_iff] at hg;simp only [ne_eq,Bool.or_eq_true,Bool.and_eq_true,decide_eq_true_eq] at hg;omega
   refine⟨fun z hz=>?_,h1,h2⟩;rcases List.mem_cons.1 hz with e | e
   ·subst e;exact hyx
   ·exact(ord_cf L (fun _=>True)).tr z y x trivial trivial trivial (h1 z e) hyx
  ·rw [if_pos rfl];refine⟨fun z hz=>?_,ih (fun z hz=>hx z (by simp [hz])) h2⟩;rcases(Tl.insR_mem L x r z).1 hz with e | e
   ·subst e;rw [cfL_neg];unfold gtB at hg;simp only [Bool.or_eq_true,Bool.and_eq_true,decide_eq_true_eq] at hg;omega
   ·exact h1 z e
theorem fold_fallsC(L : List K) : ∀ (m out : List Int), m.Pairwise (· < ·)→(∀z∈out,∀x∈m,z<x)→FallsC L out.reverse→FallsC L (m.foldl (insB L) out).reverse:=by
 intro m;induction m with
 | nil=>intro out _ _ h;exact h
 | cons x m ih=>
  intro out hp ho h;rw [List.foldl_cons];have hp':=List.pairwise_cons.1 hp;refine ih _ hp'.2 ?_ ?_
  ·intro z hz y hy;rcases List.mem_cons.1 ((Tl.insB_perm L out x).mem_iff.1 hz) with e | e
   ·subst e;exact hp'.1 y hy
   ·exact ho z e y (by simp [hy])
  ·unfold insB;rw [List.reverse_reverse];exact insR_fallsC L x _ (fun z hz=>ho z (List.mem_reverse.1 hz) x (by simp)) h
theorem fallsC_up(L:List K):∀l:List Int,FallsC L l→Up (cfL L) 0 l.reverse.length l.reverse:=by
 intro l h p q _ hpq hq;have H:∀r:List Int,FallsC L r→∀i j,i<j→j<r.length→cfL L (r.getD j 0) (r.getD i 0)<0:=by
  intro r;induction r with
  | nil=>intro _ i j _ hj;simp at hj
  | cons y r ih=>
   rintro⟨h1,h2⟩ i j hij hj
   cases i with
   | zero=>
    obtain⟨k,rfl⟩:∃k,j=k+1:=⟨j-1,by omega⟩
    have hk:k<r.length:=by simpa using hj
    have:(y :: r).getD (k+1) 0=r[k]:=by simp [List.getD,hk]
    rw [this];exact h1 _ (List.getElem_mem hk)
   | succ i=>
    obtain⟨k,rfl⟩:∃k,j=k+1:=⟨j-1,by omega⟩
    have:=ih h2 i k (by omega) (by simpa using hj);simpa [List.getD] using this
 rw [List.length_reverse] at hq;have:=H l h (l.length-1-q) (l.length-1-p) (by omega) (by omega);have e1:l.getD (l.length-1-p) 0=l.reverse.getD p 0:=by
  simp only [List.getD,List.getElem?_reverse (show p<l.length by omega)]
 have e2:l.getD (l.length-1-q) 0=l.reverse.getD q 0:=by
  simp only [List.getD,List.getElem?_reverse (show q<l.length by omega)]
 rw [e1,e2] at this;exact this
theorem ord_up(L : List K){m : List Int}(hm : m.Pairwise (· < ·)):Up (cfL L) 0 (ordL L m).length (ordL L m):=by
 have h:=fallsC_up L (ordL L m).reverse (by unfold ordL;exact fold_fallsC L m [] hm (fun z hz=>by simp at hz) trivial);rwa [List.reverse_reverse] at h
theorem memTo_rises(s : Int) : ∀ n, (memTo s n).Pairwise (· < ·):=by
 intro n;induction n with
 | zero=>exact List.Pairwise.nil
 | succ n ih=>
  unfold memTo;split
  ·rw [List.pairwise_append];refine⟨ih,List.pairwise_singleton _ _,fun x hx y hy=>?_⟩;obtain⟨j,hj,rfl,_⟩:=(Bit.mem_memTo s n x).1 hx;simp at hy;subst hy;omega
  ·rw [List.append_nil];exact ih
theorem memI_rises(s : Int) : (Memb.memI s).Pairwise (· < ·):=by
 unfold Memb.memI;split
 ·exact memTo_rises s 60
 ·exact List.Pairwise.nil
theorem is_ord(L : List K){m r : List Int}(hm : m.Pairwise (· < ·))(hp:r.Perm m)(hu:Up (cfL L) 0 r.length r):r=ordL L m:=by
 have hnd:m.Nodup:=hm.imp (fun h=>by omega);exact up_unique (ord_cf L (fun _=>True)) (ordL L m) r ⟨fun _ _=>trivial,Tl.ord_nodup L hnd⟩ (hp.trans (Tl.ord_perm L m).symm) (ord_up L hm) hu
end So
namespace So
open Kn (K okK)
open Lc (at' RdK)
theorem orNew(W:World)(vb:Nat)(h:W.heap.size=vb)(x y z:Int):Calls Tryz.prog 169 #[.slice (some ⟨vb,0,none⟩) 3 3] (W.alloc (.cells #[.int .i64 x,.int .i64 y,.int .i64 z] 3)) fun e w'=>e=.returned (.int .i64 (or3 x y z))∧W.alloc (.cells #[.int .i64 x,.int .i64 y,.int .i64 z] 3)=w':=by
 subst h;exact orC _ _ x y z _ (by simp) (by simp) (by simp)
theorem compare(g off cap:Nat)(L:List K)(x y:Nat)(w:World)(hlen:L.length≤60)(hx:x<L.length)(hy:y<L.length)(hr:RdK w (some ⟨g,off,none⟩) L) :
   Calls Tryz.prog 150 #[.slice (some ⟨g,off,none⟩) L.length cap,.int .i64 (x:Int),.int .i64 (y:Int)] w fun e w'=>e=.returned (.int .i64 (cfL L x y))∧Below w.heap.size w w':=by
 obtain⟨g1,off1,e1,hg,cx⟩:=hr.at x hx;obtain⟨g2,off2,e2,_,cy⟩:=hr.at y hy;injection e1 with e1;injection e1 with e1 e1';subst e1;subst e1';injection e2 with e2;injection e2 with e2 e2';subst e2;subst e2';have x0:=cx.c0;have x1:=cx.c1;have y0:=cy.c0;have y1:=cy.c1;have HR:Hid (cfL L x y=or3 (cmI (at' L x).round (at' L y).round) (cmI (at' L x).hand (at' L y).hand) (cmI x y)):=by show _=_;unfold cfL;rw [Int.toNat_natCast,Int.toNat_natCast]
 have hxl:(x:Int)<(L.length:Int):=by omega
 have hyl:(y:Int)<(L.length:Int):=by omega
 clear cx cy hr;generalize (at' L x).hand=hx0 at x0 HR;generalize (at' L x).round=rx0 at x1 HR;generalize (at' L y).hand=hy0 at y0 HR;generalize (at' L y).round=ry0 at y1 HR;have HB:Hid (∀o:Obj,Below w.heap.size w (w.drew.alloc o)):=fun o=>(Below.refl _ w).drew.alloc (Nat.le_refl _) _
 go_enter Tryz.func150,Tryz.ntmps150
 go_wp2_with fail
 go_region_held3 (fun X => X.cell? ⟨g, off + x * 4, none⟩ = some (.int .i64 hx0) ∧ X.cell? ⟨g, off + x * 4 + 1, none⟩ = some (.int .i64 rx0) ∧ X.cell? ⟨g, off + y * 4, none⟩ = some (.int .i64 hy0) ∧ X.cell? ⟨g, off + y * 4 + 1, none⟩ = some (.int .i64 ry0)) (first
     | exact⟨x0,x1,y0,y1⟩
     | go_keep) (first
     | (go_at_call 170
        refine(compareI _ _ _).mono ?_;rintro e V0 ⟨rfl,rfl⟩)
     | (go_at_call 171
        refine(compareH _ _ _).mono ?_;rintro e V0 ⟨rfl,rfl⟩)
     | (go_at_call 169
        refine(orNew w.drew _ rfl _ _ _).mono ?_;rintro e V0 ⟨rfl,rfl⟩))
 all_goals (go_wp2)
 all_goals go_ret
 all_goals exact⟨by rw [HR.out];rfl,HB.out _⟩
end So
end Go.Proofs.YtbkeldfbllhlbaaGreat
