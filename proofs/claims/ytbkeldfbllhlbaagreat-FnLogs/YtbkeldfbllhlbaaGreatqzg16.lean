/-
 What the program's own sealedInItsWave and firm answer, in the words of ChainM.
 What the program's own Seals, Sealers and SealedOf answer, in the words of SealM; for lists of knots whose words have at most 2^40 bytes.
-/
import Derived.Test.YtbkeldfbllhlbaaGreatqzg15
set_option linter.unusedVariables false
set_option maxRecDepth 100000
set_option maxHeartbeats 3200000
namespace Go.Proofs.YtbkeldfbllhlbaaGreat
open Go.RowKit
namespace Sl
open Kn (K okK)
open Bit (bit withB memTo)
open Lc (at' RdK WordsOk laceB setB HandsOk handsN)
open Sg (isB bel belows seesB metI)
open Nd (nodF nodsB nodN nodS)
open Ak (onlyF)
def ndI(L:List K)(b:Int):Int:=nodF L b (Memb.memI (2 ^ L.length-1))
theorem ndI_bd(L:List K)(b:Int):0≤ndI L b∧ndI L b<1152921504606846976:=(Nd.nodF_bits L b _ (fun _ h=>Nd.mem_memI h)).1
theorem bit_ndI{L:List K}(h60:L.length≤60)(b:Int)(j:Nat):bit (ndI L b) j=nodsB L (j:Int) b:=by
 have hp:=Lc.pow60 L.length h60;rw [Bool.eq_iff_iff];unfold ndI;rw [(Nd.nodF_bits L b _ (fun _ h=>Nd.mem_memI h)).2 j,Ak.mem_bit (by omega) (by omega),Ak.bit_all h60];refine⟨fun h=>h.2,fun h=>⟨?_,h⟩⟩;unfold Nd.nodsB at h;rw [Bool.and_eq_true] at h;obtain⟨_,p1,_⟩:=Sg.isB_parts h.1;exact decide_eq_true (by omega)
theorem seal_asks{L:List K}(hl:laceB L=true)(a b:Int):decide (3≤handsN L (bits .and .i64 (ndI L b) (metI L a)))=sealsB L a b:=by
 have h60:=((Lc.lace_iff L).1 hl).1;have hn:=ndI_bd L b;have hm:=Nd.met_bd h60 a;have hbit:=fun i=>bit_and (ndI L b) (metI L a) hn.1 hn.2 hm.1 hm.2 i
 unfold sealsB
 cases ha:isB L a
 ·have:handsN L (bits .and .i64 (ndI L b) (metI L a))=0:=hands_zero fun i hi=>by
   rw [hbit i];have e:metI L a=0:=by
    unfold Sg.metI;rw [if_neg];intro h;rw [Db.isB_lace hl,decide_eq_true h.1,decide_eq_true h.2] at ha;exact Bool.noConfusion ha
   rw [e,Lc.bit_zero,Bool.and_false]
  rw [this];rfl
 ·obtain⟨a0,a1,_⟩:=Sg.isB_parts ha
  cases hb:isB L b
  ·have:handsN L (bits .and .i64 (ndI L b) (metI L a))=0:=hands_zero fun i hi=>by
    rw [hbit i,bit_ndI h60];unfold Nd.nodsB;rw [hb];simp
   rw [this];rfl
  ·obtain⟨b0,b1,_⟩:=Sg.isB_parts hb;have hma:metI L a=bel L a.toNat:=by unfold Sg.metI;rw [if_pos ⟨a0,a1⟩]
   have key:∀i,i<L.length→bit (bits .and .i64 (ndI L b) (metI L a)) i=bit (nodAt L a.toNat b.toNat) i:=fun i hi=>by
    rw [hbit i,bit_ndI h60,hma,bit_nodAt h60 (by omega),decide_eq_true hi];unfold Nd.nodsB;rw [hb,Int.toNat_natCast,Db.isB_lace hl,decide_eq_true (by omega:(0:Int)≤(i:Int)),decide_eq_true (by omega:(i:Int)<(L.length:Int))];simp only [Bool.true_and];exact Bool.and_comm _ _
   have e:handsN L (bits .and .i64 (ndI L b) (metI L a))=handsN L (nodAt L a.toNat b.toNat):=
    Int.le_antisymm (hands_mono fun i hi h=>by rw [← key i hi];exact h) (hands_mono fun i hi h=>by rw [key i hi];exact h)
   rw [e];rfl
theorem sealing1(bl bn g off cap:Nat)(L:List K)(a b:Int)(w:World)(hlc:laceB L=true)(hg:g<w.heap.size)(hr:RdK w (some ⟨g,off,none⟩) L)
   (hbl:bl<w.heap.size) (hbn:bn<w.heap.size) (cl:w.cell? ⟨bl,0,none⟩=some (.slice (some ⟨g,off,none⟩) L.length cap)) (cn:w.cell? ⟨bn,0,none⟩=some (.int .i64 (ndI L b))) :
   Calls Tryz.prog 180 #[.int .i64 a,.pointer (some ⟨bl,0,none⟩),.pointer (some ⟨bn,0,none⟩)] w fun e w'=>e=.returned (.bool (sealsB L a b))∧Below w.heap.size w w':=by
 have h60:=((Lc.lace_iff L).1 hlc).1;have hn:=ndI_bd L b;have hm:=Nd.met_bd h60 a;have hA:=and_bd _ _ hn.1 hn.2 hm.1 hm.2;have hbit:=fun i=>bit_and (ndI L b) (metI L a) hn.1 hn.2 hm.1 hm.2 i
 have hd:bits .and .i64 (ndI L b) (metI L a) / 2 ^ L.length=0:=Lc.div_of_bits _ _ hA.1 fun i hi=>by
   rw [hbit i,Bool.and_eq_false_iff];right
   rw [Bool.eq_false_iff];intro h;have:=Nd.met_in hlc a i h;omega
 have HT:Hid (decide (3≤handsN L (bits .and .i64 (ndI L b) (metI L a)))=sealsB L a b):=seal_asks hlc a b;have HB:Hid (∀W:World,Below w.heap.size w W→Calls Tryz.prog 123 #[.slice (some ⟨g,off,none⟩) L.length cap,.int .i64 a] W fun e w'=>e=.returned (.int .i64 (metI L a))∧Below w.heap.size w w'):=fun W hW=>
   (Sg.below g off cap L a W hlc (Nat.lt_of_lt_of_le hg hW.size) (hr.below hW)).mono fun _ _ h=>⟨h.1,hW.trans (h.2.mono hW.size)⟩
 have HH:Hid (∀W:World,Below w.heap.size w W→Calls Tryz.prog 134 #[.slice (some ⟨g,off,none⟩) L.length cap,.int .i64 (bits .and .i64 (ndI L b) (metI L a))] W fun e w'=>e=.returned (.int .i64 (handsN L (bits .and .i64 (ndI L b) (metI L a))))∧Below w.heap.size w w'):=fun W hW=>
   (Lc.hands g off cap L _ W h60 hA.1 hA.2 hd (Lc.lace_hands hlc) (hr.below hW)).mono fun _ _ h=>⟨h.1,hW.trans (h.2.mono hW.size)⟩
 clear hd hbit hA;generalize ndI L b=nd at cn HT HH hn;generalize metI L a=mt at HT HH HB hm;generalize hbb:bits .and .i64 nd mt=bb at HT HH;have HBB:Hid (bits .and .i64 nd mt=bb):=hbb;clear hbb;generalize handsN L bb=hh at HT HH;go_enter Tryz.func180,Tryz.ntmps180
 go_wp2_with fail
 obtain⟨X,_,F,HF,HG⟩:=Fam.fam w;have hc1:∀z,(F z).cell? ⟨bl,0,none⟩=some (.slice (some ⟨g,off,none⟩) L.length cap):=fun z=>((HF.out z).cell (p:=⟨bl,0,none⟩) hbl).trans cl
 have hc2:∀z,(F z).cell? ⟨bn,0,none⟩=some (.int .i64 nd):=fun z=>((HF.out z).cell (p:=⟨bn,0,none⟩) hbn).trans cn
 clear cl cn;refine Fam.region (F:=F) (by kernel_rfl) (by kernel_rfl) (HG.out _ (Below.refl _ w).drew) ?_
 repeat (go_big_quiet_step (first
   | (go_at_call 123;exact(HB.out _ (HF.out _)).mono fun _ _ h=>⟨h.1,HG.out _ h.2⟩)
   | (go_at_call 134;rw [HBB.out];exact(HH.out _ (HF.out _)).mono fun _ _ h=>⟨h.1,HG.out _ h.2⟩)))
 refine wpQuiet_nil ?_;intro w2 hw2;obtain⟨z,rfl⟩:=hw2;have HB2:Hid (Below w.heap.size w (F z)):=HF.out z;go_wp2;go_ret;exact⟨by rw [← HT.out];rfl,HB2.out⟩
def SealFn(L:List K)(b:Int)(g off cap:Nat)(w:World)(e:Ending)(w':World):Prop:=
 ∃bl bn,e=.returned (.func (.func 180) #[] #[.pointer (some ⟨bl,0,none⟩),.pointer (some ⟨bn,0,none⟩)])∧bl<w'.heap.size∧bn<w'.heap.size ∧
  w'.cell? ⟨bl,0,none⟩=some (.slice (some ⟨g,off,none⟩) L.length cap)∧w'.cell? ⟨bn,0,none⟩=some (.int .i64 (ndI L b))∧Below w.heap.size w w'
theorem kA{W V:World}(h:Below W.drew.heap.size W.drew V):Below W.heap.size W V:=⟨h.os,h.tape,h.output,h.size,h.block⟩
theorem kB{W V:World}{o:Obj}(h:Below (W.drew.alloc o).heap.size (W.drew.alloc o) V):Below W.heap.size W V:=kA (((Below.refl _ W.drew).alloc (Nat.le_refl _) o).trans (h.mono (by simp)))
theorem kC{W V:World}{o:Obj}(h:Below (W.alloc o).drew.heap.size (W.alloc o).drew V):Below W.heap.size W V:=((Below.refl _ W).alloc (Nat.le_refl _) o).trans ((kA h).mono (by simp))
theorem keepN{W V:World}{t:TypeId}{v:Value}(h:Below (W.drew.alloc (.cells #[v] t)).heap.size (W.drew.alloc (.cells #[v] t)) V):V.cell? ⟨W.heap.size,0,none⟩=some v∧V.frozen? ⟨W.heap.size,0,none⟩=false∧W.heap.size<V.heap.size:=by
 have c:=Sg.boxNew W.drew v t;have hs:W.heap.size<(W.drew.alloc (.cells #[v] t)).heap.size:=by rw [World.size_alloc];exact Nat.lt_succ_self _
 exact⟨(h.cell (p:=⟨W.heap.size,0,none⟩) hs).trans c.1,(h.frozen (p:=⟨W.heap.size,0,none⟩) hs).trans c.2,Nat.lt_of_lt_of_le hs h.size⟩
theorem keepN'{W V:World}{t:TypeId}{v:Value}(h:Below (W.alloc (.cells #[v] t)).drew.heap.size (W.alloc (.cells #[v] t)).drew V):V.cell? ⟨W.heap.size,0,none⟩=some v∧V.frozen? ⟨W.heap.size,0,none⟩=false∧W.heap.size<V.heap.size:=by
 have c:=Sg.boxNew W v t;have hs:W.heap.size<(W.alloc (.cells #[v] t)).heap.size:=by simp
 have h':=kA h;exact⟨(h'.cell (p:=⟨W.heap.size,0,none⟩) hs).trans c.1,(h'.frozen (p:=⟨W.heap.size,0,none⟩) hs).trans c.2,Nat.lt_of_lt_of_le hs h'.size⟩
theorem fn_new{L:List K}{b nd:Int}{g off cap bl:Nat}{w w0 V:World}{t:TypeId}(hb:w.heap.size=bl)(hn:ndI L b=nd)(B0:Below bl w w0)(C0:w0.cell? ⟨bl,0,none⟩=some (.slice (some ⟨g,off,none⟩) L.length cap))(S0:bl<w0.heap.size)(B1:Below w0.heap.size w0 V) :
  SealFn L b g off cap w (.returned (.func (.func 180) #[] #[.pointer (some ⟨bl,0,none⟩),.pointer (some ⟨V.heap.size,0,none⟩)])) (V.alloc (.cells #[.int .i64 nd] t)):=by
 subst hb hn;have hs:=B1.size;refine⟨w.heap.size,V.heap.size,rfl,by simp;omega,by simp,Sg.boxCell _ ((B1.cell (p:=⟨w.heap.size,0,none⟩) S0).trans C0),(Sg.boxNew V _ t).1,?_⟩;exact(B0.trans (B1.mono (Nat.le_of_lt S0))).alloc (by omega) _
theorem fn_put{L:List K}{b nd:Int}{g off cap bl:Nat}{w w0 V:World}{v:Value}(hb:w.heap.size=bl)(hn:ndI L b=nd)(B0:Below bl w w0)(C0:w0.cell? ⟨bl,0,none⟩=some (.slice (some ⟨g,off,none⟩) L.length cap))(S0:bl<w0.heap.size)(B1:Below w0.heap.size w0 V)(hc:V.cell? ⟨w0.heap.size,0,none⟩=some v)(hv:w0.heap.size<V.heap.size) :
  SealFn L b g off cap w (.returned (.func (.func 180) #[] #[.pointer (some ⟨bl,0,none⟩),.pointer (some ⟨w0.heap.size,0,none⟩)])) (V.setCell ⟨w0.heap.size,0,none⟩ (.int .i64 nd)):=by
 subst hb hn;have hs:=B1.size;refine⟨w.heap.size,w0.heap.size,rfl,by simp;omega,by simp;omega,(Sg.put_other V _ _ (by omega) _).trans ((B1.cell (p:=⟨w.heap.size,0,none⟩) S0).trans C0),World.cell?_setCell_same' _ _ _ (by rw [hc];rfl),?_⟩;exact(B0.trans (B1.mono (Nat.le_of_lt S0))).setCell (p:=⟨w0.heap.size,0,none⟩) (show w.heap.size≤w0.heap.size by omega) _
theorem sealing(g off cap:Nat)(L:List K)(b:Int)(w:World)(hlc:laceB L=true)(hg:g<w.heap.size)(hr:RdK w (some ⟨g,off,none⟩) L) :
   Calls Tryz.prog 166 #[.slice (some ⟨g,off,none⟩) L.length cap,.int .i64 b] w (SealFn L b g off cap w):=by
 have h60:=((Lc.lace_iff L).1 hlc).1;have P0:Hid (Below w.heap.size w (w.alloc (.cells #[.slice (some ⟨g,off,none⟩) L.length cap] 55))∧(w.alloc (.cells #[.slice (some ⟨g,off,none⟩) L.length cap] 55)).cell? ⟨w.heap.size,0,none⟩=some (.slice (some ⟨g,off,none⟩) L.length cap)∧w.heap.size<(w.alloc (.cells #[.slice (some ⟨g,off,none⟩) L.length cap] 55)).heap.size):=⟨(Below.refl _ _).alloc (Nat.le_refl _) _,by simp,by simp⟩
 go_enter Tryz.func166,Tryz.ntmps166
 go_wp2_with fail
 generalize w.alloc (.cells #[.slice (some ⟨g,off,none⟩) L.length cap] 55)=w0 at P0 ⊢;obtain⟨B0,C0,S0⟩:=P0;have HB0:Hid (Below w.heap.size w w0):=B0;clear B0;have HNC:Hid (∀W:World,Below w0.heap.size w0 W→Calls Tryz.prog 151 #[.slice (some ⟨g,off,none⟩) L.length cap,.int .i64 (2 ^ L.length-1),.int .i64 b] W fun e w'=>e=.returned (.int .i64 (ndI L b))∧Below W.heap.size W w'):=fun W hW=>
   Nd.nodders g off cap L _ b W hlc (Nat.lt_of_lt_of_le (Nat.lt_of_lt_of_le hg HB0.out.size) hW.size) ((hr.below HB0.out).below hW)
 generalize hnd:ndI L b=nd at HNC;have HND:Hid (ndI L b=nd):=hnd;clear hnd;generalize hb:w.heap.size=bl at *;have HWB:Hid (w.heap.size=bl):=hb;have HC0:Hid (w0.cell? ⟨bl,0,none⟩=some (.slice (some ⟨g,off,none⟩) L.length cap)):=C0;clear hb hr;have HSB:Hid (∀X:World,Below w0.heap.size w0 X→X.cell? ⟨bl,0,none⟩=some (.slice (some ⟨g,off,none⟩) L.length cap)):=fun X hX=>(hX.cell (p:=⟨bl,0,none⟩) S0).trans C0
 go_region_held3 (fun X => X.cell? ⟨bl, 0, none⟩ = some (.slice (some ⟨g, off, none⟩) L.length cap)) (first
     | exact HSB.out _ (B1.alloc B1.size _)
     | exact HSB.out _ B1
     | exact HSB.out _ (B1.setCell (p:=⟨w0.heap.size,0,none⟩) (Nat.le_refl _) _)
     | exact HSB.out _ (Below.refl _ _).drew
     | exact HSB.out _ ((Below.refl _ _).alloc (Nat.le_refl _) _).drew
     | exact HSB.out _ ((Below.refl _ _).drew.alloc (Nat.le_refl _) _)
     | go_keep) (first
     | (go_at_call 75
        refine(Lc.all _ _ _ _ h60).mono ?_;rintro e V0 ⟨rfl,rfl⟩)
     | (go_at_call 151
        refine(HNC.out _ (by first | exact(Below.refl _ _).drew | exact((Below.refl _ _).alloc (Nat.le_refl _) _).drew | exact(Below.refl _ _).drew.alloc (Nat.le_refl _) _)).mono ?_;rintro e V1 ⟨rfl,b1⟩
        (first | have HZ:=keepN b1 | have HZ:=keepN' b1 | skip)
        (first | (have z0:=HZ.1;have g0:=HZ.2.1;have s0:=HZ.2.2) | skip)
        (first | have B1:Below w0.heap.size w0 V1:=kC b1 | have B1:Below w0.heap.size w0 V1:=kB b1 | have B1:Below w0.heap.size w0 V1:=kA b1)))
 all_goals (go_wp2)
 all_goals go_ret
 all_goals (first
   | exact fn_new HWB.out HND.out HB0.out HC0.out S0 B1
   | exact fn_put HWB.out HND.out HB0.out HC0.out S0 B1 z0 s0)
theorem seals(g off cap:Nat)(L:List K)(a b:Int)(w:World)(hlc:laceB L=true)(hg:g<w.heap.size)(hr:RdK w (some ⟨g,off,none⟩) L) :
  Calls Tryz.prog 147 #[.slice (some ⟨g,off,none⟩) L.length cap,.int .i64 a,.int .i64 b] w fun e w'=>e=.returned (.bool (sealsB L a b))∧Below w.heap.size w w':=by
 have HLC:Hid (laceB L=true):=hlc;clear hlc;go_enter Tryz.func147,Tryz.ntmps147
 go_wp2_with fail
 refine(sealing g off cap L b _ HLC.out hg hr).mono ?_;rintro e w1 ⟨bl,bn,rfl,hbl,hbn,cl,cn,hb1⟩;have hcall:=sealing1 bl bn g off cap L a b w1 HLC.out (Nat.lt_of_lt_of_le hg hb1.size) (hr.below hb1) hbl hbn cl cn;clear cl cn hbl hbn;go_wp2_with fail
 refine hcall.mono ?_;rintro e w2 ⟨rfl,hb2⟩;have B2:=hb1.trans (hb2.mono hb1.size);clear hcall hb1 hb2;go_wp2;go_ret;exact⟨rfl,B2⟩
theorem sealers(g off cap:Nat)(L:List K)(s b:Int)(w:World)(hlc:laceB L=true)(hg:g<w.heap.size)(hr:RdK w (some ⟨g,off,none⟩) L) :
   Calls Tryz.prog 146 #[.slice (some ⟨g,off,none⟩) L.length cap,.int .i64 s,.int .i64 b] w fun e w'=>e=.returned (.int .i64 (onlyF (fun a=>sealsB L a b) (Memb.memI s)))∧Below w.heap.size w w':=by
 have HLC:Hid (laceB L=true):=hlc;clear hlc;go_enter Tryz.func146,Tryz.ntmps146
 go_wp2_with fail
 refine(sealing g off cap L b _ HLC.out hg hr).mono ?_;rintro e w1 ⟨bl,bn,rfl,hbl,hbn,cl,cn,hb1⟩;have hcall := Ak.only 180 (enters_of Tryz.func180 (by kernel_rfl) rfl) (.pointer (some ⟨bl, 0, none⟩)) (.pointer (some ⟨bn, 0, none⟩)) (fun a => sealsB L a b) s w1 (fun W a hW _ _=>
   sealing1 bl bn g off cap L a b W HLC.out (Nat.lt_of_lt_of_le hg (Nat.le_trans hb1.size hW.size)) ((hr.below hb1).below hW) (Nat.lt_of_lt_of_le hbl hW.size) (Nat.lt_of_lt_of_le hbn hW.size) ((hW.cell (p:=⟨bl,0,none⟩) hbl).trans cl) ((hW.cell (p:=⟨bn,0,none⟩) hbn).trans cn))
 generalize hof:onlyF (fun a=>sealsB L a b) (Memb.memI s)=of at hcall;have HOF:Hid (onlyF (fun a=>sealsB L a b) (Memb.memI s)=of):=hof;clear hof;clear cl cn hbl hbn;go_wp2_with fail
 refine hcall.mono ?_;rintro e w2 ⟨rfl,hb2⟩;have B2:=hb1.trans (hb2.mono hb1.size);clear hcall hb1 hb2;go_wp2;go_ret;exact⟨by rw [HOF.out];rfl,B2⟩
end Sl
namespace Fw
open Kn (K okK)
open Bit (bit withB)
open Lc (at' RdK WordsOk laceB setB handsN roundS)
open Ak (onlyF)
open Sl (sealS sealN sealsB)
open Ch (leadK firmN sealAt)
theorem lastOfWave(r:Int)(w:World)(h0:0≤r)(h1:r≤1000):Calls Tryz.prog 145 #[.int .i64 r] w fun e w'=>e=.returned (.int .i64 ((r / 3+1)*3-1))∧w=w':=by
 have h2:0≤r / 3:=by omega
 have h3:r / 3≤1000:=by omega
 have HV:Hid (∀W:World,Calls Tryz.prog 163 #[.int .i64 r] W fun e w'=>e=.returned (.int .i64 (r / 3))∧W=w'):=fun W=>Ch.waveOf r W h0 h1
 generalize r / 3=q at h2 h3 HV ⊢;go_enter Tryz.func145,Tryz.ntmps145
 go_wp2_with (go_at_call 163;refine(HV.out _).mono ?_;rintro e w' ⟨rfl,rfl⟩)
 go_ret;exact⟨by first | rfl | (congr 2;omega),rfl⟩
theorem only_seal{L:List K}(hlc:laceB L=true){s:Int}(h0:0≤s)(h1:s<1152921504606846976){k:Nat}(hk:k<L.length)(R:Int) :
  onlyF (fun a=>sealsB L a (k:Int)) (Memb.memI (roundS L s R))=roundS L (sealAt L s k) R:=by
 have h60:=((Lc.lace_iff L).1 hlc).1;have hR:=Lc.round_bd L s R h60;have hR2:=Lc.round_bd L (sealAt L s k) R h60;have hF:=Ak.onlyF_bits (fun a=>sealsB L a (k:Int)) (Memb.memI (roundS L s R)) (fun _ h=>Ak.mem_memI h);have hN:=Sl.sealS_bd L k L.length h60;refine Lc.eq_of_bits _ _ hF.1.1 hR2.1 fun j=>?_
 rw [Bool.eq_iff_iff,hF.2 j,Ak.mem_bit hR.1 hR.2.1,Ag.bit_round L s R h60,Ag.bit_round L (sealAt L s k) R h60];have hb:bit (sealAt L s k) j=(bit s j&&(decide (j<L.length)&&sealN L j k)):=by
  unfold Ch.sealAt;rw [Sl.bit_and s _ h0 h1 hN.1 hN.2,Sl.bit_sealS L k L.length h60]
 rw [hb];have hi:Sg.isB L (k:Int)=true:=by rw [Db.isB_lace hlc];simp;omega
 have hj:j<L.length→Sg.isB L (j:Int)=true:=fun q=>by rw [Db.isB_lace hlc];simp;omega
 unfold Sl.sealsB;rw [hi];simp only [Int.toNat_natCast,Bool.and_eq_true,decide_eq_true_eq,Bool.true_and];constructor
 ·rintro⟨⟨p1,p2,p3⟩,p4,p5⟩;exact⟨p1,⟨p2,p1,p5⟩,p3⟩
 ·rintro⟨p1,⟨p2,_,p5⟩,p3⟩;exact⟨⟨p1,p2,p3⟩,hj p1,p5⟩
theorem sealedInItsWave(g off cap:Nat)(L:List K)(s:Int)(k:Nat)(w:World)(hlc:laceB L=true)(hg:g<w.heap.size)(hr:RdK w (some ⟨g,off,none⟩) L)(h0:0≤s)(h1:s<1152921504606846976)(hk:k<L.length)(h3:(at' L k).round % 3=0) :
  Calls Tryz.prog 120 #[.slice (some ⟨g,off,none⟩) L.length cap,.int .i64 s,.agg #[.int .i64 k,.int .i64 (at' L k).round]] w fun e w'=>e=.returned (.bool (decide (3≤handsN L (roundS L (sealAt L s k) ((at' L k).round+2)))))∧Below w.heap.size w w':=by
 have h60:=((Lc.lace_iff L).1 hlc).1;have hrb:=Lc.ok_round (Lc.can_ok (Lc.lace_upTo hlc k hk));have hok:Base.okB s=true:=(Base.okB_iff s).2 ⟨h0,h1⟩;have HS:Hid (onlyF (fun a=>sealsB L a (k:Int)) (Memb.memI (roundS L s ((at' L k).round+2)))=roundS L (sealAt L s k) ((at' L k).round+2)):=only_seal hlc h0 h1 hk _;have hR2:=Lc.round_bd L (sealAt L s k) ((at' L k).round+2) h60;have HLC:Hid (laceB L=true):=hlc;have HH:Hid (Lc.HandsOk L):=Lc.lace_hands hlc;have HR:Hid (RdK w (some ⟨g,off,none⟩) L):=hr;generalize (at' L k).round=r at hrb h3 HS hR2 ⊢;have hlast:(r / 3+1)*3-1=r+2:=by omega
 have HL:Hid (∀W:World,Calls Tryz.prog 145 #[.int .i64 r] W fun e w'=>e=.returned (.int .i64 (r+2))∧W=w'):=fun W=>by
  have:=lastOfWave r W hrb.1 (by omega);rw [hlast] at this;exact this
 have P0:Hid (Below w.heap.size w (w.alloc (.cells #[.int .i64 k,.int .i64 r] 148))∧(w.alloc (.cells #[.int .i64 k,.int .i64 r] 148)).cell? ⟨w.heap.size,0,none⟩=some (.int .i64 k)∧(w.alloc (.cells #[.int .i64 k,.int .i64 r] 148)).cell? ⟨w.heap.size,1,none⟩=some (.int .i64 r)∧w.heap.size<(w.alloc (.cells #[.int .i64 k,.int .i64 r] 148)).heap.size):=
  ⟨(Below.refl _ _).alloc (Nat.le_refl _) _,by simp,by simp,by simp⟩
 clear hlc hr hlast h3 hrb;go_enter Tryz.func120,Tryz.ntmps120
 go_wp2_with (first | (go_at_call 145;refine(HL.out _).mono ?_;rintro e w' ⟨rfl,rfl⟩) | fail)
 generalize w.alloc (.cells #[.int .i64 k,.int .i64 r] 148)=V at P0 ⊢;obtain⟨B0,c0,c1,S0⟩:=P0;refine(Lc.atRound g off cap L s (r+2) V h60 hok (HR.out.below B0)).mono ?_;rintro e w1 ⟨rfl,hb1⟩;have c0':=(hb1.cell (p:=⟨w.heap.size,0,none⟩) S0).trans c0;have B1:=B0.trans (hb1.mono B0.size);have HB1:Hid (Below w.heap.size w w1):=B1;have hcall:=Sl.sealers g off cap L (roundS L s (r+2)) (k:Int) w1 HLC.out (Nat.lt_of_lt_of_le hg B1.size) (HR.out.below B1);rw [HS.out] at hcall;clear hb1 B0 c0 c1 S0 B1;go_wp2_with fail
 refine hcall.mono ?_;rintro e w2 ⟨rfl,hb2⟩;have HB2:Hid (Below w.heap.size w w2):=HB1.out.trans (hb2.mono HB1.out.size);have hhands:=Lc.hands g off cap L (roundS L (sealAt L s k) (r+2)) w2 h60 hR2.1 hR2.2.1 hR2.2.2 HH.out (HR.out.below HB2.out);generalize hhn:handsN L (roundS L (sealAt L s k) (r+2))=hn at hhands;have HHN:Hid (handsN L (roundS L (sealAt L s k) (r+2))=hn):=hhn;clear hhn;clear hcall hb2 HB1 c0' hR2 HS;go_wp2_with fail
 refine hhands.mono ?_;rintro e w3 ⟨rfl,hb3⟩;have HB3:Hid (Below w.heap.size w w3):=HB2.out.trans (hb3.mono HB2.out.size);clear hhands hb3 HB2;go_wp2;go_ret;exact⟨by rw [HHN.out];rfl,HB3.out⟩
theorem leads7(g off cap:Nat)(L:List K)(C:List Int)(k:Int)(w:World)(hlc:laceB L=true)(hc:Rm.coinsB C=true)(hg:g<w.heap.size)(hr:RdK w (some ⟨g,off,none⟩) L) :
  Calls Tryz.prog 142 #[.slice (some ⟨g,off,none⟩) L.length cap,.agg #[.int .i64 (Ch.leadI C 0),.int .i64 (Ch.leadI C 1),.int .i64 (Ch.leadI C 2),.int .i64 (Ch.leadI C 3),.int .i64 (Ch.leadI C 4),.int .i64 (Ch.leadI C 5),.int .i64 (Ch.leadI C 6)],.int .i64 k] w fun e w'=>e=.returned (.bool (Ch.leadsB L C k))∧Below w.heap.size w w':=by
 have:=Ch.leads g off cap L (fun i=>Ch.leadI C (i:Int)) k w hlc hg hr;rw [Ch.ledB_leads hlc hc _ (fun _ _=>rfl) k] at this;exact this
end Fw
end Go.Proofs.YtbkeldfbllhlbaaGreat
