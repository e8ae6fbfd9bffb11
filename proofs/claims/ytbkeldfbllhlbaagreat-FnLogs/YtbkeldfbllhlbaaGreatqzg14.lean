/-
 What the program's own Doubled and DoublesOf answer, in the words of DoubM; for lists of knots whose words have at most 2^40 bytes.
-/
import Derived.RangeFuncNested
import Derived.RangeFuncBound
import Derived.RangeFuncCalls
import Derived.RangeFuncLeaves
import Derived.Shelf.Abstract
import Derived.Shelf.RegionOpen
import Derived.OwnWalkIn
import Derived.TacticsInMore
import Derived.LoopNIn
import Derived.LoopIn
import Derived.Test.YtbkeldfbllhlbaaGreatqzg13
set_option linter.unusedVariables false
set_option maxRecDepth 100000
set_option maxHeartbeats 3200000
namespace Go.Proofs.YtbkeldfbllhlbaaGreat
open Go.RowKit
section
attribute [local go_sem] Oper.semAt_some
namespace Sg
open Kn (K okK)
open Bit (bit withB)
open Lc (at' RdK CellsK)
def KpL(n₀ Bl:Nat)(W W':World):Prop:=Below n₀ W W'∧W'.heap[Bl]? = W.heap[Bl]?
theorem kpL_t{n₀ Bl:Nat}{A B C:World}(h:KpL n₀ Bl A B)(k:KpL n₀ Bl B C):KpL n₀ Bl A C:=⟨h.1.trans k.1,k.2.trans h.2⟩
theorem kpL_b{n₀ Bl:Nat}{w:World}(hn:n₀≤w.heap.size)(hB:Bl<w.heap.size)(W:World)(l:Nat)(o o':Obj)(hl:w.heap.size≤l)(h:W.heap[l]? = some o)(h1:o.isCells=false)(h2:o.isWalk=false):KpL n₀ Bl W (W.putObj l o'):=
 ⟨belowK_b hn W l o o' hl h h1 h2,World.putObj_heap_other (by omega)⟩
theorem kpL_refl(n₀ Bl:Nat)(W:World):KpL n₀ Bl W W:=⟨Below.refl _ _,rfl⟩
theorem kpL_put{n₀ Bl:Nat}(W:World)(b:Nat)(hb:n₀≤b)(hB:Bl≠b)(u:Value):KpL n₀ Bl W (W.setCell ⟨b,0,none⟩ u):=
 ⟨(Below.refl n₀ W).setCell (p:=⟨b,0,none⟩) hb u,Below.heap_setCell W ⟨b,0,none⟩ u Bl hB⟩
theorem cellsK_at{n₀:Nat}{w w':World}{g o:Nat}{k:K}(h:CellsK w g o k)(hb:Below n₀ w w')(hg:g<n₀):CellsK w' g o k where
 c0:=(hb.cell (p:=⟨g,o,none⟩) hg).trans h.c0
 c1:=(hb.cell (p:=⟨g,o+1,none⟩) hg).trans h.c1
 c2:=(hb.cell (p:=⟨g,o+2,none⟩) hg).trans h.c2
 c3:=(hb.cell (p:=⟨g,o+3,none⟩) hg).trans h.c3
theorem cell_block{w w':World}{b:Nat}(h:w'.heap[b]? = w.heap[b]?):w'.cell? ⟨b,0,none⟩=w.cell? ⟨b,0,none⟩:=World.cell?_of_block (w:=w) h
theorem under1(n:Nat)(hn:1≤n)(l Bs Bl n₀ g off cap:Nat)(L:List K)(hlc:Lc.laceB L=true)(s:Int)(h0:0≤s)(h1:s<1152921504606846976)(hg:g<n₀)(J Jx:List (Fin L.length)→World→Prop)
   (hY:∀pre x W,J pre W→pre.length<L.length→YieldAt Fence.wide (n-1) Tryz.prog l #[.int .i64 (x.val:Int)] W fun e W'=>
     (e=.returned (.bool true)∧J (pre++[x]) W'∧KpL n₀ Bl W W')∨(e=.returned (.bool false)∧Jx (pre++[x]) W'))
   (W:World) (hBs:W.cell? ⟨Bs,0,none⟩=some (.int .i64 s)) (hBl:W.cell? ⟨Bl,0,none⟩=some (.slice (some ⟨g,off,none⟩) L.length cap)) (hr:RdK W (some ⟨g,off,none⟩) L) (hJ0:J [] W) :
   CallsIn Fence.wide n Tryz.prog 93 #[.func (.yield l) #[] #[],.pointer (some ⟨Bs,0,none⟩),.pointer (some ⟨Bl,0,none⟩)] W fun e W'=>(∃v,e=.returned v) ∧
     ((∃ys,ys=vis L s∧J ys W')∨(∃pre,pre <+: vis L s∧Jx pre W')):=by
 have h60:=((Lc.lace_iff L).1 hlc).1;refine callsIn_of_wp Tryz.func93 rfl trivial ?_ rfl;simp only [Tryz.ntmps93,List.size_toArray,List.length_cons,List.length_nil,Nat.reduceAdd,Nat.reduceSub,Array.replicate_succ,Array.replicate_zero,List.push_toArray,List.append_toArray,List.nil_append,List.cons_append];gi_wp2
 gi_loopw [4,5] (fun r i wr=>∃(m:Nat) (hm:m≤L.length) (ri x:Int) (pre:List (Fin L.length)),i=.int .i64 x∧x=(m:Int)-1∧r=.int .i64 ri∧Hid (pre++visF L m hm ri=vis L s)∧Hid (Inv L s m ri)∧Hid (J pre wr)∧Hid (KpL n₀ Bl W wr))
   (fun _ i _=>(intOf i+1).toNat)
 case atStart=>exact⟨L.length,Nat.le_refl _,s,_,[],rfl,by first | omega | go_num,rfl,rfl,inv_start L s h0 h1,hJ0,kpL_refl _ _ _⟩
 case round=>
   obtain⟨m,hm,ri,x,pre,rfl,hx,rfl,HV,HI,HJ,HK⟩:=hrel
   cases m with
   | zero=>
     obtain rfl:x=-1:=by omega
     clear hx;gi_wp2
     go_end0;exact⟨⟨_,rfl⟩,.inl ⟨pre,by have:=HV.out;rw [← this];exact(List.append_nil _).symm,HJ.out⟩⟩
   | succ m=>
     obtain rfl:x=(m:Int):=by omega
     clear hx;have hml:m<L.length:=hm;have hin:Base.inB (m:Int)=true:=(Base.inB_iff _).2 ⟨by omega,by omega⟩;have hok:Base.okB ri=true:=(Base.okB_iff _).2 ⟨HI.out.lo,HI.out.hi⟩
     cases hb:bit ri m
     · have HH:Hid ((Base.okB ri&&(Base.inB (m:Int)&&bit ri m))=false):=by show _=_;simp [hb]
       have HV2:Hid (pre++visF L m (Nat.le_of_succ_le hm) ri=vis L s):=by show _=_;rw [← visF_no L m hm ri hb];exact HV.out
       have HI2:Hid (Inv L s m ri):=inv_skip HI.out hb;clear hb HV HI hin hok;gi_wp2_with (first | (gi_at_call 65;refine(callsIn_wide.2 (Base.has _ _ _)).mono ?_;rintro e w' ⟨rfl,rfl⟩;rw [Int.toNat_natCast,HH.out]) | (refine⟨trivial,?_⟩;gi_at_call 65;refine(callsIn_wide.2 (Base.has _ _ _)).mono ?_;rintro e w' ⟨rfl,rfl⟩;rw [Int.toNat_natCast,HH.out]))
       go_roundw
       case rel=>exact⟨m,Nat.le_of_succ_le hm,ri,_,pre,by go_num,rfl,rfl,HV2,HI2,HJ,HK⟩
       case measure=>simp [intOf]
     · have HH:Hid ((Base.okB ri&&(Base.inB (m:Int)&&bit ri m))=true):=by show _=_;simp [hb,hin,hok]
       have HV2:Hid ((pre++[⟨m,hm⟩])++visF L m (Nat.le_of_succ_le hm) (orB ri (at' L m).frm)=vis L s):=by
         show _=_;rw [List.append_assoc,List.singleton_append,← visF_yes L m hm ri hb];exact HV.out
       have HI2:Hid (Inv L s m (orB ri (at' L m).frm)):=inv_take hlc hml HI.out hb;have hfr:=frm_lace hlc _ (Lc.at_mem L m hml);have HOr:Hid (bits .or .i64 ri (at' L m).frm=orB ri (at' L m).frm):=or_eq _ _ HI.out.lo HI.out.hi hfr.1 hfr.2;have hlen:pre.length<L.length:=by
         have h1:=congrArg List.length HV2.out;have h2:=vis_len L s;simp at h1;omega
       obtain⟨fn,tmps,assign,body,hy,hR⟩:=hY pre ⟨m,hm⟩ wr HJ.out hlen;dsimp only at hy;have HC:Hid (∀W3,KpL n₀ Bl wr W3→W3.cell? ⟨Bl,0,none⟩=some (.slice (some ⟨g,off,none⟩) L.length cap)∧W3.cell? ⟨g,off+m*4+2,none⟩=some (.int .i64 (at' L m).frm)):=by
         intro W3 hk3;have hkk:=kpL_t HK.out hk3;obtain⟨_,hc⟩:=hr.on m hml;exact⟨(cell_block hkk.2).trans hBl,(cellsK_at hc hkk.1 hg).c2⟩
       clear hb HV HI hin hok hfr hlen;gi_wp2_with (first | (gi_at_call 65;refine(callsIn_wide.2 (Base.has _ _ _)).mono ?_;rintro e w' ⟨rfl,rfl⟩;rw [Int.toNat_natCast,HH.out]) | (refine⟨trivial,?_⟩;gi_at_call 65;refine(callsIn_wide.2 (Base.has _ _ _)).mono ?_;rintro e w' ⟨rfl,rfl⟩;rw [Int.toNat_natCast,HH.out]))
       refine hR.mono ?_;rintro e W3 (⟨rfl,hJ3,hk3⟩ | ⟨rfl,hJx3⟩)
       · obtain⟨cl,cf⟩:=HC.out W3 hk3;have HK3:Hid (KpL n₀ Bl W W3):=kpL_t HK.out hk3;have HJ3:Hid (J (pre++[⟨m,hm⟩]) W3):=hJ3;clear hk3 hJ3 hR hy HC HK HJ;gi_wp2
         go_roundw
         case rel=>exact⟨m,Nat.le_of_succ_le hm,_,_,_,by go_num,rfl,by rw [HOr.out],HV2,HI2,HJ3,HK3⟩
         case measure=>simp [intOf]
       · gi_wp2
         refine bodyPost_ret (results_none rfl _ _ _) rfl ?_;exact⟨⟨_,rfl⟩,.inr ⟨pre++[⟨m,hm⟩],⟨_,HV2.out⟩,hJx3⟩⟩
end Sg
end
section
open Go.RowKit Go.Shelf
attribute [local go_sem] Oper.semAt_some
namespace Sg
open Kn (K okK)
open Bit (bit withB)
open Lc (at' RdK CellsK)
theorem boxNew(W:World)(v:Value)(t:TypeId):(W.alloc (.cells #[v] t)).cell? ⟨W.heap.size,0,none⟩=some v∧(W.alloc (.cells #[v] t)).frozen? ⟨W.heap.size,0,none⟩=false:=⟨by simp,by simp⟩
theorem boxCell{W:World}{a:Addr}{v:Value}(o:Obj)(h:W.cell? a=some v):(W.alloc o).cell? a=some v:=cell_kept h (World.grownBy_alloc W o none) (fun r e=>by cases e)
theorem boxFrozen{W:World}{a:Addr}{v:Value}(o:Obj)(h:W.cell? a=some v)(hf:W.frozen? a=false):(W.alloc o).frozen? a=false:=(frozen_kept h (World.grownBy_alloc W o none) (fun r e=>by cases e)).trans hf
theorem put_other(W:World)(b c:Nat)(hbc:b≠c)(u:Value):(W.setCell ⟨c,0,none⟩ u).cell? ⟨b,0,none⟩=W.cell? ⟨b,0,none⟩:=cell_block (Below.heap_setCell W ⟨c,0,none⟩ u b hbc)
theorem under_stops(n:Nat)(hn:1≤n)(Bs Bl n₀ g off cap:Nat)(L:List K)(hlc:Lc.laceB L=true)(s:Int)(h0:0≤s)(h1:s<1152921504606846976)(hg:g<n₀)(w:World)(hs:Bs<w.heap.size)(hl:Bl<w.heap.size)
  (cs:w.cell? ⟨Bs,0,none⟩=some (.int .i64 s)) (cl:w.cell? ⟨Bl,0,none⟩=some (.slice (some ⟨g,off,none⟩) L.length cap)) (hr:RdK w (some ⟨g,off,none⟩) L) :
  SeqStopsK Fence.wide n Tryz.prog 93 #[.pointer (some ⟨Bs,0,none⟩),.pointer (some ⟨Bl,0,none⟩)] (fun x:Fin L.length=>#[Value.int .i64 (x.val:Int)]) (KpL n₀ Bl) (fun ys=>ys=vis L s) (fun pre=>pre <+: vis L s) L.length w:=fun l J Jx W hW _ _ hY hJ=>
 under1 n hn l Bs Bl n₀ g off cap L hlc s h0 h1 hg J Jx hY W ((hW.cell (p:=⟨Bs,0,none⟩) hs).trans cs) ((hW.cell (p:=⟨Bl,0,none⟩) hl).trans cl) (hr.below hW) hJ
theorem under(a:Option Addr)(len cap:Nat)(s:Int)(w:World):Calls Tryz.prog 64 #[.slice a len cap,.int .i64 s] w fun e w'=>
  e=.returned (.func (.func 93) #[] #[.pointer (some ⟨w.heap.size+1,0,none⟩),.pointer (some ⟨w.heap.size,0,none⟩)])∧w'=(w.alloc (.cells #[.slice a len cap] 55)).alloc (.cells #[.int .i64 s] 62):=by
 go_enter Tryz.func64,Tryz.ntmps64
 go_wp2;go_ret;exact⟨rfl,rfl⟩
theorem with_one(k:Int):Base.withI 0 k=oneI k:=by
 unfold Base.withI oneI;by_cases h:0≤k∧k<60
 ·rw [(Base.inB_iff k).2 h,(Base.okB_iff 0).2 (by omega),if_pos h];simp [Bit.withB]
 ·have:Base.inB k=false:=by
   cases hb:Base.inB k
   ·rfl
   ·exact absurd ((Base.inB_iff k).1 hb) h
  rw [this,if_neg h];simp
theorem below(g off cap:Nat)(L:List K)(k:Int)(w:World)(hlc:Lc.laceB L=true)(hg:g<w.heap.size)(hr:RdK w (some ⟨g,off,none⟩) L) :
  Calls Tryz.prog 123 #[.slice (some ⟨g,off,none⟩) L.length cap,.int .i64 k] w fun e w'=>e=.returned (.int .i64 (metI L k))∧Below w.heap.size w w':=by
 have h60:=((Lc.lace_iff L).1 hlc).1;refine(callsIn_wide (n:=3)).1 ?_;refine callsIn_of_wp_marks Tryz.func123 rfl trivial ?_ rfl;simp only [Tryz.ntmps123,List.size_toArray,List.length_cons,List.length_nil,Nat.reduceAdd,Nat.reduceSub,Array.replicate_succ,Array.replicate_zero,List.push_toArray,List.append_toArray,List.nil_append,List.cons_append];gi_wp2_with (first | (refine⟨trivial,?_⟩;gi_at_call 148;refine(callsIn_wide.2 (Base.withM _ _ _)).mono ?_;rintro e w' ⟨rfl,rfl⟩;rw [with_one]) | (refine⟨trivial,?_⟩;gi_at_call 64;refine(callsIn_wide.2 (under _ _ _ _ _)).mono ?_;rintro e w' ⟨rfl,rfl⟩))
 have hB0:Below w.heap.size w (((w.alloc (.cells #[.int .i64 0] 62)).alloc (.cells #[.slice (some ⟨g,off,none⟩) L.length cap] 55)).alloc (.cells #[.int .i64 (oneI k)] 62)):=(((Below.refl _ w).alloc (Nat.le_refl _) _).alloc (by simp) _).alloc (by simp;omega) _;have c0:=boxNew w (.int .i64 0) 62;have c1:=boxNew (w.alloc (.cells #[.int .i64 0] 62)) (.slice (some ⟨g,off,none⟩) L.length cap) 55;have c2:=boxNew ((w.alloc (.cells #[.int .i64 0] 62)).alloc (.cells #[.slice (some ⟨g,off,none⟩) L.length cap] 55)) (.int .i64 (oneI k)) 62;simp only [World.size_alloc] at c1 c2;have hob:=oneI_bd k;refine wpIn_rangeFunc_ownF rfl (by omega) (gf:=93) (lb:=#[.pointer (some ⟨w.heap.size+1+1,0,none⟩),.pointer (some ⟨w.heap.size+1,0,none⟩)]) rfl trivial (enters_of Tryz.func93 (by kernel_rfl) rfl)
  (under_stops 2 (by omega) (w.heap.size+1+1) (w.heap.size+1) w.heap.size g off cap L hlc (oneI k) hob.1 hob.2 hg _ (by simp) (by simp) c2.1 (boxCell _ c1.1) (hr.below hB0)) kpL_t (kpL_b (by simp;omega) (by simp)) (Below.refl _ _) (fun _=>rfl)
  (fun pre W=>(W.cell? ⟨w.heap.size,0,none⟩=some (.int .i64 (gath 0 pre))∧W.frozen? ⟨w.heap.size,0,none⟩=false)∧Below w.heap.size w W)
  (fun _ _ _=>False)
  (OwnFrom.and (Own.from (fun s A B row hs hg hr=>⟨cell_kept hs.1 hg hr,(frozen_kept hs.1 hg hr).trans hs.2⟩) _) (ownFrom_below (Nat.le_refl _) (by simp;omega)))
  (fun _ _ _ _ _ hs _ _=>hs)
  ⟨⟨boxCell _ (boxCell _ c0.1),boxFrozen _ (boxCell _ c0.1) (boxFrozen _ c0.1 c0.2)⟩,hB0⟩
  (fun x=>{ tmps:=#[.slice (some ⟨g,off,none⟩) L.length cap,.int .i64 k,undef,undef,.int .i64 0,.pointer (some ⟨w.heap.size,0,none⟩),.int .i64 (x.val:Int),.slice (some ⟨g,off,none⟩) L.length cap,.int .i64 k,.int .i64 (oneI k),.func (.func 93) #[] #[.pointer (some ⟨w.heap.size+1+1,0,none⟩),.pointer (some ⟨w.heap.size+1,0,none⟩)],.int .i64 (x.val:Int),undef,undef,undef,undef],defers:=[] }) ?assign ?body ?done ?stop
 case assign=>
  intro l x W K hK;gi_wp2
  exact hK
 case body=>
  rintro l pre x W ⟨⟨hc,hf⟩,hB⟩ _;have hx:=x.isLt;have hgb:=gath_bd h60 pre;have HW:Hid (Base.withI (gath 0 pre) (x.val:Int)=gath 0 (pre++[x])):=by
   show _=_;unfold Base.withI;rw [(Base.okB_iff _).2 hgb,(Base.inB_iff _).2 ⟨by omega,by omega⟩,gath_snoc];simp
  clear hgb;gi_wp2_with (refine⟨trivial,?_⟩;gi_at_call 148;refine(CallsIn.inRound l (callsIn_wide.2 (Base.withM _ _ _))).mono ?_;rintro e w' ⟨rfl,rfl⟩;rw [HW.out])
  exact⟨KeepsOthers.setCell _ _ _,kpL_put W w.heap.size (Nat.le_refl _) (by omega) _,⟨World.cell?_setCell_same' _ _ _ (by rw [hc];rfl),by rw [World.frozen?_setCell];exact hf⟩,hB.setCell (p:=⟨w.heap.size,0,none⟩) (Nat.le_refl _) _⟩
 case done=>
  rintro D ys W hD rfl ⟨⟨hc,_⟩,hB⟩ hK;rw [gath_vis hlc k] at hc;gi_wp2
  refine⟨by simp,.inl ⟨_,_,rfl,run_takeDeferred hK,?_⟩⟩;exact⟨_,results_tmp rfl _ _ _,rfl,hB.trans (belowK_b (w:=w) (Nat.le_refl _) W D _ _ (by simp at hD;omega) hK rfl rfl)⟩
 case stop=>
  rintro D c pre W _ _ h _;exact h.elim
theorem vis_in{L:List K}{s:Int}{pre:List (Fin L.length)}(hp:pre <+: vis L s){y:Fin L.length}(hy:y∈pre):y∈vis L s:=hp.subset hy
theorem closed(g off cap:Nat)(L:List K)(s:Int)(w:World)(hlc:Lc.laceB L=true)(hs0:-9223372036854775808≤s)(hs1:s≤9223372036854775807)(hg:g<w.heap.size)(hr:RdK w (some ⟨g,off,none⟩) L) :
  Calls Tryz.prog 32 #[.slice (some ⟨g,off,none⟩) L.length cap,.int .i64 s] w fun e w'=>e=.returned (.bool (Lc.inL L.length s&&closedTo (belows L L.length) s L.length))∧Below w.heap.size w w':=by
 have h60:=((Lc.lace_iff L).1 hlc).1;have hB1:Below w.heap.size w ((w.alloc (.cells #[.int .i64 s] 62)).alloc (.cells #[.bool false] 4)):=((Below.refl _ w).alloc (Nat.le_refl _) _).alloc (by simp) _;have a0:=boxNew w (.int .i64 s) 62;have a1:=boxNew (w.alloc (.cells #[.int .i64 s] 62)) (.bool false) 4;simp only [World.size_alloc] at a1
 cases hin:Lc.inL L.length s
 ·have HT:Hid ((false&&closedTo (belows L L.length) s L.length)=false):=rfl;have HB1:Hid (Below w.heap.size w ((w.alloc (.cells #[.int .i64 s] 62)).alloc (.cells #[.bool false] 4))):=hB1;have HIN:Hid (Lc.inL L.length s=false):=hin;clear hin hB1;rw [HT.out];go_enter Tryz.func32,Tryz.ntmps32
  go_wp2_with (go_at_call 63;refine(Lc.holds _ _ _ s _ h60 hs0 hs1).mono ?_;rintro e w' ⟨rfl,rfl⟩;rw [HIN.out])
  refine bodyPost_ret (v:=.bool false) (by simp [results,Tryz.f32,go_sem]) rfl ?_;exact⟨rfl,HB1.out⟩
 ·have hpar:0≤s∧s<1152921504606846976:=by
   have hset:Lc.setB L s=true:=by rw [Lc.setB_eq,hlc,hin];rfl
   obtain⟨_,q0,q1,_,_,_⟩:=Lc.setB_parts hset;exact⟨q0,q1⟩
  have HIN:Hid (Lc.inL L.length s=true):=hin;clear hin;have hok:Base.okB s=true:=(Base.okB_iff _).2 hpar;have HVC:=vis_closed hlc s hpar.1 hpar.2;refine(callsIn_wide (n:=3)).1 ?_;refine callsIn_of_wp_marks Tryz.func32 rfl trivial ?_ rfl;simp only [Tryz.ntmps32,List.size_toArray,List.length_cons,List.length_nil,Nat.reduceAdd,Nat.reduceSub,Array.replicate_succ,Array.replicate_zero,List.push_toArray,List.append_toArray,List.nil_append,List.cons_append];gi_wp2_with (first | (refine⟨trivial,?_⟩;gi_at_call 63;refine(callsIn_wide.2 (Lc.holds _ _ _ s _ h60 hs0 hs1)).mono ?_;rintro e w' ⟨rfl,rfl⟩;rw [HIN.out]) | (refine⟨trivial,?_⟩;gi_at_call 64;refine(callsIn_wide.2 (under _ _ _ _ _)).mono ?_;rintro e w' ⟨rfl,rfl⟩))
  have hB0:Below w.heap.size w ((((w.alloc (.cells #[.int .i64 s] 62)).alloc (.cells #[.bool false] 4)).alloc (.cells #[.slice (some ⟨g,off,none⟩) L.length cap] 55)).alloc (.cells #[.int .i64 s] 62)):=(hB1.alloc (by simp;omega) _).alloc (by simp;omega) _;have c2:=boxNew ((w.alloc (.cells #[.int .i64 s] 62)).alloc (.cells #[.bool false] 4)) (.slice (some ⟨g,off,none⟩) L.length cap) 55;have c3:=boxNew (((w.alloc (.cells #[.int .i64 s] 62)).alloc (.cells #[.bool false] 4)).alloc (.cells #[.slice (some ⟨g,off,none⟩) L.length cap] 55)) (.int .i64 s) 62;simp only [World.size_alloc] at c2 c3;refine wpIn_rangeFunc_ownF rfl (by omega) (gf:=93) (lb:=#[.pointer (some ⟨w.heap.size+1+1+1,0,none⟩),.pointer (some ⟨w.heap.size+1+1,0,none⟩)]) rfl trivial (enters_of Tryz.func93 (by kernel_rfl) rfl)
   (under_stops 2 (by omega) (w.heap.size+1+1+1) (w.heap.size+1+1) w.heap.size g off cap L hlc s hpar.1 hpar.2 hg _ (by simp) (by simp) c3.1 (boxCell _ c2.1) (hr.below hB0)) kpL_t (kpL_b (by simp;omega) (by simp)) (Below.refl _ _) (fun _=>rfl)
   (fun pre W=>((∀y∈pre,bit s y.val=true)∧W.cell? ⟨w.heap.size,0,none⟩=some (.int .i64 s)∧W.cell? ⟨w.heap.size+1,0,none⟩=some (.bool false)∧W.frozen? ⟨w.heap.size+1,0,none⟩=false)∧Below w.heap.size w W)
   (fun c pre W=>(c=.ret∧(∃y∈pre,bit s y.val=false)∧W.cell? ⟨w.heap.size+1,0,none⟩=some (.bool false))∧Below w.heap.size w W)
   (OwnFrom.and (Own.from (fun s A B row hs hg hr=>⟨hs.1,cell_kept hs.2.1 hg hr,cell_kept hs.2.2.1 hg hr,(frozen_kept hs.2.2.1 hg hr).trans hs.2.2.2⟩) _) (ownFrom_below (Nat.le_refl _) (by simp;omega)))
   (fun c=>OwnFrom.and (Own.from (fun s A B row hs hg hr=>⟨hs.1,hs.2.1,cell_kept hs.2.2 hg hr⟩) _) (ownFrom_below (Nat.le_refl _) (by simp;omega)))
   ⟨⟨by simp,boxCell _ (boxCell _ (boxCell _ a0.1)),boxCell _ (boxCell _ a1.1),boxFrozen _ (boxCell _ a1.1) (boxFrozen _ a1.1 a1.2)⟩,hB0⟩
   (fun x=>{ tmps:=#[.slice (some ⟨g,off,none⟩) L.length cap,.int .i64 s,undef,.pointer (some ⟨w.heap.size,0,none⟩),.pointer (some ⟨w.heap.size+1,0,none⟩),.int .i64 (x.val:Int),.slice (some ⟨g,off,none⟩) L.length cap,.int .i64 s,.bool true,.bool false,.slice (some ⟨g,off,none⟩) L.length cap,.int .i64 s,.func (.func 93) #[] #[.pointer (some ⟨w.heap.size+1+1+1,0,none⟩),.pointer (some ⟨w.heap.size+1+1,0,none⟩)],.int .i64 (x.val:Int),undef,undef,undef,undef],defers:=[] }) ?assign ?body ?done ?stop
  case assign=>
   intro l x W K hK;gi_wp2
   exact hK
  case body=>
   rintro l pre x W ⟨⟨hp,hcs,hcr,hfr⟩,hB⟩ _;have hx:=x.isLt;have hin:Base.inB (x.val:Int)=true:=(Base.inB_iff _).2 ⟨by omega,by omega⟩
   cases hb:bit s x.val
   ·have HH:Hid ((Base.okB s&&(Base.inB (x.val:Int)&&bit s (x.val:Int).toNat))=false):=by show _=_;rw [Int.toNat_natCast,hb];simp
    gi_wp2_with (refine⟨trivial,?_⟩;gi_at_call 65;refine(CallsIn.inRound l (callsIn_wide.2 (Base.has _ _ _))).mono ?_;rintro e w' ⟨rfl,rfl⟩;rw [HH.out])
    exact⟨KeepsOthers.setCell _ _ _,⟨rfl,⟨x,List.mem_append.2 (.inr (by simp)),hb⟩,World.cell?_setCell_same' _ _ _ (by rw [hcr];rfl)⟩,hB.setCell (p:=⟨w.heap.size+1,0,none⟩) (by simp) _⟩
   ·have HH:Hid ((Base.okB s&&(Base.inB (x.val:Int)&&bit s (x.val:Int).toNat))=true):=by show _=_;rw [Int.toNat_natCast,hb,hin,hok];rfl
    gi_wp2_with (refine⟨trivial,?_⟩;gi_at_call 65;refine(CallsIn.inRound l (callsIn_wide.2 (Base.has _ _ _))).mono ?_;rintro e w' ⟨rfl,rfl⟩;rw [HH.out])
    exact⟨KeepsOthers.refl _,kpL_refl _ _ _,⟨fun y hy=>(List.mem_append.1 hy).elim (hp y) (fun e=>by simp at e;subst e;exact hb),hcs,hcr,hfr⟩,hB⟩
  case done=>
   rintro D ys W hD rfl ⟨⟨hall,_,hcr,hfr⟩,hB⟩ hK;have hcl:=HVC.1 hall;gi_wp2
   have hK':=(KeepsOthers.setCell W ⟨w.heap.size+1,0,none⟩ (.bool true)).same D _ hK rfl;refine⟨by simp,.inl ⟨_,_,rfl,run_takeDeferred hK',?_⟩⟩;have hc5:=cell_kept (World.cell?_setCell_same' W ⟨w.heap.size+1,0,none⟩ (.bool true) (by rw [hcr];rfl)) (grownBy_putObj' _ D (.deferred none)) (fun r e=>by cases e;exact⟨_,hK',rfl⟩);refine⟨.bool true,?_,by rw [hcl];rfl,(hB.setCell (p:=⟨w.heap.size+1,0,none⟩) (by simp) _).trans (belowK_b (w:=w) (Nat.le_refl _) _ D _ _ (by simp at hD;omega) hK' rfl rfl)⟩;simp [results,Tryz.f32,go_sem,hc5]
  case stop=>
   rintro D c pre W hD hpre ⟨⟨rfl,⟨y,hy,hyb⟩,hcr⟩,hB⟩ hK;have hcl:closedTo (belows L L.length) s L.length=false:=by
    rw [Bool.eq_false_iff];intro hc;have:=HVC.2 hc y (vis_in hpre hy);rw [hyb] at this;exact Bool.noConfusion this
   gi_wp2
   refine⟨by simp,.inl ⟨_,_,rfl,run_takeDeferred hK,?_⟩⟩;have hc5:=cell_kept hcr (grownBy_putObj' _ D (.deferred none)) (fun r e=>by cases e;exact⟨_,hK,rfl⟩);refine⟨.bool false,?_,by rw [hcl];rfl,hB.trans (belowK_b (w:=w) (Nat.le_refl _) W D _ _ (by simp at hD;omega) hK rfl rfl)⟩;simp [results,Tryz.f32,go_sem,hc5]
theorem met_sees{L:List K}(hlc:Lc.laceB L=true)(a b:Int):(Base.okB (metI L a)&&(Base.inB b&&bit (metI L a) b.toNat))=seesB L a b:=by
 have h60:=((Lc.lace_iff L).1 hlc).1;unfold seesB isB metI;rw [hlc];by_cases ha:0≤a∧a<(L.length:Int)
 ·obtain⟨p,rfl⟩:=Int.eq_ofNat_of_zero_le ha.1;have hp:p<L.length:=by omega
  have hbd:=bel_bd L p (by omega);rw [if_pos ha,Int.toNat_natCast,(Base.okB_iff _).2 hbd];by_cases hb:0≤b∧b<(L.length:Int)
  ·rw [(Base.inB_iff b).2 ⟨hb.1,by omega⟩,decide_eq_true ha.1,decide_eq_true ha.2,decide_eq_true hb.1,decide_eq_true hb.2];rfl
  ·have e2:(decide (0≤b)&&(decide (b<(L.length:Int))&&true))=false:=by
    rw [Bool.eq_false_iff];intro h;simp at h;exact hb h
   rw [e2];simp only [Bool.false_and,Bool.and_false,Bool.true_and];rw [Bool.eq_false_iff];intro h;rw [Bool.and_eq_true] at h;have hb0:=(Base.inB_iff b).1 h.1;have:=reach_le hlc hp ((bel_reach hlc p hp b.toNat).1 h.2);exact hb ⟨hb0.1,by omega⟩
 ·have e1:(decide (0≤a)&&(decide (a<(L.length:Int))&&true))=false:=by
   rw [Bool.eq_false_iff];intro h;simp at h;exact ha h
  rw [if_neg ha,e1,Lc.bit_zero];simp
theorem all_has{n:Nat}(hn:n≤60)(k:Int):(Base.okB (2 ^ n-1)&&(Base.inB k&&bit (2 ^ n-1) k.toNat))=(decide (0≤k)&&decide (k<(n:Int))):=by
 have hp:=Lc.pow60 n hn;have hok:Base.okB (2 ^ n-1)=true:=(Base.okB_iff _).2 ⟨by omega,by omega⟩;have hb:bit (2 ^ n-1) k.toNat=decide (k.toNat<n):=by
  have e:((2:Int) ^ n-1)=((2 ^ n-1:Nat):Int):=by rw [Int.ofNat_sub Nat.one_le_two_pow];simp
  rw [Bit.bit_testBit _ (by omega),e,Int.toNat_natCast,Nat.testBit_two_pow_sub_one]
 rw [hok,hb,Bool.true_and,Bool.eq_iff_iff];simp only [Bool.and_eq_true,decide_eq_true_eq,Base.inB_iff];omega
theorem sees(g off cap:Nat)(L:List K)(a b:Int)(w:World)(hlc:Lc.laceB L=true)(hg:g<w.heap.size)(hr:RdK w (some ⟨g,off,none⟩) L) :
  Calls Tryz.prog 206 #[.slice (some ⟨g,off,none⟩) L.length cap,.int .i64 a,.int .i64 b] w fun e w'=>e=.returned (.bool (seesB L a b))∧Below w.heap.size w w':=by
 have HT:Hid ((Base.okB (metI L a)&&(Base.inB b&&bit (metI L a) b.toNat))=seesB L a b):=met_sees hlc a b;go_enter Tryz.func206,Tryz.ntmps206
 go_wp2_with fail
 refine(below g off cap L a _ hlc hg hr).mono ?_;rintro e w1 ⟨rfl,hb1⟩;go_wp2_with (go_at_call 65;refine(Base.has _ _ _).mono ?_;rintro e w' ⟨rfl,rfl⟩;rw [HT.out])
 go_ret;exact⟨rfl,hb1⟩
theorem closedB_eq(L:List K)(s:Int)(hl:Lc.laceB L=true):(Lc.inL L.length s&&closedTo (belows L L.length) s L.length)=closedB L s:=by
 unfold closedB;rw [Lc.setB_eq,hl];rfl
end Sg
end
section
namespace Rm
open Kn (K okK)
open Bit (bit memTo)
open Lc (at' RdK laceB flat OwnK cellsOf setB)
open Sg (bel belows orB closedB tipsTo closedTo seesB isB)
open Cur (At)
theorem code_below2{w w':World}{a:Option Addr}{len:Nat}(h:Cur.Code w a len)(hb:Below w.heap.size w w'):Cur.Code w' a len:=by
 rcases h with h | ⟨b,off,ha,hlt,hc⟩
 ·exact .inl h
 ·refine .inr ⟨b,off,ha,Nat.lt_of_lt_of_le hlt hb.size,fun j hj=>?_⟩;obtain⟨z,hz,hz'⟩:=hc j hj;exact⟨z,(hb.cell (p:=⟨b,off+j,none⟩) hlt).trans hz,hz'⟩
structure LiesS(w:World)(g:Nat)(L:List K):Prop where
 rd:RdK w (some ⟨g,0,none⟩) L
 len:L.length≤61
 words:Lc.WordsOk L
theorem LiesS.below{w w':World}{g:Nat}{L:List K}(h:LiesS w g L)(hb:Below w.heap.size w w'):LiesS w' g L:=⟨h.rd.below hb,h.len,h.words⟩
theorem drawn_liesS{B:Nat}{w w':World}{v:Value}{L:List K}(h:Drawn B w w' v L):∃g cp,v=.slice (some ⟨g,0,none⟩) L.length cp∧L.length≤cp∧LiesS w' g L:=by
 obtain⟨g,cp,rfl,hcp,_,_,_,hrd,_⟩:=Lc.ownK_shape h.own;exact⟨g,cp,rfl,hcp,hrd,h.len,fun k hk=>by have:=h.word k hk;omega⟩
structure ClosedIs(L:List K)(s:Int):Prop where
 lace:laceB L=true
 s0:0≤s
 s1:s<1152921504606846976
 top:s / 2 ^ L.length=0
 cl:closedTo (belows L L.length) s L.length=true
theorem closedIs{L:List K}{s:Int}(h:closedB L s=true):ClosedIs L s:=by
 unfold Sg.closedB at h;rw [Bool.and_eq_true] at h;obtain⟨hl,h0,h1,ht,_,_⟩:=Lc.setB_parts h.1;exact⟨hl,h0,h1,ht,h.2⟩
end Rm
end
section
namespace Rm
open Kn (K okK)
open Bit (bit memTo withB)
open Lc (at' RdK laceB setB)
open Sg (bel belows orB closedB tipsTo closedTo seesB isB)
theorem isB_iff{L:List K}(hl:laceB L=true)(k:Int):isB L k=true↔0≤k∧k<(L.length:Int):=by
 unfold Sg.isB;rw [hl];simp
end Rm
end
section
namespace Rm
open Kn (K okK)
open Bit (bit memTo)
open Lc (at' RdK laceB flat OwnK cellsOf setB)
open Sg (bel belows orB seesB isB closedB NumsPost)
open Ch (leadK firmN)
open Fm (firmI lastI)
open Cur (At)
structure CoinsW(w:World)(ao:Option Addr)(C:List Int):Prop where
 rd:Lst.Rd w ao C
 at':∀c,ao=some ⟨c,0,none⟩→c<w.heap.size
 len:C.length≤7
theorem CoinsW.below{w w':World}{ao:Option Addr}{C:List Int}(h:CoinsW w ao C)(hb:Below w.heap.size w w'):CoinsW w' ao C:=
 ⟨Ch.rd_below h.rd h.at' hb,fun c e=>Nat.lt_of_lt_of_le (h.at' c e) hb.size,h.len⟩
theorem coinsW_of{w w':World}{v:Value}{L:List K}{ao:Option Addr}{cc:Nat}{C:List Int}(h:DrawnC w w' v L ao cc C):CoinsW w' ao C:=⟨Lst.own_rd h.co,own_at h.co,h.c7⟩
theorem LiesS.lt{w:World}{g:Nat}{L:List K}(h:LiesS w g L)(hL:0<L.length):g<w.heap.size:=(h.rd.on 0 hL).1
structure LiesC(w:World)(g:Nat)(L:List K)(ao:Option Addr)(C:List Int):Prop where
 l:LiesS w g L
 lt:g<w.heap.size
 c:CoinsW w ao C
theorem LiesC.below{w w':World}{g:Nat}{L:List K}{ao:Option Addr}{C:List Int}(h:LiesC w g L ao C)(hb:Below w.heap.size w w'):LiesC w' g L ao C:=⟨h.l.below hb,Nat.lt_of_lt_of_le h.lt hb.size,h.c.below hb⟩
theorem drawn_liesC{w w':World}{v:Value}{L:List K}{ao:Option Addr}{cc:Nat}{C:List Int}(h:DrawnC w w' v L ao cc C):∃g cp,v=.slice (some ⟨g,0,none⟩) L.length cp∧L.length≤cp∧LiesC w' g L ao C:=by
 obtain⟨g,cp,rfl,hcp,hL⟩:=drawn_liesS h.dr;exact⟨g,cp,rfl,hcp,hL,(ownK_at h.dr.own).1,coinsW_of h⟩
end Rm
end
section
namespace Nd
open Kn (K okK)
open Bit (bit withB)
open Lc (at' RdK amongI HandsOk)
open Db (RowI)
def hf(L:List K)(s h:Int)(n:Nat):Int:=amongI (fun k=>decide (k.hand=h)) L s n
theorem hf_step(L:List K)(s h:Int)(n:Nat):hf L s h (n+1)=if bit s n&&decide ((at' L n).hand=h) then withB (hf L s h n) n else hf L s h n:=rfl
theorem hf_bd(L:List K)(s h:Int)(n:Nat)(hn:n≤60):0≤hf L s h n∧hf L s h n<1152921504606846976:=Lc.among_bd _ L s n hn
theorem hf_miss(L:List K)(s:Int)(n:Nat)(hb:bit s n=false):(fun h:Nat=>hf L s h (n+1))=fun h:Nat=>hf L s h n:=by
 funext h;rw [hf_step,hb];simp
theorem hf_hit(L:List K)(s:Int)(n m:Nat)(hb:bit s n=true)(hm:(at' L n).hand=(m:Int)):(fun h:Nat=>if h=m then withB (hf L s m n) n else hf L s h n)=fun h:Nat=>hf L s h (n+1):=by
 funext h;rw [hf_step,hb,hm]
 by_cases e:h=m
 ·subst e;simp
 ·have:¬ ((m:Int)=(h:Int)):=by omega
  rw [if_neg e,decide_eq_false this];simp
theorem rowI_alloc{w:World}{g n:Nat}{D:Nat→Int}(h:RowI w g n D)(o:Obj):RowI (w.alloc o) g n D where
 lt:=by have:=h.lt;simp;omega
 rd:=fun i hi=>by rw [World.cell?_alloc_lt _ _ _ h.lt];exact h.rd i hi
 fr:=fun i hi=>by rw [World.frozen?_alloc_past _ _ _ h.lt];exact h.fr i hi
theorem rowI_other{w:World}{g n:Nat}{D:Nat→Int}(h:RowI w g n D)(c i:Nat)(hc:g≠c)(v:Value):RowI (w.setCell ⟨c,i,none⟩ v) g n D where
 lt:=by simpa using h.lt
 rd:=fun j hj=>(World.cell?_of_block (w:=w) (Below.heap_setCell w ⟨c,i,none⟩ v g hc)).trans (h.rd j hj)
 fr:=fun j hj=>by rw [World.frozen?_setCell];exact h.fr j hj
theorem rowI_four(w:World)(t:TypeId):RowI (w.alloc (.cells #[.int .i64 0,.int .i64 0,.int .i64 0,.int .i64 0] t)) w.heap.size 4 (fun _=>0) where
 lt:=by simp
 rd:=fun i hi=>by
  match i,hi with
  | 0,_=>simp
  | 1,_=>simp
  | 2,_=>simp
  | 3,_=>simp
 fr:=fun i hi=>by
  match i,hi with
  | 0,_=>simp
  | 1,_=>simp
  | 2,_=>simp
  | 3,_=>simp
theorem handfulsOf(g off cap:Nat)(L:List K)(s:Int)(w:World)(hL:L.length≤60)(hs:Base.okB s=true)(hh:HandsOk L)(hr:RdK w (some ⟨g,off,none⟩) L) :
   Calls Tryz.prog 173 #[.slice (some ⟨g,off,none⟩) L.length cap,.int .i64 s] w fun e w'=>
     e=.returned (.agg #[.int .i64 (hf L s 0 L.length),.int .i64 (hf L s 1 L.length),.int .i64 (hf L s 2 L.length),.int .i64 (hf L s 3 L.length)])∧Below w.heap.size w w':=by
 have HO:Hid (Base.okB s=true):=hs;have P0 : Hid (RowI ((w.alloc (.cells #[.int .i64 0,.int .i64 0,.int .i64 0,.int .i64 0] 203)).alloc (.cells #[.int .i64 0,.int .i64 0,.int .i64 0,.int .i64 0] 203)) w.heap.size 4 (fun _=>0) ∧
     RowI ((w.alloc (.cells #[.int .i64 0,.int .i64 0,.int .i64 0,.int .i64 0] 203)).alloc (.cells #[.int .i64 0,.int .i64 0,.int .i64 0,.int .i64 0] 203)) (w.heap.size+1) 4 (fun _=>0) ∧
     Below w.heap.size w ((w.alloc (.cells #[.int .i64 0,.int .i64 0,.int .i64 0,.int .i64 0] 203)).alloc (.cells #[.int .i64 0,.int .i64 0,.int .i64 0,.int .i64 0] 203))):=
   ⟨rowI_alloc (rowI_four w _) _,by have:=rowI_four (w.alloc (.cells #[.int .i64 0,.int .i64 0,.int .i64 0,.int .i64 0] 203)) 203;simpa using this,((Below.refl _ w).alloc (Nat.le_refl _) _).alloc (by simp) _⟩
 clear hs;go_enter Tryz.func173,Tryz.ntmps173
 go_wp2;go_loopw [10] (fun i wr=>∃j:Nat,j≤L.length∧i=.int .i64 j∧Hid (RowI wr w.heap.size 4 (fun _=>0))∧Hid (RowI wr (w.heap.size+1) 4 (fun h=>hf L s h j))∧Hid (Below w.heap.size w wr)) (fun i _=>L.length-(intOf i).toNat)
 case atStart=>exact⟨0,by omega,rfl,P0.out.1,P0.out.2.1,P0.out.2.2⟩
 case round=>
   obtain⟨j,hj,rfl,HR,HF,HB⟩:=hrel;clear P0;by_cases hlt:j<L.length
   · obtain⟨hg,hc⟩:=hr.on j hlt;obtain⟨c0,c1,c2,c3⟩:=hc.below HB.out hg;have hin:Base.inB (j:Int)=true:=(Base.inB_iff _).2 ⟨by omega,by omega⟩;have hk:=hh _ (Lc.at_mem L j hlt)
     cases hb:bit s j
     · have HH:Hid ((Base.okB s&&(Base.inB (j:Int)&&bit s j))=false):=by show _=_;simp [hb]
       have HD:Hid ((fun h:Nat=>hf L s h (j+1))=fun h:Nat=>hf L s h j):=hf_miss L s j hb;clear hb hin hk;go_wp2_with (go_at_call 65;refine(Base.has _ _ _).mono ?_;rintro e w' ⟨rfl,rfl⟩;rw [Int.toNat_natCast,HH.out])
       go_roundw
       case rel=>exact⟨j+1,by omega,by go_num,rowI_alloc HR.out _,by show RowI _ _ _ _;rw [HD.out];exact rowI_alloc HF.out _,HB.out.alloc HB.out.size _⟩
       case measure=>simp [intOf];omega
     · have HH:Hid ((Base.okB s&&(Base.inB (j:Int)&&bit s j))=true):=by show _=_;simp [hb,hin,HO.out]
       obtain⟨m,hm⟩:=Int.eq_ofNat_of_zero_le hk.1;have hm4:m<4:=by omega
       have HD:Hid ((fun h:Nat=>if h=m then withB (hf L s m j) j else hf L s h j)=fun h:Nat=>hf L s h (j+1)):=hf_hit L s j m hb hm;have hbd:=hf_bd L s m j (by omega);have HW:Hid (Base.withI (hf L s m j) (j:Int)=withB (hf L s m j) j):=by
         show _=_;unfold Base.withI;rw [(Base.okB_iff _).2 hbd,hin];simp
       have HR1:Hid (RowI (wr.alloc (.cells #[.int .i64 m,.int .i64 (at' L j).round,.int .i64 (at' L j).frm,.string (at' L j).word] 104)) w.heap.size 4 (fun _=>0)):=rowI_alloc HR.out _;have HF1:Hid (RowI (wr.alloc (.cells #[.int .i64 m,.int .i64 (at' L j).round,.int .i64 (at' L j).frm,.string (at' L j).word] 104)) (w.heap.size+1) 4 (fun h=>hf L s h j)):=rowI_alloc HF.out _;have HB1:Hid (Below w.heap.size w (wr.alloc (.cells #[.int .i64 m,.int .i64 (at' L j).round,.int .i64 (at' L j).frm,.string (at' L j).word] 104))):=HB.out.alloc HB.out.size _;have HK1:Hid ((wr.alloc (.cells #[.int .i64 m,.int .i64 (at' L j).round,.int .i64 (at' L j).frm,.string (at' L j).word] 104)).cell? ⟨wr.heap.size,0,none⟩=some (.int .i64 m)):=by show _=_;simp
       rw [hm] at c0;clear hb hin hk hbd hm HR HF;go_wp2_with (first | (go_at_call 65;refine(Base.has _ _ _).mono ?_;rintro e w' ⟨rfl,rfl⟩;rw [Int.toNat_natCast,HH.out]) | fail)
       clear HH c0 c1 c2 c3 hc;generalize wr.alloc (.cells #[.int .i64 m,.int .i64 (at' L j).round,.int .i64 (at' L j).frm,.string (at' L j).word] 104)=V at HR1 HF1 HB1 HK1 ⊢;generalize wr.heap.size=kb at HK1 ⊢;have d0:=HK1.out;have e1:=HF1.out.rd m hm4;have f1:=HF1.out.fr m hm4;have hmi:(m:Int)<4:=by omega
       have HR2:Hid (RowI (V.setCell ⟨w.heap.size+1,m,none⟩ (.int .i64 (withB (hf L s m j) j))) w.heap.size 4 (fun _=>0)):=rowI_other HR1.out _ _ (by omega) _;have HF2:Hid (RowI (V.setCell ⟨w.heap.size+1,m,none⟩ (.int .i64 (withB (hf L s m j) j))) (w.heap.size+1) 4 (fun h=>hf L s h (j+1))):=by
         show RowI _ _ _ _;rw [← HD.out];exact HF1.out.put m hm4 _
       have HB2:Hid (Below w.heap.size w (V.setCell ⟨w.heap.size+1,m,none⟩ (.int .i64 (withB (hf L s m j) j)))):=HB1.out.setCell (p:=⟨w.heap.size+1,m,none⟩) (by simp) _;clear HR1 HF1 HB1 HK1 HD;generalize hf L s m j=x at e1 HW HR2 HF2 HB2;go_region_with (go_at_call 148;refine(Base.withM _ _ _).mono ?_;rintro e w' ⟨rfl,rfl⟩;rw [HW.out])
       all_goals
         go_wp2;go_roundw
         case rel=>exact⟨j+1,by omega,by go_num,HR2.out.drew,HF2.out.drew,HB2.out.drew⟩
         case measure=>simp [intOf];omega
   · obtain rfl:j=L.length:=by omega
     have r0:=HR.out.rd 0 (by omega);have r1:=HR.out.rd 1 (by omega);have r2:=HR.out.rd 2 (by omega);have r3:=HR.out.rd 3 (by omega);have q0:=HR.out.fr 0 (by omega);have q1:=HR.out.fr 1 (by omega);have q2:=HR.out.fr 2 (by omega);have q3:=HR.out.fr 3 (by omega);have f0:=HF.out.rd 0 (by omega);have f1:=HF.out.rd 1 (by omega);have f2:=HF.out.rd 2 (by omega);have f3:=HF.out.rd 3 (by omega);have HP4 : Hid (∀x0 x1 x2 x3:Int,∃W4,W4=((((wr.setCell ⟨w.heap.size,0,none⟩ (.int .i64 x0)).setCell ⟨w.heap.size,1,none⟩ (.int .i64 x1)).setCell ⟨w.heap.size,2,none⟩ (.int .i64 x2)).setCell ⟨w.heap.size,3,none⟩ (.int .i64 x3)) ∧
         W4.cell? ⟨w.heap.size,0,none⟩=some (.int .i64 x0)∧W4.cell? ⟨w.heap.size,1,none⟩=some (.int .i64 x1)∧W4.cell? ⟨w.heap.size,2,none⟩=some (.int .i64 x2)∧W4.cell? ⟨w.heap.size,3,none⟩=some (.int .i64 x3)∧Below w.heap.size w W4):=fun x0 x1 x2 x3=>by
       have h1:=(((HR.out.put 0 (by omega) x0).put 1 (by omega) x1).put 2 (by omega) x2).put 3 (by omega) x3;refine⟨_,rfl,h1.rd 0 (by omega),h1.rd 1 (by omega),h1.rd 2 (by omega),h1.rd 3 (by omega),?_⟩;exact(((HB.out.setCell (p:=⟨w.heap.size,0,none⟩) (Nat.le_refl _) _).setCell (p:=⟨w.heap.size,1,none⟩) (Nat.le_refl _) _).setCell (p:=⟨w.heap.size,2,none⟩) (Nat.le_refl _) _).setCell (p:=⟨w.heap.size,3,none⟩) (Nat.le_refl _) _
     go_wp2;obtain⟨W4,hW4,k0,k1,k2,k3,hB4⟩:=HP4.out (hf L s 0 L.length) (hf L s 1 L.length) (hf L s 2 L.length) (hf L s 3 L.length);rw [← hW4];refine bodyPost_ret (v:=.agg #[.int .i64 (hf L s 0 L.length),.int .i64 (hf L s 1 L.length),.int .i64 (hf L s 2 L.length),.int .i64 (hf L s 3 L.length)]) (by simp [results,Tryz.f173,go_sem,k0,k1,k2,k3]) rfl ?_;exact⟨rfl,hB4⟩
end Nd
end
section
namespace Db
open Kn (K okK)
open Bit (bit withB)
open Lc (at' RdK WordsOk laceB setB)
open Sg (isB bel belows seesB)
theorem eqSight(x y:Bool)(W:World):(binOp .eql 229 (.agg #[.bool x,.bool y]) (.agg #[.bool false,.bool false])).run Tryz.prog W=.ok (.bool (!x&&!y)) W:=by
 cases x <;> cases y <;> kernel_rfl
theorem twoNew(W:World)(t:TypeId):((W.alloc (.cells #[.bool false,.bool false] t)).cell? ⟨W.heap.size,0,none⟩=some (.bool false)∧(W.alloc (.cells #[.bool false,.bool false] t)).cell? ⟨W.heap.size,1,none⟩=some (.bool false)) ∧
  (W.alloc (.cells #[.bool false,.bool false] t)).frozen? ⟨W.heap.size,0,none⟩=false∧(W.alloc (.cells #[.bool false,.bool false] t)).frozen? ⟨W.heap.size,1,none⟩=false:=⟨⟨by simp,by simp⟩,by simp,by simp⟩
theorem between(g off cap:Nat)(L:List K)(a b:Int)(w:World)(hlc:laceB L=true)(hg:g<w.heap.size)(hr:RdK w (some ⟨g,off,none⟩) L) :
  Calls Tryz.prog 200 #[.slice (some ⟨g,off,none⟩) L.length cap,.int .i64 a,.int .i64 b] w fun e w'=>e=.returned (.agg #[.bool (seesB L a b),.bool (seesB L b a)])∧Below w.heap.size w w':=by
 have hB0:Below w.heap.size w (w.alloc (.cells #[.bool false,.bool false] 229)):=(Below.refl _ w).alloc (Nat.le_refl _) _;have hg0:g<(w.alloc (.cells #[.bool false,.bool false] 229)).heap.size:=by simp;omega
 have hr0:=hr.below hB0;obtain⟨⟨c0,c1⟩,f0,f1⟩:=twoNew w 229;have hs0:w.heap.size<(w.alloc (.cells #[.bool false,.bool false] 229)).heap.size:=by simp
 go_enter Tryz.func200,Tryz.ntmps200
 go_wp2_with fail
 generalize w.alloc (.cells #[.bool false,.bool false] 229)=W0 at hB0 hg0 hr0 c0 c1 f0 f1 hs0 ⊢;refine(Sg.sees g off cap L a b _ hlc hg0 hr0).mono ?_;rintro e w1 ⟨rfl,hb1⟩;have hr1:=hr0.below hb1;have hg1:g<w1.heap.size:=Nat.lt_of_lt_of_le hg0 hb1.size;go_wp2_with fail
 refine(Sg.sees g off cap L b a _ hlc hg1 hr1).mono ?_;rintro e w2 ⟨rfl,hb2⟩;have hb:Below W0.heap.size W0 w2:=hb1.trans (hb2.mono hb1.size);have d0:=(hb.cell (p:=⟨w.heap.size,0,none⟩) hs0).trans c0;have d1:=(hb.cell (p:=⟨w.heap.size,1,none⟩) hs0).trans c1;have e0:=(hb.frozen (p:=⟨w.heap.size,0,none⟩) hs0).trans f0;have e1:=(hb.frozen (p:=⟨w.heap.size,1,none⟩) hs0).trans f1;have HB:Hid (Below w.heap.size w w2):=hB0.trans (hb.mono (Nat.le_of_lt hs0));clear hB0 hg0 hr0 c0 c1 f0 f1 hb1 hr1 hg1 hb2 hb;generalize hx:seesB L a b=x;generalize hy:seesB L b a=y;have HX:Hid (seesB L a b=x∧seesB L b a=y):=⟨hx,hy⟩
 clear hx hy;go_wp2;have k0:((w2.setCell ⟨w.heap.size,0,none⟩ (.bool x)).setCell ⟨w.heap.size,1,none⟩ (.bool y)).cell? ⟨w.heap.size,0,none⟩=some (.bool x):=
  (World.cell?_setCell_other _ _ _ _ (by intro q;injection q with _ q;omega)).trans (World.cell?_setCell_same' _ _ _ (by rw [d0];rfl))
 have k1:((w2.setCell ⟨w.heap.size,0,none⟩ (.bool x)).setCell ⟨w.heap.size,1,none⟩ (.bool y)).cell? ⟨w.heap.size,1,none⟩=some (.bool y):=
  World.cell?_setCell_same' _ _ _ (by rw [World.cell?_setCell_other _ _ _ _ (by intro q;injection q with _ q;omega),d1];rfl)
 refine bodyPost_ret (v:=.agg #[.bool x,.bool y]) (by simp [results,Tryz.f200,go_sem,k0,k1]) rfl ?_;exact⟨by rw [HX.out.1,HX.out.2],(HB.out.setCell (p:=⟨w.heap.size,0,none⟩) (Nat.le_refl _) _).setCell (p:=⟨w.heap.size,1,none⟩) (Nat.le_refl _) _⟩
theorem dbl_sees{L:List K}{a b:Int}(ha:isB L a=true)(hb:isB L b=true):doubledB L a b=(decide ((at' L a.toNat).hand=(at' L b.toNat).hand)&&(!seesB L a b&&!seesB L b a)):=by
 unfold doubledB dblN seesB;rw [ha,hb];simp
theorem isB_lace{L:List K}(hl:laceB L=true)(k:Int):isB L k=(decide (0≤k)&&decide (k<(L.length:Int))):=by unfold isB;rw [hl];simp
theorem doubled(g off cap:Nat)(L:List K)(a b:Int)(w:World)(hlc:laceB L=true)(hg:g<w.heap.size)(hr:RdK w (some ⟨g,off,none⟩) L) :
   Calls Tryz.prog 185 #[.slice (some ⟨g,off,none⟩) L.length cap,.int .i64 a,.int .i64 b] w fun e w'=>e=.returned (.bool (doubledB L a b))∧Below w.heap.size w w':=by
 have h60:=((Lc.lace_iff L).1 hlc).1;have HA:Hid ((Base.okB (2 ^ L.length-1)&&(Base.inB a&&bit (2 ^ L.length-1) a.toNat))=isB L a):=by show _=_;rw [isB_lace hlc];exact Sg.all_has h60 a
 have HC:Hid ((Base.okB (2 ^ L.length-1)&&(Base.inB b&&bit (2 ^ L.length-1) b.toNat))=isB L b):=by show _=_;rw [isB_lace hlc];exact Sg.all_has h60 b
 cases ha:isB L a
 · have HT:Hid (doubledB L a b=false):=by show _=_;unfold doubledB;rw [ha];rfl
   have HAF:Hid ((Base.okB (2 ^ L.length-1)&&(Base.inB a&&bit (2 ^ L.length-1) a.toNat))=false):=HA.out.trans ha;clear ha HA HC;go_enter Tryz.func185,Tryz.ntmps185
   go_wp2_with (first | (go_at_call 75;refine(Lc.all _ _ _ _ h60).mono ?_;rintro e w' ⟨rfl,rfl⟩) | (go_at_call 65;refine(Base.has _ _ _).mono ?_;rintro e w' ⟨rfl,rfl⟩;rw [HAF.out]))
   go_quiet (fail)
   go_wp2;go_ret;exact⟨by rw [HT.out];rfl,Sg.below_drewN (Below.refl _ _) _⟩
 · have HAT:Hid ((Base.okB (2 ^ L.length-1)&&(Base.inB a&&bit (2 ^ L.length-1) a.toNat))=true):=HA.out.trans ha
   cases hb:isB L b
   · have HT:Hid (doubledB L a b=false):=by show _=_;unfold doubledB;rw [hb];simp
     have HCF:Hid ((Base.okB (2 ^ L.length-1)&&(Base.inB b&&bit (2 ^ L.length-1) b.toNat))=false):=HC.out.trans hb;clear ha hb HA HC;go_enter Tryz.func185,Tryz.ntmps185
     go_wp2_with (first | (go_at_call 75;refine(Lc.all _ _ _ _ h60).mono ?_;rintro e w' ⟨rfl,rfl⟩) | (go_at_call 65;refine(Base.has _ _ _).mono ?_;rintro e w' ⟨rfl,rfl⟩;first | rw [HAT.out] | rw [HCF.out]))
     go_quiet (fail)
     go_wp2;go_ret;exact⟨by rw [HT.out];rfl,Sg.below_drewN (Below.refl _ _) _⟩
   · have HCT:Hid ((Base.okB (2 ^ L.length-1)&&(Base.inB b&&bit (2 ^ L.length-1) b.toNat))=true):=HC.out.trans hb;have HT0:Hid (doubledB L a b=(decide ((at' L a.toNat).hand=(at' L b.toNat).hand)&&(!seesB L a b&&!seesB L b a))):=dbl_sees ha hb;obtain⟨p0,p1,_⟩:=Sg.isB_parts ha;obtain⟨q0,q1,_⟩:=Sg.isB_parts hb;clear ha hb HA HC;obtain⟨p,rfl⟩:=Int.eq_ofNat_of_zero_le p0;obtain⟨q,rfl⟩:=Int.eq_ofNat_of_zero_le q0;have hp:p<L.length:=by omega
     have hq:q<L.length:=by omega
     rw [Int.toNat_natCast,Int.toNat_natCast] at HT0;rw [Int.toNat_natCast] at HAT HCT;obtain⟨_,a0,_,_,_⟩:=hr.on p hp;obtain⟨_,b0,_,_,_⟩:=hr.on q hq;by_cases hh:(at' L p).hand=(at' L q).hand
     · have hh1:((at' L p).hand == (at' L q).hand)=true:=by simpa using hh
       have HT1:Hid (doubledB L (p:Int) (q:Int)=(!seesB L (p:Int) (q:Int)&&!seesB L (q:Int) (p:Int))):=by show _=_;rw [HT0.out];simp [hh]
       have HBW:Hid (∀W:World,g<W.heap.size→RdK W (some ⟨g,off,none⟩) L→Calls Tryz.prog 200 #[.slice (some ⟨g,off,none⟩) L.length cap,.int .i64 (p:Int),.int .i64 (q:Int)] W fun e w'=>e=.returned (.agg #[.bool (seesB L (p:Int) (q:Int)),.bool (seesB L (q:Int) (p:Int))])∧Below W.heap.size W w'):=fun W h1 h2=>between g off cap L p q W hlc h1 h2
       have heq:=eqSight (seesB L (p:Int) (q:Int)) (seesB L (q:Int) (p:Int));generalize seesB L (p:Int) (q:Int)=x at HT1 HBW heq;generalize seesB L (q:Int) (p:Int)=y at HT1 HBW heq;clear hh HT0;have HR:Hid (RdK w (some ⟨g,off,none⟩) L):=hr;clear hr;go_enter Tryz.func185,Tryz.ntmps185
       go_wp2_with (first | (go_at_call 75;refine(Lc.all _ _ _ _ h60).mono ?_;rintro e w' ⟨rfl,rfl⟩) | (go_at_call 65;refine(Base.has _ _ _).mono ?_;rintro e w' ⟨rfl,rfl⟩;rw [Int.toNat_natCast];first | rw [HAT.out] | rw [HCT.out]))
       obtain⟨X,_,F,HF,HG⟩:=Fam.fam w;have hc1:∀z,(F z).cell? ⟨g,off+p*4,none⟩=some (.int .i64 (at' L p).hand):=fun z=>((HF.out z).cell (p:=⟨g,off+p*4,none⟩) hg).trans a0
       have hc2:∀z,(F z).cell? ⟨g,off+q*4,none⟩=some (.int .i64 (at' L q).hand):=fun z=>((HF.out z).cell (p:=⟨g,off+q*4,none⟩) hg).trans b0
       clear a0 b0;refine Fam.region (F:=F) (by kernel_rfl) (by kernel_rfl) (HG.out _ (Below.refl _ w).drew) ?_
       repeat (go_big_quiet_step (first
         | (go_at_call 200;exact(HBW.out _ (Nat.lt_of_lt_of_le hg (HF.out _).size) (HR.out.below (HF.out _))).mono fun _ _ h=>⟨h.1,HG.out _ ((HF.out _).trans (h.2.mono (HF.out _).size))⟩)))
       refine wpQuiet_nil ?_;intro w2 hw2;obtain⟨z,rfl⟩:=hw2;have HB2:Hid (Below w.heap.size w (F z)):=HF.out z;go_wp2;go_ret;exact⟨by rw [HT1.out];rfl,HB2.out⟩
     · have hh1:((at' L p).hand == (at' L q).hand)=false:=by simpa using hh
       have HT1:Hid (doubledB L (p:Int) (q:Int)=false):=by show _=_;rw [HT0.out];simp [hh]
       clear hh HT0;go_enter Tryz.func185,Tryz.ntmps185
       go_wp2_with (first | (go_at_call 75;refine(Lc.all _ _ _ _ h60).mono ?_;rintro e w' ⟨rfl,rfl⟩) | (go_at_call 65;refine(Base.has _ _ _).mono ?_;rintro e w' ⟨rfl,rfl⟩;rw [Int.toNat_natCast];first | rw [HAT.out] | rw [HCT.out]))
       go_quiet (fail)
       go_wp2;go_ret;exact⟨by rw [HT1.out];rfl,Sg.below_drewN (Below.refl _ _) _⟩
theorem dbl_step{L:List K}{a:Int}(ha:isB L a=true)(n:Nat)(hn:n<L.length)(hl:laceB L=true):dblS L a.toNat (n+1)=if doubledB L a (n:Int) then withB (dblS L a.toNat n) n else dblS L a.toNat n:=by
 have hb:isB L (n:Int)=true:=by rw [isB_lace hl];simp;omega
 unfold doubledB;rw [ha,hb,Bool.true_and,Bool.true_and,Int.toNat_natCast];rfl
theorem doubles(g off cap:Nat)(L:List K)(a:Int)(w:World)(hlc:laceB L=true)(ha:isB L a=true)(hg:g<w.heap.size)(hr:RdK w (some ⟨g,off,none⟩) L) :
  Calls Tryz.prog 172 #[.slice (some ⟨g,off,none⟩) L.length cap,.int .i64 a] w fun e w'=>e=.returned (.int .i64 (dblS L a.toNat L.length))∧Below w.heap.size w w':=by
 have h60:=((Lc.lace_iff L).1 hlc).1;go_enter Tryz.func172,Tryz.ntmps172
 go_wp2;go_loopw [5,9] (fun o i wr=>∃j:Nat,j≤L.length∧i=.int .i64 j∧o=.int .i64 (dblS L a.toNat j)∧Hid (Below w.heap.size w wr)) (fun _ i _=>L.length-(intOf i).toNat)
 case atStart=>exact⟨0,by omega,rfl,rfl,Below.refl _ _⟩
 case round=>
  obtain⟨j,hj,rfl,rfl,HB⟩:=hrel;by_cases hlt:j<L.length
  ·have HS:Hid (dblS L a.toNat (j+1)=if doubledB L a (j:Int) then withB (dblS L a.toNat j) j else dblS L a.toNat j):=dbl_step ha j hlt hlc;have hbd:=dblS_bd L a.toNat j (by omega);have HW:Hid (Base.withI (dblS L a.toNat j) (j:Int)=withB (dblS L a.toNat j) j):=by
    show _=_;unfold Base.withI;rw [(Base.okB_iff _).2 hbd,(Base.inB_iff _).2 ⟨by omega,by omega⟩];simp
   have hg1:g<wr.heap.size:=Nat.lt_of_lt_of_le hg HB.out.size;have hcall:=doubled g off cap L a (j:Int) wr hlc hg1 (hr.below HB.out);clear hbd;generalize dblS L a.toNat j=x at HS HW ⊢;go_wp2_with fail
   refine hcall.mono ?_;rintro e w1 ⟨rfl,hb1⟩;have HB1:Hid (Below w.heap.size w w1):=HB.out.trans (hb1.mono HB.out.size);clear hcall hb1 HB hg1
   cases hd:doubledB L a (j:Int)
   ·have HD:Hid (dblS L a.toNat (j+1)=x):=by show _=_;rw [HS.out,hd];rfl
    clear hd HS HW;go_wp2;go_roundw
    case rel=>exact⟨j+1,by omega,by go_num,by rw [HD.out],HB1⟩
    case measure=>simp [intOf];omega
   ·have HD:Hid (dblS L a.toNat (j+1)=withB x j):=by show _=_;rw [HS.out,hd];rfl
    clear hd HS;go_wp2_with (go_at_call 148;refine(Base.withM _ _ _).mono ?_;rintro e w' ⟨rfl,rfl⟩;rw [HW.out])
    go_roundw
    case rel=>exact⟨j+1,by omega,by go_num,by rw [HD.out],HB1⟩
    case measure=>simp [intOf];omega
  ·obtain rfl:j=L.length:=by omega
   go_wp2;go_ret;exact⟨rfl,HB.out⟩
end Db
end
end Go.Proofs.YtbkeldfbllhlbaaGreat
