/-
 What the program's own functions on a hand answer: which of a set are its own, the last one of what it keeps, whether it is right; for a lace in memory of the program's own.
-/
import Derived.RangeFuncNested
import Derived.RangeFuncBound
import Derived.RangeFuncCalls
import Derived.RangeFuncLeaves
import Derived.Shelf.Abstract
import Derived.Shelf.RegionOpen
import Derived.OwnWalkIn
import Derived.TacticsInMore
import Derived.LoopNIn
import Derived.LoopIn
import Derived.Test.YtfjmenhofllchaaGreatDoorQag11
namespace Go.Proofs.YtfjmenhofllchaaGreatDoor
open Go.RowKit
set_option maxRecDepth 100000
attribute [local go_sem] Oper.semAt_some
namespace Sg
open Kn (K okK)
open Bit (bit withB)
open Lc (at' RdK CellsK)
def KpL (n₀ Bl : Nat) (W W' : World) : Prop := Below n₀ W W' ∧ W'.heap[Bl]? = W.heap[Bl]?
theorem kpL_t {n₀ Bl : Nat} {A B C : World} (h : KpL n₀ Bl A B) (k : KpL n₀ Bl B C) : KpL n₀ Bl A C := ⟨h.1.trans k.1, k.2.trans h.2⟩
theorem kpL_b {n₀ Bl : Nat} {w : World} (hn : n₀ ≤ w.heap.size) (hB : Bl < w.heap.size) (W : World) (l : Nat) (o o' : Obj) (hl : w.heap.size ≤ l) (h : W.heap[l]? = some o) (h1 : o.isCells = false) (h2 : o.isWalk = false) : KpL n₀ Bl W (W.putObj l o') :=
 ⟨belowK_b hn W l o o' hl h h1 h2, World.putObj_heap_other (by omega)⟩
theorem kpL_refl (n₀ Bl : Nat) (W : World) : KpL n₀ Bl W W := ⟨Below.refl _ _, rfl⟩
theorem kpL_put {n₀ Bl : Nat} (W : World) (b : Nat) (hb : n₀ ≤ b) (hB : Bl ≠ b) (u : Value) : KpL n₀ Bl W (W.setCell ⟨b, 0, none⟩ u) :=
 ⟨(Below.refl n₀ W).setCell (p := ⟨b, 0, none⟩) hb u, Below.heap_setCell W ⟨b, 0, none⟩ u Bl hB⟩
theorem cellsK_at {n₀ : Nat} {w w' : World} {g o : Nat} {k : K} (h : CellsK w g o k) (hb : Below n₀ w w') (hg : g < n₀) : CellsK w' g o k where
 c0 := (hb.cell (p := ⟨g, o, none⟩) hg).trans h.c0
 c1 := (hb.cell (p := ⟨g, o + 1, none⟩) hg).trans h.c1
 c2 := (hb.cell (p := ⟨g, o + 2, none⟩) hg).trans h.c2
 c3 := (hb.cell (p := ⟨g, o + 3, none⟩) hg).trans h.c3
theorem cell_block {w w' : World} {b : Nat} (h : w'.heap[b]? = w.heap[b]?) : w'.cell? ⟨b, 0, none⟩ = w.cell? ⟨b, 0, none⟩ := World.cell?_of_block (w := w) h
set_option maxHeartbeats 2000000 in
theorem under1 (n : Nat) (hn : 1 ≤ n) (l Bs Bl n₀ g off cap : Nat) (L : List K) (hlc : Lc.laceB L = true) (s : Int) (h0 : 0 ≤ s) (h1 : s < 1152921504606846976) (hg : g < n₀) (J Jx : List (Fin L.length) → World → Prop)
   (hY : ∀ pre x W, J pre W → pre.length < L.length → YieldAt Fence.wide (n - 1) Tryz.prog l #[.int .i64 (x.val : Int)] W fun e W' =>
     (e = .returned (.bool true) ∧ J (pre ++ [x]) W' ∧ KpL n₀ Bl W W') ∨ (e = .returned (.bool false) ∧ Jx (pre ++ [x]) W'))
   (W : World) (hBs : W.cell? ⟨Bs, 0, none⟩ = some (.int .i64 s)) (hBl : W.cell? ⟨Bl, 0, none⟩ = some (.slice (some ⟨g, off, none⟩) L.length cap)) (hr : RdK W (some ⟨g, off, none⟩) L) (hJ0 : J [] W) :
   CallsIn Fence.wide n Tryz.prog 143 #[.func (.yield l) #[] #[], .pointer (some ⟨Bs, 0, none⟩), .pointer (some ⟨Bl, 0, none⟩)] W fun e W' => (∃ v, e = .returned v) ∧
     ((∃ ys, ys = vis L s ∧ J ys W') ∨ (∃ pre, pre <+: vis L s ∧ Jx pre W')) := by
 have h60 := ((Lc.lace_iff L).1 hlc).1
 refine callsIn_of_wp Tryz.func143 rfl trivial ?_ rfl
 simp only [Tryz.ntmps143, List.size_toArray, List.length_cons, List.length_nil, Nat.reduceAdd, Nat.reduceSub, Array.replicate_succ, Array.replicate_zero, List.push_toArray, List.append_toArray, List.nil_append, List.cons_append]
 gi_wp2
 gi_loopw [4, 5] (fun r i wr => ∃ (m : Nat) (hm : m ≤ L.length) (ri x : Int) (pre : List (Fin L.length)), i = .int .i64 x ∧ x = (m : Int) - 1 ∧ r = .int .i64 ri ∧ Hid (pre ++ visF L m hm ri = vis L s) ∧ Hid (Inv L s m ri) ∧ Hid (J pre wr) ∧ Hid (KpL n₀ Bl W wr))
   (fun _ i _ => (intOf i + 1).toNat)
 case atStart => exact ⟨L.length, Nat.le_refl _, s, _, [], rfl, by first | omega | go_num, rfl, rfl, inv_start L s h0 h1, hJ0, kpL_refl _ _ _⟩
 case round =>
   obtain ⟨m, hm, ri, x, pre, rfl, hx, rfl, HV, HI, HJ, HK⟩ := hrel
   cases m with
   | zero =>
     obtain rfl : x = -1 := by omega
     clear hx
     gi_wp2
     go_end0
     exact ⟨⟨_, rfl⟩, .inl ⟨pre, by have := HV.out; rw [← this]; exact (List.append_nil _).symm, HJ.out⟩⟩
   | succ m =>
     obtain rfl : x = (m : Int) := by omega
     clear hx
     have hml : m < L.length := hm
     have hin : Base.inB (m : Int) = true := (Base.inB_iff _).2 ⟨by omega, by omega⟩
     have hok : Base.okB ri = true := (Base.okB_iff _).2 ⟨HI.out.lo, HI.out.hi⟩
     cases hb : bit ri m
     · have HH : Hid ((Base.okB ri && (Base.inB (m : Int) && bit ri m)) = false) := by show _ = _; simp [hb]
       have HV2 : Hid (pre ++ visF L m (Nat.le_of_succ_le hm) ri = vis L s) := by show _ = _; rw [← visF_no L m hm ri hb]; exact HV.out
       have HI2 : Hid (Inv L s m ri) := inv_skip HI.out hb
       clear hb HV HI hin hok
       gi_wp2_with (first | (gi_at_call 86; refine (callsIn_wide.2 (Base.has _ _ _)).mono ?_; rintro e w' ⟨rfl, rfl⟩; rw [Int.toNat_natCast, HH.out]) | (refine ⟨trivial, ?_⟩; gi_at_call 86; refine (callsIn_wide.2 (Base.has _ _ _)).mono ?_; rintro e w' ⟨rfl, rfl⟩; rw [Int.toNat_natCast, HH.out]))
       go_roundw
       case rel => exact ⟨m, Nat.le_of_succ_le hm, ri, _, pre, by go_num, rfl, rfl, HV2, HI2, HJ, HK⟩
       case measure => simp [intOf]
     · have HH : Hid ((Base.okB ri && (Base.inB (m : Int) && bit ri m)) = true) := by show _ = _; simp [hb, hin, hok]
       have HV2 : Hid ((pre ++ [⟨m, hm⟩]) ++ visF L m (Nat.le_of_succ_le hm) (orB ri (at' L m).frm) = vis L s) := by
         show _ = _
         rw [List.append_assoc, List.singleton_append, ← visF_yes L m hm ri hb]; exact HV.out
       have HI2 : Hid (Inv L s m (orB ri (at' L m).frm)) := inv_take hlc hml HI.out hb
       have hfr := frm_lace hlc _ (Lc.at_mem L m hml)
       have HOr : Hid (bits .or .i64 ri (at' L m).frm = orB ri (at' L m).frm) := or_eq _ _ HI.out.lo HI.out.hi hfr.1 hfr.2
       have hlen : pre.length < L.length := by
         have h1 := congrArg List.length HV2.out
         have h2 := vis_len L s
         simp at h1; omega
       obtain ⟨fn, tmps, assign, body, hy, hR⟩ := hY pre ⟨m, hm⟩ wr HJ.out hlen
       dsimp only at hy
       have HC : Hid (∀ W3, KpL n₀ Bl wr W3 → W3.cell? ⟨Bl, 0, none⟩ = some (.slice (some ⟨g, off, none⟩) L.length cap) ∧ W3.cell? ⟨g, off + m * 4 + 2, none⟩ = some (.int .i64 (at' L m).frm)) := by
         intro W3 hk3
         have hkk := kpL_t HK.out hk3
         obtain ⟨_, hc⟩ := hr.on m hml
         exact ⟨(cell_block hkk.2).trans hBl, (cellsK_at hc hkk.1 hg).c2⟩
       clear hb HV HI hin hok hfr hlen
       gi_wp2_with (first | (gi_at_call 86; refine (callsIn_wide.2 (Base.has _ _ _)).mono ?_; rintro e w' ⟨rfl, rfl⟩; rw [Int.toNat_natCast, HH.out]) | (refine ⟨trivial, ?_⟩; gi_at_call 86; refine (callsIn_wide.2 (Base.has _ _ _)).mono ?_; rintro e w' ⟨rfl, rfl⟩; rw [Int.toNat_natCast, HH.out]))
       refine hR.mono ?_
       rintro e W3 (⟨rfl, hJ3, hk3⟩ | ⟨rfl, hJx3⟩)
       · obtain ⟨cl, cf⟩ := HC.out W3 hk3
         have HK3 : Hid (KpL n₀ Bl W W3) := kpL_t HK.out hk3
         have HJ3 : Hid (J (pre ++ [⟨m, hm⟩]) W3) := hJ3
         clear hk3 hJ3 hR hy HC HK HJ
         gi_wp2
         go_roundw
         case rel => exact ⟨m, Nat.le_of_succ_le hm, _, _, _, by go_num, rfl, by rw [HOr.out], HV2, HI2, HJ3, HK3⟩
         case measure => simp [intOf]
       · gi_wp2
         refine bodyPost_ret (results_none rfl _ _ _) rfl ?_
         exact ⟨⟨_, rfl⟩, .inr ⟨pre ++ [⟨m, hm⟩], ⟨_, HV2.out⟩, hJx3⟩⟩
end Sg
end Go.Proofs.YtfjmenhofllchaaGreatDoor
namespace Go.Proofs.YtfjmenhofllchaaGreatDoor
open Go.RowKit Go.Shelf
set_option maxRecDepth 100000
attribute [local go_sem] Oper.semAt_some
namespace Sg
open Kn (K okK)
open Bit (bit withB)
open Lc (at' RdK CellsK)
theorem boxNew (W : World) (v : Value) (t : TypeId) : (W.alloc (.cells #[v] t)).cell? ⟨W.heap.size, 0, none⟩ = some v ∧ (W.alloc (.cells #[v] t)).frozen? ⟨W.heap.size, 0, none⟩ = false := ⟨by simp, by simp⟩
theorem boxCell {W : World} {a : Addr} {v : Value} (o : Obj) (h : W.cell? a = some v) : (W.alloc o).cell? a = some v := cell_kept h (World.grownBy_alloc W o none) (fun r e => by cases e)
theorem boxFrozen {W : World} {a : Addr} {v : Value} (o : Obj) (h : W.cell? a = some v) (hf : W.frozen? a = false) : (W.alloc o).frozen? a = false := (frozen_kept h (World.grownBy_alloc W o none) (fun r e => by cases e)).trans hf
theorem kpL_drew {n₀ Bl : Nat} {W W' : World} (h : KpL n₀ Bl W W') : KpL n₀ Bl W W'.drew := ⟨h.1.drew, h.2⟩
theorem put_other (W : World) (b c : Nat) (hbc : b ≠ c) (u : Value) : (W.setCell ⟨c, 0, none⟩ u).cell? ⟨b, 0, none⟩ = W.cell? ⟨b, 0, none⟩ := cell_block (Below.heap_setCell W ⟨c, 0, none⟩ u b hbc)
theorem under_stops (n : Nat) (hn : 1 ≤ n) (Bs Bl n₀ g off cap : Nat) (L : List K) (hlc : Lc.laceB L = true) (s : Int) (h0 : 0 ≤ s) (h1 : s < 1152921504606846976) (hg : g < n₀) (w : World) (hs : Bs < w.heap.size) (hl : Bl < w.heap.size)
   (cs : w.cell? ⟨Bs, 0, none⟩ = some (.int .i64 s)) (cl : w.cell? ⟨Bl, 0, none⟩ = some (.slice (some ⟨g, off, none⟩) L.length cap)) (hr : RdK w (some ⟨g, off, none⟩) L) :
   SeqStopsK Fence.wide n Tryz.prog 143 #[.pointer (some ⟨Bs, 0, none⟩), .pointer (some ⟨Bl, 0, none⟩)] (fun x : Fin L.length => #[Value.int .i64 (x.val : Int)]) (KpL n₀ Bl) (fun ys => ys = vis L s) (fun pre => pre <+: vis L s) L.length w := fun l J Jx W hW _ _ hY hJ =>
 under1 n hn l Bs Bl n₀ g off cap L hlc s h0 h1 hg J Jx hY W ((hW.cell (p := ⟨Bs, 0, none⟩) hs).trans cs) ((hW.cell (p := ⟨Bl, 0, none⟩) hl).trans cl) (hr.below hW) hJ
set_option maxHeartbeats 400000 in
theorem under (a : Option Addr) (len cap : Nat) (s : Int) (w : World) : Calls Tryz.prog 121 #[.slice a len cap, .int .i64 s] w fun e w' =>
   e = .returned (.func (.func 143) #[] #[.pointer (some ⟨w.heap.size + 1, 0, none⟩), .pointer (some ⟨w.heap.size, 0, none⟩)]) ∧ w' = (w.alloc (.cells #[.slice a len cap] 62)).alloc (.cells #[.int .i64 s] 64) := by
 go_enter Tryz.func121, Tryz.ntmps121
 go_wp2
 go_ret
 exact ⟨rfl, rfl⟩
theorem with_one (k : Int) : Base.withI 0 k = oneI k := by
 unfold Base.withI oneI
 by_cases h : 0 ≤ k ∧ k < 60
 · rw [(Base.inB_iff k).2 h, (Base.okB_iff 0).2 (by omega), if_pos h]
   simp [Bit.withB]
 · have : Base.inB k = false := by
     cases hb : Base.inB k
     · rfl
     · exact absurd ((Base.inB_iff k).1 hb) h
   rw [this, if_neg h]; simp
set_option maxHeartbeats 2000000 in
theorem below (g off cap : Nat) (L : List K) (k : Int) (w : World) (hlc : Lc.laceB L = true) (hg : g < w.heap.size) (hr : RdK w (some ⟨g, off, none⟩) L) :
   Calls Tryz.prog 84 #[.slice (some ⟨g, off, none⟩) L.length cap, .int .i64 k] w fun e w' => e = .returned (.int .i64 (metI L k)) ∧ Below w.heap.size w w' := by
 have h60 := ((Lc.lace_iff L).1 hlc).1
 refine (callsIn_wide (n := 3)).1 ?_
 refine callsIn_of_wp_marks Tryz.func84 rfl trivial ?_ rfl
 simp only [Tryz.ntmps84, List.size_toArray, List.length_cons, List.length_nil, Nat.reduceAdd, Nat.reduceSub, Array.replicate_succ, Array.replicate_zero, List.push_toArray, List.append_toArray, List.nil_append, List.cons_append]
 gi_wp2_with (first | (refine ⟨trivial, ?_⟩; gi_at_call 87; refine (callsIn_wide.2 (Base.withM _ _ _)).mono ?_; rintro e w' ⟨rfl, rfl⟩; rw [with_one]) | (refine ⟨trivial, ?_⟩; gi_at_call 121; refine (callsIn_wide.2 (under _ _ _ _ _)).mono ?_; rintro e w' ⟨rfl, rfl⟩))
 have hB0 : Below w.heap.size w (((w.alloc (.cells #[.int .i64 0] 64)).alloc (.cells #[.slice (some ⟨g, off, none⟩) L.length cap] 62)).alloc (.cells #[.int .i64 (oneI k)] 64)) := (((Below.refl _ w).alloc (Nat.le_refl _) _).alloc (by simp) _).alloc (by simp; omega) _
 have c0 := boxNew w (.int .i64 0) 64
 have c1 := boxNew (w.alloc (.cells #[.int .i64 0] 64)) (.slice (some ⟨g, off, none⟩) L.length cap) 62
 have c2 := boxNew ((w.alloc (.cells #[.int .i64 0] 64)).alloc (.cells #[.slice (some ⟨g, off, none⟩) L.length cap] 62)) (.int .i64 (oneI k)) 64
 simp only [World.size_alloc] at c1 c2
 have hob := oneI_bd k
 refine wpIn_rangeFunc_ownF rfl (by omega) (gf := 143) (lb := #[.pointer (some ⟨w.heap.size + 1 + 1, 0, none⟩), .pointer (some ⟨w.heap.size + 1, 0, none⟩)]) rfl trivial (enters_of Tryz.func143 (by kernel_rfl) rfl)
   (under_stops 2 (by omega) (w.heap.size + 1 + 1) (w.heap.size + 1) w.heap.size g off cap L hlc (oneI k) hob.1 hob.2 hg _ (by simp) (by simp) c2.1 (boxCell _ c1.1) (hr.below hB0)) kpL_t (kpL_b (by simp; omega) (by simp)) (Below.refl _ _) (fun _ => rfl)
   (fun pre W => (W.cell? ⟨w.heap.size, 0, none⟩ = some (.int .i64 (gath 0 pre)) ∧ W.frozen? ⟨w.heap.size, 0, none⟩ = false) ∧ Below w.heap.size w W)
   (fun _ _ _ => False)
   (OwnFrom.and (Own.from (fun s A B row hs hg hr => ⟨cell_kept hs.1 hg hr, (frozen_kept hs.1 hg hr).trans hs.2⟩) _) (ownFrom_below (Nat.le_refl _) (by simp; omega)))
   (fun _ _ _ _ _ hs _ _ => hs)
   ⟨⟨boxCell _ (boxCell _ c0.1), boxFrozen _ (boxCell _ c0.1) (boxFrozen _ c0.1 c0.2)⟩, hB0⟩
   (fun x => { tmps := #[.slice (some ⟨g, off, none⟩) L.length cap, .int .i64 k, undef, undef, .int .i64 0, .pointer (some ⟨w.heap.size, 0, none⟩), .int .i64 (x.val : Int), .slice (some ⟨g, off, none⟩) L.length cap, .int .i64 k, .int .i64 (oneI k), .func (.func 143) #[] #[.pointer (some ⟨w.heap.size + 1 + 1, 0, none⟩), .pointer (some ⟨w.heap.size + 1, 0, none⟩)], .int .i64 (x.val : Int), undef, undef, undef, undef], defers := [] }) ?assign ?body ?done ?stop
 case assign =>
   intro l x W K hK
   gi_wp2
   exact hK
 case body =>
   rintro l pre x W ⟨⟨hc, hf⟩, hB⟩ _
   have hx := x.isLt
   have hgb := gath_bd h60 pre
   have HW : Hid (Base.withI (gath 0 pre) (x.val : Int) = gath 0 (pre ++ [x])) := by
     show _ = _
     unfold Base.withI
     rw [(Base.okB_iff _).2 hgb, (Base.inB_iff _).2 ⟨by omega, by omega⟩, gath_snoc]; simp
   clear hgb
   gi_wp2_with (refine ⟨trivial, ?_⟩; gi_at_call 87; refine (CallsIn.inRound l (callsIn_wide.2 (Base.withM _ _ _))).mono ?_; rintro e w' ⟨rfl, rfl⟩; rw [HW.out])
   exact ⟨KeepsOthers.setCell _ _ _, kpL_put W w.heap.size (Nat.le_refl _) (by omega) _, ⟨World.cell?_setCell_same' _ _ _ (by rw [hc]; rfl), by rw [World.frozen?_setCell]; exact hf⟩, hB.setCell (p := ⟨w.heap.size, 0, none⟩) (Nat.le_refl _) _⟩
 case done =>
   rintro D ys W hD rfl ⟨⟨hc, _⟩, hB⟩ hK
   rw [gath_vis hlc k] at hc
   gi_wp2
   refine ⟨by simp, .inl ⟨_, _, rfl, run_takeDeferred hK, ?_⟩⟩
   exact ⟨_, results_tmp rfl _ _ _, rfl, hB.trans (belowK_b (w := w) (Nat.le_refl _) W D _ _ (by simp at hD; omega) hK rfl rfl)⟩
 case stop =>
   rintro D c pre W _ _ h _
   exact h.elim
theorem vis_in {L : List K} {s : Int} {pre : List (Fin L.length)} (hp : pre <+: vis L s) {y : Fin L.length} (hy : y ∈ pre) : y ∈ vis L s := hp.subset hy
set_option maxHeartbeats 2000000 in
theorem closed (g off cap : Nat) (L : List K) (s : Int) (w : World) (hlc : Lc.laceB L = true) (hs0 : -9223372036854775808 ≤ s) (hs1 : s ≤ 9223372036854775807) (hg : g < w.heap.size) (hr : RdK w (some ⟨g, off, none⟩) L) :
   Calls Tryz.prog 131 #[.slice (some ⟨g, off, none⟩) L.length cap, .int .i64 s] w fun e w' => e = .returned (.bool (Lc.inL L.length s && closedTo (belows L L.length) s L.length)) ∧ Below w.heap.size w w' := by
 have h60 := ((Lc.lace_iff L).1 hlc).1
 have hB1 : Below w.heap.size w ((w.alloc (.cells #[.int .i64 s] 64)).alloc (.cells #[.bool false] 4)) := ((Below.refl _ w).alloc (Nat.le_refl _) _).alloc (by simp) _
 have a0 := boxNew w (.int .i64 s) 64
 have a1 := boxNew (w.alloc (.cells #[.int .i64 s] 64)) (.bool false) 4
 simp only [World.size_alloc] at a1
 cases hin : Lc.inL L.length s
 · have HT : Hid ((false && closedTo (belows L L.length) s L.length) = false) := rfl
   have HB1 : Hid (Below w.heap.size w ((w.alloc (.cells #[.int .i64 s] 64)).alloc (.cells #[.bool false] 4))) := hB1
   have HIN : Hid (Lc.inL L.length s = false) := hin
   clear hin hB1
   rw [HT.out]
   go_enter Tryz.func131, Tryz.ntmps131
   go_wp2_with (go_at_call 146; refine (Lc.holds _ _ _ s _ h60 hs0 hs1).mono ?_; rintro e w' ⟨rfl, rfl⟩; rw [HIN.out])
   refine bodyPost_ret (v := .bool false) (by simp [results, Tryz.f131, go_sem]) rfl ?_
   exact ⟨rfl, HB1.out⟩
 · have hpar : 0 ≤ s ∧ s < 1152921504606846976 := by
     have hset : Lc.setB L s = true := by rw [Lc.setB_eq, hlc, hin]; rfl
     obtain ⟨_, q0, q1, _, _, _⟩ := Lc.setB_parts hset
     exact ⟨q0, q1⟩
   have HIN : Hid (Lc.inL L.length s = true) := hin
   clear hin
   have hok : Base.okB s = true := (Base.okB_iff _).2 hpar
   have HVC := vis_closed hlc s hpar.1 hpar.2
   refine (callsIn_wide (n := 3)).1 ?_
   refine callsIn_of_wp_marks Tryz.func131 rfl trivial ?_ rfl
   simp only [Tryz.ntmps131, List.size_toArray, List.length_cons, List.length_nil, Nat.reduceAdd, Nat.reduceSub, Array.replicate_succ, Array.replicate_zero, List.push_toArray, List.append_toArray, List.nil_append, List.cons_append]
   gi_wp2_with (first | (refine ⟨trivial, ?_⟩; gi_at_call 146; refine (callsIn_wide.2 (Lc.holds _ _ _ s _ h60 hs0 hs1)).mono ?_; rintro e w' ⟨rfl, rfl⟩; rw [HIN.out]) | (refine ⟨trivial, ?_⟩; gi_at_call 121; refine (callsIn_wide.2 (under _ _ _ _ _)).mono ?_; rintro e w' ⟨rfl, rfl⟩))
   have hB0 : Below w.heap.size w ((((w.alloc (.cells #[.int .i64 s] 64)).alloc (.cells #[.bool false] 4)).alloc (.cells #[.slice (some ⟨g, off, none⟩) L.length cap] 62)).alloc (.cells #[.int .i64 s] 64)) := (hB1.alloc (by simp; omega) _).alloc (by simp; omega) _
   have c2 := boxNew ((w.alloc (.cells #[.int .i64 s] 64)).alloc (.cells #[.bool false] 4)) (.slice (some ⟨g, off, none⟩) L.length cap) 62
   have c3 := boxNew (((w.alloc (.cells #[.int .i64 s] 64)).alloc (.cells #[.bool false] 4)).alloc (.cells #[.slice (some ⟨g, off, none⟩) L.length cap] 62)) (.int .i64 s) 64
   simp only [World.size_alloc] at c2 c3
   refine wpIn_rangeFunc_ownF rfl (by omega) (gf := 143) (lb := #[.pointer (some ⟨w.heap.size + 1 + 1 + 1, 0, none⟩), .pointer (some ⟨w.heap.size + 1 + 1, 0, none⟩)]) rfl trivial (enters_of Tryz.func143 (by kernel_rfl) rfl)
     (under_stops 2 (by omega) (w.heap.size + 1 + 1 + 1) (w.heap.size + 1 + 1) w.heap.size g off cap L hlc s hpar.1 hpar.2 hg _ (by simp) (by simp) c3.1 (boxCell _ c2.1) (hr.below hB0)) kpL_t (kpL_b (by simp; omega) (by simp)) (Below.refl _ _) (fun _ => rfl)
     (fun pre W => ((∀ y ∈ pre, bit s y.val = true) ∧ W.cell? ⟨w.heap.size, 0, none⟩ = some (.int .i64 s) ∧ W.cell? ⟨w.heap.size + 1, 0, none⟩ = some (.bool false) ∧ W.frozen? ⟨w.heap.size + 1, 0, none⟩ = false) ∧ Below w.heap.size w W)
     (fun c pre W => (c = .ret ∧ (∃ y ∈ pre, bit s y.val = false) ∧ W.cell? ⟨w.heap.size + 1, 0, none⟩ = some (.bool false)) ∧ Below w.heap.size w W)
     (OwnFrom.and (Own.from (fun s A B row hs hg hr => ⟨hs.1, cell_kept hs.2.1 hg hr, cell_kept hs.2.2.1 hg hr, (frozen_kept hs.2.2.1 hg hr).trans hs.2.2.2⟩) _) (ownFrom_below (Nat.le_refl _) (by simp; omega)))
     (fun c => OwnFrom.and (Own.from (fun s A B row hs hg hr => ⟨hs.1, hs.2.1, cell_kept hs.2.2 hg hr⟩) _) (ownFrom_below (Nat.le_refl _) (by simp; omega)))
     ⟨⟨by simp, boxCell _ (boxCell _ (boxCell _ a0.1)), boxCell _ (boxCell _ a1.1), boxFrozen _ (boxCell _ a1.1) (boxFrozen _ a1.1 a1.2)⟩, hB0⟩
     (fun x => { tmps := #[.slice (some ⟨g, off, none⟩) L.length cap, .int .i64 s, undef, .pointer (some ⟨w.heap.size, 0, none⟩), .pointer (some ⟨w.heap.size + 1, 0, none⟩), .int .i64 (x.val : Int), .slice (some ⟨g, off, none⟩) L.length cap, .int .i64 s, .bool true, .bool false, .slice (some ⟨g, off, none⟩) L.length cap, .int .i64 s, .func (.func 143) #[] #[.pointer (some ⟨w.heap.size + 1 + 1 + 1, 0, none⟩), .pointer (some ⟨w.heap.size + 1 + 1, 0, none⟩)], .int .i64 (x.val : Int), undef, undef, undef, undef], defers := [] }) ?assign ?body ?done ?stop
   case assign =>
     intro l x W K hK
     gi_wp2
     exact hK
   case body =>
     rintro l pre x W ⟨⟨hp, hcs, hcr, hfr⟩, hB⟩ _
     have hx := x.isLt
     have hin : Base.inB (x.val : Int) = true := (Base.inB_iff _).2 ⟨by omega, by omega⟩
     cases hb : bit s x.val
     · have HH : Hid ((Base.okB s && (Base.inB (x.val : Int) && bit s (x.val : Int).toNat)) = false) := by show _ = _; rw [Int.toNat_natCast, hb]; simp
       gi_wp2_with (refine ⟨trivial, ?_⟩; gi_at_call 86; refine (CallsIn.inRound l (callsIn_wide.2 (Base.has _ _ _))).mono ?_; rintro e w' ⟨rfl, rfl⟩; rw [HH.out])
       exact ⟨KeepsOthers.setCell _ _ _, ⟨rfl, ⟨x, List.mem_append.2 (.inr (by simp)), hb⟩, World.cell?_setCell_same' _ _ _ (by rw [hcr]; rfl)⟩, hB.setCell (p := ⟨w.heap.size + 1, 0, none⟩) (by simp) _⟩
     · have HH : Hid ((Base.okB s && (Base.inB (x.val : Int) && bit s (x.val : Int).toNat)) = true) := by show _ = _; rw [Int.toNat_natCast, hb, hin, hok]; rfl
       gi_wp2_with (refine ⟨trivial, ?_⟩; gi_at_call 86; refine (CallsIn.inRound l (callsIn_wide.2 (Base.has _ _ _))).mono ?_; rintro e w' ⟨rfl, rfl⟩; rw [HH.out])
       exact ⟨KeepsOthers.refl _, kpL_refl _ _ _, ⟨fun y hy => (List.mem_append.1 hy).elim (hp y) (fun e => by simp at e; subst e; exact hb), hcs, hcr, hfr⟩, hB⟩
   case done =>
     rintro D ys W hD rfl ⟨⟨hall, _, hcr, hfr⟩, hB⟩ hK
     have hcl := HVC.1 hall
     gi_wp2
     have hK' := (KeepsOthers.setCell W ⟨w.heap.size + 1, 0, none⟩ (.bool true)).same D _ hK rfl
     refine ⟨by simp, .inl ⟨_, _, rfl, run_takeDeferred hK', ?_⟩⟩
     have hc5 := cell_kept (World.cell?_setCell_same' W ⟨w.heap.size + 1, 0, none⟩ (.bool true) (by rw [hcr]; rfl)) (grownBy_putObj' _ D (.deferred none)) (fun r e => by cases e; exact ⟨_, hK', rfl⟩)
     refine ⟨.bool true, ?_, by rw [hcl]; rfl, (hB.setCell (p := ⟨w.heap.size + 1, 0, none⟩) (by simp) _).trans (belowK_b (w := w) (Nat.le_refl _) _ D _ _ (by simp at hD; omega) hK' rfl rfl)⟩
     simp [results, Tryz.f131, go_sem, hc5]
   case stop =>
     rintro D c pre W hD hpre ⟨⟨rfl, ⟨y, hy, hyb⟩, hcr⟩, hB⟩ hK
     have hcl : closedTo (belows L L.length) s L.length = false := by
       rw [Bool.eq_false_iff]
       intro hc
       have := HVC.2 hc y (vis_in hpre hy)
       rw [hyb] at this; exact Bool.noConfusion this
     gi_wp2
     refine ⟨by simp, .inl ⟨_, _, rfl, run_takeDeferred hK, ?_⟩⟩
     have hc5 := cell_kept hcr (grownBy_putObj' _ D (.deferred none)) (fun r e => by cases e; exact ⟨_, hK, rfl⟩)
     refine ⟨.bool false, ?_, by rw [hcl]; rfl, hB.trans (belowK_b (w := w) (Nat.le_refl _) W D _ _ (by simp at hD; omega) hK rfl rfl)⟩
     simp [results, Tryz.f131, go_sem, hc5]
set_option maxHeartbeats 2000000 in
theorem tips (g off cap : Nat) (L : List K) (s : Int) (w : World) (hlc : Lc.laceB L = true) (h0 : 0 ≤ s) (h1 : s < 1152921504606846976) (hcl : closedTo (belows L L.length) s L.length = true) (hg : g < w.heap.size) (hr : RdK w (some ⟨g, off, none⟩) L) :
   Calls Tryz.prog 106 #[.slice (some ⟨g, off, none⟩) L.length cap, .int .i64 s] w fun e w' => e = .returned (.int .i64 (tipsTo (belows L L.length) s L.length)) ∧ Below w.heap.size w w' := by
 have h60 := ((Lc.lace_iff L).1 hlc).1
 have HSV := strike_vis hlc s h0 h1 hcl
 refine (callsIn_wide (n := 3)).1 ?_
 refine callsIn_of_wp_marks Tryz.func106 rfl trivial ?_ rfl
 simp only [Tryz.ntmps106, List.size_toArray, List.length_cons, List.length_nil, Nat.reduceAdd, Nat.reduceSub, Array.replicate_succ, Array.replicate_zero, List.push_toArray, List.append_toArray, List.nil_append, List.cons_append]
 gi_wp2_with (refine ⟨trivial, ?_⟩; gi_at_call 121; refine (callsIn_wide.2 (under _ _ _ _ _)).mono ?_; rintro e w' ⟨rfl, rfl⟩)
 have hB0 : Below w.heap.size w ((((w.alloc (.cells #[.slice (some ⟨g, off, none⟩) L.length cap] 62)).alloc (.cells #[.int .i64 s] 64)).alloc (.cells #[.slice (some ⟨g, off, none⟩) L.length cap] 62)).alloc (.cells #[.int .i64 s] 64)) := ((((Below.refl _ w).alloc (Nat.le_refl _) _).alloc (by simp) _).alloc (by simp; omega) _).alloc (by simp; omega) _
 have a0 := boxNew w (.slice (some ⟨g, off, none⟩) L.length cap) 62
 have a1 := boxNew (w.alloc (.cells #[.slice (some ⟨g, off, none⟩) L.length cap] 62)) (.int .i64 s) 64
 have c2 := boxNew ((w.alloc (.cells #[.slice (some ⟨g, off, none⟩) L.length cap] 62)).alloc (.cells #[.int .i64 s] 64)) (.slice (some ⟨g, off, none⟩) L.length cap) 62
 have c3 := boxNew (((w.alloc (.cells #[.slice (some ⟨g, off, none⟩) L.length cap] 62)).alloc (.cells #[.int .i64 s] 64)).alloc (.cells #[.slice (some ⟨g, off, none⟩) L.length cap] 62)) (.int .i64 s) 64
 simp only [World.size_alloc] at a1 c2 c3
 refine wpIn_rangeFunc_ownF rfl (by omega) (gf := 143) (lb := #[.pointer (some ⟨w.heap.size + 1 + 1 + 1, 0, none⟩), .pointer (some ⟨w.heap.size + 1 + 1, 0, none⟩)]) rfl trivial (enters_of Tryz.func143 (by kernel_rfl) rfl)
   (under_stops 2 (by omega) (w.heap.size + 1 + 1 + 1) (w.heap.size + 1 + 1) w.heap.size g off cap L hlc s h0 h1 hg _ (by simp) (by simp) c3.1 (boxCell _ c2.1) (hr.below hB0)) kpL_t (kpL_b (by simp; omega) (by simp)) (Below.refl _ _) (fun _ => rfl)
   (fun pre W => (W.cell? ⟨w.heap.size, 0, none⟩ = some (.slice (some ⟨g, off, none⟩) L.length cap) ∧ W.cell? ⟨w.heap.size + 1, 0, none⟩ = some (.int .i64 (strike L s pre)) ∧ W.frozen? ⟨w.heap.size + 1, 0, none⟩ = false) ∧ Below w.heap.size w W)
   (fun _ _ _ => False)
   (OwnFrom.and (Own.from (fun s A B row hs hg hr => ⟨cell_kept hs.1 hg hr, cell_kept hs.2.1 hg hr, (frozen_kept hs.2.1 hg hr).trans hs.2.2⟩) _) (ownFrom_below (Nat.le_refl _) (by simp; omega)))
   (fun _ _ _ _ _ hs _ _ => hs)
   ⟨⟨boxCell _ (boxCell _ (boxCell _ a0.1)), boxCell _ (boxCell _ a1.1), boxFrozen _ (boxCell _ a1.1) (boxFrozen _ a1.1 a1.2)⟩, hB0⟩
   (fun x => { tmps := #[.slice (some ⟨g, off, none⟩) L.length cap, .int .i64 s, .pointer (some ⟨w.heap.size, 0, none⟩), undef, .int .i64 0, .pointer (some ⟨w.heap.size + 1, 0, none⟩), .int .i64 (x.val : Int), .int .i64 s, .slice (some ⟨g, off, none⟩) L.length cap, .int .i64 s, .func (.func 143) #[] #[.pointer (some ⟨w.heap.size + 1 + 1 + 1, 0, none⟩), .pointer (some ⟨w.heap.size + 1 + 1, 0, none⟩)], .int .i64 (x.val : Int), undef, undef, undef, undef, undef, undef, undef, undef], defers := [] }) ?assign ?body ?done ?stop
 case assign =>
   intro l x W K hK
   gi_wp2
   exact hK
 case body =>
   rintro l pre x W ⟨⟨hcl', hcu, hfu⟩, hB⟩ _
   have hx := x.isLt
   have hxi : (x.val : Int) < (L.length : Int) := by omega
   obtain ⟨_, hc⟩ := hr.on x.val hx
   obtain ⟨_, _, cf, _⟩ := hc.below hB hg
   have HS : Hid (strike L s (pre ++ [x]) = bits .andNot .i64 (strike L s pre) (at' L x.val).frm) := strike_snoc L s pre x
   have hmx : Tryz.prog.follows .mixedOrders = true := by kernel_rfl
   clear hc
   generalize (at' L x.val).frm = y at cf HS
   generalize hxv : x.val = xv at cf hx hxi ⊢
   gi_wp2
   gi_region_with_o fail
   all_goals gi_wp2
   all_goals (try go_bits)
   all_goals exact ⟨(KeepsOthers.setCell _ _ _).trans (KeepsOthers.drew _), kpL_drew (kpL_put W (w.heap.size + 1) (by omega) (by omega) _), ⟨(put_other W _ _ (by omega) _).trans hcl', by rw [HS.out]; exact World.cell?_setCell_same' _ _ _ (by rw [hcu]; rfl), by rw [frozen_drew_own, World.frozen?_setCell]; exact hfu⟩, (hB.setCell (p := ⟨w.heap.size + 1, 0, none⟩) (by simp) _).drew⟩
 case done =>
   rintro D ys W hD rfl ⟨⟨_, hcu, _⟩, hB⟩ hK
   rw [HSV] at hcu
   gi_wp2
   refine ⟨by simp, .inl ⟨_, _, rfl, run_takeDeferred hK, ?_⟩⟩
   exact ⟨_, results_tmp rfl _ _ _, rfl, hB.trans (belowK_b (w := w) (Nat.le_refl _) W D _ _ (by simp at hD; omega) hK rfl rfl)⟩
 case stop =>
   rintro D c pre W _ _ h _
   exact h.elim
end Sg
end Go.Proofs.YtfjmenhofllchaaGreatDoor
namespace Go.Proofs.YtfjmenhofllchaaGreatDoor
open Go.RowKit
set_option maxRecDepth 100000
namespace Rm
open Kn (K okK)
open Bit (bit memTo)
open Lc (at' RdK laceB flat OwnK cellsOf setB)
open Sg (bel belows orB tipsTo closedTo seesB belowI isB)
open Cur (At)
theorem code_below2 {w w' : World} {a : Option Addr} {len : Nat} (h : Cur.Code w a len) (hb : Below w.heap.size w w') : Cur.Code w' a len := by
 rcases h with h | ⟨b, off, ha, hlt, hc⟩
 · exact .inl h
 · refine .inr ⟨b, off, ha, Nat.lt_of_lt_of_le hlt hb.size, fun j hj => ?_⟩
   obtain ⟨z, hz, hz'⟩ := hc j hj
   exact ⟨z, (hb.cell (p := ⟨b, off + j, none⟩) hlt).trans hz, hz'⟩
structure LiesS (w : World) (g : Nat) (L : List K) : Prop where
 rd : RdK w (some ⟨g, 0, none⟩) L
 len : L.length ≤ 61
 words : Lc.WordsOk L
theorem LiesS.below {w w' : World} {g : Nat} {L : List K} (h : LiesS w g L) (hb : Below w.heap.size w w') : LiesS w' g L := ⟨h.rd.below hb, h.len, h.words⟩
theorem drawn_liesS {B : Nat} {w w' : World} {v : Value} {L : List K} (h : Drawn B w w' v L) : ∃ g cp, v = .slice (some ⟨g, 0, none⟩) L.length cp ∧ L.length ≤ cp ∧ LiesS w' g L := by
 obtain ⟨g, cp, rfl, hcp, _, _, _, hrd, _⟩ := Lc.ownK_shape h.own
 exact ⟨g, cp, rfl, hcp, hrd, h.len, fun k hk => by have := h.word k hk; omega⟩
structure ClosedIs (L : List K) (s : Int) : Prop where
 lace : laceB L = true
 s0 : 0 ≤ s
 s1 : s < 1152921504606846976
 top : s / 2 ^ L.length = 0
 cl : closedTo (belows L L.length) s L.length = true
theorem in_len {L : List K} {s : Int} (h : ClosedIs L s) {j : Nat} (hj : bit s j = true) : j < L.length := by
 apply Classical.byContradiction
 intro hn
 rw [Lc.bit_hi s L.length h.s0 h.top j (by omega)] at hj
 exact Bool.noConfusion hj
theorem tips_iff {L : List K} {s : Int} (h : ClosedIs L s) (j : Nat) : bit (tipsTo (belows L L.length) s L.length) j = true ↔ bit s j = true ∧ ∀ i, i < L.length → bit s i = true → j ≠ i → bit (bel L i) j = false :=
 Sg.bit_tips L s L.length L.length (Nat.le_refl _) ((Lc.lace_iff L).1 h.lace).1 h.s0 h.s1 j
theorem below_tip {L : List K} {s : Int} (h : ClosedIs L s) : ∀ (d i j : Nat), L.length - i = d → bit s i = true → bit (bel L i) j = true → ∃ x, bit (tipsTo (belows L L.length) s L.length) x = true ∧ bit (bel L x) j = true := by
 intro d
 induction d using Nat.strongRecOn with
 | _ d ih =>
   intro i j hd hi hb
   have hil := in_len h hi
   by_cases ht : bit (tipsTo (belows L L.length) s L.length) i = true
   · exact ⟨i, ht, hb⟩
   · have : ∃ i', i' < L.length ∧ bit s i' = true ∧ i ≠ i' ∧ bit (bel L i') i = true := by
       apply Classical.byContradiction
       intro hn
       refine ht ((tips_iff h i).2 ⟨hi, fun i' h1 h2 h3 => ?_⟩)
       cases hq : bit (bel L i') i
       · rfl
       · exact absurd ⟨i', h1, h2, h3, hq⟩ hn
     obtain ⟨i', h1, h2, h3, h4⟩ := this
     have hle := Sg.reach_le h.lace h1 ((Sg.bel_reach h.lace i' h1 i).1 h4)
     exact ih (L.length - i') (by omega) i' j rfl h2 (Sg.bel_trans h.lace h1 h4 hb)
end Rm
end Go.Proofs.YtfjmenhofllchaaGreatDoor
namespace Go.Proofs.YtfjmenhofllchaaGreatDoor
open Go.RowKit
set_option maxRecDepth 100000
set_option linter.unusedVariables false
namespace Rm
open Kn (K okK)
open Lc (at' RdK laceB flat OwnK cellsOf)
open Cur (At)
structure DrawnH (w w' : World) (v : Value) (L : List K) (h : Hd) : Prop where
 dr : Drawn w.heap.size w w' v L
 h64 : H64 h
theorem put_hand {w w1 W : World} {h : Hd} (hz : HAt W w.heap.size 0 ⟨0, 0, 0, 0⟩) (hb : Below w.heap.size w W) (v : Value) (L : List K) (hO : OwnK 36 (w.heap.size + 1) W v L) :
   ∃ X, X = ((((W.setCell ⟨w.heap.size, 0, none⟩ (.int .i64 h.who)).setCell ⟨w.heap.size, 1, none⟩ (.int .i64 h.has)).setCell ⟨w.heap.size, 2, none⟩ (.int .i64 h.kept)).setCell ⟨w.heap.size, 3, none⟩ (.int .i64 h.last)) ∧ HAt X w.heap.size 0 h ∧ Below w.heap.size w X ∧ OwnK 36 w.heap.size X v L := by
 refine ⟨_, rfl, hat_put4d hz h, (((hb.setCell (p := ⟨w.heap.size, 0, none⟩) (Nat.le_refl _) _).setCell (p := ⟨w.heap.size, 1, none⟩) (Nat.le_refl _) _).setCell (p := ⟨w.heap.size, 2, none⟩) (Nat.le_refl _) _).setCell (p := ⟨w.heap.size, 3, none⟩) (Nat.le_refl _) _, ?_⟩
 obtain ⟨h1, h2⟩ := hO
 refine ⟨?_, h2⟩
 obtain ⟨q1, q2⟩ := h1
 refine ⟨q1, ?_⟩
 rcases q2 with q2 | ⟨g, cp, cur, e, hB, hg, rest⟩
 · exact .inl q2
 · refine .inr ⟨g, cp, cur, e, by omega, ?_, rest⟩
   have q : g ≠ w.heap.size := by omega
   rw [Below.heap_setCell _ ⟨w.heap.size, 3, none⟩ _ g q, Below.heap_setCell _ ⟨w.heap.size, 2, none⟩ _ g q, Below.heap_setCell _ ⟨w.heap.size, 1, none⟩ _ g q, Below.heap_setCell _ ⟨w.heap.size, 0, none⟩ _ g q]
   exact hg
set_option maxHeartbeats 1600000 in
theorem drawHandOk (HD : DrawsRoom) (HDC : DrawsRoomC) (a : Option Addr) (len cap : Nat) (w : World) (hl : len ≤ 4096) (hc : Cur.Code w a len) :
   Calls Tryz.prog 58 #[.slice a len cap] w fun e w' => ∃ v L h, e = .returned (.tuple #[v, .agg #[.int .i64 (h : Hd).who, .int .i64 h.has, .int .i64 h.kept, .int .i64 h.last]]) ∧ DrawnH w w' v L h := by
 have HDD : Hid DrawsRoom := HD
 have HDX : Hid DrawsRoomC := HDC
 have HZ : Hid (HAt (w.alloc (.cells #[.int .i64 0, .int .i64 0, .int .i64 0, .int .i64 0] 26)) w.heap.size 0 ⟨0, 0, 0, 0⟩ ∧ Below w.heap.size w (w.alloc (.cells #[.int .i64 0, .int .i64 0, .int .i64 0, .int .i64 0] 26))) := ⟨hat_zero w _, (Below.refl _ _).alloc (Nat.le_refl _) _⟩
 have hc0 := code_below2 hc HZ.out.2
 clear HD HDC
 go_enter Tryz.func58, Tryz.ntmps58
 go_wp2_with fail
 generalize w.alloc (.cells #[.int .i64 0, .int .i64 0, .int .i64 0, .int .i64 0] 26) = w0 at HZ hc0 ⊢
 refine (Cur.new a len cap _ hl hc0).mono ?_
 rintro e w1 ⟨rfl, hA1, hb1⟩
 have HZ1 : Hid (HAt w1 w.heap.size 0 ⟨0, 0, 0, 0⟩ ∧ Below w.heap.size w w1) := ⟨hat_below HZ.out.1 hb1, HZ.out.2.trans (hb1.mono HZ.out.2.size)⟩
 have hw0 : w.heap.size < w0.heap.size := HZ.out.1.lt
 have hlt1 := hA1.lt
 clear HZ hb1
 go_wp2_with fail
 refine (l13Draw HDD.out HDX.out _ a len cap _ hl hA1).mono ?_
 rintro e w2 ⟨v, L, h, rfl, hA2, hG2, hO2, h61, hwd, h64⟩
 have hz2 := hat_grown HZ1.out.1 hG2 (by omega)
 have hb2 : Below w.heap.size w w2 := Draw.below_of_grown HZ1.out.2 (by omega) hG2
 obtain ⟨X, hX, hH, hbX, hOX⟩ := put_hand (w1 := w1) (h := h) hz2 hb2 v L (ownK_base hO2 (by omega))
 have HF : Hid (DrawnH w X v L h) := ⟨⟨hOX, h61, hwd, hbX⟩, h64⟩
 obtain ⟨z0, z1, z2, z3⟩ := cellsH hz2
 obtain ⟨m0, m1, m2, m3⟩ := cellsH hH
 have f0 := hz2.f0
 have f1 := hz2.f1
 have f2 := hz2.f2
 have f3 := hz2.f3
 simp only [Nat.zero_add] at f1 f2 f3
 have HX : Hid (X = _) := hX
 clear hX hH hbX hOX hz2 hb2 hO2 hG2 hA2 hwd h64 HZ1 hA1 hlt1
 go_wp2
 rw [← HX.out]
 refine bodyPost_ret (v := .tuple #[v, .agg #[.int .i64 h.who, .int .i64 h.has, .int .i64 h.kept, .int .i64 h.last]]) (by simp [results, Tryz.f58, go_sem, m0, m1, m2, m3]) rfl ?_
 exact ⟨v, L, h, rfl, HF.out⟩
end Rm
end Go.Proofs.YtfjmenhofllchaaGreatDoor
namespace Go.Proofs.YtfjmenhofllchaaGreatDoor
open Go.RowKit
set_option maxRecDepth 100000
set_option linter.unusedVariables false
namespace Rm
open Kn (K okK)
open Bit (bit withB)
open Lc (at' laceB)
open Sg (bel belows closedTo orB)
theorem last_neg (L : List K) (who s : Int) : ∀ n, lastTo L who s n < 0 ↔ ∀ i, i < n → bit s i = true → (at' L i).hand ≠ who := by
 intro n
 induction n with
 | zero => exact ⟨fun _ i hi => by omega, fun _ => by show (-1 : Int) < 0; omega⟩
 | succ n ih =>
   have hbd := lastTo_bd L who s n
   have hst : lastTo L who s (n + 1) = if bit s n && (decide ((at' L n).hand = who) && (decide (lastTo L who s n < 0) || decide ((at' L (lastTo L who s n).toNat).round < (at' L n).round))) then (n : Int) else lastTo L who s n := rfl
   rw [hst]
   by_cases hc : bit s n = true ∧ (at' L n).hand = who
   · rw [hc.1, decide_eq_true hc.2]
     constructor
     · intro h
       exfalso
       by_cases hn : lastTo L who s n < 0
       · rw [decide_eq_true hn] at h; simp at h; omega
       · rw [decide_eq_false hn] at h
         simp only [Bool.true_and, Bool.false_or] at h
         split at h <;> omega
     · intro h
       exact absurd hc.2 (h n (by omega) hc.1)
   · have hf : (bit s n && (decide ((at' L n).hand = who) && (decide (lastTo L who s n < 0) || decide ((at' L (lastTo L who s n).toNat).round < (at' L n).round)))) = false := by
       rw [Bool.eq_false_iff]
       intro q
       simp only [Bool.and_eq_true, decide_eq_true_eq] at q
       exact hc ⟨q.1, q.2.1⟩
     rw [hf, if_neg (by simp), ih]
     constructor
     · intro h i hi hb
       by_cases e : i = n
       · subst e; exact fun q => hc ⟨hb, q⟩
       · exact h i (by omega) hb
     · intro h i hi hb
       exact h i (by omega) hb
structure HandIs (L : List K) (h : Hd) : Prop where
 lace : laceB L = true
 who : Kn.in3 h.who = true
 h0 : 0 ≤ h.has
 h1 : h.has < 1152921504606846976
 k0 : 0 ≤ h.kept
 k1 : h.kept < 1152921504606846976
 inn : ∀ i, bit h.has i = true → i < L.length
 sub : ∀ i, bit h.kept i = true → bit h.has i = true
 own : ∀ i, bit h.has i = true → (at' L i).hand = h.who → bit h.kept i = true
 chas : ∀ i, bit h.has i = true → ∀ j, bit (bel L i) j = true → bit h.has j = true
 ckep : ∀ i, bit h.kept i = true → ∀ j, bit (bel L i) j = true → bit h.kept j = true
 last : h.last = lastTo L h.who h.kept L.length
theorem hand_is {L : List K} {h : Hd} (hk : H64 h) (x : handOkB L h = true) : HandIs L h := by
 unfold handOkB at x
 rw [Bool.and_eq_true] at x
 obtain ⟨hl, hok⟩ := x
 have hbd := hok_parts hk hl hok
 have h60 := ((Lc.lace_iff L).1 hl).1
 unfold hokB at hok
 simp only [Bool.and_eq_true, decide_eq_true_eq] at hok
 obtain ⟨a1, a2, a3, a4, a5, a6, a7, a8, a9⟩ := hok
 have hin : ∀ i, bit h.has i = true → i < L.length := fun i hi => by
   apply Classical.byContradiction
   intro hge
   have := Bit.bit_up h.has L.length (i - L.length) a4
   rw [show L.length + (i - L.length) = i by omega, hi] at this
   exact Bool.noConfusion this
 have hsub : ∀ i, bit h.kept i = true → bit h.has i = true := (Sg.andNot_sub h.kept h.has a3 (by omega) a2 (by omega)).1 a5
 refine ⟨hl, a1, a2, hbd.2.1, a3, hbd.2.2.2, hin, hsub, fun i hi ho => ?_, fun i hi => (Sg.closed_iff L h.has L.length h60 a2 hbd.2.1).1 a7 i (hin i hi) hi, fun i hi => (Sg.closed_iff L h.kept L.length h60 a3 hbd.2.2.2).1 a8 i (hin i (hsub i hi)) hi, by rw [beq_iff_eq] at a9; exact a9⟩
 cases hb : bit h.kept i
 · have hz : bit (bits .andNot .i64 h.has h.kept) i = true := by rw [Sg.bit_andNot h.has h.kept a2 hbd.2.1 a3 hbd.2.2.2, hi, hb]; rfl
   exact absurd ho ((last_neg L h.who _ L.length).1 a6 i (hin i hi) hz)
 · rfl
theorem is_hand {L : List K} {h : Hd} (x : HandIs L h) : handOkB L h = true := by
 have h60 := ((Lc.lace_iff L).1 x.lace).1
 have hd : h.has / 2 ^ L.length = 0 := Lc.div_of_bits _ _ x.h0 fun i hi => by
   rw [Bool.eq_false_iff]; intro q; have := x.inn i q; omega
 have e5 : (bits .andNot .i64 h.kept h.has == 0) = true := (Sg.andNot_sub h.kept h.has x.k0 (by have := x.k1; omega) x.h0 (by have := x.h1; omega)).2 x.sub
 have e6 : lastTo L h.who (bits .andNot .i64 h.has h.kept) L.length < 0 := (last_neg L h.who _ L.length).2 fun i hi hb => by
   rw [Sg.bit_andNot h.has h.kept x.h0 x.h1 x.k0 x.k1, Bool.and_eq_true] at hb
   intro ho
   rw [x.own i hb.1 ho] at hb
   exact Bool.noConfusion hb.2
 have e7 : closedTo (belows L L.length) h.has L.length = true := (Sg.closed_iff L h.has L.length h60 x.h0 x.h1).2 fun i hi hb => x.chas i hb
 have e8 : closedTo (belows L L.length) h.kept L.length = true := (Sg.closed_iff L h.kept L.length h60 x.k0 x.k1).2 fun i hi hb => x.ckep i hb
 unfold handOkB hokB
 rw [x.lace, x.who, decide_eq_true x.h0, decide_eq_true x.k0, decide_eq_true hd, e5, decide_eq_true e6, e7, e8, x.last]
 simp
/-! ### kept, forgotten -/
end Rm
end Go.Proofs.YtfjmenhofllchaaGreatDoor
namespace Go.Proofs.YtfjmenhofllchaaGreatDoor
open Go.RowKit
set_option maxRecDepth 100000
set_option linter.unusedVariables false
namespace Lc
open Kn (K okK)
open Bit (bit withB)
set_option maxHeartbeats 1600000 in
theorem amongOwn (g off cap : Nat) (L : List K) (s : Int) (kb : Nat) (r : Int) (w : World) (hL : L.length ≤ 60) (hs : Base.okB s = true) (hr : RdK w (some ⟨g, off, none⟩) L) (hkb : kb < w.heap.size) (hk : w.cell? ⟨kb, 1, none⟩ = some (.int .i64 r)) :
   Calls Tryz.prog 104 #[.slice (some ⟨g, off, none⟩) L.length cap, .int .i64 s, .func (.func 124) #[] #[.pointer (some ⟨kb, 0, none⟩)]] w fun e w' =>
     e = .returned (.int .i64 (amongI (fun y => decide (y.hand = r)) L s L.length)) ∧ Below w.heap.size w w' := by
 go_enter Tryz.func104, Tryz.ntmps104
 go_wp2
 go_loopw [7, 12] (fun o i wr => ∃ j : Nat, j ≤ L.length ∧ i = .int .i64 j ∧ o = .int .i64 (amongI (fun y => decide (y.hand = r)) L s j) ∧ Hid (Below w.heap.size w wr)) (fun _ i _ => L.length - (intOf i).toNat)
 case atStart => exact ⟨0, by omega, rfl, rfl, Below.refl _ _⟩
 case round =>
   obtain ⟨j, hj, rfl, rfl, HB⟩ := hrel
   by_cases hlt : j < L.length
   · obtain ⟨hg, hc⟩ := hr.on j hlt
     obtain ⟨c0, c1, c2, c3⟩ := hc.below HB.out hg
     have HO : Hid (Base.okB s = true) := hs
     have hin : Base.inB (j : Int) = true := (Base.inB_iff _).2 ⟨by omega, by omega⟩
     have HA : Hid (amongI (fun y => decide (y.hand = r)) L s (j + 1) = if bit s j && (fun y => decide (y.hand = r)) (at' L j) then withB (amongI (fun y => decide (y.hand = r)) L s j) j else amongI (fun y => decide (y.hand = r)) L s j) := rfl
     have hbd := among_bd (fun y => decide (y.hand = r)) L s j (by omega)
     have HW : Hid (Base.withI (amongI (fun y => decide (y.hand = r)) L s j) (j : Int) = withB (amongI (fun y => decide (y.hand = r)) L s j) j) := by
       show _ = _
       unfold Base.withI
       rw [(Base.okB_iff _).2 hbd, hin]; simp
     have HN : Hid (Below w.heap.size w (wr.alloc (.cells #[.int .i64 (at' L j).hand, .int .i64 (at' L j).round, .int .i64 (at' L j).frm, .string (at' L j).word] 92))) := HB.out.alloc HB.out.size _
     clear hbd
     generalize amongI (fun y => decide (y.hand = r)) L s j = x at HA HW ⊢
     cases hb : bit s j
     · have HH : Hid ((Base.okB s && (Base.inB (j : Int) && bit s j)) = false) := by show _ = _; simp [hb]
       have HD : Hid (amongI (fun y => decide (y.hand = r)) L s (j + 1) = x) := by show _ = _; rw [HA.out, hb]; simp
       clear hb HA HW hin
       go_wp2_with (go_at_call 86; refine (Base.has _ _ _).mono ?_; rintro e w' ⟨rfl, rfl⟩; rw [Int.toNat_natCast, HH.out])
       go_roundw
       case rel => exact ⟨j + 1, by omega, by go_num, by rw [HD.out], HN⟩
       case measure => simp [intOf]; omega
     · have HH : Hid ((Base.okB s && (Base.inB (j : Int) && bit s j)) = true) := by show _ = _; simp [hb, hin, HO.out]
       have d1 := (HB.out.cell (p := ⟨kb, 1, none⟩) hkb).trans hk
       have hkb2 : kb < wr.heap.size := Nat.lt_of_lt_of_le hkb HB.out.size
       have HM : Hid (∀ o : Obj, Below w.heap.size w ((wr.alloc (.cells #[.int .i64 (at' L j).hand, .int .i64 (at' L j).round, .int .i64 (at' L j).frm, .string (at' L j).word] 92)).alloc o)) := fun o => HN.out.alloc HN.out.size o
       by_cases hq : (at' L j).hand = r
       · have HD : Hid (amongI (fun y => decide (y.hand = r)) L s (j + 1) = withB x j) := by show _ = _; rw [HA.out, hb]; simp [hq]
         have hq1 : ((at' L j).hand == r) = true := by simpa using hq
         clear hq
         clear hb HA hin HN
         go_wp2_with (first | (go_at_call 86; refine (Base.has _ _ _).mono ?_; rintro e w' ⟨rfl, rfl⟩; rw [Int.toNat_natCast, HH.out]) | (go_at_call 87; refine (Base.withM _ _ _).mono ?_; rintro e w' ⟨rfl, rfl⟩; rw [HW.out]) | go_in)
         go_roundw
         case rel => exact ⟨j + 1, by omega, by go_num, by rw [HD.out], HM.out _⟩
         case measure => simp [intOf]; omega
       · have HD : Hid (amongI (fun y => decide (y.hand = r)) L s (j + 1) = x) := by show _ = _; rw [HA.out, hb]; simp [hq]
         have hq1 : ((at' L j).hand == r) = false := by simpa using hq
         clear hq
         clear hb HA hin HN
         go_wp2_with (first | (go_at_call 86; refine (Base.has _ _ _).mono ?_; rintro e w' ⟨rfl, rfl⟩; rw [Int.toNat_natCast, HH.out]) | go_in)
         go_roundw
         case rel => exact ⟨j + 1, by omega, by go_num, by rw [HD.out], HM.out _⟩
         case measure => simp [intOf]; omega
   · obtain rfl : j = L.length := by omega
     go_wp2
     go_ret
     exact ⟨rfl, HB.out⟩
end Lc
namespace Rm
open Kn (K okK)
open Bit (bit withB)
open Lc (at' RdK laceB WordsOk)
open Sg (bel belows closedTo orB)
def ownI (L : List K) (who s : Int) : Int := Lc.amongI (fun y => decide (y.hand = who)) L s L.length
theorem own_bd (L : List K) (who s : Int) (hL : L.length ≤ 60) : 0 ≤ ownI L who s ∧ ownI L who s < 1152921504606846976 := Lc.among_bd _ _ _ _ hL
theorem bit_own (L : List K) (who s : Int) (hL : L.length ≤ 60) (i : Nat) : bit (ownI L who s) i = (decide (i < L.length) && (bit s i && decide ((at' L i).hand = who))) := Lc.bit_among _ _ _ _ hL i
theorem own_div (L : List K) (who s : Int) (hL : L.length ≤ 60) : ownI L who s / 2 ^ L.length = 0 :=
 Lc.div_of_bits _ _ (own_bd L who s hL).1 fun i hi => by rw [bit_own _ _ _ hL, decide_eq_false (by omega)]; rfl
set_option maxHeartbeats 400000 in
theorem own (g cap : Nat) (L : List K) (h : Hd) (s : Int) (w : World) (hL : L.length ≤ 60) (hs : Base.okB s = true) (hr : RdK w (some ⟨g, 0, none⟩) L) :
   Calls Tryz.prog 88 #[.agg #[.slice (some ⟨g, 0, none⟩) L.length cap, .int .i64 h.who, .int .i64 h.has, .int .i64 h.kept, .int .i64 h.last], .int .i64 s] w fun e w' => e = .returned (.int .i64 (ownI L h.who s)) ∧ Below w.heap.size w w' := by
 have B0 : Below w.heap.size w (w.alloc (.cells #[.slice (some ⟨g, 0, none⟩) L.length cap, .int .i64 h.who, .int .i64 h.has, .int .i64 h.kept, .int .i64 h.last] 66)) := (Below.refl _ _).alloc (Nat.le_refl _) _
 go_enter Tryz.func88, Tryz.ntmps88
 go_wp2_with fail
 refine (Lc.amongOwn g 0 cap L s w.heap.size h.who _ hL hs (hr.below B0) (by simp) (by simp)).mono ?_
 rintro e w1 ⟨rfl, hb1⟩
 have B1 := B0.trans (hb1.mono (by simp))
 clear hb1 B0
 go_wp2
 go_ret
 exact ⟨rfl, B1⟩
def lastP (L : List K) (p : Int × Int) (i : Int) : Int × Int := if p.2 < (at' L i.toNat).round then (i, (at' L i.toNat).round) else p
def lastF (L : List K) (l : List Int) : Int × Int := l.foldl (lastP L) (-1, -1)
theorem lastF_snoc (L : List K) (l : List Int) (i : Int) : lastF L (l ++ [i]) = lastP L (lastF L l) i := by unfold lastF; simp
theorem lastF_to (L : List K) (hlc : laceB L = true) (who s : Int) : ∀ n, n ≤ L.length → lastF L (Bit.memTo (ownI L who s) n) = (lastTo L who s n, if lastTo L who s n < 0 then -1 else (at' L (lastTo L who s n).toNat).round) := by
 have h60 := ((Lc.lace_iff L).1 hlc).1
 intro n
 induction n with
 | zero => intro _; rfl
 | succ n ih =>
   intro hn
   have ih := ih (by omega)
   have hst : lastTo L who s (n + 1) = if bit s n && (decide ((at' L n).hand = who) && (decide (lastTo L who s n < 0) || decide ((at' L (lastTo L who s n).toNat).round < (at' L n).round))) then (n : Int) else lastTo L who s n := rfl
   have hr0 : 0 ≤ (at' L n).round := (Lc.ok_round (Lc.can_ok (((Lc.lace_iff L).1 hlc).2 n (by omega)))).1
   rw [Bit.memTo_succ, bit_own _ _ _ h60, decide_eq_true (show n < L.length by omega), Bool.true_and]
   have hbd := lastTo_bd L who s n
   generalize hx : lastTo L who s n = x at *
   cases hb : bit s n && decide ((at' L n).hand = who)
   · have hf : lastTo L who s (n + 1) = x := by
       rw [hst, ← Bool.and_assoc, hb]; simp
     rw [hf]; simpa using ih
   · rw [if_pos rfl, lastF_snoc, ih]
     unfold lastP
     rw [hst, ← Bool.and_assoc, hb, Bool.true_and]
     simp only [Int.toNat_natCast]
     by_cases hneg : x < 0
     · rw [if_pos hneg, if_pos (by omega), decide_eq_true hneg]; simp; omega
     · rw [if_neg hneg, decide_eq_false hneg, Bool.false_or]
       by_cases hq : (at' L x.toNat).round < (at' L n).round
       · rw [if_pos hq, decide_eq_true hq]; simp; omega
       · rw [if_neg hq, decide_eq_false hq]; simp [hneg]
theorem lastF_all (L : List K) (hlc : laceB L = true) (who s : Int) : (lastF L (Bit.memTo (ownI L who s) 60)).1 = lastTo L who s L.length := by
 have h60 := ((Lc.lace_iff L).1 hlc).1
 have e : Bit.memTo (ownI L who s) 60 = Bit.memTo (ownI L who s) L.length := by
   have := Bit.memTo_up (ownI L who s) L.length (60 - L.length) (own_div L who s h60)
   rw [show L.length + (60 - L.length) = 60 by omega] at this
   exact this
 rw [e, lastF_to L hlc who s _ (Nat.le_refl _)]
structure OAt (w : World) (b g cap : Nat) (n : Nat) (h : Hd) : Prop where
 lt : b < w.heap.size
 c0 : w.cell? ⟨b, 0, none⟩ = some (.slice (some ⟨g, 0, none⟩) n cap)
 c1 : w.cell? ⟨b, 1, none⟩ = some (.int .i64 h.who)
 c2 : w.cell? ⟨b, 2, none⟩ = some (.int .i64 h.has)
 c3 : w.cell? ⟨b, 3, none⟩ = some (.int .i64 h.kept)
 c4 : w.cell? ⟨b, 4, none⟩ = some (.int .i64 h.last)
theorem OAt.below {w W : World} {b g cap n : Nat} {h : Hd} (x : OAt w b g cap n h) (hb : Below w.heap.size w W) : OAt W b g cap n h :=
 ⟨Nat.lt_of_lt_of_le x.lt hb.size, (hb.cell (p := ⟨b, 0, none⟩) x.lt).trans x.c0, (hb.cell (p := ⟨b, 1, none⟩) x.lt).trans x.c1, (hb.cell (p := ⟨b, 2, none⟩) x.lt).trans x.c2, (hb.cell (p := ⟨b, 3, none⟩) x.lt).trans x.c3, (hb.cell (p := ⟨b, 4, none⟩) x.lt).trans x.c4⟩
theorem oat_new (w : World) (g cap n : Nat) (h : Hd) (t : TypeId) : OAt (w.alloc (.cells #[.slice (some ⟨g, 0, none⟩) n cap, .int .i64 h.who, .int .i64 h.has, .int .i64 h.kept, .int .i64 h.last] t)) w.heap.size g cap n h := ⟨by simp, by simp, by simp, by simp, by simp, by simp⟩
set_option maxHeartbeats 1600000 in
theorem lastOwn (g cap : Nat) (L : List K) (h : Hd) (w : World) (hlc : laceB L = true) (hs : Base.okB h.kept = true) (hr : RdK w (some ⟨g, 0, none⟩) L) :
   Calls Tryz.prog 132 #[.agg #[.slice (some ⟨g, 0, none⟩) L.length cap, .int .i64 h.who, .int .i64 h.has, .int .i64 h.kept, .int .i64 h.last]] w fun e w' => e = .returned (.int .i64 (lastTo L h.who h.kept L.length)) ∧ Below w.heap.size w w' := by
 have h60 := ((Lc.lace_iff L).1 hlc).1
 have P0 : Hid (Below w.heap.size w (w.alloc (.cells #[.slice (some ⟨g, 0, none⟩) L.length cap, .int .i64 h.who, .int .i64 h.has, .int .i64 h.kept, .int .i64 h.last] 66)) ∧ OAt (w.alloc (.cells #[.slice (some ⟨g, 0, none⟩) L.length cap, .int .i64 h.who, .int .i64 h.has, .int .i64 h.kept, .int .i64 h.last] 66)) w.heap.size g cap L.length h) := ⟨(Below.refl _ _).alloc (Nat.le_refl _) _, oat_new w g cap L.length h _⟩
 have HT : Hid ((lastF L (Bit.memTo (ownI L h.who h.kept) 60)).1 = lastTo L h.who h.kept L.length) := lastF_all L hlc h.who h.kept
 have hob := own_bd L h.who h.kept h60
 have hmem : Memb.memI (ownI L h.who h.kept) = Bit.memTo (ownI L h.who h.kept) 60 := by unfold Memb.memI; rw [(Base.okB_iff _).2 hob]; rfl
 have hin := Lc.mem_in L (ownI L h.who h.kept) hob.1 (own_div L h.who h.kept h60)
 go_enter Tryz.func132, Tryz.ntmps132
 go_upto_region 2 with fail
 generalize w.alloc (.cells #[.slice (some ⟨g, 0, none⟩) L.length cap, .int .i64 h.who, .int .i64 h.has, .int .i64 h.kept, .int .i64 h.last] 66) = V at P0 ⊢
 have HB0 : Hid (Below w.heap.size w V) := P0.out.1
 have HO0 : Hid (OAt V w.heap.size g cap L.length h) := P0.out.2
 have hr0 := hr.below P0.out.1
 obtain ⟨ol, o0, o1, o2, o3, o4⟩ := P0.out.2
 clear P0 hr
 generalize hbe : w.heap.size = hb at HB0 HO0 ol o0 o1 o2 o3 o4 ⊢
 have HBE : Hid (w.heap.size = hb) := hbe
 have hbv : hb ≤ V.heap.size := by have := HB0.out.size; omega
 clear hbe
 go_wp2_with fail
 refine (own g cap L h h.kept _ h60 hs hr0).mono ?_
 rintro e w1 ⟨rfl, hb1⟩
 go_wp2_with fail
 refine (Memb.picked _ _).mono ?_
 rintro e w2 ⟨ao, ca, rfl, hown, hb2⟩
 rw [hmem] at hown ⊢
 have hr2 := (hr0.below hb1).below hb2
 obtain ⟨pl, p0, _, _, _, _⟩ := (HO0.out.below hb1).below hb2
 have HB2 : Hid (Below hb w w2) := (HB0.out.trans (hb1.mono hbv)).trans (hb2.mono (Nat.le_trans hbv hb1.size))
 have hrd := Lst.own_rd hown
 have hbl : ∀ c, ao = some ⟨c, 0, none⟩ → c < w2.heap.size := fun c e => by subst e; exact (World.ownsRow.lt hown c rfl).2
 have hle : (Bit.memTo (ownI L h.who h.kept) 60).length ≤ 60 := Bit.memTo_le _ 60
 have HI : Hid (∀ i ∈ Bit.memTo (ownI L h.who h.kept) 60, 0 ≤ i ∧ i < (L.length : Int)) := hin
 clear hown hmem hin hob hb1 hb2 hr0 HO0 HB0 hbv o0 o1 o2 o3 o4 ol
 generalize Bit.memTo (ownI L h.who h.kept) 60 = l at HT hrd hle HI ⊢
 go_wp2
 go_loopw [3, 4, 14] (fun a b i wr => ∃ j : Nat, j ≤ l.length ∧ i = .int .i64 j ∧ a = .int .i64 (lastF L (l.take j)).1 ∧ b = .int .i64 (lastF L (l.take j)).2 ∧ Hid (Below w2.heap.size w2 wr)) (fun _ _ i _ => l.length - (intOf i).toNat)
 case atStart => exact ⟨0, by omega, rfl, rfl, rfl, Below.refl _ _⟩
 case round =>
   obtain ⟨j, hj, rfl, rfl, rfl, HW⟩ := hrel
   by_cases hlt : j < l.length
   · rcases hrd with hrd | ⟨b, rfl, hcell⟩
     · rw [hrd] at hlt; simp at hlt
     have cj := (HW.out.cell (p := ⟨b, j, none⟩) (hbl b rfl)).trans (hcell j hlt)
     have hx := HI.out (l.getD j 0) (by simp [List.getD, List.getElem?_eq_getElem hlt])
     have HS : Hid (lastF L (l.take (j + 1)) = lastP L (lastF L (l.take j)) (l.getD j 0)) := by
       show _ = _
       rw [Lc.take_snocI l j hlt, lastF_snoc]
     generalize l.getD j 0 = x at cj hx HS
     obtain ⟨m, rfl⟩ := Int.eq_ofNat_of_zero_le hx.1
     have hm : m < L.length := by omega
     obtain ⟨hg2, _, c1, _, _⟩ := (hr2.below HW.out).on m hm
     rw [Nat.zero_add] at c1
     have p0' := (HW.out.cell (p := ⟨hb, 0, none⟩) pl).trans p0
     have pl' : hb < wr.heap.size := Nat.lt_of_lt_of_le pl HW.out.size
     clear p0
     clear hcell
     by_cases hq : (lastF L (l.take j)).2 < (at' L m).round
     · have HD : Hid (lastF L (l.take (j + 1)) = ((m : Int), (at' L m).round)) := by show _ = _; rw [HS.out]; unfold lastP; rw [Int.toNat_natCast, if_pos hq]
       generalize lastF L (l.take j) = pp at hq HS ⊢
       generalize (at' L m).round = rr at hq HD HS c1
       clear HS
       go_wp2
       go_region
       all_goals go_wp2
       all_goals go_round
       all_goals first | (refine ⟨j + 1, by omega, by go_num, by rw [HD.out], by rw [HD.out], ?_⟩; first | exact HW.out.drew | exact HW.out) | (simp [intOf]; omega)
     · have HD : Hid (lastF L (l.take (j + 1)) = lastF L (l.take j)) := by show _ = _; rw [HS.out]; unfold lastP; rw [Int.toNat_natCast, if_neg hq]
       generalize lastF L (l.take j) = pp at hq HS HD ⊢
       generalize (at' L m).round = rr at hq c1 HS
       clear HS
       go_wp2
       go_round
       all_goals first | (refine ⟨j + 1, by omega, by go_num, by rw [HD.out], by rw [HD.out], ?_⟩; first | exact HW.out.drew | exact HW.out) | (simp [intOf]; omega)
   · obtain rfl : j = l.length := by omega
     have e : l.take l.length = l := List.take_length
     rw [e]
     rw [HT.out]
     go_wp2
     go_ret
     exact ⟨rfl, by rw [HBE.out]; exact HB2.out.trans (HW.out.mono (Nat.le_of_lt pl))⟩
end Rm
end Go.Proofs.YtfjmenhofllchaaGreatDoor
