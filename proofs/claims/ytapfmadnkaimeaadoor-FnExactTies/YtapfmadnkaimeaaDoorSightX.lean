/-
  What the program's own Below, Sees, Closed and Tips answer, in the words of SightT; for lists of knots whose words have at most 2^40 bytes.
-/
import Derived.Test.YtapfmadnkaimeaaDoorSightW
import Derived.Test.YtapfmadnkaimeaaDoorSightT
namespace Go.Proofs.YtapfmadnkaimeaaDoor
open Go.RowKit Go.Shelf
set_option maxRecDepth 100000
attribute [local go_sem] Oper.semAt_some
namespace Sg
open Kn (K okK)
open Bit (bit withB)
open Lc (at' RdK CellsK)

theorem boxNew (W : World) (v : Value) (t : TypeId) : (W.alloc (.cells #[v] t)).cell? ⟨W.heap.size, 0, none⟩ = some v ∧ (W.alloc (.cells #[v] t)).frozen? ⟨W.heap.size, 0, none⟩ = false := ⟨by simp, by simp⟩
theorem boxCell {W : World} {a : Addr} {v : Value} (o : Obj) (h : W.cell? a = some v) : (W.alloc o).cell? a = some v := cell_kept h (World.grownBy_alloc W o none) (fun r e => by cases e)
theorem boxFrozen {W : World} {a : Addr} {v : Value} (o : Obj) (h : W.cell? a = some v) (hf : W.frozen? a = false) : (W.alloc o).frozen? a = false := (frozen_kept h (World.grownBy_alloc W o none) (fun r e => by cases e)).trans hf

theorem kpL_drew {n₀ Bl : Nat} {W W' : World} (h : KpL n₀ Bl W W') : KpL n₀ Bl W W'.drew := ⟨h.1.drew, h.2⟩
theorem put_other (W : World) (b c : Nat) (hbc : b ≠ c) (u : Value) : (W.setCell ⟨c, 0, none⟩ u).cell? ⟨b, 0, none⟩ = W.cell? ⟨b, 0, none⟩ := cell_block (Below.heap_setCell W ⟨c, 0, none⟩ u b hbc)

theorem under_stops (n : Nat) (hn : 1 ≤ n) (Bs Bl n₀ g off cap : Nat) (L : List K) (hlc : Lc.laceB L = true) (s : Int) (h0 : 0 ≤ s) (h1 : s < 1152921504606846976) (hg : g < n₀) (w : World) (hs : Bs < w.heap.size) (hl : Bl < w.heap.size)
    (cs : w.cell? ⟨Bs, 0, none⟩ = some (.int .i64 s)) (cl : w.cell? ⟨Bl, 0, none⟩ = some (.slice (some ⟨g, off, none⟩) L.length cap)) (hr : RdK w (some ⟨g, off, none⟩) L) :
    SeqStopsK Fence.wide n Tryd.prog 113 #[.pointer (some ⟨Bs, 0, none⟩), .pointer (some ⟨Bl, 0, none⟩)] (fun x : Fin L.length => #[Value.int .i64 (x.val : Int)]) (KpL n₀ Bl) (fun ys => ys = vis L s) (fun pre => pre <+: vis L s) L.length w := fun l J Jx W hW _ _ hY hJ =>
  under1 n hn l Bs Bl n₀ g off cap L hlc s h0 h1 hg J Jx hY W ((hW.cell (p := ⟨Bs, 0, none⟩) hs).trans cs) ((hW.cell (p := ⟨Bl, 0, none⟩) hl).trans cl) (hr.below hW) hJ

set_option maxHeartbeats 400000 in
theorem under (a : Option Addr) (len cap : Nat) (s : Int) (w : World) : Calls Tryd.prog 91 #[.slice a len cap, .int .i64 s] w fun e w' =>
    e = .returned (.func (.func 113) #[] #[.pointer (some ⟨w.heap.size + 1, 0, none⟩), .pointer (some ⟨w.heap.size, 0, none⟩)]) ∧ w' = (w.alloc (.cells #[.slice a len cap] 58)).alloc (.cells #[.int .i64 s] 60) := by
  go_enter Tryd.func91, Tryd.ntmps91
  go_wp2
  go_ret
  exact ⟨rfl, rfl⟩

theorem with_one (k : Int) : Base.withI 0 k = oneI k := by
  unfold Base.withI oneI
  by_cases h : 0 ≤ k ∧ k < 60
  · rw [(Base.inB_iff k).2 h, (Base.okB_iff 0).2 (by omega), if_pos h]
    simp [Bit.withB]
  · have : Base.inB k = false := by
      cases hb : Base.inB k
      · rfl
      · exact absurd ((Base.inB_iff k).1 hb) h
    rw [this, if_neg h]; simp

set_option maxHeartbeats 2000000 in
theorem below (g off cap : Nat) (L : List K) (k : Int) (w : World) (hlc : Lc.laceB L = true) (hg : g < w.heap.size) (hr : RdK w (some ⟨g, off, none⟩) L) :
    Calls Tryd.prog 60 #[.slice (some ⟨g, off, none⟩) L.length cap, .int .i64 k] w fun e w' => e = .returned (.int .i64 (metI L k)) ∧ Below w.heap.size w w' := by
  have h60 := ((Lc.lace_iff L).1 hlc).1
  refine (callsIn_wide (n := 3)).1 ?_
  refine callsIn_of_wp_marks Tryd.func60 rfl trivial ?_ rfl
  simp only [Tryd.ntmps60, List.size_toArray, List.length_cons, List.length_nil, Nat.reduceAdd, Nat.reduceSub, Array.replicate_succ, Array.replicate_zero, List.push_toArray, List.append_toArray, List.nil_append, List.cons_append]
  gi_wp2_with (first | (refine ⟨trivial, ?_⟩; gi_at_call 63; refine (callsIn_wide.2 (Base.withM _ _ _)).mono ?_; rintro e w' ⟨rfl, rfl⟩; rw [with_one]) | (refine ⟨trivial, ?_⟩; gi_at_call 91; refine (callsIn_wide.2 (under _ _ _ _ _)).mono ?_; rintro e w' ⟨rfl, rfl⟩))
  have hB0 : Below w.heap.size w (((w.alloc (.cells #[.int .i64 0] 60)).alloc (.cells #[.slice (some ⟨g, off, none⟩) L.length cap] 58)).alloc (.cells #[.int .i64 (oneI k)] 60)) := (((Below.refl _ w).alloc (Nat.le_refl _) _).alloc (by simp) _).alloc (by simp; omega) _
  have c0 := boxNew w (.int .i64 0) 60
  have c1 := boxNew (w.alloc (.cells #[.int .i64 0] 60)) (.slice (some ⟨g, off, none⟩) L.length cap) 58
  have c2 := boxNew ((w.alloc (.cells #[.int .i64 0] 60)).alloc (.cells #[.slice (some ⟨g, off, none⟩) L.length cap] 58)) (.int .i64 (oneI k)) 60
  simp only [World.size_alloc] at c1 c2
  have hob := oneI_bd k
  refine wpIn_rangeFunc_ownF rfl (by omega) (gf := 113) (lb := #[.pointer (some ⟨w.heap.size + 1 + 1, 0, none⟩), .pointer (some ⟨w.heap.size + 1, 0, none⟩)]) rfl trivial (enters_of Tryd.func113 (by kernel_rfl) rfl)
    (under_stops 2 (by omega) (w.heap.size + 1 + 1) (w.heap.size + 1) w.heap.size g off cap L hlc (oneI k) hob.1 hob.2 hg _ (by simp) (by simp) c2.1 (boxCell _ c1.1) (hr.below hB0)) kpL_t (kpL_b (by simp; omega) (by simp)) (Below.refl _ _) (fun _ => rfl)
    (fun pre W => (W.cell? ⟨w.heap.size, 0, none⟩ = some (.int .i64 (gath 0 pre)) ∧ W.frozen? ⟨w.heap.size, 0, none⟩ = false) ∧ Below w.heap.size w W)
    (fun _ _ _ => False)
    (OwnFrom.and (Own.from (fun s A B row hs hg hr => ⟨cell_kept hs.1 hg hr, (frozen_kept hs.1 hg hr).trans hs.2⟩) _) (ownFrom_below (Nat.le_refl _) (by simp; omega)))
    (fun _ _ _ _ _ hs _ _ => hs)
    ⟨⟨boxCell _ (boxCell _ c0.1), boxFrozen _ (boxCell _ c0.1) (boxFrozen _ c0.1 c0.2)⟩, hB0⟩
    (fun x => { tmps := #[.slice (some ⟨g, off, none⟩) L.length cap, .int .i64 k, undef, undef, .int .i64 0, .pointer (some ⟨w.heap.size, 0, none⟩), .int .i64 (x.val : Int), .slice (some ⟨g, off, none⟩) L.length cap, .int .i64 k, .int .i64 (oneI k), .func (.func 113) #[] #[.pointer (some ⟨w.heap.size + 1 + 1, 0, none⟩), .pointer (some ⟨w.heap.size + 1, 0, none⟩)], .int .i64 (x.val : Int), undef, undef, undef, undef], defers := [] }) ?assign ?body ?done ?stop
  case assign =>
    intro l x W K hK
    gi_wp2
    exact hK
  case body =>
    rintro l pre x W ⟨⟨hc, hf⟩, hB⟩ _
    have hx := x.isLt
    have hgb := gath_bd h60 pre
    have HW : Hid (Base.withI (gath 0 pre) (x.val : Int) = gath 0 (pre ++ [x])) := by
      show _ = _
      unfold Base.withI
      rw [(Base.okB_iff _).2 hgb, (Base.inB_iff _).2 ⟨by omega, by omega⟩, gath_snoc]; simp
    clear hgb
    gi_wp2_with (refine ⟨trivial, ?_⟩; gi_at_call 63; refine (CallsIn.inRound l (callsIn_wide.2 (Base.withM _ _ _))).mono ?_; rintro e w' ⟨rfl, rfl⟩; rw [HW.out])
    exact ⟨KeepsOthers.setCell _ _ _, kpL_put W w.heap.size (Nat.le_refl _) (by omega) _, ⟨World.cell?_setCell_same' _ _ _ (by rw [hc]; rfl), by rw [World.frozen?_setCell]; exact hf⟩, hB.setCell (p := ⟨w.heap.size, 0, none⟩) (Nat.le_refl _) _⟩
  case done =>
    rintro D ys W hD rfl ⟨⟨hc, _⟩, hB⟩ hK
    rw [gath_vis hlc k] at hc
    gi_wp2
    refine ⟨by simp, .inl ⟨_, _, rfl, run_takeDeferred hK, ?_⟩⟩
    exact ⟨_, results_tmp rfl _ _ _, rfl, hB.trans (belowK_b (w := w) (Nat.le_refl _) W D _ _ (by simp at hD; omega) hK rfl rfl)⟩
  case stop =>
    rintro D c pre W _ _ h _
    exact h.elim

theorem vis_in {L : List K} {s : Int} {pre : List (Fin L.length)} (hp : pre <+: vis L s) {y : Fin L.length} (hy : y ∈ pre) : y ∈ vis L s := hp.subset hy

set_option maxHeartbeats 2000000 in
theorem closed (g off cap : Nat) (L : List K) (s : Int) (w : World) (hlc : Lc.laceB L = true) (hs0 : -9223372036854775808 ≤ s) (hs1 : s ≤ 9223372036854775807) (hg : g < w.heap.size) (hr : RdK w (some ⟨g, off, none⟩) L) :
    Calls Tryd.prog 111 #[.slice (some ⟨g, off, none⟩) L.length cap, .int .i64 s] w fun e w' => e = .returned (.bool (Lc.inL L.length s && closedTo (belows L L.length) s L.length)) ∧ Below w.heap.size w w' := by
  have h60 := ((Lc.lace_iff L).1 hlc).1
  have hB1 : Below w.heap.size w ((w.alloc (.cells #[.int .i64 s] 60)).alloc (.cells #[.bool false] 4)) := ((Below.refl _ w).alloc (Nat.le_refl _) _).alloc (by simp) _
  have a0 := boxNew w (.int .i64 s) 60
  have a1 := boxNew (w.alloc (.cells #[.int .i64 s] 60)) (.bool false) 4
  simp only [World.size_alloc] at a1
  cases hin : Lc.inL L.length s
  · have HT : Hid ((false && closedTo (belows L L.length) s L.length) = false) := rfl
    have HB1 : Hid (Below w.heap.size w ((w.alloc (.cells #[.int .i64 s] 60)).alloc (.cells #[.bool false] 4))) := hB1
    have HIN : Hid (Lc.inL L.length s = false) := hin
    clear hin hB1
    rw [HT.out]
    go_enter Tryd.func111, Tryd.ntmps111
    go_wp2_with (go_at_call 121; refine (Lc.holds _ _ _ s _ h60 hs0 hs1).mono ?_; rintro e w' ⟨rfl, rfl⟩; rw [HIN.out])
    refine bodyPost_ret (v := .bool false) (by simp [results, Tryd.f111, go_sem]) rfl ?_
    exact ⟨rfl, HB1.out⟩
  · have hpar : 0 ≤ s ∧ s < 1152921504606846976 := by
      have hset : Lc.setB L s = true := by rw [Lc.setB_eq, hlc, hin]; rfl
      obtain ⟨_, q0, q1, _, _, _⟩ := Lc.setB_parts hset
      exact ⟨q0, q1⟩
    have HIN : Hid (Lc.inL L.length s = true) := hin
    clear hin
    have hok : Base.okB s = true := (Base.okB_iff _).2 hpar
    have HVC := vis_closed hlc s hpar.1 hpar.2
    refine (callsIn_wide (n := 3)).1 ?_
    refine callsIn_of_wp_marks Tryd.func111 rfl trivial ?_ rfl
    simp only [Tryd.ntmps111, List.size_toArray, List.length_cons, List.length_nil, Nat.reduceAdd, Nat.reduceSub, Array.replicate_succ, Array.replicate_zero, List.push_toArray, List.append_toArray, List.nil_append, List.cons_append]
    gi_wp2_with (first | (refine ⟨trivial, ?_⟩; gi_at_call 121; refine (callsIn_wide.2 (Lc.holds _ _ _ s _ h60 hs0 hs1)).mono ?_; rintro e w' ⟨rfl, rfl⟩; rw [HIN.out]) | (refine ⟨trivial, ?_⟩; gi_at_call 91; refine (callsIn_wide.2 (under _ _ _ _ _)).mono ?_; rintro e w' ⟨rfl, rfl⟩))
    have hB0 : Below w.heap.size w ((((w.alloc (.cells #[.int .i64 s] 60)).alloc (.cells #[.bool false] 4)).alloc (.cells #[.slice (some ⟨g, off, none⟩) L.length cap] 58)).alloc (.cells #[.int .i64 s] 60)) := (hB1.alloc (by simp; omega) _).alloc (by simp; omega) _
    have c2 := boxNew ((w.alloc (.cells #[.int .i64 s] 60)).alloc (.cells #[.bool false] 4)) (.slice (some ⟨g, off, none⟩) L.length cap) 58
    have c3 := boxNew (((w.alloc (.cells #[.int .i64 s] 60)).alloc (.cells #[.bool false] 4)).alloc (.cells #[.slice (some ⟨g, off, none⟩) L.length cap] 58)) (.int .i64 s) 60
    simp only [World.size_alloc] at c2 c3
    refine wpIn_rangeFunc_ownF rfl (by omega) (gf := 113) (lb := #[.pointer (some ⟨w.heap.size + 1 + 1 + 1, 0, none⟩), .pointer (some ⟨w.heap.size + 1 + 1, 0, none⟩)]) rfl trivial (enters_of Tryd.func113 (by kernel_rfl) rfl)
      (under_stops 2 (by omega) (w.heap.size + 1 + 1 + 1) (w.heap.size + 1 + 1) w.heap.size g off cap L hlc s hpar.1 hpar.2 hg _ (by simp) (by simp) c3.1 (boxCell _ c2.1) (hr.below hB0)) kpL_t (kpL_b (by simp; omega) (by simp)) (Below.refl _ _) (fun _ => rfl)
      (fun pre W => ((∀ y ∈ pre, bit s y.val = true) ∧ W.cell? ⟨w.heap.size, 0, none⟩ = some (.int .i64 s) ∧ W.cell? ⟨w.heap.size + 1, 0, none⟩ = some (.bool false) ∧ W.frozen? ⟨w.heap.size + 1, 0, none⟩ = false) ∧ Below w.heap.size w W)
      (fun c pre W => (c = .ret ∧ (∃ y ∈ pre, bit s y.val = false) ∧ W.cell? ⟨w.heap.size + 1, 0, none⟩ = some (.bool false)) ∧ Below w.heap.size w W)
      (OwnFrom.and (Own.from (fun s A B row hs hg hr => ⟨hs.1, cell_kept hs.2.1 hg hr, cell_kept hs.2.2.1 hg hr, (frozen_kept hs.2.2.1 hg hr).trans hs.2.2.2⟩) _) (ownFrom_below (Nat.le_refl _) (by simp; omega)))
      (fun c => OwnFrom.and (Own.from (fun s A B row hs hg hr => ⟨hs.1, hs.2.1, cell_kept hs.2.2 hg hr⟩) _) (ownFrom_below (Nat.le_refl _) (by simp; omega)))
      ⟨⟨by simp, boxCell _ (boxCell _ (boxCell _ a0.1)), boxCell _ (boxCell _ a1.1), boxFrozen _ (boxCell _ a1.1) (boxFrozen _ a1.1 a1.2)⟩, hB0⟩
      (fun x => { tmps := #[.slice (some ⟨g, off, none⟩) L.length cap, .int .i64 s, undef, .pointer (some ⟨w.heap.size, 0, none⟩), .pointer (some ⟨w.heap.size + 1, 0, none⟩), .int .i64 (x.val : Int), .slice (some ⟨g, off, none⟩) L.length cap, .int .i64 s, .bool true, .bool false, .slice (some ⟨g, off, none⟩) L.length cap, .int .i64 s, .func (.func 113) #[] #[.pointer (some ⟨w.heap.size + 1 + 1 + 1, 0, none⟩), .pointer (some ⟨w.heap.size + 1 + 1, 0, none⟩)], .int .i64 (x.val : Int), undef, undef, undef, undef], defers := [] }) ?assign ?body ?done ?stop
    case assign =>
      intro l x W K hK
      gi_wp2
      exact hK
    case body =>
      rintro l pre x W ⟨⟨hp, hcs, hcr, hfr⟩, hB⟩ _
      have hx := x.isLt
      have hin : Base.inB (x.val : Int) = true := (Base.inB_iff _).2 ⟨by omega, by omega⟩
      cases hb : bit s x.val
      · have HH : Hid ((Base.okB s && (Base.inB (x.val : Int) && bit s (x.val : Int).toNat)) = false) := by show _ = _; rw [Int.toNat_natCast, hb]; simp
        gi_wp2_with (refine ⟨trivial, ?_⟩; gi_at_call 62; refine (CallsIn.inRound l (callsIn_wide.2 (Base.has _ _ _))).mono ?_; rintro e w' ⟨rfl, rfl⟩; rw [HH.out])
        exact ⟨KeepsOthers.setCell _ _ _, ⟨rfl, ⟨x, List.mem_append.2 (.inr (by simp)), hb⟩, World.cell?_setCell_same' _ _ _ (by rw [hcr]; rfl)⟩, hB.setCell (p := ⟨w.heap.size + 1, 0, none⟩) (by simp) _⟩
      · have HH : Hid ((Base.okB s && (Base.inB (x.val : Int) && bit s (x.val : Int).toNat)) = true) := by show _ = _; rw [Int.toNat_natCast, hb, hin, hok]; rfl
        gi_wp2_with (refine ⟨trivial, ?_⟩; gi_at_call 62; refine (CallsIn.inRound l (callsIn_wide.2 (Base.has _ _ _))).mono ?_; rintro e w' ⟨rfl, rfl⟩; rw [HH.out])
        exact ⟨KeepsOthers.refl _, kpL_refl _ _ _, ⟨fun y hy => (List.mem_append.1 hy).elim (hp y) (fun e => by simp at e; subst e; exact hb), hcs, hcr, hfr⟩, hB⟩
    case done =>
      rintro D ys W hD rfl ⟨⟨hall, _, hcr, hfr⟩, hB⟩ hK
      have hcl := HVC.1 hall
      gi_wp2
      have hK' := (KeepsOthers.setCell W ⟨w.heap.size + 1, 0, none⟩ (.bool true)).same D _ hK rfl
      refine ⟨by simp, .inl ⟨_, _, rfl, run_takeDeferred hK', ?_⟩⟩
      have hc5 := cell_kept (World.cell?_setCell_same' W ⟨w.heap.size + 1, 0, none⟩ (.bool true) (by rw [hcr]; rfl)) (grownBy_putObj' _ D (.deferred none)) (fun r e => by cases e; exact ⟨_, hK', rfl⟩)
      refine ⟨.bool true, ?_, by rw [hcl]; rfl, (hB.setCell (p := ⟨w.heap.size + 1, 0, none⟩) (by simp) _).trans (belowK_b (w := w) (Nat.le_refl _) _ D _ _ (by simp at hD; omega) hK' rfl rfl)⟩
      simp [results, Tryd.f111, go_sem, hc5]
    case stop =>
      rintro D c pre W hD hpre ⟨⟨rfl, ⟨y, hy, hyb⟩, hcr⟩, hB⟩ hK
      have hcl : closedTo (belows L L.length) s L.length = false := by
        rw [Bool.eq_false_iff]
        intro hc
        have := HVC.2 hc y (vis_in hpre hy)
        rw [hyb] at this; exact Bool.noConfusion this
      gi_wp2
      refine ⟨by simp, .inl ⟨_, _, rfl, run_takeDeferred hK, ?_⟩⟩
      have hc5 := cell_kept hcr (grownBy_putObj' _ D (.deferred none)) (fun r e => by cases e; exact ⟨_, hK, rfl⟩)
      refine ⟨.bool false, ?_, by rw [hcl]; rfl, hB.trans (belowK_b (w := w) (Nat.le_refl _) W D _ _ (by simp at hD; omega) hK rfl rfl)⟩
      simp [results, Tryd.f111, go_sem, hc5]

set_option maxHeartbeats 2000000 in
theorem tips (g off cap : Nat) (L : List K) (s : Int) (w : World) (hlc : Lc.laceB L = true) (h0 : 0 ≤ s) (h1 : s < 1152921504606846976) (hcl : closedTo (belows L L.length) s L.length = true) (hg : g < w.heap.size) (hr : RdK w (some ⟨g, off, none⟩) L) :
    Calls Tryd.prog 77 #[.slice (some ⟨g, off, none⟩) L.length cap, .int .i64 s] w fun e w' => e = .returned (.int .i64 (tipsTo (belows L L.length) s L.length)) ∧ Below w.heap.size w w' := by
  have h60 := ((Lc.lace_iff L).1 hlc).1
  have HSV := strike_vis hlc s h0 h1 hcl
  refine (callsIn_wide (n := 3)).1 ?_
  refine callsIn_of_wp_marks Tryd.func77 rfl trivial ?_ rfl
  simp only [Tryd.ntmps77, List.size_toArray, List.length_cons, List.length_nil, Nat.reduceAdd, Nat.reduceSub, Array.replicate_succ, Array.replicate_zero, List.push_toArray, List.append_toArray, List.nil_append, List.cons_append]
  gi_wp2_with (refine ⟨trivial, ?_⟩; gi_at_call 91; refine (callsIn_wide.2 (under _ _ _ _ _)).mono ?_; rintro e w' ⟨rfl, rfl⟩)
  have hB0 : Below w.heap.size w ((((w.alloc (.cells #[.slice (some ⟨g, off, none⟩) L.length cap] 58)).alloc (.cells #[.int .i64 s] 60)).alloc (.cells #[.slice (some ⟨g, off, none⟩) L.length cap] 58)).alloc (.cells #[.int .i64 s] 60)) := ((((Below.refl _ w).alloc (Nat.le_refl _) _).alloc (by simp) _).alloc (by simp; omega) _).alloc (by simp; omega) _
  have a0 := boxNew w (.slice (some ⟨g, off, none⟩) L.length cap) 58
  have a1 := boxNew (w.alloc (.cells #[.slice (some ⟨g, off, none⟩) L.length cap] 58)) (.int .i64 s) 60
  have c2 := boxNew ((w.alloc (.cells #[.slice (some ⟨g, off, none⟩) L.length cap] 58)).alloc (.cells #[.int .i64 s] 60)) (.slice (some ⟨g, off, none⟩) L.length cap) 58
  have c3 := boxNew (((w.alloc (.cells #[.slice (some ⟨g, off, none⟩) L.length cap] 58)).alloc (.cells #[.int .i64 s] 60)).alloc (.cells #[.slice (some ⟨g, off, none⟩) L.length cap] 58)) (.int .i64 s) 60
  simp only [World.size_alloc] at a1 c2 c3
  refine wpIn_rangeFunc_ownF rfl (by omega) (gf := 113) (lb := #[.pointer (some ⟨w.heap.size + 1 + 1 + 1, 0, none⟩), .pointer (some ⟨w.heap.size + 1 + 1, 0, none⟩)]) rfl trivial (enters_of Tryd.func113 (by kernel_rfl) rfl)
    (under_stops 2 (by omega) (w.heap.size + 1 + 1 + 1) (w.heap.size + 1 + 1) w.heap.size g off cap L hlc s h0 h1 hg _ (by simp) (by simp) c3.1 (boxCell _ c2.1) (hr.below hB0)) kpL_t (kpL_b (by simp; omega) (by simp)) (Below.refl _ _) (fun _ => rfl)
    (fun pre W => (W.cell? ⟨w.heap.size, 0, none⟩ = some (.slice (some ⟨g, off, none⟩) L.length cap) ∧ W.cell? ⟨w.heap.size + 1, 0, none⟩ = some (.int .i64 (strike L s pre)) ∧ W.frozen? ⟨w.heap.size + 1, 0, none⟩ = false) ∧ Below w.heap.size w W)
    (fun _ _ _ => False)
    (OwnFrom.and (Own.from (fun s A B row hs hg hr => ⟨cell_kept hs.1 hg hr, cell_kept hs.2.1 hg hr, (frozen_kept hs.2.1 hg hr).trans hs.2.2⟩) _) (ownFrom_below (Nat.le_refl _) (by simp; omega)))
    (fun _ _ _ _ _ hs _ _ => hs)
    ⟨⟨boxCell _ (boxCell _ (boxCell _ a0.1)), boxCell _ (boxCell _ a1.1), boxFrozen _ (boxCell _ a1.1) (boxFrozen _ a1.1 a1.2)⟩, hB0⟩
    (fun x => { tmps := #[.slice (some ⟨g, off, none⟩) L.length cap, .int .i64 s, .pointer (some ⟨w.heap.size, 0, none⟩), undef, .int .i64 0, .pointer (some ⟨w.heap.size + 1, 0, none⟩), .int .i64 (x.val : Int), .int .i64 s, .slice (some ⟨g, off, none⟩) L.length cap, .int .i64 s, .func (.func 113) #[] #[.pointer (some ⟨w.heap.size + 1 + 1 + 1, 0, none⟩), .pointer (some ⟨w.heap.size + 1 + 1, 0, none⟩)], .int .i64 (x.val : Int), undef, undef, undef, undef, undef, undef, undef, undef], defers := [] }) ?assign ?body ?done ?stop
  case assign =>
    intro l x W K hK
    gi_wp2
    exact hK
  case body =>
    rintro l pre x W ⟨⟨hcl', hcu, hfu⟩, hB⟩ _
    have hx := x.isLt
    have hxi : (x.val : Int) < (L.length : Int) := by omega
    obtain ⟨_, hc⟩ := hr.on x.val hx
    obtain ⟨_, _, cf, _⟩ := hc.below hB hg
    have HS : Hid (strike L s (pre ++ [x]) = bits .andNot .i64 (strike L s pre) (at' L x.val).frm) := strike_snoc L s pre x
    have hmx : Tryd.prog.follows .mixedOrders = true := by kernel_rfl
    clear hc
    generalize (at' L x.val).frm = y at cf HS
    generalize hxv : x.val = xv at cf hx hxi ⊢
    gi_wp2
    gi_region_with_o fail
    all_goals gi_wp2
    all_goals (try go_bits)
    all_goals exact ⟨(KeepsOthers.setCell _ _ _).trans (KeepsOthers.drew _), kpL_drew (kpL_put W (w.heap.size + 1) (by omega) (by omega) _), ⟨(put_other W _ _ (by omega) _).trans hcl', by rw [HS.out]; exact World.cell?_setCell_same' _ _ _ (by rw [hcu]; rfl), by rw [frozen_drew_own, World.frozen?_setCell]; exact hfu⟩, (hB.setCell (p := ⟨w.heap.size + 1, 0, none⟩) (by simp) _).drew⟩
  case done =>
    rintro D ys W hD rfl ⟨⟨_, hcu, _⟩, hB⟩ hK
    rw [HSV] at hcu
    gi_wp2
    refine ⟨by simp, .inl ⟨_, _, rfl, run_takeDeferred hK, ?_⟩⟩
    exact ⟨_, results_tmp rfl _ _ _, rfl, hB.trans (belowK_b (w := w) (Nat.le_refl _) W D _ _ (by simp at hD; omega) hK rfl rfl)⟩
  case stop =>
    rintro D c pre W _ _ h _
    exact h.elim

/-- what the walk from a has met has b just where a sees b -/
theorem met_sees {L : List K} (hlc : Lc.laceB L = true) (a b : Int) : (Base.okB (metI L a) && (Base.inB b && bit (metI L a) b.toNat)) = seesB L a b := by
  have h60 := ((Lc.lace_iff L).1 hlc).1
  unfold seesB isB metI
  rw [hlc]
  by_cases ha : 0 ≤ a ∧ a < (L.length : Int)
  · obtain ⟨p, rfl⟩ := Int.eq_ofNat_of_zero_le ha.1
    have hp : p < L.length := by omega
    have hbd := bel_bd L p (by omega)
    rw [if_pos ha, Int.toNat_natCast, (Base.okB_iff _).2 hbd]
    by_cases hb : 0 ≤ b ∧ b < (L.length : Int)
    · rw [(Base.inB_iff b).2 ⟨hb.1, by omega⟩, decide_eq_true ha.1, decide_eq_true ha.2, decide_eq_true hb.1, decide_eq_true hb.2]; rfl
    · have e2 : (decide (0 ≤ b) && (decide (b < (L.length : Int)) && true)) = false := by
        rw [Bool.eq_false_iff]; intro h; simp at h; exact hb h
      rw [e2]
      simp only [Bool.false_and, Bool.and_false, Bool.true_and]
      rw [Bool.eq_false_iff]
      intro h
      rw [Bool.and_eq_true] at h
      have hb0 := (Base.inB_iff b).1 h.1
      have := reach_le hlc hp ((bel_reach hlc p hp b.toNat).1 h.2)
      exact hb ⟨hb0.1, by omega⟩
  · have e1 : (decide (0 ≤ a) && (decide (a < (L.length : Int)) && true)) = false := by
      rw [Bool.eq_false_iff]; intro h; simp at h; exact ha h
    rw [if_neg ha, e1, Lc.bit_zero]; simp

/-- a number that there is a knot for -/
theorem all_has {n : Nat} (hn : n ≤ 60) (k : Int) : (Base.okB (2 ^ n - 1) && (Base.inB k && bit (2 ^ n - 1) k.toNat)) = (decide (0 ≤ k) && decide (k < (n : Int))) := by
  have hp := Lc.pow60 n hn
  have hok : Base.okB (2 ^ n - 1) = true := (Base.okB_iff _).2 ⟨by omega, by omega⟩
  have hb : bit (2 ^ n - 1) k.toNat = decide (k.toNat < n) := by
    have e : ((2 : Int) ^ n - 1) = ((2 ^ n - 1 : Nat) : Int) := by rw [Int.ofNat_sub Nat.one_le_two_pow]; simp
    rw [Bit.bit_testBit _ (by omega), e, Int.toNat_natCast, Nat.testBit_two_pow_sub_one]
  rw [hok, hb, Bool.true_and, Bool.eq_iff_iff]
  simp only [Bool.and_eq_true, decide_eq_true_eq, Base.inB_iff]
  omega

theorem closedB_eq (L : List K) (s : Int) (hl : Lc.laceB L = true) : (Lc.inL L.length s && closedTo (belows L L.length) s L.length) = closedB L s := by
  unfold closedB; rw [Lc.setB_eq, hl]; rfl

end Sg
end Go.Proofs.YtapfmadnkaimeaaDoor
