/-
  What the model's CoinsOk and its copy of numbers answer; for lists of at most a million numbers.
-/
import Derived.Test.YtfjmenhofllchaaGreatDoorSightS
import Derived.Test.YtfjmenhofllchaaGreatDoorKnotM
namespace Go.Proofs.YtfjmenhofllchaaGreatDoor
open Go.RowKit
set_option maxRecDepth 100000
namespace Rm
open Memb (Own)

/-- are they coins? -/
def coinsTo (l : List Int) (n : Nat) : Bool := (List.range n).all fun i => Kn.in3 (l.getD i 0)
def coinsB (l : List Int) : Bool := coinsTo l l.length && decide (l.length ≤ 6)
theorem coins_step (l : List Int) (n : Nat) : coinsTo l (n + 1) = (coinsTo l n && Kn.in3 (l.getD n 0)) := by
  unfold coinsTo; rw [List.range_succ]; simp
theorem coins_no (l : List Int) (n : Nat) (h : n < l.length) (hq : Kn.in3 (l.getD n 0) = false) : coinsB l = false := by
  unfold coinsB coinsTo
  have : ((List.range l.length).all fun i => Kn.in3 (l.getD i 0)) = false := by
    rw [List.all_eq_false]
    exact ⟨n, by simpa using h, by rw [hq]; decide⟩
  rw [this]; rfl

set_option maxHeartbeats 800000 in
theorem specCoinsOk (ao : Option Addr) (cap : Nat) (l : List Int) (w : World) (hl : l.length ≤ 1048576) (hrd : Lst.Rd w ao l) : Calls Tryz.prog 157 #[.slice ao l.length cap] w fun e w' => e = .returned (.bool (coinsB l)) ∧ w = w' := by
  go_enter Tryz.func157, Tryz.ntmps157
  go_wp2
  go_loop [3] (fun i => ∃ j : Nat, j ≤ l.length ∧ i = .int .i64 j ∧ Hid (coinsTo l j = true)) (fun i => l.length - (intOf i).toNat)
  case atStart => exact ⟨0, by omega, rfl, rfl⟩
  case round =>
    obtain ⟨j, hj, rfl, HC⟩ := hrel
    by_cases hlt : j < l.length
    · rcases hrd with hrd | ⟨b, rfl, hcell⟩
      · rw [hrd] at hlt; simp at hlt
      have cj := hcell j hlt
      have HS : Hid (coinsTo l (j + 1) = (coinsTo l j && Kn.in3 (l.getD j 0))) := coins_step l j
      have HN : Hid (Kn.in3 (l.getD j 0) = false → coinsB l = false) := coins_no l j hlt
      clear hcell
      generalize l.getD j 0 = y at cj HS HN
      cases hq : Kn.in3 y
      · have HT : Hid (coinsB l = false) := HN.out hq
        have HQ : Hid (Kn.in3 y = false) := hq
        clear hq HS HN
        go_wp2_with (go_at_call 47; refine (Kn.l1In3 _ _).mono ?_; rintro e w' ⟨rfl, rfl⟩; rw [HQ.out])
        go_ret
        exact ⟨by rw [HT.out]; rfl, rfl⟩
      · have HT : Hid (coinsTo l (j + 1) = true) := by show _ = _; rw [HS.out, HC.out, hq]; rfl
        have HQ : Hid (Kn.in3 y = true) := hq
        clear hq HS HN HC
        go_wp2_with (go_at_call 47; refine (Kn.l1In3 _ _).mono ?_; rintro e w' ⟨rfl, rfl⟩; rw [HQ.out])
        go_round
        case rel => exact ⟨j + 1, by omega, by go_num, HT⟩
        case measure => simp [intOf]; omega
    · obtain rfl : j = l.length := by omega
      by_cases h6 : l.length ≤ 6
      · have HT : Hid (coinsB l = true) := by show _ = _; unfold coinsB; rw [HC.out, decide_eq_true h6]; rfl
        have h6' : (l.length : Int) ≤ 6 := by omega
        go_wp2
        go_ret
        exact ⟨by rw [HT.out]; rfl, rfl⟩
      · have HT : Hid (coinsB l = false) := by show _ = _; unfold coinsB; rw [decide_eq_false h6]; simp
        have h6' : ¬ (l.length : Int) ≤ 6 := by omega
        go_wp2
        go_ret
        exact ⟨by rw [HT.out]; rfl, rfl⟩

theorem rd_nums {w : World} {ao : Option Addr} {l : List Int} {g : Nat} (h : Lst.Rd w ao l) (ha : ao = some ⟨g, 0, none⟩) : ∀ (j : Nat) u, (l.map (Value.int .i64))[j]? = some u → w.cell? ((⟨g, 0, none⟩ : Addr).add j) = some u := by
  intro j u hj
  rcases h with h | ⟨b, hb, hc⟩
  · rw [h] at hj; simp at hj
  · rw [ha] at hb
    injection hb with hb
    injection hb with hb
    subst hb
    have hlt : j < l.length := by
      have := (List.getElem?_eq_some_iff.1 hj).1
      simpa using this
    have hu : u = .int .i64 (l.getD j 0) := by
      simp [hlt] at hj
      rw [← hj]; simp [List.getD, hlt]
    rw [hu, WideShapes.add_plain, Nat.zero_add]
    exact hc j hlt

theorem nums_one (l : List Int) : ∀ u ∈ l.map (Value.int .i64), u.oneCell' = true := by
  intro u hu
  rw [List.mem_map] at hu
  obtain ⟨z, _, rfl⟩ := hu
  rfl

set_option maxHeartbeats 800000 in
theorem l1Copy (g cap : Nat) (l : List Int) (w : World) (hl : l.length ≤ 1048576) (hlt : g < w.heap.size) (hrd : Lst.Rd w (some ⟨g, 0, none⟩) l) : Calls Tryz.prog 152 #[.slice (some ⟨g, 0, none⟩) l.length cap] w (Sg.NumsPost l w) := by
  obtain ⟨i0, hi, hz0, hz1, hz2⟩ := info_parts Memb.info2
  have hrd0 : Lst.Rd (w.alloc (.cells #[] 2)) (some ⟨g, 0, none⟩) l := by
    rcases hrd with h | ⟨b, hb, hc⟩
    · exact .inl h
    · injection hb with hb
      injection hb with hb
      subst hb
      exact .inr ⟨g, rfl, fun j hj => (World.cell?_alloc_lt w _ ⟨g, j, none⟩ hlt).trans (hc j hj)⟩
  go_enter Tryz.func152, Tryz.ntmps152
  go_wp2_with (at_builtin; refine wpList_append_own _ rfl _ _ 51 rfl w.heap.size 2 i0 (.int .i64 0) 1 8 Tryz.underlying51 hi hz0 hz1 hz2 rfl (by decide) _ 0 [] rfl (Memb.own_empty w) ⟨g, 0, none⟩ l.length cap (l.map (Value.int .i64)) rfl (by simp) (rd_nums hrd0 rfl) (nums_one l) ?c3 ?c4 ?c5 ?_)
  case c3 => unfold maxLen; omega
  case c4 => omega
  case c5 => simp
  intro v' w5 hown' hgrow _
  have HR : Hid (w5.ownsRow w.heap.size 2 1 v' l.length (l.map (Value.int .i64)) ∧ Below w.heap.size w w5) :=
    ⟨by simpa using hown', ((Below.refl w.heap.size w).alloc (Nat.le_refl _) _).grown hgrow (by simp) (fun i hi => by simp [Value.ownBlock] at hi; omega)⟩
  clear hown' hgrow hi hz0 hz1 hz2
  obtain ⟨ao, ca, hv, ho⟩ := Memb.own_shape HR.out.1
  subst hv
  go_wp2
  go_ret
  exact ⟨ao, ca, rfl, ho, HR.out.2⟩

end Rm
end Go.Proofs.YtfjmenhofllchaaGreatDoor
