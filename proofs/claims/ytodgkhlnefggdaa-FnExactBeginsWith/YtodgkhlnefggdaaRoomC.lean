/-
  What the model's CoinsOk and its copy of numbers answer; for lists of at most a million numbers.
-/
import Derived.Test.YtodgkhlnefggdaaSightS
import Derived.Test.YtodgkhlnefggdaaKnotM
namespace Go.Proofs.Ytodgkhlnefggdaa
open Go.RowKit
set_option maxRecDepth 100000
namespace Rm
open Memb (Own)

/-- are they coins? -/
def coinsTo (l : List Int) (n : Nat) : Bool := (List.range n).all fun i => Kn.in3 (l.getD i 0)
def coinsB (l : List Int) : Bool := coinsTo l l.length && decide (l.length ≤ 6)
theorem coins_step (l : List Int) (n : Nat) : coinsTo l (n + 1) = (coinsTo l n && Kn.in3 (l.getD n 0)) := by
  unfold coinsTo; rw [List.range_succ]; simp
theorem coins_no (l : List Int) (n : Nat) (h : n < l.length) (hq : Kn.in3 (l.getD n 0) = false) : coinsB l = false := by
  unfold coinsB coinsTo
  have : ((List.range l.length).all fun i => Kn.in3 (l.getD i 0)) = false := by
    rw [List.all_eq_false]
    exact ⟨n, by simpa using h, by rw [hq]; decide⟩
  rw [this]; rfl

theorem rd_nums {w : World} {ao : Option Addr} {l : List Int} {g : Nat} (h : Lst.Rd w ao l) (ha : ao = some ⟨g, 0, none⟩) : ∀ (j : Nat) u, (l.map (Value.int .i64))[j]? = some u → w.cell? ((⟨g, 0, none⟩ : Addr).add j) = some u := by
  intro j u hj
  rcases h with h | ⟨b, hb, hc⟩
  · rw [h] at hj; simp at hj
  · rw [ha] at hb
    injection hb with hb
    injection hb with hb
    subst hb
    have hlt : j < l.length := by
      have := (List.getElem?_eq_some_iff.1 hj).1
      simpa using this
    have hu : u = .int .i64 (l.getD j 0) := by
      simp [hlt] at hj
      rw [← hj]; simp [List.getD, hlt]
    rw [hu, WideShapes.add_plain, Nat.zero_add]
    exact hc j hlt

theorem nums_one (l : List Int) : ∀ u ∈ l.map (Value.int .i64), u.oneCell' = true := by
  intro u hu
  rw [List.mem_map] at hu
  obtain ⟨z, _, rfl⟩ := hu
  rfl

end Rm
end Go.Proofs.Ytodgkhlnefggdaa
