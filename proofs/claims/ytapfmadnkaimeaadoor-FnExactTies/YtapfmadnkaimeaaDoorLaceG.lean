/-
  A slice of knots that came in, opened: the list that lies there; for every slice.
-/
import Derived.Test.YtapfmadnkaimeaaDoorRows
import Derived.Test.YtapfmadnkaimeaaDoorLaceL
import Derived.WalkKit
import Derived.ProofKit
import Derived.OpenShut
import Derived.ChangeOld
import Derived.Below
import Derived.Lib.SmallJoins
import Derived.Deep.Slices
namespace Go.Proofs.YtapfmadnkaimeaaDoor
open Go.ChangeShapes Go.WideShapes Go.ChangeAt Go.RowKit Go.Joins
set_option maxRecDepth 100000
namespace Lc
open Kn (K okK)

theorem cellsKn : Tryd.prog.cellsOf 47 = 4 := by kernel_rfl
theorem cellsI : Tryd.prog.cellsOf 2 = 1 := by kernel_rfl
theorem cellsS : Tryd.prog.cellsOf 9 = 1 := by kernel_rfl

instance : Inhabited K := ⟨k0⟩

theorem openK {H : Type} {enc : TypeId × Value → H} {W : World} {spare : Nat → Bool} {held : Bool} {a0 : Option Addr} {len0 cap0 fuel : Nat} {x : DataW H × List MemPlace}
    (h : DataW.trod enc Tryd.prog W 0 spare held fuel 22 [.slice a0 len0 cap0] = some x) : ∃ L : List K, L.length = len0 ∧ RdK W a0 L ∧ (∀ k ∈ L, k.word.size ≤ maxLen) ∧ len0 ≤ maxLen := by
  rcases Deep.open_slice Tryd.underlying22 h with ⟨hcs, _⟩ | ⟨a, l, c, m, n, D, Pl, hcs, _, hl, hm, hmm, _, hx⟩
  · simp at hcs
    obtain ⟨rfl, rfl, rfl⟩ := hcs
    exact ⟨[], rfl, .inl rfl, by simp, by simp⟩
  · simp at hcs
    obtain ⟨rfl, rfl, rfl⟩ := hcs
    have hk : ∀ i, i < len0 → ∃ k : K, k.word.size ≤ maxLen ∧ W.cell? ((a.add (i * 4)).add 0) = some (.int .i64 k.hand) ∧ W.cell? ((a.add (i * 4)).add 1) = some (.int .i64 k.round) ∧ W.cell? ((a.add (i * 4)).add 2) = some (.int .i64 k.frm) ∧ W.cell? ((a.add (i * 4)).add 3) = some (.string k.word) := by
      intro i hi
      obtain ⟨cs', h1, h2⟩ := hx i (by rw [hmm]; split <;> omega)
      rw [cellsKn] at h1
      obtain ⟨_, hlen, hcell⟩ := World.cells?_some h1
      obtain ⟨y0, y1, y2, y3, n', _, _, h20, h21, h22, h23⟩ := trod_struct4 Tryd.underlying47 h2
      match cs', hlen with
      | [x0, x1, x2, x3], _ =>
        simp only [cellsI, cellsS] at h20 h21 h22 h23
        obtain ⟨b0, e0, _, _⟩ := DataW.trod_int Tryd.underlying2 h20
        obtain ⟨b1, e1, _, _⟩ := DataW.trod_int Tryd.underlying2 h21
        obtain ⟨b2, e2, _, _⟩ := DataW.trod_int Tryd.underlying2 h22
        obtain ⟨b3, e3, _, w3⟩ := DataW.trod_string Tryd.underlying9 h23
        simp at e0 e1 e2 e3
        subst e0 e1 e2 e3
        exact ⟨⟨b0, b1, b2, b3⟩, w3, (hcell 0 (by omega)).trans rfl, (hcell 1 (by omega)).trans rfl, (hcell 2 (by omega)).trans rfl, (hcell 3 (by omega)).trans rfl⟩
    obtain ⟨f, hf⟩ := Deep.choose_lt hk
    have hlenL : ((List.range len0).map f).length = len0 := by simp
    have hat : ∀ i, i < len0 → at' ((List.range len0).map f) i = f i := by
      intro i hi
      rw [at_get _ i (by simpa using hi)]
      simp
    refine ⟨(List.range len0).map f, hlenL, ?_, ?_, by omega⟩
    · by_cases h0 : len0 = 0
      · subst h0; exact .inl rfl
      · obtain ⟨b, off, spot⟩ := a
        have hc0 := (hf 0 (by omega)).2.1
        have hspot : spot = none := by simpa [Addr.add] using World.cell?_spot hc0
        subst hspot
        refine .inr ⟨b, off, rfl, ?_, fun i hi => ?_⟩
        · have := block_lt_of_cell hc0; simpa [Addr.add] using this
        · have hi' : i < len0 := by simpa using hi
          obtain ⟨_, d0, d1, d2, d3⟩ := hf i hi'
          rw [hat i hi']
          rw [Deep.add_add, WideShapes.add_plain] at d0 d1 d2 d3
          exact ⟨d0, by rw [Nat.add_assoc]; exact d1, by rw [Nat.add_assoc]; exact d2, by rw [Nat.add_assoc]; exact d3⟩
    · intro k hk'
      rw [List.mem_map] at hk'
      obtain ⟨i, hi, rfl⟩ := hk'
      exact (hf i (by simpa using hi)).1

end Lc
end Go.Proofs.YtapfmadnkaimeaaDoor
