/-
  What the program's own LaceOk, CanTie, HandsOf and AtRound answer, in the words of LaceM, and the lace that it takes a list for, in memory of its own; words of at most 2^40 bytes.
-/
import Derived.Test.YtmhcbmcfhopiiaaLaceU
namespace Go.Proofs.Ytmhcbmcfhopiiaa
open Go.RowKit
set_option maxRecDepth 100000
namespace Lc
open Kn (K okK)
open Bit (bit withB)

def cellsOf (k : K) : List Value := [.int .i64 k.hand, .int .i64 k.round, .int .i64 k.frm, .string k.word]
def flat (L : List K) : List Value := L.flatMap cellsOf
theorem flat_len (L : List K) : (flat L).length = L.length * 4 := by
  induction L with
  | nil => rfl
  | cons k L ih => unfold flat at *; rw [List.flatMap_cons, List.length_append, ih]; simp [cellsOf]; omega
theorem flat_snoc (L : List K) (k : K) : flat (L ++ [k]) = flat L ++ cellsOf k := by unfold flat; simp
theorem flat_one (L : List K) : ∀ u ∈ flat L, u.oneCell' = true := by
  intro u hu
  unfold flat at hu
  obtain ⟨k, _, hk⟩ := List.mem_flatMap.1 hu
  simp [cellsOf] at hk
  rcases hk with rfl | rfl | rfl | rfl <;> rfl
theorem flat_at (L : List K) (i c : Nat) (hi : i < L.length) (hc : c < 4) : (flat L)[i * 4 + c]? = (cellsOf (at' L i))[c]? := by
  induction L generalizing i with
  | nil => simp at hi
  | cons k L ih =>
    have e : flat (k :: L) = cellsOf k ++ flat L := by unfold flat; simp
    rw [e]
    cases i with
    | zero =>
      rw [List.getElem?_append_left (by simp [cellsOf]; omega)]
      simp [at', List.getD]
    | succ i =>
      rw [List.getElem?_append_right (by simp [cellsOf]; omega)]
      have : (i + 1) * 4 + c - (cellsOf k).length = i * 4 + c := by simp [cellsOf]; omega
      rw [this, ih i (by simpa using hi)]
      simp [at', List.getD]

/-- knots of the call's own, in a slice that is not nil -/
def OwnK (t : TypeId) (base : Nat) (w : World) (v : Value) (L : List K) : Prop := w.ownsRow base t 4 v L.length (flat L) ∧ v ≠ .slice none 0 0

theorem ownK_shape {t : TypeId} {base : Nat} {w : World} {v : Value} {L : List K} (h : OwnK t base w v L) : ∃ g cap, v = .slice (some ⟨g, 0, none⟩) L.length cap ∧ L.length ≤ cap ∧ cap ≤ maxLen ∧ base ≤ g ∧ g < w.heap.size ∧ RdK w (some ⟨g, 0, none⟩) L ∧ ∀ i, i < L.length * 4 → w.frozen? ⟨g, i, none⟩ = false := by
  obtain ⟨hown, hne⟩ := h
  have hlt := World.ownsRow.lt hown
  have hown' := hown
  obtain ⟨hl, ⟨hv0, _⟩ | ⟨g, cap, cur, hvs, hbg, hcur, hmc, hm, _, htake⟩⟩ := hown
  · exact absurd hv0 hne
  · subst hvs
    have hg := (hlt g rfl).2
    have hcell : ∀ j u, (flat L)[j]? = some u → w.cell? ⟨g, j, none⟩ = some u := by
      intro j u hj
      have := World.ownsRow.cells hown' (g := g) rfl j u hj
      by_cases hj0 : j = 0
      · subst hj0; simpa [Addr.add] using this
      · simpa [Addr.add, hj0] using this
    refine ⟨g, cap, rfl, hmc, hm, hbg, hg, ?_, fun i _ => World.ownsRow.frozenAt hown' i⟩
    refine .inr ⟨g, 0, rfl, hg, fun i hi => ?_⟩
    rw [Nat.zero_add]
    exact ⟨hcell (i * 4) _ (by have := flat_at L i 0 hi (by omega); simpa [cellsOf] using this), hcell (i * 4 + 1) _ (by have := flat_at L i 1 hi (by omega); simpa [cellsOf] using this),
      hcell (i * 4 + 2) _ (by have := flat_at L i 2 hi (by omega); simpa [cellsOf] using this), hcell (i * 4 + 3) _ (by have := flat_at L i 3 hi (by omega); simpa [cellsOf] using this)⟩

theorem ownK_below {t : TypeId} {base : Nat} {w w' : World} {v : Value} {L : List K} (h : OwnK t base w v L) (hb : Below w.heap.size w w') : OwnK t base w' v L := by
  refine ⟨?_, h.2⟩
  have hlt := World.ownsRow.lt h.1
  obtain ⟨h1, h2⟩ := h.1
  refine ⟨h1, ?_⟩
  rcases h2 with h2 | ⟨g, cap', cur, hv, hB, hg, rest⟩
  · exact .inl h2
  · refine .inr ⟨g, cap', cur, hv, hB, ?_, rest⟩
    rw [hb.block g (hlt g (by rw [hv]; rfl)).2]
    exact hg

theorem ownK_made (t : TypeId) (W : World) (z : Array Value) (c : Nat) (hc : c ≤ 1000) : OwnK t W.heap.size (W.alloc (.cells (madeCells z (c * 4)) t)) (.slice (some ⟨W.heap.size, 0, none⟩) 0 c) [] := by
  refine ⟨⟨rfl, .inr ⟨W.heap.size, c, madeCells z (c * 4), rfl, Nat.le_refl _, ?_, by simp, by unfold maxLen; omega, by rw [size_madeCells], rfl⟩⟩, by simp⟩
  show (W.heap.push _)[W.heap.size]? = _
  rw [Array.getElem?_push_size]

theorem new_cells (W : World) (k : K) (t : TypeId) : ∀ (j : Nat) u, (cellsOf k)[j]? = some u → (W.alloc (.cells #[.int .i64 k.hand, .int .i64 k.round, .int .i64 k.frm, .string k.word] t)).cell? ((⟨W.heap.size, 0, none⟩ : Addr).add j) = some u := by
  intro j u hj
  match j, hj with
  | 0, hj => simp [cellsOf] at hj; subst hj; simp [Addr.add]
  | 1, hj => simp [cellsOf] at hj; subst hj; simp [Addr.add]
  | 2, hj => simp [cellsOf] at hj; subst hj; simp [Addr.add]
  | 3, hj => simp [cellsOf] at hj; subst hj; simp [Addr.add]

theorem ownK_step {t : TypeId} {L : List K} {j : Nat} {w w4 w5 : World} {v v' : Value} {o : Obj} (hlt : j < L.length) (h : OwnK t w.heap.size w4 v (L.take j)) (hb : Below w.heap.size w w4)
    (hown : w5.ownsRow w.heap.size t 4 v' (j + 1) (flat (L.take j) ++ cellsOf (at' L j))) (hgrow : (w4.alloc o).grownBy w5 v.ownBlock) (hnil : ¬ v' = .slice none 0 0) :
    OwnK t w.heap.size w5 v' (L.take (j + 1)) ∧ Below w.heap.size w w5 := by
  refine ⟨⟨?_, hnil⟩, ?_⟩
  · have e : (L.take (j + 1)).length = j + 1 := by simp; omega
    rw [e, take_snoc L j hlt, flat_snoc]; exact hown
  · exact (hb.alloc hb.size o).grown hgrow (by have := hb.size; simp; omega) (fun i hi => (World.ownsRow.lt h.1 i hi).1)

/-- how the taking of a list ends -/
def LacePost (L : List K) (w : World) (e : Ending) (w' : World) : Prop :=
  (laceB L = true ∧ ∃ g, e = .returned (.tuple #[.slice (some ⟨g, 0, none⟩) L.length L.length, .bool true]) ∧ g < w'.heap.size ∧ RdK w' (some ⟨g, 0, none⟩) L ∧ Below w.heap.size w w') ∨
  (laceB L = false ∧ e = .returned (.tuple #[.slice none 0 0, .bool false]) ∧ Below w.heap.size w w')

end Lc
end Go.Proofs.Ytmhcbmcfhopiiaa
