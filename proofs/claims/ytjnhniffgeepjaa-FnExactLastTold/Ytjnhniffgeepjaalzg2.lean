/-
 What the model answers for Logged, in plain words.
-/
import Derived.Test.Ytjnhniffgeepjaalzg1
import Derived.Lib.SmallJoins
import Derived.Deep.Slices
set_option linter.unusedVariables false
namespace Go.Proofs.Ytjnhniffgeepjaa
open Go.ChangeShapes Go.WideShapes Go.ChangeAt Go.RowKit Go.Joins
set_option maxRecDepth 100000
set_option linter.unusedVariables false
namespace Lg
theorem cellsIS : Try.prog.cellsOf 22 = 1 := by kernel_rfl
theorem cellsLog : Try.prog.cellsOf 25 = 2 := by kernel_rfl
theorem slice_of {H : Type} {enc : TypeId × Value → H} {W : World} {spare : Nat → Bool} {held : Bool} {n : Nat} {v : Value} {x : DataW H × List MemPlace}
   (h : DataW.trod enc Try.prog W 0 spare held n 22 [v] = some x) : ∃ (ao : Option Addr) (C : List Int) (cap : Nat), v = .slice ao C.length cap ∧ Nu.RdI W ao C ∧ (∀ z ∈ C, -9223372036854775808 ≤ z ∧ z ≤ 9223372036854775807) ∧ C.length ≤ maxLen := by
 have hv : ∃ (ao : Option Addr) (l c : Nat), v = .slice ao l c := by
   rcases open_ints Try.underlying22 Try.underlying2 (by kernel_rfl) h with ⟨hcs, _⟩ | ⟨y, l, c, zs, hcs, _⟩
   · exact ⟨none, 0, 0, by simpa using hcs⟩
   · exact ⟨some y, l, c, by simpa using hcs⟩
 obtain ⟨ao, l, c, rfl⟩ := hv
 obtain ⟨C, rfl, hr, hb, hl⟩ := Nu.openI h
 exact ⟨ao, C, c, rfl, hr, hb, hl⟩
theorem openSS {H : Type} {enc : TypeId × Value → H} {W : World} {spare : Nat → Bool} {held : Bool} {n : Nat} {v : Value} {x : DataW H × List MemPlace}
   (h : DataW.trod enc Try.prog W 0 spare held n 23 [v] = some x) : ∃ (qo : Option Addr) (T : List (List Int)) (tc : Nat) (f : At), v = .slice qo T.length tc ∧
     (T = [] ∨ ∃ tb off, qo = some ⟨tb, off, none⟩ ∧ tb < W.heap.size ∧ ∀ i, i < T.length → W.cell? ⟨tb, off + i, none⟩ = some (.slice (f i).1 (T.getD i []).length (f i).2)) ∧
     (∀ i, i < T.length → Nu.RdI W (f i).1 (T.getD i [])) ∧ (∀ i, i < T.length → (T.getD i []).length ≤ maxLen) ∧ T.length ≤ maxLen := by
 rcases Deep.open_slice Try.underlying23 h with ⟨hcs, _⟩ | ⟨a, l, c, m, n', D, Pl, hcs, _, hl, hm, hmm, _, hx⟩
 · exact ⟨none, [], 0, fun _ => (none, 0), by simpa using hcs, .inl rfl, by simp, by simp, by simp⟩
 · obtain rfl : v = .slice (some a) l c := by simpa using hcs
   have hk : ∀ i, i < l → ∃ p : List Int × (Option Addr × Nat), W.cell? (a.add i) = some (.slice p.2.1 p.1.length p.2.2) ∧ Nu.RdI W p.2.1 p.1 ∧ p.1.length ≤ maxLen := by
     intro i hi
     obtain ⟨cs', h1, h2⟩ := hx i (by rw [hmm]; split <;> omega)
     rw [cellsIS] at h1
     obtain ⟨_, hlen, hcell⟩ := World.cells?_some h1
     match cs', hlen with
     | [u], _ =>
       obtain ⟨ao, C, cap, rfl, hr, _, hc⟩ := slice_of h2
       have q := hcell 0 (by omega)
       exact ⟨(C, (ao, cap)), by simpa [Addr.add] using q, hr, hc⟩
   obtain ⟨f, hf⟩ := Deep.choose_lt hk
   have hlenL : ((List.range l).map fun i => (f i).1).length = l := by simp
   have hat : ∀ i, i < l → ((List.range l).map fun i => (f i).1).getD i [] = (f i).1 := fun i hi => by simp [List.getD, hi]
   refine ⟨some a, (List.range l).map fun i => (f i).1, c, fun i => (f i).2, by rw [hlenL], ?_, fun i hi => ?_, fun i hi => ?_, by rw [hlenL]; omega⟩
   · by_cases h0 : l = 0
     · subst h0; exact .inl rfl
     · obtain ⟨b, off, spot⟩ := a
       have hc0 := (hf 0 (by omega)).1
       have hspot : spot = none := by simpa [Addr.add] using World.cell?_spot hc0
       subst hspot
       refine .inr ⟨b, off, rfl, ?_, fun i hi => ?_⟩
       · have := block_lt_of_cell hc0; simpa [Addr.add] using this
       · rw [hlenL] at hi
         have d0 := (hf i hi).1
         rw [WideShapes.add_plain] at d0
         rw [hat i hi]; exact d0
   · rw [hlenL] at hi; rw [hat i hi]; exact (hf i hi).2.1
   · rw [hlenL] at hi; rw [hat i hi]; exact (hf i hi).2.2
theorem openLog {H : Type} {enc : TypeId × Value → H} {W : World} {spare : Nat → Bool} {held : Bool} {n m : Nat} {u v : Value} {x y : DataW H × List MemPlace}
   (h1 : DataW.trod enc Try.prog W 0 spare held n 22 [u] = some x) (h2 : DataW.trod enc Try.prog W 0 spare held m 23 [v] = some y) :
   ∃ (so qo : Option Addr) (S : List Int) (T : List (List Int)) (sc tc : Nat) (f : At), u = .slice so S.length sc ∧ v = .slice qo T.length tc ∧ InL W so qo S T f ∧ S.length ≤ maxLen ∧ T.length ≤ maxLen ∧ (∀ i, i < T.length → (T.getD i []).length ≤ maxLen) ∧ (∀ x ∈ S, -9223372036854775808 ≤ x ∧ x ≤ 9223372036854775807) := by
 obtain ⟨so, S, sc, rfl, hr, hb, hs⟩ := slice_of h1
 obtain ⟨qo, T, tc, f, rfl, ht, hrow, hlen, hT⟩ := openSS h2
 exact ⟨so, qo, S, T, sc, tc, f, rfl, rfl, ⟨hr, ht, hrow⟩, hs, hT, hlen, hb⟩
end Lg
end Go.Proofs.Ytjnhniffgeepjaa
namespace Go.Proofs.Ytjnhniffgeepjaa
open Go.RowKit
set_option maxRecDepth 100000
set_option linter.unusedVariables false
namespace Lg
variable {W : World} {B xb : Nat} {a : Option Addr} {c : Nat} {S : List Int} {vo : Option Addr} {vc : Nat} {T : List (List Int)} {f : At}
end Lg
end Go.Proofs.Ytjnhniffgeepjaa
namespace Go.Proofs.Ytjnhniffgeepjaa
open Go.RowKit
set_option maxRecDepth 100000
set_option linter.unusedVariables false
namespace Lg
open Sg (NumsPost)
end Lg
end Go.Proofs.Ytjnhniffgeepjaa
