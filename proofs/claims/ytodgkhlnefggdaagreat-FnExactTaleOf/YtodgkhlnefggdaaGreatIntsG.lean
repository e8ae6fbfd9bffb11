/-
  A list of numbers that came in: where it lies.
-/
import Derived.Test.YtodgkhlnefggdaaGreatRows
import Derived.Test.YtodgkhlnefggdaaGreatInts
import Derived.WalkKit
import Derived.ProofKit
import Derived.OpenShut
import Derived.ChangeOld
import Derived.Below
namespace Go.Proofs.YtodgkhlnefggdaaGreat
open Go.ChangeShapes Go.WideShapes Go.ChangeAt Go.RowKit
set_option maxRecDepth 100000
namespace Nu

theorem openI {H : Type} {enc : TypeId × Value → H} {W : World} {spare : Nat → Bool} {held : Bool} {a0 : Option Addr} {len0 cap0 fuel : Nat} {x : DataW H × List MemPlace}
    (h : DataW.trod enc Tryz.prog W 0 spare held fuel 23 [.slice a0 len0 cap0] = some x) : ∃ C : List Int, C.length = len0 ∧ RdI W a0 C ∧ (∀ z ∈ C, -9223372036854775808 ≤ z ∧ z ≤ 9223372036854775807) ∧ len0 ≤ maxLen := by
  rcases open_ints Tryz.underlying23 Tryz.underlying2 (by kernel_rfl) h with ⟨hcs, _⟩ | ⟨y, l, c, zs, hcs, _, hl, hm, hz, _, hcell, hwz⟩
  · simp at hcs
    obtain ⟨rfl, rfl, rfl⟩ := hcs
    exact ⟨[], rfl, .inl rfl, by simp, by simp⟩
  · simp at hcs
    obtain ⟨rfl, rfl, rfl⟩ := hcs
    have hzl : len0 ≤ zs.length := by rw [hz]; split <;> omega
    have hlen : (zs.take len0).length = len0 := by simp; omega
    refine ⟨zs.take len0, hlen, ?_, fun z hz' => ?_, by omega⟩
    · by_cases h0 : len0 = 0
      · subst h0; exact .inl (by simp)
      · obtain ⟨b, off, spot⟩ := y
        have hc := hcell 0 (by omega)
        have hspot : spot = none := by simpa [Addr.add] using World.cell?_spot hc
        subst hspot
        refine .inr ⟨b, off, rfl, ?_, fun j hj => ?_⟩
        · have := block_lt_of_cell hc; simpa [Addr.add] using this
        · rw [hlen] at hj
          have hcj := hcell j (by omega)
          rw [WideShapes.add_plain] at hcj
          rw [hcj]
          simp [List.getD, hj]
    · have := hwz z (List.mem_of_mem_take hz')
      simpa [Lit.wf, IntKind.min, IntKind.max, IntKind.signed, IntKind.bits] using this

end Nu
end Go.Proofs.YtodgkhlnefggdaaGreat
