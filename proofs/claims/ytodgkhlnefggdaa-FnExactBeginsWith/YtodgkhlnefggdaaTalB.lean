/-
  What the program's own BeginsWith answers, by the library's slices.Equal: is the second list the beginning of the first? For lists of at most 2^20 numbers.
-/
import Derived.Test.YtodgkhlnefggdaaTaleL
namespace Go.Proofs.Ytodgkhlnefggdaa
open Go.RowKit
set_option maxRecDepth 100000
set_option linter.unusedVariables false
namespace Tp
open Tl (beginsB)

set_option maxHeartbeats 1600000 in
theorem equal (ao : Option Addr) (ca : Nat) (A : List Int) (bo : Option Addr) (cb : Nat) (D : List Int) (w : World) (hA : A.length ≤ 1048576) (hle : D.length ≤ A.length) (ha : Lst.Rd w ao A) (hb : Lst.Rd w bo D) :
    Calls Try.prog 19 #[.slice ao D.length ca, .slice bo D.length cb] w fun e w' => e = .returned (.bool (beginsB A D)) ∧ Below w.heap.size w w' := by
  go_enter Try.func19, Try.ntmps19
  go_wp2
  go_loopw [13] (fun i wr => ∃ j n : Nat, j ≤ D.length ∧ i = .int .i64 j ∧ wr = w.drewN n ∧ Hid (∀ q, q < j → (A.getD q 0 == D.getD q 0) = true)) (fun i _ => D.length - (intOf i).toNat)
  case atStart => exact ⟨0, 0, by omega, rfl, rfl, fun q hq => absurd hq (by omega)⟩
  case round =>
    obtain ⟨j, n, hj, rfl, rfl, HE⟩ := hrel
    by_cases hlt : j < D.length
    · rcases ha with h | ⟨g, rfl, hc⟩
      · exfalso; rw [h] at hle; simp at hle; rw [hle] at hlt; simp at hlt
      rcases hb with h | ⟨g', rfl, hc'⟩
      · exfalso; rw [h] at hlt; simp at hlt
      have h1 := hc j (by omega)
      have h2 := hc' j hlt
      have HNO : Hid ((A.getD j 0 == D.getD j 0) = false → beginsB A D = false) := Tl.begins_no j hlt
      have HST : Hid ((A.getD j 0 == D.getD j 0) = true → ∀ q, q < j + 1 → (A.getD q 0 == D.getD q 0) = true) := fun h q hq => by
        by_cases e : q = j
        · subst e; exact h
        · exact HE.out q (by omega)
      have hjD : (j : Int) < (D.length : Int) := by omega
      clear hc hc' HE
      generalize A.getD j 0 = x at h1 HNO HST
      generalize D.getD j 0 = y at h2 HNO HST
      cases hxy : (x == y)
      · have HT : Hid (beginsB A D = false) := HNO.out hxy
        clear HNO HST
        go_wp2_with fail
        go_quiet (fail)
        go_wp2
        go_ret
        exact ⟨by rw [HT.out]; rfl, by first | exact Nu.below_drewN (Below.refl _ _) _ | exact Nu.below_drewN (Nu.below_drewN (Below.refl _ _) _) _⟩
      · have HS2 : Hid (_) := HST.out hxy
        clear HNO HST
        go_wp2_with fail
        go_quiet (fail)
        go_wp2
        go_roundw
        case rel => exact ⟨j + 1, _, by omega, by go_num, rfl, HS2⟩
        case measure => simp [intOf]; omega
    · obtain rfl : j = D.length := by omega
      have HT : Hid (beginsB A D = true) := Tl.begins_yes hle HE.out
      clear HE
      go_wp2
      go_ret
      exact ⟨by rw [HT.out]; rfl, by first | exact Nu.below_drewN (Below.refl _ _) _ | exact Nu.below_drewN (Nu.below_drewN (Below.refl _ _) _) _⟩

set_option maxHeartbeats 1600000 in
theorem implBegins (ao : Option Addr) (ca : Nat) (A : List Int) (bo : Option Addr) (cb : Nat) (D : List Int) (w : World) (hcap : A.length ≤ ca) (hA : A.length ≤ 1048576) (hD : D.length ≤ 1048576) (ha : Lst.Rd w ao A) (hb : Lst.Rd w bo D) :
    Calls Try.prog 7 #[.slice ao A.length ca, .slice bo D.length cb] w fun e w' => e = .returned (.bool (beginsB A D)) ∧ Below w.heap.size w w' := by
  by_cases hlong : A.length < D.length
  · have HT : Hid (beginsB A D = false) := Tl.begins_long hlong
    have hl' : ¬ (D.length : Int) ≤ (A.length : Int) := by omega
    go_enter Try.func7, Try.ntmps7
    go_wp2
    go_ret
    exact ⟨by rw [HT.out]; rfl, Below.refl _ _⟩
  · have hl' : (D.length : Int) ≤ (A.length : Int) := by omega
    have hle : D.length ≤ A.length := by omega
    have hc1 : (D.length : Int) ≤ (ca : Int) := by omega
    have HEQ : Hid (∀ (po : Option Addr) (pc : Nat), Lst.Rd w po A → Calls Try.prog 19 #[.slice po D.length pc, .slice bo D.length cb] w fun e w' => e = .returned (.bool (beginsB A D)) ∧ Below w.heap.size w w') := fun po pc h => equal po pc A bo cb D w hA hle h hb
    have HRA : Hid (Lst.Rd w ao A) := ha
    clear hlong ha hb
    go_enter Try.func7, Try.ntmps7
    generalize beginsB A D = ans at HEQ ⊢
    cases ao with
    | none =>
      go_wp2_with fail
      refine (HEQ.out _ _ HRA.out).mono ?_
      rintro e w1 ⟨rfl, hb1⟩
      clear HEQ
      go_wp2
      go_ret
      exact ⟨rfl, hb1⟩
    | some a =>
      go_wp2_with fail
      refine (HEQ.out _ _ HRA.out).mono ?_
      rintro e w1 ⟨rfl, hb1⟩
      clear HEQ
      go_wp2
      go_ret
      exact ⟨rfl, hb1⟩

end Tp
end Go.Proofs.Ytodgkhlnefggdaa
