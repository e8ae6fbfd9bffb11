/-
  How long the lists of chapters 11 and 12 are at most; what the model answers for OutOf and BeginsWith.
-/
import Derived.Test.YtodgkhlnefggdaaTaleS
import Derived.Test.YtodgkhlnefggdaaInts
namespace Go.Proofs.Ytodgkhlnefggdaa
open Go.RowKit
set_option maxRecDepth 100000
namespace Tl
open Kn (K okK)
open Bit (bit withB memTo)
open Lc (at' RdK WordsOk laceB setB)
open Sg (isB bel belows NumsPost)
open Ch (chainL)

theorem orderedI_len (L : List K) (s : Int) : (orderedI L s).length ≤ 60 := by
  unfold orderedI
  split
  · rw [ord_len]; exact Bit.memTo_le _ 60
  · simp
theorem freshI_len (L : List K) (k e : Int) : (freshI L k e).length ≤ 60 := by
  unfold freshI
  split
  · exact fresh_len L k e
  · simp
theorem taleF_len (L : List K) : ∀ (l : List Int) (e : Int), (taleF L e l).length ≤ 60 * l.length := by
  intro l
  induction l with
  | nil => intro e; exact Nat.le_refl _
  | cons c r ih =>
    intro e
    show (freshL L c e ++ taleF L c r).length ≤ _
    have h1 := fresh_len L c e
    have h2 := ih c
    rw [List.length_append, List.length_cons]; omega
theorem taleI_len (L : List K) (C : List Int) (k : Int) : (taleI L C k).length ≤ 3660 := by
  have hc := @Ch.chainI_len L C k
  unfold taleI
  split
  · rename_i h
    have e : Ch.chainI L C k = chainL L C k := by unfold Ch.chainI; rw [if_pos h]
    rw [e] at hc
    have := taleF_len L (chainL L C k) (-1)
    unfold taleL
    omega
  · simp
theorem outI_len (L : List K) (C : List Int) (s : Int) : (outI L C s).length ≤ 3660 := by
  unfold outI
  split
  · rename_i h
    unfold Fm.rightB at h
    rw [Bool.and_eq_true] at h
    rcases last_spec L C s L.length with ⟨q, _⟩ | ⟨f, q, hf, _⟩
    · rw [out_none (by rw [q]; omega)]; simp
    · rw [out_some (by rw [q]; omega), q]
      have hl := (Fm.closed_set h.1).1
      have hon : Ch.onB L C (f : Int) = true := by
        unfold Ch.onB
        rw [h.2]
        unfold Sg.isB
        rw [hl]
        simp; omega
      have := taleI_len L C (f : Int)
      unfold taleI at this
      rw [if_pos hon] at this
      exact this
  · simp

set_option maxHeartbeats 1600000 in
/-- the document's BeginsWith -/
def beginsB (a b : List Int) : Bool := decide (b.length ≤ a.length) && (List.range b.length).all fun i => a.getD i 0 == b.getD i 0

theorem begins_long {a b : List Int} (h : a.length < b.length) : beginsB a b = false := by
  unfold beginsB; rw [decide_eq_false (by omega)]; rfl
theorem begins_no {a b : List Int} (j : Nat) (hj : j < b.length) (h : (a.getD j 0 == b.getD j 0) = false) : beginsB a b = false := by
  rw [Bool.eq_false_iff]
  intro hb
  unfold beginsB at hb
  rw [Bool.and_eq_true, List.all_eq_true] at hb
  have := hb.2 j (by simpa using hj)
  rw [h] at this; exact Bool.noConfusion this
theorem begins_yes {a b : List Int} (hl : b.length ≤ a.length) (h : ∀ j, j < b.length → (a.getD j 0 == b.getD j 0) = true) : beginsB a b = true := by
  unfold beginsB
  rw [decide_eq_true hl, Bool.true_and, List.all_eq_true]
  intro j hj
  exact h j (by simpa using hj)

set_option maxHeartbeats 1600000 in
theorem specBegins (ao : Option Addr) (ca : Nat) (A : List Int) (bo : Option Addr) (cb : Nat) (D : List Int) (w : World) (hA : A.length ≤ 1048576) (hD : D.length ≤ 1048576) (ha : Lst.Rd w ao A) (hb : Lst.Rd w bo D) :
    Calls Try.prog 5 #[.slice ao A.length ca, .slice bo D.length cb] w fun e w' => e = .returned (.bool (beginsB A D)) ∧ Below w.heap.size w w' := by
  by_cases hlong : A.length < D.length
  · have HT : Hid (beginsB A D = false) := begins_long hlong
    have hl' : (A.length : Int) < (D.length : Int) := by omega
    go_enter Try.func5, Try.ntmps5
    go_wp2
    go_ret
    exact ⟨by rw [HT.out]; rfl, Below.refl _ _⟩
  · have hl' : ¬ (A.length : Int) < (D.length : Int) := by omega
    have hle : D.length ≤ A.length := by omega
    clear hlong
    go_enter Try.func5, Try.ntmps5
    go_wp2
    go_loopw [5] (fun i wr => ∃ j n : Nat, j ≤ D.length ∧ i = .int .i64 j ∧ wr = w.drewN n ∧ Hid (∀ q, q < j → (A.getD q 0 == D.getD q 0) = true)) (fun i _ => D.length - (intOf i).toNat)
    case atStart => exact ⟨0, 0, by omega, rfl, rfl, fun q hq => absurd hq (by omega)⟩
    case round =>
      obtain ⟨j, n, hj, rfl, rfl, HE⟩ := hrel
      by_cases hlt : j < D.length
      · rcases ha with h | ⟨g, rfl, hc⟩
        · exfalso; rw [h] at hle; simp at hle; rw [hle] at hlt; simp at hlt
        rcases hb with h | ⟨g', rfl, hc'⟩
        · exfalso; rw [h] at hlt; simp at hlt
        have h1 := hc j (by omega)
        have h2 := hc' j hlt
        have HNO : Hid ((A.getD j 0 == D.getD j 0) = false → beginsB A D = false) := begins_no j hlt
        have HST : Hid ((A.getD j 0 == D.getD j 0) = true → ∀ q, q < j + 1 → (A.getD q 0 == D.getD q 0) = true) := fun h q hq => by
          by_cases e : q = j
          · subst e; exact h
          · exact HE.out q (by omega)
        have hjA : (j : Int) < (A.length : Int) := by omega
        clear hc hc' HE
        generalize A.getD j 0 = x at h1 HNO HST
        generalize D.getD j 0 = y at h2 HNO HST
        cases hxy : (x == y)
        · have HT : Hid (beginsB A D = false) := HNO.out hxy
          clear HNO HST
          go_wp2_with fail
          go_quiet (fail)
          go_wp2
          go_ret
          exact ⟨by rw [HT.out]; rfl, by first | exact Nu.below_drewN (Below.refl _ _) _ | exact Nu.below_drewN (Nu.below_drewN (Below.refl _ _) _) _⟩
        · have HS2 : Hid (_) := HST.out hxy
          clear HNO HST
          go_wp2_with fail
          go_quiet (fail)
          go_wp2
          go_roundw
          case rel => exact ⟨j + 1, _, by omega, by go_num, rfl, HS2⟩
          case measure => simp [intOf]; omega
      · obtain rfl : j = D.length := by omega
        have HT : Hid (beginsB A D = true) := begins_yes hle HE.out
        clear HE
        go_wp2
        go_ret
        exact ⟨by rw [HT.out]; rfl, by first | exact Nu.below_drewN (Below.refl _ _) _ | exact Nu.below_drewN (Nu.below_drewN (Below.refl _ _) _) _⟩

end Tl
end Go.Proofs.Ytodgkhlnefggdaa
