/-
  What the model's writing of numbers and of knots answers: the text that the plain mathematics says; for numbers from 0 to a thousand million and right knots.
-/
import Derived.Test.YtghpmhfhenndiaaDoorKnotM
import Derived.Test.YtghpmhfhenndiaaDoorMemb
namespace Go.Proofs.YtghpmhfhenndiaaDoor
open Go.RowKit
set_option maxRecDepth 100000
namespace Kn

def dig (n : Nat) : UInt8 := UInt8.ofNat (48 + n % 10)
def decF : Nat → Nat → List UInt8
  | 0, _ => []
  | f + 1, n => if n < 10 then [dig n] else decF f (n / 10) ++ [dig n]
/-- a number in decimal digits -/
def dec (n : Nat) : List UInt8 := decF 12 n

theorem decF_more (f n : Nat) (h : n < 10 ^ f) : decF (f + 1) n = decF (f + 2) n := by
  induction f generalizing n with
  | zero => have : n = 0 := by simpa using h
            subst this; rfl
  | succ f ih =>
    have e1 : decF (f + 1 + 1) n = if n < 10 then [dig n] else decF (f + 1) (n / 10) ++ [dig n] := rfl
    have e2 : decF (f + 1 + 2) n = if n < 10 then [dig n] else decF (f + 2) (n / 10) ++ [dig n] := rfl
    rw [e1, e2]
    by_cases hn : n < 10
    · simp [hn]
    · simp only [hn, if_false]
      rw [ih (n / 10) (by rw [Nat.pow_succ] at h; omega)]

theorem dec_small (n : Nat) (h : n < 10) : dec n = [dig n] := by unfold dec; rw [decF]; simp [h]
theorem dec_big (n : Nat) (h : 10 ≤ n) (h2 : n < 100000000000) : dec n = dec (n / 10) ++ [dig n] := by
  unfold dec
  have hn : ¬ n < 10 := by omega
  have e : decF 12 n = decF 11 (n / 10) ++ [dig n] := by rw [decF, if_neg hn]
  rw [e, decF_more 10 (n / 10) (by omega)]

/-- a text as a value's bytes -/
def B (l : List UInt8) : ByteArray := ⟨l.toArray⟩

def emptyOf : Value → Nat
  | .string b => if b.size = 0 then 1 else 0
  | _ => 0

theorem B_size (l : List UInt8) : (B l).size = l.length := by simp [B, ByteArray.size]
theorem B_app (a b : List UInt8) : B a ++ B b = B (a ++ b) := by
  apply ByteArray.ext; simp [B]
theorem nums_dig (m : Nat) : strOfNums [48 + (m : Int) % 10] = B [dig m] := by
  unfold strOfNums B dig
  have e : (48 + (m : Int) % 10).toNat = 48 + m % 10 := by omega
  simp [e]

theorem B_list (l : List UInt8) : (B l).toList = l := ByteArray.toList_mk l

theorem conv1 (W : World) (m : Nat) : (convert 22 9 (.slice (some ⟨W.heap.size, 0, none⟩) 1 1)).run Tryd.prog (W.alloc (.cells #[.int .u8 (48 + (m : Int) % 10)] 5)) = .ok (.string (B [dig m])) (W.alloc (.cells #[.int .u8 (48 + (m : Int) % 10)] 5)) := by
  have h := run_convert_bytes_arg (P := Tryd.prog) (W.alloc (.cells #[.int .u8 (48 + (m : Int) % 10)] 5)) 22 5 Tryd.underlying22 Tryd.underlying5 W.heap.size 0 1 1 [48 + (m : Int) % 10] rfl
    (fun i hi => by obtain rfl : i = 0 := (by omega); simp) 9 Tryd.underlying9
  rw [nums_dig] at h
  exact h

theorem len_step (n m len : Nat) (hn : n < 10000000000) (h : m * 10 ^ len ≤ n) (hc : len = 0 ∨ m ≠ 0) : len + 1 ≤ 11 ∧ m / 10 * 10 ^ (len + 1) ≤ n := by
  constructor
  · rcases hc with hc | hc
    · omega
    · have h1 : 10 ^ len ≤ m * 10 ^ len := Nat.le_mul_of_pos_left _ (by omega)
      apply Classical.byContradiction
      intro hlt
      have h2 : 10 ^ 10 ≤ 10 ^ len := Nat.pow_le_pow_right (by omega) (by omega)
      omega
  · have e : m / 10 * 10 ^ (len + 1) = (m / 10 * 10) * 10 ^ len := by rw [Nat.pow_succ, Nat.mul_comm (10 ^ len) 10, Nat.mul_assoc]
    rw [e]
    exact Nat.le_trans (Nat.mul_le_mul_right _ (Nat.div_mul_le_self m 10)) h

theorem dec_step (n m : Nat) (s : List UInt8) (hn : n < 10000000000) (hm : m ≤ n) (hc : s = [] ∨ m ≠ 0) (h : dec n = if s = [] ∨ m ≠ 0 then dec m ++ s else s) :
    dec n = if (dig m :: s) = [] ∨ m / 10 ≠ 0 then dec (m / 10) ++ (dig m :: s) else (dig m :: s) := by
  rw [if_pos hc] at h
  by_cases h10 : m < 10
  · have e : m / 10 = 0 := by omega
    rw [h, dec_small m h10, e]; simp
  · have e : m / 10 ≠ 0 := by omega
    rw [if_pos (.inr e), h, dec_big m (by omega) (by omega)]; simp

set_option maxHeartbeats 1600000 in
theorem l1Int (n : Nat) (w : World) (hn : n < 10000000000) : Calls Tryd.prog 38 #[.int .i64 (n : Int)] w fun e w' => e = .returned (.string (B (dec n))) ∧ Below w.heap.size w w' := by
  have kc := conv1
  have hn0 : decide ((n : Int) < 0) = false := by simp
  go_enter Tryd.func38, Tryd.ntmps38
  go_wp2
  go_loopw [0, 3] (fun v t wr => ∃ (m : Nat) (s : List UInt8), v = .int .i64 (m : Int) ∧ t = .string (B s) ∧ m ≤ n ∧ Hid (dec n = if s = [] ∨ m ≠ 0 then dec m ++ s else s) ∧ s.length ≤ 11 ∧ Hid (m * 10 ^ s.length ≤ n) ∧ Below w.heap.size w wr ∧ w.heap.size ≤ wr.heap.size) (fun v t _ => 2 * (intOf v).toNat + emptyOf t)
  case atStart => exact ⟨n, [], rfl, rfl, Nat.le_refl _, by show _ = _; simp, by simp, by show _ ≤ _; simp, Below.refl _ _, Nat.le_refl _⟩
  case round =>
    obtain ⟨m, s, rfl, rfl, hm, HD, hl, HL, hb, hB⟩ := hrel
    have hsz := B_size s
    have hsz1 : ∀ x : Nat, (B [dig x]).size = 1 := fun x => B_size _
    have hls := B_list s
    by_cases hc : s = [] ∨ m ≠ 0
    · have HN : Hid (dec n = if (dig m :: s) = [] ∨ m / 10 ≠ 0 then dec (m / 10) ++ (dig m :: s) else (dig m :: s)) := dec_step n m s hn hm hc HD.out
      have hstep := len_step n m s.length hn HL.out (hc.elim (fun h => .inl (by simp [h])) .inr)
      have HL' : Hid (m / 10 * 10 ^ (dig m :: s).length ≤ n) := hstep.2
      have HE : Hid (B [dig m] ++ B s = B (dig m :: s)) := B_app [dig m] s
      have hs1 := hstep.1
      clear hstep
      have hend : emptyOf (.string (B (dig m :: s))) = 0 := by simp [emptyOf, B_size]
      by_cases hs : s = []
      · have hem : s.isEmpty = true := by simp [hs]
        have hbe : emptyOf (.string (B s)) = 1 := by simp [emptyOf, B_size, hs]
        clear hs hc
        go_wp2
        go_roundw
        case rel => exact ⟨m / 10, dig m :: s, by go_num, by rw [HE.out], by omega, HN, by simpa using hs1, HL', hb.alloc hB _, by simp; omega⟩
        case measure => rw [HE.out, hend, hbe]; simp [intOf]; omega
      · have hem : s.isEmpty = false := by simp [hs]
        have hm0 : m ≠ 0 := hc.elim (fun h => absurd h hs) id
        have hbe : emptyOf (.string (B s)) = 0 := by
          have : 0 < s.length := List.length_pos_iff.2 hs
          simp [emptyOf, B_size]; omega
        have hmb : ((m : Int) != 0) = true := by simp; omega
        clear hc
        go_wp2
        go_roundw
        case rel => exact ⟨m / 10, dig m :: s, by go_num, by rw [HE.out], by omega, HN, by simpa using hs1, HL', hb.alloc hB _, by simp; omega⟩
        case measure => rw [HE.out, hend, hbe]; simp [intOf]; omega
    · have hs : s ≠ [] := fun h => hc (.inl h)
      have hm0 : m = 0 := by
        apply Classical.byContradiction; intro h; exact hc (.inr h)
      have hem : s.isEmpty = false := by simp [hs]
      have HF : Hid (dec n = s) := by
        show dec n = s
        have := HD.out
        rwa [if_neg hc] at this
      clear hc
      subst hm0
      go_wp2
      go_ret
      exact ⟨by rw [HF.out]; rfl, hb⟩

theorem isE (s : ByteArray) (h : s.size = 0) : s.toList.isEmpty = true := by
  rw [ByteArray.toList_eq, List.isEmpty_iff]
  exact List.length_eq_zero_iff.1 (by simpa using h)
theorem isN (s : ByteArray) (h : ¬ s.size = 0) : s.toList.isEmpty = false := by
  cases he : s.toList.isEmpty
  · rfl
  · exfalso
    rw [ByteArray.toList_eq, List.isEmpty_iff] at he
    have := congrArg List.length he
    exact h (by simpa using this)

end Kn
end Go.Proofs.YtghpmhfhenndiaaDoor
