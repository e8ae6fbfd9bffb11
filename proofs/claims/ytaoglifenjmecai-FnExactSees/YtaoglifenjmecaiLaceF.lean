/-
  What the program's own HandsOf and AtRound answer, in the words of LaceM; for lists of at most 2^40 knots whose words have at most 2^40 bytes.
-/
import Derived.Test.YtaoglifenjmecaiLaceE
namespace Go.Proofs.Ytaoglifenjmecai
open Go.RowKit
set_option maxRecDepth 100000
namespace Lc
open Kn (K okK)
open Bit (bit withB)

theorem pow60 (n : Nat) (hn : n ≤ 60) : (1 : Int) ≤ 2 ^ n ∧ (2 : Int) ^ n ≤ 1152921504606846976 := by
  have hp : 1 ≤ 2 ^ n := Nat.one_le_two_pow
  have hq : 2 ^ n ≤ 2 ^ 60 := Nat.pow_le_pow_right (by decide) hn
  have hpc : ((2 ^ n : Nat) : Int) = (2 : Int) ^ n := by simp
  omega

theorem wrap60 (n : Nat) (hn : n ≤ 60) : IntKind.i64.wrap (2 ^ n) = 2 ^ n := by
  have := pow60 n hn
  rw [IntKind.wrap_i64]; omega

/-- within the lace -/
def inL (n : Nat) (s : Int) : Bool := decide (0 ≤ s) && decide (s / 2 ^ n = 0)

set_option maxHeartbeats 400000 in
theorem all (a : Option Addr) (cap n : Nat) (w : World) (hn : n ≤ 60) : Calls Try.prog 56 #[.slice a n cap] w fun e w' => e = .returned (.int .i64 (2 ^ n - 1)) ∧ w = w' := by
  have h1 := wrap60 n hn
  have h2 := pow60 n hn
  go_enter Try.func56, Try.ntmps56
  go_wp2
  go_ret
  exact ⟨rfl, rfl⟩

set_option maxHeartbeats 400000 in
theorem holds (a : Option Addr) (cap n : Nat) (s : Int) (w : World) (hn : n ≤ 60) (h0 : -9223372036854775808 ≤ s) (h1 : s ≤ 9223372036854775807) : Calls Try.prog 48 #[.slice a n cap, .int .i64 s] w fun e w' => e = .returned (.bool (inL n s)) ∧ w = w' := by
  have HA : Hid ((bits .andNot .i64 s (2 ^ n - 1) == 0) = inL n s) := andNot_zero s n hn h0 h1
  go_enter Try.func48, Try.ntmps48
  go_wp2_with fail
  refine (all _ _ _ _ hn).mono ?_
  rintro e w1 ⟨rfl, rfl⟩
  go_wp2
  go_ret
  exact ⟨by rw [← HA.out]; rfl, rfl⟩

theorem setB_eq (L : List K) (s : Int) : setB L s = (laceB L && inL L.length s) := rfl

set_option maxHeartbeats 1600000 in
theorem implHandsOf (g off cap : Nat) (L : List K) (s : Int) (w : World) (hlen : L.length ≤ 1099511627776) (hw : WordsOk L) (h0 : -9223372036854775808 ≤ s) (h1 : s ≤ 9223372036854775807) (hr : RdK w (some ⟨g, off, none⟩) L) :
    Calls Try.prog 12 #[.slice (some ⟨g, off, none⟩) L.length cap, .int .i64 s] w fun e w' => e = .returned (.int .i64 (handsOfI L s)) ∧ Below w.heap.size w w' := by
  have HLF : Hid (∀ W : World, RdK W (some ⟨g, off, none⟩) L → Calls Try.prog 39 #[.slice (some ⟨g, off, none⟩) L.length cap] W (LacePost L W)) := fun W h => laceOf g off cap L W hlen hw h
  go_enter Try.func12, Try.ntmps12
  go_wp2_with (first | (go_at_call 28; go_in) | fail)
  refine (HLF.out _ hr).mono ?_
  rintro e w1 (⟨hl, g', rfl, hg', hrg, hb1⟩ | ⟨hl, rfl, hb1⟩)
  · have h60 := ((lace_iff L).1 hl).1
    have hh := lace_hands hl
    have HS : Hid (setB L s = inL L.length s) := by show _ = _; rw [setB_eq, hl]; rfl
    clear hl HLF
    go_wp2_with fail
    refine (holds _ _ _ s _ h60 h0 h1).mono ?_
    rintro e w1' ⟨rfl, rfl⟩
    cases hin : inL L.length s
    · have HT : Hid (handsOfI L s = -1) := by show _ = _; unfold handsOfI; rw [HS.out, hin]; rfl
      clear hin HS
      go_wp2
      go_ret
      exact ⟨by rw [HT.out]; rfl, hb1⟩
    · have HT : Hid (handsOfI L s = handsN L s) := by show _ = _; unfold handsOfI; rw [HS.out, hin]; rfl
      obtain ⟨_, q0, q1, qd, _, _⟩ := setB_parts (HS.out.trans hin)
      clear hin HS
      go_wp2_with fail
      refine (hands g' 0 L.length L s _ h60 q0 q1 qd hh hrg).mono ?_
      rintro e w2 ⟨rfl, hb2⟩
      have B2 := hb1.trans (hb2.mono hb1.size)
      clear hb1 hb2 hrg hg' qd
      go_wp2
      go_ret
      exact ⟨by rw [HT.out]; rfl, B2⟩
  · have HT : Hid (handsOfI L s = -1) := by show _ = _; unfold handsOfI; rw [setB_eq, hl]; rfl
    clear hl HLF
    go_wp2
    go_ret
    exact ⟨by rw [HT.out]; rfl, hb1⟩

set_option maxHeartbeats 1600000 in
theorem implAtRound (g off cap : Nat) (L : List K) (s r : Int) (w : World) (hlen : L.length ≤ 1099511627776) (hw : WordsOk L) (h0 : -9223372036854775808 ≤ s) (h1 : s ≤ 9223372036854775807) (hr : RdK w (some ⟨g, off, none⟩) L) :
    Calls Try.prog 15 #[.slice (some ⟨g, off, none⟩) L.length cap, .int .i64 s, .int .i64 r] w fun e w' => e = .returned (.int .i64 (atRoundI L s r)) ∧ Below w.heap.size w w' := by
  have HLF : Hid (∀ W : World, RdK W (some ⟨g, off, none⟩) L → Calls Try.prog 39 #[.slice (some ⟨g, off, none⟩) L.length cap] W (LacePost L W)) := fun W h => laceOf g off cap L W hlen hw h
  have P0 : Hid (Below w.heap.size w (w.alloc (.cells #[.int .i64 r] 2)) ∧ (w.alloc (.cells #[.int .i64 r] 2)).cell? ⟨w.heap.size, 0, none⟩ = some (.int .i64 r) ∧ w.heap.size < (w.alloc (.cells #[.int .i64 r] 2)).heap.size) := ⟨(Below.refl _ _).alloc (Nat.le_refl _) _, by simp, by simp⟩
  go_enter Try.func15, Try.ntmps15
  go_wp2_with (first | (go_at_call 28; go_in) | fail)
  generalize w.alloc (.cells #[.int .i64 r] 2) = w0 at P0 ⊢
  obtain ⟨B0, C0, S0⟩ := P0
  have hr0 := hr.below B0
  generalize hb : w.heap.size = b at *
  refine (HLF.out _ hr0).mono ?_
  rintro e w1 (⟨hl, g', rfl, hg', hrg, hb1⟩ | ⟨hl, rfl, hb1⟩)
  · have h60 := ((lace_iff L).1 hl).1
    have hh := lace_hands hl
    have HS : Hid (setB L s = inL L.length s) := by show _ = _; rw [setB_eq, hl]; rfl
    have c0 := (hb1.cell (p := ⟨b, 0, none⟩) S0).trans C0
    have B1 := B0.trans (hb1.mono (Nat.le_of_lt S0))
    have S1 : b < w1.heap.size := Nat.lt_of_lt_of_le S0 hb1.size
    clear hl HLF hb1 B0 S0 C0 hr0
    go_wp2_with fail
    refine (holds _ _ _ s _ h60 h0 h1).mono ?_
    rintro e w1' ⟨rfl, rfl⟩
    cases hin : inL L.length s
    · have HT : Hid (atRoundI L s r = -1) := by show _ = _; unfold atRoundI; rw [HS.out, hin]; rfl
      clear hin HS
      go_wp2
      go_ret
      exact ⟨by rw [HT.out]; rfl, by first | exact B1 | (rw [hb]; exact B1)⟩
    · have HT : Hid (atRoundI L s r = roundS L s r) := by show _ = _; unfold atRoundI; rw [HS.out, hin]; rfl
      obtain ⟨_, q0, q1, qd, _, _⟩ := setB_parts (HS.out.trans hin)
      clear hin HS
      go_wp2_with (first | (go_at_call 32; go_in) | fail)
      refine (atRound g' 0 L.length L s r _ h60 ((Base.okB_iff s).2 ⟨q0, q1⟩) hrg).mono ?_
      rintro e w2 ⟨rfl, hb2⟩
      have B2 := B1.trans (hb2.mono (Nat.le_of_lt S1))
      clear B1 hb2 hrg hg' qd
      go_wp2
      go_ret
      exact ⟨by rw [HT.out]; rfl, by first | exact B2 | (rw [hb]; exact B2)⟩
  · have HT : Hid (atRoundI L s r = -1) := by show _ = _; unfold atRoundI; rw [setB_eq, hl]; rfl
    have B1 := B0.trans (hb1.mono (Nat.le_of_lt S0))
    clear hl HLF hb1 B0 S0 C0 hr0
    go_wp2
    go_ret
    exact ⟨by rw [HT.out]; rfl, by first | exact B1 | (rw [hb]; exact B1)⟩

end Lc
end Go.Proofs.Ytaoglifenjmecai
