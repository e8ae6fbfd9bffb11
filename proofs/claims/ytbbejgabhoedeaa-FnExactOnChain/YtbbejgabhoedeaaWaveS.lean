/-
  What the model's WaveOf, LeaderOf and Leads answer; for coins of at most a million numbers and lists of knots whose words have at most 2^40 bytes.
-/
import Derived.Test.YtbbejgabhoedeaaWaveM
import Derived.Test.YtbbejgabhoedeaaLaceA
import Derived.Test.YtbbejgabhoedeaaDoubS
namespace Go.Proofs.Ytbbejgabhoedeaa
open Go.RowKit
set_option maxRecDepth 100000
namespace Ch
open Kn (K okK)
open Lc (at' RdK laceB WordsOk)
open Sg (isB)
open Rm (coinsB)

set_option maxHeartbeats 400000 in
theorem l8Leader (ao : Option Addr) (cap : Nat) (C : List Int) (wave : Int) (w : World) (h0 : 0 ≤ wave) (h1 : wave ≤ 1000) (hrd : Lst.Rd w ao C) :
    Calls Try.prog 56 #[.slice ao C.length cap, .int .i64 wave] w fun e w' => e = .returned (.int .i64 (leadI C wave)) ∧ w = w' := by
  obtain ⟨p, rfl⟩ := Int.eq_ofNat_of_zero_le h0
  by_cases hlt : p < C.length
  · have hi : (p : Int) < (C.length : Int) := by omega
    have HT : Hid (leadI C (p : Int) = C.getD p 0) := by show _ = _; unfold leadI; rw [if_pos hi, Int.toNat_natCast]
    rcases hrd with hrd | ⟨b, rfl, hcell⟩
    · rw [hrd] at hlt; simp at hlt
    have cj := hcell p hlt
    clear hcell
    generalize C.getD p 0 = y at cj HT
    go_enter Try.func56, Try.ntmps56
    go_wp2
    go_ret
    exact ⟨by rw [HT.out]; rfl, rfl⟩
  · have hi : ¬ (p : Int) < (C.length : Int) := by omega
    have HT : Hid (leadI C (p : Int) = (p : Int) % 4) := by show _ = _; unfold leadI; rw [if_neg hi]
    clear hrd
    go_enter Try.func56, Try.ntmps56
    go_wp2
    go_ret
    exact ⟨by rw [HT.out]; rfl, rfl⟩

theorem rd_below {w w' : World} {ao : Option Addr} {l : List Int} (h : Lst.Rd w ao l) (hao : ∀ c, ao = some ⟨c, 0, none⟩ → c < w.heap.size) (hb : Below w.heap.size w w') : Lst.Rd w' ao l := by
  rcases h with h | ⟨g, rfl, hc⟩
  · exact .inl h
  · exact .inr ⟨g, rfl, fun j hj => (hb.cell (p := ⟨g, j, none⟩) (hao g rfl)).trans (hc j hj)⟩

set_option maxHeartbeats 800000 in
theorem l8Leads (ao : Option Addr) (cap : Nat) (C : List Int) (k : K) (w : World) (h0 : 0 ≤ k.round) (h1 : k.round ≤ 1000) (hrd : Lst.Rd w ao C) (hao : ∀ c, ao = some ⟨c, 0, none⟩ → c < w.heap.size) :
    Calls Try.prog 39 #[.slice ao C.length cap, .agg #[.int .i64 k.hand, .int .i64 k.round, .int .i64 k.frm, .string k.word]] w fun e w' => e = .returned (.bool (leadK C k)) ∧ Below w.heap.size w w' := by
  have P0 : Hid (Below w.heap.size w (w.alloc (.cells #[.int .i64 k.hand, .int .i64 k.round, .int .i64 k.frm, .string k.word] 44)) ∧ Lc.CellsK (w.alloc (.cells #[.int .i64 k.hand, .int .i64 k.round, .int .i64 k.frm, .string k.word] 44)) w.heap.size 0 k ∧ w.heap.size < (w.alloc (.cells #[.int .i64 k.hand, .int .i64 k.round, .int .i64 k.frm, .string k.word] 44)).heap.size) :=
    ⟨(Below.refl _ _).alloc (Nat.le_refl _) _, ⟨by simp, by simp, by simp, by simp⟩, by simp⟩
  have HRD : Hid (∀ W : World, Below w.heap.size w W → Lst.Rd W ao C) := fun W hW => rd_below hrd hao hW
  clear hrd hao
  by_cases hz : k.round % 3 = 0
  · have HT : Hid (leadK C k = (k.hand == leadI C (k.round / 3))) := by show _ = _; unfold leadK; rw [decide_eq_true hz, Bool.true_and]; exact (Bool.eq_iff_iff.2 (by simp))
    have hz' : (k.round % 3 == 0) = true := by simpa using hz
    clear hz
    go_enter Try.func39, Try.ntmps39
    go_wp2_with fail
    generalize w.alloc (.cells #[.int .i64 k.hand, .int .i64 k.round, .int .i64 k.frm, .string k.word] 44) = V at P0 ⊢
    obtain ⟨B0, ⟨c0, c1, _, _⟩, hlt⟩ := P0.out
    rw [Nat.zero_add] at c1
    have HC : Hid (∀ n : Nat, Calls Try.prog 56 #[.slice ao C.length cap, .int .i64 (k.round / 3)] (V.drewN n) fun e w' => e = .returned (.int .i64 (leadI C (k.round / 3))) ∧ V.drewN n = w') := fun n => l8Leader ao cap C (k.round / 3) _ (by omega) (by omega) (HRD.out _ (Db.below_drewN B0 n))
    have HB0 : Hid (Below w.heap.size w V) := B0
    clear HRD P0 B0
    generalize leadI C (k.round / 3) = y at HT HC
    go_quiet (first | (go_at_call 56; exact (HC.out _).mono fun _ _ h => ⟨h.1, _, h.2.symm⟩))
    go_wp2
    go_ret
    exact ⟨by rw [HT.out]; rfl, Db.below_drewN HB0.out _⟩
  · have HT : Hid (leadK C k = false) := by show _ = _; unfold leadK; rw [decide_eq_false hz]; rfl
    have hz' : (k.round % 3 == 0) = false := by simpa using hz
    clear hz HRD
    go_enter Try.func39, Try.ntmps39
    go_wp2_with fail
    generalize w.alloc (.cells #[.int .i64 k.hand, .int .i64 k.round, .int .i64 k.frm, .string k.word] 44) = V at P0 ⊢
    obtain ⟨B0, ⟨c0, c1, _, _⟩, hlt⟩ := P0.out
    rw [Nat.zero_add] at c1
    have HB0 : Hid (Below w.heap.size w V) := B0
    clear P0 B0
    go_quiet (fail)
    go_wp2
    go_ret
    exact ⟨by rw [HT.out]; rfl, Db.below_drewN HB0.out _⟩

theorem l1In6 (x : Int) (w : World) : Calls Try.prog 55 #[.int .i64 x, .int .i64 0, .int .i64 6] w fun e w' => e = .returned (.bool (in6 x)) ∧ w = w' := Base.l1In x 0 6 w

end Ch
end Go.Proofs.Ytbbejgabhoedeaa
