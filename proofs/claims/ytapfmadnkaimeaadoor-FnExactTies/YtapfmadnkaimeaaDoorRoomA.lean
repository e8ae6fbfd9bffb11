/-
  What the model's small functions on hands answer: the last knot of a hand in a set, and the round that is next; for laces of at most 60 knots, their hands 0 to 3.
-/
import Derived.Test.YtapfmadnkaimeaaDoorLaceS
import Derived.Test.YtapfmadnkaimeaaDoorLaceB
import Derived.Test.YtapfmadnkaimeaaDoorSightS
namespace Go.Proofs.YtapfmadnkaimeaaDoor
open Go.RowKit
set_option maxRecDepth 100000
namespace Rm
open Kn (K okK)
open Bit (bit)
open Lc (at' RdK roundS handsN HandsOk amongI)

set_option maxHeartbeats 800000 in
theorem l3RoundO (ao : Option Addr) (cap : Nat) (L : List K) (s r : Int) (w : World) (hL : L.length ≤ 60) (hr : RdK w ao L) (h0 : 0 ≤ s) (h1 : s < 1152921504606846976) : Calls Tryd.prog 68 #[.slice ao L.length cap, .int .i64 s, .int .i64 r] w fun e w' =>
    e = .returned (.int .i64 (roundS L s r)) ∧ w = w' := by
  rcases hr with h | ⟨g, off, rfl, hg, hc⟩
  · subst h
    have HT : Hid (roundS [] s r = 0) := rfl
    go_enter Tryd.func68, Tryd.ntmps68
    go_wp2
    go_loop [7, 8] (fun o i => o = .int .i64 0 ∧ i = .int .i64 0) (fun _ _ => 0)
    case atStart => exact ⟨rfl, rfl⟩
    case round =>
      obtain ⟨rfl, rfl⟩ := hrel
      go_wp2
      go_ret
      exact ⟨by rw [HT.out]; rfl, rfl⟩
  · exact Lc.l3Round g off cap L s r w hL (.inr ⟨g, off, rfl, hg, hc⟩) h0 h1

/-- the last knot of a hand in a set, of the first n -/
def lastTo (L : List K) (who s : Int) : Nat → Int
  | 0 => -1
  | n + 1 => if bit s n && (decide ((at' L n).hand = who) && (decide (lastTo L who s n < 0) || decide ((at' L (lastTo L who s n).toNat).round < (at' L n).round))) then (n : Int) else lastTo L who s n

theorem lastTo_bd (L : List K) (who s : Int) (n : Nat) : -1 ≤ lastTo L who s n ∧ lastTo L who s n < (n : Int) := by
  induction n with
  | zero => simp [lastTo]
  | succ n ih => unfold lastTo; split <;> omega

theorem has_call (f : Int) (i : Nat) (b : Bool) (h0 : 0 ≤ f) (h1 : f < 1152921504606846976) (hi : i ≤ 60) (hb : bit f i = b) (W : World) : Calls Tryd.prog 55 #[.int .i64 f, .int .i64 (i : Int)] W fun e w' => e = .returned (.bool b) ∧ w' = W := by
  refine (Base.l1Has f (i : Int) W h0 h1 (by omega) (by omega)).mono ?_
  rintro e w' ⟨rfl, rfl⟩
  exact ⟨by rw [Int.toNat_natCast, hb], rfl⟩

set_option maxHeartbeats 3200000 in
theorem l13Last (ao : Option Addr) (cap : Nat) (L : List K) (who s : Int) (w : World) (hL : L.length ≤ 60) (hr : RdK w ao L) (h0 : 0 ≤ s) (h1 : s < 1152921504606846976) : Calls Tryd.prog 57 #[.slice ao L.length cap, .int .i64 who, .int .i64 s] w fun e w' =>
    e = .returned (.int .i64 (lastTo L who s L.length)) ∧ ∃ n, w' = w.drewN n := by
  go_enter Tryd.func57, Tryd.ntmps57
  go_wp2
  go_loopw [7, 8] (fun o i wr => ∃ j n : Nat, j ≤ L.length ∧ i = .int .i64 j ∧ o = .int .i64 (lastTo L who s j) ∧ wr = w.drewN n) (fun _ i _ => L.length - (intOf i).toNat)
  case atStart => exact ⟨0, 0, by omega, rfl, rfl, rfl⟩
  case round =>
    obtain ⟨j, n, hj, rfl, rfl, rfl⟩ := hrel
    by_cases hlt : j < L.length
    · have hrl := hr
      obtain ⟨g, off, rfl, hg, hc⟩ := hr.at j hlt
      have hbd := lastTo_bd L who s j
      have HST : Hid (lastTo L who s (j + 1) = if bit s j && (decide ((at' L j).hand = who) && (decide (lastTo L who s j < 0) || decide ((at' L (lastTo L who s j).toNat).round < (at' L j).round))) then (j : Int) else lastTo L who s j) := rfl
      obtain ⟨c0, c1, _, _⟩ := hc
      clear hr
      generalize lastTo L who s j = x at hbd HST ⊢
      cases hb : bit s j
      · have HS : Hid (lastTo L who s (j + 1) = x) := by show _ = _; rw [HST.out, hb]; rfl
        have hcall := has_call s j false h0 h1 (by omega) hb
        clear hb HST
        go_wp2_with fail
        go_quiet (first | (go_at_call 55; exact (hcall _).mono fun _ _ h => ⟨h.1, _, h.2⟩))
        go_wp2
        go_roundw
        case rel => exact ⟨j + 1, n + nq, by omega, by go_num, by rw [HS.out], by simp⟩
        case measure => simp [intOf]; omega
      · have hcall := has_call s j true h0 h1 (by omega) hb
        by_cases hq : (at' L j).hand = who
        · have hq1 : ((at' L j).hand == who) = true := by simpa using hq
          by_cases hx : x < 0
          · have HS : Hid (lastTo L who s (j + 1) = (j : Int)) := by show _ = _; rw [HST.out, hb]; simp [hq, hx]
            clear hb HST hq
            go_wp2_with fail
            go_quiet (first | (go_at_call 55; exact (hcall _).mono fun _ _ h => ⟨h.1, _, h.2⟩))
            go_wp2
            go_roundw
            case rel => exact ⟨j + 1, n + nq, by omega, by go_num, by rw [HS.out], by simp⟩
            case measure => simp [intOf]; omega
          · obtain ⟨p, rfl⟩ := Int.eq_ofNat_of_zero_le (show 0 ≤ x by omega)
            have hpl : p < L.length := by omega
            obtain ⟨_, _, e1, _, _⟩ := hrl.on p hpl
            have hx1 : decide ((p : Int) < 0) = false := decide_eq_false hx
            have hpi : (p : Int) < (L.length : Int) := by omega
            by_cases hy : (at' L p).round < (at' L j).round
            · have HS : Hid (lastTo L who s (j + 1) = (j : Int)) := by show _ = _; rw [HST.out, hb]; simp [hq, hy]
              clear hb HST hq hx
              go_wp2_with fail
              go_quiet (first | (go_at_call 55; exact (hcall _).mono fun _ _ h => ⟨h.1, _, h.2⟩))
              go_wp2
              go_roundw
              case rel => exact ⟨j + 1, n + nq, by omega, by go_num, by rw [HS.out], by simp⟩
              case measure => simp [intOf]; omega
            · have HS : Hid (lastTo L who s (j + 1) = (p : Int)) := by show _ = _; rw [HST.out, hb]; simp [hy]; omega
              have hy1 : decide ((at' L p).round < (at' L j).round) = false := decide_eq_false hy
              clear hb HST hq hx
              go_wp2_with fail
              go_quiet (first | (go_at_call 55; exact (hcall _).mono fun _ _ h => ⟨h.1, _, h.2⟩))
              go_wp2
              go_roundw
              case rel => exact ⟨j + 1, n + nq, by omega, by go_num, by rw [HS.out], by simp⟩
              case measure => simp [intOf]; omega
        · have HS : Hid (lastTo L who s (j + 1) = x) := by show _ = _; rw [HST.out, hb]; simp [hq]
          have hq1 : ((at' L j).hand == who) = false := by simpa using hq
          clear hb HST hq
          go_wp2_with fail
          go_quiet (first | (go_at_call 55; exact (hcall _).mono fun _ _ h => ⟨h.1, _, h.2⟩))
          go_wp2
          go_roundw
          case rel => exact ⟨j + 1, n + nq, by omega, by go_num, by rw [HS.out], by simp⟩
          case measure => simp [intOf]; omega
    · obtain rfl : j = L.length := by omega
      go_wp2
      go_ret
      exact ⟨rfl, n, rfl⟩

/-- the greatest round of the first k that may be tied -/
def nextTo (L : List K) (has : Int) : Nat → Int
  | 0 => 0
  | k + 1 => if 3 ≤ handsN L (roundS L has (k : Int)) then ((k + 1 : Nat) : Int) else nextTo L has k
theorem nextTo_bd (L : List K) (has : Int) (k : Nat) : 0 ≤ nextTo L has k ∧ nextTo L has k ≤ (k : Int) := by
  induction k with
  | zero => simp [nextTo]
  | succ k ih => unfold nextTo; split <;> omega

/-- the round that is next; -1: none -/
def nextI (L : List K) (has last : Int) : Int := if 0 ≤ last ∧ nextTo L has 19 ≤ (at' L last.toNat).round then -1 else nextTo L has 19

set_option maxHeartbeats 1600000 in
theorem l14Next (ao : Option Addr) (cap : Nat) (L : List K) (who has kept last : Int) (w : World) (hL : L.length ≤ 60) (hh : HandsOk L) (hr : RdK w ao L) (h0 : 0 ≤ has) (h1 : has < 1152921504606846976) (hl : last < (L.length : Int)) :
    Calls Tryd.prog 34 #[.slice ao L.length cap, .agg #[.int .i64 who, .int .i64 has, .int .i64 kept, .int .i64 last]] w fun e w' => e = .returned (.int .i64 (nextI L has last)) ∧ Below w.heap.size w w' := by
  have P0 : Hid (Below w.heap.size w (w.alloc (.cells #[.int .i64 who, .int .i64 has, .int .i64 kept, .int .i64 last] 26)) ∧ (w.alloc (.cells #[.int .i64 who, .int .i64 has, .int .i64 kept, .int .i64 last] 26)).cell? ⟨w.heap.size, 1, none⟩ = some (.int .i64 has) ∧ (w.alloc (.cells #[.int .i64 who, .int .i64 has, .int .i64 kept, .int .i64 last] 26)).cell? ⟨w.heap.size, 3, none⟩ = some (.int .i64 last) ∧ w.heap.size < (w.alloc (.cells #[.int .i64 who, .int .i64 has, .int .i64 kept, .int .i64 last] 26)).heap.size) :=
    ⟨(Below.refl _ _).alloc (Nat.le_refl _) _, by simp, by simp, by simp⟩
  go_enter Tryd.func34, Tryd.ntmps34
  go_wp2
  generalize w.alloc (.cells #[.int .i64 who, .int .i64 has, .int .i64 kept, .int .i64 last] 26) = w0 at P0 ⊢
  obtain ⟨B0, C1, C3, S0⟩ := P0
  have hr0 := hr.below B0
  generalize hbe : w.heap.size = b at *
  go_loopw [5, 6] (fun o i wr => ∃ j : Nat, j ≤ 19 ∧ i = .int .i64 ((j : Int) + 1) ∧ o = .int .i64 (nextTo L has j) ∧ Hid (Below w0.heap.size w0 wr)) (fun _ i _ => 20 - (intOf i).toNat)
  case atStart => exact ⟨0, by omega, rfl, rfl, Below.refl _ _⟩
  case round =>
    obtain ⟨j, hj, rfl, rfl, HB⟩ := hrel
    have c1 := (HB.out.cell (p := ⟨b, 1, none⟩) S0).trans C1
    have c3 := (HB.out.cell (p := ⟨b, 3, none⟩) S0).trans C3
    have HR : Hid (RdK wr ao L) := hr0.below HB.out
    by_cases hlt : j < 19
    · have hrb := Lc.round_bd L has (j : Int) hL
      have HST : Hid (nextTo L has (j + 1) = if 3 ≤ handsN L (roundS L has (j : Int)) then ((j + 1 : Nat) : Int) else nextTo L has j) := rfl
      have hle : (j : Int) + 1 ≤ 19 := by omega
      clear c3
      go_wp2_with fail
      refine (l3RoundO ao cap L has (j : Int) _ hL HR.out h0 h1).mono ?_
      rintro e w1 ⟨rfl, rfl⟩
      go_wp2_with fail
      refine (Lc.l3Hands ao cap L _ _ hL HR.out hh hrb.1 (by omega)).mono ?_
      rintro e w2 ⟨rfl, hb2⟩
      have HB2 : Hid (Below w0.heap.size w0 w2) := HB.out.trans (hb2.mono HB.out.size)
      clear hb2 HB HR c1 hrb
      by_cases hq : 3 ≤ handsN L (roundS L has (j : Int))
      · have HS : Hid (nextTo L has (j + 1) = ((j + 1 : Nat) : Int)) := by show _ = _; rw [HST.out, if_pos hq]
        clear HST
        go_wp2
        go_roundw
        case rel => exact ⟨j + 1, by omega, by go_num, by rw [HS.out]; congr 1, HB2⟩
        case measure => simp [intOf]; omega
      · have HS : Hid (nextTo L has (j + 1) = nextTo L has j) := by show _ = _; rw [HST.out, if_neg hq]
        clear HST
        go_wp2
        go_roundw
        case rel => exact ⟨j + 1, by omega, by go_num, by rw [HS.out], HB2⟩
        case measure => simp [intOf]; omega
    · obtain rfl : j = 19 := by omega
      have hle : ¬ ((19 : Nat) : Int) + 1 ≤ 19 := by omega
      have HT : Hid (nextI L has last = if 0 ≤ last ∧ nextTo L has 19 ≤ (at' L last.toNat).round then -1 else nextTo L has 19) := rfl
      have HBE : Hid (Below b w wr) := B0.trans (HB.out.mono (Nat.le_of_lt S0))
      generalize nextTo L has 19 = x at HT ⊢
      by_cases hl0 : 0 ≤ last
      · obtain ⟨p, rfl⟩ := Int.eq_ofNat_of_zero_le hl0
        obtain ⟨g, off, rfl, hg, hc⟩ := HR.out.at p (by omega)
        obtain ⟨_, e1, _, _⟩ := hc
        rw [Int.toNat_natCast] at HT
        by_cases hy : x ≤ (at' L p).round
        · have HT2 : Hid (nextI L has (p : Int) = -1) := by show _ = _; rw [HT.out, if_pos ⟨hl0, hy⟩]
          clear HT
          go_wp2
          go_ret
          exact ⟨by rw [HT2.out]; rfl, by first | exact HBE.out | (rw [hbe]; exact HBE.out)⟩
        · have HT2 : Hid (nextI L has (p : Int) = x) := by show _ = _; rw [HT.out, if_neg (fun h => hy h.2)]
          clear HT
          go_wp2
          go_ret
          exact ⟨by rw [HT2.out]; rfl, by first | exact HBE.out | (rw [hbe]; exact HBE.out)⟩
      · have HT2 : Hid (nextI L has last = x) := by show _ = _; rw [HT.out, if_neg (fun h => hl0 h.1)]
        clear HT
        go_wp2
        go_ret
        exact ⟨by rw [HT2.out]; rfl, by first | exact HBE.out | (rw [hbe]; exact HBE.out)⟩

end Rm
end Go.Proofs.YtapfmadnkaimeaaDoor
