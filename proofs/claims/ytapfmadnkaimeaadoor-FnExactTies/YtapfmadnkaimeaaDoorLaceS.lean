/-
  What the model's functions on a lace answer, in the words of LaceM: how many hands a set has, which of it have a round, whether a knot may be tied, whether it is a lace; for lists whose words have at most 2^40 bytes.
-/
import Derived.Test.YtapfmadnkaimeaaDoorLaceO
import Derived.Test.YtapfmadnkaimeaaDoorLaceA
namespace Go.Proofs.YtapfmadnkaimeaaDoor
open Go.RowKit
set_option maxRecDepth 100000
namespace Lc
open Kn (K okK)
open Bit (bit withB)

theorem RdK.drew {w : World} {ao : Option Addr} {L : List K} (h : RdK w ao L) : RdK w.drew ao L := by
  rcases h with h | ⟨g, off, ha, hg, hc⟩
  · exact .inl h
  · exact .inr ⟨g, off, ha, hg, fun i hi => ⟨(hc i hi).c0, (hc i hi).c1, (hc i hi).c2, (hc i hi).c3⟩⟩

theorem RdK.drewN {w : World} {ao : Option Addr} {L : List K} (h : RdK w ao L) (n : Nat) : RdK (w.drewN n) ao L := by
  rcases h with h | ⟨g, off, ha, hg, hc⟩
  · exact .inl h
  · exact .inr ⟨g, off, ha, hg, fun i hi => ⟨(hc i hi).c0, (hc i hi).c1, (hc i hi).c2, (hc i hi).c3⟩⟩

theorem cellsK_new (w : World) (k : K) (t : TypeId) : CellsK (w.alloc (.cells #[.int .i64 k.hand, .int .i64 k.round, .int .i64 k.frm, .string k.word] t)) w.heap.size 0 k := ⟨by simp, by simp, by simp, by simp⟩

theorem below_drewN' {b : Nat} {a w : World} (h : Below b a w) (n : Nat) : Below b a (w.drewN n) := ⟨h.os, h.tape, h.output, h.size, h.block⟩

/-- how many of the first hands the set has -/
def cntH (L : List K) (s : Int) : Nat → Int
  | 0 => 0
  | k + 1 => cntH L s k + if hasHand L s (k : Int) then 1 else 0
theorem cntH4 (L : List K) (s : Int) : cntH L s 4 = handsN L s := by
  simp [cntH, handsN]
theorem cntH_bd (L : List K) (s : Int) (k : Nat) : 0 ≤ cntH L s k ∧ cntH L s k ≤ (k : Int) := by
  induction k with
  | zero => simp [cntH]
  | succ k ih => unfold cntH; split <;> omega

set_option maxHeartbeats 800000 in
theorem l3Count (g c : Nat) (L : List K) (s : Int) (w : World) (hL : L.length ≤ 60) (h0 : 0 ≤ s) (h1 : s < 9223372036854775808) (hf : Four w g (ofH L 0 L.length) (ofH L 1 L.length) (ofH L 2 L.length) (ofH L 3 L.length)) :
    Calls Tryd.prog 99 #[.slice (some ⟨g, 0, none⟩) 4 c, .int .i64 s] w fun e w' => e = .returned (.int .i64 (handsN L s)) ∧ w = w' := by
  go_enter Tryd.func99, Tryd.ntmps99
  go_wp2
  go_loop [5, 6] (fun n h => ∃ k : Nat, k ≤ 4 ∧ h = .int .i64 k ∧ n = .int .i64 (cntH L s k)) (fun _ h => 4 - (intOf h).toNat)
  case atStart => exact ⟨0, by omega, rfl, rfl⟩
  case round =>
    obtain ⟨k, hk, rfl, rfl⟩ := hrel
    by_cases hlt : k < 4
    · obtain ⟨x, cx, ex⟩ := hf.pick k hlt
      have hbd := cntH_bd L s k
      have hx : (bits .and .i64 x s != 0) = hasHand L s (k : Int) := by
        rw [ex.trans (ofX_eq L k L.length hlt)]
        exact of_and L (k : Int) s hL h0 h1
      have HC : Hid (cntH L s (k + 1) = cntH L s k + if hasHand L s (k : Int) then 1 else 0) := rfl
      clear ex
      cases hb : hasHand L s (k : Int)
      · rw [hb] at hx
        have HD : Hid (cntH L s (k + 1) = cntH L s k) := by show _ = _; rw [HC.out, hb]; simp
        clear hb HC
        go_wp2
        go_round
        case rel => exact ⟨k + 1, by omega, by go_num, by rw [HD.out]⟩
        case measure => simp [intOf]; omega
      · rw [hb] at hx
        have HD : Hid (cntH L s (k + 1) = cntH L s k + 1) := by show _ = _; rw [HC.out, hb]; simp
        clear hb HC
        go_wp2
        go_round
        case rel => exact ⟨k + 1, by omega, by go_num, by rw [HD.out]⟩
        case measure => simp [intOf]; omega
    · obtain rfl : k = 4 := by omega
      have HD : Hid (cntH L s 4 = handsN L s) := cntH4 L s
      go_wp2
      go_ret
      exact ⟨by rw [HD.out]; rfl, rfl⟩

set_option maxHeartbeats 400000 in
theorem l3Hands (ao : Option Addr) (cap : Nat) (L : List K) (s : Int) (w : World) (hL : L.length ≤ 60) (hr : RdK w ao L) (hh : HandsOk L) (h0 : 0 ≤ s) (h1 : s < 9223372036854775808) : Calls Tryd.prog 67 #[.slice ao L.length cap, .int .i64 s] w fun e w' =>
    e = .returned (.int .i64 (handsN L s)) ∧ Below w.heap.size w w' := by
  go_enter Tryd.func67, Tryd.ntmps67
  go_wp2_with fail
  refine (l3Of ao cap L _ hL hr hh).mono ?_
  rintro e w1 ⟨c, rfl, hf, hb⟩
  go_wp2_with fail
  refine (l3Count _ c L s _ hL h0 h1 hf).mono ?_
  rintro e w2 ⟨rfl, rfl⟩
  go_wp2
  go_ret
  exact ⟨rfl, hb⟩

set_option maxHeartbeats 1600000 in
theorem l3Round (g off cap : Nat) (L : List K) (s r : Int) (w : World) (hL : L.length ≤ 60) (hr : RdK w (some ⟨g, off, none⟩) L) (h0 : 0 ≤ s) (h1 : s < 1152921504606846976) : Calls Tryd.prog 68 #[.slice (some ⟨g, off, none⟩) L.length cap, .int .i64 s, .int .i64 r] w fun e w' =>
    e = .returned (.int .i64 (roundS L s r)) ∧ w = w' := by
  go_enter Tryd.func68, Tryd.ntmps68
  go_wp2
  go_loop [7, 8] (fun o i => ∃ k : Nat, k ≤ L.length ∧ i = .int .i64 k ∧ o = .int .i64 (amongI (fun k => decide (k.round = r)) L s k)) (fun _ i => L.length - (intOf i).toNat)
  case atStart => exact ⟨0, by omega, rfl, rfl⟩
  case round =>
    obtain ⟨k, hk, rfl, rfl⟩ := hrel
    by_cases hlt : k < L.length
    · have hbd := among_bd (fun k => decide (k.round = r)) L s k (by omega)
      have HA : Hid (amongI (fun k => decide (k.round = r)) L s (k + 1) = if bit s k && decide ((at' L k).round = r) then withB (amongI (fun k => decide (k.round = r)) L s k) k else amongI (fun k => decide (k.round = r)) L s k) := rfl
      have HW : Hid (bits .or .i64 (amongI (fun k => decide (k.round = r)) L s k) (2 ^ k) = withB (amongI (fun k => decide (k.round = r)) L s k) k) := Base.shl_or _ k hbd.1 hbd.2 (by omega)
      obtain ⟨_, _, c1, _, _⟩ := hr.on k hlt
      generalize amongI (fun k => decide (k.round = r)) L s k = x at HA HW ⊢
      clear hbd
      cases hb : bit s k
      · have HD : Hid (amongI (fun k => decide (k.round = r)) L s (k + 1) = x) := by show _ = _; rw [HA.out, hb]; simp
        have HB : Hid (bit s k = false) := hb
        clear hb HA HW
        go_wp2_with (go_at_call 55; refine (Base.l1Has _ _ _ h0 h1 (by omega) (by omega)).mono ?_; rintro e w' ⟨rfl, rfl⟩; rw [Int.toNat_natCast, HB.out])
        go_round
        case rel => exact ⟨k + 1, by omega, by go_num, by rw [HD.out]⟩
        case measure => simp [intOf]; omega
      · have HB : Hid (bit s k = true) := hb
        by_cases hq : (at' L k).round = r
        · have HD : Hid (amongI (fun k => decide (k.round = r)) L s (k + 1) = withB x k) := by show _ = _; rw [HA.out, hb]; simp [hq]
          rw [hq] at c1
          clear hb HA hq
          go_wp2_with (first | (go_at_call 55; refine (Base.l1Has _ _ _ h0 h1 (by omega) (by omega)).mono ?_; rintro e w' ⟨rfl, rfl⟩; rw [Int.toNat_natCast, HB.out]) | (go_at_call 56; refine (Base.l1Bit _ _ (by omega) (by omega)).mono ?_; rintro e w' ⟨rfl, rfl⟩; rw [Int.toNat_natCast]))
          go_round
          case rel => exact ⟨k + 1, by omega, by go_num, by rw [HD.out, HW.out]⟩
          case measure => simp [intOf]; omega
        · have HD : Hid (amongI (fun k => decide (k.round = r)) L s (k + 1) = x) := by show _ = _; rw [HA.out, hb]; simp [hq]
          have hq' : ((at' L k).round == r) = false := by simpa using hq
          clear hb HA hq HW
          go_wp2_with (go_at_call 55; refine (Base.l1Has _ _ _ h0 h1 (by omega) (by omega)).mono ?_; rintro e w' ⟨rfl, rfl⟩; rw [Int.toNat_natCast, HB.out])
          go_round
          case rel => exact ⟨k + 1, by omega, by go_num, by rw [HD.out]⟩
          case measure => simp [intOf]; omega
    · obtain rfl : k = L.length := by omega
      go_wp2
      go_ret
      exact ⟨rfl, rfl⟩

end Lc
end Go.Proofs.YtapfmadnkaimeaaDoor
