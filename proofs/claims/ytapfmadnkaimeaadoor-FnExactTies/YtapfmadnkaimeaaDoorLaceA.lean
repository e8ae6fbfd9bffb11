/-
  What the program's own functions on a lace answer, in the words of LaceM: which of a set are wanted, how many hands a set has, whether a lace bears a knot and takes it; for laces of at most 60 knots, their hands 0 to 3.
-/
import Derived.Test.YtapfmadnkaimeaaDoorLaceR
import Derived.Test.YtapfmadnkaimeaaDoorKnotI
import Derived.Test.YtapfmadnkaimeaaDoorMemb
namespace Go.Proofs.YtapfmadnkaimeaaDoor
open Go.RowKit
set_option maxRecDepth 100000
namespace Lc
open Kn (K okK)
open Bit (bit withB)

theorem RdK.on {w : World} {g off : Nat} {L : List K} (h : RdK w (some ⟨g, off, none⟩) L) (i : Nat) (hi : i < L.length) : g < w.heap.size ∧ CellsK w g (off + i * 4) (at' L i) := by
  obtain ⟨g', off', ha, hg, hc⟩ := h.at i hi
  injection ha with ha
  injection ha with h1 h2
  subst h1 h2
  exact ⟨hg, hc⟩

set_option maxHeartbeats 1600000 in
theorem amongLess (g off cap : Nat) (L : List K) (s : Int) (kb : Nat) (k : K) (w : World) (hL : L.length ≤ 60) (hs : Base.okB s = true) (hr : RdK w (some ⟨g, off, none⟩) L) (hkb : kb < w.heap.size) (hk : CellsK w kb 0 k) :
    Calls Tryd.prog 75 #[.slice (some ⟨g, off, none⟩) L.length cap, .int .i64 s, .func (.func 120) #[] #[.pointer (some ⟨kb, 0, none⟩)]] w fun e w' =>
      e = .returned (.int .i64 (amongI (fun y => decide (y.round < k.round)) L s L.length)) ∧ Below w.heap.size w w' := by
  go_enter Tryd.func75, Tryd.ntmps75
  go_wp2
  go_loopw [7, 12] (fun o i wr => ∃ j : Nat, j ≤ L.length ∧ i = .int .i64 j ∧ o = .int .i64 (amongI (fun y => decide (y.round < k.round)) L s j) ∧ Hid (Below w.heap.size w wr)) (fun _ i _ => L.length - (intOf i).toNat)
  case atStart => exact ⟨0, by omega, rfl, rfl, Below.refl _ _⟩
  case round =>
    obtain ⟨j, hj, rfl, rfl, HB⟩ := hrel
    by_cases hlt : j < L.length
    · obtain ⟨hg, hc⟩ := hr.on j hlt
      obtain ⟨c0, c1, c2, c3⟩ := hc.below HB.out hg
      have HO : Hid (Base.okB s = true) := hs
      have hin : Base.inB (j : Int) = true := (Base.inB_iff _).2 ⟨by omega, by omega⟩
      have HA : Hid (amongI (fun y => decide (y.round < k.round)) L s (j + 1) = if bit s j && (fun y => decide (y.round < k.round)) (at' L j) then withB (amongI (fun y => decide (y.round < k.round)) L s j) j else amongI (fun y => decide (y.round < k.round)) L s j) := rfl
      have hbd := among_bd (fun y => decide (y.round < k.round)) L s j (by omega)
      have HW : Hid (Base.withI (amongI (fun y => decide (y.round < k.round)) L s j) (j : Int) = withB (amongI (fun y => decide (y.round < k.round)) L s j) j) := by
        show _ = _
        unfold Base.withI
        rw [(Base.okB_iff _).2 hbd, hin]; simp
      have HN : Hid (Below w.heap.size w (wr.alloc (.cells #[.int .i64 (at' L j).hand, .int .i64 (at' L j).round, .int .i64 (at' L j).frm, .string (at' L j).word] 69))) := HB.out.alloc HB.out.size _
      clear hbd
      generalize amongI (fun y => decide (y.round < k.round)) L s j = x at HA HW ⊢
      cases hb : bit s j
      · have HH : Hid ((Base.okB s && (Base.inB (j : Int) && bit s j)) = false) := by show _ = _; simp [hb]
        have HD : Hid (amongI (fun y => decide (y.round < k.round)) L s (j + 1) = x) := by show _ = _; rw [HA.out, hb]; simp
        clear hb HA HW hin
        go_wp2_with (go_at_call 62; refine (Base.has _ _ _).mono ?_; rintro e w' ⟨rfl, rfl⟩; rw [Int.toNat_natCast, HH.out])
        go_roundw
        case rel => exact ⟨j + 1, by omega, by go_num, by rw [HD.out], HN⟩
        case measure => simp [intOf]; omega
      · have HH : Hid ((Base.okB s && (Base.inB (j : Int) && bit s j)) = true) := by show _ = _; simp [hb, hin, HO.out]
        obtain ⟨_, d1, _, _⟩ := hk.below HB.out hkb
        rw [Nat.zero_add] at d1
        have hkb2 : kb < wr.heap.size := Nat.lt_of_lt_of_le hkb HB.out.size
        have HM : Hid (∀ o : Obj, Below w.heap.size w ((wr.alloc (.cells #[.int .i64 (at' L j).hand, .int .i64 (at' L j).round, .int .i64 (at' L j).frm, .string (at' L j).word] 69)).alloc o)) := fun o => HN.out.alloc HN.out.size o
        by_cases hq : (at' L j).round < k.round
        · have HD : Hid (amongI (fun y => decide (y.round < k.round)) L s (j + 1) = withB x j) := by show _ = _; rw [HA.out, hb]; simp [hq]
          skip
          clear hb HA hin HN
          go_wp2_with (first | (go_at_call 62; refine (Base.has _ _ _).mono ?_; rintro e w' ⟨rfl, rfl⟩; rw [Int.toNat_natCast, HH.out]) | (go_at_call 63; refine (Base.withM _ _ _).mono ?_; rintro e w' ⟨rfl, rfl⟩; rw [HW.out]) | go_in)
          go_roundw
          case rel => exact ⟨j + 1, by omega, by go_num, by rw [HD.out], HM.out _⟩
          case measure => simp [intOf]; omega
        · have HD : Hid (amongI (fun y => decide (y.round < k.round)) L s (j + 1) = x) := by show _ = _; rw [HA.out, hb]; simp [hq]
          skip
          clear hb HA hin HN
          go_wp2_with (first | (go_at_call 62; refine (Base.has _ _ _).mono ?_; rintro e w' ⟨rfl, rfl⟩; rw [Int.toNat_natCast, HH.out]) | go_in)
          go_roundw
          case rel => exact ⟨j + 1, by omega, by go_num, by rw [HD.out], HM.out _⟩
          case measure => simp [intOf]; omega
    · obtain rfl : j = L.length := by omega
      go_wp2
      go_ret
      exact ⟨rfl, HB.out⟩

set_option maxHeartbeats 1600000 in
theorem amongRound (g off cap : Nat) (L : List K) (s : Int) (kb : Nat) (r : Int) (w : World) (hL : L.length ≤ 60) (hs : Base.okB s = true) (hr : RdK w (some ⟨g, off, none⟩) L) (hkb : kb < w.heap.size) (hk : w.cell? ⟨kb, 0, none⟩ = some (.int .i64 r)) :
    Calls Tryd.prog 75 #[.slice (some ⟨g, off, none⟩) L.length cap, .int .i64 s, .func (.func 118) #[] #[.pointer (some ⟨kb, 0, none⟩)]] w fun e w' =>
      e = .returned (.int .i64 (amongI (fun y => decide (y.round = r)) L s L.length)) ∧ Below w.heap.size w w' := by
  go_enter Tryd.func75, Tryd.ntmps75
  go_wp2
  go_loopw [7, 12] (fun o i wr => ∃ j : Nat, j ≤ L.length ∧ i = .int .i64 j ∧ o = .int .i64 (amongI (fun y => decide (y.round = r)) L s j) ∧ Hid (Below w.heap.size w wr)) (fun _ i _ => L.length - (intOf i).toNat)
  case atStart => exact ⟨0, by omega, rfl, rfl, Below.refl _ _⟩
  case round =>
    obtain ⟨j, hj, rfl, rfl, HB⟩ := hrel
    by_cases hlt : j < L.length
    · obtain ⟨hg, hc⟩ := hr.on j hlt
      obtain ⟨c0, c1, c2, c3⟩ := hc.below HB.out hg
      have HO : Hid (Base.okB s = true) := hs
      have hin : Base.inB (j : Int) = true := (Base.inB_iff _).2 ⟨by omega, by omega⟩
      have HA : Hid (amongI (fun y => decide (y.round = r)) L s (j + 1) = if bit s j && (fun y => decide (y.round = r)) (at' L j) then withB (amongI (fun y => decide (y.round = r)) L s j) j else amongI (fun y => decide (y.round = r)) L s j) := rfl
      have hbd := among_bd (fun y => decide (y.round = r)) L s j (by omega)
      have HW : Hid (Base.withI (amongI (fun y => decide (y.round = r)) L s j) (j : Int) = withB (amongI (fun y => decide (y.round = r)) L s j) j) := by
        show _ = _
        unfold Base.withI
        rw [(Base.okB_iff _).2 hbd, hin]; simp
      have HN : Hid (Below w.heap.size w (wr.alloc (.cells #[.int .i64 (at' L j).hand, .int .i64 (at' L j).round, .int .i64 (at' L j).frm, .string (at' L j).word] 69))) := HB.out.alloc HB.out.size _
      clear hbd
      generalize amongI (fun y => decide (y.round = r)) L s j = x at HA HW ⊢
      cases hb : bit s j
      · have HH : Hid ((Base.okB s && (Base.inB (j : Int) && bit s j)) = false) := by show _ = _; simp [hb]
        have HD : Hid (amongI (fun y => decide (y.round = r)) L s (j + 1) = x) := by show _ = _; rw [HA.out, hb]; simp
        clear hb HA HW hin
        go_wp2_with (go_at_call 62; refine (Base.has _ _ _).mono ?_; rintro e w' ⟨rfl, rfl⟩; rw [Int.toNat_natCast, HH.out])
        go_roundw
        case rel => exact ⟨j + 1, by omega, by go_num, by rw [HD.out], HN⟩
        case measure => simp [intOf]; omega
      · have HH : Hid ((Base.okB s && (Base.inB (j : Int) && bit s j)) = true) := by show _ = _; simp [hb, hin, HO.out]
        have d1 := (HB.out.cell (p := ⟨kb, 0, none⟩) hkb).trans hk
        have hkb2 : kb < wr.heap.size := Nat.lt_of_lt_of_le hkb HB.out.size
        have HM : Hid (∀ o : Obj, Below w.heap.size w ((wr.alloc (.cells #[.int .i64 (at' L j).hand, .int .i64 (at' L j).round, .int .i64 (at' L j).frm, .string (at' L j).word] 69)).alloc o)) := fun o => HN.out.alloc HN.out.size o
        by_cases hq : (at' L j).round = r
        · have HD : Hid (amongI (fun y => decide (y.round = r)) L s (j + 1) = withB x j) := by show _ = _; rw [HA.out, hb]; simp [hq]
          have hq1 : ((at' L j).round == r) = true := by simpa using hq
          clear hq
          clear hb HA hin HN
          go_wp2_with (first | (go_at_call 62; refine (Base.has _ _ _).mono ?_; rintro e w' ⟨rfl, rfl⟩; rw [Int.toNat_natCast, HH.out]) | (go_at_call 63; refine (Base.withM _ _ _).mono ?_; rintro e w' ⟨rfl, rfl⟩; rw [HW.out]) | go_in)
          go_roundw
          case rel => exact ⟨j + 1, by omega, by go_num, by rw [HD.out], HM.out _⟩
          case measure => simp [intOf]; omega
        · have HD : Hid (amongI (fun y => decide (y.round = r)) L s (j + 1) = x) := by show _ = _; rw [HA.out, hb]; simp [hq]
          have hq1 : ((at' L j).round == r) = false := by simpa using hq
          clear hq
          clear hb HA hin HN
          go_wp2_with (first | (go_at_call 62; refine (Base.has _ _ _).mono ?_; rintro e w' ⟨rfl, rfl⟩; rw [Int.toNat_natCast, HH.out]) | go_in)
          go_roundw
          case rel => exact ⟨j + 1, by omega, by go_num, by rw [HD.out], HM.out _⟩
          case measure => simp [intOf]; omega
    · obtain rfl : j = L.length := by omega
      go_wp2
      go_ret
      exact ⟨rfl, HB.out⟩

end Lc
end Go.Proofs.YtapfmadnkaimeaaDoor
