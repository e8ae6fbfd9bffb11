/-
  What the model's LaceOk, CanTie, HandsOf and AtRound answer, in the words of LaceM; for lists whose words have at most 2^40 bytes.
-/
import Derived.Test.YtapfmadnkaimeaaDoorLaceT
namespace Go.Proofs.YtapfmadnkaimeaaDoor
open Go.RowKit
set_option maxRecDepth 100000
namespace Lc
open Kn (K okK)
open Bit (bit withB)

def WordsOk (L : List K) : Prop := ∀ k ∈ L, k.word.size ≤ 1099511627776

set_option maxHeartbeats 1600000 in
theorem specLaceOk (g off cap : Nat) (L : List K) (w : World) (hcap : L.length ≤ cap) (hw : WordsOk L) (hr : RdK w (some ⟨g, off, none⟩) L) :
    Calls Tryd.prog 53 #[.slice (some ⟨g, off, none⟩) L.length cap] w fun e w' => e = .returned (.bool (laceB L)) ∧ Below w.heap.size w w' := by
  by_cases hbig : 60 < L.length
  · have HT : Hid (laceB L = false) := lace_long hbig
    have hb' : (60 : Int) < (L.length : Int) := by omega
    go_enter Tryd.func53, Tryd.ntmps53
    go_wp2
    go_ret
    exact ⟨by rw [HT.out]; rfl, Below.refl _ _⟩
  · have hb' : ¬ (60 : Int) < (L.length : Int) := by omega
    have h60 : L.length ≤ 60 := by omega
    clear hbig
    go_enter Tryd.func53, Tryd.ntmps53
    go_wp2
    go_loopw [3] (fun i wr => ∃ j : Nat, j ≤ L.length ∧ i = .int .i64 j ∧ Hid (UpTo L j) ∧ Hid (Below w.heap.size w wr)) (fun i _ => L.length - (intOf i).toNat)
    case atStart => exact ⟨0, by omega, rfl, fun i hi => by omega, Below.refl _ _⟩
    case round =>
      obtain ⟨j, hj, rfl, HU, HB⟩ := hrel
      by_cases hlt : j < L.length
      · have hrj := hr.below HB.out
        obtain ⟨_, c0, c1, c2, c3⟩ := hrj.on j hlt
        have HR : Hid (RdK wr (some ⟨g, off, none⟩) L) := hrj
        have hwj := hw _ (at_mem L j hlt)
        clear hrj
        go_wp2_with fail
        refine (l3Can g off cap L j (at' L j) _ hcap hj (by omega) hwj (upTo_hands HU.out) HR.out).mono ?_
        rintro e w1 ⟨rfl, hb1⟩
        have HB1 : Hid (Below w.heap.size w w1) := HB.out.trans (hb1.mono HB.out.size)
        clear hb1 HB HR
        cases hcan : canB (L.take j) (at' L j)
        · have HT : Hid (laceB L = false) := lace_no j hlt hcan
          clear hcan
          go_wp2
          go_ret
          exact ⟨by rw [HT.out]; rfl, HB1.out⟩
        · have HU1 : Hid (UpTo L (j + 1)) := by
            intro i hi
            by_cases he : i = j
            · rw [he]; exact hcan
            · exact HU.out i (by omega)
          clear hcan HU
          go_wp2
          go_roundw
          case rel => exact ⟨j + 1, by omega, by go_num, HU1, HB1⟩
          case measure => simp [intOf]; omega
      · obtain rfl : j = L.length := by omega
        have HT : Hid (laceB L = true) := lace_of_upTo h60 HU.out
        go_wp2
        go_ret
        exact ⟨by rw [HT.out]; rfl, HB.out⟩

set_option maxHeartbeats 800000 in
theorem l3CanTie (g off cap : Nat) (L : List K) (k : K) (w : World) (hcap : L.length ≤ cap) (hl : laceB L = true) (hw : k.word.size ≤ 1099511627776) (hr : RdK w (some ⟨g, off, none⟩) L) :
    Calls Tryd.prog 79 #[.slice (some ⟨g, off, none⟩) L.length cap, .agg #[.int .i64 k.hand, .int .i64 k.round, .int .i64 k.frm, .string k.word]] w fun e w' => e = .returned (.bool (takesB L k)) ∧ Below w.heap.size w w' := by
  have h60 := ((lace_iff L).1 hl).1
  have hh := lace_hands hl
  have P0 : Hid (Below w.heap.size w (w.alloc (.cells #[.int .i64 k.hand, .int .i64 k.round, .int .i64 k.frm, .string k.word] 38)) ∧ CellsK (w.alloc (.cells #[.int .i64 k.hand, .int .i64 k.round, .int .i64 k.frm, .string k.word] 38)) w.heap.size 0 k ∧ w.heap.size < (w.alloc (.cells #[.int .i64 k.hand, .int .i64 k.round, .int .i64 k.frm, .string k.word] 38)).heap.size) :=
    ⟨(Below.refl _ _).alloc (Nat.le_refl _) _, ⟨by simp, by simp, by simp, by simp⟩, by simp⟩
  have HC : Hid (∀ W : World, RdK W (some ⟨g, off, none⟩) L → Calls Tryd.prog 84 #[.slice (some ⟨g, off, none⟩) L.length cap, .int .i64 (L.length : Int), .agg #[.int .i64 k.hand, .int .i64 k.round, .int .i64 k.frm, .string k.word]] W fun e w' => e = .returned (.bool (canB L k)) ∧ Below W.heap.size W w') := by
    intro W hW
    have := l3Can g off cap L L.length k W hcap (Nat.le_refl _) h60 hw (by rw [List.take_length]; exact hh) hW
    rwa [List.take_length] at this
  clear hl hh hw
  by_cases hlt : L.length < 60
  · have hlt' : (L.length : Int) < 60 := by omega
    have HT : Hid (takesB L k = canB L k) := by show _ = _; unfold takesB; simp [hlt]
    go_enter Tryd.func79, Tryd.ntmps79
    go_wp2_with fail
    generalize w.alloc (.cells #[.int .i64 k.hand, .int .i64 k.round, .int .i64 k.frm, .string k.word] 38) = w0 at P0 ⊢
    obtain ⟨B0, C0, S0⟩ := P0
    refine (HC.out _ (hr.below B0)).mono ?_
    rintro e w1 ⟨rfl, hb1⟩
    have B1 := B0.trans (hb1.mono (Nat.le_of_lt S0))
    clear hb1 B0 S0 C0
    go_wp2
    go_ret
    exact ⟨by rw [HT.out]; rfl, B1⟩
  · have hlt' : ¬ (L.length : Int) < 60 := by omega
    have HT : Hid (takesB L k = false) := by show _ = _; unfold takesB; simp [hlt]
    go_enter Tryd.func79, Tryd.ntmps79
    go_wp2
    go_ret
    exact ⟨by rw [HT.out]; rfl, P0.out.1⟩

/-- what CanTie answers -/
def canTieB (L : List K) (k : K) : Bool := laceB L && takesB L k

/-- is it a set of knots there are, of a lace? -/
def setB (L : List K) (s : Int) : Bool := laceB L && (decide (0 ≤ s) && decide (s / 2 ^ L.length = 0))

theorem setB_parts {L : List K} {s : Int} (h : setB L s = true) : laceB L = true ∧ 0 ≤ s ∧ s < 1152921504606846976 ∧ s / 2 ^ L.length = 0 ∧ L.length ≤ 60 ∧ HandsOk L := by
  unfold setB at h
  simp only [Bool.and_eq_true, decide_eq_true_eq] at h
  obtain ⟨hl, h0, hd⟩ := h
  have h60 := ((lace_iff L).1 hl).1
  refine ⟨hl, h0, ?_, hd, h60, lace_hands hl⟩
  have := Bit.div_zero_up s L.length (60 - L.length) hd
  rw [show L.length + (60 - L.length) = 60 by omega] at this
  omega

/-- what HandsOf answers -/
def handsOfI (L : List K) (s : Int) : Int := if setB L s then handsN L s else -1
/-- what AtRound answers -/
def atRoundI (L : List K) (s r : Int) : Int := if setB L s then roundS L s r else -1

end Lc
end Go.Proofs.YtapfmadnkaimeaaDoor
