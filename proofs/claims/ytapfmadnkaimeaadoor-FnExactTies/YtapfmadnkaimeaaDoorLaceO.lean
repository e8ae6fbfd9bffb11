/-
  What the model answers for the sets of the four hands: the numbers of each one's knots; for a list of at most 60 knots, their hands 0 to 3.
-/
import Derived.Test.YtapfmadnkaimeaaDoorLaceR
import Derived.BigRegion
namespace Go.Proofs.YtapfmadnkaimeaaDoor
open Go.RowKit
set_option maxRecDepth 100000
namespace Lc
open Kn (K okK)
open Bit (bit withB)

/-- what the four hold -/
def ofX (L : List K) (h k : Nat) : Int := ofH L (h : Int) k
theorem ofX_eq (L : List K) (h k : Nat) (hh : h < 4) : (if h = 0 then ofH L 0 k else if h = 1 then ofH L 1 k else if h = 2 then ofH L 2 k else ofH L 3 k) = ofX L h k := by
  match h, hh with
  | 0, _ => rfl
  | 1, _ => rfl
  | 2, _ => rfl
  | 3, _ => rfl

theorem Four.drew {w : World} {g : Nat} {x0 x1 x2 x3 : Int} (h : Four w g x0 x1 x2 x3) : Four w.drew g x0 x1 x2 x3 := ⟨h.lt, h.c0, h.c1, h.c2, h.c3, h.f⟩

theorem four_step {L : List K} {w : World} {g h k : Nat} (H : Four w g (ofH L 0 k) (ofH L 1 k) (ofH L 2 k) (ofH L 3 k)) (e : (at' L k).hand = (h : Int)) (hh : h < 4) (hk : k < 60) :
    Four (w.setCell ⟨g, h, none⟩ (.int .i64 (withB (ofX L h k) k))) g (ofH L 0 (k + 1)) (ofH L 1 (k + 1)) (ofH L 2 (k + 1)) (ofH L 3 (k + 1)) := by
  have hp := H.put h hh (withB (ofX L h k) k)
  rw [ofH_succ L 0 k hk, ofH_succ L 1 k hk, ofH_succ L 2 k hk, ofH_succ L 3 k hk, e]
  match h, hh, hp with
  | 0, _, hp => simpa [ofX] using hp
  | 1, _, hp => simpa [ofX] using hp
  | 2, _, hp => simpa [ofX] using hp
  | 3, _, hp => simpa [ofX] using hp

theorem made4 : madeCells #[Value.int .i64 0] 4 = #[.int .i64 0, .int .i64 0, .int .i64 0, .int .i64 0] := by
  apply Array.ext
  · simp [size_madeCells]
  · intro i h1 h2
    have h : i < 4 := by simpa using h2
    match i, h with
    | 0, _ => simp [madeCells]
    | 1, _ => simp [madeCells]
    | 2, _ => simp [madeCells]
    | 3, _ => simp [madeCells]

set_option maxHeartbeats 1600000 in
theorem l3Of (ao : Option Addr) (cap : Nat) (L : List K) (w : World) (hL : L.length ≤ 60) (hr : RdK w ao L) (hh : HandsOk L) : Calls Tryd.prog 100 #[.slice ao L.length cap] w fun e w' =>
    ∃ c, e = .returned (.slice (some ⟨w.heap.size, 0, none⟩) 4 c) ∧ Four w' w.heap.size (ofH L 0 L.length) (ofH L 1 L.length) (ofH L 2 L.length) (ofH L 3 L.length) ∧ Below w.heap.size w w' := by
  have hmk : ∀ W : World, (Instr.makeSlice 50 (.int .i64 4) (.int .i64 4)).run Tryd.prog W = .ok (.slice (some ⟨W.heap.size, 0, none⟩) 4 4) (W.alloc (.cells #[.int .i64 0, .int .i64 0, .int .i64 0, .int .i64 0] 2)) := by
    intro W
    have := run_make_row' (P := Tryd.prog) 50 2 (.int .i64 0) 8 Tryd.underlying50 info2 rfl .i64 .i64 4 (by omega) (by omega) W
    rw [made4] at this
    exact this
  go_enter Tryd.func100, Tryd.ntmps100
  go_wp2
  go_loopw [4] (fun i wr => ∃ k : Nat, k ≤ L.length ∧ i = .int .i64 k ∧ Hid (Four wr w.heap.size (ofH L 0 k) (ofH L 1 k) (ofH L 2 k) (ofH L 3 k)) ∧ Hid (Below w.heap.size w wr)) (fun i _ => L.length - (intOf i).toNat)
  case atStart => exact ⟨0, by omega, rfl, four_new w _, (Below.refl _ _).alloc (Nat.le_refl _) _⟩
  case round =>
    obtain ⟨k, hk, rfl, HF, HB⟩ := hrel
    by_cases hlt : k < L.length
    · obtain ⟨g, off, rfl, hg, hc⟩ := hr.at k hlt
      have hb := hh _ (at_mem L k hlt)
      obtain ⟨c0, _, _, _⟩ := hc.below HB.out hg
      obtain ⟨h, e⟩ : ∃ h : Nat, (at' L k).hand = (h : Int) := Int.eq_ofNat_of_zero_le hb.1
      have hh4 : h < 4 := by omega
      rw [e] at c0
      obtain ⟨x, cx, ex⟩ := HF.out.pick h hh4
      have fx := HF.out.f h hh4
      have HX : Hid (bits .or .i64 x (2 ^ k) = withB (ofX L h k) k) := by
        show _ = _
        have hbd := ofH_bd L (h : Int) k (by omega)
        have : x = ofX L h k := ex.trans (ofX_eq L h k hh4)
        rw [this]; unfold ofX
        exact Base.shl_or _ k hbd.1 hbd.2 (by omega)
      have HP : Hid (Four (wr.setCell ⟨w.heap.size, h, none⟩ (.int .i64 (withB (ofX L h k) k))) w.heap.size (ofH L 0 (k + 1)) (ofH L 1 (k + 1)) (ofH L 2 (k + 1)) (ofH L 3 (k + 1))) := four_step HF.out e hh4 (by omega)
      have HQ : Hid _ := below_put HB.out (Nat.le_refl _) h (.int .i64 (withB (ofX L h k) k))
      clear ex hb hc e HF HB
      go_wp2_with fail
      go_region_with (go_at_call 56; refine (Base.l1Bit _ _ (by omega) (by omega)).mono ?_; rintro e w' ⟨rfl, rfl⟩)
      all_goals
        rw [HX.out]
        go_wp2
        go_roundw
        case rel => exact ⟨k + 1, by omega, by go_num, HP.out.drew, HQ.out.drew⟩
        case measure => simp [intOf]; omega
    · obtain rfl : k = L.length := by omega
      go_wp2
      go_ret
      exact ⟨4, rfl, HF.out, HB.out⟩

end Lc
end Go.Proofs.YtapfmadnkaimeaaDoor
