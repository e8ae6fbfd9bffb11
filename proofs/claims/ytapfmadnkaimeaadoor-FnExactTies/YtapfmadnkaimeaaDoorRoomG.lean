/-
  What the model's LaceOk, l3Can, l3CanTie and l3Copy answer at the nil list; and at a list that may be nil.
-/
import Derived.Test.YtapfmadnkaimeaaDoorRoomA
import Derived.Test.YtapfmadnkaimeaaDoorLaceU
import Derived.Test.YtapfmadnkaimeaaDoorTieB
import Derived.Laws.AppendOwnNone
namespace Go.Proofs.YtapfmadnkaimeaaDoor
open Go.RowKit
set_option maxRecDepth 100000
namespace Rm
open Kn (K okK)
open Bit (bit)
open Lc (at' RdK canB laceB takesB handsN roundS handsB lesserB CellsK flat OwnK)

set_option maxHeartbeats 3200000 in
theorem l3CanN (k : K) (w : World) (hw : k.word.size ≤ 1099511627776) :
    Calls Tryd.prog 84 #[.slice none 0 0, .int .i64 0, .agg #[.int .i64 k.hand, .int .i64 k.round, .int .i64 k.frm, .string k.word]] w fun e w' => e = .returned (.bool (canB [] k)) ∧ Below w.heap.size w w' := by
  have HC : Hid (canB [] k = (okK k && (decide (k.frm / 2 ^ 0 = 0) && (lesserB [] k.frm k.round 0 && handsB [] k)))) := rfl
  have P0 : Hid (Below w.heap.size w (w.alloc (.cells #[.int .i64 k.hand, .int .i64 k.round, .int .i64 k.frm, .string k.word] 38)) ∧ CellsK (w.alloc (.cells #[.int .i64 k.hand, .int .i64 k.round, .int .i64 k.frm, .string k.word] 38)) w.heap.size 0 k ∧ w.heap.size < (w.alloc (.cells #[.int .i64 k.hand, .int .i64 k.round, .int .i64 k.frm, .string k.word] 38)).heap.size) :=
    ⟨(Below.refl _ _).alloc (Nat.le_refl _) _, ⟨by simp, by simp, by simp, by simp⟩, by simp⟩
  go_enter Tryd.func84, Tryd.ntmps84
  go_wp2_with fail
  generalize w.alloc (.cells #[.int .i64 k.hand, .int .i64 k.round, .int .i64 k.frm, .string k.word] 38) = w0 at P0 ⊢
  obtain ⟨B0, C0, S0⟩ := P0
  generalize hb : w.heap.size = b at *
  refine (Kn.specKnotOk k.hand k.round k.frm k.word _ hw).mono ?_
  rintro e w1 ⟨rfl, hb1⟩
  have C1 := C0.below hb1 S0
  have S1 : b < w1.heap.size := Nat.lt_of_lt_of_le S0 hb1.size
  have B1 := B0.trans (hb1.mono (Nat.le_of_lt S0))
  clear hb1 B0 S0 C0
  obtain ⟨c0, c1, c2, c3⟩ := C1
  rw [Nat.zero_add] at c1 c2 c3
  cases hok : okK k
  · have HT2 : Hid (canB [] k = false) := by show _ = _; rw [HC.out, hok]; simp
    clear hok HC
    go_wp2
    go_ret
    exact ⟨by rw [HT2.out]; rfl, by first | exact B1 | (rw [hb]; exact B1)⟩
  · have hf := Lc.ok_frm hok
    have hrd := Lc.ok_round hok
    have HT2 : Hid (canB [] k = (decide (k.frm = 0) && handsB [] k)) := by
      show _ = _; rw [HC.out, hok]; simp [lesserB]
    clear hok HC
    by_cases hd : k.frm = 0
    · have HT3 : Hid (canB [] k = handsB [] k) := by show _ = _; rw [HT2.out]; simp [hd]
      have hd' : (k.frm != 0) = false := by simpa using hd
      have hd2 : (k.frm / 1 != 0) = false := by simpa using hd
      clear HT2 hd
      have HB1 : Hid (Below b w w1) := B1
      clear B1
      go_wp2
      go_loopw [7] (fun i wr => i = .int .i64 0 ∧ wr = w1) (fun _ _ => 0)
      case atStart => exact ⟨rfl, rfl⟩
      case round =>
        obtain ⟨rfl, rfl⟩ := hrel
        by_cases hz : k.round = 0
        · have HT5 : Hid (canB [] k = true) := by show _ = _; rw [HT3.out]; simp [handsB, hz]
          have hz' : (k.round == 0) = true := by simpa using hz
          clear hz HT3
          go_wp2_with fail
          go_quiet (fail)
          go_wp2
          go_ret
          exact ⟨by rw [HT5.out]; rfl, by have := Lc.below_drewN' HB1.out; first | exact this _ | (rw [hb]; exact this _)⟩
        · have HT5 : Hid (canB [] k = decide (3 ≤ handsN [] (roundS [] k.frm (k.round - 1)))) := by show _ = _; rw [HT3.out]; simp [handsB, hz]
          have hz' : (k.round == 0) = false := by simpa using hz
          clear hz HT3
          have hrb := Lc.round_bd [] k.frm (k.round - 1) (by simp)
          have HRT : Hid (∀ W : World, Calls Tryd.prog 68 #[.slice none 0 0, .int .i64 k.frm, .int .i64 (k.round - 1)] W fun e w' => e = .returned (.int .i64 (roundS [] k.frm (k.round - 1))) ∧ W = w') := fun W => l3RoundO none 0 [] k.frm (k.round - 1) W (by simp) (.inl rfl) hf.1 hf.2
          have HHT : Hid (∀ W : World, Calls Tryd.prog 67 #[.slice none 0 0, .int .i64 (roundS [] k.frm (k.round - 1))] W fun e w' => e = .returned (.int .i64 (handsN [] (roundS [] k.frm (k.round - 1)))) ∧ Below W.heap.size W w') := fun W => Lc.l3Hands none 0 [] (roundS [] k.frm (k.round - 1)) W (by simp) (.inl rfl) (fun _ h => by cases h) hrb.1 (by omega)
          generalize roundS [] k.frm (k.round - 1) = q at HRT HHT HT5
          generalize handsN [] q = q2 at HHT HT5
          clear hrb
          have P2 : Hid (Below b w wr ∧ b < wr.heap.size) := ⟨HB1.out, S1⟩
          clear c0 c3 HB1 S1
          go_wp2_with fail
          clear hd' hw
          obtain ⟨X, _, F, HF, HG⟩ := Fam.fam wr
          have hc1 : ∀ z, (F z).cell? ⟨b, 1, none⟩ = some (.int .i64 k.round) := fun z => ((HF.out z).cell (p := ⟨b, 1, none⟩) P2.out.2).trans c1
          have hc2 : ∀ z, (F z).cell? ⟨b, 2, none⟩ = some (.int .i64 k.frm) := fun z => ((HF.out z).cell (p := ⟨b, 2, none⟩) P2.out.2).trans c2
          clear c1 c2
          refine Fam.region (F := F) (by kernel_rfl) (by kernel_rfl) (HG.out _ (Below.refl _ wr).drew) ?_
          repeat (go_big_quiet_step (first
            | (go_at_call 68; exact (HRT.out _).mono fun _ _ h => ⟨h.1, _, h.2.symm⟩)
            | (go_at_call 67; exact (HHT.out _).mono fun _ _ h => ⟨h.1, HG.out _ ((HF.out _).trans (h.2.mono (HF.out _).size))⟩)))
          refine wpQuiet_nil ?_
          intro w2 hw2
          obtain ⟨z, rfl⟩ := hw2
          have HB2 : Hid (Below b w (F z)) := P2.out.1.trans ((HF.out z).mono (Nat.le_of_lt P2.out.2))
          go_wp2
          go_ret
          exact ⟨by rw [HT5.out]; rfl, by first | exact HB2.out | (rw [hb]; exact HB2.out)⟩
    · have HT3 : Hid (canB [] k = false) := by show _ = _; rw [HT2.out]; simp [hd]
      have hd' : (k.frm != 0) = true := by simpa using hd
      have hd2 : (k.frm / 1 != 0) = true := by simpa using hd
      clear hd HT2
      go_wp2
      go_ret
      exact ⟨by rw [HT3.out]; rfl, by first | exact B1 | (rw [hb]; exact B1)⟩

set_option maxHeartbeats 800000 in
theorem l3CanTieN (k : K) (w : World) (hw : k.word.size ≤ 1099511627776) :
    Calls Tryd.prog 79 #[.slice none 0 0, .agg #[.int .i64 k.hand, .int .i64 k.round, .int .i64 k.frm, .string k.word]] w fun e w' => e = .returned (.bool (takesB [] k)) ∧ Below w.heap.size w w' := by
  have HT : Hid (takesB [] k = canB [] k) := rfl
  have P0 : Hid (Below w.heap.size w (w.alloc (.cells #[.int .i64 k.hand, .int .i64 k.round, .int .i64 k.frm, .string k.word] 38))) := (Below.refl _ _).alloc (Nat.le_refl _) _
  go_enter Tryd.func79, Tryd.ntmps79
  go_wp2_with fail
  refine (l3CanN k _ hw).mono ?_
  rintro e w1 ⟨rfl, hb1⟩
  have B1 := P0.out.trans (hb1.mono P0.out.size)
  go_wp2
  go_ret
  exact ⟨by rw [HT.out]; rfl, B1⟩

set_option maxHeartbeats 800000 in
theorem laceOkN (w : World) : Calls Tryd.prog 53 #[.slice none 0 0] w fun e w' => e = .returned (.bool true) ∧ w = w' := by
  go_enter Tryd.func53, Tryd.ntmps53
  go_wp2
  go_loopw [3] (fun i wr => i = .int .i64 0 ∧ wr = w) (fun _ _ => 0)
  case atStart => exact ⟨rfl, rfl⟩
  case round =>
    obtain ⟨rfl, rfl⟩ := hrel
    go_wp2
    go_ret
    exact ⟨rfl, rfl⟩

set_option maxHeartbeats 800000 in
theorem l3CopyN (w : World) : Calls Tryd.prog 45 #[.slice none 0 0] w (Lc.CopyPost [] w) := by
  obtain ⟨i0, hi, hz0, hz1, hz2⟩ := info_parts Lc.infoKn
  have HB : Hid (OwnK 38 w.heap.size (w.alloc (.cells #[] 38)) (.slice (some ⟨w.heap.size, 0, none⟩) 0 0) [] ∧ Below w.heap.size w (w.alloc (.cells #[] 38))) := ⟨⟨Lc.own_nil w _, by simp⟩, (Below.refl _ _).alloc (Nat.le_refl _) _⟩
  go_enter Tryd.func45, Tryd.ntmps45
  go_wp2_with (at_builtin; refine wpList_append_own_none rfl _ _ 29 rfl w.heap.size 38 i0 4 Tryd.underlying29 hi _ 0 [] rfl (Lc.own_nil w _) rfl ?_)
  go_ret
  exact ⟨_, rfl, HB.out.1, HB.out.2⟩

/-! ### a list that may be nil -/
theorem l3CanTieO (ao : Option Addr) (cap : Nat) (L : List K) (k : K) (w : World) (ho : ao = none → L = [] ∧ cap = 0) (hz : ∀ x, ao = some x → x.spot = none) (hcap : L.length ≤ cap) (hl : laceB L = true) (hw : k.word.size ≤ 1099511627776) (hr : RdK w ao L) :
    Calls Tryd.prog 79 #[.slice ao L.length cap, .agg #[.int .i64 k.hand, .int .i64 k.round, .int .i64 k.frm, .string k.word]] w fun e w' => e = .returned (.bool (takesB L k)) ∧ Below w.heap.size w w' := by
  cases ao with
  | none => obtain ⟨rfl, rfl⟩ := ho rfl; exact l3CanTieN k w hw
  | some x =>
    obtain ⟨g, off, q⟩ := x
    obtain rfl : q = none := hz _ rfl
    exact Lc.l3CanTie g off cap L k w hcap hl hw hr

theorem l3CopyO (ao : Option Addr) (cap : Nat) (L : List K) (w : World) (ho : ao = none → L = [] ∧ cap = 0) (hz : ∀ x, ao = some x → x.spot = none) (hl : L.length ≤ 2000000) (hr : RdK w ao L) : Calls Tryd.prog 45 #[.slice ao L.length cap] w (Lc.CopyPost L w) := by
  cases ao with
  | none => obtain ⟨rfl, rfl⟩ := ho rfl; exact l3CopyN w
  | some x =>
    obtain ⟨g, off, q⟩ := x
    obtain rfl : q = none := hz _ rfl
    exact Lc.l3Copy g off cap L w hl hr

end Rm
end Go.Proofs.YtapfmadnkaimeaaDoor
