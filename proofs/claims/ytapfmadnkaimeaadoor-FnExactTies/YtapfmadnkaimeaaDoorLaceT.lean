/-
  What the model's functions on a lace answer, in the words of LaceM: whether a knot may stand there, whether it is a lace, whether a knot may be tied, how many hands, which of a round; words of at most 2^40 bytes.
-/
import Derived.Test.YtapfmadnkaimeaaDoorLaceS
import Derived.Test.YtapfmadnkaimeaaDoorLaceB
import Derived.Test.YtapfmadnkaimeaaDoorFam
namespace Go.Proofs.YtapfmadnkaimeaaDoor
open Go.RowKit
set_option maxRecDepth 100000
namespace Lc
open Kn (K okK)
open Bit (bit withB)

theorem has_call (f : Int) (i : Nat) (b : Bool) (h0 : 0 ≤ f) (h1 : f < 1152921504606846976) (hi : i ≤ 60) (hb : bit f i = b) (W : World) : Calls Tryd.prog 55 #[.int .i64 f, .int .i64 (i : Int)] W fun e w' => e = .returned (.bool b) ∧ w' = W := by
  refine (Base.l1Has f (i : Int) W h0 h1 (by omega) (by omega)).mono ?_
  rintro e w' ⟨rfl, rfl⟩
  exact ⟨by rw [Int.toNat_natCast, hb], rfl⟩

theorem lesser_step (L : List K) (f r : Int) (n : Nat) : lesserB L f r (n + 1) = (lesserB L f r n && (!bit f n || decide ((at' L n).round < r))) := by
  unfold lesserB
  rw [List.range_succ]; simp

theorem lesser_no (L : List K) (f r : Int) (n m : Nat) (h : n < m) (hb : bit f n = true) (hq : ¬ (at' L n).round < r) : lesserB L f r m = false := by
  cases hl : lesserB L f r m
  · rfl
  · exact absurd ((lesser_iff L f r m).1 hl n h hb) hq

set_option maxHeartbeats 3200000 in
theorem l3Can (g off cap : Nat) (L : List K) (n : Nat) (k : K) (w : World) (hcap : L.length ≤ cap) (hn : n ≤ L.length) (h60 : n ≤ 60) (hw : k.word.size ≤ 1099511627776) (hh : HandsOk (L.take n)) (hr : RdK w (some ⟨g, off, none⟩) L) :
    Calls Tryd.prog 84 #[.slice (some ⟨g, off, none⟩) L.length cap, .int .i64 (n : Int), .agg #[.int .i64 k.hand, .int .i64 k.round, .int .i64 k.frm, .string k.word]] w fun e w' => e = .returned (.bool (canB (L.take n) k)) ∧ Below w.heap.size w w' := by
  have hlen : (L.take n).length = n := by simp; omega
  have HC : Hid (canB (L.take n) k = (okK k && (decide (k.frm / 2 ^ n = 0) && (lesserB L k.frm k.round n && handsB (L.take n) k)))) := by
    show _ = _
    unfold canB
    rw [hlen, lesser_take L _ _ n n (Nat.le_refl _)]
  have P0 : Hid (Below w.heap.size w (w.alloc (.cells #[.int .i64 k.hand, .int .i64 k.round, .int .i64 k.frm, .string k.word] 38)) ∧ CellsK (w.alloc (.cells #[.int .i64 k.hand, .int .i64 k.round, .int .i64 k.frm, .string k.word] 38)) w.heap.size 0 k ∧ w.heap.size < (w.alloc (.cells #[.int .i64 k.hand, .int .i64 k.round, .int .i64 k.frm, .string k.word] 38)).heap.size) :=
    ⟨(Below.refl _ _).alloc (Nat.le_refl _) _, ⟨by simp, by simp, by simp, by simp⟩, by simp⟩
  go_enter Tryd.func84, Tryd.ntmps84
  go_wp2_with fail
  generalize w.alloc (.cells #[.int .i64 k.hand, .int .i64 k.round, .int .i64 k.frm, .string k.word] 38) = w0 at P0 ⊢
  obtain ⟨B0, C0, S0⟩ := P0
  generalize hb : w.heap.size = b at *
  have hr0 : RdK w0 (some ⟨g, off, none⟩) L := hr.below (by rw [hb]; exact B0)
  refine (Kn.specKnotOk k.hand k.round k.frm k.word _ hw).mono ?_
  rintro e w1 ⟨rfl, hb1⟩
  have C1 := C0.below hb1 S0
  have S1 : b < w1.heap.size := Nat.lt_of_lt_of_le S0 hb1.size
  have B1 := B0.trans (hb1.mono (Nat.le_of_lt S0))
  have hr1 := hr0.below hb1
  clear hb1 B0 S0 C0 hr0
  obtain ⟨c0, c1, c2, c3⟩ := C1
  rw [Nat.zero_add] at c1 c2 c3
  cases hok : okK k
  · have HT2 : Hid (canB (L.take n) k = false) := by show _ = _; rw [HC.out, hok]; simp
    clear hok HC
    go_wp2
    go_ret
    exact ⟨by rw [HT2.out]; rfl, by first | exact B1 | (rw [hb]; exact B1)⟩
  · have hf := ok_frm hok
    have hrd := ok_round hok
    have HT2 : Hid (canB (L.take n) k = (decide (k.frm / 2 ^ n = 0) && (lesserB L k.frm k.round n && handsB (L.take n) k))) := by show _ = _; rw [HC.out, hok]; simp
    clear hok HC
    by_cases hd : k.frm / 2 ^ n = 0
    · have HT3 : Hid (canB (L.take n) k = (lesserB L k.frm k.round n && handsB (L.take n) k)) := by show _ = _; rw [HT2.out]; simp [hd]
      have hd' : (k.frm / 2 ^ n != 0) = false := by simpa using hd
      clear hd HT2
      have HB1 : Hid (Below b w w1) := B1
      have HR1 : Hid (RdK w1 (some ⟨g, off, none⟩) L) := hr1
      clear B1 hr1
      go_wp2
      go_loopw [7] (fun i wr => ∃ (j m : Nat), j ≤ n ∧ i = .int .i64 j ∧ wr = w1.drewN m ∧ Hid (lesserB L k.frm k.round j = true)) (fun i _ => n - (intOf i).toNat)
      case atStart => exact ⟨0, 0, by omega, rfl, rfl, rfl⟩
      case round =>
        obtain ⟨j, m, hj, rfl, rfl, HL⟩ := hrel
        by_cases hlt : j < n
        · obtain ⟨_, _, e1, _, _⟩ := HR1.out.on j (by omega)
          cases hbit : bit k.frm j
          · have HS : Hid (lesserB L k.frm k.round (j + 1) = true) := by show _ = _; rw [lesser_step, HL.out, hbit]; rfl
            have hcall := has_call k.frm j false hf.1 hf.2 (by omega) hbit
            clear hbit HL
            go_wp2_with fail
            go_quiet (first | (go_at_call 55; exact (hcall _).mono fun _ _ h => ⟨h.1, _, h.2⟩))
            go_wp2
            go_roundw
            case rel => exact ⟨j + 1, _, by omega, by go_num, rfl, HS⟩
            case measure => simp [intOf]; omega
          · have hcall := has_call k.frm j true hf.1 hf.2 (by omega) hbit
            by_cases hq : (at' L j).round < k.round
            · have HS : Hid (lesserB L k.frm k.round (j + 1) = true) := by show _ = _; rw [lesser_step, HL.out]; simp [hq]
              have hq' : ¬ k.round ≤ (at' L j).round := by omega
              have hq2 : decide (k.round ≤ (at' L j).round) = false := decide_eq_false hq'
              clear hbit HL hq
              go_wp2_with fail
              go_quiet (first | (go_at_call 55; exact (hcall _).mono fun _ _ h => ⟨h.1, _, h.2⟩))
              go_wp2
              go_roundw
              case rel => exact ⟨j + 1, _, by omega, by go_num, rfl, HS⟩
              case measure => simp [intOf]; omega
            · have HS : Hid (canB (L.take n) k = false) := by show _ = _; rw [HT3.out, lesser_no L _ _ j n hlt hbit hq]; rfl
              have hq' : k.round ≤ (at' L j).round := by omega
              clear hbit HL hq
              go_wp2_with fail
              go_quiet (first | (go_at_call 55; exact (hcall _).mono fun _ _ h => ⟨h.1, _, h.2⟩))
              go_wp2
              go_ret
              exact ⟨by rw [HS.out]; rfl, by have := below_drewN' (below_drewN' HB1.out m); first | exact this _ | (rw [hb]; exact this _)⟩
        · obtain rfl : j = n := by omega
          have HT4 : Hid (canB (L.take j) k = handsB (L.take j) k) := by show _ = _; rw [HT3.out, HL.out]; rfl
          clear HT3 HL
          by_cases hz : k.round = 0
          · have HT5 : Hid (canB (L.take j) k = true) := by show _ = _; rw [HT4.out]; simp [handsB, hz]
            have hz' : (k.round == 0) = true := by simpa using hz
            clear hz HT4
            go_wp2_with fail
            go_quiet (fail)
            go_wp2
            go_ret
            exact ⟨by rw [HT5.out]; rfl, by have := below_drewN' (below_drewN' HB1.out m); first | exact this _ | (rw [hb]; exact this _)⟩
          · have HT5 : Hid (canB (L.take j) k = decide (3 ≤ handsN (L.take j) (roundS (L.take j) k.frm (k.round - 1)))) := by show _ = _; rw [HT4.out]; simp [handsB, hz]
            have hz' : (k.round == 0) = false := by simpa using hz
            clear hz HT4
            have hrb := round_bd (L.take j) k.frm (k.round - 1) (by omega)
            have HRT : Hid (∀ W : World, RdK W (some ⟨g, off, none⟩) L → Calls Tryd.prog 68 #[.slice (some ⟨g, off, none⟩) j cap, .int .i64 k.frm, .int .i64 (k.round - 1)] W fun e w' => e = .returned (.int .i64 (roundS (L.take j) k.frm (k.round - 1))) ∧ W = w') := by
              intro W hW
              have := l3Round g off cap (L.take j) k.frm (k.round - 1) W (by omega) (hW.take j) hf.1 hf.2
              rwa [hlen] at this
            have HHT : Hid (∀ W : World, RdK W (some ⟨g, off, none⟩) L → Calls Tryd.prog 67 #[.slice (some ⟨g, off, none⟩) j cap, .int .i64 (roundS (L.take j) k.frm (k.round - 1))] W fun e w' => e = .returned (.int .i64 (handsN (L.take j) (roundS (L.take j) k.frm (k.round - 1)))) ∧ Below W.heap.size W w') := by
              intro W hW
              have := l3Hands (some ⟨g, off, none⟩) cap (L.take j) (roundS (L.take j) k.frm (k.round - 1)) W (by omega) (hW.take j) hh hrb.1 (by omega)
              rwa [hlen] at this
            generalize roundS (L.take j) k.frm (k.round - 1) = q at HRT HHT HT5
            generalize handsN (L.take j) q = q2 at HHT HT5
            clear hrb
            have hjc : j ≤ cap := by omega
            have hjL : j ≤ L.length := by omega
            have P2 : Hid (Below b w (w1.drewN m) ∧ RdK (w1.drewN m) (some ⟨g, off, none⟩) L ∧ b < (w1.drewN m).heap.size) := ⟨below_drewN' HB1.out m, HR1.out.drewN m, S1⟩
            have c1' : (w1.drewN m).cell? ⟨b, 1, none⟩ = some (.int .i64 k.round) := c1
            have c2' : (w1.drewN m).cell? ⟨b, 2, none⟩ = some (.int .i64 k.frm) := c2
            clear c0 c1 c2 c3 HB1 HR1 S1
            go_wp2_with fail
            generalize w1.drewN m = W at P2 c1' c2' ⊢
            clear hlen hn hcap hd' hw hh hr
            obtain ⟨X, _, F, HF, HG⟩ := Fam.fam W
            have hc1 : ∀ z, (F z).cell? ⟨b, 1, none⟩ = some (.int .i64 k.round) := fun z => ((HF.out z).cell (p := ⟨b, 1, none⟩) P2.out.2.2).trans c1'
            have hc2 : ∀ z, (F z).cell? ⟨b, 2, none⟩ = some (.int .i64 k.frm) := fun z => ((HF.out z).cell (p := ⟨b, 2, none⟩) P2.out.2.2).trans c2'
            clear c1' c2'
            refine Fam.region (F := F) (by kernel_rfl) (by kernel_rfl) (HG.out _ (Below.refl _ W).drew) ?_
            repeat (go_big_quiet_step (first
              | (go_at_call 68; exact (HRT.out _ (P2.out.2.1.below (HF.out _))).mono fun _ _ h => ⟨h.1, _, h.2.symm⟩)
              | (go_at_call 67; exact (HHT.out _ (P2.out.2.1.below (HF.out _))).mono fun _ _ h => ⟨h.1, HG.out _ ((HF.out _).trans (h.2.mono (HF.out _).size))⟩)))
            refine wpQuiet_nil ?_
            intro w2 hw2
            obtain ⟨z, rfl⟩ := hw2
            have HB2 : Hid (Below b w (F z)) := P2.out.1.trans ((HF.out z).mono (Nat.le_of_lt P2.out.2.2))
            go_wp2
            go_ret
            exact ⟨by rw [HT5.out]; rfl, by first | exact HB2.out | (rw [hb]; exact HB2.out)⟩
    · have HT3 : Hid (canB (L.take n) k = false) := by show _ = _; rw [HT2.out]; simp [hd]
      have hd' : (k.frm / 2 ^ n != 0) = true := by simpa using hd
      clear hd HT2
      go_wp2
      go_ret
      exact ⟨by rw [HT3.out]; rfl, by first | exact B1 | (rw [hb]; exact B1)⟩

end Lc
end Go.Proofs.YtapfmadnkaimeaaDoor
