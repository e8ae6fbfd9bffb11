/-
 What the model's copy of a list and the program's own handing out and tying answer: the knots in memory of their own; for lists of at most 2000000 knots.
-/
import Derived.Test.YtfjmenhofllchaaGreatDoorQag2
import Derived.Laws.CopyOwn
namespace Go.Proofs.YtfjmenhofllchaaGreatDoor
open Go.RowKit
set_option maxRecDepth 100000
namespace Lc
open Kn (K okK)
open Bit (bit withB)
theorem has_call (f : Int) (i : Nat) (b : Bool) (h0 : 0 ≤ f) (h1 : f < 1152921504606846976) (hi : i ≤ 60) (hb : bit f i = b) (W : World) : Calls Tryz.prog 48 #[.int .i64 f, .int .i64 (i : Int)] W fun e w' => e = .returned (.bool b) ∧ w' = W := by
 refine (Base.l1Has f (i : Int) W h0 h1 (by omega) (by omega)).mono ?_
 rintro e w' ⟨rfl, rfl⟩
 exact ⟨by rw [Int.toNat_natCast, hb], rfl⟩
theorem lesser_step (L : List K) (f r : Int) (n : Nat) : lesserB L f r (n + 1) = (lesserB L f r n && (!bit f n || decide ((at' L n).round < r))) := by
 unfold lesserB
 rw [List.range_succ]; simp
theorem lesser_no (L : List K) (f r : Int) (n m : Nat) (h : n < m) (hb : bit f n = true) (hq : ¬ (at' L n).round < r) : lesserB L f r m = false := by
 cases hl : lesserB L f r m
 · rfl
 · exact absurd ((lesser_iff L f r m).1 hl n h hb) hq
set_option maxHeartbeats 3200000 in
theorem l3Can (g off cap : Nat) (L : List K) (n : Nat) (k : K) (w : World) (hcap : L.length ≤ cap) (hn : n ≤ L.length) (h60 : n ≤ 60) (hw : k.word.size ≤ 1099511627776) (hh : HandsOk (L.take n)) (hr : RdK w (some ⟨g, off, none⟩) L) :
   Calls Tryz.prog 73 #[.slice (some ⟨g, off, none⟩) L.length cap, .int .i64 (n : Int), .agg #[.int .i64 k.hand, .int .i64 k.round, .int .i64 k.frm, .string k.word]] w fun e w' => e = .returned (.bool (canB (L.take n) k)) ∧ Below w.heap.size w w' := by
 have hlen : (L.take n).length = n := by simp; omega
 have HC : Hid (canB (L.take n) k = (okK k && (decide (k.frm / 2 ^ n = 0) && (lesserB L k.frm k.round n && handsB (L.take n) k)))) := by
   show _ = _
   unfold canB
   rw [hlen, lesser_take L _ _ n n (Nat.le_refl _)]
 have P0 : Hid (Below w.heap.size w (w.alloc (.cells #[.int .i64 k.hand, .int .i64 k.round, .int .i64 k.frm, .string k.word] 36)) ∧ CellsK (w.alloc (.cells #[.int .i64 k.hand, .int .i64 k.round, .int .i64 k.frm, .string k.word] 36)) w.heap.size 0 k ∧ w.heap.size < (w.alloc (.cells #[.int .i64 k.hand, .int .i64 k.round, .int .i64 k.frm, .string k.word] 36)).heap.size) :=
   ⟨(Below.refl _ _).alloc (Nat.le_refl _) _, ⟨by simp, by simp, by simp, by simp⟩, by simp⟩
 go_enter Tryz.func73, Tryz.ntmps73
 go_wp2_with fail
 generalize w.alloc (.cells #[.int .i64 k.hand, .int .i64 k.round, .int .i64 k.frm, .string k.word] 36) = w0 at P0 ⊢
 obtain ⟨B0, C0, S0⟩ := P0
 generalize hb : w.heap.size = b at *
 have hr0 : RdK w0 (some ⟨g, off, none⟩) L := hr.below (by rw [hb]; exact B0)
 refine (Kn.specKnotOk k.hand k.round k.frm k.word _ hw).mono ?_
 rintro e w1 ⟨rfl, hb1⟩
 have C1 := C0.below hb1 S0
 have S1 : b < w1.heap.size := Nat.lt_of_lt_of_le S0 hb1.size
 have B1 := B0.trans (hb1.mono (Nat.le_of_lt S0))
 have hr1 := hr0.below hb1
 clear hb1 B0 S0 C0 hr0
 obtain ⟨c0, c1, c2, c3⟩ := C1
 rw [Nat.zero_add] at c1 c2 c3
 cases hok : okK k
 · have HT2 : Hid (canB (L.take n) k = false) := by show _ = _; rw [HC.out, hok]; simp
   clear hok HC
   go_wp2
   go_ret
   exact ⟨by rw [HT2.out]; rfl, by first | exact B1 | (rw [hb]; exact B1)⟩
 · have hf := ok_frm hok
   have hrd := ok_round hok
   have HT2 : Hid (canB (L.take n) k = (decide (k.frm / 2 ^ n = 0) && (lesserB L k.frm k.round n && handsB (L.take n) k))) := by show _ = _; rw [HC.out, hok]; simp
   clear hok HC
   by_cases hd : k.frm / 2 ^ n = 0
   · have HT3 : Hid (canB (L.take n) k = (lesserB L k.frm k.round n && handsB (L.take n) k)) := by show _ = _; rw [HT2.out]; simp [hd]
     have hd' : (k.frm / 2 ^ n != 0) = false := by simpa using hd
     clear hd HT2
     have HB1 : Hid (Below b w w1) := B1
     have HR1 : Hid (RdK w1 (some ⟨g, off, none⟩) L) := hr1
     clear B1 hr1
     go_wp2
     go_loopw [7] (fun i wr => ∃ (j m : Nat), j ≤ n ∧ i = .int .i64 j ∧ wr = w1.drewN m ∧ Hid (lesserB L k.frm k.round j = true)) (fun i _ => n - (intOf i).toNat)
     case atStart => exact ⟨0, 0, by omega, rfl, rfl, rfl⟩
     case round =>
       obtain ⟨j, m, hj, rfl, rfl, HL⟩ := hrel
       by_cases hlt : j < n
       · obtain ⟨_, _, e1, _, _⟩ := HR1.out.on j (by omega)
         cases hbit : bit k.frm j
         · have HS : Hid (lesserB L k.frm k.round (j + 1) = true) := by show _ = _; rw [lesser_step, HL.out, hbit]; rfl
           have hcall := has_call k.frm j false hf.1 hf.2 (by omega) hbit
           clear hbit HL
           go_wp2_with fail
           go_quiet (first | (go_at_call 48; exact (hcall _).mono fun _ _ h => ⟨h.1, _, h.2⟩))
           go_wp2
           go_roundw
           case rel => exact ⟨j + 1, _, by omega, by go_num, rfl, HS⟩
           case measure => simp [intOf]; omega
         · have hcall := has_call k.frm j true hf.1 hf.2 (by omega) hbit
           by_cases hq : (at' L j).round < k.round
           · have HS : Hid (lesserB L k.frm k.round (j + 1) = true) := by show _ = _; rw [lesser_step, HL.out]; simp [hq]
             have hq' : ¬ k.round ≤ (at' L j).round := by omega
             have hq2 : decide (k.round ≤ (at' L j).round) = false := decide_eq_false hq'
             clear hbit HL hq
             go_wp2_with fail
             go_quiet (first | (go_at_call 48; exact (hcall _).mono fun _ _ h => ⟨h.1, _, h.2⟩))
             go_wp2
             go_roundw
             case rel => exact ⟨j + 1, _, by omega, by go_num, rfl, HS⟩
             case measure => simp [intOf]; omega
           · have HS : Hid (canB (L.take n) k = false) := by show _ = _; rw [HT3.out, lesser_no L _ _ j n hlt hbit hq]; rfl
             have hq' : k.round ≤ (at' L j).round := by omega
             clear hbit HL hq
             go_wp2_with fail
             go_quiet (first | (go_at_call 48; exact (hcall _).mono fun _ _ h => ⟨h.1, _, h.2⟩))
             go_wp2
             go_ret
             exact ⟨by rw [HS.out]; rfl, by have := below_drewN' (below_drewN' HB1.out m); first | exact this _ | (rw [hb]; exact this _)⟩
       · obtain rfl : j = n := by omega
         have HT4 : Hid (canB (L.take j) k = handsB (L.take j) k) := by show _ = _; rw [HT3.out, HL.out]; rfl
         clear HT3 HL
         by_cases hz : k.round = 0
         · have HT5 : Hid (canB (L.take j) k = true) := by show _ = _; rw [HT4.out]; simp [handsB, hz]
           have hz' : (k.round == 0) = true := by simpa using hz
           clear hz HT4
           go_wp2_with fail
           go_quiet (fail)
           go_wp2
           go_ret
           exact ⟨by rw [HT5.out]; rfl, by have := below_drewN' (below_drewN' HB1.out m); first | exact this _ | (rw [hb]; exact this _)⟩
         · have HT5 : Hid (canB (L.take j) k = decide (3 ≤ handsN (L.take j) (roundS (L.take j) k.frm (k.round - 1)))) := by show _ = _; rw [HT4.out]; simp [handsB, hz]
           have hz' : (k.round == 0) = false := by simpa using hz
           clear hz HT4
           have hrb := round_bd (L.take j) k.frm (k.round - 1) (by omega)
           have HRT : Hid (∀ W : World, RdK W (some ⟨g, off, none⟩) L → Calls Tryz.prog 76 #[.slice (some ⟨g, off, none⟩) j cap, .int .i64 k.frm, .int .i64 (k.round - 1)] W fun e w' => e = .returned (.int .i64 (roundS (L.take j) k.frm (k.round - 1))) ∧ W = w') := by
             intro W hW
             have := l3Round g off cap (L.take j) k.frm (k.round - 1) W (by omega) (hW.take j) hf.1 hf.2
             rwa [hlen] at this
           have HHT : Hid (∀ W : World, RdK W (some ⟨g, off, none⟩) L → Calls Tryz.prog 75 #[.slice (some ⟨g, off, none⟩) j cap, .int .i64 (roundS (L.take j) k.frm (k.round - 1))] W fun e w' => e = .returned (.int .i64 (handsN (L.take j) (roundS (L.take j) k.frm (k.round - 1)))) ∧ Below W.heap.size W w') := by
             intro W hW
             have := l3Hands (some ⟨g, off, none⟩) cap (L.take j) (roundS (L.take j) k.frm (k.round - 1)) W (by omega) (hW.take j) hh hrb.1 (by omega)
             rwa [hlen] at this
           generalize roundS (L.take j) k.frm (k.round - 1) = q at HRT HHT HT5
           generalize handsN (L.take j) q = q2 at HHT HT5
           clear hrb
           have hjc : j ≤ cap := by omega
           have hjL : j ≤ L.length := by omega
           have P2 : Hid (Below b w (w1.drewN m) ∧ RdK (w1.drewN m) (some ⟨g, off, none⟩) L ∧ b < (w1.drewN m).heap.size) := ⟨below_drewN' HB1.out m, HR1.out.drewN m, S1⟩
           have c1' : (w1.drewN m).cell? ⟨b, 1, none⟩ = some (.int .i64 k.round) := c1
           have c2' : (w1.drewN m).cell? ⟨b, 2, none⟩ = some (.int .i64 k.frm) := c2
           clear c0 c1 c2 c3 HB1 HR1 S1
           go_wp2_with fail
           generalize w1.drewN m = W at P2 c1' c2' ⊢
           clear hlen hn hcap hd' hw hh hr
           obtain ⟨X, _, F, HF, HG⟩ := Fam.fam W
           have hc1 : ∀ z, (F z).cell? ⟨b, 1, none⟩ = some (.int .i64 k.round) := fun z => ((HF.out z).cell (p := ⟨b, 1, none⟩) P2.out.2.2).trans c1'
           have hc2 : ∀ z, (F z).cell? ⟨b, 2, none⟩ = some (.int .i64 k.frm) := fun z => ((HF.out z).cell (p := ⟨b, 2, none⟩) P2.out.2.2).trans c2'
           clear c1' c2'
           refine Fam.region (F := F) (by kernel_rfl) (by kernel_rfl) (HG.out _ (Below.refl _ W).drew) ?_
           repeat (go_big_quiet_step (first
             | (go_at_call 76; exact (HRT.out _ (P2.out.2.1.below (HF.out _))).mono fun _ _ h => ⟨h.1, _, h.2.symm⟩)
             | (go_at_call 75; exact (HHT.out _ (P2.out.2.1.below (HF.out _))).mono fun _ _ h => ⟨h.1, HG.out _ ((HF.out _).trans (h.2.mono (HF.out _).size))⟩)))
           refine wpQuiet_nil ?_
           intro w2 hw2
           obtain ⟨z, rfl⟩ := hw2
           have HB2 : Hid (Below b w (F z)) := P2.out.1.trans ((HF.out z).mono (Nat.le_of_lt P2.out.2.2))
           go_wp2
           go_ret
           exact ⟨by rw [HT5.out]; rfl, by first | exact HB2.out | (rw [hb]; exact HB2.out)⟩
   · have HT3 : Hid (canB (L.take n) k = false) := by show _ = _; rw [HT2.out]; simp [hd]
     have hd' : (k.frm / 2 ^ n != 0) = true := by simpa using hd
     clear hd HT2
     go_wp2
     go_ret
     exact ⟨by rw [HT3.out]; rfl, by first | exact B1 | (rw [hb]; exact B1)⟩
end Lc
namespace Lc
open Kn (K okK)
open Bit (bit withB)
def WordsOk (L : List K) : Prop := ∀ k ∈ L, k.word.size ≤ 1099511627776
set_option maxHeartbeats 1600000 in
theorem specLaceOk (g off cap : Nat) (L : List K) (w : World) (hcap : L.length ≤ cap) (hw : WordsOk L) (hr : RdK w (some ⟨g, off, none⟩) L) :
   Calls Tryz.prog 29 #[.slice (some ⟨g, off, none⟩) L.length cap] w fun e w' => e = .returned (.bool (laceB L)) ∧ Below w.heap.size w w' := by
 by_cases hbig : 60 < L.length
 · have HT : Hid (laceB L = false) := lace_long hbig
   have hb' : (60 : Int) < (L.length : Int) := by omega
   go_enter Tryz.func29, Tryz.ntmps29
   go_wp2
   go_ret
   exact ⟨by rw [HT.out]; rfl, Below.refl _ _⟩
 · have hb' : ¬ (60 : Int) < (L.length : Int) := by omega
   have h60 : L.length ≤ 60 := by omega
   clear hbig
   go_enter Tryz.func29, Tryz.ntmps29
   go_wp2
   go_loopw [3] (fun i wr => ∃ j : Nat, j ≤ L.length ∧ i = .int .i64 j ∧ Hid (UpTo L j) ∧ Hid (Below w.heap.size w wr)) (fun i _ => L.length - (intOf i).toNat)
   case atStart => exact ⟨0, by omega, rfl, fun i hi => by omega, Below.refl _ _⟩
   case round =>
     obtain ⟨j, hj, rfl, HU, HB⟩ := hrel
     by_cases hlt : j < L.length
     · have hrj := hr.below HB.out
       obtain ⟨_, c0, c1, c2, c3⟩ := hrj.on j hlt
       have HR : Hid (RdK wr (some ⟨g, off, none⟩) L) := hrj
       have hwj := hw _ (at_mem L j hlt)
       clear hrj
       go_wp2_with fail
       refine (l3Can g off cap L j (at' L j) _ hcap hj (by omega) hwj (upTo_hands HU.out) HR.out).mono ?_
       rintro e w1 ⟨rfl, hb1⟩
       have HB1 : Hid (Below w.heap.size w w1) := HB.out.trans (hb1.mono HB.out.size)
       clear hb1 HB HR
       cases hcan : canB (L.take j) (at' L j)
       · have HT : Hid (laceB L = false) := lace_no j hlt hcan
         clear hcan
         go_wp2
         go_ret
         exact ⟨by rw [HT.out]; rfl, HB1.out⟩
       · have HU1 : Hid (UpTo L (j + 1)) := by
           intro i hi
           by_cases he : i = j
           · rw [he]; exact hcan
           · exact HU.out i (by omega)
         clear hcan HU
         go_wp2
         go_roundw
         case rel => exact ⟨j + 1, by omega, by go_num, HU1, HB1⟩
         case measure => simp [intOf]; omega
     · obtain rfl : j = L.length := by omega
       have HT : Hid (laceB L = true) := lace_of_upTo h60 HU.out
       go_wp2
       go_ret
       exact ⟨by rw [HT.out]; rfl, HB.out⟩
set_option maxHeartbeats 800000 in
theorem l3CanTie (g off cap : Nat) (L : List K) (k : K) (w : World) (hcap : L.length ≤ cap) (hl : laceB L = true) (hw : k.word.size ≤ 1099511627776) (hr : RdK w (some ⟨g, off, none⟩) L) :
   Calls Tryz.prog 108 #[.slice (some ⟨g, off, none⟩) L.length cap, .agg #[.int .i64 k.hand, .int .i64 k.round, .int .i64 k.frm, .string k.word]] w fun e w' => e = .returned (.bool (takesB L k)) ∧ Below w.heap.size w w' := by
 have h60 := ((lace_iff L).1 hl).1
 have hh := lace_hands hl
 have P0 : Hid (Below w.heap.size w (w.alloc (.cells #[.int .i64 k.hand, .int .i64 k.round, .int .i64 k.frm, .string k.word] 36)) ∧ CellsK (w.alloc (.cells #[.int .i64 k.hand, .int .i64 k.round, .int .i64 k.frm, .string k.word] 36)) w.heap.size 0 k ∧ w.heap.size < (w.alloc (.cells #[.int .i64 k.hand, .int .i64 k.round, .int .i64 k.frm, .string k.word] 36)).heap.size) :=
   ⟨(Below.refl _ _).alloc (Nat.le_refl _) _, ⟨by simp, by simp, by simp, by simp⟩, by simp⟩
 have HC : Hid (∀ W : World, RdK W (some ⟨g, off, none⟩) L → Calls Tryz.prog 73 #[.slice (some ⟨g, off, none⟩) L.length cap, .int .i64 (L.length : Int), .agg #[.int .i64 k.hand, .int .i64 k.round, .int .i64 k.frm, .string k.word]] W fun e w' => e = .returned (.bool (canB L k)) ∧ Below W.heap.size W w') := by
   intro W hW
   have := l3Can g off cap L L.length k W hcap (Nat.le_refl _) h60 hw (by rw [List.take_length]; exact hh) hW
   rwa [List.take_length] at this
 clear hl hh hw
 by_cases hlt : L.length < 60
 · have hlt' : (L.length : Int) < 60 := by omega
   have HT : Hid (takesB L k = canB L k) := by show _ = _; unfold takesB; simp [hlt]
   go_enter Tryz.func108, Tryz.ntmps108
   go_wp2_with fail
   generalize w.alloc (.cells #[.int .i64 k.hand, .int .i64 k.round, .int .i64 k.frm, .string k.word] 36) = w0 at P0 ⊢
   obtain ⟨B0, C0, S0⟩ := P0
   refine (HC.out _ (hr.below B0)).mono ?_
   rintro e w1 ⟨rfl, hb1⟩
   have B1 := B0.trans (hb1.mono (Nat.le_of_lt S0))
   clear hb1 B0 S0 C0
   go_wp2
   go_ret
   exact ⟨by rw [HT.out]; rfl, B1⟩
 · have hlt' : ¬ (L.length : Int) < 60 := by omega
   have HT : Hid (takesB L k = false) := by show _ = _; unfold takesB; simp [hlt]
   go_enter Tryz.func108, Tryz.ntmps108
   go_wp2
   go_ret
   exact ⟨by rw [HT.out]; rfl, P0.out.1⟩
def setB (L : List K) (s : Int) : Bool := laceB L && (decide (0 ≤ s) && decide (s / 2 ^ L.length = 0))
theorem setB_parts {L : List K} {s : Int} (h : setB L s = true) : laceB L = true ∧ 0 ≤ s ∧ s < 1152921504606846976 ∧ s / 2 ^ L.length = 0 ∧ L.length ≤ 60 ∧ HandsOk L := by
 unfold setB at h
 simp only [Bool.and_eq_true, decide_eq_true_eq] at h
 obtain ⟨hl, h0, hd⟩ := h
 have h60 := ((lace_iff L).1 hl).1
 refine ⟨hl, h0, ?_, hd, h60, lace_hands hl⟩
 have := Bit.div_zero_up s L.length (60 - L.length) hd
 rw [show L.length + (60 - L.length) = 60 by omega] at this
 omega
set_option maxHeartbeats 800000 in
theorem l3Set (g off cap : Nat) (L : List K) (s : Int) (w : World) (hcap : L.length ≤ cap) (hwL : WordsOk L) (hr : RdK w (some ⟨g, off, none⟩) L) :
   Calls Tryz.prog 74 #[.slice (some ⟨g, off, none⟩) L.length cap, .int .i64 s] w fun e w' => e = .returned (.bool (setB L s)) ∧ Below w.heap.size w w' := by
 go_enter Tryz.func74, Tryz.ntmps74
 go_wp2_with fail
 refine (specLaceOk g off cap L _ hcap hwL hr).mono ?_
 rintro e w1 ⟨rfl, hb1⟩
 cases hl : laceB L
 · have HT : Hid (setB L s = false) := by show _ = _; unfold setB; rw [hl]; rfl
   clear hl
   go_wp2
   go_ret
   exact ⟨by rw [HT.out]; rfl, hb1⟩
 · have h60 := ((lace_iff L).1 hl).1
   by_cases h0 : 0 ≤ s
   · have HT : Hid (setB L s = decide (s / 2 ^ L.length = 0)) := by show _ = _; unfold setB; rw [hl]; simp [h0]
     clear hl
     by_cases hd : s / 2 ^ L.length = 0
     · have HT2 : Hid (setB L s = true) := by show _ = _; rw [HT.out]; simp [hd]
       have hd' : (s / 2 ^ L.length == 0) = true := by simpa using hd
       clear hd HT
       go_wp2
       go_ret
       exact ⟨by rw [HT2.out]; rfl, hb1⟩
     · have HT2 : Hid (setB L s = false) := by show _ = _; rw [HT.out]; simp [hd]
       have hd' : (s / 2 ^ L.length == 0) = false := by simpa using hd
       clear hd HT
       go_wp2
       go_ret
       exact ⟨by rw [HT2.out]; rfl, hb1⟩
   · have HT : Hid (setB L s = false) := by show _ = _; unfold setB; rw [hl]; simp [h0]
     clear hl
     go_wp2
     go_ret
     exact ⟨by rw [HT.out]; rfl, hb1⟩
def handsOfI (L : List K) (s : Int) : Int := if setB L s then handsN L s else -1
def atRoundI (L : List K) (s r : Int) : Int := if setB L s then roundS L s r else -1
set_option maxHeartbeats 800000 in
theorem specHandsOf (g off cap : Nat) (L : List K) (s : Int) (w : World) (hcap : L.length ≤ cap) (hwL : WordsOk L) (hr : RdK w (some ⟨g, off, none⟩) L) :
   Calls Tryz.prog 30 #[.slice (some ⟨g, off, none⟩) L.length cap, .int .i64 s] w fun e w' => e = .returned (.int .i64 (handsOfI L s)) ∧ Below w.heap.size w w' := by
 go_enter Tryz.func30, Tryz.ntmps30
 go_wp2_with fail
 refine (l3Set g off cap L s _ hcap hwL hr).mono ?_
 rintro e w1 ⟨rfl, hb1⟩
 have hr1 := hr.below hb1
 cases hs : setB L s
 · have HT : Hid (handsOfI L s = -1) := by show _ = _; unfold handsOfI; rw [hs]; rfl
   clear hs
   go_wp2
   go_ret
   exact ⟨by rw [HT.out]; rfl, hb1⟩
 · have HT : Hid (handsOfI L s = handsN L s) := by show _ = _; unfold handsOfI; rw [hs]; rfl
   obtain ⟨_, h0, h1, _, h60, hh⟩ := setB_parts hs
   clear hs
   go_wp2_with fail
   refine (l3Hands (some ⟨g, off, none⟩) cap L s _ h60 hr1 hh h0 (by omega)).mono ?_
   rintro e w2 ⟨rfl, hb2⟩
   have B2 := hb1.trans (hb2.mono hb1.size)
   clear hb1 hb2
   go_wp2
   go_ret
   exact ⟨by rw [HT.out]; rfl, B2⟩
set_option maxHeartbeats 800000 in
theorem specAtRound (g off cap : Nat) (L : List K) (s r : Int) (w : World) (hcap : L.length ≤ cap) (hwL : WordsOk L) (hr : RdK w (some ⟨g, off, none⟩) L) :
   Calls Tryz.prog 31 #[.slice (some ⟨g, off, none⟩) L.length cap, .int .i64 s, .int .i64 r] w fun e w' => e = .returned (.int .i64 (atRoundI L s r)) ∧ Below w.heap.size w w' := by
 go_enter Tryz.func31, Tryz.ntmps31
 go_wp2_with fail
 refine (l3Set g off cap L s _ hcap hwL hr).mono ?_
 rintro e w1 ⟨rfl, hb1⟩
 have hr1 := hr.below hb1
 cases hs : setB L s
 · have HT : Hid (atRoundI L s r = -1) := by show _ = _; unfold atRoundI; rw [hs]; rfl
   clear hs
   go_wp2
   go_ret
   exact ⟨by rw [HT.out]; rfl, hb1⟩
 · have HT : Hid (atRoundI L s r = roundS L s r) := by show _ = _; unfold atRoundI; rw [hs]; rfl
   obtain ⟨_, h0, h1, _, h60, hh⟩ := setB_parts hs
   clear hs
   go_wp2_with fail
   refine (l3Round g off cap L s r _ h60 hr1 h0 h1).mono ?_
   rintro e w2 ⟨rfl, rfl⟩
   go_wp2
   go_ret
   exact ⟨by rw [HT.out]; rfl, hb1⟩
end Lc
namespace Lc
open Kn (K okK)
open Bit (bit withB)
def cellsOf (k : K) : List Value := [.int .i64 k.hand, .int .i64 k.round, .int .i64 k.frm, .string k.word]
def flat (L : List K) : List Value := L.flatMap cellsOf
theorem flat_len (L : List K) : (flat L).length = L.length * 4 := by
 induction L with
 | nil => rfl
 | cons k L ih => unfold flat at *; rw [List.flatMap_cons, List.length_append, ih]; simp [cellsOf]; omega
theorem flat_snoc (L : List K) (k : K) : flat (L ++ [k]) = flat L ++ cellsOf k := by unfold flat; simp
theorem flat_one (L : List K) : ∀ u ∈ flat L, u.oneCell' = true := by
 intro u hu
 unfold flat at hu
 obtain ⟨k, _, hk⟩ := List.mem_flatMap.1 hu
 simp [cellsOf] at hk
 rcases hk with rfl | rfl | rfl | rfl <;> rfl
theorem flat_at (L : List K) (i c : Nat) (hi : i < L.length) (hc : c < 4) : (flat L)[i * 4 + c]? = (cellsOf (at' L i))[c]? := by
 induction L generalizing i with
 | nil => simp at hi
 | cons k L ih =>
   have e : flat (k :: L) = cellsOf k ++ flat L := by unfold flat; simp
   rw [e]
   cases i with
   | zero =>
     rw [List.getElem?_append_left (by simp [cellsOf]; omega)]
     simp [at', List.getD]
   | succ i =>
     rw [List.getElem?_append_right (by simp [cellsOf]; omega)]
     have : (i + 1) * 4 + c - (cellsOf k).length = i * 4 + c := by simp [cellsOf]; omega
     rw [this, ih i (by simpa using hi)]
     simp [at', List.getD]
def OwnK (t : TypeId) (base : Nat) (w : World) (v : Value) (L : List K) : Prop := w.ownsRow base t 4 v L.length (flat L) ∧ v ≠ .slice none 0 0
theorem ownK_shape {t : TypeId} {base : Nat} {w : World} {v : Value} {L : List K} (h : OwnK t base w v L) : ∃ g cap, v = .slice (some ⟨g, 0, none⟩) L.length cap ∧ L.length ≤ cap ∧ cap ≤ maxLen ∧ base ≤ g ∧ g < w.heap.size ∧ RdK w (some ⟨g, 0, none⟩) L ∧ ∀ i, i < L.length * 4 → w.frozen? ⟨g, i, none⟩ = false := by
 obtain ⟨hown, hne⟩ := h
 have hlt := World.ownsRow.lt hown
 have hown' := hown
 obtain ⟨hl, ⟨hv0, _⟩ | ⟨g, cap, cur, hvs, hbg, hcur, hmc, hm, _, htake⟩⟩ := hown
 · exact absurd hv0 hne
 · subst hvs
   have hg := (hlt g rfl).2
   have hcell : ∀ j u, (flat L)[j]? = some u → w.cell? ⟨g, j, none⟩ = some u := by
     intro j u hj
     have := World.ownsRow.cells hown' (g := g) rfl j u hj
     by_cases hj0 : j = 0
     · subst hj0; simpa [Addr.add] using this
     · simpa [Addr.add, hj0] using this
   refine ⟨g, cap, rfl, hmc, hm, hbg, hg, ?_, fun i _ => World.ownsRow.frozenAt hown' i⟩
   refine .inr ⟨g, 0, rfl, hg, fun i hi => ?_⟩
   rw [Nat.zero_add]
   exact ⟨hcell (i * 4) _ (by have := flat_at L i 0 hi (by omega); simpa [cellsOf] using this), hcell (i * 4 + 1) _ (by have := flat_at L i 1 hi (by omega); simpa [cellsOf] using this),
     hcell (i * 4 + 2) _ (by have := flat_at L i 2 hi (by omega); simpa [cellsOf] using this), hcell (i * 4 + 3) _ (by have := flat_at L i 3 hi (by omega); simpa [cellsOf] using this)⟩
theorem ownK_below {t : TypeId} {base : Nat} {w w' : World} {v : Value} {L : List K} (h : OwnK t base w v L) (hb : Below w.heap.size w w') : OwnK t base w' v L := by
 refine ⟨?_, h.2⟩
 have hlt := World.ownsRow.lt h.1
 obtain ⟨h1, h2⟩ := h.1
 refine ⟨h1, ?_⟩
 rcases h2 with h2 | ⟨g, cap', cur, hv, hB, hg, rest⟩
 · exact .inl h2
 · refine .inr ⟨g, cap', cur, hv, hB, ?_, rest⟩
   rw [hb.block g (hlt g (by rw [hv]; rfl)).2]
   exact hg
theorem infoK : (Tryz.prog.info? 92).map (fun i => (i.zero, i.size, i.bytes)) = some (some (.agg #[.int .i64 0, .int .i64 0, .int .i64 0, .string ⟨#[]⟩]), 4, 40) := by kernel_rfl
theorem ownK_made (t : TypeId) (W : World) (z : Array Value) (c : Nat) (hc : c ≤ 1000) : OwnK t W.heap.size (W.alloc (.cells (madeCells z (c * 4)) t)) (.slice (some ⟨W.heap.size, 0, none⟩) 0 c) [] := by
 refine ⟨⟨rfl, .inr ⟨W.heap.size, c, madeCells z (c * 4), rfl, Nat.le_refl _, ?_, by simp, by unfold maxLen; omega, by rw [size_madeCells], rfl⟩⟩, by simp⟩
 show (W.heap.push _)[W.heap.size]? = _
 rw [Array.getElem?_push_size]
theorem new_cells (W : World) (k : K) (t : TypeId) : ∀ (j : Nat) u, (cellsOf k)[j]? = some u → (W.alloc (.cells #[.int .i64 k.hand, .int .i64 k.round, .int .i64 k.frm, .string k.word] t)).cell? ((⟨W.heap.size, 0, none⟩ : Addr).add j) = some u := by
 intro j u hj
 match j, hj with
 | 0, hj => simp [cellsOf] at hj; subst hj; simp [Addr.add]
 | 1, hj => simp [cellsOf] at hj; subst hj; simp [Addr.add]
 | 2, hj => simp [cellsOf] at hj; subst hj; simp [Addr.add]
 | 3, hj => simp [cellsOf] at hj; subst hj; simp [Addr.add]
theorem ownK_step {t : TypeId} {L : List K} {j : Nat} {w w4 w5 : World} {v v' : Value} {o : Obj} (hlt : j < L.length) (h : OwnK t w.heap.size w4 v (L.take j)) (hb : Below w.heap.size w w4)
   (hown : w5.ownsRow w.heap.size t 4 v' (j + 1) (flat (L.take j) ++ cellsOf (at' L j))) (hgrow : (w4.alloc o).grownBy w5 v.ownBlock) (hnil : ¬ v' = .slice none 0 0) :
   OwnK t w.heap.size w5 v' (L.take (j + 1)) ∧ Below w.heap.size w w5 := by
 refine ⟨⟨?_, hnil⟩, ?_⟩
 · have e : (L.take (j + 1)).length = j + 1 := by simp; omega
   rw [e, take_snoc L j hlt, flat_snoc]; exact hown
 · exact (hb.alloc hb.size o).grown hgrow (by have := hb.size; simp; omega) (fun i hi => (World.ownsRow.lt h.1 i hi).1)
def LacePost (L : List K) (w : World) (e : Ending) (w' : World) : Prop :=
 (laceB L = true ∧ ∃ g, e = .returned (.tuple #[.slice (some ⟨g, 0, none⟩) L.length L.length, .bool true]) ∧ g < w'.heap.size ∧ RdK w' (some ⟨g, 0, none⟩) L ∧ Below w.heap.size w w') ∨
 (laceB L = false ∧ e = .returned (.tuple #[.slice none 0 0, .bool false]) ∧ Below w.heap.size w w')
set_option maxHeartbeats 3200000 in
theorem laceOf (g off cap : Nat) (L : List K) (w : World) (hlen : L.length ≤ 1099511627776) (hw : WordsOk L) (hr : RdK w (some ⟨g, off, none⟩) L) :
   Calls Tryz.prog 92 #[.slice (some ⟨g, off, none⟩) L.length cap] w (LacePost L w) := by
 obtain ⟨i0, hi, hz0, hz1, hz2⟩ := info_parts infoK
 have hmk : ∀ W : World, (Instr.makeSlice 62 (.int .i64 0) (.int .i64 60)).run Tryz.prog W = .ok (.slice (some ⟨W.heap.size, 0, none⟩) 0 60) (W.alloc (.cells (madeCells (Value.agg #[.int .i64 0, .int .i64 0, .int .i64 0, .string ⟨#[]⟩]).cells (60 * 4)) 92)) := by
   intro W
   have := run_make (P := Tryz.prog) W 62 92 i0 _ Tryz.underlying62 hi hz0 .i64 .i64 0 60 (by omega) (by omega) (by rw [hz2]; omega) (by omega)
   rw [hz1] at this
   exact this
 have P0 := ownK_made 92 w (Value.agg #[.int .i64 0, .int .i64 0, .int .i64 0, .string ⟨#[]⟩]).cells 60 (by omega)
 have HP : Hid (OwnK 92 w.heap.size (w.alloc (.cells (madeCells (Value.agg #[.int .i64 0, .int .i64 0, .int .i64 0, .string ⟨#[]⟩]).cells (60 * 4)) 92)) (.slice (some ⟨w.heap.size, 0, none⟩) 0 60) [] ∧ Below w.heap.size w (w.alloc (.cells (madeCells (Value.agg #[.int .i64 0, .int .i64 0, .int .i64 0, .string ⟨#[]⟩]).cells (60 * 4)) 92))) := ⟨P0, (Below.refl _ _).alloc (Nat.le_refl _) _⟩
 clear P0
 generalize (Value.agg #[.int .i64 0, .int .i64 0, .int .i64 0, .string ⟨#[]⟩]).cells = zc at hmk HP
 generalize madeCells zc (60 * 4) = mc at hmk HP
 go_enter Tryz.func92, Tryz.ntmps92
 go_wp2
 go_loopw [4, 10] (fun v i wr => ∃ j : Nat, j ≤ L.length ∧ j ≤ 60 ∧ i = .int .i64 j ∧ Hid (UpTo L j) ∧ Hid (OwnK 92 w.heap.size wr v (L.take j)) ∧ Hid (Below w.heap.size w wr)) (fun _ i _ => L.length - (intOf i).toNat)
 case atStart => exact ⟨0, by omega, by omega, rfl, fun i hi => by omega, HP.out.1, HP.out.2⟩
 case round =>
   obtain ⟨j, hj, hj60, rfl, HU, HO, HB⟩ := hrel
   have hlenj : (L.take j).length = j := by simp; omega
   obtain ⟨g', cap', hv, hcap', hcm, hbg, hgl, hrd', hfz⟩ := ownK_shape HO.out
   rw [hlenj] at hv hcap' hfz
   subst hv
   have hbw := HB.out.size
   by_cases hlt : j < L.length
   · have hrj := hr.below HB.out
     obtain ⟨hgw, c0, c1, c2, c3⟩ := hrj.on j hlt
     have hwj := hw _ (at_mem L j hlt)
     have P1 : Hid (Below wr.heap.size wr (wr.alloc (.cells #[.int .i64 (at' L j).hand, .int .i64 (at' L j).round, .int .i64 (at' L j).frm, .string (at' L j).word] 36)) ∧ CellsK (wr.alloc (.cells #[.int .i64 (at' L j).hand, .int .i64 (at' L j).round, .int .i64 (at' L j).frm, .string (at' L j).word] 36)) wr.heap.size 0 (at' L j) ∧ wr.heap.size < (wr.alloc (.cells #[.int .i64 (at' L j).hand, .int .i64 (at' L j).round, .int .i64 (at' L j).frm, .string (at' L j).word] 36)).heap.size) :=
       ⟨(Below.refl _ _).alloc (Nat.le_refl _) _, ⟨by simp, by simp, by simp, by simp⟩, by simp⟩
     clear hrj hfz
     go_wp2_with fail
     generalize wr.alloc (.cells #[.int .i64 (at' L j).hand, .int .i64 (at' L j).round, .int .i64 (at' L j).frm, .string (at' L j).word] 36) = w1 at P1 ⊢
     obtain ⟨B1, C1, S1⟩ := P1
     generalize hbb : wr.heap.size = b at *
     refine (Kn.knotOf _ _ _ _ _).mono ?_
     rintro e w2 ⟨rfl, hb2⟩
     have C2 := C1.below hb2 S1
     have S2 : b < w2.heap.size := Nat.lt_of_lt_of_le S1 hb2.size
     have B2 := B1.trans (hb2.mono (Nat.le_of_lt S1))
     have B2' : Below wr.heap.size wr w2 := by rw [hbb]; exact B2
     clear hb2 B1 S1 C1
     go_wp2_with fail
     have hT : Calls Tryz.prog 96 #[.slice (some ⟨g', 0, none⟩) j cap', .agg #[.int .i64 (at' L j).hand, .int .i64 (at' L j).round, .int .i64 (at' L j).frm, .string (at' L j).word]] w2 fun e w' => e = .returned (.bool (takesB (L.take j) (at' L j))) ∧ Below w2.heap.size w2 w' := by
       have := takes g' 0 cap' (L.take j) (at' L j) w2 (by omega) hwj (upTo_hands HU.out) (hrd'.below B2')
       rwa [hlenj] at this
     refine hT.mono ?_
     clear hT
     rintro e w3 ⟨rfl, hb3⟩
     have C3 := C2.below hb3 S2
     have S3 : b < w3.heap.size := Nat.lt_of_lt_of_le S2 hb3.size
     have B3 := B2.trans (hb3.mono (Nat.le_of_lt S2))
     have B3' : Below wr.heap.size wr w3 := by rw [hbb]; exact B3
     clear hb3 B2 B2' S2 C2
     obtain ⟨d0, d1, d2, d3⟩ := C3
     rw [Nat.zero_add] at d1 d2 d3
     cases ht : takesB (L.take j) (at' L j)
     · have HT : Hid (laceB L = false) := by
         show _ = _
         unfold takesB at ht
         rw [hlenj] at ht
         by_cases h60 : j < 60
         · simp [h60] at ht; exact lace_no j hlt ht
         · exact lace_long (by omega)
       clear ht
       have HBE : Hid (Below w.heap.size w w3) := HB.out.trans (B3'.mono HB.out.size)
       go_wp2
       go_ret2
       exact .inr ⟨HT.out, rfl, HBE.out⟩
     · have hcan : j < 60 ∧ canB (L.take j) (at' L j) = true := by
         unfold takesB at ht
         rw [hlenj] at ht
         simpa using ht
       obtain ⟨h60, hcan⟩ := hcan
       have HU1 : Hid (UpTo L (j + 1)) := by
         intro i hi
         by_cases he : i = j
         · rw [he]; exact hcan
         · exact HU.out i (by omega)
       clear ht hcan HU
       go_wp2_with fail
       refine (Kn.knotOf _ _ _ _ _).mono ?_
       rintro e w4 ⟨rfl, hb4⟩
       have B4 := B3.trans (hb4.mono (Nat.le_of_lt S3))
       have B4' : Below wr.heap.size wr w4 := by rw [hbb]; exact B4
       clear hb4 B3 B3' d0 d1 d2 d3
       have O4 := ownK_below HO.out B4'
       go_wp2_with (at_builtin; refine wpList_append_own _ rfl _ _ 62 rfl w.heap.size 92 i0 (.agg #[.int .i64 0, .int .i64 0, .int .i64 0, .string ⟨#[]⟩]) 4 40 Tryz.underlying62 hi hz0 hz1 hz2 rfl (by decide) _ _ _ rfl (O4.1.alloc _) ⟨w4.heap.size, 0, none⟩ 1 1 (cellsOf (at' L j)) rfl rfl ?c1 ?c2 ?c3 ?c4 ?c5 ?_)
       case c1 => exact new_cells w4 (at' L j) _
       case c2 => intro u hu; exact flat_one [at' L j] u (by simpa [flat] using hu)
       case c3 => unfold maxLen; omega
       case c4 => omega
       case c5 => have := B4'.size; simp; omega
       intro v' w5 hown' hgrow hnil
       have R := ownK_step hlt O4 (HB.out.trans (B4'.mono (by rw [hbb]; exact hbw))) hown' hgrow hnil
       have HO5 : Hid _ := R.1
       have HB5 : Hid _ := R.2
       clear hown' hgrow hnil O4 HO HB R hrd' hgl hcap' hcm
       go_wp2
       go_roundw
       case rel => exact ⟨j + 1, by omega, by omega, by go_num, HU1, HO5, HB5⟩
       case measure => simp [intOf]; omega
   · obtain rfl : j = L.length := by omega
     have HT : Hid (laceB L = true) := lace_of_upTo hj60 HU.out
     rw [List.take_length] at hrd'
     go_wp2
     go_ret2
     exact .inl ⟨HT.out, g', rfl, hgl, hrd', HB.out⟩
end Lc
namespace Lc
open Kn (K okK)
open Bit (bit withB)
theorem ofInt_toNat (s : Int) (h0 : -9223372036854775808 ≤ s) (h1 : s ≤ 9223372036854775807) : ((BitVec.ofInt 64 s).toNat : Int) = if 0 ≤ s then s else s + 18446744073709551616 := by
 rw [BitVec.toNat_ofInt]
 split <;> omega
theorem mask_bit (n i : Nat) (hn : n ≤ 60) : (BitVec.ofInt 64 ((2 : Int) ^ n - 1)).getLsbD i = decide (i < n) := by
 have hp : 1 ≤ 2 ^ n := Nat.one_le_two_pow
 have hq : 2 ^ n ≤ 2 ^ 60 := Nat.pow_le_pow_right (by decide) hn
 have e : ((2 : Int) ^ n - 1) = ((2 ^ n - 1 : Nat) : Int) := by rw [Int.ofNat_sub hp]; simp
 have : (BitVec.ofInt 64 ((2 : Int) ^ n - 1)).toNat = 2 ^ n - 1 := by rw [e]; exact ofInt_u64 _ (by omega)
 rw [BitVec.getLsbD, this, Nat.testBit_two_pow_sub_one]
theorem wrap_zero (x : Nat) (hx : x < 18446744073709551616) (h : IntKind.i64.wrap (x : Int) = 0) : x = 0 := by
 simp only [IntKind.wrap, IntKind.bits, IntKind.signed] at h
 simp at h
 omega
theorem andNot_zero (s : Int) (n : Nat) (hn : n ≤ 60) (h0 : -9223372036854775808 ≤ s) (h1 : s ≤ 9223372036854775807) : (bits .andNot .i64 s (2 ^ n - 1) == 0) = (decide (0 ≤ s) && decide (s / 2 ^ n = 0)) := by
 have e : bits .andNot .i64 s (2 ^ n - 1) = IntKind.i64.wrap ((BitVec.ofInt 64 s &&& ~~~ BitVec.ofInt 64 ((2 : Int) ^ n - 1)).toNat : Int) := rfl
 have hq : 2 ^ n ≤ 2 ^ 60 := Nat.pow_le_pow_right (by decide) hn
 have hx := ofInt_toNat s h0 h1
 have hlt : (BitVec.ofInt 64 s &&& ~~~ BitVec.ofInt 64 ((2 : Int) ^ n - 1)).toNat < 18446744073709551616 := BitVec.isLt _
 have hz : (bits .andNot .i64 s (2 ^ n - 1) == 0) = true ↔ (BitVec.ofInt 64 s &&& ~~~ BitVec.ofInt 64 ((2 : Int) ^ n - 1)) = 0#64 := by
   rw [e, beq_iff_eq]
   constructor
   · intro h
     exact BitVec.eq_of_toNat_eq ((wrap_zero _ hlt h).trans rfl)
   · intro h; rw [h]; rfl
 have hk : (BitVec.ofInt 64 s &&& ~~~ BitVec.ofInt 64 ((2 : Int) ^ n - 1)) = 0#64 ↔ (BitVec.ofInt 64 s).toNat < 2 ^ n := by
   constructor
   · intro h
     apply Nat.lt_pow_two_of_testBit
     intro i hi
     by_cases h64 : i < 64
     · have hb := congrArg (fun v => v.getLsbD i) h
       simp only [BitVec.getLsbD_and, BitVec.getLsbD_not, mask_bit n i hn] at hb
       have : decide (i < n) = false := by simp; omega
       rw [this] at hb
       simp [h64] at hb
       exact hb
     · exact BitVec.getLsbD_of_ge _ _ (by omega)
   · intro h
     apply BitVec.eq_of_getLsbD_eq
     intro i hi
     simp only [BitVec.getLsbD_and, BitVec.getLsbD_not, mask_bit n i hn]
     by_cases hin : i < n
     · simp [hin]
     · have : (BitVec.ofInt 64 s).getLsbD i = false := Nat.testBit_lt_two_pow (Nat.lt_of_lt_of_le h (Nat.pow_le_pow_right (by decide) (by omega)))
       rw [this]; simp
 rw [Bool.eq_iff_iff, hz, hk]
 simp only [Bool.and_eq_true, decide_eq_true_eq]
 have hpi : (0 : Int) < 2 ^ n := Bit.pow_pos' n
 have hpc : ((2 ^ n : Nat) : Int) = (2 : Int) ^ n := by simp
 have hq' : ((2 ^ n : Nat) : Int) ≤ 1152921504606846976 := by omega
 constructor
 · intro h
   by_cases hs : 0 ≤ s
   · rw [if_pos hs] at hx
     refine ⟨hs, Int.ediv_eq_zero_of_lt hs (by rw [← hpc]; omega)⟩
   · rw [if_neg hs] at hx; omega
 · rintro ⟨hs, hd⟩
   rw [if_pos hs] at hx
   have h2 := Int.emod_lt_of_pos s hpi
   have h3 := Int.emod_add_mul_ediv s (2 ^ n)
   rw [hd, Int.mul_zero, Int.add_zero] at h3
   rw [h3, ← hpc] at h2
   omega
end Lc
namespace Kn
end Kn
namespace Lc
open Kn (K okK)
structure Made (w : World) (B n : Nat) (L : List K) (j : Nat) : Prop where
 lt : B < w.heap.size
 rd : ∀ i, i < j → CellsK w B (i * 4) (at' L i)
 ex : ∀ i, i < n * 4 → ∃ v, w.cell? ⟨B, i, none⟩ = some v
 fr : ∀ i, i < n * 4 → w.frozen? ⟨B, i, none⟩ = false
theorem Made.below {w w' : World} {B n j : Nat} {L : List K} (h : Made w B n L j) (hb : Below w.heap.size w w') : Made w' B n L j where
 lt := Nat.lt_of_lt_of_le h.lt hb.size
 rd := fun i hi => (h.rd i hi).below hb h.lt
 ex := fun i hi => by obtain ⟨v, hv⟩ := h.ex i hi; exact ⟨v, (hb.cell (p := ⟨B, i, none⟩) h.lt).trans hv⟩
 fr := fun i hi => (hb.frozen (p := ⟨B, i, none⟩) h.lt).trans (h.fr i hi)
def put4 (w : World) (B o : Nat) (k : K) : World := (((w.setCell ⟨B, o, none⟩ (.int .i64 k.hand)).setCell ⟨B, o + 1, none⟩ (.int .i64 k.round)).setCell ⟨B, o + 2, none⟩ (.int .i64 k.frm)).setCell ⟨B, o + 3, none⟩ (.string k.word)
theorem ne_off {B i o : Nat} (h : i ≠ o) : (⟨B, o, none⟩ : Addr) ≠ ⟨B, i, none⟩ := by intro e; injection e with _ e; exact h e.symm
theorem put4_other (w : World) (B o : Nat) (k : K) (i : Nat) (h : i < o ∨ o + 4 ≤ i) : (put4 w B o k).cell? ⟨B, i, none⟩ = w.cell? ⟨B, i, none⟩ := by
 unfold put4
 rw [World.cell?_setCell_other _ _ _ _ (ne_off (by omega)), World.cell?_setCell_other _ _ _ _ (ne_off (by omega)), World.cell?_setCell_other _ _ _ _ (ne_off (by omega)), World.cell?_setCell_other _ _ _ _ (ne_off (by omega))]
theorem put4_there {w : World} {B o : Nat} (k : K) {v0 v1 v2 v3 : Value} (h0 : w.cell? ⟨B, o, none⟩ = some v0) (h1 : w.cell? ⟨B, o + 1, none⟩ = some v1) (h2 : w.cell? ⟨B, o + 2, none⟩ = some v2) (h3 : w.cell? ⟨B, o + 3, none⟩ = some v3) : CellsK (put4 w B o k) B o k := by
 unfold put4
 refine ⟨?_, ?_, ?_, ?_⟩
 · rw [World.cell?_setCell_other _ _ _ _ (ne_off (by omega)), World.cell?_setCell_other _ _ _ _ (ne_off (by omega)), World.cell?_setCell_other _ _ _ _ (ne_off (by omega))]
   exact World.cell?_setCell_same _ _ _ h0
 · rw [World.cell?_setCell_other _ _ _ _ (ne_off (by omega)), World.cell?_setCell_other _ _ _ _ (ne_off (by omega))]
   exact World.cell?_setCell_same _ _ _ ((World.cell?_setCell_other _ _ _ _ (ne_off (by omega))).trans h1)
 · rw [World.cell?_setCell_other _ _ _ _ (ne_off (by omega))]
   exact World.cell?_setCell_same _ _ _ ((World.cell?_setCell_other _ _ _ _ (ne_off (by omega))).trans ((World.cell?_setCell_other _ _ _ _ (ne_off (by omega))).trans h2))
 · exact World.cell?_setCell_same _ _ _ ((World.cell?_setCell_other _ _ _ _ (ne_off (by omega))).trans ((World.cell?_setCell_other _ _ _ _ (ne_off (by omega))).trans ((World.cell?_setCell_other _ _ _ _ (ne_off (by omega))).trans h3)))
theorem put4_frozen (w : World) (B o : Nat) (k : K) (p : Addr) : (put4 w B o k).frozen? p = w.frozen? p := by unfold put4; simp
theorem put4_size (w : World) (B o : Nat) (k : K) : (put4 w B o k).heap.size = w.heap.size := by unfold put4; simp
theorem Made.put {w : World} {B n j : Nat} {L : List K} (h : Made w B n L j) (hj : j < n) : Made (put4 w B (j * 4) (at' L j)) B n L (j + 1) := by
 obtain ⟨v0, e0⟩ := h.ex (j * 4) (by omega)
 obtain ⟨v1, e1⟩ := h.ex (j * 4 + 1) (by omega)
 obtain ⟨v2, e2⟩ := h.ex (j * 4 + 2) (by omega)
 obtain ⟨v3, e3⟩ := h.ex (j * 4 + 3) (by omega)
 have hk := put4_there (at' L j) e0 e1 e2 e3
 refine ⟨by rw [put4_size]; exact h.lt, fun i hi => ?_, fun i hi => ?_, fun i hi => by rw [put4_frozen]; exact h.fr i hi⟩
 · by_cases he : i = j
   · rw [he]; exact hk
   · have hc := h.rd i (by omega)
     exact ⟨(put4_other w B _ _ _ (by omega)).trans hc.c0, (put4_other w B _ _ _ (by omega)).trans hc.c1, (put4_other w B _ _ _ (by omega)).trans hc.c2, (put4_other w B _ _ _ (by omega)).trans hc.c3⟩
 · by_cases he : i < j * 4 ∨ j * 4 + 4 ≤ i
   · rw [put4_other w B _ _ i he]; exact h.ex i hi
   · rcases (show i = j * 4 ∨ i = j * 4 + 1 ∨ i = j * 4 + 2 ∨ i = j * 4 + 3 by omega) with rfl | rfl | rfl | rfl
     · exact ⟨_, hk.c0⟩
     · exact ⟨_, hk.c1⟩
     · exact ⟨_, hk.c2⟩
     · exact ⟨_, hk.c3⟩
theorem below_put4 {b B : Nat} {a w : World} (h : Below b a w) (hB : b ≤ B) (o : Nat) (k : K) : Below b a (put4 w B o k) :=
 (((h.setCell (p := ⟨B, o, none⟩) hB _).setCell (p := ⟨B, o + 1, none⟩) hB _).setCell (p := ⟨B, o + 2, none⟩) hB _).setCell (p := ⟨B, o + 3, none⟩) hB _
theorem made_new (w : World) (t : TypeId) (z : Array Value) (n : Nat) (L : List K) : Made (w.alloc (.cells (madeCells z (n * 4)) t)) w.heap.size n L 0 where
 lt := by simp
 rd := fun i hi => by omega
 ex := fun i hi => by
   rw [World.cell?_alloc_new]
   have : i < (madeCells z (n * 4)).size := by rw [size_madeCells]; exact hi
   exact ⟨_, Array.getElem?_eq_getElem this⟩
 fr := fun i hi => by simp
theorem infoKn : (Tryz.prog.info? 36).map (fun i => (i.zero, i.size, i.bytes)) = some (some (.agg #[.int .i64 0, .int .i64 0, .int .i64 0, .string ⟨#[]⟩]), 4, 40) := by kernel_rfl
def ToPost (L : List K) (w : World) (e : Ending) (w' : World) : Prop := e = .returned (.slice (some ⟨w.heap.size, 0, none⟩) L.length L.length) ∧ Made w' w.heap.size L.length L L.length ∧ Below w.heap.size w w'
theorem made_rd {w : World} {B n : Nat} {L : List K} (h : Made w B n L L.length) : RdK w (some ⟨B, 0, none⟩) L :=
 .inr ⟨B, 0, rfl, h.lt, fun i hi => by rw [Nat.zero_add]; exact h.rd i hi⟩
end Lc
namespace Lc
open Kn (K okK)
theorem cells_at {w : World} {g o : Nat} {k : K} (h : CellsK w g o k) (c : Nat) (hc : c < 4) (u : Value) (hu : (cellsOf k)[c]? = some u) : w.cell? ⟨g, o + c, none⟩ = some u := by
 match c, hc with
 | 0, _ => simp [cellsOf] at hu; subst hu; exact h.c0
 | 1, _ => simp [cellsOf] at hu; subst hu; exact h.c1
 | 2, _ => simp [cellsOf] at hu; subst hu; exact h.c2
 | 3, _ => simp [cellsOf] at hu; subst hu; exact h.c3
theorem rd_news {w : World} {g off : Nat} {L : List K} (h : RdK w (some ⟨g, off, none⟩) L) : ∀ (j : Nat) u, (flat L)[j]? = some u → w.cell? ((⟨g, off, none⟩ : Addr).add j) = some u := by
 intro j u hj
 have hlt : j < L.length * 4 := by
   have := (List.getElem?_eq_some_iff.1 hj).1
   rwa [flat_len] at this
 have e : j = j / 4 * 4 + j % 4 := by omega
 have hc := (h.on (j / 4) (by omega)).2
 rw [e, flat_at L (j / 4) (j % 4) (by omega) (by omega)] at hj
 have := cells_at hc (j % 4) (by omega) u hj
 rw [WideShapes.add_plain]
 rwa [show off + j / 4 * 4 + j % 4 = off + j by omega] at this
theorem ownK_base {t : TypeId} {b b' : Nat} {w : World} {v : Value} {L : List K} (h : OwnK t b w v L) (hb : b' ≤ b) : OwnK t b' w v L := by
 refine ⟨?_, h.2⟩
 obtain ⟨h1, h2⟩ := h.1
 refine ⟨h1, ?_⟩
 rcases h2 with h2 | ⟨g, cap', cur, hv, hB, rest⟩
 · exact .inl h2
 · exact .inr ⟨g, cap', cur, hv, by omega, rest⟩
theorem own_nil (w : World) (t : TypeId) : (w.alloc (.cells #[] t)).ownsRow w.heap.size t 4 (.slice (some ⟨w.heap.size, 0, none⟩) 0 0) 0 [] := by
 refine ⟨rfl, .inr ⟨w.heap.size, 0, #[], rfl, Nat.le_refl _, ?_, Nat.le_refl _, by unfold maxLen; omega, rfl, rfl⟩⟩
 show (w.heap.push _)[w.heap.size]? = _
 rw [Array.getElem?_push_size]
def CopyPost (L : List K) (w : World) (e : Ending) (w' : World) : Prop := ∃ v, e = .returned v ∧ OwnK 36 w.heap.size w' v L ∧ Below w.heap.size w w'
set_option maxHeartbeats 800000 in
theorem l3Copy (g off cap : Nat) (L : List K) (w : World) (hl : L.length ≤ 2000000) (hr : RdK w (some ⟨g, off, none⟩) L) : Calls Tryz.prog 69 #[.slice (some ⟨g, off, none⟩) L.length cap] w (CopyPost L w) := by
 obtain ⟨i0, hi, hz0, hz1, hz2⟩ := info_parts infoKn
 go_enter Tryz.func69, Tryz.ntmps69
 go_wp2_with (at_builtin; refine wpList_append_own _ rfl _ _ 24 rfl w.heap.size 36 i0 (.agg #[.int .i64 0, .int .i64 0, .int .i64 0, .string ⟨#[]⟩]) 4 40 Tryz.underlying24 hi hz0 hz1 hz2 rfl (by decide) _ 0 [] rfl (own_nil w _) ⟨g, off, none⟩ L.length cap (flat L) rfl (flat_len L) ?c1 ?c2 ?c3 ?c4 ?c5 ?_)
 case c1 => exact rd_news (hr.below ((Below.refl _ _).alloc (Nat.le_refl _) _))
 case c2 => exact flat_one L
 case c3 => unfold maxLen; omega
 case c4 => omega
 case c5 => simp
 intro v' w5 hown' hgrow hnil
 have HR : Hid (OwnK 36 w.heap.size w5 v' L ∧ Below w.heap.size w w5) := by
   refine ⟨⟨by simpa using hown', ?_⟩, ?_⟩
   · intro e
     simp [e] at hnil
   · exact ((Below.refl w.heap.size w).alloc (Nat.le_refl _) _).grown hgrow (by simp) (fun i hi => by simp [Value.ownBlock] at hi; omega)
 clear hown' hgrow hnil hi hz0 hz1 hz2
 go_wp2
 go_ret
 exact ⟨v', rfl, HR.out.1, HR.out.2⟩
set_option maxHeartbeats 1600000 in
theorem laceOut (g off cap : Nat) (L : List K) (w : World) (hl : L.length ≤ 1048577) (hr : RdK w (some ⟨g, off, none⟩) L) :
   Calls Tryz.prog 56 #[.slice (some ⟨g, off, none⟩) L.length cap] w (ToPost L w) := by
 obtain ⟨i0, hi, hz0, hz1, hz2⟩ := info_parts infoKn
 have hmk : ∀ W : World, (Instr.makeSlice 24 (.int .i64 (L.length : Int)) (.int .i64 (L.length : Int))).run Tryz.prog W = .ok (.slice (some ⟨W.heap.size, 0, none⟩) L.length L.length) (W.alloc (.cells (madeCells (Value.agg #[.int .i64 0, .int .i64 0, .int .i64 0, .string ⟨#[]⟩]).cells (L.length * 4)) 36)) := by
   intro W
   have := run_make (P := Tryz.prog) W 24 36 i0 _ Tryz.underlying24 hi hz0 .i64 .i64 (L.length : Int) (L.length : Int) (by omega) (by omega) (by rw [hz2]; omega) (by omega)
   rw [hz1] at this
   simpa using this
 have HP : Hid (Made (w.alloc (.cells (madeCells (Value.agg #[.int .i64 0, .int .i64 0, .int .i64 0, .string ⟨#[]⟩]).cells (L.length * 4)) 36)) w.heap.size L.length L 0 ∧ Below w.heap.size w (w.alloc (.cells (madeCells (Value.agg #[.int .i64 0, .int .i64 0, .int .i64 0, .string ⟨#[]⟩]).cells (L.length * 4)) 36))) := ⟨made_new _ _ _ _ _, (Below.refl _ _).alloc (Nat.le_refl _) _⟩
 clear hi hz0 hz1 hz2
 generalize (Value.agg #[.int .i64 0, .int .i64 0, .int .i64 0, .string ⟨#[]⟩]).cells = zc at hmk HP
 generalize madeCells zc (L.length * 4) = mc at hmk HP
 go_enter Tryz.func56, Tryz.ntmps56
 go_wp2
 clear hmk
 go_loopw [11] (fun i wr => ∃ j : Nat, j ≤ L.length ∧ i = .int .i64 j ∧ Hid (Made wr w.heap.size L.length L j) ∧ Hid (Below w.heap.size w wr)) (fun i _ => L.length - (intOf i).toNat)
 case atStart => exact ⟨0, by omega, rfl, HP.out.1, HP.out.2⟩
 case round =>
   obtain ⟨j, hj, rfl, HM, HB⟩ := hrel
   by_cases hlt : j < L.length
   · obtain ⟨hg, hc⟩ := hr.on j hlt
     obtain ⟨c0, c1, c2, c3⟩ := hc.below HB.out hg
     have HN : Hid (Below wr.heap.size wr (wr.alloc (.cells #[.int .i64 (at' L j).hand, .int .i64 (at' L j).round, .int .i64 (at' L j).frm, .string (at' L j).word] 92))) := (Below.refl _ _).alloc (Nat.le_refl _) _
     clear hc
     go_wp2_with fail
     refine (Kn.handedOut _ _ _ _ _).mono ?_
     rintro e w1 ⟨rfl, hb1⟩
     have hb01 := HN.out.trans (hb1.mono HN.out.size)
     have M1 := HM.out.below hb01
     have B1 := HB.out.trans (hb01.mono HB.out.size)
     obtain ⟨v0, e0⟩ := M1.ex (j * 4) (by omega)
     obtain ⟨v1, e1⟩ := M1.ex (j * 4 + 1) (by omega)
     obtain ⟨v2, e2⟩ := M1.ex (j * 4 + 2) (by omega)
     obtain ⟨v3, e3⟩ := M1.ex (j * 4 + 3) (by omega)
     have f0 := M1.fr (j * 4) (by omega)
     have f1 := M1.fr (j * 4 + 1) (by omega)
     have f2 := M1.fr (j * 4 + 2) (by omega)
     have f3 := M1.fr (j * 4 + 3) (by omega)
     have HM1 : Hid (Made (put4 w1 w.heap.size (j * 4) (at' L j)) w.heap.size L.length L (j + 1)) := M1.put hlt
     have HB1 : Hid (Below w.heap.size w (put4 w1 w.heap.size (j * 4) (at' L j))) := below_put4 B1 (Nat.le_refl _) _ _
     clear M1 B1 hb1 hb01 HM HB c0 c1 c2 c3 HN
     go_wp2
     go_roundw
     case rel => exact ⟨j + 1, by omega, by go_num, HM1, HB1⟩
     case measure => simp [intOf]; omega
   · obtain rfl : j = L.length := by omega
     go_wp2
     go_ret
     exact ⟨rfl, HM.out, HB.out⟩
/-! ### copy, of elements of four cells -/
theorem run_copy4 {P : Program} (w : World) (dT sT ty elem : TypeId) (g dLen dCap : Nat) (a : Addr) (sLen sCap m : Nat) (cur : Array Value) (t : TypeId) (cs : List Value)
   (hu : P.underlying dT = some (.slice elem)) (hs : (P.info? elem).map (·.size) = some 4)
   (hg : w.heap[g]? = some (.cells cur t (0, 0))) (hm : Nat.min sLen dLen = m) (hn : cs.length = m * 4)
   (hsrc : ∀ j v, cs[j]? = some v → w.cell? (a.add j) = some v) (hfit : cs.length ≤ cur.size) (h1 : ∀ v ∈ cs, v.oneCell' = true) :
   (Builtin.copy_ #[dT, sT] ty #[.slice (some ⟨g, 0, none⟩) dLen dCap, .slice (some a) sLen sCap]).run P w =
     .ok (goInt m) (w.setRow g (cs ++ cur.toList.drop cs.length).toArray) := by
 have hl := run_loadCells_list (P := P) w a cs hsrc
 have hst := run_storeCells_at P g 0 t cs 0 cur w hg (by simpa using hfit) h1
 cases hq : P.info? elem with
 | none => simp [hq] at hs
 | some i =>
   have hi : i.size = 4 := by simpa [hq] using hs
   rw [hn] at hl
   simp [Builtin.copy_, run_underlying hu, Builtin.lenOf, Builtin.firstCells, sizeOf, typeInfo, hq, hi, hm, hl, hst]
theorem wpList_copy4 {P : Program} {w : World} {ops : Array Oper} {rest : List Oper} {o : Oper} {a : Act} {Q : Exit → Act → World → Prop} (hgd : o.guard = none) (d s : Operand) (dT sT : TypeId)
   (ho : o.op = .call { callee := .builtin .copy, args := #[d, s], argTypes := #[dT, sT] }) (elem : TypeId) (hu : P.underlying dT = some (.slice elem)) (hsz : (P.info? elem).map (·.size) = some 4)
   (g dLen dCap : Nat) (ad : Addr) (sLen sCap m : Nat) (hd : a.eval d = .slice (some ⟨g, 0, none⟩) dLen dCap) (hs : a.eval s = .slice (some ad) sLen sCap)
   (cur : Array Value) (t : TypeId) (hg : w.heap[g]? = some (.cells cur t (0, 0))) (cs : List Value) (hm : Nat.min sLen dLen = m) (hn : cs.length = m * 4)
   (hsrc : ∀ j v, cs[j]? = some v → w.cell? (ad.add j) = some v) (hfit : cs.length ≤ cur.size) (h1 : ∀ v ∈ cs, v.oneCell' = true) (B : Nat) (w0 : World) (hb : Below B w0 w) (hBg : B ≤ g)
   (h : ∀ w', w'.heap[g]? = some (.cells (cs ++ cur.toList.drop cs.length).toArray t (0, 0)) → Below B w0 w' → wpList P ops Q rest (a.put o.dst (goInt m)) w') : wpList P ops Q (o :: rest) a w := by
 refine wpList_plain hgd fun K hK => ?_
 have hrun := run_copy4 (P := P) w dT sT o.type elem g dLen dCap ad sLen sCap m cur t cs hu hsz hg hm hn hsrc hfit h1
 unfold Oper.wp
 simp [execOp, ho, resolve, invoke, builtin, hd, hs, hrun, Result.andThen]
 exact hK _ _ (h _ (setRow_heap w g _ _ t _ hg) (below_setRow hb hBg _))
theorem made_row {w : World} {g n : Nat} {L : List K} {k : K} {t : TypeId} {tail : List Value} (hn : L.length = n) (ht : tail.length = 4) (hg : w.heap[g]? = some (.cells (flat L ++ tail).toArray t (0, 0))) : Made w g (n + 1) (L ++ [k]) n where
 lt := (Array.getElem?_eq_some_iff.1 hg).1
 rd := fun i hi => by
   have hcell : ∀ j u, (flat L)[j]? = some u → w.cell? ⟨g, j, none⟩ = some u := by
     intro j u hj
     have hjl := (List.getElem?_eq_some_iff.1 hj).1
     simp [World.cell?, hg, List.getElem?_append_left hjl, hj]
   rw [at_left L [k] i (by omega)]
   exact ⟨hcell (i * 4) _ (by have := flat_at L i 0 (by omega) (by omega); simpa [cellsOf] using this), hcell (i * 4 + 1) _ (by have := flat_at L i 1 (by omega) (by omega); simpa [cellsOf] using this),
     hcell (i * 4 + 2) _ (by have := flat_at L i 2 (by omega) (by omega); simpa [cellsOf] using this), hcell (i * 4 + 3) _ (by have := flat_at L i 3 (by omega) (by omega); simpa [cellsOf] using this)⟩
 ex := fun i hi => by
   have hl : i < (flat L ++ tail).length := by rw [List.length_append, flat_len, ht, hn]; omega
   exact ⟨(flat L ++ tail)[i], by simp [World.cell?, hg]⟩
 fr := fun i hi => by simp [World.frozen?, hg]
theorem heap_two (w : World) (o : Obj) (o2 : Obj) : ((w.alloc o).alloc o2).heap[w.heap.size + 1]? = some o2 := by
 have e : (w.alloc o).heap.size = w.heap.size + 1 := by simp
 show ((w.alloc o).heap.push o2)[w.heap.size + 1]? = _
 rw [← e, Array.getElem?_push_size]
theorem sizeK : (Tryz.prog.info? 92).map (·.size) = some 4 := by kernel_rfl
def LacedPost (L : List K) (k : K) (w : World) (e : Ending) (w' : World) : Prop := ∃ g T, T = L ++ [k] ∧ e = .returned (.slice (some ⟨g, 0, none⟩) T.length T.length) ∧ RdK w' (some ⟨g, 0, none⟩) T ∧ Below w.heap.size w w'
set_option maxHeartbeats 1600000 in
theorem laceTied (g off cap : Nat) (L : List K) (k : K) (w : World) (hl : L.length ≤ 1048576) (hr : RdK w (some ⟨g, off, none⟩) L) :
   Calls Tryz.prog 97 #[.slice (some ⟨g, off, none⟩) L.length cap, .agg #[.int .i64 k.hand, .int .i64 k.round, .int .i64 k.frm, .string k.word]] w (LacedPost L k w) := by
 obtain ⟨i0, hi, hz0, hz1, hz2⟩ := info_parts infoK
 have hmk : ∀ W : World, (Instr.makeSlice 62 (.int .i64 ((L.length : Int) + 1)) (.int .i64 ((L.length : Int) + 1))).run Tryz.prog W = .ok (.slice (some ⟨W.heap.size, 0, none⟩) (L.length + 1) (L.length + 1)) (W.alloc (.cells (madeCells (Value.agg #[.int .i64 0, .int .i64 0, .int .i64 0, .string ⟨#[]⟩]).cells ((L.length + 1) * 4)) 92)) := by
   intro W
   have := run_make (P := Tryz.prog) W 62 92 i0 _ Tryz.underlying62 hi hz0 .i64 .i64 ((L.length : Int) + 1) ((L.length : Int) + 1) (by omega) (by omega) (by rw [hz2]; omega) (by omega)
   have e : ((L.length : Int) + 1).toNat = L.length + 1 := by omega
   rw [hz1, e] at this
   exact this
 have P0 : Hid (Below w.heap.size w (w.alloc (.cells #[.int .i64 k.hand, .int .i64 k.round, .int .i64 k.frm, .string k.word] 92)) ∧ CellsK (w.alloc (.cells #[.int .i64 k.hand, .int .i64 k.round, .int .i64 k.frm, .string k.word] 92)) w.heap.size 0 k ∧ w.heap.size < (w.alloc (.cells #[.int .i64 k.hand, .int .i64 k.round, .int .i64 k.frm, .string k.word] 92)).heap.size) :=
   ⟨(Below.refl _ _).alloc (Nat.le_refl _) _, ⟨by simp, by simp, by simp, by simp⟩, by simp⟩
 have hmc : (madeCells (Value.agg #[.int .i64 0, .int .i64 0, .int .i64 0, .string ⟨#[]⟩]).cells ((L.length + 1) * 4)).size = (L.length + 1) * 4 := size_madeCells _ _
 clear hi hz0 hz1 hz2
 generalize madeCells (Value.agg #[.int .i64 0, .int .i64 0, .int .i64 0, .string ⟨#[]⟩]).cells ((L.length + 1) * 4) = mc at hmk hmc
 have hw1 : IntKind.i64.wrap ((L.length : Int) + 1) = (L.length : Int) + 1 := by rw [IntKind.wrap_i64]; omega
 go_enter Tryz.func97, Tryz.ntmps97
 go_wp2_with (refine wpList_copy4 rfl _ _ 62 62 rfl 92 Tryz.underlying62 sizeK (w.heap.size + 1) (L.length + 1) (L.length + 1) ⟨g, off, none⟩ L.length cap L.length rfl rfl mc 92 ?hg (flat L) ?hm (flat_len L) ?hs ?hf (flat_one L) (w.heap.size + 1) (w.alloc (.cells #[.int .i64 k.hand, .int .i64 k.round, .int .i64 k.frm, .string k.word] 92)) ?hb ?hbg ?_)
 case hg => exact heap_two w _ _
 case hm => exact Nat.min_eq_left (by omega)
 case hs => exact rd_news (hr.below (((Below.refl _ _).alloc (Nat.le_refl _) _).alloc (by simp) _))
 case hf => rw [flat_len, hmc]; omega
 case hb => exact (Below.refl _ _).alloc (by simp) _
 case hbg => exact Nat.le_refl _
 intro w2 hg2 hb2
 have M2 : Made w2 (w.heap.size + 1) (L.length + 1) (L ++ [k]) L.length := made_row (k := k) rfl (by rw [List.length_drop, flat_len]; simp [hmc]; omega) hg2
 obtain ⟨B0, C0, S0⟩ := P0
 have C2 : CellsK w2 w.heap.size 0 k := ⟨(hb2.cell (p := ⟨w.heap.size, 0, none⟩) (by simp)).trans C0.c0, (hb2.cell (p := ⟨w.heap.size, 0 + 1, none⟩) (by simp)).trans C0.c1, (hb2.cell (p := ⟨w.heap.size, 0 + 2, none⟩) (by simp)).trans C0.c2, (hb2.cell (p := ⟨w.heap.size, 0 + 3, none⟩) (by simp)).trans C0.c3⟩
 have B2 : Below w.heap.size w w2 := B0.trans (hb2.mono (by omega))
 obtain ⟨c0, c1, c2, c3⟩ := C2
 rw [Nat.zero_add] at c1 c2 c3
 obtain ⟨v0, e0⟩ := M2.ex (L.length * 4) (by omega)
 obtain ⟨v1, e1⟩ := M2.ex (L.length * 4 + 1) (by omega)
 obtain ⟨v2, e2⟩ := M2.ex (L.length * 4 + 2) (by omega)
 obtain ⟨v3, e3⟩ := M2.ex (L.length * 4 + 3) (by omega)
 have f0 := M2.fr (L.length * 4) (by omega)
 have f1 := M2.fr (L.length * 4 + 1) (by omega)
 have f2 := M2.fr (L.length * 4 + 2) (by omega)
 have f3 := M2.fr (L.length * 4 + 3) (by omega)
 have hlen : (L ++ [k]).length = L.length + 1 := by simp
 have HM3 : Hid (Made (put4 w2 (w.heap.size + 1) (L.length * 4) k) (w.heap.size + 1) (L.length + 1) (L ++ [k]) (L ++ [k]).length) := by
   have := M2.put (by omega)
   rw [at_end] at this
   rw [hlen]; exact this
 have HB3 : Hid (Below w.heap.size w (put4 w2 (w.heap.size + 1) (L.length * 4) k)) := below_put4 B2 (by omega) _ _
 clear M2 B2 hb2 hg2 B0 C0 S0 hmk hmc
 go_wp2
 go_ret
 exact ⟨w.heap.size + 1, L ++ [k], rfl, by rw [hlen]; rfl, made_rd HM3.out, HB3.out⟩
end Lc
end Go.Proofs.YtfjmenhofllchaaGreatDoor
