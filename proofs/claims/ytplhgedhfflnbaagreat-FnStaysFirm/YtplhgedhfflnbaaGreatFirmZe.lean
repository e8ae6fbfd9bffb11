/-
  What is firm stays firm where more is known.
  What the program's own sealedInItsWave and firm answer, in the words of ChainM.
  How a method of a value is called through a pointer to it.
  What the library's container/heap does with a heap of the program's own: over whatever its Less and Swap keep, in the words of HeapM.
  What the library's heap.Push, heap.Pop and heap.Init do with a heap of the program's own, in the words of HeapM.
  The leaders that wait, a heap of the program's own: what its five methods do.
  The leaders that wait: what is put in and taken out, and that the library's heap may ask them.
  The leaders that wait: the library's heap over them, and the next one.
  The program's waitingOf: the leaders of a set, in a heap.
  A range over an iterator that writes memory of its own: whatever lay there when the loop began is the caller's alone; all from there on is the iterator's and the loop's.
  The program's iterator over the firm ones: the leaders as they come off the heap, those that are sealed.
  The walk of the program's iterator over the firm ones.
  The program's lastFirm: the first one that the iterator hands out.
  The program's ledLace.
  What the program's own Firm, FirmOnes and LastFirm answer, in the words of FirmS; for coins of at most 2^20 numbers and lists of knots whose words have at most 2^40 bytes.
  What the program's own FirmOnes answers, in the words of FirmS; for coins of at most 2^20 numbers and lists of knots whose words have at most 2^40 bytes.
  The drawing of a room keeps its word.
  The drawing of a room keeps its word, with its coins.
-/
import Derived.Test.YtplhgedhfflnbaaGreatFirmZd
import Derived.Test.YtplhgedhfflnbaaGreatBase
import Derived.Test.YtplhgedhfflnbaaGreatHeapM
import Derived.RegionTactic
import Derived.ChangeAlike
import Derived.Deep.QuietTactic
import Derived.BigQuiet
import Derived.Deep.RegionLaw
import Derived.Lib.SmallJoins
import Derived.Laws.AppendOwnNone
import Derived.OneCell
import Derived.Test.YtplhgedhfflnbaaGreatMemb
import Derived.RangeFuncNested
import Derived.RangeFuncBound
import Derived.RangeFuncCalls
import Derived.RangeFuncLeaves
import Derived.Below
import Derived.WalkKit
import Derived.Test.YtplhgedhfflnbaaGreatFirmZa
import Derived.OwnWalkIn
import Derived.TacticsInMore
import Derived.LoopNIn
import Derived.LoopIn
import Derived.RangeFuncBox
import Derived.Test.YtplhgedhfflnbaaGreatRoomXm
import Derived.Test.YtplhgedhfflnbaaGreatRows
import Derived.ProofKit
import Derived.OpenShut
import Derived.ChangeOld
namespace Go.Proofs.YtplhgedhfflnbaaGreat
open Go.RowKit
set_option maxRecDepth 100000
set_option linter.unusedVariables false
namespace Fw
open Kn (K okK)
open Bit (bit withB)
open Lc (at' RdK WordsOk laceB setB handsN roundS)
open Ak (onlyF)
open Sl (sealS sealN sealsB)
open Ch (leadK firmN sealAt)

set_option maxHeartbeats 400000 in
theorem lastOfWave (r : Int) (w : World) (h0 : 0 ≤ r) (h1 : r ≤ 1000) : Calls Tryz.prog 95 #[.int .i64 r] w fun e w' => e = .returned (.int .i64 ((r / 3 + 1) * 3 - 1)) ∧ w = w' := by
  have h2 : 0 ≤ r / 3 := by omega
  have h3 : r / 3 ≤ 1000 := by omega
  have HV : Hid (∀ W : World, Calls Tryz.prog 93 #[.int .i64 r] W fun e w' => e = .returned (.int .i64 (r / 3)) ∧ W = w') := fun W => Ch.waveOf r W h0 h1
  generalize r / 3 = q at h2 h3 HV ⊢
  go_enter Tryz.func95, Tryz.ntmps95
  go_wp2_with (go_at_call 93; refine (HV.out _).mono ?_; rintro e w' ⟨rfl, rfl⟩)
  go_ret
  exact ⟨by first | rfl | (congr 2; omega), rfl⟩

/-- those of the last round that seal k -/
theorem only_seal {L : List K} (hlc : laceB L = true) {s : Int} (h0 : 0 ≤ s) (h1 : s < 1152921504606846976) {k : Nat} (hk : k < L.length) (R : Int) :
    onlyF (fun a => sealsB L a (k : Int)) (Memb.memI (roundS L s R)) = roundS L (sealAt L s k) R := by
  have h60 := ((Lc.lace_iff L).1 hlc).1
  have hR := Lc.round_bd L s R h60
  have hR2 := Lc.round_bd L (sealAt L s k) R h60
  have hF := Ak.onlyF_bits (fun a => sealsB L a (k : Int)) (Memb.memI (roundS L s R)) (fun _ h => Ak.mem_memI h)
  have hN := Sl.sealS_bd L k L.length h60
  refine Lc.eq_of_bits _ _ hF.1.1 hR2.1 fun j => ?_
  rw [Bool.eq_iff_iff, hF.2 j, Ak.mem_bit hR.1 hR.2.1, Ag.bit_round L s R h60, Ag.bit_round L (sealAt L s k) R h60]
  have hb : bit (sealAt L s k) j = (bit s j && (decide (j < L.length) && sealN L j k)) := by
    unfold Ch.sealAt
    rw [Sl.bit_and s _ h0 h1 hN.1 hN.2, Sl.bit_sealS L k L.length h60]
  rw [hb]
  have hi : Sg.isB L (k : Int) = true := by rw [Db.isB_lace hlc]; simp; omega
  have hj : j < L.length → Sg.isB L (j : Int) = true := fun q => by rw [Db.isB_lace hlc]; simp; omega
  unfold Sl.sealsB
  rw [hi]
  simp only [Int.toNat_natCast, Bool.and_eq_true, decide_eq_true_eq, Bool.true_and]
  constructor
  · rintro ⟨⟨p1, p2, p3⟩, p4, p5⟩
    exact ⟨p1, ⟨p2, p1, p5⟩, p3⟩
  · rintro ⟨p1, ⟨p2, _, p5⟩, p3⟩
    exact ⟨⟨p1, p2, p3⟩, hj p1, p5⟩

set_option maxHeartbeats 800000 in
theorem sealedInItsWave (g off cap : Nat) (L : List K) (s : Int) (k : Nat) (w : World) (hlc : laceB L = true) (hg : g < w.heap.size) (hr : RdK w (some ⟨g, off, none⟩) L) (h0 : 0 ≤ s) (h1 : s < 1152921504606846976) (hk : k < L.length) (h3 : (at' L k).round % 3 = 0) :
    Calls Tryz.prog 68 #[.slice (some ⟨g, off, none⟩) L.length cap, .int .i64 s, .agg #[.int .i64 k, .int .i64 (at' L k).round]] w fun e w' => e = .returned (.bool (decide (3 ≤ handsN L (roundS L (sealAt L s k) ((at' L k).round + 2))))) ∧ Below w.heap.size w w' := by
  have h60 := ((Lc.lace_iff L).1 hlc).1
  have hrb := Lc.ok_round (Lc.can_ok (Lc.lace_upTo hlc k hk))
  have hok : Base.okB s = true := (Base.okB_iff s).2 ⟨h0, h1⟩
  have HS : Hid (onlyF (fun a => sealsB L a (k : Int)) (Memb.memI (roundS L s ((at' L k).round + 2))) = roundS L (sealAt L s k) ((at' L k).round + 2)) := only_seal hlc h0 h1 hk _
  have hR2 := Lc.round_bd L (sealAt L s k) ((at' L k).round + 2) h60
  have HLC : Hid (laceB L = true) := hlc
  have HH : Hid (Lc.HandsOk L) := Lc.lace_hands hlc
  have HR : Hid (RdK w (some ⟨g, off, none⟩) L) := hr
  generalize (at' L k).round = r at hrb h3 HS hR2 ⊢
  have hlast : (r / 3 + 1) * 3 - 1 = r + 2 := by omega
  have HL : Hid (∀ W : World, Calls Tryz.prog 95 #[.int .i64 r] W fun e w' => e = .returned (.int .i64 (r + 2)) ∧ W = w') := fun W => by
    have := lastOfWave r W hrb.1 (by omega)
    rw [hlast] at this
    exact this
  have P0 : Hid (Below w.heap.size w (w.alloc (.cells #[.int .i64 k, .int .i64 r] 97)) ∧ (w.alloc (.cells #[.int .i64 k, .int .i64 r] 97)).cell? ⟨w.heap.size, 0, none⟩ = some (.int .i64 k) ∧ (w.alloc (.cells #[.int .i64 k, .int .i64 r] 97)).cell? ⟨w.heap.size, 1, none⟩ = some (.int .i64 r) ∧ w.heap.size < (w.alloc (.cells #[.int .i64 k, .int .i64 r] 97)).heap.size) :=
    ⟨(Below.refl _ _).alloc (Nat.le_refl _) _, by simp, by simp, by simp⟩
  clear hlc hr hlast h3 hrb
  go_enter Tryz.func68, Tryz.ntmps68
  go_wp2_with (first | (go_at_call 95; refine (HL.out _).mono ?_; rintro e w' ⟨rfl, rfl⟩) | fail)
  generalize w.alloc (.cells #[.int .i64 k, .int .i64 r] 97) = V at P0 ⊢
  obtain ⟨B0, c0, c1, S0⟩ := P0
  refine (Lc.atRound g off cap L s (r + 2) V h60 hok (HR.out.below B0)).mono ?_
  rintro e w1 ⟨rfl, hb1⟩
  have c0' := (hb1.cell (p := ⟨w.heap.size, 0, none⟩) S0).trans c0
  have B1 := B0.trans (hb1.mono B0.size)
  have HB1 : Hid (Below w.heap.size w w1) := B1
  have hcall := Sl.sealers g off cap L (roundS L s (r + 2)) (k : Int) w1 HLC.out (Nat.lt_of_lt_of_le hg B1.size) (HR.out.below B1)
  rw [HS.out] at hcall
  clear hb1 B0 c0 c1 S0 B1
  go_wp2_with fail
  refine hcall.mono ?_
  rintro e w2 ⟨rfl, hb2⟩
  have HB2 : Hid (Below w.heap.size w w2) := HB1.out.trans (hb2.mono HB1.out.size)
  have hhands := Lc.hands g off cap L (roundS L (sealAt L s k) (r + 2)) w2 h60 hR2.1 hR2.2.1 hR2.2.2 HH.out (HR.out.below HB2.out)
  generalize hhn : handsN L (roundS L (sealAt L s k) (r + 2)) = hn at hhands
  have HHN : Hid (handsN L (roundS L (sealAt L s k) (r + 2)) = hn) := hhn
  clear hhn
  clear hcall hb2 HB1 c0' hR2 HS
  go_wp2_with fail
  refine hhands.mono ?_
  rintro e w3 ⟨rfl, hb3⟩
  have HB3 : Hid (Below w.heap.size w w3) := HB2.out.trans (hb3.mono HB2.out.size)
  clear hhands hb3 HB2
  go_wp2
  go_ret
  exact ⟨by rw [HHN.out]; rfl, HB3.out⟩

/-- whose turn each wave is, as the program hands it on -/
def by7 (C : List Int) : Value := .agg #[.int .i64 (Ch.leadI C 0), .int .i64 (Ch.leadI C 1), .int .i64 (Ch.leadI C 2), .int .i64 (Ch.leadI C 3), .int .i64 (Ch.leadI C 4), .int .i64 (Ch.leadI C 5), .int .i64 (Ch.leadI C 6)]
def by7c (C : List Int) : Array Value := #[.int .i64 (Ch.leadI C 0), .int .i64 (Ch.leadI C 1), .int .i64 (Ch.leadI C 2), .int .i64 (Ch.leadI C 3), .int .i64 (Ch.leadI C 4), .int .i64 (Ch.leadI C 5), .int .i64 (Ch.leadI C 6)]

/-- the leads of the program, over coins -/
theorem leads7 (g off cap : Nat) (L : List K) (C : List Int) (k : Int) (w : World) (hlc : laceB L = true) (hc : Rm.coinsB C = true) (hg : g < w.heap.size) (hr : RdK w (some ⟨g, off, none⟩) L) :
    Calls Tryz.prog 67 #[.slice (some ⟨g, off, none⟩) L.length cap, .agg #[.int .i64 (Ch.leadI C 0), .int .i64 (Ch.leadI C 1), .int .i64 (Ch.leadI C 2), .int .i64 (Ch.leadI C 3), .int .i64 (Ch.leadI C 4), .int .i64 (Ch.leadI C 5), .int .i64 (Ch.leadI C 6)], .int .i64 k] w fun e w' => e = .returned (.bool (Ch.leadsB L C k)) ∧ Below w.heap.size w w' := by
  have := Ch.leads g off cap L (fun i => Ch.leadI C (i : Int)) k w hlc hg hr
  rw [Ch.ledB_leads hlc hc _ (fun _ _ => rfl) k] at this
  exact this

/-- firm, for any number -/
def firmK (L : List K) (C : List Int) (s k : Int) : Bool := (decide (0 ≤ k) && decide (k < (L.length : Int))) && firmN L C s k.toNat

theorem cell7 (w : World) (C : List Int) (t : TypeId) (b : Nat) (hb : w.heap.size = b) : Below w.heap.size w (w.alloc (.cells #[.int .i64 (Ch.leadI C 0), .int .i64 (Ch.leadI C 1), .int .i64 (Ch.leadI C 2), .int .i64 (Ch.leadI C 3), .int .i64 (Ch.leadI C 4), .int .i64 (Ch.leadI C 5), .int .i64 (Ch.leadI C 6)] t)) ∧ Db.RowI (w.alloc (.cells #[.int .i64 (Ch.leadI C 0), .int .i64 (Ch.leadI C 1), .int .i64 (Ch.leadI C 2), .int .i64 (Ch.leadI C 3), .int .i64 (Ch.leadI C 4), .int .i64 (Ch.leadI C 5), .int .i64 (Ch.leadI C 6)] t)) b 7 (fun i => Ch.leadI C (i : Int)) := by
  subst hb
  exact ⟨(Below.refl _ _).alloc (Nat.le_refl _) _, Ch.rowI_seven w t (fun i => Ch.leadI C (i : Int))⟩

theorem inL_bits {L : List K} (h60 : L.length ≤ 60) {s : Int} (h0 : 0 ≤ s) (hd : s / 2 ^ L.length = 0) (k : Int) (hk : ¬ (0 ≤ k ∧ k < (L.length : Int))) : (Base.okB s && (Base.inB k && bit s k.toNat)) = false := by
  by_cases hk0 : 0 ≤ k
  · have hb : bit s k.toNat = false := Lc.bit_hi s _ h0 hd _ (by omega)
    rw [hb]; simp
  · have : Base.inB k = false := by
      cases hb : Base.inB k
      · rfl
      · exact absurd ((Base.inB_iff k).1 hb).1 hk0
    rw [this]; simp

set_option maxHeartbeats 1600000 in
theorem firm (g off cap : Nat) (L : List K) (C : List Int) (s k : Int) (w : World) (hlc : laceB L = true) (hc : Rm.coinsB C = true) (hg : g < w.heap.size) (hr : RdK w (some ⟨g, off, none⟩) L) (h0 : 0 ≤ s) (h1 : s < 1152921504606846976) (hd : s / 2 ^ L.length = 0) :
    Calls Tryz.prog 34 #[.slice (some ⟨g, off, none⟩) L.length cap, .agg #[.int .i64 (Ch.leadI C 0), .int .i64 (Ch.leadI C 1), .int .i64 (Ch.leadI C 2), .int .i64 (Ch.leadI C 3), .int .i64 (Ch.leadI C 4), .int .i64 (Ch.leadI C 5), .int .i64 (Ch.leadI C 6)], .int .i64 s, .int .i64 k] w fun e w' => e = .returned (.bool (firmK L C s k)) ∧ Below w.heap.size w w' := by
  have h60 := ((Lc.lace_iff L).1 hlc).1
  have HP7 : Hid (_) := cell7 w C 55 w.heap.size rfl
  have HAS : Hid (∀ W : World, Calls Tryz.prog 38 #[.int .i64 s, .int .i64 k] W fun e w' => e = .returned (.bool (Base.okB s && (Base.inB k && bit s k.toNat))) ∧ W = w') := fun W => Base.has _ _ _
  by_cases hk : 0 ≤ k ∧ k < (L.length : Int)
  · have hok : Base.okB s = true := (Base.okB_iff s).2 ⟨h0, h1⟩
    have hin : Base.inB k = true := (Base.inB_iff k).2 ⟨hk.1, by omega⟩
    have HT : Hid (firmK L C s k = firmN L C s k.toNat) := by show _ = _; unfold firmK; rw [decide_eq_true hk.1, decide_eq_true hk.2]; rfl
    rw [hok, hin, Bool.true_and, Bool.true_and] at HAS
    obtain ⟨p, rfl⟩ := Int.eq_ofNat_of_zero_le hk.1
    rw [Int.toNat_natCast] at HAS HT
    have hp : p < L.length := by omega
    have HFN : Hid (firmN L C s p = (bit s p && (leadK C (at' L p) && decide (3 ≤ handsN L (roundS L (sealAt L s p) ((at' L p).round + 2)))))) := rfl
    have HLD : Hid (Ch.leadsB L C (p : Int) = leadK C (at' L p)) := by show _ = _; unfold Ch.leadsB; rw [Db.isB_lace hlc, hc, decide_eq_true hk.1, decide_eq_true hk.2, Int.toNat_natCast]; rfl
    have HSW : Hid (leadK C (at' L p) = true → ∀ W : World, Below w.heap.size w W → Calls Tryz.prog 68 #[.slice (some ⟨g, off, none⟩) L.length cap, .int .i64 s, .agg #[.int .i64 p, .int .i64 (at' L p).round]] W fun e w' => e = .returned (.bool (decide (3 ≤ handsN L (roundS L (sealAt L s p) ((at' L p).round + 2))))) ∧ Below W.heap.size W w') := fun hl W hW =>
      sealedInItsWave g off cap L s p W hlc (Nat.lt_of_lt_of_le hg hW.size) (hr.below hW) h0 h1 hp ((Ch.lead_iff C _).1 hl).1
    have HLS : Hid (∀ W : World, Below w.heap.size w W → Calls Tryz.prog 67 #[.slice (some ⟨g, off, none⟩) L.length cap, .agg #[.int .i64 (Ch.leadI C 0), .int .i64 (Ch.leadI C 1), .int .i64 (Ch.leadI C 2), .int .i64 (Ch.leadI C 3), .int .i64 (Ch.leadI C 4), .int .i64 (Ch.leadI C 5), .int .i64 (Ch.leadI C 6)], .int .i64 (p : Int)] W fun e w' => e = .returned (.bool (leadK C (at' L p))) ∧ Below W.heap.size W w') := fun W hW => by
      have := leads7 g off cap L C (p : Int) W hlc hc (Nat.lt_of_lt_of_le hg hW.size) (hr.below hW)
      rw [HLD.out] at this
      exact this
    have HC1 : Hid (∀ W : World, Below w.heap.size w W → W.cell? ⟨g, off + p * 4 + 1, none⟩ = some (.int .i64 (at' L p).round)) := fun W hW => by
      obtain ⟨_, _, q, _, _⟩ := (hr.below hW).on p hp
      exact q
    clear hr hlc hc hok hin HLD
    generalize (at' L p).round = rp at HFN HSW HC1
    generalize decide (3 ≤ handsN L (roundS L (sealAt L s p) (rp + 2))) = dd at HFN HSW
    generalize leadK C (at' L p) = ld at HFN HSW HLS
    generalize Ch.leadI C 0 = y0 at *
    generalize Ch.leadI C 1 = y1 at *
    generalize Ch.leadI C 2 = y2 at *
    generalize Ch.leadI C 3 = y3 at *
    generalize Ch.leadI C 4 = y4 at *
    generalize Ch.leadI C 5 = y5 at *
    generalize Ch.leadI C 6 = y6 at *
    have HB0 : Hid (Below w.heap.size w (w.alloc (.cells #[.int .i64 y0, .int .i64 y1, .int .i64 y2, .int .i64 y3, .int .i64 y4, .int .i64 y5, .int .i64 y6] 55))) := (Below.refl _ _).alloc (Nat.le_refl _) _
    have hpi : (p : Int) < (L.length : Int) := by omega
    clear HP7
    cases hb : bit s p
    · have HF : Hid (firmK L C s (p : Int) = false) := by show _ = _; rw [HT.out, HFN.out, hb]; rfl
      rw [hb] at HAS
      clear hb HT HFN HSW HLS HC1
      go_enter Tryz.func34, Tryz.ntmps34
      go_wp2_with (first | (go_at_call 38; refine (HAS.out _).mono ?_; rintro e w' ⟨rfl, rfl⟩) | fail)
      go_ret
      exact ⟨by rw [HF.out]; rfl, HB0.out⟩
    · rw [hb] at HAS
      cases ld
      · have HF : Hid (firmK L C s (p : Int) = false) := by show _ = _; rw [HT.out, HFN.out, hb]; rfl
        have hls := HLS.out _ HB0.out
        clear hb HT HFN HSW HLS HC1
        go_enter Tryz.func34, Tryz.ntmps34
        go_wp2_with (first | (go_at_call 38; refine (HAS.out _).mono ?_; rintro e w' ⟨rfl, rfl⟩) | fail)
        refine hls.mono ?_
        rintro e w1 ⟨rfl, hb1⟩
        have HB1 : Hid (Below w.heap.size w w1) := HB0.out.trans (hb1.mono HB0.out.size)
        clear hls hb1 HB0
        go_wp2
        go_ret
        exact ⟨by rw [HF.out]; rfl, HB1.out⟩
      · have HF : Hid (firmK L C s (p : Int) = dd) := by show _ = _; rw [HT.out, HFN.out, hb]; simp
        have hls := HLS.out _ HB0.out
        have HSW2 : Hid _ := HSW.out rfl
        clear hb HT HFN HSW HLS
        go_enter Tryz.func34, Tryz.ntmps34
        go_wp2_with (first | (go_at_call 38; refine (HAS.out _).mono ?_; rintro e w' ⟨rfl, rfl⟩) | fail)
        refine hls.mono ?_
        rintro e w1 ⟨rfl, hb1⟩
        have HB1 : Hid (Below w.heap.size w w1) := HB0.out.trans (hb1.mono HB0.out.size)
        have cc := HC1.out w1 HB1.out
        have hsw := HSW2.out w1 HB1.out
        clear hls hb1 HB0 HC1 HSW2
        go_wp2_with fail
        refine hsw.mono ?_
        rintro e w2 ⟨rfl, hb2⟩
        have HB2 : Hid (Below w.heap.size w w2) := HB1.out.trans (hb2.mono HB1.out.size)
        clear hsw hb2 HB1
        go_wp2
        go_ret
        exact ⟨by rw [HF.out]; rfl, HB2.out⟩
  · have HF : Hid (firmK L C s k = false) := by
      show _ = _
      unfold firmK
      have : (decide (0 ≤ k) && decide (k < (L.length : Int))) = false := by
        rw [Bool.eq_false_iff]; intro h; rw [Bool.and_eq_true, decide_eq_true_eq, decide_eq_true_eq] at h; exact hk h
      rw [this]; rfl
    rw [inL_bits h60 h0 hd k hk] at HAS
    have HB0 : Hid (Below w.heap.size w _) := HP7.out.1
    clear HP7 hr hk hlc hc hd
    go_enter Tryz.func34, Tryz.ntmps34
    go_wp2_with (first | (go_at_call 38; refine (HAS.out _).mono ?_; rintro e w' ⟨rfl, rfl⟩) | fail)
    go_ret
    exact ⟨by rw [HF.out]; rfl, HB0.out⟩

end Fw
end Go.Proofs.YtplhgedhfflnbaaGreat

namespace Go.Proofs.YtplhgedhfflnbaaGreat
open Go.RowKit
set_option maxRecDepth 100000
namespace Hp
theorem wrap_ok (ts : Array TypeId) (t : TypeId) (a : Addr) (x y : String) : Builtin.ssaWrapNilChk_ ts t #[.pointer (some a), strVal x, strVal y] = pure (.pointer (some a)) := rfl
theorem findLess : (Array.find? (fun x : Method => x.name == "Less") Tryz.t98.methods).map (fun x => (x.func, x.path.toList)) = some (some (159, false), []) := by kernel_rfl
theorem mLess {hp : Nat} {W : World} {v : Value} (h : W.cell? ⟨hp, 0, none⟩ = some v) (f : Nat) : Sem.run Tryz.prog (method (f + 1) 98 (.pointer (some ⟨hp, 0, none⟩)) "Less") W = .ok (159, v) W := by
  have e := findLess
  cases hx : Array.find? (fun x : Method => x.name == "Less") Tryz.t98.methods with
  | none => rw [hx] at e; cases e
  | some x =>
    obtain ⟨a, b, c, d⟩ := x
    rw [hx] at e
    simp at e
    obtain ⟨rfl, rfl⟩ := e
    unfold method
    simp [go_sem, h, hx, follow, receiverAt, Place.get, wrap_ok]
theorem findSwap : (Array.find? (fun x : Method => x.name == "Swap") Tryz.t98.methods).map (fun x => (x.func, x.path.toList)) = some (some (162, false), []) := by kernel_rfl
theorem mSwap {hp : Nat} {W : World} {v : Value} (h : W.cell? ⟨hp, 0, none⟩ = some v) (f : Nat) : Sem.run Tryz.prog (method (f + 1) 98 (.pointer (some ⟨hp, 0, none⟩)) "Swap") W = .ok (162, v) W := by
  have e := findSwap
  cases hx : Array.find? (fun x : Method => x.name == "Swap") Tryz.t98.methods with
  | none => rw [hx] at e; cases e
  | some x =>
    obtain ⟨a, b, c, d⟩ := x
    rw [hx] at e
    simp at e
    obtain ⟨rfl, rfl⟩ := e
    unfold method
    simp [go_sem, h, hx, follow, receiverAt, Place.get, wrap_ok]
theorem findLen : (Array.find? (fun x : Method => x.name == "Len") Tryz.t98.methods).map (fun x => (x.func, x.path.toList)) = some (some (71, false), []) := by kernel_rfl
theorem mLen {hp : Nat} {W : World} {v : Value} (h : W.cell? ⟨hp, 0, none⟩ = some v) (f : Nat) : Sem.run Tryz.prog (method (f + 1) 98 (.pointer (some ⟨hp, 0, none⟩)) "Len") W = .ok (71, v) W := by
  have e := findLen
  cases hx : Array.find? (fun x : Method => x.name == "Len") Tryz.t98.methods with
  | none => rw [hx] at e; cases e
  | some x =>
    obtain ⟨a, b, c, d⟩ := x
    rw [hx] at e
    simp at e
    obtain ⟨rfl, rfl⟩ := e
    unfold method
    simp [go_sem, h, hx, follow, receiverAt, Place.get, wrap_ok]
end Hp
end Go.Proofs.YtplhgedhfflnbaaGreat

namespace Go.Proofs.YtplhgedhfflnbaaGreat
open Go.RowKit
set_option maxRecDepth 100000
set_option linter.unusedVariables false
namespace Hp

theorem up_enough {α : Type} (lt : α → α → Bool) : ∀ (f g : Nat) (D : Nat → α) (j : Nat), j ≤ f → j ≤ g → up lt (f + 1) D j = up lt (g + 1) D j := by
  intro f
  induction f with
  | zero =>
    intro g D j h _
    obtain rfl : j = 0 := by omega
    rfl
  | succ f ih =>
    intro g D j h hg
    by_cases h1 : (j - 1) / 2 = j
    · unfold up; rw [if_pos h1, if_pos h1]
    · cases g with
      | zero => omega
      | succ g =>
        unfold up
        rw [if_neg h1, if_neg h1, ih g _ _ (by omega) (by omega)]
/-- up, as far as it goes -/
def upT {α : Type} (lt : α → α → Bool) (D : Nat → α) (j : Nat) : Nat → α := up lt (j + 1) D j
theorem upT_top {α : Type} (lt : α → α → Bool) (D : Nat → α) (j : Nat) (h : (j - 1) / 2 = j) : upT lt D j = D := by unfold upT up; rw [if_pos h]
theorem upT_stay {α : Type} (lt : α → α → Bool) (D : Nat → α) (j : Nat) (h : lt (D j) (D ((j - 1) / 2)) = false) : upT lt D j = D := by unfold upT up; rw [h]; simp
theorem upT_go {α : Type} (lt : α → α → Bool) (D : Nat → α) (j : Nat) (h : (j - 1) / 2 ≠ j) (h2 : lt (D j) (D ((j - 1) / 2)) = true) : upT lt D j = upT lt (swap D ((j - 1) / 2) j) ((j - 1) / 2) := by
  unfold upT
  cases j with
  | zero => exact absurd rfl h
  | succ j =>
    rw [up, if_neg h, if_pos h2]
    exact up_enough lt j _ _ _ (by omega) (Nat.le_refl _)
theorem down_enough {α : Type} (lt : α → α → Bool) (n : Nat) : ∀ (f g : Nat) (D : Nat → α) (i : Nat), n ≤ f + i → n ≤ g + i → down lt n (f + 1) D i = down lt n (g + 1) D i := by
  intro f
  induction f with
  | zero =>
    intro g D i h _
    unfold down
    rw [if_neg (by omega), if_neg (by omega)]
  | succ f ih =>
    intro g D i h hg
    by_cases h1 : 2 * i + 1 < n
    · obtain ⟨_, _, ki⟩ := kid_bd lt n D i h1
      cases g with
      | zero => omega
      | succ g =>
        unfold down
        rw [if_pos h1, if_pos h1, ih g _ _ (by omega) (by omega)]
    · unfold down
      rw [if_neg h1, if_neg h1]
/-- down, as far as it goes -/
def downT {α : Type} (lt : α → α → Bool) (n : Nat) (D : Nat → α) (i : Nat) : Nat → α := down lt n (n + 1) D i
theorem downT_end {α : Type} (lt : α → α → Bool) (n : Nat) (D : Nat → α) (i : Nat) (h : ¬ 2 * i + 1 < n) : downT lt n D i = D := by unfold downT down; rw [if_neg h]
theorem downT_stay {α : Type} (lt : α → α → Bool) (n : Nat) (D : Nat → α) (i : Nat) (h2 : lt (D (kid lt n D i)) (D i) = false) : downT lt n D i = D := by unfold downT down; rw [h2]; simp
theorem downT_go {α : Type} (lt : α → α → Bool) (n : Nat) (D : Nat → α) (i : Nat) (h : 2 * i + 1 < n) (h2 : lt (D (kid lt n D i)) (D i) = true) : downT lt n D i = downT lt n (swap D i (kid lt n D i)) (kid lt n D i) := by
  obtain ⟨_, _, ki⟩ := kid_bd lt n D i h
  unfold downT
  cases n with
  | zero => omega
  | succ n =>
    rw [down, if_pos h, if_pos h2]
    exact down_enough lt (n + 1) n (n + 1) _ _ (by omega) (by omega)

/-- Less and Swap keep what they should: S says how the heap of n lies -/
structure Keeps {α : Type} (lt : α → α → Bool) (hp n : Nat) (S : World → (Nat → α) → Prop) : Prop where
  less : ∀ (W : World) (D : Nat → α) (i j : Nat), S W D → i < n → j < n → ∃ v : Value, W.cell? ⟨hp, 0, none⟩ = some v ∧ Calls Tryz.prog 159 #[v, .int .i64 i, .int .i64 j] W fun e w' => e = .returned (.bool (lt (D i) (D j))) ∧ S w' D
  swap : ∀ (W : World) (D : Nat → α) (i j : Nat), S W D → i < n → j < n → ∃ v : Value, W.cell? ⟨hp, 0, none⟩ = some v ∧ Calls Tryz.prog 162 #[v, .int .i64 i, .int .i64 j] W fun e w' => e = .returned (.tuple #[]) ∧ S w' (swap D i j)

theorem half_nat (j : Nat) (h : 0 < j) : ((j : Int) - 1) / 2 = (((j - 1) / 2 : Nat) : Int) := by omega

set_option maxHeartbeats 1600000 in
theorem heapUp {α : Type} (lt : α → α → Bool) (hp n : Nat) (S : World → (Nat → α) → Prop) (HK : Keeps lt hp n S) (hn : n ≤ 1048576) (j : Nat) (hj : j < n) (D : Nat → α) (w : World) (h : S w D) :
    Calls Tryz.prog 117 #[.iface 98 (.pointer (some ⟨hp, 0, none⟩)), .int .i64 j] w fun e w' => e = .returned (.tuple #[]) ∧ S w' (upT lt D j) := by
  have HKK : Hid (Keeps lt hp n S) := HK
  have HS : Hid (S w D) := h
  clear h HK
  go_enter Tryz.func117, Tryz.ntmps117
  go_wp2
  go_loopw [1] (fun x wr => ∃ (q : Nat) (E : Nat → α), q ≤ j ∧ x = .int .i64 q ∧ Hid (S wr E) ∧ Hid (upT lt E q = upT lt D j)) (fun x _ => (intOf x).toNat)
  case atStart => exact ⟨j, D, Nat.le_refl _, rfl, HS, rfl⟩
  case round =>
    obtain ⟨q, E, hq, rfl, HE, HU⟩ := hrel
    clear HS
    by_cases h0 : q = 0
    · subst h0
      have HT : Hid (upT lt E 0 = E) := upT_top lt E 0 rfl
      go_wp2
      go_end0
      exact ⟨rfl, by rw [← HU.out, HT.out]; exact HE.out⟩
    · obtain ⟨p, hp2⟩ : ∃ p, p = (q - 1) / 2 := ⟨_, rfl⟩
      have hpq : ((q : Int) - 1) / 2 = (p : Int) := by omega
      have hwr : IntKind.i64.wrap ((q : Int) - 1) = (q : Int) - 1 := by rw [IntKind.wrap_i64]; omega
      have hne : ((p : Int) == (q : Int)) = false := by rw [Bool.eq_false_iff]; intro h; rw [beq_iff_eq] at h; omega
      have hlt : p < q := by omega
      have HL : Hid (∀ (W : World), S W E → ∃ v : Value, W.cell? ⟨hp, 0, none⟩ = some v ∧ Calls Tryz.prog 159 #[v, .int .i64 q, .int .i64 p] W fun e w' => e = .returned (.bool (lt (E q) (E p))) ∧ S w' E) := fun W hW => HKK.out.less W E q p hW (by omega) (by omega)
      have HW : Hid (∀ (W : World), S W E → ∃ v : Value, W.cell? ⟨hp, 0, none⟩ = some v ∧ Calls Tryz.prog 162 #[v, .int .i64 p, .int .i64 q] W fun e w' => e = .returned (.tuple #[]) ∧ S w' (swap E p q)) := fun W hW => HKK.out.swap W E p q hW (by omega) (by omega)
      have HST : Hid (lt (E q) (E p) = false → upT lt E q = E) := fun h => upT_stay lt E q (by rw [← hp2]; exact h)
      have HGO : Hid (lt (E q) (E p) = true → upT lt E q = upT lt (swap E p q) p) := fun h => by
        have := upT_go lt E q (by omega) (by rw [← hp2]; exact h)
        rw [← hp2] at this
        exact this
      clear HKK hp2
      cases hb : lt (E q) (E p)
      · have HT : Hid (upT lt E q = E) := HST.out hb
        rw [hb] at HL
        clear HST HGO hb HW
        obtain ⟨v1, cv1, hC1⟩ := HL.out _ HE.out
        go_wp2_with fail
        rw [hpq]
        rw [mLess cv1 _]
        go_wp2_with fail
        refine hC1.mono ?_
        rintro e W1 ⟨rfl, hS1⟩
        go_wp2
        go_end0
        exact ⟨rfl, by rw [← HU.out, HT.out]; exact hS1⟩
      · have HT : Hid (upT lt (swap E p q) p = upT lt D j) := (HGO.out hb).symm.trans HU.out
        rw [hb] at HL
        clear HST HGO hb HU
        obtain ⟨v2, cv2, hC2⟩ := HL.out _ HE.out
        go_wp2_with fail
        rw [hpq]
        rw [mLess cv2 _]
        go_wp2_with fail
        refine hC2.mono ?_
        rintro e W1 ⟨rfl, hS1⟩
        obtain ⟨v3, cv3, hC3⟩ := HW.out _ hS1
        go_wp2_with fail
        rw [mSwap cv3 _]
        go_wp2_with fail
        refine hC3.mono ?_
        rintro e W2 ⟨rfl, hS2⟩
        go_wp2
        go_roundw
        case rel => exact ⟨p, _, by omega, rfl, hS2, HT⟩
        case measure => simp [intOf]; omega

/-- how the way down ends -/
def DownPost {α : Type} (S : World → (Nat → α) → Prop) (E : Nat → α) (e : Ending) (w' : World) : Prop := (∃ b : Bool, e = .returned (.bool b)) ∧ S w' E

set_option maxHeartbeats 1600000 in
theorem heapDown {α : Type} (lt : α → α → Bool) (hp n m : Nat) (S : World → (Nat → α) → Prop) (HK : Keeps lt hp m S) (hnm : n ≤ m) (hn : m ≤ 1048576) (i : Nat) (hi : i ≤ n) (D : Nat → α) (w : World) (h : S w D) :
    Calls Tryz.prog 118 #[.iface 98 (.pointer (some ⟨hp, 0, none⟩)), .int .i64 i, .int .i64 n] w (DownPost S (downT lt n D i)) := by
  have HKK : Hid (Keeps lt hp m S) := HK
  have HS : Hid (S w D) := h
  clear h HK
  go_enter Tryz.func118, Tryz.ntmps118
  go_wp2
  go_loopw [7] (fun x wr => ∃ (q : Nat) (E : Nat → α), i ≤ q ∧ q ≤ n ∧ x = .int .i64 q ∧ Hid (S wr E) ∧ Hid (downT lt n E q = downT lt n D i)) (fun x _ => n - (intOf x).toNat)
  case atStart => exact ⟨i, D, Nat.le_refl _, hi, rfl, HS, rfl⟩
  case round =>
    obtain ⟨q, E, hq, hqn, rfl, HE, HU⟩ := hrel
    clear HS
    have hw1 : IntKind.i64.wrap (2 * (q : Int)) = 2 * (q : Int) := by rw [IntKind.wrap_i64]; omega
    have hw2 : IntKind.i64.wrap (2 * (q : Int) + 1) = 2 * (q : Int) + 1 := by rw [IntKind.wrap_i64]; omega
    have hw3 : IntKind.i64.wrap (2 * (q : Int) + 1 + 1) = 2 * (q : Int) + 1 + 1 := by rw [IntKind.wrap_i64]; omega
    have hn0 : ¬ 2 * (q : Int) + 1 < 0 := by omega
    by_cases h1 : 2 * q + 1 < n
    · have h1' : ¬ (n : Int) ≤ 2 * (q : Int) + 1 := by omega
      obtain ⟨kn, kp, ki⟩ := kid_bd lt n E q h1
      have HKD : Hid (kid lt n E q = if 2 * q + 2 < n ∧ lt (E (2 * q + 2)) (E (2 * q + 1)) = true then 2 * q + 2 else 2 * q + 1) := rfl
      have HST : Hid (lt (E (kid lt n E q)) (E q) = false → downT lt n E q = E) := downT_stay lt n E q
      have HGO : Hid (lt (E (kid lt n E q)) (E q) = true → downT lt n E q = downT lt n (swap E q (kid lt n E q)) (kid lt n E q)) := downT_go lt n E q h1
      have hc1 : ((2 * q + 1 : Nat) : Int) = 2 * (q : Int) + 1 := by omega
      have hc2 : ((2 * q + 2 : Nat) : Int) = 2 * (q : Int) + 1 + 1 := by omega
      have HL1 : Hid (2 * q + 2 < n → ∀ (W : World), S W E → ∃ v : Value, W.cell? ⟨hp, 0, none⟩ = some v ∧ Calls Tryz.prog 159 #[v, .int .i64 (2 * (q : Int) + 1 + 1), .int .i64 (2 * (q : Int) + 1)] W fun e w' => e = .returned (.bool (lt (E (2 * q + 2)) (E (2 * q + 1)))) ∧ S w' E) := fun hh W hW => by
        have := HKK.out.less W E (2 * q + 2) (2 * q + 1) hW (by omega) (by omega)
        rw [hc1, hc2] at this
        exact this
      have HL2 : Hid (∀ (W : World), S W E → ∃ v : Value, W.cell? ⟨hp, 0, none⟩ = some v ∧ Calls Tryz.prog 159 #[v, .int .i64 (kid lt n E q : Nat), .int .i64 q] W fun e w' => e = .returned (.bool (lt (E (kid lt n E q)) (E q))) ∧ S w' E) := fun W hW => HKK.out.less W E _ q hW (by omega) (by omega)
      have HW2 : Hid (∀ (W : World), S W E → ∃ v : Value, W.cell? ⟨hp, 0, none⟩ = some v ∧ Calls Tryz.prog 162 #[v, .int .i64 q, .int .i64 (kid lt n E q : Nat)] W fun e w' => e = .returned (.tuple #[]) ∧ S w' (swap E q (kid lt n E q))) := fun W hW => HKK.out.swap W E q _ hW (by omega) (by omega)
      generalize kid lt n E q = kd at kn kp ki HKD HST HGO HL2 HW2
      clear HKK h1
      by_cases hs : 2 * q + 2 < n
      · have hs' : 2 * (q : Int) + 1 + 1 < (n : Int) := by omega
        have HL3 := HL1.out hs
        have HL4 : Hid _ := HL3
        clear HL1 HL3
        cases hb : lt (E (2 * q + 2)) (E (2 * q + 1))
        · obtain rfl : kd = 2 * q + 1 := by
            have := HKD.out
            rw [if_neg (by rw [hb]; simp)] at this
            exact this
          rw [hb] at HL4
          rw [hc1] at HL2 HW2
          clear HKD hb
          cases hd : lt (E (2 * q + 1)) (E q)
          · have HT : Hid (downT lt n E q = E) := HST.out hd
            rw [hd] at HL2
            clear HST HGO hd HW2
            obtain ⟨v4, cv4, hC4⟩ := HL4.out _ HE.out
            go_wp2_with fail
            rw [mLess cv4 _]
            go_wp2_with fail
            refine hC4.mono ?_
            rintro e W1 ⟨rfl, hS1⟩
            obtain ⟨v5, cv5, hC5⟩ := HL2.out _ hS1
            go_wp2_with fail
            rw [mLess cv5 _]
            go_wp2_with fail
            refine hC5.mono ?_
            rintro e W2 ⟨rfl, hS2⟩
            go_wp2
            go_ret
            exact ⟨⟨_, rfl⟩, by rw [← HU.out, HT.out]; exact hS2⟩
          · have HT : Hid (downT lt n (swap E q (2 * q + 1)) (2 * q + 1) = downT lt n D i) := (HGO.out hd).symm.trans HU.out
            rw [hd] at HL2
            clear HST HGO hd HU
            obtain ⟨v6, cv6, hC6⟩ := HL4.out _ HE.out
            go_wp2_with fail
            rw [mLess cv6 _]
            go_wp2_with fail
            refine hC6.mono ?_
            rintro e W1 ⟨rfl, hS1⟩
            obtain ⟨v7, cv7, hC7⟩ := HL2.out _ hS1
            go_wp2_with fail
            rw [mLess cv7 _]
            go_wp2_with fail
            refine hC7.mono ?_
            rintro e W2 ⟨rfl, hS2⟩
            obtain ⟨v8, cv8, hC8⟩ := HW2.out _ hS2
            go_wp2_with fail
            rw [mSwap cv8 _]
            go_wp2_with fail
            refine hC8.mono ?_
            rintro e W3 ⟨rfl, hS3⟩
            go_wp2
            go_roundw
            case rel => exact ⟨2 * q + 1, _, by omega, by omega, by rw [hc1], hS3, HT⟩
            case measure => simp [intOf]; omega
        · obtain rfl : kd = 2 * q + 2 := by
            have := HKD.out
            rw [if_pos ⟨hs, hb⟩] at this
            exact this
          rw [hb] at HL4
          rw [hc2] at HL2 HW2
          clear HKD hb
          cases hd : lt (E (2 * q + 2)) (E q)
          · have HT : Hid (downT lt n E q = E) := HST.out hd
            rw [hd] at HL2
            clear HST HGO hd HW2
            obtain ⟨v9, cv9, hC9⟩ := HL4.out _ HE.out
            go_wp2_with fail
            rw [mLess cv9 _]
            go_wp2_with fail
            refine hC9.mono ?_
            rintro e W1 ⟨rfl, hS1⟩
            obtain ⟨v10, cv10, hC10⟩ := HL2.out _ hS1
            go_wp2_with fail
            rw [mLess cv10 _]
            go_wp2_with fail
            refine hC10.mono ?_
            rintro e W2 ⟨rfl, hS2⟩
            go_wp2
            go_ret
            exact ⟨⟨_, rfl⟩, by rw [← HU.out, HT.out]; exact hS2⟩
          · have HT : Hid (downT lt n (swap E q (2 * q + 2)) (2 * q + 2) = downT lt n D i) := (HGO.out hd).symm.trans HU.out
            rw [hd] at HL2
            clear HST HGO hd HU
            obtain ⟨v11, cv11, hC11⟩ := HL4.out _ HE.out
            go_wp2_with fail
            rw [mLess cv11 _]
            go_wp2_with fail
            refine hC11.mono ?_
            rintro e W1 ⟨rfl, hS1⟩
            obtain ⟨v12, cv12, hC12⟩ := HL2.out _ hS1
            go_wp2_with fail
            rw [mLess cv12 _]
            go_wp2_with fail
            refine hC12.mono ?_
            rintro e W2 ⟨rfl, hS2⟩
            obtain ⟨v13, cv13, hC13⟩ := HW2.out _ hS2
            go_wp2_with fail
            rw [mSwap cv13 _]
            go_wp2_with fail
            refine hC13.mono ?_
            rintro e W3 ⟨rfl, hS3⟩
            go_wp2
            go_roundw
            case rel => exact ⟨2 * q + 2, _, by omega, by omega, by rw [hc2], hS3, HT⟩
            case measure => simp [intOf]; omega
      · have hs' : ¬ 2 * (q : Int) + 1 + 1 < (n : Int) := by omega
        obtain rfl : kd = 2 * q + 1 := by
          have := HKD.out
          rw [if_neg (by omega)] at this
          exact this
        rw [hc1] at HL2 HW2
        clear HKD HL1
        cases hd : lt (E (2 * q + 1)) (E q)
        · have HT : Hid (downT lt n E q = E) := HST.out hd
          rw [hd] at HL2
          clear HST HGO hd HW2
          obtain ⟨v14, cv14, hC14⟩ := HL2.out _ HE.out
          go_wp2_with fail
          rw [mLess cv14 _]
          go_wp2_with fail
          refine hC14.mono ?_
          rintro e W2 ⟨rfl, hS2⟩
          go_wp2
          go_ret
          exact ⟨⟨_, rfl⟩, by rw [← HU.out, HT.out]; exact hS2⟩
        · have HT : Hid (downT lt n (swap E q (2 * q + 1)) (2 * q + 1) = downT lt n D i) := (HGO.out hd).symm.trans HU.out
          rw [hd] at HL2
          clear HST HGO hd HU
          obtain ⟨v15, cv15, hC15⟩ := HL2.out _ HE.out
          go_wp2_with fail
          rw [mLess cv15 _]
          go_wp2_with fail
          refine hC15.mono ?_
          rintro e W2 ⟨rfl, hS2⟩
          obtain ⟨v16, cv16, hC16⟩ := HW2.out _ hS2
          go_wp2_with fail
          rw [mSwap cv16 _]
          go_wp2_with fail
          refine hC16.mono ?_
          rintro e W3 ⟨rfl, hS3⟩
          go_wp2
          go_roundw
          case rel => exact ⟨2 * q + 1, _, by omega, by omega, by rw [hc1], hS3, HT⟩
          case measure => simp [intOf]; omega
    · have HT : Hid (downT lt n E q = E) := downT_end lt n E q h1
      have h1' : (n : Int) ≤ 2 * (q : Int) + 1 := by omega
      go_wp2
      go_ret
      exact ⟨⟨_, rfl⟩, by rw [← HU.out, HT.out]; exact HE.out⟩

end Hp
end Go.Proofs.YtplhgedhfflnbaaGreat

namespace Go.Proofs.YtplhgedhfflnbaaGreat
open Go.RowKit
set_option maxRecDepth 100000
set_option linter.unusedVariables false
namespace Hp

/-- three methods keep what they should: S n says how the heap of n lies, bx how one is boxed -/
structure Heaps {α : Type} (lt : α → α → Bool) (hp top : Nat) (S : Nat → World → (Nat → α) → Prop) : Prop where
  keep : ∀ n, n ≤ top → Keeps lt hp n (S n)
  len : ∀ (n : Nat) (W : World) (D : Nat → α), n ≤ top → S n W D → ∃ v : Value, W.cell? ⟨hp, 0, none⟩ = some v ∧ Calls Tryz.prog 71 #[v] W fun e w' => e = .returned (.int .i64 n) ∧ S n w' D

/-- Push and Pop keep what they should -/
def Pushes {α : Type} (hp top : Nat) (S : Nat → World → (Nat → α) → Prop) (bx : α → Value) : Prop := ∀ (n : Nat) (W : World) (D : Nat → α) (x : α), n + 1 ≤ top → S n W D → Calls Tryz.prog 161 #[.pointer (some ⟨hp, 0, none⟩), bx x] W fun e w' => e = .returned (.tuple #[]) ∧ S (n + 1) w' (fun k => if k = n then x else D k)
def Pops {α : Type} (hp top : Nat) (S : Nat → World → (Nat → α) → Prop) (bx : α → Value) : Prop := ∀ (n : Nat) (W : World) (D : Nat → α), n + 1 ≤ top → S (n + 1) W D → Calls Tryz.prog 160 #[.pointer (some ⟨hp, 0, none⟩)] W fun e w' => e = .returned (bx (D n)) ∧ S n w' D

/-- put in: at the end, then up -/
def pushT {α : Type} (lt : α → α → Bool) (n : Nat) (D : Nat → α) (x : α) : Nat → α := upT lt (fun k => if k = n then x else D k) n
/-- taken out: the last one to the top, then down -/
def popT {α : Type} (lt : α → α → Bool) (n : Nat) (D : Nat → α) : Nat → α := downT lt n (swap D 0 n) 0

theorem pushT_heap {α : Type} {lt : α → α → Bool} (ho : Ord lt) (n : Nat) (D : Nat → α) (x : α) (h : IsHeap lt n D) : IsHeap lt (n + 1) (pushT lt n D x) := by
  unfold pushT upT
  refine push_heap ho n _ (fun k h0 hk => ?_)
  rw [if_neg (by omega), if_neg (by omega)]
  exact h k h0 hk
theorem pushT_same {α : Type} (lt : α → α → Bool) (n : Nat) (D : Nat → α) (x : α) : Same (n + 1) (fun k => if k = n then x else D k) (pushT lt n D x) := up_same lt (n + 1) _ _ n (by omega)
theorem popT_heap {α : Type} {lt : α → α → Bool} (ho : Ord lt) (n : Nat) (D : Nat → α) (h : IsHeap lt (n + 1) D) : IsHeap lt n (popT lt n D) := pop_heap ho n D h n (Nat.le_refl _)
theorem popT_same {α : Type} (lt : α → α → Bool) (n : Nat) (D : Nat → α) : Same n (swap D 0 n) (popT lt n D) := down_same lt n n (Nat.le_refl _) _ _ _
theorem popT_past {α : Type} (lt : α → α → Bool) (n : Nat) (D : Nat → α) : popT lt n D n = D 0 := (down_past lt n _ _ _ n (Nat.le_refl _)).trans (swap_r D 0 n)
/-- what is left is all but the top -/
theorem popT_left {α : Type} (lt : α → α → Bool) (n : Nat) (D : Nat → α) : (∀ k, k < n → ∃ m, 0 < m ∧ m < n + 1 ∧ D m = popT lt n D k) ∧ (∀ m, 0 < m → m < n + 1 → ∃ k, k < n ∧ popT lt n D k = D m) := by
  constructor
  · intro k hk
    obtain ⟨m, hm, e⟩ := (popT_same lt n D).fro k hk
    by_cases h0 : m = 0
    · subst h0; rw [swap_l] at e; exact ⟨n, by omega, by omega, e⟩
    · rw [swap_o D 0 n m h0 (by omega)] at e; exact ⟨m, by omega, by omega, e⟩
  · intro m h0 hm
    by_cases hmn : m = n
    · obtain ⟨k, hk, e⟩ := (popT_same lt n D).to 0 (by omega)
      rw [swap_l] at e
      exact ⟨k, hk, by rw [e, hmn]⟩
    · obtain ⟨k, hk, e⟩ := (popT_same lt n D).to m (by omega)
      rw [swap_o D 0 n m (by omega) hmn] at e
      exact ⟨k, hk, e⟩
theorem popT_inj {α : Type} (lt : α → α → Bool) (n : Nat) (D : Nat → α) (h : ∀ a b, a < n + 1 → b < n + 1 → D a = D b → a = b) : ∀ a b, a < n → b < n → popT lt n D a = popT lt n D b → a = b := by
  refine (popT_same lt n D).inj ?_
  intro a b ha hb e
  exact (same_swap (n := n + 1) D 0 n (by omega) (by omega)).inj h a b (by omega) (by omega) e

set_option maxHeartbeats 800000 in
theorem heapPush {α : Type} (lt : α → α → Bool) (hp top : Nat) (S : Nat → World → (Nat → α) → Prop) (bx : α → Value) (HH : Heaps lt hp top S) (HPU : Pushes hp top S bx) (htop : top ≤ 1048576) (n : Nat) (hn : n + 1 ≤ top) (D : Nat → α) (x : α) (w : World) (h : S n w D) :
    Calls Tryz.prog 98 #[.iface 98 (.pointer (some ⟨hp, 0, none⟩)), bx x] w fun e w' => e = .returned (.tuple #[]) ∧ S (n + 1) w' (pushT lt n D x) := by
  have HP := HPU n w D x hn h
  have HL : Hid (∀ (W : World) (E : Nat → α), S (n + 1) W E → ∃ v : Value, W.cell? ⟨hp, 0, none⟩ = some v ∧ Calls Tryz.prog 71 #[v] W fun e w' => e = .returned (.int .i64 (n + 1 : Nat)) ∧ S (n + 1) w' E) := fun W E hW => HH.len (n + 1) W E hn hW
  have HU : Hid (∀ (W : World) (E : Nat → α), S (n + 1) W E → Calls Tryz.prog 117 #[.iface 98 (.pointer (some ⟨hp, 0, none⟩)), .int .i64 n] W fun e w' => e = .returned (.tuple #[]) ∧ S (n + 1) w' (upT lt E n)) := fun W E hW => heapUp lt hp (n + 1) (S (n + 1)) (HH.keep (n + 1) hn) (by omega) n (by omega) E W hW
  have hcn : ((n + 1 : Nat) : Int) = (n : Int) + 1 := by omega
  rw [hcn] at HL
  have hws : IntKind.i64.wrap ((n : Int) + 1 - 1) = (n : Int) := by rw [IntKind.wrap_i64]; omega
  have hws2 : (n : Int) + 1 - 1 = (n : Int) := by omega
  generalize bx x = bv at HP ⊢
  clear h HH HPU
  go_enter Tryz.func98, Tryz.ntmps98
  go_wp2_with fail
  refine HP.mono ?_
  rintro e W1 ⟨rfl, hS1⟩
  obtain ⟨v1, cv1, hC1⟩ := HL.out _ _ hS1
  go_wp2_with fail
  rw [mLen cv1 _]
  go_wp2_with fail
  refine hC1.mono ?_
  rintro e W2 ⟨rfl, hS2⟩
  go_wp2_with fail
  try rw [hws]
  try rw [hws2]
  refine (HU.out _ _ hS2).mono ?_
  rintro e W3 ⟨rfl, hS3⟩
  go_wp2
  go_end0
  exact ⟨rfl, hS3⟩

set_option maxHeartbeats 800000 in
theorem heapPop {α : Type} (lt : α → α → Bool) (hp top : Nat) (S : Nat → World → (Nat → α) → Prop) (bx : α → Value) (HH : Heaps lt hp top S) (HPO : Pops hp top S bx) (htop : top ≤ 1048576) (n : Nat) (hn : n + 1 ≤ top) (D : Nat → α) (w : World) (h : S (n + 1) w D) :
    Calls Tryz.prog 99 #[.iface 98 (.pointer (some ⟨hp, 0, none⟩))] w fun e w' => e = .returned (bx (D 0)) ∧ S n w' (popT lt n D) := by
  have HL := HH.len (n + 1) w D hn h
  have HS : Hid (∀ (W : World), S (n + 1) W D → ∃ v : Value, W.cell? ⟨hp, 0, none⟩ = some v ∧ Calls Tryz.prog 162 #[v, .int .i64 0, .int .i64 n] W fun e w' => e = .returned (.tuple #[]) ∧ S (n + 1) w' (swap D 0 n)) := fun W hW => (HH.keep (n + 1) hn).swap W D 0 n hW (by omega) (by omega)
  have HU : Hid (∀ (W : World) (E : Nat → α), S (n + 1) W E → Calls Tryz.prog 118 #[.iface 98 (.pointer (some ⟨hp, 0, none⟩)), .int .i64 0, .int .i64 n] W (DownPost (S (n + 1)) (downT lt n E 0))) := fun W E hW => heapDown lt hp n (n + 1) (S (n + 1)) (HH.keep (n + 1) hn) (by omega) (by omega) 0 (by omega) E W hW
  have HP : Hid (∀ (W : World) (E : Nat → α), S (n + 1) W E → Calls Tryz.prog 160 #[.pointer (some ⟨hp, 0, none⟩)] W fun e w' => e = .returned (bx (E n)) ∧ S n w' E) := fun W E hW => HPO n W E hn hW
  have HV : Hid (popT lt n D n = D 0) := popT_past lt n D
  have hcn : ((n + 1 : Nat) : Int) = (n : Int) + 1 := by omega
  rw [hcn] at HL
  have hws : IntKind.i64.wrap ((n : Int) + 1 - 1) = (n : Int) := by rw [IntKind.wrap_i64]; omega
  have hws2 : (n : Int) + 1 - 1 = (n : Int) := by omega
  clear h HH HPO
  go_enter Tryz.func99, Tryz.ntmps99
  obtain ⟨v0, cv0, hC0⟩ := HL
  go_wp2_with fail
  rw [mLen cv0 _]
  go_wp2_with fail
  refine hC0.mono ?_
  rintro e W1 ⟨rfl, hS1⟩
  obtain ⟨v2, cv2, hC2⟩ := HS.out _ hS1
  go_wp2_with fail
  try rw [hws]
  try rw [hws2]
  rw [mSwap cv2 _]
  go_wp2_with fail
  refine hC2.mono ?_
  rintro e W2 ⟨rfl, hS2⟩
  go_wp2_with fail
  try rw [hws]
  try rw [hws2]
  refine (HU.out _ _ hS2).mono ?_
  rintro e W3 ⟨⟨b, rfl⟩, hS3⟩
  have HPP := HP.out _ _ hS3
  have HV2 : Hid (downT lt n (swap D 0 n) 0 n = D 0) := HV.out
  rw [HV2.out] at HPP
  generalize hbv : bx (D 0) = bv at HPP
  have HBV : Hid (bx (D 0) = bv) := hbv
  clear HV HV2 HP HU HS hbv
  go_wp2_with fail
  refine HPP.mono ?_
  rintro e W4 ⟨rfl, hS4⟩
  go_wp2
  go_ret
  exact ⟨by rw [HBV.out]; rfl, hS4⟩

end Hp
end Go.Proofs.YtplhgedhfflnbaaGreat

namespace Go.Proofs.YtplhgedhfflnbaaGreat
open Go.RowKit
set_option maxRecDepth 100000
set_option linter.unusedVariables false
namespace Fw

theorem drew_add (W : World) (m n : Nat) : (W.drewN m).drewN n = W.drewN (m + n) := by first | rfl | simp

/-- a leader that waits ahead of another one: of a greater round, of the same round the lesser number -/
def ltL (a b : Int × Int) : Bool := if a.2 = b.2 then decide (a.1 < b.1) else decide (b.2 < a.2)

set_option maxHeartbeats 800000 in
theorem less (g cap n : Nat) (D : Nat → Int × Int) (i j : Nat) (hi : i < n) (hj : j < n) (W : World) (h : ∀ k, k < n → W.cell? ⟨g, k * 2, none⟩ = some (.int .i64 (D k).1) ∧ W.cell? ⟨g, k * 2 + 1, none⟩ = some (.int .i64 (D k).2)) :
    Calls Tryz.prog 159 #[.slice (some ⟨g, 0, none⟩) n cap, .int .i64 i, .int .i64 j] W fun e w' => e = .returned (.bool (ltL (D i) (D j))) ∧ ∃ m, w' = W.drewN m := by
  obtain ⟨a0, a1⟩ := h i hi
  obtain ⟨b0, b1⟩ := h j hj
  have HT : Hid (ltL (D i) (D j) = if (D i).2 = (D j).2 then decide ((D i).1 < (D j).1) else decide ((D j).2 < (D i).2)) := rfl
  clear h
  have hii : (i : Int) < (n : Int) := by omega
  have hjj : (j : Int) < (n : Int) := by omega
  generalize D i = x at a0 a1 HT ⊢
  generalize D j = y at b0 b1 HT ⊢
  obtain ⟨xn, xr⟩ := x
  obtain ⟨yn, yr⟩ := y
  dsimp only at a0 a1 b0 b1 HT
  by_cases hr : xr = yr
  · have hrb : (xr == yr) = true := by rw [beq_iff_eq]; exact hr
    have HD : Hid (ltL (xn, xr) (yn, yr) = decide (xn < yn)) := by show _ = _; rw [HT.out, if_pos hr]
    clear HT
    subst hr
    go_enter Tryz.func159, Tryz.ntmps159
    go_wp2_with fail
    go_quiet (fail)
    go_wp2_with fail
    go_quiet (fail)
    go_wp2
    go_ret
    exact ⟨by rw [HD.out]; rfl, _, drew_add _ _ _⟩
  · have hrb : (xr == yr) = false := by rw [Bool.eq_false_iff]; intro q; rw [beq_iff_eq] at q; exact hr q
    have HD : Hid (ltL (xn, xr) (yn, yr) = decide (yr < xr)) := by show _ = _; rw [HT.out, if_neg hr]
    clear HT
    go_enter Tryz.func159, Tryz.ntmps159
    go_wp2_with fail
    go_quiet (fail)
    go_wp2_with fail
    go_quiet (fail)
    go_wp2
    go_ret
    exact ⟨by rw [HD.out]; rfl, _, drew_add _ _ _⟩

def putL (W : World) (g i : Nat) (x : Int × Int) : World := (W.setCell ⟨g, i * 2, none⟩ (.int .i64 x.1)).setCell ⟨g, i * 2 + 1, none⟩ (.int .i64 x.2)

set_option maxHeartbeats 800000 in
theorem swap (g cap n : Nat) (D : Nat → Int × Int) (i j : Nat) (hi : i < n) (hj : j < n) (W : World) (h : ∀ k, k < n → W.cell? ⟨g, k * 2, none⟩ = some (.int .i64 (D k).1) ∧ W.cell? ⟨g, k * 2 + 1, none⟩ = some (.int .i64 (D k).2)) (hf : ∀ k, k < n * 2 → W.frozen? ⟨g, k, none⟩ = false) :
    Calls Tryz.prog 162 #[.slice (some ⟨g, 0, none⟩) n cap, .int .i64 i, .int .i64 j] W fun e w' => e = .returned (.tuple #[]) ∧ ∃ m, w' = (putL (putL W g i (D j)) g j (D i)).drewN m := by
  obtain ⟨a0, a1⟩ := h i hi
  have f0 := hf (i * 2) (by omega)
  have f1 := hf (i * 2 + 1) (by omega)
  have hii : (i : Int) < (n : Int) := by omega
  by_cases hne : i = j
  · subst hne
    clear h hf
    unfold putL
    generalize D i = x at a0 a1 ⊢
    obtain ⟨xn, xr⟩ := x
    dsimp only at a0 a1
    go_enter Tryz.func162, Tryz.ntmps162
    go_wp2_with fail
    go_region
    all_goals (go_wp2)
    all_goals go_end0
    all_goals exact ⟨rfl, 1, rfl⟩
  · obtain ⟨b0, b1⟩ := h j hj
    have f2 := hf (j * 2) (by omega)
    have f3 := hf (j * 2 + 1) (by omega)
    clear h hf
    unfold putL
    have hjj : (j : Int) < (n : Int) := by omega
    have hne' : ¬ j = i := fun e => hne e.symm
    generalize D i = x at a0 a1 ⊢
    generalize D j = y at b0 b1 ⊢
    obtain ⟨xn, xr⟩ := x
    obtain ⟨yn, yr⟩ := y
    dsimp only at a0 a1 b0 b1
    go_enter Tryz.func162, Tryz.ntmps162
    go_wp2_with fail
    go_region
    all_goals (go_wp2)
    all_goals go_end0
    all_goals exact ⟨rfl, 1, rfl⟩

/-! ### the leaders' cells -/
def flatL (D : Nat → Int × Int) (n : Nat) : List Value := (List.range (n * 2)).map fun j => .int .i64 (if j % 2 = 0 then (D (j / 2)).1 else (D (j / 2)).2)
theorem flatL_len (D : Nat → Int × Int) (n : Nat) : (flatL D n).length = n * 2 := by simp [flatL]
theorem flatL_get (D : Nat → Int × Int) (n j : Nat) (h : j < n * 2) : (flatL D n)[j]? = some (.int .i64 (if j % 2 = 0 then (D (j / 2)).1 else (D (j / 2)).2)) := by simp [flatL, h]
theorem flatL_two (D : Nat → Int × Int) (n k : Nat) (h : k < n) : (flatL D n)[k * 2]? = some (.int .i64 (D k).1) ∧ (flatL D n)[k * 2 + 1]? = some (.int .i64 (D k).2) := by
  constructor
  · rw [flatL_get D n _ (by omega), if_pos (by omega), show k * 2 / 2 = k by omega]
  · rw [flatL_get D n _ (by omega), if_neg (by omega), show (k * 2 + 1) / 2 = k by omega]
theorem flatL_ext (D : Nat → Int × Int) (n : Nat) (xs : List Value) (hl : xs.length = n * 2) (h : ∀ k, k < n → xs[k * 2]? = some (.int .i64 (D k).1) ∧ xs[k * 2 + 1]? = some (.int .i64 (D k).2)) : xs = flatL D n := by
  apply List.ext_getElem?
  intro j
  by_cases hj : j < n * 2
  · obtain ⟨h1, h2⟩ := h (j / 2) (by omega)
    obtain ⟨q1, q2⟩ := flatL_two D n (j / 2) (by omega)
    by_cases hm : j % 2 = 0
    · have e : j / 2 * 2 = j := by omega
      rw [e] at h1 q1
      rw [h1, q1]
    · have e : j / 2 * 2 + 1 = j := by omega
      rw [e] at h2 q2
      rw [h2, q2]
  · rw [List.getElem?_eq_none (by omega), List.getElem?_eq_none (by rw [flatL_len]; omega)]
theorem flatL_snoc (D : Nat → Int × Int) (n : Nat) (x : Int × Int) : flatL (fun k => if k = n then x else D k) (n + 1) = flatL D n ++ [.int .i64 x.1, .int .i64 x.2] := by
  symm
  refine flatL_ext _ _ _ (by rw [List.length_append, flatL_len]; simp; omega) (fun k hk => ?_)
  by_cases h : k = n
  · subst h
    rw [List.getElem?_append_right (by rw [flatL_len]; omega), List.getElem?_append_right (by rw [flatL_len]; omega), flatL_len]
    simp
  · obtain ⟨q1, q2⟩ := flatL_two D n k (by omega)
    rw [List.getElem?_append_left (by rw [flatL_len]; omega), List.getElem?_append_left (by rw [flatL_len]; omega), q1, q2, if_neg h]
    exact ⟨rfl, rfl⟩
theorem flatL_less (D : Nat → Int × Int) (n : Nat) : (flatL D (n + 1)).take (n * 2) = flatL D n := by
  refine flatL_ext _ _ _ (by rw [List.length_take, flatL_len]; omega) (fun k hk => ?_)
  obtain ⟨q1, q2⟩ := flatL_two D (n + 1) k (by omega)
  rw [List.getElem?_take, List.getElem?_take, if_pos (by omega), if_pos (by omega)]
  exact ⟨q1, q2⟩

/-- the heap's row: n leaders in block g -/
structure Lead (m0 g cap n : Nat) (W : World) (D : Nat → Int × Int) : Prop where
  own : W.ownsRow m0 97 2 (.slice (some ⟨g, 0, none⟩) n cap) n (flatL D n)
theorem Lead.cells {m0 g cap n : Nat} {W : World} {D : Nat → Int × Int} (h : Lead m0 g cap n W D) : ∀ k, k < n → W.cell? ⟨g, k * 2, none⟩ = some (.int .i64 (D k).1) ∧ W.cell? ⟨g, k * 2 + 1, none⟩ = some (.int .i64 (D k).2) := fun k hk => by
  obtain ⟨q1, q2⟩ := flatL_two D n k hk
  have e1 := World.ownsRow.cells h.own (g := g) rfl _ _ q1
  have e2 := World.ownsRow.cells h.own (g := g) rfl _ _ q2
  constructor
  · rw [WideShapes.add_plain] at e1; simpa using e1
  · rw [WideShapes.add_plain] at e2; simpa using e2
theorem Lead.put {m0 g cap n : Nat} {W : World} {D : Nat → Int × Int} (h : Lead m0 g cap n W D) (i : Nat) (x : Int × Int) : Lead m0 g cap n (putL W g i x) (fun k => if k = i then x else D k) := by
  refine ⟨?_⟩
  obtain ⟨h1, ⟨hv, _⟩ | ⟨g', cap', cur, hv, hb, hg, hc, hm, hs, ht⟩⟩ := h.own
  · cases hv
  · injection hv with ha _ hcc
    injection ha with ha
    injection ha with ha
    subst ha hcc
    have hg1 := Joins.block_setCell (i := i * 2) hg (.int .i64 x.1)
    have hg2 := Joins.block_setCell (i := i * 2 + 1) hg1 (.int .i64 x.2)
    refine ⟨flatL_len _ _, .inr ⟨g, cap, _, rfl, hb, hg2, hc, hm, by simpa using hs, ?_⟩⟩
    refine flatL_ext _ _ _ (by simp; omega) (fun k hk => ?_)
    have q := flatL_two D n k hk
    rw [← ht] at q
    rw [List.getElem?_take, if_pos (show k * 2 < n * 2 by omega), List.getElem?_take, if_pos (show k * 2 + 1 < n * 2 by omega)] at q ⊢
    simp only [Array.getElem?_toList] at q ⊢
    by_cases e : k = i
    · subst e
      have l1 : k * 2 + 1 < cur.size := by omega
      rw [if_pos rfl]
      constructor
      · rw [Array.getElem?_setIfInBounds_ne (by omega), Array.getElem?_setIfInBounds_self_of_lt (by omega)]
      · rw [Array.getElem?_setIfInBounds_self_of_lt (by simpa using l1)]
    · rw [if_neg e]
      constructor
      · rw [Array.getElem?_setIfInBounds_ne (by omega), Array.getElem?_setIfInBounds_ne (by omega)]; exact q.1
      · rw [Array.getElem?_setIfInBounds_ne (by omega), Array.getElem?_setIfInBounds_ne (by omega)]; exact q.2
theorem swap_puts (D : Nat → Int × Int) (i j : Nat) : (fun k => if k = j then D i else if k = i then D j else D k) = Hp.swap D i j := by
  funext k
  unfold Hp.swap
  by_cases h1 : k = i
  · by_cases h2 : k = j
    · rw [if_pos h2, if_pos h1]; rw [← h1, ← h2]
    · rw [if_neg h2, if_pos h1, if_pos h1]
  · by_cases h2 : k = j
    · rw [if_pos h2, if_neg h1, if_pos h2]
    · rw [if_neg h2, if_neg h1, if_neg h1, if_neg h2]

/-- the heap: n leaders wait behind the pointer hp -/
def Wt (m0 r hp n : Nat) (W : World) (D : Nat → Int × Int) : Prop := (m0 ≤ hp ∧ hp ≠ r) ∧ ∃ g cap, W.heap[hp]? = some (.cells #[.slice (some ⟨g, 0, none⟩) n cap] 121 (0, 0)) ∧ Lead m0 g cap n W D ∧ g ≠ r
/-- all below m0 lies as it lay, and block r -/
def Kp (m0 r : Nat) (W W' : World) : Prop := Below m0 W W' ∧ (r < W.heap.size → W'.heap[r]? = W.heap[r]?)
theorem kp_refl (m0 r : Nat) (W : World) : Kp m0 r W W := ⟨Below.refl _ _, fun _ => rfl⟩
theorem kp_drewN (m0 r : Nat) (W : World) (m : Nat) : Kp m0 r W (W.drewN m) := ⟨⟨rfl, rfl, rfl, Nat.le_refl _, fun _ _ => rfl⟩, fun _ => rfl⟩
theorem kp_low {m0 r : Nat} {W W' : World} (h : Below m0 W W') (hr : r < m0) : Kp m0 r W W' := ⟨h, fun _ => h.block r hr⟩

theorem cell_of {W : World} {b : Nat} {v : Value} {t : TypeId} (h : W.heap[b]? = some (.cells #[v] t (0, 0))) : W.cell? ⟨b, 0, none⟩ = some v := by simp [World.cell?, h]
theorem frozen_of {W : World} {b : Nat} {v : Value} {t : TypeId} (h : W.heap[b]? = some (.cells #[v] t (0, 0))) : W.frozen? ⟨b, 0, none⟩ = false := by simp [World.frozen?, h]
theorem lead_ne {m0 hp n g cap : Nat} {W : World} {v : Value} {D : Nat → Int × Int} (h1 : W.heap[hp]? = some (.cells #[v] 121 (0, 0))) (h2 : Lead m0 g cap n W D) : g ≠ hp ∧ m0 ≤ g := by
  obtain ⟨_, ⟨hv, _⟩ | ⟨g', cap', cur, hv, hb, hg, _⟩⟩ := h2.own
  · cases hv
  · injection hv with ha _ _
    injection ha with ha
    injection ha with ha
    subst ha
    refine ⟨fun e => ?_, hb⟩
    rw [e, h1] at hg
    injection hg with hg
    injection hg with _ hg _
    cases hg
end Fw
end Go.Proofs.YtplhgedhfflnbaaGreat

namespace Go.Proofs.YtplhgedhfflnbaaGreat
open Go.RowKit
set_option maxRecDepth 100000
set_option linter.unusedVariables false
namespace Fw

theorem len (a : Option Addr) (cap n : Nat) (W : World) : Calls Tryz.prog 71 #[.slice a n cap] W fun e w' => e = .returned (.int .i64 n) ∧ w' = W := by
  go_enter Tryz.func71, Tryz.ntmps71
  go_wp2
  go_ret
  exact ⟨rfl, rfl⟩

theorem step_own {P : Program} {ops : Array Oper} {o : Oper} {a : Act} {w : World} {K : Act → World → Prop} {Q : Exit → Act → World → Prop} {E : Prop}
    (hg : o.guard = none) (s x : Operand) (t : TypeId) (hop : o.op = Op.call { callee := Callee.builtin Builtin.append, args := #[s, x], argTypes := #[t, t] })
    (base : Nat) (e : TypeId) (i : TypeInfo) (z : Value) (size bytes : Nat) (ht : P.underlying t = some (.slice e)) (hi : P.info? e = some i) (hz : i.zero = some z) (hsize : i.size = size) (hby : i.bytes = bytes) (hzs : z.cells.size = size) (hsz : 0 < size)
    (v : Value) (n : Nat) (xs : List Value) (hs : a.eval s = v) (hown : w.ownsRow base e size v n xs)
    (ad : Addr) (m c : Nat) (news : List Value) (hx : a.eval x = .slice (some ad) m c) (hl : news.length = m * size) (hnews : ∀ j u, news[j]? = some u → w.cell? (ad.add j) = some u) (h1 : ∀ u ∈ news, u.oneCell' = true)
    (h63 : n + m ≤ maxLen) (hbytes : (n + m) * bytes ≤ 140737488355328) (hbase : base ≤ w.heap.size)
    (hK : ∀ v' w', w'.ownsRow base e size v' (n + m) (xs ++ news) → w.grownBy w' v.ownBlock → (v' = .slice none 0 0 ↔ v = .slice none 0 0 ∧ m = 0) → K (a.put o.dst v') w') :
    if Region.wanted o (yielded ops a.tmps) = true then Oper.wp P o a w K Q else E := by
  rw [if_pos (by simp [Region.wanted, hg])]
  exact wp_append_own w s x t hop base e i z size bytes ht hi hz hsize hby hzs hsz v n xs hs hown ad m c news hx hl hnews h1 h63 hbytes hbase hK

theorem infoL : (Tryz.prog.info? 97).map (fun i => (i.zero, i.size, i.bytes)) = some (some (.agg #[.int .i64 0, .int .i64 0]), 2, 16) := by kernel_rfl
theorem new_lead (W : World) (x : Int × Int) (t : TypeId) : ∀ (j : Nat) u, ([.int .i64 x.1, .int .i64 x.2] : List Value)[j]? = some u → (W.alloc (.cells #[.int .i64 x.1, .int .i64 x.2] t)).cell? ((⟨W.heap.size, 0, none⟩ : Addr).add j) = some u := by
  intro j u hj
  match j, hj with
  | 0, hj => simp at hj; subst hj; simp [Addr.add]
  | 1, hj => simp at hj; subst hj; simp [Addr.add]

theorem asL (v : Value) (xT : TypeId) (w : World) : (Instr.typeAssert (.iface 97 v) xT 97 false).run Tryz.prog w = .ok v w := by kernel_rfl

theorem own_succ {W : World} {base : Nat} {e : TypeId} {size : Nat} {v : Value} {k : Nat} {xs : List Value} (h : W.ownsRow base e size v (k + 1) xs) : ∃ g cap, v = .slice (some ⟨g, 0, none⟩) (k + 1) cap := by
  obtain ⟨_, ⟨_, h0⟩ | ⟨g, cap, _, hv, _⟩⟩ := h
  · omega
  · exact ⟨g, cap, hv⟩

/-- the row after one was put in, the new slice laid behind the pointer -/
theorem put_in {m0 r hp g cap n : Nat} {W0 W5 : World} {D : Nat → Int × Int} {x : Int × Int} {v' : Value} (hmp : m0 ≤ hp) (hpr : hp ≠ r) (hgr : g ≠ r) (hr : r < m0 ∨ ∃ cs t fz, t ≠ 97 ∧ W0.heap[r]? = some (.cells cs t fz)) (hh : W0.heap[hp]? = some (.cells #[.slice (some ⟨g, 0, none⟩) n cap] 121 (0, 0))) (hl : Lead m0 g cap n W0 D)
    (hown : W5.ownsRow m0 97 2 v' (n + 1) (flatL D n ++ [.int .i64 x.1, .int .i64 x.2])) (hgrow : W0.grownBy W5 (Value.slice (some ⟨g, 0, none⟩) n cap).ownBlock) :
    (∃ u, W5.cell? ⟨hp, 0, none⟩ = some u) ∧ W5.frozen? ⟨hp, 0, none⟩ = false ∧ Wt m0 r hp (n + 1) (W5.setCell ⟨hp, 0, none⟩ v') (fun k => if k = n then x else D k) ∧ Kp m0 r W0 (W5.setCell ⟨hp, 0, none⟩ v') := by
  obtain ⟨hne, hmg⟩ := lead_ne hh hl
  have hlt : hp < W0.heap.size := (Array.getElem?_eq_some_iff.1 hh).1
  have hk : W5.heap[hp]? = some (.cells #[.slice (some ⟨g, 0, none⟩) n cap] 121 (0, 0)) := by
    rw [hgrow.block hp hlt (by simp [Value.ownBlock]; omega)]; exact hh
  have hkr : r < W0.heap.size → W5.heap[r]? = W0.heap[r]? := fun q => hgrow.block r q (by simp [Value.ownBlock]; omega)
  have hs := one_setCell (u := v') hk
  obtain ⟨h1, ⟨_, h0⟩ | ⟨g', cap', cur, rfl, hb, hg, rest⟩⟩ := hown
  · omega
  have hne' : g' ≠ hp := fun e => by
    rw [e, hk] at hg
    injection hg with hg
    injection hg with _ hg _
    cases hg
  have hne2 : g' ≠ r := fun e => by
    rcases hr with hr | ⟨cs, t, fz, ht, hr⟩
    · omega
    · rw [e, hkr (Array.getElem?_eq_some_iff.1 hr).1, hr] at hg
      injection hg with hg
      injection hg with _ hg _
      exact ht hg
  refine ⟨⟨_, cell_of hk⟩, frozen_of hk, ⟨⟨hmp, hpr⟩, g', cap', hs, ⟨?_⟩, hne2⟩, ?_, ?_⟩
  · rw [flatL_snoc]
    exact ⟨h1, .inr ⟨g', cap', cur, rfl, hb, (Below.heap_setCell W5 ⟨hp, 0, none⟩ _ g' hne').trans hg, rest⟩⟩
  · exact Below.setCell (p := ⟨hp, 0, none⟩) ((Below.refl m0 W0).grown hgrow (by omega) (fun k hk => by simp [Value.ownBlock] at hk; omega)) hmp _
  · exact fun q => (Below.heap_setCell W5 ⟨hp, 0, none⟩ _ r (fun e => hpr e.symm)).trans (hkr q)

set_option maxHeartbeats 1600000 in
theorem push (m0 r hp n : Nat) (D : Nat → Int × Int) (x : Int × Int) (W : World) (hr : r < m0 ∨ ∃ cs t fz, t ≠ 97 ∧ W.heap[r]? = some (.cells cs t fz)) (hn : n + 1 ≤ 1048576) (h : Wt m0 r hp n W D) :
    Calls Tryz.prog 161 #[.pointer (some ⟨hp, 0, none⟩), .iface 97 (.agg #[.int .i64 x.1, .int .i64 x.2])] W fun e w' => e = .returned (.tuple #[]) ∧ Wt m0 r hp (n + 1) w' (fun k => if k = n then x else D k) ∧ Kp m0 r W w' := by
  obtain ⟨⟨hmp, hpr⟩, g, cap, hh, hl, hgr⟩ := h
  have hlt : hp < W.heap.size := (Array.getElem?_eq_some_iff.1 hh).1
  obtain ⟨i0, hi, hz0, hz1, hz2⟩ := info_parts infoL
  have c0 := cell_of hh
  have f0 := frozen_of hh
  have HP : Hid (∀ (V W5 : World) (v' : Value), (∀ b, b < W.heap.size → V.heap[b]? = W.heap[b]?) → V.ownsRow m0 97 2 (.slice (some ⟨g, 0, none⟩) n cap) n (flatL D n) → Below m0 W V → W5.ownsRow m0 97 2 v' (n + 1) (flatL D n ++ [.int .i64 x.1, .int .i64 x.2]) → V.grownBy W5 (Value.slice (some ⟨g, 0, none⟩) n cap).ownBlock →
      (∃ u, W5.cell? ⟨hp, 0, none⟩ = some u) ∧ W5.frozen? ⟨hp, 0, none⟩ = false ∧ Hid (Wt m0 r hp (n + 1) (W5.setCell ⟨hp, 0, none⟩ v') (fun k => if k = n then x else D k)) ∧ Hid (Kp m0 r W (W5.setCell ⟨hp, 0, none⟩ v'))) := by
    intro V W5 v' hV hR hB hown hgrow
    have hr' : r < m0 ∨ ∃ cs t fz, t ≠ 97 ∧ V.heap[r]? = some (.cells cs t fz) := by
      rcases hr with hr | ⟨cs, t, fz, ht, hr⟩
      · exact .inl hr
      · exact .inr ⟨cs, t, fz, ht, (hV r (Array.getElem?_eq_some_iff.1 hr).1).trans hr⟩
    obtain ⟨p1, p2, p3, p4⟩ := put_in hmp hpr hgr hr' ((hV hp hlt).trans hh) ⟨hR⟩ hown hgrow
    exact ⟨p1, p2, p3, hB.trans p4.1, fun q => (p4.2 (Nat.lt_of_lt_of_le q hB.size)).trans (hV r q)⟩
  have HL : Hid (W.ownsRow m0 97 2 (.slice (some ⟨g, 0, none⟩) n cap) n (flatL D n)) := hl.own
  have HH : Hid (hp < W.heap.size ∧ m0 ≤ hp) := ⟨hlt, hmp⟩
  clear hh hl hlt hmp hr
  have hta := asL
  have c1 : (W.alloc (.cells #[.int .i64 x.1, .int .i64 x.2] 97)).cell? ⟨hp, 0, none⟩ = some (.slice (some ⟨g, 0, none⟩) n cap) := (World.cell?_of_block (w := W) (a := ⟨hp, 0, none⟩) (Below.heap_alloc W _ hp HH.out.1)).trans c0
  go_enter Tryz.func161, Tryz.ntmps161
  go_wp2_with fail
  go_region_law (
    (refine step_own rfl (.tmp 7) (.tmp 10) 121 rfl m0 97 i0 (.agg #[.int .i64 0, .int .i64 0]) 2 16 Tryz.underlying121 hi hz0 hz1 hz2 rfl (by decide) (.slice (some ⟨g, 0, none⟩) n cap) n (flatL D n) (by simp [Act.eval]) (by first | exact (HL.out.alloc _) | exact (HL.out.alloc _).drew | exact HL.out.drew.alloc _) ⟨W.heap.size, 0, none⟩ 1 1 [.int .i64 x.1, .int .i64 x.2] (by simp [Act.eval]) rfl (by first | exact new_lead W x _ | exact new_lead W.drew x _) (by intro u hu; simp at hu; rcases hu with rfl | rfl <;> rfl) (by unfold maxLen; omega) (by omega) (by have := HH.out; simp; omega) ?_
     intro v' w5 hown5 hgrow5 hnil5
     obtain ⟨g5, cap5, rfl⟩ := own_succ hown5
     have HQ := HP.out _ _ _ (by first | (exact Below.heap_alloc W _) | (exact Below.heap_alloc W.drew _)) (by first | exact (HL.out.alloc _) | exact (HL.out.alloc _).drew | exact HL.out.drew.alloc _) (by first | exact ((Below.refl _ W).alloc (by have := HH.out; omega) _).drew | exact (Below.refl _ W).drew.alloc (by have := HH.out; simp; omega) _) hown5 hgrow5
     obtain ⟨qu, qc⟩ := HQ.1
     have q2 := HQ.2.1
     have Q3 := HQ.2.2.1
     have Q4 := HQ.2.2.2
     clear hown5 hgrow5 hnil5 HQ))
  all_goals (go_wp2)
  all_goals go_end0
  all_goals exact ⟨rfl, Q3.out, Q4.out⟩

theorem wt_alloc {m0 r hp n : Nat} {W : World} {D : Nat → Int × Int} (h : Wt m0 r hp n W D) (o : Obj) : Wt m0 r hp n (W.alloc o) D := by
  obtain ⟨h0, g, cap, hh, hl, hr⟩ := h
  exact ⟨h0, g, cap, (Below.heap_alloc W o hp (Array.getElem?_eq_some_iff.1 hh).1).trans hh, ⟨hl.own.alloc o⟩, hr⟩
theorem wt_lt {m0 r hp n : Nat} {W : World} {D : Nat → Int × Int} (h : Wt m0 r hp n W D) : m0 ≤ hp ∧ hp < W.heap.size := by
  obtain ⟨⟨h0, _⟩, g, cap, hh, hl, _⟩ := h
  exact ⟨h0, (Array.getElem?_eq_some_iff.1 hh).1⟩

/-- one taken off the end -/
theorem take_out {m0 r hp g cap n : Nat} {W0 V : World} {D : Nat → Int × Int} (hmp : m0 ≤ hp) (hpr : hp ≠ r) (hgr : g ≠ r) (hh : V.heap[hp]? = some (.cells #[.slice (some ⟨g, 0, none⟩) (n + 1) cap] 121 (0, 0))) (hl : Lead m0 g cap (n + 1) V D) (hB : Kp m0 r W0 V) (hrs : r < W0.heap.size → r < V.heap.size) :
    Wt m0 r hp n (V.setCell ⟨hp, 0, none⟩ (.slice (some ⟨g, 0, none⟩) n cap)) D ∧ Kp m0 r W0 (V.setCell ⟨hp, 0, none⟩ (.slice (some ⟨g, 0, none⟩) n cap)) := by
  obtain ⟨hne, hmg⟩ := lead_ne hh hl
  have hs := one_setCell (u := .slice (some ⟨g, 0, none⟩) n cap) hh
  refine ⟨⟨⟨hmp, hpr⟩, g, cap, hs, ⟨?_⟩, hgr⟩, hB.1.setCell (p := ⟨hp, 0, none⟩) hmp _, fun q => (Below.heap_setCell V ⟨hp, 0, none⟩ _ r (fun e => hpr e.symm)).trans (hB.2 q)⟩
  obtain ⟨h1, ⟨hv, _⟩ | ⟨g', cap', cur, hv, hb, hg, hc, hm, hsz, ht⟩⟩ := hl.own
  · cases hv
  · injection hv with ha _ hcc
    injection ha with ha
    injection ha with ha
    subst ha hcc
    refine ⟨flatL_len _ _, .inr ⟨g, cap, cur, rfl, hb, (Below.heap_setCell V ⟨hp, 0, none⟩ _ g hne).trans hg, by omega, hm, hsz, ?_⟩⟩
    rw [← flatL_less, ← ht, List.take_take]
    congr 1
    omega

set_option maxHeartbeats 1600000 in
theorem pop (m0 r hp n : Nat) (D : Nat → Int × Int) (W : World) (hn : n + 1 ≤ 1048576) (h : Wt m0 r hp (n + 1) W D) :
    Calls Tryz.prog 160 #[.pointer (some ⟨hp, 0, none⟩)] W fun e w' => e = .returned (.iface 97 (.agg #[.int .i64 (D n).1, .int .i64 (D n).2])) ∧ Wt m0 r hp n w' D ∧ Kp m0 r W w' := by
  obtain ⟨⟨hmp, hpr⟩, g, cap, hh, hl, hgr⟩ := h
  have hlt : hp < W.heap.size := (Array.getElem?_eq_some_iff.1 hh).1
  have c0 := cell_of hh
  have f0 := frozen_of hh
  obtain ⟨d0, d1⟩ := hl.cells n (by omega)
  have hcap : n + 1 ≤ cap := by
    obtain ⟨_, ⟨hv, _⟩ | ⟨g', cap', cur, hv, _, _, hc, _⟩⟩ := hl.own
    · cases hv
    · injection hv with _ _ hcc
      omega
  have HP : Hid (Wt m0 r hp n ((W.setCell ⟨hp, 0, none⟩ (.slice (some ⟨g, 0, none⟩) n cap)).alloc (.cells #[.int .i64 (D n).1, .int .i64 (D n).2] 97)) D ∧ Kp m0 r W ((W.setCell ⟨hp, 0, none⟩ (.slice (some ⟨g, 0, none⟩) n cap)).alloc (.cells #[.int .i64 (D n).1, .int .i64 (D n).2] 97))) := by
    obtain ⟨p1, p2⟩ := take_out hmp hpr hgr hh hl (kp_refl _ _ W) (fun q => q)
    have q := wt_lt p1
    exact ⟨wt_alloc p1 _, p2.1.alloc (by omega) _, fun q => (Below.heap_alloc _ _ r (Nat.lt_of_lt_of_le q p2.1.size)).trans (p2.2 q)⟩
  have hn1 : (n : Int) < (n : Int) + 1 := by omega
  have hn2 : ((n + 1 : Nat) : Int) = (n : Int) + 1 := by omega
  have hn3 : IntKind.i64.wrap ((n : Int) + 1 - 1) = (n : Int) := by rw [IntKind.wrap_i64]; omega
  have hn4 : (n : Int) ≤ (cap : Int) := by omega
  clear hh hl
  generalize D n = x at d0 d1 HP ⊢
  obtain ⟨xn, xr⟩ := x
  dsimp only at d0 d1 HP ⊢
  go_enter Tryz.func160, Tryz.ntmps160
  go_wp2
  go_ret
  exact ⟨rfl, HP.out.1, HP.out.2⟩

end Fw
end Go.Proofs.YtplhgedhfflnbaaGreat

namespace Go.Proofs.YtplhgedhfflnbaaGreat
open Go.RowKit
set_option maxRecDepth 100000
set_option linter.unusedVariables false
namespace Fw

theorem ltL_ord : Hp.Ord ltL where
  asym := fun a b h => by
    unfold ltL at *
    split at h
    · rename_i e
      rw [if_pos e.symm]; rw [decide_eq_true_eq] at h; rw [decide_eq_false_iff_not]; omega
    · rename_i e
      rw [if_neg (fun q => e q.symm)]; rw [decide_eq_true_eq] at h; rw [decide_eq_false_iff_not]; omega
  ntr := fun a b c h1 h2 => by
    unfold ltL at *
    split at h1 <;> split at h2 <;> split <;> rw [decide_eq_false_iff_not] at * <;> omega
theorem ltL_no {a b : Int × Int} (h : ltL a b = false) : a.2 ≤ b.2 ∧ (a.2 = b.2 → b.1 ≤ a.1) := by
  unfold ltL at h
  split at h
  · rw [decide_eq_false_iff_not] at h; omega
  · rw [decide_eq_false_iff_not] at h; omega

def bx (x : Int × Int) : Value := .iface 97 (.agg #[.int .i64 x.1, .int .i64 x.2])

theorem wt_drewN {m0 r hp n : Nat} {W : World} {D : Nat → Int × Int} (h : Wt m0 r hp n W D) (m : Nat) : Wt m0 r hp n (W.drewN m) D := by
  obtain ⟨h0, g, cap, hh, hl, hr⟩ := h
  exact ⟨h0, g, cap, hh, ⟨hl.own⟩, hr⟩
theorem lead_drewN {m0 g cap n : Nat} {W : World} {D : Nat → Int × Int} (h : Lead m0 g cap n W D) (m : Nat) : Lead m0 g cap n (W.drewN m) D := ⟨h.own⟩

theorem heaps (m0 r hp : Nat) (Q : World → Prop) (hQ : ∀ W W', Q W → Kp m0 r W W' → Q W') : Hp.Heaps ltL hp 1048576 (fun n W D => Wt m0 r hp n W D ∧ Q W) where
  keep := fun n hn => {
    less := fun W D i j ⟨⟨h0, g, cap, hh, hl, hr⟩, hq⟩ hi hj => ⟨_, cell_of hh, (less g cap n D i j hi hj W hl.cells).mono fun e w' ⟨he, m, hw⟩ => by
      subst hw
      exact ⟨he, ⟨h0, g, cap, hh, ⟨hl.own⟩, hr⟩, hQ _ _ hq (kp_drewN _ _ _ _)⟩⟩
    swap := fun W D i j ⟨⟨h0, g, cap, hh, hl, hr⟩, hq⟩ hi hj => ⟨_, cell_of hh, (swap g cap n D i j hi hj W hl.cells (fun k _ => World.ownsRow.frozenAt hl.own k)).mono fun e w' ⟨he, m, hw⟩ => by
      subst hw
      obtain ⟨hne, hmg⟩ := lead_ne hh hl
      have l2 := (hl.put i (D j)).put j (D i)
      rw [swap_puts] at l2
      have hb : Below m0 W (putL (putL W g i (D j)) g j (D i)) := by
        unfold putL
        exact ((((Below.refl m0 W).setCell (p := ⟨g, i * 2, none⟩) hmg _).setCell (p := ⟨g, i * 2 + 1, none⟩) hmg _).setCell (p := ⟨g, j * 2, none⟩) hmg _).setCell (p := ⟨g, j * 2 + 1, none⟩) hmg _
      have ho : ∀ b, b ≠ g → (putL (putL W g i (D j)) g j (D i)).heap[b]? = W.heap[b]? := fun b hb => by
        unfold putL
        rw [Below.heap_setCell _ ⟨g, j * 2 + 1, none⟩ _ b hb, Below.heap_setCell _ ⟨g, j * 2, none⟩ _ b hb, Below.heap_setCell _ ⟨g, i * 2 + 1, none⟩ _ b hb, Below.heap_setCell _ ⟨g, i * 2, none⟩ _ b hb]
      have hk : Kp m0 r W ((putL (putL W g i (D j)) g j (D i)).drewN m) := ⟨⟨hb.os, hb.tape, hb.output, hb.size, hb.block⟩, fun _ => ho r (fun e => hr e.symm)⟩
      refine ⟨he, ⟨h0, g, cap, (ho hp (fun e => hne e.symm)).trans hh, ⟨l2.own⟩, hr⟩, hQ _ _ hq hk⟩⟩ }
  len := fun n W D hn ⟨⟨h0, g, cap, hh, hl, hr⟩, hq⟩ => ⟨_, cell_of hh, (len _ cap n W).mono fun e w' ⟨he, hw⟩ => by
    subst hw
    exact ⟨he, ⟨h0, g, cap, hh, hl, hr⟩, hq⟩⟩
theorem pushes (m0 r hp : Nat) (Q : World → Prop) (hr : ∀ W, Q W → r < m0 ∨ ∃ cs t fz, t ≠ 97 ∧ W.heap[r]? = some (.cells cs t fz)) (hQ : ∀ W W', Q W → Kp m0 r W W' → Q W') : Hp.Pushes hp 1048576 (fun n W D => Wt m0 r hp n W D ∧ Q W) bx :=
  fun n W D x hn ⟨h, hq⟩ => (push m0 r hp n D x W (hr W hq) hn h).mono fun e w' ⟨he, hw, hb⟩ => ⟨he, hw, hQ _ _ hq hb⟩
theorem pops (m0 r hp : Nat) (Q : World → Prop) (hQ : ∀ W W', Q W → Kp m0 r W W' → Q W') : Hp.Pops hp 1048576 (fun n W D => Wt m0 r hp n W D ∧ Q W) bx :=
  fun n W D hn ⟨h, hq⟩ => (pop m0 r hp n D W hn h).mono fun e w' ⟨he, hw, hb⟩ => ⟨he, hw, hQ _ _ hq hb⟩

theorem wt_far {m0 r r' hp n : Nat} {W : World} {D : Nat → Int × Int} (h : Wt m0 r hp n W D) (hr : W.heap.size ≤ r') : Wt m0 r' hp n W D := by
  obtain ⟨⟨h0, _⟩, g, cap, hh, hl, _⟩ := h
  have h1 := (Array.getElem?_eq_some_iff.1 hh).1
  have h2 := (World.ownsRow.lt hl.own g rfl).2
  exact ⟨⟨h0, by omega⟩, g, cap, hh, hl, by omega⟩
/-- a store elsewhere -/
theorem wt_set {m0 r hp n b i : Nat} {W : World} {D : Nat → Int × Int} (h : Wt m0 r hp n W D) (u : Value) (hb : b = r) : Wt m0 r hp n (W.setCell ⟨b, i, none⟩ u) D := by
  obtain ⟨⟨h0, h1⟩, g, cap, hh, hl, h2⟩ := h
  refine ⟨⟨h0, h1⟩, g, cap, (Below.heap_setCell W ⟨b, i, none⟩ u hp (by simp; omega)).trans hh, ⟨?_⟩, h2⟩
  obtain ⟨q1, ⟨hv, _⟩ | ⟨g', cap', cur, hv, hb', hg, rest⟩⟩ := hl.own
  · cases hv
  · injection hv with ha hn hcc
    injection ha with ha
    injection ha with ha
    subst ha hcc
    exact ⟨q1, .inr ⟨g, cap, cur, rfl, hb', (Below.heap_setCell W ⟨b, i, none⟩ u g (by simp; omega)).trans hg, rest⟩⟩
theorem wt_near {m0 r r' hp n : Nat} {W : World} {D : Nat → Int × Int} (h : Wt m0 r hp n W D) (hr : r' < m0) : Wt m0 r' hp n W D := by
  obtain ⟨⟨h0, _⟩, g, cap, hh, hl, _⟩ := h
  have h2 := (World.ownsRow.lt hl.own g rfl).1
  exact ⟨⟨h0, by omega⟩, g, cap, hh, hl, by omega⟩

set_option maxHeartbeats 1600000 in
theorem next (m0 r hp n : Nat) (hr : r < m0) (Q : World → Prop) (hQ : ∀ W W', Q W → Below m0 W W' → Q W') (D : Nat → Int × Int) (W : World) (hn : n + 1 ≤ 1048576) (h : Wt m0 r hp (n + 1) W D) (hq : Q W) :
    Calls Tryz.prog 72 #[.pointer (some ⟨hp, 0, none⟩)] W fun e w' => e = .returned (.agg #[.int .i64 (D 0).1, .int .i64 (D 0).2]) ∧ Wt m0 r hp n w' (Hp.popT ltL n D) ∧ Q w' := by
  have hlt := wt_lt h
  have HN : Hid ((W.alloc (.cells #[.int .i64 0, .int .i64 0] 97)).heap[W.heap.size]? = some (.cells #[.int .i64 0, .int .i64 0] 97 (0, 0))) := by
    show (W.heap.push _)[W.heap.size]? = _
    rw [Array.getElem?_push_size]
  have HW : Hid (Wt m0 W.heap.size hp (n + 1) (W.alloc (.cells #[.int .i64 0, .int .i64 0] 97)) D) := wt_alloc (wt_far h (Nat.le_refl _)) _
  have HB : Hid (Q (W.alloc (.cells #[.int .i64 0, .int .i64 0] 97))) := hQ _ _ hq ((Below.refl m0 W).alloc (by omega) _)
  have HP : Hid (∀ V : World, Wt m0 W.heap.size hp (n + 1) V D → Q V → V.heap[W.heap.size]? = some (.cells #[.int .i64 0, .int .i64 0] 97 (0, 0)) →
      Calls Tryz.prog 99 #[.iface 98 (.pointer (some ⟨hp, 0, none⟩))] V fun e w' => e = .returned (bx (D 0)) ∧ Wt m0 W.heap.size hp n w' (Hp.popT ltL n D) ∧ Q w' ∧ w'.heap[W.heap.size]? = some (.cells #[.int .i64 0, .int .i64 0] 97 (0, 0))) := fun V h1 h2 h3 => by
    have hQ' : ∀ A B : World, (Q A ∧ A.heap[W.heap.size]? = some (.cells #[.int .i64 0, .int .i64 0] 97 (0, 0))) → Kp m0 W.heap.size A B → (Q B ∧ B.heap[W.heap.size]? = some (.cells #[.int .i64 0, .int .i64 0] 97 (0, 0))) := fun A B ⟨q1, q2⟩ k => ⟨hQ A B q1 k.1, (k.2 (Array.getElem?_eq_some_iff.1 q2).1).trans q2⟩
    exact (Hp.heapPop ltL hp 1048576 _ bx (heaps m0 W.heap.size hp _ hQ') (pops m0 W.heap.size hp _ hQ') (Nat.le_refl _) n hn D V ⟨h1, h2, h3⟩).mono fun e w' ⟨q0, q1, q2, q3⟩ => ⟨q0, q1, q2, q3⟩
  have HQ : Hid (∀ A B : World, Q A → Below m0 A B → Q B) := hQ
  have hms : m0 ≤ W.heap.size := by omega
  have hta := asL
  unfold bx at HP
  generalize (D 0).1 = x0 at HP ⊢
  generalize (D 0).2 = x1 at HP ⊢
  clear h hq hQ hlt
  go_enter Tryz.func72, Tryz.ntmps72
  go_wp2_with fail
  refine (HP.out _ HW.out HB.out HN.out).mono ?_
  rintro e w1 ⟨rfl, hw1, hq1, hb1⟩
  have HW1 : Hid (Wt m0 W.heap.size hp n w1 (Hp.popT ltL n D)) := hw1
  have HQ1 : Hid (Q w1) := hq1
  have d0 : w1.cell? ⟨W.heap.size, 0, none⟩ = some (.int .i64 0) := by simp [World.cell?, hb1]
  have d1 : w1.cell? ⟨W.heap.size, 1, none⟩ = some (.int .i64 0) := by simp [World.cell?, hb1]
  have f0 : w1.frozen? ⟨W.heap.size, 0, none⟩ = false := by simp [World.frozen?, hb1]
  have f1 : w1.frozen? ⟨W.heap.size, 1, none⟩ = false := by simp [World.frozen?, hb1]
  clear HP HW HB HN hw1 hq1 hb1
  generalize W.heap.size = b at *
  go_wp2
  refine bodyPost_ret (v := .agg #[.int .i64 x0, .int .i64 x1]) (by simp [results, Tryz.f72, go_sem, d0, d1]) rfl ?_
  exact ⟨rfl, wt_near (wt_set (wt_set HW1.out _ rfl) _ rfl) hr, HQ.out _ _ HQ1.out (((Below.refl m0 w1).setCell (p := ⟨b, 0, none⟩) hms _).setCell (p := ⟨b, 1, none⟩) hms _)⟩

end Fw
end Go.Proofs.YtplhgedhfflnbaaGreat

namespace Go.Proofs.YtplhgedhfflnbaaGreat
open Go.RowKit
set_option maxRecDepth 100000
set_option linter.unusedVariables false
namespace Fw
open Kn (K okK)
open Bit (bit withB)
open Lc (at' RdK WordsOk laceB setB handsN roundS)
open Ch (leadK firmN sealAt)

theorem wt_below {m0 r hp n : Nat} {W W' : World} {D : Nat → Int × Int} (h : Wt m0 r hp n W D) (hb : Below W.heap.size W W') : Wt m0 r hp n W' D := by
  obtain ⟨h0, g, cap, hh, hl, hr⟩ := h
  exact ⟨h0, g, cap, (hb.block hp (Array.getElem?_eq_some_iff.1 hh).1).trans hh, ⟨Fm.row_below hl.own hb⟩, hr⟩
theorem wt_base {m0 m1 r r' hp n : Nat} {W : World} {D : Nat → Int × Int} (h : Wt m0 r hp n W D) (hm : m1 ≤ m0) (hr : r' < m1) : Wt m1 r' hp n W D := by
  obtain ⟨h0, g, cap, hh, hl, _⟩ := wt_near (r' := r') h (by omega)
  have h2 := (World.ownsRow.lt hl.own g rfl).1
  refine ⟨⟨by omega, by omega⟩, g, cap, hh, ⟨?_⟩, by omega⟩
  obtain ⟨q1, ⟨hv, _⟩ | ⟨g', cap', cur, hv, hb', rest⟩⟩ := hl.own
  · exact ⟨q1, .inl ⟨hv, by cases hv⟩⟩
  · exact ⟨q1, .inr ⟨g', cap', cur, hv, by omega, rest⟩⟩

/-- the heap holds those of the first j that lead -/
def Holds (L : List K) (C : List Int) (l : List Int) (n : Nat) (D : Nat → Int × Int) : Prop := ∀ x : Int × Int, (∃ i, i < n ∧ D i = x) ↔ ∃ k : Nat, (k : Int) ∈ l ∧ k < L.length ∧ leadK C (at' L k) = true ∧ x = ((k : Int), (at' L k).round)
theorem holds_skip {L : List K} {C : List Int} {l : List Int} {n : Nat} {D : Nat → Int × Int} (h : Holds L C l n D) {p : Nat} (hl : leadK C (at' L p) = false) : Holds L C (l ++ [(p : Int)]) n D := fun x => by
  rw [h x]
  constructor
  · rintro ⟨k, h1, h2⟩
    exact ⟨k, by simp [h1], h2⟩
  · rintro ⟨k, h1, h2, h3, h4⟩
    rw [List.mem_append, List.mem_singleton] at h1
    rcases h1 with h1 | h1
    · exact ⟨k, h1, h2, h3, h4⟩
    · obtain rfl : k = p := by omega
      rw [hl] at h3; cases h3
theorem holds_push {L : List K} {C : List Int} {l : List Int} {n : Nat} {D : Nat → Int × Int} (h : Holds L C l n D) {p : Nat} (hp : p < L.length) (hl : leadK C (at' L p) = true) : Holds L C (l ++ [(p : Int)]) (n + 1) (Hp.pushT ltL n D ((p : Int), (at' L p).round)) := fun x => by
  have hs := Hp.pushT_same ltL n D ((p : Int), (at' L p).round)
  constructor
  · rintro ⟨i, hi, rfl⟩
    obtain ⟨m, hm, e⟩ := hs.fro i hi
    rw [← e]
    by_cases hmn : m = n
    · exact ⟨p, by simp, hp, hl, by rw [if_pos hmn]⟩
    · rw [if_neg hmn]
      obtain ⟨k, h1, h2⟩ := (h (D m)).1 ⟨m, by omega, rfl⟩
      exact ⟨k, by simp [h1], h2⟩
  · rintro ⟨k, h1, h2, h3, h4⟩
    rw [List.mem_append, List.mem_singleton] at h1
    rcases h1 with h1 | h1
    · obtain ⟨i, hi, e⟩ := (h x).2 ⟨k, h1, h2, h3, h4⟩
      obtain ⟨m, hm, e2⟩ := hs.to i (by omega)
      rw [if_neg (by omega)] at e2
      exact ⟨m, hm, e2.trans e⟩
    · obtain rfl : k = p := by omega
      obtain ⟨m, hm, e2⟩ := hs.to n (by omega)
      rw [if_pos rfl] at e2
      exact ⟨m, hm, e2.trans h4.symm⟩
theorem holds_none (L : List K) (C : List Int) (D : Nat → Int × Int) : Holds L C [] 0 D := fun x => ⟨fun ⟨i, hi, _⟩ => by omega, fun ⟨k, h, _⟩ => by simp at h⟩

/-- how waitingOf ends -/
def WaitPost (L : List K) (C : List Int) (s : Int) (r : Nat) (w : World) (e : Ending) (w' : World) : Prop :=
  ∃ hp n D, e = .returned (.pointer (some ⟨hp, 0, none⟩)) ∧ n ≤ 60 ∧ Wt w.heap.size r hp n w' D ∧ Hp.IsHeap ltL n D ∧ Holds L C (Memb.memI s) n D ∧ Below w.heap.size w w'

set_option maxHeartbeats 3200000 in
theorem waitingOf (g off cap : Nat) (L : List K) (C : List Int) (s : Int) (w : World) (hlc : laceB L = true) (hc : Rm.coinsB C = true) (hg : g < w.heap.size) (hr : RdK w (some ⟨g, off, none⟩) L) (h0 : 0 ≤ s) (h1 : s < 1152921504606846976) (hd : s / 2 ^ L.length = 0) :
    Calls Tryz.prog 70 #[.slice (some ⟨g, off, none⟩) L.length cap, .agg #[.int .i64 (Ch.leadI C 0), .int .i64 (Ch.leadI C 1), .int .i64 (Ch.leadI C 2), .int .i64 (Ch.leadI C 3), .int .i64 (Ch.leadI C 4), .int .i64 (Ch.leadI C 5), .int .i64 (Ch.leadI C 6)], .int .i64 s] w (WaitPost L C s g w) := by
  have h60 := ((Lc.lace_iff L).1 hlc).1
  have hok : Base.okB s = true := (Base.okB_iff s).2 ⟨h0, h1⟩
  have hmem : Memb.memI s = Bit.memTo s 60 := by unfold Memb.memI; rw [hok]; rfl
  have HIN : Hid (∀ i ∈ Memb.memI s, 0 ≤ i ∧ i < (L.length : Int)) := by rw [hmem]; exact Lc.mem_in L s h0 hd
  have hle : (Memb.memI s).length ≤ 60 := Memb.memI_le s
  have HLS : Hid (∀ (W : World) (p : Nat), p < L.length → Below w.heap.size w W → Calls Tryz.prog 67 #[.slice (some ⟨g, off, none⟩) L.length cap, .agg #[.int .i64 (Ch.leadI C 0), .int .i64 (Ch.leadI C 1), .int .i64 (Ch.leadI C 2), .int .i64 (Ch.leadI C 3), .int .i64 (Ch.leadI C 4), .int .i64 (Ch.leadI C 5), .int .i64 (Ch.leadI C 6)], .int .i64 (p : Int)] W fun e w' => e = .returned (.bool (leadK C (at' L p))) ∧ Below W.heap.size W w') := fun W p hp hW => by
    have := leads7 g off cap L C (p : Int) W hlc hc (Nat.lt_of_lt_of_le hg hW.size) (hr.below hW)
    have e : Ch.leadsB L C (p : Int) = leadK C (at' L p) := by unfold Ch.leadsB; rw [Db.isB_lace hlc, hc, Int.toNat_natCast]; simp; omega
    rw [e] at this
    exact this
  have HC1 : Hid (∀ (W : World) (p : Nat), p < L.length → Below w.heap.size w W → W.cell? ⟨g, off + p * 4 + 1, none⟩ = some (.int .i64 (at' L p).round)) := fun W p hp hW => by
    obtain ⟨_, _, q, _, _⟩ := (hr.below hW).on p hp
    exact q
  have HR7 : Hid (Db.RowI (w.alloc (.cells #[.int .i64 (Ch.leadI C 0), .int .i64 (Ch.leadI C 1), .int .i64 (Ch.leadI C 2), .int .i64 (Ch.leadI C 3), .int .i64 (Ch.leadI C 4), .int .i64 (Ch.leadI C 5), .int .i64 (Ch.leadI C 6)] 55)) w.heap.size 7 (fun i => Ch.leadI C (i : Int))) := Ch.rowI_seven w 55 (fun i => Ch.leadI C (i : Int))
  generalize hw0 : w.alloc (.cells #[.int .i64 (Ch.leadI C 0), .int .i64 (Ch.leadI C 1), .int .i64 (Ch.leadI C 2), .int .i64 (Ch.leadI C 3), .int .i64 (Ch.leadI C 4), .int .i64 (Ch.leadI C 5), .int .i64 (Ch.leadI C 6)] 55) = w0 at HR7
  have hs0 : w0.heap.size = w.heap.size + 1 := by rw [← hw0]; simp
  have HB0 : Hid (Below w.heap.size w w0) := by rw [← hw0]; exact (Below.refl _ _).alloc (Nat.le_refl _) _
  have HWT : Hid (∀ r, r ≠ w.heap.size + 1 → r ≠ w.heap.size + 2 → Wt (w.heap.size + 1) r (w.heap.size + 2) 0 ((w0.alloc (.cells #[] 97)).alloc (.cells #[.slice (some ⟨w.heap.size + 1, 0, none⟩) 0 0] 121)) (fun _ => (0, 0))) := fun r hr1 hr2 => by
    refine ⟨⟨by omega, by omega⟩, w.heap.size + 1, 0, ?_, ⟨?_⟩, by omega⟩
    · show ((w0.heap.push _).push _)[w.heap.size + 2]? = _
      have : w.heap.size + 2 = (w0.heap.push (.cells #[] 97)).size := by rw [Array.size_push]; omega
      rw [this, Array.getElem?_push_size]
    · refine ⟨rfl, .inr ⟨w.heap.size + 1, 0, #[], rfl, Nat.le_refl _, ?_, Nat.le_refl _, Nat.zero_le _, rfl, rfl⟩⟩
      show ((w0.heap.push _).push _)[w.heap.size + 1]? = _
      rw [Array.getElem?_push_lt (by rw [Array.size_push]; omega)]
      have : w.heap.size + 1 = w0.heap.size := by omega
      simp [this]
  have hs1 : ((w0.alloc (.cells #[] 97)).alloc (.cells #[.slice (some ⟨w.heap.size + 1, 0, none⟩) 0 0] 121)).heap.size = w.heap.size + 3 := by simp; omega
  have HB1 : Hid (Below (w.heap.size + 1) w0 ((w0.alloc (.cells #[] 97)).alloc (.cells #[.slice (some ⟨w.heap.size + 1, 0, none⟩) 0 0] 121))) := ((Below.refl _ _).alloc (by omega) _).alloc (by simp; omega) _
  clear hr hlc hc hmem hok
  go_enter Tryz.func70, Tryz.ntmps70
  go_wp2_with fail
  refine (Memb.picked s _).mono ?_
  rintro e w2 ⟨ao, ca, rfl, hown, hb2⟩
  have HBW : Hid (Below (w.heap.size + 1) w0 w2) := HB1.out.trans (hb2.mono (by omega))
  obtain ⟨r, HRT⟩ : ∃ r, Hid ((r ≠ w.heap.size + 1 ∧ r ≠ w.heap.size + 2) ∧ (r < w.heap.size + 1 ∨ ∃ cs t fz, t ≠ 97 ∧ w2.heap[r]? = some (.cells cs t fz)) ∧ ∀ V : World, V.heap[r]? = w2.heap[r]? → Lst.Rd V ao (Memb.memI s)) := by
    obtain ⟨q1, ⟨hv, hn⟩ | ⟨g2, cap2, cur, hv, hb, hg2, rest⟩⟩ := hown
    · exact ⟨w.heap.size, ⟨by omega, by omega⟩, .inl (by omega), fun V _ => .inl (List.length_eq_zero_iff.1 hn)⟩
    · refine ⟨g2, ⟨by omega, by omega⟩, .inr ⟨cur, _, _, by decide, hg2⟩, fun V hV => ?_⟩
      exact Lst.own_rd (B := 0) (cap := ca) ⟨q1, .inr ⟨g2, cap2, cur, hv, Nat.zero_le _, hV.trans hg2, rest⟩⟩
  have HW2 : Hid (Wt (w.heap.size + 1) r (w.heap.size + 2) 0 w2 (fun _ => (0, 0))) := wt_below (HWT.out r HRT.out.1.1 HRT.out.1.2) hb2
  have HPU : Hid (∀ (n : Nat) (D : Nat → Int × Int) (x : Int × Int) (V : World), n + 1 ≤ 1048576 → Wt (w.heap.size + 1) r (w.heap.size + 2) n V D → Below (w.heap.size + 1) w2 V ∧ V.heap[r]? = w2.heap[r]? →
      Calls Tryz.prog 98 #[.iface 98 (.pointer (some ⟨w.heap.size + 2, 0, none⟩)), .iface 97 (.agg #[.int .i64 x.1, .int .i64 x.2])] V fun e w' => e = .returned (.tuple #[]) ∧ Wt (w.heap.size + 1) r (w.heap.size + 2) (n + 1) w' (Hp.pushT ltL n D x) ∧ (Below (w.heap.size + 1) w2 w' ∧ w'.heap[r]? = w2.heap[r]?)) := fun n D x V hn hW hq => by
    have hlt : r < w2.heap.size ∨ w2.heap[r]? = none := by
      by_cases h : r < w2.heap.size
      · exact .inl h
      · exact .inr (Array.getElem?_eq_none (by omega))
    have hQ' : ∀ A B : World, (Below (w.heap.size + 1) w2 A ∧ A.heap[r]? = w2.heap[r]?) → Kp (w.heap.size + 1) r A B → (Below (w.heap.size + 1) w2 B ∧ B.heap[r]? = w2.heap[r]?) := fun A B ⟨q1, q2⟩ k => by
      refine ⟨q1.trans k.1, ?_⟩
      by_cases hr1 : r < w.heap.size + 1
      · exact (k.1.block r hr1).trans q2
      · rcases HRT.out.2.1 with q | ⟨cs, t, fz, _, q⟩
        · omega
        · have hA : A.heap[r]? = some (.cells cs t fz) := q2.trans q
          exact (k.2 (Array.getElem?_eq_some_iff.1 hA).1).trans q2
    have hr' : ∀ A : World, (Below (w.heap.size + 1) w2 A ∧ A.heap[r]? = w2.heap[r]?) → r < w.heap.size + 1 ∨ ∃ cs t fz, t ≠ 97 ∧ A.heap[r]? = some (.cells cs t fz) := fun A ⟨q1, q2⟩ => by
      rcases HRT.out.2.1 with q | ⟨cs, t, fz, ht, q⟩
      · exact .inl q
      · exact .inr ⟨cs, t, fz, ht, q2.trans q⟩
    exact Hp.heapPush ltL (w.heap.size + 2) 1048576 _ bx (heaps (w.heap.size + 1) r (w.heap.size + 2) _ hQ') (pushes (w.heap.size + 1) r (w.heap.size + 2) _ hr' hQ') (Nat.le_refl _) n hn D x V ⟨hW, hq⟩
  have HRL : Hid (∀ V : World, V.heap[r]? = w2.heap[r]? → Lst.Rd V ao (Memb.memI s)) := HRT.out.2.2
  have HLOW : Hid (∀ V : World, Below (w.heap.size + 1) w2 V → Below w.heap.size w V) := fun V hV => (HB0.out.trans (HBW.out.mono (by omega))).trans (hV.mono (by omega))
  have HCY : Hid (∀ V : World, Below (w.heap.size + 1) w2 V → ∀ i, i < 7 → V.cell? ⟨w.heap.size, i, none⟩ = some (.int .i64 (Ch.leadI C (i : Int)))) := fun V hV i hi => ((HBW.out.trans hV).cell (p := ⟨w.heap.size, i, none⟩) (by simp)).trans (HR7.out.rd i hi)
  have HKR : Hid (∀ V V' : World, Below V.heap.size V V' → Below (w.heap.size + 1) w2 V ∧ V.heap[r]? = w2.heap[r]? → Below (w.heap.size + 1) w2 V' ∧ V'.heap[r]? = w2.heap[r]?) := fun V V' hV ⟨q1, q2⟩ => by
    have hw2s := HBW.out.size
    refine ⟨q1.trans (hV.mono (by have := q1.size; omega)), ?_⟩
    rcases HRT.out.2.1 with q | ⟨cs, t, fz, _, q⟩
    · exact (hV.block r (by have := q1.size; omega)).trans q2
    · have hA : V.heap[r]? = some (.cells cs t fz) := q2.trans q
      exact (hV.block r (Array.getElem?_eq_some_iff.1 hA).1).trans q2
  clear hown hb2 HRT HWT HB1 HR7 HBW HB0 hw0 hs0 hs1
  generalize hml : Memb.memI s = l at HIN hle HRL
  have HML : Hid (Memb.memI s = l) := hml
  clear hml
  go_wp2
  go_loopw [16] (fun i wr => ∃ (j n : Nat) (D : Nat → Int × Int), j ≤ l.length ∧ n ≤ j ∧ i = .int .i64 j ∧ Hid (Wt (w.heap.size + 1) r (w.heap.size + 2) n wr D) ∧ Hid (Hp.IsHeap ltL n D ∧ Holds L C (l.take j) n D) ∧ Hid (Below (w.heap.size + 1) w2 wr ∧ wr.heap[r]? = w2.heap[r]?)) (fun i _ => l.length - (intOf i).toNat)
  case atStart => exact ⟨0, 0, _, by omega, by omega, rfl, HW2, ⟨fun k h0 hk => by omega, holds_none L C _⟩, Below.refl _ _, rfl⟩
  case round =>
    obtain ⟨j, n, D, hj, hnj, rfl, HW, HH, HQ⟩ := hrel
    clear HW2
    by_cases hlt : j < l.length
    · rcases HRL.out wr HQ.out.2 with hrd | ⟨bb, rfl, hcell⟩
      · rw [hrd] at hlt; simp at hlt
      have cj := hcell j hlt
      have hx := HIN.out (l.getD j 0) (by simp [List.getD, List.getElem?_eq_getElem hlt])
      have HTK : Hid (l.take (j + 1) = l.take j ++ [l.getD j 0]) := Lc.take_snocI l j hlt
      generalize l.getD j 0 = xx at cj hx HTK
      obtain ⟨p, rfl⟩ := Int.eq_ofNat_of_zero_le hx.1
      have hp : p < L.length := by omega
      have hpi : (p : Int) < (L.length : Int) := by omega
      have hji : (j : Int) < (l.length : Int) := by omega
      have y0 := HCY.out wr HQ.out.1 0 (by omega)
      have y1 := HCY.out wr HQ.out.1 1 (by omega)
      have y2 := HCY.out wr HQ.out.1 2 (by omega)
      have y3 := HCY.out wr HQ.out.1 3 (by omega)
      have y4 := HCY.out wr HQ.out.1 4 (by omega)
      have y5 := HCY.out wr HQ.out.1 5 (by omega)
      have y6 := HCY.out wr HQ.out.1 6 (by omega)
      have hcall := HLS.out wr p hp (HLOW.out wr HQ.out.1)
      clear hcell hx
      go_wp2_with fail
      refine hcall.mono ?_
      rintro e w3 ⟨rfl, hb3⟩
      have HW3 : Hid (Wt (w.heap.size + 1) r (w.heap.size + 2) n w3 D) := wt_below HW.out hb3
      have HQ3 : Hid (Below (w.heap.size + 1) w2 w3 ∧ w3.heap[r]? = w2.heap[r]?) := HKR.out wr w3 hb3 HQ.out
      clear hcall hb3 y0 y1 y2 y3 y4 y5 y6 cj HW HQ
      cases hld : leadK C (at' L p)
      · have HH2 : Hid (Hp.IsHeap ltL n D ∧ Holds L C (l.take (j + 1)) n D) := by refine ⟨HH.out.1, ?_⟩; rw [HTK.out]; exact holds_skip HH.out.2 hld
        clear hld
        go_wp2
        go_roundw
        case rel => exact ⟨j + 1, n, D, by omega, by omega, by go_num, HW3, HH2, HQ3⟩
        case measure => simp [intOf]; omega
      · have HH2 : Hid (Hp.IsHeap ltL (n + 1) (Hp.pushT ltL n D ((p : Int), (at' L p).round)) ∧ Holds L C (l.take (j + 1)) (n + 1) (Hp.pushT ltL n D ((p : Int), (at' L p).round))) := by
          refine ⟨Hp.pushT_heap ltL_ord n D _ HH.out.1, ?_⟩; rw [HTK.out]; exact holds_push HH.out.2 hp hld
        have hpush := HPU.out n D ((p : Int), (at' L p).round) w3 (by omega) HW3.out HQ3.out
        have cc := HC1.out w3 p hp (HLOW.out w3 HQ3.out.1)
        dsimp only at hpush
        clear hld HW3 HQ3 HH
        go_wp2_with fail
        refine hpush.mono ?_
        rintro e w4 ⟨rfl, hw4, hq4⟩
        have HW4 : Hid _ := hw4
        have HQ4 : Hid _ := hq4
        clear hpush hw4 hq4 cc
        go_wp2
        go_roundw
        case rel => exact ⟨j + 1, n + 1, _, by omega, by omega, by go_num, HW4, HH2, HQ4⟩
        case measure => simp [intOf]; omega
    · obtain rfl : j = l.length := by omega
      have HH2 : Hid (Hp.IsHeap ltL n D ∧ Holds L C (Memb.memI s) n D) := by
        refine ⟨HH.out.1, ?_⟩
        have := HH.out.2
        rw [List.take_length] at this
        rw [HML.out]; exact this
      clear HH
      go_wp2
      go_ret
      exact ⟨w.heap.size + 2, n, D, rfl, by omega, wt_base HW.out (by omega) hg, HH2.out.1, HH2.out.2, HLOW.out wr HQ.out.1⟩

end Fw
end Go.Proofs.YtplhgedhfflnbaaGreat

namespace Go.Proofs.YtplhgedhfflnbaaGreat
open Go.RowKit
set_option linter.unusedVariables false
namespace Ov

variable {F : Fence} {n : Nat} {P : Program} {α : Type}

/-- it speaks of what lies below m alone -/
def Low (m : Nat) (I : World → Prop) : Prop := ∀ A B : World, I A → Below m A B → I B

/-- what the iterator promises a caller whose word speaks of what lay there at the call -/
def SeqLow (F : Fence) (n : Nat) (P : Program) (g : Nat) (lb : Array Value) (encs : α → Array Value) (Kp : World → World → Prop) (S Sp : List α → Prop) (N : Nat) (w : World) : Prop :=
  ∀ (l : Nat) (J Jx : List α → World → Prop) (W : World), Below w.heap.size w W → (∀ s, Low W.heap.size (J s)) → (∀ s, Low W.heap.size (Jx s)) →
    (∀ pre x V, J pre V → pre.length < N → YieldAt F (n - 1) P l (encs x) V fun e V' => (e = .returned (.bool true) ∧ J (pre ++ [x]) V' ∧ Kp V V') ∨ (e = .returned (.bool false) ∧ Jx (pre ++ [x]) V')) →
    J [] W → CallsIn F n P g (#[.func (.yield l) #[] #[]] ++ lb) W fun e V => (∃ v, e = .returned v) ∧ ((∃ xs, S xs ∧ J xs V) ∨ (∃ pre, Sp pre ∧ Jx pre V))

/-- the loop's two blocks: its record, and the calls put off -/
def Bk (m : Nat) (r : Loop) (W : World) : Prop := W.heap[m + 1]? = some (.loop r) ∧ W.heap[m]? = some (.deferred (some []))
theorem bk_low {m : Nat} {r : Loop} : Low (m + 2) (Bk m r) := fun A B h hb => ⟨(hb.block _ (by omega)).trans h.1, (hb.block _ (by omega)).trans h.2⟩
theorem bk_put {m : Nat} {r : Loop} (r' : Loop) {A : World} (h : Bk m r A) : Bk m r' (A.putObj (m + 1) (.loop r')) :=
  ⟨World.putObj_heap_same (Array.getElem?_eq_some_iff.1 h.1).1, (World.putObj_heap_other (by omega)).trans h.2⟩
theorem bk_keeps {m : Nat} {r : Loop} {A B : World} (h : Bk m r A) (hk : KeepsOthers A B) : Bk m r B := ⟨hk.same _ _ h.1 rfl, hk.same _ _ h.2 rfl⟩
theorem low_put (m : Nat) (A : World) (o : Obj) : Below m A (A.putObj (m + 1) o) := ⟨rfl, rfl, rfl, by simp, fun k hk => World.putObj_heap_other (by omega)⟩
theorem low_low {m m' : Nat} {I : World → Prop} (h : Low m I) (hm : m ≤ m') : Low m' I := fun A B hA hb => h A B hA (hb.mono hm)

theorem over {g : Operand} {ps : Array Tmp} {assign body : Code} {Q : Exit → Act → World → Prop} {a : Act} {w : World}
    (hro : F.round = none) (h1 : 1 ≤ n) {gf : Nat} {lb : Array Value} (hg : a.eval g = .func (.func gf) #[] lb) (hFg : F.fn gf) (eg : ∀ args w, (callFunc gf args).run P w = .ok (.enter gf args) w)
    {encs : α → Array Value} {Kp : World → World → Prop} {S Sp : List α → Prop} {N : Nat} (hseq : SeqLow F (n - 1) P gf lb encs Kp S Sp N w)
    (hKt : ∀ {A B C : World}, Kp A B → Kp B C → Kp A C) (hKb : ∀ (A : World) (r r' : Loop), A.heap[w.heap.size + 1]? = some (.loop r) → Kp A (A.putObj (w.heap.size + 1) (.loop r')))
    (hps : ∀ x, (encs x).size = ps.size) (I : List α → World → Prop) (Ix : Code → List α → World → Prop) (hI : ∀ s, Low w.heap.size (I s)) (hIx : ∀ c s, Low w.heap.size (Ix c s)) (h0 : I [] w) (a₁ : α → Act)
    (hassign : ∀ (l : Nat) (x : α) (W : World) (K : Act → World → Prop), K (a₁ x) W →
      assign.wpIn (F.inRound l) (n - 1 - 1) P (Exit.then K (fun _ _ _ => False)) { tmps := (ps.zip (encs x)).foldl (fun t (p, v) => t.setIfInBounds p v) a.tmps, defers := [] } W)
    (hbody : ∀ (l : Nat) (pre : List α) (x : α) (W : World), I pre W → pre.length < N → body.wpIn (F.inRound l) (n - 1 - 1) P (ownPostK Kp I Ix (pre ++ [x]) W) (a₁ x) W)
    (hdone : ∀ (xs : List α) (W : World), S xs → I xs W → W.heap[w.heap.size]? = some (.deferred (some [])) → Q .normal { a with defers := { target := .collected w.heap.size, args := #[] } :: a.defers } W)
    (hstop : ∀ (c : Code) (pre : List α) (W : World), Sp pre → Ix c pre W → W.heap[w.heap.size]? = some (.deferred (some [])) → c.wpIn F n P Q { a with defers := { target := .collected w.heap.size, args := #[] } :: a.defers } W) :
    (Code.rangeFunc g ps assign body).wpIn F n P Q a w := by
  refine wpIn_rangeFunc fun fn hfn => ?_
  rw [hro]
  generalize hm : w.heap.size = m at *
  obtain ⟨r0, hr0⟩ : ∃ r : Loop, r = { state := .ready, pending := none, fn := fn, tmps := a.tmps, params := ps, assign := assign, body := body, defers := m } := ⟨_, rfl⟩
  have b1 : Bk m r0 ((w.alloc (.deferred (some []))).alloc (.loop r0)) := by
    constructor
    · have := World.alloc_heap_new (w.alloc (.deferred (some []))) (.loop r0)
      rwa [World.size_alloc, hm] at this
    · have h2 := World.alloc_heap_new w (.deferred (some []))
      rw [hm] at h2
      exact (Below.heap_alloc _ _ _ (by simp; omega)).trans h2
  have s1 : ((w.alloc (.deferred (some []))).alloc (.loop r0)).heap.size = m + 2 := by simp [hm]
  have q1 : Below m w ((w.alloc (.deferred (some []))).alloc (.loop r0)) := ((Below.refl m w).alloc (by omega) _).alloc (by simp; omega) _
  have en := run_enterLoop_outer (P := P) (w := w) fn a.tmps ps assign body
  rw [hm, ← hr0] at en
  generalize (w.alloc (.deferred (some []))).alloc (.loop r0) = W1 at b1 s1 q1 en
  refine ⟨m + 1, _, W1, { target := .fn (.func gf) lb, args := #[.func (.yield (m + 1)) #[] #[]] }, W1, gf, #[.func (.yield (m + 1)) #[] #[]] ++ lb, W1, en, by simp only [resolve, hg]; simp [go_sem], fun f' hf' => ?_, by simp [invoke, go_sem, eg], fun _ => h1, ?_⟩
  · simp [Target.leads] at hf'; subst hf'; exact hFg
  have lowJ : ∀ s, Low W1.heap.size (fun W => I s W ∧ Bk m r0 W) := fun s A B h hb => ⟨hI s A B h.1 (hb.mono (by omega)), bk_low A B h.2 (hb.mono (by omega))⟩
  have lowX : ∀ s, Low W1.heap.size (fun W => ∃ c, Ix c s W ∧ Bk m { r0 with state := .done, pending := some c } W) := fun s A B h hb => by
    obtain ⟨c, h1, h2⟩ := h
    exact ⟨c, hIx c s A B h1 (hb.mono (by omega)), bk_low A B h2 (hb.mono (by omega))⟩
  have start := hseq (m + 1) (fun pre W => I pre W ∧ Bk m r0 W) (fun pre W => ∃ c, Ix c pre W ∧ Bk m { r0 with state := .done, pending := some c } W) W1 (by rw [hm]; exact q1) lowJ lowX
  refine (start ?_ ⟨hI [] w W1 h0 q1, b1⟩).mono ?_
  · intro pre x V hJ hl
    obtain ⟨hi, hb⟩ := hJ
    have hy := run_yield (P := P) (args := encs x) hb.1 (by rw [hr0]; exact hps x)
    have hb2 := bk_put { r0 with state := .busy } hb
    have hi2 := hI pre V _ hi (low_put m V (.loop { r0 with state := .busy }))
    have k2 := hKb V r0 { r0 with state := .busy } hb.1
    have hbeg := run_beginRound (P := P) hb.1 (by rw [hr0])
    rw [hr0] at hy
    refine ⟨_, _, _, _, hy, roundIn_of_wpIn hfn (hassign _ x V _ ⟨_, hbeg, wpIn_mono (hbody _ pre x _ hi2 hl) ?_⟩)⟩
    have fin : ∀ (c : Code) (X : World), KeepsOthers (V.putObj (m + 1) (.loop { r0 with state := .busy })) X → Ix c (pre ++ [x]) X → ∃ v X', (Instr.endRound (m + 1) (some c)).run P X = .ok v X' ∧ v = .bool false ∧ ∃ c', Ix c' (pre ++ [x]) X' ∧ Bk m { r0 with state := .done, pending := some c' } X' := fun c X hk hx => by
      have hb3 := bk_keeps hb2 hk
      exact ⟨_, _, run_endRound (some c) hb3.1, rfl, c, hIx c _ X _ hx (low_put m X _), bk_put _ hb3⟩
    intro e a3 X hp
    cases e with
    | normal =>
      obtain ⟨hk, hkp, hx⟩ := hp
      have hb3 := bk_keeps hb2 hk
      refine ⟨_, _, run_endRound none hb3.1, .inl ⟨rfl, ⟨hI _ X _ hx (low_put m X _), ?_⟩, hKt (hKt k2 hkp) (hKb X _ _ hb3.1)⟩⟩
      have := bk_put r0 hb3
      rw [hr0] at this ⊢
      exact this
    | ret =>
      obtain ⟨v, X', hrun, rfl, hx⟩ := fin .ret X hp.1 hp.2
      exact ⟨_, _, hrun, .inr ⟨rfl, hx⟩⟩
    | exit id =>
      obtain ⟨v, X', hrun, rfl, hx⟩ := fin (.exit id) X hp.1 hp.2
      exact ⟨_, _, hrun, .inr ⟨rfl, hx⟩⟩
    | goto t =>
      obtain ⟨v, X', hrun, rfl, hx⟩ := fin (.goto t) X hp.1 hp.2
      exact ⟨_, _, hrun, .inr ⟨rfl, hx⟩⟩
    | panic ch => exact hp.elim
    | outgrown => exact hp.elim
  · rintro e X ⟨⟨v, rfl⟩, h⟩
    rcases h with ⟨xs, hS, hi, hb⟩ | ⟨pre, hS, c, hi, hb⟩
    · have hrun := run_endLoop (P := P) hb.1 (by rw [hr0]; simp)
      refine ⟨none, _, by rw [hrun, hr0], hdone xs _ hS (hI _ X _ hi (low_put m X _)) (bk_put _ hb).2⟩
    · exact ⟨some c, _, run_endLoop (P := P) hb.1 (by simp), hstop c pre _ hS (hIx c _ X _ hi (low_put m X _)) (bk_put _ hb).2⟩

end Ov
end Go.Proofs.YtplhgedhfflnbaaGreat

namespace Go.Proofs.YtplhgedhfflnbaaGreat
open Go.RowKit Go.Shelf
set_option maxRecDepth 100000
set_option linter.unusedVariables false
attribute [local go_sem] Oper.semAt_some
namespace Fw
open Kn (K okK)
open Bit (bit withB)
open Lc (at' RdK WordsOk laceB setB handsN roundS)
open Ch (leadK firmN sealAt)

/-- the firm one of the greatest round, of some the least -/
def IsTop (L : List K) (C : List Int) (s : Int) (k : Nat) : Prop := k < L.length ∧ firmN L C s k = true ∧ ∀ j, j < L.length → firmN L C s j = true → (at' L j).round ≤ (at' L k).round ∧ ((at' L j).round = (at' L k).round → k ≤ j)
/-- all firm ones -/
def FirmAll (L : List K) (C : List Int) (s : Int) (ys : List Nat) : Prop := ∀ k, k ∈ ys ↔ k < L.length ∧ firmN L C s k = true
def FirmPre (L : List K) (C : List Int) (s : Int) (ys : List Nat) : Prop := ∃ k rest, ys = k :: rest ∧ IsTop L C s k

structure Inv (L : List K) (C : List Int) (s : Int) (n : Nat) (D : Nat → Int × Int) (pre : List Nat) : Prop where
  heap : Hp.IsHeap ltL n D
  el : ∀ i, i < n → ∃ k : Nat, k < L.length ∧ bit s k = true ∧ leadK C (at' L k) = true ∧ D i = ((k : Int), (at' L k).round)
  all : ∀ k, k < L.length → firmN L C s k = true → k ∈ pre ∨ ∃ i, i < n ∧ D i = ((k : Int), (at' L k).round)
  fm : ∀ k ∈ pre, k < L.length ∧ firmN L C s k = true
  top : ∀ k rest, pre = k :: rest → IsTop L C s k
  len : pre.length + n ≤ 60

theorem inv_start {L : List K} (h60 : L.length ≤ 60) {C : List Int} {s : Int} (q0 : 0 ≤ s) (q1 : s < 1152921504606846976) {n : Nat} {D : Nat → Int × Int} (hn : n ≤ 60) (h1 : Hp.IsHeap ltL n D) (h2 : Holds L C (Memb.memI s) n D) : Inv L C s n D [] where
  heap := h1
  el := fun i hi => by
    obtain ⟨k, p1, p2, p3, p4⟩ := (h2 (D i)).1 ⟨i, hi, rfl⟩
    exact ⟨k, p2, (Ak.mem_bit q0 q1 k).1 p1, p3, p4⟩
  all := fun k hk hf => by
    unfold Ch.firmN at hf
    rw [Bool.and_eq_true, Bool.and_eq_true] at hf
    exact .inr ((h2 _).2 ⟨k, (Ak.mem_bit q0 q1 k).2 hf.1, hk, hf.2.1, rfl⟩)
  fm := fun k h => by simp at h
  top := fun k rest h => by simp at h
  len := by simpa using hn
theorem pair_eq {a b : Nat} {x y : Int} (h : ((a : Int), x) = ((b : Int), y)) : a = b := by injection h with h _; omega
theorem inv_skip {L : List K} {C : List Int} {s : Int} {n : Nat} {D : Nat → Int × Int} {pre : List Nat} (h : Inv L C s (n + 1) D pre) {k : Nat} (e : D 0 = ((k : Int), (at' L k).round)) (hf : firmN L C s k = false) : Inv L C s n (Hp.popT ltL n D) pre where
  heap := Hp.popT_heap ltL_ord n D h.heap
  el := fun i hi => by
    obtain ⟨m, _, hm, em⟩ := (Hp.popT_left ltL n D).1 i hi
    obtain ⟨j, p⟩ := h.el m hm
    exact ⟨j, p.1, p.2.1, p.2.2.1, em.symm.trans p.2.2.2⟩
  all := fun j hj hfj => by
    rcases h.all j hj hfj with q | ⟨i, hi, ei⟩
    · exact .inl q
    · by_cases h0 : i = 0
      · subst h0
        obtain rfl := pair_eq (e.symm.trans ei)
        rw [hf] at hfj; cases hfj
      · obtain ⟨m, hm, em⟩ := (Hp.popT_left ltL n D).2 i (by omega) hi
        exact .inr ⟨m, hm, em.trans ei⟩
  fm := h.fm
  top := h.top
  len := by have := h.len; omega
theorem inv_take {L : List K} {C : List Int} {s : Int} {n : Nat} {D : Nat → Int × Int} {pre : List Nat} (h : Inv L C s (n + 1) D pre) {k : Nat} (hk : k < L.length) (e : D 0 = ((k : Int), (at' L k).round)) (hf : firmN L C s k = true) : Inv L C s n (Hp.popT ltL n D) (pre ++ [k]) where
  heap := Hp.popT_heap ltL_ord n D h.heap
  el := fun i hi => by
    obtain ⟨m, _, hm, em⟩ := (Hp.popT_left ltL n D).1 i hi
    obtain ⟨j, p⟩ := h.el m hm
    exact ⟨j, p.1, p.2.1, p.2.2.1, em.symm.trans p.2.2.2⟩
  all := fun j hj hfj => by
    rcases h.all j hj hfj with q | ⟨i, hi, ei⟩
    · exact .inl (by simp [q])
    · by_cases h0 : i = 0
      · subst h0
        obtain rfl := pair_eq (e.symm.trans ei)
        exact .inl (by simp)
      · obtain ⟨m, hm, em⟩ := (Hp.popT_left ltL n D).2 i (by omega) hi
        exact .inr ⟨m, hm, em.trans ei⟩
  fm := fun j hj => by
    rw [List.mem_append, List.mem_singleton] at hj
    rcases hj with hj | rfl
    · exact h.fm j hj
    · exact ⟨hk, hf⟩
  top := fun j rest ej => by
    cases hp : pre with
    | nil =>
      rw [hp] at ej
      injection ej with ej _
      subst ej
      refine ⟨hk, hf, fun j hj hfj => ?_⟩
      rcases h.all j hj hfj with q | ⟨i, hi, ei⟩
      · rw [hp] at q; simp at q
      · have q := ltL_no (Hp.top ltL_ord h.heap i hi)
        rw [ei, e] at q
        exact ⟨q.1, fun ee => by have := q.2 ee; simp at this; omega⟩
    | cons a t =>
      rw [hp] at ej
      injection ej with ej _
      subst ej
      exact h.top _ t hp
  len := by have := h.len; simp; omega
theorem inv_done {L : List K} {C : List Int} {s : Int} {D : Nat → Int × Int} {pre : List Nat} (h : Inv L C s 0 D pre) : FirmAll L C s pre := fun k =>
  ⟨fun hk => h.fm k hk, fun ⟨hk, hf⟩ => by
    rcases h.all k hk hf with q | ⟨i, hi, _⟩
    · exact q
    · omega⟩
theorem inv_pre {L : List K} {C : List Int} {s : Int} {n : Nat} {D : Nat → Int × Int} {pre : List Nat} {k : Nat} (h : Inv L C s n D (pre ++ [k])) : FirmPre L C s (pre ++ [k]) := by
  cases hp : pre ++ [k] with
  | nil => simp at hp
  | cons a t => exact ⟨a, t, rfl, h.top a t hp⟩

/-- what a round keeps: all below n₀, and all cells but the caller's own box -/
def KpB (n₀ Bf : Nat) (V V' : World) : Prop := Below n₀ V V' ∧ ∀ (b : Nat) (cs : Array Value) (t : TypeId) (fz : Nat × Nat), b ≠ Bf → V.heap[b]? = some (.cells cs t fz) → V'.heap[b]? = some (.cells cs t fz)
theorem kpB_t {n₀ Bf : Nat} {A B C : World} (h : KpB n₀ Bf A B) (k : KpB n₀ Bf B C) : KpB n₀ Bf A C := ⟨h.1.trans k.1, fun b cs t fz hb e => k.2 b cs t fz hb (h.2 b cs t fz hb e)⟩
theorem kpB_b {n₀ Bf m : Nat} (hm : n₀ ≤ m) (A : World) (r r' : Loop) (h : A.heap[m + 1]? = some (.loop r)) : KpB n₀ Bf A (A.putObj (m + 1) (.loop r')) :=
  ⟨(Ov.low_put m A _).mono hm, fun b cs t fz _ e => (World.putObj_heap_other (fun q => by subst q; rw [h] at e; cases e)).trans e⟩
theorem wt_kpB {n₀ Bf m0 r hp n : Nat} {V V' : World} {D : Nat → Int × Int} (h : Wt m0 r hp n V D) (hb : Bf < m0) (k : KpB n₀ Bf V V') : Wt m0 r hp n V' D := by
  obtain ⟨h0, g, cap, hh, hl, hr⟩ := h
  refine ⟨h0, g, cap, k.2 hp _ _ _ (by omega) hh, ⟨?_⟩, hr⟩
  obtain ⟨q1, ⟨hv, _⟩ | ⟨g', cap', cur, hv, hb', hg, rest⟩⟩ := hl.own
  · cases hv
  · exact ⟨q1, .inr ⟨g', cap', cur, hv, hb', k.2 g' _ _ _ (by omega) hg, rest⟩⟩

end Fw
end Go.Proofs.YtplhgedhfflnbaaGreat

namespace Go.Proofs.YtplhgedhfflnbaaGreat
open Go.RowKit Go.Shelf
set_option maxRecDepth 100000
set_option linter.unusedVariables false
attribute [local go_sem] Oper.semAt_some
namespace Fw
open Kn (K okK)
open Bit (bit withB)
open Lc (at' RdK WordsOk laceB setB handsN roundS)
open Ch (leadK firmN sealAt)

/-- how many wait -/
def lenAt (hp : Nat) (W : World) : Nat := match W.cell? ⟨hp, 0, none⟩ with | some (.slice _ n _) => n | _ => 0
theorem lenAt_eq {m0 r hp n : Nat} {W : World} {D : Nat → Int × Int} (h : Wt m0 r hp n W D) : lenAt hp W = n := by
  obtain ⟨_, g, cap, hh, _⟩ := h
  unfold lenAt
  rw [cell_of hh]

set_option maxHeartbeats 4000000 in
theorem firmOnes1 (n : Nat) (hn1 : 1 ≤ n) (l Bl Bb Bs n₀ Bf g off cap : Nat) (L : List K) (C : List Int) (s : Int) (hlc : laceB L = true) (hc : Rm.coinsB C = true) (h0 : 0 ≤ s) (h1 : s < 1152921504606846976) (hd : s / 2 ^ L.length = 0) (hg : g < n₀)
    (J Jx : List Nat → World → Prop) (W : World) (hJL : ∀ q, Ov.Low W.heap.size (J q)) (hn0 : n₀ ≤ W.heap.size) (hBf : Bf < W.heap.size) (hfl : Bf ≠ Bl) (hfb : Bf ≠ Bb) (hfs : Bf ≠ Bs)
    (hY : ∀ pre x V, J pre V → pre.length < 60 → YieldAt Fence.wide (n - 1) Tryz.prog l #[.int .i64 ((x : Nat) : Int)] V fun e V' => (e = .returned (.bool true) ∧ J (pre ++ [x]) V' ∧ KpB n₀ Bf V V') ∨ (e = .returned (.bool false) ∧ Jx (pre ++ [x]) V'))
    (hBl : W.heap[Bl]? = some (.cells #[.slice (some ⟨g, off, none⟩) L.length cap] 52 (0, 0))) (hBb : W.heap[Bb]? = some (.cells #[.int .i64 (Ch.leadI C 0), .int .i64 (Ch.leadI C 1), .int .i64 (Ch.leadI C 2), .int .i64 (Ch.leadI C 3), .int .i64 (Ch.leadI C 4), .int .i64 (Ch.leadI C 5), .int .i64 (Ch.leadI C 6)] 55 (0, 0))) (hBs : W.heap[Bs]? = some (.cells #[.int .i64 s] 59 (0, 0)))
    (hr : RdK W (some ⟨g, off, none⟩) L) (hJ0 : J [] W) :
    CallsIn Fence.wide n Tryz.prog 69 #[.func (.yield l) #[] #[], .pointer (some ⟨Bl, 0, none⟩), .pointer (some ⟨Bb, 0, none⟩), .pointer (some ⟨Bs, 0, none⟩)] W fun e V => (∃ v, e = .returned v) ∧
      ((∃ ys, FirmAll L C s ys ∧ J ys V) ∨ (∃ pre, FirmPre L C s pre ∧ Jx pre V)) := by
  have h60 := ((Lc.lace_iff L).1 hlc).1
  have c0 : W.cell? ⟨Bl, 0, none⟩ = some (.slice (some ⟨g, off, none⟩) L.length cap) := cell_of hBl
  have c1 : W.cell? ⟨Bs, 0, none⟩ = some (.int .i64 s) := cell_of hBs
  have y0 : W.cell? ⟨Bb, 0, none⟩ = some (.int .i64 (Ch.leadI C 0)) := by simp [World.cell?, hBb]
  have y1 : W.cell? ⟨Bb, 1, none⟩ = some (.int .i64 (Ch.leadI C 1)) := by simp [World.cell?, hBb]
  have y2 : W.cell? ⟨Bb, 2, none⟩ = some (.int .i64 (Ch.leadI C 2)) := by simp [World.cell?, hBb]
  have y3 : W.cell? ⟨Bb, 3, none⟩ = some (.int .i64 (Ch.leadI C 3)) := by simp [World.cell?, hBb]
  have y4 : W.cell? ⟨Bb, 4, none⟩ = some (.int .i64 (Ch.leadI C 4)) := by simp [World.cell?, hBb]
  have y5 : W.cell? ⟨Bb, 5, none⟩ = some (.int .i64 (Ch.leadI C 5)) := by simp [World.cell?, hBb]
  have y6 : W.cell? ⟨Bb, 6, none⟩ = some (.int .i64 (Ch.leadI C 6)) := by simp [World.cell?, hBb]
  have hwait := waitingOf g off cap L C s W hlc hc (by omega) hr h0 h1 hd
  -- what the iterator knows of every world of its own
  obtain ⟨Q, HQ⟩ : ∃ Q : World → Prop, Q = fun V => Below n₀ W V ∧ V.heap[Bl]? = W.heap[Bl]? ∧ V.heap[Bs]? = W.heap[Bs]? := ⟨_, rfl⟩
  have hBl' : Bl < W.heap.size := (Array.getElem?_eq_some_iff.1 hBl).1
  have hBs' : Bs < W.heap.size := (Array.getElem?_eq_some_iff.1 hBs).1
  have HQL : Hid (∀ A B : World, Q A → Below W.heap.size A B → Q B) := fun A B q hb => by
    rw [HQ] at q ⊢
    exact ⟨q.1.trans (hb.mono hn0), (hb.block _ hBl').trans q.2.1, (hb.block _ hBs').trans q.2.2⟩
  have HQK : Hid (∀ A B : World, Q A → KpB n₀ Bf A B → Q B) := fun A B q hb => by
    rw [HQ] at q ⊢
    refine ⟨q.1.trans hb.1, ?_, ?_⟩
    · rw [hBl]; exact hb.2 _ _ _ _ (Ne.symm hfl) (q.2.1.trans hBl)
    · rw [hBs]; exact hb.2 _ _ _ _ (Ne.symm hfs) (q.2.2.trans hBs)
  have HQC : Hid (∀ A : World, Q A → A.cell? ⟨Bl, 0, none⟩ = some (.slice (some ⟨g, off, none⟩) L.length cap) ∧ A.cell? ⟨Bs, 0, none⟩ = some (.int .i64 s)) := fun A q => by
    rw [HQ] at q
    exact ⟨cell_of (q.2.1.trans hBl), cell_of (q.2.2.trans hBs)⟩
  have HSW : Hid (∀ (k : Nat) (A : World), k < L.length → leadK C (at' L k) = true → Q A → Calls Tryz.prog 68 #[.slice (some ⟨g, off, none⟩) L.length cap, .int .i64 s, .agg #[.int .i64 k, .int .i64 (at' L k).round]] A fun e w' => e = .returned (.bool (decide (3 ≤ handsN L (roundS L (sealAt L s k) ((at' L k).round + 2))))) ∧ Below A.heap.size A w') := fun k A hk hl q => by
    rw [HQ] at q
    have hs := q.1.size
    refine sealedInItsWave g off cap L s k A hlc (by omega) (.inr ⟨g, off, rfl, by omega, fun i hi => ?_⟩) h0 h1 hk ((Ch.lead_iff C _).1 hl).1
    obtain ⟨_, a2⟩ := hr.on i hi
    exact Sg.cellsK_at a2 q.1 hg
  have HNX : Hid (∀ (r hp m : Nat) (pre : List Nat) (D : Nat → Int × Int) (A : World), r < W.heap.size → m + 1 ≤ 1048576 → Wt W.heap.size r hp (m + 1) A D → J pre A ∧ Q A → Calls Tryz.prog 72 #[.pointer (some ⟨hp, 0, none⟩)] A fun e w' => e = .returned (.agg #[.int .i64 (D 0).1, .int .i64 (D 0).2]) ∧ Wt W.heap.size r hp m w' (Hp.popT ltL m D) ∧ (J pre w' ∧ Q w')) := fun r hp m pre D A hr' hm hw hq =>
    (next W.heap.size r hp m hr' (fun V => J pre V ∧ Q V) (fun X Y q hb => ⟨hJL pre X Y q.1 hb, HQL.out X Y q.2 hb⟩) D A hm hw hq)
  have HJL : Hid (∀ q, Ov.Low W.heap.size (J q)) := hJL
  have HY : Hid _ := hY
  have HQ0 : Hid (Q W) := by show Q W; rw [HQ]; exact ⟨Below.refl _ _, rfl, rfl⟩
  clear hr hBl hBb hBs hc HQ hJL hY hlc
  refine callsIn_of_wp Tryz.func69 rfl trivial ?_ rfl
  simp only [Tryz.ntmps69, List.size_toArray, List.length_cons, List.length_nil, Nat.reduceAdd, Nat.reduceSub, Array.replicate_succ, Array.replicate_zero, List.push_toArray, List.append_toArray, List.nil_append, List.cons_append]
  gi_wp2_with (first | (refine ⟨trivial, ?_⟩; gi_at_call 70; refine (callsIn_wide.2 hwait).mono ?_; rintro e w1 ⟨hp, m, D, rfl, hm, hw, hhe, hho, hb1⟩))
  have HW1 : Hid (Wt W.heap.size g hp m w1 D) := hw
  have HI1 : Hid (Inv L C s m D []) := inv_start h60 h0 h1 hm hhe hho
  have HJ1 : Hid (J [] w1 ∧ Q w1) := ⟨HJL.out [] W w1 hJ0 hb1, HQL.out W w1 HQ0.out hb1⟩
  clear hw hhe hho hb1 hwait hJ0 HQ0 c0 c1 y0 y1 y2 y3 y4 y5 y6 hm
  gi_loopw [6] (fun _ wr => ∃ (m : Nat) (D : Nat → Int × Int) (pre : List Nat), Hid (Wt W.heap.size g hp m wr D) ∧ Hid (Inv L C s m D pre) ∧ Hid (J pre wr ∧ Q wr)) (fun _ wr => lenAt hp wr)
  case atStart => exact ⟨m, D, [], HW1, HI1, HJ1⟩
  case round =>
    obtain ⟨m, D, pre, HW, HI, HJ⟩ := hrel
    clear HW1 HI1 HJ1
    have HLE : Hid (lenAt hp wr = m) := lenAt_eq HW.out
    obtain ⟨gw, cw, cv⟩ : ∃ gw cw, wr.cell? ⟨hp, 0, none⟩ = some (.slice (some ⟨gw, 0, none⟩) m cw) := by
      obtain ⟨_, gw, cw, hh, _⟩ := HW.out
      exact ⟨gw, cw, cell_of hh⟩
    cases m with
    | zero =>
      have HD : Hid (FirmAll L C s pre) := inv_done HI.out
      clear HI HW HLE
      gi_wp2_with (first | (refine ⟨trivial, ?_⟩; gi_at_call 71; refine (callsIn_wide.2 (len _ _ _ _)).mono ?_; rintro e w' ⟨rfl, rfl⟩))
      go_end0
      exact ⟨⟨_, rfl⟩, .inl ⟨pre, HD.out, HJ.out.1⟩⟩
    | succ m =>
      obtain ⟨k, hk, hbk, hlk, ek⟩ := HI.out.el 0 (by omega)
      have hml : m + 1 ≤ 60 := by have := HI.out.len; omega
      have hnx := HNX.out g hp m pre D wr (by omega) (by omega) HW.out HJ.out
      rw [ek] at hnx
      dsimp only at hnx
      have HFN : Hid (firmN L C s k = decide (3 ≤ handsN L (roundS L (sealAt L s k) ((at' L k).round + 2)))) := by show _ = _; unfold Ch.firmN; rw [hbk, hlk]; rfl
      have HSK : Hid (firmN L C s k = false → Inv L C s m (Hp.popT ltL m D) pre) := inv_skip HI.out ek
      have HTA : Hid (firmN L C s k = true → Inv L C s m (Hp.popT ltL m D) (pre ++ [k])) := inv_take HI.out hk ek
      have HSL : Hid (∀ A, Q A → Calls Tryz.prog 68 #[.slice (some ⟨g, off, none⟩) L.length cap, .int .i64 s, .agg #[.int .i64 k, .int .i64 (at' L k).round]] A fun e w' => e = .returned (.bool (decide (3 ≤ handsN L (roundS L (sealAt L s k) ((at' L k).round + 2))))) ∧ Below A.heap.size A w') := fun A q => HSW.out k A hk hlk q
      have hpl : pre.length < 60 := by have := HI.out.len; omega
      have hm0 : (0 : Int) < (m : Int) + 1 := by omega
      have hmc : ((m + 1 : Nat) : Int) = (m : Int) + 1 := by omega
      clear hlk hbk HI ek HNX HSW HJ HW
      generalize decide (3 ≤ handsN L (roundS L (sealAt L s k) ((at' L k).round + 2))) = dd at HFN HSL
      generalize (at' L k).round = kr at hnx HSL
      have HAL : Hid (∀ w2 : World, Wt W.heap.size g hp m w2 (Hp.popT ltL m D) → J pre w2 ∧ Q w2 → (w2.alloc (.cells #[.int .i64 k, .int .i64 kr] 97)).cell? ⟨Bl, 0, none⟩ = some (.slice (some ⟨g, off, none⟩) L.length cap) ∧ (w2.alloc (.cells #[.int .i64 k, .int .i64 kr] 97)).cell? ⟨Bs, 0, none⟩ = some (.int .i64 s) ∧ Hid (Wt W.heap.size g hp m (w2.alloc (.cells #[.int .i64 k, .int .i64 kr] 97)) (Hp.popT ltL m D) ∧ J pre (w2.alloc (.cells #[.int .i64 k, .int .i64 kr] 97)) ∧ Q (w2.alloc (.cells #[.int .i64 k, .int .i64 kr] 97)))) := fun w2 h1 h2 => by
        have hlt := wt_lt h1
        have hb : Below W.heap.size w2 (w2.alloc (.cells #[.int .i64 k, .int .i64 kr] 97)) := (Below.refl _ _).alloc (by omega) _
        have hq := HQL.out _ _ h2.2 hb
        exact ⟨(HQC.out _ hq).1, (HQC.out _ hq).2, wt_alloc h1 _, HJL.out pre _ _ h2.1 hb, hq⟩
      have HST : Hid (∀ A B : World, Wt W.heap.size g hp m A (Hp.popT ltL m D) ∧ J pre A ∧ Q A → Below A.heap.size A B → Wt W.heap.size g hp m B (Hp.popT ltL m D) ∧ J pre B ∧ Q B) := fun A B q hb => by
        have hlt := wt_lt q.1
        have hb' : Below W.heap.size A B := hb.mono (by omega)
        exact ⟨wt_below q.1 hb, HJL.out pre _ _ q.2.1 hb', HQL.out _ _ q.2.2 hb'⟩
      have HLN : Hid (∀ A : World, Wt W.heap.size g hp m A (Hp.popT ltL m D) → lenAt hp A < lenAt hp wr) := fun A q => by rw [lenAt_eq q, HLE.out]; omega
      cases dd
      · have HI2 : Hid (Inv L C s m (Hp.popT ltL m D) pre) := HSK.out HFN.out
        clear HSK HTA HFN HLE HY
        gi_wp2_with (first | (refine ⟨trivial, ?_⟩; gi_at_call 71; refine (callsIn_wide.2 (len _ _ _ _)).mono ?_; rintro e wl ⟨rfl, rfl⟩) | (refine ⟨trivial, ?_⟩; gi_at_call 72; refine (callsIn_wide.2 hnx).mono ?_; rintro e w2 ⟨rfl, hw2, hq2⟩; have HA := HAL.out w2 hw2 hq2; have ca := HA.1; have cb := HA.2.1; have HA3 := HA.2.2) | (refine ⟨trivial, ?_⟩; gi_at_call 68; refine (callsIn_wide.2 (HSL.out _ HA3.out.2.2)).mono ?_; rintro e w3 ⟨rfl, hb3⟩; have HR3 := HST.out _ _ HA3.out hb3))
        refine ⟨fun f hf => (by cases hf), ?_⟩
        gi_wp2
        go_roundw
        case rel => exact ⟨m, _, pre, HR3.1, HI2, HR3.2⟩
        case measure => exact HLN.out _ HR3.1
      · have HI2 : Hid (Inv L C s m (Hp.popT ltL m D) (pre ++ [k])) := HTA.out HFN.out
        have HYK : Hid (∀ V, J pre V → YieldAt Fence.wide (n - 1) Tryz.prog l #[.int .i64 ((k : Nat) : Int)] V fun e V' => (e = .returned (.bool true) ∧ J (pre ++ [k]) V' ∧ KpB n₀ Bf V V') ∨ (e = .returned (.bool false) ∧ Jx (pre ++ [k]) V')) := fun V q => HY.out pre k V q hpl
        have HKC : Hid (∀ w2 w3 : World, Wt W.heap.size g hp m w2 (Hp.popT ltL m D) → Below (w2.alloc (.cells #[.int .i64 k, .int .i64 kr] 97)).heap.size (w2.alloc (.cells #[.int .i64 k, .int .i64 kr] 97)) w3 → w3.cell? ⟨w2.heap.size, 0, none⟩ = some (.int .i64 k)) := fun w2 w3 _ hb => (hb.cell (p := ⟨w2.heap.size, 0, none⟩) (by simp)).trans (by simp)
        clear HSK HTA HFN HLE HY
        gi_wp2_with (first | (refine ⟨trivial, ?_⟩; gi_at_call 71; refine (callsIn_wide.2 (len _ _ _ _)).mono ?_; rintro e wl ⟨rfl, rfl⟩) | (refine ⟨trivial, ?_⟩; gi_at_call 72; refine (callsIn_wide.2 hnx).mono ?_; rintro e w2 ⟨rfl, hw2, hq2⟩; have HA := HAL.out w2 hw2 hq2; have ca := HA.1; have cb := HA.2.1; have HA3 := HA.2.2))
        refine ⟨trivial, (callsIn_wide.2 (HSL.out _ HA3.out.2.2)).mono ?_⟩
        rintro e w3 ⟨rfl, hb3⟩
        have HR3 : Hid _ := HST.out _ _ HA3.out hb3
        have ck := HKC.out _ _ hw2 hb3
        obtain ⟨fn, tmps, assign, body, hy, hR⟩ := HYK.out w3 HR3.out.2.1
        clear hb3 HA3 HA ca cb hw2 hq2 hnx
        gi_wp2_with fail
        refine hR.mono ?_
        rintro e w4 (⟨rfl, hJ4, hk4⟩ | ⟨rfl, hJx4⟩)
        · have HW4 : Hid (Wt W.heap.size g hp m w4 (Hp.popT ltL m D)) := wt_kpB HR3.out.1 hBf hk4
          have HQ4 : Hid (J (pre ++ [k]) w4 ∧ Q w4) := ⟨hJ4, HQK.out _ _ HR3.out.2.2 hk4⟩
          clear hJ4 hk4 hR hy HR3 ck
          gi_wp2
          go_roundw
          case rel => exact ⟨m, _, _, HW4, HI2, HQ4⟩
          case measure => exact HLN.out _ HW4.out
        · have HP4 : Hid (FirmPre L C s (pre ++ [k])) := inv_pre HI2.out
          clear hR hy HR3 ck
          gi_wp2
          refine bodyPost_ret (results_none rfl _ _ _) rfl ?_
          exact ⟨⟨_, rfl⟩, .inr ⟨pre ++ [k], HP4.out, hJx4⟩⟩

end Fw
end Go.Proofs.YtplhgedhfflnbaaGreat

namespace Go.Proofs.YtplhgedhfflnbaaGreat
open Go.RowKit Go.Shelf
set_option maxRecDepth 100000
set_option linter.unusedVariables false
attribute [local go_sem] Oper.semAt_some
namespace Fw
open Kn (K okK)
open Bit (bit withB)
open Lc (at' RdK WordsOk laceB setB handsN roundS)
open Ch (leadK firmN sealAt)

theorem top_last {L : List K} {C : List Int} {s : Int} {k : Nat} (h : IsTop L C s k) : Tl.lastT L (Tl.firmL L C s L.length) = (k : Int) := by
  obtain ⟨hk, hf, ht⟩ := h
  rcases Tl.last_spec L C s L.length with ⟨_, hn⟩ | ⟨f, e, hfl, hff, hft⟩
  · rw [hn k hk] at hf; cases hf
  · have a := ht f hfl hff
    have b := hft k hk hf
    have c := a.2 (by omega)
    have d := b.2 (by omega)
    rw [e]; omega
theorem none_last {L : List K} {C : List Int} {s : Int} (h : FirmAll L C s []) : Tl.lastT L (Tl.firmL L C s L.length) = -1 := by
  rcases Tl.last_spec L C s L.length with ⟨e, _⟩ | ⟨f, _, hfl, hff, _⟩
  · exact e
  · have := (h f).2 ⟨hfl, hff⟩
    simp at this

theorem kpB_put {n₀ Bf : Nat} (W : World) (hn : n₀ ≤ Bf) (u : Value) : KpB n₀ Bf W (W.setCell ⟨Bf, 0, none⟩ u) :=
  ⟨(Below.refl n₀ W).setCell (p := ⟨Bf, 0, none⟩) hn u, fun b cs t fz hb e => (Below.heap_setCell W ⟨Bf, 0, none⟩ u b hb).trans e⟩

theorem firm_stops (n : Nat) (hn1 : 1 ≤ n) (Bl Bb Bs n₀ Bf g off cap : Nat) (L : List K) (C : List Int) (s : Int) (hlc : laceB L = true) (hc : Rm.coinsB C = true) (h0 : 0 ≤ s) (h1 : s < 1152921504606846976) (hd : s / 2 ^ L.length = 0) (hg : g < n₀) (w : World)
    (hn0 : n₀ ≤ w.heap.size) (hBf : Bf < w.heap.size) (hfl : Bf ≠ Bl) (hfb : Bf ≠ Bb) (hfs : Bf ≠ Bs)
    (hBl : w.heap[Bl]? = some (.cells #[.slice (some ⟨g, off, none⟩) L.length cap] 52 (0, 0))) (hBb : w.heap[Bb]? = some (.cells #[.int .i64 (Ch.leadI C 0), .int .i64 (Ch.leadI C 1), .int .i64 (Ch.leadI C 2), .int .i64 (Ch.leadI C 3), .int .i64 (Ch.leadI C 4), .int .i64 (Ch.leadI C 5), .int .i64 (Ch.leadI C 6)] 55 (0, 0))) (hBs : w.heap[Bs]? = some (.cells #[.int .i64 s] 59 (0, 0)))
    (hr : RdK w (some ⟨g, off, none⟩) L) :
    Ov.SeqLow Fence.wide n Tryz.prog 69 #[.pointer (some ⟨Bl, 0, none⟩), .pointer (some ⟨Bb, 0, none⟩), .pointer (some ⟨Bs, 0, none⟩)] (fun x : Nat => #[Value.int .i64 (x : Int)]) (KpB n₀ Bf) (FirmAll L C s) (FirmPre L C s) 60 w := fun l J Jx W hW hJ _ hY hJ0 =>
  firmOnes1 n hn1 l Bl Bb Bs n₀ Bf g off cap L C s hlc hc h0 h1 hd hg J Jx W hJ (Nat.le_trans hn0 hW.size) (Nat.lt_of_lt_of_le hBf hW.size) hfl hfb hfs hY
    ((hW.block _ (Array.getElem?_eq_some_iff.1 hBl).1).trans hBl) ((hW.block _ (Array.getElem?_eq_some_iff.1 hBb).1).trans hBb) ((hW.block _ (Array.getElem?_eq_some_iff.1 hBs).1).trans hBs) (hr.below hW) hJ0

set_option maxHeartbeats 400000 in
theorem firmOnes (a : Option Addr) (len cap : Nat) (y0 y1 y2 y3 y4 y5 y6 s : Int) (w : World) : Calls Tryz.prog 35 #[.slice a len cap, .agg #[.int .i64 y0, .int .i64 y1, .int .i64 y2, .int .i64 y3, .int .i64 y4, .int .i64 y5, .int .i64 y6], .int .i64 s] w fun e w' =>
    e = .returned (.func (.func 69) #[] #[.pointer (some ⟨w.heap.size, 0, none⟩), .pointer (some ⟨w.heap.size + 1, 0, none⟩), .pointer (some ⟨w.heap.size + 2, 0, none⟩)]) ∧ w' = ((w.alloc (.cells #[.slice a len cap] 52)).alloc (.cells #[.int .i64 y0, .int .i64 y1, .int .i64 y2, .int .i64 y3, .int .i64 y4, .int .i64 y5, .int .i64 y6] 55)).alloc (.cells #[.int .i64 s] 59) := by
  go_enter Tryz.func35, Tryz.ntmps35
  go_wp2
  go_ret
  exact ⟨rfl, rfl⟩

/-- the three boxes of the iterator, laid -/
theorem boxes (w : World) (o1 o2 o3 : Obj) : ((((w.alloc o1).alloc o2).alloc o3).heap[w.heap.size]? = some o1 ∧ (((w.alloc o1).alloc o2).alloc o3).heap[w.heap.size + 1]? = some o2 ∧ (((w.alloc o1).alloc o2).alloc o3).heap[w.heap.size + 2]? = some o3) ∧ Below w.heap.size w (((w.alloc o1).alloc o2).alloc o3) ∧ (((w.alloc o1).alloc o2).alloc o3).heap.size = w.heap.size + 3 := by
  have h1 := World.alloc_heap_new w o1
  have h2 := World.alloc_heap_new (w.alloc o1) o2
  have h3 := World.alloc_heap_new ((w.alloc o1).alloc o2) o3
  simp only [World.size_alloc] at h2 h3
  refine ⟨⟨?_, ?_, h3⟩, (((Below.refl _ w).alloc (Nat.le_refl _) _).alloc (by simp) _).alloc (by simp; omega) _, by simp⟩
  · exact (Below.heap_alloc _ _ _ (by simp; omega)).trans ((Below.heap_alloc _ _ _ (by simp)).trans h1)
  · exact (Below.heap_alloc _ _ _ (by simp)).trans h2

set_option maxHeartbeats 2000000 in
theorem lastFirm (g off cap : Nat) (L : List K) (C : List Int) (s : Int) (w : World) (hlc : laceB L = true) (hc : Rm.coinsB C = true) (hg : g < w.heap.size) (hr : RdK w (some ⟨g, off, none⟩) L) (h0 : 0 ≤ s) (h1 : s < 1152921504606846976) (hd : s / 2 ^ L.length = 0) :
    Calls Tryz.prog 39 #[.slice (some ⟨g, off, none⟩) L.length cap, .agg #[.int .i64 (Ch.leadI C 0), .int .i64 (Ch.leadI C 1), .int .i64 (Ch.leadI C 2), .int .i64 (Ch.leadI C 3), .int .i64 (Ch.leadI C 4), .int .i64 (Ch.leadI C 5), .int .i64 (Ch.leadI C 6)], .int .i64 s] w fun e w' => e = .returned (.int .i64 (Tl.lastT L (Tl.firmL L C s L.length))) ∧ Below w.heap.size w w' := by
  have q7 := (Ch.rowI_seven w 55 (fun i => Ch.leadI C (i : Int)))
  have y0 := q7.rd 0 (by omega)
  have y1 := q7.rd 1 (by omega)
  have y2 := q7.rd 2 (by omega)
  have y3 := q7.rd 3 (by omega)
  have y4 := q7.rd 4 (by omega)
  have y5 := q7.rd 5 (by omega)
  have y6 := q7.rd 6 (by omega)
  clear q7
  refine (callsIn_wide (n := 3)).1 ?_
  refine callsIn_of_wp_marks Tryz.func39 rfl trivial ?_ rfl
  simp only [Tryz.ntmps39, List.size_toArray, List.length_cons, List.length_nil, Nat.reduceAdd, Nat.reduceSub, Array.replicate_succ, Array.replicate_zero, List.push_toArray, List.append_toArray, List.nil_append, List.cons_append]
  gi_wp2_with (refine ⟨trivial, ?_⟩; gi_at_call 35; refine (callsIn_wide.2 (firmOnes _ _ _ _ _ _ _ _ _ _ _ _)).mono ?_; rintro e w' ⟨rfl, rfl⟩)
  clear y0 y1 y2 y3 y4 y5 y6
  have hB2 : Below w.heap.size w ((w.alloc (.cells #[.int .i64 (Ch.leadI C 0), .int .i64 (Ch.leadI C 1), .int .i64 (Ch.leadI C 2), .int .i64 (Ch.leadI C 3), .int .i64 (Ch.leadI C 4), .int .i64 (Ch.leadI C 5), .int .i64 (Ch.leadI C 6)] 55)).alloc (.cells #[.int .i64 0] 2)) := ((Below.refl _ w).alloc (Nat.le_refl _) _).alloc (by simp) _
  have hf2 : ((w.alloc (.cells #[.int .i64 (Ch.leadI C 0), .int .i64 (Ch.leadI C 1), .int .i64 (Ch.leadI C 2), .int .i64 (Ch.leadI C 3), .int .i64 (Ch.leadI C 4), .int .i64 (Ch.leadI C 5), .int .i64 (Ch.leadI C 6)] 55)).alloc (.cells #[.int .i64 0] 2)).heap[w.heap.size + 1]? = some (.cells #[.int .i64 0] 2 (0, 0)) := by
    have := World.alloc_heap_new (w.alloc (.cells #[.int .i64 (Ch.leadI C 0), .int .i64 (Ch.leadI C 1), .int .i64 (Ch.leadI C 2), .int .i64 (Ch.leadI C 3), .int .i64 (Ch.leadI C 4), .int .i64 (Ch.leadI C 5), .int .i64 (Ch.leadI C 6)] 55)) (.cells #[.int .i64 0] 2)
    simpa using this
  have hs2 : ((w.alloc (.cells #[.int .i64 (Ch.leadI C 0), .int .i64 (Ch.leadI C 1), .int .i64 (Ch.leadI C 2), .int .i64 (Ch.leadI C 3), .int .i64 (Ch.leadI C 4), .int .i64 (Ch.leadI C 5), .int .i64 (Ch.leadI C 6)] 55)).alloc (.cells #[.int .i64 0] 2)).heap.size = w.heap.size + 2 := by simp
  generalize (w.alloc (.cells #[.int .i64 (Ch.leadI C 0), .int .i64 (Ch.leadI C 1), .int .i64 (Ch.leadI C 2), .int .i64 (Ch.leadI C 3), .int .i64 (Ch.leadI C 4), .int .i64 (Ch.leadI C 5), .int .i64 (Ch.leadI C 6)] 55)).alloc (.cells #[.int .i64 0] 2) = w2 at hB2 hf2 hs2 ⊢
  obtain ⟨⟨k1, k2, k3⟩, hB5, hs5⟩ := boxes w2 (.cells #[.slice (some ⟨g, off, none⟩) L.length cap] 52) (.cells #[.int .i64 (Ch.leadI C 0), .int .i64 (Ch.leadI C 1), .int .i64 (Ch.leadI C 2), .int .i64 (Ch.leadI C 3), .int .i64 (Ch.leadI C 4), .int .i64 (Ch.leadI C 5), .int .i64 (Ch.leadI C 6)] 55) (.cells #[.int .i64 s] 59)
  generalize ((w2.alloc (.cells #[.slice (some ⟨g, off, none⟩) L.length cap] 52)).alloc (.cells #[.int .i64 (Ch.leadI C 0), .int .i64 (Ch.leadI C 1), .int .i64 (Ch.leadI C 2), .int .i64 (Ch.leadI C 3), .int .i64 (Ch.leadI C 4), .int .i64 (Ch.leadI C 5), .int .i64 (Ch.leadI C 6)] 55)).alloc (.cells #[.int .i64 s] 59) = w5 at k1 k2 k3 hB5 hs5 ⊢
  rw [hs2] at k1 k2 k3 hB5 hs5
  have hf5 : w5.heap[w.heap.size + 1]? = some (.cells #[.int .i64 0] 2 (0, 0)) := (hB5.block _ (by omega)).trans hf2
  have hBw : Below w.heap.size w w5 := hB2.trans (hB5.mono (by omega))
  refine Ov.over rfl (by omega) (gf := 69) (lb := #[.pointer (some ⟨w.heap.size + 1 + 1, 0, none⟩), .pointer (some ⟨w.heap.size + 1 + 1 + 1, 0, none⟩), .pointer (some ⟨w.heap.size + 1 + 1 + 2, 0, none⟩)]) rfl trivial (enters_of Tryz.func69 (by kernel_rfl) rfl)
    (firm_stops 2 (by omega) (w.heap.size + 1 + 1) (w.heap.size + 1 + 1 + 1) (w.heap.size + 1 + 1 + 2) w.heap.size (w.heap.size + 1) g off cap L C s hlc hc h0 h1 hd hg w5 (by omega) (by omega) (by omega) (by omega) (by omega) k1 k2 k3 (hr.below hBw)) kpB_t (fun A r r' h => kpB_b (by omega) A r r' h) (fun _ => rfl)
    (fun pre W => pre = [] ∧ W.heap[w.heap.size + 1]? = some (.cells #[.int .i64 0] 2 (0, 0)) ∧ Below w.heap.size w W)
    (fun c pre W => c = .ret ∧ ∃ k : Nat, pre = [k] ∧ W.heap[w.heap.size + 1]? = some (.cells #[.int .i64 k] 2 (0, 0)) ∧ Below w.heap.size w W)
    (fun q A B h hb => ⟨h.1, (hb.block _ (by omega)).trans h.2.1, h.2.2.trans (hb.mono (by omega))⟩)
    (fun c q A B h hb => by
      obtain ⟨p1, k, p2, p3, p4⟩ := h
      exact ⟨p1, k, p2, (hb.block _ (by omega)).trans p3, p4.trans (hb.mono (by omega))⟩)
    ⟨rfl, hf5, hBw⟩
    (fun x => { tmps := #[.slice (some ⟨g, off, none⟩) L.length cap, .agg #[.int .i64 (Ch.leadI C 0), .int .i64 (Ch.leadI C 1), .int .i64 (Ch.leadI C 2), .int .i64 (Ch.leadI C 3), .int .i64 (Ch.leadI C 4), .int .i64 (Ch.leadI C 5), .int .i64 (Ch.leadI C 6)], .int .i64 s, undef, .pointer (some ⟨w.heap.size, 0, none⟩), undef, .pointer (some ⟨w.heap.size + 1, 0, none⟩), .int .i64 (x : Int), .slice (some ⟨g, off, none⟩) L.length cap, .agg #[.int .i64 (Ch.leadI C 0), .int .i64 (Ch.leadI C 1), .int .i64 (Ch.leadI C 2), .int .i64 (Ch.leadI C 3), .int .i64 (Ch.leadI C 4), .int .i64 (Ch.leadI C 5), .int .i64 (Ch.leadI C 6)], .int .i64 s, .func (.func 69) #[] #[.pointer (some ⟨w.heap.size + 1 + 1, 0, none⟩), .pointer (some ⟨w.heap.size + 1 + 1 + 1, 0, none⟩), .pointer (some ⟨w.heap.size + 1 + 1 + 2, 0, none⟩)], .int .i64 (x : Int), undef], defers := [] }) ?assign ?body ?done ?stop
  case assign =>
    intro l x W K hK
    gi_wp2
    exact hK
  case body =>
    rintro l pre x W ⟨rfl, hc0, hB⟩ _
    have cc := cell_of hc0
    have cf := frozen_of hc0
    gi_wp2
    exact ⟨KeepsOthers.setCell _ _ _, rfl, x, rfl, one_setCell hc0, hB.setCell (p := ⟨w.heap.size + 1, 0, none⟩) (by simp) _⟩
  case done =>
    rintro ys W hS ⟨rfl, hc0, hB⟩ hK
    have hT := none_last hS
    have cc := cell_of hc0
    have cf := frozen_of hc0
    gi_wp2
    have hK' := (KeepsOthers.setCell W ⟨w.heap.size + 1, 0, none⟩ (.int .i64 (-1))).same _ _ hK rfl
    refine ⟨by simp, .inl ⟨_, _, rfl, run_takeDeferred hK', ?_⟩⟩
    have hc5 : ((W.setCell ⟨w.heap.size + 1, 0, none⟩ (.int .i64 (-1))).putObj w5.heap.size (.deferred none)).cell? ⟨w.heap.size + 1, 0, none⟩ = some (.int .i64 (-1)) := cell_of ((World.putObj_heap_other (by omega)).trans (one_setCell hc0))
    refine ⟨.int .i64 (-1), ?_, by rw [hT], (hB.setCell (p := ⟨w.heap.size + 1, 0, none⟩) (by simp) _).trans ⟨rfl, rfl, rfl, by simp, fun j hj => World.putObj_heap_other (by omega)⟩⟩
    simp [results, Tryz.f39, go_sem, hc5]
  case stop =>
    rintro c pre W ⟨k, rest, rfl, hT⟩ ⟨rfl, k', ek, hc0, hB⟩ hK
    injection ek with ek _
    subst ek
    have hL := top_last hT
    gi_wp2
    refine ⟨by simp, .inl ⟨_, _, rfl, run_takeDeferred hK, ?_⟩⟩
    have hc5 : (W.putObj w5.heap.size (.deferred none)).cell? ⟨w.heap.size + 1, 0, none⟩ = some (.int .i64 (k : Int)) := cell_of ((World.putObj_heap_other (by omega)).trans hc0)
    refine ⟨.int .i64 (k : Int), ?_, by rw [hL], hB.trans ⟨rfl, rfl, rfl, by simp, fun j hj => World.putObj_heap_other (by omega)⟩⟩
    simp [results, Tryz.f39, go_sem, hc5]

end Fw
end Go.Proofs.YtplhgedhfflnbaaGreat

namespace Go.Proofs.YtplhgedhfflnbaaGreat
open Go.RowKit Go.Shelf
set_option maxRecDepth 100000
set_option linter.unusedVariables false
namespace Fw
open Kn (K okK)
open Bit (bit withB)
open Lc (at' RdK WordsOk laceB setB handsN roundS)
open Ch (leadK firmN sealAt)

/-- how ledLace ends -/
def LedLace (L : List K) (C : List Int) (w : World) (e : Ending) (w' : World) : Prop :=
  (laceB L = true ∧ Rm.coinsB C = true ∧ ∃ g, e = .returned (.tuple #[.slice (some ⟨g, 0, none⟩) L.length L.length, .agg #[.int .i64 (Ch.leadI C 0), .int .i64 (Ch.leadI C 1), .int .i64 (Ch.leadI C 2), .int .i64 (Ch.leadI C 3), .int .i64 (Ch.leadI C 4), .int .i64 (Ch.leadI C 5), .int .i64 (Ch.leadI C 6)], .bool true]) ∧ g < w'.heap.size ∧ RdK w' (some ⟨g, 0, none⟩) L ∧ Below w.heap.size w w') ∨
  ((laceB L && Rm.coinsB C) = false ∧ ∃ (v : Value) (y0 y1 y2 y3 y4 y5 y6 : Int), e = .returned (.tuple #[v, .agg #[.int .i64 y0, .int .i64 y1, .int .i64 y2, .int .i64 y3, .int .i64 y4, .int .i64 y5, .int .i64 y6], .bool false]) ∧ Below w.heap.size w w')

/-- the two arrays: the answer's (block b) and the one that was laid (block c) -/
theorem two7 {W : World} {b : Nat} (hb : Db.RowI W b 7 (fun _ => 0)) (f : Nat → Int) : ∃ W1, W1 = W.alloc (.cells #[.int .i64 (f 0), .int .i64 (f 1), .int .i64 (f 2), .int .i64 (f 3), .int .i64 (f 4), .int .i64 (f 5), .int .i64 (f 6)] 55) ∧ Db.RowI W1 b 7 (fun _ => 0) ∧ Db.RowI W1 W.heap.size 7 f ∧ Below W.heap.size W W1 ∧ W.heap.size ≠ b :=
  ⟨_, rfl, Nd.rowI_alloc hb _, Ch.rowI_seven W 55 f, (Below.refl _ _).alloc (Nat.le_refl _) _, by have := hb.lt; omega⟩

theorem rowI_kept {W W' : World} {b : Nat} {f : Nat → Int} (h : Db.RowI W b 7 f) (hb : Below W.heap.size W W') : Db.RowI W' b 7 f :=
  ⟨Nat.lt_of_lt_of_le h.lt hb.size, fun i hi => (hb.cell (p := ⟨b, i, none⟩) h.lt).trans (h.rd i hi), fun i hi => (hb.frozen (p := ⟨b, i, none⟩) h.lt).trans (h.fr i hi)⟩

theorem cell_put7 (W : World) (b : Nat) (x0 x1 x2 x3 x4 x5 x6 : Int) (p : Addr) (hp : p.block ≠ b) : (((((((W.setCell ⟨b, 0, none⟩ (.int .i64 x0)).setCell ⟨b, 1, none⟩ (.int .i64 x1)).setCell ⟨b, 2, none⟩ (.int .i64 x2)).setCell ⟨b, 3, none⟩ (.int .i64 x3)).setCell ⟨b, 4, none⟩ (.int .i64 x4)).setCell ⟨b, 5, none⟩ (.int .i64 x5)).setCell ⟨b, 6, none⟩ (.int .i64 x6)).cell? p = W.cell? p := by
  refine World.cell?_of_block ?_
  rw [Below.heap_setCell _ ⟨b, 6, none⟩ _ _ hp, Below.heap_setCell _ ⟨b, 5, none⟩ _ _ hp, Below.heap_setCell _ ⟨b, 4, none⟩ _ _ hp, Below.heap_setCell _ ⟨b, 3, none⟩ _ _ hp, Below.heap_setCell _ ⟨b, 2, none⟩ _ _ hp, Below.heap_setCell _ ⟨b, 1, none⟩ _ _ hp, Below.heap_setCell _ ⟨b, 0, none⟩ _ _ hp]
/-- a lace lies where it lay, whatever is laid into a block of numbers -/
theorem rdK_put7 {W : World} {b g : Nat} {L : List K} (hb : Db.RowI W b 7 (fun _ => 0)) (h : RdK W (some ⟨g, 0, none⟩) L) (x0 x1 x2 x3 x4 x5 x6 : Int) : RdK (((((((W.setCell ⟨b, 0, none⟩ (.int .i64 x0)).setCell ⟨b, 1, none⟩ (.int .i64 x1)).setCell ⟨b, 2, none⟩ (.int .i64 x2)).setCell ⟨b, 3, none⟩ (.int .i64 x3)).setCell ⟨b, 4, none⟩ (.int .i64 x4)).setCell ⟨b, 5, none⟩ (.int .i64 x5)).setCell ⟨b, 6, none⟩ (.int .i64 x6)) (some ⟨g, 0, none⟩) L := by
  by_cases hL : 0 < L.length
  · obtain ⟨hg, _, _, _, c3⟩ := h.on 0 hL
    have hne : g ≠ b := fun e => by
      subst e
      have := hb.rd 3 (by omega)
      rw [show 0 + 0 * 4 + 3 = 3 from rfl, this] at c3
      cases c3
    refine .inr ⟨g, 0, rfl, by simpa using hg, fun i hi => ?_⟩
    obtain ⟨_, d0, d1, d2, d3⟩ := h.on i hi
    exact ⟨(cell_put7 W b x0 x1 x2 x3 x4 x5 x6 _ hne).trans d0, (cell_put7 W b x0 x1 x2 x3 x4 x5 x6 _ hne).trans d1, (cell_put7 W b x0 x1 x2 x3 x4 x5 x6 _ hne).trans d2, (cell_put7 W b x0 x1 x2 x3 x4 x5 x6 _ hne).trans d3⟩
  · exact .inl (List.length_eq_zero_iff.1 (by omega))

set_option maxHeartbeats 3200000 in
theorem ledLace (g off cap : Nat) (L : List K) (ao : Option Addr) (cc : Nat) (C : List Int) (w : World) (hlen : L.length ≤ 1099511627776) (hw : WordsOk L) (hr : RdK w (some ⟨g, off, none⟩) L) (hl : C.length ≤ 1048576) (hrd : Lst.Rd w ao C) (hao : ∀ c, ao = some ⟨c, 0, none⟩ → c < w.heap.size) :
    Calls Tryz.prog 32 #[.slice (some ⟨g, off, none⟩) L.length cap, .slice ao C.length cc] w (LedLace L C w) := by
  have HZ : Hid (Db.RowI (w.alloc (.cells #[.int .i64 0, .int .i64 0, .int .i64 0, .int .i64 0, .int .i64 0, .int .i64 0, .int .i64 0] 55)) w.heap.size 7 (fun _ => 0)) := Ch.rowI_seven w 55 (fun _ => 0)
  have HBZ : Hid (Below w.heap.size w (w.alloc (.cells #[.int .i64 0, .int .i64 0, .int .i64 0, .int .i64 0, .int .i64 0, .int .i64 0, .int .i64 0] 55))) := (Below.refl _ _).alloc (Nat.le_refl _) _
  have hrZ := hr.below HBZ.out
  have hrdZ := Ch.rd_low hrd hao HBZ.out
  have haoZ : ∀ c, ao = some ⟨c, 0, none⟩ → c < (w.alloc (.cells #[.int .i64 0, .int .i64 0, .int .i64 0, .int .i64 0, .int .i64 0, .int .i64 0, .int .i64 0] 55)).heap.size := fun c e => Nat.lt_of_lt_of_le (hao c e) HBZ.out.size
  clear hr hrd hao
  go_enter Tryz.func32, Tryz.ntmps32
  go_wp2_with fail
  generalize w.alloc (.cells #[.int .i64 0, .int .i64 0, .int .i64 0, .int .i64 0, .int .i64 0, .int .i64 0, .int .i64 0] 55) = wz at HZ HBZ hrZ hrdZ haoZ ⊢
  generalize hbb : w.heap.size = b at *
  have HBB : Hid (b = w.heap.size) := hbb.symm
  clear hbb
  refine (Lc.laceOf g off cap L _ hlen hw hrZ).mono ?_
  intro e w1 hpost
  obtain ⟨B0, v0, g', HL0, hb1, rfl⟩ : ∃ (B0 : Bool) (v0 : Value) (g' : Nat), Hid (B0 = laceB L ∧ (B0 = true → v0 = .slice (some ⟨g', 0, none⟩) L.length L.length ∧ g' < w1.heap.size ∧ RdK w1 (some ⟨g', 0, none⟩) L)) ∧ Below wz.heap.size wz w1 ∧ e = .returned (.tuple #[v0, .bool B0]) := by
    rcases hpost with ⟨h1, g', rfl, h2, h3, h4⟩ | ⟨h1, rfl, h4⟩
    · exact ⟨true, _, g', ⟨h1.symm, fun _ => ⟨rfl, h2, h3⟩⟩, h4, rfl⟩
    · exact ⟨false, _, 0, ⟨h1.symm, fun h => by cases h⟩, h4, rfl⟩
  have HZ1 : Hid (Db.RowI w1 b 7 (fun _ => 0)) := rowI_kept HZ.out hb1
  have HB1 : Hid (Below b w w1) := HBZ.out.trans (hb1.mono (Nat.le_of_lt HZ.out.lt))
  have hrd1 := Ch.rd_low hrdZ haoZ hb1
  have hao1 : ∀ c, ao = some ⟨c, 0, none⟩ → c < w1.heap.size := fun c e => Nat.lt_of_lt_of_le (haoZ c e) hb1.size
  clear hpost HZ hrZ hrdZ haoZ HBZ hb1
  go_wp2_with fail
  refine (Ch.leadersOf ao cc C _ hl hrd1 hao1).mono ?_
  intro e w2 hpost
  obtain ⟨B1, f, HL1, hb2, rfl⟩ : ∃ (B1 : Bool) (f : Nat → Int), Hid (B1 = Rm.coinsB C ∧ (B1 = true → ∀ i, f i = Ch.leadI C (i : Int))) ∧ Below w1.heap.size w1 w2 ∧ e = .returned (.tuple #[.agg #[.int .i64 (f 0), .int .i64 (f 1), .int .i64 (f 2), .int .i64 (f 3), .int .i64 (f 4), .int .i64 (f 5), .int .i64 (f 6)], .bool B1]) := by
    rcases hpost with ⟨h1, rfl, h4⟩ | ⟨h1, rfl, h4⟩
    · exact ⟨true, fun i => Ch.leadI C (i : Int), ⟨h1.symm, fun _ _ => rfl⟩, h4, rfl⟩
    · exact ⟨false, fun _ => 0, ⟨h1.symm, fun h => by cases h⟩, h4, rfl⟩
  have HZ2 := rowI_kept HZ1.out hb2
  have HB2 : Hid (Below b w w2) := HB1.out.trans (hb2.mono (by have := HZ1.out.lt; omega))
  have HR2 : Hid (B0 = true → v0 = .slice (some ⟨g', 0, none⟩) L.length L.length ∧ g' < w2.heap.size ∧ RdK w2 (some ⟨g', 0, none⟩) L) := fun h => by
    obtain ⟨q1, q2, q3⟩ := HL0.out.2 h
    exact ⟨q1, Nat.lt_of_lt_of_le q2 hb2.size, q3.below hb2⟩
  obtain ⟨W3, hW3, k1, k2, k3, k4⟩ := two7 HZ2 f
  have HB3 : Hid (Below b w W3) := HB2.out.trans (k3.mono (by have := HZ2.lt; omega))
  have HR3 : Hid (B0 = true → v0 = .slice (some ⟨g', 0, none⟩) L.length L.length ∧ g' < W3.heap.size ∧ RdK W3 (some ⟨g', 0, none⟩) L) := fun h => by
    obtain ⟨q1, q2, q3⟩ := HR2.out h
    exact ⟨q1, Nat.lt_of_lt_of_le q2 k3.size, q3.below k3⟩
  obtain ⟨W7, hW7, m0, m1, m2, m3, m4, m5, m6, _, hB7⟩ := Ch.put7 k1 b (Nat.le_refl _) HB3.out (f 0) (f 1) (f 2) (f 3) (f 4) (f 5) (f 6)
  have HE : Hid (LedLace L C w (.returned (.tuple #[v0, .agg #[.int .i64 (f 0), .int .i64 (f 1), .int .i64 (f 2), .int .i64 (f 3), .int .i64 (f 4), .int .i64 (f 5), .int .i64 (f 6)], .bool (B0 && B1)])) W7.drew) := by
    show LedLace _ _ _ _ _
    have hbw : b = w.heap.size := HBB.out
    cases hb0 : B0
    · exact .inr ⟨by rw [← HL0.out.1, hb0]; rfl, v0, _, _, _, _, _, _, _, rfl, by rw [← hbw]; exact hB7.drew⟩
    · cases hb1 : B1
      · exact .inr ⟨by rw [← HL1.out.1, hb1]; simp, v0, _, _, _, _, _, _, _, rfl, by rw [← hbw]; exact hB7.drew⟩
      · obtain ⟨q1, q2, q3⟩ := HR3.out hb0
        have hf := HL1.out.2 hb1
        refine .inl ⟨by rw [← HL0.out.1, hb0], by rw [← HL1.out.1, hb1], g', ?_, ?_, ?_, by rw [← hbw]; exact hB7.drew⟩
        · rw [q1, hf 0, hf 1, hf 2, hf 3, hf 4, hf 5, hf 6]; rfl
        · rw [hW7]; simpa using q2
        · have := rdK_put7 k1 q3 (f 0) (f 1) (f 2) (f 3) (f 4) (f 5) (f 6)
          rw [← hW7] at this
          rcases this with h | ⟨a, o, e1, e2, e3⟩
          · exact .inl h
          · exact .inr ⟨a, o, e1, e2, fun i hi => ⟨(e3 i hi).c0, (e3 i hi).c1, (e3 i hi).c2, (e3 i hi).c3⟩⟩
  have p0 := k2.rd 0 (by omega)
  have p1 := k2.rd 1 (by omega)
  have p2 := k2.rd 2 (by omega)
  have p3 := k2.rd 3 (by omega)
  have p4 := k2.rd 4 (by omega)
  have p5 := k2.rd 5 (by omega)
  have p6 := k2.rd 6 (by omega)
  have q0 := k1.fr 0 (by omega)
  have q1 := k1.fr 1 (by omega)
  have q2 := k1.fr 2 (by omega)
  have q3 := k1.fr 3 (by omega)
  have q4 := k1.fr 4 (by omega)
  have q5 := k1.fr 5 (by omega)
  have q6 := k1.fr 6 (by omega)
  have r0 := k1.rd 0 (by omega)
  have r1 := k1.rd 1 (by omega)
  have r2 := k1.rd 2 (by omega)
  have r3 := k1.rd 3 (by omega)
  have r4 := k1.rd 4 (by omega)
  have r5 := k1.rd 5 (by omega)
  have r6 := k1.rd 6 (by omega)
  have HW3 : Hid (W3 = _) := hW3
  have HW7 : Hid (W7 = _) := hW7
  clear HL0 HL1 HR2 HR3 HB1 HB2 HB3 HZ1 HZ2 hb2 hrd1 hao1 hpost k1 k2 k3 hB7 hW3 hW7
  go_wp2_with fail
  rw [← HW3.out]
  cases B0 <;> cases B1
  all_goals go_region
  all_goals go_wp2
  all_goals rw [← HW7.out]
  · refine bodyPost_ret (v := .tuple #[v0, .agg #[.int .i64 (f 0), .int .i64 (f 1), .int .i64 (f 2), .int .i64 (f 3), .int .i64 (f 4), .int .i64 (f 5), .int .i64 (f 6)], .bool false]) (by simp [results, Tryz.f32, go_sem, m0, m1, m2, m3, m4, m5, m6]) rfl ?_
    exact HE.out
  · refine bodyPost_ret (v := .tuple #[v0, .agg #[.int .i64 (f 0), .int .i64 (f 1), .int .i64 (f 2), .int .i64 (f 3), .int .i64 (f 4), .int .i64 (f 5), .int .i64 (f 6)], .bool false]) (by simp [results, Tryz.f32, go_sem, m0, m1, m2, m3, m4, m5, m6]) rfl ?_
    exact HE.out
  · refine bodyPost_ret (v := .tuple #[v0, .agg #[.int .i64 (f 0), .int .i64 (f 1), .int .i64 (f 2), .int .i64 (f 3), .int .i64 (f 4), .int .i64 (f 5), .int .i64 (f 6)], .bool false]) (by simp [results, Tryz.f32, go_sem, m0, m1, m2, m3, m4, m5, m6]) rfl ?_
    exact HE.out
  · refine bodyPost_ret (v := .tuple #[v0, .agg #[.int .i64 (f 0), .int .i64 (f 1), .int .i64 (f 2), .int .i64 (f 3), .int .i64 (f 4), .int .i64 (f 5), .int .i64 (f 6)], .bool true]) (by simp [results, Tryz.f32, go_sem, m0, m1, m2, m3, m4, m5, m6]) rfl ?_
    exact HE.out

end Fw
end Go.Proofs.YtplhgedhfflnbaaGreat

namespace Go.Proofs.YtplhgedhfflnbaaGreat
open Go.RowKit Go.Shelf
set_option maxRecDepth 100000
set_option linter.unusedVariables false
attribute [local go_sem] Oper.semAt_some
namespace Fw
open Kn (K okK)
open Bit (bit withB)
open Lc (at' RdK WordsOk laceB setB handsN roundS)
open Ch (leadK firmN sealAt)
open Sg (closedB)

theorem firm_none {L : List K} {C : List Int} {s : Int} (h : (closedB L s && Rm.coinsB C) = false) : Fm.firmI L C s = [] := by unfold Fm.firmI; rw [h]; rfl
theorem firm_some {L : List K} {C : List Int} {s : Int} (h : closedB L s = true) (hc : Rm.coinsB C = true) : Fm.firmI L C s = Tl.firmL L C s L.length := by unfold Fm.firmI; rw [h, hc]; rfl
theorem firmK_eq {L : List K} {C : List Int} {s k : Int} (h : closedB L s = true) (hc : Rm.coinsB C = true) : firmK L C s k = Fm.firmB L C s k := by
  unfold Fm.firmB firmK
  rw [firm_some h hc, Bool.eq_iff_iff, List.contains_iff_mem, Tl.mem_firm, Bool.and_eq_true, Bool.and_eq_true, decide_eq_true_eq, decide_eq_true_eq]
  constructor
  · rintro ⟨⟨p1, p2⟩, p3⟩
    exact ⟨k.toNat, by omega, by omega, p3⟩
  · rintro ⟨j, rfl, p2, p3⟩
    exact ⟨⟨by omega, by omega⟩, by rw [Int.toNat_natCast]; exact p3⟩
theorem closed_in {L : List K} {s : Int} (h : closedB L s = true) : (0 ≤ s ∧ s < 1152921504606846976) ∧ s / 2 ^ L.length = 0 := by
  unfold Sg.closedB at h
  rw [Bool.and_eq_true] at h
  obtain ⟨hl, q0, q1, qd, _, _⟩ := Lc.setB_parts h.1
  exact ⟨⟨q0, q1⟩, qd⟩
theorem closed_lace {L : List K} {s : Int} (h : laceB L = false) : closedB L s = false := by unfold Sg.closedB; rw [Lc.setB_eq, h]; rfl

set_option maxHeartbeats 1600000 in
theorem implFirm (g off cap : Nat) (L : List K) (ao : Option Addr) (cc : Nat) (C : List Int) (s k : Int) (w : World) (hlen : L.length ≤ 1099511627776) (hw : WordsOk L) (hs0 : -9223372036854775808 ≤ s) (hs1 : s ≤ 9223372036854775807) (hr : RdK w (some ⟨g, off, none⟩) L) (hl : C.length ≤ 1048576) (hrd : Lst.Rd w ao C) (hao : ∀ c, ao = some ⟨c, 0, none⟩ → c < w.heap.size) :
    Calls Tryz.prog 7 #[.slice (some ⟨g, off, none⟩) L.length cap, .slice ao C.length cc, .int .i64 s, .int .i64 k] w fun e w' => e = .returned (.bool (Fm.firmB L C s k)) ∧ Below w.heap.size w w' := by
  have hled := ledLace g off cap L ao cc C w hlen hw hr hl hrd hao
  clear hr hrd hao hw
  go_enter Tryz.func7, Tryz.ntmps7
  go_wp2_with fail
  refine hled.mono ?_
  clear hled
  rintro e w1 (⟨hlc, hc, g', rfl, hg', hrg, hb1⟩ | ⟨hn, v, y0, y1, y2, y3, y4, y5, y6, rfl, hb1⟩)
  · have HB0 : Hid (Below w.heap.size w (w1.alloc (.cells #[.int .i64 (Ch.leadI C 0), .int .i64 (Ch.leadI C 1), .int .i64 (Ch.leadI C 2), .int .i64 (Ch.leadI C 3), .int .i64 (Ch.leadI C 4), .int .i64 (Ch.leadI C 5), .int .i64 (Ch.leadI C 6)] 55))) := hb1.alloc hb1.size _
    have hB1 : Below w1.heap.size w1 (w1.alloc (.cells #[.int .i64 (Ch.leadI C 0), .int .i64 (Ch.leadI C 1), .int .i64 (Ch.leadI C 2), .int .i64 (Ch.leadI C 3), .int .i64 (Ch.leadI C 4), .int .i64 (Ch.leadI C 5), .int .i64 (Ch.leadI C 6)] 55)) := (Below.refl _ _).alloc (Nat.le_refl _) _
    have HRW : Hid (Db.RowI (w1.alloc (.cells #[.int .i64 (Ch.leadI C 0), .int .i64 (Ch.leadI C 1), .int .i64 (Ch.leadI C 2), .int .i64 (Ch.leadI C 3), .int .i64 (Ch.leadI C 4), .int .i64 (Ch.leadI C 5), .int .i64 (Ch.leadI C 6)] 55)) w1.heap.size 7 (fun i => Ch.leadI C (i : Int))) := Ch.rowI_seven w1 55 (fun i => Ch.leadI C (i : Int))
    generalize hv : w1.alloc (.cells #[.int .i64 (Ch.leadI C 0), .int .i64 (Ch.leadI C 1), .int .i64 (Ch.leadI C 2), .int .i64 (Ch.leadI C 3), .int .i64 (Ch.leadI C 4), .int .i64 (Ch.leadI C 5), .int .i64 (Ch.leadI C 6)] 55) = V at HB0 hB1 HRW
    have hgV := Nat.lt_of_lt_of_le hg' hB1.size
    have hrV := hrg.below hB1
    have hcl := Sg.closed g' 0 L.length L s V hlc hs0 hs1 hgV hrV
    rw [Sg.closedB_eq L s hlc] at hcl
    have HV : Hid (w1.alloc (.cells #[.int .i64 (Ch.leadI C 0), .int .i64 (Ch.leadI C 1), .int .i64 (Ch.leadI C 2), .int .i64 (Ch.leadI C 3), .int .i64 (Ch.leadI C 4), .int .i64 (Ch.leadI C 5), .int .i64 (Ch.leadI C 6)] 55) = V) := hv
    clear hv hg' hrg hb1 hB1
    cases hq : closedB L s
    · have HT : Hid (Fm.firmB L C s k = false) := by show _ = _; unfold Fm.firmB; rw [firm_none (by rw [hq]; rfl)]; rfl
      rw [hq] at hcl
      clear hq hlc hc
      go_wp2_with fail
      rw [HV.out]
      refine hcl.mono ?_
      rintro e w2 ⟨rfl, hb2⟩
      have HB2 : Hid (Below w.heap.size w w2) := HB0.out.trans (hb2.mono HB0.out.size)
      clear hcl hb2
      go_wp2
      go_ret
      exact ⟨by rw [HT.out]; rfl, HB2.out⟩
    · obtain ⟨⟨q0, q1⟩, qd⟩ := closed_in hq
      have HT : Hid (firmK L C s k = Fm.firmB L C s k) := firmK_eq hq hc
      rw [hq] at hcl
      clear hq
      go_wp2_with fail
      rw [HV.out]
      refine hcl.mono ?_
      rintro e w2 ⟨rfl, hb2⟩
      have HB2 : Hid (Below w.heap.size w w2) := HB0.out.trans (hb2.mono HB0.out.size)
      have hR2 := rowI_kept HRW.out hb2
      have HRW2 : Hid _ := hR2
      have hfm := firm g' 0 L.length L C s k w2 hlc hc (Nat.lt_of_lt_of_le hgV hb2.size) (hrV.below hb2) q0 q1 qd
      rw [HT.out] at hfm
      generalize hff : Fm.firmB L C s k = ff at hfm
      have HFF : Hid (Fm.firmB L C s k = ff) := hff
      have p0 := HRW2.out.rd 0 (by omega)
      have p1 := HRW2.out.rd 1 (by omega)
      have p2 := HRW2.out.rd 2 (by omega)
      have p3 := HRW2.out.rd 3 (by omega)
      have p4 := HRW2.out.rd 4 (by omega)
      have p5 := HRW2.out.rd 5 (by omega)
      have p6 := HRW2.out.rd 6 (by omega)
      clear hcl hb2 hlc hc q0 q1 qd HT hR2 HRW2 HRW hff hrV
      go_wp2_with fail
      refine hfm.mono ?_
      rintro e w3 ⟨rfl, hb3⟩
      have HB3 : Hid (Below w.heap.size w w3) := HB2.out.trans (hb3.mono HB2.out.size)
      clear hfm hb3 p0 p1 p2 p3 p4 p5 p6
      go_wp2
      go_ret
      exact ⟨by rw [HFF.out]; rfl, HB3.out⟩
  · have HB0 : Hid (Below w.heap.size w (w1.alloc (.cells #[.int .i64 y0, .int .i64 y1, .int .i64 y2, .int .i64 y3, .int .i64 y4, .int .i64 y5, .int .i64 y6] 55))) := hb1.alloc hb1.size _
    have HT : Hid (Fm.firmB L C s k = false) := by
      show _ = _
      unfold Fm.firmB
      rw [firm_none]
      · rfl
      · cases h1 : laceB L
        · rw [closed_lace h1]; rfl
        · rw [h1, Bool.true_and] at hn; rw [hn]; simp
    clear hn hb1
    go_wp2
    go_ret
    exact ⟨by rw [HT.out]; rfl, HB0.out⟩

set_option maxHeartbeats 1600000 in
theorem implLastFirm (g off cap : Nat) (L : List K) (ao : Option Addr) (cc : Nat) (C : List Int) (s : Int) (w : World) (hlen : L.length ≤ 1099511627776) (hw : WordsOk L) (hs0 : -9223372036854775808 ≤ s) (hs1 : s ≤ 9223372036854775807) (hr : RdK w (some ⟨g, off, none⟩) L) (hl : C.length ≤ 1048576) (hrd : Lst.Rd w ao C) (hao : ∀ c, ao = some ⟨c, 0, none⟩ → c < w.heap.size) :
    Calls Tryz.prog 9 #[.slice (some ⟨g, off, none⟩) L.length cap, .slice ao C.length cc, .int .i64 s] w fun e w' => e = .returned (.int .i64 (Fm.lastI L C s)) ∧ Below w.heap.size w w' := by
  have hled := ledLace g off cap L ao cc C w hlen hw hr hl hrd hao
  clear hr hrd hao hw
  go_enter Tryz.func9, Tryz.ntmps9
  go_wp2_with fail
  refine hled.mono ?_
  clear hled
  rintro e w1 (⟨hlc, hc, g', rfl, hg', hrg, hb1⟩ | ⟨hn, v, y0, y1, y2, y3, y4, y5, y6, rfl, hb1⟩)
  · have HB0 : Hid (Below w.heap.size w (w1.alloc (.cells #[.int .i64 (Ch.leadI C 0), .int .i64 (Ch.leadI C 1), .int .i64 (Ch.leadI C 2), .int .i64 (Ch.leadI C 3), .int .i64 (Ch.leadI C 4), .int .i64 (Ch.leadI C 5), .int .i64 (Ch.leadI C 6)] 55))) := hb1.alloc hb1.size _
    have hB1 : Below w1.heap.size w1 (w1.alloc (.cells #[.int .i64 (Ch.leadI C 0), .int .i64 (Ch.leadI C 1), .int .i64 (Ch.leadI C 2), .int .i64 (Ch.leadI C 3), .int .i64 (Ch.leadI C 4), .int .i64 (Ch.leadI C 5), .int .i64 (Ch.leadI C 6)] 55)) := (Below.refl _ _).alloc (Nat.le_refl _) _
    have HRW : Hid (Db.RowI (w1.alloc (.cells #[.int .i64 (Ch.leadI C 0), .int .i64 (Ch.leadI C 1), .int .i64 (Ch.leadI C 2), .int .i64 (Ch.leadI C 3), .int .i64 (Ch.leadI C 4), .int .i64 (Ch.leadI C 5), .int .i64 (Ch.leadI C 6)] 55)) w1.heap.size 7 (fun i => Ch.leadI C (i : Int))) := Ch.rowI_seven w1 55 (fun i => Ch.leadI C (i : Int))
    generalize hv : w1.alloc (.cells #[.int .i64 (Ch.leadI C 0), .int .i64 (Ch.leadI C 1), .int .i64 (Ch.leadI C 2), .int .i64 (Ch.leadI C 3), .int .i64 (Ch.leadI C 4), .int .i64 (Ch.leadI C 5), .int .i64 (Ch.leadI C 6)] 55) = V at HB0 hB1 HRW
    have hgV := Nat.lt_of_lt_of_le hg' hB1.size
    have hrV := hrg.below hB1
    have hcl := Sg.closed g' 0 L.length L s V hlc hs0 hs1 hgV hrV
    rw [Sg.closedB_eq L s hlc] at hcl
    have HV : Hid (w1.alloc (.cells #[.int .i64 (Ch.leadI C 0), .int .i64 (Ch.leadI C 1), .int .i64 (Ch.leadI C 2), .int .i64 (Ch.leadI C 3), .int .i64 (Ch.leadI C 4), .int .i64 (Ch.leadI C 5), .int .i64 (Ch.leadI C 6)] 55) = V) := hv
    clear hv hg' hrg hb1 hB1
    cases hq : closedB L s
    · have HT : Hid (Fm.lastI L C s = -1) := by show _ = _; unfold Fm.lastI; rw [firm_none (by rw [hq]; rfl)]; rfl
      rw [hq] at hcl
      clear hq hlc hc
      go_wp2_with fail
      rw [HV.out]
      refine hcl.mono ?_
      rintro e w2 ⟨rfl, hb2⟩
      have HB2 : Hid (Below w.heap.size w w2) := HB0.out.trans (hb2.mono HB0.out.size)
      clear hcl hb2
      go_wp2
      go_ret
      exact ⟨by rw [HT.out]; rfl, HB2.out⟩
    · obtain ⟨⟨q0, q1⟩, qd⟩ := closed_in hq
      have HT : Hid (Tl.lastT L (Tl.firmL L C s L.length) = Fm.lastI L C s) := by show _ = _; unfold Fm.lastI; rw [firm_some hq hc]
      rw [hq] at hcl
      clear hq
      go_wp2_with fail
      rw [HV.out]
      refine hcl.mono ?_
      rintro e w2 ⟨rfl, hb2⟩
      have HB2 : Hid (Below w.heap.size w w2) := HB0.out.trans (hb2.mono HB0.out.size)
      have hR2 := rowI_kept HRW.out hb2
      have HRW2 : Hid _ := hR2
      have hfm := lastFirm g' 0 L.length L C s w2 hlc hc (Nat.lt_of_lt_of_le hgV hb2.size) (hrV.below hb2) q0 q1 qd
      rw [HT.out] at hfm
      generalize hff : Fm.lastI L C s = ff at hfm
      have HFF : Hid (Fm.lastI L C s = ff) := hff
      have p0 := HRW2.out.rd 0 (by omega)
      have p1 := HRW2.out.rd 1 (by omega)
      have p2 := HRW2.out.rd 2 (by omega)
      have p3 := HRW2.out.rd 3 (by omega)
      have p4 := HRW2.out.rd 4 (by omega)
      have p5 := HRW2.out.rd 5 (by omega)
      have p6 := HRW2.out.rd 6 (by omega)
      clear hcl hb2 hlc hc q0 q1 qd HT hR2 HRW2 HRW hff hrV
      go_wp2_with fail
      refine hfm.mono ?_
      rintro e w3 ⟨rfl, hb3⟩
      have HB3 : Hid (Below w.heap.size w w3) := HB2.out.trans (hb3.mono HB2.out.size)
      clear hfm hb3 p0 p1 p2 p3 p4 p5 p6
      go_wp2
      go_ret
      exact ⟨by rw [HFF.out]; rfl, HB3.out⟩
  · have HB0 : Hid (Below w.heap.size w (w1.alloc (.cells #[.int .i64 y0, .int .i64 y1, .int .i64 y2, .int .i64 y3, .int .i64 y4, .int .i64 y5, .int .i64 y6] 55))) := hb1.alloc hb1.size _
    have HT : Hid (Fm.lastI L C s = -1) := by
      show _ = _
      unfold Fm.lastI
      rw [firm_none]
      · rfl
      · cases h1 : laceB L
        · rw [closed_lace h1]; rfl
        · rw [h1, Bool.true_and] at hn; rw [hn]; simp
    clear hn hb1
    go_wp2
    go_ret
    exact ⟨by rw [HT.out]; rfl, HB0.out⟩

end Fw
end Go.Proofs.YtplhgedhfflnbaaGreat

namespace Go.Proofs.YtplhgedhfflnbaaGreat
open Go.RowKit Go.Shelf
set_option maxRecDepth 100000
set_option linter.unusedVariables false
attribute [local go_sem] Oper.semAt_some
namespace Fw
open Kn (K okK)
open Bit (bit withB)
open Lc (at' RdK WordsOk laceB setB handsN roundS)
open Ch (leadK firmN sealAt)
open Sg (closedB)
open Ak (onlyF)

/-- the set of some numbers -/
def setOf (pre : List Nat) : Int := pre.foldl (fun x k => Base.withI x ((k : Nat) : Int)) 0
theorem setOf_snoc (pre : List Nat) (k : Nat) : setOf (pre ++ [k]) = Base.withI (setOf pre) (k : Int) := by
  unfold setOf
  rw [List.foldl_append]
  rfl
theorem setOf_from : ∀ (l : List Nat) (x : Int), (∀ k ∈ l, k < 60) → (0 ≤ x ∧ x < 1152921504606846976) → (0 ≤ l.foldl (fun x k => Base.withI x ((k : Nat) : Int)) x ∧ l.foldl (fun x k => Base.withI x ((k : Nat) : Int)) x < 1152921504606846976) ∧ ∀ j : Nat, bit (l.foldl (fun x k => Base.withI x ((k : Nat) : Int)) x) j = true ↔ (bit x j = true ∨ j ∈ l) := by
  intro l
  induction l with
  | nil => intro x _ hx; exact ⟨hx, fun j => by simp⟩
  | cons a l ih =>
    intro x hl hx
    have ha := hl a (by simp)
    simp only [List.foldl_cons]
    have e : Base.withI x (a : Int) = withB x a := by
      unfold Base.withI
      rw [(Base.okB_iff _).2 hx, (Base.inB_iff _).2 ⟨by omega, by omega⟩]
      simp
    rw [e]
    have := ih (withB x a) (fun k hk => hl k (by simp [hk])) (Bit.withB_bd x hx.1 hx.2 a ha)
    refine ⟨this.1, fun j => ?_⟩
    rw [this.2 j, Bit.bit_withB x hx.1, Bool.or_eq_true, decide_eq_true_eq, List.mem_cons]
    constructor
    · rintro ((h | h) | h)
      · exact .inr (.inl h)
      · exact .inl h
      · exact .inr (.inr h)
    · rintro (h | h | h)
      · exact .inl (.inr h)
      · exact .inl (.inl h)
      · exact .inr h
theorem setOf_bits {pre : List Nat} (h : ∀ k ∈ pre, k < 60) : (0 ≤ setOf pre ∧ setOf pre < 1152921504606846976) ∧ ∀ j : Nat, bit (setOf pre) j = true ↔ j ∈ pre := by
  have := setOf_from pre 0 h ⟨Int.le_refl 0, by decide⟩
  refine ⟨this.1, fun j => ?_⟩
  show bit (pre.foldl _ 0) j = true ↔ _
  rw [this.2 j, Lc.bit_zero]
  simp
theorem firm_mem {L : List K} (h60 : L.length ≤ 60) {C : List Int} {s : Int} {ys : List Nat} (h : FirmAll L C s ys) : Memb.memI (setOf ys) = Tl.firmL L C s L.length := by
  have hb := setOf_bits (pre := ys) (fun k hk => by have := ((h k).1 hk).1; omega)
  have hbit : ∀ j, bit (setOf ys) j = (decide (j < L.length) && firmN L C s j) := fun j => by
    rw [Bool.eq_iff_iff, hb.2 j, h j, Bool.and_eq_true, decide_eq_true_eq]
  have hm : Memb.memI (setOf ys) = Bit.memTo (setOf ys) 60 := by unfold Memb.memI; rw [(Base.okB_iff _).2 hb.1]; rfl
  rw [hm]
  have lo : ∀ n, n ≤ L.length → Bit.memTo (setOf ys) n = Tl.firmL L C s n := fun n => by
    induction n with
    | zero => intro _; rfl
    | succ n ih =>
      intro hn
      rw [Fm.firmL_step, ← ih (by omega)]
      have := hbit n
      rw [decide_eq_true (by omega : n < L.length), Bool.true_and] at this
      rw [← this, Bit.memTo_succ]
      cases bit (setOf ys) n
      · simp
      · simp
  have hi : ∀ d, Bit.memTo (setOf ys) (L.length + d) = Bit.memTo (setOf ys) L.length := fun d => by
    induction d with
    | zero => rfl
    | succ d ih =>
      have := hbit (L.length + d)
      rw [decide_eq_false (by omega), Bool.false_and] at this
      rw [← ih]
      show Bit.memTo (setOf ys) (L.length + d + 1) = _
      rw [Bit.memTo_succ, this]
      simp
  have := hi (60 - L.length)
  rw [show L.length + (60 - L.length) = 60 by omega] at this
  rw [this, lo _ (Nat.le_refl _)]

theorem nums_empty (w w1 : World) (hb : Below w.heap.size w w1) : Sg.NumsPost [] w (.returned (.slice (some ⟨w1.heap.size, 0, none⟩) 0 0)) (w1.alloc (.cells #[] 2)) := by
  refine ⟨some ⟨w1.heap.size, 0, none⟩, 0, rfl, ?_, hb.alloc hb.size _⟩
  obtain ⟨a1, a2⟩ := Memb.own_empty w1
  refine ⟨a1, ?_⟩
  rcases a2 with a2 | ⟨g2, c2, cur, e1, e2, rest⟩
  · exact .inl a2
  · exact .inr ⟨g2, c2, cur, e1, Nat.le_trans hb.size e2, rest⟩

/-- the boxes in front of the range: whose turn it is, and the set to be found -/
theorem front (w : World) (o : Obj) : ((w.alloc o).heap[w.heap.size]? = some o) ∧ Below w.heap.size w (w.alloc o) ∧ (w.alloc o).heap.size = w.heap.size + 1 := ⟨World.alloc_heap_new w o, (Below.refl _ w).alloc (Nat.le_refl _) _, by simp⟩

set_option maxHeartbeats 2000000 in
theorem implFirmOnes (g off cap : Nat) (L : List K) (ao : Option Addr) (cc : Nat) (C : List Int) (s : Int) (w : World) (hlen : L.length ≤ 1099511627776) (hw : WordsOk L) (hs0 : -9223372036854775808 ≤ s) (hs1 : s ≤ 9223372036854775807) (hr : RdK w (some ⟨g, off, none⟩) L) (hl : C.length ≤ 1048576) (hrd : Lst.Rd w ao C) (hao : ∀ c, ao = some ⟨c, 0, none⟩ → c < w.heap.size) :
    Calls Tryz.prog 8 #[.slice (some ⟨g, off, none⟩) L.length cap, .slice ao C.length cc, .int .i64 s] w (Sg.NumsPost (Fm.firmI L C s) w) := by
  have hled := ledLace g off cap L ao cc C w hlen hw hr hl hrd hao
  clear hr hrd hao hw
  cases hq : (closedB L s && Rm.coinsB C)
  · have HT : Hid (Fm.firmI L C s = []) := firm_none hq
    rw [HT.out]
    go_enter Tryz.func8, Tryz.ntmps8
    go_wp2_with fail
    refine hled.mono ?_
    clear hled
    rintro e w1 (⟨hlc, hc, g', rfl, hg', hrg, hb1⟩ | ⟨hn, v, y0, y1, y2, y3, y4, y5, y6, rfl, hb1⟩)
    · have HB0 : Hid (Below w.heap.size w (w1.alloc (.cells #[.int .i64 (Ch.leadI C 0), .int .i64 (Ch.leadI C 1), .int .i64 (Ch.leadI C 2), .int .i64 (Ch.leadI C 3), .int .i64 (Ch.leadI C 4), .int .i64 (Ch.leadI C 5), .int .i64 (Ch.leadI C 6)] 55))) := hb1.alloc hb1.size _
      have hB1 : Below w1.heap.size w1 (w1.alloc (.cells #[.int .i64 (Ch.leadI C 0), .int .i64 (Ch.leadI C 1), .int .i64 (Ch.leadI C 2), .int .i64 (Ch.leadI C 3), .int .i64 (Ch.leadI C 4), .int .i64 (Ch.leadI C 5), .int .i64 (Ch.leadI C 6)] 55)) := (Below.refl _ _).alloc (Nat.le_refl _) _
      generalize hv : w1.alloc (.cells #[.int .i64 (Ch.leadI C 0), .int .i64 (Ch.leadI C 1), .int .i64 (Ch.leadI C 2), .int .i64 (Ch.leadI C 3), .int .i64 (Ch.leadI C 4), .int .i64 (Ch.leadI C 5), .int .i64 (Ch.leadI C 6)] 55) = V at HB0 hB1
      have hcl := Sg.closed g' 0 L.length L s V hlc hs0 hs1 (Nat.lt_of_lt_of_le hg' hB1.size) (hrg.below hB1)
      rw [Sg.closedB_eq L s hlc] at hcl
      have hqc : closedB L s = false := by rw [hc] at hq; simpa using hq
      rw [hqc] at hcl
      have HV : Hid (w1.alloc (.cells #[.int .i64 (Ch.leadI C 0), .int .i64 (Ch.leadI C 1), .int .i64 (Ch.leadI C 2), .int .i64 (Ch.leadI C 3), .int .i64 (Ch.leadI C 4), .int .i64 (Ch.leadI C 5), .int .i64 (Ch.leadI C 6)] 55) = V) := hv
      clear hv hg' hrg hb1 hB1 hlc hc hq hqc HT
      go_wp2_with fail
      rw [HV.out]
      refine hcl.mono ?_
      rintro e w2 ⟨rfl, hb2⟩
      have HP : Hid (_) := nums_empty w w2 (HB0.out.trans (hb2.mono HB0.out.size))
      clear hcl hb2
      go_wp2
      go_ret
      exact HP.out
    · have hp0 := nums_empty w (w1.alloc (.cells #[.int .i64 y0, .int .i64 y1, .int .i64 y2, .int .i64 y3, .int .i64 y4, .int .i64 y5, .int .i64 y6] 55)) (hb1.alloc hb1.size _)
      rw [World.size_alloc] at hp0
      have HP : Hid (_) := hp0
      clear hn hb1 hq HT hp0
      go_wp2
      go_ret
      exact HP.out
  · have hcl0 : closedB L s = true ∧ Rm.coinsB C = true := by rw [Bool.and_eq_true] at hq; exact hq
    obtain ⟨hqc, hqk⟩ := hcl0
    have hlc : laceB L = true := by
      cases h : laceB L
      · rw [closed_lace h] at hqc; cases hqc
      · rfl
    have h60 := ((Lc.lace_iff L).1 hlc).1
    obtain ⟨⟨q0, q1⟩, qd⟩ := closed_in hqc
    rw [firm_some hqc hqk]
    refine (callsIn_wide (n := 3)).1 ?_
    refine callsIn_of_wp_marks Tryz.func8 rfl trivial ?_ rfl
    simp only [Tryz.ntmps8, List.size_toArray, List.length_cons, List.length_nil, Nat.reduceAdd, Nat.reduceSub, Array.replicate_succ, Array.replicate_zero, List.push_toArray, List.append_toArray, List.nil_append, List.cons_append]
    gi_wp2_with fail
    refine ⟨trivial, (callsIn_wide.2 hled).mono ?_⟩
    clear hled
    rintro e w1 (⟨_, hc, g', rfl, hg', hrg, hb1⟩ | ⟨hn, v, y0, y1, y2, y3, y4, y5, y6, rfl, hb1⟩)
    · obtain ⟨f1, f2, f3⟩ := front w1 (.cells #[.int .i64 (Ch.leadI C 0), .int .i64 (Ch.leadI C 1), .int .i64 (Ch.leadI C 2), .int .i64 (Ch.leadI C 3), .int .i64 (Ch.leadI C 4), .int .i64 (Ch.leadI C 5), .int .i64 (Ch.leadI C 6)] 55)
      have HRW : Hid (Db.RowI (w1.alloc (.cells #[.int .i64 (Ch.leadI C 0), .int .i64 (Ch.leadI C 1), .int .i64 (Ch.leadI C 2), .int .i64 (Ch.leadI C 3), .int .i64 (Ch.leadI C 4), .int .i64 (Ch.leadI C 5), .int .i64 (Ch.leadI C 6)] 55)) w1.heap.size 7 (fun i => Ch.leadI C (i : Int))) := Ch.rowI_seven w1 55 (fun i => Ch.leadI C (i : Int))
      generalize hv : w1.alloc (.cells #[.int .i64 (Ch.leadI C 0), .int .i64 (Ch.leadI C 1), .int .i64 (Ch.leadI C 2), .int .i64 (Ch.leadI C 3), .int .i64 (Ch.leadI C 4), .int .i64 (Ch.leadI C 5), .int .i64 (Ch.leadI C 6)] 55) = V at f1 f2 f3 HRW
      have hgV := Nat.lt_of_lt_of_le hg' f2.size
      have hrV := hrg.below f2
      have hBV : Below w.heap.size w V := hb1.trans (f2.mono hb1.size)
      have hcl := Sg.closed g' 0 L.length L s V hlc hs0 hs1 hgV hrV
      rw [Sg.closedB_eq L s hlc, hqc] at hcl
      have HV : Hid (w1.alloc (.cells #[.int .i64 (Ch.leadI C 0), .int .i64 (Ch.leadI C 1), .int .i64 (Ch.leadI C 2), .int .i64 (Ch.leadI C 3), .int .i64 (Ch.leadI C 4), .int .i64 (Ch.leadI C 5), .int .i64 (Ch.leadI C 6)] 55) = V) := hv
      clear hv hg' hrg hb1
      gi_wp2_with fail
      rw [HV.out]
      refine ⟨trivial, (callsIn_wide.2 hcl).mono ?_⟩
      rintro e w2 ⟨rfl, hb2⟩
      have hR2 := rowI_kept HRW.out hb2
      have hR3 := Nd.rowI_alloc hR2 (.cells #[.int .i64 0] 59)
      have HR3 : Hid _ := hR3
      have p0 := HR3.out.rd 0 (by omega)
      have p1 := HR3.out.rd 1 (by omega)
      have p2 := HR3.out.rd 2 (by omega)
      have p3 := HR3.out.rd 3 (by omega)
      have p4 := HR3.out.rd 4 (by omega)
      have p5 := HR3.out.rd 5 (by omega)
      have p6 := HR3.out.rd 6 (by omega)
      have hrA := hrV.below hb2
      have hgA := Nat.lt_of_lt_of_le hgV hb2.size
      have hBA : Below w.heap.size w w2 := hBV.trans (hb2.mono hBV.size)
      obtain ⟨e1, e2, e3⟩ := front w2 (.cells #[.int .i64 0] 59)
      clear hcl hb2 hR2 hR3 HR3 HRW hrV hgV hBV f1 f2 f3
      gi_wp2_with (refine ⟨trivial, ?_⟩; gi_at_call 35; refine (callsIn_wide.2 (firmOnes _ _ _ _ _ _ _ _ _ _ _ _)).mono ?_; rintro e w' ⟨rfl, rfl⟩)
      clear p0 p1 p2 p3 p4 p5 p6
      generalize w2.alloc (.cells #[.int .i64 0] 59) = w3 at e1 e2 e3 ⊢
      obtain ⟨⟨k1, k2, k3⟩, hB5, hs5⟩ := boxes w3 (.cells #[.slice (some ⟨g', 0, none⟩) L.length L.length] 52) (.cells #[.int .i64 (Ch.leadI C 0), .int .i64 (Ch.leadI C 1), .int .i64 (Ch.leadI C 2), .int .i64 (Ch.leadI C 3), .int .i64 (Ch.leadI C 4), .int .i64 (Ch.leadI C 5), .int .i64 (Ch.leadI C 6)] 55) (.cells #[.int .i64 s] 59)
      generalize ((w3.alloc (.cells #[.slice (some ⟨g', 0, none⟩) L.length L.length] 52)).alloc (.cells #[.int .i64 (Ch.leadI C 0), .int .i64 (Ch.leadI C 1), .int .i64 (Ch.leadI C 2), .int .i64 (Ch.leadI C 3), .int .i64 (Ch.leadI C 4), .int .i64 (Ch.leadI C 5), .int .i64 (Ch.leadI C 6)] 55)).alloc (.cells #[.int .i64 s] 59) = w5 at k1 k2 k3 hB5 hs5 ⊢
      rw [e3] at k1 k2 k3 hB5 hs5
      have hf5 : w5.heap[w2.heap.size]? = some (.cells #[.int .i64 0] 59 (0, 0)) := (hB5.block _ (by omega)).trans e1
      have hBw : Below w2.heap.size w2 w5 := e2.trans (hB5.mono (by omega))
      refine Ov.over rfl (by omega) (gf := 69) (lb := #[.pointer (some ⟨w2.heap.size + 1, 0, none⟩), .pointer (some ⟨w2.heap.size + 1 + 1, 0, none⟩), .pointer (some ⟨w2.heap.size + 1 + 2, 0, none⟩)]) rfl trivial (enters_of Tryz.func69 (by kernel_rfl) rfl)
        (firm_stops 2 (by omega) (w2.heap.size + 1) (w2.heap.size + 1 + 1) (w2.heap.size + 1 + 2) w2.heap.size w2.heap.size g' 0 L.length L C s hlc hqk q0 q1 qd hgA w5 (by omega) (by omega) (by omega) (by omega) (by omega) k1 k2 k3 (hrA.below hBw)) kpB_t (fun A r r' h => kpB_b (by omega) A r r' h) (fun _ => rfl)
        (fun pre W => W.heap[w2.heap.size]? = some (.cells #[.int .i64 (setOf pre)] 59 (0, 0)) ∧ Below w2.heap.size w2 W)
        (fun _ _ _ => False)
        (fun q A B h hb => ⟨(hb.block _ (by omega)).trans h.1, h.2.trans (hb.mono (by omega))⟩)
        (fun c q A B h hb => h)
        ⟨hf5, hBw⟩
        (fun x => { tmps := #[.slice (some ⟨g, off, none⟩) L.length cap, .slice ao C.length cc, .int .i64 s, undef, undef, undef, .slice none 0 0, .slice (some ⟨g', 0, none⟩) L.length L.length, .pointer (some ⟨w1.heap.size, 0, none⟩), .bool true, .pointer (some ⟨w2.heap.size, 0, none⟩), .int .i64 (x : Int), .tuple #[.slice (some ⟨g', 0, none⟩) L.length L.length, .agg #[.int .i64 (Ch.leadI C 0), .int .i64 (Ch.leadI C 1), .int .i64 (Ch.leadI C 2), .int .i64 (Ch.leadI C 3), .int .i64 (Ch.leadI C 4), .int .i64 (Ch.leadI C 5), .int .i64 (Ch.leadI C 6)], .bool true], .slice (some ⟨g, off, none⟩) L.length cap, .slice ao C.length cc, .tuple #[.slice (some ⟨g', 0, none⟩) L.length L.length, .agg #[.int .i64 (Ch.leadI C 0), .int .i64 (Ch.leadI C 1), .int .i64 (Ch.leadI C 2), .int .i64 (Ch.leadI C 3), .int .i64 (Ch.leadI C 4), .int .i64 (Ch.leadI C 5), .int .i64 (Ch.leadI C 6)], .bool true], .slice (some ⟨g', 0, none⟩) L.length L.length, .agg #[.int .i64 (Ch.leadI C 0), .int .i64 (Ch.leadI C 1), .int .i64 (Ch.leadI C 2), .int .i64 (Ch.leadI C 3), .int .i64 (Ch.leadI C 4), .int .i64 (Ch.leadI C 5), .int .i64 (Ch.leadI C 6)], .bool true, .bool true, .bool false, .bool false, .slice (some ⟨g', 0, none⟩) L.length L.length, .int .i64 s, .bool true, .bool false, .bool false, undef, .slice (some ⟨g', 0, none⟩) L.length L.length, .agg #[.int .i64 (Ch.leadI C 0), .int .i64 (Ch.leadI C 1), .int .i64 (Ch.leadI C 2), .int .i64 (Ch.leadI C 3), .int .i64 (Ch.leadI C 4), .int .i64 (Ch.leadI C 5), .int .i64 (Ch.leadI C 6)], .int .i64 s, .func (.func 69) #[] #[.pointer (some ⟨w2.heap.size + 1, 0, none⟩), .pointer (some ⟨w2.heap.size + 1 + 1, 0, none⟩), .pointer (some ⟨w2.heap.size + 1 + 2, 0, none⟩)], .int .i64 (x : Int), undef, undef, undef, undef, undef, undef], defers := [] }) ?assign ?body ?done ?stop
      case assign =>
        intro l x W K hK
        gi_wp2
        exact hK
      case body =>
        rintro l pre x W ⟨hc0, hB⟩ _
        have c0 := cell_of hc0
        have c1 := frozen_of hc0
        have HW : Hid (Base.withI (setOf pre) (x : Int) = setOf (pre ++ [x])) := (setOf_snoc pre x).symm
        gi_wp2_with (refine ⟨trivial, ?_⟩; gi_at_call 36; refine (CallsIn.inRound l (callsIn_wide.2 (Base.withM _ _ _))).mono ?_; rintro e w' ⟨rfl, rfl⟩; rw [HW.out])
        exact ⟨KeepsOthers.setCell _ _ _, kpB_put _ (Nat.le_refl _) _, one_setCell hc0, hB.setCell (p := ⟨w2.heap.size, 0, none⟩) (Nat.le_refl _) _⟩
      case done =>
        rintro ys W hS ⟨hc0, hB⟩ hK
        have c0 := cell_of hc0
        have hT := firm_mem h60 hS
        gi_wp2_with fail
        refine ⟨trivial, (callsIn_wide.2 (Memb.picked (setOf ys) W)).mono ?_⟩
        rintro e w6 ⟨bo, bc, rfl, hown, hb6⟩
        rw [hT] at hown ⊢
        have hK6 := (hb6.block _ (Array.getElem?_eq_some_iff.1 hK).1).trans hK
        have hB6 : Below w.heap.size w w6 := hBA.trans ((hB.mono hBA.size).trans (hb6.mono (Nat.le_trans hBA.size hB.size)))
        have hsz := hB.size
        have hsw := hBA.size
        rw [hs5] at hK6
        clear hc0 hB hK hb6 hT c0
        gi_wp2
        refine ⟨by simp, .inl ⟨_, _, rfl, run_takeDeferred hK6, ?_⟩⟩
        refine ⟨_, results_tmp rfl _ _ _, bo, bc, rfl, ?_, hB6.trans ⟨rfl, rfl, rfl, by simp, fun j hj => World.putObj_heap_other (by omega)⟩⟩
        have ho := ownsRow_putObj hown (.deferred none) hK6 rfl
        obtain ⟨a1, a2⟩ := ho
        refine ⟨a1, ?_⟩
        rcases a2 with a2 | ⟨g2, c2, cur, x1, x2, rest⟩
        · exact .inl a2
        · exact .inr ⟨g2, c2, cur, x1, by omega, rest⟩
      case stop =>
        rintro c pre W _ h
        exact h.elim
    · rw [hlc, hqk] at hn
      cases hn

end Fw
end Go.Proofs.YtplhgedhfflnbaaGreat

namespace Go.Proofs.YtplhgedhfflnbaaGreat
open Go.RowKit
namespace Rm

theorem drawsBad : DrawsBad := fun c a len cap ao cp L co nc cc go nh hc bad w hl hca hlc hr hn => l18DrawBad c a len cap ao cp L co nc cc go nh hc bad w hl hca hlc hr hn
theorem drawsRoom : DrawsRoom := fun c a len cap w hl hc => l18Draw' (l18DrawActs' drawsBad (l18DrawAct' drawsBad)) c a len cap w hl hc

end Rm
end Go.Proofs.YtplhgedhfflnbaaGreat

namespace Go.Proofs.YtplhgedhfflnbaaGreat
open Go.RowKit
namespace Rm

theorem drawsRoomC : DrawsRoomC := fun c a len cap w hl hc => l18DrawC (l18DrawActs' drawsBad (l18DrawAct' drawsBad)) c a len cap w hl hc

end Rm
end Go.Proofs.YtplhgedhfflnbaaGreat

namespace Go.Proofs.YtplhgedhfflnbaaGreat.fnStaysFirm
open Go.ChangeShapes Go.WideShapes Go.ChangeAt Go.RowKit
set_option linter.unusedVariables false
set_option maxRecDepth 100000

theorem own : ownKnob Tryz.prog.godebug = none := by kernel_rfl
theorem laidOut : laidOutB Tryz.prog = true := by kernel_rfl

/-- what is told of a slice of integers that came in: it is nil, or it leads to a row of cells that hold these -/
def IsRow (k : IntKind) (w : World) (a : Option Addr) (len cap : Nat) (zs : List Int) : Prop :=
  (a = none ∧ len = 0 ∧ cap = 0 ∧ zs = []) ∨
  ∃ x, a = some x ∧ len ≤ cap ∧ cap ≤ maxLen ∧ zs.length = cap ∧ (∀ i, i < zs.length → w.cell? (x.add i) = some (.int k (zs.getD i 0))) ∧ ∀ n ∈ zs, (Lit.int k n).wf = true

theorem code_of {w : World} {a : Option Addr} {len cap : Nat} {zs : List Int} (h : IsRow .u8 w a len cap zs) : Cur.Code w a len := by
  rcases h with ⟨_, h, _, _⟩ | ⟨x, rfl, hl, _, hz, hcell, hwz⟩
  · exact .inl h
  · by_cases h0 : len = 0
    · exact .inl h0
    · obtain ⟨b, off, spot⟩ := x
      have hc := hcell 0 (by omega)
      have hspot : spot = none := by simpa [Addr.add] using World.cell?_spot hc
      subst hspot
      refine .inr ⟨b, off, rfl, ?_, fun j hj => ?_⟩
      · have := block_lt_of_cell hc; simpa [Addr.add] using this
      · have hcj := hcell j (by omega)
        have hj' : j < zs.length := by omega
        have hw := hwz (zs.getD j 0) (by simp [List.getD, List.getElem?_eq_getElem hj'])
        refine ⟨zs.getD j 0, ?_, ?_⟩
        · by_cases hj0 : j = 0
          · subst hj0; simpa [Addr.add] using hcj
          · simpa [Addr.add, hj0] using hcj
        simpa [Lit.wf, IntKind.min, IntKind.max, IntKind.signed, IntKind.bits] using hw

theorem lifted (os : Os) (started : os.Started) (H : Type) (enc : TypeId × Value → H) :
    ReturnsInHanded {} Tryz.checked os 4 .any (Rows.fnStaysFirmSpec.pre6 enc Tryz.prog Tryz.f4 Rows.fnStaysFirmRow.domain false) (Rows.fnStaysFirmSpec.post enc Tryz.prog Tryz.f4 false true false false) := by
  refine returnsInHanded_of_change (C := Tryz.checked) own started (by kernel_rfl) Tryz.func4
    (ChangeSpec.witness6 (enc := enc) (C := Tryz.checked) false ⟨#[], #[.slice none 0 0], []⟩ 8 (by kernel_rfl) (by kernel_rfl) (by kernel_rfl) (by kernel_rfl)) ?_
  intro W base args ds gs before hval0 hW hcnd _
  have hval : ∀ (j : Nat) t v, Tryz.f4.params[j]? = some t → args[j]? = some v → Value.okWide Tryz.prog W .any base t v := hval0
  have hW' := hW
  obtain ⟨p, q, hA0, hV, rfl, hfz, hnd⟩ := hW
  have hA : DataW.TrodAll enc Tryz.prog W 0 (fun _ => true) true Tryz.f4.params.toList args.toList ds p := hA0
  rw [Tryz.params4] at hA hval
  obtain ⟨v0, vs0, d0, ds0, p0, q0, hargs, rfl, rfl, h0, r0⟩ := trodAll_cons hA
  obtain ⟨rfl, rfl, rfl⟩ := trodAll_nil r0
  obtain rfl : args = #[v0] := by cases args; simp_all
  obtain ⟨rfl, rfl⟩ := trodVars_none hV
  obtain ⟨a0, len0, cap0, rfl⟩ := okWide_slice Tryz.underlying22 (hval 0 22 v0 rfl rfl)
  have k0 := h0
  have lt0 : ∀ x ∈ p0, x.block < W.heap.size := by obtain ⟨m, hm⟩ := k0; exact DataW.trod_lt m _ _ _ hm
  obtain ⟨z0, w0⟩ : ∃ zs, IsRow .u8 W a0 len0 cap0 zs := by
    obtain ⟨fuel, hf⟩ := h0
    rcases open_ints Tryz.underlying22 Tryz.underlying5 (by kernel_rfl) hf with ⟨hcs, _⟩ | ⟨x, l, c, zs, hcs, _, hl, hm, hz, _, hcell, hwz⟩
    · simp [Value.cells] at hcs
      obtain ⟨rfl, rfl, rfl⟩ := hcs
      exact ⟨[], .inl ⟨rfl, rfl, rfl, rfl⟩⟩
    · simp [Value.cells] at hcs
      obtain ⟨rfl, rfl, rfl⟩ := hcs
      exact ⟨zs, .inr ⟨_, rfl, hl, hm, by simpa using hz, hcell, hwz⟩⟩
  clear hA0 hval0
  simp only [List.append_nil] at hW'
  refine (Rm.staysWalk (fun g cap L ao cc C s w h h0 h1 => Fw.implFirmOnes g 0 cap L ao cc C s w (by have := h.l.len; omega) h.l.words h0 h1 h.l.rd (by have := h.c.len; omega) h.c.rd h.c.at') (fun g cap L ao cc C s k w h h0 h1 => Fw.implFirm g 0 cap L ao cc C s k w (by have := h.l.len; omega) h.l.words h0 h1 h.l.rd (by have := h.c.len; omega) h.c.rd h.c.at') Rm.drawsRoom Rm.drawsRoomC a0 len0 cap0 W (code_of w0)).mono fun e W' ⟨he, bel⟩ => ?_
  subst he
  exact ⟨_, rfl, _, _, _, [], _, [], hW', trodAll_mk1 (shut_bool Tryz.underlying4 _), (trodAll_cons_mk (Below.trod laidOut (by kernel_rfl) (of_decide_eq_true (by kernel_rfl)) k0 bel lt0) trodAll_mk0), rfl, bel.frame _, fun h => by cases h⟩

theorem over : Rows.fnStaysFirmRow.holds Tryz.pinned (OpenSpec.ofChange Rows.fnStaysFirmSpec) :=
  OpenClaim.holds_of_wide 4 Tryz.f4 rfl rfl rfl rfl rfl rfl rfl ⟨rfl, rfl, rfl, rfl, rfl⟩ rfl rfl rfl rfl rfl (by kernel_rfl) Tryz.func4 (by kernel_rfl)
    (of_decide_eq_true (by kernel_rfl)) (by unfold Func.isWrapper; first | (rw [if_pos (by decide +kernel)]; kernel_rfl) | (rw [if_neg (by decide +kernel)]; exact ⟨rfl, rfl⟩))
    (fun os started H enc _ => lifted os started H enc)

theorem proved : Rows.FnStaysFirmSaid :=
  over
end Go.Proofs.YtplhgedhfflnbaaGreat.fnStaysFirm
