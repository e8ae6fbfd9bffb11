/-
  What the program's own CoinsOk, WaveOf, LeaderOf and Leads answer, in the words of WaveM; for coins of at most 2^20 numbers and lists of knots whose words have at most 2^40 bytes.
-/
import Derived.Test.YtbbejgabhoedeaaWaveM
import Derived.Test.YtbbejgabhoedeaaNodH
import Derived.Test.YtbbejgabhoedeaaLaceF
import Derived.Test.YtbbejgabhoedeaaLaceE
import Derived.Test.YtbbejgabhoedeaaSightW
import Derived.Test.YtbbejgabhoedeaaDoubX
namespace Go.Proofs.Ytbbejgabhoedeaa
open Go.RowKit
set_option maxRecDepth 100000
set_option linter.unusedVariables false
namespace Ch
open Kn (K okK)
open Lc (at' laceB RdK WordsOk)
open Sg (isB)
open Rm (coinsB coinsTo)
open Db (RowI)

/-- whose turn each wave is, the first j coins laid -/
def led (C : List Int) (j i : Nat) : Int := if i < j then C.getD i 0 else (i : Int) % 4
theorem led_all (C : List Int) (i : Nat) : led C C.length i = leadI C (i : Int) := by
  unfold led leadI
  by_cases h : i < C.length
  · rw [if_pos h, if_pos (by omega), Int.toNat_natCast]
  · rw [if_neg h, if_neg (by omega)]
theorem led_zero (C : List Int) : led C 0 = fun i : Nat => (i : Int) % 4 := by funext i; unfold led; rw [if_neg (by omega)]
theorem led_step (C : List Int) (j : Nat) : (fun i => if i = j then C.getD j 0 else led C j i) = led C (j + 1) := by
  funext i
  unfold led
  by_cases h : i = j
  · subst h; rw [if_pos rfl, if_pos (by omega)]
  · rw [if_neg h]
    by_cases h2 : i < j
    · rw [if_pos h2, if_pos (by omega)]
    · rw [if_neg h2, if_neg (by omega)]
/-- the waves' own turns, the first j laid -/
def own4 (j i : Nat) : Int := if i < j then (i : Int) % 4 else 0
theorem own4_zero : own4 0 = fun _ => 0 := by funext i; unfold own4; rw [if_neg (by omega)]
theorem own4_step (j : Nat) : (fun i => if i = j then (j : Int) % 4 else own4 j i) = own4 (j + 1) := by
  funext i
  unfold own4
  by_cases h : i = j
  · subst h; rw [if_pos rfl, if_pos (by omega)]
  · rw [if_neg h]
    by_cases h2 : i < j
    · rw [if_pos h2, if_pos (by omega)]
    · rw [if_neg h2, if_neg (by omega)]

def seven (f : Nat → Int) : Array Value := #[.int .i64 (f 0), .int .i64 (f 1), .int .i64 (f 2), .int .i64 (f 3), .int .i64 (f 4), .int .i64 (f 5), .int .i64 (f 6)]

theorem rowI_seven (w : World) (t : TypeId) (f : Nat → Int) : RowI (w.alloc (.cells #[.int .i64 (f 0), .int .i64 (f 1), .int .i64 (f 2), .int .i64 (f 3), .int .i64 (f 4), .int .i64 (f 5), .int .i64 (f 6)] t)) w.heap.size 7 f where
  lt := by simp
  rd := fun i hi => by
    match i, hi with
    | 0, _ => simp
    | 1, _ => simp
    | 2, _ => simp
    | 3, _ => simp
    | 4, _ => simp
    | 5, _ => simp
    | 6, _ => simp
  fr := fun i hi => by
    match i, hi with
    | 0, _ => simp
    | 1, _ => simp
    | 2, _ => simp
    | 3, _ => simp
    | 4, _ => simp
    | 5, _ => simp
    | 6, _ => simp

theorem put7 {w0 wr : World} {b : Nat} {D : Nat → Int} (h : RowI wr b 7 D) (n : Nat) (hn : n ≤ b) (hB : Below n w0 wr) (x0 x1 x2 x3 x4 x5 x6 : Int) :
    ∃ W7, W7 = (((((((wr.setCell ⟨b, 0, none⟩ (.int .i64 x0)).setCell ⟨b, 1, none⟩ (.int .i64 x1)).setCell ⟨b, 2, none⟩ (.int .i64 x2)).setCell ⟨b, 3, none⟩ (.int .i64 x3)).setCell ⟨b, 4, none⟩ (.int .i64 x4)).setCell ⟨b, 5, none⟩ (.int .i64 x5)).setCell ⟨b, 6, none⟩ (.int .i64 x6)) ∧
      W7.cell? ⟨b, 0, none⟩ = some (.int .i64 x0) ∧ W7.cell? ⟨b, 1, none⟩ = some (.int .i64 x1) ∧ W7.cell? ⟨b, 2, none⟩ = some (.int .i64 x2) ∧ W7.cell? ⟨b, 3, none⟩ = some (.int .i64 x3) ∧ W7.cell? ⟨b, 4, none⟩ = some (.int .i64 x4) ∧ W7.cell? ⟨b, 5, none⟩ = some (.int .i64 x5) ∧ W7.cell? ⟨b, 6, none⟩ = some (.int .i64 x6) ∧
      (∀ i, i < 7 → W7.frozen? ⟨b, i, none⟩ = false) ∧ Below n w0 W7 := by
  have h1 := ((((((h.put 0 (by omega) x0).put 1 (by omega) x1).put 2 (by omega) x2).put 3 (by omega) x3).put 4 (by omega) x4).put 5 (by omega) x5).put 6 (by omega) x6
  refine ⟨_, rfl, h1.rd 0 (by omega), h1.rd 1 (by omega), h1.rd 2 (by omega), h1.rd 3 (by omega), h1.rd 4 (by omega), h1.rd 5 (by omega), h1.rd 6 (by omega), h1.fr, ?_⟩
  exact ((((((hB.setCell (p := ⟨b, 0, none⟩) hn _).setCell (p := ⟨b, 1, none⟩) hn _).setCell (p := ⟨b, 2, none⟩) hn _).setCell (p := ⟨b, 3, none⟩) hn _).setCell (p := ⟨b, 4, none⟩) hn _).setCell (p := ⟨b, 5, none⟩) hn _).setCell (p := ⟨b, 6, none⟩) hn _

theorem coins_long {C : List Int} (h : ¬ C.length ≤ 6) : coinsB C = false := by unfold Rm.coinsB; rw [decide_eq_false h]; simp
theorem coins_done {C : List Int} (h : C.length ≤ 6) (h2 : coinsTo C C.length = true) : coinsB C = true := by unfold Rm.coinsB; rw [h2, decide_eq_true h]; rfl

theorem rd_low {w w' : World} {ao : Option Addr} {l : List Int} (h : Lst.Rd w ao l) (hao : ∀ c, ao = some ⟨c, 0, none⟩ → c < w.heap.size) (hb : Below w.heap.size w w') : Lst.Rd w' ao l := by
  rcases h with h | ⟨g, rfl, hc⟩
  · exact .inl h
  · exact .inr ⟨g, rfl, fun j hj => (hb.cell (p := ⟨g, j, none⟩) (hao g rfl)).trans (hc j hj)⟩

/-- how the laying of the coins ends -/
def LedPost (C : List Int) (w : World) (e : Ending) (w' : World) : Prop :=
  (coinsB C = true ∧ e = .returned (.tuple #[.agg #[.int .i64 (leadI C 0), .int .i64 (leadI C 1), .int .i64 (leadI C 2), .int .i64 (leadI C 3), .int .i64 (leadI C 4), .int .i64 (leadI C 5), .int .i64 (leadI C 6)], .bool true]) ∧ Below w.heap.size w w') ∨
  (coinsB C = false ∧ e = .returned (.tuple #[.agg #[.int .i64 0, .int .i64 0, .int .i64 0, .int .i64 0, .int .i64 0, .int .i64 0, .int .i64 0], .bool false]) ∧ Below w.heap.size w w')

set_option maxHeartbeats 1600000 in
theorem leadersOf (ao : Option Addr) (cap : Nat) (C : List Int) (w : World) (hl : C.length ≤ 1048576) (hrd : Lst.Rd w ao C) (hao : ∀ c, ao = some ⟨c, 0, none⟩ → c < w.heap.size) :
    Calls Try.prog 44 #[.slice ao C.length cap] w (LedPost C w) := by
  by_cases h6 : C.length ≤ 6
  · have h6' : ¬ (6 : Int) < (C.length : Int) := by omega
    have P0 : Hid (RowI ((w.alloc (.cells #[.int .i64 0, .int .i64 0, .int .i64 0, .int .i64 0, .int .i64 0, .int .i64 0, .int .i64 0] 50)).alloc (.cells #[.int .i64 0, .int .i64 0, .int .i64 0, .int .i64 0, .int .i64 0, .int .i64 0, .int .i64 0] 50)) w.heap.size 7 (fun _ => 0) ∧
        RowI ((w.alloc (.cells #[.int .i64 0, .int .i64 0, .int .i64 0, .int .i64 0, .int .i64 0, .int .i64 0, .int .i64 0] 50)).alloc (.cells #[.int .i64 0, .int .i64 0, .int .i64 0, .int .i64 0, .int .i64 0, .int .i64 0, .int .i64 0] 50)) (w.heap.size + 1) 7 (own4 0) ∧
        Below w.heap.size w ((w.alloc (.cells #[.int .i64 0, .int .i64 0, .int .i64 0, .int .i64 0, .int .i64 0, .int .i64 0, .int .i64 0] 50)).alloc (.cells #[.int .i64 0, .int .i64 0, .int .i64 0, .int .i64 0, .int .i64 0, .int .i64 0, .int .i64 0] 50))) :=
      ⟨Nd.rowI_alloc (rowI_seven w _ (fun _ => 0)) _, by rw [own4_zero]; have := rowI_seven (w.alloc (.cells #[.int .i64 0, .int .i64 0, .int .i64 0, .int .i64 0, .int .i64 0, .int .i64 0, .int .i64 0] 50)) 50 (fun _ => 0); simpa using this, ((Below.refl _ w).alloc (Nat.le_refl _) _).alloc (by simp) _⟩
    go_enter Try.func44, Try.ntmps44
    go_wp2
    go_loopw [12] (fun i wr => ∃ j : Nat, j ≤ 7 ∧ i = .int .i64 j ∧ Hid (RowI wr w.heap.size 7 (fun _ => 0)) ∧ Hid (RowI wr (w.heap.size + 1) 7 (own4 j)) ∧ Hid (Below w.heap.size w wr)) (fun i _ => 7 - (intOf i).toNat)
    case atStart => exact ⟨0, by omega, rfl, P0.out.1, P0.out.2.1, P0.out.2.2⟩
    case round =>
      obtain ⟨j, hj, rfl, HR, HF, HB⟩ := hrel
      clear P0
      by_cases hlt : j < 7
      · have hlt' : (j : Int) < 7 := by omega
        have e1 := HF.out.rd j hlt
        have f1 := HF.out.fr j hlt
        have HR2 : Hid (RowI (wr.setCell ⟨w.heap.size + 1, j, none⟩ (.int .i64 ((j : Int) % 4))) w.heap.size 7 (fun _ => 0)) := Nd.rowI_other HR.out _ _ (by omega) _
        have HF2 : Hid (RowI (wr.setCell ⟨w.heap.size + 1, j, none⟩ (.int .i64 ((j : Int) % 4))) (w.heap.size + 1) 7 (own4 (j + 1))) := by
          show RowI _ _ _ _
          rw [← own4_step]; exact HF.out.put j hlt _
        have HB2 : Hid (Below w.heap.size w (wr.setCell ⟨w.heap.size + 1, j, none⟩ (.int .i64 ((j : Int) % 4)))) := HB.out.setCell (p := ⟨w.heap.size + 1, j, none⟩) (by simp) _
        clear HR HF HB
        generalize own4 j j = y at e1
        go_wp2
        go_roundw
        case rel => exact ⟨j + 1, by omega, by go_num, HR2, HF2, HB2⟩
        case measure => simp [intOf]; omega
      · obtain rfl : j = 7 := by omega
        have HF' : Hid (RowI wr (w.heap.size + 1) 7 (led C 0)) := by
          rw [led_zero]
          exact ⟨HF.out.lt, fun i hi => by rw [HF.out.rd i hi]; unfold own4; rw [if_pos hi], HF.out.fr⟩
        clear HF
        rw [show ((7 : Nat) : Int) = 7 from rfl]
        go_wp2
        go_loopw [22] (fun i wr => ∃ j : Nat, j ≤ C.length ∧ i = .int .i64 j ∧ Hid (coinsTo C j = true) ∧ Hid (RowI wr w.heap.size 7 (fun _ => 0)) ∧ Hid (RowI wr (w.heap.size + 1) 7 (led C j)) ∧ Hid (Below w.heap.size w wr)) (fun i _ => C.length - (intOf i).toNat)
        case atStart => exact ⟨0, by omega, rfl, rfl, HR, HF', HB⟩
        case round =>
          clear HR HF' HB
          obtain ⟨j, hj, rfl, HC, HR, HF, HB⟩ := hrel
          by_cases hlt : j < C.length
          · rcases hrd with hrd | ⟨b, rfl, hcell⟩
            · rw [hrd] at hlt; simp at hlt
            have hb0 := hao b rfl
            have cj := (HB.out.cell (p := ⟨b, j, none⟩) hb0).trans (hcell j hlt)
            have HS : Hid (coinsTo C (j + 1) = (coinsTo C j && Kn.in3 (C.getD j 0))) := Rm.coins_step C j
            have HN : Hid (Kn.in3 (C.getD j 0) = false → coinsB C = false) := Rm.coins_no C j hlt
            have HL : Hid ((fun i => if i = j then C.getD j 0 else led C j i) = led C (j + 1)) := led_step C j
            clear hcell hao
            generalize C.getD j 0 = y at cj HS HN HL
            cases hq : Kn.in3 y
            · have HT : Hid (coinsB C = false) := HN.out hq
              have HQ : Hid (Kn.in3 y = false) := hq
              obtain ⟨W7, hW7, k0, k1, k2, k3, k4, k5, k6, _, hB7⟩ := put7 HR.out w.heap.size (Nat.le_refl _) HB.out 0 0 0 0 0 0 0
              have HW : Hid (W7 = _) := hW7
              have q0 := HR.out.fr 0 (by omega)
              have q1 := HR.out.fr 1 (by omega)
              have q2 := HR.out.fr 2 (by omega)
              have q3 := HR.out.fr 3 (by omega)
              have q4 := HR.out.fr 4 (by omega)
              have q5 := HR.out.fr 5 (by omega)
              have q6 := HR.out.fr 6 (by omega)
              have r0 := HR.out.rd 0 (by omega)
              have r1 := HR.out.rd 1 (by omega)
              have r2 := HR.out.rd 2 (by omega)
              have r3 := HR.out.rd 3 (by omega)
              have r4 := HR.out.rd 4 (by omega)
              have r5 := HR.out.rd 5 (by omega)
              have r6 := HR.out.rd 6 (by omega)
              clear hq HS HN HL hW7
              go_wp2_with (go_at_call 60; refine (Kn.known _ _).mono ?_; rintro e w' ⟨rfl, rfl⟩; rw [HQ.out])
              rw [← HW.out]
              refine bodyPost_ret (v := .tuple #[.agg #[.int .i64 0, .int .i64 0, .int .i64 0, .int .i64 0, .int .i64 0, .int .i64 0, .int .i64 0], .bool false]) (by simp [results, Try.f44, go_sem, k0, k1, k2, k3, k4, k5, k6]) rfl ?_
              exact .inr ⟨HT.out, rfl, hB7⟩
            · have HT : Hid (coinsTo C (j + 1) = true) := by show _ = _; rw [HS.out, HC.out, hq]; rfl
              have HQ : Hid (Kn.in3 y = true) := hq
              have e1 := HF.out.rd j (by omega)
              have f1 := HF.out.fr j (by omega)
              have hj7 : (j : Int) < 7 := by omega
              have HR2 : Hid (RowI (wr.setCell ⟨w.heap.size + 1, j, none⟩ (.int .i64 y)) w.heap.size 7 (fun _ => 0)) := Nd.rowI_other HR.out _ _ (by omega) _
              have HF2 : Hid (RowI (wr.setCell ⟨w.heap.size + 1, j, none⟩ (.int .i64 y)) (w.heap.size + 1) 7 (led C (j + 1))) := by
                show RowI _ _ _ _
                rw [← HL.out]; exact HF.out.put j (by omega) _
              have HB2 : Hid (Below w.heap.size w (wr.setCell ⟨w.heap.size + 1, j, none⟩ (.int .i64 y))) := HB.out.setCell (p := ⟨w.heap.size + 1, j, none⟩) (by simp) _
              clear hq HS HN HC HR HF HB HL
              generalize led C j j = z at e1
              go_wp2_with (go_at_call 60; refine (Kn.known _ _).mono ?_; rintro e w' ⟨rfl, rfl⟩; rw [HQ.out])
              go_roundw
              case rel => exact ⟨j + 1, by omega, by go_num, HT, HR2, HF2, HB2⟩
              case measure => simp [intOf]; omega
          · obtain rfl : j = C.length := by omega
            have HT : Hid (coinsB C = true) := coins_done h6 HC.out
            have HF' : Hid (RowI wr (w.heap.size + 1) 7 (fun i => leadI C (i : Int))) := ⟨HF.out.lt, fun i hi => by rw [HF.out.rd i hi, led_all], HF.out.fr⟩
            clear HF HC
            have q0 := HR.out.fr 0 (by omega)
            have q1 := HR.out.fr 1 (by omega)
            have q2 := HR.out.fr 2 (by omega)
            have q3 := HR.out.fr 3 (by omega)
            have q4 := HR.out.fr 4 (by omega)
            have q5 := HR.out.fr 5 (by omega)
            have q6 := HR.out.fr 6 (by omega)
            have r0 := HR.out.rd 0 (by omega)
            have r1 := HR.out.rd 1 (by omega)
            have r2 := HR.out.rd 2 (by omega)
            have r3 := HR.out.rd 3 (by omega)
            have r4 := HR.out.rd 4 (by omega)
            have r5 := HR.out.rd 5 (by omega)
            have r6 := HR.out.rd 6 (by omega)
            have f0 := HF'.out.rd 0 (by omega)
            have f1 := HF'.out.rd 1 (by omega)
            have f2 := HF'.out.rd 2 (by omega)
            have f3 := HF'.out.rd 3 (by omega)
            have f4 := HF'.out.rd 4 (by omega)
            have f5 := HF'.out.rd 5 (by omega)
            have f6 := HF'.out.rd 6 (by omega)
            have HP : Hid (∀ x0 x1 x2 x3 x4 x5 x6 : Int, _) := put7 HR.out w.heap.size (Nat.le_refl _) HB.out
            clear HR HB HF' hrd hao
            go_wp2
            obtain ⟨W7, hW7, k0, k1, k2, k3, k4, k5, k6, _, hB7⟩ := HP.out (leadI C 0) (leadI C 1) (leadI C 2) (leadI C 3) (leadI C 4) (leadI C 5) (leadI C 6)
            rw [← hW7]
            refine bodyPost_ret (v := .tuple #[.agg #[.int .i64 (leadI C 0), .int .i64 (leadI C 1), .int .i64 (leadI C 2), .int .i64 (leadI C 3), .int .i64 (leadI C 4), .int .i64 (leadI C 5), .int .i64 (leadI C 6)], .bool true]) (by simp [results, Try.f44, go_sem, k0, k1, k2, k3, k4, k5, k6]) rfl ?_
            exact .inl ⟨HT.out, rfl, hB7⟩
  · have HT : Hid (coinsB C = false) := coins_long h6
    have h6' : (6 : Int) < (C.length : Int) := by omega
    clear hrd hao
    go_enter Try.func44, Try.ntmps44
    go_wp2
    refine bodyPost_ret (v := .tuple #[.agg #[.int .i64 0, .int .i64 0, .int .i64 0, .int .i64 0, .int .i64 0, .int .i64 0, .int .i64 0], .bool false]) (by simp [results, Try.f44, go_sem]) rfl ?_
    exact .inr ⟨HT.out, rfl, (Below.refl _ w).alloc (Nat.le_refl _) _⟩

/-- what the program's leads asks -/
def ledB (L : List K) (f : Nat → Int) (k : Int) : Bool := (decide (0 ≤ k) && decide (k < (L.length : Int))) && (decide ((at' L k.toNat).round % 3 = 0) && decide ((at' L k.toNat).hand = f ((at' L k.toNat).round / 3).toNat))
theorem ledB_leads {L : List K} (hlc : laceB L = true) {C : List Int} (hc : coinsB C = true) (f : Nat → Int) (hf : ∀ i, i < 7 → f i = leadI C (i : Int)) (k : Int) : ledB L f k = leadsB L C k := by
  unfold ledB leadsB leadK
  rw [Db.isB_lace hlc, hc]
  by_cases hk : 0 ≤ k ∧ k < (L.length : Int)
  · obtain ⟨p, rfl⟩ := Int.eq_ofNat_of_zero_le hk.1
    have hrb := Lc.ok_round (Lc.can_ok (Lc.lace_upTo hlc p (by omega)))
    rw [Int.toNat_natCast] at *
    rw [hf _ (by omega), show ((((at' L p).round / 3).toNat : Nat) : Int) = (at' L p).round / 3 by omega]
    simp
  · have : (decide (0 ≤ k) && decide (k < (L.length : Int))) = false := by
      rw [Bool.eq_false_iff]; intro h; rw [Bool.and_eq_true, decide_eq_true_eq, decide_eq_true_eq] at h; exact hk h
    rw [this]; rfl

theorem beginsWave (r : Int) (w : World) (h0 : 0 ≤ r) (h1 : r ≤ 1000) : Calls Try.prog 71 #[.int .i64 r] w fun e w' => e = .returned (.bool (decide (r % 3 = 0))) ∧ w = w' := by
  have HD : Hid ((r % 3 == 0) = decide (r % 3 = 0)) := rfl
  go_enter Try.func71, Try.ntmps71
  go_wp2
  go_ret
  exact ⟨by rw [← HD.out]; rfl, rfl⟩

theorem waveOf (r : Int) (w : World) (h0 : 0 ≤ r) (h1 : r ≤ 1000) : Calls Try.prog 72 #[.int .i64 r] w fun e w' => e = .returned (.int .i64 (r / 3)) ∧ w = w' := by
  go_enter Try.func72, Try.ntmps72
  go_wp2
  go_ret
  exact ⟨rfl, rfl⟩

set_option maxHeartbeats 1600000 in
theorem leads (g off cap : Nat) (L : List K) (f : Nat → Int) (k : Int) (w : World) (hlc : laceB L = true) (hg : g < w.heap.size) (hr : RdK w (some ⟨g, off, none⟩) L) :
    Calls Try.prog 62 #[.slice (some ⟨g, off, none⟩) L.length cap, .agg #[.int .i64 (f 0), .int .i64 (f 1), .int .i64 (f 2), .int .i64 (f 3), .int .i64 (f 4), .int .i64 (f 5), .int .i64 (f 6)], .int .i64 k] w fun e w' => e = .returned (.bool (ledB L f k)) ∧ Below w.heap.size w w' := by
  have h60 := ((Lc.lace_iff L).1 hlc).1
  have P0 : Hid (Below w.heap.size w (w.alloc (.cells #[.int .i64 (f 0), .int .i64 (f 1), .int .i64 (f 2), .int .i64 (f 3), .int .i64 (f 4), .int .i64 (f 5), .int .i64 (f 6)] 50)) ∧ RowI (w.alloc (.cells #[.int .i64 (f 0), .int .i64 (f 1), .int .i64 (f 2), .int .i64 (f 3), .int .i64 (f 4), .int .i64 (f 5), .int .i64 (f 6)] 50)) w.heap.size 7 f) := ⟨(Below.refl _ _).alloc (Nat.le_refl _) _, rowI_seven w _ f⟩
  have HA : Hid (∀ W : World, Calls Try.prog 31 #[.int .i64 (2 ^ L.length - 1), .int .i64 k] W fun e w' => e = .returned (.bool (decide (0 ≤ k) && decide (k < (L.length : Int)))) ∧ W = w') := fun W => by
    have := Base.has (2 ^ L.length - 1) k W
    rw [Sg.all_has h60 k] at this
    exact this
  by_cases hk : 0 ≤ k ∧ k < (L.length : Int)
  · have HI : Hid ((decide (0 ≤ k) && decide (k < (L.length : Int))) = true) := by show _ = _; rw [decide_eq_true hk.1, decide_eq_true hk.2]; rfl
    have HT : Hid (ledB L f k = (decide ((at' L k.toNat).round % 3 = 0) && decide ((at' L k.toNat).hand = f ((at' L k.toNat).round / 3).toNat))) := by show _ = _; unfold ledB; rw [HI.out]; rfl
    rw [HI.out] at HA
    obtain ⟨p, rfl⟩ := Int.eq_ofNat_of_zero_le hk.1
    have hp : p < L.length := by omega
    rw [Int.toNat_natCast] at HT
    have hrb := Lc.ok_round (Lc.can_ok (Lc.lace_upTo hlc p hp))
    obtain ⟨_, hcs⟩ := hr.on p hp
    have hcs' := hcs.below P0.out.1 hg
    obtain ⟨c0, c1, _, _⟩ := hcs'
    clear HI hk hlc hcs hr
    generalize at' L p = kk at c0 c1 HT hrb
    obtain ⟨kh, kr, kf, kw⟩ := kk
    dsimp only at c0 c1 HT hrb
    have HBW : Hid (∀ W : World, Calls Try.prog 71 #[.int .i64 kr] W fun e w' => e = .returned (.bool (decide (kr % 3 = 0))) ∧ W = w') := fun W => beginsWave kr W hrb.1 (by omega)
    have HWO : Hid (∀ W : World, Calls Try.prog 72 #[.int .i64 kr] W fun e w' => e = .returned (.int .i64 (kr / 3)) ∧ W = w') := fun W => waveOf kr W hrb.1 (by omega)
    by_cases hz : kr % 3 = 0
    · obtain ⟨q, hq⟩ := Int.eq_ofNat_of_zero_le (show 0 ≤ kr / 3 by omega)
      have hq7 : q < 7 := by omega
      have hq7' : (q : Int) < 7 := by omega
      rw [hq] at HWO HT
      rw [decide_eq_true hz] at HBW HT
      rw [Int.toNat_natCast, Bool.true_and] at HT
      have HE : Hid ((kh == f q) = decide (kh = f q)) := rfl
      clear hz hrb hq
      have HP := P0
      clear P0
      go_enter Try.func62, Try.ntmps62
      go_wp2_with fail
      generalize w.alloc (.cells #[.int .i64 (f 0), .int .i64 (f 1), .int .i64 (f 2), .int .i64 (f 3), .int .i64 (f 4), .int .i64 (f 5), .int .i64 (f 6)] 50) = V at HP c0 c1 ⊢
      have HB : Hid (Below w.heap.size w V) := HP.out.1
      have cq := HP.out.2.rd q hq7
      clear HP
      generalize f q = y at cq HT HE
      go_quiet (first | (go_at_call 30; exact (Lc.all _ _ _ _ h60).mono fun _ _ h => ⟨h.1, _, h.2.symm⟩) | (go_at_call 31; exact (HA.out _).mono fun _ _ h => ⟨h.1, _, h.2.symm⟩) | (go_at_call 71; exact (HBW.out _).mono fun _ _ h => ⟨h.1, _, h.2.symm⟩) | (go_at_call 72; exact (HWO.out _).mono fun _ _ h => ⟨h.1, _, h.2.symm⟩))
      go_wp2
      go_ret
      exact ⟨by rw [HT.out, ← HE.out]; rfl, Db.below_drewN HB.out _⟩
    · rw [decide_eq_false hz] at HBW HT
      rw [Bool.false_and] at HT
      have HP := P0
      clear P0 hz hrb HWO
      go_enter Try.func62, Try.ntmps62
      go_wp2_with fail
      generalize w.alloc (.cells #[.int .i64 (f 0), .int .i64 (f 1), .int .i64 (f 2), .int .i64 (f 3), .int .i64 (f 4), .int .i64 (f 5), .int .i64 (f 6)] 50) = V at HP c0 c1 ⊢
      have HB : Hid (Below w.heap.size w V) := HP.out.1
      clear HP
      go_quiet (first | (go_at_call 30; exact (Lc.all _ _ _ _ h60).mono fun _ _ h => ⟨h.1, _, h.2.symm⟩) | (go_at_call 31; exact (HA.out _).mono fun _ _ h => ⟨h.1, _, h.2.symm⟩) | (go_at_call 71; exact (HBW.out _).mono fun _ _ h => ⟨h.1, _, h.2.symm⟩))
      go_wp2
      go_ret
      exact ⟨by rw [HT.out]; rfl, Db.below_drewN HB.out _⟩
  · have HI : Hid ((decide (0 ≤ k) && decide (k < (L.length : Int))) = false) := by
      show _ = _
      rw [Bool.eq_false_iff]; intro h; rw [Bool.and_eq_true, decide_eq_true_eq, decide_eq_true_eq] at h; exact hk h
    have HT : Hid (ledB L f k = false) := by show _ = _; unfold ledB; rw [HI.out]; rfl
    rw [HI.out] at HA
    clear HI hk hlc hr
    go_enter Try.func62, Try.ntmps62
    go_wp2_with fail
    generalize w.alloc (.cells #[.int .i64 (f 0), .int .i64 (f 1), .int .i64 (f 2), .int .i64 (f 3), .int .i64 (f 4), .int .i64 (f 5), .int .i64 (f 6)] 50) = V at P0 ⊢
    have HB : Hid (Below w.heap.size w V) := P0.out.1
    clear P0
    go_quiet (first | (go_at_call 30; exact (Lc.all _ _ _ _ h60).mono fun _ _ h => ⟨h.1, _, h.2.symm⟩) | (go_at_call 31; exact (HA.out _).mono fun _ _ h => ⟨h.1, _, h.2.symm⟩))
    go_wp2
    go_ret
    exact ⟨by rw [HT.out]; rfl, Db.below_drewN HB.out _⟩

end Ch
end Go.Proofs.Ytbbejgabhoedeaa
