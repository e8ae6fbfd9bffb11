/-
  What the program's own Seals, Sealers and SealedOf answer, in the words of SealM; for lists of knots whose words have at most 2^40 bytes.
  What the program's own CoinsOk, WaveOf, LeaderOf and Leads answer, in the words of WaveM; for coins of at most 2^20 numbers and lists of knots whose words have at most 2^40 bytes.
-/
import Derived.Test.YtodgkhlnefggdaaGreatZTa
import Derived.Test.YtodgkhlnefggdaaGreatNodH
import Derived.Test.YtodgkhlnefggdaaGreatLaceF
import Derived.Test.YtodgkhlnefggdaaGreatLaceE
import Derived.Test.YtodgkhlnefggdaaGreatSightW
import Derived.Test.YtodgkhlnefggdaaGreatDoubX
import Derived.Test.YtodgkhlnefggdaaGreatNodX
import Derived.Deep.RegionHeld3
namespace Go.Proofs.YtodgkhlnefggdaaGreat
open Go.RowKit
set_option maxRecDepth 100000
set_option linter.unusedVariables false
namespace Ch
open Kn (K okK)
open Lc (at' laceB RdK WordsOk)
open Sg (isB)
open Rm (coinsB coinsTo)
open Db (RowI)

/-- whose turn each wave is, the first j coins laid -/
def led (C : List Int) (j i : Nat) : Int := if i < j then C.getD i 0 else (i : Int) % 4
theorem led_all (C : List Int) (i : Nat) : led C C.length i = leadI C (i : Int) := by
  unfold led leadI
  by_cases h : i < C.length
  · rw [if_pos h, if_pos (by omega), Int.toNat_natCast]
  · rw [if_neg h, if_neg (by omega)]
theorem led_zero (C : List Int) : led C 0 = fun i : Nat => (i : Int) % 4 := by funext i; unfold led; rw [if_neg (by omega)]
theorem led_step (C : List Int) (j : Nat) : (fun i => if i = j then C.getD j 0 else led C j i) = led C (j + 1) := by
  funext i
  unfold led
  by_cases h : i = j
  · subst h; rw [if_pos rfl, if_pos (by omega)]
  · rw [if_neg h]
    by_cases h2 : i < j
    · rw [if_pos h2, if_pos (by omega)]
    · rw [if_neg h2, if_neg (by omega)]
/-- the waves' own turns, the first j laid -/
def own4 (j i : Nat) : Int := if i < j then (i : Int) % 4 else 0
theorem own4_zero : own4 0 = fun _ => 0 := by funext i; unfold own4; rw [if_neg (by omega)]
theorem own4_step (j : Nat) : (fun i => if i = j then (j : Int) % 4 else own4 j i) = own4 (j + 1) := by
  funext i
  unfold own4
  by_cases h : i = j
  · subst h; rw [if_pos rfl, if_pos (by omega)]
  · rw [if_neg h]
    by_cases h2 : i < j
    · rw [if_pos h2, if_pos (by omega)]
    · rw [if_neg h2, if_neg (by omega)]

def seven (f : Nat → Int) : Array Value := #[.int .i64 (f 0), .int .i64 (f 1), .int .i64 (f 2), .int .i64 (f 3), .int .i64 (f 4), .int .i64 (f 5), .int .i64 (f 6)]

theorem rowI_seven (w : World) (t : TypeId) (f : Nat → Int) : RowI (w.alloc (.cells #[.int .i64 (f 0), .int .i64 (f 1), .int .i64 (f 2), .int .i64 (f 3), .int .i64 (f 4), .int .i64 (f 5), .int .i64 (f 6)] t)) w.heap.size 7 f where
  lt := by simp
  rd := fun i hi => by
    match i, hi with
    | 0, _ => simp
    | 1, _ => simp
    | 2, _ => simp
    | 3, _ => simp
    | 4, _ => simp
    | 5, _ => simp
    | 6, _ => simp
  fr := fun i hi => by
    match i, hi with
    | 0, _ => simp
    | 1, _ => simp
    | 2, _ => simp
    | 3, _ => simp
    | 4, _ => simp
    | 5, _ => simp
    | 6, _ => simp

theorem put7 {w0 wr : World} {b : Nat} {D : Nat → Int} (h : RowI wr b 7 D) (n : Nat) (hn : n ≤ b) (hB : Below n w0 wr) (x0 x1 x2 x3 x4 x5 x6 : Int) :
    ∃ W7, W7 = (((((((wr.setCell ⟨b, 0, none⟩ (.int .i64 x0)).setCell ⟨b, 1, none⟩ (.int .i64 x1)).setCell ⟨b, 2, none⟩ (.int .i64 x2)).setCell ⟨b, 3, none⟩ (.int .i64 x3)).setCell ⟨b, 4, none⟩ (.int .i64 x4)).setCell ⟨b, 5, none⟩ (.int .i64 x5)).setCell ⟨b, 6, none⟩ (.int .i64 x6)) ∧
      W7.cell? ⟨b, 0, none⟩ = some (.int .i64 x0) ∧ W7.cell? ⟨b, 1, none⟩ = some (.int .i64 x1) ∧ W7.cell? ⟨b, 2, none⟩ = some (.int .i64 x2) ∧ W7.cell? ⟨b, 3, none⟩ = some (.int .i64 x3) ∧ W7.cell? ⟨b, 4, none⟩ = some (.int .i64 x4) ∧ W7.cell? ⟨b, 5, none⟩ = some (.int .i64 x5) ∧ W7.cell? ⟨b, 6, none⟩ = some (.int .i64 x6) ∧
      (∀ i, i < 7 → W7.frozen? ⟨b, i, none⟩ = false) ∧ Below n w0 W7 := by
  have h1 := ((((((h.put 0 (by omega) x0).put 1 (by omega) x1).put 2 (by omega) x2).put 3 (by omega) x3).put 4 (by omega) x4).put 5 (by omega) x5).put 6 (by omega) x6
  refine ⟨_, rfl, h1.rd 0 (by omega), h1.rd 1 (by omega), h1.rd 2 (by omega), h1.rd 3 (by omega), h1.rd 4 (by omega), h1.rd 5 (by omega), h1.rd 6 (by omega), h1.fr, ?_⟩
  exact ((((((hB.setCell (p := ⟨b, 0, none⟩) hn _).setCell (p := ⟨b, 1, none⟩) hn _).setCell (p := ⟨b, 2, none⟩) hn _).setCell (p := ⟨b, 3, none⟩) hn _).setCell (p := ⟨b, 4, none⟩) hn _).setCell (p := ⟨b, 5, none⟩) hn _).setCell (p := ⟨b, 6, none⟩) hn _

theorem coins_long {C : List Int} (h : ¬ C.length ≤ 6) : coinsB C = false := by unfold Rm.coinsB; rw [decide_eq_false h]; simp
theorem coins_done {C : List Int} (h : C.length ≤ 6) (h2 : coinsTo C C.length = true) : coinsB C = true := by unfold Rm.coinsB; rw [h2, decide_eq_true h]; rfl

theorem rd_low {w w' : World} {ao : Option Addr} {l : List Int} (h : Lst.Rd w ao l) (hao : ∀ c, ao = some ⟨c, 0, none⟩ → c < w.heap.size) (hb : Below w.heap.size w w') : Lst.Rd w' ao l := by
  rcases h with h | ⟨g, rfl, hc⟩
  · exact .inl h
  · exact .inr ⟨g, rfl, fun j hj => (hb.cell (p := ⟨g, j, none⟩) (hao g rfl)).trans (hc j hj)⟩

/-- how the laying of the coins ends -/
def LedPost (C : List Int) (w : World) (e : Ending) (w' : World) : Prop :=
  (coinsB C = true ∧ e = .returned (.tuple #[.agg #[.int .i64 (leadI C 0), .int .i64 (leadI C 1), .int .i64 (leadI C 2), .int .i64 (leadI C 3), .int .i64 (leadI C 4), .int .i64 (leadI C 5), .int .i64 (leadI C 6)], .bool true]) ∧ Below w.heap.size w w') ∨
  (coinsB C = false ∧ e = .returned (.tuple #[.agg #[.int .i64 0, .int .i64 0, .int .i64 0, .int .i64 0, .int .i64 0, .int .i64 0, .int .i64 0], .bool false]) ∧ Below w.heap.size w w')

set_option maxHeartbeats 1600000 in
theorem leadersOf (ao : Option Addr) (cap : Nat) (C : List Int) (w : World) (hl : C.length ≤ 1048576) (hrd : Lst.Rd w ao C) (hao : ∀ c, ao = some ⟨c, 0, none⟩ → c < w.heap.size) :
    Calls Tryz.prog 41 #[.slice ao C.length cap] w (LedPost C w) := by
  by_cases h6 : C.length ≤ 6
  · have h6' : ¬ (6 : Int) < (C.length : Int) := by omega
    have P0 : Hid (RowI ((w.alloc (.cells #[.int .i64 0, .int .i64 0, .int .i64 0, .int .i64 0, .int .i64 0, .int .i64 0, .int .i64 0] 46)).alloc (.cells #[.int .i64 0, .int .i64 0, .int .i64 0, .int .i64 0, .int .i64 0, .int .i64 0, .int .i64 0] 46)) w.heap.size 7 (fun _ => 0) ∧
        RowI ((w.alloc (.cells #[.int .i64 0, .int .i64 0, .int .i64 0, .int .i64 0, .int .i64 0, .int .i64 0, .int .i64 0] 46)).alloc (.cells #[.int .i64 0, .int .i64 0, .int .i64 0, .int .i64 0, .int .i64 0, .int .i64 0, .int .i64 0] 46)) (w.heap.size + 1) 7 (own4 0) ∧
        Below w.heap.size w ((w.alloc (.cells #[.int .i64 0, .int .i64 0, .int .i64 0, .int .i64 0, .int .i64 0, .int .i64 0, .int .i64 0] 46)).alloc (.cells #[.int .i64 0, .int .i64 0, .int .i64 0, .int .i64 0, .int .i64 0, .int .i64 0, .int .i64 0] 46))) :=
      ⟨Nd.rowI_alloc (rowI_seven w _ (fun _ => 0)) _, by rw [own4_zero]; have := rowI_seven (w.alloc (.cells #[.int .i64 0, .int .i64 0, .int .i64 0, .int .i64 0, .int .i64 0, .int .i64 0, .int .i64 0] 46)) 46 (fun _ => 0); simpa using this, ((Below.refl _ w).alloc (Nat.le_refl _) _).alloc (by simp) _⟩
    go_enter Tryz.func41, Tryz.ntmps41
    go_wp2
    go_loopw [12] (fun i wr => ∃ j : Nat, j ≤ 7 ∧ i = .int .i64 j ∧ Hid (RowI wr w.heap.size 7 (fun _ => 0)) ∧ Hid (RowI wr (w.heap.size + 1) 7 (own4 j)) ∧ Hid (Below w.heap.size w wr)) (fun i _ => 7 - (intOf i).toNat)
    case atStart => exact ⟨0, by omega, rfl, P0.out.1, P0.out.2.1, P0.out.2.2⟩
    case round =>
      obtain ⟨j, hj, rfl, HR, HF, HB⟩ := hrel
      clear P0
      by_cases hlt : j < 7
      · have hlt' : (j : Int) < 7 := by omega
        have e1 := HF.out.rd j hlt
        have f1 := HF.out.fr j hlt
        have HR2 : Hid (RowI (wr.setCell ⟨w.heap.size + 1, j, none⟩ (.int .i64 ((j : Int) % 4))) w.heap.size 7 (fun _ => 0)) := Nd.rowI_other HR.out _ _ (by omega) _
        have HF2 : Hid (RowI (wr.setCell ⟨w.heap.size + 1, j, none⟩ (.int .i64 ((j : Int) % 4))) (w.heap.size + 1) 7 (own4 (j + 1))) := by
          show RowI _ _ _ _
          rw [← own4_step]; exact HF.out.put j hlt _
        have HB2 : Hid (Below w.heap.size w (wr.setCell ⟨w.heap.size + 1, j, none⟩ (.int .i64 ((j : Int) % 4)))) := HB.out.setCell (p := ⟨w.heap.size + 1, j, none⟩) (by simp) _
        clear HR HF HB
        generalize own4 j j = y at e1
        go_wp2
        go_roundw
        case rel => exact ⟨j + 1, by omega, by go_num, HR2, HF2, HB2⟩
        case measure => simp [intOf]; omega
      · obtain rfl : j = 7 := by omega
        have HF' : Hid (RowI wr (w.heap.size + 1) 7 (led C 0)) := by
          rw [led_zero]
          exact ⟨HF.out.lt, fun i hi => by rw [HF.out.rd i hi]; unfold own4; rw [if_pos hi], HF.out.fr⟩
        clear HF
        rw [show ((7 : Nat) : Int) = 7 from rfl]
        go_wp2
        go_loopw [22] (fun i wr => ∃ j : Nat, j ≤ C.length ∧ i = .int .i64 j ∧ Hid (coinsTo C j = true) ∧ Hid (RowI wr w.heap.size 7 (fun _ => 0)) ∧ Hid (RowI wr (w.heap.size + 1) 7 (led C j)) ∧ Hid (Below w.heap.size w wr)) (fun i _ => C.length - (intOf i).toNat)
        case atStart => exact ⟨0, by omega, rfl, rfl, HR, HF', HB⟩
        case round =>
          clear HR HF' HB
          obtain ⟨j, hj, rfl, HC, HR, HF, HB⟩ := hrel
          by_cases hlt : j < C.length
          · rcases hrd with hrd | ⟨b, rfl, hcell⟩
            · rw [hrd] at hlt; simp at hlt
            have hb0 := hao b rfl
            have cj := (HB.out.cell (p := ⟨b, j, none⟩) hb0).trans (hcell j hlt)
            have HS : Hid (coinsTo C (j + 1) = (coinsTo C j && Kn.in3 (C.getD j 0))) := Rm.coins_step C j
            have HN : Hid (Kn.in3 (C.getD j 0) = false → coinsB C = false) := Rm.coins_no C j hlt
            have HL : Hid ((fun i => if i = j then C.getD j 0 else led C j i) = led C (j + 1)) := led_step C j
            clear hcell hao
            generalize C.getD j 0 = y at cj HS HN HL
            cases hq : Kn.in3 y
            · have HT : Hid (coinsB C = false) := HN.out hq
              have HQ : Hid (Kn.in3 y = false) := hq
              obtain ⟨W7, hW7, k0, k1, k2, k3, k4, k5, k6, _, hB7⟩ := put7 HR.out w.heap.size (Nat.le_refl _) HB.out 0 0 0 0 0 0 0
              have HW : Hid (W7 = _) := hW7
              have q0 := HR.out.fr 0 (by omega)
              have q1 := HR.out.fr 1 (by omega)
              have q2 := HR.out.fr 2 (by omega)
              have q3 := HR.out.fr 3 (by omega)
              have q4 := HR.out.fr 4 (by omega)
              have q5 := HR.out.fr 5 (by omega)
              have q6 := HR.out.fr 6 (by omega)
              have r0 := HR.out.rd 0 (by omega)
              have r1 := HR.out.rd 1 (by omega)
              have r2 := HR.out.rd 2 (by omega)
              have r3 := HR.out.rd 3 (by omega)
              have r4 := HR.out.rd 4 (by omega)
              have r5 := HR.out.rd 5 (by omega)
              have r6 := HR.out.rd 6 (by omega)
              clear hq HS HN HL hW7
              go_wp2_with (go_at_call 60; refine (Kn.known _ _).mono ?_; rintro e w' ⟨rfl, rfl⟩; rw [HQ.out])
              rw [← HW.out]
              refine bodyPost_ret (v := .tuple #[.agg #[.int .i64 0, .int .i64 0, .int .i64 0, .int .i64 0, .int .i64 0, .int .i64 0, .int .i64 0], .bool false]) (by simp [results, Tryz.f41, go_sem, k0, k1, k2, k3, k4, k5, k6]) rfl ?_
              exact .inr ⟨HT.out, rfl, hB7⟩
            · have HT : Hid (coinsTo C (j + 1) = true) := by show _ = _; rw [HS.out, HC.out, hq]; rfl
              have HQ : Hid (Kn.in3 y = true) := hq
              have e1 := HF.out.rd j (by omega)
              have f1 := HF.out.fr j (by omega)
              have hj7 : (j : Int) < 7 := by omega
              have HR2 : Hid (RowI (wr.setCell ⟨w.heap.size + 1, j, none⟩ (.int .i64 y)) w.heap.size 7 (fun _ => 0)) := Nd.rowI_other HR.out _ _ (by omega) _
              have HF2 : Hid (RowI (wr.setCell ⟨w.heap.size + 1, j, none⟩ (.int .i64 y)) (w.heap.size + 1) 7 (led C (j + 1))) := by
                show RowI _ _ _ _
                rw [← HL.out]; exact HF.out.put j (by omega) _
              have HB2 : Hid (Below w.heap.size w (wr.setCell ⟨w.heap.size + 1, j, none⟩ (.int .i64 y))) := HB.out.setCell (p := ⟨w.heap.size + 1, j, none⟩) (by simp) _
              clear hq HS HN HC HR HF HB HL
              generalize led C j j = z at e1
              go_wp2_with (go_at_call 60; refine (Kn.known _ _).mono ?_; rintro e w' ⟨rfl, rfl⟩; rw [HQ.out])
              go_roundw
              case rel => exact ⟨j + 1, by omega, by go_num, HT, HR2, HF2, HB2⟩
              case measure => simp [intOf]; omega
          · obtain rfl : j = C.length := by omega
            have HT : Hid (coinsB C = true) := coins_done h6 HC.out
            have HF' : Hid (RowI wr (w.heap.size + 1) 7 (fun i => leadI C (i : Int))) := ⟨HF.out.lt, fun i hi => by rw [HF.out.rd i hi, led_all], HF.out.fr⟩
            clear HF HC
            have q0 := HR.out.fr 0 (by omega)
            have q1 := HR.out.fr 1 (by omega)
            have q2 := HR.out.fr 2 (by omega)
            have q3 := HR.out.fr 3 (by omega)
            have q4 := HR.out.fr 4 (by omega)
            have q5 := HR.out.fr 5 (by omega)
            have q6 := HR.out.fr 6 (by omega)
            have r0 := HR.out.rd 0 (by omega)
            have r1 := HR.out.rd 1 (by omega)
            have r2 := HR.out.rd 2 (by omega)
            have r3 := HR.out.rd 3 (by omega)
            have r4 := HR.out.rd 4 (by omega)
            have r5 := HR.out.rd 5 (by omega)
            have r6 := HR.out.rd 6 (by omega)
            have f0 := HF'.out.rd 0 (by omega)
            have f1 := HF'.out.rd 1 (by omega)
            have f2 := HF'.out.rd 2 (by omega)
            have f3 := HF'.out.rd 3 (by omega)
            have f4 := HF'.out.rd 4 (by omega)
            have f5 := HF'.out.rd 5 (by omega)
            have f6 := HF'.out.rd 6 (by omega)
            have HP : Hid (∀ x0 x1 x2 x3 x4 x5 x6 : Int, _) := put7 HR.out w.heap.size (Nat.le_refl _) HB.out
            clear HR HB HF' hrd hao
            go_wp2
            obtain ⟨W7, hW7, k0, k1, k2, k3, k4, k5, k6, _, hB7⟩ := HP.out (leadI C 0) (leadI C 1) (leadI C 2) (leadI C 3) (leadI C 4) (leadI C 5) (leadI C 6)
            rw [← hW7]
            refine bodyPost_ret (v := .tuple #[.agg #[.int .i64 (leadI C 0), .int .i64 (leadI C 1), .int .i64 (leadI C 2), .int .i64 (leadI C 3), .int .i64 (leadI C 4), .int .i64 (leadI C 5), .int .i64 (leadI C 6)], .bool true]) (by simp [results, Tryz.f41, go_sem, k0, k1, k2, k3, k4, k5, k6]) rfl ?_
            exact .inl ⟨HT.out, rfl, hB7⟩
  · have HT : Hid (coinsB C = false) := coins_long h6
    have h6' : (6 : Int) < (C.length : Int) := by omega
    clear hrd hao
    go_enter Tryz.func41, Tryz.ntmps41
    go_wp2
    refine bodyPost_ret (v := .tuple #[.agg #[.int .i64 0, .int .i64 0, .int .i64 0, .int .i64 0, .int .i64 0, .int .i64 0, .int .i64 0], .bool false]) (by simp [results, Tryz.f41, go_sem]) rfl ?_
    exact .inr ⟨HT.out, rfl, (Below.refl _ w).alloc (Nat.le_refl _) _⟩

/-- what the program's leads asks -/
def ledB (L : List K) (f : Nat → Int) (k : Int) : Bool := (decide (0 ≤ k) && decide (k < (L.length : Int))) && (decide ((at' L k.toNat).round % 3 = 0) && decide ((at' L k.toNat).hand = f ((at' L k.toNat).round / 3).toNat))
theorem ledB_leads {L : List K} (hlc : laceB L = true) {C : List Int} (hc : coinsB C = true) (f : Nat → Int) (hf : ∀ i, i < 7 → f i = leadI C (i : Int)) (k : Int) : ledB L f k = leadsB L C k := by
  unfold ledB leadsB leadK
  rw [Db.isB_lace hlc, hc]
  by_cases hk : 0 ≤ k ∧ k < (L.length : Int)
  · obtain ⟨p, rfl⟩ := Int.eq_ofNat_of_zero_le hk.1
    have hrb := Lc.ok_round (Lc.can_ok (Lc.lace_upTo hlc p (by omega)))
    rw [Int.toNat_natCast] at *
    rw [hf _ (by omega), show ((((at' L p).round / 3).toNat : Nat) : Int) = (at' L p).round / 3 by omega]
    simp
  · have : (decide (0 ≤ k) && decide (k < (L.length : Int))) = false := by
      rw [Bool.eq_false_iff]; intro h; rw [Bool.and_eq_true, decide_eq_true_eq, decide_eq_true_eq] at h; exact hk h
    rw [this]; rfl

theorem beginsWave (r : Int) (w : World) (h0 : 0 ≤ r) (h1 : r ≤ 1000) : Calls Tryz.prog 118 #[.int .i64 r] w fun e w' => e = .returned (.bool (decide (r % 3 = 0))) ∧ w = w' := by
  have HD : Hid ((r % 3 == 0) = decide (r % 3 = 0)) := rfl
  go_enter Tryz.func118, Tryz.ntmps118
  go_wp2
  go_ret
  exact ⟨by rw [← HD.out]; rfl, rfl⟩

theorem waveOf (r : Int) (w : World) (h0 : 0 ≤ r) (h1 : r ≤ 1000) : Calls Tryz.prog 119 #[.int .i64 r] w fun e w' => e = .returned (.int .i64 (r / 3)) ∧ w = w' := by
  go_enter Tryz.func119, Tryz.ntmps119
  go_wp2
  go_ret
  exact ⟨rfl, rfl⟩

set_option maxHeartbeats 1600000 in
theorem leads (g off cap : Nat) (L : List K) (f : Nat → Int) (k : Int) (w : World) (hlc : laceB L = true) (hg : g < w.heap.size) (hr : RdK w (some ⟨g, off, none⟩) L) :
    Calls Tryz.prog 100 #[.slice (some ⟨g, off, none⟩) L.length cap, .agg #[.int .i64 (f 0), .int .i64 (f 1), .int .i64 (f 2), .int .i64 (f 3), .int .i64 (f 4), .int .i64 (f 5), .int .i64 (f 6)], .int .i64 k] w fun e w' => e = .returned (.bool (ledB L f k)) ∧ Below w.heap.size w w' := by
  have h60 := ((Lc.lace_iff L).1 hlc).1
  have P0 : Hid (Below w.heap.size w (w.alloc (.cells #[.int .i64 (f 0), .int .i64 (f 1), .int .i64 (f 2), .int .i64 (f 3), .int .i64 (f 4), .int .i64 (f 5), .int .i64 (f 6)] 46)) ∧ RowI (w.alloc (.cells #[.int .i64 (f 0), .int .i64 (f 1), .int .i64 (f 2), .int .i64 (f 3), .int .i64 (f 4), .int .i64 (f 5), .int .i64 (f 6)] 46)) w.heap.size 7 f) := ⟨(Below.refl _ _).alloc (Nat.le_refl _) _, rowI_seven w _ f⟩
  have HA : Hid (∀ W : World, Calls Tryz.prog 24 #[.int .i64 (2 ^ L.length - 1), .int .i64 k] W fun e w' => e = .returned (.bool (decide (0 ≤ k) && decide (k < (L.length : Int)))) ∧ W = w') := fun W => by
    have := Base.has (2 ^ L.length - 1) k W
    rw [Sg.all_has h60 k] at this
    exact this
  by_cases hk : 0 ≤ k ∧ k < (L.length : Int)
  · have HI : Hid ((decide (0 ≤ k) && decide (k < (L.length : Int))) = true) := by show _ = _; rw [decide_eq_true hk.1, decide_eq_true hk.2]; rfl
    have HT : Hid (ledB L f k = (decide ((at' L k.toNat).round % 3 = 0) && decide ((at' L k.toNat).hand = f ((at' L k.toNat).round / 3).toNat))) := by show _ = _; unfold ledB; rw [HI.out]; rfl
    rw [HI.out] at HA
    obtain ⟨p, rfl⟩ := Int.eq_ofNat_of_zero_le hk.1
    have hp : p < L.length := by omega
    rw [Int.toNat_natCast] at HT
    have hrb := Lc.ok_round (Lc.can_ok (Lc.lace_upTo hlc p hp))
    obtain ⟨_, hcs⟩ := hr.on p hp
    have hcs' := hcs.below P0.out.1 hg
    obtain ⟨c0, c1, _, _⟩ := hcs'
    clear HI hk hlc hcs hr
    generalize at' L p = kk at c0 c1 HT hrb
    obtain ⟨kh, kr, kf, kw⟩ := kk
    dsimp only at c0 c1 HT hrb
    have HBW : Hid (∀ W : World, Calls Tryz.prog 118 #[.int .i64 kr] W fun e w' => e = .returned (.bool (decide (kr % 3 = 0))) ∧ W = w') := fun W => beginsWave kr W hrb.1 (by omega)
    have HWO : Hid (∀ W : World, Calls Tryz.prog 119 #[.int .i64 kr] W fun e w' => e = .returned (.int .i64 (kr / 3)) ∧ W = w') := fun W => waveOf kr W hrb.1 (by omega)
    by_cases hz : kr % 3 = 0
    · obtain ⟨q, hq⟩ := Int.eq_ofNat_of_zero_le (show 0 ≤ kr / 3 by omega)
      have hq7 : q < 7 := by omega
      have hq7' : (q : Int) < 7 := by omega
      rw [hq] at HWO HT
      rw [decide_eq_true hz] at HBW HT
      rw [Int.toNat_natCast, Bool.true_and] at HT
      have HE : Hid ((kh == f q) = decide (kh = f q)) := rfl
      clear hz hrb hq
      have HP := P0
      clear P0
      go_enter Tryz.func100, Tryz.ntmps100
      go_wp2_with fail
      generalize w.alloc (.cells #[.int .i64 (f 0), .int .i64 (f 1), .int .i64 (f 2), .int .i64 (f 3), .int .i64 (f 4), .int .i64 (f 5), .int .i64 (f 6)] 46) = V at HP c0 c1 ⊢
      have HB : Hid (Below w.heap.size w V) := HP.out.1
      have cq := HP.out.2.rd q hq7
      clear HP
      generalize f q = y at cq HT HE
      go_quiet (first | (go_at_call 23; exact (Lc.all _ _ _ _ h60).mono fun _ _ h => ⟨h.1, _, h.2.symm⟩) | (go_at_call 24; exact (HA.out _).mono fun _ _ h => ⟨h.1, _, h.2.symm⟩) | (go_at_call 118; exact (HBW.out _).mono fun _ _ h => ⟨h.1, _, h.2.symm⟩) | (go_at_call 119; exact (HWO.out _).mono fun _ _ h => ⟨h.1, _, h.2.symm⟩))
      go_wp2
      go_ret
      exact ⟨by rw [HT.out, ← HE.out]; rfl, Db.below_drewN HB.out _⟩
    · rw [decide_eq_false hz] at HBW HT
      rw [Bool.false_and] at HT
      have HP := P0
      clear P0 hz hrb HWO
      go_enter Tryz.func100, Tryz.ntmps100
      go_wp2_with fail
      generalize w.alloc (.cells #[.int .i64 (f 0), .int .i64 (f 1), .int .i64 (f 2), .int .i64 (f 3), .int .i64 (f 4), .int .i64 (f 5), .int .i64 (f 6)] 46) = V at HP c0 c1 ⊢
      have HB : Hid (Below w.heap.size w V) := HP.out.1
      clear HP
      go_quiet (first | (go_at_call 23; exact (Lc.all _ _ _ _ h60).mono fun _ _ h => ⟨h.1, _, h.2.symm⟩) | (go_at_call 24; exact (HA.out _).mono fun _ _ h => ⟨h.1, _, h.2.symm⟩) | (go_at_call 118; exact (HBW.out _).mono fun _ _ h => ⟨h.1, _, h.2.symm⟩))
      go_wp2
      go_ret
      exact ⟨by rw [HT.out]; rfl, Db.below_drewN HB.out _⟩
  · have HI : Hid ((decide (0 ≤ k) && decide (k < (L.length : Int))) = false) := by
      show _ = _
      rw [Bool.eq_false_iff]; intro h; rw [Bool.and_eq_true, decide_eq_true_eq, decide_eq_true_eq] at h; exact hk h
    have HT : Hid (ledB L f k = false) := by show _ = _; unfold ledB; rw [HI.out]; rfl
    rw [HI.out] at HA
    clear HI hk hlc hr
    go_enter Tryz.func100, Tryz.ntmps100
    go_wp2_with fail
    generalize w.alloc (.cells #[.int .i64 (f 0), .int .i64 (f 1), .int .i64 (f 2), .int .i64 (f 3), .int .i64 (f 4), .int .i64 (f 5), .int .i64 (f 6)] 46) = V at P0 ⊢
    have HB : Hid (Below w.heap.size w V) := P0.out.1
    clear P0
    go_quiet (first | (go_at_call 23; exact (Lc.all _ _ _ _ h60).mono fun _ _ h => ⟨h.1, _, h.2.symm⟩) | (go_at_call 24; exact (HA.out _).mono fun _ _ h => ⟨h.1, _, h.2.symm⟩))
    go_wp2
    go_ret
    exact ⟨by rw [HT.out]; rfl, Db.below_drewN HB.out _⟩

end Ch
end Go.Proofs.YtodgkhlnefggdaaGreat

namespace Go.Proofs.YtodgkhlnefggdaaGreat
open Go.RowKit
set_option maxRecDepth 100000
set_option linter.unusedVariables false
namespace Sl
open Kn (K okK)
open Bit (bit withB memTo)
open Lc (at' RdK WordsOk laceB setB HandsOk handsN)
open Sg (isB bel belows seesB metI)
open Nd (nodF nodsB nodN nodS)
open Ak (onlyF)

/-- all that nod to b, as the program tells them -/
def ndI (L : List K) (b : Int) : Int := nodF L b (Memb.memI (2 ^ L.length - 1))

theorem ndI_bd (L : List K) (b : Int) : 0 ≤ ndI L b ∧ ndI L b < 1152921504606846976 := (Nd.nodF_bits L b _ (fun _ h => Nd.mem_memI h)).1
theorem bit_ndI {L : List K} (h60 : L.length ≤ 60) (b : Int) (j : Nat) : bit (ndI L b) j = nodsB L (j : Int) b := by
  have hp := Lc.pow60 L.length h60
  rw [Bool.eq_iff_iff]
  unfold ndI
  rw [(Nd.nodF_bits L b _ (fun _ h => Nd.mem_memI h)).2 j, Ak.mem_bit (by omega) (by omega), Ak.bit_all h60]
  refine ⟨fun h => h.2, fun h => ⟨?_, h⟩⟩
  unfold Nd.nodsB at h
  rw [Bool.and_eq_true] at h
  obtain ⟨_, p1, _⟩ := Sg.isB_parts h.1
  exact decide_eq_true (by omega)

/-- what the program's sealing asks -/
theorem seal_asks {L : List K} (hl : laceB L = true) (a b : Int) : decide (3 ≤ handsN L (bits .and .i64 (ndI L b) (metI L a))) = sealsB L a b := by
  have h60 := ((Lc.lace_iff L).1 hl).1
  have hn := ndI_bd L b
  have hm := Nd.met_bd h60 a
  have hbit := fun i => bit_and (ndI L b) (metI L a) hn.1 hn.2 hm.1 hm.2 i
  unfold sealsB
  cases ha : isB L a
  · have : handsN L (bits .and .i64 (ndI L b) (metI L a)) = 0 := hands_zero fun i hi => by
      rw [hbit i]
      have e : metI L a = 0 := by
        unfold Sg.metI
        rw [if_neg]
        intro h
        rw [Db.isB_lace hl, decide_eq_true h.1, decide_eq_true h.2] at ha
        exact Bool.noConfusion ha
      rw [e, Lc.bit_zero, Bool.and_false]
    rw [this]; rfl
  · obtain ⟨a0, a1, _⟩ := Sg.isB_parts ha
    cases hb : isB L b
    · have : handsN L (bits .and .i64 (ndI L b) (metI L a)) = 0 := hands_zero fun i hi => by
        rw [hbit i, bit_ndI h60]
        unfold Nd.nodsB
        rw [hb]; simp
      rw [this]; rfl
    · obtain ⟨b0, b1, _⟩ := Sg.isB_parts hb
      have hma : metI L a = bel L a.toNat := by unfold Sg.metI; rw [if_pos ⟨a0, a1⟩]
      have key : ∀ i, i < L.length → bit (bits .and .i64 (ndI L b) (metI L a)) i = bit (nodAt L a.toNat b.toNat) i := fun i hi => by
        rw [hbit i, bit_ndI h60, hma, bit_nodAt h60 (by omega), decide_eq_true hi]
        unfold Nd.nodsB
        rw [hb, Int.toNat_natCast, Db.isB_lace hl, decide_eq_true (by omega : (0 : Int) ≤ (i : Int)), decide_eq_true (by omega : (i : Int) < (L.length : Int))]
        simp only [Bool.true_and]
        exact Bool.and_comm _ _
      have e : handsN L (bits .and .i64 (ndI L b) (metI L a)) = handsN L (nodAt L a.toNat b.toNat) :=
        Int.le_antisymm (hands_mono fun i hi h => by rw [← key i hi]; exact h) (hands_mono fun i hi h => by rw [key i hi]; exact h)
      rw [e]
      rfl

set_option maxHeartbeats 1600000 in
theorem sealing1 (bl bn g off cap : Nat) (L : List K) (a b : Int) (w : World) (hlc : laceB L = true) (hg : g < w.heap.size) (hr : RdK w (some ⟨g, off, none⟩) L)
    (hbl : bl < w.heap.size) (hbn : bn < w.heap.size) (cl : w.cell? ⟨bl, 0, none⟩ = some (.slice (some ⟨g, off, none⟩) L.length cap)) (cn : w.cell? ⟨bn, 0, none⟩ = some (.int .i64 (ndI L b))) :
    Calls Tryz.prog 122 #[.int .i64 a, .pointer (some ⟨bl, 0, none⟩), .pointer (some ⟨bn, 0, none⟩)] w fun e w' => e = .returned (.bool (sealsB L a b)) ∧ Below w.heap.size w w' := by
  have h60 := ((Lc.lace_iff L).1 hlc).1
  have hn := ndI_bd L b
  have hm := Nd.met_bd h60 a
  have hA := and_bd _ _ hn.1 hn.2 hm.1 hm.2
  have hbit := fun i => bit_and (ndI L b) (metI L a) hn.1 hn.2 hm.1 hm.2 i
  have hd : bits .and .i64 (ndI L b) (metI L a) / 2 ^ L.length = 0 := Lc.div_of_bits _ _ hA.1 fun i hi => by
    rw [hbit i, Bool.and_eq_false_iff]
    right
    rw [Bool.eq_false_iff]
    intro h
    have := Nd.met_in hlc a i h
    omega
  have HT : Hid (decide (3 ≤ handsN L (bits .and .i64 (ndI L b) (metI L a))) = sealsB L a b) := seal_asks hlc a b
  have HB : Hid (∀ W : World, Below w.heap.size w W → Calls Tryz.prog 63 #[.slice (some ⟨g, off, none⟩) L.length cap, .int .i64 a] W fun e w' => e = .returned (.int .i64 (metI L a)) ∧ Below w.heap.size w w') := fun W hW =>
    (Sg.below g off cap L a W hlc (Nat.lt_of_lt_of_le hg hW.size) (hr.below hW)).mono fun _ _ h => ⟨h.1, hW.trans (h.2.mono hW.size)⟩
  have HH : Hid (∀ W : World, Below w.heap.size w W → Calls Tryz.prog 98 #[.slice (some ⟨g, off, none⟩) L.length cap, .int .i64 (bits .and .i64 (ndI L b) (metI L a))] W fun e w' => e = .returned (.int .i64 (handsN L (bits .and .i64 (ndI L b) (metI L a)))) ∧ Below w.heap.size w w') := fun W hW =>
    (Lc.hands g off cap L _ W h60 hA.1 hA.2 hd (Lc.lace_hands hlc) (hr.below hW)).mono fun _ _ h => ⟨h.1, hW.trans (h.2.mono hW.size)⟩
  clear hd hbit hA
  generalize ndI L b = nd at cn HT HH hn
  generalize metI L a = mt at HT HH HB hm
  generalize hbb : bits .and .i64 nd mt = bb at HT HH
  have HBB : Hid (bits .and .i64 nd mt = bb) := hbb
  clear hbb
  generalize handsN L bb = hh at HT HH
  go_enter Tryz.func122, Tryz.ntmps122
  go_wp2_with fail
  obtain ⟨X, _, F, HF, HG⟩ := Fam.fam w
  have hc1 : ∀ z, (F z).cell? ⟨bl, 0, none⟩ = some (.slice (some ⟨g, off, none⟩) L.length cap) := fun z => ((HF.out z).cell (p := ⟨bl, 0, none⟩) hbl).trans cl
  have hc2 : ∀ z, (F z).cell? ⟨bn, 0, none⟩ = some (.int .i64 nd) := fun z => ((HF.out z).cell (p := ⟨bn, 0, none⟩) hbn).trans cn
  clear cl cn
  refine Fam.region (F := F) (by kernel_rfl) (by kernel_rfl) (HG.out _ (Below.refl _ w).drew) ?_
  repeat (go_big_quiet_step (first
    | (go_at_call 63; exact (HB.out _ (HF.out _)).mono fun _ _ h => ⟨h.1, HG.out _ h.2⟩)
    | (go_at_call 98; rw [HBB.out]; exact (HH.out _ (HF.out _)).mono fun _ _ h => ⟨h.1, HG.out _ h.2⟩)))
  refine wpQuiet_nil ?_
  intro w2 hw2
  obtain ⟨z, rfl⟩ := hw2
  have HB2 : Hid (Below w.heap.size w (F z)) := HF.out z
  go_wp2
  go_ret
  exact ⟨by rw [← HT.out]; rfl, HB2.out⟩

/-- the closure that tells of whoever is asked whether it seals b -/
def SealFn (L : List K) (b : Int) (g off cap : Nat) (w : World) (e : Ending) (w' : World) : Prop :=
  ∃ bl bn, e = .returned (.func (.func 122) #[] #[.pointer (some ⟨bl, 0, none⟩), .pointer (some ⟨bn, 0, none⟩)]) ∧ bl < w'.heap.size ∧ bn < w'.heap.size ∧
    w'.cell? ⟨bl, 0, none⟩ = some (.slice (some ⟨g, off, none⟩) L.length cap) ∧ w'.cell? ⟨bn, 0, none⟩ = some (.int .i64 (ndI L b)) ∧ Below w.heap.size w w'

theorem kA {W V : World} (h : Below W.drew.heap.size W.drew V) : Below W.heap.size W V := ⟨h.os, h.tape, h.output, h.size, h.block⟩
theorem kB {W V : World} {o : Obj} (h : Below (W.drew.alloc o).heap.size (W.drew.alloc o) V) : Below W.heap.size W V := kA (((Below.refl _ W.drew).alloc (Nat.le_refl _) o).trans (h.mono (by simp)))
theorem kC {W V : World} {o : Obj} (h : Below (W.alloc o).drew.heap.size (W.alloc o).drew V) : Below W.heap.size W V := ((Below.refl _ W).alloc (Nat.le_refl _) o).trans ((kA h).mono (by simp))
theorem keepN {W V : World} {t : TypeId} {v : Value} (h : Below (W.drew.alloc (.cells #[v] t)).heap.size (W.drew.alloc (.cells #[v] t)) V) : V.cell? ⟨W.heap.size, 0, none⟩ = some v ∧ V.frozen? ⟨W.heap.size, 0, none⟩ = false ∧ W.heap.size < V.heap.size := by
  have c := Sg.boxNew W.drew v t
  have hs : W.heap.size < (W.drew.alloc (.cells #[v] t)).heap.size := by rw [World.size_alloc]; exact Nat.lt_succ_self _
  exact ⟨(h.cell (p := ⟨W.heap.size, 0, none⟩) hs).trans c.1, (h.frozen (p := ⟨W.heap.size, 0, none⟩) hs).trans c.2, Nat.lt_of_lt_of_le hs h.size⟩
theorem keepN' {W V : World} {t : TypeId} {v : Value} (h : Below (W.alloc (.cells #[v] t)).drew.heap.size (W.alloc (.cells #[v] t)).drew V) : V.cell? ⟨W.heap.size, 0, none⟩ = some v ∧ V.frozen? ⟨W.heap.size, 0, none⟩ = false ∧ W.heap.size < V.heap.size := by
  have c := Sg.boxNew W v t
  have hs : W.heap.size < (W.alloc (.cells #[v] t)).heap.size := by simp
  have h' := kA h
  exact ⟨(h'.cell (p := ⟨W.heap.size, 0, none⟩) hs).trans c.1, (h'.frozen (p := ⟨W.heap.size, 0, none⟩) hs).trans c.2, Nat.lt_of_lt_of_le hs h'.size⟩

theorem fn_new {L : List K} {b nd : Int} {g off cap bl : Nat} {w w0 V : World} {t : TypeId} (hb : w.heap.size = bl) (hn : ndI L b = nd) (B0 : Below bl w w0) (C0 : w0.cell? ⟨bl, 0, none⟩ = some (.slice (some ⟨g, off, none⟩) L.length cap)) (S0 : bl < w0.heap.size) (B1 : Below w0.heap.size w0 V) :
    SealFn L b g off cap w (.returned (.func (.func 122) #[] #[.pointer (some ⟨bl, 0, none⟩), .pointer (some ⟨V.heap.size, 0, none⟩)])) (V.alloc (.cells #[.int .i64 nd] t)) := by
  subst hb hn
  have hs := B1.size
  refine ⟨w.heap.size, V.heap.size, rfl, by simp; omega, by simp, Sg.boxCell _ ((B1.cell (p := ⟨w.heap.size, 0, none⟩) S0).trans C0), (Sg.boxNew V _ t).1, ?_⟩
  exact (B0.trans (B1.mono (Nat.le_of_lt S0))).alloc (by omega) _
theorem fn_put {L : List K} {b nd : Int} {g off cap bl : Nat} {w w0 V : World} {v : Value} (hb : w.heap.size = bl) (hn : ndI L b = nd) (B0 : Below bl w w0) (C0 : w0.cell? ⟨bl, 0, none⟩ = some (.slice (some ⟨g, off, none⟩) L.length cap)) (S0 : bl < w0.heap.size) (B1 : Below w0.heap.size w0 V) (hc : V.cell? ⟨w0.heap.size, 0, none⟩ = some v) (hv : w0.heap.size < V.heap.size) :
    SealFn L b g off cap w (.returned (.func (.func 122) #[] #[.pointer (some ⟨bl, 0, none⟩), .pointer (some ⟨w0.heap.size, 0, none⟩)])) (V.setCell ⟨w0.heap.size, 0, none⟩ (.int .i64 nd)) := by
  subst hb hn
  have hs := B1.size
  refine ⟨w.heap.size, w0.heap.size, rfl, by simp; omega, by simp; omega, (Sg.put_other V _ _ (by omega) _).trans ((B1.cell (p := ⟨w.heap.size, 0, none⟩) S0).trans C0), World.cell?_setCell_same' _ _ _ (by rw [hc]; rfl), ?_⟩
  exact (B0.trans (B1.mono (Nat.le_of_lt S0))).setCell (p := ⟨w0.heap.size, 0, none⟩) (show w.heap.size ≤ w0.heap.size by omega) _

set_option maxHeartbeats 3200000 in
theorem sealing (g off cap : Nat) (L : List K) (b : Int) (w : World) (hlc : laceB L = true) (hg : g < w.heap.size) (hr : RdK w (some ⟨g, off, none⟩) L) :
    Calls Tryz.prog 103 #[.slice (some ⟨g, off, none⟩) L.length cap, .int .i64 b] w (SealFn L b g off cap w) := by
  have h60 := ((Lc.lace_iff L).1 hlc).1
  have P0 : Hid (Below w.heap.size w (w.alloc (.cells #[.slice (some ⟨g, off, none⟩) L.length cap] 43)) ∧ (w.alloc (.cells #[.slice (some ⟨g, off, none⟩) L.length cap] 43)).cell? ⟨w.heap.size, 0, none⟩ = some (.slice (some ⟨g, off, none⟩) L.length cap) ∧ w.heap.size < (w.alloc (.cells #[.slice (some ⟨g, off, none⟩) L.length cap] 43)).heap.size) := ⟨(Below.refl _ _).alloc (Nat.le_refl _) _, by simp, by simp⟩
  go_enter Tryz.func103, Tryz.ntmps103
  go_wp2_with fail
  generalize w.alloc (.cells #[.slice (some ⟨g, off, none⟩) L.length cap] 43) = w0 at P0 ⊢
  obtain ⟨B0, C0, S0⟩ := P0
  have HB0 : Hid (Below w.heap.size w w0) := B0
  clear B0
  have HNC : Hid (∀ W : World, Below w0.heap.size w0 W → Calls Tryz.prog 87 #[.slice (some ⟨g, off, none⟩) L.length cap, .int .i64 (2 ^ L.length - 1), .int .i64 b] W fun e w' => e = .returned (.int .i64 (ndI L b)) ∧ Below W.heap.size W w') := fun W hW =>
    Nd.nodders g off cap L _ b W hlc (Nat.lt_of_lt_of_le (Nat.lt_of_lt_of_le hg HB0.out.size) hW.size) ((hr.below HB0.out).below hW)
  generalize hnd : ndI L b = nd at HNC
  have HND : Hid (ndI L b = nd) := hnd
  clear hnd
  generalize hb : w.heap.size = bl at *
  have HWB : Hid (w.heap.size = bl) := hb
  have HC0 : Hid (w0.cell? ⟨bl, 0, none⟩ = some (.slice (some ⟨g, off, none⟩) L.length cap)) := C0
  clear hb hr
  have HSB : Hid (∀ X : World, Below w0.heap.size w0 X → X.cell? ⟨bl, 0, none⟩ = some (.slice (some ⟨g, off, none⟩) L.length cap)) := fun X hX => (hX.cell (p := ⟨bl, 0, none⟩) S0).trans C0
  go_region_held3 (fun X => X.cell? ⟨bl, 0, none⟩ = some (.slice (some ⟨g, off, none⟩) L.length cap)) (first
      | exact HSB.out _ (B1.alloc B1.size _)
      | exact HSB.out _ B1
      | exact HSB.out _ (B1.setCell (p := ⟨w0.heap.size, 0, none⟩) (Nat.le_refl _) _)
      | exact HSB.out _ (Below.refl _ _).drew
      | exact HSB.out _ ((Below.refl _ _).alloc (Nat.le_refl _) _).drew
      | exact HSB.out _ ((Below.refl _ _).drew.alloc (Nat.le_refl _) _)
      | go_keep) (first
      | (go_at_call 23
         refine (Lc.all _ _ _ _ h60).mono ?_
         rintro e V0 ⟨rfl, rfl⟩)
      | (go_at_call 87
         refine (HNC.out _ (by first | exact (Below.refl _ _).drew | exact ((Below.refl _ _).alloc (Nat.le_refl _) _).drew | exact (Below.refl _ _).drew.alloc (Nat.le_refl _) _)).mono ?_
         rintro e V1 ⟨rfl, b1⟩
         (first | have HZ := keepN b1 | have HZ := keepN' b1 | skip)
         (first | (have z0 := HZ.1; have g0 := HZ.2.1; have s0 := HZ.2.2) | skip)
         (first | have B1 : Below w0.heap.size w0 V1 := kC b1 | have B1 : Below w0.heap.size w0 V1 := kB b1 | have B1 : Below w0.heap.size w0 V1 := kA b1)))
  all_goals (go_wp2)
  all_goals go_ret
  all_goals (first
    | exact fn_new HWB.out HND.out HB0.out HC0.out S0 B1
    | exact fn_put HWB.out HND.out HB0.out HC0.out S0 B1 z0 s0)

set_option maxHeartbeats 400000 in
theorem seals (g off cap : Nat) (L : List K) (a b : Int) (w : World) (hlc : laceB L = true) (hg : g < w.heap.size) (hr : RdK w (some ⟨g, off, none⟩) L) :
    Calls Tryz.prog 82 #[.slice (some ⟨g, off, none⟩) L.length cap, .int .i64 a, .int .i64 b] w fun e w' => e = .returned (.bool (sealsB L a b)) ∧ Below w.heap.size w w' := by
  have HLC : Hid (laceB L = true) := hlc
  clear hlc
  go_enter Tryz.func82, Tryz.ntmps82
  go_wp2_with fail
  refine (sealing g off cap L b _ HLC.out hg hr).mono ?_
  rintro e w1 ⟨bl, bn, rfl, hbl, hbn, cl, cn, hb1⟩
  have hcall := sealing1 bl bn g off cap L a b w1 HLC.out (Nat.lt_of_lt_of_le hg hb1.size) (hr.below hb1) hbl hbn cl cn
  clear cl cn hbl hbn
  go_wp2_with fail
  refine hcall.mono ?_
  rintro e w2 ⟨rfl, hb2⟩
  have B2 := hb1.trans (hb2.mono hb1.size)
  clear hcall hb1 hb2
  go_wp2
  go_ret
  exact ⟨rfl, B2⟩

set_option maxHeartbeats 400000 in
theorem sealers (g off cap : Nat) (L : List K) (s b : Int) (w : World) (hlc : laceB L = true) (hg : g < w.heap.size) (hr : RdK w (some ⟨g, off, none⟩) L) :
    Calls Tryz.prog 112 #[.slice (some ⟨g, off, none⟩) L.length cap, .int .i64 s, .int .i64 b] w fun e w' => e = .returned (.int .i64 (onlyF (fun a => sealsB L a b) (Memb.memI s))) ∧ Below w.heap.size w w' := by
  have HLC : Hid (laceB L = true) := hlc
  clear hlc
  go_enter Tryz.func112, Tryz.ntmps112
  go_wp2_with fail
  refine (sealing g off cap L b _ HLC.out hg hr).mono ?_
  rintro e w1 ⟨bl, bn, rfl, hbl, hbn, cl, cn, hb1⟩
  have hcall := Ak.only 122 (enters_of Tryz.func122 (by kernel_rfl) rfl) (.pointer (some ⟨bl, 0, none⟩)) (.pointer (some ⟨bn, 0, none⟩)) (fun a => sealsB L a b) s w1 (fun W a hW _ _ =>
    sealing1 bl bn g off cap L a b W HLC.out (Nat.lt_of_lt_of_le hg (Nat.le_trans hb1.size hW.size)) ((hr.below hb1).below hW) (Nat.lt_of_lt_of_le hbl hW.size) (Nat.lt_of_lt_of_le hbn hW.size) ((hW.cell (p := ⟨bl, 0, none⟩) hbl).trans cl) ((hW.cell (p := ⟨bn, 0, none⟩) hbn).trans cn))
  generalize hof : onlyF (fun a => sealsB L a b) (Memb.memI s) = of at hcall
  have HOF : Hid (onlyF (fun a => sealsB L a b) (Memb.memI s) = of) := hof
  clear hof
  clear cl cn hbl hbn
  go_wp2_with fail
  refine hcall.mono ?_
  rintro e w2 ⟨rfl, hb2⟩
  have B2 := hb1.trans (hb2.mono hb1.size)
  clear hcall hb1 hb2
  go_wp2
  go_ret
  exact ⟨by rw [HOF.out]; rfl, B2⟩

theorem lace_box (w : World) (v : Value) (a : Int) (t u : TypeId) : Below w.heap.size w ((w.alloc (.cells #[v] t)).alloc (.cells #[.int .i64 a] u)) ∧ ((w.alloc (.cells #[v] t)).alloc (.cells #[.int .i64 a] u)).cell? ⟨w.heap.size, 0, none⟩ = some v ∧ ((w.alloc (.cells #[v] t)).alloc (.cells #[.int .i64 a] u)).cell? ⟨w.heap.size + 1, 0, none⟩ = some (.int .i64 a) ∧ w.heap.size + 1 < ((w.alloc (.cells #[v] t)).alloc (.cells #[.int .i64 a] u)).heap.size := by
  have c1 := Sg.boxNew (w.alloc (.cells #[v] t)) (.int .i64 a) u
  simp only [World.size_alloc] at c1
  exact ⟨((Below.refl _ _).alloc (Nat.le_refl _) _).alloc (by simp) _, Sg.boxCell _ (Sg.boxNew w v t).1, c1.1, by simp⟩

/-- of a set of the lace: the document's Sealers -/
theorem only_sealers {L : List K} {s b : Int} (hs : setB L s = true) (hb : isB L b = true) : onlyF (fun a => sealsB L a b) (Memb.memI s) = sealersI L s b := by
  obtain ⟨hl, q0, q1, qd, _, _⟩ := Lc.setB_parts hs
  have h60 := ((Lc.lace_iff L).1 hl).1
  have hF := Ak.onlyF_bits (fun a => sealsB L a b) (Memb.memI s) (fun _ h => Ak.mem_memI h)
  have hN := sealS_bd L b.toNat L.length h60
  have hA := and_bd s _ q0 q1 hN.1 hN.2
  unfold sealersI
  rw [hs, hb]
  simp only [Bool.and_self, if_true]
  refine Lc.eq_of_bits _ _ hF.1.1 hA.1 fun j => ?_
  rw [Bool.eq_iff_iff, hF.2 j, bit_and s _ q0 q1 hN.1 hN.2, bit_sealS L b.toNat L.length h60, Bool.and_eq_true, Bool.and_eq_true, decide_eq_true_eq, Ak.mem_bit q0 q1]
  constructor
  · rintro ⟨h1, h2⟩
    unfold sealsB at h2
    rw [Bool.and_eq_true, Bool.and_eq_true] at h2
    obtain ⟨_, p1, _⟩ := Sg.isB_parts h2.1
    exact ⟨h1, by omega, by have := h2.2.2; rwa [Int.toNat_natCast] at this⟩
  · rintro ⟨h1, h2, h3⟩
    refine ⟨h1, ?_⟩
    unfold sealsB
    rw [hb, Int.toNat_natCast, h3, Db.isB_lace hl]
    simp; omega
/-- of a knot: the document's SealedOf -/
theorem only_sealed {L : List K} {a : Int} (ha : isB L a = true) : onlyF (fun b => sealsB L a b) (Memb.memI (metI L a)) = sealedI L a := by
  obtain ⟨a0, a1, hl⟩ := Sg.isB_parts ha
  have h60 := ((Lc.lace_iff L).1 hl).1
  have hF := Ak.onlyF_bits (fun b => sealsB L a b) (Memb.memI (metI L a)) (fun _ h => Ak.mem_memI h)
  have hN := sealedS_bd L a.toNat L.length h60
  have hm := Nd.met_bd h60 a
  unfold sealedI
  rw [ha, if_pos rfl]
  refine Lc.eq_of_bits _ _ hF.1.1 hN.1 fun j => ?_
  rw [Bool.eq_iff_iff, hF.2 j, bit_sealedS L a.toNat L.length h60, Bool.and_eq_true, decide_eq_true_eq, Ak.mem_bit hm.1 hm.2]
  have hma : metI L a = bel L a.toNat := by unfold Sg.metI; rw [if_pos ⟨a0, a1⟩]
  constructor
  · rintro ⟨h1, h2⟩
    unfold sealsB at h2
    rw [Bool.and_eq_true, Bool.and_eq_true] at h2
    exact ⟨Nd.met_in hl a j h1, by have := h2.2.2; rwa [Int.toNat_natCast] at this⟩
  · rintro ⟨h2, h3⟩
    refine ⟨by rw [hma]; exact seal_sees hl (by omega) h3, ?_⟩
    unfold sealsB
    rw [ha, Int.toNat_natCast, h3, Db.isB_lace hl]
    simp; omega

end Sl
end Go.Proofs.YtodgkhlnefggdaaGreat
