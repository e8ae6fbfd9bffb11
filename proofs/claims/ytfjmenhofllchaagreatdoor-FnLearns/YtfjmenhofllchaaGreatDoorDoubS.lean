/-
  What the model answers for the doubled ones: for each knot the set of those of its hand that it doesn't see and that don't see it; for laces of at most 60 knots.
-/
import Derived.Test.YtfjmenhofllchaaGreatDoorSightS
import Derived.Test.YtfjmenhofllchaaGreatDoorSightN
import Derived.BigRegion
namespace Go.Proofs.YtfjmenhofllchaaGreatDoor
open Go.RowKit
set_option maxRecDepth 100000
namespace Db
open Kn (K okK)
open Bit (bit withB)
open Lc (at' RdK)

/-- the greater one and the lesser one are of one hand, and the greater one doesn't see the lesser one -/
def pairB (L : List K) (l : List Int) (a b : Nat) : Bool := decide ((at' L a).hand = (at' L b).hand) && !bit (l.getD a 0) b
/-- doubled -/
def dblB (L : List K) (l : List Int) (i j : Nat) : Bool := if j < i then pairB L l i j else if i < j then pairB L l j i else false
/-- the pairs that have been looked at: all below a, and those of a below b -/
def doneB (a b i j : Nat) : Bool := (decide (i < a) && decide (j < a)) || ((decide (i = a) && decide (j < b)) || (decide (j = a) && decide (i < b)))

/-- numbers in a block of the call's own -/
structure RowI (w : World) (g n : Nat) (D : Nat → Int) : Prop where
  lt : g < w.heap.size
  rd : ∀ i, i < n → w.cell? ⟨g, i, none⟩ = some (.int .i64 (D i))
  fr : ∀ i, i < n → w.frozen? ⟨g, i, none⟩ = false

theorem RowI.put {w : World} {g n : Nat} {D : Nat → Int} (h : RowI w g n D) (m : Nat) (hm : m < n) (x : Int) : RowI (w.setCell ⟨g, m, none⟩ (.int .i64 x)) g n (fun i => if i = m then x else D i) where
  lt := by simpa using h.lt
  rd := fun i hi => by
    by_cases e : i = m
    · subst e; simpa using World.cell?_setCell_same _ _ _ (h.rd i hi)
    · rw [if_neg e]; exact (World.cell?_setCell_other _ _ _ _ (by intro q; injection q with _ q; exact e q.symm)).trans (h.rd i hi)
  fr := fun i hi => by simpa using h.fr i hi
theorem RowI.drew {w : World} {g n : Nat} {D : Nat → Int} (h : RowI w g n D) : RowI w.drew g n D := ⟨h.lt, h.rd, h.fr⟩
theorem RowI.drewN {w : World} {g n : Nat} {D : Nat → Int} (h : RowI w g n D) (k : Nat) : RowI (w.drewN k) g n D := ⟨h.lt, h.rd, h.fr⟩

/-- what the numbers are when the pairs up to there have been looked at -/
def Dbl (L : List K) (l : List Int) (a b : Nat) (D : Nat → Int) : Prop := ∀ i, i < L.length → (0 ≤ D i ∧ D i < 1152921504606846976) ∧ ∀ j, bit (D i) j = (dblB L l i j && doneB a b i j)

theorem dbl_zero (L : List K) (l : List Int) : Dbl L l 0 0 (fun _ => 0) := fun i _ => ⟨⟨Int.le_refl 0, show (0 : Int) < 1152921504606846976 by decide⟩, fun j => by show bit 0 j = _; rw [Lc.bit_zero]; simp [doneB]⟩
theorem dbl_next (L : List K) (l : List Int) (a : Nat) (D : Nat → Int) (h : Dbl L l a a D) : Dbl L l (a + 1) 0 D := by
  intro i hi
  refine ⟨(h i hi).1, fun j => ?_⟩
  rw [(h i hi).2 j]
  by_cases he : i = j
  · subst he; simp [dblB]
  · have : doneB a a i j = doneB (a + 1) 0 i j := by
      unfold doneB
      rw [Bool.eq_iff_iff]; simp; omega
    rw [this]
theorem dbl_skip (L : List K) (l : List Int) (a b : Nat) (D : Nat → Int) (hab : b < a) (hp : pairB L l a b = false) (h : Dbl L l a b D) : Dbl L l a (b + 1) D := by
  intro i hi
  refine ⟨(h i hi).1, fun j => ?_⟩
  rw [(h i hi).2 j]
  by_cases hc : (i = a ∧ j = b) ∨ (i = b ∧ j = a)
  · have : dblB L l i j = false := by
      unfold dblB
      rcases hc with ⟨rfl, rfl⟩ | ⟨rfl, rfl⟩
      · rw [if_pos hab]; exact hp
      · rw [if_neg (by omega), if_pos hab]; exact hp
    rw [this]; rfl
  · have : doneB a b i j = doneB a (b + 1) i j := by
      unfold doneB
      rw [Bool.eq_iff_iff]; simp; omega
    rw [this]
/-- the numbers when a pair has been marked -/
def putD (D : Nat → Int) (a b i : Nat) : Int := if i = b then withB (if b = a then withB (D a) b else D b) a else if i = a then withB (D a) b else D i

theorem dbl_put (L : List K) (l : List Int) (a b : Nat) (D : Nat → Int) (hab : b < a) (ha : a < 60) (hp : pairB L l a b = true) (h : Dbl L l a b D) : Dbl L l a (b + 1) (putD D a b) := by
  intro i hi
  unfold putD
  by_cases h1 : i = b
  · subst h1
    have hd := h i hi
    simp only [if_true]
    rw [if_neg (show ¬ i = a by omega)]
    refine ⟨Bit.withB_bd _ hd.1.1 hd.1.2 a ha, fun j => ?_⟩
    rw [Bit.bit_withB _ hd.1.1, hd.2 j]
    by_cases hj : j = a
    · subst hj
      have e1 : dblB L l i j = true := by unfold dblB; rw [if_neg (by omega), if_pos hab]; exact hp
      have e2 : doneB j (i + 1) i j = true := by unfold doneB; simp
      rw [e1, e2]; simp
    · have : doneB a i i j = doneB a (i + 1) i j := by
        unfold doneB; rw [Bool.eq_iff_iff]; simp; omega
      rw [this]; simp [hj]
  · by_cases h2 : i = a
    · subst h2
      have hd := h i hi
      rw [if_neg h1]
      simp only [if_true]
      refine ⟨Bit.withB_bd _ hd.1.1 hd.1.2 b (by omega), fun j => ?_⟩
      rw [Bit.bit_withB _ hd.1.1, hd.2 j]
      by_cases hj : j = b
      · subst hj
        have e1 : dblB L l i j = true := by unfold dblB; rw [if_pos hab]; exact hp
        have e2 : doneB i (j + 1) i j = true := by unfold doneB; simp
        rw [e1, e2]; simp
      · have : doneB i b i j = doneB i (b + 1) i j := by
          unfold doneB; rw [Bool.eq_iff_iff]; simp; omega
        rw [this]; simp [hj]
    · have hd := h i hi
      rw [if_neg h1, if_neg h2]
      refine ⟨hd.1, fun j => ?_⟩
      rw [hd.2 j]
      have : doneB a b i j = doneB a (b + 1) i j := by
        unfold doneB; rw [Bool.eq_iff_iff]; simp; omega
      rw [this]

theorem rowI_made (w : World) (t : TypeId) (n : Nat) : RowI (w.alloc (.cells (madeCells #[.int .i64 0] n) t)) w.heap.size n (fun _ => 0) where
  lt := by simp
  rd := fun i hi => by
    rw [World.cell?_alloc_new]
    have : i < (madeCells #[Value.int .i64 0] n).size := by rw [size_madeCells]; exact hi
    rw [Array.getElem?_eq_getElem this]
    simp [madeCells, Nat.mod_one]
  fr := fun i hi => by simp

theorem has_call (f : Int) (i : Nat) (b : Bool) (h0 : 0 ≤ f) (h1 : f < 1152921504606846976) (hi : i ≤ 60) (hb : bit f i = b) (W : World) : Calls Tryz.prog 48 #[.int .i64 f, .int .i64 (i : Int)] W fun e w' => e = .returned (.bool b) ∧ w' = W := by
  refine (Base.l1Has f (i : Int) W h0 h1 (by omega) (by omega)).mono ?_
  rintro e w' ⟨rfl, rfl⟩
  exact ⟨by rw [Int.toNat_natCast, hb], rfl⟩

/-- the doubled ones are handed back -/
def DblPost (L : List K) (l : List Int) (w : World) (e : Ending) (w' : World) : Prop := ∃ D, e = .returned (.slice (some ⟨w.heap.size, 0, none⟩) L.length L.length) ∧ RowI w' w.heap.size L.length D ∧ Dbl L l L.length 0 D ∧ Below w.heap.size w w'

theorem below_drewN {b : Nat} {a w : World} (h : Below b a w) (n : Nat) : Below b a (w.drewN n) := ⟨h.os, h.tape, h.output, h.size, h.block⟩

set_option maxHeartbeats 6400000 in
theorem l5All (ao : Option Addr) (cap : Nat) (L : List K) (bo : Option Addr) (bc : Nat) (l : List Int) (w : World) (hL : L.length ≤ 60) (hll : l.length = L.length) (hin : Sg.Within l) (hr : RdK w ao L) (hrd : Lst.Rd w bo l) (hbo : ∀ g, bo = some ⟨g, 0, none⟩ → g < w.heap.size) :
    Calls Tryz.prog 78 #[.slice ao L.length cap, .slice bo l.length bc] w (DblPost L l w) := by
  have hmk : ∀ W : World, (Instr.makeSlice 51 (.int .i64 (L.length : Int)) (.int .i64 (L.length : Int))).run Tryz.prog W = .ok (.slice (some ⟨W.heap.size, 0, none⟩) L.length L.length) (W.alloc (.cells (madeCells #[.int .i64 0] L.length) 2)) :=
    fun W => run_make_row' (P := Tryz.prog) 51 2 (.int .i64 0) 8 Tryz.underlying51 Memb.info2 rfl .i64 .i64 L.length (by omega) (by omega) W
  have HP : Hid (RowI (w.alloc (.cells (madeCells #[.int .i64 0] L.length) 2)) w.heap.size L.length (fun _ => 0) ∧ Below w.heap.size w (w.alloc (.cells (madeCells #[.int .i64 0] L.length) 2))) := ⟨rowI_made _ _ _, (Below.refl _ _).alloc (Nat.le_refl _) _⟩
  generalize madeCells #[Value.int .i64 0] L.length = mc at hmk HP
  have HLL : Hid (l.length = L.length) := hll
  have hl60 : l.length ≤ 60 := by omega
  clear hll
  go_enter Tryz.func78, Tryz.ntmps78
  go_wp2
  clear hmk
  go_loopw [6] (fun i wr => ∃ (a : Nat) (D : Nat → Int), a ≤ L.length ∧ i = .int .i64 a ∧ Hid (RowI wr w.heap.size L.length D) ∧ Hid (Dbl L l a 0 D) ∧ Hid (Below w.heap.size w wr)) (fun i _ => L.length - (intOf i).toNat)
  case atStart => exact ⟨0, _, by omega, rfl, HP.out.1, dbl_zero L l, HP.out.2⟩
  case round =>
    obtain ⟨a, D0, ha, rfl, HR, HD, HB⟩ := hrel
    by_cases hlt : a < L.length
    · have hal : a < l.length := by rw [HLL.out]; exact hlt
      have hali : (a : Int) < (l.length : Int) := by omega
      go_wp2
      go_loopw [7] (fun i wr => ∃ (b : Nat) (D : Nat → Int), b ≤ a ∧ i = .int .i64 b ∧ Hid (RowI wr w.heap.size L.length D) ∧ Hid (Dbl L l a b D) ∧ Hid (Below w.heap.size w wr)) (fun i _ => a - (intOf i).toNat)
      case atStart => exact ⟨0, D0, by omega, rfl, HR, HD, HB⟩
      case round =>
        obtain ⟨b, D, hb, rfl, HR, HD, HB⟩ := hrel
        by_cases hba : b < a
        · obtain ⟨g, off, hao, hg, hca⟩ := (hr.below HB.out).at a hlt
          obtain ⟨g', off', hao', _, hcb⟩ := (hr.below HB.out).at b (by omega)
          subst hao
          injection hao' with hao'
          injection hao' with q1 q2
          subst q1 q2
          obtain ⟨a0, _, _, _⟩ := hca
          obtain ⟨b0, _, _, _⟩ := hcb
          have hya := Sg.within_get hin a
          rcases hrd with hrd | ⟨bb, rfl, hcell⟩
          · rw [hrd] at hal; simp at hal
          have cy := (HB.out.cell (p := ⟨bb, a, none⟩) (hbo bb rfl)).trans (hcell a hal)
          have HPB : Hid (pairB L l a b = (decide ((at' L a).hand = (at' L b).hand) && !bit (l.getD a 0) b)) := rfl
          clear hcell hbo
          generalize l.getD a 0 = y at cy hya HPB
          by_cases hq : (at' L a).hand = (at' L b).hand
          · have hq1 : ((at' L a).hand == (at' L b).hand) = true := by simpa using hq
            cases hbit : bit y b
            · have hp : pairB L l a b = true := by rw [HPB.out, hbit]; simp [hq]
              have hcall := has_call y b false hya.1 hya.2 (by omega) hbit
              have HD2 : Hid (Dbl L l a (b + 1) (putD D a b)) := dbl_put L l a b D hba (by omega) hp HD.out
              have hda := (HD.out a hlt).1
              have hdb := (HD.out b (by omega)).1
              clear hbit HPB hq hp
              go_wp2_with fail
              go_quiet (first | (go_at_call 48; exact (hcall _).mono fun _ _ h => ⟨h.1, _, h.2⟩))
              go_wp2_with fail
              have R1 := HR.out.drewN nq
              have HB1 : Hid (Below w.heap.size w (wr.drewN nq)) := below_drewN HB.out nq
              clear a0 b0 cy HR HB
              generalize wr.drewN nq = V at R1 HB1 ⊢
              have e1 := R1.rd a hlt
              have f1 := R1.fr a hlt
              have HO1 : Hid (bits .or .i64 (D a) (2 ^ b) = withB (D a) b) := Base.shl_or _ b hda.1 hda.2 (by omega)
              have HR2 : Hid (RowI (V.setCell ⟨w.heap.size, a, none⟩ (.int .i64 (withB (D a) b))) w.heap.size L.length (fun i => if i = a then withB (D a) b else D i)) := R1.put a hlt _
              have HB2 : Hid (Below w.heap.size w (V.setCell ⟨w.heap.size, a, none⟩ (.int .i64 (withB (D a) b)))) := HB1.out.setCell (p := ⟨w.heap.size, a, none⟩) (Nat.le_refl _) _
              clear R1 HB1
              go_region_with (go_at_call 50; refine (Base.l1Bit _ _ (by omega) (by omega)).mono ?_; rintro e w' ⟨rfl, rfl⟩; rw [Int.toNat_natCast])
              all_goals
                rw [HO1.out]
                go_wp2_with fail
                have R3 := HR2.out.drew
                have HB3 : Hid (Below w.heap.size w (V.setCell ⟨w.heap.size, a, none⟩ (.int .i64 (withB (D a) b))).drew) := HB2.out.drew
                clear e1 f1 HR2 HB2
                generalize (V.setCell ⟨w.heap.size, a, none⟩ (.int .i64 (withB (D a) b))).drew = V3 at R3 HB3 ⊢
                have e3 := R3.rd b (by omega)
                have f3 := R3.fr b (by omega)
                have hne : ¬ b = a := by omega
                rw [if_neg hne] at e3
                have HO3 : Hid (bits .or .i64 (D b) (2 ^ a) = withB (D b) a) := Base.shl_or _ a hdb.1 hdb.2 (by omega)
                have HR4 : Hid (RowI (V3.setCell ⟨w.heap.size, b, none⟩ (.int .i64 (withB (D b) a))) w.heap.size L.length (putD D a b)) := by
                  have := R3.put b (by omega) (withB (D b) a)
                  have e : (fun i => if i = b then withB (D b) a else if i = a then withB (D a) b else D i) = putD D a b := by
                    funext i; unfold putD; rw [if_neg hne]
                  rw [← e]; exact this
                have HB4 : Hid (Below w.heap.size w (V3.setCell ⟨w.heap.size, b, none⟩ (.int .i64 (withB (D b) a)))) := HB3.out.setCell (p := ⟨w.heap.size, b, none⟩) (Nat.le_refl _) _
                clear R3 HB3 hne
                go_region_with (go_at_call 50; refine (Base.l1Bit _ _ (by omega) (by omega)).mono ?_; rintro e w' ⟨rfl, rfl⟩; rw [Int.toNat_natCast])
                all_goals
                  rw [HO3.out]
                  go_wp2
                  go_roundw
                  case rel => exact ⟨b + 1, putD D a b, by omega, by go_num, HR4.out.drew, HD2, HB4.out.drew⟩
                  case measure => simp [intOf]; omega
            · have hp : pairB L l a b = false := by rw [HPB.out, hbit]; simp
              have hcall := has_call y b true hya.1 hya.2 (by omega) hbit
              have HD2 : Hid (Dbl L l a (b + 1) D) := dbl_skip L l a b D hba hp HD.out
              clear hbit HPB hq hp
              go_wp2_with fail
              go_quiet (first | (go_at_call 48; exact (hcall _).mono fun _ _ h => ⟨h.1, _, h.2⟩))
              go_wp2
              go_roundw
              case rel => exact ⟨b + 1, D, by omega, by go_num, HR.out.drewN nq, HD2, below_drewN HB.out nq⟩
              case measure => simp [intOf]; omega
          · have hq1 : ((at' L a).hand == (at' L b).hand) = false := by simpa using hq
            have hp : pairB L l a b = false := by rw [HPB.out]; simp [hq]
            have HD2 : Hid (Dbl L l a (b + 1) D) := dbl_skip L l a b D hba hp HD.out
            clear HPB hq hp
            go_wp2_with fail
            go_quiet (fail)
            go_wp2
            go_roundw
            case rel => exact ⟨b + 1, D, by omega, by go_num, HR.out.drewN nq, HD2, below_drewN HB.out nq⟩
            case measure => simp [intOf]; omega
        · obtain rfl : b = a := by omega
          have HD2 : Hid (Dbl L l (b + 1) 0 D) := dbl_next L l b D HD.out
          go_wp2
          go_roundw
          case rel => exact ⟨b + 1, D, by omega, by go_num, HR, HD2, HB⟩
          case measure => simp [intOf]; omega
    · obtain rfl : a = L.length := by omega
      go_wp2
      go_ret
      exact ⟨D0, rfl, HR.out, HD.out, HB.out⟩

end Db
end Go.Proofs.YtfjmenhofllchaaGreatDoor
