/-
 The library's sort, with a comparison that is a bound method: the row is in order then.
-/
import Derived.Test.YtflhaiakhfmmmaaGreatOZS
import Derived.Test.YtflhaiakhfmmmaaGreatOShelf
import Derived.Test.YtflhaiakhfmmmaaGreatOCur
namespace Go.Proofs.YtflhaiakhfmmmaaGreat
open Go.RowKit
set_option maxRecDepth 100000
set_option linter.unusedVariables false
namespace So
set_option maxHeartbeats 3200000 in
theorem next (rb : Nat) (x : Int) (w : World) (hc : w.cell? ⟨rb, 0, none⟩ = some (.int .u64 x)) (hf : w.frozen? ⟨rb, 0, none⟩ = false) :
   Calls Tryz.prog 195 #[.pointer (some ⟨rb, 0, none⟩)] w fun e w' => ∃ y : Int, e = .returned (.int .u64 y) ∧ w'.cell? ⟨rb, 0, none⟩ = some (.int .u64 y) ∧ w'.frozen? ⟨rb, 0, none⟩ = false ∧ w.grownBy w' (some rb) := by
 have HP : Hid (∀ (W : World) (v : Int) (u : Value), W.cell? ⟨rb, 0, none⟩ = some u → W.frozen? ⟨rb, 0, none⟩ = false → w.grownBy W (some rb) → ((W.setCell ⟨rb, 0, none⟩ (.int .u64 v)).drewN 1).cell? ⟨rb, 0, none⟩ = some (.int .u64 v) ∧ ((W.setCell ⟨rb, 0, none⟩ (.int .u64 v)).drewN 1).frozen? ⟨rb, 0, none⟩ = false ∧ w.grownBy ((W.setCell ⟨rb, 0, none⟩ (.int .u64 v)).drewN 1) (some rb)) := fun W v u h1 h2 h3 =>
   ⟨World.cell?_setCell_same _ _ _ h1, by simpa using h2, let k := h3.trans (gr_set rb 0 (.int .u64 v)); ⟨k.os, k.tape, k.output, k.size, k.block⟩⟩
 have HG0 : Hid (w.grownBy w (some rb)) := gr_refl _ _
 go_enter Tryz.func195, Tryz.ntmps195
 go_upto_region 1 with fail
 go_cut [0] from 3 to 11 (fun pv wx => pv = .pointer (some ⟨rb, 0, none⟩) ∧ ∃ y : Int, wx.cell? ⟨rb, 0, none⟩ = some (.int .u64 y) ∧ wx.frozen? ⟨rb, 0, none⟩ = false ∧ Hid (w.grownBy wx (some rb)))
 case first =>
   go_region
   all_goals go_wp2_with fail
   all_goals go_meet
   all_goals exact ⟨rfl, _, (HP.out _ _ _ hc hf HG0.out).1, (HP.out _ _ _ hc hf HG0.out).2.1, (HP.out _ _ _ hc hf HG0.out).2.2⟩
 case rest =>
   clear hc hf HG0
   obtain ⟨rfl, x1, hc, hf, HG0⟩ := hcut
   go_upto_region 2 with fail
   go_cut [0] from 12 to 20 (fun pv wx => pv = .pointer (some ⟨rb, 0, none⟩) ∧ ∃ y : Int, wx.cell? ⟨rb, 0, none⟩ = some (.int .u64 y) ∧ wx.frozen? ⟨rb, 0, none⟩ = false ∧ Hid (w.grownBy wx (some rb)))
   case first =>
     go_region
     all_goals go_wp2_with fail
     all_goals go_meet
     all_goals exact ⟨rfl, _, (HP.out _ _ _ hc hf HG0.out).1, (HP.out _ _ _ hc hf HG0.out).2.1, (HP.out _ _ _ hc hf HG0.out).2.2⟩
   case rest =>
     clear hc hf HG0
     obtain ⟨rfl, x2, hc, hf, HG0⟩ := hcut
     go_upto_region 3 with fail
     go_cut [0] from 21 to 29 (fun pv wx => pv = .pointer (some ⟨rb, 0, none⟩) ∧ ∃ y : Int, wx.cell? ⟨rb, 0, none⟩ = some (.int .u64 y) ∧ wx.frozen? ⟨rb, 0, none⟩ = false ∧ Hid (w.grownBy wx (some rb)))
     case first =>
       go_region
       all_goals go_wp2_with fail
       all_goals go_meet
       all_goals exact ⟨rfl, _, (HP.out _ _ _ hc hf HG0.out).1, (HP.out _ _ _ hc hf HG0.out).2.1, (HP.out _ _ _ hc hf HG0.out).2.2⟩
     case rest =>
       clear hc hf HG0
       obtain ⟨rfl, x3, hc, hf, HG0⟩ := hcut
       go_wp2
       go_ret
       exact ⟨x3, rfl, hc, hf, HG0.out⟩
theorem len_zero (f : Nat) : Lib.bitLenAux f 0 = 0 := by cases f <;> simp [Lib.bitLenAux]
theorem len_le : ∀ (f x : Nat), x ≠ 0 → 2 ^ Lib.bitLenAux f x ≤ 2 * x := by
 intro f
 induction f with
 | zero => intro x hx; simp only [Lib.bitLenAux]; omega
 | succ f ih =>
   intro x hx
   unfold Lib.bitLenAux
   rw [if_neg hx, Nat.pow_add, Nat.pow_one]
   by_cases h : x / 2 = 0
   · rw [h, len_zero]; omega
   · have := ih (x / 2) h
     omega
set_option maxHeartbeats 3200000 in
theorem nextPower (n : Nat) (w : World) (h0 : 0 < n) (h1 : n ≤ 1048576) :
   Calls Tryz.prog 194 #[.int .i64 n] w fun e w' => ∃ m : Int, e = .returned (.int .u64 m) ∧ 1 ≤ m ∧ m ≤ 2 * n ∧ w = w' := by
 have HL := Tryz.bits_Len (n : Int) w (by omega) (by omega)
 rw [Int.toNat_natCast] at HL
 have hle : Lib.bitLen n ≤ 21 := Lib.bitLen_le n 21 (by omega) (by omega)
 have hk2 : 2 ^ Lib.bitLen n ≤ 2 * n := len_le 64 n (by omega)
 generalize Lib.bitLen n = k at HL hle hk2
 have HK : Hid (2 ^ k ≤ 2 * n) := hk2
 clear hk2
 go_enter Tryz.func194, Tryz.ntmps194
 go_wp2_with fail
 refine HL.mono ?_
 rintro e w' ⟨rfl, rfl⟩
 go_wp2_with fail
 have hpw : (2 : Int) ^ k = ((2 ^ k : Nat) : Int) := by simp
 have hp1 : 1 ≤ 2 ^ k := Nat.one_le_two_pow
 have hp2 := HK.out
 rw [hpw]
 generalize 2 ^ k = m at hp1 hp2
 have hw : IntKind.u64.wrap (m : Int) = m := by
   simp only [IntKind.wrap, IntKind.bits, IntKind.signed]
   simp
   omega
 rw [hw]
 go_ret
 exact ⟨m, rfl, by omega, by omega, rfl⟩
theorem and_bd (n m : Int) (h0 : 0 ≤ m) (h1 : m < 9223372036854775808) : 0 ≤ bits .and .u64 n m ∧ bits .and .u64 n m ≤ m := by
 obtain ⟨M, rfl⟩ := Int.eq_ofNat_of_zero_le h0
 have hM : (BitVec.ofInt 64 (M : Int)).toNat = M := ofInt_u64 M (by omega)
 have hx : (BitVec.ofInt 64 n &&& BitVec.ofInt 64 (M : Int)).toNat ≤ M := by
   rw [BitVec.toNat_and, hM]; exact Nat.and_le_right
 have e : bits .and .u64 n (M : Int) = IntKind.u64.wrap ((BitVec.ofInt 64 n &&& BitVec.ofInt 64 (M : Int)).toNat : Int) := rfl
 rw [e]
 generalize (BitVec.ofInt 64 n &&& BitVec.ofInt 64 (M : Int)).toNat = x at hx
 simp only [IntKind.wrap, IntKind.bits, IntKind.signed]
 simp
 omega
theorem gr_then {a b c : World} {g rb : Nat} (h : a.grownBy b (some g)) (k : b.grownBy c (some rb)) (hr : a.heap.size ≤ rb) : a.grownBy c (some g) :=
 ⟨k.os.trans h.os, k.tape.trans h.tape, k.output.trans h.output, Nat.le_trans h.size k.size, fun i hi hne => (k.block i (Nat.lt_of_lt_of_le hi h.size) (by intro e; injection e with e; omega)).trans (h.block i hi hne)⟩
structure Bx (w wr : World) (B g cap : Nat) (S : Int → Prop) (a b : Nat) (l m : List Int) (rb : Nat) : Prop where
 st : St w wr B g cap S a b l m
 far : w.heap.size ≤ rb
 gw : g < w.heap.size
 box : ∃ x : Int, wr.cell? ⟨rb, 0, none⟩ = some (.int .u64 x)
 fz : wr.frozen? ⟨rb, 0, none⟩ = false
theorem own_gr {B g cap : Nat} {w w' : World} {l : List Int} {rb : Nat} (h : Memb.Own B w (some ⟨g, 0, none⟩) cap l) (hb : w.grownBy w' (some rb)) (hne : g ≠ rb) : Memb.Own B w' (some ⟨g, 0, none⟩) cap l := by
 exact World.ownsRow.kept h hb (.inr (by simp [Value.ownBlock]; exact hne))
theorem Bx.step {w wr w' : World} {B g cap : Nat} {S : Int → Prop} {a b : Nat} {l m : List Int} {rb : Nat} {y : Int} (h : Bx w wr B g cap S a b l m rb) (hg : wr.grownBy w' (some rb)) (hc : w'.cell? ⟨rb, 0, none⟩ = some (.int .u64 y)) (hf : w'.frozen? ⟨rb, 0, none⟩ = false) : Bx w w' B g cap S a b l m rb :=
 ⟨⟨⟨own_gr h.st.row.own hg (by have := h.gw; have := h.far; omega), gr_then h.st.row.gr hg h.far⟩, h.st.mix, h.st.good⟩, h.far, h.gw, ⟨y, hc⟩, hf⟩
theorem Bx.swap {w wr : World} {B g cap : Nat} {S : Int → Prop} {a b : Nat} {l m : List Int} {rb : Nat} (h : Bx w wr B g cap S a b l m rb) (hb : b ≤ l.length) (i j : Nat) (hi : a ≤ i) (hi' : i < b) (hj : a ≤ j) (hj' : j < b) : Bx w (((wr.setCell ⟨g, i, none⟩ (.int .i64 (m.getD j 0))).setCell ⟨g, j, none⟩ (.int .i64 (m.getD i 0))).drewN 1) B g cap S a b l (swp m i j) rb := by
 have hne : rb ≠ g := by have := h.gw; have := h.far; omega
 have e1 := Below.heap_setCell wr ⟨g, i, none⟩ (.int .i64 (m.getD j 0)) rb hne
 have e2 := Below.heap_setCell (wr.setCell ⟨g, i, none⟩ (.int .i64 (m.getD j 0))) ⟨g, j, none⟩ (.int .i64 (m.getD i 0)) rb hne
 refine ⟨(h.st.swap hb i j hi hi' hj hj').drewN 1, h.far, h.gw, ?_, ?_⟩
 · obtain ⟨x, hx⟩ := h.box
   exact ⟨x, ((World.cell?_of_block (a := ⟨rb, 0, none⟩) e2).trans (World.cell?_of_block (a := ⟨rb, 0, none⟩) e1)).trans hx⟩
 · exact ((World.frozen?_of_block (a := ⟨rb, 0, none⟩) e2).trans (World.frozen?_of_block (a := ⟨rb, 0, none⟩) e1)).trans h.fz
set_option maxHeartbeats 3200000 in
theorem breakPatterns (B g cap : Nat) (lv : Value) (S : Int → Prop) (a b : Nat) (l : List Int) (w : World) (h : Memb.Own B w (some ⟨g, 0, none⟩) cap l) (hg : Good S l) (hab : a + 12 < b) (hb : b ≤ l.length) (hl : l.length ≤ 1048576) :
   Calls Tryz.prog 184 #[.slice (some ⟨g, 0, none⟩) l.length cap, .int .i64 a, .int .i64 b, .func (.func 124) #[lv] #[]] w fun e w' => e = .returned (.tuple #[]) ∧ ∃ m, St w w' B g cap S a b l m := by
 obtain ⟨n, hn⟩ : ∃ n : Nat, n = b - a := ⟨_, rfl⟩
 obtain ⟨q, hq⟩ : ∃ q : Nat, q = n / 4 := ⟨_, rfl⟩
 have hba : (b : Int) - (a : Int) = (n : Int) := by omega
 have hn8 : (8 : Int) ≤ (n : Int) := by omega
 have hqq : Int.tdiv (n : Int) 4 = (q : Int) := by rw [Int.tdiv_eq_ediv_of_nonneg (by omega)]; omega
 have hq3 : 3 ≤ q ∧ 4 * q ≤ n := by omega
 have hnb : a + n = b := by omega
 have hgw : g < w.heap.size := (World.ownsRow.lt h g rfl).2
 have HS : Hid (St w w B g cap S a b l l) := St.start h hg
 have HNP : Hid (∀ W : World, Calls Tryz.prog 194 #[.int .i64 n] W fun e w' => ∃ m : Int, e = .returned (.int .u64 m) ∧ 1 ≤ m ∧ m ≤ 2 * n ∧ W = w') := fun W => nextPower n W (by omega) (by omega)
 clear h hg hn hq
 go_enter Tryz.func184, Tryz.ntmps184
 have HB0 : Hid (Bx w (w.alloc (.cells #[.int .u64 n] 204)) B g cap S a b l l w.heap.size) := ⟨HS.out.below ((Below.refl _ _).alloc (Nat.le_refl _) _), Nat.le_refl _, hgw, ⟨n, by simp⟩, by simp⟩
 clear HS
 go_upto_region 3 with fail
 generalize w.alloc (.cells #[.int .u64 n] 204) = W0 at HB0 ⊢
 generalize w.heap.size = rb at HB0 hgw ⊢
 clear hgw
 go_wp2_with fail
 refine (HNP.out _).mono ?_
 rintro e w' ⟨M, rfl, hM1, hM2, rfl⟩
 clear HNP
 go_wp2_with fail
 go_loopw [11] (fun iv wr => ∃ (i : Nat) (m : List Int), iv = .int .i64 i ∧ a ≤ i ∧ i ≤ a + 2 * q + 2 ∧ Hid (Bx w wr B g cap S a b l m rb)) (fun iv _ => a + 2 * q + 2 - (intOf iv).toNat)
 case atStart => exact ⟨a + 2 * q - 1, l, by rw [show ((a + 2 * q - 1 : Nat) : Int) = (a : Int) + (q : Int) * 2 - 1 by omega], by omega, by omega, HB0⟩
 case round =>
   clear HB0
   obtain ⟨i, m, rfl, hi, hi', HB⟩ := hrel
   by_cases hiq : i ≤ a + 2 * q + 1
   · have hiq' : (i : Int) ≤ (a : Int) + (q : Int) * 2 + 1 := by omega
     obtain ⟨x, hcx⟩ := HB.out.box
     have hcall := next rb x wr hcx HB.out.fz
     clear hcx
     go_wp2_with fail
     refine hcall.mono ?_
     rintro e w1 ⟨y, rfl, hc1, hf1, hg1⟩
     have HB1 : Hid (Bx w w1 B g cap S a b l m rb) := HB.out.step hg1 hc1 hf1
     clear hcall hc1 hf1 hg1 HB
     have ho := and_bd y (M - 1) (by omega) (by omega)
     generalize hob : bits .and .u64 y (M - 1) = o at ho
     have HOB : Hid (bits .and .u64 y (M - 1) = o) := hob
     clear hob
     go_upto_region 8 with fail
     rw [HOB.out]
     obtain ⟨O, rfl⟩ := Int.eq_ofNat_of_zero_le ho.1
     rw [show wrap64 (O : Int) = O by unfold wrap64; omega]
     clear HOB
     go_upto_if 45 with fail
     go_cut [12] from 28 to 66 (fun ov wx => ∃ o : Nat, ov = .int .i64 o ∧ o < n ∧ Hid (Bx w wx B g cap S a b l m rb))
     case first =>
       by_cases hon : n ≤ O
       · have hon' : (n : Int) ≤ (O : Int) := by omega
         go_wp2_with fail
         go_meet
         exact ⟨O - n, by rw [show ((O - n : Nat) : Int) = (O : Int) - (n : Int) by omega], by omega, HB1⟩
       · have hon' : ¬ (n : Int) ≤ (O : Int) := by omega
         go_wp2_with fail
         go_meet
         exact ⟨O, rfl, by omega, HB1⟩
     case rest =>
       clear HB1 ho
       obtain ⟨o, rfl, hon, HB1⟩ := hcut
       have li : (i : Int) < (l.length : Int) := by omega
       by_cases hio : i = a + o
       · have e1 : (a : Int) + (o : Int) = (i : Int) := by omega
         have HB2 : Hid (_) := HB1.out.swap hb i i (by omega) (by omega) (by omega) (by omega)
         have cp := HB1.out.st.row.cell i (by rw [HB1.out.st.len]; omega)
         have fp := HB1.out.st.row.frozen i
         generalize m.getD i 0 = xi at cp HB2
         clear HB1 hio
         go_wp2_with fail
         go_region
         all_goals go_wp2
         all_goals go_roundw
         case rel => exact ⟨i + 1, _, by go_num, by omega, by omega, HB2⟩
         case measure => simp [intOf]; omega
       · obtain ⟨y, hy⟩ : ∃ y : Nat, y = a + o := ⟨_, rfl⟩
         have e1 : (a : Int) + (o : Int) = (y : Int) := by omega
         have ly : (y : Int) < (l.length : Int) := by omega
         have hne : ¬ i = y := by omega
         have hne' : ¬ y = i := by omega
         have HB2 : Hid (_) := HB1.out.swap hb i y (by omega) (by omega) (by omega) (by omega)
         have cp := HB1.out.st.row.cell i (by rw [HB1.out.st.len]; omega)
         have fp := HB1.out.st.row.frozen i
         have cq := HB1.out.st.row.cell y (by rw [HB1.out.st.len]; omega)
         have fq := HB1.out.st.row.frozen y
         generalize m.getD i 0 = xi at cp HB2
         generalize m.getD y 0 = xy at cq HB2
         clear HB1 hio hy
         go_wp2_with fail
         go_region
         all_goals go_wp2
         all_goals go_roundw
         case rel => exact ⟨i + 1, _, by go_num, by omega, by omega, HB2⟩
         case measure => simp [intOf]; omega
   · have hiq' : ¬ (i : Int) ≤ (a : Int) + (q : Int) * 2 + 1 := by omega
     go_wp2
     go_end0
     exact ⟨rfl, m, HB.out.st⟩
end So
namespace So
structure Pv (w wr : World) (B g cap : Nat) (S : Int → Prop) (l : List Int) (sb : Nat) : Prop where
 own : Memb.Own B w (some ⟨g, 0, none⟩) cap l
 good : Good S l
 bel : Below w.heap.size w wr
 far : w.heap.size ≤ sb
 lt : sb < wr.heap.size
 box : ∃ n : Int, wr.cell? ⟨sb, 0, none⟩ = some (.int .i64 n)
 fz : wr.frozen? ⟨sb, 0, none⟩ = false
theorem Pv.cell {w wr : World} {B g cap : Nat} {S : Int → Prop} {l : List Int} {sb : Nat} (h : Pv w wr B g cap S l sb) (j : Nat) (hj : j < l.length) : wr.cell? ⟨g, j, none⟩ = some (.int .i64 (l.getD j 0)) := ((Row.start h.own).below h.bel).cell j hj
theorem Pv.below {w wr wr' : World} {B g cap : Nat} {S : Int → Prop} {l : List Int} {sb : Nat} (h : Pv w wr B g cap S l sb) (hb : Below wr.heap.size wr wr') : Pv w wr' B g cap S l sb :=
 ⟨h.own, h.good, h.bel.trans (hb.mono h.bel.size), h.far, Nat.lt_of_lt_of_le h.lt hb.size, by obtain ⟨n, hn⟩ := h.box; exact ⟨n, (hb.cell (p := ⟨sb, 0, none⟩) h.lt).trans hn⟩, (World.frozen?_of_block (a := ⟨sb, 0, none⟩) (hb.block sb h.lt)).trans h.fz⟩
theorem Pv.count {w wr : World} {B g cap : Nat} {S : Int → Prop} {l : List Int} {sb : Nat} (h : Pv w wr B g cap S l sb) (n : Int) : Pv w (wr.setCell ⟨sb, 0, none⟩ (.int .i64 n)) B g cap S l sb :=
 ⟨h.own, h.good, h.bel.setCell (p := ⟨sb, 0, none⟩) h.far _, h.far, by simpa using h.lt, by obtain ⟨k, hk⟩ := h.box; exact ⟨n, World.cell?_setCell_same _ _ _ hk⟩, by simpa using h.fz⟩
set_option maxHeartbeats 3200000 in
theorem order2 (B g cap : Nat) (lv : Value) (cf : Int → Int → Int) (S : Int → Prop) (a b x y sb : Nat) (l : List Int) (w W : World) (hc : Ctx w g lv cf S) (h : Pv w W B g cap S l sb) (hx : a ≤ x) (hx' : x < b) (hy : a ≤ y) (hy' : y < b) (hb : b ≤ l.length) (hl : l.length ≤ 1048576) :
   Calls Tryz.prog 199 #[.slice (some ⟨g, 0, none⟩) l.length cap, .int .i64 x, .int .i64 y, .pointer (some ⟨sb, 0, none⟩), .func (.func 124) #[lv] #[]] W fun e w' => ∃ p q : Nat, e = .returned (.tuple #[.int .i64 p, .int .i64 q]) ∧ a ≤ p ∧ p < b ∧ a ≤ q ∧ q < b ∧ Pv w w' B g cap S l sb := by
 have HCA : Hid (∀ V : World, Below W.heap.size W V → Calls Tryz.prog 124 #[lv, .int .i64 (l.getD y 0), .int .i64 (l.getD x 0)] V fun e w' => e = .returned (.int .i64 (cf (l.getD y 0) (l.getD x 0))) ∧ Below V.heap.size V w') := fun V hV => hc.cmp V _ _ (gr_below (h.below hV).bel _) (h.good.at y (by omega)) (h.good.at x (by omega))
 have HP : Hid (Pv w W B g cap S l sb) := h
 have lx : (x : Int) < (l.length : Int) := by omega
 have ly : (y : Int) < (l.length : Int) := by omega
 obtain ⟨X, _, F, HF, HG⟩ := Fam.fam W
 have HPF : Hid (∀ z, Pv w (F z) B g cap S l sb) := fun z => HP.out.below (HF.out z)
 have hcx : ∀ z, (F z).cell? ⟨g, x, none⟩ = some (.int .i64 (l.getD x 0)) := fun z => (HPF.out z).cell x (by omega)
 have hcy : ∀ z, (F z).cell? ⟨g, y, none⟩ = some (.int .i64 (l.getD y 0)) := fun z => (HPF.out z).cell y (by omega)
 clear hc h HP
 generalize l.getD x 0 = vx at hcx HCA
 generalize l.getD y 0 = vy at hcy HCA
 generalize cf vy vx = z at HCA
 go_enter Tryz.func199, Tryz.ntmps199
 go_wp2_with fail
 refine Fam.region (F := F) (by kernel_rfl) (by kernel_rfl) (HG.out _ (Below.refl _ W).drew) ?_
 repeat (go_big_quiet_step (first
   | (go_at_call 124; exact (HCA.out _ (HF.out _)).mono fun _ _ h => ⟨h.1, HG.out _ ((HF.out _).trans (h.2.mono (HF.out _).size))⟩)))
 refine wpQuiet_nil ?_
 intro w2 hw2
 obtain ⟨zz, rfl⟩ := hw2
 have HP : Hid (Pv w (F zz) B g cap S l sb) := HPF.out zz
 clear hcx hcy HPF HCA HG HF
 generalize F zz = V at HP ⊢
 by_cases hz : z < 0
 · obtain ⟨n, hn⟩ := HP.out.box
   have hf := HP.out.fz
   have HP2 : Hid (∀ k, Pv w (V.setCell ⟨sb, 0, none⟩ (.int .i64 k)) B g cap S l sb) := fun k => HP.out.count k
   clear HP
   go_wp2
   go_ret2
   exact ⟨y, x, rfl, hy, hy', hx, hx', HP2.out _⟩
 · go_wp2
   go_ret2
   exact ⟨x, y, rfl, hx, hx', hy, hy', HP.out⟩
set_option maxHeartbeats 3200000 in
theorem median (B g cap : Nat) (lv : Value) (cf : Int → Int → Int) (S : Int → Prop) (a b x y z sb : Nat) (l : List Int) (w W : World) (hc : Ctx w g lv cf S) (h : Pv w W B g cap S l sb) (hx : a ≤ x) (hx' : x < b) (hy : a ≤ y) (hy' : y < b) (hz : a ≤ z) (hz' : z < b) (hb : b ≤ l.length) (hl : l.length ≤ 1048576) :
   Calls Tryz.prog 197 #[.slice (some ⟨g, 0, none⟩) l.length cap, .int .i64 x, .int .i64 y, .int .i64 z, .pointer (some ⟨sb, 0, none⟩), .func (.func 124) #[lv] #[]] W fun e w' => ∃ p : Nat, e = .returned (.int .i64 p) ∧ a ≤ p ∧ p < b ∧ Pv w w' B g cap S l sb := by
 have HO : Hid (∀ (x y : Nat) (V : World), a ≤ x → x < b → a ≤ y → y < b → Pv w V B g cap S l sb → Calls Tryz.prog 199 #[.slice (some ⟨g, 0, none⟩) l.length cap, .int .i64 x, .int .i64 y, .pointer (some ⟨sb, 0, none⟩), .func (.func 124) #[lv] #[]] V fun e w' => ∃ p q : Nat, e = .returned (.tuple #[.int .i64 p, .int .i64 q]) ∧ a ≤ p ∧ p < b ∧ a ≤ q ∧ q < b ∧ Pv w w' B g cap S l sb) := fun x y V h1 h2 h3 h4 hV => order2 B g cap lv cf S a b x y sb l w V hc hV h1 h2 h3 h4 hb hl
 have HP : Hid (Pv w W B g cap S l sb) := h
 clear hc h
 go_enter Tryz.func197, Tryz.ntmps197
 go_wp2_with fail
 refine (HO.out x y _ hx hx' hy hy' HP.out).mono ?_
 rintro e w1 ⟨x1, y1, rfl, hx1, hx1', hy1, hy1', hp1⟩
 have HP1 : Hid (Pv w w1 B g cap S l sb) := hp1
 clear hp1 HP
 go_wp2_with fail
 refine (HO.out y1 z _ hy1 hy1' hz hz' HP1.out).mono ?_
 rintro e w2 ⟨y2, z2, rfl, hy2, hy2', hz2, hz2', hp2⟩
 have HP2 : Hid (Pv w w2 B g cap S l sb) := hp2
 clear hp2 HP1
 go_wp2_with fail
 refine (HO.out x1 y2 _ hx1 hx1' hy2 hy2' HP2.out).mono ?_
 rintro e w3 ⟨x3, y3, rfl, hx3, hx3', hy3, hy3', hp3⟩
 have HP3 : Hid (Pv w w3 B g cap S l sb) := hp3
 clear hp3 HP2
 go_wp2
 go_ret
 exact ⟨y3, rfl, hy3, hy3', HP3.out⟩
set_option maxHeartbeats 3200000 in
theorem medianAdjacent (B g cap : Nat) (lv : Value) (cf : Int → Int → Int) (S : Int → Prop) (a b x sb : Nat) (l : List Int) (w W : World) (hc : Ctx w g lv cf S) (h : Pv w W B g cap S l sb) (hx : a < x) (hx' : x + 1 < b) (hb : b ≤ l.length) (hl : l.length ≤ 1048576) :
   Calls Tryz.prog 196 #[.slice (some ⟨g, 0, none⟩) l.length cap, .int .i64 x, .pointer (some ⟨sb, 0, none⟩), .func (.func 124) #[lv] #[]] W fun e w' => ∃ p : Nat, e = .returned (.int .i64 p) ∧ a ≤ p ∧ p < b ∧ Pv w w' B g cap S l sb := by
 obtain ⟨u, hu⟩ : ∃ u : Nat, u = x - 1 := ⟨_, rfl⟩
 obtain ⟨v, hv⟩ : ∃ v : Nat, v = x + 1 := ⟨_, rfl⟩
 have e1 : (x : Int) - 1 = (u : Int) := by omega
 have e2 : (x : Int) + 1 = (v : Int) := by omega
 have hcall := median B g cap lv cf S a b u x v sb l w W hc h (by omega) (by omega) (by omega) (by omega) (by omega) (by omega) hb hl
 clear hc h hu hv
 go_enter Tryz.func196, Tryz.ntmps196
 go_wp2_with fail
 refine hcall.mono ?_
 rintro e w1 ⟨p, rfl, hp, hp', hp1⟩
 have HP1 : Hid (Pv w w1 B g cap S l sb) := hp1
 clear hp1 hcall
 go_wp2
 go_ret
 exact ⟨p, rfl, hp, hp', HP1.out⟩
set_option maxHeartbeats 3200000 in
theorem choosePivot (B g cap : Nat) (lv : Value) (cf : Int → Int → Int) (S : Int → Prop) (a b : Nat) (l : List Int) (w : World) (hc : Ctx w g lv cf S) (h : Memb.Own B w (some ⟨g, 0, none⟩) cap l) (hg : Good S l) (hab : a + 12 < b) (hb : b ≤ l.length) (hl : l.length ≤ 1048576) :
   Calls Tryz.prog 185 #[.slice (some ⟨g, 0, none⟩) l.length cap, .int .i64 a, .int .i64 b, .func (.func 124) #[lv] #[]] w fun e w' => ∃ (p : Nat) (t : Int), e = .returned (.tuple #[.int .i64 p, .int .i64 t]) ∧ a ≤ p ∧ p < b ∧ (t = 0 ∨ t = 1 ∨ t = 2) ∧ Below w.heap.size w w' := by
 obtain ⟨n, hn⟩ : ∃ n : Nat, n = b - a := ⟨_, rfl⟩
 obtain ⟨q, hq⟩ : ∃ q : Nat, q = n / 4 := ⟨_, rfl⟩
 have hba : (b : Int) - (a : Int) = (n : Int) := by omega
 have hn8 : (8 : Int) ≤ (n : Int) := by omega
 have hqq : Int.tdiv (n : Int) 4 = (q : Int) := by rw [Int.tdiv_eq_ediv_of_nonneg (by omega)]; omega
 obtain ⟨i, hi⟩ : ∃ i : Nat, i = a + q := ⟨_, rfl⟩
 obtain ⟨j, hj⟩ : ∃ j : Nat, j = a + q * 2 := ⟨_, rfl⟩
 obtain ⟨k, hk⟩ : ∃ k : Nat, k = a + q * 3 := ⟨_, rfl⟩
 have ei : (a : Int) + (q : Int) = (i : Int) := by omega
 have ej : (a : Int) + (q : Int) * 2 = (j : Int) := by omega
 have ek : (a : Int) + (q : Int) * 3 = (k : Int) := by omega
 have hij : a < i ∧ i + 1 < b ∧ a < j ∧ j + 1 < b ∧ a < k ∧ k + 1 < b := by omega
 have HP0 : Hid (Pv w (w.alloc (.cells #[.int .i64 0] 3)) B g cap S l w.heap.size) := ⟨h, hg, (Below.refl _ _).alloc (Nat.le_refl _) _, Nat.le_refl _, by simp, ⟨0, by simp⟩, by simp⟩
 have HAD : Hid (∀ (x sb : Nat) (V : World), a < x → x + 1 < b → Pv w V B g cap S l sb → Calls Tryz.prog 196 #[.slice (some ⟨g, 0, none⟩) l.length cap, .int .i64 x, .pointer (some ⟨sb, 0, none⟩), .func (.func 124) #[lv] #[]] V fun e w' => ∃ p : Nat, e = .returned (.int .i64 p) ∧ a ≤ p ∧ p < b ∧ Pv w w' B g cap S l sb) := fun x sb V h1 h2 hV => medianAdjacent B g cap lv cf S a b x sb l w V hc hV h1 h2 hb hl
 have HMD : Hid (∀ (x y z sb : Nat) (V : World), a ≤ x → x < b → a ≤ y → y < b → a ≤ z → z < b → Pv w V B g cap S l sb → Calls Tryz.prog 197 #[.slice (some ⟨g, 0, none⟩) l.length cap, .int .i64 x, .int .i64 y, .int .i64 z, .pointer (some ⟨sb, 0, none⟩), .func (.func 124) #[lv] #[]] V fun e w' => ∃ p : Nat, e = .returned (.int .i64 p) ∧ a ≤ p ∧ p < b ∧ Pv w w' B g cap S l sb) := fun x y z sb V h1 h2 h3 h4 h5 h6 hV => median B g cap lv cf S a b x y z sb l w V hc hV h1 h2 h3 h4 h5 h6 hb hl
 clear hc h hg hn hq hi hj hk
 go_enter Tryz.func185, Tryz.ntmps185
 go_upto_region 3 with fail
 generalize w.alloc (.cells #[.int .i64 0] 3) = W0 at HP0 ⊢
 generalize w.heap.size = sb at HP0 ⊢
 go_upto_if 36 with fail
 go_cut [12, 13, 14] from 15 to 62 (fun iv jv kv wx => ∃ i j k : Nat, iv = .int .i64 i ∧ jv = .int .i64 j ∧ kv = .int .i64 k ∧ (a ≤ i ∧ i < b ∧ a ≤ j ∧ j < b ∧ a ≤ k ∧ k < b) ∧ Hid (Pv w wx B g cap S l sb))
 case first =>
   by_cases h50 : 50 ≤ n
   · have h50' : (50 : Int) ≤ (n : Int) := by omega
     go_wp2_with fail
     refine (HAD.out i sb _ hij.1 hij.2.1 HP0.out).mono ?_
     rintro e w1 ⟨i1, rfl, hi1, hi1', hp1⟩
     have HP1 : Hid (Pv w w1 B g cap S l sb) := hp1
     clear hp1
     go_wp2_with fail
     refine (HAD.out j sb _ hij.2.2.1 hij.2.2.2.1 HP1.out).mono ?_
     rintro e w2 ⟨j1, rfl, hj1, hj1', hp2⟩
     have HP2 : Hid (Pv w w2 B g cap S l sb) := hp2
     clear hp2 HP1
     go_wp2_with fail
     refine (HAD.out k sb _ hij.2.2.2.2.1 hij.2.2.2.2.2 HP2.out).mono ?_
     rintro e w3 ⟨k1, rfl, hk1, hk1', hp3⟩
     have HP3 : Hid (Pv w w3 B g cap S l sb) := hp3
     clear hp3 HP2
     go_wp2_with fail
     go_meet
     exact ⟨i1, j1, k1, rfl, rfl, rfl, ⟨hi1, hi1', hj1, hj1', hk1, hk1'⟩, HP3⟩
   · have h50' : ¬ (50 : Int) ≤ (n : Int) := by omega
     go_wp2_with fail
     go_meet
     exact ⟨i, j, k, rfl, rfl, rfl, by omega, HP0⟩
 case rest =>
   clear HP0 ei ej ek hij
   obtain ⟨i, j, k, rfl, rfl, rfl, hr, HP0⟩ := hcut
   go_wp2_with fail
   refine (HMD.out i j k sb _ hr.1 hr.2.1 hr.2.2.1 hr.2.2.2.1 hr.2.2.2.2.1 hr.2.2.2.2.2 HP0.out).mono ?_
   rintro e w1 ⟨p, rfl, hp, hp', hp1⟩
   have HP1 : Hid (Pv w w1 B g cap S l sb) := hp1
   clear hp1 HP0
   obtain ⟨c, hcb⟩ := HP1.out.box
   by_cases hc0 : c = 0
   · subst hc0
     go_wp2
     go_ret2
     exact ⟨p, 1, rfl, hp, hp', by omega, HP1.out.bel⟩
   · by_cases hc12 : c = 12
     · subst hc12
       go_wp2
       go_ret2
       exact ⟨p, 2, rfl, hp, hp', by omega, HP1.out.bel⟩
     · go_wp2
       go_ret2
       exact ⟨p, 0, rfl, hp, hp', by omega, HP1.out.bel⟩
set_option maxHeartbeats 3200000 in
theorem reverseRange (B g cap : Nat) (lv : Value) (S : Int → Prop) (a b : Nat) (l : List Int) (w : World) (h : Memb.Own B w (some ⟨g, 0, none⟩) cap l) (hg : Good S l) (hab : a < b) (hb : b ≤ l.length) (hl : l.length ≤ 1048576) :
   Calls Tryz.prog 186 #[.slice (some ⟨g, 0, none⟩) l.length cap, .int .i64 a, .int .i64 b, .func (.func 124) #[lv] #[]] w fun e w' => e = .returned (.tuple #[]) ∧ ∃ m, St w w' B g cap S a b l m := by
 have HS : Hid (St w w B g cap S a b l l) := St.start h hg
 clear h hg
 go_enter Tryz.func186, Tryz.ntmps186
 go_wp2_with fail
 go_loopw [8, 9] (fun iv jv wr => ∃ (i j : Nat) (m : List Int), iv = .int .i64 i ∧ jv = .int .i64 j ∧ a ≤ i ∧ j < b ∧ i ≤ j + 1 ∧ Hid (St w wr B g cap S a b l m)) (fun iv jv _ => (intOf jv + 1 - intOf iv).toNat)
 case atStart => exact ⟨a, b - 1, l, rfl, by rw [show ((b - 1 : Nat) : Int) = (b : Int) - 1 by omega], by omega, by omega, by omega, HS⟩
 case round =>
   clear HS
   obtain ⟨i, j, m, rfl, rfl, hi, hj, hij, HM⟩ := hrel
   by_cases hlt : i < j
   · have hlt' : (i : Int) < (j : Int) := by omega
     have li : (i : Int) < (l.length : Int) := by omega
     have lj : (j : Int) < (l.length : Int) := by omega
     have cpA := HM.out.row.cell i (by rw [HM.out.len]; omega)
     have cqA := HM.out.row.cell j (by rw [HM.out.len]; omega)
     have fpA := HM.out.row.frozen i
     have fqA := HM.out.row.frozen j
     have hneA : ¬ i = j := by omega
     have hnfA : ¬ j = i := by omega
     have HMA : Hid (St w ((wr.setCell ⟨g, i, none⟩ (.int .i64 (m.getD j 0))).setCell ⟨g, j, none⟩ (.int .i64 (m.getD i 0))) B g cap S a b l (swp m i j)) := HM.out.swap (by omega) i j (by omega) (by omega) (by omega) (by omega)
     generalize m.getD i 0 = xpA at cpA HMA
     generalize m.getD j 0 = xqA at cqA HMA
     clear HM
     go_wp2_with fail
     go_region
     all_goals go_wp2
     all_goals go_roundw
     case rel => exact ⟨i + 1, j - 1, _, by go_num, by rw [show ((j - 1 : Nat) : Int) = (j : Int) - 1 by omega], by omega, by omega, by omega, HMA.out.drewN 1⟩
     case measure => simp [intOf]; omega
   · have hlt' : ¬ (i : Int) < (j : Int) := by omega
     go_wp2
     go_end0
     exact ⟨rfl, m, HM.out⟩
end So
namespace So
def PiPost (w : World) (B g cap : Nat) (S : Int → Prop) (cf : Int → Int → Int) (a b : Nat) (l : List Int) (e : Ending) (w' : World) : Prop := ∃ (t : Bool) (m : List Int), e = .returned (.bool t) ∧ St w w' B g cap S a b l m ∧ (t = true → Up cf a b m)
theorem PiPost.mk {w w' : World} {B g cap : Nat} {S : Int → Prop} {cf : Int → Int → Int} {a b : Nat} {l : List Int} {e : Ending} (t : Bool) (m : List Int) (he : e = .returned (.bool t)) (h : St w w' B g cap S a b l m) (hu : t = true → Up cf a b m) : PiPost w B g cap S cf a b l e w' := ⟨t, m, he, h, hu⟩
set_option maxHeartbeats 6400000 in
theorem partialInsertion (B g cap : Nat) (lv : Value) (cf : Int → Int → Int) (S : Int → Prop) (a b : Nat) (l : List Int) (w : World) (hc : Ctx w g lv cf S) (h : Memb.Own B w (some ⟨g, 0, none⟩) cap l) (hg : Good S l) (hE : Edge cf a b l) (hab : a < b) (hb : b ≤ l.length) (hl : l.length ≤ 1048576) :
   Calls Tryz.prog 187 #[.slice (some ⟨g, 0, none⟩) l.length cap, .int .i64 a, .int .i64 b, .func (.func 124) #[lv] #[]] w (PiPost w B g cap S cf a b l) := by
 have HC : Hid (Ctx w g lv cf S) := hc
 have HS : Hid (St w w B g cap S a b l l) := St.start h hg
 have HE : Hid (∀ (W : World) (m : List Int), St w W B g cap S a b l m → 0 < a → ¬ Lt cf m a (a - 1)) := fun W m hM ha => by
   rcases edge_mix hE hM.mix with e | e
   · omega
   · exact lt_as hc.ord hM.good (by rw [hM.len]; omega) (by rw [hM.len]; omega) (e a (Nat.le_refl _) hab)
 clear hc h hg hE
 go_enter Tryz.func187, Tryz.ntmps187
 go_wp2_with fail
 go_loopw [9, 10] (fun iv cv wr => ∃ (i c : Nat) (m : List Int), iv = .int .i64 i ∧ cv = .int .i64 c ∧ c ≤ 5 ∧ a + 1 ≤ i ∧ i ≤ b ∧ Hid (St w wr B g cap S a b l m) ∧ Hid (Up cf a i m)) (fun _ cv _ => 5 - (intOf cv).toNat)
 case atStart => exact ⟨a + 1, 0, l, by go_num, rfl, by omega, by omega, by omega, HS, up_none _ _ (by omega)⟩
 case round =>
   clear HS
   obtain ⟨i0, c, m, rfl, rfl, hc5, hi0, hib0, HM, HU⟩ := hrel
   by_cases hc : c < 5
   · have hc' : (c : Int) < 5 := by omega
     go_upto_block 2 with fail
     go_cut [9] from 19 to 38 (fun iv wx => ∃ i : Nat, iv = .int .i64 i ∧ a + 1 ≤ i ∧ i ≤ b ∧ Hid (St w wx B g cap S a b l m) ∧ Hid (Up cf a i m))
     case first =>
       go_wp2_with fail
       go_loopw [9] (fun iv wx => ∃ i : Nat, iv = .int .i64 i ∧ a + 1 ≤ i ∧ i ≤ b ∧ Hid (St w wx B g cap S a b l m) ∧ Hid (Up cf a i m)) (fun iv _ => b - (intOf iv).toNat)
       case atStart => exact ⟨i0, rfl, by omega, by omega, HM, HU⟩
       case round =>
         clear HM HU
         obtain ⟨i, rfl, hi, hib, HM, HU⟩ := hrel
         by_cases hlt : i < b
         · have hlt' : decide ((i : Int) < (b : Int)) = true := by simp; omega
           obtain ⟨t, ht⟩ : ∃ t : Nat, t = i - 1 := ⟨_, rfl⟩
           have eit : (i : Int) - 1 = (t : Int) := by omega
           have li : (i : Int) < (l.length : Int) := by omega
           have lt' : (t : Int) < (l.length : Int) := by omega
           have HT : Hid (t = i - 1) := ht
           have HUS : Hid (¬ Lt cf m i t → Up cf a (i + 1) m) := fun k => up_snoc HC.out.ord HM.out.good (by omega) (by rw [HM.out.len]; omega) HU.out (by rw [← ht]; exact k)
           clear ht
           have HCAA : Hid (_) := HM.out.asks HC.out (p := i) (q := t) (by omega) (by omega)
           have HLLA : Hid (∀ z : Int, z = cf (m.getD i 0) (m.getD t 0) → (Lt cf m i t ↔ z < 0)) := fun z hz => by rw [hz]; exact Iff.rfl
           obtain ⟨XA, _, FA, HFA, HGA⟩ := Fam.fam wr
           have HMFA : Hid (∀ z, St w (FA z) B g cap S a b l m) := fun z => HM.out.below (HFA.out z)
           have hcpA : ∀ z, (FA z).cell? ⟨g, i, none⟩ = some (.int .i64 (m.getD i 0)) := fun z => (HMFA.out z).row.cell i (by rw [HM.out.len]; omega)
           have hcqA : ∀ z, (FA z).cell? ⟨g, t, none⟩ = some (.int .i64 (m.getD t 0)) := fun z => (HMFA.out z).row.cell t (by rw [HM.out.len]; omega)
           clear HM
           generalize m.getD i 0 = vpA at hcpA HCAA HLLA
           generalize m.getD t 0 = vqA at hcqA HCAA HLLA
           generalize cf vpA vqA = zA at HCAA HLLA
           have HLTA : Hid (Lt cf m i t ↔ zA < 0) := HLLA.out _ rfl
           clear HLLA
           go_wp2_with fail
           refine Fam.region (F := FA) (by kernel_rfl) (by kernel_rfl) (HGA.out _ (Below.refl _ wr).drew) ?_
           repeat (go_big_quiet_step (first
             | (go_at_call 124; exact (HCAA.out _ (HFA.out _)).mono fun _ _ h => ⟨h.1, HGA.out _ ((HFA.out _).trans (h.2.mono (HFA.out _).size))⟩)))
           refine wpQuiet_nil ?_
           intro w2 hw2
           obtain ⟨zzA, rfl⟩ := hw2
           have HM : Hid (St w (FA zzA) B g cap S a b l m) := HMFA.out zzA
           clear hcpA hcqA HMFA HCAA HGA HFA
           generalize FA zzA = VA at HM ⊢
           by_cases hz : zA < 0
           · rw [show (!decide (zA < 0)) = false by simp [hz]]
             clear HLTA HUS
             go_wp2_with fail
             go_meet
             exact ⟨i, rfl, hi, hib, HM, HU⟩
           · rw [show (!decide (zA < 0)) = true by simp [hz]]
             have HU2 : Hid (Up cf a (i + 1) m) := HUS.out fun k => hz (HLTA.out.1 k)
             clear HLTA HUS HU
             go_wp2
             go_roundw
             case rel => exact ⟨i + 1, by go_num, by omega, by omega, HM, HU2⟩
             case measure => simp [intOf]; omega
         · have hlt' : decide ((i : Int) < (b : Int)) = false := by simp; omega
           have HMF : Hid (∀ n, St w (wr.drewN n) B g cap S a b l m) := fun n => HM.out.drewN n
           clear HM
           go_wp2_with fail
           go_quiet (fail)
           go_wp2_with fail
           go_meet
           exact ⟨i, rfl, hi, hib, HMF.out _, HU⟩
     case rest =>
       clear HM HU
       obtain ⟨i, rfl, hi, hib, HM, HU⟩ := hcut
       by_cases hieb : i = b
       · subst hieb
         go_wp2
         go_ret
         exact PiPost.mk true m rfl HM.out fun _ => HU.out
       · have hieb' : ¬ (i : Int) = (b : Int) := by omega
         obtain ⟨n, hn⟩ : ∃ n : Nat, n = b - a := ⟨_, rfl⟩
         have hba : (b : Int) - (a : Int) = (n : Int) := by omega
         clear hn
         by_cases h50 : n < 50
         · have h50' : (n : Int) < 50 := by omega
           go_wp2
           go_ret
           exact PiPost.mk false m rfl HM.out fun h => Bool.noConfusion h
         · have h50' : ¬ (n : Int) < 50 := by omega
           obtain ⟨t, ht⟩ : ∃ t : Nat, t = i - 1 := ⟨_, rfl⟩
           have eit : (i : Int) - 1 = (t : Int) := by omega
           have li : (i : Int) < (l.length : Int) := by omega
           have lt' : (t : Int) < (l.length : Int) := by omega
           have hit : i = t + 1 := by omega
           have HUT : Hid (Up cf a t (swp m i t)) := by
             refine up_eq (fun p q h1 h2 h3 => HU.out p q h1 h2 (by omega)) fun p h1 h2 => ?_
             rw [swp_get m i t p (by rw [HM.out.len]; omega) (by rw [HM.out.len]; omega), if_neg (by omega), if_neg (by omega)]
           have HIT : Hid (i = t + 1) := hit
           have hti : t < i ∧ a ≤ t := by omega
           clear HU ht hit
           go_upto_region 11 with fail
           go_cut [9] from 15 to 140 (fun iv wx => iv = .int .i64 i ∧ Hid (St w wx B g cap S a b l (swp m i t)))
           case first =>
             have cpC := HM.out.row.cell i (by rw [HM.out.len]; omega)
             have cqC := HM.out.row.cell t (by rw [HM.out.len]; omega)
             have fpC := HM.out.row.frozen i
             have fqC := HM.out.row.frozen t
             have hneC : ¬ i = t := by omega
             have hnfC : ¬ t = i := by omega
             have HMC : Hid (St w ((wc.setCell ⟨g, i, none⟩ (.int .i64 (m.getD t 0))).setCell ⟨g, t, none⟩ (.int .i64 (m.getD i 0))) B g cap S a b l (swp m i t)) := HM.out.swap (by omega) i t (by omega) (by omega) (by omega) (by omega)
             generalize m.getD i 0 = xpC at cpC HMC
             generalize m.getD t 0 = xqC at cqC HMC
             clear HM
             go_wp2_with fail
             go_region
             all_goals go_wp2_with fail
             all_goals go_meet
             all_goals exact ⟨rfl, HMC.out.drewN 1⟩
           case rest =>
             clear HM
             obtain ⟨rfl, HM⟩ := hcut
             obtain ⟨m1, hm1⟩ : ∃ m1, m1 = swp m i t := ⟨_, rfl⟩
             rw [← hm1] at HM HUT
             clear hm1
             obtain ⟨d, hd⟩ : ∃ d : Nat, d = i - a := ⟨_, rfl⟩
             have hia : (i : Int) - (a : Int) = (d : Int) := by omega
             have hdi : d + a = i := by omega
             have HDI : Hid (d + a = i) := hdi
             clear hd hdi
             go_upto_if 65 with fail
             go_cut [9] from 15 to 140 (fun iv wx => ∃ m2 : List Int, iv = .int .i64 i ∧ Hid (St w wx B g cap S a b l m2) ∧ Hid (Up cf a i m2))
             case first =>
               by_cases hd2 : 2 ≤ d
               · have hd2' : (2 : Int) ≤ (d : Int) := by omega
                 have HN : Hid (Near cf a i t m1) := by show Near _ _ _ _ _; rw [HIT.out]; exact near_start HUT.out
                 clear HUT
                 go_wp2_with fail
                 go_loopw [11] (fun jv wr => ∃ (j : Nat) (m2 : List Int), jv = .int .i64 j ∧ a ≤ j ∧ j < i ∧ Hid (St w wr B g cap S a b l m2) ∧ Hid (Near cf a i j m2)) (fun jv _ => (intOf jv).toNat)
                 case atStart => exact ⟨t, m1, rfl, by omega, by omega, HM, HN⟩
                 case round =>
                   clear HM HN
                   clear eit lt'
                   obtain ⟨j, m2, rfl, hj, hji, HM, HN⟩ := hrel
                   by_cases hj1 : 1 ≤ j
                   · have hj1' : (1 : Int) ≤ (j : Int) := by omega
                     obtain ⟨s, hs⟩ : ∃ s : Nat, s = j - 1 := ⟨_, rfl⟩
                     have ejs : (j : Int) - 1 = (s : Int) := by omega
                     have lj : (j : Int) < (l.length : Int) := by omega
                     have ls : (s : Int) < (l.length : Int) := by omega
                     have HSJ : Hid (s = j - 1) := hs
                     clear hs
                     have HCAD : Hid (_) := HM.out.asks HC.out (p := j) (q := s) (by omega) (by omega)
                     have HLLD : Hid (∀ z : Int, z = cf (m2.getD j 0) (m2.getD s 0) → (Lt cf m2 j s ↔ z < 0)) := fun z hz => by rw [hz]; exact Iff.rfl
                     obtain ⟨XD, _, FD, HFD, HGD⟩ := Fam.fam wr
                     have HMFD : Hid (∀ z, St w (FD z) B g cap S a b l m2) := fun z => HM.out.below (HFD.out z)
                     have hcpD : ∀ z, (FD z).cell? ⟨g, j, none⟩ = some (.int .i64 (m2.getD j 0)) := fun z => (HMFD.out z).row.cell j (by rw [HM.out.len]; omega)
                     have hcqD : ∀ z, (FD z).cell? ⟨g, s, none⟩ = some (.int .i64 (m2.getD s 0)) := fun z => (HMFD.out z).row.cell s (by rw [HM.out.len]; omega)
                     clear HM
                     generalize m2.getD j 0 = vpD at hcpD HCAD HLLD
                     generalize m2.getD s 0 = vqD at hcqD HCAD HLLD
                     generalize cf vpD vqD = zD at HCAD HLLD
                     have HLTD : Hid (Lt cf m2 j s ↔ zD < 0) := HLLD.out _ rfl
                     clear HLLD
                     go_wp2_with fail
                     refine Fam.region (F := FD) (by kernel_rfl) (by kernel_rfl) (HGD.out _ (Below.refl _ wr).drew) ?_
                     repeat (go_big_quiet_step (first
                       | (go_at_call 124; exact (HCAD.out _ (HFD.out _)).mono fun _ _ h => ⟨h.1, HGD.out _ ((HFD.out _).trans (h.2.mono (HFD.out _).size))⟩)))
                     refine wpQuiet_nil ?_
                     intro w2 hw2
                     obtain ⟨zzD, rfl⟩ := hw2
                     have HM : Hid (St w (FD zzD) B g cap S a b l m2) := HMFD.out zzD
                     clear hcpD hcqD HMFD HCAD HGD HFD
                     generalize FD zzD = VD at HM ⊢
                     by_cases hz : zD < 0
                     · rw [show (!decide (zD < 0)) = false by simp [hz]]
                       have hlt : Lt cf m2 j (j - 1) := by rw [← HSJ.out]; exact HLTD.out.2 hz
                       have haj : a < j := by
                         apply Classical.byContradiction
                         intro hn
                         obtain rfl : a = j := by omega
                         exact HE.out _ _ HM.out (by omega) hlt
                       have hsj := HSJ.out
                       have HN2 : Hid (Near cf a i s (swp m2 j s)) := by show Near _ _ _ _ _; rw [hsj]; exact near_swap (by rw [HM.out.len]; omega) haj hji HN.out hlt
                       have hsa : a ≤ s ∧ s < j := by omega
                       clear hsj hlt HN HLTD HSJ
                       have cpE := HM.out.row.cell j (by rw [HM.out.len]; omega)
                       have cqE := HM.out.row.cell s (by rw [HM.out.len]; omega)
                       have fpE := HM.out.row.frozen j
                       have fqE := HM.out.row.frozen s
                       have hneE : ¬ j = s := by omega
                       have hnfE : ¬ s = j := by omega
                       have HME : Hid (St w ((VD.setCell ⟨g, j, none⟩ (.int .i64 (m2.getD s 0))).setCell ⟨g, s, none⟩ (.int .i64 (m2.getD j 0))) B g cap S a b l (swp m2 j s)) := HM.out.swap (by omega) j s (by omega) (by omega) (by omega) (by omega)
                       generalize m2.getD j 0 = xpE at cpE HME
                       generalize m2.getD s 0 = xqE at cqE HME
                       clear HM
                       go_wp2_with fail
                       go_region
                       all_goals go_wp2
                       all_goals go_roundw
                       case rel => exact ⟨s, _, rfl, by omega, by omega, HME.out.drewN 1, HN2⟩
                       case measure => simp [intOf]; omega
                     · rw [show (!decide (zD < 0)) = true by simp [hz]]
                       have HU : Hid (Up cf a i m2) := near_end HC.out.ord HM.out.good (by rw [HM.out.len]; omega) hji HN.out (.inr (by rw [← HSJ.out]; exact fun k => hz (HLTD.out.1 k)))
                       clear HLTD HSJ HN
                       go_wp2_with fail
                       go_meet
                       exact ⟨m2, rfl, HM, HU⟩
                   · have hj1' : ¬ (1 : Int) ≤ (j : Int) := by omega
                     have HU : Hid (Up cf a i m2) := near_end HC.out.ord HM.out.good (by rw [HM.out.len]; omega) hji HN.out (.inl (by omega))
                     clear HN
                     go_wp2_with fail
                     go_meet
                     exact ⟨m2, rfl, HM, HU⟩
               · have hd2' : ¬ (2 : Int) ≤ (d : Int) := by omega
                 have HU : Hid (Up cf a i m1) := up_none _ _ (by have := HDI.out; omega)
                 go_wp2_with fail
                 go_meet
                 exact ⟨m1, rfl, HM, HU⟩
             case rest =>
               clear HM HUT hia eit lt' hti HIT HDI
               obtain ⟨m2, rfl, HM, HU⟩ := hcut
               obtain ⟨d, hd⟩ : ∃ d : Nat, d = b - i := ⟨_, rfl⟩
               have hbi : (b : Int) - (i : Int) = (d : Int) := by omega
               clear hd
               by_cases hd2 : 2 ≤ d
               · have hd2' : (2 : Int) ≤ (d : Int) := by omega
                 go_wp2_with fail
                 go_loopw [12] (fun jv wr => ∃ (j : Nat) (m2 : List Int), jv = .int .i64 j ∧ i + 1 ≤ j ∧ j ≤ b ∧ Hid (St w wr B g cap S a b l m2) ∧ Hid (Up cf a i m2)) (fun jv _ => b - (intOf jv).toNat)
                 case atStart => exact ⟨i + 1, m2, by go_num, by omega, by omega, HM, HU⟩
                 case round =>
                   clear HM HU
                   obtain ⟨j, m2, rfl, hj, hji, HM, HU⟩ := hrel
                   by_cases hjb : j < b
                   · have hjb' : (j : Int) < (b : Int) := by omega
                     obtain ⟨s, hs⟩ : ∃ s : Nat, s = j - 1 := ⟨_, rfl⟩
                     have ejs : (j : Int) - 1 = (s : Int) := by omega
                     have lj : (j : Int) < (l.length : Int) := by omega
                     have ls : (s : Int) < (l.length : Int) := by omega
                     have hsa : i ≤ s ∧ s < j := by omega
                     have HU2 : Hid (Up cf a i (swp m2 j s)) := up_eq HU.out fun p h1 h2 => by rw [swp_get m2 j s p (by rw [HM.out.len]; omega) (by rw [HM.out.len]; omega), if_neg (by omega), if_neg (by omega)]
                     clear hs
                     have HCAF : Hid (_) := HM.out.asks HC.out (p := j) (q := s) (by omega) (by omega)
                     have HLLF : Hid (∀ z : Int, z = cf (m2.getD j 0) (m2.getD s 0) → (Lt cf m2 j s ↔ z < 0)) := fun z hz => by rw [hz]; exact Iff.rfl
                     obtain ⟨XF, _, FF, HFF, HGF⟩ := Fam.fam wr
                     have HMFF : Hid (∀ z, St w (FF z) B g cap S a b l m2) := fun z => HM.out.below (HFF.out z)
                     have hcpF : ∀ z, (FF z).cell? ⟨g, j, none⟩ = some (.int .i64 (m2.getD j 0)) := fun z => (HMFF.out z).row.cell j (by rw [HM.out.len]; omega)
                     have hcqF : ∀ z, (FF z).cell? ⟨g, s, none⟩ = some (.int .i64 (m2.getD s 0)) := fun z => (HMFF.out z).row.cell s (by rw [HM.out.len]; omega)
                     clear HM
                     generalize m2.getD j 0 = vpF at hcpF HCAF HLLF
                     generalize m2.getD s 0 = vqF at hcqF HCAF HLLF
                     generalize cf vpF vqF = zF at HCAF HLLF
                     have HLTF : Hid (Lt cf m2 j s ↔ zF < 0) := HLLF.out _ rfl
                     clear HLLF
                     go_wp2_with fail
                     refine Fam.region (F := FF) (by kernel_rfl) (by kernel_rfl) (HGF.out _ (Below.refl _ wr).drew) ?_
                     repeat (go_big_quiet_step (first
                       | (go_at_call 124; exact (HCAF.out _ (HFF.out _)).mono fun _ _ h => ⟨h.1, HGF.out _ ((HFF.out _).trans (h.2.mono (HFF.out _).size))⟩)))
                     refine wpQuiet_nil ?_
                     intro w2 hw2
                     obtain ⟨zzF, rfl⟩ := hw2
                     have HM : Hid (St w (FF zzF) B g cap S a b l m2) := HMFF.out zzF
                     clear hcpF hcqF HMFF HCAF HGF HFF
                     generalize FF zzF = VF at HM ⊢
                     by_cases hz : zF < 0
                     · rw [show (!decide (zF < 0)) = false by simp [hz]]
                       clear HLTF HU
                       have cpG := HM.out.row.cell j (by rw [HM.out.len]; omega)
                       have cqG := HM.out.row.cell s (by rw [HM.out.len]; omega)
                       have fpG := HM.out.row.frozen j
                       have fqG := HM.out.row.frozen s
                       have hneG : ¬ j = s := by omega
                       have hnfG : ¬ s = j := by omega
                       have HMG : Hid (St w ((VF.setCell ⟨g, j, none⟩ (.int .i64 (m2.getD s 0))).setCell ⟨g, s, none⟩ (.int .i64 (m2.getD j 0))) B g cap S a b l (swp m2 j s)) := HM.out.swap (by omega) j s (by omega) (by omega) (by omega) (by omega)
                       generalize m2.getD j 0 = xpG at cpG HMG
                       generalize m2.getD s 0 = xqG at cqG HMG
                       clear HM
                       go_wp2_with fail
                       go_region
                       all_goals go_wp2
                       all_goals go_roundw
                       case rel => exact ⟨j + 1, _, by go_num, by omega, by omega, HMG.out.drewN 1, HU2⟩
                       case measure => simp [intOf]; omega
                     · rw [show (!decide (zF < 0)) = true by simp [hz]]
                       clear HLTF HU2
                       go_wp2
                       go_roundw
                       case rel => exact ⟨i, c + 1, m2, rfl, by go_num, by omega, by omega, by omega, HM, HU⟩
                       case measure => simp [intOf]; omega
                   · have hjb' : ¬ (j : Int) < (b : Int) := by omega
                     go_wp2
                     go_roundw
                     case rel => exact ⟨i, c + 1, m2, rfl, by go_num, by omega, by omega, by omega, HM, HU⟩
                     case measure => simp [intOf]; omega
               · have hd2' : ¬ (2 : Int) ≤ (d : Int) := by omega
                 go_wp2
                 go_roundw
                 case rel => exact ⟨i, c + 1, m2, rfl, by go_num, by omega, by omega, by omega, HM, HU⟩
                 case measure => simp [intOf]; omega
   · have hc' : ¬ (c : Int) < 5 := by omega
     go_wp2
     go_ret
     exact PiPost.mk false m rfl HM.out fun h => Bool.noConfusion h
end So
namespace So
structure Pq (w wr : World) (B g cap : Nat) (cf : Int → Int → Int) (S : Int → Prop) (a b c d : Nat) (l m : List Int) : Prop where
 st : St w wr B g cap S a b l m
 rest : Rest cf a b c d m
 edge : Edge cf c d m
 ca : a ≤ c
 db : d ≤ b
theorem Pq.below {w wr wr' : World} {B g cap : Nat} {cf : Int → Int → Int} {S : Int → Prop} {a b c d : Nat} {l m : List Int} (h : Pq w wr B g cap cf S a b c d l m) (hb : Below wr.heap.size wr wr') : Pq w wr' B g cap cf S a b c d l m := ⟨h.st.below hb, h.rest, h.edge, h.ca, h.db⟩
theorem Pq.call {w wr w2 : World} {B g cap : Nat} {cf : Int → Int → Int} {S : Int → Prop} {a b c d : Nat} {l m k : List Int} (h : Pq w wr B g cap cf S a b c d l m) (hk : St wr w2 B g cap S c d m k) : Pq w w2 B g cap cf S a b c d l k :=
 ⟨h.st.call h.ca h.db hk, rest_mix h.rest h.ca h.db hk.mix, edge_mix h.edge hk.mix, h.ca, h.db⟩
theorem Pq.drewN {w wr : World} {B g cap : Nat} {cf : Int → Int → Int} {S : Int → Prop} {a b c d : Nat} {l m : List Int} (h : Pq w wr B g cap cf S a b c d l m) (n : Nat) : Pq w (wr.drewN n) B g cap cf S a b c d l m := ⟨h.st.drewN n, h.rest, h.edge, h.ca, h.db⟩
def Sorts (B g cap : Nat) (lv : Value) (cf : Int → Int → Int) (S : Int → Prop) (N : Nat) : Prop :=
 ∀ (a b lim : Nat) (l : List Int) (w : World), b - a < N → Ctx w g lv cf S → Memb.Own B w (some ⟨g, 0, none⟩) cap l → Good S l → Edge cf a b l → a ≤ b → b ≤ l.length → l.length ≤ 1048576 → lim ≤ 64 →
   Calls Tryz.prog 171 #[.slice (some ⟨g, 0, none⟩) l.length cap, .int .i64 a, .int .i64 b, .int .i64 lim, .func (.func 124) #[lv] #[]] w fun e w' => e = .returned (.tuple #[]) ∧ ∃ m, St w w' B g cap S a b l m ∧ Up cf a b m
set_option maxHeartbeats 12800000 in
theorem pdq_step (B g cap : Nat) (lv : Value) (cf : Int → Int → Int) (S : Int → Prop) (N : Nat) (ih : Sorts B g cap lv cf S N) : Sorts B g cap lv cf S (N + 1) := by
 intro a b lim l w hN hc h hg hE hab hb hl hlim
 have HC : Hid (Ctx w g lv cf S) := hc
 have HQ0 : Hid (Pq w w B g cap cf S a b a b l l) := ⟨St.start h hg, fun p q h1 h2 h3 h4 => absurd ⟨h1, h3⟩ h4, hE, Nat.le_refl _, Nat.le_refl _⟩
 have HIH : Hid (∀ (c d mid1 mid2 lim : Nat) (m : List Int) (wr : World), Pq w wr B g cap cf S a b c d l m → mid2 - mid1 < d - c → Edge cf mid1 mid2 m → mid1 ≤ mid2 → mid2 ≤ b → lim ≤ 64 → Calls Tryz.prog 171 #[.slice (some ⟨g, 0, none⟩) l.length cap, .int .i64 mid1, .int .i64 mid2, .int .i64 lim, .func (.func 124) #[lv] #[]] wr fun e w' => e = .returned (.tuple #[]) ∧ ∃ k, St wr w' B g cap S mid1 mid2 m k ∧ Up cf mid1 mid2 k) := fun c d x y lim m wr hp h1 h2 h3 h4 h5 => by
   have := ih x y lim m wr (by have := hp.ca; have := hp.db; omega) (hc.later hp.st.row.gr) hp.st.row.own hp.st.good h2 h3 (by rw [hp.st.len]; omega) (by rw [hp.st.len]; omega) h5
   rwa [hp.st.len] at this
 clear ih hc h hg hE hN
 go_enter Tryz.func171, Tryz.ntmps171
 go_wp2_with fail
 go_loopw [1, 2, 3, 10, 11] (fun av bv mv tv uv wr => ∃ (c d lim : Nat) (t u : Bool) (m : List Int), av = .int .i64 c ∧ bv = .int .i64 d ∧ mv = .int .i64 lim ∧ tv = .bool t ∧ uv = .bool u ∧ c ≤ d ∧ d ≤ b ∧ lim ≤ 64 ∧ Hid (Pq w wr B g cap cf S a b c d l m)) (fun av bv _ _ _ _ => (intOf bv - intOf av).toNat)
 case atStart => exact ⟨a, b, lim, true, true, l, rfl, rfl, rfl, rfl, rfl, hab, Nat.le_refl _, hlim, HQ0⟩
 case round =>
   clear HQ0 hlim
   obtain ⟨c, d, lim, t, u, m, rfl, rfl, rfl, rfl, rfl, hcd, hdb, hlim, HQ⟩ := hrel
   obtain ⟨n, hn⟩ : ∃ n : Nat, n = d - c := ⟨_, rfl⟩
   have hdc : (d : Int) - (c : Int) = (n : Int) := by omega
   have HND : Hid (c + n = d) := by show c + n = d; omega
   have hca := HQ.out.ca
   clear hn
   by_cases h12 : n ≤ 12
   · have h12' : (n : Int) ≤ 12 := by omega
     have hcall := insertion B g cap lv cf S c d m wr (HC.out.later HQ.out.st.row.gr) HQ.out.st.row.own HQ.out.st.good hcd (by rw [HQ.out.st.len]; omega) (by rw [HQ.out.st.len]; omega)
     rw [HQ.out.st.len] at hcall
     go_wp2_with fail
     refine hcall.mono ?_
     rintro e w1 ⟨rfl, k, hk, hu⟩
     have HQ1 : Hid (Pq w w1 B g cap cf S a b c d l k) := HQ.out.call hk
     have HU : Hid (Up cf c d k) := hu
     clear hcall hk hu HQ
     go_wp2_with fail
     refine bodyPost_ret (results_none rfl _ _ _) rfl ?_
     exact ⟨rfl, k, HQ1.out.st, rest_up HQ1.out.rest HU.out⟩
   · have h12' : ¬ (n : Int) ≤ 12 := by omega
     have hc12 : c + 12 < d := by have := HND.out; omega
     by_cases hlim0 : lim = 0
     · subst hlim0
       have hcall := heapSort B g cap lv cf S c d m wr (HC.out.later HQ.out.st.row.gr) HQ.out.st.row.own HQ.out.st.good (by omega) (by rw [HQ.out.st.len]; omega) (by rw [HQ.out.st.len]; omega)
       rw [HQ.out.st.len] at hcall
       rw [show ((0 : Nat) : Int) = 0 from rfl]
       go_wp2_with fail
       refine hcall.mono ?_
       rintro e w1 ⟨rfl, k, hk, hu⟩
       have HQ1 : Hid (Pq w w1 B g cap cf S a b c d l k) := HQ.out.call hk
       have HU : Hid (Up cf c d k) := hu
       clear hcall hk hu HQ
       go_wp2_with fail
       refine bodyPost_ret (results_none rfl _ _ _) rfl ?_
       exact ⟨rfl, k, HQ1.out.st, rest_up HQ1.out.rest HU.out⟩
     · have hlim0' : ¬ (lim : Int) = 0 := by omega
       go_upto_region 7 with fail
       go_cut [39] from 21 to 147 (fun tv wx => tv = .bool (!t) ∧ Hid (Pq w wx B g cap cf S a b c d l m))
       case first =>
         go_wp2_with fail
         go_meet
         exact ⟨rfl, HQ⟩
       case rest =>
         clear HQ
         obtain ⟨rfl, HQ⟩ := hcut
         go_upto_if 39 with fail
         go_cut [3] from 21 to 147 (fun mv wx => ∃ (lim : Nat) (m : List Int), mv = .int .i64 lim ∧ lim ≤ 64 ∧ Hid (Pq w wx B g cap cf S a b c d l m))
         case first =>
           cases t
           · have hcall := breakPatterns B g cap lv S c d m wc HQ.out.st.row.own HQ.out.st.good hc12 (by rw [HQ.out.st.len]; omega) (by rw [HQ.out.st.len]; omega)
             rw [HQ.out.st.len] at hcall
             rw [show (!false) = true from rfl]
             go_wp2_with fail
             refine hcall.mono ?_
             rintro e w1 ⟨rfl, k, hk⟩
             have HQ1 : Hid (Pq w w1 B g cap cf S a b c d l k) := HQ.out.call hk
             clear hcall hk HQ
             go_wp2_with fail
             go_meet
             exact ⟨lim - 1, k, by rw [show ((lim - 1 : Nat) : Int) = (lim : Int) - 1 by omega], by omega, HQ1⟩
           · rw [show (!true) = false from rfl]
             go_wp2_with fail
             go_meet
             exact ⟨lim, m, rfl, hlim, HQ⟩
         case rest =>
           clear HQ hlim0 hlim0' hlim
           obtain ⟨lim, m, rfl, hlim, HQ⟩ := hcut
           have hcall := choosePivot B g cap lv cf S c d m wc (HC.out.later HQ.out.st.row.gr) HQ.out.st.row.own HQ.out.st.good hc12 (by rw [HQ.out.st.len]; omega) (by rw [HQ.out.st.len]; omega)
           rw [HQ.out.st.len] at hcall
           go_wp2_with fail
           refine hcall.mono ?_
           rintro e w1 ⟨p, hint, rfl, hp, hp', hh, hb1⟩
           have HQ1 : Hid (Pq w w1 B g cap cf S a b c d l m) := HQ.out.below hb1
           clear hcall hb1 HQ
           go_upto_if 56 with fail
           go_cut [13, 14] from 21 to 147 (fun pv hv wx => ∃ (p : Nat) (hint : Int) (m : List Int), pv = .int .i64 p ∧ hv = .int .i64 hint ∧ c ≤ p ∧ p < d ∧ (hint = 0 ∨ hint = 1) ∧ Hid (Pq w wx B g cap cf S a b c d l m))
           case first =>
             by_cases hh2 : hint = 2
             · subst hh2
               have hcall := reverseRange B g cap lv S c d m w1 HQ1.out.st.row.own HQ1.out.st.good (by omega) (by rw [HQ1.out.st.len]; omega) (by rw [HQ1.out.st.len]; omega)
               rw [HQ1.out.st.len] at hcall
               go_wp2_with fail
               refine hcall.mono ?_
               rintro e w2 ⟨rfl, k, hk⟩
               have HQ2 : Hid (Pq w w2 B g cap cf S a b c d l k) := HQ1.out.call hk
               clear hcall hk HQ1
               go_wp2_with fail
               go_meet
               exact ⟨d - 1 - (p - c), 1, k, by rw [show ((d - 1 - (p - c) : Nat) : Int) = (d : Int) - 1 - ((p : Int) - (c : Int)) by omega], rfl, by omega, by omega, .inr rfl, HQ2⟩
             · go_wp2_with fail
               go_meet
               exact ⟨p, hint, m, rfl, rfl, hp, hp', by omega, HQ1⟩
           case rest =>
             clear HQ1 hp hp' hh
             obtain ⟨p, hint, m, rfl, rfl, hp, hp', hh, HQ⟩ := hcut
             go_upto_region 15 with fail
             go_cut [75] from 21 to 147 (fun sv wx => ∃ s : Bool, sv = .bool s ∧ Hid (Pq w wx B g cap cf S a b c d l m))
             case first =>
               cases t <;> cases u <;> rcases hh with rfl | rfl
               all_goals go_wp2_with fail
               all_goals go_meet
               all_goals exact ⟨_, rfl, HQ⟩
             case rest =>
               clear HQ hh
               obtain ⟨s, rfl, HQ⟩ := hcut
               go_upto_if 75 with fail
               go_cut [13] from 21 to 147 (fun pv wx => ∃ m : List Int, pv = .int .i64 p ∧ Hid (Pq w wx B g cap cf S a b c d l m))
               case first =>
                 cases s
                 · go_wp2_with fail
                   go_meet
                   exact ⟨m, rfl, HQ⟩
                 · have hcall := partialInsertion B g cap lv cf S c d m wc (HC.out.later HQ.out.st.row.gr) HQ.out.st.row.own HQ.out.st.good HQ.out.edge (by omega) (by rw [HQ.out.st.len]; omega) (by rw [HQ.out.st.len]; omega)
                   rw [HQ.out.st.len] at hcall
                   go_wp2_with fail
                   refine hcall.mono ?_
                   rintro e w1 ⟨t1, k, rfl, hk, hu⟩
                   have HQ1 : Hid (Pq w w1 B g cap cf S a b c d l k) := HQ.out.call hk
                   have HU : Hid (t1 = true → Up cf c d k) := hu
                   clear hcall hk hu HQ
                   cases t1
                   · go_wp2_with fail
                     go_meet
                     exact ⟨k, rfl, HQ1⟩
                   · go_wp2_with fail
                     refine bodyPost_ret (results_none rfl _ _ _) rfl ?_
                     exact ⟨rfl, k, HQ1.out.st, rest_up HQ1.out.rest (by first | exact HU.out rfl | exact HU.out trivial)⟩
               case rest =>
                 clear HQ
                 obtain ⟨m, rfl, HQ⟩ := hcut
                 have lp : (p : Int) < (l.length : Int) := by omega
                 go_upto_region 17 with fail
                 go_cut [97] from 21 to 147 (fun sv wx => sv = .bool false ∧ Hid (Pq w wx B g cap cf S a b c d l m))
                 case first =>
                   by_cases hc0 : 0 < c
                   · have hc0' : decide ((0 : Int) < (c : Int)) = true := by simp; omega
                     obtain ⟨q, hq⟩ : ∃ q : Nat, q = c - 1 := ⟨_, rfl⟩
                     have ecq : (c : Int) - 1 = (q : Int) := by omega
                     have lq : (q : Int) < (l.length : Int) := by omega
                     have HLE : Hid (Lt cf m q p) := by
                       rcases HQ.out.edge with e | e
                       · omega
                       · rw [hq]; exact e p hp hp'
                     have HM : Hid (St w wc B g cap S a b l m) := HQ.out.st
                     have HR : Hid (Rest cf a b c d m ∧ Edge cf c d m) := ⟨HQ.out.rest, HQ.out.edge⟩
                     clear HQ hq
                     have HCAA : Hid (_) := HM.out.asks HC.out (p := q) (q := p) (by omega) (by omega)
                     have HLLA : Hid (∀ z : Int, z = cf (m.getD q 0) (m.getD p 0) → (Lt cf m q p ↔ z < 0)) := fun z hz => by rw [hz]; exact Iff.rfl
                     obtain ⟨XA, _, FA, HFA, HGA⟩ := Fam.fam wc
                     have HMFA : Hid (∀ z, St w (FA z) B g cap S a b l m) := fun z => HM.out.below (HFA.out z)
                     have hcpA : ∀ z, (FA z).cell? ⟨g, q, none⟩ = some (.int .i64 (m.getD q 0)) := fun z => (HMFA.out z).row.cell q (by rw [HM.out.len]; omega)
                     have hcqA : ∀ z, (FA z).cell? ⟨g, p, none⟩ = some (.int .i64 (m.getD p 0)) := fun z => (HMFA.out z).row.cell p (by rw [HM.out.len]; omega)
                     clear HM
                     generalize m.getD q 0 = vpA at hcpA HCAA HLLA
                     generalize m.getD p 0 = vqA at hcqA HCAA HLLA
                     generalize cf vpA vqA = zA at HCAA HLLA
                     have HLTA : Hid (Lt cf m q p ↔ zA < 0) := HLLA.out _ rfl
                     clear HLLA
                     go_wp2_with fail
                     refine Fam.region (F := FA) (by kernel_rfl) (by kernel_rfl) (HGA.out _ (Below.refl _ wc).drew) ?_
                     repeat (go_big_quiet_step (first
                       | (go_at_call 124; exact (HCAA.out _ (HFA.out _)).mono fun _ _ h => ⟨h.1, HGA.out _ ((HFA.out _).trans (h.2.mono (HFA.out _).size))⟩)))
                     refine wpQuiet_nil ?_
                     intro w2 hw2
                     obtain ⟨zzA, rfl⟩ := hw2
                     have HM : Hid (St w (FA zzA) B g cap S a b l m) := HMFA.out zzA
                     clear hcpA hcqA HMFA HCAA HGA HFA
                     generalize FA zzA = VA at HM ⊢
                     have hz := HLTA.out.1 HLE.out
                     rw [show (!decide (zA < 0)) = false by simp [hz]]
                     have HQ2 : Hid (Pq w VA B g cap cf S a b c d l m) := ⟨HM.out, HR.out.1, HR.out.2, hca, hdb⟩
                     clear HLTA HLE HR HM
                     go_wp2_with fail
                     go_meet
                     exact ⟨rfl, HQ2⟩
                   · have hc0' : decide ((0 : Int) < (c : Int)) = false := by simp; omega
                     have HMF : Hid (∀ n, Pq w (wc.drewN n) B g cap cf S a b c d l m) := fun n => HQ.out.drewN n
                     clear HQ
                     go_wp2_with fail
                     go_quiet (fail)
                     go_wp2_with fail
                     go_meet
                     exact ⟨rfl, HMF.out _⟩
                 case rest =>
                   clear HQ
                   obtain ⟨rfl, HQ⟩ := hcut
                   have hcall := partition B g cap lv cf S c d p m wc (HC.out.later HQ.out.st.row.gr) HQ.out.st.row.own HQ.out.st.good hp hp' (by rw [HQ.out.st.len]; omega) (by rw [HQ.out.st.len]; omega)
                   rw [HQ.out.st.len] at hcall
                   go_wp2_with fail
                   refine hcall.mono ?_
                   rintro e w1 ⟨mid, t1, k, rfl, hmid, hmid', hk, hct⟩
                   have HQ1 : Hid (Pq w w1 B g cap cf S a b c d l k) := HQ.out.call hk
                   have HCT : Hid (Cut cf c d mid k) := hct
                   clear hcall hk hct HQ
                   by_cases hlr : (mid : Int) - (c : Int) < (d : Int) - (mid : Int)
                   · have hcall := HIH.out c d c mid lim k w1 HQ1.out (by omega) (edge_sub HQ1.out.edge (by omega)) (by omega) (by omega) hlim
                     go_wp2_with fail
                     refine hcall.mono ?_
                     rintro e w2 ⟨rfl, k2, hk2, hu2⟩
                     have HQ2 : Hid (Pq w w2 B g cap cf S a b (mid + 1) d l k2) := by
                       have h1 := cut_left HC.out.ord hk2.good hdb (by rw [hk2.len, HQ1.out.st.len]; omega) hmid hmid' hca HQ1.out.rest HCT.out hk2.mix hu2
                       exact ⟨HQ1.out.st.call (by omega) (by omega) hk2, h1.1, h1.2, by omega, hdb⟩
                     clear hcall hk2 hu2 HQ1 HCT
                     go_wp2_with fail
                     go_roundw
                     case rel => exact ⟨mid + 1, d, lim, _, t1, k2, by go_num, rfl, rfl, rfl, rfl, by omega, hdb, hlim, HQ2⟩
                     case measure => simp [intOf]; omega
                   · obtain ⟨y, hy⟩ : ∃ y : Nat, y = mid + 1 := ⟨_, rfl⟩
                     have ey : (mid : Int) + 1 = (y : Int) := by omega
                     have hcall := HIH.out c d y d lim k w1 HQ1.out (by omega) (by rw [hy]; exact .inr fun p p1 p2 => by rw [Nat.add_sub_cancel]; exact HCT.out.hi p (by omega) p2) (by omega) (by omega) hlim
                     have HY : Hid (y = mid + 1) := hy
                     clear hy
                     go_wp2_with fail
                     refine hcall.mono ?_
                     rintro e w2 ⟨rfl, k2, hk2, hu2⟩
                     have HQ2 : Hid (Pq w w2 B g cap cf S a b c mid l k2) := by
                       rw [HY.out] at hk2 hu2
                       have h1 := cut_right HC.out.ord hk2.good hdb (by rw [hk2.len, HQ1.out.st.len]; omega) hmid hmid' hca HQ1.out.rest HQ1.out.edge HCT.out hk2.mix hu2
                       exact ⟨HQ1.out.st.call (by omega) (by omega) hk2, h1.1, h1.2, hca, by omega⟩
                     clear hcall hk2 hu2 HQ1 HCT
                     go_wp2_with fail
                     go_roundw
                     case rel => exact ⟨c, mid, lim, _, t1, k2, rfl, rfl, rfl, rfl, rfl, by omega, by omega, hlim, HQ2⟩
                     case measure => simp [intOf]; omega
theorem pdq (B g cap : Nat) (lv : Value) (cf : Int → Int → Int) (S : Int → Prop) : ∀ N, Sorts B g cap lv cf S N := by
 intro N
 induction N with
 | zero => intro a b lim l w hN; omega
 | succ N ih => exact pdq_step B g cap lv cf S N ih
set_option maxHeartbeats 3200000 in
theorem sortFunc (B g cap : Nat) (lv : Value) (cf : Int → Int → Int) (S : Int → Prop) (l : List Int) (w : World) (hc : Ctx w g lv cf S) (h : Memb.Own B w (some ⟨g, 0, none⟩) cap l) (hg : Good S l) (hl : l.length ≤ 1048576) :
   Calls Tryz.prog 151 #[.slice (some ⟨g, 0, none⟩) l.length cap, .func (.func 124) #[lv] #[]] w fun e w' => e = .returned (.tuple #[]) ∧ ∃ m, St w w' B g cap S 0 l.length l m ∧ Up cf 0 l.length m := by
 have HL := Tryz.bits_Len (l.length : Int) w (by omega) (by omega)
 rw [Int.toNat_natCast] at HL
 have hle : Lib.bitLen l.length ≤ 21 := Lib.bitLen_le l.length 21 (by omega) (by omega)
 generalize Lib.bitLen l.length = k at HL hle
 have hcall := pdq B g cap lv cf S (l.length + 1) 0 l.length k l w (by omega) hc h hg (.inl rfl) (by omega) (Nat.le_refl _) hl (by omega)
 clear hc h hg
 go_enter Tryz.func151, Tryz.ntmps151
 go_wp2_with fail
 refine HL.mono ?_
 rintro e w' ⟨rfl, rfl⟩
 go_wp2_with fail
 refine hcall.mono ?_
 rintro e w1 ⟨rfl, m, hm, hu⟩
 have HM : Hid (St w' w1 B g cap S 0 l.length l m) := hm
 have HU : Hid (Up cf 0 l.length m) := hu
 clear hm hu hcall HL
 go_wp2
 go_end0
 exact ⟨rfl, m, HM.out, HU.out⟩
end So
end Go.Proofs.YtflhaiakhfmmmaaGreat
