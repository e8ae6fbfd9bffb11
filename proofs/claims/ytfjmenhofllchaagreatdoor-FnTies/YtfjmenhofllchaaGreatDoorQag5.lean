/-
 What the model's cursor over the bytes of a draw does: it answers a number below the bound, and writes into its own cells alone; for codes of at most 4096 bytes.
-/
import Derived.Test.YtfjmenhofllchaaGreatDoorQag4
namespace Go.Proofs.YtfjmenhofllchaaGreatDoor
open Go.RowKit
set_option maxRecDepth 100000
namespace Db
open Kn (K okK)
open Bit (bit withB)
open Lc (at' RdK)
def pairB (L : List K) (l : List Int) (a b : Nat) : Bool := decide ((at' L a).hand = (at' L b).hand) && !bit (l.getD a 0) b
def dblB (L : List K) (l : List Int) (i j : Nat) : Bool := if j < i then pairB L l i j else if i < j then pairB L l j i else false
def doneB (a b i j : Nat) : Bool := (decide (i < a) && decide (j < a)) || ((decide (i = a) && decide (j < b)) || (decide (j = a) && decide (i < b)))
structure RowI (w : World) (g n : Nat) (D : Nat → Int) : Prop where
 lt : g < w.heap.size
 rd : ∀ i, i < n → w.cell? ⟨g, i, none⟩ = some (.int .i64 (D i))
 fr : ∀ i, i < n → w.frozen? ⟨g, i, none⟩ = false
theorem RowI.put {w : World} {g n : Nat} {D : Nat → Int} (h : RowI w g n D) (m : Nat) (hm : m < n) (x : Int) : RowI (w.setCell ⟨g, m, none⟩ (.int .i64 x)) g n (fun i => if i = m then x else D i) where
 lt := by simpa using h.lt
 rd := fun i hi => by
   by_cases e : i = m
   · subst e; simpa using World.cell?_setCell_same _ _ _ (h.rd i hi)
   · rw [if_neg e]; exact (World.cell?_setCell_other _ _ _ _ (by intro q; injection q with _ q; exact e q.symm)).trans (h.rd i hi)
 fr := fun i hi => by simpa using h.fr i hi
theorem RowI.drew {w : World} {g n : Nat} {D : Nat → Int} (h : RowI w g n D) : RowI w.drew g n D := ⟨h.lt, h.rd, h.fr⟩
theorem RowI.drewN {w : World} {g n : Nat} {D : Nat → Int} (h : RowI w g n D) (k : Nat) : RowI (w.drewN k) g n D := ⟨h.lt, h.rd, h.fr⟩
def Dbl (L : List K) (l : List Int) (a b : Nat) (D : Nat → Int) : Prop := ∀ i, i < L.length → (0 ≤ D i ∧ D i < 1152921504606846976) ∧ ∀ j, bit (D i) j = (dblB L l i j && doneB a b i j)
theorem dbl_zero (L : List K) (l : List Int) : Dbl L l 0 0 (fun _ => 0) := fun i _ => ⟨⟨Int.le_refl 0, show (0 : Int) < 1152921504606846976 by decide⟩, fun j => by show bit 0 j = _; rw [Lc.bit_zero]; simp [doneB]⟩
theorem dbl_next (L : List K) (l : List Int) (a : Nat) (D : Nat → Int) (h : Dbl L l a a D) : Dbl L l (a + 1) 0 D := by
 intro i hi
 refine ⟨(h i hi).1, fun j => ?_⟩
 rw [(h i hi).2 j]
 by_cases he : i = j
 · subst he; simp [dblB]
 · have : doneB a a i j = doneB (a + 1) 0 i j := by
     unfold doneB
     rw [Bool.eq_iff_iff]; simp; omega
   rw [this]
theorem dbl_skip (L : List K) (l : List Int) (a b : Nat) (D : Nat → Int) (hab : b < a) (hp : pairB L l a b = false) (h : Dbl L l a b D) : Dbl L l a (b + 1) D := by
 intro i hi
 refine ⟨(h i hi).1, fun j => ?_⟩
 rw [(h i hi).2 j]
 by_cases hc : (i = a ∧ j = b) ∨ (i = b ∧ j = a)
 · have : dblB L l i j = false := by
     unfold dblB
     rcases hc with ⟨rfl, rfl⟩ | ⟨rfl, rfl⟩
     · rw [if_pos hab]; exact hp
     · rw [if_neg (by omega), if_pos hab]; exact hp
   rw [this]; rfl
 · have : doneB a b i j = doneB a (b + 1) i j := by
     unfold doneB
     rw [Bool.eq_iff_iff]; simp; omega
   rw [this]
def putD (D : Nat → Int) (a b i : Nat) : Int := if i = b then withB (if b = a then withB (D a) b else D b) a else if i = a then withB (D a) b else D i
theorem dbl_put (L : List K) (l : List Int) (a b : Nat) (D : Nat → Int) (hab : b < a) (ha : a < 60) (hp : pairB L l a b = true) (h : Dbl L l a b D) : Dbl L l a (b + 1) (putD D a b) := by
 intro i hi
 unfold putD
 by_cases h1 : i = b
 · subst h1
   have hd := h i hi
   simp only [if_true]
   rw [if_neg (show ¬ i = a by omega)]
   refine ⟨Bit.withB_bd _ hd.1.1 hd.1.2 a ha, fun j => ?_⟩
   rw [Bit.bit_withB _ hd.1.1, hd.2 j]
   by_cases hj : j = a
   · subst hj
     have e1 : dblB L l i j = true := by unfold dblB; rw [if_neg (by omega), if_pos hab]; exact hp
     have e2 : doneB j (i + 1) i j = true := by unfold doneB; simp
     rw [e1, e2]; simp
   · have : doneB a i i j = doneB a (i + 1) i j := by
       unfold doneB; rw [Bool.eq_iff_iff]; simp; omega
     rw [this]; simp [hj]
 · by_cases h2 : i = a
   · subst h2
     have hd := h i hi
     rw [if_neg h1]
     simp only [if_true]
     refine ⟨Bit.withB_bd _ hd.1.1 hd.1.2 b (by omega), fun j => ?_⟩
     rw [Bit.bit_withB _ hd.1.1, hd.2 j]
     by_cases hj : j = b
     · subst hj
       have e1 : dblB L l i j = true := by unfold dblB; rw [if_pos hab]; exact hp
       have e2 : doneB i (j + 1) i j = true := by unfold doneB; simp
       rw [e1, e2]; simp
     · have : doneB i b i j = doneB i (b + 1) i j := by
         unfold doneB; rw [Bool.eq_iff_iff]; simp; omega
       rw [this]; simp [hj]
   · have hd := h i hi
     rw [if_neg h1, if_neg h2]
     refine ⟨hd.1, fun j => ?_⟩
     rw [hd.2 j]
     have : doneB a b i j = doneB a (b + 1) i j := by
       unfold doneB; rw [Bool.eq_iff_iff]; simp; omega
     rw [this]
theorem rowI_made (w : World) (t : TypeId) (n : Nat) : RowI (w.alloc (.cells (madeCells #[.int .i64 0] n) t)) w.heap.size n (fun _ => 0) where
 lt := by simp
 rd := fun i hi => by
   rw [World.cell?_alloc_new]
   have : i < (madeCells #[Value.int .i64 0] n).size := by rw [size_madeCells]; exact hi
   rw [Array.getElem?_eq_getElem this]
   simp [madeCells, Nat.mod_one]
 fr := fun i hi => by simp
theorem has_call (f : Int) (i : Nat) (b : Bool) (h0 : 0 ≤ f) (h1 : f < 1152921504606846976) (hi : i ≤ 60) (hb : bit f i = b) (W : World) : Calls Tryz.prog 48 #[.int .i64 f, .int .i64 (i : Int)] W fun e w' => e = .returned (.bool b) ∧ w' = W := by
 refine (Base.l1Has f (i : Int) W h0 h1 (by omega) (by omega)).mono ?_
 rintro e w' ⟨rfl, rfl⟩
 exact ⟨by rw [Int.toNat_natCast, hb], rfl⟩
def DblPost (L : List K) (l : List Int) (w : World) (e : Ending) (w' : World) : Prop := ∃ D, e = .returned (.slice (some ⟨w.heap.size, 0, none⟩) L.length L.length) ∧ RowI w' w.heap.size L.length D ∧ Dbl L l L.length 0 D ∧ Below w.heap.size w w'
theorem below_drewN {b : Nat} {a w : World} (h : Below b a w) (n : Nat) : Below b a (w.drewN n) := ⟨h.os, h.tape, h.output, h.size, h.block⟩
set_option maxHeartbeats 6400000 in
theorem l5All (ao : Option Addr) (cap : Nat) (L : List K) (bo : Option Addr) (bc : Nat) (l : List Int) (w : World) (hL : L.length ≤ 60) (hll : l.length = L.length) (hin : Sg.Within l) (hr : RdK w ao L) (hrd : Lst.Rd w bo l) (hbo : ∀ g, bo = some ⟨g, 0, none⟩ → g < w.heap.size) :
   Calls Tryz.prog 78 #[.slice ao L.length cap, .slice bo l.length bc] w (DblPost L l w) := by
 have hmk : ∀ W : World, (Instr.makeSlice 51 (.int .i64 (L.length : Int)) (.int .i64 (L.length : Int))).run Tryz.prog W = .ok (.slice (some ⟨W.heap.size, 0, none⟩) L.length L.length) (W.alloc (.cells (madeCells #[.int .i64 0] L.length) 2)) :=
   fun W => run_make_row' (P := Tryz.prog) 51 2 (.int .i64 0) 8 Tryz.underlying51 Memb.info2 rfl .i64 .i64 L.length (by omega) (by omega) W
 have HP : Hid (RowI (w.alloc (.cells (madeCells #[.int .i64 0] L.length) 2)) w.heap.size L.length (fun _ => 0) ∧ Below w.heap.size w (w.alloc (.cells (madeCells #[.int .i64 0] L.length) 2))) := ⟨rowI_made _ _ _, (Below.refl _ _).alloc (Nat.le_refl _) _⟩
 generalize madeCells #[Value.int .i64 0] L.length = mc at hmk HP
 have HLL : Hid (l.length = L.length) := hll
 have hl60 : l.length ≤ 60 := by omega
 clear hll
 go_enter Tryz.func78, Tryz.ntmps78
 go_wp2
 clear hmk
 go_loopw [6] (fun i wr => ∃ (a : Nat) (D : Nat → Int), a ≤ L.length ∧ i = .int .i64 a ∧ Hid (RowI wr w.heap.size L.length D) ∧ Hid (Dbl L l a 0 D) ∧ Hid (Below w.heap.size w wr)) (fun i _ => L.length - (intOf i).toNat)
 case atStart => exact ⟨0, _, by omega, rfl, HP.out.1, dbl_zero L l, HP.out.2⟩
 case round =>
   obtain ⟨a, D0, ha, rfl, HR, HD, HB⟩ := hrel
   by_cases hlt : a < L.length
   · have hal : a < l.length := by rw [HLL.out]; exact hlt
     have hali : (a : Int) < (l.length : Int) := by omega
     go_wp2
     go_loopw [7] (fun i wr => ∃ (b : Nat) (D : Nat → Int), b ≤ a ∧ i = .int .i64 b ∧ Hid (RowI wr w.heap.size L.length D) ∧ Hid (Dbl L l a b D) ∧ Hid (Below w.heap.size w wr)) (fun i _ => a - (intOf i).toNat)
     case atStart => exact ⟨0, D0, by omega, rfl, HR, HD, HB⟩
     case round =>
       obtain ⟨b, D, hb, rfl, HR, HD, HB⟩ := hrel
       by_cases hba : b < a
       · obtain ⟨g, off, hao, hg, hca⟩ := (hr.below HB.out).at a hlt
         obtain ⟨g', off', hao', _, hcb⟩ := (hr.below HB.out).at b (by omega)
         subst hao
         injection hao' with hao'
         injection hao' with q1 q2
         subst q1 q2
         obtain ⟨a0, _, _, _⟩ := hca
         obtain ⟨b0, _, _, _⟩ := hcb
         have hya := Sg.within_get hin a
         rcases hrd with hrd | ⟨bb, rfl, hcell⟩
         · rw [hrd] at hal; simp at hal
         have cy := (HB.out.cell (p := ⟨bb, a, none⟩) (hbo bb rfl)).trans (hcell a hal)
         have HPB : Hid (pairB L l a b = (decide ((at' L a).hand = (at' L b).hand) && !bit (l.getD a 0) b)) := rfl
         clear hcell hbo
         generalize l.getD a 0 = y at cy hya HPB
         by_cases hq : (at' L a).hand = (at' L b).hand
         · have hq1 : ((at' L a).hand == (at' L b).hand) = true := by simpa using hq
           cases hbit : bit y b
           · have hp : pairB L l a b = true := by rw [HPB.out, hbit]; simp [hq]
             have hcall := has_call y b false hya.1 hya.2 (by omega) hbit
             have HD2 : Hid (Dbl L l a (b + 1) (putD D a b)) := dbl_put L l a b D hba (by omega) hp HD.out
             have hda := (HD.out a hlt).1
             have hdb := (HD.out b (by omega)).1
             clear hbit HPB hq hp
             go_wp2_with fail
             go_quiet (first | (go_at_call 48; exact (hcall _).mono fun _ _ h => ⟨h.1, _, h.2⟩))
             go_wp2_with fail
             have R1 := HR.out.drewN nq
             have HB1 : Hid (Below w.heap.size w (wr.drewN nq)) := below_drewN HB.out nq
             clear a0 b0 cy HR HB
             generalize wr.drewN nq = V at R1 HB1 ⊢
             have e1 := R1.rd a hlt
             have f1 := R1.fr a hlt
             have HO1 : Hid (bits .or .i64 (D a) (2 ^ b) = withB (D a) b) := Base.shl_or _ b hda.1 hda.2 (by omega)
             have HR2 : Hid (RowI (V.setCell ⟨w.heap.size, a, none⟩ (.int .i64 (withB (D a) b))) w.heap.size L.length (fun i => if i = a then withB (D a) b else D i)) := R1.put a hlt _
             have HB2 : Hid (Below w.heap.size w (V.setCell ⟨w.heap.size, a, none⟩ (.int .i64 (withB (D a) b)))) := HB1.out.setCell (p := ⟨w.heap.size, a, none⟩) (Nat.le_refl _) _
             clear R1 HB1
             go_region_with (go_at_call 50; refine (Base.l1Bit _ _ (by omega) (by omega)).mono ?_; rintro e w' ⟨rfl, rfl⟩; rw [Int.toNat_natCast])
             all_goals
               rw [HO1.out]
               go_wp2_with fail
               have R3 := HR2.out.drew
               have HB3 : Hid (Below w.heap.size w (V.setCell ⟨w.heap.size, a, none⟩ (.int .i64 (withB (D a) b))).drew) := HB2.out.drew
               clear e1 f1 HR2 HB2
               generalize (V.setCell ⟨w.heap.size, a, none⟩ (.int .i64 (withB (D a) b))).drew = V3 at R3 HB3 ⊢
               have e3 := R3.rd b (by omega)
               have f3 := R3.fr b (by omega)
               have hne : ¬ b = a := by omega
               rw [if_neg hne] at e3
               have HO3 : Hid (bits .or .i64 (D b) (2 ^ a) = withB (D b) a) := Base.shl_or _ a hdb.1 hdb.2 (by omega)
               have HR4 : Hid (RowI (V3.setCell ⟨w.heap.size, b, none⟩ (.int .i64 (withB (D b) a))) w.heap.size L.length (putD D a b)) := by
                 have := R3.put b (by omega) (withB (D b) a)
                 have e : (fun i => if i = b then withB (D b) a else if i = a then withB (D a) b else D i) = putD D a b := by
                   funext i; unfold putD; rw [if_neg hne]
                 rw [← e]; exact this
               have HB4 : Hid (Below w.heap.size w (V3.setCell ⟨w.heap.size, b, none⟩ (.int .i64 (withB (D b) a)))) := HB3.out.setCell (p := ⟨w.heap.size, b, none⟩) (Nat.le_refl _) _
               clear R3 HB3 hne
               go_region_with (go_at_call 50; refine (Base.l1Bit _ _ (by omega) (by omega)).mono ?_; rintro e w' ⟨rfl, rfl⟩; rw [Int.toNat_natCast])
               all_goals
                 rw [HO3.out]
                 go_wp2
                 go_roundw
                 case rel => exact ⟨b + 1, putD D a b, by omega, by go_num, HR4.out.drew, HD2, HB4.out.drew⟩
                 case measure => simp [intOf]; omega
           · have hp : pairB L l a b = false := by rw [HPB.out, hbit]; simp
             have hcall := has_call y b true hya.1 hya.2 (by omega) hbit
             have HD2 : Hid (Dbl L l a (b + 1) D) := dbl_skip L l a b D hba hp HD.out
             clear hbit HPB hq hp
             go_wp2_with fail
             go_quiet (first | (go_at_call 48; exact (hcall _).mono fun _ _ h => ⟨h.1, _, h.2⟩))
             go_wp2
             go_roundw
             case rel => exact ⟨b + 1, D, by omega, by go_num, HR.out.drewN nq, HD2, below_drewN HB.out nq⟩
             case measure => simp [intOf]; omega
         · have hq1 : ((at' L a).hand == (at' L b).hand) = false := by simpa using hq
           have hp : pairB L l a b = false := by rw [HPB.out]; simp [hq]
           have HD2 : Hid (Dbl L l a (b + 1) D) := dbl_skip L l a b D hba hp HD.out
           clear HPB hq hp
           go_wp2_with fail
           go_quiet (fail)
           go_wp2
           go_roundw
           case rel => exact ⟨b + 1, D, by omega, by go_num, HR.out.drewN nq, HD2, below_drewN HB.out nq⟩
           case measure => simp [intOf]; omega
       · obtain rfl : b = a := by omega
         have HD2 : Hid (Dbl L l (b + 1) 0 D) := dbl_next L l b D HD.out
         go_wp2
         go_roundw
         case rel => exact ⟨b + 1, D, by omega, by go_num, HR, HD2, HB⟩
         case measure => simp [intOf]; omega
   · obtain rfl : a = L.length := by omega
     go_wp2
     go_ret
     exact ⟨D0, rfl, HR.out, HD.out, HB.out⟩
end Db
namespace Rm
open Kn (K okK in3)
open Lc (at' RdK laceB takesB flat OwnK CellsK cellsOf)
theorem last_nil (who : Int) (w : World) : Calls Tryz.prog 91 #[.slice none 0 0, .int .i64 who, .int .i64 0] w fun e w' => e = .returned (.int .i64 (-1)) ∧ ∃ n, w' = w.drewN n :=
 l13Last none 0 [] who 0 w (by simp) (.inl rfl) (by omega) (by omega)
theorem closed_nil (bo : Option Addr) (bc : Nat) (w : World) : Calls Tryz.prog 94 #[.slice bo 0 bc, .int .i64 0] w fun e w' => e = .returned (.bool true) ∧ w' = w :=
 (Sg.l4Closed bo bc [] 0 w (by simp) (by omega) (by omega) (.inl rfl)).mono fun _ _ h => ⟨h.1, h.2.symm⟩
set_option maxHeartbeats 1600000 in
theorem l13OkNew (bo : Option Addr) (bc : Nat) (i : Nat) (hi : i < 4) (w : World) : Calls Tryz.prog 49 #[.slice none 0 0, .slice bo 0 bc, .agg #[.int .i64 (i : Int), .int .i64 0, .int .i64 0, .int .i64 (-1)]] w fun e w' => e = .returned (.bool true) ∧ Below w.heap.size w w' := by
 have P0 : Hid (Below w.heap.size w (w.alloc (.cells #[.int .i64 (i : Int), .int .i64 0, .int .i64 0, .int .i64 (-1)] 26)) ∧ HAt (w.alloc (.cells #[.int .i64 (i : Int), .int .i64 0, .int .i64 0, .int .i64 (-1)] 26)) w.heap.size 0 ⟨(i : Int), 0, 0, -1⟩) := ⟨(Below.refl _ _).alloc (Nat.le_refl _) _, hat_new w ⟨(i : Int), 0, 0, -1⟩ _⟩
 have hcall := in3_call (i : Int) true ((in3_iff _).2 ⟨by omega, by omega⟩)
 have hz : bits .andNot .i64 0 0 = 0 := by decide
 go_enter Tryz.func49, Tryz.ntmps49
 go_wp2_with (first
   | (go_at_call 47; refine (hcall _).mono ?_; rintro e w' ⟨rfl, rfl⟩)
   | (go_at_call 91; refine (last_nil _ _).mono ?_; rintro e w' ⟨rfl, n, rfl⟩)
   | fail)
 generalize w.alloc (.cells #[.int .i64 (i : Int), .int .i64 0, .int .i64 0, .int .i64 (-1)] 26) = W at P0 ⊢
 generalize hN : W.drewN _ = W1
 have P1 : Hid (Below w.heap.size w W1 ∧ HAt W1 w.heap.size 0 ⟨(i : Int), 0, 0, -1⟩) := hN ▸ ⟨Lc.below_drewN' P0.out.1 _, hat_drewN P0.out.2 _⟩
 clear hN P0
 obtain ⟨_, a0, a1, a2, a3, _, _, _, _⟩ := P1.out.2
 simp only [Nat.zero_add] at a1 a2 a3
 go_quiet (first
   | (go_at_call 94; exact (closed_nil _ _ _).mono fun _ _ h => ⟨h.1, _, h.2⟩)
   | (go_at_call 91; exact (last_nil _ _).mono fun _ _ h => ⟨h.1, h.2.elim fun _ hm => ⟨_, hm.trans (World.drewN_drewN ..)⟩⟩))
 go_wp2
 go_ret
 exact ⟨rfl, Lc.below_drewN' P1.out.1 _⟩
def newH (i : Nat) : Hd := ⟨(i : Int), 0, 0, -1⟩
theorem bad_call (x : Int) (h0 : -1 ≤ x) (h1 : x ≤ 3) (V : World) : Calls Tryz.prog 47 #[.int .i64 x, .int .i64 (-1), .int .i64 3] V fun e w' => e = .returned (.bool true) ∧ w' = V := by
 refine (Base.l1In x (-1) 3 V).mono ?_
 rintro e w' ⟨rfl, rfl⟩
 exact ⟨by rw [decide_eq_true h0, decide_eq_true h1]; rfl, rfl⟩
set_option maxHeartbeats 3200000 in
theorem roomOkNew (co : Option Addr) (cc : Nat) (l : List Int) (gh hc : Nat) (bad : Int) (w : World) (hl : coinsB l = true) (hl6 : l.length ≤ 6) (hrd : Lst.Rd w co l) (hco : ∀ g, co = some ⟨g, 0, none⟩ → g < w.heap.size) (hh : ∀ i, i < 4 → HAt w gh (i * 4) (newH i)) (hb0 : -1 ≤ bad) (hb1 : bad ≤ 3) :
   Calls Tryz.prog 153 #[.agg #[.slice none 0 0, .slice co l.length cc, .slice (some ⟨gh, 0, none⟩) 4 hc, .int .i64 bad]] w fun e w' => e = .returned (.bool true) ∧ Below w.heap.size w w' := by
 have P0 : Hid (Below w.heap.size w (w.alloc (.cells #[.slice none 0 0, .slice co l.length cc, .slice (some ⟨gh, 0, none⟩) 4 hc, .int .i64 bad] 107)) ∧ (w.alloc (.cells #[.slice none 0 0, .slice co l.length cc, .slice (some ⟨gh, 0, none⟩) 4 hc, .int .i64 bad] 107)).cell? ⟨w.heap.size, 0, none⟩ = some (.slice none 0 0) ∧ (w.alloc (.cells #[.slice none 0 0, .slice co l.length cc, .slice (some ⟨gh, 0, none⟩) 4 hc, .int .i64 bad] 107)).cell? ⟨w.heap.size, 1, none⟩ = some (.slice co l.length cc) ∧ (w.alloc (.cells #[.slice none 0 0, .slice co l.length cc, .slice (some ⟨gh, 0, none⟩) 4 hc, .int .i64 bad] 107)).cell? ⟨w.heap.size, 2, none⟩ = some (.slice (some ⟨gh, 0, none⟩) 4 hc) ∧ (w.alloc (.cells #[.slice none 0 0, .slice co l.length cc, .slice (some ⟨gh, 0, none⟩) 4 hc, .int .i64 bad] 107)).cell? ⟨w.heap.size, 3, none⟩ = some (.int .i64 bad) ∧ w.heap.size < (w.alloc (.cells #[.slice none 0 0, .slice co l.length cc, .slice (some ⟨gh, 0, none⟩) 4 hc, .int .i64 bad] 107)).heap.size) :=
   ⟨(Below.refl _ _).alloc (Nat.le_refl _) _, by simp, by simp, by simp, by simp, by simp⟩
 have HCO : Hid (∀ V : World, Below w.heap.size w V → Calls Tryz.prog 157 #[.slice co l.length cc] V fun e w' => e = .returned (.bool true) ∧ V = w') := by
   intro V hV
   have hrd' : Lst.Rd V co l := by
     rcases hrd with h | ⟨g, hg, hc⟩
     · exact .inl h
     · exact .inr ⟨g, hg, fun j hj => (hV.cell (p := ⟨g, j, none⟩) (hco g hg)).trans (hc j hj)⟩
   have := specCoinsOk co cc l V (by omega) hrd'
   rwa [hl] at this
 have hcb := bad_call bad hb0 hb1
 have HHH : Hid (∀ V : World, Below w.heap.size w V → ∀ i, i < 4 → HAt V gh (i * 4) (newH i)) := fun V hV i hi => hat_below (hh i hi) hV
 have hgl : gh < w.heap.size := (hh 0 (by omega)).lt
 clear hl hrd hco hh hb0 hb1
 go_enter Tryz.func153, Tryz.ntmps153
 go_wp2_with fail
 generalize w.alloc (.cells #[.slice none 0 0, .slice co l.length cc, .slice (some ⟨gh, 0, none⟩) 4 hc, .int .i64 bad] 107) = W at P0 ⊢
 obtain ⟨hB, c0, c1, c2, c3, hlt⟩ := P0
 have HB : Hid (Below w.heap.size w W) := hB
 clear hB
 refine (laceOkN _).mono ?_
 rintro e w1 ⟨rfl, rfl⟩
 go_wp2_with fail
 refine (HCO.out _ HB.out).mono ?_
 rintro e w1 ⟨rfl, rfl⟩
 go_wp2_with (go_at_call 47; refine (hcb _).mono ?_; rintro e w' ⟨rfl, rfl⟩)
 refine (Sg.l4All none 0 [] _ (by simp) (fun _ h => by cases h) (.inl rfl)).mono ?_
 rintro e w2 ⟨bo, bc, rfl, hown, hb2⟩
 have hrd2 := Lst.own_rd hown
 have hbo : ∀ g, bo = some ⟨g, 0, none⟩ → g < w2.heap.size := fun g hg => (World.ownsRow.lt hown g (by rw [hg]; rfl)).2
 have c0' := (hb2.cell (p := ⟨w.heap.size, 0, none⟩) hlt).trans c0
 clear hown
 go_wp2_with fail
 refine (Db.l5All none 0 [] bo bc [] _ (by simp) rfl (fun _ h => by cases h) (.inl rfl) hrd2 hbo).mono ?_
 rintro e w3 ⟨D, rfl, _, _, hb3⟩
 have hb23 := hb2.trans (hb3.mono hb2.size)
 have HB3 : Hid (Below w.heap.size w w3) := HB.out.trans (hb23.mono HB.out.size)
 have hlt3 : w.heap.size < w3.heap.size := Nat.lt_of_lt_of_le hlt hb23.size
 have d0 := (hb23.cell (p := ⟨w.heap.size, 0, none⟩) hlt).trans c0
 have d2 := (hb23.cell (p := ⟨w.heap.size, 2, none⟩) hlt).trans c2
 clear hb2 hb3 hb23 c0 c1 c2 c3 c0' hrd2 hbo HB hcb HCO
 go_wp2_with fail
 go_loopw [5] (fun i wr => ∃ j : Nat, j ≤ 4 ∧ i = .int .i64 j ∧ Hid (Below w3.heap.size w3 wr)) (fun i _ => 4 - (intOf i).toNat)
 case atStart => exact ⟨0, by omega, rfl, Below.refl _ _⟩
 case round =>
   obtain ⟨j, hj, rfl, HBr⟩ := hrel
   by_cases hj4 : j < 4
   · have hj4' : (j : Int) < 4 := by omega
     have HBw : Hid (Below w.heap.size w wr) := HB3.out.trans (HBr.out.mono HB3.out.size)
     have hltr : w.heap.size < wr.heap.size := Nat.lt_of_lt_of_le hlt3 HBr.out.size
     have hglr : gh < wr.heap.size := Nat.lt_of_lt_of_le hgl HBw.out.size
     obtain ⟨_, x0, x1, x2, x3, _, _, _, _⟩ := HHH.out wr HBw.out j hj4
     have hnn : ((j : Int) != (j : Int)) = false := by simp
     go_wp2_with fail
     obtain ⟨X, _, F, HF, HG⟩ := Fam.fam wr
     have e0 : ∀ z, (F z).cell? ⟨w.heap.size, 0, none⟩ = some (.slice none 0 0) := fun z => ((HBr.out.trans ((HF.out z).mono HBr.out.size)).cell (p := ⟨w.heap.size, 0, none⟩) hlt3).trans d0
     have e2 : ∀ z, (F z).cell? ⟨w.heap.size, 2, none⟩ = some (.slice (some ⟨gh, 0, none⟩) 4 hc) := fun z => ((HBr.out.trans ((HF.out z).mono HBr.out.size)).cell (p := ⟨w.heap.size, 2, none⟩) hlt3).trans d2
     have y0 : ∀ z, (F z).cell? ⟨gh, j * 4, none⟩ = some (.int .i64 (j : Int)) := fun z => ((HF.out z).cell (p := ⟨gh, j * 4, none⟩) hglr).trans x0
     have y1 : ∀ z, (F z).cell? ⟨gh, j * 4 + 1, none⟩ = some (.int .i64 0) := fun z => ((HF.out z).cell (p := ⟨gh, j * 4 + 1, none⟩) hglr).trans x1
     have y2 : ∀ z, (F z).cell? ⟨gh, j * 4 + 2, none⟩ = some (.int .i64 0) := fun z => ((HF.out z).cell (p := ⟨gh, j * 4 + 2, none⟩) hglr).trans x2
     have y3 : ∀ z, (F z).cell? ⟨gh, j * 4 + 3, none⟩ = some (.int .i64 (-1)) := fun z => ((HF.out z).cell (p := ⟨gh, j * 4 + 3, none⟩) hglr).trans x3
     have HOK : Hid (∀ V : World, Calls Tryz.prog 49 #[.slice none 0 0, .slice bo 0 bc, .agg #[.int .i64 (j : Int), .int .i64 0, .int .i64 0, .int .i64 (-1)]] V fun e w' => e = .returned (.bool true) ∧ Below V.heap.size V w') := fun V => l13OkNew bo bc j hj4 V
     clear x0 x1 x2 x3 d0 d2
     refine Fam.region (F := F) (by kernel_rfl) (by kernel_rfl) (HG.out _ (Below.refl _ wr).drew) ?_
     repeat (go_big_quiet_step (first
       | (go_at_call 49; exact (HOK.out _).mono fun _ _ h => ⟨h.1, HG.out _ ((HF.out _).trans (h.2.mono (HF.out _).size))⟩)))
     refine wpQuiet_nil ?_
     intro w4 hw4
     obtain ⟨z, rfl⟩ := hw4
     have HBz : Hid (Below w3.heap.size w3 (F z)) := HBr.out.trans ((HF.out z).mono HBr.out.size)
     clear e0 e2 y0 y1 y2 y3
     go_wp2
     go_roundw
     case rel => exact ⟨j + 1, by omega, by go_num, HBz⟩
     case measure => simp [intOf]; omega
   · obtain rfl : j = 4 := by omega
     have HBw : Hid (Below w.heap.size w wr) := HB3.out.trans (HBr.out.mono HB3.out.size)
     have e0 := (HBr.out.cell (p := ⟨w.heap.size, 0, none⟩) hlt3).trans d0
     have h44 : ¬ ((4 : Nat) : Int) < 4 := by omega
     clear d0 d2
     go_wp2
     go_loopw [6] (fun i w5 => i = .int .i64 0 ∧ w5 = wr) (fun _ _ => 0)
     case atStart => exact ⟨rfl, rfl⟩
     case round =>
       obtain ⟨rfl, rfl⟩ := hrel
       go_wp2
       go_ret
       exact ⟨rfl, HBw.out⟩
end Rm
namespace Rm
open Kn (K okK in3)
open Lc (at' RdK laceB takesB flat OwnK CellsK cellsOf)
/-! ### hands in a row -/
def hcells (h : Hd) : List Value := [.int .i64 h.who, .int .i64 h.has, .int .i64 h.kept, .int .i64 h.last]
def flatH (hs : Nat → Hd) (n : Nat) : List Value := (List.range n).flatMap fun i => hcells (hs i)
theorem flatH_succ (hs : Nat → Hd) (n : Nat) : flatH hs (n + 1) = flatH hs n ++ hcells (hs n) := by unfold flatH; rw [List.range_succ]; simp
theorem flatH_len (hs : Nat → Hd) (n : Nat) : (flatH hs n).length = n * 4 := by
 induction n with
 | zero => rfl
 | succ n ih => rw [flatH_succ, List.length_append, ih]; simp [hcells]; omega
theorem flatH_at (hs : Nat → Hd) (n i c : Nat) (hi : i < n) (hc : c < 4) : (flatH hs n)[i * 4 + c]? = (hcells (hs i))[c]? := by
 induction n with
 | zero => omega
 | succ n ih =>
   rw [flatH_succ]
   have hl := flatH_len hs n
   by_cases e : i = n
   · subst e
     rw [List.getElem?_append_right (by omega), hl]
     congr 1; omega
   · rw [List.getElem?_append_left (by omega)]
     exact ih (by omega)
theorem hcells_one (h : Hd) : ∀ u ∈ hcells h, u.oneCell' = true := by
 intro u hu
 simp [hcells] at hu
 rcases hu with rfl | rfl | rfl | rfl <;> rfl
theorem flatH_one (hs : Nat → Hd) (n : Nat) : ∀ u ∈ flatH hs n, u.oneCell' = true := by
 intro u hu
 unfold flatH at hu
 rw [List.mem_flatMap] at hu
 obtain ⟨i, _, hi⟩ := hu
 exact hcells_one _ u hi
theorem own_hands {w : World} {B g n cap : Nat} {t : TypeId} {hs : Nat → Hd} (h : w.ownsRow B t 4 (.slice (some ⟨g, 0, none⟩) n cap) n (flatH hs n)) (i : Nat) (hi : i < n) : HAt w g (i * 4) (hs i) := by
 have hlt := World.ownsRow.lt h g rfl
 have hc : ∀ c, c < 4 → w.cell? ⟨g, i * 4 + c, none⟩ = (hcells (hs i))[c]? := fun c hc => by
   rw [World.ownsRow.cellAt h (i * 4 + c) (by omega)]; exact flatH_at hs n i c hi hc
 have hf : ∀ c, w.frozen? ⟨g, i * 4 + c, none⟩ = false := fun c => World.ownsRow.frozenAt h (i * 4 + c)
 exact ⟨hlt.2, hc 0 (by omega), hc 1 (by omega), hc 2 (by omega), hc 3 (by omega), hf 0, hf 1, hf 2, hf 3⟩
theorem infoH : (Tryz.prog.info? 26).map (fun i => (i.zero, i.size, i.bytes)) = some (some (.agg #[.int .i64 0, .int .i64 0, .int .i64 0, .int .i64 0]), 4, 32) := by kernel_rfl
theorem new_hcells (W : World) (h : Hd) (t : TypeId) : ∀ (j : Nat) u, (hcells h)[j]? = some u → (W.alloc (.cells #[.int .i64 h.who, .int .i64 h.has, .int .i64 h.kept, .int .i64 h.last] t)).cell? ((⟨W.heap.size, 0, none⟩ : Addr).add j) = some u := by
 intro q u hq
 match q, hq with
 | 0, hq => simp [hcells] at hq; subst hq; simp [Addr.add]
 | 1, hq => simp [hcells] at hq; subst hq; simp [Addr.add]
 | 2, hq => simp [hcells] at hq; subst hq; simp [Addr.add]
 | 3, hq => simp [hcells] at hq; subst hq; simp [Addr.add]
/-! ### a room by value -/
def roV (R : Ro) : Value := .agg #[R.lv, R.cv, .slice (some ⟨R.gh, 0, none⟩) 4 R.hc, .int .i64 R.bad]
def CoinsAt (w : World) (v : Value) : Prop := ∃ ao cap l, v = .slice ao l.length cap ∧ (ao = none → l = [] ∧ cap = 0) ∧ (∀ x, ao = some x → ∃ g, x = ⟨g, 0, none⟩ ∧ g < w.heap.size) ∧ l.length ≤ 6 ∧ Lst.Rd w ao l
theorem coinsAt_below {w w' : World} {v : Value} (h : CoinsAt w v) (hb : Below w.heap.size w w') : CoinsAt w' v := by
 obtain ⟨ao, cap, l, hv, h1, h2, h3, hrd⟩ := h
 refine ⟨ao, cap, l, hv, h1, fun x hx => ?_, h3, ?_⟩
 · obtain ⟨g, rfl, hg⟩ := h2 x hx; exact ⟨g, rfl, Nat.lt_of_lt_of_le hg hb.size⟩
 · rcases hrd with h | ⟨g, hg, hc⟩
   · exact .inl h
   · obtain ⟨g', e, hlt⟩ := h2 _ hg
     injection e with e
     subst e
     exact .inr ⟨g, hg, fun j hj => (hb.cell (p := ⟨g, j, none⟩) hlt).trans (hc j hj)⟩
theorem own_coins {w : World} {B : Nat} {ao : Option Addr} {cap : Nat} {l : List Int} (h : Memb.Own B w ao cap l) (hl : l.length ≤ 6) : CoinsAt w (.slice ao l.length cap) := by
 have hrd := Lst.own_rd h
 have hlt := World.ownsRow.lt h
 obtain ⟨_, ⟨hv, hn⟩ | ⟨g, cap', cur, hv, _⟩⟩ := h
 · injection hv with h1 h2 h3
   subst h1 h3
   exact ⟨none, 0, l, rfl, fun _ => ⟨List.eq_nil_of_length_eq_zero h2, rfl⟩, fun x e => (by cases e), hl, hrd⟩
 · injection hv with h1 h2 h3
   subst h1 h3
   exact ⟨_, _, l, rfl, fun e => (by cases e), fun x e => ⟨g, (by cases e; rfl), (hlt g rfl).2⟩, hl, hrd⟩
set_option maxHeartbeats 800000 in
theorem l1CopyN (w : World) : Calls Tryz.prog 152 #[.slice none 0 0] w (Sg.NumsPost [] w) := by
 obtain ⟨i0, hi, hz0, hz1, hz2⟩ := info_parts Memb.info2
 have HB : Hid (Memb.Own w.heap.size (w.alloc (.cells #[] 2)) (some ⟨w.heap.size, 0, none⟩) 0 [] ∧ Below w.heap.size w (w.alloc (.cells #[] 2))) := ⟨Memb.own_empty w, (Below.refl _ _).alloc (Nat.le_refl _) _⟩
 go_enter Tryz.func152, Tryz.ntmps152
 go_wp2_with (at_builtin; refine wpList_append_own_none rfl _ _ 51 rfl w.heap.size 2 i0 1 Tryz.underlying51 hi _ 0 [] rfl (Memb.own_empty w) rfl ?_)
 go_ret
 exact ⟨_, _, rfl, HB.out.1, HB.out.2⟩
structure NewR (B : Nat) (w : World) (R : Ro) : Prop where
 parts : Parts B w R
 L : R.L = []
 lv : R.lv = .slice none 0 0
 coins : CoinsAt w R.cv
 cB : ∀ g, R.cv.ownBlock = some g → B ≤ g
 cg : R.cv.ownBlock ≠ some R.gh
def NewPost (bad : Int) (w : World) (e : Ending) (w' : World) : Prop := ∃ R, e = .returned (.tuple #[roV R, .bool true]) ∧ NewR w.heap.size w' R ∧ R.bad = bad ∧ Below w.heap.size w w'
end Rm
namespace Rm
open Kn (K okK in3)
open Lc (at' RdK laceB takesB flat OwnK CellsK cellsOf)
theorem own_slice {w : World} {B : Nat} {t : TypeId} {size n : Nat} {v : Value} {xs : List Value} (h : w.ownsRow B t size v (n + 1) xs) : ∃ g cap, v = .slice (some ⟨g, 0, none⟩) (n + 1) cap ∧ B ≤ g ∧ g < w.heap.size ∧ n + 1 ≤ cap := by
 have hlt := World.ownsRow.lt h
 obtain ⟨_, ⟨_, hn⟩ | ⟨g, cap, cur, rfl, hB, _, hc, _⟩⟩ := h
 · omega
 · exact ⟨g, cap, rfl, hB, (hlt g rfl).2, hc⟩
structure Q4 (w : World) (p : Nat) (v0 v1 v2 v3 : Value) : Prop where
 lt : p < w.heap.size
 c0 : w.cell? ⟨p, 0, none⟩ = some v0
 c1 : w.cell? ⟨p, 1, none⟩ = some v1
 c2 : w.cell? ⟨p, 2, none⟩ = some v2
 c3 : w.cell? ⟨p, 3, none⟩ = some v3
 f0 : w.frozen? ⟨p, 0, none⟩ = false
 f1 : w.frozen? ⟨p, 1, none⟩ = false
 f2 : w.frozen? ⟨p, 2, none⟩ = false
 f3 : w.frozen? ⟨p, 3, none⟩ = false
theorem q4_fr {S : Nat → Prop} {w w' : World} {p : Nat} {v0 v1 v2 v3 : Value} (x : Q4 w p v0 v1 v2 v3) (hf : Fr S w w') (hn : ¬ S p) : Q4 w' p v0 v1 v2 v3 where
 lt := Nat.lt_of_lt_of_le x.lt hf.size
 c0 := (hf.cell (p := ⟨p, 0, none⟩) x.lt hn).trans x.c0
 c1 := (hf.cell (p := ⟨p, 1, none⟩) x.lt hn).trans x.c1
 c2 := (hf.cell (p := ⟨p, 2, none⟩) x.lt hn).trans x.c2
 c3 := (hf.cell (p := ⟨p, 3, none⟩) x.lt hn).trans x.c3
 f0 := (hf.frozen (p := ⟨p, 0, none⟩) x.lt hn).trans x.f0
 f1 := (hf.frozen (p := ⟨p, 1, none⟩) x.lt hn).trans x.f1
 f2 := (hf.frozen (p := ⟨p, 2, none⟩) x.lt hn).trans x.f2
 f3 := (hf.frozen (p := ⟨p, 3, none⟩) x.lt hn).trans x.f3
theorem q4_below {w w' : World} {p : Nat} {v0 v1 v2 v3 : Value} (x : Q4 w p v0 v1 v2 v3) (hb : Below w.heap.size w w') : Q4 w' p v0 v1 v2 v3 := q4_fr (S := fun _ => False) x (Fr.of_below hb _) (fun h => h)
theorem q4_new (w : World) (v0 v1 v2 v3 : Value) (t : TypeId) : Q4 (w.alloc (.cells #[v0, v1, v2, v3] t)) w.heap.size v0 v1 v2 v3 := ⟨by simp, by simp, by simp, by simp, by simp, by simp, by simp, by simp, by simp⟩
theorem q4_set2 {w : World} {p : Nat} {v0 v1 v2 v3 : Value} (x : Q4 w p v0 v1 v2 v3) (u : Value) : Q4 (w.setCell ⟨p, 2, none⟩ u) p v0 v1 u v3 :=
 ⟨by simpa using x.lt, (World.cell?_setCell_other _ _ _ _ (by simp)).trans x.c0, (World.cell?_setCell_other _ _ _ _ (by simp)).trans x.c1, World.cell?_setCell_same _ _ _ x.c2, (World.cell?_setCell_other _ _ _ _ (by simp)).trans x.c3, by simpa using x.f0, by simpa using x.f1, by simpa using x.f2, by simpa using x.f3⟩
def qset (w : World) (p : Nat) (u0 u1 u2 u3 : Value) : World := (((w.setCell ⟨p, 0, none⟩ u0).setCell ⟨p, 1, none⟩ u1).setCell ⟨p, 2, none⟩ u2).setCell ⟨p, 3, none⟩ u3
theorem q4_put {w : World} {p : Nat} {v0 v1 v2 v3 : Value} (x : Q4 w p v0 v1 v2 v3) (u0 u1 u2 u3 : Value) : Q4 (qset w p u0 u1 u2 u3) p u0 u1 u2 u3 := by
 have e : ∀ {W : World} {j : Nat} {u : Value}, (W.setCell ⟨p, j, none⟩ u).heap.size = W.heap.size := by intro W j u; simp
 refine ⟨by unfold qset; simpa using x.lt, ?_, ?_, ?_, ?_, by unfold qset; simpa using x.f0, by unfold qset; simpa using x.f1, by unfold qset; simpa using x.f2, by unfold qset; simpa using x.f3⟩
 · unfold qset
   rw [World.cell?_setCell_other _ _ _ _ (by simp), World.cell?_setCell_other _ _ _ _ (by simp), World.cell?_setCell_other _ _ _ _ (by simp)]
   exact World.cell?_setCell_same _ _ _ x.c0
 · unfold qset
   rw [World.cell?_setCell_other _ _ _ _ (by simp), World.cell?_setCell_other _ _ _ _ (by simp)]
   exact World.cell?_setCell_same _ _ _ ((World.cell?_setCell_other _ _ _ _ (by simp)).trans x.c1)
 · unfold qset
   rw [World.cell?_setCell_other _ _ _ _ (by simp)]
   exact World.cell?_setCell_same _ _ _ ((World.cell?_setCell_other _ _ _ _ (by simp)).trans ((World.cell?_setCell_other _ _ _ _ (by simp)).trans x.c2))
 · unfold qset
   exact World.cell?_setCell_same _ _ _ ((World.cell?_setCell_other _ _ _ _ (by simp)).trans ((World.cell?_setCell_other _ _ _ _ (by simp)).trans ((World.cell?_setCell_other _ _ _ _ (by simp)).trans x.c3)))
theorem qset_fr (w : World) (p : Nat) (u0 u1 u2 u3 : Value) : Fr (fun x => x = p) w (qset w p u0 u1 u2 u3) :=
 (((Fr.set w ⟨p, 0, none⟩ _).trans (Fr.set _ ⟨p, 1, none⟩ _) (fun _ hx _ => hx)).trans (Fr.set _ ⟨p, 2, none⟩ _) (fun _ hx _ => hx)).trans (Fr.set _ ⟨p, 3, none⟩ _) (fun _ hx _ => hx)
structure NwSt (W wr : World) (pr : Nat) (cv : Value) (bad : Int) (j : Nat) (v : Value) : Prop where
 fr : Fr (fun x => x = pr) W wr
 q : Q4 wr pr (.slice none 0 0) cv v (.int .i64 bad)
 own : wr.ownsRow W.heap.size 26 4 v j (flatH newH j)
theorem nw_step {W wr w1 : World} {pr : Nat} {cv : Value} {bad : Int} {j : Nat} {v v' : Value} {o : Obj} (x : NwSt W wr pr cv bad j v) (hp : pr < W.heap.size) (ho : w1.ownsRow W.heap.size 26 4 v' (j + 1) (flatH newH j ++ hcells (newH j))) (hg : (wr.alloc o).grownBy w1 v.ownBlock) : NwSt W (w1.setCell ⟨pr, 2, none⟩ v') pr cv bad (j + 1) v' ∧ w1.cell? ⟨pr, 2, none⟩ = some v ∧ w1.frozen? ⟨pr, 2, none⟩ = false := by
 have hlt := World.ownsRow.lt x.own
 have hlt' := World.ownsRow.lt ho
 have hf1 : Fr (fun y => v.ownBlock = some y) wr w1 := (Fr.alloc _ wr o).trans (Fr.of_own hg) (fun _ hx _ => hx)
 have hnp : ¬ v.ownBlock = some pr := fun e => by have := (hlt pr e).1; omega
 have hf : Fr (fun y => y = pr) W w1 := x.fr.trans hf1 (fun y hy hl => by have := (hlt y hy).1; omega)
 have q1 := q4_fr x.q hf1 hnp
 refine ⟨⟨hf.trans (Fr.set w1 ⟨pr, 2, none⟩ v') (fun _ hx _ => hx), q4_set2 q1 v', ?_⟩, q1.c2, q1.f2⟩
 rw [flatH_succ]
 exact own_fr (Fr.set w1 ⟨pr, 2, none⟩ v') ho (fun y hy e => by have e' : y = pr := e; have := (hlt' y hy).1; omega)
theorem coinsAt_fr {S : Nat → Prop} {w w' : World} {v : Value} (h : CoinsAt w v) (hf : Fr S w w') (hn : ∀ g, v.ownBlock = some g → ¬ S g) : CoinsAt w' v := by
 obtain ⟨ao, cap, l, hv, h1, h2, h3, hrd⟩ := h
 refine ⟨ao, cap, l, hv, h1, fun x hx => ?_, h3, ?_⟩
 · obtain ⟨g, rfl, hg⟩ := h2 x hx; exact ⟨g, rfl, Nat.lt_of_lt_of_le hg hf.size⟩
 · rcases hrd with h | ⟨g, hg, hc⟩
   · exact .inl h
   · obtain ⟨g', e, hlt⟩ := h2 _ hg
     injection e with e
     subst e
     exact .inr ⟨g, hg, fun j hj => (hf.cell (p := ⟨g, j, none⟩) hlt (hn g (by rw [hv, hg]; rfl))).trans (hc j hj)⟩
theorem new_fin {w wr w5 : World} {cv : Value} {gh hc : Nat} {bad : Int} (hB : Below w.heap.size w wr) (hb : Below wr.heap.size wr w5) (hh : ∀ i, i < 4 → HAt wr gh (i * 4) (newH i)) (hco : CoinsAt wr cv) (hc4 : 4 ≤ hc) (hg : w.heap.size < gh) (hcg : ∀ g, cv.ownBlock = some g → w.heap.size < g) (hcgh : cv.ownBlock ≠ some gh) :
   NewPost bad w (.returned (.tuple #[.agg #[.slice none 0 0, cv, .slice (some ⟨gh, 0, none⟩) 4 hc, .int .i64 bad], .bool true])) (qset w5 w.heap.size (.slice none 0 0) cv (.slice (some ⟨gh, 0, none⟩) 4 hc) (.int .i64 bad)) := by
 have hB5 := hB.trans (hb.mono hB.size)
 have hq := qset_fr w5 w.heap.size (.slice none 0 0) cv (.slice (some ⟨gh, 0, none⟩) 4 hc) (.int .i64 bad)
 have hco5 := coinsAt_below hco hb
 refine ⟨⟨[], .slice none 0 0, cv, gh, hc, newH, bad⟩, rfl, ⟨⟨World.ownsRow_nil _ _ _ _, rfl, fun i hi => hat_fr (hat_below (hh i hi) hb) hq (fun e => by have e' : gh = w.heap.size := e; omega), fun i hi => ⟨by simp [newH], by simp [newH], by simp [newH], by simp [newH], by simp [newH]⟩, Nat.le_of_lt hg, hc4, by simp [Value.ownBlock]⟩, rfl, rfl, ?_, fun g hg' => Nat.le_of_lt (hcg g hg'), hcgh⟩, rfl, hB5.trans (hq.toBelow hB5.size (fun x hx => by omega))⟩
 exact coinsAt_fr hco5 hq (fun g hg' e => by have := hcg g hg'; omega)
set_option maxHeartbeats 3200000 in
theorem newRoom (g cap : Nat) (l : List Int) (bad : Int) (w : World) (hl : coinsB l = true) (hl6 : l.length ≤ 6) (hg : g < w.heap.size) (hrd : Lst.Rd w (some ⟨g, 0, none⟩) l) (hb0 : -1 ≤ bad) (hb1 : bad ≤ 3) :
   Calls Tryz.prog 139 #[.slice (some ⟨g, 0, none⟩) l.length cap, .int .i64 bad] w (NewPost bad w) := by
 obtain ⟨i0, hi, hz0, hz1, hz2⟩ := info_parts infoH
 have P0 : Hid (Below w.heap.size w (w.alloc (.cells #[.slice none 0 0, .slice none 0 0, .slice none 0 0, .int .i64 0] 107)) ∧ Q4 (w.alloc (.cells #[.slice none 0 0, .slice none 0 0, .slice none 0 0, .int .i64 0] 107)) w.heap.size (.slice none 0 0) (.slice none 0 0) (.slice none 0 0) (.int .i64 0)) := ⟨(Below.refl _ _).alloc (Nat.le_refl _) _, q4_new _ _ _ _ _ _⟩
 go_enter Tryz.func139, Tryz.ntmps139
 go_wp2_with fail
 generalize w.alloc (.cells #[.slice none 0 0, .slice none 0 0, .slice none 0 0, .int .i64 0] 107) = W0 at P0 ⊢
 have hg0 : g < W0.heap.size := Nat.lt_of_lt_of_le hg P0.out.1.size
 have hrd0 : Lst.Rd W0 (some ⟨g, 0, none⟩) l := by
   rcases hrd with h | ⟨g', hg', hc⟩
   · exact .inl h
   · injection hg' with e; injection e with e; subst e
     exact .inr ⟨g, rfl, fun j hj => (P0.out.1.cell (p := ⟨g, j, none⟩) hg).trans (hc j hj)⟩
 refine (l1Copy g cap l W0 (by omega) hg0 hrd0).mono ?_
 rintro e w1 ⟨co, cc, rfl, hown, hb1'⟩
 have HN : Hid (NwSt (w1.alloc (.cells #[.slice none 0 0, .slice co l.length cc, .slice none 0 0, .int .i64 bad] 107)) (w1.alloc (.cells #[.slice none 0 0, .slice co l.length cc, .slice none 0 0, .int .i64 bad] 107)) w1.heap.size (.slice co l.length cc) bad 0 (.slice none 0 0)) := ⟨Fr.refl _ _, q4_new _ _ _ _ _ _, World.ownsRow_nil _ _ _ _⟩
 have HP2 : Hid (Below w.heap.size w (w1.alloc (.cells #[.slice none 0 0, .slice co l.length cc, .slice none 0 0, .int .i64 bad] 107)) ∧ Q4 (w1.alloc (.cells #[.slice none 0 0, .slice co l.length cc, .slice none 0 0, .int .i64 bad] 107)) w.heap.size (.slice none 0 0) (.slice none 0 0) (.slice none 0 0) (.int .i64 0) ∧ Memb.Own W0.heap.size (w1.alloc (.cells #[.slice none 0 0, .slice co l.length cc, .slice none 0 0, .int .i64 bad] 107)) co cc l ∧ (∀ x, (Value.slice co l.length cc).ownBlock = some x → x < w1.heap.size) ∧ w1.heap.size < (w1.alloc (.cells #[.slice none 0 0, .slice co l.length cc, .slice none 0 0, .int .i64 bad] 107)).heap.size ∧ w.heap.size < w1.heap.size) := by
   have hB1 := P0.out.1.trans (hb1'.mono P0.out.1.size)
   exact ⟨hB1.alloc hB1.size _, q4_below (q4_below P0.out.2 hb1') ((Below.refl _ _).alloc (Nat.le_refl _) _), hown.alloc _, fun x hx => (World.ownsRow.lt hown x hx).2, by simp, Nat.lt_of_lt_of_le P0.out.2.lt hb1'.size⟩
 have hW0 : w.heap.size < W0.heap.size := P0.out.2.lt
 clear hown hb1' hrd0 hg0 P0 hrd hg
 go_wp2_with fail
 generalize w1.alloc (.cells #[.slice none 0 0, .slice co l.length cc, .slice none 0 0, .int .i64 bad] 107) = W2 at HN HP2 ⊢
 generalize w1.heap.size = pr at HN HP2 ⊢
 have hpr : pr < W2.heap.size := HP2.out.2.2.2.2.1
 go_loopw [7] (fun i wr => ∃ (j : Nat) (v : Value), j ≤ 4 ∧ i = .int .i64 j ∧ Hid (NwSt W2 wr pr (.slice co l.length cc) bad j v)) (fun i _ => 4 - (intOf i).toNat)
 case atStart => exact ⟨0, _, by omega, rfl, HN.out⟩
 case round =>
   obtain ⟨j, v, hj, rfl, HS⟩ := hrel
   by_cases hj4 : j < 4
   · have hj4' : (j : Int) < 4 := by omega
     have c2 := HS.out.q.c2
     have own := HS.out.own
     have hszr : W2.heap.size ≤ wr.heap.size := HS.out.fr.size
     go_wp2_with (at_builtin; refine wpList_append_own _ rfl _ _ 105 rfl W2.heap.size 26 i0 (.agg #[.int .i64 0, .int .i64 0, .int .i64 0, .int .i64 0]) 4 32 Tryz.underlying105 hi hz0 hz1 hz2 rfl (by decide) v j (flatH newH j) (by first | rfl | simp [Act.eval]) (own.alloc _) ⟨wr.heap.size, 0, none⟩ 1 1 (hcells (newH j)) (by first | rfl | simp [Act.eval]) rfl (new_hcells wr (newH j) _) (hcells_one _) ?c3 ?c4 ?c5 ?_)
     case c3 => unfold maxLen; omega
     case c4 => omega
     case c5 => simp; omega
     intro v' w3 hown' hgrow _
     obtain ⟨HS2, d2, e2⟩ := nw_step HS.out hpr hown' hgrow
     obtain ⟨g', cap', rfl, _, _, _⟩ := own_slice hown'
     have HS2' : Hid _ := HS2
     clear HS2 hown' hgrow own c2
     go_wp2
     go_roundw
     case rel => exact ⟨j + 1, _, by omega, by go_num, HS2'⟩
     case measure => simp [intOf]; omega
   · obtain rfl : j = 4 := by omega
     have h44 : ¬ ((4 : Nat) : Int) < 4 := by omega
     obtain ⟨gh, hc, rfl, hBg, hgl, hcap⟩ := own_slice HS.out.own
     obtain ⟨_, c0, c1, c2, c3, _, _, _, _⟩ := HS.out.q
     have HH : Hid (∀ i, i < 4 → HAt wr gh (i * 4) (newH i)) := fun i hi => own_hands HS.out.own i hi
     have hcon : Memb.Own W0.heap.size wr co cc l := own_fr HS.out.fr HP2.out.2.2.1 (fun x hx e => by have := HP2.out.2.2.2.1 x hx; omega)
     have hrdc := Lst.own_rd hcon
     have hcog : ∀ g, co = some ⟨g, 0, none⟩ → g < wr.heap.size := fun g hg => (World.ownsRow.lt hcon g (by rw [hg]; rfl)).2
     have hcgg : ∀ g, (Value.slice co l.length cc).ownBlock = some g → w.heap.size < g := fun g hg => by have := (World.ownsRow.lt hcon g hg).1; omega
     have HBw : Hid (Below w.heap.size w wr) := HP2.out.1.trans (HS.out.fr.toBelow HP2.out.1.size (fun x hx => by subst hx; have := HP2.out.2.2.2.2.2; omega))
     have HRB : Hid (Q4 wr w.heap.size (.slice none 0 0) (.slice none 0 0) (.slice none 0 0) (.int .i64 0)) := q4_fr HP2.out.2.1 HS.out.fr (by have := HP2.out.2.2.2.2.2; omega)
     have HCO : Hid (CoinsAt wr (.slice co l.length cc)) := own_coins hcon hl6
     have hprr : pr < wr.heap.size := Nat.lt_of_lt_of_le hpr HS.out.fr.size
     have hwg : w.heap.size < gh := by have h1 := HP2.out.2.2.2.2.1; have h2 := HP2.out.2.2.2.2.2; omega
     have hcgh : (Value.slice co l.length cc).ownBlock ≠ some gh := fun e => by have h1 := HP2.out.2.2.2.1 gh e; have h2 := HP2.out.2.2.2.2.1; omega
     clear HS HP2 HN hcon
     go_wp2_with fail
     refine (roomOkNew co cc l gh hc bad wr hl hl6 hrdc hcog HH.out hb0 hb1).mono ?_
     rintro e w5 ⟨rfl, hb5⟩
     have d0 := (hb5.cell (p := ⟨pr, 0, none⟩) hprr).trans c0
     have d1 := (hb5.cell (p := ⟨pr, 1, none⟩) hprr).trans c1
     have d2 := (hb5.cell (p := ⟨pr, 2, none⟩) hprr).trans c2
     have d3 := (hb5.cell (p := ⟨pr, 3, none⟩) hprr).trans c3
     have hQ5 := q4_below HRB.out hb5
     have HP := q4_put hQ5 (.slice none 0 0) (.slice co l.length cc) (.slice (some ⟨gh, 0, none⟩) 4 hc) (.int .i64 bad)
     have HE : Hid (NewPost bad w (.returned (.tuple #[.agg #[.slice none 0 0, .slice co l.length cc, .slice (some ⟨gh, 0, none⟩) 4 hc, .int .i64 bad], .bool true])) (qset w5 w.heap.size (.slice none 0 0) (.slice co l.length cc) (.slice (some ⟨gh, 0, none⟩) 4 hc) (.int .i64 bad))) := new_fin HBw.out hb5 HH.out HCO.out (by omega) hwg hcgg hcgh
     have HPP : Hid _ := HP
     obtain ⟨_, r0, r1, r2, r3, f0, f1, f2, f3⟩ := hQ5
     clear c0 c1 c2 c3 HP
     go_wp2
     obtain ⟨_, y0, y1, y2, y3, _, _, _, _⟩ := HPP.out
     unfold qset at y0 y1 y2 y3
     exact bodyPost_ret (v := .tuple #[.agg #[.slice none 0 0, .slice co l.length cc, .slice (some ⟨gh, 0, none⟩) 4 hc, .int .i64 bad], .bool true]) (by simp [results, Tryz.results139, go_sem, y0, y1, y2, y3]) rfl HE.out
end Rm
namespace Cur
theorem and_bd (n m : Int) (h0 : 0 ≤ m) (h1 : m < 9223372036854775808) : 0 ≤ bits .and .i64 n m ∧ bits .and .i64 n m ≤ m := by
 obtain ⟨M, rfl⟩ := Int.eq_ofNat_of_zero_le h0
 have hM : (BitVec.ofInt 64 (M : Int)).toNat = M := ofInt_u64 M (by omega)
 have hx : (BitVec.ofInt 64 n &&& BitVec.ofInt 64 (M : Int)).toNat ≤ M := by
   rw [BitVec.toNat_and, hM]; exact Nat.and_le_right
 have e : bits .and .i64 n (M : Int) = IntKind.i64.wrap ((BitVec.ofInt 64 n &&& BitVec.ofInt 64 (M : Int)).toNat : Int) := rfl
 rw [e]
 generalize (BitVec.ofInt 64 n &&& BitVec.ofInt 64 (M : Int)).toNat = x at hx
 simp only [IntKind.wrap, IntKind.bits, IntKind.signed]
 simp
 omega
def Bytes (w : World) (c : Nat) (a : Option Addr) (len : Nat) : Prop :=
 len = 0 ∨ ∃ b off, a = some ⟨b, off, none⟩ ∧ b ≠ c ∧ b < w.heap.size ∧ ∀ j, j < len → ∃ z : Int, w.cell? ⟨b, off + j, none⟩ = some (.int .u8 z) ∧ 0 ≤ z ∧ z ≤ 255
structure At (c : Nat) (a : Option Addr) (len cap : Nat) (w : World) : Prop where
 lt : c < w.heap.size
 b : w.cell? ⟨c, 0, none⟩ = some (.slice a len cap)
 i : ∃ i : Int, w.cell? ⟨c, 1, none⟩ = some (.int .i64 i) ∧ 0 ≤ i ∧ i ≤ (len : Int)
 h : ∃ h : Int, w.cell? ⟨c, 2, none⟩ = some (.int .i64 h) ∧ -9223372036854775808 ≤ h ∧ h ≤ 9223372036854775807
 f1 : w.frozen? ⟨c, 1, none⟩ = false
 f2 : w.frozen? ⟨c, 2, none⟩ = false
 bytes : Bytes w c a len
theorem At.below {c : Nat} {a : Option Addr} {len cap : Nat} {w w' : World} (h : At c a len cap w) (hb : Below w.heap.size w w') : At c a len cap w' where
 lt := Nat.lt_of_lt_of_le h.lt hb.size
 b := (hb.cell (p := ⟨c, 0, none⟩) h.lt).trans h.b
 i := by obtain ⟨i, h1, h2⟩ := h.i; exact ⟨i, (hb.cell (p := ⟨c, 1, none⟩) h.lt).trans h1, h2⟩
 h := by obtain ⟨i, h1, h2⟩ := h.h; exact ⟨i, (hb.cell (p := ⟨c, 2, none⟩) h.lt).trans h1, h2⟩
 f1 := (hb.frozen (p := ⟨c, 1, none⟩) h.lt).trans h.f1
 f2 := (hb.frozen (p := ⟨c, 2, none⟩) h.lt).trans h.f2
 bytes := by
   rcases h.bytes with h0 | ⟨b, off, ha, hne, hlt, hc⟩
   · exact .inl h0
   · refine .inr ⟨b, off, ha, hne, Nat.lt_of_lt_of_le hlt hb.size, fun j hj => ?_⟩
     obtain ⟨z, h1, h2⟩ := hc j hj
     exact ⟨z, (hb.cell (p := ⟨b, off + j, none⟩) hlt).trans h1, h2⟩
theorem At.drewN {c : Nat} {a : Option Addr} {len cap : Nat} {w : World} (h : At c a len cap w) (n : Nat) : At c a len cap (w.drewN n) := ⟨h.lt, h.b, h.i, h.h, h.f1, h.f2, h.bytes⟩
theorem At.setI {c : Nat} {a : Option Addr} {len cap : Nat} {w : World} (h : At c a len cap w) (i : Int) (h0 : 0 ≤ i) (h1 : i ≤ (len : Int)) : At c a len cap (w.setCell ⟨c, 1, none⟩ (.int .i64 i)) where
 lt := by simpa using h.lt
 b := (World.cell?_setCell_other _ _ _ _ (by simp)).trans h.b
 i := by obtain ⟨j, hj, _⟩ := h.i; exact ⟨i, World.cell?_setCell_same _ _ _ hj, h0, h1⟩
 h := by obtain ⟨j, hj, hh⟩ := h.h; exact ⟨j, (World.cell?_setCell_other _ _ _ _ (by simp)).trans hj, hh⟩
 f1 := by simpa using h.f1
 f2 := by simpa using h.f2
 bytes := by
   rcases h.bytes with h0 | ⟨b, off, ha, hne, hlt, hc⟩
   · exact .inl h0
   · refine .inr ⟨b, off, ha, hne, by simpa using hlt, fun j hj => ?_⟩
     obtain ⟨z, h1, h2⟩ := hc j hj
     exact ⟨z, (World.cell?_setCell_other _ _ _ _ (by simp)).trans h1, h2⟩
theorem At.setH {c : Nat} {a : Option Addr} {len cap : Nat} {w : World} (h : At c a len cap w) (i : Int) (h0 : -9223372036854775808 ≤ i) (h1 : i ≤ 9223372036854775807) : At c a len cap (w.setCell ⟨c, 2, none⟩ (.int .i64 i)) where
 lt := by simpa using h.lt
 b := (World.cell?_setCell_other _ _ _ _ (by simp)).trans h.b
 i := by obtain ⟨j, hj, hh⟩ := h.i; exact ⟨j, (World.cell?_setCell_other _ _ _ _ (by simp)).trans hj, hh⟩
 h := by obtain ⟨j, hj, _⟩ := h.h; exact ⟨i, World.cell?_setCell_same _ _ _ hj, h0, h1⟩
 f1 := by simpa using h.f1
 f2 := by simpa using h.f2
 bytes := by
   rcases h.bytes with h0 | ⟨b, off, ha, hne, hlt, hc⟩
   · exact .inl h0
   · refine .inr ⟨b, off, ha, hne, by simpa using hlt, fun j hj => ?_⟩
     obtain ⟨z, h1, h2⟩ := hc j hj
     exact ⟨z, (World.cell?_setCell_other _ _ _ _ (by simp)).trans h1, h2⟩
theorem grownBy_trans {a b d : World} {r : Option Nat} (h : a.grownBy b r) (k : b.grownBy d r) : a.grownBy d r where
 os := k.os.trans h.os
 tape := k.tape.trans h.tape
 output := k.output.trans h.output
 size := Nat.le_trans h.size k.size
 block := fun j hj hne => (k.block j (Nat.lt_of_lt_of_le hj h.size) hne).trans (h.block j hj hne)
theorem grownBy_drewN {a b : World} {r : Option Nat} (h : a.grownBy b r) (n : Nat) : a.grownBy (b.drewN n) r := ⟨h.os, h.tape, h.output, h.size, h.block⟩
theorem grownBy_set {a b : World} {c : Nat} (h : a.grownBy b (some c)) (j : Nat) (u : Value) : a.grownBy (b.setCell ⟨c, j, none⟩ u) (some c) where
 os := h.os
 tape := h.tape
 output := h.output
 size := by simpa using h.size
 block := fun k hk hne => (heap_setCell_other b ⟨c, j, none⟩ k u (fun e => hne (by simp [e]))).trans (h.block k hk hne)
theorem wrap64_bd (n : Int) : -9223372036854775808 ≤ wrap64 n ∧ wrap64 n ≤ 9223372036854775807 := by unfold wrap64; omega
set_option maxHeartbeats 1600000 in
theorem byte (c : Nat) (a : Option Addr) (len cap : Nat) (w : World) (hl : len ≤ 4096) (hc : At c a len cap w) :
   Calls Tryz.prog 102 #[.pointer (some ⟨c, 0, none⟩)] w fun e w' => ∃ x : Int, e = .returned (.int .i64 x) ∧ 0 ≤ x ∧ x ≤ 255 ∧ At c a len cap w' ∧ w.grownBy w' (some c) := by
 obtain ⟨h, ch, hh0, hh1⟩ := hc.h
 have f2 := hc.f2
 have hb := wrap64_bd (wrap64 (h * 6364136223846793005) + 1442695040888963407)
 have A1 : At c a len cap (w.setCell ⟨c, 2, none⟩ (.int .i64 (wrap64 (wrap64 (h * 6364136223846793005) + 1442695040888963407)))) := hc.setH _ hb.1 hb.2
 have G1 : w.grownBy (w.setCell ⟨c, 2, none⟩ (.int .i64 (wrap64 (wrap64 (h * 6364136223846793005) + 1442695040888963407)))) (some c) := grownBy_set (World.grownBy.refl _ _) _ _
 clear hb
 have HA : Hid _ := A1
 have HG : Hid _ := G1
 clear A1 G1
 go_enter Tryz.func102, Tryz.ntmps102
 go_wp2_with fail
 clear ch f2 hc hh0 hh1
 generalize w.setCell ⟨c, 2, none⟩ (.int .i64 (wrap64 (wrap64 (h * 6364136223846793005) + 1442695040888963407))) = w1 at HA HG ⊢
 generalize wrap64 (wrap64 (h * 6364136223846793005) + 1442695040888963407) = h1
 generalize wrap64 (h * 6364136223846793005) = h2
 have A1 := HA.out
 clear HA
 obtain ⟨i, ci, hi0, hi1⟩ := A1.i
 obtain ⟨h, ch, hh0, hh1⟩ := A1.h
 have cb := A1.b
 have f1 := A1.f1
 have HA : Hid (At c a len cap w1) := A1
 clear A1
 go_quiet (fail)
 have hx := and_bd (bits .xor .i64 (h / 8589934592) (h / 35184372088832)) 255 (by omega) (by omega)
 go_wp2_with fail
 generalize bits .and .i64 (bits .xor .i64 (h / 8589934592) (h / 35184372088832)) 255 = x0 at hx ⊢
 obtain ⟨hx0, hx1⟩ := hx
 by_cases hlt : i < (len : Int)
 · obtain ⟨b, off, ha, hcell⟩ : ∃ b off, a = some ⟨b, off, none⟩ ∧ ∀ j, j < len → ∃ z : Int, w1.cell? ⟨b, off + j, none⟩ = some (.int .u8 z) ∧ 0 ≤ z ∧ z ≤ 255 := by
     rcases HA.out.bytes with h | ⟨b, off, ha, _, _, hcell⟩
     · exfalso; omega
     · exact ⟨b, off, ha, hcell⟩
   subst ha
   obtain ⟨z, cz, hz0, hz1⟩ := hcell i.toNat (by omega)
   clear hcell
   have HB : Hid (At c (some ⟨b, off, none⟩) len cap (w1.setCell ⟨c, 1, none⟩ (.int .i64 (i + 1)))) := HA.out.setI (i + 1) (by omega) (by omega)
   have HS : Hid (w.grownBy (w1.setCell ⟨c, 1, none⟩ (.int .i64 (i + 1))) (some c)) := grownBy_set HG.out _ _
   go_quiet (fail)
   go_wp2_with fail
   go_quiet (fail)
   have hy := and_bd (x0 + z) 255 (by omega) (by omega)
   go_wp2
   go_ret
   exact ⟨_, rfl, hy.1, hy.2, HB.out.drewN _, grownBy_drewN HS.out _⟩
 · go_quiet (fail)
   go_wp2
   go_ret
   exact ⟨_, rfl, hx0, hx1, HA.out.drewN _, grownBy_drewN HG.out _⟩
set_option maxHeartbeats 1600000 in
theorem below (c : Nat) (a : Option Addr) (len cap : Nat) (n : Int) (w : World) (hl : len ≤ 4096) (hn : n ≤ 1000000000000) (hc : At c a len cap w) :
   Calls Tryz.prog 63 #[.pointer (some ⟨c, 0, none⟩), .int .i64 n] w fun e w' => ∃ x : Int, e = .returned (.int .i64 x) ∧ 0 ≤ x ∧ (0 < n → x < n) ∧ At c a len cap w' ∧ w.grownBy w' (some c) := by
 by_cases h0 : n ≤ 0
 · go_enter Tryz.func63, Tryz.ntmps63
   go_wp2_with fail
   go_ret
   exact ⟨0, rfl, by omega, by omega, hc, World.grownBy.refl _ _⟩
 · by_cases h1 : n ≤ 256
   · go_enter Tryz.func63, Tryz.ntmps63
     go_wp2_with fail
     refine (byte c a len cap _ hl hc).mono ?_
     rintro e w1 ⟨x, rfl, hx0, hx1, hA, hG⟩
     have m0 := Int.emod_nonneg x (show n ≠ 0 by omega)
     have m1 := Int.emod_lt_of_pos x (show 0 < n by omega)
     go_wp2
     go_ret
     exact ⟨x % n, rfl, m0, fun _ => m1, hA, hG⟩
   · go_enter Tryz.func63, Tryz.ntmps63
     go_wp2_with fail
     refine (byte c a len cap _ hl hc).mono ?_
     rintro e w1 ⟨x, rfl, hx0, hx1, hA, hG⟩
     go_wp2_with fail
     refine (byte c a len cap _ hl hA).mono ?_
     rintro e w2 ⟨y, rfl, hy0, hy1, hA2, hG2⟩
     go_wp2_with fail
     refine (byte c a len cap _ hl hA2).mono ?_
     rintro e w3 ⟨z, rfl, hz0, hz1, hA3, hG3⟩
     go_wp2_with fail
     refine (byte c a len cap _ hl hA3).mono ?_
     rintro e w4 ⟨u, rfl, hu0, hu1, hA4, hG4⟩
     have m0 := Int.emod_nonneg (x * 16777216 + y * 65536 + z * 256 + u) (show n ≠ 0 by omega)
     have m1 := Int.emod_lt_of_pos (x * 16777216 + y * 65536 + z * 256 + u) (show 0 < n by omega)
     go_wp2
     go_ret
     exact ⟨(x * 16777216 + y * 65536 + z * 256 + u) % n, rfl, m0, fun _ => m1, hA4, grownBy_trans (grownBy_trans (grownBy_trans hG hG2) hG3) hG4⟩
set_option maxHeartbeats 800000 in
theorem once (c : Nat) (a : Option Addr) (len cap : Nat) (n : Int) (w : World) (hl : len ≤ 4096) (hn : n ≤ 1000000000000) (hc : At c a len cap w) :
   Calls Tryz.prog 37 #[.pointer (some ⟨c, 0, none⟩), .int .i64 n] w fun e w' => ∃ b : Bool, e = .returned (.bool b) ∧ At c a len cap w' ∧ w.grownBy w' (some c) := by
 go_enter Tryz.func37, Tryz.ntmps37
 go_wp2_with fail
 refine (below c a len cap n _ hl hn hc).mono ?_
 rintro e w1 ⟨x, rfl, hx0, hx1, hA, hG⟩
 go_wp2
 go_ret
 exact ⟨_, rfl, hA, hG⟩
def Code (w : World) (a : Option Addr) (len : Nat) : Prop :=
 len = 0 ∨ ∃ b off, a = some ⟨b, off, none⟩ ∧ b < w.heap.size ∧ ∀ j, j < len → ∃ z : Int, w.cell? ⟨b, off + j, none⟩ = some (.int .u8 z) ∧ 0 ≤ z ∧ z ≤ 255
theorem at_new (w : World) (a : Option Addr) (len cap : Nat) (h : Int) (h0 : -9223372036854775808 ≤ h) (h1 : h ≤ 9223372036854775807) (hc : Code w a len) :
   At w.heap.size a len cap (w.alloc (.cells #[.slice a len cap, .int .i64 0, .int .i64 h] 104)) where
 lt := by simp
 b := by simp
 i := ⟨0, by simp, by omega, by omega⟩
 h := ⟨h, by simp, h0, h1⟩
 f1 := by simp
 f2 := by simp
 bytes := by
   rcases hc with hc | ⟨b, off, ha, hb, hcell⟩
   · exact .inl hc
   · refine .inr ⟨b, off, ha, by omega, by simp; omega, fun j hj => ?_⟩
     obtain ⟨z, hz, hz'⟩ := hcell j hj
     exact ⟨z, (World.cell?_alloc_lt w _ ⟨b, off + j, none⟩ hb).trans hz, hz'⟩
set_option maxHeartbeats 1600000 in
theorem new (a : Option Addr) (len cap : Nat) (w : World) (hl : len ≤ 4096) (hc : Code w a len) :
   Calls Tryz.prog 35 #[.slice a len cap] w fun e w' => e = .returned (.pointer (some ⟨w.heap.size, 0, none⟩)) ∧ At w.heap.size a len cap w' ∧ Below w.heap.size w w' := by
 go_enter Tryz.func35, Tryz.ntmps35
 go_wp2
 go_loop [3, 4] (fun v i => ∃ (k : Nat) (h : Int), k ≤ len ∧ i = .int .i64 k ∧ v = .int .i64 h ∧ 0 ≤ h ∧ h ≤ 1073741823) (fun _ i => len - (intOf i).toNat)
 case atStart => exact ⟨0, _, by omega, rfl, rfl, by omega, by omega⟩
 case round =>
   obtain ⟨k, h, hk, rfl, rfl, hh0, hh1⟩ := hrel
   by_cases hlt : k < len
   · rcases hc with hc | ⟨b, off, rfl, hb, hcell⟩
     · exfalso; omega
     · obtain ⟨z, cz, hz0, hz1⟩ := hcell k hlt
       clear hcell
       have hy := and_bd (h * 137 + z + 11) 1073741823 (by omega) (by omega)
       go_wp2
       go_round
       case rel => exact ⟨k + 1, _, by omega, by go_num, rfl, hy.1, hy.2⟩
       case measure => simp [intOf]; omega
   · go_wp2
     go_ret
     exact ⟨rfl, at_new w a len cap h (by omega) (by omega) hc, (Below.refl _ _).alloc (Nat.le_refl _) _⟩
end Cur
end Go.Proofs.YtfjmenhofllchaaGreatDoor
