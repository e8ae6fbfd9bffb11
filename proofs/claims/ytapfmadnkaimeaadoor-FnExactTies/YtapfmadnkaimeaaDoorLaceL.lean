/-
  What the small functions of the exact statements on lists of knots answer: how great a list is, a list handed on into new memory, and whether two that hold the same are alike; for lists of at most 2^20 knots.
-/
import Derived.Test.YtapfmadnkaimeaaDoorLaceR
import Derived.Test.YtapfmadnkaimeaaDoorLawK
import Derived.Test.YtapfmadnkaimeaaDoorFam
namespace Go.Proofs.YtapfmadnkaimeaaDoor
open Go.RowKit
set_option maxRecDepth 100000
namespace Lc
open Kn (K okK)

/-- small enough -/
def Small (L : List K) : Prop := L.length ≤ 1048576 ∧ ∀ k ∈ L, k.word.size ≤ 1048576

theorem szI_lo (x : Int) (n : Nat) (h : x < (n : Int)) : Kn.szI x n = -1 := if_pos h
theorem szI_hi (x : Int) (n : Nat) (h : ¬ x < (n : Int)) : Kn.szI x n = x - (n : Int) := if_neg h

/-- what is left is told, or that it is too great -/
def SzPost (L : List K) (left : Int) (w : World) (e : Ending) (w' : World) : Prop := ∃ r : Int, e = .returned (.int .i64 r) ∧ -1 ≤ r ∧ r ≤ left ∧ (0 ≤ r → Small L) ∧ Below w.heap.size w w'

set_option maxHeartbeats 1600000 in
theorem szKnotS (ao : Option Addr) (cap : Nat) (L : List K) (left : Int) (w : World) (hl : L.length ≤ maxLen) (hws : ∀ k ∈ L, k.word.size ≤ maxLen) (hl0 : 0 ≤ left) (hl1 : left ≤ 1048576) (hr : RdK w ao L) :
    Calls Tryd.prog 8 #[.slice ao L.length cap, .int .i64 left] w (SzPost L left w) := by
  unfold maxLen at hl
  by_cases hbig : left < (L.length : Int)
  · have hb' : left - (L.length : Int) < 0 := by omega
    go_enter Tryd.func8, Tryd.ntmps8
    go_wp2
    go_ret
    exact ⟨-1, rfl, by omega, by omega, fun h => by omega, Below.refl _ _⟩
  · have hb' : ¬ left - (L.length : Int) < 0 := by omega
    have hlen : L.length ≤ 1048576 := by omega
    clear hbig
    go_enter Tryd.func8, Tryd.ntmps8
    go_wp2
    go_loopw [1, 5] (fun x i wr => ∃ (j : Nat) (y : Int), j ≤ L.length ∧ i = .int .i64 j ∧ x = .int .i64 y ∧ 0 ≤ y ∧ y ≤ left ∧ Hid (∀ k ∈ L.take j, k.word.size ≤ 1048576) ∧ Hid (Below w.heap.size w wr)) (fun _ i _ => L.length - (intOf i).toNat)
    case atStart => exact ⟨0, left - (L.length : Int), by omega, rfl, rfl, by omega, by omega, fun k hk => by simp at hk, Below.refl _ _⟩
    case round =>
      obtain ⟨j, y, hj, rfl, rfl, hy0, hy1, HW, HB⟩ := hrel
      by_cases hlt : j < L.length
      · obtain ⟨g, off, rfl, hg, hc⟩ := hr.at j hlt
        obtain ⟨c0, c1, c2, c3⟩ := hc.below HB.out hg
        have hwm := hws _ (at_mem L j hlt)
        clear hc
        go_wp2_with fail
        refine (Kn.szKnot _ _ _ _ y _ hwm hy0 (by omega)).mono ?_
        rintro e w1 ⟨rfl, hb1⟩
        have HB1 : Hid (Below w.heap.size w w1) := HB.out.trans (hb1.mono HB.out.size)
        clear hb1 HB hwm
        by_cases hq : y < ((at' L j).word.size : Int)
        · rw [szI_lo _ _ hq]
          clear hq
          go_wp2
          go_ret
          exact ⟨-1, rfl, by omega, by omega, fun h => by omega, HB1.out⟩
        · rw [szI_hi _ _ hq]
          have hq' : ¬ y - ((at' L j).word.size : Int) < 0 := by omega
          have HW1 : Hid (∀ k ∈ L.take (j + 1), k.word.size ≤ 1048576) := by
            intro k hk
            rw [take_snoc L j hlt, List.mem_append] at hk
            rcases hk with hk | hk
            · exact HW.out k hk
            · simp at hk; rw [hk]; omega
          clear hq HW
          go_wp2
          go_roundw
          case rel => exact ⟨j + 1, _, by omega, by go_num, rfl, by omega, by omega, HW1, HB1⟩
          case measure => simp [intOf]; omega
      · obtain rfl : j = L.length := by omega
        have HS : Hid (Small L) := ⟨hlen, by have := HW.out; rwa [List.take_length] at this⟩
        go_wp2
        go_ret
        exact ⟨y, rfl, by omega, hy1, fun _ => HS.out, HB.out⟩

/-- a block of knots that is being filled: j of n are there -/
structure Made (w : World) (B n : Nat) (L : List K) (j : Nat) : Prop where
  lt : B < w.heap.size
  rd : ∀ i, i < j → CellsK w B (i * 4) (at' L i)
  ex : ∀ i, i < n * 4 → ∃ v, w.cell? ⟨B, i, none⟩ = some v
  fr : ∀ i, i < n * 4 → w.frozen? ⟨B, i, none⟩ = false

theorem Made.below {w w' : World} {B n j : Nat} {L : List K} (h : Made w B n L j) (hb : Below w.heap.size w w') : Made w' B n L j where
  lt := Nat.lt_of_lt_of_le h.lt hb.size
  rd := fun i hi => (h.rd i hi).below hb h.lt
  ex := fun i hi => by obtain ⟨v, hv⟩ := h.ex i hi; exact ⟨v, (hb.cell (p := ⟨B, i, none⟩) h.lt).trans hv⟩
  fr := fun i hi => (hb.frozen (p := ⟨B, i, none⟩) h.lt).trans (h.fr i hi)

/-- the world behind the storing of a knot -/
def put4 (w : World) (B o : Nat) (k : K) : World := (((w.setCell ⟨B, o, none⟩ (.int .i64 k.hand)).setCell ⟨B, o + 1, none⟩ (.int .i64 k.round)).setCell ⟨B, o + 2, none⟩ (.int .i64 k.frm)).setCell ⟨B, o + 3, none⟩ (.string k.word)

theorem ne_off {B i o : Nat} (h : i ≠ o) : (⟨B, o, none⟩ : Addr) ≠ ⟨B, i, none⟩ := by intro e; injection e with _ e; exact h e.symm

theorem put4_other (w : World) (B o : Nat) (k : K) (i : Nat) (h : i < o ∨ o + 4 ≤ i) : (put4 w B o k).cell? ⟨B, i, none⟩ = w.cell? ⟨B, i, none⟩ := by
  unfold put4
  rw [World.cell?_setCell_other _ _ _ _ (ne_off (by omega)), World.cell?_setCell_other _ _ _ _ (ne_off (by omega)), World.cell?_setCell_other _ _ _ _ (ne_off (by omega)), World.cell?_setCell_other _ _ _ _ (ne_off (by omega))]

theorem put4_there {w : World} {B o : Nat} (k : K) {v0 v1 v2 v3 : Value} (h0 : w.cell? ⟨B, o, none⟩ = some v0) (h1 : w.cell? ⟨B, o + 1, none⟩ = some v1) (h2 : w.cell? ⟨B, o + 2, none⟩ = some v2) (h3 : w.cell? ⟨B, o + 3, none⟩ = some v3) : CellsK (put4 w B o k) B o k := by
  unfold put4
  refine ⟨?_, ?_, ?_, ?_⟩
  · rw [World.cell?_setCell_other _ _ _ _ (ne_off (by omega)), World.cell?_setCell_other _ _ _ _ (ne_off (by omega)), World.cell?_setCell_other _ _ _ _ (ne_off (by omega))]
    exact World.cell?_setCell_same _ _ _ h0
  · rw [World.cell?_setCell_other _ _ _ _ (ne_off (by omega)), World.cell?_setCell_other _ _ _ _ (ne_off (by omega))]
    exact World.cell?_setCell_same _ _ _ ((World.cell?_setCell_other _ _ _ _ (ne_off (by omega))).trans h1)
  · rw [World.cell?_setCell_other _ _ _ _ (ne_off (by omega))]
    exact World.cell?_setCell_same _ _ _ ((World.cell?_setCell_other _ _ _ _ (ne_off (by omega))).trans ((World.cell?_setCell_other _ _ _ _ (ne_off (by omega))).trans h2))
  · exact World.cell?_setCell_same _ _ _ ((World.cell?_setCell_other _ _ _ _ (ne_off (by omega))).trans ((World.cell?_setCell_other _ _ _ _ (ne_off (by omega))).trans ((World.cell?_setCell_other _ _ _ _ (ne_off (by omega))).trans h3)))

theorem put4_frozen (w : World) (B o : Nat) (k : K) (p : Addr) : (put4 w B o k).frozen? p = w.frozen? p := by unfold put4; simp
theorem put4_size (w : World) (B o : Nat) (k : K) : (put4 w B o k).heap.size = w.heap.size := by unfold put4; simp

theorem Made.put {w : World} {B n j : Nat} {L : List K} (h : Made w B n L j) (hj : j < n) : Made (put4 w B (j * 4) (at' L j)) B n L (j + 1) := by
  obtain ⟨v0, e0⟩ := h.ex (j * 4) (by omega)
  obtain ⟨v1, e1⟩ := h.ex (j * 4 + 1) (by omega)
  obtain ⟨v2, e2⟩ := h.ex (j * 4 + 2) (by omega)
  obtain ⟨v3, e3⟩ := h.ex (j * 4 + 3) (by omega)
  have hk := put4_there (at' L j) e0 e1 e2 e3
  refine ⟨by rw [put4_size]; exact h.lt, fun i hi => ?_, fun i hi => ?_, fun i hi => by rw [put4_frozen]; exact h.fr i hi⟩
  · by_cases he : i = j
    · rw [he]; exact hk
    · have hc := h.rd i (by omega)
      exact ⟨(put4_other w B _ _ _ (by omega)).trans hc.c0, (put4_other w B _ _ _ (by omega)).trans hc.c1, (put4_other w B _ _ _ (by omega)).trans hc.c2, (put4_other w B _ _ _ (by omega)).trans hc.c3⟩
  · by_cases he : i < j * 4 ∨ j * 4 + 4 ≤ i
    · rw [put4_other w B _ _ i he]; exact h.ex i hi
    · rcases (show i = j * 4 ∨ i = j * 4 + 1 ∨ i = j * 4 + 2 ∨ i = j * 4 + 3 by omega) with rfl | rfl | rfl | rfl
      · exact ⟨_, hk.c0⟩
      · exact ⟨_, hk.c1⟩
      · exact ⟨_, hk.c2⟩
      · exact ⟨_, hk.c3⟩

theorem below_put4 {b B : Nat} {a w : World} (h : Below b a w) (hB : b ≤ B) (o : Nat) (k : K) : Below b a (put4 w B o k) :=
  (((h.setCell (p := ⟨B, o, none⟩) hB _).setCell (p := ⟨B, o + 1, none⟩) hB _).setCell (p := ⟨B, o + 2, none⟩) hB _).setCell (p := ⟨B, o + 3, none⟩) hB _

theorem made_new (w : World) (t : TypeId) (z : Array Value) (n : Nat) (L : List K) : Made (w.alloc (.cells (madeCells z (n * 4)) t)) w.heap.size n L 0 where
  lt := by simp
  rd := fun i hi => by omega
  ex := fun i hi => by
    rw [World.cell?_alloc_new]
    have : i < (madeCells z (n * 4)).size := by rw [size_madeCells]; exact hi
    exact ⟨_, Array.getElem?_eq_getElem this⟩
  fr := fun i hi => by simp

theorem infoKn : (Tryd.prog.info? 38).map (fun i => (i.zero, i.size, i.bytes)) = some (some (.agg #[.int .i64 0, .int .i64 0, .int .i64 0, .string ⟨#[]⟩]), 4, 40) := by kernel_rfl

/-- the knots in new memory -/
def ToPost (L : List K) (w : World) (e : Ending) (w' : World) : Prop := e = .returned (.slice (some ⟨w.heap.size, 0, none⟩) L.length L.length) ∧ Made w' w.heap.size L.length L L.length ∧ Below w.heap.size w w'

theorem made_rd {w : World} {B n : Nat} {L : List K} (h : Made w B n L L.length) : RdK w (some ⟨B, 0, none⟩) L :=
  .inr ⟨B, 0, rfl, h.lt, fun i hi => by rw [Nat.zero_add]; exact h.rd i hi⟩

set_option maxHeartbeats 1600000 in
theorem toKnotS (ao : Option Addr) (cap : Nat) (L : List K) (w : World) (hl : L.length ≤ 1048576) (hr : RdK w ao L) :
    Calls Tryd.prog 10 #[.slice ao L.length cap] w (ToPost L w) := by
  obtain ⟨i0, hi, hz0, hz1, hz2⟩ := info_parts infoKn
  have hmk : ∀ W : World, (Instr.makeSlice 29 (.int .i64 (L.length : Int)) (.int .i64 (L.length : Int))).run Tryd.prog W = .ok (.slice (some ⟨W.heap.size, 0, none⟩) L.length L.length) (W.alloc (.cells (madeCells (Value.agg #[.int .i64 0, .int .i64 0, .int .i64 0, .string ⟨#[]⟩]).cells (L.length * 4)) 38)) := by
    intro W
    have := run_make (P := Tryd.prog) W 29 38 i0 _ Tryd.underlying29 hi hz0 .i64 .i64 (L.length : Int) (L.length : Int) (by omega) (by omega) (by rw [hz2]; omega) (by omega)
    rw [hz1] at this
    simpa using this
  have HP : Hid (Made (w.alloc (.cells (madeCells (Value.agg #[.int .i64 0, .int .i64 0, .int .i64 0, .string ⟨#[]⟩]).cells (L.length * 4)) 38)) w.heap.size L.length L 0 ∧ Below w.heap.size w (w.alloc (.cells (madeCells (Value.agg #[.int .i64 0, .int .i64 0, .int .i64 0, .string ⟨#[]⟩]).cells (L.length * 4)) 38))) := ⟨made_new _ _ _ _ _, (Below.refl _ _).alloc (Nat.le_refl _) _⟩
  clear hi hz0 hz1 hz2
  generalize (Value.agg #[.int .i64 0, .int .i64 0, .int .i64 0, .string ⟨#[]⟩]).cells = zc at hmk HP
  generalize madeCells zc (L.length * 4) = mc at hmk HP
  go_enter Tryd.func10, Tryd.ntmps10
  go_wp2
  clear hmk
  go_loopw [4] (fun i wr => ∃ j : Nat, j ≤ L.length ∧ i = .int .i64 j ∧ Hid (Made wr w.heap.size L.length L j) ∧ Hid (Below w.heap.size w wr)) (fun i _ => L.length - (intOf i).toNat)
  case atStart => exact ⟨0, by omega, rfl, HP.out.1, HP.out.2⟩
  case round =>
    obtain ⟨j, hj, rfl, HM, HB⟩ := hrel
    by_cases hlt : j < L.length
    · obtain ⟨g, off, rfl, hg, hc⟩ := hr.at j hlt
      obtain ⟨c0, c1, c2, c3⟩ := hc.below HB.out hg
      clear hc
      go_wp2_with fail
      refine (Kn.toKnot _ _ _ _ _).mono ?_
      rintro e w1 ⟨rfl, hb1⟩
      have M1 := HM.out.below hb1
      have B1 := HB.out.trans (hb1.mono HB.out.size)
      obtain ⟨v0, e0⟩ := M1.ex (j * 4) (by omega)
      obtain ⟨v1, e1⟩ := M1.ex (j * 4 + 1) (by omega)
      obtain ⟨v2, e2⟩ := M1.ex (j * 4 + 2) (by omega)
      obtain ⟨v3, e3⟩ := M1.ex (j * 4 + 3) (by omega)
      have f0 := M1.fr (j * 4) (by omega)
      have f1 := M1.fr (j * 4 + 1) (by omega)
      have f2 := M1.fr (j * 4 + 2) (by omega)
      have f3 := M1.fr (j * 4 + 3) (by omega)
      have HM1 : Hid (Made (put4 w1 w.heap.size (j * 4) (at' L j)) w.heap.size L.length L (j + 1)) := M1.put hlt
      have HB1 : Hid (Below w.heap.size w (put4 w1 w.heap.size (j * 4) (at' L j))) := below_put4 B1 (Nat.le_refl _) _ _
      clear M1 B1 hb1 HM HB c0 c1 c2 c3
      go_wp2
      go_roundw
      case rel => exact ⟨j + 1, by omega, by go_num, HM1, HB1⟩
      case measure => simp [intOf]; omega
    · obtain rfl : j = L.length := by omega
      go_wp2
      go_ret
      exact ⟨rfl, HM.out, HB.out⟩

set_option maxHeartbeats 1600000 in
theorem eqKnotS (g off cap g' off' cap' : Nat) (L : List K) (w : World) (hl : L.length ≤ 1048576) (hr : RdK w (some ⟨g, off, none⟩) L) (hr' : RdK w (some ⟨g', off', none⟩) L) :
    Calls Tryd.prog 14 #[.slice (some ⟨g, off, none⟩) L.length cap, .slice (some ⟨g', off', none⟩) L.length cap'] w fun e w' => e = .returned (.bool true) ∧ Below w.heap.size w w' := by
  go_enter Tryd.func14, Tryd.ntmps14
  go_wp2
  go_loopw [5] (fun i wr => ∃ j : Nat, j ≤ L.length ∧ i = .int .i64 j ∧ Hid (Below w.heap.size w wr)) (fun i _ => L.length - (intOf i).toNat)
  case atStart => exact ⟨0, by omega, rfl, Below.refl _ _⟩
  case round =>
    obtain ⟨j, hj, rfl, HB⟩ := hrel
    by_cases hlt : j < L.length
    · have P1 := (hr.below HB.out).at j hlt
      have P2 := (hr'.below HB.out).at j hlt
      obtain ⟨q, o, hq, hg, hc⟩ := P1
      injection hq with hq
      injection hq with q1 q2
      subst q1 q2
      obtain ⟨q, o, hq, hg', hc'⟩ := P2
      injection hq with hq
      injection hq with q1 q2
      subst q1 q2
      obtain ⟨X, _, F, HF, HG⟩ := Fam.fam wr
      have HC : Hid (∀ z, CellsK (F z) g (off + j * 4) (at' L j)) := fun z => hc.below (HF.out z) hg
      have HC' : Hid (∀ z, CellsK (F z) g' (off' + j * 4) (at' L j)) := fun z => hc'.below (HF.out z) hg'
      clear hc hc'
      generalize at' L j = k at HC HC'
      have c0 := fun z => (HC.out z).c0
      have c1 := fun z => (HC.out z).c1
      have c2 := fun z => (HC.out z).c2
      have c3 := fun z => (HC.out z).c3
      have d0 := fun z => (HC'.out z).c0
      have d1 := fun z => (HC'.out z).c1
      have d2 := fun z => (HC'.out z).c2
      have d3 := fun z => (HC'.out z).c3
      go_wp2_with fail
      refine Fam.region (F := F) (by kernel_rfl) (by kernel_rfl) (HG.out _ (Below.refl _ wr).drew) ?_
      repeat (go_big_quiet_step (first
        | (go_at_call 21; exact (Kn.eqSame _ _ _ _ _).mono fun _ _ h => ⟨h.1, HG.out _ ((HF.out _).trans (h.2.mono (HF.out _).size))⟩)))
      refine wpQuiet_nil ?_
      intro w2 hw2
      obtain ⟨z, rfl⟩ := hw2
      have HB2 : Hid (Below w.heap.size w (F z)) := HB.out.trans ((HF.out z).mono HB.out.size)
      clear c0 c1 c2 c3 d0 d1 d2 d3
      go_wp2
      go_roundw
      case rel => exact ⟨j + 1, by omega, by go_num, HB2⟩
      case measure => simp [intOf]; omega
    · obtain rfl : j = L.length := by omega
      go_wp2
      go_ret
      exact ⟨rfl, HB.out⟩

end Lc
end Go.Proofs.YtapfmadnkaimeaaDoor
