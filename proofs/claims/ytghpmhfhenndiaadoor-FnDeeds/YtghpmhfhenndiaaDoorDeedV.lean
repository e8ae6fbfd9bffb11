/-
  What the model's ReadDeed answers: the right deed whose text it is, and true; the zero deed and false where there is none; for texts of at most 2 to the 30 bytes.
-/
import Derived.Test.YtghpmhfhenndiaaDoorDeedR
namespace Go.Proofs.YtghpmhfhenndiaaDoor
open Go.RowKit
set_option maxRecDepth 100000
set_option linter.unusedVariables false
namespace De
open Kn (dec B split Reads OwnS)

/-- the pieces lie there, and the two blocks -/
structure RSt (w wr : World) (g x : Nat) (P : List (List UInt8)) (k : Int) (s : ByteArray) (v n : Int) : Prop where
  bel : Below w.heap.size w wr
  two : TwoD w.heap.size x wr k s v n
  gx : g < x
  wg : w.heap.size < g
  cells : ∀ j, j < P.length → wr.cell? ⟨g, j, none⟩ = some (.string (B (P.getD j [])))
section
variable {w wr : World} {g x : Nat} {P : List (List UInt8)} {k v n : Int} {s : ByteArray}
theorem RSt.below {V : World} (t : RSt w wr g x P k s v n) (hb : Below wr.heap.size wr V) : RSt w V g x P k s v n :=
  ⟨t.bel.trans (hb.mono t.bel.size), t.two.below hb, t.gx, t.wg, fun j hj => (hb.cell (p := ⟨g, j, none⟩) (Nat.lt_trans t.gx t.two.lt)).trans (t.cells j hj)⟩
theorem RSt.put (t : RSt w wr g x P k s v n) {k' v' n' : Int} {s' : ByteArray} (i : Nat) (u : Value) (h : TwoD w.heap.size x (wr.setCell ⟨x, i, none⟩ u) k' s' v' n') : RSt w (wr.setCell ⟨x, i, none⟩ u) g x P k' s' v' n' :=
  ⟨t.bel.setCell (p := ⟨x, i, none⟩) (by have := t.two.bx; show w.heap.size ≤ x; omega) _, h, t.gx, t.wg, fun j hj => (World.cell?_setCell_other _ _ _ _ (by have := t.gx; intro e; injection e with e; omega)).trans (t.cells j hj)⟩
theorem RSt.drew (t : RSt w wr g x P k s v n) : RSt w wr.drew g x P k s v n := t.below (Below.refl _ _).drew
theorem RSt.alloc (t : RSt w wr g x P k s v n) (o : Obj) : RSt w (wr.alloc o) g x P k s v n := t.below ((Below.refl _ _).alloc (Nat.le_refl _) o)
end
theorem kindTo_succ (x : List UInt8) (n : Nat) : kindTo x (n + 1) = if x = kindW ((n : Int) + 1) then (n : Int) + 1 else kindTo x n := rfl
theorem put4D {w : World} {b : Nat} {u0 u1 u2 u3 : Value} (r0 : w.cell? ⟨b, 0, none⟩ = some u0) (r1 : w.cell? ⟨b, 1, none⟩ = some u1) (r2 : w.cell? ⟨b, 2, none⟩ = some u2) (r3 : w.cell? ⟨b, 3, none⟩ = some u3) (v0 v1 v2 v3 : Value) :
    ((((w.setCell ⟨b, 0, none⟩ v0).setCell ⟨b, 1, none⟩ v1).setCell ⟨b, 2, none⟩ v2).setCell ⟨b, 3, none⟩ v3).cell? ⟨b, 0, none⟩ = some v0 ∧
    ((((w.setCell ⟨b, 0, none⟩ v0).setCell ⟨b, 1, none⟩ v1).setCell ⟨b, 2, none⟩ v2).setCell ⟨b, 3, none⟩ v3).cell? ⟨b, 1, none⟩ = some v1 ∧
    ((((w.setCell ⟨b, 0, none⟩ v0).setCell ⟨b, 1, none⟩ v1).setCell ⟨b, 2, none⟩ v2).setCell ⟨b, 3, none⟩ v3).cell? ⟨b, 2, none⟩ = some v2 ∧
    ((((w.setCell ⟨b, 0, none⟩ v0).setCell ⟨b, 1, none⟩ v1).setCell ⟨b, 2, none⟩ v2).setCell ⟨b, 3, none⟩ v3).cell? ⟨b, 3, none⟩ = some v3 := by
  refine ⟨?_, ?_, ?_, ?_⟩
  · rw [World.cell?_setCell_other _ _ _ _ (by simp), World.cell?_setCell_other _ _ _ _ (by simp), World.cell?_setCell_other _ _ _ _ (by simp)]
    exact World.cell?_setCell_same _ _ _ r0
  · rw [World.cell?_setCell_other _ _ _ _ (by simp), World.cell?_setCell_other _ _ _ _ (by simp)]
    exact World.cell?_setCell_same _ _ _ ((World.cell?_setCell_other _ _ _ _ (by simp)).trans r1)
  · rw [World.cell?_setCell_other _ _ _ _ (by simp)]
    exact World.cell?_setCell_same _ _ _ ((World.cell?_setCell_other _ _ _ _ (by simp)).trans ((World.cell?_setCell_other _ _ _ _ (by simp)).trans r2))
  · exact World.cell?_setCell_same _ _ _ ((World.cell?_setCell_other _ _ _ _ (by simp)).trans ((World.cell?_setCell_other _ _ _ _ (by simp)).trans ((World.cell?_setCell_other _ _ _ _ (by simp)).trans r3)))
theorem put4B {w V : World} (h : Below w.heap.size w V) (v0 v1 v2 v3 : Value) : Below w.heap.size w ((((V.setCell ⟨w.heap.size, 0, none⟩ v0).setCell ⟨w.heap.size, 1, none⟩ v1).setCell ⟨w.heap.size, 2, none⟩ v2).setCell ⟨w.heap.size, 3, none⟩ v3) :=
  (((h.setCell (p := ⟨w.heap.size, 0, none⟩) (Nat.le_refl _) _).setCell (p := ⟨w.heap.size, 1, none⟩) (Nat.le_refl _) _).setCell (p := ⟨w.heap.size, 2, none⟩) (Nat.le_refl _) _).setCell (p := ⟨w.heap.size, 3, none⟩) (Nat.le_refl _) _

set_option maxHeartbeats 6400000 in
theorem specReadDeed (s : ByteArray) (w : World) (hs : s.size ≤ 1073741824) : Calls Tryd.prog 11 #[.string s] w (ReadPostD s w) := by
  have hz := zd_new w 25
  have HB0 : Hid (Below w.heap.size w (w.alloc (.cells #[.int .i64 0, .string ⟨#[]⟩, .int .i64 0, .int .i64 0] 25))) := (Below.refl _ _).alloc (Nat.le_refl _) _
  generalize hv : w.alloc (.cells #[.int .i64 0, .string ⟨#[]⟩, .int .i64 0, .int .i64 0] 25) = W0 at hz HB0
  have HV : Hid (w.alloc (.cells #[.int .i64 0, .string ⟨#[]⟩, .int .i64 0, .int .i64 0] 25) = W0) := hv
  have HZ : Hid (_) := hz
  have hsp := Kn.l1Split32 s W0 (by omega)
  obtain ⟨P, hP⟩ : ∃ P, split 32 s.data.toList = P := ⟨_, rfl⟩
  have hp0 : 0 < P.length := by rw [← hP]; exact Kn.split_pos 32 [] _
  have hpl : P.length ≤ 1073741825 := by rw [← hP]; have := Kn.split_len 32 [] s.data.toList; unfold Kn.split; simp at this ⊢; omega
  have hpe : Hid (∀ j, (P.getD j []).length ≤ 1073741824) := fun j => by
    by_cases hj : j < P.length
    · have := Kn.piece_len 32 [] s.data.toList (P.getD j []) (by
        have e : P.getD j [] = P[j] := by simp [List.getD, List.getElem?_eq_getElem hj]
        rw [e]
        have : P[j] ∈ P := List.getElem_mem hj
        rw [show Kn.splitGo 32 [] s.data.toList = P from hP]; exact this)
      have h2 : s.data.toList.length = s.size := by simp
      simp only [List.length_nil] at this; omega
    · simp [List.getD, List.getElem?_eq_none (Nat.le_of_not_lt hj)]
  rw [hP] at hsp
  have HP : Hid (split 32 s.data.toList = P) := hP
  clear hv hz hP
  go_enter Tryd.func11, Tryd.ntmps11
  go_wp2_with fail
  rw [HV.out]
  clear HV
  go_wp2_with fail
  refine hsp.mono ?_
  rintro e w1 ⟨ao, ca, rfl, hown, hb1⟩
  clear hsp
  obtain ⟨g, rfl, hg, hlt, hcs⟩ : ∃ g, ao = some ⟨g, 0, none⟩ ∧ W0.heap.size ≤ g ∧ g < w1.heap.size ∧ ∀ j, j < P.length → w1.cell? ⟨g, j, none⟩ = some (.string (B (P.getD j []))) := by
    obtain ⟨g, e, h1, h2⟩ := Kn.ownS_cell hown 0 hp0
    refine ⟨g, e, h1, (World.ownsRow.lt hown g (by rw [e]; rfl)).2, fun j hj => ?_⟩
    obtain ⟨g', e', _, h3⟩ := Kn.ownS_cell hown j hj
    rw [e] at e'; injection e' with e'; injection e' with e'; subst e'
    rw [h3]; simp [List.getD, List.getElem?_eq_getElem hj]
  have HR : Hid (RSt w (w1.alloc (.cells #[.int .i64 0, .string ⟨#[]⟩, .int .i64 0, .int .i64 0] 25)) g w1.heap.size P 0 ⟨#[]⟩ 0 0) := by
    obtain ⟨z0, z1, z2, z3, z4, z5⟩ := HZ.out
    have hb2 : Below W0.heap.size W0 (w1.alloc (.cells #[.int .i64 0, .string ⟨#[]⟩, .int .i64 0, .int .i64 0] 25)) := hb1.alloc hb1.size _
    obtain ⟨y0, y1, y2, y3, y4, y5⟩ := zd_new w1 25
    exact ⟨HB0.out.trans (hb2.mono HB0.out.size), ⟨by have := hb1.size; omega, y0, (hb2.cell (p := ⟨w.heap.size, 0, none⟩) z0).trans z1, (hb2.cell (p := ⟨w.heap.size, 1, none⟩) z0).trans z2, (hb2.cell (p := ⟨w.heap.size, 2, none⟩) z0).trans z3, (hb2.cell (p := ⟨w.heap.size, 3, none⟩) z0).trans z4, fun j => (hb2.frozen (p := ⟨w.heap.size, j, none⟩) z0).trans (z5 j), y1, y2, y3, y4, y5⟩, hlt, by omega, fun j hj => (World.cell?_alloc_lt _ _ ⟨g, j, none⟩ hlt).trans (hcs j hj)⟩
  clear hown hb1 HZ HB0 hg hlt hcs
  go_upto_region 3 with fail
  generalize w1.alloc (.cells #[.int .i64 0, .string ⟨#[]⟩, .int .i64 0, .int .i64 0] 25) = W2 at HR ⊢
  generalize w1.heap.size = x at HR ⊢
  have hpi : (0 : Int) < (P.length : Int) := by omega
  go_wp2_with fail
  go_loopw [6] (fun iv wr => ∃ j : Nat, j ≤ 4 ∧ iv = .int .i64 j ∧ Hid (RSt w wr g x P (kindTo (P.getD 0 []) j) ⟨#[]⟩ 0 0)) (fun iv _ => 4 - (intOf iv).toNat)
  case atStart => exact ⟨0, by omega, rfl, HR⟩
  case round =>
    clear HR
    obtain ⟨j, hj, rfl, HR⟩ := hrel
    by_cases hj4 : j < 4
    · have hji : (j : Int) < 4 := by omega
      rcases (show j = 0 ∨ j = 1 ∨ j = 2 ∨ j = 3 by omega) with rfl | rfl | rfl | rfl
      · have c0 := HR.out.cells 0 hp0
        have ca := (HR.out.alloc (.cells #[.string ⟨#[112, 117, 116]⟩, .string ⟨#[99, 117, 116]⟩, .string ⟨#[97, 100, 100]⟩, .string ⟨#[105, 102]⟩] 9)).cells 0 hp0
        have HRV : Hid (RSt w ((wr.alloc (.cells #[.string ⟨#[112, 117, 116]⟩, .string ⟨#[99, 117, 116]⟩, .string ⟨#[97, 100, 100]⟩, .string ⟨#[105, 102]⟩] 9)).drew) g x P (kindTo (P.getD 0 []) 0) ⟨#[]⟩ 0 0) := (HR.out.alloc _).drew
        rw [show ((0 : Nat) : Int) = 0 from rfl]
        by_cases hx : P.getD 0 [] = kindW 1
        · have HK : Hid (kindTo (P.getD 0 []) (1) = 1) := ((kindTo_succ _ 0).trans (if_pos hx)).trans rfl
          have hb : ((B (P.getD 0 [])).toList == [112, 117, 116]) = true := by rw [Kn.B_list, hx]; rfl
          generalize B (P.getD 0 []) = bp at c0 ca hb
          clear hx HR
          go_wp2_with fail
          go_region
          generalize (wr.alloc (.cells #[.string ⟨#[112, 117, 116]⟩, .string ⟨#[99, 117, 116]⟩, .string ⟨#[97, 100, 100]⟩, .string ⟨#[105, 102]⟩] 9)).drew = V at HRV ⊢
          have k0 := HRV.out.two.k0
          have f0 := HRV.out.two.kf 0
          have HRN : Hid (RSt w (V.setCell ⟨x, 0, none⟩ (.int .i64 (1))) g x P (kindTo (P.getD 0 []) (1)) ⟨#[]⟩ 0 0) := by show RSt _ _ _ _ _ _ _ _ _; rw [HK.out]; exact HRV.out.put 0 _ (HRV.out.two.set0 (1))
          generalize kindTo (P.getD 0 []) 0 = kj at k0
          go_wp2
          go_roundw
          case rel => exact ⟨1, by omega, by first | rfl | go_num, HRN⟩
          case measure => simp [intOf]
        · have HK : Hid (kindTo (P.getD 0 []) (1) = kindTo (P.getD 0 []) 0) := (kindTo_succ _ 0).trans (if_neg hx)
          have hb : ((B (P.getD 0 [])).toList == [112, 117, 116]) = false := by rw [Kn.B_list, beq_eq_false_iff_ne]; exact hx
          generalize B (P.getD 0 []) = bp at c0 ca hb
          clear hx HR
          go_wp2_with fail
          go_region
          generalize (wr.alloc (.cells #[.string ⟨#[112, 117, 116]⟩, .string ⟨#[99, 117, 116]⟩, .string ⟨#[97, 100, 100]⟩, .string ⟨#[105, 102]⟩] 9)).drew = V at HRV ⊢
          have HRN : Hid (RSt w V g x P (kindTo (P.getD 0 []) (1)) ⟨#[]⟩ 0 0) := by show RSt _ _ _ _ _ _ _ _ _; rw [HK.out]; exact HRV.out
          go_wp2
          go_roundw
          case rel => exact ⟨1, by omega, by first | rfl | go_num, HRN⟩
          case measure => simp [intOf]
      · have c0 := HR.out.cells 0 hp0
        have ca := (HR.out.alloc (.cells #[.string ⟨#[112, 117, 116]⟩, .string ⟨#[99, 117, 116]⟩, .string ⟨#[97, 100, 100]⟩, .string ⟨#[105, 102]⟩] 9)).cells 0 hp0
        have HRV : Hid (RSt w ((wr.alloc (.cells #[.string ⟨#[112, 117, 116]⟩, .string ⟨#[99, 117, 116]⟩, .string ⟨#[97, 100, 100]⟩, .string ⟨#[105, 102]⟩] 9)).drew) g x P (kindTo (P.getD 0 []) 1) ⟨#[]⟩ 0 0) := (HR.out.alloc _).drew
        rw [show ((1 : Nat) : Int) = 1 from rfl]
        by_cases hx : P.getD 0 [] = kindW 2
        · have HK : Hid (kindTo (P.getD 0 []) (2) = 2) := ((kindTo_succ _ 1).trans (if_pos hx)).trans rfl
          have hb : ((B (P.getD 0 [])).toList == [99, 117, 116]) = true := by rw [Kn.B_list, hx]; rfl
          generalize B (P.getD 0 []) = bp at c0 ca hb
          clear hx HR
          go_wp2_with fail
          go_region
          generalize (wr.alloc (.cells #[.string ⟨#[112, 117, 116]⟩, .string ⟨#[99, 117, 116]⟩, .string ⟨#[97, 100, 100]⟩, .string ⟨#[105, 102]⟩] 9)).drew = V at HRV ⊢
          have k0 := HRV.out.two.k0
          have f0 := HRV.out.two.kf 0
          have HRN : Hid (RSt w (V.setCell ⟨x, 0, none⟩ (.int .i64 (2))) g x P (kindTo (P.getD 0 []) (2)) ⟨#[]⟩ 0 0) := by show RSt _ _ _ _ _ _ _ _ _; rw [HK.out]; exact HRV.out.put 0 _ (HRV.out.two.set0 (2))
          generalize kindTo (P.getD 0 []) 1 = kj at k0
          go_wp2
          go_roundw
          case rel => exact ⟨2, by omega, by first | rfl | go_num, HRN⟩
          case measure => simp [intOf]
        · have HK : Hid (kindTo (P.getD 0 []) (2) = kindTo (P.getD 0 []) 1) := (kindTo_succ _ 1).trans (if_neg hx)
          have hb : ((B (P.getD 0 [])).toList == [99, 117, 116]) = false := by rw [Kn.B_list, beq_eq_false_iff_ne]; exact hx
          generalize B (P.getD 0 []) = bp at c0 ca hb
          clear hx HR
          go_wp2_with fail
          go_region
          generalize (wr.alloc (.cells #[.string ⟨#[112, 117, 116]⟩, .string ⟨#[99, 117, 116]⟩, .string ⟨#[97, 100, 100]⟩, .string ⟨#[105, 102]⟩] 9)).drew = V at HRV ⊢
          have HRN : Hid (RSt w V g x P (kindTo (P.getD 0 []) (2)) ⟨#[]⟩ 0 0) := by show RSt _ _ _ _ _ _ _ _ _; rw [HK.out]; exact HRV.out
          go_wp2
          go_roundw
          case rel => exact ⟨2, by omega, by first | rfl | go_num, HRN⟩
          case measure => simp [intOf]
      · have c0 := HR.out.cells 0 hp0
        have ca := (HR.out.alloc (.cells #[.string ⟨#[112, 117, 116]⟩, .string ⟨#[99, 117, 116]⟩, .string ⟨#[97, 100, 100]⟩, .string ⟨#[105, 102]⟩] 9)).cells 0 hp0
        have HRV : Hid (RSt w ((wr.alloc (.cells #[.string ⟨#[112, 117, 116]⟩, .string ⟨#[99, 117, 116]⟩, .string ⟨#[97, 100, 100]⟩, .string ⟨#[105, 102]⟩] 9)).drew) g x P (kindTo (P.getD 0 []) 2) ⟨#[]⟩ 0 0) := (HR.out.alloc _).drew
        rw [show ((2 : Nat) : Int) = 2 from rfl]
        by_cases hx : P.getD 0 [] = kindW 3
        · have HK : Hid (kindTo (P.getD 0 []) (3) = 3) := ((kindTo_succ _ 2).trans (if_pos hx)).trans rfl
          have hb : ((B (P.getD 0 [])).toList == [97, 100, 100]) = true := by rw [Kn.B_list, hx]; rfl
          generalize B (P.getD 0 []) = bp at c0 ca hb
          clear hx HR
          go_wp2_with fail
          go_region
          generalize (wr.alloc (.cells #[.string ⟨#[112, 117, 116]⟩, .string ⟨#[99, 117, 116]⟩, .string ⟨#[97, 100, 100]⟩, .string ⟨#[105, 102]⟩] 9)).drew = V at HRV ⊢
          have k0 := HRV.out.two.k0
          have f0 := HRV.out.two.kf 0
          have HRN : Hid (RSt w (V.setCell ⟨x, 0, none⟩ (.int .i64 (3))) g x P (kindTo (P.getD 0 []) (3)) ⟨#[]⟩ 0 0) := by show RSt _ _ _ _ _ _ _ _ _; rw [HK.out]; exact HRV.out.put 0 _ (HRV.out.two.set0 (3))
          generalize kindTo (P.getD 0 []) 2 = kj at k0
          go_wp2
          go_roundw
          case rel => exact ⟨3, by omega, by first | rfl | go_num, HRN⟩
          case measure => simp [intOf]
        · have HK : Hid (kindTo (P.getD 0 []) (3) = kindTo (P.getD 0 []) 2) := (kindTo_succ _ 2).trans (if_neg hx)
          have hb : ((B (P.getD 0 [])).toList == [97, 100, 100]) = false := by rw [Kn.B_list, beq_eq_false_iff_ne]; exact hx
          generalize B (P.getD 0 []) = bp at c0 ca hb
          clear hx HR
          go_wp2_with fail
          go_region
          generalize (wr.alloc (.cells #[.string ⟨#[112, 117, 116]⟩, .string ⟨#[99, 117, 116]⟩, .string ⟨#[97, 100, 100]⟩, .string ⟨#[105, 102]⟩] 9)).drew = V at HRV ⊢
          have HRN : Hid (RSt w V g x P (kindTo (P.getD 0 []) (3)) ⟨#[]⟩ 0 0) := by show RSt _ _ _ _ _ _ _ _ _; rw [HK.out]; exact HRV.out
          go_wp2
          go_roundw
          case rel => exact ⟨3, by omega, by first | rfl | go_num, HRN⟩
          case measure => simp [intOf]
      · have c0 := HR.out.cells 0 hp0
        have ca := (HR.out.alloc (.cells #[.string ⟨#[112, 117, 116]⟩, .string ⟨#[99, 117, 116]⟩, .string ⟨#[97, 100, 100]⟩, .string ⟨#[105, 102]⟩] 9)).cells 0 hp0
        have HRV : Hid (RSt w ((wr.alloc (.cells #[.string ⟨#[112, 117, 116]⟩, .string ⟨#[99, 117, 116]⟩, .string ⟨#[97, 100, 100]⟩, .string ⟨#[105, 102]⟩] 9)).drew) g x P (kindTo (P.getD 0 []) 3) ⟨#[]⟩ 0 0) := (HR.out.alloc _).drew
        rw [show ((3 : Nat) : Int) = 3 from rfl]
        by_cases hx : P.getD 0 [] = kindW 4
        · have HK : Hid (kindTo (P.getD 0 []) (4) = 4) := ((kindTo_succ _ 3).trans (if_pos hx)).trans rfl
          have hb : ((B (P.getD 0 [])).toList == [105, 102]) = true := by rw [Kn.B_list, hx]; rfl
          generalize B (P.getD 0 []) = bp at c0 ca hb
          clear hx HR
          go_wp2_with fail
          go_region
          generalize (wr.alloc (.cells #[.string ⟨#[112, 117, 116]⟩, .string ⟨#[99, 117, 116]⟩, .string ⟨#[97, 100, 100]⟩, .string ⟨#[105, 102]⟩] 9)).drew = V at HRV ⊢
          have k0 := HRV.out.two.k0
          have f0 := HRV.out.two.kf 0
          have HRN : Hid (RSt w (V.setCell ⟨x, 0, none⟩ (.int .i64 (4))) g x P (kindTo (P.getD 0 []) (4)) ⟨#[]⟩ 0 0) := by show RSt _ _ _ _ _ _ _ _ _; rw [HK.out]; exact HRV.out.put 0 _ (HRV.out.two.set0 (4))
          generalize kindTo (P.getD 0 []) 3 = kj at k0
          go_wp2
          go_roundw
          case rel => exact ⟨4, by omega, by first | rfl | go_num, HRN⟩
          case measure => simp [intOf]
        · have HK : Hid (kindTo (P.getD 0 []) (4) = kindTo (P.getD 0 []) 3) := (kindTo_succ _ 3).trans (if_neg hx)
          have hb : ((B (P.getD 0 [])).toList == [105, 102]) = false := by rw [Kn.B_list, beq_eq_false_iff_ne]; exact hx
          generalize B (P.getD 0 []) = bp at c0 ca hb
          clear hx HR
          go_wp2_with fail
          go_region
          generalize (wr.alloc (.cells #[.string ⟨#[112, 117, 116]⟩, .string ⟨#[99, 117, 116]⟩, .string ⟨#[97, 100, 100]⟩, .string ⟨#[105, 102]⟩] 9)).drew = V at HRV ⊢
          have HRN : Hid (RSt w V g x P (kindTo (P.getD 0 []) (4)) ⟨#[]⟩ 0 0) := by show RSt _ _ _ _ _ _ _ _ _; rw [HK.out]; exact HRV.out
          go_wp2
          go_roundw
          case rel => exact ⟨4, by omega, by first | rfl | go_num, HRN⟩
          case measure => simp [intOf]
    · obtain rfl : j = 4 := by omega
      clear hj hj4
      obtain ⟨k, hk⟩ : ∃ k, kindTo (P.getD 0 []) 4 = k := ⟨_, rfl⟩
      have hkb := kindTo_bd (P.getD 0 []) 4
      rw [hk] at HR hkb
      have HK : Hid (kindTo (P.getD 0 []) 4 = k) := hk
      have HNO : Hid (k = 0 ∨ P.length ≠ many k → ∀ d', okD d' = true → showD d' ≠ s.data.toList) := fun h => no_deed HP.out (by rw [hk]; exact h)
      clear hk
      have HDE : Hid (∀ (v n : Int), (2 < P.length → ∃ b, Reads (B (P.getD 2 [])) v b) → (¬ 2 < P.length → v = 0) → (3 < P.length → ∃ b, Reads (B (P.getD 3 [])) n b) → (¬ 3 < P.length → n = 0) → ∀ d', okD d' = true → showD d' = s.data.toList → d' = ⟨k, B (P.getD 1 []), v, n⟩) := fun v n h1 h2 h3 h4 d' o q => the_deed HP.out HK.out rfl h1 h2 h3 h4 o q
      -- the zero deed is answered
      have HZE : Hid (∀ (V : World) (k' : Int) (s' : ByteArray) (v' n' : Int), RSt w V g x P k' s' v' n' → (∀ d', okD d' = true → showD d' ≠ s.data.toList) → (∃ W4, W4 = ((((V.setCell ⟨w.heap.size, 0, none⟩ (.int .i64 0)).setCell ⟨w.heap.size, 1, none⟩ (.string ⟨#[]⟩)).setCell ⟨w.heap.size, 2, none⟩ (.int .i64 0)).setCell ⟨w.heap.size, 3, none⟩ (.int .i64 0)) ∧ W4.cell? ⟨w.heap.size, 0, none⟩ = some (.int .i64 0) ∧ W4.cell? ⟨w.heap.size, 1, none⟩ = some (.string ⟨#[]⟩) ∧ W4.cell? ⟨w.heap.size, 2, none⟩ = some (.int .i64 0) ∧ W4.cell? ⟨w.heap.size, 3, none⟩ = some (.int .i64 0) ∧ ReadPostD s w (.returned (.tuple #[.agg #[.int .i64 0, .string ⟨#[]⟩, .int .i64 0, .int .i64 0], .bool false])) W4)) := fun V k' s' v' n' h hb => by
        obtain ⟨q0, q1, q2, q3⟩ := put4D h.two.r0 h.two.r1 h.two.r2 h.two.r3 (.int .i64 0) (.string ⟨#[]⟩) (.int .i64 0) (.int .i64 0)
        exact ⟨_, rfl, q0, q1, q2, q3, zeroD, false, rfl, .inr ⟨rfl, rfl, hb⟩, put4B h.bel _ _ _ _⟩
      rcases (show k = 0 ∨ k = 1 ∨ k = 2 ∨ k = 3 ∨ k = 4 by omega) with rfl | rfl | rfl | rfl | rfl
      · have k0 := HR.out.two.k0
        have HB := (HNO.out (.inl rfl))
        obtain ⟨W4, hW4, q0, q1, q2, q3, HPO⟩ := HZE.out _ _ _ _ _ HR.out HB
        obtain ⟨_, _, r0, r1, r2, r3, rf, _⟩ := HR.out.two
        have rf0 := rf 0
        have rf1 := rf 1
        have rf2 := rf 2
        have rf3 := rf 3
        have HPH : Hid (ReadPostD s w (.returned (.tuple #[.agg #[.int .i64 0, .string ⟨#[]⟩, .int .i64 0, .int .i64 0], .bool false])) W4) := HPO
        have HW4 : Hid (W4 = _) := hW4
        clear HPO hW4 rf
        go_wp2
        rw [← HW4.out]
        refine bodyPost_ret (v := .tuple #[.agg #[.int .i64 0, .string ⟨#[]⟩, .int .i64 0, .int .i64 0], .bool false]) (by simp [results, Tryd.f11, go_sem, q0, q1, q2, q3]) rfl ?_
        exact HPH.out
      · have k0 := HR.out.two.k0
        have HR1 : Hid (RSt w (wr.alloc (.cells #[.int .i64 0, .int .i64 3, .int .i64 2, .int .i64 3, .int .i64 4] 3)) g x P 1 ⟨#[]⟩ 0 0) := HR.out.alloc _
        have ka := HR1.out.two.k0
        by_cases hm : P.length = 3
        · have hne : ((P.length : Int) != 3) = false := by rw [hm]; rfl
          have c1 := HR1.out.cells 1 (by omega)
          have kf1 := HR1.out.two.kf 1
          have k1 := HR1.out.two.k1
          have hl1 : (1 : Int) < (P.length : Int) := by omega
          have g2 : (2 : Int) < (P.length : Int) := by omega
          have g3 : ¬ (3 : Int) < (P.length : Int) := by omega
          have hks : (B (P.getD 1 [])).size ≤ 1099511627776 := by have := hpe.out 1; rw [Kn.B_size]; omega
          have HR2 : Hid (RSt w ((wr.alloc (.cells #[.int .i64 0, .int .i64 3, .int .i64 2, .int .i64 3, .int .i64 4] 3)).setCell ⟨x, 1, none⟩ (.string (B (P.getD 1 [])))) g x P 1 (B (P.getD 1 [])) 0 0) := HR1.out.put 1 _ (HR1.out.two.set1 _)
          have HM : Hid (P.length = 3) := hm
          clear hm HNO HR
          generalize hkb2 : B (P.getD 1 []) = key at c1 HR2 HDE hks
          clear hkb2
          go_upto_region 12 with fail
          generalize (wr.alloc (.cells #[.int .i64 0, .int .i64 3, .int .i64 2, .int .i64 3, .int .i64 4] 3)).setCell ⟨x, 1, none⟩ (.string key) = V2 at HR2 ⊢
          clear HR1 c1 kf1 k1 ka k0
          have c2 := HR2.out.cells 2 (by have := HM.out; omega)
          have kf2 := HR2.out.two.kf 2
          have k2 := HR2.out.two.k2
          have hrd2 := Kn.l1Read (B (P.getD 2 [])) V2 (by have := hpe.out 2; rw [Kn.B_size]; omega)
          generalize hbq2 : B (P.getD 2 []) = bq2 at c2 hrd2
          have HBQ2 : Hid (B (P.getD 2 []) = bq2) := hbq2
          clear hbq2
          go_wp2_with fail
          refine hrd2.mono ?_
          rintro e w' ⟨v, rb2, rfl, hR2, rfl⟩
          have HRE2 : Hid (Reads (B (P.getD 2 [])) v rb2) := by show Reads _ _ _; rw [HBQ2.out]; exact hR2
          have HR3 : Hid (RSt w (V2.setCell ⟨x, 2, none⟩ (.int .i64 v)) g x P 1 key v 0) := HR2.out.put 2 _ (HR2.out.two.set2 v)
          clear hrd2 hR2
          go_upto_region 15 with fail
          generalize V2.setCell ⟨x, 2, none⟩ (.int .i64 v) = V3 at HR3 ⊢
          clear HR2 c2 kf2 k2
          have HTD : Hid (∀ d', okD d' = true → showD d' = s.data.toList → d' = (⟨1, key, v, 0⟩ : D)) := HDE.out v 0 (fun _ => ⟨_, HRE2.out⟩) (fun h => absurd (by have := HM.out; omega) h) (fun h => absurd h (by have := HM.out; omega)) (fun _ => rfl)
          have hok := specDeedOk 1 key v 0 V3 hks
          obtain ⟨_, _, _, _, _, _, _, k0, k1, k2, k3, _⟩ := HR3.out.two
          clear HDE
          go_wp2_with fail
          refine hok.mono ?_
          rintro e w5 ⟨rfl, hb5⟩
          have HR5 : Hid (RSt w w5 g x P 1 key v 0) := HR3.out.below hb5
          clear hok hb5 k0 k1 k2 k3
          cases ho : okD (⟨1, key, v, 0⟩ : D)
          · have HB : ∀ d', okD d' = true → showD d' ≠ s.data.toList := fun d' o q => by
              have := HTD.out d' o q
              rw [this, ho] at o; cases o
            clear ho HTD
            obtain ⟨W4, hW4, q0, q1, q2, q3, HPO⟩ := HZE.out _ _ _ _ _ HR5.out HB
            obtain ⟨_, _, r0, r1, r2, r3, rf, _⟩ := HR5.out.two
            have rf0 := rf 0
            have rf1 := rf 1
            have rf2 := rf 2
            have rf3 := rf 3
            have HPH : Hid (ReadPostD s w (.returned (.tuple #[.agg #[.int .i64 0, .string ⟨#[]⟩, .int .i64 0, .int .i64 0], .bool false])) W4) := HPO
            have HW4 : Hid (W4 = _) := hW4
            clear HPO hW4 rf
            go_wp2
            rw [← HW4.out]
            refine bodyPost_ret (v := .tuple #[.agg #[.int .i64 0, .string ⟨#[]⟩, .int .i64 0, .int .i64 0], .bool false]) (by simp [results, Tryd.f11, go_sem, q0, q1, q2, q3]) rfl ?_
            exact HPH.out
          · have hsh := l16ShowD (⟨1, key, v, 0⟩ : D) w5 ho
            obtain ⟨_, _, _, _, _, _, _, k0, k1, k2, k3, _⟩ := HR5.out.two
            have HOK : Hid (okD (⟨1, key, v, 0⟩ : D) = true) := ho
            clear ho
            go_wp2_with fail
            refine hsh.mono ?_
            rintro e w6 ⟨rfl, hb6⟩
            have HR6 : Hid (RSt w w6 g x P 1 key v 0) := HR5.out.below hb6
            clear hsh hb6 k0 k1 k2 k3
            by_cases heq : showD (⟨1, key, v, 0⟩ : D) = s.data.toList
            · have hsb : ((B (showD (⟨1, key, v, 0⟩ : D))).toList != s.toList) = false := by
                rw [Kn.B_list, heq, ByteArray.toList_eq]; simp
              have hsb2 : ((B (showD (⟨1, key, v, 0⟩ : D))).toList == s.toList) = true := by
                rw [Kn.B_list, heq, ByteArray.toList_eq]; simp
              have HE : Hid (showD (⟨1, key, v, 0⟩ : D) = s.data.toList) := heq
              generalize B (showD (⟨1, key, v, 0⟩ : D)) = sd at hsb hsb2
              clear heq HTD
              obtain ⟨_, _, r0, r1, r2, r3, rf, k0, k1, k2, k3, _⟩ := HR6.out.two
              have rf0 := rf 0
              have rf1 := rf 1
              have rf2 := rf 2
              have rf3 := rf 3
              clear rf
              have HQ : Hid (_) := put4D r0 r1 r2 r3 (.int .i64 1) (.string key) (.int .i64 v) (.int .i64 0)
              have HBE : Hid (_) := put4B HR6.out.bel (.int .i64 1) (.string key) (.int .i64 v) (.int .i64 0)
              go_wp2
              obtain ⟨q0, q1, q2, q3⟩ := HQ.out
              refine bodyPost_ret (v := .tuple #[.agg #[.int .i64 1, .string key, .int .i64 v, .int .i64 0], .bool true]) (by simp [results, Tryd.f11, go_sem, q0, q1, q2, q3]) rfl ?_
              exact ⟨⟨1, key, v, 0⟩, true, rfl, .inl ⟨rfl, HOK.out, HE.out⟩, HBE.out⟩
            · have hsb : ((B (showD (⟨1, key, v, 0⟩ : D))).toList != s.toList) = true := by
                rw [bne_iff_ne, Kn.B_list, ByteArray.toList_eq]; exact heq
              have hsb2 : ((B (showD (⟨1, key, v, 0⟩ : D))).toList == s.toList) = false := by
                rw [beq_eq_false_iff_ne, Kn.B_list, ByteArray.toList_eq]; exact heq
              have HB : ∀ d', okD d' = true → showD d' ≠ s.data.toList := fun d' o q => by
                have := HTD.out d' o q
                rw [this] at q; exact heq q
              generalize B (showD (⟨1, key, v, 0⟩ : D)) = sd at hsb hsb2
              clear heq HTD
              obtain ⟨W4, hW4, q0, q1, q2, q3, HPO⟩ := HZE.out _ _ _ _ _ HR6.out HB
              obtain ⟨_, _, r0, r1, r2, r3, rf, _⟩ := HR6.out.two
              have rf0 := rf 0
              have rf1 := rf 1
              have rf2 := rf 2
              have rf3 := rf 3
              have HPH : Hid (ReadPostD s w (.returned (.tuple #[.agg #[.int .i64 0, .string ⟨#[]⟩, .int .i64 0, .int .i64 0], .bool false])) W4) := HPO
              have HW4 : Hid (W4 = _) := hW4
              clear HPO hW4 rf
              go_wp2
              rw [← HW4.out]
              refine bodyPost_ret (v := .tuple #[.agg #[.int .i64 0, .string ⟨#[]⟩, .int .i64 0, .int .i64 0], .bool false]) (by simp [results, Tryd.f11, go_sem, q0, q1, q2, q3]) rfl ?_
              exact HPH.out
        · have hne : ((P.length : Int) != 3) = true := by simpa using (by omega : ¬ (P.length : Int) = 3)
          have HB : ∀ d', okD d' = true → showD d' ≠ s.data.toList := HNO.out (.inr hm)
          clear hm HNO HR HDE
          go_upto_region 9 with fail
          generalize wr.alloc (.cells #[.int .i64 0, .int .i64 3, .int .i64 2, .int .i64 3, .int .i64 4] 3) = V1 at HR1 ka ⊢
          obtain ⟨W4, hW4, q0, q1, q2, q3, HPO⟩ := HZE.out _ _ _ _ _ HR1.out HB
          obtain ⟨_, _, r0, r1, r2, r3, rf, _⟩ := HR1.out.two
          have rf0 := rf 0
          have rf1 := rf 1
          have rf2 := rf 2
          have rf3 := rf 3
          have HPH : Hid (ReadPostD s w (.returned (.tuple #[.agg #[.int .i64 0, .string ⟨#[]⟩, .int .i64 0, .int .i64 0], .bool false])) W4) := HPO
          have HW4 : Hid (W4 = _) := hW4
          clear HPO hW4 rf
          go_wp2
          rw [← HW4.out]
          refine bodyPost_ret (v := .tuple #[.agg #[.int .i64 0, .string ⟨#[]⟩, .int .i64 0, .int .i64 0], .bool false]) (by simp [results, Tryd.f11, go_sem, q0, q1, q2, q3]) rfl ?_
          exact HPH.out
      · have k0 := HR.out.two.k0
        have HR1 : Hid (RSt w (wr.alloc (.cells #[.int .i64 0, .int .i64 3, .int .i64 2, .int .i64 3, .int .i64 4] 3)) g x P 2 ⟨#[]⟩ 0 0) := HR.out.alloc _
        have ka := HR1.out.two.k0
        by_cases hm : P.length = 2
        · have hne : ((P.length : Int) != 2) = false := by rw [hm]; rfl
          have c1 := HR1.out.cells 1 (by omega)
          have kf1 := HR1.out.two.kf 1
          have k1 := HR1.out.two.k1
          have hl1 : (1 : Int) < (P.length : Int) := by omega
          have g2 : ¬ (2 : Int) < (P.length : Int) := by omega
          have g3 : ¬ (3 : Int) < (P.length : Int) := by omega
          have hks : (B (P.getD 1 [])).size ≤ 1099511627776 := by have := hpe.out 1; rw [Kn.B_size]; omega
          have HR2 : Hid (RSt w ((wr.alloc (.cells #[.int .i64 0, .int .i64 3, .int .i64 2, .int .i64 3, .int .i64 4] 3)).setCell ⟨x, 1, none⟩ (.string (B (P.getD 1 [])))) g x P 2 (B (P.getD 1 [])) 0 0) := HR1.out.put 1 _ (HR1.out.two.set1 _)
          have HM : Hid (P.length = 2) := hm
          clear hm HNO HR
          generalize hkb2 : B (P.getD 1 []) = key at c1 HR2 HDE hks
          clear hkb2
          go_upto_region 15 with fail
          generalize (wr.alloc (.cells #[.int .i64 0, .int .i64 3, .int .i64 2, .int .i64 3, .int .i64 4] 3)).setCell ⟨x, 1, none⟩ (.string key) = V2 at HR2 ⊢
          clear HR1 c1 kf1 k1 ka k0
          have HTD : Hid (∀ d', okD d' = true → showD d' = s.data.toList → d' = (⟨2, key, 0, 0⟩ : D)) := HDE.out 0 0 (fun h => absurd h (by have := HM.out; omega)) (fun _ => rfl) (fun h => absurd h (by have := HM.out; omega)) (fun _ => rfl)
          have hok := specDeedOk 2 key 0 0 V2 hks
          obtain ⟨_, _, _, _, _, _, _, k0, k1, k2, k3, _⟩ := HR2.out.two
          clear HDE
          go_wp2_with fail
          refine hok.mono ?_
          rintro e w5 ⟨rfl, hb5⟩
          have HR5 : Hid (RSt w w5 g x P 2 key 0 0) := HR2.out.below hb5
          clear hok hb5 k0 k1 k2 k3
          cases ho : okD (⟨2, key, 0, 0⟩ : D)
          · have HB : ∀ d', okD d' = true → showD d' ≠ s.data.toList := fun d' o q => by
              have := HTD.out d' o q
              rw [this, ho] at o; cases o
            clear ho HTD
            obtain ⟨W4, hW4, q0, q1, q2, q3, HPO⟩ := HZE.out _ _ _ _ _ HR5.out HB
            obtain ⟨_, _, r0, r1, r2, r3, rf, _⟩ := HR5.out.two
            have rf0 := rf 0
            have rf1 := rf 1
            have rf2 := rf 2
            have rf3 := rf 3
            have HPH : Hid (ReadPostD s w (.returned (.tuple #[.agg #[.int .i64 0, .string ⟨#[]⟩, .int .i64 0, .int .i64 0], .bool false])) W4) := HPO
            have HW4 : Hid (W4 = _) := hW4
            clear HPO hW4 rf
            go_wp2
            rw [← HW4.out]
            refine bodyPost_ret (v := .tuple #[.agg #[.int .i64 0, .string ⟨#[]⟩, .int .i64 0, .int .i64 0], .bool false]) (by simp [results, Tryd.f11, go_sem, q0, q1, q2, q3]) rfl ?_
            exact HPH.out
          · have hsh := l16ShowD (⟨2, key, 0, 0⟩ : D) w5 ho
            obtain ⟨_, _, _, _, _, _, _, k0, k1, k2, k3, _⟩ := HR5.out.two
            have HOK : Hid (okD (⟨2, key, 0, 0⟩ : D) = true) := ho
            clear ho
            go_wp2_with fail
            refine hsh.mono ?_
            rintro e w6 ⟨rfl, hb6⟩
            have HR6 : Hid (RSt w w6 g x P 2 key 0 0) := HR5.out.below hb6
            clear hsh hb6 k0 k1 k2 k3
            by_cases heq : showD (⟨2, key, 0, 0⟩ : D) = s.data.toList
            · have hsb : ((B (showD (⟨2, key, 0, 0⟩ : D))).toList != s.toList) = false := by
                rw [Kn.B_list, heq, ByteArray.toList_eq]; simp
              have hsb2 : ((B (showD (⟨2, key, 0, 0⟩ : D))).toList == s.toList) = true := by
                rw [Kn.B_list, heq, ByteArray.toList_eq]; simp
              have HE : Hid (showD (⟨2, key, 0, 0⟩ : D) = s.data.toList) := heq
              generalize B (showD (⟨2, key, 0, 0⟩ : D)) = sd at hsb hsb2
              clear heq HTD
              obtain ⟨_, _, r0, r1, r2, r3, rf, k0, k1, k2, k3, _⟩ := HR6.out.two
              have rf0 := rf 0
              have rf1 := rf 1
              have rf2 := rf 2
              have rf3 := rf 3
              clear rf
              have HQ : Hid (_) := put4D r0 r1 r2 r3 (.int .i64 2) (.string key) (.int .i64 0) (.int .i64 0)
              have HBE : Hid (_) := put4B HR6.out.bel (.int .i64 2) (.string key) (.int .i64 0) (.int .i64 0)
              go_wp2
              obtain ⟨q0, q1, q2, q3⟩ := HQ.out
              refine bodyPost_ret (v := .tuple #[.agg #[.int .i64 2, .string key, .int .i64 0, .int .i64 0], .bool true]) (by simp [results, Tryd.f11, go_sem, q0, q1, q2, q3]) rfl ?_
              exact ⟨⟨2, key, 0, 0⟩, true, rfl, .inl ⟨rfl, HOK.out, HE.out⟩, HBE.out⟩
            · have hsb : ((B (showD (⟨2, key, 0, 0⟩ : D))).toList != s.toList) = true := by
                rw [bne_iff_ne, Kn.B_list, ByteArray.toList_eq]; exact heq
              have hsb2 : ((B (showD (⟨2, key, 0, 0⟩ : D))).toList == s.toList) = false := by
                rw [beq_eq_false_iff_ne, Kn.B_list, ByteArray.toList_eq]; exact heq
              have HB : ∀ d', okD d' = true → showD d' ≠ s.data.toList := fun d' o q => by
                have := HTD.out d' o q
                rw [this] at q; exact heq q
              generalize B (showD (⟨2, key, 0, 0⟩ : D)) = sd at hsb hsb2
              clear heq HTD
              obtain ⟨W4, hW4, q0, q1, q2, q3, HPO⟩ := HZE.out _ _ _ _ _ HR6.out HB
              obtain ⟨_, _, r0, r1, r2, r3, rf, _⟩ := HR6.out.two
              have rf0 := rf 0
              have rf1 := rf 1
              have rf2 := rf 2
              have rf3 := rf 3
              have HPH : Hid (ReadPostD s w (.returned (.tuple #[.agg #[.int .i64 0, .string ⟨#[]⟩, .int .i64 0, .int .i64 0], .bool false])) W4) := HPO
              have HW4 : Hid (W4 = _) := hW4
              clear HPO hW4 rf
              go_wp2
              rw [← HW4.out]
              refine bodyPost_ret (v := .tuple #[.agg #[.int .i64 0, .string ⟨#[]⟩, .int .i64 0, .int .i64 0], .bool false]) (by simp [results, Tryd.f11, go_sem, q0, q1, q2, q3]) rfl ?_
              exact HPH.out
        · have hne : ((P.length : Int) != 2) = true := by simpa using (by omega : ¬ (P.length : Int) = 2)
          have HB : ∀ d', okD d' = true → showD d' ≠ s.data.toList := HNO.out (.inr hm)
          clear hm HNO HR HDE
          go_upto_region 9 with fail
          generalize wr.alloc (.cells #[.int .i64 0, .int .i64 3, .int .i64 2, .int .i64 3, .int .i64 4] 3) = V1 at HR1 ka ⊢
          obtain ⟨W4, hW4, q0, q1, q2, q3, HPO⟩ := HZE.out _ _ _ _ _ HR1.out HB
          obtain ⟨_, _, r0, r1, r2, r3, rf, _⟩ := HR1.out.two
          have rf0 := rf 0
          have rf1 := rf 1
          have rf2 := rf 2
          have rf3 := rf 3
          have HPH : Hid (ReadPostD s w (.returned (.tuple #[.agg #[.int .i64 0, .string ⟨#[]⟩, .int .i64 0, .int .i64 0], .bool false])) W4) := HPO
          have HW4 : Hid (W4 = _) := hW4
          clear HPO hW4 rf
          go_wp2
          rw [← HW4.out]
          refine bodyPost_ret (v := .tuple #[.agg #[.int .i64 0, .string ⟨#[]⟩, .int .i64 0, .int .i64 0], .bool false]) (by simp [results, Tryd.f11, go_sem, q0, q1, q2, q3]) rfl ?_
          exact HPH.out
      · have k0 := HR.out.two.k0
        have HR1 : Hid (RSt w (wr.alloc (.cells #[.int .i64 0, .int .i64 3, .int .i64 2, .int .i64 3, .int .i64 4] 3)) g x P 3 ⟨#[]⟩ 0 0) := HR.out.alloc _
        have ka := HR1.out.two.k0
        by_cases hm : P.length = 3
        · have hne : ((P.length : Int) != 3) = false := by rw [hm]; rfl
          have c1 := HR1.out.cells 1 (by omega)
          have kf1 := HR1.out.two.kf 1
          have k1 := HR1.out.two.k1
          have hl1 : (1 : Int) < (P.length : Int) := by omega
          have g2 : (2 : Int) < (P.length : Int) := by omega
          have g3 : ¬ (3 : Int) < (P.length : Int) := by omega
          have hks : (B (P.getD 1 [])).size ≤ 1099511627776 := by have := hpe.out 1; rw [Kn.B_size]; omega
          have HR2 : Hid (RSt w ((wr.alloc (.cells #[.int .i64 0, .int .i64 3, .int .i64 2, .int .i64 3, .int .i64 4] 3)).setCell ⟨x, 1, none⟩ (.string (B (P.getD 1 [])))) g x P 3 (B (P.getD 1 [])) 0 0) := HR1.out.put 1 _ (HR1.out.two.set1 _)
          have HM : Hid (P.length = 3) := hm
          clear hm HNO HR
          generalize hkb2 : B (P.getD 1 []) = key at c1 HR2 HDE hks
          clear hkb2
          go_upto_region 12 with fail
          generalize (wr.alloc (.cells #[.int .i64 0, .int .i64 3, .int .i64 2, .int .i64 3, .int .i64 4] 3)).setCell ⟨x, 1, none⟩ (.string key) = V2 at HR2 ⊢
          clear HR1 c1 kf1 k1 ka k0
          have c2 := HR2.out.cells 2 (by have := HM.out; omega)
          have kf2 := HR2.out.two.kf 2
          have k2 := HR2.out.two.k2
          have hrd2 := Kn.l1Read (B (P.getD 2 [])) V2 (by have := hpe.out 2; rw [Kn.B_size]; omega)
          generalize hbq2 : B (P.getD 2 []) = bq2 at c2 hrd2
          have HBQ2 : Hid (B (P.getD 2 []) = bq2) := hbq2
          clear hbq2
          go_wp2_with fail
          refine hrd2.mono ?_
          rintro e w' ⟨v, rb2, rfl, hR2, rfl⟩
          have HRE2 : Hid (Reads (B (P.getD 2 [])) v rb2) := by show Reads _ _ _; rw [HBQ2.out]; exact hR2
          have HR3 : Hid (RSt w (V2.setCell ⟨x, 2, none⟩ (.int .i64 v)) g x P 3 key v 0) := HR2.out.put 2 _ (HR2.out.two.set2 v)
          clear hrd2 hR2
          go_upto_region 15 with fail
          generalize V2.setCell ⟨x, 2, none⟩ (.int .i64 v) = V3 at HR3 ⊢
          clear HR2 c2 kf2 k2
          have HTD : Hid (∀ d', okD d' = true → showD d' = s.data.toList → d' = (⟨3, key, v, 0⟩ : D)) := HDE.out v 0 (fun _ => ⟨_, HRE2.out⟩) (fun h => absurd (by have := HM.out; omega) h) (fun h => absurd h (by have := HM.out; omega)) (fun _ => rfl)
          have hok := specDeedOk 3 key v 0 V3 hks
          obtain ⟨_, _, _, _, _, _, _, k0, k1, k2, k3, _⟩ := HR3.out.two
          clear HDE
          go_wp2_with fail
          refine hok.mono ?_
          rintro e w5 ⟨rfl, hb5⟩
          have HR5 : Hid (RSt w w5 g x P 3 key v 0) := HR3.out.below hb5
          clear hok hb5 k0 k1 k2 k3
          cases ho : okD (⟨3, key, v, 0⟩ : D)
          · have HB : ∀ d', okD d' = true → showD d' ≠ s.data.toList := fun d' o q => by
              have := HTD.out d' o q
              rw [this, ho] at o; cases o
            clear ho HTD
            obtain ⟨W4, hW4, q0, q1, q2, q3, HPO⟩ := HZE.out _ _ _ _ _ HR5.out HB
            obtain ⟨_, _, r0, r1, r2, r3, rf, _⟩ := HR5.out.two
            have rf0 := rf 0
            have rf1 := rf 1
            have rf2 := rf 2
            have rf3 := rf 3
            have HPH : Hid (ReadPostD s w (.returned (.tuple #[.agg #[.int .i64 0, .string ⟨#[]⟩, .int .i64 0, .int .i64 0], .bool false])) W4) := HPO
            have HW4 : Hid (W4 = _) := hW4
            clear HPO hW4 rf
            go_wp2
            rw [← HW4.out]
            refine bodyPost_ret (v := .tuple #[.agg #[.int .i64 0, .string ⟨#[]⟩, .int .i64 0, .int .i64 0], .bool false]) (by simp [results, Tryd.f11, go_sem, q0, q1, q2, q3]) rfl ?_
            exact HPH.out
          · have hsh := l16ShowD (⟨3, key, v, 0⟩ : D) w5 ho
            obtain ⟨_, _, _, _, _, _, _, k0, k1, k2, k3, _⟩ := HR5.out.two
            have HOK : Hid (okD (⟨3, key, v, 0⟩ : D) = true) := ho
            clear ho
            go_wp2_with fail
            refine hsh.mono ?_
            rintro e w6 ⟨rfl, hb6⟩
            have HR6 : Hid (RSt w w6 g x P 3 key v 0) := HR5.out.below hb6
            clear hsh hb6 k0 k1 k2 k3
            by_cases heq : showD (⟨3, key, v, 0⟩ : D) = s.data.toList
            · have hsb : ((B (showD (⟨3, key, v, 0⟩ : D))).toList != s.toList) = false := by
                rw [Kn.B_list, heq, ByteArray.toList_eq]; simp
              have hsb2 : ((B (showD (⟨3, key, v, 0⟩ : D))).toList == s.toList) = true := by
                rw [Kn.B_list, heq, ByteArray.toList_eq]; simp
              have HE : Hid (showD (⟨3, key, v, 0⟩ : D) = s.data.toList) := heq
              generalize B (showD (⟨3, key, v, 0⟩ : D)) = sd at hsb hsb2
              clear heq HTD
              obtain ⟨_, _, r0, r1, r2, r3, rf, k0, k1, k2, k3, _⟩ := HR6.out.two
              have rf0 := rf 0
              have rf1 := rf 1
              have rf2 := rf 2
              have rf3 := rf 3
              clear rf
              have HQ : Hid (_) := put4D r0 r1 r2 r3 (.int .i64 3) (.string key) (.int .i64 v) (.int .i64 0)
              have HBE : Hid (_) := put4B HR6.out.bel (.int .i64 3) (.string key) (.int .i64 v) (.int .i64 0)
              go_wp2
              obtain ⟨q0, q1, q2, q3⟩ := HQ.out
              refine bodyPost_ret (v := .tuple #[.agg #[.int .i64 3, .string key, .int .i64 v, .int .i64 0], .bool true]) (by simp [results, Tryd.f11, go_sem, q0, q1, q2, q3]) rfl ?_
              exact ⟨⟨3, key, v, 0⟩, true, rfl, .inl ⟨rfl, HOK.out, HE.out⟩, HBE.out⟩
            · have hsb : ((B (showD (⟨3, key, v, 0⟩ : D))).toList != s.toList) = true := by
                rw [bne_iff_ne, Kn.B_list, ByteArray.toList_eq]; exact heq
              have hsb2 : ((B (showD (⟨3, key, v, 0⟩ : D))).toList == s.toList) = false := by
                rw [beq_eq_false_iff_ne, Kn.B_list, ByteArray.toList_eq]; exact heq
              have HB : ∀ d', okD d' = true → showD d' ≠ s.data.toList := fun d' o q => by
                have := HTD.out d' o q
                rw [this] at q; exact heq q
              generalize B (showD (⟨3, key, v, 0⟩ : D)) = sd at hsb hsb2
              clear heq HTD
              obtain ⟨W4, hW4, q0, q1, q2, q3, HPO⟩ := HZE.out _ _ _ _ _ HR6.out HB
              obtain ⟨_, _, r0, r1, r2, r3, rf, _⟩ := HR6.out.two
              have rf0 := rf 0
              have rf1 := rf 1
              have rf2 := rf 2
              have rf3 := rf 3
              have HPH : Hid (ReadPostD s w (.returned (.tuple #[.agg #[.int .i64 0, .string ⟨#[]⟩, .int .i64 0, .int .i64 0], .bool false])) W4) := HPO
              have HW4 : Hid (W4 = _) := hW4
              clear HPO hW4 rf
              go_wp2
              rw [← HW4.out]
              refine bodyPost_ret (v := .tuple #[.agg #[.int .i64 0, .string ⟨#[]⟩, .int .i64 0, .int .i64 0], .bool false]) (by simp [results, Tryd.f11, go_sem, q0, q1, q2, q3]) rfl ?_
              exact HPH.out
        · have hne : ((P.length : Int) != 3) = true := by simpa using (by omega : ¬ (P.length : Int) = 3)
          have HB : ∀ d', okD d' = true → showD d' ≠ s.data.toList := HNO.out (.inr hm)
          clear hm HNO HR HDE
          go_upto_region 9 with fail
          generalize wr.alloc (.cells #[.int .i64 0, .int .i64 3, .int .i64 2, .int .i64 3, .int .i64 4] 3) = V1 at HR1 ka ⊢
          obtain ⟨W4, hW4, q0, q1, q2, q3, HPO⟩ := HZE.out _ _ _ _ _ HR1.out HB
          obtain ⟨_, _, r0, r1, r2, r3, rf, _⟩ := HR1.out.two
          have rf0 := rf 0
          have rf1 := rf 1
          have rf2 := rf 2
          have rf3 := rf 3
          have HPH : Hid (ReadPostD s w (.returned (.tuple #[.agg #[.int .i64 0, .string ⟨#[]⟩, .int .i64 0, .int .i64 0], .bool false])) W4) := HPO
          have HW4 : Hid (W4 = _) := hW4
          clear HPO hW4 rf
          go_wp2
          rw [← HW4.out]
          refine bodyPost_ret (v := .tuple #[.agg #[.int .i64 0, .string ⟨#[]⟩, .int .i64 0, .int .i64 0], .bool false]) (by simp [results, Tryd.f11, go_sem, q0, q1, q2, q3]) rfl ?_
          exact HPH.out
      · have k0 := HR.out.two.k0
        have HR1 : Hid (RSt w (wr.alloc (.cells #[.int .i64 0, .int .i64 3, .int .i64 2, .int .i64 3, .int .i64 4] 3)) g x P 4 ⟨#[]⟩ 0 0) := HR.out.alloc _
        have ka := HR1.out.two.k0
        by_cases hm : P.length = 4
        · have hne : ((P.length : Int) != 4) = false := by rw [hm]; rfl
          have c1 := HR1.out.cells 1 (by omega)
          have kf1 := HR1.out.two.kf 1
          have k1 := HR1.out.two.k1
          have hl1 : (1 : Int) < (P.length : Int) := by omega
          have g2 : (2 : Int) < (P.length : Int) := by omega
          have g3 : (3 : Int) < (P.length : Int) := by omega
          have hks : (B (P.getD 1 [])).size ≤ 1099511627776 := by have := hpe.out 1; rw [Kn.B_size]; omega
          have HR2 : Hid (RSt w ((wr.alloc (.cells #[.int .i64 0, .int .i64 3, .int .i64 2, .int .i64 3, .int .i64 4] 3)).setCell ⟨x, 1, none⟩ (.string (B (P.getD 1 [])))) g x P 4 (B (P.getD 1 [])) 0 0) := HR1.out.put 1 _ (HR1.out.two.set1 _)
          have HM : Hid (P.length = 4) := hm
          clear hm HNO HR
          generalize hkb2 : B (P.getD 1 []) = key at c1 HR2 HDE hks
          clear hkb2
          go_upto_region 12 with fail
          generalize (wr.alloc (.cells #[.int .i64 0, .int .i64 3, .int .i64 2, .int .i64 3, .int .i64 4] 3)).setCell ⟨x, 1, none⟩ (.string key) = V2 at HR2 ⊢
          clear HR1 c1 kf1 k1 ka k0
          have c2 := HR2.out.cells 2 (by have := HM.out; omega)
          have kf2 := HR2.out.two.kf 2
          have k2 := HR2.out.two.k2
          have hrd2 := Kn.l1Read (B (P.getD 2 [])) V2 (by have := hpe.out 2; rw [Kn.B_size]; omega)
          generalize hbq2 : B (P.getD 2 []) = bq2 at c2 hrd2
          have HBQ2 : Hid (B (P.getD 2 []) = bq2) := hbq2
          clear hbq2
          go_wp2_with fail
          refine hrd2.mono ?_
          rintro e w' ⟨v, rb2, rfl, hR2, rfl⟩
          have HRE2 : Hid (Reads (B (P.getD 2 [])) v rb2) := by show Reads _ _ _; rw [HBQ2.out]; exact hR2
          have HR3 : Hid (RSt w (V2.setCell ⟨x, 2, none⟩ (.int .i64 v)) g x P 4 key v 0) := HR2.out.put 2 _ (HR2.out.two.set2 v)
          clear hrd2 hR2
          go_upto_region 14 with fail
          generalize V2.setCell ⟨x, 2, none⟩ (.int .i64 v) = V3 at HR3 ⊢
          clear HR2 c2 kf2 k2
          have c3 := HR3.out.cells 3 (by have := HM.out; omega)
          have kf3 := HR3.out.two.kf 3
          have k3 := HR3.out.two.k3
          have hrd3 := Kn.l1Read (B (P.getD 3 [])) V3 (by have := hpe.out 3; rw [Kn.B_size]; omega)
          generalize hbq3 : B (P.getD 3 []) = bq3 at c3 hrd3
          have HBQ3 : Hid (B (P.getD 3 []) = bq3) := hbq3
          clear hbq3
          go_wp2_with fail
          refine hrd3.mono ?_
          rintro e w' ⟨n, rb3, rfl, hR3, rfl⟩
          have HRE3 : Hid (Reads (B (P.getD 3 [])) n rb3) := by show Reads _ _ _; rw [HBQ3.out]; exact hR3
          have HR4 : Hid (RSt w (V3.setCell ⟨x, 3, none⟩ (.int .i64 n)) g x P 4 key v n) := HR3.out.put 3 _ (HR3.out.two.set3 n)
          clear hrd3 hR3
          go_upto_region 15 with fail
          generalize V3.setCell ⟨x, 3, none⟩ (.int .i64 n) = V4 at HR4 ⊢
          clear HR3 c3 kf3 k3
          have HTD : Hid (∀ d', okD d' = true → showD d' = s.data.toList → d' = (⟨4, key, v, n⟩ : D)) := HDE.out v n (fun _ => ⟨_, HRE2.out⟩) (fun h => absurd (by have := HM.out; omega) h) (fun _ => ⟨_, HRE3.out⟩) (fun h => absurd (by have := HM.out; omega) h)
          have hok := specDeedOk 4 key v n V4 hks
          obtain ⟨_, _, _, _, _, _, _, k0, k1, k2, k3, _⟩ := HR4.out.two
          clear HDE
          go_wp2_with fail
          refine hok.mono ?_
          rintro e w5 ⟨rfl, hb5⟩
          have HR5 : Hid (RSt w w5 g x P 4 key v n) := HR4.out.below hb5
          clear hok hb5 k0 k1 k2 k3
          cases ho : okD (⟨4, key, v, n⟩ : D)
          · have HB : ∀ d', okD d' = true → showD d' ≠ s.data.toList := fun d' o q => by
              have := HTD.out d' o q
              rw [this, ho] at o; cases o
            clear ho HTD
            obtain ⟨W4, hW4, q0, q1, q2, q3, HPO⟩ := HZE.out _ _ _ _ _ HR5.out HB
            obtain ⟨_, _, r0, r1, r2, r3, rf, _⟩ := HR5.out.two
            have rf0 := rf 0
            have rf1 := rf 1
            have rf2 := rf 2
            have rf3 := rf 3
            have HPH : Hid (ReadPostD s w (.returned (.tuple #[.agg #[.int .i64 0, .string ⟨#[]⟩, .int .i64 0, .int .i64 0], .bool false])) W4) := HPO
            have HW4 : Hid (W4 = _) := hW4
            clear HPO hW4 rf
            go_wp2
            rw [← HW4.out]
            refine bodyPost_ret (v := .tuple #[.agg #[.int .i64 0, .string ⟨#[]⟩, .int .i64 0, .int .i64 0], .bool false]) (by simp [results, Tryd.f11, go_sem, q0, q1, q2, q3]) rfl ?_
            exact HPH.out
          · have hsh := l16ShowD (⟨4, key, v, n⟩ : D) w5 ho
            obtain ⟨_, _, _, _, _, _, _, k0, k1, k2, k3, _⟩ := HR5.out.two
            have HOK : Hid (okD (⟨4, key, v, n⟩ : D) = true) := ho
            clear ho
            go_wp2_with fail
            refine hsh.mono ?_
            rintro e w6 ⟨rfl, hb6⟩
            have HR6 : Hid (RSt w w6 g x P 4 key v n) := HR5.out.below hb6
            clear hsh hb6 k0 k1 k2 k3
            by_cases heq : showD (⟨4, key, v, n⟩ : D) = s.data.toList
            · have hsb : ((B (showD (⟨4, key, v, n⟩ : D))).toList != s.toList) = false := by
                rw [Kn.B_list, heq, ByteArray.toList_eq]; simp
              have hsb2 : ((B (showD (⟨4, key, v, n⟩ : D))).toList == s.toList) = true := by
                rw [Kn.B_list, heq, ByteArray.toList_eq]; simp
              have HE : Hid (showD (⟨4, key, v, n⟩ : D) = s.data.toList) := heq
              generalize B (showD (⟨4, key, v, n⟩ : D)) = sd at hsb hsb2
              clear heq HTD
              obtain ⟨_, _, r0, r1, r2, r3, rf, k0, k1, k2, k3, _⟩ := HR6.out.two
              have rf0 := rf 0
              have rf1 := rf 1
              have rf2 := rf 2
              have rf3 := rf 3
              clear rf
              have HQ : Hid (_) := put4D r0 r1 r2 r3 (.int .i64 4) (.string key) (.int .i64 v) (.int .i64 n)
              have HBE : Hid (_) := put4B HR6.out.bel (.int .i64 4) (.string key) (.int .i64 v) (.int .i64 n)
              go_wp2
              obtain ⟨q0, q1, q2, q3⟩ := HQ.out
              refine bodyPost_ret (v := .tuple #[.agg #[.int .i64 4, .string key, .int .i64 v, .int .i64 n], .bool true]) (by simp [results, Tryd.f11, go_sem, q0, q1, q2, q3]) rfl ?_
              exact ⟨⟨4, key, v, n⟩, true, rfl, .inl ⟨rfl, HOK.out, HE.out⟩, HBE.out⟩
            · have hsb : ((B (showD (⟨4, key, v, n⟩ : D))).toList != s.toList) = true := by
                rw [bne_iff_ne, Kn.B_list, ByteArray.toList_eq]; exact heq
              have hsb2 : ((B (showD (⟨4, key, v, n⟩ : D))).toList == s.toList) = false := by
                rw [beq_eq_false_iff_ne, Kn.B_list, ByteArray.toList_eq]; exact heq
              have HB : ∀ d', okD d' = true → showD d' ≠ s.data.toList := fun d' o q => by
                have := HTD.out d' o q
                rw [this] at q; exact heq q
              generalize B (showD (⟨4, key, v, n⟩ : D)) = sd at hsb hsb2
              clear heq HTD
              obtain ⟨W4, hW4, q0, q1, q2, q3, HPO⟩ := HZE.out _ _ _ _ _ HR6.out HB
              obtain ⟨_, _, r0, r1, r2, r3, rf, _⟩ := HR6.out.two
              have rf0 := rf 0
              have rf1 := rf 1
              have rf2 := rf 2
              have rf3 := rf 3
              have HPH : Hid (ReadPostD s w (.returned (.tuple #[.agg #[.int .i64 0, .string ⟨#[]⟩, .int .i64 0, .int .i64 0], .bool false])) W4) := HPO
              have HW4 : Hid (W4 = _) := hW4
              clear HPO hW4 rf
              go_wp2
              rw [← HW4.out]
              refine bodyPost_ret (v := .tuple #[.agg #[.int .i64 0, .string ⟨#[]⟩, .int .i64 0, .int .i64 0], .bool false]) (by simp [results, Tryd.f11, go_sem, q0, q1, q2, q3]) rfl ?_
              exact HPH.out
        · have hne : ((P.length : Int) != 4) = true := by simpa using (by omega : ¬ (P.length : Int) = 4)
          have HB : ∀ d', okD d' = true → showD d' ≠ s.data.toList := HNO.out (.inr hm)
          clear hm HNO HR HDE
          go_upto_region 9 with fail
          generalize wr.alloc (.cells #[.int .i64 0, .int .i64 3, .int .i64 2, .int .i64 3, .int .i64 4] 3) = V1 at HR1 ka ⊢
          obtain ⟨W4, hW4, q0, q1, q2, q3, HPO⟩ := HZE.out _ _ _ _ _ HR1.out HB
          obtain ⟨_, _, r0, r1, r2, r3, rf, _⟩ := HR1.out.two
          have rf0 := rf 0
          have rf1 := rf 1
          have rf2 := rf 2
          have rf3 := rf 3
          have HPH : Hid (ReadPostD s w (.returned (.tuple #[.agg #[.int .i64 0, .string ⟨#[]⟩, .int .i64 0, .int .i64 0], .bool false])) W4) := HPO
          have HW4 : Hid (W4 = _) := hW4
          clear HPO hW4 rf
          go_wp2
          rw [← HW4.out]
          refine bodyPost_ret (v := .tuple #[.agg #[.int .i64 0, .string ⟨#[]⟩, .int .i64 0, .int .i64 0], .bool false]) (by simp [results, Tryd.f11, go_sem, q0, q1, q2, q3]) rfl ?_
          exact HPH.out

end De
end Go.Proofs.YtghpmhfhenndiaaDoor
