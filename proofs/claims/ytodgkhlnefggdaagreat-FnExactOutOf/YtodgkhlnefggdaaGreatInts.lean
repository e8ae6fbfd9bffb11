/-
  What the small functions of the exact statements on lists of numbers answer: a list handed on into new memory, and a list marked; for lists of at most 2^20 numbers.
-/
import Derived.Test.YtodgkhlnefggdaaGreatDoubS
import Derived.Test.YtodgkhlnefggdaaGreatCur
import Derived.Test.YtodgkhlnefggdaaGreatMarkI
namespace Go.Proofs.YtodgkhlnefggdaaGreat
open Go.RowKit
set_option maxRecDepth 100000
namespace Nu
open Kn (K)
open Db (RowI)

/-- a list of numbers lies there, wherever it begins -/
def RdI (w : World) (ao : Option Addr) (C : List Int) : Prop := C = [] ∨ ∃ g off, ao = some ⟨g, off, none⟩ ∧ g < w.heap.size ∧ ∀ j, j < C.length → w.cell? ⟨g, off + j, none⟩ = some (.int .i64 (C.getD j 0))
theorem RdI.below {w w' : World} {ao : Option Addr} {C : List Int} (h : RdI w ao C) (hb : Below w.heap.size w w') : RdI w' ao C := by
  rcases h with h | ⟨g, off, e, hg, hc⟩
  · exact .inl h
  · exact .inr ⟨g, off, e, Nat.lt_of_lt_of_le hg hb.size, fun j hj => (hb.cell (p := ⟨g, off + j, none⟩) hg).trans (hc j hj)⟩

theorem row_below {w w' : World} {b n : Nat} {D : Nat → Int} (h : RowI w b n D) (hb : Below w.heap.size w w') : RowI w' b n D :=
  ⟨Nat.lt_of_lt_of_le h.lt hb.size, fun i hi => (hb.cell (p := ⟨b, i, none⟩) h.lt).trans (h.rd i hi), fun i hi => (hb.frozen (p := ⟨b, i, none⟩) h.lt).trans (h.fr i hi)⟩
theorem row_grown {w w' : World} {b q n : Nat} {D : Nat → Int} (h : RowI w b n D) (hg : w.grownBy w' (some q)) (hne : b ≠ q) : RowI w' b n D := by
  have hk := hg.block b h.lt (fun e => hne (by cases e; rfl))
  exact ⟨Nat.lt_of_lt_of_le h.lt hg.size, fun i hi => (World.cell?_of_block (a := ⟨b, i, none⟩) hk).trans (h.rd i hi), fun i hi => (World.frozen?_of_block (a := ⟨b, i, none⟩) hk).trans (h.fr i hi)⟩
theorem row_rd {w : World} {b : Nat} {C : List Int} (h : RowI w b C.length (fun i => C.getD i 0)) : Lst.Rd w (some ⟨b, 0, none⟩) C := .inr ⟨b, rfl, h.rd⟩
theorem row_eq {w : World} {b n : Nat} {D E : Nat → Int} (h : RowI w b n D) (e : ∀ i, i < n → D i = E i) : RowI w b n E := ⟨h.lt, fun i hi => by rw [← e i hi]; exact h.rd i hi, h.fr⟩

/-- the list is handed on -/
def ToPost (C : List Int) (w : World) (e : Ending) (w' : World) : Prop := e = .returned (.slice (some ⟨w.heap.size, 0, none⟩) C.length C.length) ∧ RowI w' w.heap.size C.length (fun i => C.getD i 0) ∧ Below w.heap.size w w'
/-- what has been handed on so far -/
def soFar (C : List Int) (j i : Nat) : Int := if i < j then C.getD i 0 else 0

set_option maxHeartbeats 1600000 in
theorem toInts (ao : Option Addr) (cap : Nat) (C : List Int) (w : World) (hl : C.length ≤ 1048576) (hr : RdI w ao C) :
    Calls Tryz.prog 8 #[.slice ao C.length cap] w (ToPost C w) := by
  have hmk : ∀ W : World, (Instr.makeSlice 23 (.int .i64 (C.length : Int)) (.int .i64 (C.length : Int))).run Tryz.prog W = .ok (.slice (some ⟨W.heap.size, 0, none⟩) C.length C.length) (W.alloc (.cells (madeCells #[.int .i64 0] C.length) 2)) :=
    fun W => run_make_row' (P := Tryz.prog) 23 2 (.int .i64 0) 8 Tryz.underlying23 Memb.info2 rfl .i64 .i64 C.length (by omega) (by omega) W
  have HP : Hid (RowI (w.alloc (.cells (madeCells #[.int .i64 0] C.length) 2)) w.heap.size C.length (fun _ => 0) ∧ Below w.heap.size w (w.alloc (.cells (madeCells #[.int .i64 0] C.length) 2))) := ⟨Db.rowI_made _ _ _, (Below.refl _ _).alloc (Nat.le_refl _) _⟩
  generalize madeCells #[Value.int .i64 0] C.length = mc at hmk HP
  go_enter Tryz.func8, Tryz.ntmps8
  go_wp2
  clear hmk
  go_loopw [4] (fun i wr => ∃ j : Nat, j ≤ C.length ∧ i = .int .i64 j ∧ Hid (RowI wr w.heap.size C.length (soFar C j)) ∧ Hid (Below w.heap.size w wr)) (fun i _ => C.length - (intOf i).toNat)
  case atStart => exact ⟨0, by omega, rfl, row_eq HP.out.1 (fun i _ => by unfold soFar; rw [if_neg (by omega)]), HP.out.2⟩
  case round =>
    obtain ⟨j, hj, rfl, HR, HB⟩ := hrel
    by_cases hlt : j < C.length
    · rcases hr with h | ⟨g, off, rfl, hg, hc⟩
      · exfalso; rw [h] at hlt; simp at hlt
      have cj := (HB.out.cell (p := ⟨g, off + j, none⟩) hg).trans (hc j hlt)
      have dj := HR.out.rd j hlt
      have fj := HR.out.fr j hlt
      have hbs := HR.out.lt
      have hgr : g < wr.heap.size := Nat.lt_of_lt_of_le hg HB.out.size
      have HR1 : Hid (RowI (wr.setCell ⟨w.heap.size, j, none⟩ (.int .i64 (C.getD j 0))) w.heap.size C.length (soFar C (j + 1))) := row_eq (HR.out.put j hlt (C.getD j 0)) (fun i _ => by
        unfold soFar
        by_cases e : i = j
        · subst e; rw [if_pos rfl, if_pos (by omega)]
        · rw [if_neg e]
          by_cases q : i < j
          · rw [if_pos q, if_pos (by omega)]
          · rw [if_neg q, if_neg (by omega)])
      have HB1 : Hid (Below w.heap.size w (wr.setCell ⟨w.heap.size, j, none⟩ (.int .i64 (C.getD j 0)))) := HB.out.setCell (p := ⟨w.heap.size, j, none⟩) (Nat.le_refl _) _
      generalize C.getD j 0 = x at cj HR1 HB1
      generalize soFar C j j = y at dj
      clear HR HB hc
      go_wp2
      go_roundw
      case rel => exact ⟨j + 1, by omega, by go_num, HR1, HB1⟩
      case measure => simp [intOf]; omega
    · obtain rfl : j = C.length := by omega
      have HR2 : Hid (RowI wr w.heap.size C.length (fun i => C.getD i 0)) := row_eq HR.out (fun i hi => by unfold soFar; rw [if_pos hi])
      clear HR
      go_wp2
      go_ret
      exact ⟨rfl, HR2.out, HB.out⟩

theorem below_drewN {b : Nat} {a w : World} (h : Below b a w) (n : Nat) : Below b a (w.drewN n) := ⟨h.os, h.tape, h.output, h.size, h.block⟩
theorem alikeB (l : List Int) (a b : Option Addr) (ca cb : Nat) (w : World) (hn : l.length ≤ 1048576) (ha : Lst.Rd w a l) (hb : Lst.Rd w b l) :
    Calls Tryz.prog 10 #[.slice a l.length ca, .slice b l.length cb] w fun e w' => e = .returned (.bool true) ∧ Below w.heap.size w w' := by
  refine (Lsx.alike l a b ca cb w hn ha hb).mono ?_
  rintro e w' ⟨h, n, rfl⟩
  exact ⟨h, below_drewN (Below.refl _ _) n⟩
theorem own_rd {B : Nat} {w : World} {ao : Option Addr} {cap : Nat} {l : List Int} (h : Memb.Own B w ao cap l) : Lst.Rd w ao l := Lst.own_rd h
theorem own_below {B : Nat} {w w' : World} {ao : Option Addr} {cap : Nat} {l : List Int} (h : Memb.Own B w ao cap l) (hb : Below w.heap.size w w') : Memb.Own B w' ao cap l := Lst.own_below h hb
theorem own_grown {B q : Nat} {w w' : World} {ao : Option Addr} {cap : Nat} {l : List Int} (h : Memb.Own B w ao cap l) (hg : w.grownBy w' (some q)) (hne : ∀ g, ao = some ⟨g, 0, none⟩ → g ≠ q) : Memb.Own B w' ao cap l := by
  have hlt := World.ownsRow.lt h
  unfold Memb.Own at *
  obtain ⟨h1, h2⟩ := h
  refine ⟨h1, ?_⟩
  rcases h2 with h2 | ⟨g, cap', cur, hv, hB, hc, rest⟩
  · exact .inl h2
  · refine .inr ⟨g, cap', cur, hv, hB, ?_, rest⟩
    simp only [Value.slice.injEq] at hv
    obtain ⟨rfl, _, _⟩ := hv
    rw [hg.block g (hlt g rfl).2 (fun e => hne g rfl (by cases e; rfl))]; exact hc
theorem own_far {B : Nat} {w : World} {ao : Option Addr} {cap : Nat} {l : List Int} (h : Memb.Own B w ao cap l) : ∀ g, ao = some ⟨g, 0, none⟩ → B ≤ g ∧ g < w.heap.size := fun g e => by
  subst e; exact World.ownsRow.lt h g rfl
/-- what lies lower than all that may have changed -/
theorem own_low {B n : Nat} {w w' : World} {ao : Option Addr} {cap : Nat} {l : List Int} (h : Memb.Own B w ao cap l) (hf : ∀ g, ao = some ⟨g, 0, none⟩ → g < n) (hb : Below n w w') : Memb.Own B w' ao cap l := by
  have hlt := World.ownsRow.lt h
  unfold Memb.Own at *
  obtain ⟨h1, h2⟩ := h
  refine ⟨h1, ?_⟩
  rcases h2 with h2 | ⟨g, cap', cur, hv, hB, hc, rest⟩
  · exact .inl h2
  · refine .inr ⟨g, cap', cur, hv, hB, ?_, rest⟩
    simp only [Value.slice.injEq] at hv
    obtain ⟨rfl, _, _⟩ := hv
    rw [hb.block g (hf g rfl)]; exact hc
theorem own_base {B B' : Nat} {w : World} {ao : Option Addr} {cap : Nat} {l : List Int} (h : Memb.Own B w ao cap l) (hB : B' ≤ B) : Memb.Own B' w ao cap l := by
  obtain ⟨h1, h2 | ⟨g, cp, cur, e, hg, r⟩⟩ := h
  · exact ⟨h1, .inl h2⟩
  · exact ⟨h1, .inr ⟨g, cp, cur, e, Nat.le_trans hB hg, r⟩⟩
theorem at_block {q : Nat} {w : World} (h : q < w.heap.size) : ∀ c, some (⟨q, 0, none⟩ : Addr) = some ⟨c, 0, none⟩ → c < w.heap.size := fun c e => by injection e with e; injection e with e; subst e; exact h

/-- marked -/
def MarkPost (b n : Nat) (k0 : Int) (w : World) (e : Ending) (w' : World) : Prop := e = .returned (.int .i64 (k0 + (n : Int))) ∧ RowI w' b n (fun i => k0 + (i : Int)) ∧ w.grownBy w' (some b)
/-- marked so far -/
def markD (D : Nat → Int) (k0 : Int) (j i : Nat) : Int := if i < j then k0 + (i : Int) else D i

set_option maxHeartbeats 1600000 in
theorem markInts (b n cap : Nat) (D : Nat → Int) (k0 : Int) (w : World) (hn : n ≤ 1048576) (hk0 : 0 ≤ k0) (hk1 : k0 ≤ 1000000000) (hr : RowI w b n D) :
    Calls Tryz.prog 13 #[.slice (some ⟨b, 0, none⟩) n cap, .int .i64 k0] w (MarkPost b n k0 w) := by
  have HR0 : Hid (RowI w b n D) := hr
  clear hr
  go_enter Tryz.func13, Tryz.ntmps13
  go_wp2
  go_loopw [1, 5] (fun q i wr => ∃ j : Nat, j ≤ n ∧ i = .int .i64 j ∧ q = .int .i64 (k0 + (j : Int)) ∧ Hid (RowI wr b n (markD D k0 j)) ∧ Hid (w.grownBy wr (some b))) (fun _ i _ => n - (intOf i).toNat)
  case atStart => exact ⟨0, by omega, rfl, by simp, row_eq HR0.out (fun i _ => by unfold markD; rw [if_neg (by omega)]), World.grownBy.refl _ _⟩
  case round =>
    obtain ⟨j, hj, rfl, rfl, HR, HG⟩ := hrel
    by_cases hlt : j < n
    · have dj := HR.out.rd j hlt
      have fj := HR.out.fr j hlt
      have HR1 : Hid (RowI (wr.setCell ⟨b, j, none⟩ (.int .i64 (k0 + (j : Int)))) b n (markD D k0 (j + 1))) := row_eq (HR.out.put j hlt (k0 + (j : Int))) (fun i _ => by
        unfold markD
        by_cases e : i = j
        · subst e; rw [if_pos rfl, if_pos (by omega)]
        · rw [if_neg e]
          by_cases q : i < j
          · rw [if_pos q, if_pos (by omega)]
          · rw [if_neg q, if_neg (by omega)])
      have HG1 : Hid (w.grownBy (wr.setCell ⟨b, j, none⟩ (.int .i64 (k0 + (j : Int)))) (some b)) := Cur.grownBy_set HG.out _ _
      generalize markD D k0 j j = y at dj
      clear HR HG
      go_wp2
      go_roundw
      case rel => exact ⟨j + 1, by omega, by go_num, by go_num, HR1, HG1⟩
      case measure => simp [intOf]; omega
    · obtain rfl : j = n := by omega
      have HR2 : Hid (RowI wr b j (fun i => k0 + (i : Int))) := row_eq HR.out (fun i hi => by unfold markD; rw [if_pos hi])
      clear HR
      go_wp2
      go_ret
      exact ⟨rfl, HR2.out, HG.out⟩

end Nu
end Go.Proofs.YtodgkhlnefggdaaGreat
