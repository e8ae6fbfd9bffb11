/-
  What the laws' own toHand and eqHand answer.
-/
import Derived.Test.YtapfmadnkaimeaaDoorRoomF
import Derived.Test.YtapfmadnkaimeaaDoorLaceL
namespace Go.Proofs.YtapfmadnkaimeaaDoor
open Go.RowKit
set_option maxRecDepth 100000
set_option linter.unusedVariables false
namespace Rm

theorem toHand (h : Hd) (w : World) :
    Calls Tryd.prog 11 #[.agg #[.int .i64 h.who, .int .i64 h.has, .int .i64 h.kept, .int .i64 h.last]] w fun e w' => e = .returned (.agg #[.int .i64 h.who, .int .i64 h.has, .int .i64 h.kept, .int .i64 h.last]) ∧ Below w.heap.size w w' := by
  go_enter Tryd.func11, Tryd.ntmps11
  go_wp2
  exact bodyPost_ret (v := .agg #[.int .i64 h.who, .int .i64 h.has, .int .i64 h.kept, .int .i64 h.last]) (by simp [results, Tryd.results11, go_sem]) rfl ⟨rfl, (((Below.refl _ _).alloc (Nat.le_refl _) _).alloc (by simp) _).alloc (by simp; omega) _⟩

theorem eqHand (h : Hd) (w : World) :
    Calls Tryd.prog 13 #[.agg #[.int .i64 h.who, .int .i64 h.has, .int .i64 h.kept, .int .i64 h.last], .agg #[.int .i64 h.who, .int .i64 h.has, .int .i64 h.kept, .int .i64 h.last]] w fun e w' => e = .returned (.bool true) ∧ Below w.heap.size w w' := by
  go_enter Tryd.func13, Tryd.ntmps13
  go_wp2
  go_ret
  exact ⟨rfl, ((Below.refl _ _).alloc (Nat.le_refl _) _).alloc (by simp) _⟩

/-- room for an answer that is laid ahead of a call -/
theorem keepH {X Y : World} {t : TypeId} (b : Below (X.alloc (.cells #[.int .i64 0, .int .i64 0, .int .i64 0, .int .i64 0] t)).heap.size (X.alloc (.cells #[.int .i64 0, .int .i64 0, .int .i64 0, .int .i64 0] t)) Y) : HAt Y X.heap.size 0 ⟨0, 0, 0, 0⟩ := hat_below (hat_new X ⟨0, 0, 0, 0⟩ t) b
theorem keepH' {X Y : World} {t : TypeId} (b : Below (X.alloc (.cells #[.int .i64 0, .int .i64 0, .int .i64 0, .int .i64 0] t)).drew.heap.size (X.alloc (.cells #[.int .i64 0, .int .i64 0, .int .i64 0, .int .i64 0] t)).drew Y) : HAt Y X.heap.size 0 ⟨0, 0, 0, 0⟩ := hat_below (hat_new X ⟨0, 0, 0, 0⟩ t) ⟨b.os, b.tape, b.output, b.size, b.block⟩
theorem hat_put4 {W : World} {b : Nat} {z : Hd} (x : HAt W b 0 z) (y : Hd) : HAt ((((W.setCell ⟨b, 0, none⟩ (.int .i64 y.who)).setCell ⟨b, 1, none⟩ (.int .i64 y.has)).setCell ⟨b, 2, none⟩ (.int .i64 y.kept)).setCell ⟨b, 3, none⟩ (.int .i64 y.last)) b 0 y := by
  have q := hput x (.int .i64 y.who) (.int .i64 y.has) (.int .i64 y.kept) (.int .i64 y.last)
  have f1 := x.f1
  have f2 := x.f2
  have f3 := x.f3
  exact ⟨by simpa using x.lt, q.1, by simpa using q.2.1, by simpa using q.2.2.1, by simpa using q.2.2.2, by simpa using x.f0, by simpa using f1, by simpa using f2, by simpa using f3⟩
theorem below_put4 {n : Nat} {V W : World} {b : Nat} (h : Below n V W) (hb : n ≤ b) (v0 v1 v2 v3 : Value) : Below n V ((((W.setCell ⟨b, 0, none⟩ v0).setCell ⟨b, 1, none⟩ v1).setCell ⟨b, 2, none⟩ v2).setCell ⟨b, 3, none⟩ v3) :=
  (((h.setCell (p := ⟨b, 0, none⟩) hb _).setCell (p := ⟨b, 1, none⟩) hb _).setCell (p := ⟨b, 2, none⟩) hb _).setCell (p := ⟨b, 3, none⟩) hb _
theorem frozH {w : World} {b : Nat} {h : Hd} (x : HAt w b 0 h) : w.frozen? ⟨b, 0, none⟩ = false ∧ w.frozen? ⟨b, 1, none⟩ = false ∧ w.frozen? ⟨b, 2, none⟩ = false ∧ w.frozen? ⟨b, 3, none⟩ = false := ⟨x.f0, by simpa using x.f1, by simpa using x.f2, by simpa using x.f3⟩
theorem cellsZ {w : World} {b : Nat} (x : HAt w b 0 ⟨0, 0, 0, 0⟩) : w.cell? ⟨b, 0, none⟩ = some (.int .i64 0) ∧ w.cell? ⟨b, 1, none⟩ = some (.int .i64 0) ∧ w.cell? ⟨b, 2, none⟩ = some (.int .i64 0) ∧ w.cell? ⟨b, 3, none⟩ = some (.int .i64 0) := ⟨x.c0, by simpa using x.c1, by simpa using x.c2, by simpa using x.c3⟩
theorem undrawn {X Y : World} (h : Below X.drew.heap.size X.drew Y) : Below X.heap.size X Y := ⟨h.os, h.tape, h.output, h.size, h.block⟩
theorem unlaid {X Y : World} {o : Obj} (h : Below (X.alloc o).heap.size (X.alloc o) Y) : Below X.heap.size X Y := ((Below.refl _ X).alloc (Nat.le_refl _) o).trans (h.mono (by simp))

end Rm
end Go.Proofs.YtapfmadnkaimeaaDoor
