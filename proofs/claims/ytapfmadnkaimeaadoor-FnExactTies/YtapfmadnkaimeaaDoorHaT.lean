/-
  Small functions of the program's owner.
-/
import Derived.Test.YtapfmadnkaimeaaDoorHaB
namespace Go.Proofs.YtapfmadnkaimeaaDoor
open Go.RowKit
set_option maxRecDepth 100000
set_option linter.unusedVariables false
namespace Rm
open Kn (K okK)
open Bit (bit withB)
open Lc (at' RdK laceB WordsOk)
open Sg (bel belows closedTo orB)

theorem handedOut (x : Value) (h : Hd) (w : World) :
    Calls Tryd.prog 51 #[.agg #[x, .int .i64 h.who, .int .i64 h.has, .int .i64 h.kept, .int .i64 h.last]] w fun e w' => e = .returned (.agg #[.int .i64 h.who, .int .i64 h.has, .int .i64 h.kept, .int .i64 h.last]) ∧ Below w.heap.size w w' := by
  go_enter Tryd.func51, Tryd.ntmps51
  go_wp2
  exact bodyPost_ret (v := .agg #[.int .i64 h.who, .int .i64 h.has, .int .i64 h.kept, .int .i64 h.last]) (by simp [results, Tryd.results51, go_sem]) rfl ⟨rfl, (((Below.refl _ _).alloc (Nat.le_refl _) _).alloc (by simp) _)⟩

theorem keeps (g n cap : Nat) (h : Hd) (w : World) :
    Calls Tryd.prog 83 #[.agg #[.slice (some ⟨g, 0, none⟩) n cap, .int .i64 h.who, .int .i64 h.has, .int .i64 h.kept, .int .i64 h.last]] w fun e w' => e = .returned (.agg #[.slice (some ⟨g, 0, none⟩) n cap, .int .i64 h.who, .int .i64 h.has, .int .i64 h.has, .int .i64 h.last]) ∧ Below w.heap.size w w' := by
  go_enter Tryd.func83, Tryd.ntmps83
  go_wp2
  exact bodyPost_ret (v := .agg #[.slice (some ⟨g, 0, none⟩) n cap, .int .i64 h.who, .int .i64 h.has, .int .i64 h.has, .int .i64 h.last]) (by simp [results, Tryd.results83, go_sem]) rfl ⟨rfl, (((Below.refl _ _).alloc (Nat.le_refl _) _).alloc (by simp) _)⟩

theorem taking (g n cap : Nat) (h : Hd) (s : Int) (w : World) :
    Calls Tryd.prog 65 #[.agg #[.slice (some ⟨g, 0, none⟩) n cap, .int .i64 h.who, .int .i64 h.has, .int .i64 h.kept, .int .i64 h.last], .int .i64 s] w fun e w' => e = .returned (.agg #[.slice (some ⟨g, 0, none⟩) n cap, .int .i64 h.who, .int .i64 (bits .or .i64 h.has s), .int .i64 h.kept, .int .i64 h.last]) ∧ Below w.heap.size w w' := by
  go_enter Tryd.func65, Tryd.ntmps65
  go_wp2
  exact bodyPost_ret (v := .agg #[.slice (some ⟨g, 0, none⟩) n cap, .int .i64 h.who, .int .i64 (bits .or .i64 h.has s), .int .i64 h.kept, .int .i64 h.last]) (by simp [results, Tryd.results65, go_sem]) rfl ⟨rfl, (((Below.refl _ _).alloc (Nat.le_refl _) _).alloc (by simp) _)⟩

/-- the variable that says that it is no right hand -/
def NoH (W : World) (a : Addr) : Prop := W.cell? ⟨0, 0, none⟩ = some (.iface 159 (.pointer (some a)))
theorem cell_lt {W : World} {p : Addr} {v : Value} (h : W.cell? p = some v) : p.block < W.heap.size := by
  rcases Nat.lt_or_ge p.block W.heap.size with q | q
  · exact q
  · simp [World.cell?, Array.getElem?_eq_none q] at h
theorem NoH.below {W V : World} {a : Addr} (h : NoH W a) (hb : Below W.heap.size W V) : NoH V a := (hb.cell (p := ⟨0, 0, none⟩) (cell_lt h)).trans h

/-- the error that says so is there -/
def NoHs (W : World) : Prop := ∃ a, NoH W a
theorem NoHs.below {W V : World} (h : NoHs W) (hb : Below W.heap.size W V) : NoHs V := h.elim fun a q => ⟨a, q.below hb⟩

/-- how the asking for an owner ends -/
def OwnerPost (L : List K) (h : Hd) (a : Addr) (w : World) (e : Ending) (w' : World) : Prop :=
  (handOkB L h = true ∧ ∃ g, e = .returned (.tuple #[.agg #[.slice (some ⟨g, 0, none⟩) L.length L.length, .int .i64 h.who, .int .i64 h.has, .int .i64 h.kept, .int .i64 h.last], .nilIface]) ∧ g < w'.heap.size ∧ RdK w' (some ⟨g, 0, none⟩) L ∧ Below w.heap.size w w') ∨
  (handOkB L h = false ∧ e = .returned (.tuple #[.agg #[.slice none 0 0, .int .i64 0, .int .i64 0, .int .i64 0, .int .i64 0], .iface 159 (.pointer (some a))]) ∧ Below w.heap.size w w')

end Rm
end Go.Proofs.YtapfmadnkaimeaaDoor
