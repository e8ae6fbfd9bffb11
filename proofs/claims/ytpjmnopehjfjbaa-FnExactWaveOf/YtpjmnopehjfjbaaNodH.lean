/-
  What the program lays out hand by hand: those of a set that each hand tied; for laces of at most 60 knots, their hands 0 to 3.
-/
import Derived.Test.YtpjmnopehjfjbaaLaceB
import Derived.Test.YtpjmnopehjfjbaaDoubS
namespace Go.Proofs.Ytpjmnopehjfjbaa
open Go.RowKit
set_option maxRecDepth 100000
namespace Nd
open Kn (K okK)
open Bit (bit withB)
open Lc (at' RdK amongI HandsOk)
open Db (RowI)

/-- those of a set, of the first n, that a hand tied -/
def hf (L : List K) (s h : Int) (n : Nat) : Int := amongI (fun k => decide (k.hand = h)) L s n

theorem hf_step (L : List K) (s h : Int) (n : Nat) : hf L s h (n + 1) = if bit s n && decide ((at' L n).hand = h) then withB (hf L s h n) n else hf L s h n := rfl
theorem hf_bd (L : List K) (s h : Int) (n : Nat) (hn : n ≤ 60) : 0 ≤ hf L s h n ∧ hf L s h n < 1152921504606846976 := Lc.among_bd _ L s n hn
theorem hf_miss (L : List K) (s : Int) (n : Nat) (hb : bit s n = false) : (fun h : Nat => hf L s h (n + 1)) = fun h : Nat => hf L s h n := by
  funext h; rw [hf_step, hb]; simp
theorem hf_hit (L : List K) (s : Int) (n m : Nat) (hb : bit s n = true) (hm : (at' L n).hand = (m : Int)) : (fun h : Nat => if h = m then withB (hf L s m n) n else hf L s h n) = fun h : Nat => hf L s h (n + 1) := by
  funext h; rw [hf_step, hb, hm]
  by_cases e : h = m
  · subst e; simp
  · have : ¬ ((m : Int) = (h : Int)) := by omega
    rw [if_neg e, decide_eq_false this]; simp

theorem rowI_alloc {w : World} {g n : Nat} {D : Nat → Int} (h : RowI w g n D) (o : Obj) : RowI (w.alloc o) g n D where
  lt := by have := h.lt; simp; omega
  rd := fun i hi => by rw [World.cell?_alloc_lt _ _ _ h.lt]; exact h.rd i hi
  fr := fun i hi => by rw [World.frozen?_alloc_past _ _ _ h.lt]; exact h.fr i hi
theorem rowI_other {w : World} {g n : Nat} {D : Nat → Int} (h : RowI w g n D) (c i : Nat) (hc : g ≠ c) (v : Value) : RowI (w.setCell ⟨c, i, none⟩ v) g n D where
  lt := by simpa using h.lt
  rd := fun j hj => (World.cell?_of_block (w := w) (Below.heap_setCell w ⟨c, i, none⟩ v g hc)).trans (h.rd j hj)
  fr := fun j hj => by rw [World.frozen?_setCell]; exact h.fr j hj

theorem rowI_four (w : World) (t : TypeId) : RowI (w.alloc (.cells #[.int .i64 0, .int .i64 0, .int .i64 0, .int .i64 0] t)) w.heap.size 4 (fun _ => 0) where
  lt := by simp
  rd := fun i hi => by
    match i, hi with
    | 0, _ => simp
    | 1, _ => simp
    | 2, _ => simp
    | 3, _ => simp
  fr := fun i hi => by
    match i, hi with
    | 0, _ => simp
    | 1, _ => simp
    | 2, _ => simp
    | 3, _ => simp

end Nd
end Go.Proofs.Ytpjmnopehjfjbaa
