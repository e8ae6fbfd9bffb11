/-
  Plain mathematics of what hangs on what: for each knot of a list the set of it and of all it hangs on, thread by thread; whether a set is closed; its tips; no program in it.
-/
import Derived.Test.YtapfmadnkaimeaaDoorLaceM
namespace Go.Proofs.YtapfmadnkaimeaaDoor
open Go.RowKit
set_option maxRecDepth 100000
namespace Sg
open Kn (K okK)
open Bit (bit)
open Lc (at')

def orB (a b : Int) : Int := ((a.toNat ||| b.toNat : Nat) : Int)
theorem orB_bd (a b : Int) (h0 : 0 ≤ a) (h1 : a < 1152921504606846976) (h2 : 0 ≤ b) (h3 : b < 1152921504606846976) : 0 ≤ orB a b ∧ orB a b < 1152921504606846976 := by
  have hx : a.toNat ||| b.toNat < 2 ^ 60 := Nat.or_lt_two_pow (by omega) (by omega)
  unfold orB; omega
theorem or_eq (a b : Int) (h0 : 0 ≤ a) (h1 : a < 1152921504606846976) (h2 : 0 ≤ b) (h3 : b < 1152921504606846976) : bits .or .i64 a b = orB a b := Bit.i64_or a b h0 (by omega) h2 (by omega)
theorem bit_orB (a b : Int) (h0 : 0 ≤ a) (h2 : 0 ≤ b) (i : Nat) : bit (orB a b) i = (bit a i || bit b i) := by
  rw [Bit.bit_testBit _ (by unfold orB; omega), Bit.bit_testBit a h0, Bit.bit_testBit b h2]
  unfold orB
  rw [Int.toNat_natCast, Nat.testBit_or]

/-- a knot's own number, and what is below those of the first k that it hangs on -/
def accB (f : Int) (l : List Int) (i : Nat) : Nat → Int
  | 0 => 2 ^ i
  | k + 1 => if bit f k then orB (accB f l i k) (l.getD k 0) else accB f l i k

def Within (l : List Int) : Prop := ∀ x ∈ l, 0 ≤ x ∧ x < 1152921504606846976

theorem within_get {l : List Int} (h : Within l) (k : Nat) : 0 ≤ l.getD k 0 ∧ l.getD k 0 < 1152921504606846976 := by
  by_cases hk : k < l.length
  · exact h _ (by simp [List.getD, List.getElem?_eq_getElem hk])
  · simp [List.getD, List.getElem?_eq_none (Nat.le_of_not_lt hk)]

theorem accB_bd (f : Int) (l : List Int) (i k : Nat) (hi : i < 60) (hl : Within l) : 0 ≤ accB f l i k ∧ accB f l i k < 1152921504606846976 := by
  induction k with
  | zero => have := Base.pow_bd i hi; exact ⟨by unfold accB; omega, this.2⟩
  | succ k ih =>
    unfold accB
    split
    · have := within_get hl k
      exact orB_bd _ _ ih.1 ih.2 this.1 this.2
    · exact ih

/-- for each of the first n knots all that is below it -/
def belows (L : List K) : Nat → List Int
  | 0 => []
  | n + 1 => belows L n ++ [accB (at' L n).frm (belows L n) n n]

theorem belows_len (L : List K) (n : Nat) : (belows L n).length = n := by
  induction n with
  | zero => rfl
  | succ n ih => unfold belows; simp [ih]

theorem belows_in (L : List K) (n : Nat) (hn : n ≤ 60) : Within (belows L n) := by
  induction n with
  | zero => intro x hx; simp [belows] at hx
  | succ n ih =>
    have ih := ih (by omega)
    intro x hx
    unfold belows at hx
    rw [List.mem_append] at hx
    rcases hx with hx | hx
    · exact ih x hx
    · simp at hx; rw [hx]; exact accB_bd _ _ _ _ (by omega) ih

/-- all that is below one of the set is in it -/
def closedTo (l : List Int) (s : Int) (n : Nat) : Bool := (List.range n).all fun i => !bit s i || (bits .andNot .i64 (l.getD i 0) s == 0)
theorem closed_step (l : List Int) (s : Int) (n : Nat) : closedTo l s (n + 1) = (closedTo l s n && (!bit s n || (bits .andNot .i64 (l.getD n 0) s == 0))) := by
  unfold closedTo; rw [List.range_succ]; simp
theorem closed_no (l : List Int) (s : Int) (n m : Nat) (h : n < m) (hb : bit s n = true) (hq : (bits .andNot .i64 (l.getD n 0) s == 0) = false) : closedTo l s m = false := by
  unfold closedTo
  rw [List.all_eq_false]
  exact ⟨n, by simpa using h, by rw [hb, hq]; decide⟩

/-- those that no other one sees -/
def tipsTo (l : List Int) (s : Int) : Nat → Int
  | 0 => s
  | n + 1 => if bit s n then bits .andNot .i64 (tipsTo l s n) (bits .andNot .i64 (l.getD n 0) (2 ^ n)) else tipsTo l s n

/-- the threads are sets -/
def FrmOk (L : List K) : Prop := ∀ k ∈ L, 0 ≤ k.frm ∧ k.frm < 1152921504606846976

theorem frm_lace {L : List K} (h : Lc.laceB L = true) : FrmOk L := by
  intro k hk
  obtain ⟨i, hi, rfl⟩ := List.getElem_of_mem hk
  have := Lc.ok_frm (Lc.can_ok (Lc.lace_upTo h i hi))
  rwa [Lc.at_get L i hi] at this

end Sg
end Go.Proofs.YtapfmadnkaimeaaDoor
