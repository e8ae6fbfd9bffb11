/-
  Plain mathematics of knots as texts, with no program in it: what a right word is, what a right knot is, how numbers and knots are written; no condition beyond those written.
-/
import Derived.Test.YtghpmhfhenndiaaDoorMath
import Derived.Test.YtghpmhfhenndiaaDoorBase
namespace Go.Proofs.YtghpmhfhenndiaaDoor
open Go.RowKit
set_option maxRecDepth 100000
namespace Kn

def okC (c : UInt8) : Bool := (decide (97 ≤ c.toNat) && decide (c.toNat ≤ 122)) || ((decide (48 ≤ c.toNat) && decide (c.toNat ≤ 57)) || decide (c.toNat = 32))
def okW (s : ByteArray) : Bool := s.data.toList.all okC && decide (s.size ≤ 12)

theorem take_snoc (s : ByteArray) (k : Nat) (h : k < s.size) : s.data.toList.take (k + 1) = s.data.toList.take k ++ [s[k]] := by
  rw [List.take_succ_eq_append_getElem (by simpa using h)]; rfl
theorem take_all (s : ByteArray) : s.data.toList.take s.size = s.data.toList := List.take_of_length_le (by simp)

theorem all_snoc (s : ByteArray) (k : Nat) (h : k < s.size) : (s.data.toList.take (k + 1)).all okC = ((s.data.toList.take k).all okC && okC s[k]) := by
  rw [take_snoc s k h]; simp

/-- a knot -/
structure K where
  hand : Int
  round : Int
  frm : Int
  word : ByteArray

/-- a knot as a value -/
def K.val (k : K) : Value := .agg #[.int .i64 k.hand, .int .i64 k.round, .int .i64 k.frm, .string k.word]

def in3 (x : Int) : Bool := decide (0 ≤ x) && decide (x ≤ 3)
def in19 (x : Int) : Bool := decide (0 ≤ x) && decide (x ≤ 19)
def both0 (r f : Int) : Bool := (r == 0) == (f == 0)
def okK (k : K) : Bool := in3 k.hand && (in19 k.round && (Base.okB k.frm && (both0 k.round k.frm && okW k.word)))

theorem l1In3 (x : Int) (w : World) : Calls Tryd.prog 30 #[.int .i64 x, .int .i64 0, .int .i64 3] w fun e w' => e = .returned (.bool (in3 x)) ∧ w = w' := Base.l1In x 0 3 w
theorem l1In19 (x : Int) (w : World) : Calls Tryd.prog 30 #[.int .i64 x, .int .i64 0, .int .i64 19] w fun e w' => e = .returned (.bool (in19 x)) ∧ w = w' := Base.l1In x 0 19 w

end Kn
end Go.Proofs.YtghpmhfhenndiaaDoor
