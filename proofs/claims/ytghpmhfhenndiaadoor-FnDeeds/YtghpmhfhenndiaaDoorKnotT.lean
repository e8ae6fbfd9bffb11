/-
  What the model's ShowKnot answers: the text that the plain mathematics says, for every right knot.
-/
import Derived.Test.YtghpmhfhenndiaaDoorKnotS
import Derived.Test.YtghpmhfhenndiaaDoorLike
import Derived.Deep.RegionWith
import Derived.Deep.DeepCutAuto
import Derived.WalkSmall
namespace Go.Proofs.YtghpmhfhenndiaaDoor
open Go.RowKit
set_option maxRecDepth 100000
namespace Kn

/-- the members written, a blank behind each -/
def showM : List Int → List UInt8
  | [] => []
  | m :: l => dec m.toNat ++ (32 :: showM l)
theorem showM_app (a b : List Int) : showM (a ++ b) = showM a ++ showM b := by
  induction a with
  | nil => rfl
  | cons m l ih => simp [showM, ih]

/-- what stands ahead of the members -/
def showH (h r : Int) : List UInt8 := dec h.toNat ++ (32 :: (dec r.toNat ++ [32]))
/-- a knot written -/
def showK (k : K) : List UInt8 := showH k.hand k.round ++ (showM (Bit.memTo k.frm 60) ++ (58 :: if k.word.size = 0 then [] else 32 :: k.word.data.toList))

theorem decF_len (f n : Nat) : (decF f n).length ≤ f := by
  induction f generalizing n with
  | zero => simp [decF]
  | succ f ih =>
    rw [decF]
    split
    · simp
    · have := ih (n / 10); simp; omega
theorem dec_len (n : Nat) : (dec n).length ≤ 12 := decF_len 12 n

theorem memTo_get (s : Int) (k : Nat) (hk : k < (Bit.memTo s 60).length) : ∃ j : Nat, j < 60 ∧ (Bit.memTo s 60).getD k 0 = (j : Int) := by
  have hm : (Bit.memTo s 60)[k] ∈ Bit.memTo s 60 := List.getElem_mem hk
  obtain ⟨j, hj, he, _⟩ := (Bit.mem_memTo s 60 _).1 hm
  exact ⟨j, hj, by simp [hk, he]⟩

theorem c32 : ({ data := #[32] } : ByteArray) = B [32] := rfl
theorem c58 : ({ data := #[58] } : ByteArray) = B [58] := rfl

theorem showH_eq (h r : Nat) : B (dec h) ++ { data := #[32] } ++ B (dec r) ++ { data := #[32] } = B (showH (h : Int) (r : Int)) := by
  rw [c32, B_app, B_app, B_app]; simp [showH]

theorem showH_len (h r : Int) : (showH h r).length ≤ 26 := by
  have h1 := dec_len h.toNat
  have h2 := dec_len r.toNat
  simp [showH]; omega
theorem showM_len (l : List Int) : (showM l).length ≤ 13 * l.length := by
  induction l with
  | nil => simp [showM]
  | cons m l ih => have := dec_len m.toNat; simp [showM]; omega

end Kn
end Go.Proofs.YtghpmhfhenndiaaDoor
