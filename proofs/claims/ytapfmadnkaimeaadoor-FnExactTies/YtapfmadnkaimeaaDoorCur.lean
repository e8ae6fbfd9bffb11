/-
  What the model's cursor over the bytes of a draw does: it answers a number below the bound, and writes into its own cells alone; for codes of at most 4096 bytes.
-/
import Derived.Test.YtapfmadnkaimeaaDoorBase
import Derived.BigQuiet
import Derived.Deep.QuietTactic
import Derived.WalkSmall
namespace Go.Proofs.YtapfmadnkaimeaaDoor
open Go.RowKit
set_option maxRecDepth 100000
namespace Cur

theorem and_bd (n m : Int) (h0 : 0 ≤ m) (h1 : m < 9223372036854775808) : 0 ≤ bits .and .i64 n m ∧ bits .and .i64 n m ≤ m := by
  obtain ⟨M, rfl⟩ := Int.eq_ofNat_of_zero_le h0
  have hM : (BitVec.ofInt 64 (M : Int)).toNat = M := ofInt_u64 M (by omega)
  have hx : (BitVec.ofInt 64 n &&& BitVec.ofInt 64 (M : Int)).toNat ≤ M := by
    rw [BitVec.toNat_and, hM]; exact Nat.and_le_right
  have e : bits .and .i64 n (M : Int) = IntKind.i64.wrap ((BitVec.ofInt 64 n &&& BitVec.ofInt 64 (M : Int)).toNat : Int) := rfl
  rw [e]
  generalize (BitVec.ofInt 64 n &&& BitVec.ofInt 64 (M : Int)).toNat = x at hx
  simp only [IntKind.wrap, IntKind.bits, IntKind.signed]
  simp
  omega

/-- the bytes of the code -/
def Bytes (w : World) (c : Nat) (a : Option Addr) (len : Nat) : Prop :=
  len = 0 ∨ ∃ b off, a = some ⟨b, off, none⟩ ∧ b ≠ c ∧ b < w.heap.size ∧ ∀ j, j < len → ∃ z : Int, w.cell? ⟨b, off + j, none⟩ = some (.int .u8 z) ∧ 0 ≤ z ∧ z ≤ 255

/-- the cursor lies in block c, over the code -/
structure At (c : Nat) (a : Option Addr) (len cap : Nat) (w : World) : Prop where
  lt : c < w.heap.size
  b : w.cell? ⟨c, 0, none⟩ = some (.slice a len cap)
  i : ∃ i : Int, w.cell? ⟨c, 1, none⟩ = some (.int .i64 i) ∧ 0 ≤ i ∧ i ≤ (len : Int)
  h : ∃ h : Int, w.cell? ⟨c, 2, none⟩ = some (.int .i64 h) ∧ -9223372036854775808 ≤ h ∧ h ≤ 9223372036854775807
  f1 : w.frozen? ⟨c, 1, none⟩ = false
  f2 : w.frozen? ⟨c, 2, none⟩ = false
  bytes : Bytes w c a len

theorem At.below {c : Nat} {a : Option Addr} {len cap : Nat} {w w' : World} (h : At c a len cap w) (hb : Below w.heap.size w w') : At c a len cap w' where
  lt := Nat.lt_of_lt_of_le h.lt hb.size
  b := (hb.cell (p := ⟨c, 0, none⟩) h.lt).trans h.b
  i := by obtain ⟨i, h1, h2⟩ := h.i; exact ⟨i, (hb.cell (p := ⟨c, 1, none⟩) h.lt).trans h1, h2⟩
  h := by obtain ⟨i, h1, h2⟩ := h.h; exact ⟨i, (hb.cell (p := ⟨c, 2, none⟩) h.lt).trans h1, h2⟩
  f1 := (hb.frozen (p := ⟨c, 1, none⟩) h.lt).trans h.f1
  f2 := (hb.frozen (p := ⟨c, 2, none⟩) h.lt).trans h.f2
  bytes := by
    rcases h.bytes with h0 | ⟨b, off, ha, hne, hlt, hc⟩
    · exact .inl h0
    · refine .inr ⟨b, off, ha, hne, Nat.lt_of_lt_of_le hlt hb.size, fun j hj => ?_⟩
      obtain ⟨z, h1, h2⟩ := hc j hj
      exact ⟨z, (hb.cell (p := ⟨b, off + j, none⟩) hlt).trans h1, h2⟩

theorem At.drewN {c : Nat} {a : Option Addr} {len cap : Nat} {w : World} (h : At c a len cap w) (n : Nat) : At c a len cap (w.drewN n) := ⟨h.lt, h.b, h.i, h.h, h.f1, h.f2, h.bytes⟩

theorem At.setI {c : Nat} {a : Option Addr} {len cap : Nat} {w : World} (h : At c a len cap w) (i : Int) (h0 : 0 ≤ i) (h1 : i ≤ (len : Int)) : At c a len cap (w.setCell ⟨c, 1, none⟩ (.int .i64 i)) where
  lt := by simpa using h.lt
  b := (World.cell?_setCell_other _ _ _ _ (by simp)).trans h.b
  i := by obtain ⟨j, hj, _⟩ := h.i; exact ⟨i, World.cell?_setCell_same _ _ _ hj, h0, h1⟩
  h := by obtain ⟨j, hj, hh⟩ := h.h; exact ⟨j, (World.cell?_setCell_other _ _ _ _ (by simp)).trans hj, hh⟩
  f1 := by simpa using h.f1
  f2 := by simpa using h.f2
  bytes := by
    rcases h.bytes with h0 | ⟨b, off, ha, hne, hlt, hc⟩
    · exact .inl h0
    · refine .inr ⟨b, off, ha, hne, by simpa using hlt, fun j hj => ?_⟩
      obtain ⟨z, h1, h2⟩ := hc j hj
      exact ⟨z, (World.cell?_setCell_other _ _ _ _ (by simp)).trans h1, h2⟩

theorem At.setH {c : Nat} {a : Option Addr} {len cap : Nat} {w : World} (h : At c a len cap w) (i : Int) (h0 : -9223372036854775808 ≤ i) (h1 : i ≤ 9223372036854775807) : At c a len cap (w.setCell ⟨c, 2, none⟩ (.int .i64 i)) where
  lt := by simpa using h.lt
  b := (World.cell?_setCell_other _ _ _ _ (by simp)).trans h.b
  i := by obtain ⟨j, hj, hh⟩ := h.i; exact ⟨j, (World.cell?_setCell_other _ _ _ _ (by simp)).trans hj, hh⟩
  h := by obtain ⟨j, hj, _⟩ := h.h; exact ⟨i, World.cell?_setCell_same _ _ _ hj, h0, h1⟩
  f1 := by simpa using h.f1
  f2 := by simpa using h.f2
  bytes := by
    rcases h.bytes with h0 | ⟨b, off, ha, hne, hlt, hc⟩
    · exact .inl h0
    · refine .inr ⟨b, off, ha, hne, by simpa using hlt, fun j hj => ?_⟩
      obtain ⟨z, h1, h2⟩ := hc j hj
      exact ⟨z, (World.cell?_setCell_other _ _ _ _ (by simp)).trans h1, h2⟩

theorem grownBy_trans {a b d : World} {r : Option Nat} (h : a.grownBy b r) (k : b.grownBy d r) : a.grownBy d r where
  os := k.os.trans h.os
  tape := k.tape.trans h.tape
  output := k.output.trans h.output
  size := Nat.le_trans h.size k.size
  block := fun j hj hne => (k.block j (Nat.lt_of_lt_of_le hj h.size) hne).trans (h.block j hj hne)
theorem grownBy_drewN {a b : World} {r : Option Nat} (h : a.grownBy b r) (n : Nat) : a.grownBy (b.drewN n) r := ⟨h.os, h.tape, h.output, h.size, h.block⟩
theorem grownBy_set {a b : World} {c : Nat} (h : a.grownBy b (some c)) (j : Nat) (u : Value) : a.grownBy (b.setCell ⟨c, j, none⟩ u) (some c) where
  os := h.os
  tape := h.tape
  output := h.output
  size := by simpa using h.size
  block := fun k hk hne => (heap_setCell_other b ⟨c, j, none⟩ k u (fun e => hne (by simp [e]))).trans (h.block k hk hne)

theorem wrap64_bd (n : Int) : -9223372036854775808 ≤ wrap64 n ∧ wrap64 n ≤ 9223372036854775807 := by unfold wrap64; omega

/-- the code, where no cursor lies over it yet -/
def Code (w : World) (a : Option Addr) (len : Nat) : Prop :=
  len = 0 ∨ ∃ b off, a = some ⟨b, off, none⟩ ∧ b < w.heap.size ∧ ∀ j, j < len → ∃ z : Int, w.cell? ⟨b, off + j, none⟩ = some (.int .u8 z) ∧ 0 ≤ z ∧ z ≤ 255

end Cur
end Go.Proofs.YtapfmadnkaimeaaDoor
