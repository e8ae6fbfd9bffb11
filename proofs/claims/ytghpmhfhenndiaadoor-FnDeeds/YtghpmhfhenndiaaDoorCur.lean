/-
  What the model's cursor over the bytes of a draw does: it answers a number below the bound, and writes into its own cells alone; for codes of at most 4096 bytes.
-/
import Derived.Test.YtghpmhfhenndiaaDoorBase
import Derived.BigQuiet
import Derived.Deep.QuietTactic
import Derived.WalkSmall
namespace Go.Proofs.YtghpmhfhenndiaaDoor
open Go.RowKit
set_option maxRecDepth 100000
namespace Cur

theorem and_bd (n m : Int) (h0 : 0 ≤ m) (h1 : m < 9223372036854775808) : 0 ≤ bits .and .i64 n m ∧ bits .and .i64 n m ≤ m := by
  obtain ⟨M, rfl⟩ := Int.eq_ofNat_of_zero_le h0
  have hM : (BitVec.ofInt 64 (M : Int)).toNat = M := ofInt_u64 M (by omega)
  have hx : (BitVec.ofInt 64 n &&& BitVec.ofInt 64 (M : Int)).toNat ≤ M := by
    rw [BitVec.toNat_and, hM]; exact Nat.and_le_right
  have e : bits .and .i64 n (M : Int) = IntKind.i64.wrap ((BitVec.ofInt 64 n &&& BitVec.ofInt 64 (M : Int)).toNat : Int) := rfl
  rw [e]
  generalize (BitVec.ofInt 64 n &&& BitVec.ofInt 64 (M : Int)).toNat = x at hx
  simp only [IntKind.wrap, IntKind.bits, IntKind.signed]
  simp
  omega

/-- the bytes of the code -/
def Bytes (w : World) (c : Nat) (a : Option Addr) (len : Nat) : Prop :=
  len = 0 ∨ ∃ b off, a = some ⟨b, off, none⟩ ∧ b ≠ c ∧ b < w.heap.size ∧ ∀ j, j < len → ∃ z : Int, w.cell? ⟨b, off + j, none⟩ = some (.int .u8 z) ∧ 0 ≤ z ∧ z ≤ 255

/-- the cursor lies in block c, over the code -/
structure At (c : Nat) (a : Option Addr) (len cap : Nat) (w : World) : Prop where
  lt : c < w.heap.size
  b : w.cell? ⟨c, 0, none⟩ = some (.slice a len cap)
  i : ∃ i : Int, w.cell? ⟨c, 1, none⟩ = some (.int .i64 i) ∧ 0 ≤ i ∧ i ≤ (len : Int)
  h : ∃ h : Int, w.cell? ⟨c, 2, none⟩ = some (.int .i64 h) ∧ -9223372036854775808 ≤ h ∧ h ≤ 9223372036854775807
  f1 : w.frozen? ⟨c, 1, none⟩ = false
  f2 : w.frozen? ⟨c, 2, none⟩ = false
  bytes : Bytes w c a len

theorem At.below {c : Nat} {a : Option Addr} {len cap : Nat} {w w' : World} (h : At c a len cap w) (hb : Below w.heap.size w w') : At c a len cap w' where
  lt := Nat.lt_of_lt_of_le h.lt hb.size
  b := (hb.cell (p := ⟨c, 0, none⟩) h.lt).trans h.b
  i := by obtain ⟨i, h1, h2⟩ := h.i; exact ⟨i, (hb.cell (p := ⟨c, 1, none⟩) h.lt).trans h1, h2⟩
  h := by obtain ⟨i, h1, h2⟩ := h.h; exact ⟨i, (hb.cell (p := ⟨c, 2, none⟩) h.lt).trans h1, h2⟩
  f1 := (hb.frozen (p := ⟨c, 1, none⟩) h.lt).trans h.f1
  f2 := (hb.frozen (p := ⟨c, 2, none⟩) h.lt).trans h.f2
  bytes := by
    rcases h.bytes with h0 | ⟨b, off, ha, hne, hlt, hc⟩
    · exact .inl h0
    · refine .inr ⟨b, off, ha, hne, Nat.lt_of_lt_of_le hlt hb.size, fun j hj => ?_⟩
      obtain ⟨z, h1, h2⟩ := hc j hj
      exact ⟨z, (hb.cell (p := ⟨b, off + j, none⟩) hlt).trans h1, h2⟩

theorem At.drewN {c : Nat} {a : Option Addr} {len cap : Nat} {w : World} (h : At c a len cap w) (n : Nat) : At c a len cap (w.drewN n) := ⟨h.lt, h.b, h.i, h.h, h.f1, h.f2, h.bytes⟩

theorem At.setI {c : Nat} {a : Option Addr} {len cap : Nat} {w : World} (h : At c a len cap w) (i : Int) (h0 : 0 ≤ i) (h1 : i ≤ (len : Int)) : At c a len cap (w.setCell ⟨c, 1, none⟩ (.int .i64 i)) where
  lt := by simpa using h.lt
  b := (World.cell?_setCell_other _ _ _ _ (by simp)).trans h.b
  i := by obtain ⟨j, hj, _⟩ := h.i; exact ⟨i, World.cell?_setCell_same _ _ _ hj, h0, h1⟩
  h := by obtain ⟨j, hj, hh⟩ := h.h; exact ⟨j, (World.cell?_setCell_other _ _ _ _ (by simp)).trans hj, hh⟩
  f1 := by simpa using h.f1
  f2 := by simpa using h.f2
  bytes := by
    rcases h.bytes with h0 | ⟨b, off, ha, hne, hlt, hc⟩
    · exact .inl h0
    · refine .inr ⟨b, off, ha, hne, by simpa using hlt, fun j hj => ?_⟩
      obtain ⟨z, h1, h2⟩ := hc j hj
      exact ⟨z, (World.cell?_setCell_other _ _ _ _ (by simp)).trans h1, h2⟩

theorem At.setH {c : Nat} {a : Option Addr} {len cap : Nat} {w : World} (h : At c a len cap w) (i : Int) (h0 : -9223372036854775808 ≤ i) (h1 : i ≤ 9223372036854775807) : At c a len cap (w.setCell ⟨c, 2, none⟩ (.int .i64 i)) where
  lt := by simpa using h.lt
  b := (World.cell?_setCell_other _ _ _ _ (by simp)).trans h.b
  i := by obtain ⟨j, hj, hh⟩ := h.i; exact ⟨j, (World.cell?_setCell_other _ _ _ _ (by simp)).trans hj, hh⟩
  h := by obtain ⟨j, hj, _⟩ := h.h; exact ⟨i, World.cell?_setCell_same _ _ _ hj, h0, h1⟩
  f1 := by simpa using h.f1
  f2 := by simpa using h.f2
  bytes := by
    rcases h.bytes with h0 | ⟨b, off, ha, hne, hlt, hc⟩
    · exact .inl h0
    · refine .inr ⟨b, off, ha, hne, by simpa using hlt, fun j hj => ?_⟩
      obtain ⟨z, h1, h2⟩ := hc j hj
      exact ⟨z, (World.cell?_setCell_other _ _ _ _ (by simp)).trans h1, h2⟩

theorem grownBy_trans {a b d : World} {r : Option Nat} (h : a.grownBy b r) (k : b.grownBy d r) : a.grownBy d r where
  os := k.os.trans h.os
  tape := k.tape.trans h.tape
  output := k.output.trans h.output
  size := Nat.le_trans h.size k.size
  block := fun j hj hne => (k.block j (Nat.lt_of_lt_of_le hj h.size) hne).trans (h.block j hj hne)
theorem grownBy_drewN {a b : World} {r : Option Nat} (h : a.grownBy b r) (n : Nat) : a.grownBy (b.drewN n) r := ⟨h.os, h.tape, h.output, h.size, h.block⟩
theorem grownBy_set {a b : World} {c : Nat} (h : a.grownBy b (some c)) (j : Nat) (u : Value) : a.grownBy (b.setCell ⟨c, j, none⟩ u) (some c) where
  os := h.os
  tape := h.tape
  output := h.output
  size := by simpa using h.size
  block := fun k hk hne => (heap_setCell_other b ⟨c, j, none⟩ k u (fun e => hne (by simp [e]))).trans (h.block k hk hne)

theorem wrap64_bd (n : Int) : -9223372036854775808 ≤ wrap64 n ∧ wrap64 n ≤ 9223372036854775807 := by unfold wrap64; omega

set_option maxHeartbeats 1600000 in
theorem byte (c : Nat) (a : Option Addr) (len cap : Nat) (w : World) (hl : len ≤ 4096) (hc : At c a len cap w) :
    Calls Tryd.prog 41 #[.pointer (some ⟨c, 0, none⟩)] w fun e w' => ∃ x : Int, e = .returned (.int .i64 x) ∧ 0 ≤ x ∧ x ≤ 255 ∧ At c a len cap w' ∧ w.grownBy w' (some c) := by
  obtain ⟨h, ch, hh0, hh1⟩ := hc.h
  have f2 := hc.f2
  have hb := wrap64_bd (wrap64 (h * 6364136223846793005) + 1442695040888963407)
  have A1 : At c a len cap (w.setCell ⟨c, 2, none⟩ (.int .i64 (wrap64 (wrap64 (h * 6364136223846793005) + 1442695040888963407)))) := hc.setH _ hb.1 hb.2
  have G1 : w.grownBy (w.setCell ⟨c, 2, none⟩ (.int .i64 (wrap64 (wrap64 (h * 6364136223846793005) + 1442695040888963407)))) (some c) := grownBy_set (World.grownBy.refl _ _) _ _
  clear hb
  have HA : Hid _ := A1
  have HG : Hid _ := G1
  clear A1 G1
  go_enter Tryd.func41, Tryd.ntmps41
  go_wp2_with fail
  clear ch f2 hc hh0 hh1
  generalize w.setCell ⟨c, 2, none⟩ (.int .i64 (wrap64 (wrap64 (h * 6364136223846793005) + 1442695040888963407))) = w1 at HA HG ⊢
  generalize wrap64 (wrap64 (h * 6364136223846793005) + 1442695040888963407) = h1
  generalize wrap64 (h * 6364136223846793005) = h2
  have A1 := HA.out
  clear HA
  obtain ⟨i, ci, hi0, hi1⟩ := A1.i
  obtain ⟨h, ch, hh0, hh1⟩ := A1.h
  have cb := A1.b
  have f1 := A1.f1
  have HA : Hid (At c a len cap w1) := A1
  clear A1
  go_quiet (fail)
  have hx := and_bd (bits .xor .i64 (h / 8589934592) (h / 35184372088832)) 255 (by omega) (by omega)
  go_wp2_with fail
  generalize bits .and .i64 (bits .xor .i64 (h / 8589934592) (h / 35184372088832)) 255 = x0 at hx ⊢
  obtain ⟨hx0, hx1⟩ := hx
  by_cases hlt : i < (len : Int)
  · obtain ⟨b, off, ha, hcell⟩ : ∃ b off, a = some ⟨b, off, none⟩ ∧ ∀ j, j < len → ∃ z : Int, w1.cell? ⟨b, off + j, none⟩ = some (.int .u8 z) ∧ 0 ≤ z ∧ z ≤ 255 := by
      rcases HA.out.bytes with h | ⟨b, off, ha, _, _, hcell⟩
      · exfalso; omega
      · exact ⟨b, off, ha, hcell⟩
    subst ha
    obtain ⟨z, cz, hz0, hz1⟩ := hcell i.toNat (by omega)
    clear hcell
    have HB : Hid (At c (some ⟨b, off, none⟩) len cap (w1.setCell ⟨c, 1, none⟩ (.int .i64 (i + 1)))) := HA.out.setI (i + 1) (by omega) (by omega)
    have HS : Hid (w.grownBy (w1.setCell ⟨c, 1, none⟩ (.int .i64 (i + 1))) (some c)) := grownBy_set HG.out _ _
    go_quiet (fail)
    go_wp2_with fail
    go_quiet (fail)
    have hy := and_bd (x0 + z) 255 (by omega) (by omega)
    go_wp2
    go_ret
    exact ⟨_, rfl, hy.1, hy.2, HB.out.drewN _, grownBy_drewN HS.out _⟩
  · go_quiet (fail)
    go_wp2
    go_ret
    exact ⟨_, rfl, hx0, hx1, HA.out.drewN _, grownBy_drewN HG.out _⟩

set_option maxHeartbeats 1600000 in
theorem below (c : Nat) (a : Option Addr) (len cap : Nat) (n : Int) (w : World) (hl : len ≤ 4096) (hn : n ≤ 1000000000000) (hc : At c a len cap w) :
    Calls Tryd.prog 33 #[.pointer (some ⟨c, 0, none⟩), .int .i64 n] w fun e w' => ∃ x : Int, e = .returned (.int .i64 x) ∧ 0 ≤ x ∧ (0 < n → x < n) ∧ At c a len cap w' ∧ w.grownBy w' (some c) := by
  by_cases h0 : n ≤ 0
  · go_enter Tryd.func33, Tryd.ntmps33
    go_wp2_with fail
    go_ret
    exact ⟨0, rfl, by omega, by omega, hc, World.grownBy.refl _ _⟩
  · by_cases h1 : n ≤ 256
    · go_enter Tryd.func33, Tryd.ntmps33
      go_wp2_with fail
      refine (byte c a len cap _ hl hc).mono ?_
      rintro e w1 ⟨x, rfl, hx0, hx1, hA, hG⟩
      have m0 := Int.emod_nonneg x (show n ≠ 0 by omega)
      have m1 := Int.emod_lt_of_pos x (show 0 < n by omega)
      go_wp2
      go_ret
      exact ⟨x % n, rfl, m0, fun _ => m1, hA, hG⟩
    · go_enter Tryd.func33, Tryd.ntmps33
      go_wp2_with fail
      refine (byte c a len cap _ hl hc).mono ?_
      rintro e w1 ⟨x, rfl, hx0, hx1, hA, hG⟩
      go_wp2_with fail
      refine (byte c a len cap _ hl hA).mono ?_
      rintro e w2 ⟨y, rfl, hy0, hy1, hA2, hG2⟩
      go_wp2_with fail
      refine (byte c a len cap _ hl hA2).mono ?_
      rintro e w3 ⟨z, rfl, hz0, hz1, hA3, hG3⟩
      go_wp2_with fail
      refine (byte c a len cap _ hl hA3).mono ?_
      rintro e w4 ⟨u, rfl, hu0, hu1, hA4, hG4⟩
      have m0 := Int.emod_nonneg (x * 16777216 + y * 65536 + z * 256 + u) (show n ≠ 0 by omega)
      have m1 := Int.emod_lt_of_pos (x * 16777216 + y * 65536 + z * 256 + u) (show 0 < n by omega)
      go_wp2
      go_ret
      exact ⟨(x * 16777216 + y * 65536 + z * 256 + u) % n, rfl, m0, fun _ => m1, hA4, grownBy_trans (grownBy_trans (grownBy_trans hG hG2) hG3) hG4⟩

set_option maxHeartbeats 800000 in
theorem once (c : Nat) (a : Option Addr) (len cap : Nat) (n : Int) (w : World) (hl : len ≤ 4096) (hn : n ≤ 1000000000000) (hc : At c a len cap w) :
    Calls Tryd.prog 22 #[.pointer (some ⟨c, 0, none⟩), .int .i64 n] w fun e w' => ∃ b : Bool, e = .returned (.bool b) ∧ At c a len cap w' ∧ w.grownBy w' (some c) := by
  go_enter Tryd.func22, Tryd.ntmps22
  go_wp2_with fail
  refine (below c a len cap n _ hl hn hc).mono ?_
  rintro e w1 ⟨x, rfl, hx0, hx1, hA, hG⟩
  go_wp2
  go_ret
  exact ⟨_, rfl, hA, hG⟩

/-- the code, where no cursor lies over it yet -/
def Code (w : World) (a : Option Addr) (len : Nat) : Prop :=
  len = 0 ∨ ∃ b off, a = some ⟨b, off, none⟩ ∧ b < w.heap.size ∧ ∀ j, j < len → ∃ z : Int, w.cell? ⟨b, off + j, none⟩ = some (.int .u8 z) ∧ 0 ≤ z ∧ z ≤ 255

theorem at_new (w : World) (a : Option Addr) (len cap : Nat) (h : Int) (h0 : -9223372036854775808 ≤ h) (h1 : h ≤ 9223372036854775807) (hc : Code w a len) :
    At w.heap.size a len cap (w.alloc (.cells #[.slice a len cap, .int .i64 0, .int .i64 h] 55)) where
  lt := by simp
  b := by simp
  i := ⟨0, by simp, by omega, by omega⟩
  h := ⟨h, by simp, h0, h1⟩
  f1 := by simp
  f2 := by simp
  bytes := by
    rcases hc with hc | ⟨b, off, ha, hb, hcell⟩
    · exact .inl hc
    · refine .inr ⟨b, off, ha, by omega, by simp; omega, fun j hj => ?_⟩
      obtain ⟨z, hz, hz'⟩ := hcell j hj
      exact ⟨z, (World.cell?_alloc_lt w _ ⟨b, off + j, none⟩ hb).trans hz, hz'⟩

set_option maxHeartbeats 1600000 in
theorem new (a : Option Addr) (len cap : Nat) (w : World) (hl : len ≤ 4096) (hc : Code w a len) :
    Calls Tryd.prog 20 #[.slice a len cap] w fun e w' => e = .returned (.pointer (some ⟨w.heap.size, 0, none⟩)) ∧ At w.heap.size a len cap w' ∧ Below w.heap.size w w' := by
  go_enter Tryd.func20, Tryd.ntmps20
  go_wp2
  go_loop [3, 4] (fun v i => ∃ (k : Nat) (h : Int), k ≤ len ∧ i = .int .i64 k ∧ v = .int .i64 h ∧ 0 ≤ h ∧ h ≤ 1073741823) (fun _ i => len - (intOf i).toNat)
  case atStart => exact ⟨0, _, by omega, rfl, rfl, by omega, by omega⟩
  case round =>
    obtain ⟨k, h, hk, rfl, rfl, hh0, hh1⟩ := hrel
    by_cases hlt : k < len
    · rcases hc with hc | ⟨b, off, rfl, hb, hcell⟩
      · exfalso; omega
      · obtain ⟨z, cz, hz0, hz1⟩ := hcell k hlt
        clear hcell
        have hy := and_bd (h * 137 + z + 11) 1073741823 (by omega) (by omega)
        go_wp2
        go_round
        case rel => exact ⟨k + 1, _, by omega, by go_num, rfl, hy.1, hy.2⟩
        case measure => simp [intOf]; omega
    · go_wp2
      go_ret
      exact ⟨rfl, at_new w a len cap h (by omega) (by omega) hc, (Below.refl _ _).alloc (Nat.le_refl _) _⟩

end Cur
end Go.Proofs.YtghpmhfhenndiaaDoor
