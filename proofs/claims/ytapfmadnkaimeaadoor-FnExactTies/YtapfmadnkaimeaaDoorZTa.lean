/-
  What the small functions of the exact statements that write into a list of knots answer: the text of a number, a list marked, and whether it still holds the marks; for lists of at most 2^20 + 1 knots.
  What the model's writing of numbers and of knots answers: the text that the plain mathematics says; for numbers from 0 to a thousand million and right knots.
  What the model's cursor over the bytes of a draw does: it answers a number below the bound, and writes into its own cells alone; for codes of at most 4096 bytes.
-/
import Derived.Test.YtapfmadnkaimeaaDoorKnotM
import Derived.Test.YtapfmadnkaimeaaDoorMemb
import Derived.Test.YtapfmadnkaimeaaDoorBase
import Derived.BigQuiet
import Derived.Deep.QuietTactic
import Derived.WalkSmall
import Derived.Test.YtapfmadnkaimeaaDoorLaceL
namespace Go.Proofs.YtapfmadnkaimeaaDoor
open Go.RowKit
set_option maxRecDepth 100000
namespace Kn

def dig (n : Nat) : UInt8 := UInt8.ofNat (48 + n % 10)
def decF : Nat → Nat → List UInt8
  | 0, _ => []
  | f + 1, n => if n < 10 then [dig n] else decF f (n / 10) ++ [dig n]
/-- a number in decimal digits -/
def dec (n : Nat) : List UInt8 := decF 12 n

theorem decF_more (f n : Nat) (h : n < 10 ^ f) : decF (f + 1) n = decF (f + 2) n := by
  induction f generalizing n with
  | zero => have : n = 0 := by simpa using h
            subst this; rfl
  | succ f ih =>
    have e1 : decF (f + 1 + 1) n = if n < 10 then [dig n] else decF (f + 1) (n / 10) ++ [dig n] := rfl
    have e2 : decF (f + 1 + 2) n = if n < 10 then [dig n] else decF (f + 2) (n / 10) ++ [dig n] := rfl
    rw [e1, e2]
    by_cases hn : n < 10
    · simp [hn]
    · simp only [hn, if_false]
      rw [ih (n / 10) (by rw [Nat.pow_succ] at h; omega)]

theorem dec_small (n : Nat) (h : n < 10) : dec n = [dig n] := by unfold dec; rw [decF]; simp [h]
theorem dec_big (n : Nat) (h : 10 ≤ n) (h2 : n < 100000000000) : dec n = dec (n / 10) ++ [dig n] := by
  unfold dec
  have hn : ¬ n < 10 := by omega
  have e : decF 12 n = decF 11 (n / 10) ++ [dig n] := by rw [decF, if_neg hn]
  rw [e, decF_more 10 (n / 10) (by omega)]

/-- a text as a value's bytes -/
def B (l : List UInt8) : ByteArray := ⟨l.toArray⟩

def emptyOf : Value → Nat
  | .string b => if b.size = 0 then 1 else 0
  | _ => 0

theorem B_size (l : List UInt8) : (B l).size = l.length := by simp [B, ByteArray.size]
theorem B_app (a b : List UInt8) : B a ++ B b = B (a ++ b) := by
  apply ByteArray.ext; simp [B]
theorem nums_dig (m : Nat) : strOfNums [48 + (m : Int) % 10] = B [dig m] := by
  unfold strOfNums B dig
  have e : (48 + (m : Int) % 10).toNat = 48 + m % 10 := by omega
  simp [e]

theorem B_list (l : List UInt8) : (B l).toList = l := ByteArray.toList_mk l

theorem conv1 (W : World) (m : Nat) : (convert 110 9 (.slice (some ⟨W.heap.size, 0, none⟩) 1 1)).run Tryd.prog (W.alloc (.cells #[.int .u8 (48 + (m : Int) % 10)] 5)) = .ok (.string (B [dig m])) (W.alloc (.cells #[.int .u8 (48 + (m : Int) % 10)] 5)) := by
  have h := run_convert_bytes_arg (P := Tryd.prog) (W.alloc (.cells #[.int .u8 (48 + (m : Int) % 10)] 5)) 110 5 Tryd.underlying110 Tryd.underlying5 W.heap.size 0 1 1 [48 + (m : Int) % 10] rfl
    (fun i hi => by obtain rfl : i = 0 := (by omega); simp) 9 Tryd.underlying9
  rw [nums_dig] at h
  exact h

theorem len_step (n m len : Nat) (hn : n < 10000000000) (h : m * 10 ^ len ≤ n) (hc : len = 0 ∨ m ≠ 0) : len + 1 ≤ 11 ∧ m / 10 * 10 ^ (len + 1) ≤ n := by
  constructor
  · rcases hc with hc | hc
    · omega
    · have h1 : 10 ^ len ≤ m * 10 ^ len := Nat.le_mul_of_pos_left _ (by omega)
      apply Classical.byContradiction
      intro hlt
      have h2 : 10 ^ 10 ≤ 10 ^ len := Nat.pow_le_pow_right (by omega) (by omega)
      omega
  · have e : m / 10 * 10 ^ (len + 1) = (m / 10 * 10) * 10 ^ len := by rw [Nat.pow_succ, Nat.mul_comm (10 ^ len) 10, Nat.mul_assoc]
    rw [e]
    exact Nat.le_trans (Nat.mul_le_mul_right _ (Nat.div_mul_le_self m 10)) h

theorem dec_step (n m : Nat) (s : List UInt8) (hn : n < 10000000000) (hm : m ≤ n) (hc : s = [] ∨ m ≠ 0) (h : dec n = if s = [] ∨ m ≠ 0 then dec m ++ s else s) :
    dec n = if (dig m :: s) = [] ∨ m / 10 ≠ 0 then dec (m / 10) ++ (dig m :: s) else (dig m :: s) := by
  rw [if_pos hc] at h
  by_cases h10 : m < 10
  · have e : m / 10 = 0 := by omega
    rw [h, dec_small m h10, e]; simp
  · have e : m / 10 ≠ 0 := by omega
    rw [if_pos (.inr e), h, dec_big m (by omega) (by omega)]; simp

theorem isE (s : ByteArray) (h : s.size = 0) : s.toList.isEmpty = true := by
  rw [ByteArray.toList_eq, List.isEmpty_iff]
  exact List.length_eq_zero_iff.1 (by simpa using h)
theorem isN (s : ByteArray) (h : ¬ s.size = 0) : s.toList.isEmpty = false := by
  cases he : s.toList.isEmpty
  · rfl
  · exfalso
    rw [ByteArray.toList_eq, List.isEmpty_iff] at he
    have := congrArg List.length he
    exact h (by simpa using this)

end Kn
end Go.Proofs.YtapfmadnkaimeaaDoor

namespace Go.Proofs.YtapfmadnkaimeaaDoor
open Go.RowKit
set_option maxRecDepth 100000
namespace Cur

theorem and_bd (n m : Int) (h0 : 0 ≤ m) (h1 : m < 9223372036854775808) : 0 ≤ bits .and .i64 n m ∧ bits .and .i64 n m ≤ m := by
  obtain ⟨M, rfl⟩ := Int.eq_ofNat_of_zero_le h0
  have hM : (BitVec.ofInt 64 (M : Int)).toNat = M := ofInt_u64 M (by omega)
  have hx : (BitVec.ofInt 64 n &&& BitVec.ofInt 64 (M : Int)).toNat ≤ M := by
    rw [BitVec.toNat_and, hM]; exact Nat.and_le_right
  have e : bits .and .i64 n (M : Int) = IntKind.i64.wrap ((BitVec.ofInt 64 n &&& BitVec.ofInt 64 (M : Int)).toNat : Int) := rfl
  rw [e]
  generalize (BitVec.ofInt 64 n &&& BitVec.ofInt 64 (M : Int)).toNat = x at hx
  simp only [IntKind.wrap, IntKind.bits, IntKind.signed]
  simp
  omega

/-- the bytes of the code -/
def Bytes (w : World) (c : Nat) (a : Option Addr) (len : Nat) : Prop :=
  len = 0 ∨ ∃ b off, a = some ⟨b, off, none⟩ ∧ b ≠ c ∧ b < w.heap.size ∧ ∀ j, j < len → ∃ z : Int, w.cell? ⟨b, off + j, none⟩ = some (.int .u8 z) ∧ 0 ≤ z ∧ z ≤ 255

/-- the cursor lies in block c, over the code -/
structure At (c : Nat) (a : Option Addr) (len cap : Nat) (w : World) : Prop where
  lt : c < w.heap.size
  b : w.cell? ⟨c, 0, none⟩ = some (.slice a len cap)
  i : ∃ i : Int, w.cell? ⟨c, 1, none⟩ = some (.int .i64 i) ∧ 0 ≤ i ∧ i ≤ (len : Int)
  h : ∃ h : Int, w.cell? ⟨c, 2, none⟩ = some (.int .i64 h) ∧ -9223372036854775808 ≤ h ∧ h ≤ 9223372036854775807
  f1 : w.frozen? ⟨c, 1, none⟩ = false
  f2 : w.frozen? ⟨c, 2, none⟩ = false
  bytes : Bytes w c a len

theorem At.below {c : Nat} {a : Option Addr} {len cap : Nat} {w w' : World} (h : At c a len cap w) (hb : Below w.heap.size w w') : At c a len cap w' where
  lt := Nat.lt_of_lt_of_le h.lt hb.size
  b := (hb.cell (p := ⟨c, 0, none⟩) h.lt).trans h.b
  i := by obtain ⟨i, h1, h2⟩ := h.i; exact ⟨i, (hb.cell (p := ⟨c, 1, none⟩) h.lt).trans h1, h2⟩
  h := by obtain ⟨i, h1, h2⟩ := h.h; exact ⟨i, (hb.cell (p := ⟨c, 2, none⟩) h.lt).trans h1, h2⟩
  f1 := (hb.frozen (p := ⟨c, 1, none⟩) h.lt).trans h.f1
  f2 := (hb.frozen (p := ⟨c, 2, none⟩) h.lt).trans h.f2
  bytes := by
    rcases h.bytes with h0 | ⟨b, off, ha, hne, hlt, hc⟩
    · exact .inl h0
    · refine .inr ⟨b, off, ha, hne, Nat.lt_of_lt_of_le hlt hb.size, fun j hj => ?_⟩
      obtain ⟨z, h1, h2⟩ := hc j hj
      exact ⟨z, (hb.cell (p := ⟨b, off + j, none⟩) hlt).trans h1, h2⟩

theorem At.drewN {c : Nat} {a : Option Addr} {len cap : Nat} {w : World} (h : At c a len cap w) (n : Nat) : At c a len cap (w.drewN n) := ⟨h.lt, h.b, h.i, h.h, h.f1, h.f2, h.bytes⟩

theorem At.setI {c : Nat} {a : Option Addr} {len cap : Nat} {w : World} (h : At c a len cap w) (i : Int) (h0 : 0 ≤ i) (h1 : i ≤ (len : Int)) : At c a len cap (w.setCell ⟨c, 1, none⟩ (.int .i64 i)) where
  lt := by simpa using h.lt
  b := (World.cell?_setCell_other _ _ _ _ (by simp)).trans h.b
  i := by obtain ⟨j, hj, _⟩ := h.i; exact ⟨i, World.cell?_setCell_same _ _ _ hj, h0, h1⟩
  h := by obtain ⟨j, hj, hh⟩ := h.h; exact ⟨j, (World.cell?_setCell_other _ _ _ _ (by simp)).trans hj, hh⟩
  f1 := by simpa using h.f1
  f2 := by simpa using h.f2
  bytes := by
    rcases h.bytes with h0 | ⟨b, off, ha, hne, hlt, hc⟩
    · exact .inl h0
    · refine .inr ⟨b, off, ha, hne, by simpa using hlt, fun j hj => ?_⟩
      obtain ⟨z, h1, h2⟩ := hc j hj
      exact ⟨z, (World.cell?_setCell_other _ _ _ _ (by simp)).trans h1, h2⟩

theorem At.setH {c : Nat} {a : Option Addr} {len cap : Nat} {w : World} (h : At c a len cap w) (i : Int) (h0 : -9223372036854775808 ≤ i) (h1 : i ≤ 9223372036854775807) : At c a len cap (w.setCell ⟨c, 2, none⟩ (.int .i64 i)) where
  lt := by simpa using h.lt
  b := (World.cell?_setCell_other _ _ _ _ (by simp)).trans h.b
  i := by obtain ⟨j, hj, hh⟩ := h.i; exact ⟨j, (World.cell?_setCell_other _ _ _ _ (by simp)).trans hj, hh⟩
  h := by obtain ⟨j, hj, _⟩ := h.h; exact ⟨i, World.cell?_setCell_same _ _ _ hj, h0, h1⟩
  f1 := by simpa using h.f1
  f2 := by simpa using h.f2
  bytes := by
    rcases h.bytes with h0 | ⟨b, off, ha, hne, hlt, hc⟩
    · exact .inl h0
    · refine .inr ⟨b, off, ha, hne, by simpa using hlt, fun j hj => ?_⟩
      obtain ⟨z, h1, h2⟩ := hc j hj
      exact ⟨z, (World.cell?_setCell_other _ _ _ _ (by simp)).trans h1, h2⟩

theorem grownBy_trans {a b d : World} {r : Option Nat} (h : a.grownBy b r) (k : b.grownBy d r) : a.grownBy d r where
  os := k.os.trans h.os
  tape := k.tape.trans h.tape
  output := k.output.trans h.output
  size := Nat.le_trans h.size k.size
  block := fun j hj hne => (k.block j (Nat.lt_of_lt_of_le hj h.size) hne).trans (h.block j hj hne)
theorem grownBy_drewN {a b : World} {r : Option Nat} (h : a.grownBy b r) (n : Nat) : a.grownBy (b.drewN n) r := ⟨h.os, h.tape, h.output, h.size, h.block⟩
theorem grownBy_set {a b : World} {c : Nat} (h : a.grownBy b (some c)) (j : Nat) (u : Value) : a.grownBy (b.setCell ⟨c, j, none⟩ u) (some c) where
  os := h.os
  tape := h.tape
  output := h.output
  size := by simpa using h.size
  block := fun k hk hne => (heap_setCell_other b ⟨c, j, none⟩ k u (fun e => hne (by simp [e]))).trans (h.block k hk hne)

theorem wrap64_bd (n : Int) : -9223372036854775808 ≤ wrap64 n ∧ wrap64 n ≤ 9223372036854775807 := by unfold wrap64; omega

/-- the code, where no cursor lies over it yet -/
def Code (w : World) (a : Option Addr) (len : Nat) : Prop :=
  len = 0 ∨ ∃ b off, a = some ⟨b, off, none⟩ ∧ b < w.heap.size ∧ ∀ j, j < len → ∃ z : Int, w.cell? ⟨b, off + j, none⟩ = some (.int .u8 z) ∧ 0 ≤ z ∧ z ≤ 255

end Cur
end Go.Proofs.YtapfmadnkaimeaaDoor

namespace Go.Proofs.YtapfmadnkaimeaaDoor
open Go.RowKit
set_option maxRecDepth 100000
namespace Lc
open Kn (K okK dig B B_size B_list B_app conv1)

/-- the digits of a number ahead of those that there are -/
def mdig : Nat → Nat → List UInt8 → List UInt8
  | 0, _, s => s
  | f + 1, m, s => if m = 0 then s else mdig f (m / 10) (dig m :: s)
def markS (k : Nat) : ByteArray := B (109 :: mdig k k [])

theorem mdig_zero (f : Nat) (s : List UInt8) : mdig f 0 s = s := by
  cases f <;> simp [mdig]

set_option maxHeartbeats 1600000 in
theorem markText (k : Nat) (hk : 0 < k) (hk2 : k ≤ 100000000) (w : World) : Calls Tryd.prog 52 #[.int .i64 (k : Int)] w fun e w' => e = .returned (.string (markS k)) ∧ Below w.heap.size w w' := by
  have kc := conv1
  have hk' : ¬ (k : Int) ≤ 0 := by omega
  go_enter Tryd.func52, Tryd.ntmps52
  go_wp2
  go_loopw [0, 3] (fun v t wr => ∃ (m f : Nat) (s : List UInt8), v = .int .i64 (m : Int) ∧ t = .string (B s) ∧ m ≤ f ∧ s.length + m ≤ k ∧ Hid (mdig k k [] = mdig f m s) ∧ Hid (Below w.heap.size w wr)) (fun v _ _ => (intOf v).toNat)
  case atStart => exact ⟨k, k, [], rfl, rfl, Nat.le_refl _, by simp, rfl, Below.refl _ _⟩
  case round =>
    obtain ⟨m, f, s, rfl, rfl, hmf, hsm, HD, HB⟩ := hrel
    have hsz := B_size s
    have hsz1 : ∀ x : Nat, (B [dig x]).size = 1 := fun x => B_size _
    by_cases hm : 0 < m
    · obtain ⟨f', rfl⟩ : ∃ f', f = f' + 1 := ⟨f - 1, by omega⟩
      have HN : Hid (mdig k k [] = mdig f' (m / 10) (dig m :: s)) := by
        show _ = _
        rw [HD.out]
        show (if m = 0 then s else _) = _
        rw [if_neg (by omega)]
      have HE : Hid (B [dig m] ++ B s = B (dig m :: s)) := B_app [dig m] s
      have HB1 : ∀ o : Obj, Hid (Below w.heap.size w (wr.alloc o)) := fun o => HB.out.alloc HB.out.size o
      have hm' : (0 : Int) < (m : Int) := by omega
      clear HD
      go_wp2
      go_roundw
      case rel => exact ⟨m / 10, f', dig m :: s, by go_num, by rw [HE.out], by omega, by simp; omega, HN, HB1 _⟩
      case measure => simp [intOf]; omega
    · obtain rfl : m = 0 := by omega
      have HE : Hid (B [109] ++ B s = markS k) := by
        show _ = _
        rw [B_app]; unfold markS; rw [HD.out, mdig_zero]; rfl
      have HE2 : Hid ((⟨#[109]⟩ : ByteArray) = B [109]) := rfl
      go_wp2
      go_ret
      exact ⟨by rw [← HE.out]; rfl, HB.out⟩

/-! ### cells, one behind the other -/
structure Fill (w : World) (b n : Nat) (f : Nat → Value) (m : Nat) : Prop where
  lt : b < w.heap.size
  rd : ∀ i, i < m → w.cell? ⟨b, i, none⟩ = some (f i)
  ex : ∀ i, i < n * 4 → ∃ v, w.cell? ⟨b, i, none⟩ = some v
  fr : ∀ i, i < n * 4 → w.frozen? ⟨b, i, none⟩ = false

theorem Fill.below {w w' : World} {b n m : Nat} {f : Nat → Value} (h : Fill w b n f m) (hb : Below w.heap.size w w') : Fill w' b n f m where
  lt := Nat.lt_of_lt_of_le h.lt hb.size
  rd := fun i hi => (hb.cell (p := ⟨b, i, none⟩) h.lt).trans (h.rd i hi)
  ex := fun i hi => by obtain ⟨v, hv⟩ := h.ex i hi; exact ⟨v, (hb.cell (p := ⟨b, i, none⟩) h.lt).trans hv⟩
  fr := fun i hi => (hb.frozen (p := ⟨b, i, none⟩) h.lt).trans (h.fr i hi)

theorem Fill.put {w : World} {b n m : Nat} {f : Nat → Value} (h : Fill w b n f m) (hm : m < n * 4) (v : Value) (hv : v = f m) : Fill (w.setCell ⟨b, m, none⟩ v) b n f (m + 1) where
  lt := by simpa using h.lt
  rd := fun i hi => by
    by_cases e : i = m
    · subst e; obtain ⟨u, hu⟩ := h.ex i hm; rw [hv]; exact World.cell?_setCell_same _ _ _ hu
    · exact (World.cell?_setCell_other _ _ _ _ (ne_off e)).trans (h.rd i (by omega))
  ex := fun i hi => by
    obtain ⟨u, hu⟩ := h.ex i hi
    by_cases e : i = m
    · subst e; exact ⟨v, World.cell?_setCell_same _ _ _ hu⟩
    · exact ⟨u, (World.cell?_setCell_other _ _ _ _ (ne_off e)).trans hu⟩
  fr := fun i hi => by simpa using h.fr i hi

/-- what marked cells hold -/
def cellM (k0 i : Nat) : Value := if i % 4 = 3 then .string (markS (k0 + i)) else .int .i64 ((k0 + i : Nat) : Int)
theorem cellM_int (k0 j c : Nat) (hc : c < 3) (x : Int) (hx : x = ((k0 + (j * 4 + c) : Nat) : Int)) : Value.int .i64 x = cellM k0 (j * 4 + c) := by
  unfold cellM; rw [if_neg (by omega), hx]
theorem cellM_str (k0 j : Nat) : Value.string (markS (k0 + (j * 4 + 3))) = cellM k0 (j * 4 + 3) := by
  unfold cellM; rw [if_pos (by omega)]

theorem grown_below {w w' : World} (h : Below w.heap.size w w') (r : Option Nat) : w.grownBy w' r := ⟨h.os, h.tape, h.output, h.size, fun j hj _ => h.block j hj⟩

/-- marked -/
def MarkPost (b n : Nat) (w : World) (e : Ending) (w' : World) : Prop := e = .returned (.int .i64 (1 + (n : Int) * 4)) ∧ Fill w' b n (cellM 1) (n * 4) ∧ w.grownBy w' (some b)

set_option maxHeartbeats 3200000 in
theorem markKnotS (b n cap : Nat) (w : World) (hn : n ≤ 2000000) (hf : Fill w b n (cellM 1) 0) : Calls Tryd.prog 24 #[.slice (some ⟨b, 0, none⟩) n cap, .int .i64 1] w (MarkPost b n w) := by
  go_enter Tryd.func24, Tryd.ntmps24
  go_wp2
  go_loopw [1, 5] (fun k i wr => ∃ j : Nat, j ≤ n ∧ i = .int .i64 (j : Int) ∧ k = .int .i64 (1 + (j : Int) * 4) ∧ Hid (Fill wr b n (cellM 1) (j * 4)) ∧ Hid (w.grownBy wr (some b))) (fun _ i _ => n - (intOf i).toNat)
  case atStart => exact ⟨0, by omega, rfl, rfl, by show Fill _ _ _ _ (0 * 4); rw [Nat.zero_mul]; exact hf, World.grownBy.refl _ _⟩
  case round =>
    obtain ⟨j, hj, rfl, rfl, HF, HG⟩ := hrel
    by_cases hlt : j < n
    · have F0 := HF.out
      obtain ⟨v0, e0⟩ := F0.ex (j * 4) (by omega)
      obtain ⟨v1, e1⟩ := F0.ex (j * 4 + 1) (by omega)
      obtain ⟨v2, e2⟩ := F0.ex (j * 4 + 2) (by omega)
      have f0 := F0.fr (j * 4) (by omega)
      have f1 := F0.fr (j * 4 + 1) (by omega)
      have f2 := F0.fr (j * 4 + 2) (by omega)
      have F1 := F0.put (by omega) (.int .i64 (1 + (j : Int) * 4)) (cellM_int 1 j 0 (by omega) _ (by omega))
      have F2 := F1.put (by omega) (.int .i64 (1 + (j : Int) * 4 + 1)) (cellM_int 1 j 1 (by omega) _ (by omega))
      have F3 := F2.put (by omega) (.int .i64 (1 + (j : Int) * 4 + 1 + 1)) (cellM_int 1 j 2 (by omega) _ (by omega))
      have HP : Hid (Fill (((wr.setCell ⟨b, j * 4, none⟩ (.int .i64 (1 + (j : Int) * 4))).setCell ⟨b, j * 4 + 1, none⟩ (.int .i64 (1 + (j : Int) * 4 + 1))).setCell ⟨b, j * 4 + 2, none⟩ (.int .i64 (1 + (j : Int) * 4 + 1 + 1))) b n (cellM 1) (j * 4 + 3) ∧ w.grownBy (((wr.setCell ⟨b, j * 4, none⟩ (.int .i64 (1 + (j : Int) * 4))).setCell ⟨b, j * 4 + 1, none⟩ (.int .i64 (1 + (j : Int) * 4 + 1))).setCell ⟨b, j * 4 + 2, none⟩ (.int .i64 (1 + (j : Int) * 4 + 1 + 1))) (some b)) :=
        ⟨F3, Cur.grownBy_set (Cur.grownBy_set (Cur.grownBy_set HG.out _ _) _ _) _ _⟩
      clear F0 F1 F2 F3 HF HG
      go_wp2_with fail
      generalize ((wr.setCell ⟨b, j * 4, none⟩ (.int .i64 (1 + (j : Int) * 4))).setCell ⟨b, j * 4 + 1, none⟩ (.int .i64 (1 + (j : Int) * 4 + 1))).setCell ⟨b, j * 4 + 2, none⟩ (.int .i64 (1 + (j : Int) * 4 + 1 + 1)) = w3 at HP ⊢
      clear e0 e1 e2 f0 f1 f2
      have ek : (1 + (j : Int) * 4 + 1 + 1 + 1) = ((1 + (j * 4 + 3) : Nat) : Int) := by omega
      have hmt : Calls Tryd.prog 52 #[.int .i64 (1 + (j : Int) * 4 + 1 + 1 + 1)] w3 fun e w' => e = .returned (.string (markS (1 + (j * 4 + 3)))) ∧ Below w3.heap.size w3 w' := by
        rw [ek]; exact markText (1 + (j * 4 + 3)) (by omega) (by omega) w3
      clear ek
      refine hmt.mono ?_
      clear hmt
      rintro e w4 ⟨rfl, hb4⟩
      have F4 := HP.out.1.below hb4
      have G4 := Cur.grownBy_trans HP.out.2 (grown_below hb4 _)
      obtain ⟨v3, e3⟩ := F4.ex (j * 4 + 3) (by omega)
      have f3 := F4.fr (j * 4 + 3) (by omega)
      have HF5 : Hid (Fill (w4.setCell ⟨b, j * 4 + 3, none⟩ (.string (markS (1 + (j * 4 + 3))))) b n (cellM 1) ((j + 1) * 4)) := by
        have := F4.put (by omega) (.string (markS (1 + (j * 4 + 3)))) (cellM_str 1 j)
        have ee : (j + 1) * 4 = j * 4 + 3 + 1 := by omega
        rw [ee]; exact this
      have HG5 : Hid (w.grownBy (w4.setCell ⟨b, j * 4 + 3, none⟩ (.string (markS (1 + (j * 4 + 3))))) (some b)) := Cur.grownBy_set G4 _ _
      clear F4 G4 HP hb4
      go_wp2
      go_roundw
      case rel => exact ⟨j + 1, by omega, by go_num, by congr 1; omega, HF5, HG5⟩
      case measure => simp [intOf]; omega
    · obtain rfl : j = n := by omega
      go_wp2
      go_ret
      exact ⟨rfl, HF.out, HG.out⟩

/-- still marked -/
def HeldPost (n : Nat) (w : World) (e : Ending) (w' : World) : Prop := e = .returned (.int .i64 (1 + (n : Int) * 4)) ∧ Below w.heap.size w w'

theorem cellM_at {w : World} {b n : Nat} (h : Fill w b n (cellM 1) (n * 4)) (j : Nat) (hj : j < n) : w.cell? ⟨b, j * 4, none⟩ = some (.int .i64 (1 + (j : Int) * 4)) ∧ w.cell? ⟨b, j * 4 + 1, none⟩ = some (.int .i64 (1 + (j : Int) * 4 + 1)) ∧ w.cell? ⟨b, j * 4 + 2, none⟩ = some (.int .i64 (1 + (j : Int) * 4 + 1 + 1)) ∧ w.cell? ⟨b, j * 4 + 3, none⟩ = some (.string (markS (1 + (j * 4 + 3)))) :=
  ⟨(h.rd (j * 4) (by omega)).trans (by rw [cellM_int 1 j 0 (by omega) (1 + (j : Int) * 4) (by omega)]; rfl), (h.rd (j * 4 + 1) (by omega)).trans (by rw [cellM_int 1 j 1 (by omega) (1 + (j : Int) * 4 + 1) (by omega)]),
    (h.rd (j * 4 + 2) (by omega)).trans (by rw [cellM_int 1 j 2 (by omega) (1 + (j : Int) * 4 + 1 + 1) (by omega)]), (h.rd (j * 4 + 3) (by omega)).trans (by rw [cellM_str])⟩

set_option maxHeartbeats 3200000 in
theorem heldKnotS (b n cap : Nat) (w : World) (hn : n ≤ 2000000) (hf : Fill w b n (cellM 1) (n * 4)) : Calls Tryd.prog 25 #[.slice (some ⟨b, 0, none⟩) n cap, .int .i64 1] w (HeldPost n w) := by
  go_enter Tryd.func25, Tryd.ntmps25
  go_wp2
  go_loopw [1, 5] (fun k i wr => ∃ j : Nat, j ≤ n ∧ i = .int .i64 (j : Int) ∧ k = .int .i64 (1 + (j : Int) * 4) ∧ Hid (Below w.heap.size w wr)) (fun _ i _ => n - (intOf i).toNat)
  case atStart => exact ⟨0, by omega, rfl, rfl, Below.refl _ _⟩
  case round =>
    obtain ⟨j, hj, rfl, rfl, HB⟩ := hrel
    by_cases hlt : j < n
    · have F0 := hf.below HB.out
      obtain ⟨c0, c1, c2, c3⟩ := cellM_at F0 j hlt
      obtain ⟨X, _, F, HF, HG⟩ := Fam.fam wr
      have d3 : ∀ z, (F z).cell? ⟨b, j * 4 + 3, none⟩ = some (.string (markS (1 + (j * 4 + 3)))) := fun z => ((HF.out z).cell (p := ⟨b, j * 4 + 3, none⟩) F0.lt).trans c3
      have ek : (1 + (j : Int) * 4 + 1 + 1 + 1) = ((1 + (j * 4 + 3) : Nat) : Int) := by omega
      have HMT : Hid (∀ V : World, Calls Tryd.prog 52 #[.int .i64 (1 + (j : Int) * 4 + 1 + 1 + 1)] V fun e w' => e = .returned (.string (markS (1 + (j * 4 + 3)))) ∧ Below V.heap.size V w') := by
        intro V; rw [ek]; exact markText (1 + (j * 4 + 3)) (by omega) (by omega) V
      clear ek F0 c3
      generalize markS (1 + (j * 4 + 3)) = ms at HMT d3
      go_wp2_with fail
      clear c0 c1 c2
      refine Fam.region (F := F) (by kernel_rfl) (by kernel_rfl) (HG.out _ (Below.refl _ wr).drew) ?_
      repeat (go_big_quiet_step (first
        | (go_at_call 52; exact (HMT.out _).mono fun _ _ h => ⟨h.1, HG.out _ ((HF.out _).trans (h.2.mono (HF.out _).size))⟩)))
      refine wpQuiet_nil ?_
      intro w2 hw2
      obtain ⟨z, rfl⟩ := hw2
      have HB2 : Hid (Below w.heap.size w (F z)) := HB.out.trans ((HF.out z).mono HB.out.size)
      clear d3
      go_wp2
      go_roundw
      case rel => exact ⟨j + 1, by omega, by go_num, by congr 1; omega, HB2⟩
      case measure => simp [intOf]; omega
    · obtain rfl : j = n := by omega
      go_wp2
      go_ret
      exact ⟨rfl, HB.out⟩

end Lc
end Go.Proofs.YtapfmadnkaimeaaDoor
