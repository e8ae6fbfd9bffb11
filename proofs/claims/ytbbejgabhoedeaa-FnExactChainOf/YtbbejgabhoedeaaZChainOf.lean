/-
  FnExactChainOf answers true at every argument, for ChainOf answers as its model does, writes into no argument, and its answer owns its memory; no condition.
  What the model's writing of numbers and of knots answers: the text that the plain mathematics says; for numbers from 0 to a thousand million and right knots.
  What the small functions of the exact statements that write into a list of knots answer: the text of a number, a list marked, and whether it still holds the marks; for lists of at most 2^20 + 1 knots.
-/
import Derived.Test.YtbbejgabhoedeaaKnotM
import Derived.Test.YtbbejgabhoedeaaMemb
import Derived.Test.YtbbejgabhoedeaaLaceL
import Derived.Test.YtbbejgabhoedeaaCur
import Derived.Test.YtbbejgabhoedeaaRows
import Derived.WalkKit
import Derived.ProofKit
import Derived.OpenShut
import Derived.ChangeOld
import Derived.Below
import Derived.Lib.SmallJoins
import Derived.Test.YtbbejgabhoedeaaLaceG
import Derived.Test.YtbbejgabhoedeaaIntsG
import Derived.Test.YtbbejgabhoedeaaMarkI
import Derived.Test.YtbbejgabhoedeaaChainS
import Derived.Test.YtbbejgabhoedeaaZChain
namespace Go.Proofs.Ytbbejgabhoedeaa
open Go.RowKit
set_option maxRecDepth 100000
namespace Kn

def dig (n : Nat) : UInt8 := UInt8.ofNat (48 + n % 10)
def decF : Nat → Nat → List UInt8
  | 0, _ => []
  | f + 1, n => if n < 10 then [dig n] else decF f (n / 10) ++ [dig n]
/-- a number in decimal digits -/
def dec (n : Nat) : List UInt8 := decF 12 n

theorem decF_more (f n : Nat) (h : n < 10 ^ f) : decF (f + 1) n = decF (f + 2) n := by
  induction f generalizing n with
  | zero => have : n = 0 := by simpa using h
            subst this; rfl
  | succ f ih =>
    have e1 : decF (f + 1 + 1) n = if n < 10 then [dig n] else decF (f + 1) (n / 10) ++ [dig n] := rfl
    have e2 : decF (f + 1 + 2) n = if n < 10 then [dig n] else decF (f + 2) (n / 10) ++ [dig n] := rfl
    rw [e1, e2]
    by_cases hn : n < 10
    · simp [hn]
    · simp only [hn, if_false]
      rw [ih (n / 10) (by rw [Nat.pow_succ] at h; omega)]

theorem dec_small (n : Nat) (h : n < 10) : dec n = [dig n] := by unfold dec; rw [decF]; simp [h]
theorem dec_big (n : Nat) (h : 10 ≤ n) (h2 : n < 100000000000) : dec n = dec (n / 10) ++ [dig n] := by
  unfold dec
  have hn : ¬ n < 10 := by omega
  have e : decF 12 n = decF 11 (n / 10) ++ [dig n] := by rw [decF, if_neg hn]
  rw [e, decF_more 10 (n / 10) (by omega)]

/-- a text as a value's bytes -/
def B (l : List UInt8) : ByteArray := ⟨l.toArray⟩

def emptyOf : Value → Nat
  | .string b => if b.size = 0 then 1 else 0
  | _ => 0

theorem B_size (l : List UInt8) : (B l).size = l.length := by simp [B, ByteArray.size]
theorem B_app (a b : List UInt8) : B a ++ B b = B (a ++ b) := by
  apply ByteArray.ext; simp [B]
theorem nums_dig (m : Nat) : strOfNums [48 + (m : Int) % 10] = B [dig m] := by
  unfold strOfNums B dig
  have e : (48 + (m : Int) % 10).toNat = 48 + m % 10 := by omega
  simp [e]

theorem B_list (l : List UInt8) : (B l).toList = l := ByteArray.toList_mk l

theorem conv1 (W : World) (m : Nat) : (convert 81 9 (.slice (some ⟨W.heap.size, 0, none⟩) 1 1)).run Try.prog (W.alloc (.cells #[.int .u8 (48 + (m : Int) % 10)] 5)) = .ok (.string (B [dig m])) (W.alloc (.cells #[.int .u8 (48 + (m : Int) % 10)] 5)) := by
  have h := run_convert_bytes_arg (P := Try.prog) (W.alloc (.cells #[.int .u8 (48 + (m : Int) % 10)] 5)) 81 5 Try.underlying81 Try.underlying5 W.heap.size 0 1 1 [48 + (m : Int) % 10] rfl
    (fun i hi => by obtain rfl : i = 0 := (by omega); simp) 9 Try.underlying9
  rw [nums_dig] at h
  exact h

theorem len_step (n m len : Nat) (hn : n < 10000000000) (h : m * 10 ^ len ≤ n) (hc : len = 0 ∨ m ≠ 0) : len + 1 ≤ 11 ∧ m / 10 * 10 ^ (len + 1) ≤ n := by
  constructor
  · rcases hc with hc | hc
    · omega
    · have h1 : 10 ^ len ≤ m * 10 ^ len := Nat.le_mul_of_pos_left _ (by omega)
      apply Classical.byContradiction
      intro hlt
      have h2 : 10 ^ 10 ≤ 10 ^ len := Nat.pow_le_pow_right (by omega) (by omega)
      omega
  · have e : m / 10 * 10 ^ (len + 1) = (m / 10 * 10) * 10 ^ len := by rw [Nat.pow_succ, Nat.mul_comm (10 ^ len) 10, Nat.mul_assoc]
    rw [e]
    exact Nat.le_trans (Nat.mul_le_mul_right _ (Nat.div_mul_le_self m 10)) h

theorem dec_step (n m : Nat) (s : List UInt8) (hn : n < 10000000000) (hm : m ≤ n) (hc : s = [] ∨ m ≠ 0) (h : dec n = if s = [] ∨ m ≠ 0 then dec m ++ s else s) :
    dec n = if (dig m :: s) = [] ∨ m / 10 ≠ 0 then dec (m / 10) ++ (dig m :: s) else (dig m :: s) := by
  rw [if_pos hc] at h
  by_cases h10 : m < 10
  · have e : m / 10 = 0 := by omega
    rw [h, dec_small m h10, e]; simp
  · have e : m / 10 ≠ 0 := by omega
    rw [if_pos (.inr e), h, dec_big m (by omega) (by omega)]; simp

theorem isE (s : ByteArray) (h : s.size = 0) : s.toList.isEmpty = true := by
  rw [ByteArray.toList_eq, List.isEmpty_iff]
  exact List.length_eq_zero_iff.1 (by simpa using h)
theorem isN (s : ByteArray) (h : ¬ s.size = 0) : s.toList.isEmpty = false := by
  cases he : s.toList.isEmpty
  · rfl
  · exfalso
    rw [ByteArray.toList_eq, List.isEmpty_iff] at he
    have := congrArg List.length he
    exact h (by simpa using this)

end Kn
end Go.Proofs.Ytbbejgabhoedeaa

namespace Go.Proofs.Ytbbejgabhoedeaa
open Go.RowKit
set_option maxRecDepth 100000
namespace Lc
open Kn (K okK dig B B_size B_list B_app conv1)

/-- the digits of a number ahead of those that there are -/
def mdig : Nat → Nat → List UInt8 → List UInt8
  | 0, _, s => s
  | f + 1, m, s => if m = 0 then s else mdig f (m / 10) (dig m :: s)
def markS (k : Nat) : ByteArray := B (109 :: mdig k k [])

theorem mdig_zero (f : Nat) (s : List UInt8) : mdig f 0 s = s := by
  cases f <;> simp [mdig]

set_option maxHeartbeats 1600000 in
theorem markText (k : Nat) (hk : 0 < k) (hk2 : k ≤ 100000000) (w : World) : Calls Try.prog 33 #[.int .i64 (k : Int)] w fun e w' => e = .returned (.string (markS k)) ∧ Below w.heap.size w w' := by
  have kc := conv1
  have hk' : ¬ (k : Int) ≤ 0 := by omega
  go_enter Try.func33, Try.ntmps33
  go_wp2
  go_loopw [0, 3] (fun v t wr => ∃ (m f : Nat) (s : List UInt8), v = .int .i64 (m : Int) ∧ t = .string (B s) ∧ m ≤ f ∧ s.length + m ≤ k ∧ Hid (mdig k k [] = mdig f m s) ∧ Hid (Below w.heap.size w wr)) (fun v _ _ => (intOf v).toNat)
  case atStart => exact ⟨k, k, [], rfl, rfl, Nat.le_refl _, by simp, rfl, Below.refl _ _⟩
  case round =>
    obtain ⟨m, f, s, rfl, rfl, hmf, hsm, HD, HB⟩ := hrel
    have hsz := B_size s
    have hsz1 : ∀ x : Nat, (B [dig x]).size = 1 := fun x => B_size _
    by_cases hm : 0 < m
    · obtain ⟨f', rfl⟩ : ∃ f', f = f' + 1 := ⟨f - 1, by omega⟩
      have HN : Hid (mdig k k [] = mdig f' (m / 10) (dig m :: s)) := by
        show _ = _
        rw [HD.out]
        show (if m = 0 then s else _) = _
        rw [if_neg (by omega)]
      have HE : Hid (B [dig m] ++ B s = B (dig m :: s)) := B_app [dig m] s
      have HB1 : ∀ o : Obj, Hid (Below w.heap.size w (wr.alloc o)) := fun o => HB.out.alloc HB.out.size o
      have hm' : (0 : Int) < (m : Int) := by omega
      clear HD
      go_wp2
      go_roundw
      case rel => exact ⟨m / 10, f', dig m :: s, by go_num, by rw [HE.out], by omega, by simp; omega, HN, HB1 _⟩
      case measure => simp [intOf]; omega
    · obtain rfl : m = 0 := by omega
      have HE : Hid (B [109] ++ B s = markS k) := by
        show _ = _
        rw [B_app]; unfold markS; rw [HD.out, mdig_zero]; rfl
      have HE2 : Hid ((⟨#[109]⟩ : ByteArray) = B [109]) := rfl
      go_wp2
      go_ret
      exact ⟨by rw [← HE.out]; rfl, HB.out⟩

/-! ### cells, one behind the other -/
structure Fill (w : World) (b n : Nat) (f : Nat → Value) (m : Nat) : Prop where
  lt : b < w.heap.size
  rd : ∀ i, i < m → w.cell? ⟨b, i, none⟩ = some (f i)
  ex : ∀ i, i < n * 4 → ∃ v, w.cell? ⟨b, i, none⟩ = some v
  fr : ∀ i, i < n * 4 → w.frozen? ⟨b, i, none⟩ = false

theorem Fill.below {w w' : World} {b n m : Nat} {f : Nat → Value} (h : Fill w b n f m) (hb : Below w.heap.size w w') : Fill w' b n f m where
  lt := Nat.lt_of_lt_of_le h.lt hb.size
  rd := fun i hi => (hb.cell (p := ⟨b, i, none⟩) h.lt).trans (h.rd i hi)
  ex := fun i hi => by obtain ⟨v, hv⟩ := h.ex i hi; exact ⟨v, (hb.cell (p := ⟨b, i, none⟩) h.lt).trans hv⟩
  fr := fun i hi => (hb.frozen (p := ⟨b, i, none⟩) h.lt).trans (h.fr i hi)

theorem Fill.put {w : World} {b n m : Nat} {f : Nat → Value} (h : Fill w b n f m) (hm : m < n * 4) (v : Value) (hv : v = f m) : Fill (w.setCell ⟨b, m, none⟩ v) b n f (m + 1) where
  lt := by simpa using h.lt
  rd := fun i hi => by
    by_cases e : i = m
    · subst e; obtain ⟨u, hu⟩ := h.ex i hm; rw [hv]; exact World.cell?_setCell_same _ _ _ hu
    · exact (World.cell?_setCell_other _ _ _ _ (ne_off e)).trans (h.rd i (by omega))
  ex := fun i hi => by
    obtain ⟨u, hu⟩ := h.ex i hi
    by_cases e : i = m
    · subst e; exact ⟨v, World.cell?_setCell_same _ _ _ hu⟩
    · exact ⟨u, (World.cell?_setCell_other _ _ _ _ (ne_off e)).trans hu⟩
  fr := fun i hi => by simpa using h.fr i hi

/-- what marked cells hold -/
def cellM (k0 i : Nat) : Value := if i % 4 = 3 then .string (markS (k0 + i)) else .int .i64 ((k0 + i : Nat) : Int)
theorem cellM_int (k0 j c : Nat) (hc : c < 3) (x : Int) (hx : x = ((k0 + (j * 4 + c) : Nat) : Int)) : Value.int .i64 x = cellM k0 (j * 4 + c) := by
  unfold cellM; rw [if_neg (by omega), hx]
theorem cellM_str (k0 j : Nat) : Value.string (markS (k0 + (j * 4 + 3))) = cellM k0 (j * 4 + 3) := by
  unfold cellM; rw [if_pos (by omega)]

theorem grown_below {w w' : World} (h : Below w.heap.size w w') (r : Option Nat) : w.grownBy w' r := ⟨h.os, h.tape, h.output, h.size, fun j hj _ => h.block j hj⟩

/-- marked -/
def MarkPost (b n : Nat) (w : World) (e : Ending) (w' : World) : Prop := e = .returned (.int .i64 (1 + (n : Int) * 4)) ∧ Fill w' b n (cellM 1) (n * 4) ∧ w.grownBy w' (some b)

set_option maxHeartbeats 3200000 in
theorem markKnotS (b n cap : Nat) (w : World) (hn : n ≤ 2000000) (hf : Fill w b n (cellM 1) 0) : Calls Try.prog 15 #[.slice (some ⟨b, 0, none⟩) n cap, .int .i64 1] w (MarkPost b n w) := by
  go_enter Try.func15, Try.ntmps15
  go_wp2
  go_loopw [1, 5] (fun k i wr => ∃ j : Nat, j ≤ n ∧ i = .int .i64 (j : Int) ∧ k = .int .i64 (1 + (j : Int) * 4) ∧ Hid (Fill wr b n (cellM 1) (j * 4)) ∧ Hid (w.grownBy wr (some b))) (fun _ i _ => n - (intOf i).toNat)
  case atStart => exact ⟨0, by omega, rfl, rfl, by show Fill _ _ _ _ (0 * 4); rw [Nat.zero_mul]; exact hf, World.grownBy.refl _ _⟩
  case round =>
    obtain ⟨j, hj, rfl, rfl, HF, HG⟩ := hrel
    by_cases hlt : j < n
    · have F0 := HF.out
      obtain ⟨v0, e0⟩ := F0.ex (j * 4) (by omega)
      obtain ⟨v1, e1⟩ := F0.ex (j * 4 + 1) (by omega)
      obtain ⟨v2, e2⟩ := F0.ex (j * 4 + 2) (by omega)
      have f0 := F0.fr (j * 4) (by omega)
      have f1 := F0.fr (j * 4 + 1) (by omega)
      have f2 := F0.fr (j * 4 + 2) (by omega)
      have F1 := F0.put (by omega) (.int .i64 (1 + (j : Int) * 4)) (cellM_int 1 j 0 (by omega) _ (by omega))
      have F2 := F1.put (by omega) (.int .i64 (1 + (j : Int) * 4 + 1)) (cellM_int 1 j 1 (by omega) _ (by omega))
      have F3 := F2.put (by omega) (.int .i64 (1 + (j : Int) * 4 + 1 + 1)) (cellM_int 1 j 2 (by omega) _ (by omega))
      have HP : Hid (Fill (((wr.setCell ⟨b, j * 4, none⟩ (.int .i64 (1 + (j : Int) * 4))).setCell ⟨b, j * 4 + 1, none⟩ (.int .i64 (1 + (j : Int) * 4 + 1))).setCell ⟨b, j * 4 + 2, none⟩ (.int .i64 (1 + (j : Int) * 4 + 1 + 1))) b n (cellM 1) (j * 4 + 3) ∧ w.grownBy (((wr.setCell ⟨b, j * 4, none⟩ (.int .i64 (1 + (j : Int) * 4))).setCell ⟨b, j * 4 + 1, none⟩ (.int .i64 (1 + (j : Int) * 4 + 1))).setCell ⟨b, j * 4 + 2, none⟩ (.int .i64 (1 + (j : Int) * 4 + 1 + 1))) (some b)) :=
        ⟨F3, Cur.grownBy_set (Cur.grownBy_set (Cur.grownBy_set HG.out _ _) _ _) _ _⟩
      clear F0 F1 F2 F3 HF HG
      go_wp2_with fail
      generalize ((wr.setCell ⟨b, j * 4, none⟩ (.int .i64 (1 + (j : Int) * 4))).setCell ⟨b, j * 4 + 1, none⟩ (.int .i64 (1 + (j : Int) * 4 + 1))).setCell ⟨b, j * 4 + 2, none⟩ (.int .i64 (1 + (j : Int) * 4 + 1 + 1)) = w3 at HP ⊢
      clear e0 e1 e2 f0 f1 f2
      have ek : (1 + (j : Int) * 4 + 1 + 1 + 1) = ((1 + (j * 4 + 3) : Nat) : Int) := by omega
      have hmt : Calls Try.prog 33 #[.int .i64 (1 + (j : Int) * 4 + 1 + 1 + 1)] w3 fun e w' => e = .returned (.string (markS (1 + (j * 4 + 3)))) ∧ Below w3.heap.size w3 w' := by
        rw [ek]; exact markText (1 + (j * 4 + 3)) (by omega) (by omega) w3
      clear ek
      refine hmt.mono ?_
      clear hmt
      rintro e w4 ⟨rfl, hb4⟩
      have F4 := HP.out.1.below hb4
      have G4 := Cur.grownBy_trans HP.out.2 (grown_below hb4 _)
      obtain ⟨v3, e3⟩ := F4.ex (j * 4 + 3) (by omega)
      have f3 := F4.fr (j * 4 + 3) (by omega)
      have HF5 : Hid (Fill (w4.setCell ⟨b, j * 4 + 3, none⟩ (.string (markS (1 + (j * 4 + 3))))) b n (cellM 1) ((j + 1) * 4)) := by
        have := F4.put (by omega) (.string (markS (1 + (j * 4 + 3)))) (cellM_str 1 j)
        have ee : (j + 1) * 4 = j * 4 + 3 + 1 := by omega
        rw [ee]; exact this
      have HG5 : Hid (w.grownBy (w4.setCell ⟨b, j * 4 + 3, none⟩ (.string (markS (1 + (j * 4 + 3))))) (some b)) := Cur.grownBy_set G4 _ _
      clear F4 G4 HP hb4
      go_wp2
      go_roundw
      case rel => exact ⟨j + 1, by omega, by go_num, by congr 1; omega, HF5, HG5⟩
      case measure => simp [intOf]; omega
    · obtain rfl : j = n := by omega
      go_wp2
      go_ret
      exact ⟨rfl, HF.out, HG.out⟩

/-- still marked -/
def HeldPost (n : Nat) (w : World) (e : Ending) (w' : World) : Prop := e = .returned (.int .i64 (1 + (n : Int) * 4)) ∧ Below w.heap.size w w'

theorem cellM_at {w : World} {b n : Nat} (h : Fill w b n (cellM 1) (n * 4)) (j : Nat) (hj : j < n) : w.cell? ⟨b, j * 4, none⟩ = some (.int .i64 (1 + (j : Int) * 4)) ∧ w.cell? ⟨b, j * 4 + 1, none⟩ = some (.int .i64 (1 + (j : Int) * 4 + 1)) ∧ w.cell? ⟨b, j * 4 + 2, none⟩ = some (.int .i64 (1 + (j : Int) * 4 + 1 + 1)) ∧ w.cell? ⟨b, j * 4 + 3, none⟩ = some (.string (markS (1 + (j * 4 + 3)))) :=
  ⟨(h.rd (j * 4) (by omega)).trans (by rw [cellM_int 1 j 0 (by omega) (1 + (j : Int) * 4) (by omega)]; rfl), (h.rd (j * 4 + 1) (by omega)).trans (by rw [cellM_int 1 j 1 (by omega) (1 + (j : Int) * 4 + 1) (by omega)]),
    (h.rd (j * 4 + 2) (by omega)).trans (by rw [cellM_int 1 j 2 (by omega) (1 + (j : Int) * 4 + 1 + 1) (by omega)]), (h.rd (j * 4 + 3) (by omega)).trans (by rw [cellM_str])⟩

end Lc
end Go.Proofs.Ytbbejgabhoedeaa

namespace Go.Proofs.Ytbbejgabhoedeaa.fnExactChainOf
open Go.ChangeShapes Go.WideShapes Go.ChangeAt Go.RowKit Go.Joins
open Kn (K)
open Lc (RdK)
open Db (RowI)
set_option linter.unusedVariables false
set_option maxRecDepth 100000

theorem own : ownKnob Try.prog.godebug = none := by kernel_rfl
theorem laidOut : laidOutB Try.prog = true := by kernel_rfl
theorem words {L : List K} (h : Lc.Small L) : Lc.WordsOk L := fun k hk => by have := h.2 k hk; omega
theorem made_fill {w : World} {B n j : Nat} {L : List K} (h : Lc.Made w B n L j) (f : Nat → Value) : Lc.Fill w B n f 0 := ⟨h.lt, fun i hi => by omega, h.ex, h.fr⟩
theorem trI {H : Type} {enc : TypeId × Value → H} {w : World} {base : Nat} {spare : Nat → Bool} {held : Bool} (a : Int) (wa : (Lit.int .i64 a).wf = true) : ∃ n, DataW.trod enc Try.prog w base spare held n 2 [.int .i64 a] = some (.lit (.int .i64 a), []) :=
  ⟨1, by simp [DataW.trod, Try.underlying2, wa]⟩
theorem trS {H : Type} {enc : TypeId × Value → H} {w : World} {base : Nat} {spare : Nat → Bool} {held : Bool} (a : ByteArray) (wa : a.size ≤ maxLen) : ∃ n, DataW.trod enc Try.prog w base spare held n 9 [.string a] = some (.lit (.string a.data.toList), []) :=
  ⟨1, by simp [DataW.trod, Try.underlying9, wa]⟩
theorem int_bd {a : Int} (w : (Lit.int .i64 a).wf = true) : -9223372036854775808 ≤ a ∧ a ≤ 9223372036854775807 := by
  simpa [Lit.wf, IntKind.min, IntKind.max, IntKind.signed, IntKind.bits] using w

/-- what is asked of the program -/
def ImplT : Prop := ∀ (L : List K) (C : List Int) (k : Int), L.length ≤ 1048576 → Lc.WordsOk L → C.length ≤ 1048576 → (∀ z ∈ C, -9223372036854775808 ≤ z ∧ z ≤ 9223372036854775807) → -9223372036854775808 ≤ k → k ≤ 9223372036854775807 → 
    ∀ (W : World) (g0 : Nat) (g1 : Nat), RdK W (some ⟨g0, 0, none⟩) L → g0 < W.heap.size → Lst.Rd W (some ⟨g1, 0, none⟩) C → g1 < W.heap.size → Calls Try.prog 14 #[.slice (some ⟨g0, 0, none⟩) L.length L.length, .slice (some ⟨g1, 0, none⟩) C.length C.length, .int .i64 k] W (Sg.NumsPost (Ch.chainI L C k) W)
theorem specT : ∀ (L : List K) (C : List Int) (k : Int), L.length ≤ 1048576 → Lc.WordsOk L → C.length ≤ 1048576 → (∀ z ∈ C, -9223372036854775808 ≤ z ∧ z ≤ 9223372036854775807) → -9223372036854775808 ≤ k → k ≤ 9223372036854775807 → 
    ∀ (W : World) (g0 : Nat) (g1 : Nat), RdK W (some ⟨g0, 0, none⟩) L → g0 < W.heap.size → Lst.Rd W (some ⟨g1, 0, none⟩) C → g1 < W.heap.size → Calls Try.prog 13 #[.slice (some ⟨g0, 0, none⟩) L.length L.length, .slice (some ⟨g1, 0, none⟩) C.length C.length, .int .i64 k] W (Sg.NumsPost (Ch.chainI L C k) W) :=
  fun L C k hlL hwL hlC hzC h0k h1k W g0 g1 hr0 hg0 hr1 hg1 => Ch.specChainOf _ _ _ L _ _ C k W (Nat.le_refl _) hwL hg0 hr0 hlC hr1 (Nu.at_block hg1)

set_option maxHeartbeats 6400000 in
theorem walk (HI : ImplT) (a0 : Option Addr) (cap0 : Nat) (L : List K) (a1 : Option Addr) (cap1 : Nat) (C : List Int) (k : Int) (w : World) (hl : L.length ≤ maxLen) (hws : ∀ k ∈ L, k.word.size ≤ maxLen) (hr0 : RdK w a0 L) (hmC : C.length ≤ maxLen) (hzC : ∀ z ∈ C, -9223372036854775808 ≤ z ∧ z ≤ 9223372036854775807) (hr1 : Nu.RdI w a1 C) (hnk : -9223372036854775808 ≤ k ∧ k ≤ 9223372036854775807) :
    Calls Try.prog 4 #[.slice a0 L.length cap0, .slice a1 C.length cap1, .int .i64 k] w fun e w' => e = .returned (.bool true) ∧ Below w.heap.size w w' := by
  unfold maxLen at hmC
  by_cases hbigC : 1048576 < C.length
  · have hbig' : (1048576 : Int) < (C.length : Int) := by omega
    go_enter Try.func4, Try.ntmps4
    go_wp2
    go_ret
    exact ⟨rfl, Below.refl _ _⟩
  have hbigC' : ¬ (1048576 : Int) < (C.length : Int) := by omega
  have hsC : C.length ≤ 1048576 := by omega
  clear hbigC hmC
  have HR0 : Hid (RdK w a0 L) := hr0
  have HR1 : Hid (Nu.RdI w a1 C) := hr1
  have HZC : Hid (∀ z ∈ C, -9223372036854775808 ≤ z ∧ z ≤ 9223372036854775807) := hzC
  clear hr1 hzC
  have HII : Hid ImplT := HI
  clear HI
  have hle' := @Ch.chainI_len L C k
  go_enter Try.func4, Try.ntmps4
  go_wp2_with fail
  refine (Lc.szKnotS a0 cap0 L 1048576 _ hl hws (by omega) (by omega) hr0).mono ?_
  rintro e w0 ⟨r, rfl, hr0', hr1', hsm, hb0⟩
  have HSM : Hid (0 ≤ r → Lc.Small L) := hsm
  clear hsm hr0
  have HB : Hid (Below w.heap.size w w0) := hb0
  clear hb0
  by_cases hneg : r < 0
  · go_wp2
    go_ret
    exact ⟨rfl, HB.out⟩
  have hS := HSM.out (by omega)
  have HW : Hid (Lc.WordsOk L) := words hS
  have hlen := hS.1
  clear HSM hl hws hS
  have HSP : Hid (∀ (W : World) (g0 : Nat) (g1 : Nat), RdK W (some ⟨g0, 0, none⟩) L → g0 < W.heap.size → Lst.Rd W (some ⟨g1, 0, none⟩) C → g1 < W.heap.size → Calls Try.prog 13 #[.slice (some ⟨g0, 0, none⟩) L.length L.length, .slice (some ⟨g1, 0, none⟩) C.length C.length, .int .i64 k] W (Sg.NumsPost (Ch.chainI L C k) W)) := specT L C k hlen HW.out hsC HZC.out hnk.1 hnk.2
  have HIM : Hid (∀ (W : World) (g0 : Nat) (g1 : Nat), RdK W (some ⟨g0, 0, none⟩) L → g0 < W.heap.size → Lst.Rd W (some ⟨g1, 0, none⟩) C → g1 < W.heap.size → Calls Try.prog 14 #[.slice (some ⟨g0, 0, none⟩) L.length L.length, .slice (some ⟨g1, 0, none⟩) C.length C.length, .int .i64 k] W (Sg.NumsPost (Ch.chainI L C k) W)) := HII.out L C k hlen HW.out hsC HZC.out hnk.1 hnk.2
  clear HII
  generalize Ch.chainI L C k = l at HSP HIM hle'
  have ges0 : w.heap.size ≤ w0.heap.size := HB.out.size
  go_wp2_with fail
  refine (Lc.toKnotS a0 cap0 L _ hlen (HR0.out.below HB.out)).mono ?_
  rintro e w1 ⟨rfl, hm, hb⟩
  have QHB : Hid (Below w.heap.size w w1) := HB.out.trans (hb.mono HB.out.size)
  clear HB
  have HB := QHB
  clear QHB
  have Xs0 : Hid (Lc.Made w1 w0.heap.size L.length L L.length) := hm
  have lts0 : w0.heap.size < w1.heap.size := Xs0.out.lt
  clear hm hb
  generalize w0.heap.size = ps0 at Xs0 lts0 ges0 ⊢
  have ges1 : w.heap.size ≤ w1.heap.size := HB.out.size
  go_wp2_with fail
  refine (Nu.toInts a1 cap1 C _ hsC (HR1.out.below HB.out)).mono ?_
  rintro e w2 ⟨rfl, hm, hb⟩
  have QHB : Hid (Below w.heap.size w w2) := HB.out.trans (hb.mono HB.out.size)
  have QXs0 : Hid (Lc.Made w2 ps0 L.length L L.length) := Xs0.out.below hb
  clear HB Xs0
  have HB := QHB
  have Xs0 := QXs0
  clear QHB QXs0
  have Xs1 : Hid (RowI w2 w1.heap.size C.length (fun i => C.getD i 0)) := hm
  have lts1 : w1.heap.size < w2.heap.size := Xs1.out.lt
  clear hm hb
  generalize w1.heap.size = ps1 at Xs1 lts1 ges1 lts0 ⊢
  go_wp2_with fail
  refine (HSP.out _ _ _ (Lc.made_rd Xs0.out) Xs0.out.lt (Nu.row_rd Xs1.out) Xs1.out.lt).mono ?_
  rintro e w3 ⟨ao, ac, rfl, hown, hb⟩
  have QHB : Hid (Below w.heap.size w w3) := HB.out.trans (hb.mono HB.out.size)
  have QXs0 : Hid (Lc.Made w3 ps0 L.length L L.length) := Xs0.out.below hb
  have QXs1 : Hid (RowI w3 ps1 C.length (fun i => C.getD i 0)) := Nu.row_below Xs1.out hb
  clear HB Xs0 Xs1
  have HB := QHB
  have Xs0 := QXs0
  have Xs1 := QXs1
  clear QHB QXs0 QXs1
  have HO : Hid (Memb.Own w.heap.size w3 ao ac l) := Nu.own_base hown (Nat.le_of_lt (Nat.lt_of_le_of_lt ges1 lts1))
  have HF : Hid (∀ g, ao = some ⟨g, 0, none⟩ → g < w3.heap.size) := fun g e => (Nu.own_far hown g e).2
  clear hown hb HSP
  clear Xs0 Xs1
  clear lts0 ges0 lts1 ges1
  have gex0 : w.heap.size ≤ w3.heap.size := HB.out.size
  go_wp2_with fail
  refine (Lc.toKnotS a0 cap0 L _ hlen (HR0.out.below HB.out)).mono ?_
  rintro e w4 ⟨rfl, hm, hb⟩
  have QHB : Hid (Below w.heap.size w w4) := HB.out.trans (hb.mono HB.out.size)
  have QHO : Hid (Memb.Own w.heap.size w4 ao ac l) := Nu.own_below HO.out hb
  clear HB HO
  have HB := QHB
  have HO := QHO
  clear QHB QHO
  have Xx0 : Hid (Lc.Made w4 w3.heap.size L.length L L.length) := hm
  have ltx0 : w3.heap.size < w4.heap.size := Xx0.out.lt
  clear hm hb
  generalize w3.heap.size = px0 at Xx0 ltx0 gex0 HF ⊢
  have gex1 : w.heap.size ≤ w4.heap.size := HB.out.size
  go_wp2_with fail
  refine (Nu.toInts a1 cap1 C _ hsC (HR1.out.below HB.out)).mono ?_
  rintro e w5 ⟨rfl, hm, hb⟩
  have QHB : Hid (Below w.heap.size w w5) := HB.out.trans (hb.mono HB.out.size)
  have QHO : Hid (Memb.Own w.heap.size w5 ao ac l) := Nu.own_below HO.out hb
  have QXx0 : Hid (Lc.Made w5 px0 L.length L L.length) := Xx0.out.below hb
  clear HB HO Xx0
  have HB := QHB
  have HO := QHO
  have Xx0 := QXx0
  clear QHB QHO QXx0
  have Xx1 : Hid (RowI w5 w4.heap.size C.length (fun i => C.getD i 0)) := hm
  have ltx1 : w4.heap.size < w5.heap.size := Xx1.out.lt
  clear hm hb
  generalize w4.heap.size = px1 at Xx1 ltx1 gex1 ltx0 ⊢
  go_wp2_with fail
  refine (HIM.out _ _ _ (Lc.made_rd Xx0.out) Xx0.out.lt (Nu.row_rd Xx1.out) Xx1.out.lt).mono ?_
  rintro e w6 ⟨go, gc, rfl, hown, hb⟩
  have QHB : Hid (Below w.heap.size w w6) := HB.out.trans (hb.mono HB.out.size)
  have QHO : Hid (Memb.Own w.heap.size w6 ao ac l) := Nu.own_below HO.out hb
  have QXx0 : Hid (Lc.Made w6 px0 L.length L L.length) := Xx0.out.below hb
  have QXx1 : Hid (RowI w6 px1 C.length (fun i => C.getD i 0)) := Nu.row_below Xx1.out hb
  clear HB HO Xx0 Xx1
  have HB := QHB
  have HO := QHO
  have Xx0 := QXx0
  have Xx1 := QXx1
  clear QHB QHO QXx0 QXx1
  have HG : Hid (Memb.Own w5.heap.size w6 go gc l) := hown
  have HQ : Hid (w5.heap.size ≤ w6.heap.size) := hb.size
  clear hown hb
  generalize w5.heap.size = qb at HG HQ ltx1
  go_wp2_with fail
  refine (Nu.alikeB _ _ _ _ _ _ (by omega) (Nu.own_rd HG.out) (Nu.own_rd HO.out)).mono ?_
  rintro e w7 ⟨rfl, hb⟩
  have QHB : Hid (Below w.heap.size w w7) := HB.out.trans (hb.mono HB.out.size)
  have QHO : Hid (Memb.Own w.heap.size w7 ao ac l) := Nu.own_below HO.out hb
  have QXx0 : Hid (Lc.Made w7 px0 L.length L L.length) := Xx0.out.below hb
  have QXx1 : Hid (RowI w7 px1 C.length (fun i => C.getD i 0)) := Nu.row_below Xx1.out hb
  have QHG : Hid (Memb.Own qb w7 go gc l) := Nu.own_below HG.out hb
  have QHQ : Hid (qb ≤ w7.heap.size) := Nat.le_trans HQ.out hb.size
  clear HB HO Xx0 Xx1 HG HQ
  have HB := QHB
  have HO := QHO
  have Xx0 := QXx0
  have Xx1 := QXx1
  have HG := QHG
  have HQ := QHQ
  clear QHB QHO QXx0 QXx1 QHG QHQ
  clear hb
  have gey0 : w.heap.size ≤ w7.heap.size := HB.out.size
  go_wp2_with fail
  refine (Lc.toKnotS a0 cap0 L _ hlen (HR0.out.below HB.out)).mono ?_
  rintro e w8 ⟨rfl, hm, hb⟩
  have QHB : Hid (Below w.heap.size w w8) := HB.out.trans (hb.mono HB.out.size)
  have QHO : Hid (Memb.Own w.heap.size w8 ao ac l) := Nu.own_below HO.out hb
  have QXx0 : Hid (Lc.Made w8 px0 L.length L L.length) := Xx0.out.below hb
  have QXx1 : Hid (RowI w8 px1 C.length (fun i => C.getD i 0)) := Nu.row_below Xx1.out hb
  have QHG : Hid (Memb.Own qb w8 go gc l) := Nu.own_below HG.out hb
  have QHQ : Hid (qb ≤ w8.heap.size) := Nat.le_trans HQ.out hb.size
  clear HB HO Xx0 Xx1 HG HQ
  have HB := QHB
  have HO := QHO
  have Xx0 := QXx0
  have Xx1 := QXx1
  have HG := QHG
  have HQ := QHQ
  clear QHB QHO QXx0 QXx1 QHG QHQ
  have Xy0 : Hid (Lc.Made w8 w7.heap.size L.length L L.length) := hm
  have lty0 : w7.heap.size < w8.heap.size := Xy0.out.lt
  clear hm hb
  generalize w7.heap.size = py0 at Xy0 lty0 gey0 ⊢
  go_wp2_with fail
  refine (Lc.eqKnotS _ _ _ _ _ _ L _ hlen (Lc.made_rd Xx0.out) (Lc.made_rd Xy0.out)).mono ?_
  rintro e w9 ⟨rfl, hb⟩
  have QHB : Hid (Below w.heap.size w w9) := HB.out.trans (hb.mono HB.out.size)
  have QHO : Hid (Memb.Own w.heap.size w9 ao ac l) := Nu.own_below HO.out hb
  have QXx0 : Hid (Lc.Made w9 px0 L.length L L.length) := Xx0.out.below hb
  have QXx1 : Hid (RowI w9 px1 C.length (fun i => C.getD i 0)) := Nu.row_below Xx1.out hb
  have QHG : Hid (Memb.Own qb w9 go gc l) := Nu.own_below HG.out hb
  have QHQ : Hid (qb ≤ w9.heap.size) := Nat.le_trans HQ.out hb.size
  have QXy0 : Hid (Lc.Made w9 py0 L.length L L.length) := Xy0.out.below hb
  clear HB HO Xx0 Xx1 HG HQ Xy0
  have HB := QHB
  have HO := QHO
  have Xx0 := QXx0
  have Xx1 := QXx1
  have HG := QHG
  have HQ := QHQ
  have Xy0 := QXy0
  clear QHB QHO QXx0 QXx1 QHG QHQ QXy0
  clear hb lty0 gey0
  clear Xy0
  have gey1 : w.heap.size ≤ w9.heap.size := HB.out.size
  go_wp2_with fail
  refine (Nu.toInts a1 cap1 C _ hsC (HR1.out.below HB.out)).mono ?_
  rintro e w10 ⟨rfl, hm, hb⟩
  have QHB : Hid (Below w.heap.size w w10) := HB.out.trans (hb.mono HB.out.size)
  have QHO : Hid (Memb.Own w.heap.size w10 ao ac l) := Nu.own_below HO.out hb
  have QXx0 : Hid (Lc.Made w10 px0 L.length L L.length) := Xx0.out.below hb
  have QXx1 : Hid (RowI w10 px1 C.length (fun i => C.getD i 0)) := Nu.row_below Xx1.out hb
  have QHG : Hid (Memb.Own qb w10 go gc l) := Nu.own_below HG.out hb
  have QHQ : Hid (qb ≤ w10.heap.size) := Nat.le_trans HQ.out hb.size
  clear HB HO Xx0 Xx1 HG HQ
  have HB := QHB
  have HO := QHO
  have Xx0 := QXx0
  have Xx1 := QXx1
  have HG := QHG
  have HQ := QHQ
  clear QHB QHO QXx0 QXx1 QHG QHQ
  have Xy1 : Hid (RowI w10 w9.heap.size C.length (fun i => C.getD i 0)) := hm
  have lty1 : w9.heap.size < w10.heap.size := Xy1.out.lt
  clear hm hb
  generalize w9.heap.size = py1 at Xy1 lty1 gey1 ⊢
  go_wp2_with fail
  refine (Nu.alikeB _ _ _ _ _ _ hsC (Nu.row_rd Xx1.out) (Nu.row_rd Xy1.out)).mono ?_
  rintro e w11 ⟨rfl, hb⟩
  have QHB : Hid (Below w.heap.size w w11) := HB.out.trans (hb.mono HB.out.size)
  have QHO : Hid (Memb.Own w.heap.size w11 ao ac l) := Nu.own_below HO.out hb
  have QXx0 : Hid (Lc.Made w11 px0 L.length L L.length) := Xx0.out.below hb
  have QXx1 : Hid (RowI w11 px1 C.length (fun i => C.getD i 0)) := Nu.row_below Xx1.out hb
  have QHG : Hid (Memb.Own qb w11 go gc l) := Nu.own_below HG.out hb
  have QHQ : Hid (qb ≤ w11.heap.size) := Nat.le_trans HQ.out hb.size
  have QXy1 : Hid (RowI w11 py1 C.length (fun i => C.getD i 0)) := Nu.row_below Xy1.out hb
  clear HB HO Xx0 Xx1 HG HQ Xy1
  have HB := QHB
  have HO := QHO
  have Xx0 := QXx0
  have Xx1 := QXx1
  have HG := QHG
  have HQ := QHQ
  have Xy1 := QXy1
  clear QHB QHO QXx0 QXx1 QHG QHQ QXy1
  clear hb lty1 gey1
  clear Xy1
  go_wp2_with fail
  refine (Lc.markKnotS px0 L.length L.length _ (by omega) (made_fill Xx0.out _)).mono ?_
  rintro e w12 ⟨rfl, _, hg⟩
  have QHB : Hid (Below w.heap.size w w12) := HB.out.grown hg HB.out.size (fun j hj => by simp at hj; omega)
  have QHO : Hid (Memb.Own w.heap.size w12 ao ac l) := Nu.own_grown HO.out hg (fun g e => by have := Nu.own_far HO.out g e; first | omega | (have := HF.out g e; omega))
  have QXx1 : Hid (RowI w12 px1 C.length (fun i => C.getD i 0)) := Nu.row_grown Xx1.out hg (by omega)
  have QHG : Hid (Memb.Own qb w12 go gc l) := Nu.own_grown HG.out hg (fun g e => by have := Nu.own_far HG.out g e; first | omega | (have := HF.out g e; omega))
  have QHQ : Hid (qb ≤ w12.heap.size) := Nat.le_trans HQ.out hg.size
  clear HB HO Xx1 HG HQ
  have HB := QHB
  have HO := QHO
  have Xx1 := QXx1
  have HG := QHG
  have HQ := QHQ
  clear QHB QHO QXx1 QHG QHQ
  clear hg Xx0
  go_wp2_with fail
  refine (Nu.markInts px1 C.length _ _ _ _ hsC (by omega) (by omega) Xx1.out).mono ?_
  rintro e w13 ⟨rfl, _, hg⟩
  have QHB : Hid (Below w.heap.size w w13) := HB.out.grown hg HB.out.size (fun j hj => by simp at hj; omega)
  have QHO : Hid (Memb.Own w.heap.size w13 ao ac l) := Nu.own_grown HO.out hg (fun g e => by have := Nu.own_far HO.out g e; first | omega | (have := HF.out g e; omega))
  have QHG : Hid (Memb.Own qb w13 go gc l) := Nu.own_grown HG.out hg (fun g e => by have := Nu.own_far HG.out g e; first | omega | (have := HF.out g e; omega))
  have QHQ : Hid (qb ≤ w13.heap.size) := Nat.le_trans HQ.out hg.size
  clear HB HO HG HQ
  have HB := QHB
  have HO := QHO
  have HG := QHG
  have HQ := QHQ
  clear QHB QHO QHG QHQ
  clear hg Xx1
  have hnn : ¬ ((1 + (L.length : Int) * 4) + (C.length : Int)) < 0 := by omega
  go_wp2_with fail
  refine (Nu.alikeB _ _ _ _ _ _ (by omega) (Nu.own_rd HG.out) (Nu.own_rd HO.out)).mono ?_
  rintro e w14 ⟨rfl, hb⟩
  have QHB : Hid (Below w.heap.size w w14) := HB.out.trans (hb.mono HB.out.size)
  have QHO : Hid (Memb.Own w.heap.size w14 ao ac l) := Nu.own_below HO.out hb
  have QHG : Hid (Memb.Own qb w14 go gc l) := Nu.own_below HG.out hb
  have QHQ : Hid (qb ≤ w14.heap.size) := Nat.le_trans HQ.out hb.size
  clear HB HO HG HQ
  have HB := QHB
  have HO := QHO
  have HG := QHG
  have HQ := QHQ
  clear QHB QHO QHG QHQ
  clear hb
  go_wp2_with fail
  refine (Lsx.mark 1 _ _ _ _ _ (by omega) (by omega) (by omega) HG.out).mono ?_
  rintro e w15 ⟨rfl, hown, hb⟩
  have QHB : Hid (Below w.heap.size w w15) := HB.out.trans (hb.mono (by omega))
  have QHO : Hid (Memb.Own w.heap.size w15 ao ac l) := Nu.own_low HO.out (fun g e => by have := HF.out g e; omega) hb
  have QHQ : Hid (qb ≤ w15.heap.size) := Nat.le_trans HQ.out hb.size
  clear HB HO HQ
  have HB := QHB
  have HO := QHO
  have HQ := QHQ
  clear QHB QHO QHQ
  clear HG
  have HG : Hid (Memb.Own qb w15 go gc (Lsx.marks 1 l.length)) := hown
  clear hown hb
  go_wp2_with fail
  refine (Lsx.held 1 _ _ _ _ (by omega) (by omega) (by omega) (Nu.own_rd HG.out)).mono ?_
  rintro e w' ⟨rfl, rfl⟩
  have hnn2 : ¬ 1 + (l.length : Int) < 0 := by omega
  have gez0 : w.heap.size ≤ w15.heap.size := HB.out.size
  go_wp2_with fail
  refine (Lc.toKnotS a0 cap0 L _ hlen (HR0.out.below HB.out)).mono ?_
  rintro e w16 ⟨rfl, hm, hb⟩
  have QHB : Hid (Below w.heap.size w w16) := HB.out.trans (hb.mono HB.out.size)
  have QHO : Hid (Memb.Own w.heap.size w16 ao ac l) := Nu.own_below HO.out hb
  have QHQ : Hid (qb ≤ w16.heap.size) := Nat.le_trans HQ.out hb.size
  have QHG : Hid (Memb.Own qb w16 go gc (Lsx.marks 1 l.length)) := Nu.own_below HG.out hb
  clear HB HO HQ HG
  have HB := QHB
  have HO := QHO
  have HQ := QHQ
  have HG := QHG
  clear QHB QHO QHQ QHG
  have Xz0 : Hid (Lc.Made w16 w15.heap.size L.length L L.length) := hm
  have ltz0 : w15.heap.size < w16.heap.size := Xz0.out.lt
  clear hm hb
  generalize w15.heap.size = pz0 at Xz0 ltz0 gez0 ⊢
  have gez1 : w.heap.size ≤ w16.heap.size := HB.out.size
  go_wp2_with fail
  refine (Nu.toInts a1 cap1 C _ hsC (HR1.out.below HB.out)).mono ?_
  rintro e w17 ⟨rfl, hm, hb⟩
  have QHB : Hid (Below w.heap.size w w17) := HB.out.trans (hb.mono HB.out.size)
  have QHO : Hid (Memb.Own w.heap.size w17 ao ac l) := Nu.own_below HO.out hb
  have QHQ : Hid (qb ≤ w17.heap.size) := Nat.le_trans HQ.out hb.size
  have QHG : Hid (Memb.Own qb w17 go gc (Lsx.marks 1 l.length)) := Nu.own_below HG.out hb
  have QXz0 : Hid (Lc.Made w17 pz0 L.length L L.length) := Xz0.out.below hb
  clear HB HO HQ HG Xz0
  have HB := QHB
  have HO := QHO
  have HQ := QHQ
  have HG := QHG
  have Xz0 := QXz0
  clear QHB QHO QHQ QHG QXz0
  have Xz1 : Hid (RowI w17 w16.heap.size C.length (fun i => C.getD i 0)) := hm
  have ltz1 : w16.heap.size < w17.heap.size := Xz1.out.lt
  clear hm hb
  generalize w16.heap.size = pz1 at Xz1 ltz1 gez1 ltz0 ⊢
  go_wp2_with fail
  refine (HIM.out _ _ _ (Lc.made_rd Xz0.out) Xz0.out.lt (Nu.row_rd Xz1.out) Xz1.out.lt).mono ?_
  rintro e w18 ⟨ho, hc, rfl, hown, hb⟩
  have QHB : Hid (Below w.heap.size w w18) := HB.out.trans (hb.mono HB.out.size)
  have QHO : Hid (Memb.Own w.heap.size w18 ao ac l) := Nu.own_below HO.out hb
  have QHQ : Hid (qb ≤ w18.heap.size) := Nat.le_trans HQ.out hb.size
  have QHG : Hid (Memb.Own qb w18 go gc (Lsx.marks 1 l.length)) := Nu.own_below HG.out hb
  have QXz0 : Hid (Lc.Made w18 pz0 L.length L L.length) := Xz0.out.below hb
  have QXz1 : Hid (RowI w18 pz1 C.length (fun i => C.getD i 0)) := Nu.row_below Xz1.out hb
  clear HB HO HQ HG Xz0 Xz1
  have HB := QHB
  have HO := QHO
  have HQ := QHQ
  have HG := QHG
  have Xz0 := QXz0
  have Xz1 := QXz1
  clear QHB QHO QHQ QHG QXz0 QXz1
  have HH : Hid (Lst.Rd w18 ho l) := Nu.own_rd hown
  clear hown hb
  clear Xz0 Xz1
  clear ltz0 gez0 ltz1 gez1
  go_wp2_with fail
  refine (Nu.alikeB _ _ _ _ _ _ (by omega) HH.out (Nu.own_rd HO.out)).mono ?_
  rintro e w19 ⟨rfl, hb⟩
  have QHB : Hid (Below w.heap.size w w19) := HB.out.trans (hb.mono HB.out.size)
  have QHO : Hid (Memb.Own w.heap.size w19 ao ac l) := Nu.own_below HO.out hb
  have QHQ : Hid (qb ≤ w19.heap.size) := Nat.le_trans HQ.out hb.size
  have QHG : Hid (Memb.Own qb w19 go gc (Lsx.marks 1 l.length)) := Nu.own_below HG.out hb
  clear HB HO HQ HG
  have HB := QHB
  have HO := QHO
  have HQ := QHQ
  have HG := QHG
  clear QHB QHO QHQ QHG
  clear hb HH
  go_wp2_with fail
  refine (Lsx.held 1 _ _ _ _ (by omega) (by omega) (by omega) (Nu.own_rd HG.out)).mono ?_
  rintro e w' ⟨rfl, rfl⟩
  go_wp2
  go_ret
  exact ⟨rfl, HB.out⟩

theorem lifted (os : Os) (started : os.Started) (H : Type) (enc : TypeId × Value → H) :
    ReturnsInHanded {} Try.checked os 4 .any (Rows.fnExactChainOfSpec.pre6 enc Try.prog Try.f4 Rows.fnExactChainOfRow.domain false) (Rows.fnExactChainOfSpec.post enc Try.prog Try.f4 false true false false) := by
  refine returnsInHanded_of_change (C := Try.checked) own started (by kernel_rfl) Try.func4
    (ChangeSpec.witness6 (enc := enc) (C := Try.checked) false ⟨#[], #[.slice none 0 0, .slice none 0 0, .int .i64 0], []⟩ 8 (by kernel_rfl) (by kernel_rfl) (by kernel_rfl) (by kernel_rfl)) ?_
  intro W base args ds gs before hval0 hW hcnd _
  have hval : ∀ (j : Nat) t v, Try.f4.params[j]? = some t → args[j]? = some v → Value.okWide Try.prog W .any base t v := hval0
  have hW' := hW
  obtain ⟨p, q, hA0, hV, rfl, hfz, hnd⟩ := hW
  have hA : DataW.TrodAll enc Try.prog W 0 (fun _ => true) true Try.f4.params.toList args.toList ds p := hA0
  rw [Try.params4] at hA hval
  obtain ⟨v0, vs0, d0, ds0, p0, q0, hargs, rfl, rfl, h0, r0⟩ := trodAll_cons hA
  obtain ⟨v1, vs1, d1, ds1, p1, q1, rfl, rfl, rfl, h1, r1⟩ := trodAll_cons r0
  obtain ⟨v2, vs2, d2, ds2, p2, q2, rfl, rfl, rfl, h2, r2⟩ := trodAll_cons r1
  obtain ⟨rfl, rfl, rfl⟩ := trodAll_nil r2
  obtain rfl : args = #[v0, v1, v2] := by cases args; simp_all
  obtain ⟨rfl, rfl⟩ := trodVars_none hV
  obtain ⟨a0, len0, cap0, rfl⟩ := okWide_slice Try.underlying22 (hval 0 22 v0 rfl rfl)
  have k0 := h0
  have lt0 : ∀ x ∈ p0, x.block < W.heap.size := by obtain ⟨m, hm⟩ := k0; exact DataW.trod_lt m _ _ _ hm
  obtain ⟨fuel0, hf0⟩ := h0
  obtain ⟨L, rfl, hrd0, hws, hl⟩ := Lc.openK (a0 := a0) (len0 := len0) (cap0 := cap0) hf0
  obtain ⟨a1, len1, cap1, rfl⟩ := okWide_slice Try.underlying23 (hval 1 23 v1 rfl rfl)
  have k1 := h1
  have lt1 : ∀ x ∈ p1, x.block < W.heap.size := by obtain ⟨m, hm⟩ := k1; exact DataW.trod_lt m _ _ _ hm
  obtain ⟨fuel1, hf1⟩ := h1
  obtain ⟨C, rfl, hrd1, hzC, hmC⟩ := Nu.openI (a0 := a1) (len0 := len1) (cap0 := cap1) hf1
  obtain ⟨x2, rfl, rfl, rfl, w2⟩ := open_int Try.underlying2 (hval 2 2 v2 rfl rfl) h2
  clear hA0 hval0
  simp only [List.append_nil] at hW'
  refine (walk (fun L C k hlL hwL hlC hzC h0k h1k W g0 g1 hr0 hg0 hr1 hg1 => Cn.implChainOf _ _ _ L _ _ C k W (by omega) hwL hr0 hlC hr1 (Nu.at_block hg1)) a0 cap0 L a1 cap1 C x2 W hl hws hrd0 hmC hzC hrd1 (int_bd w2)).mono fun e W' ⟨he, bel⟩ => ?_
  subst he
  exact ⟨_, rfl, _, _, _, [], _, [], hW', trodAll_mk1 (shut_bool Try.underlying4 _), (trodAll_cons_mk (Below.trod laidOut (by kernel_rfl) (of_decide_eq_true (by kernel_rfl)) k0 bel lt0) (trodAll_cons_mk (Below.trod laidOut (by kernel_rfl) (of_decide_eq_true (by kernel_rfl)) k1 bel lt1) (trodAll_cons_mk (shut_int Try.underlying2 w2) trodAll_mk0))), rfl, bel.frame _, fun h => by cases h⟩

theorem over : Rows.fnExactChainOfRow.holds Try.pinned (OpenSpec.ofChange Rows.fnExactChainOfSpec) :=
  OpenClaim.holds_of_wide 4 Try.f4 rfl rfl rfl rfl rfl rfl rfl ⟨rfl, rfl, rfl, rfl, rfl⟩ rfl rfl rfl rfl rfl (by kernel_rfl) Try.func4 (by kernel_rfl)
    (of_decide_eq_true (by kernel_rfl)) (by unfold Func.isWrapper; first | (rw [if_pos (by decide +kernel)]; kernel_rfl) | (rw [if_neg (by decide +kernel)]; exact ⟨rfl, rfl⟩))
    (fun os started H enc _ => lifted os started H enc)

theorem proved : Rows.FnExactChainOfSaid :=
  over
end Go.Proofs.Ytbbejgabhoedeaa.fnExactChainOf
