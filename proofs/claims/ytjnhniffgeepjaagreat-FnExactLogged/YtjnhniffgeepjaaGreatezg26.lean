/-
 What the small functions of the exact statements that write into a list of knots answer: the text of a number, a list marked, and whether it still holds the marks; for lists of at most 2^20 + 1 knots.
 What the model's writing of numbers and of knots answers: the text that the plain mathematics says; for numbers from 0 to a thousand million and right knots.
-/
import Derived.Test.YtjnhniffgeepjaaGreatezg7
set_option linter.unusedVariables false
namespace Go.Proofs.YtjnhniffgeepjaaGreat
open Go.RowKit
set_option maxRecDepth 100000
namespace Kn
def dig (n : Nat) : UInt8 := UInt8.ofNat (48 + n % 10)
def B (l : List UInt8) : ByteArray := ⟨l.toArray⟩
theorem B_size (l : List UInt8) : (B l).size = l.length := by simp [B, ByteArray.size]
theorem B_app (a b : List UInt8) : B a ++ B b = B (a ++ b) := by
 apply ByteArray.ext; simp [B]
theorem nums_dig (m : Nat) : strOfNums [48 + (m : Int) % 10] = B [dig m] := by
 unfold strOfNums B dig
 have e : (48 + (m : Int) % 10).toNat = 48 + m % 10 := by omega
 simp [e]
theorem conv1 (W : World) (m : Nat) : (convert 92 9 (.slice (some ⟨W.heap.size, 0, none⟩) 1 1)).run Tryz.prog (W.alloc (.cells #[.int .u8 (48 + (m : Int) % 10)] 5)) = .ok (.string (B [dig m])) (W.alloc (.cells #[.int .u8 (48 + (m : Int) % 10)] 5)) := by
 have h := run_convert_bytes_arg (P := Tryz.prog) (W.alloc (.cells #[.int .u8 (48 + (m : Int) % 10)] 5)) 92 5 Tryz.underlying92 Tryz.underlying5 W.heap.size 0 1 1 [48 + (m : Int) % 10] rfl
   (fun i hi => by obtain rfl : i = 0 := (by omega); simp) 9 Tryz.underlying9
 rw [nums_dig] at h
 exact h
end Kn
namespace Lc
open Kn (K okK dig B B_size B_app conv1)
def mdig : Nat → Nat → List UInt8 → List UInt8
 | 0, _, s => s
 | f + 1, m, s => if m = 0 then s else mdig f (m / 10) (dig m :: s)
def markS (k : Nat) : ByteArray := B (109 :: mdig k k [])
theorem mdig_zero (f : Nat) (s : List UInt8) : mdig f 0 s = s := by
 cases f <;> simp [mdig]
set_option maxHeartbeats 1600000 in
theorem markText (k : Nat) (hk : 0 < k) (hk2 : k ≤ 100000000) (w : World) : Calls Tryz.prog 33 #[.int .i64 (k : Int)] w fun e w' => e = .returned (.string (markS k)) ∧ Below w.heap.size w w' := by
 have kc := conv1
 have hk' : ¬ (k : Int) ≤ 0 := by omega
 go_enter Tryz.func33, Tryz.ntmps33
 go_wp2
 go_loopw [0, 3] (fun v t wr => ∃ (m f : Nat) (s : List UInt8), v = .int .i64 (m : Int) ∧ t = .string (B s) ∧ m ≤ f ∧ s.length + m ≤ k ∧ Hid (mdig k k [] = mdig f m s) ∧ Hid (Below w.heap.size w wr)) (fun v _ _ => (intOf v).toNat)
 case atStart => exact ⟨k, k, [], rfl, rfl, Nat.le_refl _, by simp, rfl, Below.refl _ _⟩
 case round =>
   obtain ⟨m, f, s, rfl, rfl, hmf, hsm, HD, HB⟩ := hrel
   have hsz := B_size s
   have hsz1 : ∀ x : Nat, (B [dig x]).size = 1 := fun x => B_size _
   by_cases hm : 0 < m
   · obtain ⟨f', rfl⟩ : ∃ f', f = f' + 1 := ⟨f - 1, by omega⟩
     have HN : Hid (mdig k k [] = mdig f' (m / 10) (dig m :: s)) := by
       show _ = _
       rw [HD.out]
       show (if m = 0 then s else _) = _
       rw [if_neg (by omega)]
     have HE : Hid (B [dig m] ++ B s = B (dig m :: s)) := B_app [dig m] s
     have HB1 : ∀ o : Obj, Hid (Below w.heap.size w (wr.alloc o)) := fun o => HB.out.alloc HB.out.size o
     have hm' : (0 : Int) < (m : Int) := by omega
     clear HD
     go_wp2
     go_roundw
     case rel => exact ⟨m / 10, f', dig m :: s, by go_num, by rw [HE.out], by omega, by simp; omega, HN, HB1 _⟩
     case measure => simp [intOf]; omega
   · obtain rfl : m = 0 := by omega
     have HE : Hid (B [109] ++ B s = markS k) := by
       show _ = _
       rw [B_app]; unfold markS; rw [HD.out, mdig_zero]; rfl
     have HE2 : Hid ((⟨#[109]⟩ : ByteArray) = B [109]) := rfl
     go_wp2
     go_ret
     exact ⟨by rw [← HE.out]; rfl, HB.out⟩
/-! ### cells, one behind the other -/
structure Fill (w : World) (b n : Nat) (f : Nat → Value) (m : Nat) : Prop where
 lt : b < w.heap.size
 rd : ∀ i, i < m → w.cell? ⟨b, i, none⟩ = some (f i)
 ex : ∀ i, i < n * 4 → ∃ v, w.cell? ⟨b, i, none⟩ = some v
 fr : ∀ i, i < n * 4 → w.frozen? ⟨b, i, none⟩ = false
theorem Fill.below {w w' : World} {b n m : Nat} {f : Nat → Value} (h : Fill w b n f m) (hb : Below w.heap.size w w') : Fill w' b n f m where
 lt := Nat.lt_of_lt_of_le h.lt hb.size
 rd := fun i hi => (hb.cell (p := ⟨b, i, none⟩) h.lt).trans (h.rd i hi)
 ex := fun i hi => by obtain ⟨v, hv⟩ := h.ex i hi; exact ⟨v, (hb.cell (p := ⟨b, i, none⟩) h.lt).trans hv⟩
 fr := fun i hi => (hb.frozen (p := ⟨b, i, none⟩) h.lt).trans (h.fr i hi)
theorem Fill.put {w : World} {b n m : Nat} {f : Nat → Value} (h : Fill w b n f m) (hm : m < n * 4) (v : Value) (hv : v = f m) : Fill (w.setCell ⟨b, m, none⟩ v) b n f (m + 1) where
 lt := by simpa using h.lt
 rd := fun i hi => by
   by_cases e : i = m
   · subst e; obtain ⟨u, hu⟩ := h.ex i hm; rw [hv]; exact World.cell?_setCell_same _ _ _ hu
   · exact (World.cell?_setCell_other _ _ _ _ (ne_off e)).trans (h.rd i (by omega))
 ex := fun i hi => by
   obtain ⟨u, hu⟩ := h.ex i hi
   by_cases e : i = m
   · subst e; exact ⟨v, World.cell?_setCell_same _ _ _ hu⟩
   · exact ⟨u, (World.cell?_setCell_other _ _ _ _ (ne_off e)).trans hu⟩
 fr := fun i hi => by simpa using h.fr i hi
def cellM (k0 i : Nat) : Value := if i % 4 = 3 then .string (markS (k0 + i)) else .int .i64 ((k0 + i : Nat) : Int)
theorem cellM_int (k0 j c : Nat) (hc : c < 3) (x : Int) (hx : x = ((k0 + (j * 4 + c) : Nat) : Int)) : Value.int .i64 x = cellM k0 (j * 4 + c) := by
 unfold cellM; rw [if_neg (by omega), hx]
theorem cellM_str (k0 j : Nat) : Value.string (markS (k0 + (j * 4 + 3))) = cellM k0 (j * 4 + 3) := by
 unfold cellM; rw [if_pos (by omega)]
theorem grown_below {w w' : World} (h : Below w.heap.size w w') (r : Option Nat) : w.grownBy w' r := ⟨h.os, h.tape, h.output, h.size, fun j hj _ => h.block j hj⟩
def MarkPost (b n : Nat) (w : World) (e : Ending) (w' : World) : Prop := e = .returned (.int .i64 (1 + (n : Int) * 4)) ∧ Fill w' b n (cellM 1) (n * 4) ∧ w.grownBy w' (some b)
set_option maxHeartbeats 3200000 in
theorem markKnotS (b n cap : Nat) (w : World) (hn : n ≤ 2000000) (hf : Fill w b n (cellM 1) 0) : Calls Tryz.prog 13 #[.slice (some ⟨b, 0, none⟩) n cap, .int .i64 1] w (MarkPost b n w) := by
 go_enter Tryz.func13, Tryz.ntmps13
 go_wp2
 go_loopw [1, 5] (fun k i wr => ∃ j : Nat, j ≤ n ∧ i = .int .i64 (j : Int) ∧ k = .int .i64 (1 + (j : Int) * 4) ∧ Hid (Fill wr b n (cellM 1) (j * 4)) ∧ Hid (w.grownBy wr (some b))) (fun _ i _ => n - (intOf i).toNat)
 case atStart => exact ⟨0, by omega, rfl, rfl, by show Fill _ _ _ _ (0 * 4); rw [Nat.zero_mul]; exact hf, World.grownBy.refl _ _⟩
 case round =>
   obtain ⟨j, hj, rfl, rfl, HF, HG⟩ := hrel
   by_cases hlt : j < n
   · have F0 := HF.out
     obtain ⟨v0, e0⟩ := F0.ex (j * 4) (by omega)
     obtain ⟨v1, e1⟩ := F0.ex (j * 4 + 1) (by omega)
     obtain ⟨v2, e2⟩ := F0.ex (j * 4 + 2) (by omega)
     have f0 := F0.fr (j * 4) (by omega)
     have f1 := F0.fr (j * 4 + 1) (by omega)
     have f2 := F0.fr (j * 4 + 2) (by omega)
     have F1 := F0.put (by omega) (.int .i64 (1 + (j : Int) * 4)) (cellM_int 1 j 0 (by omega) _ (by omega))
     have F2 := F1.put (by omega) (.int .i64 (1 + (j : Int) * 4 + 1)) (cellM_int 1 j 1 (by omega) _ (by omega))
     have F3 := F2.put (by omega) (.int .i64 (1 + (j : Int) * 4 + 1 + 1)) (cellM_int 1 j 2 (by omega) _ (by omega))
     have HP : Hid (Fill (((wr.setCell ⟨b, j * 4, none⟩ (.int .i64 (1 + (j : Int) * 4))).setCell ⟨b, j * 4 + 1, none⟩ (.int .i64 (1 + (j : Int) * 4 + 1))).setCell ⟨b, j * 4 + 2, none⟩ (.int .i64 (1 + (j : Int) * 4 + 1 + 1))) b n (cellM 1) (j * 4 + 3) ∧ w.grownBy (((wr.setCell ⟨b, j * 4, none⟩ (.int .i64 (1 + (j : Int) * 4))).setCell ⟨b, j * 4 + 1, none⟩ (.int .i64 (1 + (j : Int) * 4 + 1))).setCell ⟨b, j * 4 + 2, none⟩ (.int .i64 (1 + (j : Int) * 4 + 1 + 1))) (some b)) :=
       ⟨F3, Cur.grownBy_set (Cur.grownBy_set (Cur.grownBy_set HG.out _ _) _ _) _ _⟩
     clear F0 F1 F2 F3 HF HG
     go_wp2_with fail
     generalize ((wr.setCell ⟨b, j * 4, none⟩ (.int .i64 (1 + (j : Int) * 4))).setCell ⟨b, j * 4 + 1, none⟩ (.int .i64 (1 + (j : Int) * 4 + 1))).setCell ⟨b, j * 4 + 2, none⟩ (.int .i64 (1 + (j : Int) * 4 + 1 + 1)) = w3 at HP ⊢
     clear e0 e1 e2 f0 f1 f2
     have ek : (1 + (j : Int) * 4 + 1 + 1 + 1) = ((1 + (j * 4 + 3) : Nat) : Int) := by omega
     have hmt : Calls Tryz.prog 33 #[.int .i64 (1 + (j : Int) * 4 + 1 + 1 + 1)] w3 fun e w' => e = .returned (.string (markS (1 + (j * 4 + 3)))) ∧ Below w3.heap.size w3 w' := by
       rw [ek]; exact markText (1 + (j * 4 + 3)) (by omega) (by omega) w3
     clear ek
     refine hmt.mono ?_
     clear hmt
     rintro e w4 ⟨rfl, hb4⟩
     have F4 := HP.out.1.below hb4
     have G4 := Cur.grownBy_trans HP.out.2 (grown_below hb4 _)
     obtain ⟨v3, e3⟩ := F4.ex (j * 4 + 3) (by omega)
     have f3 := F4.fr (j * 4 + 3) (by omega)
     have HF5 : Hid (Fill (w4.setCell ⟨b, j * 4 + 3, none⟩ (.string (markS (1 + (j * 4 + 3))))) b n (cellM 1) ((j + 1) * 4)) := by
       have := F4.put (by omega) (.string (markS (1 + (j * 4 + 3)))) (cellM_str 1 j)
       have ee : (j + 1) * 4 = j * 4 + 3 + 1 := by omega
       rw [ee]; exact this
     have HG5 : Hid (w.grownBy (w4.setCell ⟨b, j * 4 + 3, none⟩ (.string (markS (1 + (j * 4 + 3))))) (some b)) := Cur.grownBy_set G4 _ _
     clear F4 G4 HP hb4
     go_wp2
     go_roundw
     case rel => exact ⟨j + 1, by omega, by go_num, by congr 1; omega, HF5, HG5⟩
     case measure => simp [intOf]; omega
   · obtain rfl : j = n := by omega
     go_wp2
     go_ret
     exact ⟨rfl, HF.out, HG.out⟩
end Lc
end Go.Proofs.YtjnhniffgeepjaaGreat
