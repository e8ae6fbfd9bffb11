/-
 A list of numbers that came in: where it lies.
-/
import Derived.Test.Ytjnhniffgeepjaalzg0
import Derived.Laws.CopyOwn
import Derived.Test.YtjnhniffgeepjaaRows
import Derived.ProofKit
import Derived.OpenShut
import Derived.ChangeOld
set_option linter.unusedVariables false
namespace Go.Proofs.Ytjnhniffgeepjaa
open Go.RowKit
set_option maxRecDepth 100000
set_option linter.unusedVariables false
namespace Lg
open Db (RowI)
set_option maxHeartbeats 800000 in
theorem szI (ao : Option Addr) (cap : Nat) (C : List Int) (left : Int) (w : World) (hC : C.length ≤ maxLen) (h0 : 0 ≤ left) (h1 : left ≤ 1048576) :
   Calls Try.prog 13 #[.slice ao C.length cap, .int .i64 left] w fun e w' => (∃ r : Int, e = .returned (.int .i64 r) ∧ r ≤ left ∧ -1 ≤ r ∧ (0 ≤ r → r = left - (C.length : Int))) ∧ w = w' := by
 unfold maxLen at hC
 by_cases hlt : left - (C.length : Int) < 0
 · go_enter Try.func13, Try.ntmps13
   go_wp2
   go_ret
   exact ⟨⟨-1, rfl, by omega, by omega, fun h => absurd h (by omega)⟩, rfl⟩
 · go_enter Try.func13, Try.ntmps13
   go_wp2
   go_ret
   exact ⟨⟨left - (C.length : Int), by go_num, by omega, by omega, fun _ => rfl⟩, rfl⟩
set_option maxHeartbeats 1600000 in
theorem szSS (so qo : Option Addr) (tc : Nat) (S : List Int) (T : List (List Int)) (f : At) (left : Int) (w : World) (hT : T.length ≤ maxLen) (hTT : ∀ i, i < T.length → (T.getD i []).length ≤ maxLen) (h0 : 0 ≤ left) (h1 : left ≤ 1048576) (h : InL w so qo S T f) :
   Calls Try.prog 14 #[.slice qo T.length tc, .int .i64 left] w fun e w' => (∃ r : Int, e = .returned (.int .i64 r) ∧ r ≤ left ∧ -1 ≤ r ∧ (0 ≤ r → T.length ≤ 1048576 ∧ ∀ i, i < T.length → (T.getD i []).length ≤ 1048576)) ∧ w = w' := by
 unfold maxLen at hT
 have HIN : Hid (InL w so qo S T f) := h
 have HTT : Hid (∀ i, i < T.length → (T.getD i []).length ≤ maxLen) := hTT
 clear h hTT
 by_cases hlt : left - (T.length : Int) < 0
 · go_enter Try.func14, Try.ntmps14
   go_wp2
   go_ret
   exact ⟨⟨-1, rfl, by omega, by omega, fun h => absurd h (by omega)⟩, rfl⟩
 · have hT2 : T.length ≤ 1048576 := by omega
   go_enter Try.func14, Try.ntmps14
   go_wp2
   go_loopw [1, 5] (fun lv i wr => ∃ (j : Nat) (r : Int), j ≤ T.length ∧ i = .int .i64 j ∧ lv = .int .i64 r ∧ 0 ≤ r ∧ r ≤ left ∧ wr = w ∧ Hid (∀ i, i < j → (T.getD i []).length ≤ 1048576)) (fun _ i _ => T.length - (intOf i).toNat)
   case atStart => exact ⟨0, left - (T.length : Int), by omega, rfl, by go_num, by omega, by omega, rfl, fun i hi => absurd hi (by omega)⟩
   case round =>
     obtain ⟨j, r, hj, rfl, rfl, hr0, hr1, rfl, HD⟩ := hrel
     by_cases hjt : j < T.length
     · have hji : (j : Int) < (T.length : Int) := by omega
       obtain ⟨tb, off, hqo, htb, hcl⟩ := in_at HIN.out (by omega)
       subst hqo
       have cj := hcl j hjt
       have hcall := szI (f j).1 (f j).2 (T.getD j []) r wr (HTT.out j hjt) hr0 (by omega)
       have HNX : Hid ((T.getD j []).length ≤ 1048576 → ∀ i, i < j + 1 → (T.getD i []).length ≤ 1048576) := fun h i hi => by
         by_cases e : i = j
         · subst e; exact h
         · exact HD.out i (by omega)
       generalize (T.getD j []).length = n at cj hcall HNX
       generalize (f j).1 = a1 at cj hcall
       generalize (f j).2 = b1 at cj hcall
       clear hcl HD
       go_wp2_with fail
       refine hcall.mono ?_
       rintro e w' ⟨⟨q, rfl, q1, q2, q3⟩, rfl⟩
       clear hcall cj
       by_cases hneg : q < 0
       · clear HNX q3
         go_wp2
         go_ret
         exact ⟨⟨-1, rfl, by omega, by omega, fun h => absurd h (by omega)⟩, rfl⟩
       · have HD2 : Hid (∀ i, i < j + 1 → (T.getD i []).length ≤ 1048576) := HNX.out (by have := q3 (by omega); omega)
         clear HNX q3
         go_wp2
         go_roundw
         case rel => exact ⟨j + 1, q, by omega, by go_num, rfl, by omega, by omega, by trivial, HD2⟩
         case measure => simp [intOf]; omega
     · obtain rfl : j = T.length := by omega
       go_wp2
       go_ret
       exact ⟨⟨r, rfl, by omega, by omega, fun _ => ⟨hT2, HD.out⟩⟩, rfl⟩
theorem box1 (w : World) (x y : Value) (t : TypeId) : Below w.heap.size w (w.alloc (.cells #[x, y] t)) ∧ (w.alloc (.cells #[x, y] t)).cell? ⟨w.heap.size, 0, none⟩ = some x ∧ (w.alloc (.cells #[x, y] t)).cell? ⟨w.heap.size, 1, none⟩ = some y ∧ w.heap.size < (w.alloc (.cells #[x, y] t)).heap.size :=
 ⟨(Below.refl _ _).alloc (Nat.le_refl _) _, by simp, by simp, by simp⟩
set_option maxHeartbeats 1600000 in
theorem szLog (so qo : Option Addr) (sc tc : Nat) (S : List Int) (T : List (List Int)) (f : At) (left : Int) (w : World) (hS : S.length ≤ maxLen) (hT : T.length ≤ maxLen) (hTT : ∀ i, i < T.length → (T.getD i []).length ≤ maxLen) (h0 : 0 ≤ left) (h1 : left ≤ 1048576) (h : InL w so qo S T f) :
   Calls Try.prog 4 #[.agg #[.slice so S.length sc, .slice qo T.length tc], .int .i64 left] w fun e w' => (∃ r : Int, e = .returned (.int .i64 r) ∧ r ≤ left ∧ -1 ≤ r ∧ (0 ≤ r → S.length ≤ 1048576 ∧ T.length ≤ 1048576 ∧ ∀ i, i < T.length → (T.getD i []).length ≤ 1048576)) ∧ Below w.heap.size w w' := by
 have P0 : Hid (_) := box1 w (.slice so S.length sc) (.slice qo T.length tc) 25
 have HI : Hid (∀ W : World, Calls Try.prog 13 #[.slice so S.length sc, .int .i64 left] W fun e w' => (∃ r : Int, e = .returned (.int .i64 r) ∧ r ≤ left ∧ -1 ≤ r ∧ (0 ≤ r → r = left - (S.length : Int))) ∧ W = w') := fun W => szI so sc S left W hS h0 h1
 have HSS : Hid (∀ (W : World) (r : Int), Below w.heap.size w W → 0 ≤ r → r ≤ left → Calls Try.prog 14 #[.slice qo T.length tc, .int .i64 r] W fun e w' => (∃ q : Int, e = .returned (.int .i64 q) ∧ q ≤ r ∧ -1 ≤ q ∧ (0 ≤ q → T.length ≤ 1048576 ∧ ∀ i, i < T.length → (T.getD i []).length ≤ 1048576)) ∧ W = w') := fun W r hW hr0 hr1 => szSS so qo tc S T f r W hT hTT hr0 (by omega) (h.below hW)
 clear h hTT hT hS
 go_enter Try.func4, Try.ntmps4
 go_upto_region 1 with fail
 generalize w.alloc (.cells #[.slice so S.length sc, .slice qo T.length tc] 25) = W0 at P0 ⊢
 obtain ⟨B0, x0, x1, hl⟩ := P0
 go_wp2_with fail
 refine (HI.out W0).mono ?_
 rintro e W1 ⟨⟨r, rfl, r1, r2, r3⟩, rfl⟩
 have HR3 : Hid (0 ≤ r → r = left - (S.length : Int)) := r3
 clear HI r3
 by_cases hneg : r < 0
 · go_wp2
   go_ret
   exact ⟨⟨-1, rfl, by omega, by omega, fun h => absurd h (by omega)⟩, B0⟩
 · have hss := HSS.out W0 r B0 (by omega) (by omega)
   clear HSS
   go_wp2_with fail
   refine hss.mono ?_
   rintro e W1 ⟨⟨q, rfl, q1, q2, q3⟩, rfl⟩
   have HQ3 : Hid (_) := q3
   clear q3 hss
   by_cases hq : q < 0
   · go_wp2
     go_ret
     exact ⟨⟨-1, rfl, by omega, by omega, fun h => absurd h (by omega)⟩, B0⟩
   · go_wp2
     go_ret
     exact ⟨⟨q, rfl, by omega, by omega, fun h => ⟨by have := HR3.out (by omega); omega, HQ3.out h⟩⟩, B0⟩
structure CopyL (w w' : World) (S : List Int) (T : List (List Int)) (s p : Nat) (f : Nat → Nat) : Prop where
 seen : RowI w' s S.length (fun i => S.getD i 0)
 told : MadeL w' p T T.length f
 lo : w.heap.size ≤ s
 sp : s < p
theorem MadeL.off {w : World} {p j q k : Nat} {T : List (List Int)} {f : Nat → Nat} {v : Value} (h : MadeL w p T j f) (hq : q < p) : MadeL (w.setCell ⟨q, k, none⟩ v) p T j f := by
 have ne : ∀ (b i : Nat), q < b → (⟨q, k, none⟩ : Addr) ≠ ⟨b, i, none⟩ := fun b i hb e => by injection e with e; omega
 exact ⟨by simpa using h.lt, fun i hi => (World.cell?_setCell_other _ _ _ _ (ne p i hq)).trans (h.hd i hi), fun i hi => by obtain ⟨u, hu⟩ := h.ex i hi; exact ⟨u, (World.cell?_setCell_other _ _ _ _ (ne p i hq)).trans hu⟩, fun i hi => by simpa using h.fr i hi, fun i hi => row_off (h.row i hi) (by have := h.ne i hi; omega), h.ne, h.up⟩
theorem froz_new (w : World) (a : Array Value) (t : TypeId) (j : Nat) : (w.alloc (.cells a t)).frozen? ⟨w.heap.size, j, none⟩ = false := by simp
theorem three (w : World) (x y z : Value) (t u : TypeId) (W : World) (hW : W = ((w.alloc (.cells #[x, y] t)).alloc (.cells #[z, z] u)).alloc (.cells #[z, z] u)) :
   Below w.heap.size w W ∧ W.heap.size = w.heap.size + 3 ∧ W.cell? ⟨w.heap.size, 0, none⟩ = some x ∧ W.cell? ⟨w.heap.size, 1, none⟩ = some y ∧ (∀ j, j < 2 → W.cell? ⟨w.heap.size + 1, j, none⟩ = some z ∧ W.cell? ⟨w.heap.size + 1 + 1, j, none⟩ = some z ∧ W.frozen? ⟨w.heap.size + 1, j, none⟩ = false ∧ W.frozen? ⟨w.heap.size + 1 + 1, j, none⟩ = false) := by
 subst hW
 have e1 : (w.alloc (.cells #[x, y] t)).heap.size = w.heap.size + 1 := by simp
 have e2 : ((w.alloc (.cells #[x, y] t)).alloc (.cells #[z, z] u)).heap.size = w.heap.size + 1 + 1 := by simp
 refine ⟨((Below.refl _ _).alloc (Nat.le_refl _) _ |>.alloc (by simp) _).alloc (by simp; omega) _, by simp, ?_, ?_, fun j hj => ?_⟩
 · rw [World.cell?_alloc_lt _ _ _ (by simp; omega), World.cell?_alloc_lt _ _ _ (by simp)]; simp
 · rw [World.cell?_alloc_lt _ _ _ (by simp; omega), World.cell?_alloc_lt _ _ _ (by simp)]; simp
 · have hj2 : j = 0 ∨ j = 1 := by omega
   refine ⟨?_, ?_, ?_, ?_⟩
   · rw [World.cell?_alloc_lt _ _ _ (by simp), ← e1]
     rcases hj2 with rfl | rfl <;> simp
   · have e3 : w.heap.size + 1 + 1 = ((w.alloc (.cells #[x, y] t)).alloc (.cells #[z, z] u)).heap.size := e2.symm
     rw [e3]
     refine (World.cell?_alloc_new _ _ _ j).trans ?_
     rcases hj2 with rfl | rfl <;> rfl
   · have k := ((Below.refl _ ((w.alloc (.cells #[x, y] t)).alloc (.cells #[z, z] u))).alloc (Nat.le_refl _) (.cells #[z, z] u)).frozen (p := ⟨w.heap.size + 1, j, none⟩) (by show w.heap.size + 1 < _; rw [e2]; omega)
     rw [k, ← e1]; simp
   · have e3 : w.heap.size + 1 + 1 = ((w.alloc (.cells #[x, y] t)).alloc (.cells #[z, z] u)).heap.size := e2.symm
     rw [e3]; exact froz_new _ _ _ j
theorem second {w W0 V1 : World} {y z sv : Value} {S : List Int} (B0 : Below w.heap.size w W0) (z0 : W0.heap.size = w.heap.size + 3) (x1 : W0.cell? ⟨w.heap.size, 1, none⟩ = some y)
   (hcl : ∀ j, j < 2 → W0.cell? ⟨w.heap.size + 1, j, none⟩ = some z ∧ W0.cell? ⟨w.heap.size + 1 + 1, j, none⟩ = some z ∧ W0.frozen? ⟨w.heap.size + 1, j, none⟩ = false ∧ W0.frozen? ⟨w.heap.size + 1 + 1, j, none⟩ = false)
   (hb : Below W0.heap.size W0 V1) (hR : RowI V1 W0.heap.size S.length (fun i => S.getD i 0)) :
   V1.cell? ⟨w.heap.size + 1 + 1, 0, none⟩ = some z ∧ V1.frozen? ⟨w.heap.size + 1 + 1, 0, none⟩ = false ∧ Hid (Below w.heap.size w (V1.setCell ⟨w.heap.size + 1 + 1, 0, none⟩ sv) ∧ (V1.setCell ⟨w.heap.size + 1 + 1, 0, none⟩ sv).cell? ⟨w.heap.size, 1, none⟩ = some y ∧ RowI (V1.setCell ⟨w.heap.size + 1 + 1, 0, none⟩ sv) W0.heap.size S.length (fun i => S.getD i 0) ∧ W0.heap.size < (V1.setCell ⟨w.heap.size + 1 + 1, 0, none⟩ sv).heap.size ∧
     ((V1.setCell ⟨w.heap.size + 1 + 1, 0, none⟩ sv).cell? ⟨w.heap.size + 1 + 1, 0, none⟩ = some sv ∧ (V1.setCell ⟨w.heap.size + 1 + 1, 0, none⟩ sv).cell? ⟨w.heap.size + 1 + 1, 1, none⟩ = some z ∧ ∀ j, j < 2 → (V1.setCell ⟨w.heap.size + 1 + 1, 0, none⟩ sv).cell? ⟨w.heap.size + 1, j, none⟩ = some z ∧ (V1.setCell ⟨w.heap.size + 1 + 1, 0, none⟩ sv).frozen? ⟨w.heap.size + 1, j, none⟩ = false ∧ (V1.setCell ⟨w.heap.size + 1 + 1, 0, none⟩ sv).frozen? ⟨w.heap.size + 1 + 1, j, none⟩ = false)) := by
 have c1 : ∀ b j u, b < w.heap.size + 3 → W0.cell? ⟨b, j, none⟩ = some u → V1.cell? ⟨b, j, none⟩ = some u := fun b j u hb' hc => (hb.cell (p := ⟨b, j, none⟩) (show b < W0.heap.size by omega)).trans hc
 have f1 : ∀ b j, b < w.heap.size + 3 → W0.frozen? ⟨b, j, none⟩ = false → V1.frozen? ⟨b, j, none⟩ = false := fun b j hb' hc => (hb.frozen (p := ⟨b, j, none⟩) (show b < W0.heap.size by omega)).trans hc
 have a1 := c1 _ 0 _ (by omega) (hcl 0 (by omega)).2.1
 refine ⟨a1, f1 _ 0 (by omega) (hcl 0 (by omega)).2.2.2, (B0.trans (hb.mono B0.size)).setCell (p := ⟨w.heap.size + 1 + 1, 0, none⟩) (show w.heap.size ≤ w.heap.size + 1 + 1 by omega) _, ?_, row_off hR (by omega), by simpa using hR.lt, World.cell?_setCell_same _ _ _ a1, ?_, fun j hj => ⟨?_, ?_, ?_⟩⟩
 · exact (World.cell?_setCell_other _ _ _ _ (by intro e; injection e with e; omega)).trans (c1 _ 1 _ (by omega) x1)
 · exact (World.cell?_setCell_other _ _ _ _ (by intro e; injection e with _ e; omega)).trans (c1 _ 1 _ (by omega) (hcl 1 (by omega)).2.1)
 · exact (World.cell?_setCell_other _ _ _ _ (by intro e; injection e with e; omega)).trans (c1 _ j _ (by omega) (hcl j hj).1)
 · simpa using f1 _ j (by omega) (hcl j hj).2.2.1
 · simpa using f1 _ j (by omega) (hcl j hj).2.2.2
theorem third {w V2 V3 : World} {s : Nat} {z sv tv : Value} {S : List Int} {T : List (List Int)} {pf : Nat → Nat} (B2 : Below w.heap.size w V2) (hR : RowI V2 s S.length (fun i => S.getD i 0)) (hs : s < V2.heap.size)
   (hcl : V2.cell? ⟨w.heap.size + 1 + 1, 0, none⟩ = some sv ∧ V2.cell? ⟨w.heap.size + 1 + 1, 1, none⟩ = some z ∧ ∀ j, j < 2 → V2.cell? ⟨w.heap.size + 1, j, none⟩ = some z ∧ V2.frozen? ⟨w.heap.size + 1, j, none⟩ = false ∧ V2.frozen? ⟨w.heap.size + 1 + 1, j, none⟩ = false)
   (h2 : w.heap.size + 3 ≤ s) (hM : MadeL V3 V2.heap.size T T.length pf) (hb : Below V2.heap.size V2 V3) :
   V3.cell? ⟨w.heap.size + 1 + 1, 1, none⟩ = some z ∧ V3.frozen? ⟨w.heap.size + 1 + 1, 1, none⟩ = false ∧
   ((V3.setCell ⟨w.heap.size + 1 + 1, 1, none⟩ tv).cell? ⟨w.heap.size + 1 + 1, 0, none⟩ = some sv ∧ (V3.setCell ⟨w.heap.size + 1 + 1, 1, none⟩ tv).cell? ⟨w.heap.size + 1 + 1, 1, none⟩ = some tv) ∧
   (∀ j, j < 2 → (V3.setCell ⟨w.heap.size + 1 + 1, 1, none⟩ tv).cell? ⟨w.heap.size + 1, j, none⟩ = some z ∧ (V3.setCell ⟨w.heap.size + 1 + 1, 1, none⟩ tv).frozen? ⟨w.heap.size + 1, j, none⟩ = false) ∧
   Hid (∀ V : World, V = ((V3.setCell ⟨w.heap.size + 1 + 1, 1, none⟩ tv).setCell ⟨w.heap.size + 1, 0, none⟩ sv).setCell ⟨w.heap.size + 1, 1, none⟩ tv → CopyL w V S T s V2.heap.size pf ∧ Below w.heap.size w V ∧ V.cell? ⟨w.heap.size + 1, 0, none⟩ = some sv ∧ V.cell? ⟨w.heap.size + 1, 1, none⟩ = some tv) := by
 have hs3 := hs
 have c1 : ∀ b j u, b < w.heap.size + 3 → V2.cell? ⟨b, j, none⟩ = some u → V3.cell? ⟨b, j, none⟩ = some u := fun b j u hb' hc => (hb.cell (p := ⟨b, j, none⟩) (show b < V2.heap.size by omega)).trans hc
 have f1 : ∀ b j, b < w.heap.size + 3 → V2.frozen? ⟨b, j, none⟩ = false → V3.frozen? ⟨b, j, none⟩ = false := fun b j hb' hc => (hb.frozen (p := ⟨b, j, none⟩) (show b < V2.heap.size by omega)).trans hc
 have a1 := c1 _ 1 _ (by omega) hcl.2.1
 have a0 := c1 _ 0 _ (by omega) hcl.1
 have r : ∀ j, j < 2 → (V3.setCell ⟨w.heap.size + 1 + 1, 1, none⟩ tv).cell? ⟨w.heap.size + 1, j, none⟩ = some z ∧ (V3.setCell ⟨w.heap.size + 1 + 1, 1, none⟩ tv).frozen? ⟨w.heap.size + 1, j, none⟩ = false := fun j hj =>
   ⟨(World.cell?_setCell_other _ _ _ _ (by intro e; injection e with e; omega)).trans (c1 _ j _ (by omega) (hcl.2.2 j hj).1), by simpa using f1 _ j (by omega) (hcl.2.2 j hj).2.1⟩
 refine ⟨a1, f1 _ 1 (by omega) (hcl.2.2 1 (by omega)).2.2, ⟨(World.cell?_setCell_other _ _ _ _ (by intro e; injection e with _ e; omega)).trans a0, World.cell?_setCell_same _ _ _ a1⟩, r, ?_⟩
 rintro V rfl
 refine ⟨⟨?_, ?_, by omega, hs⟩, ?_, ?_, ?_⟩
 · exact row_off (row_off (row_off (Nu.row_below hR hb) (by omega)) (by omega)) (by omega)
 · exact ((hM.off (by omega)).off (by omega)).off (by omega)
 · have := ((B2.trans (hb.mono B2.size)).setCell (p := ⟨w.heap.size + 1 + 1, 1, none⟩) (show w.heap.size ≤ w.heap.size + 1 + 1 by omega) tv).setCell (p := ⟨w.heap.size + 1, 0, none⟩) (show w.heap.size ≤ w.heap.size + 1 by omega) sv
   exact this.setCell (p := ⟨w.heap.size + 1, 1, none⟩) (show w.heap.size ≤ w.heap.size + 1 by omega) tv
 · exact (World.cell?_setCell_other _ _ _ _ (by intro e; injection e with _ e; omega)).trans (World.cell?_setCell_same _ _ _ (r 0 (by omega)).1)
 · exact World.cell?_setCell_same _ _ _ ((World.cell?_setCell_other _ _ _ _ (by intro e; injection e with _ e; omega)).trans (r 1 (by omega)).1)
set_option maxHeartbeats 1600000 in
theorem toLog (so qo : Option Addr) (sc tc : Nat) (S : List Int) (T : List (List Int)) (f : At) (w : World) (hS : S.length ≤ 1048576) (hT : T.length ≤ 1048576) (hTT : ∀ i, i < T.length → (T.getD i []).length ≤ 1048576) (h : InL w so qo S T f) :
   Calls Try.prog 6 #[.agg #[.slice so S.length sc, .slice qo T.length tc]] w fun e w' => ∃ s p q, e = .returned (.agg #[.slice (some ⟨s, 0, none⟩) S.length S.length, .slice (some ⟨p, 0, none⟩) T.length T.length]) ∧ CopyL w w' S T s p q ∧ Below w.heap.size w w' := by
 have HI : Hid (∀ W : World, Below w.heap.size w W → Calls Try.prog 16 #[.slice so S.length sc] W (Nu.ToPost S W)) := fun W hW => Nu.toInts so sc S W hS (h.seen.below hW)
 have HSS : Hid (∀ W : World, Below w.heap.size w W → Calls Try.prog 17 #[.slice qo T.length tc] W fun e w' => e = .returned (.slice (some ⟨W.heap.size, 0, none⟩) T.length T.length) ∧ (∃ p, MadeL w' W.heap.size T T.length p) ∧ Below W.heap.size W w') := fun W hW => toSS so qo tc S T f W hT hTT (h.below hW)
 obtain ⟨W0, hW0⟩ : ∃ W0, W0 = ((w.alloc (.cells #[.slice so S.length sc, .slice qo T.length tc] 25)).alloc (.cells #[.slice none 0 0, .slice none 0 0] 28)).alloc (.cells #[.slice none 0 0, .slice none 0 0] 28) := ⟨_, rfl⟩
 obtain ⟨B0, z0, x0, x1, hcl⟩ := three w (.slice so S.length sc) (.slice qo T.length tc) (.slice none 0 0) 25 28 W0 hW0
 have HW0 : Hid (W0 = _) := hW0
 have Z0 : Hid (W0.heap.size = w.heap.size + 3) := z0
 clear h hTT hW0 z0
 go_enter Try.func6, Try.ntmps6
 go_wp2_with fail
 rw [← HW0.out]
 refine (HI.out W0 B0).mono ?_
 rintro e V1 ⟨rfl, hR1, hb1⟩
 obtain ⟨q0, q1, HV2⟩ := second (sv := .slice (some ⟨W0.heap.size, 0, none⟩) S.length S.length) B0 Z0.out x1 hcl hb1 hR1
 clear HW0 HI hb1 hR1 x0 x1 hcl B0
 obtain ⟨V2, hV2⟩ : ∃ V2, V2 = V1.setCell ⟨w.heap.size + 1 + 1, 0, none⟩ (.slice (some ⟨W0.heap.size, 0, none⟩) S.length S.length) := ⟨_, rfl⟩
 rw [← hV2] at HV2
 have HE2 : Hid (V2 = _) := hV2
 clear hV2
 obtain ⟨B2, y1, hR2, hz2, hcl2⟩ := HV2.out
 go_upto_region 3 with fail
 rw [← HE2.out]
 go_wp2_with fail
 refine (HSS.out V2 B2).mono ?_
 rintro e V3 ⟨rfl, ⟨pf, hM⟩, hb3⟩
 obtain ⟨r0, r1, r2, r3, HF⟩ := third (tv := .slice (some ⟨V2.heap.size, 0, none⟩) T.length T.length) B2 hR2 hz2 hcl2 (by have := Z0.out; omega) hM hb3
 clear HSS HV2 hR2 hM hb3 B2 y1 hcl2
 obtain ⟨V4, hV4⟩ : ∃ V4, V4 = V3.setCell ⟨w.heap.size + 1 + 1, 1, none⟩ (.slice (some ⟨V2.heap.size, 0, none⟩) T.length T.length) := ⟨_, rfl⟩
 rw [← hV4] at r2 r3 HF
 have HE4 : Hid (V4 = _) := hV4
 clear hV4
 obtain ⟨r20, r21⟩ := r2
 obtain ⟨r30, r31⟩ := r3 0 (by omega)
 obtain ⟨r32, r33⟩ := r3 1 (by omega)
 have r34 : ∀ v, (V4.setCell ⟨w.heap.size + 1, 0, none⟩ v).cell? ⟨w.heap.size + 1, 1, none⟩ = some (.slice none 0 0) := fun v => (World.cell?_setCell_other _ _ _ _ (by intro e; injection e with _ e; omega)).trans r32
 clear r3 r32
 go_upto_region 4 with fail
 rw [← HE4.out]
 clear HE2 q0 q1
 go_wp2
 obtain ⟨F1, F2, F3, F4⟩ := HF.out _ rfl
 refine bodyPost_ret (v := .agg #[.slice (some ⟨W0.heap.size, 0, none⟩) S.length S.length, .slice (some ⟨V2.heap.size, 0, none⟩) T.length T.length]) (by simp [results, Try.results6, go_sem, F3, F4]) rfl ?_
 exact ⟨W0.heap.size, V2.heap.size, pf, rfl, F1, F2⟩
end Lg
namespace Lg
open Sg (NumsPost)
end Lg
namespace Lg
open Sg (NumsPost)
end Lg
end Go.Proofs.Ytjnhniffgeepjaa
namespace Go.Proofs.Ytjnhniffgeepjaa
open Go.RowKit
set_option maxRecDepth 100000
namespace Rm
end Rm
end Go.Proofs.Ytjnhniffgeepjaa
namespace Go.Proofs.Ytjnhniffgeepjaa
open Go.RowKit
set_option maxRecDepth 100000
namespace Rm
end Rm
end Go.Proofs.Ytjnhniffgeepjaa
namespace Go.Proofs.Ytjnhniffgeepjaa
open Go.RowKit
set_option maxRecDepth 100000
namespace Lc
end Lc
end Go.Proofs.Ytjnhniffgeepjaa
namespace Go.Proofs.Ytjnhniffgeepjaa
open Go.RowKit
set_option maxRecDepth 100000
namespace Lc
end Lc
end Go.Proofs.Ytjnhniffgeepjaa
namespace Go.Proofs.Ytjnhniffgeepjaa
open Go.RowKit
set_option maxRecDepth 100000
namespace Kn
end Kn
end Go.Proofs.Ytjnhniffgeepjaa
namespace Go.Proofs.Ytjnhniffgeepjaa
open Go.RowKit
set_option maxRecDepth 100000
namespace Lc
end Lc
end Go.Proofs.Ytjnhniffgeepjaa
namespace Go.Proofs.Ytjnhniffgeepjaa
open Go.RowKit
set_option maxRecDepth 100000
namespace Lc
end Lc
end Go.Proofs.Ytjnhniffgeepjaa
namespace Go.Proofs.Ytjnhniffgeepjaa
open Go.RowKit
set_option maxRecDepth 100000
namespace Rm
structure Fr (S : Nat → Prop) (w w' : World) : Prop where
 os : w'.os = w.os
 tape : w'.tape = w.tape
 output : w'.output = w.output
 size : w.heap.size ≤ w'.heap.size
 block : ∀ k, k < w.heap.size → ¬ S k → w'.heap[k]? = w.heap[k]?
theorem Fr.refl (S : Nat → Prop) (w : World) : Fr S w w := ⟨rfl, rfl, rfl, Nat.le_refl _, fun _ _ _ => rfl⟩
theorem Fr.trans {S T : Nat → Prop} {a b c : World} (h : Fr S a b) (k : Fr T b c) (hs : ∀ x, T x → x < a.heap.size → S x) : Fr S a c :=
 ⟨k.os.trans h.os, k.tape.trans h.tape, k.output.trans h.output, Nat.le_trans h.size k.size, fun x hx hn => (k.block x (Nat.lt_of_lt_of_le hx h.size) (fun ht => hn (hs x ht hx))).trans (h.block x hx hn)⟩
theorem Fr.mono {S T : Nat → Prop} {a b : World} (h : Fr S a b) (hs : ∀ x, S x → x < a.heap.size → T x) : Fr T a b :=
 ⟨h.os, h.tape, h.output, h.size, fun x hx hn => h.block x hx (fun hh => hn (hs x hh hx))⟩
theorem Fr.of_below {w w' : World} (h : Below w.heap.size w w') (S : Nat → Prop) : Fr S w w' := ⟨h.os, h.tape, h.output, h.size, fun k hk _ => h.block k hk⟩
theorem Fr.of_grown {w w' : World} {c : Nat} (h : w.grownBy w' (some c)) : Fr (fun x => x = c) w w' := ⟨h.os, h.tape, h.output, h.size, fun k hk hn => h.block k hk (fun e => hn (by cases e; rfl))⟩
theorem Fr.cell {S : Nat → Prop} {w w' : World} (h : Fr S w w') {p : Addr} (hp : p.block < w.heap.size) (hn : ¬ S p.block) : w'.cell? p = w.cell? p := World.cell?_of_block (w := w) (h.block p.block hp hn)
theorem Fr.frozen {S : Nat → Prop} {w w' : World} (h : Fr S w w') {p : Addr} (hp : p.block < w.heap.size) (hn : ¬ S p.block) : w'.frozen? p = w.frozen? p := World.frozen?_of_block (w := w) (h.block p.block hp hn)
theorem Fr.toBelow {S : Nat → Prop} {w w' : World} (h : Fr S w w') {B : Nat} (hB : B ≤ w.heap.size) (hs : ∀ x, S x → B ≤ x) : Below B w w' := ⟨h.os, h.tape, h.output, h.size, fun k hk => h.block k (by omega) (fun hh => by have := hs k hh; omega)⟩
end Rm
namespace Lg
open Db (RowI)
open Rm (Fr)
def Mk (w : World) (a : Option Addr) (n : Nat) (D : Nat → Int) : Prop := n = 0 ∨ ∃ b, a = some ⟨b, 0, none⟩ ∧ RowI w b n D
theorem Mk.below {w w' : World} {a : Option Addr} {n : Nat} {D : Nat → Int} (h : Mk w a n D) (hb : Below w.heap.size w w') : Mk w' a n D := by
 rcases h with h | ⟨b, e, h⟩
 · exact .inl h
 · exact .inr ⟨b, e, Nu.row_below h hb⟩
theorem Mk.eq {w : World} {a : Option Addr} {n : Nat} {D E : Nat → Int} (h : Mk w a n D) (e : ∀ i, i < n → D i = E i) : Mk w a n E := by
 rcases h with h | ⟨b, q, h⟩
 · exact .inl h
 · exact .inr ⟨b, q, Nu.row_eq h e⟩
theorem Mk.fr {Z : Nat → Prop} {w w' : World} {a : Option Addr} {n : Nat} {D : Nat → Int} (h : Mk w a n D) (hf : Fr Z w w') (hz : ∀ b, a = some ⟨b, 0, none⟩ → ¬ Z b) : Mk w' a n D := by
 rcases h with h | ⟨b, e, h⟩
 · exact .inl h
 · have hn := hz b e
   exact .inr ⟨b, e, ⟨Nat.lt_of_lt_of_le h.lt hf.size, fun i hi => (hf.cell (p := ⟨b, i, none⟩) h.lt hn).trans (h.rd i hi), fun i hi => (hf.frozen (p := ⟨b, i, none⟩) h.lt hn).trans (h.fr i hi)⟩⟩
theorem Mk.rd {w : World} {a : Option Addr} {l : List Int} {D : Nat → Int} (h : Mk w a l.length D) (e : ∀ i, i < l.length → D i = l.getD i 0) : Lst.Rd w a l := by
 rcases h with h | ⟨b, q, h⟩
 · exact .inl (List.length_eq_zero_iff.1 h)
 · exact .inr ⟨b, q, fun i hi => by rw [← e i hi]; exact h.rd i hi⟩
theorem mk_own {B : Nat} {w : World} {a : Option Addr} {c : Nat} {l : List Int} (h : Memb.Own B w a c l) : Mk w a l.length (fun i => l.getD i 0) := by
 rcases h.2 with ⟨_, e⟩ | ⟨g, c1, u1, e, hB, hg, _⟩
 · exact .inl e
 · injection e with e _ _
   subst e
   refine .inr ⟨g, rfl, ⟨(World.ownsRow.lt h g rfl).2, fun i hi => ?_, fun i hi => World.ownsRow.frozenAt h i⟩⟩
   rw [World.ownsRow.cellAt h i (by omega), List.getElem?_map]
   simp [List.getD, hi]
set_option maxHeartbeats 1600000 in
theorem markB (b n cap : Nat) (D : Nat → Int) (k0 : Int) (w : World) (hn : n ≤ 1048576) (hk0 : 0 ≤ k0) (hk1 : k0 ≤ 4611686018427387904) (hr : RowI w b n D) :
   Calls Try.prog 11 #[.slice (some ⟨b, 0, none⟩) n cap, .int .i64 k0] w (Nu.MarkPost b n k0 w) := by
 have HR0 : Hid (RowI w b n D) := hr
 clear hr
 go_enter Try.func11, Try.ntmps11
 go_wp2
 go_loopw [1, 5] (fun q i wr => ∃ j : Nat, j ≤ n ∧ i = .int .i64 j ∧ q = .int .i64 (k0 + (j : Int)) ∧ Hid (RowI wr b n (Nu.markD D k0 j)) ∧ Hid (w.grownBy wr (some b))) (fun _ i _ => n - (intOf i).toNat)
 case atStart => exact ⟨0, by omega, rfl, by simp, Nu.row_eq HR0.out (fun i _ => by unfold Nu.markD; rw [if_neg (by omega)]), World.grownBy.refl _ _⟩
 case round =>
   obtain ⟨j, hj, rfl, rfl, HR, HG⟩ := hrel
   by_cases hlt : j < n
   · have dj := HR.out.rd j hlt
     have fj := HR.out.fr j hlt
     have HR1 : Hid (RowI (wr.setCell ⟨b, j, none⟩ (.int .i64 (k0 + (j : Int)))) b n (Nu.markD D k0 (j + 1))) := Nu.row_eq (HR.out.put j hlt (k0 + (j : Int))) (fun i _ => by
       unfold Nu.markD
       by_cases e : i = j
       · subst e; rw [if_pos rfl, if_pos (by omega)]
       · rw [if_neg e]
         by_cases q : i < j
         · rw [if_pos q, if_pos (by omega)]
         · rw [if_neg q, if_neg (by omega)])
     have HG1 : Hid (w.grownBy (wr.setCell ⟨b, j, none⟩ (.int .i64 (k0 + (j : Int)))) (some b)) := Cur.grownBy_set HG.out _ _
     generalize Nu.markD D k0 j j = y at dj
     clear HR HG
     go_wp2
     go_roundw
     case rel => exact ⟨j + 1, by omega, by go_num, by go_num, HR1, HG1⟩
     case measure => simp [intOf]; omega
   · obtain rfl : j = n := by omega
     have HR2 : Hid (RowI wr b j (fun i => k0 + (i : Int))) := Nu.row_eq HR.out (fun i hi => by unfold Nu.markD; rw [if_pos hi])
     clear HR
     go_wp2
     go_ret
     exact ⟨rfl, HR2.out, HG.out⟩
def MkPost (a : Option Addr) (n : Nat) (k0 : Int) (w : World) (e : Ending) (w' : World) : Prop := e = .returned (.int .i64 (k0 + (n : Int))) ∧ Mk w' a n (fun i => k0 + (i : Int)) ∧ Fr (fun x => 0 < n ∧ a = some ⟨x, 0, none⟩) w w'
theorem markAny (a : Option Addr) (n cap : Nat) (D : Nat → Int) (k0 : Int) (w : World) (hn : n ≤ 1048576) (hk0 : 0 ≤ k0) (hk1 : k0 ≤ 4611686018427387904) (h : Mk w a n D) :
   Calls Try.prog 11 #[.slice a n cap, .int .i64 k0] w (MkPost a n k0 w) := by
 rcases h with h | ⟨b, e, h⟩
 · subst h
   have HF : Hid (Mk w a 0 (fun i => k0 + (i : Int)) ∧ Fr (fun x => 0 < 0 ∧ a = some ⟨x, 0, none⟩) w w) := ⟨.inl rfl, Fr.refl _ _⟩
   go_enter Try.func11, Try.ntmps11
   go_wp2
   refine wp_loop_rounds 1 ?_
   rw [rounds_succ]
   go_wp2
   go_ret
   exact ⟨by simp, HF.out⟩
 · subst e
   by_cases h0 : n = 0
   · subst h0
     have HF : Hid (Mk w (some ⟨b, 0, none⟩) 0 (fun i => k0 + (i : Int)) ∧ Fr (fun x => 0 < 0 ∧ some (⟨b, 0, none⟩ : Addr) = some ⟨x, 0, none⟩) w w) := ⟨.inl rfl, Fr.refl _ _⟩
     go_enter Try.func11, Try.ntmps11
     go_wp2
     refine wp_loop_rounds 1 ?_
     rw [rounds_succ]
     go_wp2
     go_ret
     exact ⟨by simp, HF.out⟩
   refine (markB b n cap D k0 w hn hk0 hk1 h).mono fun e w' q => ?_
   obtain ⟨e1, e2, e3⟩ := q
   exact ⟨e1, .inr ⟨b, rfl, e2⟩, (Rm.Fr.of_grown e3).mono fun x hx _ => by have q : x = b := hx; exact ⟨by omega, by rw [q]⟩⟩
def ahead (T : List (List Int)) : Nat → Nat
 | 0 => 0
 | i + 1 => ahead T i + (T.getD i []).length
theorem ahead_le (T : List (List Int)) (m : Nat) (h : ∀ i, i < T.length → (T.getD i []).length ≤ m) : ∀ i, i ≤ T.length → ahead T i ≤ i * m := by
 intro i
 induction i with
 | zero => intro _; simp [ahead]
 | succ i ih =>
   intro hi
   have := ih (by omega)
   have := h i (by omega)
   rw [ahead, Nat.succ_mul]; omega
structure Ml (w : World) (so qo : Option Addr) (n : Nat) (T : List (List Int)) (f : At) (D : Nat → Int) (E : Nat → Nat → Int) : Prop where
 seen : Mk w so n D
 head : T.length = 0 ∨ ∃ tb, qo = some ⟨tb, 0, none⟩ ∧ tb < w.heap.size ∧ ∀ i, i < T.length → w.cell? ⟨tb, i, none⟩ = some (.slice (f i).1 (T.getD i []).length (f i).2)
 row : ∀ i, i < T.length → Mk w (f i).1 (T.getD i []).length (E i)
 s1 : ∀ i, i < T.length → ∀ b, (f i).1 = some ⟨b, 0, none⟩ → so ≠ some ⟨b, 0, none⟩ ∧ qo ≠ some ⟨b, 0, none⟩
 s2 : ∀ i k, i < T.length → k < T.length → i ≠ k → ∀ b, (f i).1 = some ⟨b, 0, none⟩ → (f k).1 ≠ some ⟨b, 0, none⟩
 s3 : 0 < T.length → ∀ b, so = some ⟨b, 0, none⟩ → qo ≠ some ⟨b, 0, none⟩
section
variable {w : World} {so qo : Option Addr} {n : Nat} {T : List (List Int)} {f : At} {D : Nat → Int} {E : Nat → Nat → Int}
theorem Ml.below {w' : World} (h : Ml w so qo n T f D E) (hb : Below w.heap.size w w') : Ml w' so qo n T f D E where
 seen := h.seen.below hb
 head := by
   rcases h.head with e | ⟨tb, e, hlt, hc⟩
   · exact .inl e
   · exact .inr ⟨tb, e, Nat.lt_of_lt_of_le hlt hb.size, fun i hi => (hb.cell (p := ⟨tb, i, none⟩) hlt).trans (hc i hi)⟩
 row := fun i hi => (h.row i hi).below hb
 s1 := h.s1
 s2 := h.s2
 s3 := h.s3
def rowM (T : List (List Int)) (E : Nat → Nat → Int) (k0 : Int) (j i q : Nat) : Int := if i < j then k0 + (ahead T i : Int) + (q : Int) else E i q
theorem ml_step {w' : World} {k0 : Int} {j : Nat} (h : Ml w so qo n T f D (rowM T E k0 j)) (hj : j < T.length) (hm : Mk w' (f j).1 (T.getD j []).length (fun i => k0 + (ahead T j : Int) + (i : Int))) (hf : Fr (fun x => (f j).1 = some ⟨x, 0, none⟩) w w') :
   Ml w' so qo n T f D (rowM T E k0 (j + 1)) where
 seen := h.seen.fr hf (fun b e q => (h.s1 j hj b q).1 e)
 head := by
   rcases h.head with e | ⟨tb, e, hlt, hc⟩
   · exact .inl e
   · exact .inr ⟨tb, e, Nat.lt_of_lt_of_le hlt hf.size, fun i hi => (hf.cell (p := ⟨tb, i, none⟩) hlt (fun q => (h.s1 j hj tb q).2 e)).trans (hc i hi)⟩
 row := fun i hi => by
   by_cases e : i = j
   · subst e
     exact hm.eq fun q _ => by unfold rowM; rw [if_pos (by omega)]
   · refine ((h.row i hi).fr hf (fun b q q' => h.s2 i j hi hj e b q q')).eq fun q _ => ?_
     unfold rowM
     by_cases k : i < j
     · rw [if_pos k, if_pos (by omega)]
     · rw [if_neg k, if_neg (by omega)]
 s1 := h.s1
 s2 := h.s2
 s3 := h.s3
end
set_option maxHeartbeats 1600000 in
theorem markSS (so qo : Option Addr) (n tc : Nat) (T : List (List Int)) (f : At) (D : Nat → Int) (E : Nat → Nat → Int) (k0 : Int) (w : World) (hT : T.length ≤ 1048576) (hTT : ∀ i, i < T.length → (T.getD i []).length ≤ 1048576) (hk0 : 0 ≤ k0) (hk1 : k0 ≤ 1000000000) (h : Ml w so qo n T f D E) :
   Calls Try.prog 19 #[.slice qo T.length tc, .int .i64 k0] w fun e w' => e = .returned (.int .i64 (k0 + (ahead T T.length : Int))) ∧ Ml w' so qo n T f D (rowM T E k0 T.length) ∧ Fr (fun x => ∃ i, i < T.length ∧ (f i).1 = some ⟨x, 0, none⟩) w w' := by
 have HAH : Hid (∀ i, i ≤ T.length → ahead T i ≤ 1048576 * 1048576) := fun i hi => Nat.le_trans (ahead_le T 1048576 hTT i hi) (Nat.mul_le_mul_right _ (by omega))
 have HTT : Hid (∀ i, i < T.length → (T.getD i []).length ≤ 1048576) := hTT
 have HSU : Hid (∀ i, i < T.length → (ahead T (i + 1) : Int) = (ahead T i : Int) + ((T.getD i []).length : Int)) := fun i _ => by rw [ahead]; omega
 have H0 : Hid (Ml w so qo n T f D (rowM T E k0 0)) := ⟨h.seen, h.head, fun i hi => (h.row i hi).eq fun q _ => by unfold rowM; rw [if_neg (by omega)], h.s1, h.s2, h.s3⟩
 have HF0 : Hid (Fr (fun x => ∃ i, i < T.length ∧ (f i).1 = some ⟨x, 0, none⟩) w w) := Fr.refl _ _
 have HA0 : Hid ((ahead T 0 : Int) = 0) := rfl
 clear h hTT
 go_enter Try.func19, Try.ntmps19
 go_wp2
 go_loopw [1, 5] (fun q i wr => ∃ j : Nat, j ≤ T.length ∧ i = .int .i64 j ∧ (∃ s : Int, s = (ahead T j : Int) ∧ q = .int .i64 (k0 + s)) ∧ Hid (Ml wr so qo n T f D (rowM T E k0 j)) ∧ Hid (Fr (fun x => ∃ i, i < T.length ∧ (f i).1 = some ⟨x, 0, none⟩) w wr)) (fun _ i _ => T.length - (intOf i).toNat)
 case atStart => exact ⟨0, by omega, rfl, ⟨0, HA0.out.symm, by simp⟩, H0, HF0⟩
 case round =>
   obtain ⟨j, hj, rfl, ⟨s, hs, rfl⟩, HM, HF⟩ := hrel
   have hsb : 0 ≤ s ∧ s ≤ 1099511627776 := by have := HAH.out j hj; omega
   have HS : Hid (s = (ahead T j : Int)) := hs
   clear hs
   by_cases hlt : j < T.length
   · have hji : (j : Int) < (T.length : Int) := by omega
     obtain ⟨tb, rfl, htl, hc⟩ : ∃ tb, qo = some ⟨tb, 0, none⟩ ∧ tb < wr.heap.size ∧ ∀ i, i < T.length → wr.cell? ⟨tb, i, none⟩ = some (.slice (f i).1 (T.getD i []).length (f i).2) := by
       rcases HM.out.head with e | q
       · omega
       · exact q
     have cj := hc j hlt
     have hln := HTT.out j hlt
     have hmk := markAny (f j).1 (T.getD j []).length (f j).2 (rowM T E k0 j j) (k0 + s) wr hln (by omega) (by omega) (HM.out.row j hlt)
     have HMX : Hid (∀ w' : World, Mk w' (f j).1 (T.getD j []).length (fun i => k0 + s + (i : Int)) → Fr (fun x => 0 < (T.getD j []).length ∧ (f j).1 = some ⟨x, 0, none⟩) wr w' → Ml w' so (some ⟨tb, 0, none⟩) n T f D (rowM T E k0 (j + 1)) ∧ Fr (fun x => ∃ i, i < T.length ∧ (f i).1 = some ⟨x, 0, none⟩) w w') := fun w' q1 q2 => by
       rw [HS.out] at q1
       exact ⟨ml_step HM.out hlt q1 (q2.mono fun x hx _ => hx.2), HF.out.trans q2 (fun x hx _ => ⟨j, hlt, hx.2⟩)⟩
     have HSN : Hid (s + ((T.getD j []).length : Int) = (ahead T (j + 1) : Int)) := by show _ = _; rw [HSU.out j hlt, HS.out]
     generalize f j = p at cj hmk HMX
     generalize (T.getD j []).length = nj at cj hmk HMX HSN hln
     obtain ⟨pa, pc⟩ := p
     dsimp only at cj hmk HMX
     clear hc HM HF HS
     go_wp2_with fail
     refine hmk.mono ?_
     rintro e w2 ⟨rfl, hm, hf⟩
     have HM2 : Hid _ := HMX.out w2 hm hf
     have hw : IntKind.i64.wrap (k0 + s + (nj : Int)) = k0 + s + (nj : Int) := by rw [IntKind.wrap_i64]; omega
     clear hmk HMX hm hf cj
     go_wp2
     go_roundw
     case rel => exact ⟨j + 1, by omega, by go_num, ⟨s + (nj : Int), HSN.out, by rw [Int.add_assoc]⟩, HM2.out.1, HM2.out.2⟩
     case measure => simp [intOf]; omega
   · obtain rfl : j = T.length := by omega
     go_wp2
     go_ret
     exact ⟨by rw [HS.out]; rfl, HM.out, HF.out⟩
theorem mk_marks {w : World} {a : Option Addr} {n : Nat} {k : Int} (h : Mk w a n (fun i => k + (i : Int))) : Lst.Rd w a (Lsx.marks k n) := by
 rcases h with h | ⟨b, q, h⟩
 · left; subst h; rfl
 · exact .inr ⟨b, q, fun i hi => by rw [Lsx.marks_length] at hi; rw [Lsx.marks_get k n i hi]; exact h.rd i hi⟩
theorem ml_seen {w w' : World} {so qo : Option Addr} {n : Nat} {T : List (List Int)} {f : At} {D : Nat → Int} {E : Nat → Nat → Int} {D' : Nat → Int} (h : Ml w so qo n T f D E) (hm : Mk w' so n D') (hf : Fr (fun x => 0 < n ∧ so = some ⟨x, 0, none⟩) w w') : Ml w' so qo n T f D' E where
 seen := hm
 head := by
   rcases h.head with e | ⟨tb, e, hlt, hc⟩
   · exact .inl e
   · refine .inr ⟨tb, e, Nat.lt_of_lt_of_le hlt hf.size, fun i hi => (hf.cell (p := ⟨tb, i, none⟩) hlt (fun q => h.s3 (by omega) tb q.2 e)).trans (hc i hi)⟩
 row := fun i hi => (h.row i hi).fr hf (fun b e q => (h.s1 i hi b e).1 q.2)
 s1 := h.s1
 s2 := h.s2
 s3 := h.s3
set_option maxHeartbeats 1600000 in
theorem markLog (so qo : Option Addr) (n sc tc : Nat) (T : List (List Int)) (f : At) (D : Nat → Int) (E : Nat → Nat → Int) (k0 : Int) (w : World) (hn : n ≤ 1048576) (hT : T.length ≤ 1048576) (hTT : ∀ i, i < T.length → (T.getD i []).length ≤ 1048576) (hk0 : 0 ≤ k0) (hk1 : k0 ≤ 100000000) (h : Ml w so qo n T f D E) :
   Calls Try.prog 10 #[.agg #[.slice so n sc, .slice qo T.length tc], .int .i64 k0] w fun e w' => e = .returned (.int .i64 (k0 + (n : Int) + (ahead T T.length : Int))) ∧ Ml w' so qo n T f (fun i => k0 + (i : Int)) (fun i q => k0 + (n : Int) + (ahead T i : Int) + (q : Int)) ∧ Fr (fun x => (0 < n ∧ so = some ⟨x, 0, none⟩) ∨ ∃ i, i < T.length ∧ (f i).1 = some ⟨x, 0, none⟩) w w' := by
 have P0 : Hid (_) := box1 w (.slice so n sc) (.slice qo T.length tc) 28
 have H0 : Hid (Ml w so qo n T f D E) := h
 have HMX : Hid (∀ W : World, Ml W so qo n T f (fun i => k0 + (i : Int)) E → Calls Try.prog 19 #[.slice qo T.length tc, .int .i64 (k0 + (n : Int))] W fun e w' => e = .returned (.int .i64 (k0 + (n : Int) + (ahead T T.length : Int))) ∧ Ml w' so qo n T f (fun i => k0 + (i : Int)) (rowM T E (k0 + (n : Int)) T.length) ∧ Fr (fun x => ∃ i, i < T.length ∧ (f i).1 = some ⟨x, 0, none⟩) W w') := fun W q => markSS so qo n tc T f _ E (k0 + (n : Int)) W hT hTT (by omega) (by omega) q
 have hsl : ∀ b, 0 < n → so = some ⟨b, 0, none⟩ → b < w.heap.size := fun b h0 e => by
   rcases h.seen with q | ⟨b', q, hr⟩
   · omega
   · rw [e] at q; injection q with q; injection q with q; subst q; exact hr.lt
 have HSL : Hid (∀ b, 0 < n → so = some ⟨b, 0, none⟩ → b < w.heap.size) := hsl
 clear h hTT hsl
 go_enter Try.func10, Try.ntmps10
 go_upto_region 1 with fail
 generalize w.alloc (.cells #[.slice so n sc, .slice qo T.length tc] 28) = W0 at P0 ⊢
 obtain ⟨B0, x0, x1, hl⟩ := P0
 have HM0 : Hid (Ml W0 so qo n T f D E) := H0.out.below B0
 have HB0 : Hid (Below w.heap.size w W0) := B0
 have hmk := markAny so n sc D k0 W0 hn hk0 (by omega) HM0.out.seen
 clear B0 H0
 go_wp2_with fail
 refine hmk.mono ?_
 rintro e w1 ⟨rfl, hm, hf⟩
 have HM1 : Hid (Ml w1 so qo n T f (fun i => k0 + (i : Int)) E) := ml_seen HM0.out hm hf
 have y1 : w1.cell? ⟨w.heap.size, 1, none⟩ = some (.slice qo T.length tc) := (hf.cell (p := ⟨w.heap.size, 1, none⟩) hl (fun q => by have := HSL.out _ q.1 q.2; simp at this)).trans x1
 have HF1 : Hid (Fr (fun x => 0 < n ∧ so = some ⟨x, 0, none⟩) w w1) := (Fr.of_below HB0.out (fun x => 0 < n ∧ so = some ⟨x, 0, none⟩)).trans hf (fun x hx _ => hx)
 clear hm hf hmk HM0 HB0 x0 x1
 go_wp2_with fail
 refine (HMX.out w1 HM1.out).mono ?_
 rintro e w2 ⟨rfl, hm, hf⟩
 have HR : Hid (Ml w2 so qo n T f (fun i => k0 + (i : Int)) (fun i q => k0 + (n : Int) + (ahead T i : Int) + (q : Int)) ∧ Fr (fun x => (0 < n ∧ so = some ⟨x, 0, none⟩) ∨ ∃ i, i < T.length ∧ (f i).1 = some ⟨x, 0, none⟩) w w2) :=
   ⟨⟨hm.seen, hm.head, fun i hi => (hm.row i hi).eq (fun q _ => by unfold rowM; rw [if_pos hi]), hm.s1, hm.s2, hm.s3⟩, (HF1.out.mono (fun x hx _ => .inl hx)).trans hf (fun x hx _ => .inr hx)⟩
 clear hm hf HM1 HF1 HMX y1
 go_wp2
 go_ret
 exact ⟨rfl, HR.out⟩
end Lg
namespace Gx
open Db (RowI)
open Rm (Fr)
open Lg (At Mk Ml RdL CopyL atL)
def Rg (lo hi x : Nat) : Prop := lo ≤ x ∧ x < hi
structure CpI (lo hi : Nat) (W : World) (a : Option Addr) (l : List Int) : Prop where
 r : Mk W a l.length (fun i => l.getD i 0)
 bl : ∀ b, a = some ⟨b, 0, none⟩ → Rg lo hi b
 hw : hi ≤ W.heap.size
section
variable {lo hi : Nat} {W W' : World} {a : Option Addr} {l : List Int}
theorem CpI.below (h : CpI lo hi W a l) (hb : Below W.heap.size W W') : CpI lo hi W' a l := ⟨h.r.below hb, h.bl, Nat.le_trans h.hw hb.size⟩
theorem CpI.fr {Z : Nat → Prop} (h : CpI lo hi W a l) (hf : Fr Z W W') (hz : ∀ x, Z x → x < lo ∨ hi ≤ x) : CpI lo hi W' a l := ⟨h.r.fr hf (fun b e q => by have := h.bl b e; have := hz b q; unfold Rg at *; omega), h.bl, Nat.le_trans h.hw hf.size⟩
theorem CpI.rd (h : CpI lo hi W a l) : Lst.Rd W a l := h.r.rd (fun _ _ => rfl)
theorem CpI.lt (h : CpI lo hi W a l) : ∀ c, a = some ⟨c, 0, none⟩ → c < W.heap.size := fun c e => by have := h.bl c e; have := h.hw; unfold Rg at *; omega
end
theorem cpI_own {B : Nat} {w : World} {a : Option Addr} {c : Nat} {l : List Int} (h : Memb.Own B w a c l) : CpI B w.heap.size w a l :=
 ⟨Lg.mk_own h, fun b e => World.ownsRow.lt h b (by rw [e]; rfl), Nat.le_refl _⟩
theorem markI {lo hi : Nat} (a : Option Addr) (cap : Nat) (l : List Int) (k0 : Int) (w : World) (hn : l.length ≤ 1048576) (hk0 : 0 ≤ k0) (hk1 : k0 ≤ 4611686018427387904) (h : CpI lo hi w a l) :
   Calls Try.prog 11 #[.slice a l.length cap, .int .i64 k0] w fun e w' => e = .returned (.int .i64 (k0 + (l.length : Int))) ∧ Mk w' a l.length (fun i => k0 + (i : Int)) ∧ Fr (Rg lo hi) w w' :=
 (Lg.markAny a l.length cap _ k0 w hn hk0 hk1 h.r).mono fun e w' q => ⟨q.1, q.2.1, q.2.2.mono fun x hx _ => h.bl x hx.2⟩
structure CpL (lo hi : Nat) (W : World) (so : Option Addr) (sc : Nat) (S : List Int) (qo : Option Addr) (tc : Nat) (T : List (List Int)) (f : At) : Prop where
 ml : Ml W so qo S.length T f (fun i => S.getD i 0) (fun i q => (T.getD i []).getD q 0)
 sn : so = none → sc = 0
 tn : ∀ i, i < T.length → (f i).1 = none → (f i).2 = 0
 fit : S.length ≤ sc
 b1 : ∀ b, so = some ⟨b, 0, none⟩ → Rg lo hi b
 b2 : ∀ b o, qo = some ⟨b, o, none⟩ → Rg lo hi b
 b3 : ∀ i, i < T.length → ∀ b, (f i).1 = some ⟨b, 0, none⟩ → Rg lo hi b
 hw : hi ≤ W.heap.size
section
variable {lo hi : Nat} {W W' : World} {so : Option Addr} {sc : Nat} {S : List Int} {qo : Option Addr} {tc : Nat} {T : List (List Int)} {f : At}
theorem CpL.below (h : CpL lo hi W so sc S qo tc T f) (hb : Below W.heap.size W W') : CpL lo hi W' so sc S qo tc T f := ⟨h.ml.below hb, h.sn, h.tn, h.fit, h.b1, h.b2, h.b3, Nat.le_trans h.hw hb.size⟩
theorem CpL.rd (h : CpL lo hi W so sc S qo tc T f) : RdL W so qo S T f := by
 have k : ∀ b, Rg lo hi b → b < W.heap.size := fun b hb => by have := h.hw; unfold Rg at *; omega
 refine ⟨h.ml.seen.rd (fun _ _ => rfl), fun c e => k c (h.b1 c e), ?_, fun i hi => (h.ml.row i hi).rd (fun _ _ => rfl), fun i hi c e => k c (h.b3 i hi c e)⟩
 rcases h.ml.head with e | ⟨tb, e, hlt, hc⟩
 · exact .inl (List.length_eq_zero_iff.1 e)
 · exact .inr ⟨tb, 0, e, hlt, fun i hi => by rw [Nat.zero_add]; exact hc i hi⟩
end
theorem cpL_to {w w' : World} {S : List Int} {T : List (List Int)} {s p : Nat} {q : Nat → Nat} (h : CopyL w w' S T s p q) : CpL w.heap.size w'.heap.size w' (some ⟨s, 0, none⟩) S.length S (some ⟨p, 0, none⟩) T.length T (atL q T) := by
 have hq : ∀ i, i < T.length → p < q i := fun i hi => h.told.ne i hi
 have hql : ∀ i, i < T.length → q i < w'.heap.size := fun i hi => (h.told.row i hi).lt
 have hs := h.seen.lt
 have hp := h.told.lt
 have hlo := h.lo
 have hsp := h.sp
 have inj : ∀ (x y : Nat), (some ⟨x, 0, none⟩ : Option Addr) = some ⟨y, 0, none⟩ → x = y := fun x y e => by injection e with e; injection e with e
 refine ⟨⟨.inr ⟨s, rfl, h.seen⟩, .inr ⟨p, rfl, hp, fun i hi => h.told.hd i hi⟩, fun i hi => .inr ⟨q i, rfl, h.told.row i hi⟩, fun i hi b e => ?_, fun i k hi hk hik b e e' => ?_, fun _ b e e' => ?_⟩, (fun e => by cases e), (fun i hi e => by cases e), Nat.le_refl _, fun b e => ?_, fun b o e => ?_, fun i hi b e => ?_, Nat.le_refl _⟩
 · have e1 := inj _ _ e
   have := hq i hi
   exact ⟨fun z => by have := inj _ _ z; omega, fun z => by have := inj _ _ z; omega⟩
 · have e1 := inj _ _ e
   have e2 := inj _ _ e'
   rcases Nat.lt_or_gt_of_ne hik with z | z
   · have := h.told.up i k z hk; omega
   · have := h.told.up k i z hi; omega
 · have e1 := inj _ _ e
   have e2 := inj _ _ e'
   omega
 · have e1 := inj _ _ e; unfold Rg; omega
 · injection e with e; injection e with e; unfold Rg; omega
 · have e1 := inj _ _ e; have := hq i hi; have := hql i hi; unfold Rg; omega
theorem markL {lo hi : Nat} (so qo : Option Addr) (sc tc : Nat) (S : List Int) (T : List (List Int)) (f : At) (k0 : Int) (w : World) (hn : S.length ≤ 1048576) (hT : T.length ≤ 1048576) (hTT : ∀ i, i < T.length → (T.getD i []).length ≤ 1048576) (hk0 : 0 ≤ k0) (hk1 : k0 ≤ 100000000) (h : CpL lo hi w so sc S qo tc T f) :
   Calls Try.prog 10 #[.agg #[.slice so S.length sc, .slice qo T.length tc], .int .i64 k0] w fun e w' => e = .returned (.int .i64 (k0 + (S.length : Int) + (Lg.ahead T T.length : Int))) ∧ Ml w' so qo S.length T f (fun i => k0 + (i : Int)) (fun i q => k0 + (S.length : Int) + (Lg.ahead T i : Int) + (q : Int)) ∧ Fr (Rg lo hi) w w' :=
 (Lg.markLog so qo S.length sc tc T f _ _ k0 w hn hT hTT hk0 hk1 h.ml).mono fun e w' q => ⟨q.1, q.2.1, q.2.2.mono fun x hx _ => by
   rcases hx with ⟨_, e⟩ | ⟨i, hi, e⟩
   · exact h.b1 x e
   · exact h.b3 i hi x e⟩
end Gx
namespace Lo
open Lg (At RdL lastB told_at told_cell)
open Sg (NumsPost)
set_option maxHeartbeats 1600000 in
theorem lastTold0 (so qo : Option Addr) (sc tc : Nat) (S : List Int) (w : World) : Calls Try.prog 7 #[.agg #[.slice so S.length sc, .slice qo 0 tc]] w (NumsPost [] w) := by
 have HB : Hid (Below w.heap.size w (w.alloc (.cells #[.slice so S.length sc, .slice qo 0 tc] 28)) ∧ (w.alloc (.cells #[.slice so S.length sc, .slice qo 0 tc] 28)).cell? ⟨w.heap.size, 1, none⟩ = some (.slice qo 0 tc) ∧ w.heap.size < (w.alloc (.cells #[.slice so S.length sc, .slice qo 0 tc] 28)).heap.size) := ⟨(Below.refl _ _).alloc (Nat.le_refl _) _, by simp, by simp⟩
 have HP : Hid _ := Ch.nums_nil HB.out.1
 go_enter Try.func7, Try.ntmps7
 go_upto_region 1 with fail
 generalize w.alloc (.cells #[.slice so S.length sc, .slice qo 0 tc] 28) = W at HB HP ⊢
 have c1 := (World.cell?_alloc_lt W (.cells #[] 2) ⟨w.heap.size, 1, none⟩ HB.out.2.2).trans HB.out.2.1
 go_wp2
 go_ret
 exact ⟨_, 0, rfl, HP.out.1, HP.out.2⟩
set_option maxHeartbeats 3200000 in
theorem implLastTold (so qo : Option Addr) (sc tc : Nat) (S : List Int) (T : List (List Int)) (f : At) (w : World) (hlog : RdL w so qo S T f) (hN : ∀ i, i < T.length → (f i).1 = none → (f i).2 = 0) (hT : T.length ≤ 1048576) (hTT : ∀ i, i < T.length → (T.getD i []).length ≤ 1048576) :
   Calls Try.prog 7 #[.agg #[.slice so S.length sc, .slice qo T.length tc]] w (NumsPost (lastB T) w) := by
 by_cases h0 : T.length = 0
 · obtain rfl : T = [] := List.length_eq_zero_iff.1 h0
   exact lastTold0 so qo sc tc S w
 · obtain ⟨i0, hi, hz0, hz1, hz2⟩ := info_parts Memb.info2
   have hb : Below w.heap.size w (w.alloc (.cells #[.slice so S.length sc, .slice qo T.length tc] 28)) := (Below.refl _ _).alloc (Nat.le_refl _) _
   have hb2 : Below w.heap.size w ((w.alloc (.cells #[.slice so S.length sc, .slice qo T.length tc] 28)).alloc (.cells #[] 2)) := hb.alloc hb.size _
   have hc1 : ((w.alloc (.cells #[.slice so S.length sc, .slice qo T.length tc] 28)).alloc (.cells #[] 2)).cell? ⟨w.heap.size, 1, none⟩ = some (.slice qo T.length tc) := by rw [World.cell?_alloc_lt _ _ _ (by simp)]; simp
   have HL : Hid (RdL ((w.alloc (.cells #[.slice so S.length sc, .slice qo T.length tc] 28)).alloc (.cells #[] 2)) so qo S T f) := hlog.below hb2
   have hown : Memb.Own (w.alloc (.cells #[.slice so S.length sc, .slice qo T.length tc] 28)).heap.size ((w.alloc (.cells #[.slice so S.length sc, .slice qo T.length tc] 28)).alloc (.cells #[] 2)) (some ⟨(w.alloc (.cells #[.slice so S.length sc, .slice qo T.length tc] 28)).heap.size, 0, none⟩) 0 [] := Memb.own_empty _
   have hown2 : Memb.Own w.heap.size ((w.alloc (.cells #[.slice so S.length sc, .slice qo T.length tc] 28)).alloc (.cells #[] 2)) (some ⟨(w.alloc (.cells #[.slice so S.length sc, .slice qo T.length tc] 28)).heap.size, 0, none⟩) 0 [] := Ch.own_base hown hb.size
   obtain ⟨t, ht⟩ : ∃ t : Nat, t = T.length - 1 := ⟨_, rfl⟩
   have htT : (T.length : Int) - 1 = (t : Int) := by omega
   have hlt : (t : Int) < (T.length : Int) := by omega
   have hpos : (0 : Int) < (T.length : Int) := by omega
   have hw1 : IntKind.i64.wrap ((T.length : Int) - 1) = (t : Int) := by rw [IntKind.wrap_i64]; omega
   obtain ⟨tb, toff, rfl⟩ := told_at HL.out (by omega)
   have HT : Hid (lastB T = T.getD t []) := by show _ = _; unfold lastB; rw [ht]
   have hcell := told_cell HL.out t (by omega)
   have hrow := HL.out.row t (by omega)
   have hN' := hN t (by omega)
   have hln := hTT t (by omega)
   clear hN hTT HL ht hlog
   generalize T.getD t [] = tl at HT hcell hrow hln
   generalize (f t).1 = f1 at hcell hrow hN'
   generalize (f t).2 = f2 at hcell hN'
   go_enter Try.func7, Try.ntmps7
   go_upto_region 2 with fail
   rw [World.size_alloc] at hown2
   generalize hv : (w.alloc (.cells #[.slice so S.length sc, .slice (some ⟨tb, toff, none⟩) T.length tc] 28)).alloc (.cells #[] 2) = W at hb2 hc1 hcell hrow hown2 ⊢
   have HB : Hid (Below w.heap.size w W) := hb2
   have HZ : Hid (w.heap.size ≤ W.heap.size) := hb2.size
   clear hown hv hb hb2
   cases f1 with
   | none =>
     obtain rfl : tl = [] := by
       rcases hrow with e | ⟨g, e, _⟩
       · exact e
       · cases e
     obtain rfl : f2 = 0 := hN' rfl
     have HO : Hid (Memb.Own w.heap.size W (some ⟨w.heap.size + 1, 0, none⟩) 0 []) := hown2
     clear hown2 hrow hN' hln
     go_wp2_with (first | (at_builtin; refine wpList_append_own_none rfl _ _ 22 rfl w.heap.size 2 i0 1 Try.underlying22 hi (.slice (some ⟨w.heap.size + 1, 0, none⟩) 0 0) 0 [] (by first | rfl | simp [Act.eval]) HO.out (by first | rfl | simp [Act.eval]) ?_) | fail)
     go_wp2
     go_ret
     rw [HT.out]
     exact ⟨_, 0, rfl, HO.out, HB.out⟩
   | some ad =>
     have HNEW : Hid (∀ (j : Nat) u, (tl.map (Value.int .i64))[j]? = some u → W.cell? (ad.add j) = some u) := by
       rcases hrow with e | ⟨g, e, hc⟩
       · subst e; intro j u h; simp at h
       · injection e with e; subst e
         exact Rm.rd_nums (.inr ⟨g, rfl, hc⟩) rfl
     clear hrow hN'
     go_wp2_with (first | (at_builtin; refine wpList_append_own _ rfl _ _ 22 rfl w.heap.size 2 i0 (.int .i64 0) 1 8 Try.underlying22 hi hz0 hz1 hz2 rfl (by decide) (.slice (some ⟨w.heap.size + 1, 0, none⟩) 0 0) 0 [] (by first | rfl | simp [Act.eval]) hown2 ad tl.length f2 (tl.map (Value.int .i64)) (by first | rfl | simp [Act.eval]) (by simp) HNEW.out (Rm.nums_one tl) ?c3 ?c4 ?c5 ?_) | fail)
     case c3 => unfold maxLen; omega
     case c4 => omega
     case c5 => exact HZ.out
     intro v' w5 hown' hgrow hnil
     have HR : Hid (w5.ownsRow w.heap.size 2 1 v' tl.length (tl.map (Value.int .i64)) ∧ Below w.heap.size w w5) :=
       ⟨by simpa using hown', HB.out.grown hgrow HZ.out (fun i hi => (World.ownsRow.lt hown2 i hi).1)⟩
     clear hown' hgrow hi hz0 hz1 hz2 hnil hown2
     obtain ⟨ao, ca, hv, ho⟩ := Memb.own_shape HR.out.1
     subst hv
     go_wp2
     go_ret
     rw [HT.out]
     exact ⟨ao, ca, rfl, ho, HR.out.2⟩
end Lo
end Go.Proofs.Ytjnhniffgeepjaa
namespace Go.Proofs.Ytjnhniffgeepjaa
open Go.ChangeShapes Go.WideShapes Go.ChangeAt Go.RowKit
set_option maxRecDepth 100000
namespace Nu
theorem openI {H : Type} {enc : TypeId × Value → H} {W : World} {spare : Nat → Bool} {held : Bool} {a0 : Option Addr} {len0 cap0 fuel : Nat} {x : DataW H × List MemPlace}
   (h : DataW.trod enc Try.prog W 0 spare held fuel 22 [.slice a0 len0 cap0] = some x) : ∃ C : List Int, C.length = len0 ∧ RdI W a0 C ∧ (∀ z ∈ C, -9223372036854775808 ≤ z ∧ z ≤ 9223372036854775807) ∧ len0 ≤ maxLen := by
 rcases open_ints Try.underlying22 Try.underlying2 (by kernel_rfl) h with ⟨hcs, _⟩ | ⟨y, l, c, zs, hcs, _, hl, hm, hz, _, hcell, hwz⟩
 · simp at hcs
   obtain ⟨rfl, rfl, rfl⟩ := hcs
   exact ⟨[], rfl, .inl rfl, by simp, by simp⟩
 · simp at hcs
   obtain ⟨rfl, rfl, rfl⟩ := hcs
   have hzl : len0 ≤ zs.length := by rw [hz]; split <;> omega
   have hlen : (zs.take len0).length = len0 := by simp; omega
   refine ⟨zs.take len0, hlen, ?_, fun z hz' => ?_, by omega⟩
   · by_cases h0 : len0 = 0
     · subst h0; exact .inl (by simp)
     · obtain ⟨b, off, spot⟩ := y
       have hc := hcell 0 (by omega)
       have hspot : spot = none := by simpa [Addr.add] using World.cell?_spot hc
       subst hspot
       refine .inr ⟨b, off, rfl, ?_, fun j hj => ?_⟩
       · have := block_lt_of_cell hc; simpa [Addr.add] using this
       · rw [hlen] at hj
         have hcj := hcell j (by omega)
         rw [WideShapes.add_plain] at hcj
         rw [hcj]
         simp [List.getD, hj]
   · have := hwz z (List.mem_of_mem_take hz')
     simpa [Lit.wf, IntKind.min, IntKind.max, IntKind.signed, IntKind.bits] using this
end Nu
end Go.Proofs.Ytjnhniffgeepjaa
