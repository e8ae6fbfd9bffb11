/-
 The program looks a log through, page by page: recordOf.
-/
import Derived.Test.YtjnhniffgeepjaaGreatezg18
import Derived.Test.YtjnhniffgeepjaaGreatezg21
import Derived.Stop.Asserts
set_option linter.unusedVariables false
namespace Go.Proofs.YtjnhniffgeepjaaGreat
open Go.ChangeShapes Go.WideShapes Go.ChangeAt Go.RowKit Go.Joins
set_option maxRecDepth 100000
set_option linter.unusedVariables false
namespace Lg
theorem cellsIS : Tryz.prog.cellsOf 23 = 1 := by kernel_rfl
theorem cellsLog : Tryz.prog.cellsOf 36 = 2 := by kernel_rfl
theorem slice_of {H : Type} {enc : TypeId × Value → H} {W : World} {spare : Nat → Bool} {held : Bool} {n : Nat} {v : Value} {x : DataW H × List MemPlace}
   (h : DataW.trod enc Tryz.prog W 0 spare held n 23 [v] = some x) : ∃ (ao : Option Addr) (C : List Int) (cap : Nat), v = .slice ao C.length cap ∧ Nu.RdI W ao C ∧ (∀ z ∈ C, -9223372036854775808 ≤ z ∧ z ≤ 9223372036854775807) ∧ C.length ≤ maxLen := by
 have hv : ∃ (ao : Option Addr) (l c : Nat), v = .slice ao l c := by
   rcases open_ints Tryz.underlying23 Tryz.underlying2 (by kernel_rfl) h with ⟨hcs, _⟩ | ⟨y, l, c, zs, hcs, _⟩
   · exact ⟨none, 0, 0, by simpa using hcs⟩
   · exact ⟨some y, l, c, by simpa using hcs⟩
 obtain ⟨ao, l, c, rfl⟩ := hv
 obtain ⟨C, rfl, hr, hb, hl⟩ := Nu.openI h
 exact ⟨ao, C, c, rfl, hr, hb, hl⟩
theorem openSS {H : Type} {enc : TypeId × Value → H} {W : World} {spare : Nat → Bool} {held : Bool} {n : Nat} {v : Value} {x : DataW H × List MemPlace}
   (h : DataW.trod enc Tryz.prog W 0 spare held n 34 [v] = some x) : ∃ (qo : Option Addr) (T : List (List Int)) (tc : Nat) (f : At), v = .slice qo T.length tc ∧
     (T = [] ∨ ∃ tb off, qo = some ⟨tb, off, none⟩ ∧ tb < W.heap.size ∧ ∀ i, i < T.length → W.cell? ⟨tb, off + i, none⟩ = some (.slice (f i).1 (T.getD i []).length (f i).2)) ∧
     (∀ i, i < T.length → Nu.RdI W (f i).1 (T.getD i [])) ∧ (∀ i, i < T.length → (T.getD i []).length ≤ maxLen) ∧ T.length ≤ maxLen := by
 rcases Deep.open_slice Tryz.underlying34 h with ⟨hcs, _⟩ | ⟨a, l, c, m, n', D, Pl, hcs, _, hl, hm, hmm, _, hx⟩
 · exact ⟨none, [], 0, fun _ => (none, 0), by simpa using hcs, .inl rfl, by simp, by simp, by simp⟩
 · obtain rfl : v = .slice (some a) l c := by simpa using hcs
   have hk : ∀ i, i < l → ∃ p : List Int × (Option Addr × Nat), W.cell? (a.add i) = some (.slice p.2.1 p.1.length p.2.2) ∧ Nu.RdI W p.2.1 p.1 ∧ p.1.length ≤ maxLen := by
     intro i hi
     obtain ⟨cs', h1, h2⟩ := hx i (by rw [hmm]; split <;> omega)
     rw [cellsIS] at h1
     obtain ⟨_, hlen, hcell⟩ := World.cells?_some h1
     match cs', hlen with
     | [u], _ =>
       obtain ⟨ao, C, cap, rfl, hr, _, hc⟩ := slice_of h2
       have q := hcell 0 (by omega)
       exact ⟨(C, (ao, cap)), by simpa [Addr.add] using q, hr, hc⟩
   obtain ⟨f, hf⟩ := Deep.choose_lt hk
   have hlenL : ((List.range l).map fun i => (f i).1).length = l := by simp
   have hat : ∀ i, i < l → ((List.range l).map fun i => (f i).1).getD i [] = (f i).1 := fun i hi => by simp [List.getD, hi]
   refine ⟨some a, (List.range l).map fun i => (f i).1, c, fun i => (f i).2, by rw [hlenL], ?_, fun i hi => ?_, fun i hi => ?_, by rw [hlenL]; omega⟩
   · by_cases h0 : l = 0
     · subst h0; exact .inl rfl
     · obtain ⟨b, off, spot⟩ := a
       have hc0 := (hf 0 (by omega)).1
       have hspot : spot = none := by simpa [Addr.add] using World.cell?_spot hc0
       subst hspot
       refine .inr ⟨b, off, rfl, ?_, fun i hi => ?_⟩
       · have := block_lt_of_cell hc0; simpa [Addr.add] using this
       · rw [hlenL] at hi
         have d0 := (hf i hi).1
         rw [WideShapes.add_plain] at d0
         rw [hat i hi]; exact d0
   · rw [hlenL] at hi; rw [hat i hi]; exact (hf i hi).2.1
   · rw [hlenL] at hi; rw [hat i hi]; exact (hf i hi).2.2
theorem openLog {H : Type} {enc : TypeId × Value → H} {W : World} {spare : Nat → Bool} {held : Bool} {n m : Nat} {u v : Value} {x y : DataW H × List MemPlace}
   (h1 : DataW.trod enc Tryz.prog W 0 spare held n 23 [u] = some x) (h2 : DataW.trod enc Tryz.prog W 0 spare held m 34 [v] = some y) :
   ∃ (so qo : Option Addr) (S : List Int) (T : List (List Int)) (sc tc : Nat) (f : At), u = .slice so S.length sc ∧ v = .slice qo T.length tc ∧ InL W so qo S T f ∧ S.length ≤ maxLen ∧ T.length ≤ maxLen ∧ (∀ i, i < T.length → (T.getD i []).length ≤ maxLen) ∧ (∀ x ∈ S, -9223372036854775808 ≤ x ∧ x ≤ 9223372036854775807) := by
 obtain ⟨so, S, sc, rfl, hr, hb, hs⟩ := slice_of h1
 obtain ⟨qo, T, tc, f, rfl, ht, hrow, hlen, hT⟩ := openSS h2
 exact ⟨so, qo, S, T, sc, tc, f, rfl, rfl, ⟨hr, ht, hrow⟩, hs, hT, hlen, hb⟩
end Lg
end Go.Proofs.YtjnhniffgeepjaaGreat
namespace Go.Proofs.YtjnhniffgeepjaaGreat
open Go.RowKit
set_option maxRecDepth 100000
set_option linter.unusedVariables false
namespace Tp
open Tl (beginsB)
set_option maxHeartbeats 1600000 in
theorem equal (ao : Option Addr) (ca : Nat) (A : List Int) (bo : Option Addr) (cb : Nat) (D : List Int) (w : World) (hA : A.length ≤ 1048576) (hle : D.length ≤ A.length) (ha : Lst.Rd w ao A) (hb : Lst.Rd w bo D) :
   Calls Tryz.prog 64 #[.slice ao D.length ca, .slice bo D.length cb] w fun e w' => e = .returned (.bool (beginsB A D)) ∧ Below w.heap.size w w' := by
 go_enter Tryz.func64, Tryz.ntmps64
 go_wp2
 go_loopw [13] (fun i wr => ∃ j n : Nat, j ≤ D.length ∧ i = .int .i64 j ∧ wr = w.drewN n ∧ Hid (∀ q, q < j → (A.getD q 0 == D.getD q 0) = true)) (fun i _ => D.length - (intOf i).toNat)
 case atStart => exact ⟨0, 0, by omega, rfl, rfl, fun q hq => absurd hq (by omega)⟩
 case round =>
   obtain ⟨j, n, hj, rfl, rfl, HE⟩ := hrel
   by_cases hlt : j < D.length
   · rcases ha with h | ⟨g, rfl, hc⟩
     · exfalso; rw [h] at hle; simp at hle; rw [hle] at hlt; simp at hlt
     rcases hb with h | ⟨g', rfl, hc'⟩
     · exfalso; rw [h] at hlt; simp at hlt
     have h1 := hc j (by omega)
     have h2 := hc' j hlt
     have HNO : Hid ((A.getD j 0 == D.getD j 0) = false → beginsB A D = false) := Tl.begins_no j hlt
     have HST : Hid ((A.getD j 0 == D.getD j 0) = true → ∀ q, q < j + 1 → (A.getD q 0 == D.getD q 0) = true) := fun h q hq => by
       by_cases e : q = j
       · subst e; exact h
       · exact HE.out q (by omega)
     have hjD : (j : Int) < (D.length : Int) := by omega
     clear hc hc' HE
     generalize A.getD j 0 = x at h1 HNO HST
     generalize D.getD j 0 = y at h2 HNO HST
     cases hxy : (x == y)
     · have HT : Hid (beginsB A D = false) := HNO.out hxy
       clear HNO HST
       go_wp2_with fail
       go_quiet (fail)
       go_wp2
       go_ret
       exact ⟨by rw [HT.out]; rfl, by first | exact Nu.below_drewN (Below.refl _ _) _ | exact Nu.below_drewN (Nu.below_drewN (Below.refl _ _) _) _⟩
     · have HS2 : Hid (_) := HST.out hxy
       clear HNO HST
       go_wp2_with fail
       go_quiet (fail)
       go_wp2
       go_roundw
       case rel => exact ⟨j + 1, _, by omega, by go_num, rfl, HS2⟩
       case measure => simp [intOf]; omega
   · obtain rfl : j = D.length := by omega
     have HT : Hid (beginsB A D = true) := Tl.begins_yes hle HE.out
     clear HE
     go_wp2
     go_ret
     exact ⟨by rw [HT.out]; rfl, by first | exact Nu.below_drewN (Below.refl _ _) _ | exact Nu.below_drewN (Nu.below_drewN (Below.refl _ _) _) _⟩
set_option maxHeartbeats 1600000 in
theorem implBegins (ao : Option Addr) (ca : Nat) (A : List Int) (bo : Option Addr) (cb : Nat) (D : List Int) (w : World) (hcap : A.length ≤ ca) (hA : A.length ≤ 1048576) (hD : D.length ≤ 1048576) (ha : Lst.Rd w ao A) (hb : Lst.Rd w bo D) :
   Calls Tryz.prog 67 #[.slice ao A.length ca, .slice bo D.length cb] w fun e w' => e = .returned (.bool (beginsB A D)) ∧ Below w.heap.size w w' := by
 by_cases hlong : A.length < D.length
 · have HT : Hid (beginsB A D = false) := Tl.begins_long hlong
   have hl' : ¬ (D.length : Int) ≤ (A.length : Int) := by omega
   go_enter Tryz.func67, Tryz.ntmps67
   go_wp2
   go_ret
   exact ⟨by rw [HT.out]; rfl, Below.refl _ _⟩
 · have hl' : (D.length : Int) ≤ (A.length : Int) := by omega
   have hle : D.length ≤ A.length := by omega
   have hc1 : (D.length : Int) ≤ (ca : Int) := by omega
   have HEQ : Hid (∀ (po : Option Addr) (pc : Nat), Lst.Rd w po A → Calls Tryz.prog 64 #[.slice po D.length pc, .slice bo D.length cb] w fun e w' => e = .returned (.bool (beginsB A D)) ∧ Below w.heap.size w w') := fun po pc h => equal po pc A bo cb D w hA hle h hb
   have HRA : Hid (Lst.Rd w ao A) := ha
   clear hlong ha hb
   go_enter Tryz.func67, Tryz.ntmps67
   generalize beginsB A D = ans at HEQ ⊢
   cases ao with
   | none =>
     go_wp2_with fail
     refine (HEQ.out _ _ HRA.out).mono ?_
     rintro e w1 ⟨rfl, hb1⟩
     clear HEQ
     go_wp2
     go_ret
     exact ⟨rfl, hb1⟩
   | some a =>
     go_wp2_with fail
     refine (HEQ.out _ _ HRA.out).mono ?_
     rintro e w1 ⟨rfl, hb1⟩
     clear HEQ
     go_wp2
     go_ret
     exact ⟨rfl, hb1⟩
end Tp
end Go.Proofs.YtjnhniffgeepjaaGreat
namespace Go.Proofs.YtjnhniffgeepjaaGreat
open Go.RowKit Go.Shelf Go.Extern.Stop Go.Stop
set_option maxRecDepth 100000
set_option linter.unusedVariables false
namespace Lo
open Lg (At)
def recV (h : At) (S : List Int) (T : List (List Int)) : Nat → Value
 | 0 => .iface 97 (.agg #[])
 | n + 1 => .iface 102 (.agg #[recV h S T n, .int .i64 (S.getD n 0), .slice (h n).1 (T.getD n []).length (h n).2])
theorem recV_zero (h : At) (S : List Int) (T : List (List Int)) : recV h S T 0 = .iface 97 (.agg #[]) := rfl
theorem recV_succ (h : At) (S : List Int) (T : List (List Int)) (n : Nat) : recV h S T (n + 1) = .iface 102 (.agg #[recV h S T n, .int .i64 (S.getD n 0), .slice (h n).1 (T.getD n []).length (h n).2]) := rfl
theorem recV_congr {h h' : At} {S S' : List Int} {T T' : List (List Int)} : ∀ n, (∀ i, i < n → h i = h' i ∧ S.getD i 0 = S'.getD i 0 ∧ T.getD i [] = T'.getD i []) → recV h S T n = recV h' S' T' n := by
 intro n
 induction n with
 | zero => intro _; rfl
 | succ n ih =>
   intro H
   obtain ⟨e1, e2, e3⟩ := H n (by omega)
   rw [recV_succ, recV_succ, ih (fun i hi => H i (by omega)), e1, e2, e3]
theorem recV_if (h : At) (S : List Int) (T : List (List Int)) (n : Nat) : ∃ t x, recV h S T n = .iface t x := by
 cases n with
 | zero => exact ⟨_, _, rfl⟩
 | succ n => exact ⟨_, _, rfl⟩
theorem pages0 (W : World) : Calls Tryz.prog 188 #[.agg #[]] W fun e w' => e = .returned (.int .i64 0) ∧ Below W.heap.size W w' := by
 have HB : Hid (Below W.heap.size W (W.alloc (.cells #[] 97))) := (Below.refl _ _).alloc (Nat.le_refl _) _
 go_enter Tryz.func188, Tryz.ntmps188
 go_wp2
 go_ret
 exact ⟨rfl, HB.out⟩
theorem seen0 (W : World) : Calls Tryz.prog 189 #[.agg #[]] W fun e w' => e = .returned (.int .i64 0) ∧ Below W.heap.size W w' := by
 have HB : Hid (Below W.heap.size W (W.alloc (.cells #[] 97))) := (Below.refl _ _).alloc (Nat.le_refl _) _
 go_enter Tryz.func189, Tryz.ntmps189
 go_wp2
 go_ret
 exact ⟨rfl, HB.out⟩
theorem seen1 (t : TypeId) (x : Value) (s : Int) (ao : Option Addr) (n c : Nat) (W : World) : Calls Tryz.prog 192 #[.agg #[.iface t x, .int .i64 s, .slice ao n c]] W fun e w' => e = .returned (.int .i64 s) ∧ Below W.heap.size W w' := by
 have HB : Hid (Below W.heap.size W (W.alloc (.cells #[.iface t x, .int .i64 s, .slice ao n c] 102))) := (Below.refl _ _).alloc (Nat.le_refl _) _
 go_enter Tryz.func192, Tryz.ntmps192
 go_wp2
 go_ret
 exact ⟨rfl, HB.out⟩
theorem told1 (t : TypeId) (x : Value) (s : Int) (ao : Option Addr) (n c : Nat) (W : World) : Calls Tryz.prog 193 #[.agg #[.iface t x, .int .i64 s, .slice ao n c]] W fun e w' => e = .returned (.slice ao n c) ∧ Below W.heap.size W w' := by
 have HB : Hid (Below W.heap.size W (W.alloc (.cells #[.iface t x, .int .i64 s, .slice ao n c] 102))) := (Below.refl _ _).alloc (Nat.le_refl _) _
 go_enter Tryz.func193, Tryz.ntmps193
 go_wp2
 go_ret
 exact ⟨rfl, HB.out⟩
theorem pages1 (h : At) (S : List Int) (T : List (List Int)) (n : Nat) (hn : n ≤ 1048576) : ∀ (s : Int) (ao : Option Addr) (m c : Nat) (W : World), Calls Tryz.prog 191 #[.agg #[recV h S T n, .int .i64 s, .slice ao m c]] W fun e w' => e = .returned (.int .i64 ((n : Int) + 1)) ∧ Below W.heap.size W w' := by
 induction n with
 | zero =>
   intro s ao m c W
   rw [recV_zero]
   have HB : Hid (Below W.heap.size W (W.alloc (.cells #[.iface 97 (.agg #[]), .int .i64 s, .slice ao m c] 102))) := (Below.refl _ _).alloc (Nat.le_refl _) _
   go_enter Tryz.func191, Tryz.ntmps191
   go_wp2_with fail
   refine (pages0 _).mono ?_
   rintro e w1 ⟨rfl, hb1⟩
   have HE : Hid (Below W.heap.size W w1) := HB.out.trans (hb1.mono HB.out.size)
   clear hb1
   go_wp2
   go_ret
   exact ⟨rfl, HE.out⟩
 | succ n ih =>
   intro s ao m c W
   rw [recV_succ]
   have hcall := ih (by omega) (S.getD n 0) (h n).1 (T.getD n []).length (h n).2
   have HB : Hid (Below W.heap.size W (W.alloc (.cells #[.iface 102 (.agg #[recV h S T n, .int .i64 (S.getD n 0), .slice (h n).1 (T.getD n []).length (h n).2]), .int .i64 s, .slice ao m c] 102))) := (Below.refl _ _).alloc (Nat.le_refl _) _
   clear ih
   generalize recV h S T n = rv at hcall HB ⊢
   generalize S.getD n 0 = sn at hcall HB ⊢
   generalize (T.getD n []).length = tn at hcall HB ⊢
   generalize (h n).1 = h1 at hcall HB ⊢
   generalize (h n).2 = h2 at hcall HB ⊢
   go_enter Tryz.func191, Tryz.ntmps191
   go_wp2_with fail
   refine (hcall _).mono ?_
   rintro e w1 ⟨rfl, hb1⟩
   have HE : Hid (Below W.heap.size W w1) := HB.out.trans (hb1.mono HB.out.size)
   clear hb1 hcall
   go_wp2
   go_ret
   exact ⟨by simp, HE.out⟩
theorem lacksT (v : Value) (xT : TypeId) (w : World) : (Instr.typeAssert (.iface 97 v) xT 122 true).run Tryz.prog w = .ok (.tuple #[.nilIface, .bool false]) w := run_typeAssert_lacksB Tryz.underlying122 (by kernel_rfl) (by kernel_rfl) v xT w
theorem hasT (v : Value) (xT : TypeId) (w : World) : (Instr.typeAssert (.iface 102 v) xT 122 true).run Tryz.prog w = .ok (.tuple #[.iface 102 v, .bool true]) w := run_typeAssert_hasB Tryz.underlying122 (by kernel_rfl) v xT w
def LastPost (l : List Int) (w : World) (e : Ending) (w' : World) : Prop := ∃ ao ca, e = .returned (.slice ao l.length ca) ∧ Lst.Rd w' ao l ∧ Below w.heap.size w w'
theorem last0 (W : World) : Calls Tryz.prog 65 #[.iface 97 (.agg #[])] W (LastPost [] W) := by
 have hl := lacksT
 have HB : Hid (Below W.heap.size W (W.alloc (.cells #[] 2))) := (Below.refl _ _).alloc (Nat.le_refl _) _
 go_enter Tryz.func65, Tryz.ntmps65
 go_wp2
 go_ret
 exact ⟨_, 0, rfl, .inl rfl, HB.out⟩
theorem last1 (t : TypeId) (x : Value) (s : Int) (ao : Option Addr) (l : List Int) (c : Nat) (W : World) (hr : Lst.Rd W ao l) (hao : ∀ g, ao = some ⟨g, 0, none⟩ → g < W.heap.size) : Calls Tryz.prog 65 #[.iface 102 (.agg #[.iface t x, .int .i64 s, .slice ao l.length c])] W (LastPost l W) := by
 have hl := hasT
 have HR : Hid (∀ w1, Below W.heap.size W w1 → Lst.Rd w1 ao l) := fun w1 hb => Ch.rd_below hr hao hb
 clear hr hao
 go_enter Tryz.func65, Tryz.ntmps65
 go_wp2_with fail
 refine (told1 t x s ao l.length c _).mono ?_
 rintro e w1 ⟨rfl, hb1⟩
 have HB : Hid _ := hb1
 clear hb1
 go_wp2
 go_ret
 exact ⟨ao, c, rfl, HR.out _ HB.out, HB.out⟩
end Lo
end Go.Proofs.YtjnhniffgeepjaaGreat
namespace Go.Proofs.YtjnhniffgeepjaaGreat
open Go.RowKit Go.Shelf
set_option maxRecDepth 100000
set_option linter.unusedVariables false
namespace Lo
open Kn (K okK)
open Lc (at' RdK WordsOk laceB)
open Lg (At sameB)
open Sg (closedB NumsPost)
open Tl (outL beginsB)
theorem equalN (ao : Option Addr) (ca : Nat) (A : List Int) (bo : Option Addr) (cb : Nat) (D : List Int) (w : World) (hA : A.length ≤ 1048576) (ha : Lst.Rd w ao A) (hb : Lst.Rd w bo D) :
   Calls Tryz.prog 64 #[.slice ao A.length ca, .slice bo D.length cb] w fun e w' => e = .returned (.bool (sameB A D)) ∧ Below w.heap.size w w' := by
 by_cases he : A.length = D.length
 · have HT : sameB A D = beginsB A D := by unfold sameB; rw [decide_eq_true he]; rfl
   rw [HT, he]
   exact Tp.equal ao ca A bo cb D w hA (by omega) ha hb
 · have HT : Hid (sameB A D = false) := by show _ = _; unfold sameB; rw [decide_eq_false he]; rfl
   have he' : ((A.length : Int) != (D.length : Int)) = true := by simpa using (by omega : ¬ (A.length : Int) = (D.length : Int))
   clear ha hb
   go_enter Tryz.func64, Tryz.ntmps64
   go_wp2
   go_ret
   exact ⟨by rw [HT.out]; rfl, Below.refl _ _⟩
theorem eqlNil (a : Addr) (n c : Nat) (w : World) : (binOp .eql 23 (.slice (some a) n c) (.slice none 0 0)).run Tryz.prog w = .ok (.bool false) w := by kernel_rfl
theorem eqlNone (w : World) : (binOp .eql 23 (.slice none 0 0) (.slice none 0 0)).run Tryz.prog w = .ok (.bool true) w := by kernel_rfl
set_option maxHeartbeats 1600000 in
theorem cloneS (g cap : Nat) (l : List Int) (w : World) (hl : l.length ≤ 1048576) (hlt : g < w.heap.size) (hrd : Lst.Rd w (some ⟨g, 0, none⟩) l) : Calls Tryz.prog 194 #[.slice (some ⟨g, 0, none⟩) l.length cap] w (NumsPost l w) := by
 obtain ⟨i0, hi, hz0, hz1, hz2⟩ := info_parts Memb.info2
 have hrd0 : Lst.Rd (w.alloc (.cells #[] 2)) (some ⟨g, 0, none⟩) l := by
   rcases hrd with h | ⟨b, hb, hc⟩
   · exact .inl h
   · injection hb with hb
     injection hb with hb
     subst hb
     exact .inr ⟨g, rfl, fun j hj => (World.cell?_alloc_lt w _ ⟨g, j, none⟩ hlt).trans (hc j hj)⟩
 have heq := eqlNil ⟨g, 0, none⟩ l.length cap
 go_enter Tryz.func194, Tryz.ntmps194
 go_wp2_with (at_builtin; refine wpList_append_own _ rfl _ _ 23 rfl w.heap.size 2 i0 (.int .i64 0) 1 8 Tryz.underlying23 hi hz0 hz1 hz2 rfl (by decide) _ 0 [] rfl (Memb.own_empty w) ⟨g, 0, none⟩ l.length cap (l.map (Value.int .i64)) rfl (by simp) (Rm.rd_nums hrd0 rfl) (Rm.nums_one l) ?c3 ?c4 ?c5 ?_)
 case c3 => unfold maxLen; omega
 case c4 => omega
 case c5 => simp
 intro v' w5 hown' hgrow hnil
 have HR : Hid (w5.ownsRow w.heap.size 2 1 v' l.length (l.map (Value.int .i64)) ∧ Below w.heap.size w w5) :=
   ⟨by simpa using hown', ((Below.refl w.heap.size w).alloc (Nat.le_refl _) _).grown hgrow (by simp) (fun i hi => by simp [Value.ownBlock] at hi; omega)⟩
 clear hown' hgrow hi hz0 hz1 hz2 hnil
 obtain ⟨ao, ca, hv, ho⟩ := Memb.own_shape HR.out.1
 subst hv
 go_wp2
 go_ret
 exact ⟨ao, ca, rfl, ho, HR.out.2⟩
theorem cloneNil (w : World) : Calls Tryz.prog 194 #[.slice none 0 0] w (NumsPost [] w) := by
 have heq := eqlNone
 go_enter Tryz.func194, Tryz.ntmps194
 go_wp2
 go_ret
 exact ⟨none, 0, rfl, ⟨rfl, .inl ⟨rfl, rfl⟩⟩, Below.refl _ _⟩
theorem clone {B : Nat} (ao : Option Addr) (ca : Nat) (l : List Int) (w : World) (hl : l.length ≤ 1048576) (ho : Memb.Own B w ao ca l) : Calls Tryz.prog 194 #[.slice ao l.length ca] w (NumsPost l w) := by
 have hrd := Lst.own_rd ho
 rcases ho.2 with ⟨e, e'⟩ | ⟨g, cap, cur, e, _⟩
 · injection e with e1 e2 e3
   subst e1 e3
   obtain rfl : l = [] := List.length_eq_zero_iff.1 e'
   exact cloneNil w
 · injection e with e1 e2 e3
   subst e1
   exact cloneS g ca l w hl (World.ownsRow.lt ho g rfl).2 hrd
theorem own_cap {B : Nat} {w : World} {a : Option Addr} {cap : Nat} {l : List Int} (h : Memb.Own B w a cap l) : l.length ≤ cap := by
 rcases h.2 with ⟨_, e⟩ | ⟨g, c, cur, e, _, _, hc, _⟩
 · omega
 · injection e with _ _ e; rw [e]; exact hc
def Rec (w : World) (rv : Value) (n : Nat) (u : Int) (l : List Int) : Prop :=
 (rv = .iface 97 (.agg #[]) ∧ n = 0 ∧ u = 0 ∧ l = []) ∨
 (∃ (t : TypeId) (x : Value) (ao : Option Addr) (c : Nat), rv = .iface 102 (.agg #[.iface t x, .int .i64 u, .slice ao l.length c]) ∧
   (∀ W : World, Calls Tryz.prog 191 #[.agg #[.iface t x, .int .i64 u, .slice ao l.length c]] W fun e w' => e = .returned (.int .i64 (n : Int)) ∧ Below W.heap.size W w') ∧
   Lst.Rd w ao l ∧ (∀ g, ao = some ⟨g, 0, none⟩ → g < w.heap.size))
def goB (L : List K) (C : List Int) (n : Nat) (u : Int) (l : List Int) (s : Int) : Bool := decide (n < 40) && (closedB L s && (decide (bits .andNot .i64 u s = 0) && beginsB (outL L C s) l))
def LoggedP (L : List K) (C : List Int) (rv : Value) (n : Nat) (u : Int) (l : List Int) (s : Int) (w : World) (e : Ending) (w' : World) : Prop :=
 ((goB L C n u l s = true ∧ ∃ ro rc, e = .returned (.tuple #[.iface 102 (.agg #[rv, .int .i64 s, .slice ro (outL L C s).length rc]), .bool true]) ∧ Memb.Own w.heap.size w' ro rc (outL L C s)) ∨
  (goB L C n u l s = false ∧ e = .returned (.tuple #[rv, .bool false]))) ∧ Below w.heap.size w w'
theorem go_no40 {L : List K} {C : List Int} {n : Nat} {u : Int} {l : List Int} {s : Int} (h : ¬ n < 40) : goB L C n u l s = false := by unfold goB; rw [decide_eq_false h]; rfl
theorem go_noC {L : List K} {C : List Int} {n : Nat} {u : Int} {l : List Int} {s : Int} (h : closedB L s = false) : goB L C n u l s = false := by unfold goB; rw [h]; simp
theorem go_noA {L : List K} {C : List Int} {n : Nat} {u : Int} {l : List Int} {s : Int} (h : (bits .andNot .i64 u s != 0) = true) : goB L C n u l s = false := by
 have : ¬ bits .andNot .i64 u s = 0 := by simpa using h
 unfold goB; rw [decide_eq_false this]; simp
theorem go_yes {L : List K} {C : List Int} {n : Nat} {u : Int} {l : List Int} {s : Int} (h : n < 40) (hc : closedB L s = true) (ha : (bits .andNot .i64 u s != 0) = false) : goB L C n u l s = beginsB (outL L C s) l := by
 have : bits .andNot .i64 u s = 0 := by simpa using ha
 unfold goB; rw [decide_eq_true h, hc, decide_eq_true this]; rfl
end Lo
end Go.Proofs.YtjnhniffgeepjaaGreat
namespace Go.Proofs.YtjnhniffgeepjaaGreat
open Go.RowKit Go.Shelf
set_option maxRecDepth 100000
set_option linter.unusedVariables false
attribute [local go_sem] Oper.semAt_some
namespace Lo
open Kn (K okK)
open Lc (at' RdK WordsOk laceB)
open Lg (At sameB)
open Sg (closedB NumsPost)
open Tl (outL beginsB)
set_option maxHeartbeats 3200000 in
theorem logged (g off cap : Nat) (L : List K) (C : List Int) (s : Int) (rv : Value) (n : Nat) (u : Int) (l : List Int) (w : World) (hlc : laceB L = true) (hc : Rm.coinsB C = true) (hg : g < w.heap.size) (hr : RdK w (some ⟨g, off, none⟩) L) (hs0 : -9223372036854775808 ≤ s) (hs1 : s ≤ 9223372036854775807) (hrec : Rec w rv n u l) (hl20 : l.length ≤ 1048576) :
   Calls Tryz.prog 45 #[.slice (some ⟨g, off, none⟩) L.length cap, .agg #[.int .i64 (Ch.leadI C 0), .int .i64 (Ch.leadI C 1), .int .i64 (Ch.leadI C 2), .int .i64 (Ch.leadI C 3), .int .i64 (Ch.leadI C 4), .int .i64 (Ch.leadI C 5), .int .i64 (Ch.leadI C 6)], rv, .int .i64 s] w (LoggedP L C rv n u l s w) := by
 have HB0 : Hid (Below w.heap.size w (w.alloc (.cells #[.int .i64 (Ch.leadI C 0), .int .i64 (Ch.leadI C 1), .int .i64 (Ch.leadI C 2), .int .i64 (Ch.leadI C 3), .int .i64 (Ch.leadI C 4), .int .i64 (Ch.leadI C 5), .int .i64 (Ch.leadI C 6)] 57))) := (Below.refl _ _).alloc (Nat.le_refl _) _
 have HRW : Hid (Db.RowI (w.alloc (.cells #[.int .i64 (Ch.leadI C 0), .int .i64 (Ch.leadI C 1), .int .i64 (Ch.leadI C 2), .int .i64 (Ch.leadI C 3), .int .i64 (Ch.leadI C 4), .int .i64 (Ch.leadI C 5), .int .i64 (Ch.leadI C 6)] 57)) w.heap.size 7 (fun i => Ch.leadI C (i : Int))) := Ch.rowI_seven w 57 (fun i => Ch.leadI C (i : Int))
 have HCL : Hid (∀ W : World, Below w.heap.size w W → Calls Tryz.prog 30 #[.slice (some ⟨g, off, none⟩) L.length cap, .int .i64 s] W fun e w' => e = .returned (.bool (closedB L s)) ∧ Below W.heap.size W w') := fun W hW => by
   have := Sg.closed g off cap L s W hlc hs0 hs1 (Nat.lt_of_lt_of_le hg hW.size) (hr.below hW)
   rwa [Sg.closedB_eq L s hlc] at this
 have HOU : Hid (closedB L s = true → ∀ W : World, Below w.heap.size w W → Calls Tryz.prog 31 #[.slice (some ⟨g, off, none⟩) L.length cap, .agg #[.int .i64 (Ch.leadI C 0), .int .i64 (Ch.leadI C 1), .int .i64 (Ch.leadI C 2), .int .i64 (Ch.leadI C 3), .int .i64 (Ch.leadI C 4), .int .i64 (Ch.leadI C 5), .int .i64 (Ch.leadI C 6)], .int .i64 s] W (NumsPost (outL L C s) W)) := fun hq W hW => Tp.out g off cap L C s W hlc hc hq (Nat.lt_of_lt_of_le hg hW.size) (hr.below hW)
 have HOL : Hid (closedB L s = true → (outL L C s).length ≤ 3660) := fun hq => Lg.out_len hq hc
 generalize hv : w.alloc (.cells #[.int .i64 (Ch.leadI C 0), .int .i64 (Ch.leadI C 1), .int .i64 (Ch.leadI C 2), .int .i64 (Ch.leadI C 3), .int .i64 (Ch.leadI C 4), .int .i64 (Ch.leadI C 5), .int .i64 (Ch.leadI C 6)] 57) = V at HB0 HRW
 have HV : Hid (w.alloc (.cells #[.int .i64 (Ch.leadI C 0), .int .i64 (Ch.leadI C 1), .int .i64 (Ch.leadI C 2), .int .i64 (Ch.leadI C 3), .int .i64 (Ch.leadI C 4), .int .i64 (Ch.leadI C 5), .int .i64 (Ch.leadI C 6)] 57) = V) := hv
 have HRV : Hid (Rec V rv n u l) := by
   rcases hrec with h | ⟨t, x, ao, c, h1, h2, h3, h4⟩
   · exact .inl h
   · exact .inr ⟨t, x, ao, c, h1, h2, Ch.rd_below h3 h4 HB0.out, fun g e => Nat.lt_of_lt_of_le (h4 g e) HB0.out.size⟩
 clear hv hlc hc hg hr hrec
 obtain ⟨q, hq⟩ : ∃ q : Int, q = (n : Int) := ⟨_, rfl⟩
 have HSH : Hid (∃ (fp fs : Nat) (x : Value) (t : TypeId), rv = .iface t x) := by
   rcases HRV.out with ⟨e, _⟩ | ⟨t, x, ao, c, e, _⟩
   · exact ⟨0, 0, _, _, e⟩
   · exact ⟨0, 0, _, _, e⟩
 rcases HRV.out with ⟨rfl, e1, e2, e3⟩ | ⟨t, x, ao, c, rfl, h2, h3, h4⟩
 · have HPG : Hid (∀ W : World, Calls Tryz.prog 188 #[.agg #[]] W fun e w' => e = .returned (.int .i64 q) ∧ Below W.heap.size W w') := fun W => by
     have := pages0 W
     rw [hq, e1]; exact this
   have HSN : Hid (∀ W : World, Calls Tryz.prog 189 #[.agg #[]] W fun e w' => e = .returned (.int .i64 u) ∧ Below W.heap.size W w') := fun W => by
     have := seen0 W
     rw [e2]; exact this
   have HLT : Hid (∀ W : World, Below V.heap.size V W → Calls Tryz.prog 65 #[.iface 97 (.agg #[])] W (LastPost l W)) := fun W _ => by rw [e3]; exact last0 W
   clear e1 e2 e3 HRV HSH
   go_enter Tryz.func45, Tryz.ntmps45
   by_cases h40 : n < 40
   · have hq40 : ¬ (40 : Int) ≤ q := by omega
     cases hcl : closedB L s
     · have HT : Hid (goB L C n u l s = false) := go_noC hcl
       have hcall := HCL.out
       rw [hcl] at hcall
       have HC2 : Hid (_) := hcall
       clear hcall hcl HCL HOU HOL HLT HSN
       go_wp2_with fail
       rw [HV.out]
       clear HV
       go_wp2_with fail
       refine (HPG.out _).mono ?_
       rintro e w1 ⟨rfl, hb1⟩
       have HB1 : Hid (Below w.heap.size w w1) := HB0.out.trans (hb1.mono HB0.out.size)
       clear hb1
       go_wp2_with fail
       refine (HC2.out _ HB1.out).mono ?_
       rintro e w2 ⟨rfl, hb2⟩
       have HB2 : Hid (Below w.heap.size w w2) := HB1.out.trans (hb2.mono HB1.out.size)
       clear hb2
       go_wp2
       refine bodyPost_ret (v := .tuple #[.iface 97 (.agg #[]), .bool false]) (by simp [results, Tryz.f45, go_sem]) rfl ?_
       exact ⟨.inr ⟨HT.out, rfl⟩, HB2.out⟩
     · have HCD : Hid (closedB L s = true) := hcl
       have HOU2 : Hid (_) := HOU.out hcl
       have HOL2 : Hid (_) := HOL.out hcl
       have hcall := HCL.out
       rw [hcl] at hcall
       have HC2 : Hid (_) := hcall
       clear hcall hcl HCL HOU HOL
       go_wp2_with fail
       rw [HV.out]
       clear HV
       go_wp2_with fail
       refine (HPG.out _).mono ?_
       rintro e w1 ⟨rfl, hb1⟩
       have HB1 : Hid (Below V.heap.size V w1) := hb1
       clear hb1
       go_wp2_with fail
       refine (HC2.out _ (HB0.out.trans (HB1.out.mono HB0.out.size))).mono ?_
       rintro e w2 ⟨rfl, hb2⟩
       have HB2 : Hid (Below V.heap.size V w2) := HB1.out.trans (hb2.mono HB1.out.size)
       clear hb2
       cases han : (bits .andNot .i64 u s != 0)
       · go_wp2_with fail
         refine (HSN.out _).mono ?_
         rintro e w3 ⟨rfl, hb3⟩
         have HB3 : Hid (Below V.heap.size V w3) := HB2.out.trans (hb3.mono HB2.out.size)
         have hR3 := Fw.rowI_kept HRW.out HB3.out
         have HG : Hid (goB L C n u l s = beginsB (outL L C s) l) := go_yes h40 HCD.out han
         have p0 := hR3.rd 0 (by omega)
         have p1 := hR3.rd 1 (by omega)
         have p2 := hR3.rd 2 (by omega)
         have p3 := hR3.rd 3 (by omega)
         have p4 := hR3.rd 4 (by omega)
         have p5 := hR3.rd 5 (by omega)
         have p6 := hR3.rd 6 (by omega)
         have HRW3 : Hid _ := hR3
         have hou := HOU2.out w3 (HB0.out.trans (HB3.out.mono HB0.out.size))
         clear hb3 hR3 HOU2
         go_wp2_with fail
         refine hou.mono ?_
         rintro e w4 ⟨ro, rc, rfl, ho4, hb4⟩
         have HO4 : Hid _ := ho4
         have HB4 : Hid (Below V.heap.size V w4) := HB3.out.trans (hb4.mono HB3.out.size)
         have hlt := HLT.out w4 HB4.out
         clear hou ho4 hb4 p0 p1 p2 p3 p4 p5 p6
         go_wp2_with fail
         refine hlt.mono ?_
         rintro e w5 ⟨lo, lc, rfl, hl5, hb5⟩
         have HO5 : Hid _ := Lst.own_below HO4.out hb5
         have HB5 : Hid (Below V.heap.size V w5) := HB4.out.trans (hb5.mono HB4.out.size)
         have hbw := Tp.implBegins ro rc (outL L C s) lo lc l w5 (own_cap HO4.out) (by have := HOL2.out; omega) hl20 (Lst.own_rd HO5.out) hl5
         generalize beginsB (outL L C s) l = bb at HG hbw
         clear hlt hb5 hl5 HLT
         go_wp2_with fail
         refine hbw.mono ?_
         rintro e w6 ⟨rfl, hb6⟩
         have HO6 : Hid (Memb.Own w.heap.size w6 ro rc (outL L C s)) := Ch.own_base (Lst.own_below HO5.out hb6) (Nat.le_trans HB0.out.size HB3.out.size)
         have HB6 : Hid (Below w.heap.size w w6) := HB0.out.trans ((HB5.out.trans (hb6.mono HB5.out.size)).mono HB0.out.size)
         clear hbw hb6 HO4 HO5
         cases bb
         · go_wp2
           refine bodyPost_ret (v := .tuple #[.iface 97 (.agg #[]), .bool false]) (by simp [results, Tryz.f45, go_sem]) rfl ?_
           exact ⟨.inr ⟨HG.out, rfl⟩, HB6.out⟩
         · go_wp2
           refine bodyPost_ret (v := .tuple #[.iface 102 (.agg #[.iface 97 (.agg #[]), .int .i64 s, .slice ro (outL L C s).length rc]), .bool true]) (by simp [results, Tryz.f45, go_sem]) rfl ?_
           exact ⟨.inl ⟨HG.out, ro, rc, rfl, HO6.out⟩, HB6.out⟩
       · have HT : Hid (goB L C n u l s = false) := go_noA han
         go_wp2_with fail
         refine (HSN.out _).mono ?_
         rintro e w3 ⟨rfl, hb3⟩
         have HB3 : Hid (Below w.heap.size w w3) := HB0.out.trans ((HB2.out.trans (hb3.mono HB2.out.size)).mono HB0.out.size)
         clear hb3
         go_wp2
         refine bodyPost_ret (v := .tuple #[.iface 97 (.agg #[]), .bool false]) (by simp [results, Tryz.f45, go_sem]) rfl ?_
         exact ⟨.inr ⟨HT.out, rfl⟩, HB3.out⟩
   · have hq40 : (40 : Int) ≤ q := by omega
     have HT : Hid (goB L C n u l s = false) := go_no40 h40
     clear HCL HOU HOL HLT HSN
     go_wp2_with fail
     rw [HV.out]
     clear HV
     go_wp2_with fail
     refine (HPG.out _).mono ?_
     rintro e w1 ⟨rfl, hb1⟩
     have HB1 : Hid (Below w.heap.size w w1) := HB0.out.trans (hb1.mono HB0.out.size)
     clear hb1
     go_wp2
     refine bodyPost_ret (v := .tuple #[.iface 97 (.agg #[]), .bool false]) (by simp [results, Tryz.f45, go_sem]) rfl ?_
     exact ⟨.inr ⟨HT.out, rfl⟩, HB1.out⟩
 · have HPG : Hid (∀ W : World, Calls Tryz.prog 191 #[.agg #[.iface t x, .int .i64 u, .slice ao l.length c]] W fun e w' => e = .returned (.int .i64 q) ∧ Below W.heap.size W w') := fun W => by
     have := h2 W
     rw [hq]; exact this
   have HSN : Hid (∀ W : World, Calls Tryz.prog 192 #[.agg #[.iface t x, .int .i64 u, .slice ao l.length c]] W fun e w' => e = .returned (.int .i64 u) ∧ Below W.heap.size W w') := fun W => seen1 t x u ao l.length c W
   have HLT : Hid (∀ W : World, Below V.heap.size V W → Calls Tryz.prog 65 #[.iface 102 (.agg #[.iface t x, .int .i64 u, .slice ao l.length c])] W (LastPost l W)) := fun W hW => last1 t x u ao l c W (Ch.rd_below h3 h4 hW) (fun g e => Nat.lt_of_lt_of_le (h4 g e) hW.size)
   clear h2 h3 h4 HRV HSH
   go_enter Tryz.func45, Tryz.ntmps45
   by_cases h40 : n < 40
   · have hq40 : ¬ (40 : Int) ≤ q := by omega
     cases hcl : closedB L s
     · have HT : Hid (goB L C n u l s = false) := go_noC hcl
       have hcall := HCL.out
       rw [hcl] at hcall
       have HC2 : Hid (_) := hcall
       clear hcall hcl HCL HOU HOL HLT HSN
       go_wp2_with fail
       rw [HV.out]
       clear HV
       go_wp2_with fail
       refine (HPG.out _).mono ?_
       rintro e w1 ⟨rfl, hb1⟩
       have HB1 : Hid (Below w.heap.size w w1) := HB0.out.trans (hb1.mono HB0.out.size)
       clear hb1
       go_wp2_with fail
       refine (HC2.out _ HB1.out).mono ?_
       rintro e w2 ⟨rfl, hb2⟩
       have HB2 : Hid (Below w.heap.size w w2) := HB1.out.trans (hb2.mono HB1.out.size)
       clear hb2
       go_wp2
       refine bodyPost_ret (v := .tuple #[.iface 102 (.agg #[.iface t x, .int .i64 u, .slice ao l.length c]), .bool false]) (by simp [results, Tryz.f45, go_sem]) rfl ?_
       exact ⟨.inr ⟨HT.out, rfl⟩, HB2.out⟩
     · have HCD : Hid (closedB L s = true) := hcl
       have HOU2 : Hid (_) := HOU.out hcl
       have HOL2 : Hid (_) := HOL.out hcl
       have hcall := HCL.out
       rw [hcl] at hcall
       have HC2 : Hid (_) := hcall
       clear hcall hcl HCL HOU HOL
       go_wp2_with fail
       rw [HV.out]
       clear HV
       go_wp2_with fail
       refine (HPG.out _).mono ?_
       rintro e w1 ⟨rfl, hb1⟩
       have HB1 : Hid (Below V.heap.size V w1) := hb1
       clear hb1
       go_wp2_with fail
       refine (HC2.out _ (HB0.out.trans (HB1.out.mono HB0.out.size))).mono ?_
       rintro e w2 ⟨rfl, hb2⟩
       have HB2 : Hid (Below V.heap.size V w2) := HB1.out.trans (hb2.mono HB1.out.size)
       clear hb2
       cases han : (bits .andNot .i64 u s != 0)
       · go_wp2_with fail
         refine (HSN.out _).mono ?_
         rintro e w3 ⟨rfl, hb3⟩
         have HB3 : Hid (Below V.heap.size V w3) := HB2.out.trans (hb3.mono HB2.out.size)
         have hR3 := Fw.rowI_kept HRW.out HB3.out
         have HG : Hid (goB L C n u l s = beginsB (outL L C s) l) := go_yes h40 HCD.out han
         have p0 := hR3.rd 0 (by omega)
         have p1 := hR3.rd 1 (by omega)
         have p2 := hR3.rd 2 (by omega)
         have p3 := hR3.rd 3 (by omega)
         have p4 := hR3.rd 4 (by omega)
         have p5 := hR3.rd 5 (by omega)
         have p6 := hR3.rd 6 (by omega)
         have HRW3 : Hid _ := hR3
         have hou := HOU2.out w3 (HB0.out.trans (HB3.out.mono HB0.out.size))
         clear hb3 hR3 HOU2
         go_wp2_with fail
         refine hou.mono ?_
         rintro e w4 ⟨ro, rc, rfl, ho4, hb4⟩
         have HO4 : Hid _ := ho4
         have HB4 : Hid (Below V.heap.size V w4) := HB3.out.trans (hb4.mono HB3.out.size)
         have hlt := HLT.out w4 HB4.out
         clear hou ho4 hb4 p0 p1 p2 p3 p4 p5 p6
         go_wp2_with fail
         refine hlt.mono ?_
         rintro e w5 ⟨lo, lc, rfl, hl5, hb5⟩
         have HO5 : Hid _ := Lst.own_below HO4.out hb5
         have HB5 : Hid (Below V.heap.size V w5) := HB4.out.trans (hb5.mono HB4.out.size)
         have hbw := Tp.implBegins ro rc (outL L C s) lo lc l w5 (own_cap HO4.out) (by have := HOL2.out; omega) hl20 (Lst.own_rd HO5.out) hl5
         generalize beginsB (outL L C s) l = bb at HG hbw
         clear hlt hb5 hl5 HLT
         go_wp2_with fail
         refine hbw.mono ?_
         rintro e w6 ⟨rfl, hb6⟩
         have HO6 : Hid (Memb.Own w.heap.size w6 ro rc (outL L C s)) := Ch.own_base (Lst.own_below HO5.out hb6) (Nat.le_trans HB0.out.size HB3.out.size)
         have HB6 : Hid (Below w.heap.size w w6) := HB0.out.trans ((HB5.out.trans (hb6.mono HB5.out.size)).mono HB0.out.size)
         clear hbw hb6 HO4 HO5
         cases bb
         · go_wp2
           refine bodyPost_ret (v := .tuple #[.iface 102 (.agg #[.iface t x, .int .i64 u, .slice ao l.length c]), .bool false]) (by simp [results, Tryz.f45, go_sem]) rfl ?_
           exact ⟨.inr ⟨HG.out, rfl⟩, HB6.out⟩
         · go_wp2
           refine bodyPost_ret (v := .tuple #[.iface 102 (.agg #[.iface 102 (.agg #[.iface t x, .int .i64 u, .slice ao l.length c]), .int .i64 s, .slice ro (outL L C s).length rc]), .bool true]) (by simp [results, Tryz.f45, go_sem]) rfl ?_
           exact ⟨.inl ⟨HG.out, ro, rc, rfl, HO6.out⟩, HB6.out⟩
       · have HT : Hid (goB L C n u l s = false) := go_noA han
         go_wp2_with fail
         refine (HSN.out _).mono ?_
         rintro e w3 ⟨rfl, hb3⟩
         have HB3 : Hid (Below w.heap.size w w3) := HB0.out.trans ((HB2.out.trans (hb3.mono HB2.out.size)).mono HB0.out.size)
         clear hb3
         go_wp2
         refine bodyPost_ret (v := .tuple #[.iface 102 (.agg #[.iface t x, .int .i64 u, .slice ao l.length c]), .bool false]) (by simp [results, Tryz.f45, go_sem]) rfl ?_
         exact ⟨.inr ⟨HT.out, rfl⟩, HB3.out⟩
   · have hq40 : (40 : Int) ≤ q := by omega
     have HT : Hid (goB L C n u l s = false) := go_no40 h40
     clear HCL HOU HOL HLT HSN
     go_wp2_with fail
     rw [HV.out]
     clear HV
     go_wp2_with fail
     refine (HPG.out _).mono ?_
     rintro e w1 ⟨rfl, hb1⟩
     have HB1 : Hid (Below w.heap.size w w1) := HB0.out.trans (hb1.mono HB0.out.size)
     clear hb1
     go_wp2
     refine bodyPost_ret (v := .tuple #[.iface 102 (.agg #[.iface t x, .int .i64 u, .slice ao l.length c]), .bool false]) (by simp [results, Tryz.f45, go_sem]) rfl ?_
     exact ⟨.inr ⟨HT.out, rfl⟩, HB1.out⟩
end Lo
end Go.Proofs.YtjnhniffgeepjaaGreat
namespace Go.Proofs.YtjnhniffgeepjaaGreat
open Go.RowKit Go.Shelf
set_option maxRecDepth 100000
set_option linter.unusedVariables false
namespace Lo
open Kn (K okK)
open Lc (at' RdK WordsOk laceB)
open Lg (At sameB stepB logB RdL put seen_at seen_cell told_at told_cell)
open Sg (closedB NumsPost)
open Tl (outL beginsB)
theorem same_eq {A D : List Int} (h : sameB A D = true) : A = D := by
 unfold sameB at h
 rw [Bool.and_eq_true] at h
 have hl := of_decide_eq_true h.1
 have hb := h.2
 unfold beginsB at hb
 rw [Bool.and_eq_true, List.all_eq_true] at hb
 apply List.ext_getElem hl
 intro i h1 h2
 have := hb.2 i (by simpa using h2)
 simpa [List.getD, List.getElem?_eq_getElem h1, List.getElem?_eq_getElem h2] using this
theorem begins_self (A : List Int) : beginsB A A = true := by unfold beginsB; simp
theorem begins_nil (A : List Int) : beginsB A [] = true := by unfold beginsB; simp
theorem same_self (A : List Int) : sameB A A = true := by unfold sameB; rw [begins_self]; simp
theorem andNot_nil (s : Int) : bits .andNot .i64 0 s = 0 := by simp [bits, IntKind.wrap_i64]
def lastS (S : List Int) (n : Nat) : Int := if n = 0 then 0 else S.getD (n - 1) 0
def lastL (T : List (List Int)) (n : Nat) : List Int := if n = 0 then [] else T.getD (n - 1) []
theorem rec_yes {L : List K} {C S : List Int} {T : List (List Int)} (i : Nat) (hg : goB L C i (lastS S i) (lastL T i) (S.getD i 0) = true) (hs : sameB (outL L C (S.getD i 0)) (T.getD i []) = true) : i < 40 ∧ stepB L C S T i = true ∧ T.getD i [] = outL L C (S.getD i 0) := by
 have e := same_eq hs
 unfold goB at hg
 simp only [Bool.and_eq_true, decide_eq_true_eq] at hg
 obtain ⟨h1, h2, h3, h4⟩ := hg
 refine ⟨h1, ?_, e.symm⟩
 unfold stepB
 rw [h2, ← e, same_self]
 by_cases h0 : i = 0
 · rw [decide_eq_true h0]; rfl
 · unfold lastS lastL at *
   rw [if_neg h0] at h3 h4
   rw [h4, decide_eq_true h3]; simp
theorem rec_no {L : List K} {C S : List Int} {T : List (List Int)} (i : Nat) (hi : i < S.length) (h : goB L C i (lastS S i) (lastL T i) (S.getD i 0) = false ∨ sameB (outL L C (S.getD i 0)) (T.getD i []) = false) : logB L C S T = false := by
 rw [Bool.eq_false_iff]
 intro hb
 obtain ⟨h40, hT, hl, hc, hst⟩ := Lg.log_parts hb
 have st := hst i hi
 unfold stepB at st
 rw [Bool.and_eq_true, Bool.and_eq_true] at st
 have e := same_eq st.2
 rcases h with h | h
 · have : goB L C i (lastS S i) (lastL T i) (S.getD i 0) = true := by
     unfold goB
     rw [decide_eq_true (by omega), st.1.1]
     by_cases h0 : i = 0
     · unfold lastS lastL
       rw [if_pos h0, if_pos h0, andNot_nil, begins_nil]; rfl
     · have h2 := st.1.2
       rw [decide_eq_false h0, Bool.false_or, Bool.and_eq_true] at h2
       unfold lastS lastL
       rw [if_neg h0, if_neg h0, ← e, h2.1, h2.2]; rfl
   rw [this] at h; cases h
 · rw [← e, same_self] at h; cases h
structure Pg (B : Nat) (W : World) (n : Nat) (T : List (List Int)) (h : At) : Prop where
 each : ∀ j, j < n → Memb.Own B W (h j).1 (h j).2 (T.getD j [])
 row : ∀ j, j < n → (T.getD j []).length ≤ 3660
theorem Pg.below {B : Nat} {W W' : World} {n : Nat} {T : List (List Int)} {h : At} (p : Pg B W n T h) (hb : Below W.heap.size W W') : Pg B W' n T h := ⟨fun j hj => Lst.own_below (p.each j hj) hb, p.row⟩
theorem Pg.snoc {B : Nat} {W : World} {i : Nat} {T : List (List Int)} {h : At} {ro : Option Addr} {rc : Nat} (p : Pg B W i T h) (ho : Memb.Own B W ro rc (T.getD i [])) (hl : (T.getD i []).length ≤ 3660) : Pg B W (i + 1) T (put h i (ro, rc)) := by
 refine ⟨fun j hj => ?_, fun j hj => ?_⟩
 · unfold put
   by_cases e : j = i
   · subst e; rw [if_pos rfl]; exact ho
   · rw [if_neg e]; exact p.each j (by omega)
 · by_cases e : j = i
   · subst e; exact hl
   · exact p.row j (by omega)
theorem recV_put (h : At) (S : List Int) (T : List (List Int)) (i : Nat) (a : Option Addr × Nat) : recV (put h i a) S T (i + 1) = .iface 102 (.agg #[recV h S T i, .int .i64 (S.getD i 0), .slice a.1 (T.getD i []).length a.2]) := by
 rw [recV_succ, recV_congr (h' := h) (S' := S) (T' := T) i (fun j hj => ⟨by unfold put; rw [if_neg (by omega)], rfl, rfl⟩)]
 unfold put
 rw [if_pos rfl]
theorem own_at {B : Nat} {w : World} {a : Option Addr} {cap : Nat} {l : List Int} (h : Memb.Own B w a cap l) : ∀ g, a = some ⟨g, 0, none⟩ → g < w.heap.size := fun g e => by subst e; exact (World.ownsRow.lt h g rfl).2
theorem rec_of {B : Nat} {W : World} {n : Nat} {S : List Int} {T : List (List Int)} {h : At} (p : Pg B W n T h) (hn : n ≤ 1048576) : Rec W (recV h S T n) n (lastS S n) (lastL T n) := by
 cases n with
 | zero => exact .inl ⟨rfl, rfl, rfl, rfl⟩
 | succ m =>
   obtain ⟨t, x, e⟩ := recV_if h S T m
   have hp := pages1 h S T m (by omega) (S.getD m 0) (h m).1 (T.getD m []).length (h m).2
   rw [e] at hp
   refine .inr ⟨t, x, (h m).1, (h m).2, ?_, fun W => ?_, Lst.own_rd (p.each m (by omega)), own_at (p.each m (by omega))⟩
   · rw [recV_succ, e]; rfl
   · have := hp W
     simpa [lastS, lastL] using this
theorem lastL_len {B : Nat} {W : World} {n : Nat} {T : List (List Int)} {h : At} (p : Pg B W n T h) : (lastL T n).length ≤ 1048576 := by
 unfold lastL
 by_cases e : n = 0
 · rw [if_pos e]; simp
 · rw [if_neg e]; have := p.row (n - 1) (by omega); omega
theorem last1x (t : TypeId) (x : Value) (s : Int) (ao : Option Addr) (n c : Nat) (W : World) : Calls Tryz.prog 65 #[.iface 102 (.agg #[.iface t x, .int .i64 s, .slice ao n c])] W fun e w' => e = .returned (.slice ao n c) ∧ Below W.heap.size W w' := by
 have hl := hasT
 go_enter Tryz.func65, Tryz.ntmps65
 go_wp2_with fail
 refine (told1 t x s ao n c _).mono ?_
 rintro e w1 ⟨rfl, hb1⟩
 have HB : Hid _ := hb1
 clear hb1
 go_wp2
 go_ret
 exact ⟨rfl, HB.out⟩
def RecP (L : List K) (C S : List Int) (T : List (List Int)) (w : World) (e : Ending) (w' : World) : Prop :=
 ((logB L C S T = true ∧ ∃ h, e = .returned (.tuple #[recV h S T S.length, .bool true]) ∧ Pg w.heap.size w' S.length T h) ∨ (logB L C S T = false ∧ ∃ v, e = .returned (.tuple #[v, .bool false]))) ∧ Below w.heap.size w w'
end Lo
end Go.Proofs.YtjnhniffgeepjaaGreat
