/-
  What the program's own Ordered, FreshOf and Respects answer, in the words of TaleS and RespS; for lists of knots whose words have at most 2^40 bytes.
  What the program's compare answers: by rounds, then by hands, then by numbers.
  Plain mathematics: what is put in order by rounds, then by hands, then by numbers is the model's order. No program in it.
  What the program's compare answers of two knots of a lace.
  What the program's picked, its generic row's sorted and a lace's ordered answer: the members in order.
  What the model answers for Respects: each one is a knot, none is told twice, none stands ahead of one that it sees.
-/
import Derived.Test.YtodgkhlnefggdaaGreatZSb
import Derived.Test.YtodgkhlnefggdaaGreatLaceR
import Derived.Test.YtodgkhlnefggdaaGreatLaceM
import Derived.Deep.RegionHeld3
import Derived.Test.YtodgkhlnefggdaaGreatZTa
import Derived.Test.YtodgkhlnefggdaaGreatRoomC
import Derived.Test.YtodgkhlnefggdaaGreatSightT
import Derived.Test.YtodgkhlnefggdaaGreatDoubS
import Derived.Test.YtodgkhlnefggdaaGreatNodX
import Derived.Test.YtodgkhlnefggdaaGreatAskX
import Derived.Test.YtodgkhlnefggdaaGreatZTb
namespace Go.Proofs.YtodgkhlnefggdaaGreat
open Go.RowKit
set_option maxRecDepth 100000
set_option linter.unusedVariables false
namespace So
open Kn (K okK)
open Lc (at' RdK)

/-- which of two numbers comes first -/
def cmI (x y : Int) : Int := if x < y then -1 else if y < x then 1 else 0
theorem cmI_neg (x y : Int) : cmI x y < 0 ↔ x < y := by
  unfold cmI
  by_cases h1 : x < y
  · simp [h1]
  · by_cases h2 : y < x
    · simp [h1, h2]
    · simp [h1, h2]
theorem cmI_zero (x y : Int) : cmI x y = 0 ↔ x = y := by
  unfold cmI
  by_cases h1 : x < y
  · rw [if_pos h1]; omega
  · by_cases h2 : y < x
    · rw [if_neg h1, if_pos h2]; omega
    · rw [if_neg h1, if_neg h2]; omega
theorem isNaN (x : Int) (w : World) : Calls Tryz.prog 125 #[.int .i64 x] w fun e w' => e = .returned (.bool false) ∧ w = w' := by
  go_enter Tryz.func125, Tryz.ntmps125
  go_wp2
  go_ret
  exact ⟨by simp, rfl⟩
theorem isNaNH (x : Int) (w : World) : Calls Tryz.prog 126 #[.int .i64 x] w fun e w' => e = .returned (.bool false) ∧ w = w' := by
  go_enter Tryz.func126, Tryz.ntmps126
  go_wp2
  go_ret
  exact ⟨by simp, rfl⟩

set_option maxHeartbeats 1600000 in
theorem compareI (x y : Int) (w : World) : Calls Tryz.prog 107 #[.int .i64 x, .int .i64 y] w fun e w' => e = .returned (.int .i64 (cmI x y)) ∧ w = w' := by
  go_enter Tryz.func107, Tryz.ntmps107
  by_cases h1 : x < y
  · have HE : Hid (cmI x y = -1) := by show _ = _; unfold cmI; rw [if_pos h1]
    go_wp2_with (first | (go_at_call 125; refine (isNaN _ _).mono ?_; rintro e w' ⟨rfl, rfl⟩))
    go_ret
    exact ⟨by rw [HE.out]; rfl, rfl⟩
  · by_cases h2 : y < x
    · have HE : Hid (cmI x y = 1) := by show _ = _; unfold cmI; rw [if_neg h1, if_pos h2]
      go_wp2_with (first | (go_at_call 125; refine (isNaN _ _).mono ?_; rintro e w' ⟨rfl, rfl⟩))
      go_ret
      exact ⟨by rw [HE.out]; rfl, rfl⟩
    · have HE : Hid (cmI x y = 0) := by show _ = _; unfold cmI; rw [if_neg h1, if_neg h2]
      go_wp2_with (first | (go_at_call 125; refine (isNaN _ _).mono ?_; rintro e w' ⟨rfl, rfl⟩))
      go_ret
      exact ⟨by rw [HE.out]; rfl, rfl⟩
set_option maxHeartbeats 1600000 in
theorem compareH (x y : Int) (w : World) : Calls Tryz.prog 108 #[.int .i64 x, .int .i64 y] w fun e w' => e = .returned (.int .i64 (cmI x y)) ∧ w = w' := by
  go_enter Tryz.func108, Tryz.ntmps108
  by_cases h1 : x < y
  · have HE : Hid (cmI x y = -1) := by show _ = _; unfold cmI; rw [if_pos h1]
    go_wp2_with (first | (go_at_call 126; refine (isNaNH _ _).mono ?_; rintro e w' ⟨rfl, rfl⟩))
    go_ret
    exact ⟨by rw [HE.out]; rfl, rfl⟩
  · by_cases h2 : y < x
    · have HE : Hid (cmI x y = 1) := by show _ = _; unfold cmI; rw [if_neg h1, if_pos h2]
      go_wp2_with (first | (go_at_call 126; refine (isNaNH _ _).mono ?_; rintro e w' ⟨rfl, rfl⟩))
      go_ret
      exact ⟨by rw [HE.out]; rfl, rfl⟩
    · have HE : Hid (cmI x y = 0) := by show _ = _; unfold cmI; rw [if_neg h1, if_neg h2]
      go_wp2_with (first | (go_at_call 126; refine (isNaNH _ _).mono ?_; rintro e w' ⟨rfl, rfl⟩))
      go_ret
      exact ⟨by rw [HE.out]; rfl, rfl⟩

/-- the first of three that isn't zero -/
def or3 (x y z : Int) : Int := if x ≠ 0 then x else if y ≠ 0 then y else z
set_option maxHeartbeats 1600000 in
theorem orC (vb cap : Nat) (x y z : Int) (w : World) (hx : w.cell? ⟨vb, 0, none⟩ = some (.int .i64 x)) (hy : w.cell? ⟨vb, 1, none⟩ = some (.int .i64 y)) (hz : w.cell? ⟨vb, 2, none⟩ = some (.int .i64 z)) :
    Calls Tryz.prog 106 #[.slice (some ⟨vb, 0, none⟩) 3 cap] w fun e w' => e = .returned (.int .i64 (or3 x y z)) ∧ w = w' := by
  obtain ⟨f, hf⟩ : ∃ f : Nat → Int, f = fun i => if i = 0 then x else if i = 1 then y else z := ⟨_, rfl⟩
  have HC : Hid (∀ i, i < 3 → w.cell? ⟨vb, i, none⟩ = some (.int .i64 (f i))) := fun i hi => by
    rcases (show i = 0 ∨ i = 1 ∨ i = 2 by omega) with e | e | e <;> subst e <;> simp [hf, hx, hy, hz]
  have HO : Hid (∀ i, i ≤ 3 → (∀ j, j < i → f j = 0) → (∀ k, i = k → k < 3 → f k ≠ 0 → or3 x y z = f k) ∧ (i = 3 → or3 x y z = 0)) := fun i hi h0 => by
    have a0 : 0 < i → x = 0 := fun q => by have := h0 0 q; simpa [hf] using this
    have a1 : 1 < i → y = 0 := fun q => by have := h0 1 q; simpa [hf] using this
    have a2 : 2 < i → z = 0 := fun q => by have := h0 2 q; simpa [hf] using this
    refine ⟨fun k e hk hne => ?_, fun e => ?_⟩
    · subst e
      rcases (show i = 0 ∨ i = 1 ∨ i = 2 by omega) with e | e | e <;> subst e <;> simp [hf] at hne ⊢ <;> unfold or3
      · simp [hne]
      · simp [a0 (by omega), hne]
      · simp [a0 (by omega), a1 (by omega)]
    · subst e
      unfold or3; simp [a0 (by omega), a1 (by omega), a2 (by omega)]
  clear hf hx hy hz
  generalize or3 x y z = r at HO
  go_enter Tryz.func106, Tryz.ntmps106
  go_wp2
  go_loop [8] (fun iv => ∃ i : Nat, i ≤ 3 ∧ iv = .int .i64 i ∧ Hid (∀ j, j < i → f j = 0)) (fun iv => 3 - (intOf iv).toNat)
  case atStart => exact ⟨0, by omega, rfl, fun j hj => absurd hj (by omega)⟩
  case round =>
    obtain ⟨i, hi, rfl, HZ⟩ := hrel
    by_cases h3 : i < 3
    · have h3' : (i : Int) < 3 := by omega
      have ci := HC.out i h3
      have HR : Hid (f i ≠ 0 → r = f i) := fun hne => (HO.out i hi HZ.out).1 i rfl h3 hne
      have HZ2 : Hid (f i = 0 → ∀ j, j < i + 1 → f j = 0) := fun h0 j hj => by
        by_cases e : j = i
        · subst e; exact h0
        · exact HZ.out j (by omega)
      generalize f i = v at ci HR HZ2
      by_cases hv : v = 0
      · subst hv
        have HZ3 : Hid (∀ j, j < i + 1 → f j = 0) := HZ2.out rfl
        clear HZ HZ2 HR
        go_wp2
        go_round
        case rel => exact ⟨i + 1, by omega, by go_num, HZ3⟩
        case measure => simp [intOf]; omega
      · have HE : Hid (r = v) := HR.out hv
        clear HZ HZ2 HR
        go_wp2
        go_ret
        exact ⟨by rw [HE.out]; rfl, rfl⟩
    · obtain rfl : i = 3 := by omega
      have HE : Hid (r = 0) := (HO.out 3 hi HZ.out).2 rfl
      clear HZ
      rw [show ((3 : Nat) : Int) = 3 from rfl]
      go_wp2
      go_ret
      exact ⟨by rw [HE.out]; rfl, rfl⟩

/-- by rounds, then by hands, then by numbers -/
def cfL (L : List K) (x y : Int) : Int := or3 (cmI (at' L x.toNat).round (at' L y.toNat).round) (cmI (at' L x.toNat).hand (at' L y.toNat).hand) (cmI x y)
end So
end Go.Proofs.YtodgkhlnefggdaaGreat

namespace Go.Proofs.YtodgkhlnefggdaaGreat
open Go.RowKit
set_option maxRecDepth 100000
set_option linter.unusedVariables false
namespace So
open Kn (K okK)
open Bit (bit withB memTo)
open Lc (at')
open Tl (gtB insR insB ordL)

theorem cfL_neg (L : List K) (x y : Int) : cfL L x y < 0 ↔ ((at' L x.toNat).round < (at' L y.toNat).round ∨ ((at' L x.toNat).round = (at' L y.toNat).round ∧ ((at' L x.toNat).hand < (at' L y.toNat).hand ∨ ((at' L x.toNat).hand = (at' L y.toNat).hand ∧ x < y)))) := by
  unfold cfL or3
  have a1 := cmI_neg (at' L x.toNat).round (at' L y.toNat).round
  have a2 := cmI_zero (at' L x.toNat).round (at' L y.toNat).round
  have b1 := cmI_neg (at' L x.toNat).hand (at' L y.toNat).hand
  have b2 := cmI_zero (at' L x.toNat).hand (at' L y.toNat).hand
  have c1 := cmI_neg x y
  generalize cmI (at' L x.toNat).round (at' L y.toNat).round = p at a1 a2
  generalize cmI (at' L x.toNat).hand (at' L y.toNat).hand = q at b1 b2
  generalize cmI x y = r at c1
  by_cases h1 : p = 0
  · rw [if_neg (by simp [h1])]
    have e1 := a2.1 h1
    by_cases h2 : q = 0
    · rw [if_neg (by simp [h2])]
      have e2 := b2.1 h2
      rw [c1, e1, e2]; omega
    · rw [if_pos h2, b1, e1]
      have e2 : ¬ (at' L x.toNat).hand = (at' L y.toNat).hand := fun e => h2 (b2.2 e)
      omega
  · rw [if_pos h1, a1]
    have e1 : ¬ (at' L x.toNat).round = (at' L y.toNat).round := fun e => h1 (a2.2 e)
    omega
theorem ord_cf (L : List K) (S : Int → Prop) : Ord (cfL L) S where
  tr := fun x y z _ _ _ h1 h2 => by rw [cfL_neg] at h1 h2 ⊢; omega
  tot := fun x y _ _ hne h => by rw [cfL_neg] at h ⊢; omega
  irr := fun x _ h => by rw [cfL_neg] at h; omega

/-- read from its end: what stands ahead comes ahead -/
def FallsC (L : List K) : List Int → Prop
  | [] => True
  | y :: r => (∀ z ∈ r, cfL L z y < 0) ∧ FallsC L r
theorem insR_fallsC (L : List K) (x : Int) : ∀ l : List Int, (∀ z ∈ l, z < x) → FallsC L l → FallsC L (insR L x l) := by
  intro l
  induction l with
  | nil => intro _ _; exact ⟨fun z hz => by simp at hz, trivial⟩
  | cons y r ih =>
    rintro hx ⟨h1, h2⟩
    unfold insR
    cases hg : gtB L y x
    · rw [if_neg (by simp)]
      have hyx : cfL L y x < 0 := by
        have := hx y (by simp)
        rw [cfL_neg]
        unfold gtB at hg
        rw [Bool.eq_false_iff] at hg
        simp only [ne_eq, Bool.or_eq_true, Bool.and_eq_true, decide_eq_true_eq] at hg
        omega
      refine ⟨fun z hz => ?_, h1, h2⟩
      rcases List.mem_cons.1 hz with e | e
      · subst e; exact hyx
      · exact (ord_cf L (fun _ => True)).tr z y x trivial trivial trivial (h1 z e) hyx
    · rw [if_pos rfl]
      refine ⟨fun z hz => ?_, ih (fun z hz => hx z (by simp [hz])) h2⟩
      rcases (Tl.insR_mem L x r z).1 hz with e | e
      · subst e
        rw [cfL_neg]
        unfold gtB at hg
        simp only [Bool.or_eq_true, Bool.and_eq_true, decide_eq_true_eq] at hg
        omega
      · exact h1 z e
theorem fold_fallsC (L : List K) : ∀ (m out : List Int), m.Pairwise (· < ·) → (∀ z ∈ out, ∀ x ∈ m, z < x) → FallsC L out.reverse → FallsC L (m.foldl (insB L) out).reverse := by
  intro m
  induction m with
  | nil => intro out _ _ h; exact h
  | cons x m ih =>
    intro out hp ho h
    rw [List.foldl_cons]
    have hp' := List.pairwise_cons.1 hp
    refine ih _ hp'.2 ?_ ?_
    · intro z hz y hy
      rcases List.mem_cons.1 ((Tl.insB_perm L out x).mem_iff.1 hz) with e | e
      · subst e; exact hp'.1 y hy
      · exact ho z e y (by simp [hy])
    · unfold insB
      rw [List.reverse_reverse]
      exact insR_fallsC L x _ (fun z hz => ho z (List.mem_reverse.1 hz) x (by simp)) h
theorem fallsC_up (L : List K) : ∀ l : List Int, FallsC L l → Up (cfL L) 0 l.reverse.length l.reverse := by
  intro l h p q _ hpq hq
  have H : ∀ r : List Int, FallsC L r → ∀ i j, i < j → j < r.length → cfL L (r.getD j 0) (r.getD i 0) < 0 := by
    intro r
    induction r with
    | nil => intro _ i j _ hj; simp at hj
    | cons y r ih =>
      rintro ⟨h1, h2⟩ i j hij hj
      cases i with
      | zero =>
        obtain ⟨k, rfl⟩ : ∃ k, j = k + 1 := ⟨j - 1, by omega⟩
        have hk : k < r.length := by simpa using hj
        have : (y :: r).getD (k + 1) 0 = r[k] := by simp [List.getD, hk]
        rw [this]
        exact h1 _ (List.getElem_mem hk)
      | succ i =>
        obtain ⟨k, rfl⟩ : ∃ k, j = k + 1 := ⟨j - 1, by omega⟩
        have := ih h2 i k (by omega) (by simpa using hj)
        simpa [List.getD] using this
  rw [List.length_reverse] at hq
  have := H l h (l.length - 1 - q) (l.length - 1 - p) (by omega) (by omega)
  have e1 : l.getD (l.length - 1 - p) 0 = l.reverse.getD p 0 := by
    simp only [List.getD, List.getElem?_reverse (show p < l.length by omega)]
  have e2 : l.getD (l.length - 1 - q) 0 = l.reverse.getD q 0 := by
    simp only [List.getD, List.getElem?_reverse (show q < l.length by omega)]
  rw [e1, e2] at this
  exact this
theorem ord_up (L : List K) {m : List Int} (hm : m.Pairwise (· < ·)) : Up (cfL L) 0 (ordL L m).length (ordL L m) := by
  have h := fallsC_up L (ordL L m).reverse (by unfold ordL; exact fold_fallsC L m [] hm (fun z hz => by simp at hz) trivial)
  rwa [List.reverse_reverse] at h
theorem memTo_rises (s : Int) : ∀ n, (memTo s n).Pairwise (· < ·) := by
  intro n
  induction n with
  | zero => exact List.Pairwise.nil
  | succ n ih =>
    unfold memTo
    split
    · rw [List.pairwise_append]
      refine ⟨ih, List.pairwise_singleton _ _, fun x hx y hy => ?_⟩
      obtain ⟨j, hj, rfl, _⟩ := (Bit.mem_memTo s n x).1 hx
      simp at hy; subst hy; omega
    · rw [List.append_nil]; exact ih
theorem memI_rises (s : Int) : (Memb.memI s).Pairwise (· < ·) := by
  unfold Memb.memI
  split
  · exact memTo_rises s 60
  · exact List.Pairwise.nil
/-- a row in order that has the same numbers is the model's order -/
theorem is_ord (L : List K) {m r : List Int} (hm : m.Pairwise (· < ·)) (hp : r.Perm m) (hu : Up (cfL L) 0 r.length r) : r = ordL L m := by
  have hnd : m.Nodup := hm.imp (fun h => by omega)
  exact up_unique (ord_cf L (fun _ => True)) (ordL L m) r ⟨fun _ _ => trivial, Tl.ord_nodup L hnd⟩ (hp.trans (Tl.ord_perm L m).symm) (ord_up L hm) hu

end So
end Go.Proofs.YtodgkhlnefggdaaGreat

namespace Go.Proofs.YtodgkhlnefggdaaGreat
open Go.RowKit
set_option maxRecDepth 100000
set_option linter.unusedVariables false
namespace So
open Kn (K okK)
open Lc (at' RdK)

theorem orNew (W : World) (vb : Nat) (h : W.heap.size = vb) (x y z : Int) : Calls Tryz.prog 106 #[.slice (some ⟨vb, 0, none⟩) 3 3] (W.alloc (.cells #[.int .i64 x, .int .i64 y, .int .i64 z] 3)) fun e w' => e = .returned (.int .i64 (or3 x y z)) ∧ W.alloc (.cells #[.int .i64 x, .int .i64 y, .int .i64 z] 3) = w' := by
  subst h
  exact orC _ _ x y z _ (by simp) (by simp) (by simp)

set_option maxHeartbeats 6400000 in
theorem compare (g off cap : Nat) (L : List K) (x y : Nat) (w : World) (hlen : L.length ≤ 60) (hx : x < L.length) (hy : y < L.length) (hr : RdK w (some ⟨g, off, none⟩) L) :
    Calls Tryz.prog 86 #[.slice (some ⟨g, off, none⟩) L.length cap, .int .i64 (x : Int), .int .i64 (y : Int)] w fun e w' => e = .returned (.int .i64 (cfL L x y)) ∧ Below w.heap.size w w' := by
  obtain ⟨g1, off1, e1, hg, cx⟩ := hr.at x hx
  obtain ⟨g2, off2, e2, _, cy⟩ := hr.at y hy
  injection e1 with e1; injection e1 with e1 e1'; subst e1; subst e1'
  injection e2 with e2; injection e2 with e2 e2'; subst e2; subst e2'
  have x0 := cx.c0
  have x1 := cx.c1
  have y0 := cy.c0
  have y1 := cy.c1
  have HR : Hid (cfL L x y = or3 (cmI (at' L x).round (at' L y).round) (cmI (at' L x).hand (at' L y).hand) (cmI x y)) := by show _ = _; unfold cfL; rw [Int.toNat_natCast, Int.toNat_natCast]
  have hxl : (x : Int) < (L.length : Int) := by omega
  have hyl : (y : Int) < (L.length : Int) := by omega
  clear cx cy hr
  generalize (at' L x).hand = hx0 at x0 HR
  generalize (at' L x).round = rx0 at x1 HR
  generalize (at' L y).hand = hy0 at y0 HR
  generalize (at' L y).round = ry0 at y1 HR
  have HB : Hid (∀ o : Obj, Below w.heap.size w (w.drew.alloc o)) := fun o => (Below.refl _ w).drew.alloc (Nat.le_refl _) _
  go_enter Tryz.func86, Tryz.ntmps86
  go_wp2_with fail
  go_region_held3 (fun X => X.cell? ⟨g, off + x * 4, none⟩ = some (.int .i64 hx0) ∧ X.cell? ⟨g, off + x * 4 + 1, none⟩ = some (.int .i64 rx0) ∧ X.cell? ⟨g, off + y * 4, none⟩ = some (.int .i64 hy0) ∧ X.cell? ⟨g, off + y * 4 + 1, none⟩ = some (.int .i64 ry0)) (first
      | exact ⟨x0, x1, y0, y1⟩
      | go_keep) (first
      | (go_at_call 107
         refine (compareI _ _ _).mono ?_
         rintro e V0 ⟨rfl, rfl⟩)
      | (go_at_call 108
         refine (compareH _ _ _).mono ?_
         rintro e V0 ⟨rfl, rfl⟩)
      | (go_at_call 106
         refine (orNew w.drew _ rfl _ _ _).mono ?_
         rintro e V0 ⟨rfl, rfl⟩))
  all_goals (go_wp2)
  all_goals go_ret
  all_goals exact ⟨by rw [HR.out]; rfl, HB.out _⟩

end So
end Go.Proofs.YtodgkhlnefggdaaGreat

namespace Go.Proofs.YtodgkhlnefggdaaGreat
open Go.RowKit
set_option maxRecDepth 100000
set_option linter.unusedVariables false
namespace So
open Kn (K okK)
open Bit (bit withB memTo)
open Lc (at' RdK laceB)
open Memb (memK memI)

theorem row_some {B : Nat} {w : World} {v : Value} {l : List Int} (h : w.ownsRow B 2 1 v l.length (l.map (Value.int .i64))) (hn : ¬ v = .slice none 0 0) : ∃ g cap, v = .slice (some ⟨g, 0, none⟩) l.length cap ∧ Memb.Own B w (some ⟨g, 0, none⟩) cap l := by
  have h' := h
  obtain ⟨_, ⟨hv, _⟩ | ⟨g, cap, cur, hv, _⟩⟩ := h'
  · exact absurd hv hn
  · refine ⟨g, cap, hv, ?_⟩
    unfold Memb.Own; rw [← hv]; exact h

set_option maxHeartbeats 1600000 in
/-- picked answers a row that is there -/
theorem pickedN (s : Int) (w : World) : Calls Tryz.prog 84 #[.func (.func 24) #[.int .i64 s] #[]] w fun e w' =>
    ∃ g cap, e = .returned (.slice (some ⟨g, 0, none⟩) (memI s).length cap) ∧ Memb.Own w.heap.size w' (some ⟨g, 0, none⟩) cap (memI s) ∧ Below w.heap.size w w' := by
  obtain ⟨i0, hi, hz0, hz1, hz2⟩ := info_parts Memb.info2
  go_enter Tryz.func84, Tryz.ntmps84
  go_wp2
  go_loopw [3, 6] (fun v i wr => ∃ k : Nat, k ≤ 60 ∧ i = .int .i64 k ∧ wr.ownsRow w.heap.size 2 1 v (memK s k).length ((memK s k).map (Value.int .i64)) ∧ Below w.heap.size w wr ∧ w.heap.size ≤ wr.heap.size ∧ Hid (¬ v = .slice none 0 0))
    (fun _ i _ => 60 - (intOf i).toNat)
  case atStart => exact ⟨0, by omega, rfl, by have := Memb.own_empty w; simpa [memK, Bit.memTo] using this, (Below.refl _ _).alloc (Nat.le_refl _) _, by simp, show ¬ _ = _ by simp⟩
  case round =>
    obtain ⟨k, hk, rfl, hown, hnx, hB, HNN⟩ := hrel
    have hle := Memb.memK_le s k
    by_cases hlt : k < 60
    · cases hb : (Base.okB s && (Base.inB (k : Int) && Bit.bit s k))
      · have HM : Hid (memK s (k + 1) = memK s k) := Memb.memK_miss s k hlt hb
        have HB : Hid ((Base.okB s && (Base.inB (k : Int) && Bit.bit s k)) = false) := hb
        clear hb
        go_wp2_with (go_at_call 24; refine (Base.has _ _ _).mono ?_; rintro e w' ⟨rfl, rfl⟩; rw [Int.toNat_natCast, HB.out])
        go_roundw
        case rel => exact ⟨k + 1, by omega, by go_num, by rw [HM.out]; exact hown, hnx, hB, HNN⟩
        case measure => simp [intOf]; omega
      · have HM : Hid (memK s (k + 1) = memK s k ++ [(k : Int)]) := Memb.memK_hit s k hb
        have HB : Hid ((Base.okB s && (Base.inB (k : Int) && Bit.bit s k)) = true) := hb
        clear hb
        go_wp2_with (first | (go_at_call 24; refine (Base.has _ _ _).mono ?_; rintro e w' ⟨rfl, rfl⟩; rw [Int.toNat_natCast, HB.out]) | (at_builtin; refine wpList_append_own _ rfl _ _ 23 rfl w.heap.size 2 i0 (.int .i64 0) 1 8 Tryz.underlying23 hi hz0 hz1 hz2 rfl (by decide) _ _ _ rfl (hown.alloc _) ⟨wr.heap.size, 0, none⟩ 1 1 [.int .i64 (k : Int)] rfl rfl ?c1 ?c2 ?c3 ?c4 ?c5 ?_))
        case c1 =>
          intro j u hj
          match j, hj with
          | 0, hj => simp at hj; subst hj; simp [Addr.add]
        case c2 => intro u hu; simp at hu; subst hu; rfl
        case c3 => unfold maxLen; omega
        case c4 => omega
        case c5 => simp; omega
        intro v' w1 hown' hgrow hnil
        have R := Memb.rel_put HM.out hB hown hnx hown' hgrow
        have HN2 : Hid (¬ v' = .slice none 0 0) := hnil
        clear hown' hgrow hown hnil HNN
        go_wp2
        go_roundw
        case rel => exact ⟨k + 1, by omega, by go_num, R.1, R.2.1, R.2.2, HN2⟩
        case measure => simp [intOf]; omega
    · obtain rfl : k = 60 := by omega
      have hown2 : wr.ownsRow w.heap.size 2 1 u3 (memI s).length ((memI s).map (Value.int .i64)) := hown
      obtain ⟨g, cap, hv, ho⟩ := row_some hown2 HNN.out
      have HV : Hid (u3 = .slice (some ⟨g, 0, none⟩) (memI s).length cap) := hv
      clear hv hown hown2 HNN
      go_wp2
      go_ret
      exact ⟨g, cap, by rw [← HV.out]; rfl, ho, hnx⟩

theorem eqlNil (a : Addr) (n c : Nat) (w : World) : (binOp .eql 104 (.slice (some a) n c) (.slice none 0 0)).run Tryz.prog w = .ok (.bool false) w := by kernel_rfl

set_option maxHeartbeats 1600000 in
theorem clone (g cap : Nat) (l : List Int) (w : World) (hl : l.length ≤ 1048576) (hlt : g < w.heap.size) (hrd : Lst.Rd w (some ⟨g, 0, none⟩) l) : Calls Tryz.prog 104 #[.slice (some ⟨g, 0, none⟩) l.length cap] w fun e w' =>
    ∃ g' cap', e = .returned (.slice (some ⟨g', 0, none⟩) l.length cap') ∧ Memb.Own w.heap.size w' (some ⟨g', 0, none⟩) cap' l ∧ Below w.heap.size w w' := by
  obtain ⟨i0, hi, hz0, hz1, hz2⟩ := info_parts Memb.info2
  have hrd0 : Lst.Rd (w.alloc (.cells #[] 2)) (some ⟨g, 0, none⟩) l := by
    rcases hrd with h | ⟨b, hb, hc⟩
    · exact .inl h
    · injection hb with hb
      injection hb with hb
      subst hb
      exact .inr ⟨g, rfl, fun j hj => (World.cell?_alloc_lt w _ ⟨g, j, none⟩ hlt).trans (hc j hj)⟩
  have heq := eqlNil ⟨g, 0, none⟩ l.length cap
  go_enter Tryz.func104, Tryz.ntmps104
  go_wp2_with (at_builtin; refine wpList_append_own _ rfl _ _ 104 rfl w.heap.size 2 i0 (.int .i64 0) 1 8 Tryz.underlying104 hi hz0 hz1 hz2 rfl (by decide) _ 0 [] rfl (Memb.own_empty w) ⟨g, 0, none⟩ l.length cap (l.map (Value.int .i64)) rfl (by simp) (Rm.rd_nums hrd0 rfl) (Rm.nums_one l) ?c3 ?c4 ?c5 ?_)
  case c3 => unfold maxLen; omega
  case c4 => omega
  case c5 => simp
  intro v' w5 hown' hgrow hnil
  have HR : Hid (w5.ownsRow w.heap.size 2 1 v' l.length (l.map (Value.int .i64)) ∧ Below w.heap.size w w5) :=
    ⟨by simpa using hown', ((Below.refl w.heap.size w).alloc (Nat.le_refl _) _).grown hgrow (by simp) (fun i hi => by simp [Value.ownBlock] at hi; omega)⟩
  obtain ⟨g', ca, hv, ho⟩ := row_some HR.out.1 (by first | exact hnil | (intro e; have := (hnil.1 e).1; simp at this))
  clear hown' hgrow hi hz0 hz1 hz2 hnil
  subst hv
  go_wp2
  go_ret
  exact ⟨g', ca, rfl, ho, HR.out.2⟩

set_option maxHeartbeats 1600000 in
theorem sorted (g cap : Nat) (lv : Value) (cf : Int → Int → Int) (S : Int → Prop) (l : List Int) (w : World) (hl : l.length ≤ 1048576) (hlt : g < w.heap.size) (hrd : Lst.Rd w (some ⟨g, 0, none⟩) l) (ho : Ord cf S) (hg : Good S l)
    (hc : ∀ (W : World) (x y : Int), Below w.heap.size w W → S x → S y → Calls Tryz.prog 86 #[lv, .int .i64 x, .int .i64 y] W fun e w' => e = .returned (.int .i64 (cf x y)) ∧ Below W.heap.size W w') :
    Calls Tryz.prog 85 #[.slice (some ⟨g, 0, none⟩) l.length cap, .func (.func 86) #[lv] #[]] w fun e w' =>
      ∃ (g' cap' : Nat) (m : List Int), e = .returned (.slice (some ⟨g', 0, none⟩) m.length cap') ∧ Memb.Own w.heap.size w' (some ⟨g', 0, none⟩) cap' m ∧ m.Perm l ∧ Up cf 0 m.length m ∧ Below w.heap.size w w' := by
  have HK : Hid (∀ (w1 : World) (g' cap' : Nat), Memb.Own w.heap.size w1 (some ⟨g', 0, none⟩) cap' l → Below w.heap.size w w1 → Calls Tryz.prog 105 #[.slice (some ⟨g', 0, none⟩) l.length cap', .func (.func 86) #[lv] #[]] w1 fun e w' => e = .returned (.tuple #[]) ∧ ∃ m : List Int, m.length = l.length ∧ Memb.Own w.heap.size w' (some ⟨g', 0, none⟩) cap' m ∧ m.Perm l ∧ Up cf 0 m.length m ∧ Below w.heap.size w w') := fun w1 g' cap' hO hB => by
    have hgg := World.ownsRow.lt hO g' rfl
    refine (sortFunc w.heap.size g' cap' lv cf S l w1 ⟨fun W x y hW hx hy => hc W x y (hB.grown hW hB.size (fun k hk => by injection hk with hk; omega)) hx hy, ho⟩ hO hg hl).mono ?_
    rintro e w2 ⟨he, m, hm, hu⟩
    exact ⟨he, m, hm.len, hm.row.own, hm.mix.perm, by rw [hm.len]; exact hu, hB.grown hm.row.gr hB.size (fun k hk => by injection hk with hk; omega)⟩
  have hcl := clone g cap l w hl hlt hrd
  clear hc hrd ho hg
  go_enter Tryz.func85, Tryz.ntmps85
  go_wp2_with fail
  refine hcl.mono ?_
  rintro e w1 ⟨g', cap', rfl, hO, hB⟩
  have hcall := HK.out w1 g' cap' hO hB
  clear hcl HK hO hB
  go_wp2_with fail
  refine hcall.mono ?_
  rintro e w2 ⟨rfl, m, hlen, hO, hp, hu, hB⟩
  have HM : Hid (m.length = l.length ∧ Memb.Own w.heap.size w2 (some ⟨g', 0, none⟩) cap' m ∧ m.Perm l ∧ Up cf 0 m.length m ∧ Below w.heap.size w w2) := ⟨hlen, hO, hp, hu, hB⟩
  clear hlen hO hp hu hB hcall
  go_wp2
  go_ret
  exact ⟨g', cap', m, by rw [HM.out.1]; rfl, HM.out.2⟩

set_option maxHeartbeats 1600000 in
/-- a lace's ordered answers the model's order -/
theorem ordered (g off cap : Nat) (L : List K) (s : Int) (w : World) (hl : laceB L = true) (hg : g < w.heap.size) (hr : RdK w (some ⟨g, off, none⟩) L) (hin : ∀ x ∈ memI s, 0 ≤ x ∧ x < (L.length : Int)) :
    Calls Tryz.prog 64 #[.slice (some ⟨g, off, none⟩) L.length cap, .int .i64 s] w (Sg.NumsPost (Tl.ordL L (memI s)) w) := by
  have h60 := ((Lc.lace_iff L).1 hl).1
  have hle : (memI s).length ≤ 60 := by unfold Memb.memI; split; exact Bit.memTo_le s 60; simp
  have HR : Hid (memI s = memI s ∧ (memI s).Pairwise (· < ·)) := ⟨rfl, memI_rises s⟩
  have HS : Hid (∀ (w1 : World) (g' cap' : Nat), Memb.Own w.heap.size w1 (some ⟨g', 0, none⟩) cap' (memI s) → Below w.heap.size w w1 → Calls Tryz.prog 85 #[.slice (some ⟨g', 0, none⟩) (memI s).length cap', .func (.func 86) #[.slice (some ⟨g, off, none⟩) L.length cap] #[]] w1 fun e w' => ∃ (g2 cap2 : Nat), e = .returned (.slice (some ⟨g2, 0, none⟩) (Tl.ordL L (memI s)).length cap2) ∧ Memb.Own w.heap.size w' (some ⟨g2, 0, none⟩) cap2 (Tl.ordL L (memI s)) ∧ Below w.heap.size w w') := fun w1 g' cap' hO hB => by
    have hgg := World.ownsRow.lt hO g' rfl
    refine (sorted g' cap' (.slice (some ⟨g, off, none⟩) L.length cap) (cfL L) (fun x => 0 ≤ x ∧ x < (L.length : Int)) (memI s) w1 (by omega) hgg.2 (Lst.own_rd hO) (ord_cf L _) ⟨hin, (memI_rises s).imp (fun h => by omega)⟩ (fun W x y hW hx hy => ?_)).mono ?_
    · obtain ⟨p, rfl⟩ := Int.eq_ofNat_of_zero_le hx.1
      obtain ⟨q, rfl⟩ := Int.eq_ofNat_of_zero_le hy.1
      exact compare g off cap L p q W h60 (by omega) (by omega) (hr.below (hB.trans (hW.mono hB.size)))
    · rintro e w2 ⟨g2, cap2, m, he, hO2, hp, hu, hB2⟩
      obtain rfl := is_ord L (memI_rises s) hp hu
      refine ⟨g2, cap2, he, ?_, hB.trans (hB2.mono hB.size)⟩
      obtain ⟨h1, ⟨h2, h3⟩ | ⟨g3, c3, cur, e3, hB3, hrest⟩⟩ := hO2
      · exact ⟨h1, .inl ⟨h2, h3⟩⟩
      · exact ⟨h1, .inr ⟨g3, c3, cur, e3, Nat.le_trans hB.size hB3, hrest⟩⟩
  have hpk := pickedN s w
  clear hr hin hl
  generalize Tl.ordL L (memI s) = r at HS
  clear HR
  generalize memI s = m at HS hpk hle
  go_enter Tryz.func64, Tryz.ntmps64
  go_wp2_with fail
  refine hpk.mono ?_
  rintro e w1 ⟨g', cap', rfl, hO, hB⟩
  have hcall := HS.out w1 g' cap' hO hB
  clear hO hB hpk HS
  go_wp2_with fail
  refine hcall.mono ?_
  rintro e w2 ⟨g2, cap2, rfl, hO, hB⟩
  have HM : Hid (Memb.Own w.heap.size w2 (some ⟨g2, 0, none⟩) cap2 r ∧ Below w.heap.size w w2) := ⟨hO, hB⟩
  clear hO hB hcall
  go_wp2
  go_ret
  exact ⟨some ⟨g2, 0, none⟩, cap2, rfl, HM.out.1, HM.out.2⟩

end So
end Go.Proofs.YtodgkhlnefggdaaGreat

namespace Go.Proofs.YtodgkhlnefggdaaGreat
open Go.RowKit
set_option maxRecDepth 100000
set_option linter.unusedVariables false
namespace Tl
open Kn (K okK)
open Bit (bit withB memTo)
open Lc (at' RdK WordsOk laceB setB)
open Sg (isB bel belows)

/-- a number that there is a knot for -/
def inR (L : List K) (x : Int) : Bool := decide (0 ≤ x) && decide (x < (L.length : Int))
/-- of those behind the i-th, up to j, x sees none -/
def unB (L : List K) (C : List Int) (x : Int) (i j : Nat) : Bool := (List.range j).all fun q => decide (q ≤ i) || !(inR L (C.getD q 0) && bit (bel L x.toNat) (C.getD q 0).toNat)
/-- the i-th stands as it should -/
def okAt (L : List K) (C : List Int) (i : Nat) : Bool := inR L (C.getD i 0) && (!(C.take i).contains (C.getD i 0) && unB L C (C.getD i 0) i C.length)
/-- the document's Respects -/
def respB (L : List K) (C : List Int) : Bool := laceB L && (List.range C.length).all (okAt L C)

theorem resp_no {L : List K} {C : List Int} (i : Nat) (hi : i < C.length) (h : okAt L C i = false) : respB L C = false := by
  rw [Bool.eq_false_iff]
  intro hb
  unfold respB at hb
  rw [Bool.and_eq_true, List.all_eq_true] at hb
  have := hb.2 i (by simpa using hi)
  rw [h] at this; exact Bool.noConfusion this
theorem resp_yes {L : List K} {C : List Int} (hl : laceB L = true) (h : ∀ i, i < C.length → okAt L C i = true) : respB L C = true := by
  unfold respB
  rw [hl, Bool.true_and, List.all_eq_true]
  intro i hi
  exact h i (by simpa using hi)
theorem un_step (L : List K) (C : List Int) (x : Int) (i j : Nat) (hij : i < j) : unB L C x i (j + 1) = (unB L C x i j && !(inR L (C.getD j 0) && bit (bel L x.toNat) (C.getD j 0).toNat)) := by
  unfold unB
  rw [List.range_succ, List.all_append, List.all_cons, List.all_nil, Bool.and_true, decide_eq_false (by omega : ¬ j ≤ i), Bool.false_or]
theorem un_start (L : List K) (C : List Int) (x : Int) (i : Nat) : unB L C x i (i + 1) = true := by
  unfold unB
  rw [List.all_eq_true]
  intro q hq
  rw [decide_eq_true (by have := List.mem_range.1 hq; omega : q ≤ i)]; rfl
theorem un_no {L : List K} {C : List Int} {x : Int} {i j : Nat} (hij : i < j) (hj : j < C.length) (h : (inR L (C.getD j 0) && bit (bel L x.toNat) (C.getD j 0).toNat) = true) : unB L C x i C.length = false := by
  rw [Bool.eq_false_iff]
  intro hb
  unfold unB at hb
  rw [List.all_eq_true] at hb
  have := hb j (by simpa using hj)
  rw [decide_eq_false (by omega : ¬ j ≤ i), h] at this
  exact Bool.noConfusion this

/-- those of a list, as a set -/
def seenF (l : List Int) : Int := l.foldl (fun x a => withB x a.toNat) 0
theorem seenF_snoc (l : List Int) (a : Int) : seenF (l ++ [a]) = withB (seenF l) a.toNat := by
  unfold seenF; rw [List.foldl_append]; rfl
theorem seenF_bits (l : List Int) (hl : ∀ a ∈ l, 0 ≤ a ∧ a < 60) : (0 ≤ seenF l ∧ seenF l < 1152921504606846976) ∧ ∀ j : Nat, bit (seenF l) j = l.contains (j : Int) := by
  suffices H : ∀ (l : List Int) (x : Int), (∀ a ∈ l, 0 ≤ a ∧ a < 60) → (0 ≤ x ∧ x < 1152921504606846976) →
      (0 ≤ l.foldl (fun x a => withB x a.toNat) x ∧ l.foldl (fun x a => withB x a.toNat) x < 1152921504606846976) ∧
      ∀ j : Nat, bit (l.foldl (fun x a => withB x a.toNat) x) j = true ↔ (bit x j = true ∨ (j : Int) ∈ l) by
    have := H l 0 hl ⟨Int.le_refl 0, by decide⟩
    refine ⟨this.1, fun j => ?_⟩
    rw [Bool.eq_iff_iff, show seenF l = l.foldl (fun x a => withB x a.toNat) 0 from rfl, this.2 j, Lc.bit_zero]
    simp
  intro l
  induction l with
  | nil => intro x _ hx; exact ⟨hx, fun j => by simp⟩
  | cons a l ih =>
    intro x hl hx
    have ha := hl a (by simp)
    obtain ⟨p, rfl⟩ := Int.eq_ofNat_of_zero_le ha.1
    simp only [List.foldl_cons]
    rw [Int.toNat_natCast]
    have := ih (withB x p) (fun a h => hl a (by simp [h])) (Bit.withB_bd x hx.1 hx.2 p (by omega))
    refine ⟨this.1, fun j => ?_⟩
    rw [this.2 j, Bit.bit_withB x hx.1, Bool.or_eq_true, decide_eq_true_eq, List.mem_cons]
    constructor
    · rintro ((h | h) | h)
      · exact .inr (.inl (by omega))
      · exact .inl h
      · exact .inr (.inr h)
    · rintro (h | h | h)
      · exact .inl (.inr h)
      · exact .inl (.inl (by omega))
      · exact .inr h
theorem inR_iff (L : List K) (x : Int) : inR L x = true ↔ 0 ≤ x ∧ x < (L.length : Int) := by
  unfold inR; rw [Bool.and_eq_true, decide_eq_true_eq, decide_eq_true_eq]
theorem ok_in {L : List K} {C : List Int} {i : Nat} (h : okAt L C i = true) : inR L (C.getD i 0) = true := by
  unfold okAt at h; rw [Bool.and_eq_true] at h; exact h.1
theorem take_in {L : List K} {C : List Int} (h60 : L.length ≤ 60) {i : Nat} (hi : i ≤ C.length) (h : ∀ q, q < i → okAt L C q = true) : ∀ a ∈ C.take i, 0 ≤ a ∧ a < 60 := by
  intro a ha
  obtain ⟨q, hq, e⟩ := List.getElem_of_mem ha
  rw [List.length_take] at hq
  have h1 := (inR_iff L _).1 (ok_in (h q (by omega)))
  have e2 : C.getD q 0 = a := by
    rw [← e, List.getElem_take, List.getD, List.getElem?_eq_getElem (by omega)]; rfl
  rw [e2] at h1
  omega

end Tl
end Go.Proofs.YtodgkhlnefggdaaGreat

namespace Go.Proofs.YtodgkhlnefggdaaGreat
open Go.RowKit
set_option maxRecDepth 100000
set_option linter.unusedVariables false
namespace So
open Kn (K okK)
open Bit (bit withB memTo)
open Lc (at' RdK WordsOk laceB setB)
open Sg (isB bel metI)
open Nd (nodsB)
open Ak (onlyF)
open Memb (memI)

theorem fresh1 (bl ba g off cap : Nat) (L : List K) (a b : Int) (w : World) (hlc : laceB L = true) (hg : g < w.heap.size) (hr : RdK w (some ⟨g, off, none⟩) L)
    (hbl : bl < w.heap.size) (hba : ba < w.heap.size) (cl : w.cell? ⟨bl, 0, none⟩ = some (.slice (some ⟨g, off, none⟩) L.length cap)) (ca : w.cell? ⟨ba, 0, none⟩ = some (.int .i64 a)) :
    Calls Tryz.prog 66 #[.int .i64 b, .pointer (some ⟨bl, 0, none⟩), .pointer (some ⟨ba, 0, none⟩)] w fun e w' => e = .returned (.bool (nodsB L a b)) ∧ Below w.heap.size w w' := by
  have hcall := Nd.nods g off cap L a b w hlc hg hr
  clear hlc
  go_enter Tryz.func66, Tryz.ntmps66
  go_wp2_with fail
  refine hcall.mono ?_
  rintro e w2 ⟨rfl, hb2⟩
  clear hcall
  go_wp2
  go_ret
  exact ⟨rfl, hb2⟩

theorem box2 (w : World) (v : Value) (a : Int) (t u : TypeId) : Below w.heap.size w ((w.alloc (.cells #[v] t)).alloc (.cells #[.int .i64 a] u)) ∧ ((w.alloc (.cells #[v] t)).alloc (.cells #[.int .i64 a] u)).cell? ⟨w.heap.size, 0, none⟩ = some v ∧ ((w.alloc (.cells #[v] t)).alloc (.cells #[.int .i64 a] u)).cell? ⟨w.heap.size + 1, 0, none⟩ = some (.int .i64 a) ∧ w.heap.size + 1 < ((w.alloc (.cells #[v] t)).alloc (.cells #[.int .i64 a] u)).heap.size := by
  have c1 := Sg.boxNew (w.alloc (.cells #[v] t)) (.int .i64 a) u
  simp only [World.size_alloc] at c1
  exact ⟨((Below.refl _ _).alloc (Nat.le_refl _) _).alloc (by simp) _, Sg.boxCell _ (Sg.boxNew w v t).1, c1.1, by simp⟩

/-- those that are left and that k nods to: what is fresh -/
theorem only_fresh {L : List K} (hl : laceB L = true) {k : Nat} (hk : k < L.length) {e : Int} (he0 : -1 ≤ e) (he : e < (L.length : Int)) : onlyF (fun b => nodsB L (k : Int) b) (memI (bits .andNot .i64 (metI L (k : Int)) (metI L e))) = Tl.frS L k e L.length := by
  have h60 := ((Lc.lace_iff L).1 hl).1
  have hmk : metI L (k : Int) = bel L k := by unfold Sg.metI; rw [if_pos ⟨by omega, by omega⟩, Int.toNat_natCast]
  have hme : (0 ≤ metI L e ∧ metI L e < 1152921504606846976) ∧ ∀ j, bit (metI L e) j = (decide (0 ≤ e) && bit (bel L e.toNat) j) := by
    unfold Sg.metI
    by_cases h0 : 0 ≤ e
    · rw [if_pos ⟨h0, he⟩]
      exact ⟨Sg.bel_bd L e.toNat (by omega), fun j => by rw [decide_eq_true h0, Bool.true_and]⟩
    · rw [if_neg (by omega)]
      exact ⟨⟨by omega, by omega⟩, fun j => by rw [Lc.bit_zero, decide_eq_false h0, Bool.false_and]⟩
  have h1 := Sg.bel_bd L k (by omega)
  have hbd := Sg.andNot_bd' (bel L k) (metI L e) h1.1 h1.2
  rw [hmk]
  have ho := Ak.onlyF_bits (fun b => nodsB L (k : Int) b) (memI (bits .andNot .i64 (bel L k) (metI L e))) (fun a h => Ak.mem_memI h)
  refine Lc.eq_of_bits _ _ ho.1.1 (Tl.frS_bd L k e _ h60).1 fun j => ?_
  rw [Bool.eq_iff_iff, ho.2 j, Ak.mem_bit hbd.1 hbd.2, Sg.bit_andNot _ _ h1.1 h1.2 hme.1.1 hme.1.2, hme.2 j, Tl.bit_frS L k e _ h60]
  unfold Tl.fresN Nd.nodsB
  have hik : isB L (k : Int) = true := by unfold Sg.isB; rw [hl]; simp; omega
  rw [hik, Int.toNat_natCast, Int.toNat_natCast]
  simp only [Bool.and_eq_true, Bool.true_and, decide_eq_true_eq]
  constructor
  · rintro ⟨⟨a1, a2⟩, a3, a4⟩
    have hj : j < L.length := by have := Ag.sees_le hl hk a1; omega
    exact ⟨hj, a1, a2, a4⟩
  · rintro ⟨a0, a1, a2, a3⟩
    refine ⟨⟨a1, a2⟩, ?_, a3⟩
    unfold Sg.isB; rw [hl]; simp; omega
theorem memI_of {s : Int} (h0 : 0 ≤ s) (h1 : s < 1152921504606846976) : memI s = memTo s 60 := by
  unfold Memb.memI; rw [(Base.okB_iff s).2 ⟨h0, h1⟩, if_pos rfl]
theorem memI_in {L : List K} (h60 : L.length ≤ 60) {s : Int} (hin : ∀ i, bit s i = true → i < L.length) : ∀ x ∈ memI s, 0 ≤ x ∧ x < (L.length : Int) := fun x hx => by
  unfold Memb.memI at hx
  split at hx
  · obtain ⟨j, _, rfl, hb⟩ := (Bit.mem_memTo s 60 x).1 hx
    have := hin j hb
    omega
  · simp at hx

set_option maxHeartbeats 6400000 in
theorem fresh (g off cap : Nat) (L : List K) (k : Nat) (e : Int) (w : World) (hl : laceB L = true) (hk : k < L.length) (he0 : -1 ≤ e) (he : e < (L.length : Int)) (hg : g < w.heap.size) (hr : RdK w (some ⟨g, off, none⟩) L) :
    Calls Tryz.prog 45 #[.slice (some ⟨g, off, none⟩) L.length cap, .int .i64 (k : Int), .int .i64 e] w (Sg.NumsPost (Tl.freshL L (k : Int) e) w) := by
  have h60 := ((Lc.lace_iff L).1 hl).1
  have HLC : Hid (laceB L = true) := hl
  have HFR : Hid (onlyF (fun b => nodsB L (k : Int) b) (memI (bits .andNot .i64 (metI L (k : Int)) (metI L e))) = Tl.frS L k e L.length) := only_fresh hl hk he0 he
  have HFL : Hid (Tl.freshL L (k : Int) e = Tl.ordL L (memI (Tl.frS L k e L.length))) := by
    show _ = _
    unfold Tl.freshL
    have := Tl.frS_bd L k e L.length h60
    rw [Int.toNat_natCast, memI_of this.1 this.2]
  have HIN : Hid (∀ x ∈ memI (Tl.frS L k e L.length), 0 ≤ x ∧ x < (L.length : Int)) := memI_in h60 (Tl.frS_in h60 k e)
  have P0 : Hid (_) := box2 w (.slice (some ⟨g, off, none⟩) L.length cap) (k : Int) 43 2
  clear hl
  go_enter Tryz.func45, Tryz.ntmps45
  go_wp2_with fail
  generalize (w.alloc (.cells #[.slice (some ⟨g, off, none⟩) L.length cap] 43)).alloc (.cells #[.int .i64 (k : Int)] 2) = w0 at P0 ⊢
  obtain ⟨B0, C0, D0, S0⟩ := P0
  generalize hb : w.heap.size = bl at *
  have hbl : bl < w0.heap.size := by omega
  have hg0 : g < w0.heap.size := by omega
  have HR0 : Hid (RdK w0 (some ⟨g, off, none⟩) L) := hr.below (hb ▸ B0)
  have HBE : Hid (∀ (W : World) (x : Int), Below w0.heap.size w0 W → Calls Tryz.prog 63 #[.slice (some ⟨g, off, none⟩) L.length cap, .int .i64 x] W fun e w' => e = .returned (.int .i64 (metI L x)) ∧ Below W.heap.size W w') := fun W x hW => Sg.below g off cap L x W HLC.out (Nat.lt_of_lt_of_le hg0 hW.size) (HR0.out.below hW)
  clear hr
  obtain ⟨X, _, F, HF, HG⟩ := Fam.fam w0
  have hc0 : ∀ z, (F z).cell? ⟨bl, 0, none⟩ = some (.slice (some ⟨g, off, none⟩) L.length cap) := fun z => ((HF.out z).cell (p := ⟨bl, 0, none⟩) hbl).trans C0
  have hd0 : ∀ z, (F z).cell? ⟨bl + 1, 0, none⟩ = some (.int .i64 (k : Int)) := fun z => ((HF.out z).cell (p := ⟨bl + 1, 0, none⟩) S0).trans D0
  refine Fam.region (F := F) (by kernel_rfl) (by kernel_rfl) (HG.out _ (Below.refl _ w0).drew) ?_
  repeat (go_big_quiet_step (first
    | (go_at_call 63; exact (HBE.out _ _ (HF.out _)).mono fun _ _ h => ⟨h.1, HG.out _ ((HF.out _).trans (h.2.mono (HF.out _).size))⟩)))
  refine wpQuiet_nil ?_
  intro w2 hw2
  obtain ⟨z, rfl⟩ := hw2
  have BV : Below w0.heap.size w0 (F z) := HF.out z
  have cV := hc0 z
  have dV := hd0 z
  clear hc0 hd0 HG HF HBE C0 D0
  generalize F z = V at BV cV dV ⊢
  have hblV : bl < V.heap.size := Nat.lt_of_lt_of_le hbl BV.size
  have hbaV : bl + 1 < V.heap.size := Nat.lt_of_lt_of_le S0 BV.size
  have hgV : g < V.heap.size := Nat.lt_of_lt_of_le hg0 BV.size
  have HRV : Hid (RdK V (some ⟨g, off, none⟩) L) := HR0.out.below BV
  have HBV : Hid (Below bl w V) := B0.trans (BV.mono (by omega))
  have HON : Hid (∀ W : World, Below V.heap.size V W → Calls Tryz.prog 65 #[.int .i64 (bits .andNot .i64 (metI L (k : Int)) (metI L e)), .func (.func 66) #[] #[.pointer (some ⟨bl, 0, none⟩), .pointer (some ⟨bl + 1, 0, none⟩)]] W fun en w' => en = .returned (.int .i64 (Tl.frS L k e L.length)) ∧ Below W.heap.size W w') := fun W hW => by
    have := Ak.only 66 (enters_of Tryz.func66 (by kernel_rfl) rfl) (.pointer (some ⟨bl, 0, none⟩)) (.pointer (some ⟨bl + 1, 0, none⟩)) (fun b => nodsB L (k : Int) b) (bits .andNot .i64 (metI L (k : Int)) (metI L e)) W (fun U b hU _ _ =>
      have hVU : Below V.heap.size V U := hW.trans (hU.mono hW.size)
      fresh1 bl (bl + 1) g off cap L (k : Int) b U HLC.out (Nat.lt_of_lt_of_le hgV hVU.size) (HRV.out.below hVU) (Nat.lt_of_lt_of_le hblV hVU.size) (Nat.lt_of_lt_of_le hbaV hVU.size) ((hVU.cell (p := ⟨bl, 0, none⟩) hblV).trans cV) ((hVU.cell (p := ⟨bl + 1, 0, none⟩) hbaV).trans dV))
    rw [HFR.out] at this
    exact this
  have HOR : Hid (∀ W : World, Below V.heap.size V W → Calls Tryz.prog 64 #[.slice (some ⟨g, off, none⟩) L.length cap, .int .i64 (Tl.frS L k e L.length)] W (Sg.NumsPost (Tl.freshL L (k : Int) e) W)) := fun W hW => by
    have := ordered g off cap L (Tl.frS L k e L.length) W HLC.out (Nat.lt_of_lt_of_le hgV hW.size) (HRV.out.below hW) HIN.out
    rw [← HFL.out] at this
    exact this
  have HSV : Hid (∀ W : World, Below V.heap.size V W → W.cell? ⟨bl, 0, none⟩ = some (.slice (some ⟨g, off, none⟩) L.length cap)) := fun W hW => (hW.cell (p := ⟨bl, 0, none⟩) hblV).trans cV
  have HEND : Hid (∀ (W U : World) (ao : Option Addr) (ca : Nat), Below V.heap.size V W → Memb.Own W.heap.size U ao ca (Tl.freshL L (k : Int) e) → Below W.heap.size W U → Memb.Own bl U ao ca (Tl.freshL L (k : Int) e) ∧ Below bl w U) := fun W U ao ca hW hO hB => by
    have hsz : bl ≤ W.heap.size := Nat.le_trans (Nat.le_of_lt hblV) hW.size
    refine ⟨?_, HBV.out.trans ((hW.mono (Nat.le_of_lt hblV)).trans (hB.mono hsz))⟩
    obtain ⟨h1, ⟨h2, h3⟩ | ⟨g3, c3, cur, e3, hB3, hrest⟩⟩ := hO
    · exact ⟨h1, .inl ⟨h2, h3⟩⟩
    · exact ⟨h1, .inr ⟨g3, c3, cur, e3, Nat.le_trans hsz hB3, hrest⟩⟩
  clear HFR HFL HIN HR0 HRV HBV B0 BV dV S0
  generalize hrr : Tl.freshL L (k : Int) e = r at HOR HEND
  have HRR : Hid (Tl.freshL L (k : Int) e = r) := hrr
  clear hrr
  generalize Tl.frS L k e L.length = fr at HON HOR
  generalize bits .andNot .i64 (metI L (k : Int)) (metI L e) = lf at HON ⊢
  clear hk he0 he h60 hg hbl hg0 hblV hbaV hgV HLC
  go_wp2_with fail
  go_region_with (first
      | (go_at_call 65
         refine (HON.out _ (Below.refl _ _).drew).mono ?_
         rintro e V1 ⟨rfl, b1⟩
         have B1 : Below V.heap.size V V1 := (Below.refl _ V).drew.trans (b1.mono (Nat.le_refl _))
         have c1 := HSV.out _ B1)
      | (go_at_call 64
         refine (HOR.out _ B1).mono ?_
         rintro e V2 ⟨ao, ca, rfl, hO, b2⟩
         have B2 : Hid (_) := HEND.out _ _ _ _ B1 hO b2
         clear hO b2))
  all_goals (go_wp2)
  all_goals go_ret
  all_goals rw [HRR.out]
  all_goals refine ⟨ao, ca, rfl, ?_, ?_⟩
  all_goals rw [hb]
  all_goals first | exact B2.out.1 | exact B2.out.2

end So
end Go.Proofs.YtodgkhlnefggdaaGreat
