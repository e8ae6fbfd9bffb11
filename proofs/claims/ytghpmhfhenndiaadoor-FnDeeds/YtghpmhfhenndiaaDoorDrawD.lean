/-
  What the model's draws for chapter 16 answer: a deed, whatever it is, its key of at most 4 bytes, and a text of at most 2000 bytes; they write into nothing that was there but the cursor; for codes of at most 4096 bytes.
-/
import Derived.Test.YtghpmhfhenndiaaDoorDeedV
import Derived.Test.YtghpmhfhenndiaaDoorDrawK
import Derived.Test.YtghpmhfhenndiaaDoorBend
namespace Go.Proofs.YtghpmhfhenndiaaDoor
open Go.RowKit
set_option maxRecDepth 100000
set_option linter.unusedVariables false
namespace De
open Cur (At)
open Kn (dec B grown_put code_lt lit_str)

/-- the zero deed that a function's answer begins as -/
structure ZeD (b : Nat) (w : World) : Prop where
  lt : b < w.heap.size
  r0 : w.cell? ⟨b, 0, none⟩ = some (.int .i64 0)
  r1 : w.cell? ⟨b, 1, none⟩ = some (.string ⟨#[]⟩)
  r2 : w.cell? ⟨b, 2, none⟩ = some (.int .i64 0)
  r3 : w.cell? ⟨b, 3, none⟩ = some (.int .i64 0)
  rf : ∀ j, w.frozen? ⟨b, j, none⟩ = false
theorem zeD_new (w : World) (t : TypeId) : ZeD w.heap.size (w.alloc (.cells #[.int .i64 0, .string ⟨#[]⟩, .int .i64 0, .int .i64 0] t)) := by
  obtain ⟨a, b, c, d, e, f⟩ := zd_new w t
  exact ⟨a, b, c, d, e, f⟩
theorem ZeD.below {b : Nat} {w w' : World} (z : ZeD b w) (hb : Below w.heap.size w w') : ZeD b w' where
  lt := Nat.lt_of_lt_of_le z.lt hb.size
  r0 := (hb.cell (p := ⟨b, 0, none⟩) z.lt).trans z.r0
  r1 := (hb.cell (p := ⟨b, 1, none⟩) z.lt).trans z.r1
  r2 := (hb.cell (p := ⟨b, 2, none⟩) z.lt).trans z.r2
  r3 := (hb.cell (p := ⟨b, 3, none⟩) z.lt).trans z.r3
  rf := fun j => (hb.frozen (p := ⟨b, j, none⟩) z.lt).trans (z.rf j)
theorem ZeD.grown {c b : Nat} {w w' : World} (z : ZeD b w) (hg : w.grownBy w' (some c)) (hn : b ≠ c) : ZeD b w' where
  lt := Nat.lt_of_lt_of_le z.lt hg.size
  r0 := Draw.kept_cell hg hn z.r0
  r1 := Draw.kept_cell hg hn z.r1
  r2 := Draw.kept_cell hg hn z.r2
  r3 := Draw.kept_cell hg hn z.r3
  rf := fun j => (hg.frozen_far ⟨b, j, none⟩ z.lt (by simpa using hn)).trans (z.rf j)

/-- a deed that a draw makes in block kb, its answer in block b0, the cursor in block c -/
structure StD (c b0 kb : Nat) (a : Option Addr) (len cap : Nat) (w0 w : World) (k : Int) (s : ByteArray) (v n : Int) : Prop where
  at' : At c a len cap w
  t : TwoD b0 kb w k s v n
  n1 : b0 ≠ c
  n2 : kb ≠ c
  l1 : w0.heap.size ≤ b0
  l2 : w0.heap.size ≤ kb
  cb : len = 0 ∨ ∃ b off, a = some ⟨b, off, none⟩ ∧ b < w0.heap.size
  g : w0.grownBy w (some c)
section
variable {c b0 kb : Nat} {a : Option Addr} {len cap : Nat} {w0 w w' : World} {k : Int} {s : ByteArray} {v n : Int}
theorem StD.grown (t : StD c b0 kb a len cap w0 w k s v n) (hg : w.grownBy w' (some c)) (hA : At c a len cap w') : StD c b0 kb a len cap w0 w' k s v n where
  at' := hA
  t := ⟨t.t.bx, Nat.lt_of_lt_of_le t.t.lt hg.size, Draw.kept_cell hg t.n1 t.t.r0, Draw.kept_cell hg t.n1 t.t.r1, Draw.kept_cell hg t.n1 t.t.r2, Draw.kept_cell hg t.n1 t.t.r3,
    fun j => (hg.frozen_far ⟨b0, j, none⟩ (Nat.lt_trans t.t.bx t.t.lt) (by simpa using t.n1)).trans (t.t.rf j),
    Draw.kept_cell hg t.n2 t.t.k0, Draw.kept_cell hg t.n2 t.t.k1, Draw.kept_cell hg t.n2 t.t.k2, Draw.kept_cell hg t.n2 t.t.k3,
    fun j => (hg.frozen_far ⟨kb, j, none⟩ t.t.lt (by simpa using t.n2)).trans (t.t.kf j)⟩
  n1 := t.n1
  n2 := t.n2
  l1 := t.l1
  l2 := t.l2
  cb := t.cb
  g := Cur.grownBy_trans t.g hg
theorem StD.put (t : StD c b0 kb a len cap w0 w k s v n) {k' v' n' : Int} {s' : ByteArray} (j : Nat) (u : Value) (h : TwoD b0 kb (w.setCell ⟨kb, j, none⟩ u) k' s' v' n') : StD c b0 kb a len cap w0 (w.setCell ⟨kb, j, none⟩ u) k' s' v' n' :=
  ⟨Kn.At.put t.at' t.n2 t.cb t.l2 j _, h, t.n1, t.n2, t.l1, t.l2, t.cb, grown_put t.g t.l2 j _⟩
theorem StD.final (t : StD c b0 kb a len cap w0 w k s v n) (v0 v1 v2 v3 : Value) :
    At c a len cap ((((w.setCell ⟨b0, 0, none⟩ v0).setCell ⟨b0, 1, none⟩ v1).setCell ⟨b0, 2, none⟩ v2).setCell ⟨b0, 3, none⟩ v3) ∧ w0.grownBy ((((w.setCell ⟨b0, 0, none⟩ v0).setCell ⟨b0, 1, none⟩ v1).setCell ⟨b0, 2, none⟩ v2).setCell ⟨b0, 3, none⟩ v3) (some c) :=
  ⟨Kn.At.put (Kn.At.put (Kn.At.put (Kn.At.put t.at' t.n1 t.cb t.l1 _ _) t.n1 t.cb t.l1 _ _) t.n1 t.cb t.l1 _ _) t.n1 t.cb t.l1 _ _, grown_put (grown_put (grown_put (grown_put t.g t.l1 _ _) t.l1 _ _) t.l1 _ _) t.l1 _ _⟩
end
/-- how a draw of a deed ends -/
def DrawPost (c : Nat) (a : Option Addr) (len cap : Nat) (w : World) (e : Ending) (w' : World) : Prop := ∃ (k : Int) (s : ByteArray) (v n : Int), e = .returned (.agg #[.int .i64 k, .string s, .int .i64 v, .int .i64 n]) ∧ s.size ≤ 4 ∧ At c a len cap w' ∧ w.grownBy w' (some c)

theorem l1From (c : Nat) (a : Option Addr) (len cap : Nat) (lo hi : Int) (w : World) (hl : len ≤ 4096) (h0 : -10 ≤ lo) (h1 : lo ≤ hi) (h2 : hi ≤ 100) (hc : At c a len cap w) :
    Calls Tryd.prog 34 #[.pointer (some ⟨c, 0, none⟩), .int .i64 lo, .int .i64 hi] w fun e w' => ∃ x : Int, e = .returned (.int .i64 x) ∧ At c a len cap w' ∧ w.grownBy w' (some c) := by
  have hw1 : IntKind.i64.wrap (hi - lo) = hi - lo := by rw [IntKind.wrap_i64]; omega
  have hw2 : IntKind.i64.wrap (hi - lo + 1) = hi - lo + 1 := by rw [IntKind.wrap_i64]; omega
  go_enter Tryd.func34, Tryd.ntmps34
  go_wp2_with fail
  refine (Cur.below c a len cap _ _ hl (by omega) hc).mono ?_
  rintro e w1 ⟨x, rfl, hx0, hx1, hA1, hG1⟩
  have hx2 := hx1 (by omega)
  go_wp2
  go_ret
  exact ⟨_, rfl, hA1, hG1⟩

set_option maxHeartbeats 12800000 in
theorem l16Draw (c : Nat) (a : Option Addr) (len cap : Nat) (w : World) (hl : len ≤ 4096) (hc : At c a len cap w) :
    Calls Tryd.prog 21 #[.pointer (some ⟨c, 0, none⟩)] w (DrawPost c a len cap w) := by
  have hclt := hc.lt
  have hcode := code_lt hc
  have P0 : Hid (w.grownBy (w.alloc (.cells #[.int .i64 0, .string ⟨#[]⟩, .int .i64 0, .int .i64 0] 25)) (some c) ∧ ZeD w.heap.size (w.alloc (.cells #[.int .i64 0, .string ⟨#[]⟩, .int .i64 0, .int .i64 0] 25)) ∧ At c a len cap (w.alloc (.cells #[.int .i64 0, .string ⟨#[]⟩, .int .i64 0, .int .i64 0] 25))) := ⟨World.grownBy_alloc _ _ _, zeD_new w _, Draw.at_alloc hc _⟩
  go_enter Tryd.func21, Tryd.ntmps21
  go_wp2_with fail
  generalize w.alloc (.cells #[.int .i64 0, .string ⟨#[]⟩, .int .i64 0, .int .i64 0] 25) = w0 at P0 ⊢
  obtain ⟨G0, Z0, A0⟩ := P0
  refine (Cur.below c a len cap 4 _ hl (by omega) A0).mono ?_
  rintro e w1 ⟨x, rfl, hx0, hx1, A1, g1⟩
  have hx2 := hx1 (by omega)
  have G1 := Cur.grownBy_trans G0 g1
  have Z1 := Z0.grown g1 (by omega)
  clear g1 A0 Z0 G0 hx1
  go_wp2_with fail
  refine (Cur.below c a len cap 4 _ hl (by omega) (Draw.at_alloc A1 _)).mono ?_
  rintro e w2 ⟨y, rfl, hy0, hy1, A2, g2⟩
  have hy2 := hy1 (by omega)
  obtain ⟨s, hs, hss⟩ := lit_str (l := [⟨#[97]⟩, ⟨#[98]⟩, ⟨#[99]⟩, ⟨#[100, 100]⟩]) A1.lt g2 y.toNat (by simp; omega) 4 (by decide)
  have G2 := Cur.grownBy_trans (Cur.grownBy_trans G1 (World.grownBy_alloc _ _ _)) g2
  have Z2 := (Z1.grown (World.grownBy_alloc _ _ (some c)) (by omega)).grown g2 (by omega)
  clear g2 A1 Z1 G1 hy1
  have S3 : Hid (StD c w.heap.size w2.heap.size a len cap w (w2.alloc (.cells #[.int .i64 (1 + x), .string s, .int .i64 0, .int .i64 0] 25)) (1 + x) s 0 0) := by
    have ga := World.grownBy_alloc w2 (.cells #[.int .i64 (1 + x), .string s, .int .i64 0, .int .i64 0] 25) (some c)
    have Z3 := Z2.grown ga (by omega)
    exact ⟨Draw.at_alloc A2 _, ⟨Z2.lt, by simp, Z3.r0, Z3.r1, Z3.r2, Z3.r3, Z3.rf, by simp, by simp, by simp, by simp, fun j => by simp⟩, by omega, by have := A2.lt; omega, Nat.le_refl _, G2.size, hcode, Cur.grownBy_trans G2 ga⟩
  clear A2 Z2 G2
  go_upto_region 2 with fail
  generalize w2.alloc (.cells #[.int .i64 (1 + x), .string s, .int .i64 0, .int .i64 0] 25) = w3 at S3 ⊢
  generalize w2.heap.size = kb at S3 ⊢
  have S := S3.out
  clear S3 hs
  generalize w1.heap.size = b1 at *
  obtain ⟨kn, hkn⟩ : ∃ kn, 1 + x = kn := ⟨_, rfl⟩
  rw [hkn] at S ⊢
  clear hkn
  have k0 := S.t.k0
  rcases (show kn = 2 ∨ kn = 4 ∨ (kn ≠ 2 ∧ kn ≠ 4) by omega) with rfl | rfl | ⟨hx1, hx3⟩
  case' inl =>
    go_upto_region 6 with fail
    have SS : Hid (∃ k v n, StD c w.heap.size kb a len cap w w3 k s v n) := ⟨_, _, _, S⟩
    clear S k0
    generalize hW : w3 = W at SS ⊢
    clear hW
  case' inr.inl =>
    go_wp2_with fail
    refine (Cur.below c a len cap 4 _ hl (by omega) S.at').mono ?_
    rintro e w25 ⟨z2, rfl, _, _, A5, g5⟩
    replace S := S.grown g5 A5
    clear A5 g5 k0
    have kk := S.t.k2
    have ff := S.t.kf 2
    have HP : Hid (StD c w.heap.size kb a len cap w (_) 4 s z2 0) := S.put 2 _ (S.t.set2 z2)
    clear S
    go_upto_region 4 with fail
    generalize World.setCell _ _ _ = w4 at HP ⊢
    clear kk ff
    have S := HP.out
    clear HP
    have k0 := S.t.k0
    go_wp2_with fail
    refine (Cur.below c a len cap 4 _ hl (by omega) S.at').mono ?_
    rintro e w35 ⟨z3, rfl, _, _, A5, g5⟩
    replace S := S.grown g5 A5
    clear A5 g5 k0
    have kk := S.t.k3
    have ff := S.t.kf 3
    have HP : Hid (StD c w.heap.size kb a len cap w (_) 4 s z2 z3) := S.put 3 _ (S.t.set3 z3)
    clear S
    go_upto_region 6 with fail
    generalize World.setCell _ _ _ = W at HP ⊢
    clear kk ff
    have S := HP.out
    clear HP
    have k0 := S.t.k0
    have SS : Hid (∃ k v n, StD c w.heap.size kb a len cap w W k s v n) := ⟨_, _, _, S⟩
    clear S k0
  case' inr.inr =>
    have hk2 : (kn != 2) = true := by simpa using hx1
    have hk4 : (kn == 4) = false := by simpa using hx3
    go_wp2_with fail
    refine (Cur.below c a len cap 4 _ hl (by omega) S.at').mono ?_
    rintro e w25 ⟨z2, rfl, _, _, A5, g5⟩
    replace S := S.grown g5 A5
    clear A5 g5 k0
    have kk := S.t.k2
    have ff := S.t.kf 2
    have HP : Hid (StD c w.heap.size kb a len cap w (_) kn s z2 0) := S.put 2 _ (S.t.set2 z2)
    clear S
    go_upto_region 4 with fail
    generalize World.setCell _ _ _ = w4 at HP ⊢
    clear kk ff
    have S := HP.out
    clear HP
    have k0 := S.t.k0
    go_upto_region 6 with fail
    generalize hW : w4 = W at S ⊢
    clear hW
    have SS : Hid (∃ k v n, StD c w.heap.size kb a len cap w W k s v n) := ⟨_, _, _, S⟩
    clear S k0 hk2 hk4
  all_goals
    obtain ⟨k, v, n, S⟩ := SS.out
    clear SS
    go_wp2_with fail
    refine (Cur.once c a len cap 8 _ hl (by omega) S.at').mono ?_
    rintro e w7 ⟨b, rfl, A7, g7⟩
    replace S := S.grown g7 A7
    clear A7 g7
    cases b
    · obtain ⟨_, _, r0, r1, r2, r3, rf, k0, k1, k2, k3, _⟩ := S.t
      have rf0 := rf 0
      have rf1 := rf 1
      have rf2 := rf 2
      have rf3 := rf 3
      have HQ : Hid (_) := put4D r0 r1 r2 r3 (.int .i64 k) (.string s) (.int .i64 v) (.int .i64 n)
      have HF : Hid (_) := S.final (.int .i64 k) (.string s) (.int .i64 v) (.int .i64 n)
      clear rf S
      go_wp2
      obtain ⟨q0, q1, q2, q3⟩ := HQ.out
      exact bodyPost_ret (v := .agg #[.int .i64 k, .string s, .int .i64 v, .int .i64 n]) (by simp [results, Tryd.results21, go_sem, q0, q1, q2, q3]) rfl ⟨k, s, v, n, rfl, hss, HF.out.1, HF.out.2⟩
    · go_wp2_with fail
      refine (Cur.below c a len cap 4 _ hl (by omega) S.at').mono ?_
      rintro e w8 ⟨y8, rfl, hy80, hy81, A8, g8⟩
      replace S := S.grown g8 A8
      have hy82 := hy81 (by omega)
      clear A8 g8 hy81
      rcases (show y8 = 0 ∨ y8 = 1 ∨ y8 = 2 ∨ y8 = 3 by omega) with rfl | rfl | rfl | rfl
      · go_wp2_with fail
        refine (l1From c a len cap (-1) 6 _ hl (by omega) (by omega) (by omega) S.at').mono ?_
        rintro e w9 ⟨z, rfl, A9, g9⟩
        replace S := S.grown g9 A9
        clear A9 g9
        have kk := S.t.k0
        have ff := S.t.kf 0
        have HP : Hid (StD c w.heap.size kb a len cap w (_) z s v n) := S.put 0 _ (S.t.set0 z)
        clear S
        go_upto_region 16 with fail
        generalize World.setCell _ _ _ = W9 at HP ⊢
        clear kk ff
        have S := HP.out
        clear HP
        obtain ⟨_, _, r0, r1, r2, r3, rf, k0, k1, k2, k3, _⟩ := S.t
        have rf0 := rf 0
        have rf1 := rf 1
        have rf2 := rf 2
        have rf3 := rf 3
        have HQ : Hid (_) := put4D r0 r1 r2 r3 (.int .i64 z) (.string s) (.int .i64 v) (.int .i64 n)
        have HF : Hid (_) := S.final (.int .i64 z) (.string s) (.int .i64 v) (.int .i64 n)
        clear rf S
        go_wp2
        obtain ⟨q0, q1, q2, q3⟩ := HQ.out
        exact bodyPost_ret (v := .agg #[.int .i64 z, .string s, .int .i64 v, .int .i64 n]) (by simp [results, Tryd.results21, go_sem, q0, q1, q2, q3]) rfl ⟨z, s, v, n, rfl, hss, HF.out.1, HF.out.2⟩
      · go_wp2_with fail
        have A8' := Draw.at_alloc S.at' (.cells #[.string ⟨#[]⟩, .string ⟨#[65]⟩, .string ⟨#[97, 98, 99, 100]⟩] 9)
        refine (Cur.below c a len cap 3 _ hl (by omega) A8').mono ?_
        rintro e w9 ⟨x9, rfl, hx90, hx91, A9, g9⟩
        have hx92 := hx91 (by omega)
        obtain ⟨z, hz, hzs⟩ := lit_str (l := [⟨#[]⟩, ⟨#[65]⟩, ⟨#[97, 98, 99, 100]⟩]) S.at'.lt g9 x9.toNat (by simp; omega) 4 (by decide)
        replace S := (S.grown (World.grownBy_alloc _ _ (some c)) A8').grown g9 A9
        clear A8' A9 g9 hx91
        have kk := S.t.k1
        have ff := S.t.kf 1
        have HP : Hid (StD c w.heap.size kb a len cap w (_) k z v n) := S.put 1 _ (S.t.set1 z)
        clear S
        go_upto_region 16 with fail
        generalize World.setCell _ _ _ = W9 at HP ⊢
        clear kk ff
        have S := HP.out
        clear HP
        obtain ⟨_, _, r0, r1, r2, r3, rf, k0, k1, k2, k3, _⟩ := S.t
        have rf0 := rf 0
        have rf1 := rf 1
        have rf2 := rf 2
        have rf3 := rf 3
        have HQ : Hid (_) := put4D r0 r1 r2 r3 (.int .i64 k) (.string z) (.int .i64 v) (.int .i64 n)
        have HF : Hid (_) := S.final (.int .i64 k) (.string z) (.int .i64 v) (.int .i64 n)
        clear rf S
        go_wp2
        obtain ⟨q0, q1, q2, q3⟩ := HQ.out
        exact bodyPost_ret (v := .agg #[.int .i64 k, .string z, .int .i64 v, .int .i64 n]) (by simp [results, Tryd.results21, go_sem, q0, q1, q2, q3]) rfl ⟨k, z, v, n, rfl, hzs, HF.out.1, HF.out.2⟩
      · go_wp2_with fail
        have A8' := Draw.at_alloc S.at' (.cells #[.int .i64 (-1), .int .i64 99, .int .i64 100] 2)
        refine (Cur.below c a len cap 3 _ hl (by omega) A8').mono ?_
        rintro e w9 ⟨x9, rfl, hx90, hx91, A9, g9⟩
        have hx92 := hx91 (by omega)
        obtain ⟨z, hz, hz0, hz1⟩ := Draw.lit_int (l := [-1, 99, 100]) S.at'.lt g9 x9.toNat (by simp; omega) (by simp)
        replace S := (S.grown (World.grownBy_alloc _ _ (some c)) A8').grown g9 A9
        clear A8' A9 g9 hx91
        have kk := S.t.k2
        have ff := S.t.kf 2
        have HP : Hid (StD c w.heap.size kb a len cap w (_) k s z n) := S.put 2 _ (S.t.set2 z)
        clear S
        go_upto_region 16 with fail
        generalize World.setCell _ _ _ = W9 at HP ⊢
        clear kk ff
        have S := HP.out
        clear HP
        obtain ⟨_, _, r0, r1, r2, r3, rf, k0, k1, k2, k3, _⟩ := S.t
        have rf0 := rf 0
        have rf1 := rf 1
        have rf2 := rf 2
        have rf3 := rf 3
        have HQ : Hid (_) := put4D r0 r1 r2 r3 (.int .i64 k) (.string s) (.int .i64 z) (.int .i64 n)
        have HF : Hid (_) := S.final (.int .i64 k) (.string s) (.int .i64 z) (.int .i64 n)
        clear rf S
        go_wp2
        obtain ⟨q0, q1, q2, q3⟩ := HQ.out
        exact bodyPost_ret (v := .agg #[.int .i64 k, .string s, .int .i64 z, .int .i64 n]) (by simp [results, Tryd.results21, go_sem, q0, q1, q2, q3]) rfl ⟨k, s, z, n, rfl, hss, HF.out.1, HF.out.2⟩
      · go_wp2_with fail
        have A8' := Draw.at_alloc S.at' (.cells #[.int .i64 (-1), .int .i64 1, .int .i64 99, .int .i64 100] 2)
        refine (Cur.below c a len cap 4 _ hl (by omega) A8').mono ?_
        rintro e w9 ⟨x9, rfl, hx90, hx91, A9, g9⟩
        have hx92 := hx91 (by omega)
        obtain ⟨z, hz, hz0, hz1⟩ := Draw.lit_int (l := [-1, 1, 99, 100]) S.at'.lt g9 x9.toNat (by simp; omega) (by simp)
        replace S := (S.grown (World.grownBy_alloc _ _ (some c)) A8').grown g9 A9
        clear A8' A9 g9 hx91
        have kk := S.t.k3
        have ff := S.t.kf 3
        have HP : Hid (StD c w.heap.size kb a len cap w (_) k s v z) := S.put 3 _ (S.t.set3 z)
        clear S
        go_upto_region 16 with fail
        generalize World.setCell _ _ _ = W9 at HP ⊢
        clear kk ff
        have S := HP.out
        clear HP
        obtain ⟨_, _, r0, r1, r2, r3, rf, k0, k1, k2, k3, _⟩ := S.t
        have rf0 := rf 0
        have rf1 := rf 1
        have rf2 := rf 2
        have rf3 := rf 3
        have HQ : Hid (_) := put4D r0 r1 r2 r3 (.int .i64 k) (.string s) (.int .i64 v) (.int .i64 z)
        have HF : Hid (_) := S.final (.int .i64 k) (.string s) (.int .i64 v) (.int .i64 z)
        clear rf S
        go_wp2
        obtain ⟨q0, q1, q2, q3⟩ := HQ.out
        exact bodyPost_ret (v := .agg #[.int .i64 k, .string s, .int .i64 v, .int .i64 z]) (by simp [results, Tryd.results21, go_sem, q0, q1, q2, q3]) rfl ⟨k, s, v, z, rfl, hss, HF.out.1, HF.out.2⟩

theorem code_below {w w' : World} {a : Option Addr} {len : Nat} (h : Cur.Code w a len) (hb : Below w.heap.size w w') : Cur.Code w' a len := by
  rcases h with h | ⟨b, off, ha, hlt, hc⟩
  · exact .inl h
  · refine .inr ⟨b, off, ha, Nat.lt_of_lt_of_le hlt hb.size, fun j hj => ?_⟩
    obtain ⟨z, hz, hz'⟩ := hc j hj
    exact ⟨z, (hb.cell (p := ⟨b, off + j, none⟩) hlt).trans hz, hz'⟩

/-- a deed is drawn -/
def DrawnD (w : World) (e : Ending) (w' : World) : Prop := ∃ (k : Int) (s : ByteArray) (v n : Int), e = .returned (.agg #[.int .i64 k, .string s, .int .i64 v, .int .i64 n]) ∧ s.size ≤ 4 ∧ Below w.heap.size w w'

set_option maxHeartbeats 1600000 in
theorem drawDeedOk (a : Option Addr) (len cap : Nat) (w : World) (hl : len ≤ 4096) (hc : Cur.Code w a len) : Calls Tryd.prog 18 #[.slice a len cap] w (DrawnD w) := by
  have B0 : Below w.heap.size w (w.alloc (.cells #[.int .i64 0, .string ⟨#[]⟩, .int .i64 0, .int .i64 0] 25)) := (Below.refl _ _).alloc (Nat.le_refl _) _
  have P0 : Hid (Below w.heap.size w (w.alloc (.cells #[.int .i64 0, .string ⟨#[]⟩, .int .i64 0, .int .i64 0] 25)) ∧ ZeD w.heap.size (w.alloc (.cells #[.int .i64 0, .string ⟨#[]⟩, .int .i64 0, .int .i64 0] 25))) := ⟨B0, zeD_new w _⟩
  clear B0
  go_enter Tryd.func18, Tryd.ntmps18
  go_wp2_with fail
  generalize w.alloc (.cells #[.int .i64 0, .string ⟨#[]⟩, .int .i64 0, .int .i64 0] 25) = w0 at P0 ⊢
  obtain ⟨B0, Z0⟩ := P0
  refine (Cur.new a len cap _ hl (code_below hc B0)).mono ?_
  rintro e w1 ⟨rfl, A1, b1⟩
  have Z1 := Z0.below b1
  have B1 := B0.trans (b1.mono B0.size)
  have hlt := Z0.lt
  clear b1 B0 Z0
  generalize w0.heap.size = c at A1 hlt ⊢
  go_wp2_with fail
  refine (l16Draw c a len cap _ hl A1).mono ?_
  rintro e w2 ⟨k, s, v, n, rfl, hs, A2, g2⟩
  have Z2 := Z1.grown g2 (by omega)
  have B2 : Below w.heap.size w w2 := B1.grown g2 B1.size (fun k hk => by simp at hk; omega)
  clear g2 B1 Z1 A1 A2
  obtain ⟨_, r0, r1, r2, r3, rf⟩ := Z2
  have rf0 := rf 0
  have rf1 := rf 1
  have rf2 := rf 2
  have rf3 := rf 3
  clear rf
  have HQ : Hid (_) := put4D r0 r1 r2 r3 (.int .i64 k) (.string s) (.int .i64 v) (.int .i64 n)
  go_wp2
  obtain ⟨q0, q1, q2, q3⟩ := HQ.out
  exact bodyPost_ret (v := .agg #[.int .i64 k, .string s, .int .i64 v, .int .i64 n]) (by simp [results, Tryd.results18, go_sem, q0, q1, q2, q3]) rfl ⟨k, s, v, n, rfl, hs, put4B B2 _ _ _ _⟩

set_option maxHeartbeats 1600000 in
theorem drawShowDeed (a : Option Addr) (len cap : Nat) (w : World) (hl : len ≤ 4096) (hc : Cur.Code w a len) : Calls Tryd.prog 7 #[.slice a len cap] w (DrawnD w) := by
  have B0 : Below w.heap.size w (w.alloc (.cells #[.int .i64 0, .string ⟨#[]⟩, .int .i64 0, .int .i64 0] 25)) := (Below.refl _ _).alloc (Nat.le_refl _) _
  have P0 : Hid (Below w.heap.size w (w.alloc (.cells #[.int .i64 0, .string ⟨#[]⟩, .int .i64 0, .int .i64 0] 25)) ∧ ZeD w.heap.size (w.alloc (.cells #[.int .i64 0, .string ⟨#[]⟩, .int .i64 0, .int .i64 0] 25))) := ⟨B0, zeD_new w _⟩
  clear B0
  go_enter Tryd.func7, Tryd.ntmps7
  go_wp2_with fail
  generalize w.alloc (.cells #[.int .i64 0, .string ⟨#[]⟩, .int .i64 0, .int .i64 0] 25) = w0 at P0 ⊢
  obtain ⟨B0, Z0⟩ := P0
  refine (drawDeedOk a len cap _ hl (code_below hc B0)).mono ?_
  rintro e w2 ⟨k, s, v, n, rfl, hs, b2⟩
  have Z2 := Z0.below b2
  have B2 := B0.trans (b2.mono B0.size)
  clear b2 B0 Z0
  obtain ⟨_, r0, r1, r2, r3, rf⟩ := Z2
  have rf0 := rf 0
  have rf1 := rf 1
  have rf2 := rf 2
  have rf3 := rf 3
  clear rf
  have HQ : Hid (_) := put4D r0 r1 r2 r3 (.int .i64 k) (.string s) (.int .i64 v) (.int .i64 n)
  go_wp2
  obtain ⟨q0, q1, q2, q3⟩ := HQ.out
  exact bodyPost_ret (v := .agg #[.int .i64 k, .string s, .int .i64 v, .int .i64 n]) (by simp [results, Tryd.results7, go_sem, q0, q1, q2, q3]) rfl ⟨k, s, v, n, rfl, hs, put4B B2 _ _ _ _⟩

theorem textD_len (d : D) : (textD d).size ≤ 200 := by
  unfold textD
  cases h : okD d
  · simp [ByteArray.size]
  · rw [if_pos rfl, Kn.B_size]
    have o := (okD_iff d).1 h
    obtain ⟨kind, key, val, new⟩ := d
    obtain ⟨k1, k4, kb, v0, v1, n0, n1, cut, ifs⟩ := o
    dsimp only at k1 k4 kb v0 v1 n0 n1 cut ifs ⊢
    have hks : key.data.toList.length ≤ 3 := by
      unfold keyB at kb; simp at kb
      have : key.data.toList.length = key.size := by simp
      omega
    have lv := Kn.dec_length 1 val.toNat (by omega) (by omega)
    have ln := Kn.dec_length 1 new.toNat (by omega) (by omega)
    have hk : kind = 1 ∨ kind = 2 ∨ kind = 3 ∨ kind = 4 := by omega
    rcases hk with rfl | rfl | rfl | rfl <;> simp [showD, wordsD, joinW, kindW] <;> simp at hks <;> omega

/-- a text is drawn -/
def DrawnT (w : World) (e : Ending) (w' : World) : Prop := ∃ t : ByteArray, e = .returned (.string t) ∧ t.size ≤ 2000 ∧ Below w.heap.size w w'

set_option maxHeartbeats 1600000 in
theorem drawReadDeed (a : Option Addr) (len cap : Nat) (w : World) (hl : len ≤ 4096) (hc : Cur.Code w a len) : Calls Tryd.prog 9 #[.slice a len cap] w (DrawnT w) := by
  go_enter Tryd.func9, Tryd.ntmps9
  go_wp2_with fail
  refine (Cur.new a len cap _ hl hc).mono ?_
  rintro e w1 ⟨rfl, A1, B1⟩
  go_wp2_with fail
  refine (l16Draw _ a len cap _ hl A1).mono ?_
  rintro e w2 ⟨k, s, v, n, rfl, hs, A2, g2⟩
  have B2 := Draw.below_of_grown B1 (Nat.le_refl _) g2
  clear g2 B1 A1
  go_wp2_with fail
  refine (specShowDeed ⟨k, s, v, n⟩ _ (by show s.size ≤ _; omega)).mono ?_
  rintro e w3 ⟨rfl, b3⟩
  have A3 := A2.below b3
  have B3 := B2.trans (b3.mono B2.size)
  have hlen := textD_len ⟨k, s, v, n⟩
  clear b3 B2 A2
  generalize textD ⟨k, s, v, n⟩ = T at hlen ⊢
  go_wp2_with fail
  refine (Cur.once _ a len cap 2 _ hl (by omega) A3).mono ?_
  rintro e w4 ⟨b, rfl, A4, g4⟩
  have B4 := Draw.below_of_grown B3 (Nat.le_refl _) g4
  clear g4 B3 A3
  cases b
  · go_wp2
    go_ret
    exact ⟨T, rfl, by omega, B4⟩
  · go_wp2_with fail
    refine (Bend.bend _ a len cap T _ _ hl A4 (by omega) (by decide) (by decide)).mono ?_
    rintro e w5 ⟨t, rfl, ht, A5, g5⟩
    have B5 := Draw.below_of_grown B4 (Nat.le_refl _) g5
    clear g5 B4 A4
    go_wp2
    go_ret
    exact ⟨t, rfl, by omega, B5⟩

end De
end Go.Proofs.YtghpmhfhenndiaaDoor
