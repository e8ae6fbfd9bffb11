/-
  What the model's draws for knots do: they answer a knot, whatever it is, its word of at most 13 bytes, and write into nothing that was there but the cursor; for codes of at most 4096 bytes.
-/
import Derived.Test.YtfjmenhofllchaaGreatDoorDraw
import Derived.Test.YtfjmenhofllchaaGreatDoorZero
import Derived.Deep.AppendLies
namespace Go.Proofs.YtfjmenhofllchaaGreatDoor
open Go.RowKit
set_option maxRecDepth 100000
namespace Kn
open Cur (At)

theorem lit_str {w w2 : World} {c : Nat} {t : TypeId} {l : List ByteArray} (hc : c < w.heap.size) (hG : (w.alloc (.cells (l.map Value.string).toArray t)).grownBy w2 (some c)) (j : Nat) (hj : j < l.length) (n : Nat)
    (hl : ∀ x ∈ l, x.size ≤ n) : ∃ v : ByteArray, w2.cell? ⟨w.heap.size, j, none⟩ = some (.string v) ∧ v.size ≤ n := by
  refine ⟨l[j], Draw.kept_cell hG (by omega) ?_, hl _ (List.getElem_mem hj)⟩
  rw [World.cell?_alloc_new]
  simp [hj]

set_option maxHeartbeats 1600000 in
theorem drawWord (c : Nat) (a : Option Addr) (len cap : Nat) (w : World) (hl : len ≤ 4096) (hc : At c a len cap w) :
    Calls Tryz.prog 62 #[.pointer (some ⟨c, 0, none⟩)] w fun e w' => ∃ s : ByteArray, e = .returned (.string s) ∧ s.size ≤ 13 ∧ At c a len cap w' ∧ w.grownBy w' (some c) := by
  go_enter Tryz.func62, Tryz.ntmps62
  go_wp2_with fail
  refine (Cur.below c a len cap 10 _ hl (by omega) (Draw.at_alloc hc _)).mono ?_
  rintro e w2 ⟨x, rfl, hx0, hx1, hA2, hG2⟩
  have hx2 := hx1 (by omega)
  clear hx1
  obtain ⟨v, hv, hvs⟩ := lit_str (l := [⟨#[]⟩, ⟨#[]⟩, ⟨#[112, 117, 116, 32, 97, 32, 53]⟩, ⟨#[97, 100, 100, 32, 97, 32, 51]⟩, ⟨#[99, 117, 116, 32, 97]⟩, ⟨#[112, 117, 116, 32, 98, 32, 55]⟩, ⟨#[105, 102, 32, 97, 32, 53, 32, 57]⟩, ⟨#[97, 100, 100, 32, 98, 32, 57, 57]⟩, ⟨#[119, 104, 97, 116]⟩, ⟨#[32, 120]⟩]) hc.lt hG2 x.toNat (by simp; omega) 13 (by decide)
  have G2 : w.grownBy w2 (some c) := Cur.grownBy_trans (World.grownBy_alloc _ _ _) hG2
  clear hG2
  go_wp2
  go_ret
  exact ⟨v, rfl, hvs, hA2, G2⟩

/-- a knot that a draw makes in block kb, its answer in block b0, the cursor in block c -/
structure St (c b0 kb : Nat) (a : Option Addr) (len cap : Nat) (w0 w : World) (h r f : Int) (s : ByteArray) : Prop where
  at' : At c a len cap w
  z : Zero b0 w
  k0 : w.cell? ⟨kb, 0, none⟩ = some (.int .i64 h)
  k1 : w.cell? ⟨kb, 1, none⟩ = some (.int .i64 r)
  k2 : w.cell? ⟨kb, 2, none⟩ = some (.int .i64 f)
  k3 : w.cell? ⟨kb, 3, none⟩ = some (.string s)
  f0 : w.frozen? ⟨kb, 0, none⟩ = false
  f1 : w.frozen? ⟨kb, 1, none⟩ = false
  f2 : w.frozen? ⟨kb, 2, none⟩ = false
  f3 : w.frozen? ⟨kb, 3, none⟩ = false
  lt : kb < w.heap.size
  n1 : b0 ≠ c
  n2 : kb ≠ c
  n3 : kb ≠ b0
  l1 : w0.heap.size ≤ b0
  l2 : w0.heap.size ≤ kb
  cb : len = 0 ∨ ∃ b off, a = some ⟨b, off, none⟩ ∧ b < w0.heap.size
  g : w0.grownBy w (some c)

theorem Zero.grown {c b : Nat} {w w' : World} (z : Zero b w) (hg : w.grownBy w' (some c)) (hn : b ≠ c) : Zero b w' where
  lt := Nat.lt_of_lt_of_le z.lt hg.size
  r0 := Draw.kept_cell hg hn z.r0
  r1 := Draw.kept_cell hg hn z.r1
  r2 := Draw.kept_cell hg hn z.r2
  r3 := Draw.kept_cell hg hn z.r3
  f0 := (hg.frozen_far ⟨b, 0, none⟩ z.lt (by simpa using hn)).trans z.f0
  f1 := (hg.frozen_far ⟨b, 1, none⟩ z.lt (by simpa using hn)).trans z.f1
  f2 := (hg.frozen_far ⟨b, 2, none⟩ z.lt (by simpa using hn)).trans z.f2
  f3 := (hg.frozen_far ⟨b, 3, none⟩ z.lt (by simpa using hn)).trans z.f3

theorem St.grown {c b0 kb : Nat} {a : Option Addr} {len cap : Nat} {w0 w w' : World} {h r f : Int} {s : ByteArray} (t : St c b0 kb a len cap w0 w h r f s) (hg : w.grownBy w' (some c)) (hA : At c a len cap w') : St c b0 kb a len cap w0 w' h r f s where
  at' := hA
  z := t.z.grown hg t.n1
  k0 := Draw.kept_cell hg t.n2 t.k0
  k1 := Draw.kept_cell hg t.n2 t.k1
  k2 := Draw.kept_cell hg t.n2 t.k2
  k3 := Draw.kept_cell hg t.n2 t.k3
  f0 := (hg.frozen_far ⟨kb, 0, none⟩ t.lt (by simpa using t.n2)).trans t.f0
  f1 := (hg.frozen_far ⟨kb, 1, none⟩ t.lt (by simpa using t.n2)).trans t.f1
  f2 := (hg.frozen_far ⟨kb, 2, none⟩ t.lt (by simpa using t.n2)).trans t.f2
  f3 := (hg.frozen_far ⟨kb, 3, none⟩ t.lt (by simpa using t.n2)).trans t.f3
  lt := Nat.lt_of_lt_of_le t.lt hg.size
  n1 := t.n1
  n2 := t.n2
  n3 := t.n3
  l1 := t.l1
  l2 := t.l2
  cb := t.cb
  g := Cur.grownBy_trans t.g hg

theorem grown_put {c kb : Nat} {w0 w : World} (h : w0.grownBy w (some c)) (hk : w0.heap.size ≤ kb) (j : Nat) (v : Value) : w0.grownBy (w.setCell ⟨kb, j, none⟩ v) (some c) where
  os := h.os
  tape := h.tape
  output := h.output
  size := by simpa using h.size
  block := fun i hi hne => (heap_setCell_other w ⟨kb, j, none⟩ i v (fun e => by have : kb = i := e.symm; omega)).trans (h.block i hi hne)

theorem At.put {c kb : Nat} {a : Option Addr} {len cap : Nat} {w : World} (h : At c a len cap w) (hn : kb ≠ c) {n0 : Nat} (hb : len = 0 ∨ ∃ b off, a = some ⟨b, off, none⟩ ∧ b < n0) (hk : n0 ≤ kb) (j : Nat) (v : Value) : At c a len cap (w.setCell ⟨kb, j, none⟩ v) where
  lt := by simpa using h.lt
  b := (World.cell?_setCell_other _ _ _ _ (by intro e; injection e with e _; exact hn e)).trans h.b
  i := by obtain ⟨i, hi, hh⟩ := h.i; exact ⟨i, (World.cell?_setCell_other _ _ _ _ (by intro e; injection e with e _; exact hn e)).trans hi, hh⟩
  h := by obtain ⟨i, hi, hh⟩ := h.h; exact ⟨i, (World.cell?_setCell_other _ _ _ _ (by intro e; injection e with e _; exact hn e)).trans hi, hh⟩
  f1 := by simpa using h.f1
  f2 := by simpa using h.f2
  bytes := by
    rcases h.bytes with h0 | ⟨b, off, ha, hne, hlt, hcell⟩
    · exact .inl h0
    · rcases hb with h0 | ⟨b', off', ha', hlt'⟩
      · exact .inl h0
      · have eb : b = b' := by rw [ha] at ha'; injection ha' with e; injection e
        refine .inr ⟨b, off, ha, hne, by simpa using hlt, fun i hi => ?_⟩
        obtain ⟨z, hz, hz'⟩ := hcell i hi
        exact ⟨z, (World.cell?_setCell_other _ _ _ _ (by intro e; injection e with e _; omega)).trans hz, hz'⟩

theorem Zero.put' {b kb : Nat} {w : World} (z : Zero b w) (hn : kb ≠ b) (j : Nat) (v : Value) : Zero b (w.setCell ⟨kb, j, none⟩ v) where
  lt := by simpa using z.lt
  r0 := (World.cell?_setCell_other _ _ _ _ (by intro e; injection e with e _; exact hn e)).trans z.r0
  r1 := (World.cell?_setCell_other _ _ _ _ (by intro e; injection e with e _; exact hn e)).trans z.r1
  r2 := (World.cell?_setCell_other _ _ _ _ (by intro e; injection e with e _; exact hn e)).trans z.r2
  r3 := (World.cell?_setCell_other _ _ _ _ (by intro e; injection e with e _; exact hn e)).trans z.r3
  f0 := by simpa using z.f0
  f1 := by simpa using z.f1
  f2 := by simpa using z.f2
  f3 := by simpa using z.f3

theorem St.set0 {c b0 kb : Nat} {a : Option Addr} {len cap : Nat} {w0 w : World} {h r f : Int} {s : ByteArray} (t : St c b0 kb a len cap w0 w h r f s) (x : Int) : St c b0 kb a len cap w0 (w.setCell ⟨kb, 0, none⟩ (.int .i64 x)) x r f s where
  at' := At.put t.at' t.n2 t.cb t.l2 0 _
  z := t.z.put' t.n3 0 _
  k0 := World.cell?_setCell_same _ _ _ t.k0
  k1 := (World.cell?_setCell_other _ _ _ _ (by simp)).trans t.k1
  k2 := (World.cell?_setCell_other _ _ _ _ (by simp)).trans t.k2
  k3 := (World.cell?_setCell_other _ _ _ _ (by simp)).trans t.k3
  f0 := by simpa using t.f0
  f1 := by simpa using t.f1
  f2 := by simpa using t.f2
  f3 := by simpa using t.f3
  lt := by simpa using t.lt
  n1 := t.n1
  n2 := t.n2
  n3 := t.n3
  l1 := t.l1
  l2 := t.l2
  cb := t.cb
  g := grown_put t.g t.l2 0 _

theorem St.set1 {c b0 kb : Nat} {a : Option Addr} {len cap : Nat} {w0 w : World} {h r f : Int} {s : ByteArray} (t : St c b0 kb a len cap w0 w h r f s) (x : Int) : St c b0 kb a len cap w0 (w.setCell ⟨kb, 1, none⟩ (.int .i64 x)) h x f s where
  at' := At.put t.at' t.n2 t.cb t.l2 1 _
  z := t.z.put' t.n3 1 _
  k0 := (World.cell?_setCell_other _ _ _ _ (by simp)).trans t.k0
  k1 := World.cell?_setCell_same _ _ _ t.k1
  k2 := (World.cell?_setCell_other _ _ _ _ (by simp)).trans t.k2
  k3 := (World.cell?_setCell_other _ _ _ _ (by simp)).trans t.k3
  f0 := by simpa using t.f0
  f1 := by simpa using t.f1
  f2 := by simpa using t.f2
  f3 := by simpa using t.f3
  lt := by simpa using t.lt
  n1 := t.n1
  n2 := t.n2
  n3 := t.n3
  l1 := t.l1
  l2 := t.l2
  cb := t.cb
  g := grown_put t.g t.l2 1 _

theorem St.set2 {c b0 kb : Nat} {a : Option Addr} {len cap : Nat} {w0 w : World} {h r f : Int} {s : ByteArray} (t : St c b0 kb a len cap w0 w h r f s) (x : Int) : St c b0 kb a len cap w0 (w.setCell ⟨kb, 2, none⟩ (.int .i64 x)) h r x s where
  at' := At.put t.at' t.n2 t.cb t.l2 2 _
  z := t.z.put' t.n3 2 _
  k0 := (World.cell?_setCell_other _ _ _ _ (by simp)).trans t.k0
  k1 := (World.cell?_setCell_other _ _ _ _ (by simp)).trans t.k1
  k2 := World.cell?_setCell_same _ _ _ t.k2
  k3 := (World.cell?_setCell_other _ _ _ _ (by simp)).trans t.k3
  f0 := by simpa using t.f0
  f1 := by simpa using t.f1
  f2 := by simpa using t.f2
  f3 := by simpa using t.f3
  lt := by simpa using t.lt
  n1 := t.n1
  n2 := t.n2
  n3 := t.n3
  l1 := t.l1
  l2 := t.l2
  cb := t.cb
  g := grown_put t.g t.l2 2 _

theorem St.set3 {c b0 kb : Nat} {a : Option Addr} {len cap : Nat} {w0 w : World} {h r f : Int} {s : ByteArray} (t : St c b0 kb a len cap w0 w h r f s) (x : ByteArray) : St c b0 kb a len cap w0 (w.setCell ⟨kb, 3, none⟩ (.string x)) h r f x where
  at' := At.put t.at' t.n2 t.cb t.l2 3 _
  z := t.z.put' t.n3 3 _
  k0 := (World.cell?_setCell_other _ _ _ _ (by simp)).trans t.k0
  k1 := (World.cell?_setCell_other _ _ _ _ (by simp)).trans t.k1
  k2 := (World.cell?_setCell_other _ _ _ _ (by simp)).trans t.k2
  k3 := World.cell?_setCell_same _ _ _ t.k3
  f0 := by simpa using t.f0
  f1 := by simpa using t.f1
  f2 := by simpa using t.f2
  f3 := by simpa using t.f3
  lt := by simpa using t.lt
  n1 := t.n1
  n2 := t.n2
  n3 := t.n3
  l1 := t.l1
  l2 := t.l2
  cb := t.cb
  g := grown_put t.g t.l2 3 _

theorem code_lt {c : Nat} {a : Option Addr} {len cap : Nat} {w : World} (h : At c a len cap w) : len = 0 ∨ ∃ b off, a = some ⟨b, off, none⟩ ∧ b < w.heap.size := by
  rcases h.bytes with h0 | ⟨b, off, ha, _, hlt, _⟩
  · exact .inl h0
  · exact .inr ⟨b, off, ha, hlt⟩

theorem St.final {c b0 kb : Nat} {a : Option Addr} {len cap : Nat} {w0 w : World} {h r f : Int} {s : ByteArray} (t : St c b0 kb a len cap w0 w h r f s) (v0 v1 v2 v3 : Value) :
    At c a len cap ((((w.setCell ⟨b0, 0, none⟩ v0).setCell ⟨b0, 1, none⟩ v1).setCell ⟨b0, 2, none⟩ v2).setCell ⟨b0, 3, none⟩ v3) ∧ w0.grownBy ((((w.setCell ⟨b0, 0, none⟩ v0).setCell ⟨b0, 1, none⟩ v1).setCell ⟨b0, 2, none⟩ v2).setCell ⟨b0, 3, none⟩ v3) (some c) :=
  ⟨At.put (At.put (At.put (At.put t.at' t.n1 t.cb t.l1 _ _) t.n1 t.cb t.l1 _ _) t.n1 t.cb t.l1 _ _) t.n1 t.cb t.l1 _ _, grown_put (grown_put (grown_put (grown_put t.g t.l1 _ _) t.l1 _ _) t.l1 _ _) t.l1 _ _⟩

/-- how a draw of a knot ends -/
def DrawPost (c : Nat) (a : Option Addr) (len cap : Nat) (w : World) (e : Ending) (w' : World) : Prop := ∃ (h r f : Int) (s : ByteArray), e = .returned (.agg #[.int .i64 h, .int .i64 r, .int .i64 f, .string s]) ∧ s.size ≤ 13 ∧ At c a len cap w' ∧ w.grownBy w' (some c)

set_option maxHeartbeats 6400000 in
theorem draw (c : Nat) (a : Option Addr) (len cap : Nat) (w : World) (hl : len ≤ 4096) (hc : At c a len cap w) :
    Calls Tryz.prog 118 #[.pointer (some ⟨c, 0, none⟩)] w (DrawPost c a len cap w) := by
  have hclt := hc.lt
  have hcode := code_lt hc
  have G0 : w.grownBy (w.alloc (.cells #[.int .i64 0, .int .i64 0, .int .i64 0, .string ⟨#[]⟩] 36)) (some c) := World.grownBy_alloc _ _ _
  have P0 : Hid (w.grownBy (w.alloc (.cells #[.int .i64 0, .int .i64 0, .int .i64 0, .string ⟨#[]⟩] 36)) (some c) ∧ Zero w.heap.size (w.alloc (.cells #[.int .i64 0, .int .i64 0, .int .i64 0, .string ⟨#[]⟩] 36)) ∧ At c a len cap (w.alloc (.cells #[.int .i64 0, .int .i64 0, .int .i64 0, .string ⟨#[]⟩] 36))) := ⟨G0, zero_new w _, Draw.at_alloc hc _⟩
  clear G0
  go_enter Tryz.func118, Tryz.ntmps118
  go_wp2_with fail
  generalize w.alloc (.cells #[.int .i64 0, .int .i64 0, .int .i64 0, .string ⟨#[]⟩] 36) = w0 at P0 ⊢
  obtain ⟨G0, Z0, A0⟩ := P0
  refine (Cur.below c a len cap 4 _ hl (by omega) A0).mono ?_
  rintro e w1 ⟨h, rfl, hh0, hh1, A1, g1⟩
  have G1 := Cur.grownBy_trans G0 g1
  have Z1 := Z0.grown g1 (by omega)
  clear g1 A0 Z0 G0
  go_wp2_with fail
  refine (Cur.below c a len cap 4 _ hl (by omega) A1).mono ?_
  rintro e w2 ⟨r, rfl, hr0, hr1, A2, g2⟩
  have G2 := Cur.grownBy_trans G1 g2
  have Z2 := Z1.grown g2 (by omega)
  clear g2 A1 Z1 G1
  go_wp2_with fail
  refine (drawWord c a len cap _ hl A2).mono ?_
  rintro e w3 ⟨s, rfl, hs, A3, g3⟩
  have G3 := Cur.grownBy_trans G2 g3
  have Z3 := Z2.grown g3 (by omega)
  clear g3 A2 Z2 G2
  have S3 : Hid (St c w.heap.size w3.heap.size a len cap w (w3.alloc (.cells #[.int .i64 h, .int .i64 r, .int .i64 0, .string s] 36)) h r 0 s) :=
    { at' := Draw.at_alloc A3 _, z := Z3.grown (World.grownBy_alloc _ _ (some c)) (by omega), k0 := by simp, k1 := by simp, k2 := by simp, k3 := by simp, f0 := by simp, f1 := by simp, f2 := by simp, f3 := by simp, lt := by simp, n1 := by omega, n2 := by have := A3.lt; omega, n3 := by have := Z3.lt; omega, l1 := Nat.le_refl _, l2 := G3.size, cb := hcode, g := Cur.grownBy_trans G3 (World.grownBy_alloc _ _ _) }
  clear A3 Z3 G3
  by_cases hp : 0 < r
  case' pos =>
    go_wp2_with fail
    generalize w3.alloc (.cells #[.int .i64 h, .int .i64 r, .int .i64 0, .string s] 36) = w4 at S3 ⊢
    have S4 := S3.out
    clear S3
    generalize w3.heap.size = kb at S4 ⊢
    refine (Cur.below c a len cap 12 _ hl (by omega) S4.at').mono ?_
    rintro e w5 ⟨x, rfl, hx0, hx1, A5, g5⟩
    have S5 := S4.grown g5 A5
    have hx2 := hx1 (by omega)
    clear S4 A5 g5 hx1
    go_wp2_with fail
    refine (Base.l1Bit x _ hx0 (by omega)).mono ?_
    rintro e w5' ⟨rfl, rfl⟩
    go_wp2_with fail
    refine (Cur.below c a len cap 12 _ hl (by omega) S5.at').mono ?_
    rintro e w6 ⟨x', rfl, hx0', hx1', A6, g6⟩
    have S6 := S5.grown g6 A6
    have hx2' := hx1' (by omega)
    clear S5 A6 g6 hx1'
    go_wp2_with fail
    refine (Base.l1Bit x' _ hx0' (by omega)).mono ?_
    rintro e w6' ⟨rfl, rfl⟩
    go_wp2_with fail
    refine (Cur.below c a len cap 60 _ hl (by omega) S6.at').mono ?_
    rintro e w6a ⟨x'', rfl, hx0'', hx1'', A6a, g6a⟩
    have S6a := S6.grown g6a A6a
    have hx2'' := hx1'' (by omega)
    clear S6 A6a g6a hx1''
    go_wp2_with fail
    refine (Base.l1Bit x'' _ hx0'' (by omega)).mono ?_
    rintro e w6b ⟨rfl, rfl⟩
    have kf := S6a.f2
    have kk := S6a.k2
    have S := S6a.set2 (bits .or .i64 (bits .or .i64 (2 ^ x.toNat) (2 ^ x'.toNat)) (2 ^ x''.toNat))
    clear S6a
    go_wp2_with fail
    generalize bits .or .i64 (bits .or .i64 (2 ^ x.toNat) (2 ^ x'.toNat)) (2 ^ x''.toNat) = f4 at S ⊢
    clear kf kk
    generalize w6a.setCell ⟨kb, 2, none⟩ (.int .i64 f4) = w4 at S ⊢
  case' neg =>
    go_wp2_with fail
    generalize w3.alloc (.cells #[.int .i64 h, .int .i64 r, .int .i64 0, .string s] 36) = w4 at S3 ⊢
    generalize w3.heap.size = kb at S3 ⊢
    obtain ⟨f4, S⟩ : ∃ f4, St c w.heap.size kb a len cap w w4 h r f4 s := ⟨0, S3.out⟩
    clear S3
  all_goals
    have A7' := S.at'
    refine (Cur.once c a len cap 8 _ hl (by omega) A7').mono ?_
    clear A7'
    rintro e w7 ⟨b, rfl, A7, g7⟩
    have S7 := S.grown g7 A7
    clear S A7 g7
    cases b
    · have k0 := S7.k0
      have k1 := S7.k1
      have k2 := S7.k2
      have k3 := S7.k3
      have zf0 := S7.z.f0
      have zf1 := S7.z.f1
      have zf2 := S7.z.f2
      have zf3 := S7.z.f3
      have zr0 := S7.z.r0
      have zr1 := S7.z.r1
      have zr2 := S7.z.r2
      have zr3 := S7.z.r3
      have HQ : Hid _ := S7.z.put (.int .i64 h) (.int .i64 r) (.int .i64 f4) (.string s)
      have HF : Hid _ := S7.final (.int .i64 h) (.int .i64 r) (.int .i64 f4) (.string s)
      clear S7
      go_wp2
      obtain ⟨q0, q1, q2, q3⟩ := HQ.out
      exact bodyPost_ret (v := .agg #[.int .i64 h, .int .i64 r, .int .i64 f4, .string s]) (by simp [results, Tryz.results118, go_sem, q0, q1, q2, q3]) rfl ⟨h, r, f4, s, rfl, hs, HF.out.1, HF.out.2⟩
    · go_wp2_with fail
      refine (Cur.below c a len cap 4 _ hl (by omega) S7.at').mono ?_
      rintro e w8 ⟨y, rfl, hy0, hy1, A8, g8⟩
      have S8 := S7.grown g8 A8
      have hy2 := hy1 (by omega)
      clear S7 A8 g8 hy1
      rcases (show y = 0 ∨ y = 1 ∨ y = 2 ∨ y = 3 by omega) with rfl | rfl | rfl | rfl
      · go_wp2_with fail
        have A8' := Draw.at_alloc S8.at' (.cells #[.int .i64 (-1), .int .i64 4] 2)
        refine (Cur.below c a len cap 2 _ hl (by omega) A8').mono ?_
        rintro e w9 ⟨x, rfl, hx0, hx1, A9, g9⟩
        have hx2 := hx1 (by omega)
        obtain ⟨v, hv, hv0, hv1⟩ := Draw.lit_int (l := [-1, 4]) S8.at'.lt g9 x.toNat (by simp; omega) (by simp)
        have S9 := (S8.grown (World.grownBy_alloc _ _ (some c)) A8').grown g9 A9
        clear S8 A8' A9 g9 hx1
        have kf := S9.f0
        have kk := S9.k0
        have S10 := S9.set0 v
        clear S9
        have k0 := S10.k0
        have k1 := S10.k1
        have k2 := S10.k2
        have k3 := S10.k3
        have zf0 := S10.z.f0
        have zf1 := S10.z.f1
        have zf2 := S10.z.f2
        have zf3 := S10.z.f3
        have zr0 := S10.z.r0
        have zr1 := S10.z.r1
        have zr2 := S10.z.r2
        have zr3 := S10.z.r3
        have HQ : Hid _ := S10.z.put (.int .i64 v) (.int .i64 r) (.int .i64 f4) (.string s)
        have HF : Hid _ := S10.final (.int .i64 v) (.int .i64 r) (.int .i64 f4) (.string s)
        clear S10
        go_wp2
        obtain ⟨q0, q1, q2, q3⟩ := HQ.out
        exact bodyPost_ret (v := .agg #[.int .i64 v, .int .i64 r, .int .i64 f4, .string s]) (by simp [results, Tryz.results118, go_sem, q0, q1, q2, q3]) rfl ⟨v, r, f4, s, rfl, hs, HF.out.1, HF.out.2⟩
      · go_wp2_with fail
        have A8' := Draw.at_alloc S8.at' (.cells #[.int .i64 (-1), .int .i64 0, .int .i64 19, .int .i64 20] 2)
        refine (Cur.below c a len cap 4 _ hl (by omega) A8').mono ?_
        rintro e w9 ⟨x, rfl, hx0, hx1, A9, g9⟩
        have hx2 := hx1 (by omega)
        obtain ⟨v, hv, hv0, hv1⟩ := Draw.lit_int (l := [-1, 0, 19, 20]) S8.at'.lt g9 x.toNat (by simp; omega) (by simp)
        have S9 := (S8.grown (World.grownBy_alloc _ _ (some c)) A8').grown g9 A9
        clear S8 A8' A9 g9 hx1
        have kf := S9.f1
        have kk := S9.k1
        have S10 := S9.set1 v
        clear S9
        have k0 := S10.k0
        have k1 := S10.k1
        have k2 := S10.k2
        have k3 := S10.k3
        have zf0 := S10.z.f0
        have zf1 := S10.z.f1
        have zf2 := S10.z.f2
        have zf3 := S10.z.f3
        have zr0 := S10.z.r0
        have zr1 := S10.z.r1
        have zr2 := S10.z.r2
        have zr3 := S10.z.r3
        have HQ : Hid _ := S10.z.put (.int .i64 h) (.int .i64 v) (.int .i64 f4) (.string s)
        have HF : Hid _ := S10.final (.int .i64 h) (.int .i64 v) (.int .i64 f4) (.string s)
        clear S10
        go_wp2
        obtain ⟨q0, q1, q2, q3⟩ := HQ.out
        exact bodyPost_ret (v := .agg #[.int .i64 h, .int .i64 v, .int .i64 f4, .string s]) (by simp [results, Tryz.results118, go_sem, q0, q1, q2, q3]) rfl ⟨h, v, f4, s, rfl, hs, HF.out.1, HF.out.2⟩
      · go_wp2_with fail
        refine (Draw.drawSet c a len cap _ hl S8.at').mono ?_
        rintro e w9 ⟨v, rfl, _, A9, g9⟩
        have S9 := S8.grown g9 A9
        clear S8 A9 g9
        have kf := S9.f2
        have kk := S9.k2
        have S10 := S9.set2 v
        clear S9
        have k0 := S10.k0
        have k1 := S10.k1
        have k2 := S10.k2
        have k3 := S10.k3
        have zf0 := S10.z.f0
        have zf1 := S10.z.f1
        have zf2 := S10.z.f2
        have zf3 := S10.z.f3
        have zr0 := S10.z.r0
        have zr1 := S10.z.r1
        have zr2 := S10.z.r2
        have zr3 := S10.z.r3
        have HQ : Hid _ := S10.z.put (.int .i64 h) (.int .i64 r) (.int .i64 v) (.string s)
        have HF : Hid _ := S10.final (.int .i64 h) (.int .i64 r) (.int .i64 v) (.string s)
        clear S10
        go_wp2
        obtain ⟨q0, q1, q2, q3⟩ := HQ.out
        exact bodyPost_ret (v := .agg #[.int .i64 h, .int .i64 r, .int .i64 v, .string s]) (by simp [results, Tryz.results118, go_sem, q0, q1, q2, q3]) rfl ⟨h, r, v, s, rfl, hs, HF.out.1, HF.out.2⟩
      · go_wp2_with fail
        have A8' := Draw.at_alloc S8.at' (.cells #[.string ⟨#[65]⟩, .string ⟨#[97, 98, 99, 100, 101, 102, 103, 104, 105, 106, 107, 108]⟩, .string ⟨#[97, 98, 99, 100, 101, 102, 103, 104, 105, 106, 107, 108, 109]⟩, .string ⟨#[97, 58]⟩] 9)
        refine (Cur.below c a len cap 4 _ hl (by omega) A8').mono ?_
        rintro e w9 ⟨x, rfl, hx0, hx1, A9, g9⟩
        have hx2 := hx1 (by omega)
        obtain ⟨v, hv, hvs⟩ := lit_str (l := [⟨#[65]⟩, ⟨#[97, 98, 99, 100, 101, 102, 103, 104, 105, 106, 107, 108]⟩, ⟨#[97, 98, 99, 100, 101, 102, 103, 104, 105, 106, 107, 108, 109]⟩, ⟨#[97, 58]⟩]) S8.at'.lt g9 x.toNat (by simp; omega) 13 (by decide)
        have S9 := (S8.grown (World.grownBy_alloc _ _ (some c)) A8').grown g9 A9
        clear S8 A8' A9 g9 hx1
        have kf := S9.f3
        have kk := S9.k3
        have S10 := S9.set3 v
        clear S9
        have k0 := S10.k0
        have k1 := S10.k1
        have k2 := S10.k2
        have k3 := S10.k3
        have zf0 := S10.z.f0
        have zf1 := S10.z.f1
        have zf2 := S10.z.f2
        have zf3 := S10.z.f3
        have zr0 := S10.z.r0
        have zr1 := S10.z.r1
        have zr2 := S10.z.r2
        have zr3 := S10.z.r3
        have HQ : Hid _ := S10.z.put (.int .i64 h) (.int .i64 r) (.int .i64 f4) (.string v)
        have HF : Hid _ := S10.final (.int .i64 h) (.int .i64 r) (.int .i64 f4) (.string v)
        clear S10
        go_wp2
        obtain ⟨q0, q1, q2, q3⟩ := HQ.out
        exact bodyPost_ret (v := .agg #[.int .i64 h, .int .i64 r, .int .i64 f4, .string v]) (by simp [results, Tryz.results118, go_sem, q0, q1, q2, q3]) rfl ⟨h, r, f4, v, rfl, hvs, HF.out.1, HF.out.2⟩

end Kn
end Go.Proofs.YtfjmenhofllchaaGreatDoor
