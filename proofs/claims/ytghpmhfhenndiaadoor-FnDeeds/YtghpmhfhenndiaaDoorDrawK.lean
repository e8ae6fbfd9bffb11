/-
  What the model's draws for knots do: they answer a knot, whatever it is, its word of at most 13 bytes, and write into nothing that was there but the cursor; for codes of at most 4096 bytes.
-/
import Derived.Test.YtghpmhfhenndiaaDoorDraw
import Derived.Test.YtghpmhfhenndiaaDoorZero
import Derived.Deep.AppendLies
namespace Go.Proofs.YtghpmhfhenndiaaDoor
open Go.RowKit
set_option maxRecDepth 100000
namespace Kn
open Cur (At)

theorem lit_str {w w2 : World} {c : Nat} {t : TypeId} {l : List ByteArray} (hc : c < w.heap.size) (hG : (w.alloc (.cells (l.map Value.string).toArray t)).grownBy w2 (some c)) (j : Nat) (hj : j < l.length) (n : Nat)
    (hl : ∀ x ∈ l, x.size ≤ n) : ∃ v : ByteArray, w2.cell? ⟨w.heap.size, j, none⟩ = some (.string v) ∧ v.size ≤ n := by
  refine ⟨l[j], Draw.kept_cell hG (by omega) ?_, hl _ (List.getElem_mem hj)⟩
  rw [World.cell?_alloc_new]
  simp [hj]

/-- a knot that a draw makes in block kb, its answer in block b0, the cursor in block c -/
structure St (c b0 kb : Nat) (a : Option Addr) (len cap : Nat) (w0 w : World) (h r f : Int) (s : ByteArray) : Prop where
  at' : At c a len cap w
  z : Zero b0 w
  k0 : w.cell? ⟨kb, 0, none⟩ = some (.int .i64 h)
  k1 : w.cell? ⟨kb, 1, none⟩ = some (.int .i64 r)
  k2 : w.cell? ⟨kb, 2, none⟩ = some (.int .i64 f)
  k3 : w.cell? ⟨kb, 3, none⟩ = some (.string s)
  f0 : w.frozen? ⟨kb, 0, none⟩ = false
  f1 : w.frozen? ⟨kb, 1, none⟩ = false
  f2 : w.frozen? ⟨kb, 2, none⟩ = false
  f3 : w.frozen? ⟨kb, 3, none⟩ = false
  lt : kb < w.heap.size
  n1 : b0 ≠ c
  n2 : kb ≠ c
  n3 : kb ≠ b0
  l1 : w0.heap.size ≤ b0
  l2 : w0.heap.size ≤ kb
  cb : len = 0 ∨ ∃ b off, a = some ⟨b, off, none⟩ ∧ b < w0.heap.size
  g : w0.grownBy w (some c)

theorem Zero.grown {c b : Nat} {w w' : World} (z : Zero b w) (hg : w.grownBy w' (some c)) (hn : b ≠ c) : Zero b w' where
  lt := Nat.lt_of_lt_of_le z.lt hg.size
  r0 := Draw.kept_cell hg hn z.r0
  r1 := Draw.kept_cell hg hn z.r1
  r2 := Draw.kept_cell hg hn z.r2
  r3 := Draw.kept_cell hg hn z.r3
  f0 := (hg.frozen_far ⟨b, 0, none⟩ z.lt (by simpa using hn)).trans z.f0
  f1 := (hg.frozen_far ⟨b, 1, none⟩ z.lt (by simpa using hn)).trans z.f1
  f2 := (hg.frozen_far ⟨b, 2, none⟩ z.lt (by simpa using hn)).trans z.f2
  f3 := (hg.frozen_far ⟨b, 3, none⟩ z.lt (by simpa using hn)).trans z.f3

theorem St.grown {c b0 kb : Nat} {a : Option Addr} {len cap : Nat} {w0 w w' : World} {h r f : Int} {s : ByteArray} (t : St c b0 kb a len cap w0 w h r f s) (hg : w.grownBy w' (some c)) (hA : At c a len cap w') : St c b0 kb a len cap w0 w' h r f s where
  at' := hA
  z := t.z.grown hg t.n1
  k0 := Draw.kept_cell hg t.n2 t.k0
  k1 := Draw.kept_cell hg t.n2 t.k1
  k2 := Draw.kept_cell hg t.n2 t.k2
  k3 := Draw.kept_cell hg t.n2 t.k3
  f0 := (hg.frozen_far ⟨kb, 0, none⟩ t.lt (by simpa using t.n2)).trans t.f0
  f1 := (hg.frozen_far ⟨kb, 1, none⟩ t.lt (by simpa using t.n2)).trans t.f1
  f2 := (hg.frozen_far ⟨kb, 2, none⟩ t.lt (by simpa using t.n2)).trans t.f2
  f3 := (hg.frozen_far ⟨kb, 3, none⟩ t.lt (by simpa using t.n2)).trans t.f3
  lt := Nat.lt_of_lt_of_le t.lt hg.size
  n1 := t.n1
  n2 := t.n2
  n3 := t.n3
  l1 := t.l1
  l2 := t.l2
  cb := t.cb
  g := Cur.grownBy_trans t.g hg

theorem grown_put {c kb : Nat} {w0 w : World} (h : w0.grownBy w (some c)) (hk : w0.heap.size ≤ kb) (j : Nat) (v : Value) : w0.grownBy (w.setCell ⟨kb, j, none⟩ v) (some c) where
  os := h.os
  tape := h.tape
  output := h.output
  size := by simpa using h.size
  block := fun i hi hne => (heap_setCell_other w ⟨kb, j, none⟩ i v (fun e => by have : kb = i := e.symm; omega)).trans (h.block i hi hne)

theorem At.put {c kb : Nat} {a : Option Addr} {len cap : Nat} {w : World} (h : At c a len cap w) (hn : kb ≠ c) {n0 : Nat} (hb : len = 0 ∨ ∃ b off, a = some ⟨b, off, none⟩ ∧ b < n0) (hk : n0 ≤ kb) (j : Nat) (v : Value) : At c a len cap (w.setCell ⟨kb, j, none⟩ v) where
  lt := by simpa using h.lt
  b := (World.cell?_setCell_other _ _ _ _ (by intro e; injection e with e _; exact hn e)).trans h.b
  i := by obtain ⟨i, hi, hh⟩ := h.i; exact ⟨i, (World.cell?_setCell_other _ _ _ _ (by intro e; injection e with e _; exact hn e)).trans hi, hh⟩
  h := by obtain ⟨i, hi, hh⟩ := h.h; exact ⟨i, (World.cell?_setCell_other _ _ _ _ (by intro e; injection e with e _; exact hn e)).trans hi, hh⟩
  f1 := by simpa using h.f1
  f2 := by simpa using h.f2
  bytes := by
    rcases h.bytes with h0 | ⟨b, off, ha, hne, hlt, hcell⟩
    · exact .inl h0
    · rcases hb with h0 | ⟨b', off', ha', hlt'⟩
      · exact .inl h0
      · have eb : b = b' := by rw [ha] at ha'; injection ha' with e; injection e
        refine .inr ⟨b, off, ha, hne, by simpa using hlt, fun i hi => ?_⟩
        obtain ⟨z, hz, hz'⟩ := hcell i hi
        exact ⟨z, (World.cell?_setCell_other _ _ _ _ (by intro e; injection e with e _; omega)).trans hz, hz'⟩

theorem Zero.put' {b kb : Nat} {w : World} (z : Zero b w) (hn : kb ≠ b) (j : Nat) (v : Value) : Zero b (w.setCell ⟨kb, j, none⟩ v) where
  lt := by simpa using z.lt
  r0 := (World.cell?_setCell_other _ _ _ _ (by intro e; injection e with e _; exact hn e)).trans z.r0
  r1 := (World.cell?_setCell_other _ _ _ _ (by intro e; injection e with e _; exact hn e)).trans z.r1
  r2 := (World.cell?_setCell_other _ _ _ _ (by intro e; injection e with e _; exact hn e)).trans z.r2
  r3 := (World.cell?_setCell_other _ _ _ _ (by intro e; injection e with e _; exact hn e)).trans z.r3
  f0 := by simpa using z.f0
  f1 := by simpa using z.f1
  f2 := by simpa using z.f2
  f3 := by simpa using z.f3

theorem St.set0 {c b0 kb : Nat} {a : Option Addr} {len cap : Nat} {w0 w : World} {h r f : Int} {s : ByteArray} (t : St c b0 kb a len cap w0 w h r f s) (x : Int) : St c b0 kb a len cap w0 (w.setCell ⟨kb, 0, none⟩ (.int .i64 x)) x r f s where
  at' := At.put t.at' t.n2 t.cb t.l2 0 _
  z := t.z.put' t.n3 0 _
  k0 := World.cell?_setCell_same _ _ _ t.k0
  k1 := (World.cell?_setCell_other _ _ _ _ (by simp)).trans t.k1
  k2 := (World.cell?_setCell_other _ _ _ _ (by simp)).trans t.k2
  k3 := (World.cell?_setCell_other _ _ _ _ (by simp)).trans t.k3
  f0 := by simpa using t.f0
  f1 := by simpa using t.f1
  f2 := by simpa using t.f2
  f3 := by simpa using t.f3
  lt := by simpa using t.lt
  n1 := t.n1
  n2 := t.n2
  n3 := t.n3
  l1 := t.l1
  l2 := t.l2
  cb := t.cb
  g := grown_put t.g t.l2 0 _

theorem St.set1 {c b0 kb : Nat} {a : Option Addr} {len cap : Nat} {w0 w : World} {h r f : Int} {s : ByteArray} (t : St c b0 kb a len cap w0 w h r f s) (x : Int) : St c b0 kb a len cap w0 (w.setCell ⟨kb, 1, none⟩ (.int .i64 x)) h x f s where
  at' := At.put t.at' t.n2 t.cb t.l2 1 _
  z := t.z.put' t.n3 1 _
  k0 := (World.cell?_setCell_other _ _ _ _ (by simp)).trans t.k0
  k1 := World.cell?_setCell_same _ _ _ t.k1
  k2 := (World.cell?_setCell_other _ _ _ _ (by simp)).trans t.k2
  k3 := (World.cell?_setCell_other _ _ _ _ (by simp)).trans t.k3
  f0 := by simpa using t.f0
  f1 := by simpa using t.f1
  f2 := by simpa using t.f2
  f3 := by simpa using t.f3
  lt := by simpa using t.lt
  n1 := t.n1
  n2 := t.n2
  n3 := t.n3
  l1 := t.l1
  l2 := t.l2
  cb := t.cb
  g := grown_put t.g t.l2 1 _

theorem St.set2 {c b0 kb : Nat} {a : Option Addr} {len cap : Nat} {w0 w : World} {h r f : Int} {s : ByteArray} (t : St c b0 kb a len cap w0 w h r f s) (x : Int) : St c b0 kb a len cap w0 (w.setCell ⟨kb, 2, none⟩ (.int .i64 x)) h r x s where
  at' := At.put t.at' t.n2 t.cb t.l2 2 _
  z := t.z.put' t.n3 2 _
  k0 := (World.cell?_setCell_other _ _ _ _ (by simp)).trans t.k0
  k1 := (World.cell?_setCell_other _ _ _ _ (by simp)).trans t.k1
  k2 := World.cell?_setCell_same _ _ _ t.k2
  k3 := (World.cell?_setCell_other _ _ _ _ (by simp)).trans t.k3
  f0 := by simpa using t.f0
  f1 := by simpa using t.f1
  f2 := by simpa using t.f2
  f3 := by simpa using t.f3
  lt := by simpa using t.lt
  n1 := t.n1
  n2 := t.n2
  n3 := t.n3
  l1 := t.l1
  l2 := t.l2
  cb := t.cb
  g := grown_put t.g t.l2 2 _

theorem St.set3 {c b0 kb : Nat} {a : Option Addr} {len cap : Nat} {w0 w : World} {h r f : Int} {s : ByteArray} (t : St c b0 kb a len cap w0 w h r f s) (x : ByteArray) : St c b0 kb a len cap w0 (w.setCell ⟨kb, 3, none⟩ (.string x)) h r f x where
  at' := At.put t.at' t.n2 t.cb t.l2 3 _
  z := t.z.put' t.n3 3 _
  k0 := (World.cell?_setCell_other _ _ _ _ (by simp)).trans t.k0
  k1 := (World.cell?_setCell_other _ _ _ _ (by simp)).trans t.k1
  k2 := (World.cell?_setCell_other _ _ _ _ (by simp)).trans t.k2
  k3 := World.cell?_setCell_same _ _ _ t.k3
  f0 := by simpa using t.f0
  f1 := by simpa using t.f1
  f2 := by simpa using t.f2
  f3 := by simpa using t.f3
  lt := by simpa using t.lt
  n1 := t.n1
  n2 := t.n2
  n3 := t.n3
  l1 := t.l1
  l2 := t.l2
  cb := t.cb
  g := grown_put t.g t.l2 3 _

theorem code_lt {c : Nat} {a : Option Addr} {len cap : Nat} {w : World} (h : At c a len cap w) : len = 0 ∨ ∃ b off, a = some ⟨b, off, none⟩ ∧ b < w.heap.size := by
  rcases h.bytes with h0 | ⟨b, off, ha, _, hlt, _⟩
  · exact .inl h0
  · exact .inr ⟨b, off, ha, hlt⟩

theorem St.final {c b0 kb : Nat} {a : Option Addr} {len cap : Nat} {w0 w : World} {h r f : Int} {s : ByteArray} (t : St c b0 kb a len cap w0 w h r f s) (v0 v1 v2 v3 : Value) :
    At c a len cap ((((w.setCell ⟨b0, 0, none⟩ v0).setCell ⟨b0, 1, none⟩ v1).setCell ⟨b0, 2, none⟩ v2).setCell ⟨b0, 3, none⟩ v3) ∧ w0.grownBy ((((w.setCell ⟨b0, 0, none⟩ v0).setCell ⟨b0, 1, none⟩ v1).setCell ⟨b0, 2, none⟩ v2).setCell ⟨b0, 3, none⟩ v3) (some c) :=
  ⟨At.put (At.put (At.put (At.put t.at' t.n1 t.cb t.l1 _ _) t.n1 t.cb t.l1 _ _) t.n1 t.cb t.l1 _ _) t.n1 t.cb t.l1 _ _, grown_put (grown_put (grown_put (grown_put t.g t.l1 _ _) t.l1 _ _) t.l1 _ _) t.l1 _ _⟩

/-- how a draw of a knot ends -/
def DrawPost (c : Nat) (a : Option Addr) (len cap : Nat) (w : World) (e : Ending) (w' : World) : Prop := ∃ (h r f : Int) (s : ByteArray), e = .returned (.agg #[.int .i64 h, .int .i64 r, .int .i64 f, .string s]) ∧ s.size ≤ 13 ∧ At c a len cap w' ∧ w.grownBy w' (some c)

end Kn
end Go.Proofs.YtghpmhfhenndiaaDoor
