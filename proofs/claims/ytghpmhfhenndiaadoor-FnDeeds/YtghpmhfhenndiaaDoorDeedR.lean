/-
  Reading a deed, in plain words: the kind of a word, and when a text's pieces are a right deed's words; the two blocks of the model's ReadDeed.
-/
import Derived.Test.YtghpmhfhenndiaaDoorDeedT
import Derived.Test.YtghpmhfhenndiaaDoorKnotV
namespace Go.Proofs.YtghpmhfhenndiaaDoor
open Go.RowKit
set_option maxRecDepth 100000
set_option linter.unusedVariables false
namespace De
open Kn (dec B split Reads)

def zeroD : D := ⟨0, ⟨#[]⟩, 0, 0⟩
/-- what a reading of a deed promises -/
def ReadsD (s : ByteArray) (d : D) (b : Bool) : Prop := (b = true ∧ okD d = true ∧ showD d = s.data.toList) ∨ (b = false ∧ d = zeroD ∧ ∀ d', okD d' = true → showD d' ≠ s.data.toList)
def ReadPostD (s : ByteArray) (w : World) (e : Ending) (w' : World) : Prop := ∃ d b, e = .returned (.tuple #[.agg #[.int .i64 d.kind, .string d.key, .int .i64 d.val, .int .i64 d.new], .bool b]) ∧ ReadsD s d b ∧ Below w.heap.size w w'
theorem reads_unique {s : ByteArray} {d d' : D} {b b' : Bool} (h : ReadsD s d b) (h' : ReadsD s d' b') : d = d' ∧ b = b' := by
  rcases h with ⟨e1, o, q⟩ | ⟨e1, z, q⟩ <;> rcases h' with ⟨e2, o', q'⟩ | ⟨e2, z', q'⟩
  · exact ⟨showD_inj o o' (by rw [q, q']), by rw [e1, e2]⟩
  · exact absurd q (q' d o)
  · exact absurd q' (q d' o')
  · exact ⟨by rw [z, z'], by rw [e1, e2]⟩

/-- the kind of a word, as far as the first n kinds go -/
def kindTo (x : List UInt8) : Nat → Int
  | 0 => 0
  | n + 1 => if x = kindW ((n : Int) + 1) then (n : Int) + 1 else kindTo x n
theorem kindTo_bd (x : List UInt8) : ∀ n : Nat, 0 ≤ kindTo x n ∧ kindTo x n ≤ n := by
  intro n
  induction n with
  | zero => exact ⟨Int.le_refl _, Int.le_refl _⟩
  | succ n ih => unfold kindTo; split <;> omega
theorem kindTo_kind {k : Int} (h : 1 ≤ k ∧ k ≤ 4) : kindTo (kindW k) 4 = k := by
  have e : k = 1 ∨ k = 2 ∨ k = 3 ∨ k = 4 := by omega
  rcases e with rfl | rfl | rfl | rfl <;> rfl
/-- how many words a deed has -/
def many (k : Int) : Nat := if k = 0 then 0 else if k = 2 then 2 else if k = 4 then 4 else 3
theorem words_many {d : D} (h : OkD d) : (wordsD d).length = many d.kind := by
  have a := h.k1; have b := h.k4
  have e : d.kind = 1 ∨ d.kind = 2 ∨ d.kind = 3 ∨ d.kind = 4 := by omega
  unfold wordsD many
  rcases e with e | e | e | e <;> rw [e] <;> simp
theorem pieces_of {s : ByteArray} {d : D} (h : okD d = true) (q : showD d = s.data.toList) : split 32 s.data.toList = wordsD d := by rw [← q]; exact split_show ((okD_iff d).1 h)
/-- a text with another number of pieces is no deed's -/
theorem no_deed {s : ByteArray} {P : List (List UInt8)} (hP : split 32 s.data.toList = P) (h : kindTo (P.getD 0 []) 4 = 0 ∨ P.length ≠ many (kindTo (P.getD 0 []) 4)) : ∀ d', okD d' = true → showD d' ≠ s.data.toList := by
  intro d' o q
  have e := pieces_of o q
  rw [hP] at e
  have o' := (okD_iff d').1 o
  have hk : kindTo (P.getD 0 []) 4 = d'.kind := by rw [e]; exact kindTo_kind ⟨o'.k1, o'.k4⟩
  rcases h with h | h
  · have := o'.k1; omega
  · rw [hk, e] at h; exact h (words_many o')
/-- the only deed that a text can be -/
theorem the_deed {s : ByteArray} {P : List (List UInt8)} {k v n : Int} {key : ByteArray} (hP : split 32 s.data.toList = P) (hk : kindTo (P.getD 0 []) 4 = k) (hkey : key = B (P.getD 1 [])) (hv : 2 < P.length → ∃ b, Reads (B (P.getD 2 [])) v b) (hv0 : ¬ 2 < P.length → v = 0) (hn : 3 < P.length → ∃ b, Reads (B (P.getD 3 [])) n b) (hn0 : ¬ 3 < P.length → n = 0) {d' : D} (o : okD d' = true) (q : showD d' = s.data.toList) : d' = ⟨k, key, v, n⟩ := by
  have e := pieces_of o q
  rw [hP] at e
  have o' := (okD_iff d').1 o
  have ek : k = d'.kind := by rw [← hk, e]; exact kindTo_kind ⟨o'.k1, o'.k4⟩
  have em := words_many o'
  rw [← e] at em
  have a1 := o'.k1; have a2 := o'.k4
  have b1 := o'.v0; have b2 := o'.v1; have b3 := o'.n0; have b4 := o'.n1
  have c1 := o'.cut; have c2 := o'.ifs
  obtain ⟨k', key', v', n'⟩ := d'
  dsimp only at *
  subst ek
  have e1 : key = key' := by rw [hkey, e]; exact Kn.B_data key'
  subst e1
  have ev : v' = v := by
    by_cases h2 : k = 2
    · rw [hv0 (by rw [em, h2]; decide), c1 h2]
    · have hl : 2 < P.length := by rw [em]; unfold many; rw [if_neg (by omega), if_neg h2]; split <;> omega
      obtain ⟨b, hR⟩ := hv hl
      have e2 : P.getD 2 [] = dec v'.toNat := by rw [e]; unfold wordsD; simp [h2]
      have := (hR.2.2 v'.toNat (by omega) (by rw [e2])).1
      omega
  have en : n' = n := by
    by_cases h4 : k = 4
    · have hl : 3 < P.length := by rw [em, h4]; decide
      obtain ⟨b, hR⟩ := hn hl
      have e2 : P.getD 3 [] = dec n'.toNat := by rw [e]; unfold wordsD; simp [h4]
      have := (hR.2.2 n'.toNat (by omega) (by rw [e2])).1
      omega
    · have hl : ¬ 3 < P.length := by rw [em]; unfold many; rw [if_neg (by omega)]; split <;> (try split) <;> omega
      rw [hn0 hl, c2 h4]
  rw [ev, en]

/-- the result's block and the deed's, behind one another -/
structure TwoD (b x : Nat) (w : World) (k : Int) (s : ByteArray) (v n : Int) : Prop where
  bx : b < x
  lt : x < w.heap.size
  r0 : w.cell? ⟨b, 0, none⟩ = some (.int .i64 0)
  r1 : w.cell? ⟨b, 1, none⟩ = some (.string ⟨#[]⟩)
  r2 : w.cell? ⟨b, 2, none⟩ = some (.int .i64 0)
  r3 : w.cell? ⟨b, 3, none⟩ = some (.int .i64 0)
  rf : ∀ j, w.frozen? ⟨b, j, none⟩ = false
  k0 : w.cell? ⟨x, 0, none⟩ = some (.int .i64 k)
  k1 : w.cell? ⟨x, 1, none⟩ = some (.string s)
  k2 : w.cell? ⟨x, 2, none⟩ = some (.int .i64 v)
  k3 : w.cell? ⟨x, 3, none⟩ = some (.int .i64 n)
  kf : ∀ j, w.frozen? ⟨x, j, none⟩ = false
section
variable {b x : Nat} {w : World} {k v n : Int} {s : ByteArray}
theorem TwoD.below {w' : World} (t : TwoD b x w k s v n) (hb : Below w.heap.size w w') : TwoD b x w' k s v n := by
  have l := t.lt
  have l2 := t.bx
  have h0 : b < w.heap.size := by omega
  exact ⟨l2, Nat.lt_of_lt_of_le l hb.size, (hb.cell (p := ⟨b, 0, none⟩) h0).trans t.r0, (hb.cell (p := ⟨b, 1, none⟩) h0).trans t.r1, (hb.cell (p := ⟨b, 2, none⟩) h0).trans t.r2, (hb.cell (p := ⟨b, 3, none⟩) h0).trans t.r3, fun j => (hb.frozen (p := ⟨b, j, none⟩) h0).trans (t.rf j), (hb.cell (p := ⟨x, 0, none⟩) l).trans t.k0, (hb.cell (p := ⟨x, 1, none⟩) l).trans t.k1, (hb.cell (p := ⟨x, 2, none⟩) l).trans t.k2, (hb.cell (p := ⟨x, 3, none⟩) l).trans t.k3, fun j => (hb.frozen (p := ⟨x, j, none⟩) l).trans (t.kf j)⟩
theorem TwoD.drew (t : TwoD b x w k s v n) : TwoD b x w.drew k s v n := ⟨t.bx, t.lt, t.r0, t.r1, t.r2, t.r3, t.rf, t.k0, t.k1, t.k2, t.k3, t.kf⟩
theorem TwoD.set0 (t : TwoD b x w k s v n) (y : Int) : TwoD b x (w.setCell ⟨x, 0, none⟩ (.int .i64 y)) y s v n :=
  ⟨t.bx, by simpa using t.lt, (World.cell?_setCell_other _ _ _ _ (by have := t.bx; intro e; injection e with e; omega)).trans t.r0, (World.cell?_setCell_other _ _ _ _ (by have := t.bx; intro e; injection e with e; omega)).trans t.r1, (World.cell?_setCell_other _ _ _ _ (by have := t.bx; intro e; injection e with e; omega)).trans t.r2, (World.cell?_setCell_other _ _ _ _ (by have := t.bx; intro e; injection e with e; omega)).trans t.r3, fun j => by simpa using t.rf j, World.cell?_setCell_same _ _ _ t.k0, (World.cell?_setCell_other _ _ _ _ (by simp)).trans t.k1, (World.cell?_setCell_other _ _ _ _ (by simp)).trans t.k2, (World.cell?_setCell_other _ _ _ _ (by simp)).trans t.k3, fun j => by simpa using t.kf j⟩
theorem TwoD.set1 (t : TwoD b x w k s v n) (y : ByteArray) : TwoD b x (w.setCell ⟨x, 1, none⟩ (.string y)) k y v n :=
  ⟨t.bx, by simpa using t.lt, (World.cell?_setCell_other _ _ _ _ (by have := t.bx; intro e; injection e with e; omega)).trans t.r0, (World.cell?_setCell_other _ _ _ _ (by have := t.bx; intro e; injection e with e; omega)).trans t.r1, (World.cell?_setCell_other _ _ _ _ (by have := t.bx; intro e; injection e with e; omega)).trans t.r2, (World.cell?_setCell_other _ _ _ _ (by have := t.bx; intro e; injection e with e; omega)).trans t.r3, fun j => by simpa using t.rf j, (World.cell?_setCell_other _ _ _ _ (by simp)).trans t.k0, World.cell?_setCell_same _ _ _ t.k1, (World.cell?_setCell_other _ _ _ _ (by simp)).trans t.k2, (World.cell?_setCell_other _ _ _ _ (by simp)).trans t.k3, fun j => by simpa using t.kf j⟩
theorem TwoD.set2 (t : TwoD b x w k s v n) (y : Int) : TwoD b x (w.setCell ⟨x, 2, none⟩ (.int .i64 y)) k s y n :=
  ⟨t.bx, by simpa using t.lt, (World.cell?_setCell_other _ _ _ _ (by have := t.bx; intro e; injection e with e; omega)).trans t.r0, (World.cell?_setCell_other _ _ _ _ (by have := t.bx; intro e; injection e with e; omega)).trans t.r1, (World.cell?_setCell_other _ _ _ _ (by have := t.bx; intro e; injection e with e; omega)).trans t.r2, (World.cell?_setCell_other _ _ _ _ (by have := t.bx; intro e; injection e with e; omega)).trans t.r3, fun j => by simpa using t.rf j, (World.cell?_setCell_other _ _ _ _ (by simp)).trans t.k0, (World.cell?_setCell_other _ _ _ _ (by simp)).trans t.k1, World.cell?_setCell_same _ _ _ t.k2, (World.cell?_setCell_other _ _ _ _ (by simp)).trans t.k3, fun j => by simpa using t.kf j⟩
theorem TwoD.set3 (t : TwoD b x w k s v n) (y : Int) : TwoD b x (w.setCell ⟨x, 3, none⟩ (.int .i64 y)) k s v y :=
  ⟨t.bx, by simpa using t.lt, (World.cell?_setCell_other _ _ _ _ (by have := t.bx; intro e; injection e with e; omega)).trans t.r0, (World.cell?_setCell_other _ _ _ _ (by have := t.bx; intro e; injection e with e; omega)).trans t.r1, (World.cell?_setCell_other _ _ _ _ (by have := t.bx; intro e; injection e with e; omega)).trans t.r2, (World.cell?_setCell_other _ _ _ _ (by have := t.bx; intro e; injection e with e; omega)).trans t.r3, fun j => by simpa using t.rf j, (World.cell?_setCell_other _ _ _ _ (by simp)).trans t.k0, (World.cell?_setCell_other _ _ _ _ (by simp)).trans t.k1, (World.cell?_setCell_other _ _ _ _ (by simp)).trans t.k2, World.cell?_setCell_same _ _ _ t.k3, fun j => by simpa using t.kf j⟩
end
theorem zd_new (w : World) (t : TypeId) : w.heap.size < (w.alloc (.cells #[.int .i64 0, .string ⟨#[]⟩, .int .i64 0, .int .i64 0] t)).heap.size ∧ (w.alloc (.cells #[.int .i64 0, .string ⟨#[]⟩, .int .i64 0, .int .i64 0] t)).cell? ⟨w.heap.size, 0, none⟩ = some (.int .i64 0) ∧ (w.alloc (.cells #[.int .i64 0, .string ⟨#[]⟩, .int .i64 0, .int .i64 0] t)).cell? ⟨w.heap.size, 1, none⟩ = some (.string ⟨#[]⟩) ∧ (w.alloc (.cells #[.int .i64 0, .string ⟨#[]⟩, .int .i64 0, .int .i64 0] t)).cell? ⟨w.heap.size, 2, none⟩ = some (.int .i64 0) ∧ (w.alloc (.cells #[.int .i64 0, .string ⟨#[]⟩, .int .i64 0, .int .i64 0] t)).cell? ⟨w.heap.size, 3, none⟩ = some (.int .i64 0) ∧ (∀ j, (w.alloc (.cells #[.int .i64 0, .string ⟨#[]⟩, .int .i64 0, .int .i64 0] t)).frozen? ⟨w.heap.size, j, none⟩ = false) := ⟨by simp, by simp, by simp, by simp, by simp, fun j => by simp⟩

end De
end Go.Proofs.YtghpmhfhenndiaaDoor
