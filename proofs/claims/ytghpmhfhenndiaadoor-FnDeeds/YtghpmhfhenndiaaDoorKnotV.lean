/-
  What the model's ReadKnot answers: the right knot whose text it is, and true; the zero knot and false where there is none; for texts of at most 2 to the 30 bytes.
-/
import Derived.Test.YtghpmhfhenndiaaDoorKnotQ
import Derived.Test.YtghpmhfhenndiaaDoorCur
import Derived.Deep.RegionWith
namespace Go.Proofs.YtghpmhfhenndiaaDoor
open Go.RowKit
set_option maxRecDepth 100000
namespace Kn

def zeroK : K := ⟨0, 0, 0, ⟨#[]⟩⟩
/-- what a reading of a knot promises -/
def ReadsK (s : ByteArray) (k : K) (b : Bool) : Prop := (b = true ∧ okK k = true ∧ showK k = s.data.toList) ∨ (b = false ∧ k = zeroK ∧ ∀ k', okK k' = true → showK k' ≠ s.data.toList)

def ReadPostK (s : ByteArray) (w : World) (e : Ending) (w' : World) : Prop := ∃ k b, e = .returned (.tuple #[.agg #[.int .i64 k.hand, .int .i64 k.round, .int .i64 k.frm, .string k.word], .bool b]) ∧ ReadsK s k b ∧ Below w.heap.size w w'

theorem l1Split32 (s : ByteArray) (w : World) (hs : s.size ≤ 1099511627776) : Calls Tryd.prog 25 #[.string s, .int .u8 32] w fun e w' =>
    ∃ ao cap, e = .returned (.slice ao (split 32 s.data.toList).length cap) ∧ OwnS w.heap.size w' ao cap (split 32 s.data.toList) ∧ Below w.heap.size w w' := l1Split s 32 w hs

theorem split_pos (c : UInt8) (cur l : List UInt8) : 0 < (splitGo c cur l).length := by
  induction l generalizing cur with
  | nil => simp [splitGo]
  | cons x l ih => rw [splitGo]; split <;> simp [ih]

/-- the result's block and the knot's, behind one another -/
structure Two (b : Nat) (w : World) (h r f : Int) (wd : ByteArray) : Prop where
  lt : b + 1 < w.heap.size
  r0 : w.cell? ⟨b, 0, none⟩ = some (.int .i64 0)
  r1 : w.cell? ⟨b, 1, none⟩ = some (.int .i64 0)
  r2 : w.cell? ⟨b, 2, none⟩ = some (.int .i64 0)
  r3 : w.cell? ⟨b, 3, none⟩ = some (.string ⟨#[]⟩)
  rf : ∀ j, w.frozen? ⟨b, j, none⟩ = false
  k0 : w.cell? ⟨b + 1, 0, none⟩ = some (.int .i64 h)
  k1 : w.cell? ⟨b + 1, 1, none⟩ = some (.int .i64 r)
  k2 : w.cell? ⟨b + 1, 2, none⟩ = some (.int .i64 f)
  k3 : w.cell? ⟨b + 1, 3, none⟩ = some (.string wd)
  kf : ∀ j, w.frozen? ⟨b + 1, j, none⟩ = false

theorem Two.below {b : Nat} {w w' : World} {h r f : Int} {wd : ByteArray} (t : Two b w h r f wd) (hb : Below w.heap.size w w') : Two b w' h r f wd where
  lt := Nat.lt_of_lt_of_le t.lt hb.size
  r0 := (hb.cell (p := ⟨b, 0, none⟩) (Nat.lt_of_succ_lt t.lt)).trans t.r0
  r1 := (hb.cell (p := ⟨b, 1, none⟩) (Nat.lt_of_succ_lt t.lt)).trans t.r1
  r2 := (hb.cell (p := ⟨b, 2, none⟩) (Nat.lt_of_succ_lt t.lt)).trans t.r2
  r3 := (hb.cell (p := ⟨b, 3, none⟩) (Nat.lt_of_succ_lt t.lt)).trans t.r3
  rf := fun j => (hb.frozen (p := ⟨b, j, none⟩) (Nat.lt_of_succ_lt t.lt)).trans (t.rf j)
  k0 := (hb.cell (p := ⟨b + 1, 0, none⟩) t.lt).trans t.k0
  k1 := (hb.cell (p := ⟨b + 1, 1, none⟩) t.lt).trans t.k1
  k2 := (hb.cell (p := ⟨b + 1, 2, none⟩) t.lt).trans t.k2
  k3 := (hb.cell (p := ⟨b + 1, 3, none⟩) t.lt).trans t.k3
  kf := fun j => (hb.frozen (p := ⟨b + 1, j, none⟩) t.lt).trans (t.kf j)

theorem Two.set0 {b : Nat} {w : World} {h r f : Int} {wd : ByteArray} (t : Two b w h r f wd) (x : Int) : Two b (w.setCell ⟨b + 1, 0, none⟩ (.int .i64 x)) x r f wd where
  lt := by simpa using t.lt
  r0 := (World.cell?_setCell_other _ _ _ _ (by simp)).trans t.r0
  r1 := (World.cell?_setCell_other _ _ _ _ (by simp)).trans t.r1
  r2 := (World.cell?_setCell_other _ _ _ _ (by simp)).trans t.r2
  r3 := (World.cell?_setCell_other _ _ _ _ (by simp)).trans t.r3
  rf := fun j => by simpa using t.rf j
  k0 := World.cell?_setCell_same _ _ _ t.k0
  k1 := (World.cell?_setCell_other _ _ _ _ (by simp)).trans t.k1
  k2 := (World.cell?_setCell_other _ _ _ _ (by simp)).trans t.k2
  k3 := (World.cell?_setCell_other _ _ _ _ (by simp)).trans t.k3
  kf := fun j => by simpa using t.kf j
theorem Two.set1 {b : Nat} {w : World} {h r f : Int} {wd : ByteArray} (t : Two b w h r f wd) (x : Int) : Two b (w.setCell ⟨b + 1, 1, none⟩ (.int .i64 x)) h x f wd where
  lt := by simpa using t.lt
  r0 := (World.cell?_setCell_other _ _ _ _ (by simp)).trans t.r0
  r1 := (World.cell?_setCell_other _ _ _ _ (by simp)).trans t.r1
  r2 := (World.cell?_setCell_other _ _ _ _ (by simp)).trans t.r2
  r3 := (World.cell?_setCell_other _ _ _ _ (by simp)).trans t.r3
  rf := fun j => by simpa using t.rf j
  k0 := (World.cell?_setCell_other _ _ _ _ (by simp)).trans t.k0
  k1 := World.cell?_setCell_same _ _ _ t.k1
  k2 := (World.cell?_setCell_other _ _ _ _ (by simp)).trans t.k2
  k3 := (World.cell?_setCell_other _ _ _ _ (by simp)).trans t.k3
  kf := fun j => by simpa using t.kf j
theorem Two.set2 {b : Nat} {w : World} {h r f : Int} {wd : ByteArray} (t : Two b w h r f wd) (x : Int) : Two b (w.setCell ⟨b + 1, 2, none⟩ (.int .i64 x)) h r x wd where
  lt := by simpa using t.lt
  r0 := (World.cell?_setCell_other _ _ _ _ (by simp)).trans t.r0
  r1 := (World.cell?_setCell_other _ _ _ _ (by simp)).trans t.r1
  r2 := (World.cell?_setCell_other _ _ _ _ (by simp)).trans t.r2
  r3 := (World.cell?_setCell_other _ _ _ _ (by simp)).trans t.r3
  rf := fun j => by simpa using t.rf j
  k0 := (World.cell?_setCell_other _ _ _ _ (by simp)).trans t.k0
  k1 := (World.cell?_setCell_other _ _ _ _ (by simp)).trans t.k1
  k2 := World.cell?_setCell_same _ _ _ t.k2
  k3 := (World.cell?_setCell_other _ _ _ _ (by simp)).trans t.k3
  kf := fun j => by simpa using t.kf j
theorem Two.set3 {b : Nat} {w : World} {h r f : Int} {wd : ByteArray} (t : Two b w h r f wd) (x : ByteArray) : Two b (w.setCell ⟨b + 1, 3, none⟩ (.string x)) h r f x where
  lt := by simpa using t.lt
  r0 := (World.cell?_setCell_other _ _ _ _ (by simp)).trans t.r0
  r1 := (World.cell?_setCell_other _ _ _ _ (by simp)).trans t.r1
  r2 := (World.cell?_setCell_other _ _ _ _ (by simp)).trans t.r2
  r3 := (World.cell?_setCell_other _ _ _ _ (by simp)).trans t.r3
  rf := fun j => by simpa using t.rf j
  k0 := (World.cell?_setCell_other _ _ _ _ (by simp)).trans t.k0
  k1 := (World.cell?_setCell_other _ _ _ _ (by simp)).trans t.k1
  k2 := (World.cell?_setCell_other _ _ _ _ (by simp)).trans t.k2
  k3 := World.cell?_setCell_same _ _ _ t.k3
  kf := fun j => by simpa using t.kf j
theorem Two.drewN {b : Nat} {w : World} {h r f : Int} {wd : ByteArray} (t : Two b w h r f wd) (n : Nat) : Two b (w.drewN n) h r f wd := ⟨t.lt, t.r0, t.r1, t.r2, t.r3, t.rf, t.k0, t.k1, t.k2, t.k3, t.kf⟩

theorem cut_of (s : ByteArray) (c : Nat) (hc : c ≤ s.size) (h1 : ∀ j, (hj : j < c) → (s[j]'(Nat.lt_of_lt_of_le hj hc)).toNat ≠ 58) (h2 : (h : c < s.size) → s[c].toNat = 58) : IsCut s.data.toList c := by
  refine ⟨by simpa using hc, ?_, ?_⟩
  · intro hm
    obtain ⟨j, hj, he⟩ := List.getElem_of_mem hm
    have hj' : j < c := by simp at hj; omega
    apply h1 j hj'
    rw [List.getElem_take] at he
    have e : s[j]'(Nat.lt_of_lt_of_le hj' hc) = s.data.toList[j]'(by simp; omega) := rfl
    rw [e, he]; rfl
  · intro hl
    have hl' : c < s.size := by simpa using hl
    rw [List.getElem?_eq_getElem hl]
    have e : s.data.toList[c] = s[c] := rfl
    rw [e]
    congr 1
    apply UInt8.toNat_inj.1
    rw [h2 hl']; rfl

theorem piece_len (c : UInt8) (cur l : List UInt8) : ∀ x ∈ splitGo c cur l, x.length ≤ cur.length + l.length := by
  induction l generalizing cur with
  | nil => intro x hx; simp [splitGo] at hx; subst hx; simp
  | cons y l ih =>
    intro x hx
    rw [splitGo] at hx
    split at hx
    · rcases List.mem_cons.1 hx with rfl | h
      · simp
      · have := ih [] x h; simp at this ⊢; omega
    · have := ih (cur ++ [y]) x hx
      simp at this ⊢; omega

theorem split_len (c : UInt8) (cur l : List UInt8) : (splitGo c cur l).length ≤ l.length + 1 := by
  induction l generalizing cur with
  | nil => simp [splitGo]
  | cons y l ih =>
    rw [splitGo]
    split
    · have := ih []; simp; omega
    · have := ih (cur ++ [y]); simp; omega

theorem extract0 (s : ByteArray) (c : Nat) (hc : c ≤ s.size) : (s.extract 0 c).data.toList = s.data.toList.take c := by
  have h := sub_extract s 0 c (by omega) hc
  have := B_of _ _ h
  rw [this]; simp [sub]
theorem extract0_size (s : ByteArray) (c : Nat) (hc : c ≤ s.size) : (s.extract 0 c).size = c := by
  simp [Nat.min_eq_left hc]

theorem ownS_cell {base : Nat} {w : World} {ao : Option Addr} {cap : Nat} {L : List (List UInt8)} (h : OwnS base w ao cap L) (j : Nat) (hj : j < L.length) : ∃ g, ao = some ⟨g, 0, none⟩ ∧ base ≤ g ∧ w.cell? ⟨g, j, none⟩ = some (.string (B L[j])) := by
  have hc := h
  obtain ⟨_, ⟨_, hn⟩ | ⟨g, cap', cur, hv, hB, _⟩⟩ := h
  · omega
  · simp only [Value.slice.injEq] at hv
    obtain ⟨rfl, _, rfl⟩ := hv
    refine ⟨g, rfl, hB, ?_⟩
    have := World.ownsRow.cellAt hc j (by omega)
    rw [this]; simp [hj, S]
theorem ownS_grown {base c : Nat} {w w' : World} {ao : Option Addr} {cap : Nat} {l : List (List UInt8)} (h : OwnS base w ao cap l) (hg : w.grownBy w' (some c)) (hc : c < base) : OwnS base w' ao cap l := by
  unfold OwnS at *
  refine World.ownsRow.kept h hg ?_
  by_cases hb : (Value.slice ao l.length cap).ownBlock = none
  · exact .inl hb
  · refine .inr (fun e => ?_)
    have := (World.ownsRow.lt h c e).1
    omega

theorem put4 {w : World} {b : Nat} (r0 : w.cell? ⟨b, 0, none⟩ = some (.int .i64 0)) (r1 : w.cell? ⟨b, 1, none⟩ = some (.int .i64 0)) (r2 : w.cell? ⟨b, 2, none⟩ = some (.int .i64 0)) (r3 : w.cell? ⟨b, 3, none⟩ = some (.string ⟨#[]⟩)) (v0 v1 v2 v3 : Value) :
    ((((w.setCell ⟨b, 0, none⟩ v0).setCell ⟨b, 1, none⟩ v1).setCell ⟨b, 2, none⟩ v2).setCell ⟨b, 3, none⟩ v3).cell? ⟨b, 0, none⟩ = some v0 ∧
    ((((w.setCell ⟨b, 0, none⟩ v0).setCell ⟨b, 1, none⟩ v1).setCell ⟨b, 2, none⟩ v2).setCell ⟨b, 3, none⟩ v3).cell? ⟨b, 1, none⟩ = some v1 ∧
    ((((w.setCell ⟨b, 0, none⟩ v0).setCell ⟨b, 1, none⟩ v1).setCell ⟨b, 2, none⟩ v2).setCell ⟨b, 3, none⟩ v3).cell? ⟨b, 2, none⟩ = some v2 ∧
    ((((w.setCell ⟨b, 0, none⟩ v0).setCell ⟨b, 1, none⟩ v1).setCell ⟨b, 2, none⟩ v2).setCell ⟨b, 3, none⟩ v3).cell? ⟨b, 3, none⟩ = some v3 := by
  refine ⟨?_, ?_, ?_, ?_⟩
  · rw [World.cell?_setCell_other _ _ _ _ (by simp), World.cell?_setCell_other _ _ _ _ (by simp), World.cell?_setCell_other _ _ _ _ (by simp)]
    exact World.cell?_setCell_same _ _ _ r0
  · rw [World.cell?_setCell_other _ _ _ _ (by simp), World.cell?_setCell_other _ _ _ _ (by simp)]
    exact World.cell?_setCell_same _ _ _ ((World.cell?_setCell_other _ _ _ _ (by simp)).trans r1)
  · rw [World.cell?_setCell_other _ _ _ _ (by simp)]
    exact World.cell?_setCell_same _ _ _ ((World.cell?_setCell_other _ _ _ _ (by simp)).trans ((World.cell?_setCell_other _ _ _ _ (by simp)).trans r2))
  · exact World.cell?_setCell_same _ _ _ ((World.cell?_setCell_other _ _ _ _ (by simp)).trans ((World.cell?_setCell_other _ _ _ _ (by simp)).trans ((World.cell?_setCell_other _ _ _ _ (by simp)).trans r3)))

theorem postK_mk {s : ByteArray} {w w' : World} (k : K) (b : Bool) (h : ReadsK s k b) (hb : Below w.heap.size w w') : ReadPostK s w (.returned (.tuple #[.agg #[.int .i64 k.hand, .int .i64 k.round, .int .i64 k.frm, .string k.word], .bool b])) w' := ⟨k, b, rfl, h, hb⟩

end Kn
end Go.Proofs.YtghpmhfhenndiaaDoor
