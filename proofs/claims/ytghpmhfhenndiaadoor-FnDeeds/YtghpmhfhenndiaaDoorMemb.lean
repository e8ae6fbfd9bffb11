/-
  What the functions of chapter 1 and of its model that go over all members answer: the members, and how many; for every argument; no condition.
-/
import Derived.Test.YtghpmhfhenndiaaDoorBase
namespace Go.Proofs.YtghpmhfhenndiaaDoor
open Go.RowKit
set_option maxRecDepth 100000
namespace Memb
theorem u64w (n : Int) (h0 : 0 ≤ n) (h1 : n < 18446744073709551616) : IntKind.u64.wrap n = n := by
  rw [IntKind.wrap_u64]; omega
theorem andc (a b : Nat) (ha : a < 18446744073709551616) (hb : b < 18446744073709551616) (A B : Int) (hA : A = (a : Int)) (hB : B = (b : Int)) : bits .and .u64 A B = ((a &&& b : Nat) : Int) := by
  rw [hA, hB]; exact u64_and_nat a b ha hb
theorem step1 (x : Nat) (hx : x < 18446744073709551616) : IntKind.u64.wrap (bits .and .u64 ((x : Int) / 2) 6148914691236517205 + bits .and .u64 (x : Int) 6148914691236517205) = (((x / 2 &&& 6148914691236517205) + (x &&& 6148914691236517205) : Nat) : Int) := by
  rw [andc (x / 2) 6148914691236517205 (by omega) (by omega) ((x : Int) / 2) 6148914691236517205 (by omega) (by omega), andc x 6148914691236517205 (by omega) (by omega) (x : Int) 6148914691236517205 rfl (by omega)]
  have h1 := Bit.and_le' (x / 2) 6148914691236517205
  have h2 := Bit.and_le' x 6148914691236517205
  rw [u64w _ (by omega) (by omega)]; omega
theorem step2 (x : Nat) (hx : x < 18446744073709551616) : IntKind.u64.wrap (bits .and .u64 ((x : Int) / 4) 3689348814741910323 + bits .and .u64 (x : Int) 3689348814741910323) = (((x / 4 &&& 3689348814741910323) + (x &&& 3689348814741910323) : Nat) : Int) := by
  rw [andc (x / 4) 3689348814741910323 (by omega) (by omega) ((x : Int) / 4) 3689348814741910323 (by omega) (by omega), andc x 3689348814741910323 (by omega) (by omega) (x : Int) 3689348814741910323 rfl (by omega)]
  have h1 := Bit.and_le' (x / 4) 3689348814741910323
  have h2 := Bit.and_le' x 3689348814741910323
  rw [u64w _ (by omega) (by omega)]; omega
theorem step3 (x : Nat) (hx : x ≤ 7378697629483820646) : bits .and .u64 (IntKind.u64.wrap ((x : Int) / 16 + (x : Int))) 1085102592571150095 = (((x / 16 + x) &&& 1085102592571150095 : Nat) : Int) := by
  rw [u64w _ (by omega) (by omega), andc (x / 16 + x) 1085102592571150095 (by omega) (by omega) ((x : Int) / 16 + (x : Int)) 1085102592571150095 (by omega) (by omega)]
theorem step4 (x : Nat) (hx : x ≤ 1085102592571150095) : IntKind.u64.wrap ((x : Int) + (x : Int) / 256) = ((x + x / 256 : Nat) : Int) := by
  rw [u64w _ (by omega) (by omega)]; omega
theorem step5 (x : Nat) (hx : x ≤ 2170205185142300190) : IntKind.u64.wrap ((x : Int) + (x : Int) / 65536) = ((x + x / 65536 : Nat) : Int) := by
  rw [u64w _ (by omega) (by omega)]; omega
theorem step6 (x : Nat) (hx : x ≤ 4340410370284600380) : wrap64 (IntKind.u64.wrap ((x : Int) + (x : Int) / 4294967296)) % 128 = (((x + x / 4294967296) % 128 : Nat) : Int) := by
  rw [u64w _ (by omega) (by omega)]
  simp only [wrap64]; omega

theorem info2 : (Tryd.prog.info? 2).map (fun i => (i.zero, i.size, i.bytes)) = some (some (.int .i64 0), 1, 8) := by kernel_rfl

theorem rel_add {B : Nat} {s : Int} {k : Nat} {w wr w1 : World} {v v' : Value} {o : Obj} (hb : Bit.bit s k = true) (hB : B ≤ wr.heap.size)
    (hown : wr.ownsRow B 2 1 v (Bit.memTo s k).length ((Bit.memTo s k).map (Value.int .i64))) (hnx : Below B w wr)
    (hown' : w1.ownsRow B 2 1 v' ((Bit.memTo s k).length + 1) ((Bit.memTo s k).map (Value.int .i64) ++ [.int .i64 (k : Int)])) (hgrow : (wr.alloc o).grownBy w1 v.ownBlock) :
    w1.ownsRow B 2 1 v' (Bit.memTo s (k + 1)).length ((Bit.memTo s (k + 1)).map (Value.int .i64)) ∧ Below B w w1 ∧ B ≤ w1.heap.size := by
  have hbel := (hnx.alloc hB o).grown hgrow (by simp; omega) (fun j hj => (hown.lt j hj).1)
  refine ⟨by rw [Bit.memTo_succ, hb]; simpa using hown', hbel, ?_⟩
  have := hgrow.size; simp at this; omega

theorem rel_skip {B : Nat} {s : Int} {k : Nat} {wr : World} {v : Value} (hb : Bit.bit s k = false)
    (hown : wr.ownsRow B 2 1 v (Bit.memTo s k).length ((Bit.memTo s k).map (Value.int .i64))) :
    wr.ownsRow B 2 1 v (Bit.memTo s (k + 1)).length ((Bit.memTo s (k + 1)).map (Value.int .i64)) := by
  rw [Bit.memTo_succ, hb]; simpa using hown

theorem own_empty (w : World) : (w.alloc (.cells #[] 2)).ownsRow w.heap.size 2 1 (.slice (some ⟨w.heap.size, 0, none⟩) 0 0) 0 [] :=
  World.ownsRow_lit w #[] 0 (Nat.le_refl _) (by unfold maxLen; omega) rfl

/-- a slice of the call's own that holds the numbers l -/
def Own (B : Nat) (w : World) (ao : Option Addr) (cap : Nat) (l : List Int) : Prop := w.ownsRow B 2 1 (.slice ao l.length cap) l.length (l.map (Value.int .i64))

theorem own_shape {B : Nat} {w : World} {v : Value} {l : List Int} (h : w.ownsRow B 2 1 v l.length (l.map (Value.int .i64))) : ∃ ao cap, v = .slice ao l.length cap ∧ Own B w ao cap l := by
  have h' := h
  obtain ⟨_, ⟨hv, hn⟩ | ⟨g, cap, cur, hv, _⟩⟩ := h'
  · refine ⟨none, 0, by rw [hn]; exact hv, ?_⟩
    unfold Own; rw [hn] at h ⊢; rw [← hv]; exact h
  · refine ⟨some ⟨g, 0, none⟩, cap, hv, ?_⟩
    unfold Own; rw [← hv]; exact h

/-- the members -/
def memI (s : Int) : List Int := if Base.okB s then Bit.memTo s 60 else []
/-- how many -/
def sizeI (s : Int) : Int := if Base.okB s then ((Bit.memTo s 60).length : Int) else -1

theorem memI_le (s : Int) : (memI s).length ≤ 60 := by
  unfold memI; split
  · exact Bit.memTo_le s 60
  · simp

/-- the members below k -/
def memK (s : Int) (k : Nat) : List Int := if Base.okB s then Bit.memTo s k else []
theorem memK_le (s : Int) (k : Nat) : (memK s k).length ≤ k := by
  unfold memK; split
  · exact Bit.memTo_le s k
  · simp
theorem memK_hit (s : Int) (k : Nat) (h : (Base.okB s && (Base.inB (k : Int) && Bit.bit s k)) = true) : memK s (k + 1) = memK s k ++ [(k : Int)] := by
  simp at h
  unfold memK; rw [h.1, Bit.memTo_succ, h.2.2]; simp
theorem memK_miss (s : Int) (k : Nat) (hk : k < 60) (h : (Base.okB s && (Base.inB (k : Int) && Bit.bit s k)) = false) : memK s (k + 1) = memK s k := by
  have hi : Base.inB (k : Int) = true := (Base.inB_iff _).2 ⟨by omega, by omega⟩
  unfold memK
  cases ho : Base.okB s
  · rfl
  · rw [ho, hi] at h; simp at h; rw [Bit.memTo_succ, h]; simp

theorem rel_put {B : Nat} {w wr w1 : World} {v v' : Value} {o : Obj} {l l' : List Int} {x : Int} (hl : l' = l ++ [x]) (hB : B ≤ wr.heap.size)
    (hown : wr.ownsRow B 2 1 v l.length (l.map (Value.int .i64))) (hnx : Below B w wr)
    (hown' : w1.ownsRow B 2 1 v' (l.length + 1) (l.map (Value.int .i64) ++ [.int .i64 x])) (hgrow : (wr.alloc o).grownBy w1 v.ownBlock) :
    w1.ownsRow B 2 1 v' l'.length (l'.map (Value.int .i64)) ∧ Below B w w1 ∧ B ≤ w1.heap.size := by
  have hbel := (hnx.alloc hB o).grown hgrow (by simp; omega) (fun j hj => (hown.lt j hj).1)
  refine ⟨by rw [hl]; simpa using hown', hbel, ?_⟩
  have := hgrow.size; simp at this; omega

end Memb
end Go.Proofs.YtghpmhfhenndiaaDoor
