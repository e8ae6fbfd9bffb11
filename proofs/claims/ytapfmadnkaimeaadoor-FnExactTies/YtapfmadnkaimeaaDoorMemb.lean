/-
  What the functions of chapter 1 and of its model that go over all members answer: the members, and how many; for every argument; no condition.
-/
import Derived.Test.YtapfmadnkaimeaaDoorBase
namespace Go.Proofs.YtapfmadnkaimeaaDoor
open Go.RowKit
set_option maxRecDepth 100000
namespace Memb
theorem u64w (n : Int) (h0 : 0 ≤ n) (h1 : n < 18446744073709551616) : IntKind.u64.wrap n = n := by
  rw [IntKind.wrap_u64]; omega
theorem andc (a b : Nat) (ha : a < 18446744073709551616) (hb : b < 18446744073709551616) (A B : Int) (hA : A = (a : Int)) (hB : B = (b : Int)) : bits .and .u64 A B = ((a &&& b : Nat) : Int) := by
  rw [hA, hB]; exact u64_and_nat a b ha hb
theorem step1 (x : Nat) (hx : x < 18446744073709551616) : IntKind.u64.wrap (bits .and .u64 ((x : Int) / 2) 6148914691236517205 + bits .and .u64 (x : Int) 6148914691236517205) = (((x / 2 &&& 6148914691236517205) + (x &&& 6148914691236517205) : Nat) : Int) := by
  rw [andc (x / 2) 6148914691236517205 (by omega) (by omega) ((x : Int) / 2) 6148914691236517205 (by omega) (by omega), andc x 6148914691236517205 (by omega) (by omega) (x : Int) 6148914691236517205 rfl (by omega)]
  have h1 := Bit.and_le' (x / 2) 6148914691236517205
  have h2 := Bit.and_le' x 6148914691236517205
  rw [u64w _ (by omega) (by omega)]; omega
theorem step2 (x : Nat) (hx : x < 18446744073709551616) : IntKind.u64.wrap (bits .and .u64 ((x : Int) / 4) 3689348814741910323 + bits .and .u64 (x : Int) 3689348814741910323) = (((x / 4 &&& 3689348814741910323) + (x &&& 3689348814741910323) : Nat) : Int) := by
  rw [andc (x / 4) 3689348814741910323 (by omega) (by omega) ((x : Int) / 4) 3689348814741910323 (by omega) (by omega), andc x 3689348814741910323 (by omega) (by omega) (x : Int) 3689348814741910323 rfl (by omega)]
  have h1 := Bit.and_le' (x / 4) 3689348814741910323
  have h2 := Bit.and_le' x 3689348814741910323
  rw [u64w _ (by omega) (by omega)]; omega
theorem step3 (x : Nat) (hx : x ≤ 7378697629483820646) : bits .and .u64 (IntKind.u64.wrap ((x : Int) / 16 + (x : Int))) 1085102592571150095 = (((x / 16 + x) &&& 1085102592571150095 : Nat) : Int) := by
  rw [u64w _ (by omega) (by omega), andc (x / 16 + x) 1085102592571150095 (by omega) (by omega) ((x : Int) / 16 + (x : Int)) 1085102592571150095 (by omega) (by omega)]
theorem step4 (x : Nat) (hx : x ≤ 1085102592571150095) : IntKind.u64.wrap ((x : Int) + (x : Int) / 256) = ((x + x / 256 : Nat) : Int) := by
  rw [u64w _ (by omega) (by omega)]; omega
theorem step5 (x : Nat) (hx : x ≤ 2170205185142300190) : IntKind.u64.wrap ((x : Int) + (x : Int) / 65536) = ((x + x / 65536 : Nat) : Int) := by
  rw [u64w _ (by omega) (by omega)]; omega
theorem step6 (x : Nat) (hx : x ≤ 4340410370284600380) : wrap64 (IntKind.u64.wrap ((x : Int) + (x : Int) / 4294967296)) % 128 = (((x + x / 4294967296) % 128 : Nat) : Int) := by
  rw [u64w _ (by omega) (by omega)]
  simp only [wrap64]; omega

set_option maxHeartbeats 400000 in
theorem ones (x : Int) (w : World) (h0 : 0 ≤ x) (h1 : x < 1152921504606846976) : Calls Tryd.prog 122 #[.int .u64 x] w fun e w' => e = .returned (.int .i64 ((Bit.memTo x 60).length : Int)) ∧ w = w' := by
  obtain ⟨x, rfl⟩ := Int.eq_ofNat_of_zero_le h0
  go_enter Tryd.func122, Tryd.ntmps122
  go_wp2
  go_ret
  refine ⟨Base.ret_int ?_, rfl⟩
  rw [step1 x (by omega)]
  have b1 := Bit.and_le' (x / 2) 6148914691236517205
  have b1' := Bit.and_le' x 6148914691236517205
  have e1 : (x / 2 &&& 6148914691236517205) + (x &&& 6148914691236517205) < 18446744073709551616 := by omega
  generalize g1 : (x / 2 &&& 6148914691236517205) + (x &&& 6148914691236517205) = x1 at *
  rw [step2 x1 e1]
  have b2 := Bit.and_le' (x1 / 4) 3689348814741910323
  have b2' := Bit.and_le' x1 3689348814741910323
  have e2 : (x1 / 4 &&& 3689348814741910323) + (x1 &&& 3689348814741910323) ≤ 7378697629483820646 := by omega
  generalize g2 : (x1 / 4 &&& 3689348814741910323) + (x1 &&& 3689348814741910323) = x2 at *
  rw [step3 x2 e2]
  have e3 := Bit.and_le' (x2 / 16 + x2) 1085102592571150095
  generalize g3 : (x2 / 16 + x2) &&& 1085102592571150095 = x3 at *
  rw [step4 x3 e3]
  have e4 : x3 + x3 / 256 ≤ 2170205185142300190 := by omega
  generalize g4 : x3 + x3 / 256 = x4 at *
  rw [step5 x4 e4]
  have e5 : x4 + x4 / 65536 ≤ 4340410370284600380 := by omega
  generalize g5 : x4 + x4 / 65536 = x5 at *
  rw [i64_and127, step6 x5 e5, Bit.ones_nat x x1 x2 x3 x4 x5 g1.symm g2.symm g3.symm g4.symm g5.symm, Bit.pop_64 x (by omega)]
theorem info2 : (Tryd.prog.info? 2).map (fun i => (i.zero, i.size, i.bytes)) = some (some (.int .i64 0), 1, 8) := by kernel_rfl

theorem rel_add {B : Nat} {s : Int} {k : Nat} {w wr w1 : World} {v v' : Value} {o : Obj} (hb : Bit.bit s k = true) (hB : B ≤ wr.heap.size)
    (hown : wr.ownsRow B 2 1 v (Bit.memTo s k).length ((Bit.memTo s k).map (Value.int .i64))) (hnx : Below B w wr)
    (hown' : w1.ownsRow B 2 1 v' ((Bit.memTo s k).length + 1) ((Bit.memTo s k).map (Value.int .i64) ++ [.int .i64 (k : Int)])) (hgrow : (wr.alloc o).grownBy w1 v.ownBlock) :
    w1.ownsRow B 2 1 v' (Bit.memTo s (k + 1)).length ((Bit.memTo s (k + 1)).map (Value.int .i64)) ∧ Below B w w1 ∧ B ≤ w1.heap.size := by
  have hbel := (hnx.alloc hB o).grown hgrow (by simp; omega) (fun j hj => (hown.lt j hj).1)
  refine ⟨by rw [Bit.memTo_succ, hb]; simpa using hown', hbel, ?_⟩
  have := hgrow.size; simp at this; omega

theorem rel_skip {B : Nat} {s : Int} {k : Nat} {wr : World} {v : Value} (hb : Bit.bit s k = false)
    (hown : wr.ownsRow B 2 1 v (Bit.memTo s k).length ((Bit.memTo s k).map (Value.int .i64))) :
    wr.ownsRow B 2 1 v (Bit.memTo s (k + 1)).length ((Bit.memTo s (k + 1)).map (Value.int .i64)) := by
  rw [Bit.memTo_succ, hb]; simpa using hown

theorem own_empty (w : World) : (w.alloc (.cells #[] 2)).ownsRow w.heap.size 2 1 (.slice (some ⟨w.heap.size, 0, none⟩) 0 0) 0 [] :=
  World.ownsRow_lit w #[] 0 (Nat.le_refl _) (by unfold maxLen; omega) rfl

/-- a slice of the call's own that holds the numbers l -/
def Own (B : Nat) (w : World) (ao : Option Addr) (cap : Nat) (l : List Int) : Prop := w.ownsRow B 2 1 (.slice ao l.length cap) l.length (l.map (Value.int .i64))

theorem own_shape {B : Nat} {w : World} {v : Value} {l : List Int} (h : w.ownsRow B 2 1 v l.length (l.map (Value.int .i64))) : ∃ ao cap, v = .slice ao l.length cap ∧ Own B w ao cap l := by
  have h' := h
  obtain ⟨_, ⟨hv, hn⟩ | ⟨g, cap, cur, hv, _⟩⟩ := h'
  · refine ⟨none, 0, by rw [hn]; exact hv, ?_⟩
    unfold Own; rw [hn] at h ⊢; rw [← hv]; exact h
  · refine ⟨some ⟨g, 0, none⟩, cap, hv, ?_⟩
    unfold Own; rw [← hv]; exact h

/-- the members -/
def memI (s : Int) : List Int := if Base.okB s then Bit.memTo s 60 else []
/-- how many -/
def sizeI (s : Int) : Int := if Base.okB s then ((Bit.memTo s 60).length : Int) else -1

theorem memI_le (s : Int) : (memI s).length ≤ 60 := by
  unfold memI; split
  · exact Bit.memTo_le s 60
  · simp

set_option maxHeartbeats 400000 in
theorem size (s : Int) (w : World) (h0 : 0 ≤ s) (h1 : s < 1152921504606846976) : Calls Tryd.prog 117 #[.int .i64 s] w fun e w' => e = .returned (.int .i64 ((Bit.memTo s 60).length : Int)) ∧ w = w' := by
  go_enter Tryd.func117, Tryd.ntmps117
  go_wp2_with (go_at_call 122; refine (ones _ _ h0 h1).mono ?_; rintro e w' ⟨rfl, rfl⟩)
  go_ret
  exact ⟨rfl, rfl⟩

/-- the members below k -/
def memK (s : Int) (k : Nat) : List Int := if Base.okB s then Bit.memTo s k else []
theorem memK_le (s : Int) (k : Nat) : (memK s k).length ≤ k := by
  unfold memK; split
  · exact Bit.memTo_le s k
  · simp
theorem memK_hit (s : Int) (k : Nat) (h : (Base.okB s && (Base.inB (k : Int) && Bit.bit s k)) = true) : memK s (k + 1) = memK s k ++ [(k : Int)] := by
  simp at h
  unfold memK; rw [h.1, Bit.memTo_succ, h.2.2]; simp
theorem memK_miss (s : Int) (k : Nat) (hk : k < 60) (h : (Base.okB s && (Base.inB (k : Int) && Bit.bit s k)) = false) : memK s (k + 1) = memK s k := by
  have hi : Base.inB (k : Int) = true := (Base.inB_iff _).2 ⟨by omega, by omega⟩
  unfold memK
  cases ho : Base.okB s
  · rfl
  · rw [ho, hi] at h; simp at h; rw [Bit.memTo_succ, h]; simp

theorem rel_put {B : Nat} {w wr w1 : World} {v v' : Value} {o : Obj} {l l' : List Int} {x : Int} (hl : l' = l ++ [x]) (hB : B ≤ wr.heap.size)
    (hown : wr.ownsRow B 2 1 v l.length (l.map (Value.int .i64))) (hnx : Below B w wr)
    (hown' : w1.ownsRow B 2 1 v' (l.length + 1) (l.map (Value.int .i64) ++ [.int .i64 x])) (hgrow : (wr.alloc o).grownBy w1 v.ownBlock) :
    w1.ownsRow B 2 1 v' l'.length (l'.map (Value.int .i64)) ∧ Below B w w1 ∧ B ≤ w1.heap.size := by
  have hbel := (hnx.alloc hB o).grown hgrow (by simp; omega) (fun j hj => (hown.lt j hj).1)
  refine ⟨by rw [hl]; simpa using hown', hbel, ?_⟩
  have := hgrow.size; simp at this; omega

set_option maxHeartbeats 800000 in
theorem picked (s : Int) (w : World) : Calls Tryd.prog 116 #[.func (.func 62) #[.int .i64 s] #[]] w fun e w' =>
    ∃ ao cap, e = .returned (.slice ao (memI s).length cap) ∧ Own w.heap.size w' ao cap (memI s) ∧ Below w.heap.size w w' := by
  obtain ⟨i0, hi, hz0, hz1, hz2⟩ := info_parts info2
  go_enter Tryd.func116, Tryd.ntmps116
  go_wp2
  go_loopw [3, 6] (fun v i wr => ∃ k : Nat, k ≤ 60 ∧ i = .int .i64 k ∧ wr.ownsRow w.heap.size 2 1 v (memK s k).length ((memK s k).map (Value.int .i64)) ∧ Below w.heap.size w wr ∧ w.heap.size ≤ wr.heap.size)
    (fun _ i _ => 60 - (intOf i).toNat)
  case atStart => exact ⟨0, by omega, rfl, by have := own_empty w; simpa [memK, Bit.memTo] using this, (Below.refl _ _).alloc (Nat.le_refl _) _, by simp⟩
  case round =>
    obtain ⟨k, hk, rfl, hown, hnx, hB⟩ := hrel
    have hle := memK_le s k
    by_cases hlt : k < 60
    · cases hb : (Base.okB s && (Base.inB (k : Int) && Bit.bit s k))
      · have HM : Hid (memK s (k + 1) = memK s k) := memK_miss s k hlt hb
        have HB : Hid ((Base.okB s && (Base.inB (k : Int) && Bit.bit s k)) = false) := hb
        clear hb
        go_wp2_with (go_at_call 62; refine (Base.has _ _ _).mono ?_; rintro e w' ⟨rfl, rfl⟩; rw [Int.toNat_natCast, HB.out])
        go_roundw
        case rel => exact ⟨k + 1, by omega, by go_num, by rw [HM.out]; exact hown, hnx, hB⟩
        case measure => simp [intOf]; omega
      · have HM : Hid (memK s (k + 1) = memK s k ++ [(k : Int)]) := memK_hit s k hb
        have HB : Hid ((Base.okB s && (Base.inB (k : Int) && Bit.bit s k)) = true) := hb
        clear hb
        go_wp2_with (first | (go_at_call 62; refine (Base.has _ _ _).mono ?_; rintro e w' ⟨rfl, rfl⟩; rw [Int.toNat_natCast, HB.out]) | (at_builtin; refine wpList_append_own _ rfl _ _ 50 rfl w.heap.size 2 i0 (.int .i64 0) 1 8 Tryd.underlying50 hi hz0 hz1 hz2 rfl (by decide) _ _ _ rfl (hown.alloc _) ⟨wr.heap.size, 0, none⟩ 1 1 [.int .i64 (k : Int)] rfl rfl ?c1 ?c2 ?c3 ?c4 ?c5 ?_))
        case c1 =>
          intro j u hj
          match j, hj with
          | 0, hj => simp at hj; subst hj; simp [Addr.add]
        case c2 => intro u hu; simp at hu; subst hu; rfl
        case c3 => unfold maxLen; omega
        case c4 => omega
        case c5 => simp; omega
        intro v' w1 hown' hgrow _
        have R := rel_put HM.out hB hown hnx hown' hgrow
        clear hown' hgrow hown
        go_wp2
        go_roundw
        case rel => exact ⟨k + 1, by omega, by go_num, R.1, R.2.1, R.2.2⟩
        case measure => simp [intOf]; omega
    · obtain rfl : k = 60 := by omega
      have hown2 : wr.ownsRow w.heap.size 2 1 u3 (memI s).length ((memI s).map (Value.int .i64)) := hown
      obtain ⟨ao, cap, hv, ho⟩ := own_shape hown2
      have HV : Hid (u3 = .slice ao (memI s).length cap) := hv
      clear hv hown hown2
      go_wp2
      go_ret
      exact ⟨ao, cap, by rw [← HV.out]; rfl, ho, hnx⟩

end Memb
end Go.Proofs.YtapfmadnkaimeaaDoor
