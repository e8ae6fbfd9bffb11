/-
  What the program's own ReadKnot answers: the right knot whose text it is and true, else the zero knot and false; for texts of at most 2^30 bytes, the library's tables as they are laid.
-/
import Derived.Test.YtiopckkcdmeagaaGreatDoorKnotO
namespace Go.Proofs.YtiopckkcdmeagaaGreatDoor
open Go.RowKit
set_option maxRecDepth 100000
namespace Kn

theorem Zero.put4' {b : Nat} {w : World} (z : Zero b w) (v0 v1 v2 v3 : Value) (w' : World) (hw : w' = (((w.setCell ⟨b, 0, none⟩ v0).setCell ⟨b, 1, none⟩ v1).setCell ⟨b, 2, none⟩ v2).setCell ⟨b, 3, none⟩ v3) :
    w'.cell? ⟨b, 0, none⟩ = some v0 ∧ w'.cell? ⟨b, 1, none⟩ = some v1 ∧ w'.cell? ⟨b, 2, none⟩ = some v2 ∧ w'.cell? ⟨b, 3, none⟩ = some v3 := by
  subst hw; exact z.put v0 v1 v2 v3

set_option maxHeartbeats 3200000 in
theorem implReadKnot (s : ByteArray) (w : World) (t : Tabs w) (hs : s.size ≤ 1073741824) : Calls Tryz.prog 8 #[.string s] w (ReadPostK s w) := by
  have B0 : Below w.heap.size w (w.alloc (.cells #[.int .i64 0, .int .i64 0, .int .i64 0, .string ⟨#[]⟩] 25)) := (Below.refl _ _).alloc (Nat.le_refl _) _
  have P0 : Hid (Below w.heap.size w (w.alloc (.cells #[.int .i64 0, .int .i64 0, .int .i64 0, .string ⟨#[]⟩] 25)) ∧ Zero w.heap.size (w.alloc (.cells #[.int .i64 0, .int .i64 0, .int .i64 0, .string ⟨#[]⟩] 25)) ∧ Tabs (w.alloc (.cells #[.int .i64 0, .int .i64 0, .int .i64 0, .string ⟨#[]⟩] 25))) := ⟨B0, zero_new w _, t.below B0⟩
  clear B0
  go_enter Tryz.func8, Tryz.ntmps8
  go_wp2_with fail
  generalize w.alloc (.cells #[.int .i64 0, .int .i64 0, .int .i64 0, .string ⟨#[]⟩] 25) = w0 at P0 ⊢
  obtain ⟨B0, Z0, T0⟩ := P0
  refine (roughKnot s _ T0 hs).mono ?_
  rintro e w1 ⟨h, r, f, wd, b, rfl, hwd, hK, hb1⟩
  have Z1 := Z0.below hb1
  have B1 := B0.trans (hb1.mono B0.size)
  have HK : Hid (∀ k, okK k = true → showK k = s.data.toList → b = true ∧ k = ⟨h, r, f, wd⟩) := hK
  clear hb1 Z0 B0 T0 hK
  -- the knot that was read lies in a new block
  have A1 : Below w1.heap.size w1 (w1.alloc (.cells #[.int .i64 h, .int .i64 r, .int .i64 f, .string wd] 35)) := (Below.refl _ _).alloc (Nat.le_refl _) _
  have Z2 := Z1.below A1
  have B2 := B1.trans (A1.mono B1.size)
  have S2 : w1.heap.size < (w1.alloc (.cells #[.int .i64 h, .int .i64 r, .int .i64 f, .string wd] 35)).heap.size := by simp
  have c0 : (w1.alloc (.cells #[.int .i64 h, .int .i64 r, .int .i64 f, .string wd] 35)).cell? ⟨w1.heap.size, 0, none⟩ = some (.int .i64 h) := by simp
  have c1 : (w1.alloc (.cells #[.int .i64 h, .int .i64 r, .int .i64 f, .string wd] 35)).cell? ⟨w1.heap.size, 1, none⟩ = some (.int .i64 r) := by simp
  have c2 : (w1.alloc (.cells #[.int .i64 h, .int .i64 r, .int .i64 f, .string wd] 35)).cell? ⟨w1.heap.size, 2, none⟩ = some (.int .i64 f) := by simp
  have c3 : (w1.alloc (.cells #[.int .i64 h, .int .i64 r, .int .i64 f, .string wd] 35)).cell? ⟨w1.heap.size, 3, none⟩ = some (.string wd) := by simp
  have P2 : Hid (Zero w.heap.size (w1.alloc (.cells #[.int .i64 h, .int .i64 r, .int .i64 f, .string wd] 35)) ∧ Below w.heap.size w (w1.alloc (.cells #[.int .i64 h, .int .i64 r, .int .i64 f, .string wd] 35)) ∧ _ ∧ _ ∧ _ ∧ _ ∧ _) := ⟨Z2, B2, S2, c0, c1, c2, c3⟩
  clear A1 Z1 B1 Z2 B2 S2 c0 c1 c2 c3
  cases b
  · have HN : Hid (∀ k, okK k = true → showK k ≠ s.data.toList) := fun k hk e => Bool.noConfusion (HK.out k hk e).1
    have Z2 := P2.out.1
    have f0 := Z2.f0
    have f1 := Z2.f1
    have f2 := Z2.f2
    have f3 := Z2.f3
    have r0 := Z2.r0
    have r1 := Z2.r1
    have r2 := Z2.r2
    have r3 := Z2.r3
    have HQ : Hid _ := Z2.put (.int .i64 0) (.int .i64 0) (.int .i64 0) (.string ⟨#[]⟩)
    clear Z2
    go_wp2
    obtain ⟨q0, q1, q2, q3⟩ := HQ.out
    exact bodyPost_ret (v := .tuple #[.agg #[.int .i64 0, .int .i64 0, .int .i64 0, .string ⟨#[]⟩], .bool false]) (by simp [results, Tryz.results8, go_sem, q0, q1, q2, q3]) rfl (postK_mk zeroK false (.inr ⟨rfl, rfl, HN.out⟩) (below_put P2.out.2.1 _ _ _ _))
  · go_wp2_with fail
    generalize w1.alloc (.cells #[.int .i64 h, .int .i64 r, .int .i64 f, .string wd] 35) = w2 at P2 ⊢
    obtain ⟨Z2, B2, S2, c0, c1, c2, c3⟩ := P2
    generalize w1.heap.size = b1 at S2 c0 c1 c2 c3 ⊢
    refine (knotRight _ _ _ _ _ (by omega)).mono ?_
    rintro e w3 ⟨rfl, hb3⟩
    replace c0 := (hb3.cell (p := ⟨b1, 0, none⟩) S2).trans c0
    replace c1 := (hb3.cell (p := ⟨b1, 1, none⟩) S2).trans c1
    replace c2 := (hb3.cell (p := ⟨b1, 2, none⟩) S2).trans c2
    replace c3 := (hb3.cell (p := ⟨b1, 3, none⟩) S2).trans c3
    have Z3 := Z2.below hb3
    have B3 := B2.trans (hb3.mono B2.size)
    have S3 : b1 < w3.heap.size := Nat.lt_of_lt_of_le S2 hb3.size
    clear hb3 Z2 B2 S2
    cases hok : okK ⟨h, r, f, wd⟩
    · have HN : Hid (∀ k, okK k = true → showK k ≠ s.data.toList) := fun k hk e => by
        have := (HK.out k hk e).2
        rw [this, hok] at hk; exact Bool.noConfusion hk
      have f0 := Z3.f0
      have f1 := Z3.f1
      have f2 := Z3.f2
      have f3 := Z3.f3
      have r0 := Z3.r0
      have r1 := Z3.r1
      have r2 := Z3.r2
      have r3 := Z3.r3
      have HQ : Hid _ := Z3.put (.int .i64 0) (.int .i64 0) (.int .i64 0) (.string ⟨#[]⟩)
      clear Z3 hok
      go_wp2
      obtain ⟨q0, q1, q2, q3⟩ := HQ.out
      exact bodyPost_ret (v := .tuple #[.agg #[.int .i64 0, .int .i64 0, .int .i64 0, .string ⟨#[]⟩], .bool false]) (by simp [results, Tryz.results8, go_sem, q0, q1, q2, q3]) rfl (postK_mk zeroK false (.inr ⟨rfl, rfl, HN.out⟩) (below_put B3 _ _ _ _))
    · obtain ⟨⟨k1, k2⟩, ⟨k3, k4⟩, ⟨k5, k6⟩, _⟩ := okK_parts hok
      simp only at k1 k2 k3 k4 k5 k6
      obtain ⟨h', rfl⟩ := Int.eq_ofNat_of_zero_le k1
      obtain ⟨r', rfl⟩ := Int.eq_ofNat_of_zero_le k3
      have hh : h' < 100 := by omega
      have hr : r' < 100 := by omega
      have HOK : Hid (okK ⟨h', r', f, wd⟩ = true) := hok
      clear hok k1 k2 k3 k4
      go_wp2_with fail
      refine (shown h' r' f wd _ hh hr k5 k6 (by omega)).mono ?_
      rintro e w4 ⟨rfl, hb4⟩
      replace c0 := (hb4.cell (p := ⟨b1, 0, none⟩) S3).trans c0
      replace c1 := (hb4.cell (p := ⟨b1, 1, none⟩) S3).trans c1
      replace c2 := (hb4.cell (p := ⟨b1, 2, none⟩) S3).trans c2
      replace c3 := (hb4.cell (p := ⟨b1, 3, none⟩) S3).trans c3
      have Z4 := Z3.below hb4
      have B4 := B3.trans (hb4.mono B3.size)
      clear hb4 Z3 B3 S3
      by_cases heq : showK ⟨h', r', f, wd⟩ = s.data.toList
      · have hsb : ((B (showK ⟨h', r', f, wd⟩)).toList == s.toList) = true := by
          rw [beq_iff_eq, B_list, ByteArray.toList_eq]; exact heq
        have hsb2 : (showK ⟨h', r', f, wd⟩ == s.toList) = true := by
          rw [beq_iff_eq, ByteArray.toList_eq]; exact heq
        have HE : Hid (showK ⟨h', r', f, wd⟩ = s.data.toList) := heq
        clear heq
        go_wp2_with fail
        refine (handedOut _ _ _ _ _).mono ?_
        rintro e w5 ⟨rfl, hb5⟩
        have Z5 := Z4.below hb5
        have B5 := B4.trans (hb5.mono B4.size)
        clear hb5 Z4 B4
        have f0 := Z5.f0
        have f1 := Z5.f1
        have f2 := Z5.f2
        have f3 := Z5.f3
        have r0 := Z5.r0
        have r1 := Z5.r1
        have r2 := Z5.r2
        have r3 := Z5.r3
        have HQ : Hid _ := Z5.put (.int .i64 (h' : Int)) (.int .i64 (r' : Int)) (.int .i64 f) (.string wd)
        clear Z5
        go_wp2
        obtain ⟨q0, q1, q2, q3⟩ := HQ.out
        exact bodyPost_ret (v := .tuple #[.agg #[.int .i64 (h' : Int), .int .i64 (r' : Int), .int .i64 f, .string wd], .bool true]) (by simp [results, Tryz.results8, go_sem, q0, q1, q2, q3]) rfl (postK_mk ⟨h', r', f, wd⟩ true (.inl ⟨rfl, HOK.out, HE.out⟩) (below_put B5 _ _ _ _))
      · have hsb : ((B (showK ⟨h', r', f, wd⟩)).toList == s.toList) = false := by
          rw [beq_eq_false_iff_ne, B_list, ByteArray.toList_eq]; exact heq
        have hsb2 : (showK ⟨h', r', f, wd⟩ == s.toList) = false := by
          rw [beq_eq_false_iff_ne, ByteArray.toList_eq]; exact heq
        have HN : Hid (∀ k, okK k = true → showK k ≠ s.data.toList) := fun k hk e => by
          have := (HK.out k hk e).2
          rw [this] at e; exact heq e
        clear heq
        have f0 := Z4.f0
        have f1 := Z4.f1
        have f2 := Z4.f2
        have f3 := Z4.f3
        have r0 := Z4.r0
        have r1 := Z4.r1
        have r2 := Z4.r2
        have r3 := Z4.r3
        have HQ : Hid _ := Z4.put (.int .i64 0) (.int .i64 0) (.int .i64 0) (.string ⟨#[]⟩)
        clear Z4
        go_wp2
        obtain ⟨q0, q1, q2, q3⟩ := HQ.out
        exact bodyPost_ret (v := .tuple #[.agg #[.int .i64 0, .int .i64 0, .int .i64 0, .string ⟨#[]⟩], .bool false]) (by simp [results, Tryz.results8, go_sem, q0, q1, q2, q3]) rfl (postK_mk zeroK false (.inr ⟨rfl, rfl, HN.out⟩) (below_put B4 _ _ _ _))

end Kn
end Go.Proofs.YtiopckkcdmeagaaGreatDoor
