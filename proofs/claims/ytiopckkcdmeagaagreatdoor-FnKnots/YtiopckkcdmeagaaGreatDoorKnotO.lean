/-
  What the program's own ReadKnot answers: the right knot whose text it is and true, else the zero knot and false; for texts of at most 2^30 bytes, the library's tables as they are laid.
-/
import Derived.Test.YtiopckkcdmeagaaGreatDoorKnotN
import Derived.Test.YtiopckkcdmeagaaGreatDoorZero
namespace Go.Proofs.YtiopckkcdmeagaaGreatDoor
open Go.RowKit
set_option maxRecDepth 100000
namespace Kn

theorem fieldsD_count (f : Nat) : ∀ (cur l : List UInt8), (Lib.fieldsGoD f cur l).length ≤ f + 1 := by
  induction f with
  | zero => intro cur l; unfold Lib.fieldsGoD; split <;> simp
  | succ f ih =>
    intro cur l
    unfold Lib.fieldsGoD
    split
    · split <;> simp
    · split
      · have := ih [] (l.drop (Lib.decodeL l).2)
        rw [List.length_append]
        split <;> simp <;> omega
      · have := ih (cur ++ l.take (Lib.decodeL l).2) (l.drop (Lib.decodeL l).2)
        omega

theorem fieldsD_piece (f : Nat) : ∀ (cur l x : List UInt8), x ∈ Lib.fieldsGoD f cur l → x.length ≤ cur.length + l.length := by
  induction f with
  | zero =>
    intro cur l x hx
    unfold Lib.fieldsGoD at hx
    split at hx
    · simp at hx
    · simp at hx; subst hx; omega
  | succ f ih =>
    intro cur l x hx
    unfold Lib.fieldsGoD at hx
    have hcur : x ∈ (if cur = [] then ([] : List (List UInt8)) else [cur]) → x.length ≤ cur.length + l.length := by
      intro h
      split at h
      · simp at h
      · simp at h; subst h; omega
    split at hx
    · exact hcur hx
    · split at hx
      · rw [List.mem_append] at hx
        rcases hx with hx | hx
        · exact hcur hx
        · have := ih _ _ _ hx
          simp at this; omega
      · have := ih _ _ _ hx
        simp at this; omega

theorem cut_len (l sep : List UInt8) : (Lib.cut l sep).1.length ≤ l.length ∧ (Lib.cut l sep).2.1.length ≤ l.length := by
  unfold Lib.cut
  split
  · constructor
    · exact List.length_take_le' _ _
    · simp
  · simp

/-- what the text falls into where it is a right knot's -/
theorem cut_ok {l hd wt : List UInt8} {fd : Bool} (hc : Lib.cut l [58] = (hd, wt, fd)) (k : K) (hk : okK k = true) (e : showK k = l) : Lib.fieldsD hd = (msK k).map dec ∧ Lib.trimPrefix wt [32] = k.word.data.toList := by
  rw [← e, cut_showK hk] at hc
  injection hc with h1 h2
  injection h2 with h2 _
  subst h1 h2
  exact ⟨by rw [fields_show hk, words_ms], trim_tail k⟩

theorem rough_no {s : ByteArray} {w w' : World} (h : ∀ k, okK k = true → showK k = s.data.toList → False) (hb : Below w.heap.size w w') : RoughPost s w (.returned (.tuple #[.agg #[.int .i64 0, .int .i64 0, .int .i64 0, .string ⟨#[]⟩], .bool false])) w' :=
  ⟨0, 0, 0, ⟨#[]⟩, false, rfl, Nat.zero_le _, fun k hk e => (h k hk e).elim, hb⟩

theorem rough_yes {s : ByteArray} {w w' : World} {h r f : Int} {wd : ByteArray} (hl : wd.size ≤ s.size) (hk : ∀ k, okK k = true → showK k = s.data.toList → k = ⟨h, r, f, wd⟩) (hb : Below w.heap.size w w') : RoughPost s w (.returned (.tuple #[.agg #[.int .i64 h, .int .i64 r, .int .i64 f, .string wd], .bool true])) w' :=
  ⟨h, r, f, wd, true, rfl, hl, fun k h1 h2 => ⟨rfl, hk k h1 h2⟩, hb⟩

theorem own_cells {b : Nat} {w : World} {ao : Option Addr} {cap : Nat} {l : List Int} (h : Memb.Own b w ao cap l) (hl : l ≠ []) : ∃ g, ao = some ⟨g, 0, none⟩ ∧ l.length ≤ cap ∧ cap ≤ maxLen ∧ ∀ (j : Nat) (hj : j < l.length), w.cell? ⟨g, j, none⟩ = some (.int .i64 l[j]) := by
  have h' := h
  obtain ⟨_, ⟨hv, hn⟩ | ⟨g, c, cur, hv, _, _, hc1, hc2, _⟩⟩ := h'
  · exact absurd (List.length_eq_zero_iff.1 hn) hl
  · injection hv with ha _ hcc
    subst ha hcc
    refine ⟨g, rfl, hc1, hc2, fun j hj => ?_⟩
    rcases Lst.own_rd h with he | ⟨g', e, hc⟩
    · exact absurd he hl
    · have : g' = g := by injection e with e; injection e with e; exact e.symm
      subst this
      rw [hc j hj]; simp [List.getD, hj]

theorem trimB (wt : List UInt8) (w : World) : Calls Tryz.prog 42 #[.string ⟨wt.toArray⟩, .string ⟨#[32]⟩] w fun e w' => e = .returned (.string (B (Lib.trimPrefix wt [32]))) ∧ w = w' := by
  have h := Tryz.strings_TrimPrefix (B wt) ⟨#[32]⟩ w
  have e1 : (B wt).data.toList = wt := by simp [B]
  have e2 : (⟨#[32]⟩ : ByteArray).data.toList = [32] := rfl
  rw [e1, e2] at h
  exact h.mono fun e w' ⟨he, hw⟩ => ⟨he, hw.symm⟩

theorem knot_of {nums : List Int} {wt : List UInt8} {k : K} (hk : okK k = true) (h : nums = k.hand :: k.round :: Bit.memTo k.frm 60) (ht : Lib.trimPrefix wt [32] = k.word.data.toList) (h0 : 0 < nums.length) (h1 : 1 < nums.length) :
    k = ⟨nums[0], nums[1], foldW (nums.drop 2), B (Lib.trimPrefix wt [32])⟩ := by
  obtain ⟨_, _, ⟨a5, a6⟩, _⟩ := okK_parts hk
  subst h
  rw [ht, B_data]
  simp only [List.getElem_cons_zero, List.getElem_cons_succ, List.drop_succ_cons, List.drop_zero]
  rw [foldW_mem _ a5 a6]

theorem foldW_take (l : List Int) (j : Nat) (hj : j < l.length) : foldW (l.take (j + 1)) = Base.withI (foldW (l.take j)) l[j] := by
  rw [List.take_succ_eq_append_getElem hj, foldW_snoc]

set_option maxHeartbeats 12800000 in
theorem roughKnot (s : ByteArray) (w : World) (t : Tabs w) (hs : s.size ≤ 1073741824) : Calls Tryz.prog 20 #[.string s] w (RoughPost s w) := by
  have B0 : Below w.heap.size w (w.alloc (.cells #[.int .i64 0, .int .i64 0, .int .i64 0, .string ⟨#[]⟩] 35)) := (Below.refl _ _).alloc (Nat.le_refl _) _
  have P0 : Hid (Below w.heap.size w (w.alloc (.cells #[.int .i64 0, .int .i64 0, .int .i64 0, .string ⟨#[]⟩] 35)) ∧ Zero w.heap.size (w.alloc (.cells #[.int .i64 0, .int .i64 0, .int .i64 0, .string ⟨#[]⟩] 35)) ∧ Tabs (w.alloc (.cells #[.int .i64 0, .int .i64 0, .int .i64 0, .string ⟨#[]⟩] 35))) := ⟨B0, zero_new w _, t.below B0⟩
  clear B0
  go_enter Tryz.func20, Tryz.ntmps20
  go_wp2_with fail
  generalize w.alloc (.cells #[.int .i64 0, .int .i64 0, .int .i64 0, .string ⟨#[]⟩] 35) = w0 at P0 ⊢
  obtain ⟨B0, Z0, T0⟩ := P0
  obtain ⟨m, hm⟩ := T0.maxl
  refine (Tryz.strings_Cut s ⟨#[58]⟩ m _ (by omega) hm).mono ?_
  rintro e w1 ⟨rfl, nd, rfl⟩
  have es : (⟨#[58]⟩ : ByteArray).data.toList = [58] := rfl
  rw [es]
  clear es hm
  have hcl := cut_len s.data.toList [58]
  have hle2 : s.data.toList.length = s.size := by simp
  rw [hle2] at hcl
  clear hle2
  generalize hcut : Lib.cut s.data.toList [58] = c at hcl ⊢
  obtain ⟨hd, wt, fd⟩ := c
  have HC : Hid (∀ k, okK k = true → showK k = s.data.toList → Lib.fieldsD hd = (msK k).map dec ∧ Lib.trimPrefix wt [32] = k.word.data.toList) := fun k hk e => cut_ok hcut k hk e
  clear hcut
  simp only at hcl
  obtain ⟨hc1, hc2⟩ := hcl
  have B1 : Below w.heap.size w (w0.drewN nd) := below_drewN' B0 nd
  have Z1 : Zero w.heap.size (w0.drewN nd) := Z0.below (below_drewN' (Below.refl _ _) nd)
  have T1 : Tabs (w0.drewN nd) := T0.below (below_drewN' (Below.refl _ _) nd)
  generalize w0.drewN nd = w1 at B1 Z1 T1 ⊢
  clear B0 Z0 T0 w0
  have F := Tryz.strings_Fields_any (B hd) w1 (by rw [B_size]; omega) T1.asc T1.white
  have eh : (B hd).data.toList = hd := by simp [B]
  rw [eh] at F
  clear eh
  have hfl : (Lib.fieldsD hd).length ≤ 4294967296 := by
    have := fieldsD_count (hd.length + 1) [] hd
    unfold Lib.fieldsD; omega
  have hfp : ∀ x ∈ Lib.fieldsD hd, x.length ≤ 1073741824 := fun x hx => by
    have := fieldsD_piece _ _ _ x hx
    simp at this; omega
  generalize Lib.fieldsD hd = L at F HC hfl hfp
  have HF : Hid _ := F
  clear F
  go_wp2_with fail
  refine Calls.mono HF.out ?_
  rintro e w2 ⟨A, rfl, _, hown, hb2⟩
  have T2 := T1.below hb2
  have Z2 := Z1.below hb2
  have B2 := B1.trans (hb2.mono B1.size)
  have hownS : OwnS w1.heap.size w2 (some ⟨A, 0, none⟩) L.length L := hown
  clear hown hb2 T1 Z1 B1 HF
  go_wp2_with fail
  refine (readNumbers L _ _ _ _ T2 hownS hfl hfp).mono ?_
  rintro e w3 ⟨nums, b, ao, cap, rfl, hn, hNp, hnl, hb3⟩
  have Z3 := Z2.below hb3
  have B3 := B2.trans (hb3.mono B2.size)
  have HK : Hid (∀ k, okK k = true → showK k = s.data.toList → b = true ∧ nums = k.hand :: k.round :: Bit.memTo k.frm 60 ∧ Lib.trimPrefix wt [32] = k.word.data.toList) := by
    intro k hk e
    obtain ⟨h1, h2⟩ := HC.out k hk e
    obtain ⟨h3, h4⟩ := hNp (msK k) (ms_small hk) h1
    exact ⟨h3, by rw [h4, ms_int hk], h2⟩
  have hnl2 : nums.length ≤ 4294967296 := by omega
  clear hownS hb3 T2 Z2 B2 hNp hnl HC hfl hfp
  have Q0 : Hid _ := Z3.put (.int .i64 0) (.int .i64 0) (.int .i64 0) (.string ⟨#[]⟩)
  have f0 := Z3.f0
  have f1 := Z3.f1
  have f2 := Z3.f2
  have f3 := Z3.f3
  have r0 := Z3.r0
  have r1 := Z3.r1
  have r2 := Z3.r2
  have r3 := Z3.r3
  cases b
  · have HN : Hid (∀ k, okK k = true → showK k = s.data.toList → False) := fun k hk e => Bool.noConfusion (HK.out k hk e).1
    go_wp2
    obtain ⟨q0, q1, q2, q3⟩ := Q0.out
    exact bodyPost_ret (v := .tuple #[.agg #[.int .i64 0, .int .i64 0, .int .i64 0, .string ⟨#[]⟩], .bool false]) (by simp [results, Tryz.results20, go_sem, q0, q1, q2, q3]) rfl (rough_no HN.out (below_put B3 _ _ _ _))
  · by_cases h2 : nums.length < 2
    · have HN : Hid (∀ k, okK k = true → showK k = s.data.toList → False) := fun k hk e => by
        have := (HK.out k hk e).2.1
        rw [this] at h2; simp at h2; omega
      have h2' : (nums.length : Int) < 2 := by omega
      go_wp2
      obtain ⟨q0, q1, q2, q3⟩ := Q0.out
      exact bodyPost_ret (v := .tuple #[.agg #[.int .i64 0, .int .i64 0, .int .i64 0, .string ⟨#[]⟩], .bool false]) (by simp [results, Tryz.results20, go_sem, q0, q1, q2, q3]) rfl (rough_no HN.out (below_put B3 _ _ _ _))
    · have h2' : ¬ (nums.length : Int) < 2 := by omega
      obtain ⟨g, rfl, hcap, hcm, hcells⟩ := own_cells hn (fun e => by rw [e] at h2; simp at h2)
      have HCell : Hid (∀ (j : Nat) (hj : j < nums.length), w3.cell? ⟨g, j, none⟩ = some (.int .i64 nums[j])) := hcells
      clear hcells hn Q0
      unfold maxLen at hcm
      have n0 : 0 < nums.length := by omega
      have n1 : 1 < nums.length := by omega
      have HP : Hid (∀ k, okK k = true → showK k = s.data.toList → k = ⟨nums[0], nums[1], foldW (nums.drop 2), B (Lib.trimPrefix wt [32])⟩) := fun k hk e => knot_of hk (HK.out k hk e).2.1 (HK.out k hk e).2.2 n0 n1
      have c0 := HCell.out 0 n0
      have c1 := HCell.out 1 n1
      have htl : (B (Lib.trimPrefix wt [32])).size ≤ s.size := by
        rw [B_size]
        exact Nat.le_trans (Lib.trimPrefix_le wt [32]) hc2
      have HQ : Hid _ := Z3.put (.int .i64 nums[0]) (.int .i64 nums[1]) (.int .i64 (foldW (nums.drop 2))) (.string (B (Lib.trimPrefix wt [32])))
      clear HK
      go_wp2
      all_goals
        go_loop [9, 35] (fun v i => ∃ j : Nat, j ≤ nums.length - 2 ∧ i = .int .i64 j ∧ v = .int .i64 (foldW ((nums.drop 2).take j))) (fun _ i => nums.length - (intOf i).toNat)
        case atStart => exact ⟨0, by omega, rfl, rfl⟩
        case round =>
          obtain ⟨j, hj, rfl, rfl⟩ := hrel
          by_cases hlt : j < nums.length - 2
          · first
              | (exfalso; omega)
              | skip
            all_goals
              have hdl : j < (nums.drop 2).length := by simp; omega
              have hcj : w3.cell? ⟨g, 2 + j, none⟩ = some (.int .i64 (nums.drop 2)[j]) := by
                rw [HCell.out (2 + j) (by omega)]; simp
              have HF : Hid (foldW ((nums.drop 2).take (j + 1)) = Base.withI (foldW ((nums.drop 2).take j)) (nums.drop 2)[j]) := foldW_take _ j hdl
              have hlt' : (j : Int) < ((nums.length - 2 : Nat) : Int) := by omega
              generalize (nums.drop 2)[j] = x at hcj HF
              generalize foldW ((nums.drop 2).take j) = acc at HF ⊢
              go_wp2_with (go_at_call 41; refine (Base.withM _ _ _).mono ?_; rintro e w' ⟨rfl, rfl⟩)
              go_round
              case rel => exact ⟨j + 1, by omega, by go_num, by rw [HF.out]⟩
              case measure => simp [intOf]; omega
          · have hje : (nums.drop 2).take j = nums.drop 2 := List.take_of_length_le (by simp; omega)
            rw [hje]
            have hlt' : ¬ (j : Int) < ((nums.length - 2 : Nat) : Int) := by omega
            clear hje HCell
            go_wp2_with fail
            go_region_with (go_at_call 42; refine (trimB wt _).mono ?_; rintro e w' ⟨rfl, rfl⟩)
            all_goals
              go_wp2
              obtain ⟨q0, q1, q2, q3⟩ := HQ.out
              exact bodyPost_ret (v := .tuple #[.agg #[.int .i64 nums[0], .int .i64 nums[1], .int .i64 (foldW (nums.drop 2)), .string (B (Lib.trimPrefix wt [32]))], .bool true]) (by simp [results, Tryz.results20, go_sem, q0, q1, q2, q3]) rfl (rough_yes htl HP.out (below_put B3 _ _ _ _).drew)

end Kn
end Go.Proofs.YtiopckkcdmeagaaGreatDoor
