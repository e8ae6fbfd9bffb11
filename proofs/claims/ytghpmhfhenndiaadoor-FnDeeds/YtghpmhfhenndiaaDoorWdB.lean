/-
  What the program's own ShowDeed answers: a right deed's words, else nothing; and the kind that it finds for a word; for keys of at most 2^40 bytes, the kinds' names and the powers of ten as they are laid.
-/
import Derived.Test.YtghpmhfhenndiaaDoorDeedR
import Derived.Test.YtghpmhfhenndiaaDoorWdA
import Derived.Test.YtghpmhfhenndiaaDoorWdL
namespace Go.Proofs.YtghpmhfhenndiaaDoor
open Go.RowKit
set_option maxRecDepth 100000
set_option linter.unusedVariables false
namespace De
open Kn (dec B B_list)

/-- the five names -/
def nm : Nat → List UInt8
  | 0 => []
  | 1 => [112, 117, 116]
  | 2 => [99, 117, 116]
  | 3 => [97, 100, 100]
  | _ => [105, 102]
theorem kind_hit {x : List UInt8} {k : Nat} (hk : k < 5) (h : nm k = x) : kindTo x 4 = (k : Int) := by
  subst h
  rcases (show k = 0 ∨ k = 1 ∨ k = 2 ∨ k = 3 ∨ k = 4 by omega) with rfl | rfl | rfl | rfl | rfl <;> rfl
theorem kind_miss {x : List UInt8} (h : ∀ j, j < 5 → nm j ≠ x) : kindTo x 4 = 0 := by
  have h1 : x ≠ kindW (((0 : Nat) : Int) + 1) := fun e => h 1 (by omega) e.symm
  have h2 : x ≠ kindW (((1 : Nat) : Int) + 1) := fun e => h 2 (by omega) e.symm
  have h3 : x ≠ kindW (((2 : Nat) : Int) + 1) := fun e => h 3 (by omega) e.symm
  have h4 : x ≠ kindW (((3 : Nat) : Int) + 1) := fun e => h 4 (by omega) e.symm
  unfold kindTo
  rw [if_neg h4]
  unfold kindTo
  rw [if_neg h3]
  unfold kindTo
  rw [if_neg h2]
  unfold kindTo
  rw [if_neg h1]
  rfl

theorem ret_int {a b : Int} (h : a = b) : Ending.returned (.int .i64 a) = .returned (.int .i64 b) := by rw [h]

set_option maxHeartbeats 3200000 in
theorem kindCalled (s : ByteArray) (w : World) (t : TabP w) : Calls Tryd.prog 36 #[.string s] w fun e w' => e = .returned (.int .i64 (kindTo s.data.toList 4)) ∧ w = w' := by
  have c0 := t.at 0 (.string ⟨#[]⟩) rfl
  have c1 := t.at 1 (.string ⟨#[112, 117, 116]⟩) rfl
  have c2 := t.at 2 (.string ⟨#[99, 117, 116]⟩) rfl
  have c3 := t.at 3 (.string ⟨#[97, 100, 100]⟩) rfl
  have c4 := t.at 4 (.string ⟨#[105, 102]⟩) rfl
  have i0 : ∀ W, (Instr.index 39 (.agg #[.string ⟨#[]⟩, .string ⟨#[112, 117, 116]⟩, .string ⟨#[99, 117, 116]⟩, .string ⟨#[97, 100, 100]⟩, .string ⟨#[105, 102]⟩]) (.int .i64 0)).run Tryd.prog W = .ok (.string ⟨#[]⟩) W := fun _ => by kernel_rfl
  have i1 : ∀ W, (Instr.index 39 (.agg #[.string ⟨#[]⟩, .string ⟨#[112, 117, 116]⟩, .string ⟨#[99, 117, 116]⟩, .string ⟨#[97, 100, 100]⟩, .string ⟨#[105, 102]⟩]) (.int .i64 1)).run Tryd.prog W = .ok (.string ⟨#[112, 117, 116]⟩) W := fun _ => by kernel_rfl
  have i2 : ∀ W, (Instr.index 39 (.agg #[.string ⟨#[]⟩, .string ⟨#[112, 117, 116]⟩, .string ⟨#[99, 117, 116]⟩, .string ⟨#[97, 100, 100]⟩, .string ⟨#[105, 102]⟩]) (.int .i64 2)).run Tryd.prog W = .ok (.string ⟨#[99, 117, 116]⟩) W := fun _ => by kernel_rfl
  have i3 : ∀ W, (Instr.index 39 (.agg #[.string ⟨#[]⟩, .string ⟨#[112, 117, 116]⟩, .string ⟨#[99, 117, 116]⟩, .string ⟨#[97, 100, 100]⟩, .string ⟨#[105, 102]⟩]) (.int .i64 3)).run Tryd.prog W = .ok (.string ⟨#[97, 100, 100]⟩) W := fun _ => by kernel_rfl
  have i4 : ∀ W, (Instr.index 39 (.agg #[.string ⟨#[]⟩, .string ⟨#[112, 117, 116]⟩, .string ⟨#[99, 117, 116]⟩, .string ⟨#[97, 100, 100]⟩, .string ⟨#[105, 102]⟩]) (.int .i64 4)).run Tryd.prog W = .ok (.string ⟨#[105, 102]⟩) W := fun _ => by kernel_rfl
  go_enter Tryd.func36, Tryd.ntmps36
  go_wp2
  clear c0 c1 c2 c3 c4
  go_loop [6] (fun i => ∃ k : Nat, k ≤ 5 ∧ i = .int .i64 k ∧ Hid (∀ j, j < k → nm j ≠ s.data.toList)) (fun i => 5 - (intOf i).toNat)
  case atStart => exact ⟨0, Nat.zero_le _, rfl, fun j hj => absurd hj (Nat.not_lt_zero j)⟩
  case round =>
    obtain ⟨k, hk, rfl, HA⟩ := hrel
    by_cases h5 : k = 5
    · subst h5
      have HM : Hid (kindTo s.data.toList 4 = 0) := kind_miss HA.out
      go_wp2
      go_ret
      exact ⟨ret_int HM.out.symm, rfl⟩
    · have hlt : k < 5 := by omega
      have HH : Hid (nm k = s.data.toList → kindTo s.data.toList 4 = (k : Int)) := fun h => kind_hit hlt h
      have HS : Hid (nm k ≠ s.data.toList → ∀ j, j < k + 1 → nm j ≠ s.data.toList) := fun h j hj => by
        by_cases e : j = k
        · subst e; exact h
        · exact HA.out j (by omega)
      clear HA
      have es : s.toList = s.data.toList := ByteArray.toList_eq s
      by_cases hq : nm k = s.data.toList
      · have hb : (nm k == s.toList) = true := by rw [es, beq_iff_eq]; exact hq
        have HK : Hid (_ = _) := (HH.out hq).symm
        clear hq HS HH es h5
        rcases (show k = 0 ∨ k = 1 ∨ k = 2 ∨ k = 3 ∨ k = 4 by omega) with rfl | rfl | rfl | rfl | rfl
        case inl =>
          have he : s.toList.isEmpty = true := by cases h : s.toList; rfl; rw [h] at hb; exact absurd hb (by simp [nm])
          clear hb
          go_wp2
          go_ret
          exact ⟨ret_int HK.out, rfl⟩
        all_goals
          simp only [nm] at hb
          go_wp2
          go_ret
          exact ⟨ret_int HK.out, rfl⟩
      · have hb : (nm k == s.toList) = false := by rw [es, beq_eq_false_iff_ne]; exact hq
        have HA : Hid _ := HS.out hq
        clear hq HS HH es h5
        rcases (show k = 0 ∨ k = 1 ∨ k = 2 ∨ k = 3 ∨ k = 4 by omega) with rfl | rfl | rfl | rfl | rfl
        case inl =>
          have he : s.toList.isEmpty = false := by cases h : s.toList; rw [h] at hb; exact absurd hb (by simp [nm]); rfl
          clear hb
          go_wp2
          go_round
          case rel => exact ⟨0 + 1, by omega, rfl, HA.out⟩
          case measure => simp [intOf]
        all_goals
          simp only [nm] at hb
          go_wp2
          go_round
          case rel => exact ⟨_ + 1, by omega, rfl, HA.out⟩
          case measure => simp [intOf]


theorem ret_str {a b : ByteArray} (h : a = b) : Ending.returned (.string a) = .returned (.string b) := by rw [h]
theorem tx1 (key bv : ByteArray) (v n : Nat) (h : B (dec v) = bv) : ((⟨#[112, 117, 116]⟩ : ByteArray) ++ ⟨#[32]⟩ ++ key ++ (⟨#[32]⟩ ++ bv ++ ⟨#[]⟩)) = B (showD ⟨1, key, (v : Int), (n : Int)⟩) := by
  subst h
  apply ByteArray.ext
  apply Array.toList_inj.1
  simp [showD, wordsD, joinW, kindW, B]
theorem tx2 (key : ByteArray) (v n : Nat) : ((⟨#[99, 117, 116]⟩ : ByteArray) ++ ⟨#[32]⟩ ++ key ++ ⟨#[]⟩) = B (showD ⟨2, key, (v : Int), (n : Int)⟩) := by
  apply ByteArray.ext
  apply Array.toList_inj.1
  simp [showD, wordsD, joinW, kindW, B]
theorem tx3 (key bv : ByteArray) (v n : Nat) (h : B (dec v) = bv) : ((⟨#[97, 100, 100]⟩ : ByteArray) ++ ⟨#[32]⟩ ++ key ++ (⟨#[32]⟩ ++ bv ++ ⟨#[]⟩)) = B (showD ⟨3, key, (v : Int), (n : Int)⟩) := by
  subst h
  apply ByteArray.ext
  apply Array.toList_inj.1
  simp [showD, wordsD, joinW, kindW, B]
theorem tx4 (key bv bn : ByteArray) (v n : Nat) (h : B (dec v) = bv) (h' : B (dec n) = bn) : ((⟨#[105, 102]⟩ : ByteArray) ++ ⟨#[32]⟩ ++ key ++ (⟨#[32]⟩ ++ bv ++ (⟨#[32]⟩ ++ bn))) = B (showD ⟨4, key, (v : Int), (n : Int)⟩) := by
  subst h h'
  apply ByteArray.ext
  apply Array.toList_inj.1
  simp [showD, wordsD, joinW, kindW, B]

set_option maxHeartbeats 6400000 in
theorem implShowDeed (d : D) (w : World) (t : TabP w) (hs : d.key.size ≤ 1099511627776) : Calls Tryd.prog 8 #[.agg #[.int .i64 d.kind, .string d.key, .int .i64 d.val, .int .i64 d.new]] w fun e w' => e = .returned (.string (textD d)) ∧ Below w.heap.size w w' := by
  have P0 : Hid (_) := box4 w (.int .i64 d.kind) (.string d.key) (.int .i64 d.val) (.int .i64 d.new) 25
  have HOK : Hid (∀ W : World, Calls Tryd.prog 13 #[.agg #[.int .i64 d.kind, .string d.key, .int .i64 d.val, .int .i64 d.new]] W fun e w' => e = .returned (.bool (okD d)) ∧ Below W.heap.size W w') := fun W => implDeedOk d.kind d.key d.val d.new W hs
  have HT : Hid (textD d = if okD d then B (showD d) else ⟨#[]⟩) := rfl
  have HTP : Hid (TabP w) := t
  clear hs t
  generalize textD d = tx at HT ⊢
  go_enter Tryd.func8, Tryd.ntmps8
  go_upto_region 1 with fail
  generalize w.alloc (.cells #[.int .i64 d.kind, .string d.key, .int .i64 d.val, .int .i64 d.new] 25) = W0 at P0 ⊢
  obtain ⟨B0, x0, x1, x2, x3, hl⟩ := P0
  go_wp2_with fail
  refine (HOK.out W0).mono ?_
  rintro e W1 ⟨rfl, hb⟩
  have B1 := B0.trans (hb.mono B0.size)
  have y0 := (hb.cell (p := ⟨w.heap.size, 0, none⟩) hl).trans x0
  have y1 := (hb.cell (p := ⟨w.heap.size, 1, none⟩) hl).trans x1
  have y2 := (hb.cell (p := ⟨w.heap.size, 2, none⟩) hl).trans x2
  have y3 := (hb.cell (p := ⟨w.heap.size, 3, none⟩) hl).trans x3
  have HB1 : Hid (Below w.heap.size w W1) := B1
  clear hb B0 B1 x0 x1 x2 x3
  cases hok : okD d
  · have ht : tx = ⟨#[]⟩ := by rw [HT.out, hok]; rfl
    subst ht
    clear HT hok HOK
    go_wp2
    go_ret
    exact ⟨rfl, HB1.out⟩
  · have ht : tx = B (showD d) := by rw [HT.out, hok]; rfl
    subst ht
    have T1 := HTP.out.below HB1.out
    have c1 := T1.at 1 (.string ⟨#[112, 117, 116]⟩) rfl
    have c2 := T1.at 2 (.string ⟨#[99, 117, 116]⟩) rfl
    have c3 := T1.at 3 (.string ⟨#[97, 100, 100]⟩) rfl
    have c4 := T1.at 4 (.string ⟨#[105, 102]⟩) rfl
    have o := (okD_iff d).1 hok
    obtain ⟨kind, key, val, new⟩ := d
    obtain ⟨k1, k4, kb, v0, v1, n0, n1, cut, ifs⟩ := o
    dsimp only at k1 k4 kb v0 v1 n0 n1 cut ifs y0 y1 y2 y3 ⊢
    obtain ⟨v, rfl⟩ := Int.eq_ofNat_of_zero_le v0
    obtain ⟨n, rfl⟩ := Int.eq_ofNat_of_zero_le n0
    have hks : key.size ≤ 3 := by unfold keyB at kb; simp at kb; omega
    obtain ⟨bv, HV, sv⟩ : ∃ bv, Hid (B (dec v) = bv) ∧ bv.size ≤ 20 := ⟨_, rfl, by rw [Kn.B_size]; exact Nat.le_trans (Kn.dec_length 1 v (by omega) (by omega)) (by omega)⟩
    obtain ⟨bn, HN, sn⟩ : ∃ bn, Hid (B (dec n) = bn) ∧ bn.size ≤ 20 := ⟨_, rfl, by rw [Kn.B_size]; exact Nat.le_trans (Kn.dec_length 1 n (by omega) (by omega)) (by omega)⟩
    have HSV : Hid (∀ W : World, Calls Tryd.prog 19 #[.int .i64 (v : Int)] W fun e w' => e = .returned (.string bv) ∧ W = w') := fun W => by rw [← HV.out]; exact showSmall v (by omega) W
    have HSN : Hid (∀ W : World, Calls Tryd.prog 19 #[.int .i64 (n : Int)] W fun e w' => e = .returned (.string bn) ∧ W = w') := fun W => by rw [← HN.out]; exact showSmall n (by omega) W
    clear HT hok T1 HTP kb v0 v1 n0 n1 HOK
    rcases (show kind = 1 ∨ kind = 2 ∨ kind = 3 ∨ kind = 4 by omega) with rfl | rfl | rfl | rfl
    · clear c2 c3 c4
      go_wp2_with (go_at_call 19; refine (HSV.out _).mono ?_; rintro e w' ⟨rfl, rfl⟩)
      go_region
      go_wp2
      go_ret
      exact ⟨ret_str (tx1 key bv v n HV.out), HB1.out.drew⟩
    · clear c1 c3 c4
      go_wp2
      go_region
      go_wp2
      go_ret
      exact ⟨ret_str (tx2 key v n), HB1.out.drew⟩
    · clear c1 c2 c4
      go_wp2_with (go_at_call 19; refine (HSV.out _).mono ?_; rintro e w' ⟨rfl, rfl⟩)
      go_region
      go_wp2
      go_ret
      exact ⟨ret_str (tx3 key bv v n HV.out), HB1.out.drew⟩
    · clear c1 c2 c3
      go_wp2_with (go_at_call 19; first | (refine (HSN.out _).mono ?_; rintro e w' ⟨rfl, rfl⟩) | (refine (HSV.out _).mono ?_; rintro e w' ⟨rfl, rfl⟩))
      go_region
      go_wp2
      go_ret
      exact ⟨ret_str (tx4 key bv bn v n HV.out HN.out), HB1.out.drew⟩

end De
end Go.Proofs.YtghpmhfhenndiaaDoor
