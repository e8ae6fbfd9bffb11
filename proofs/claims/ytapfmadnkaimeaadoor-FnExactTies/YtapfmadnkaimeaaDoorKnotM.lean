/-
  Plain mathematics of knots as texts, with no program in it: what a right word is, what a right knot is, how numbers and knots are written; no condition beyond those written.
-/
import Derived.Test.YtapfmadnkaimeaaDoorMath
import Derived.Test.YtapfmadnkaimeaaDoorBase
namespace Go.Proofs.YtapfmadnkaimeaaDoor
open Go.RowKit
set_option maxRecDepth 100000
namespace Kn

def okC (c : UInt8) : Bool := (decide (97 ≤ c.toNat) && decide (c.toNat ≤ 122)) || ((decide (48 ≤ c.toNat) && decide (c.toNat ≤ 57)) || decide (c.toNat = 32))
def okW (s : ByteArray) : Bool := s.data.toList.all okC && decide (s.size ≤ 12)

theorem take_snoc (s : ByteArray) (k : Nat) (h : k < s.size) : s.data.toList.take (k + 1) = s.data.toList.take k ++ [s[k]] := by
  rw [List.take_succ_eq_append_getElem (by simpa using h)]; rfl
theorem take_all (s : ByteArray) : s.data.toList.take s.size = s.data.toList := List.take_of_length_le (by simp)

theorem all_snoc (s : ByteArray) (k : Nat) (h : k < s.size) : (s.data.toList.take (k + 1)).all okC = ((s.data.toList.take k).all okC && okC s[k]) := by
  rw [take_snoc s k h]; simp

set_option maxHeartbeats 1600000 in
theorem l2Word (s : ByteArray) (w : World) (hs : s.size ≤ 1099511627776) : Calls Tryd.prog 104 #[.string s] w fun e w' => e = .returned (.bool (okW s)) ∧ w = w' := by
  go_enter Tryd.func104, Tryd.ntmps104
  go_wp2
  go_loop [3] (fun i => ∃ k : Nat, k ≤ s.size ∧ i = .int .i64 k ∧ (s.data.toList.take k).all okC = true) (fun i => s.size - (intOf i).toNat)
  case atStart => exact ⟨0, Nat.zero_le _, rfl, rfl⟩
  case round =>
    obtain ⟨k, hk, rfl, hall⟩ := hrel
    have HA : Hid ((s.data.toList.take k).all okC = true) := hall
    clear hall
    by_cases hlt : k < s.size
    · have HS : Hid ((s.data.toList.take (k + 1)).all okC = ((s.data.toList.take k).all okC && okC s[k])) := all_snoc s k hlt
      have HO : Hid (okC s[k] = true ↔ ((97 ≤ (s[k].toNat : Int) ∧ (s[k].toNat : Int) ≤ 122) ∨ (48 ≤ (s[k].toNat : Int) ∧ (s[k].toNat : Int) ≤ 57) ∨ (s[k].toNat : Int) = 32)) := by
        show _ ↔ _
        simp [okC]; omega
      have HB : Hid (okC s[k] = false → okW s = false) := by
        intro h
        have hm : s[k] ∈ s.data.toList := by
          have hk2 : k < s.data.toList.length := by simpa using hlt
          have e : s[k] = s.data.toList[k] := rfl
          rw [e]; exact List.getElem_mem hk2
        unfold okW
        have : s.data.toList.all okC = false := by
          rw [List.all_eq_false]; exact ⟨s[k], hm, by simp [h]⟩
        rw [this]; rfl
      by_cases c1 : (97 : Int) ≤ (s[k].toNat : Int) ∧ (s[k].toNat : Int) ≤ 122
      · have HC : Hid ((s.data.toList.take (k + 1)).all okC = true) := by
          show _ = true
          rw [HS.out, HA.out, HO.out.2 (.inl c1)]; rfl
        obtain ⟨c1, c1'⟩ := c1
        go_wp2
        go_round
        case rel => exact ⟨k + 1, by omega, by go_num, HC.out⟩
        case measure => simp [intOf]; omega
      · by_cases c2 : (48 : Int) ≤ (s[k].toNat : Int) ∧ (s[k].toNat : Int) ≤ 57
        · have HC : Hid ((s.data.toList.take (k + 1)).all okC = true) := by
            show _ = true
            rw [HS.out, HA.out, HO.out.2 (.inr (.inl c2))]; rfl
          obtain ⟨c2, c2'⟩ := c2
          have c1' : (s[k].toNat : Int) < 97 := by omega
          clear c1
          go_wp2
          go_round
          case rel => exact ⟨k + 1, by omega, by go_num, HC.out⟩
          case measure => simp [intOf]; omega
        · by_cases c3 : (s[k].toNat : Int) = 32
          · have HC : Hid ((s.data.toList.take (k + 1)).all okC = true) := by
              show _ = true
              rw [HS.out, HA.out, HO.out.2 (.inr (.inr c3))]; rfl
            have c1' : (s[k].toNat : Int) < 97 := by omega
            have c2' : (s[k].toNat : Int) < 48 := by omega
            have c3' : ((s[k].toNat : Int) != 32) = false := by simpa using c3
            clear c1 c2 c3
            go_wp2
            go_round
            case rel => exact ⟨k + 1, by omega, by go_num, HC.out⟩
            case measure => simp [intOf]; omega
          · have HC : Hid (okW s = false) := by
              apply HB.out
              cases h : okC s[k]
              · rfl
              · exfalso
                have := HO.out.1 h
                omega
            have c3' : ((s[k].toNat : Int) != 32) = true := by simpa using c3
            clear HS HO HB HA
            by_cases d1 : (s[k].toNat : Int) < 97
            · clear c1 c3
              by_cases d2 : (s[k].toNat : Int) < 48
              · clear c2
                go_wp2
                go_ret
                exact ⟨Base.ret_bool HC.out.symm, rfl⟩
              · have d3 : 57 < (s[k].toNat : Int) := by omega
                clear c2
                go_wp2
                go_ret
                exact ⟨Base.ret_bool HC.out.symm, rfl⟩
            · have d4 : 122 < (s[k].toNat : Int) := by omega
              clear c1 c2 c3
              go_wp2
              go_ret
              exact ⟨Base.ret_bool HC.out.symm, rfl⟩
    · go_wp2
      go_ret
      have hk' : k = s.size := by omega
      refine ⟨Base.ret_bool ?_, rfl⟩
      unfold okW
      have := HA.out
      rw [hk', take_all] at this
      rw [this, Bool.true_and]
      exact decide_eq_decide.2 (by omega)

/-- a knot -/
structure K where
  hand : Int
  round : Int
  frm : Int
  word : ByteArray

/-- a knot as a value -/
def K.val (k : K) : Value := .agg #[.int .i64 k.hand, .int .i64 k.round, .int .i64 k.frm, .string k.word]

def in3 (x : Int) : Bool := decide (0 ≤ x) && decide (x ≤ 3)
def in19 (x : Int) : Bool := decide (0 ≤ x) && decide (x ≤ 19)
def both0 (r f : Int) : Bool := (r == 0) == (f == 0)
def okK (k : K) : Bool := in3 k.hand && (in19 k.round && (Base.okB k.frm && (both0 k.round k.frm && okW k.word)))

theorem l1In3 (x : Int) (w : World) : Calls Tryd.prog 85 #[.int .i64 x, .int .i64 0, .int .i64 3] w fun e w' => e = .returned (.bool (in3 x)) ∧ w = w' := Base.l1In x 0 3 w
theorem l1In19 (x : Int) (w : World) : Calls Tryd.prog 85 #[.int .i64 x, .int .i64 0, .int .i64 19] w fun e w' => e = .returned (.bool (in19 x)) ∧ w = w' := Base.l1In x 0 19 w

set_option maxHeartbeats 1600000 in
theorem specKnotOk (h r f : Int) (s : ByteArray) (w : World) (hs : s.size ≤ 1099511627776) : Calls Tryd.prog 73 #[.agg #[.int .i64 h, .int .i64 r, .int .i64 f, .string s]] w fun e w' =>
    e = .returned (.bool (okK ⟨h, r, f, s⟩)) ∧ Below w.heap.size w w' := by
  have B1 : ∀ o : Obj, Below w.heap.size w (w.alloc o) := fun o => (Below.refl _ _).alloc (Nat.le_refl _) o
  cases h1 : in3 h
  · have HO : Hid (okK ⟨h, r, f, s⟩ = false) := by show _ = false; simp [okK, h1]
    have H1 : Hid (in3 h = false) := h1
    clear h1
    go_enter Tryd.func73, Tryd.ntmps73
    go_wp2_with fail
    refine (l1In3 _ _).mono ?_
    rintro e w1 ⟨rfl, rfl⟩
    rw [H1.out]
    go_wp2
    go_ret
    exact ⟨Base.ret_bool HO.out.symm, B1 _⟩
  · have H1 : Hid (in3 h = true) := h1
    clear h1
    cases h2 : in19 r
    · have HO : Hid (okK ⟨h, r, f, s⟩ = false) := by show _ = false; simp [okK, h2]
      have H2 : Hid (in19 r = false) := h2
      clear h2
      go_enter Tryd.func73, Tryd.ntmps73
      go_wp2_with fail
      refine (l1In3 _ _).mono ?_
      rintro e w1 ⟨rfl, rfl⟩
      rw [H1.out]
      go_wp2_with fail
      refine (l1In19 _ _).mono ?_
      rintro e w1 ⟨rfl, rfl⟩
      rw [H2.out]
      go_wp2
      go_ret
      exact ⟨Base.ret_bool HO.out.symm, B1 _⟩
    · have H2 : Hid (in19 r = true) := h2
      clear h2
      cases h3 : Base.okB f
      · have HO : Hid (okK ⟨h, r, f, s⟩ = false) := by show _ = false; simp [okK, h3]
        have H3 : Hid (Base.okB f = false) := h3
        clear h3
        go_enter Tryd.func73, Tryd.ntmps73
        go_wp2_with fail
        refine (l1In3 _ _).mono ?_
        rintro e w1 ⟨rfl, rfl⟩
        rw [H1.out]
        go_wp2_with fail
        refine (l1In19 _ _).mono ?_
        rintro e w1 ⟨rfl, rfl⟩
        rw [H2.out]
        go_wp2_with fail
        refine (Base.specOk _ _).mono ?_
        rintro e w1 ⟨rfl, rfl⟩
        rw [H3.out]
        go_wp2
        go_ret
        exact ⟨Base.ret_bool HO.out.symm, B1 _⟩
      · have H3 : Hid (Base.okB f = true) := h3
        clear h3
        cases h4 : both0 r f
        · have HO : Hid (okK ⟨h, r, f, s⟩ = false) := by show _ = false; simp [okK, h4]
          have h4' : ((r == 0) == (f == 0)) = false := h4
          clear h4
          go_enter Tryd.func73, Tryd.ntmps73
          go_wp2_with fail
          refine (l1In3 _ _).mono ?_
          rintro e w1 ⟨rfl, rfl⟩
          rw [H1.out]
          go_wp2_with fail
          refine (l1In19 _ _).mono ?_
          rintro e w1 ⟨rfl, rfl⟩
          rw [H2.out]
          go_wp2_with fail
          refine (Base.specOk _ _).mono ?_
          rintro e w1 ⟨rfl, rfl⟩
          rw [H3.out]
          go_wp2
          go_ret
          exact ⟨Base.ret_bool HO.out.symm, B1 _⟩
        · have HO : Hid (okK ⟨h, r, f, s⟩ = okW s) := by show _ = okW s; simp [okK, H1.out, H2.out, H3.out, h4]
          have h4' : ((r == 0) == (f == 0)) = true := h4
          clear h4
          go_enter Tryd.func73, Tryd.ntmps73
          go_wp2_with fail
          refine (l1In3 _ _).mono ?_
          rintro e w1 ⟨rfl, rfl⟩
          rw [H1.out]
          go_wp2_with fail
          refine (l1In19 _ _).mono ?_
          rintro e w1 ⟨rfl, rfl⟩
          rw [H2.out]
          go_wp2_with fail
          refine (Base.specOk _ _).mono ?_
          rintro e w1 ⟨rfl, rfl⟩
          rw [H3.out]
          go_wp2_with fail
          refine (l2Word _ _ hs).mono ?_
          rintro e w1 ⟨rfl, rfl⟩
          go_wp2
          go_ret
          exact ⟨Base.ret_bool HO.out.symm, B1 _⟩

end Kn
end Go.Proofs.YtapfmadnkaimeaaDoor
