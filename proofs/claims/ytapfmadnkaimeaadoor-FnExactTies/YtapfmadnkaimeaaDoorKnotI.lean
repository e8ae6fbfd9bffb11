/-
  What the program's own KnotOk answers, function by function: whether the hand, the round, the set and the word are right; for words of at most 2^40 bytes.
-/
import Derived.Test.YtapfmadnkaimeaaDoorKnotM
namespace Go.Proofs.YtapfmadnkaimeaaDoor
open Go.RowKit
set_option maxRecDepth 100000
namespace Kn

def digB (c : UInt8) : Bool := decide (48 ≤ c.toNat) && decide (c.toNat ≤ 57)

theorem isDigit (c : UInt8) (w : World) : Calls Tryd.prog 123 #[.int .u8 (c.toNat : Int)] w fun e w' => e = .returned (.bool (digB c)) ∧ w = w' := by
  by_cases h1 : (48 : Int) ≤ (c.toNat : Int)
  · go_enter Tryd.func123, Tryd.ntmps123
    go_wp2
    go_ret
    exact ⟨Base.ret_bool (by rw [Bool.eq_iff_iff]; simp [digB]; omega), rfl⟩
  · go_enter Tryd.func123, Tryd.ntmps123
    go_wp2
    go_ret
    exact ⟨Base.ret_bool (by rw [Bool.eq_iff_iff]; simp [digB]; omega), rfl⟩

set_option maxHeartbeats 800000 in
theorem isWordByte (c : UInt8) (w : World) : Calls Tryd.prog 119 #[.int .u8 (c.toNat : Int)] w fun e w' => e = .returned (.bool (okC c)) ∧ w = w' := by
  have HO : Hid (okC c = ((decide (97 ≤ c.toNat) && decide (c.toNat ≤ 122)) || (digB c || decide (c.toNat = 32)))) := rfl
  have HE : Hid (decide (c.toNat = 32) = (((c.toNat : Int)) == 32)) := by
    show _ = _
    rw [Bool.eq_iff_iff]; simp; omega
  by_cases h1 : (97 : Int) ≤ (c.toNat : Int)
  · by_cases h2 : (c.toNat : Int) ≤ 122
    · have H : Hid (okC c = true) := by
        show _ = true
        rw [HO.out]; simp; omega
      go_enter Tryd.func119, Tryd.ntmps119
      go_wp2_with (go_at_call 123; refine (isDigit c _).mono ?_; rintro e w' ⟨rfl, rfl⟩)
      go_ret
      exact ⟨Base.ret_bool H.out.symm, rfl⟩
    · cases hd : digB c
      · have H : Hid (okC c = (((c.toNat : Int)) == 32)) := by
          show _ = _
          rw [HO.out, hd, HE.out]
          have : decide (c.toNat ≤ 122) = false := by simp; omega
          rw [this]; simp
        have HD : Hid (digB c = false) := hd
        clear hd
        go_enter Tryd.func119, Tryd.ntmps119
        go_wp2_with (go_at_call 123; refine (isDigit c _).mono ?_; rintro e w' ⟨rfl, rfl⟩; rw [HD.out])
        go_ret
        exact ⟨Base.ret_bool H.out.symm, rfl⟩
      · have H : Hid (okC c = true) := by
          show _ = true
          rw [HO.out, hd]; simp
        have HD : Hid (digB c = true) := hd
        clear hd
        go_enter Tryd.func119, Tryd.ntmps119
        go_wp2_with (go_at_call 123; refine (isDigit c _).mono ?_; rintro e w' ⟨rfl, rfl⟩; rw [HD.out])
        go_ret
        exact ⟨Base.ret_bool H.out.symm, rfl⟩
  · cases hd : digB c
    · have H : Hid (okC c = (((c.toNat : Int)) == 32)) := by
        show _ = _
        rw [HO.out, hd, HE.out]
        have : decide (97 ≤ c.toNat) = false := by simp; omega
        rw [this]; simp
      have HD : Hid (digB c = false) := hd
      clear hd
      go_enter Tryd.func119, Tryd.ntmps119
      go_wp2_with (go_at_call 123; refine (isDigit c _).mono ?_; rintro e w' ⟨rfl, rfl⟩; rw [HD.out])
      go_ret
      exact ⟨Base.ret_bool H.out.symm, rfl⟩
    · have H : Hid (okC c = true) := by
        show _ = true
        rw [HO.out, hd]; simp
      have HD : Hid (digB c = true) := hd
      clear hd
      go_enter Tryd.func119, Tryd.ntmps119
      go_wp2_with (go_at_call 123; refine (isDigit c _).mono ?_; rintro e w' ⟨rfl, rfl⟩; rw [HD.out])
      go_ret
      exact ⟨Base.ret_bool H.out.symm, rfl⟩

set_option maxHeartbeats 800000 in
theorem isWord (s : ByteArray) (w : World) (hs : s.size ≤ 1099511627776) : Calls Tryd.prog 108 #[.string s] w fun e w' => e = .returned (.bool (okW s)) ∧ w = w' := by
  by_cases h12 : 12 < s.size
  · have H : Hid (okW s = false) := by
      show _ = false
      have : decide (s.size ≤ 12) = false := by simp; omega
      unfold okW; rw [this, Bool.and_false]
    have h12' : (12 : Int) < (s.size : Int) := by omega
    go_enter Tryd.func108, Tryd.ntmps108
    go_wp2
    go_ret
    exact ⟨Base.ret_bool H.out.symm, rfl⟩
  · have h12' : ¬ (12 : Int) < (s.size : Int) := by omega
    go_enter Tryd.func108, Tryd.ntmps108
    go_wp2
    go_loop [9] (fun i => ∃ k : Nat, k ≤ s.size ∧ i = .int .i64 k ∧ Hid ((s.data.toList.take k).all okC = true)) (fun i => s.size - (intOf i).toNat)
    case atStart => exact ⟨0, Nat.zero_le _, rfl, rfl⟩
    case round =>
      obtain ⟨k, hk, rfl, HA⟩ := hrel
      by_cases hlt : k < s.size
      · have HS : Hid ((s.data.toList.take (k + 1)).all okC = ((s.data.toList.take k).all okC && okC s[k])) := all_snoc s k hlt
        cases hb : okC s[k]
        · have H : Hid (okW s = false) := by
            show _ = false
            have hm : s[k] ∈ s.data.toList := by
              have hk2 : k < s.data.toList.length := by simpa using hlt
              have e : s[k] = s.data.toList[k] := rfl
              rw [e]; exact List.getElem_mem hk2
            unfold okW
            have : s.data.toList.all okC = false := by
              rw [List.all_eq_false]; exact ⟨s[k], hm, by simp [hb]⟩
            rw [this]; rfl
          have HB : Hid (okC s[k] = false) := hb
          clear hb
          go_wp2_with (go_at_call 119; refine (isWordByte _ _).mono ?_; rintro e w' ⟨rfl, rfl⟩; rw [HB.out])
          go_ret
          exact ⟨Base.ret_bool H.out.symm, rfl⟩
        · have HB : Hid (okC s[k] = true) := hb
          have HC : Hid ((s.data.toList.take (k + 1)).all okC = true) := by
            show _ = true
            rw [HS.out, HA.out, hb]; rfl
          clear hb
          go_wp2_with (go_at_call 119; refine (isWordByte _ _).mono ?_; rintro e w' ⟨rfl, rfl⟩; rw [HB.out])
          go_round
          case rel => exact ⟨k + 1, by omega, by go_num, HC⟩
          case measure => simp [intOf]; omega
      · have H : Hid (okW s = true) := by
          show _ = true
          have hk' : k = s.size := by omega
          have := HA.out
          rw [hk', take_all] at this
          unfold okW
          rw [this, Bool.true_and]
          simp; omega
        go_wp2
        go_ret
        exact ⟨Base.ret_bool H.out.symm, rfl⟩

theorem known (h : Int) (w : World) : Calls Tryd.prog 105 #[.int .i64 h] w fun e w' => e = .returned (.bool (in3 h)) ∧ w = w' := by
  by_cases h1 : 0 ≤ h
  · go_enter Tryd.func105, Tryd.ntmps105
    go_wp2
    go_ret
    exact ⟨Base.ret_bool (by rw [Bool.eq_iff_iff]; simp [in3, h1]; omega), rfl⟩
  · go_enter Tryd.func105, Tryd.ntmps105
    go_wp2
    go_ret
    exact ⟨Base.ret_bool (by simp [in3]; omega), rfl⟩

theorem isRound (r : Int) (w : World) : Calls Tryd.prog 106 #[.int .i64 r] w fun e w' => e = .returned (.bool (in19 r)) ∧ w = w' := by
  by_cases h1 : 0 ≤ r
  · go_enter Tryd.func106, Tryd.ntmps106
    go_wp2
    go_ret
    exact ⟨Base.ret_bool (by simp [in19, h1]), rfl⟩
  · go_enter Tryd.func106, Tryd.ntmps106
    go_wp2
    go_ret
    exact ⟨Base.ret_bool (by simp [in19]; omega), rfl⟩

theorem rightFrom (h r f : Int) (s : ByteArray) (w : World) : Calls Tryd.prog 107 #[.agg #[.int .i64 h, .int .i64 r, .int .i64 f, .string s]] w fun e w' => e = .returned (.bool (Base.okB f && both0 r f)) ∧ Below w.heap.size w w' := by
  have B1 : ∀ o : Obj, Below w.heap.size w (w.alloc o) := fun o => (Below.refl _ _).alloc (Nat.le_refl _) o
  cases h1 : Base.okB f
  · have H1 : Hid (Base.okB f = false) := h1
    clear h1
    go_enter Tryd.func107, Tryd.ntmps107
    go_wp2_with (go_at_call 92; refine (Base.right _ _).mono ?_; rintro e w' ⟨rfl, rfl⟩; rw [H1.out])
    go_ret
    exact ⟨rfl, B1 _⟩
  · have H1 : Hid (Base.okB f = true) := h1
    clear h1
    go_enter Tryd.func107, Tryd.ntmps107
    go_wp2_with (go_at_call 92; refine (Base.right _ _).mono ?_; rintro e w' ⟨rfl, rfl⟩; rw [H1.out])
    go_ret
    exact ⟨Base.ret_bool (by unfold both0; simp), B1 _⟩

theorem okK_eq (h r f : Int) (s : ByteArray) : okK ⟨h, r, f, s⟩ = (in3 h && (in19 r && ((Base.okB f && both0 r f) && okW s))) := by
  unfold okK; simp only [Bool.and_assoc]

set_option maxHeartbeats 1600000 in
theorem knotRight (h r f : Int) (s : ByteArray) (w : World) (hs : s.size ≤ 1099511627776) : Calls Tryd.prog 78 #[.agg #[.int .i64 h, .int .i64 r, .int .i64 f, .string s]] w fun e w' =>
    e = .returned (.bool (okK ⟨h, r, f, s⟩)) ∧ Below w.heap.size w w' := by
  have B0 : Below w.heap.size w (w.alloc (.cells #[.int .i64 h, .int .i64 r, .int .i64 f, .string s] 69)) := (Below.refl _ _).alloc (Nat.le_refl _) _
  have S0 : w.heap.size < (w.alloc (.cells #[.int .i64 h, .int .i64 r, .int .i64 f, .string s] 69)).heap.size := by simp
  have c0 : (w.alloc (.cells #[.int .i64 h, .int .i64 r, .int .i64 f, .string s] 69)).cell? ⟨w.heap.size, 0, none⟩ = some (.int .i64 h) := by simp
  have c1 : (w.alloc (.cells #[.int .i64 h, .int .i64 r, .int .i64 f, .string s] 69)).cell? ⟨w.heap.size, 1, none⟩ = some (.int .i64 r) := by simp
  have c2 : (w.alloc (.cells #[.int .i64 h, .int .i64 r, .int .i64 f, .string s] 69)).cell? ⟨w.heap.size, 2, none⟩ = some (.int .i64 f) := by simp
  have c3 : (w.alloc (.cells #[.int .i64 h, .int .i64 r, .int .i64 f, .string s] 69)).cell? ⟨w.heap.size, 3, none⟩ = some (.string s) := by simp
  have P0 : Hid (Below w.heap.size w (w.alloc (.cells #[.int .i64 h, .int .i64 r, .int .i64 f, .string s] 69)) ∧ _ ∧ _ ∧ _ ∧ _ ∧ _) := ⟨B0, S0, c0, c1, c2, c3⟩
  have HK : Hid (okK ⟨h, r, f, s⟩ = (in3 h && (in19 r && ((Base.okB f && both0 r f) && okW s)))) := okK_eq h r f s
  clear B0 S0 c0 c1 c2 c3
  cases h1 : in3 h
  · have H1 : Hid (in3 h = false) := h1
    clear h1
    go_enter Tryd.func78, Tryd.ntmps78
    go_wp2_with (go_at_call 105; refine (known _ _).mono ?_; rintro e w' ⟨rfl, rfl⟩; rw [H1.out])
    go_ret
    exact ⟨Base.ret_bool (by rw [HK.out, H1.out]; rfl), P0.out.1⟩
  · have H1 : Hid (in3 h = true) := h1
    clear h1
    go_enter Tryd.func78, Tryd.ntmps78
    go_wp2_with fail
    generalize w.alloc (.cells #[.int .i64 h, .int .i64 r, .int .i64 f, .string s] 69) = w0 at P0 ⊢
    obtain ⟨B0, S0, c0, c1, c2, c3⟩ := P0
    generalize hb : w.heap.size = b at *
    refine (known _ _).mono ?_
    rintro e w' ⟨rfl, rfl⟩
    rw [H1.out]
    go_wp2_with fail
    refine (isRound _ _).mono ?_
    rintro e w1 ⟨rfl, hw1⟩
    have hb1 : Below w0.heap.size w0 w1 := hw1 ▸ Below.refl _ _
    clear hw1
    replace c0 := (hb1.cell (p := ⟨b, 0, none⟩) S0).trans c0
    replace c1 := (hb1.cell (p := ⟨b, 1, none⟩) S0).trans c1
    replace c2 := (hb1.cell (p := ⟨b, 2, none⟩) S0).trans c2
    replace c3 := (hb1.cell (p := ⟨b, 3, none⟩) S0).trans c3
    have B1 := B0.trans (hb1.mono (Nat.le_of_lt S0))
    have S1 : b < w1.heap.size := Nat.lt_of_lt_of_le S0 hb1.size
    clear hb1 B0 S0
    cases h2 : in19 r
    · have H2 : Hid (in19 r = false) := h2
      go_wp2
      go_ret
      exact ⟨Base.ret_bool (by rw [HK.out, H1.out, H2.out]; rfl), by rw [hb]; exact B1⟩
    · have H2 : Hid (in19 r = true) := h2
      clear h2
      go_wp2_with fail
      refine (rightFrom _ _ _ _ _).mono ?_
      rintro e w2 ⟨rfl, hb2⟩
      replace c3 := (hb2.cell (p := ⟨b, 3, none⟩) S1).trans c3
      have B2 := B1.trans (hb2.mono (Nat.le_of_lt S1))
      clear hb2 B1 S1 c0 c1 c2
      cases h3 : (Base.okB f && both0 r f)
      · have H3 : Hid ((Base.okB f && both0 r f) = false) := h3
        clear h3
        go_wp2
        go_ret
        exact ⟨Base.ret_bool (by rw [HK.out, H1.out, H2.out, H3.out]; rfl), by rw [hb]; exact B2⟩
      · have H3 : Hid ((Base.okB f && both0 r f) = true) := h3
        clear h3
        go_wp2_with fail
        refine (isWord _ _ hs).mono ?_
        rintro e w3 ⟨rfl, rfl⟩
        go_wp2
        go_ret
        exact ⟨Base.ret_bool (by rw [HK.out, H1.out, H2.out, H3.out]; rfl), by rw [hb]; exact B2⟩

theorem knotOf (h r f : Int) (s : ByteArray) (w : World) : Calls Tryd.prog 110 #[.agg #[.int .i64 h, .int .i64 r, .int .i64 f, .string s]] w fun e w' =>
    e = .returned (.agg #[.int .i64 h, .int .i64 r, .int .i64 f, .string s]) ∧ Below w.heap.size w w' := by
  go_enter Tryd.func110, Tryd.ntmps110
  go_wp2
  exact bodyPost_ret (v := .agg #[.int .i64 h, .int .i64 r, .int .i64 f, .string s]) (by simp [results, Tryd.results110, go_sem]) rfl ⟨rfl, ((Below.refl _ _).alloc (Nat.le_refl _) _).alloc (by simp) _⟩

theorem handedOut (h r f : Int) (s : ByteArray) (w : World) : Calls Tryd.prog 43 #[.agg #[.int .i64 h, .int .i64 r, .int .i64 f, .string s]] w fun e w' =>
    e = .returned (.agg #[.int .i64 h, .int .i64 r, .int .i64 f, .string s]) ∧ Below w.heap.size w w' := by
  go_enter Tryd.func43, Tryd.ntmps43
  go_wp2
  exact bodyPost_ret (v := .agg #[.int .i64 h, .int .i64 r, .int .i64 f, .string s]) (by simp [results, Tryd.results43, go_sem]) rfl ⟨rfl, ((Below.refl _ _).alloc (Nat.le_refl _) _).alloc (by simp) _⟩

end Kn
end Go.Proofs.YtapfmadnkaimeaaDoor
