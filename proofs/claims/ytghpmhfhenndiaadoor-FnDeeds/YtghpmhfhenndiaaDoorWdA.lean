/-
  What the program's own DeedOk answers: whether the deed is right; for keys of at most 2^40 bytes.
-/
import Derived.Test.YtghpmhfhenndiaaDoorDeedM
namespace Go.Proofs.YtghpmhfhenndiaaDoor
open Go.RowKit
set_option maxRecDepth 100000
set_option linter.unusedVariables false
namespace De

set_option maxHeartbeats 1600000 in
theorem isKey (s : ByteArray) (w : World) (hs : s.size ≤ 1099511627776) : Calls Tryd.prog 28 #[.string s] w fun e w' => e = .returned (.bool (keyB s)) ∧ w = w' := by
  by_cases h1 : s.size < 1
  · have H : Hid (keyB s = false) := by
      show _ = false
      have : decide (1 ≤ s.size) = false := decide_eq_false (by omega)
      unfold keyB; rw [this, Bool.false_and, Bool.and_false]
    have h1' : (s.size : Int) < 1 := by omega
    go_enter Tryd.func28, Tryd.ntmps28
    go_wp2
    go_ret
    exact ⟨Base.ret_bool H.out.symm, rfl⟩
  have h1' : ¬ (s.size : Int) < 1 := by omega
  by_cases h3 : 3 < s.size
  · have H : Hid (keyB s = false) := by
      show _ = false
      have : decide (s.size ≤ 3) = false := decide_eq_false (by omega)
      unfold keyB; rw [this, Bool.and_false, Bool.and_false]
    have h3' : (3 : Int) < (s.size : Int) := by omega
    go_enter Tryd.func28, Tryd.ntmps28
    go_wp2
    go_ret
    exact ⟨Base.ret_bool H.out.symm, rfl⟩
  have h3' : ¬ (3 : Int) < (s.size : Int) := by omega
  go_enter Tryd.func28, Tryd.ntmps28
  go_wp2
  go_loop [14] (fun i => ∃ k : Nat, k ≤ s.size ∧ i = .int .i64 k ∧ Hid ((s.data.toList.take k).all okL = true)) (fun i => s.size - (intOf i).toNat)
  case atStart => exact ⟨0, Nat.zero_le _, rfl, rfl⟩
  case round =>
    obtain ⟨k, hk, rfl, HA⟩ := hrel
    by_cases hlt : k < s.size
    · have HS : Hid ((s.data.toList.take (k + 1)).all okL = ((s.data.toList.take k).all okL && okL s[k])) := allL_snoc s k hlt
      have HO : Hid (okL s[k] = true ↔ (97 ≤ (s[k].toNat : Int) ∧ (s[k].toNat : Int) ≤ 122)) := by
        show _ ↔ _
        simp [okL]; omega
      have HB : Hid (okL s[k] = false → keyB s = false) := by
        intro h
        have hm : s[k] ∈ s.data.toList := by
          have hk2 : k < s.data.toList.length := by simpa using hlt
          have e : s[k] = s.data.toList[k] := rfl
          rw [e]; exact List.getElem_mem hk2
        unfold keyB
        have : s.data.toList.all okL = false := by
          rw [List.all_eq_false]; exact ⟨s[k], hm, by simp [h]⟩
        rw [this]; rfl
      by_cases c1 : (97 : Int) ≤ (s[k].toNat : Int) ∧ (s[k].toNat : Int) ≤ 122
      · have HC : Hid ((s.data.toList.take (k + 1)).all okL = true) := by
          show _ = true
          rw [HS.out, HA.out, HO.out.2 c1]; rfl
        obtain ⟨c1, c1'⟩ := c1
        clear HS HO HB
        go_wp2
        go_round
        case rel => exact ⟨k + 1, by omega, by go_num, HC⟩
        case measure => simp [intOf]; omega
      · have HC : Hid (keyB s = false) := by
          apply HB.out
          cases h : okL s[k]
          · rfl
          · exfalso; exact c1 (HO.out.1 h)
        clear HS HO HB HA
        by_cases d1 : (s[k].toNat : Int) < 97
        · clear c1
          go_wp2
          go_ret
          exact ⟨Base.ret_bool HC.out.symm, rfl⟩
        · have d4 : 122 < (s[k].toNat : Int) := by omega
          clear c1
          go_wp2
          go_ret
          exact ⟨Base.ret_bool HC.out.symm, rfl⟩
    · have hk' : k = s.size := by omega
      have HT : Hid (keyB s = true) := by
        show _ = _
        unfold keyB
        have := HA.out
        rw [hk', Kn.take_all] at this
        rw [this, Bool.true_and]
        simp; omega
      go_wp2
      go_ret
      exact ⟨Base.ret_bool HT.out.symm, rfl⟩

def numB (n : Int) : Bool := decide (0 ≤ n) && decide (n ≤ 99)
theorem isNumber (n : Int) (w : World) : Calls Tryd.prog 29 #[.int .i64 n] w fun e w' => e = .returned (.bool (numB n)) ∧ w = w' := by
  by_cases h1 : 0 ≤ n
  · go_enter Tryd.func29, Tryd.ntmps29
    go_wp2
    go_ret
    exact ⟨Base.ret_bool (by simp [numB, h1]), rfl⟩
  · go_enter Tryd.func29, Tryd.ntmps29
    go_wp2
    go_ret
    exact ⟨Base.ret_bool (by simp [numB]; omega), rfl⟩

set_option maxHeartbeats 3200000 in
theorem implDeedOk (kind : Int) (key : ByteArray) (val new : Int) (w : World) (hs : key.size ≤ 1099511627776) : Calls Tryd.prog 13 #[.agg #[.int .i64 kind, .string key, .int .i64 val, .int .i64 new]] w fun e w' =>
    e = .returned (.bool (okD ⟨kind, key, val, new⟩)) ∧ Below w.heap.size w w' := by
  have HO : Hid (okD ⟨kind, key, val, new⟩ = ((decide (1 ≤ kind) && decide (kind ≤ 4)) && (keyB key && (numB val && (numB new && (((kind != 2) || (val == 0)) && ((kind == 4) || (new == 0)))))))) := rfl
  have HK : Hid (∀ W : World, Calls Tryd.prog 28 #[.string key] W fun e w' => e = .returned (.bool (keyB key)) ∧ W = w') := fun W => isKey key W hs
  have HN : Hid (∀ (n : Int) (W : World), Calls Tryd.prog 29 #[.int .i64 n] W fun e w' => e = .returned (.bool (numB n)) ∧ W = w') := fun n W => isNumber n W
  have B1 : Hid (∀ o : Obj, Below w.heap.size w (w.alloc o)) := fun o => (Below.refl _ _).alloc (Nat.le_refl _) o
  generalize okD ⟨kind, key, val, new⟩ = ok at HO ⊢
  generalize keyB key = b2 at HO HK
  have E6 : Hid ((val == 0) = !(val != 0)) := by show _ = _; simp [bne]
  have E8 : Hid ((new == 0) = !(new != 0)) := by show _ = _; simp [bne]
  generalize h6 : (val != 0) = b6 at E6
  generalize h8 : (new != 0) = b8 at E8
  generalize h3 : numB val = b3 at HO
  generalize h4 : numB new = b4 at HO
  have H3 : Hid (numB val = b3) := h3
  have H4 : Hid (numB new = b4) := h4
  clear hs h3 h4
  rcases (show kind = 1 ∨ kind = 2 ∨ kind = 3 ∨ kind = 4 ∨ (kind < 1 ∨ 4 < kind) by omega) with rfl | rfl | rfl | rfl | hk
  case inr.inr.inr.inr =>
    have HF : Hid (ok = false) := by
      show _ = _
      rw [HO.out]
      rcases hk with h | h
      · rw [show decide (1 ≤ kind) = false from by simp; omega]; rfl
      · rw [show decide (kind ≤ 4) = false from by simp; omega, Bool.and_false]; rfl
    have k1 : (kind == 1) = false := by simp; omega
    have k2 : (kind == 2) = false := by simp; omega
    have k3 : (kind == 3) = false := by simp; omega
    have k4 : (kind == 4) = false := by simp; omega
    clear HO hk HK HN
    go_enter Tryd.func13, Tryd.ntmps13
    go_wp2
    go_ret
    exact ⟨Base.ret_bool HF.out.symm, B1.out _⟩
  case inl =>
    rcases (show (b8 = true) ∨ (b8 = false ∧ b2 = false) ∨ (b8 = false ∧ b2 = true ∧ b3 = false) ∨ (b8 = false ∧ b2 = true ∧ b3 = true ∧ b4 = false) ∨ (b8 = false ∧ b2 = true ∧ b3 = true ∧ b4 = true) by cases b8 <;> cases b2 <;> cases b3 <;> cases b4 <;> simp) with rfl | ⟨rfl, rfl⟩ | ⟨rfl, rfl, rfl⟩ | ⟨rfl, rfl, rfl, rfl⟩ | ⟨rfl, rfl, rfl, rfl⟩
    all_goals
      go_enter Tryd.func13, Tryd.ntmps13
      go_wp2_with (first | (go_at_call 28; refine (HK.out _).mono ?_; rintro e w' ⟨rfl, rfl⟩) | (go_at_call 29; refine (HN.out _ _).mono ?_; rintro e w' ⟨rfl, rfl⟩; first | rw [H3.out] | rw [H4.out]))
      go_ret
      exact ⟨Base.ret_bool (by rw [HO.out, E6.out, E8.out]; first | rfl | simp), B1.out _⟩
  case inr.inl =>
    rcases (show (b6 = true) ∨ (b6 = false ∧ b8 = true) ∨ (b6 = false ∧ b8 = false ∧ b2 = false) ∨ (b6 = false ∧ b8 = false ∧ b2 = true ∧ b3 = false) ∨ (b6 = false ∧ b8 = false ∧ b2 = true ∧ b3 = true ∧ b4 = false) ∨ (b6 = false ∧ b8 = false ∧ b2 = true ∧ b3 = true ∧ b4 = true) by cases b6 <;> cases b8 <;> cases b2 <;> cases b3 <;> cases b4 <;> simp) with rfl | ⟨rfl, rfl⟩ | ⟨rfl, rfl, rfl⟩ | ⟨rfl, rfl, rfl, rfl⟩ | ⟨rfl, rfl, rfl, rfl, rfl⟩ | ⟨rfl, rfl, rfl, rfl, rfl⟩
    all_goals
      go_enter Tryd.func13, Tryd.ntmps13
      go_wp2_with (first | (go_at_call 28; refine (HK.out _).mono ?_; rintro e w' ⟨rfl, rfl⟩) | (go_at_call 29; refine (HN.out _ _).mono ?_; rintro e w' ⟨rfl, rfl⟩; first | rw [H3.out] | rw [H4.out]))
      go_ret
      exact ⟨Base.ret_bool (by rw [HO.out, E6.out, E8.out]; first | rfl | simp), B1.out _⟩
  case inr.inr.inl =>
    rcases (show (b8 = true) ∨ (b8 = false ∧ b2 = false) ∨ (b8 = false ∧ b2 = true ∧ b3 = false) ∨ (b8 = false ∧ b2 = true ∧ b3 = true ∧ b4 = false) ∨ (b8 = false ∧ b2 = true ∧ b3 = true ∧ b4 = true) by cases b8 <;> cases b2 <;> cases b3 <;> cases b4 <;> simp) with rfl | ⟨rfl, rfl⟩ | ⟨rfl, rfl, rfl⟩ | ⟨rfl, rfl, rfl, rfl⟩ | ⟨rfl, rfl, rfl, rfl⟩
    all_goals
      go_enter Tryd.func13, Tryd.ntmps13
      go_wp2_with (first | (go_at_call 28; refine (HK.out _).mono ?_; rintro e w' ⟨rfl, rfl⟩) | (go_at_call 29; refine (HN.out _ _).mono ?_; rintro e w' ⟨rfl, rfl⟩; first | rw [H3.out] | rw [H4.out]))
      go_ret
      exact ⟨Base.ret_bool (by rw [HO.out, E6.out, E8.out]; first | rfl | simp), B1.out _⟩
  case inr.inr.inr.inl =>
    rcases (show (b2 = false) ∨ (b2 = true ∧ b3 = false) ∨ (b2 = true ∧ b3 = true ∧ b4 = false) ∨ (b2 = true ∧ b3 = true ∧ b4 = true) by cases b2 <;> cases b3 <;> cases b4 <;> simp) with rfl | ⟨rfl, rfl⟩ | ⟨rfl, rfl, rfl⟩ | ⟨rfl, rfl, rfl⟩
    all_goals
      go_enter Tryd.func13, Tryd.ntmps13
      go_wp2_with (first | (go_at_call 28; refine (HK.out _).mono ?_; rintro e w' ⟨rfl, rfl⟩) | (go_at_call 29; refine (HN.out _ _).mono ?_; rintro e w' ⟨rfl, rfl⟩; first | rw [H3.out] | rw [H4.out]))
      go_ret
      exact ⟨Base.ret_bool (by rw [HO.out, E6.out, E8.out]; first | rfl | simp), B1.out _⟩

end De
end Go.Proofs.YtghpmhfhenndiaaDoor
