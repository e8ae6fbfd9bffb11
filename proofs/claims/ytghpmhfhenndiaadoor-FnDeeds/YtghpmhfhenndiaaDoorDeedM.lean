/-
  Deeds: what a right deed is, and the model's DeedOk; for keys of at most 2^40 bytes.
-/
import Derived.Test.YtghpmhfhenndiaaDoorKnotM
namespace Go.Proofs.YtghpmhfhenndiaaDoor
open Go.RowKit
set_option maxRecDepth 100000
set_option linter.unusedVariables false
namespace De

def okL (c : UInt8) : Bool := decide (97 ≤ c.toNat) && decide (c.toNat ≤ 122)
/-- a right key -/
def keyB (s : ByteArray) : Bool := s.data.toList.all okL && (decide (1 ≤ s.size) && decide (s.size ≤ 3))

theorem allL_snoc (s : ByteArray) (k : Nat) (h : k < s.size) : (s.data.toList.take (k + 1)).all okL = ((s.data.toList.take k).all okL && okL s[k]) := by
  rw [Kn.take_snoc s k h]; simp

set_option maxHeartbeats 1600000 in
theorem l16Key (s : ByteArray) (w : World) (hs : s.size ≤ 1099511627776) : Calls Tryd.prog 31 #[.string s] w fun e w' => e = .returned (.bool (keyB s)) ∧ w = w' := by
  have HIN : Hid (∀ W : World, Calls Tryd.prog 30 #[.int .i64 (s.size : Int), .int .i64 1, .int .i64 3] W fun e w' => e = .returned (.bool (decide ((1 : Int) ≤ (s.size : Int)) && decide ((s.size : Int) ≤ 3))) ∧ W = w') := fun W => Base.l1In (s.size : Int) 1 3 W
  go_enter Tryd.func31, Tryd.ntmps31
  go_wp2
  go_loop [3] (fun i => ∃ k : Nat, k ≤ s.size ∧ i = .int .i64 k ∧ Hid ((s.data.toList.take k).all okL = true)) (fun i => s.size - (intOf i).toNat)
  case atStart => exact ⟨0, Nat.zero_le _, rfl, rfl⟩
  case round =>
    obtain ⟨k, hk, rfl, HA⟩ := hrel
    by_cases hlt : k < s.size
    · have HS : Hid ((s.data.toList.take (k + 1)).all okL = ((s.data.toList.take k).all okL && okL s[k])) := allL_snoc s k hlt
      have HO : Hid (okL s[k] = true ↔ (97 ≤ (s[k].toNat : Int) ∧ (s[k].toNat : Int) ≤ 122)) := by
        show _ ↔ _
        simp [okL]; omega
      have HB : Hid (okL s[k] = false → keyB s = false) := by
        intro h
        have hm : s[k] ∈ s.data.toList := by
          have hk2 : k < s.data.toList.length := by simpa using hlt
          have e : s[k] = s.data.toList[k] := rfl
          rw [e]; exact List.getElem_mem hk2
        unfold keyB
        have : s.data.toList.all okL = false := by
          rw [List.all_eq_false]; exact ⟨s[k], hm, by simp [h]⟩
        rw [this]; rfl
      by_cases c1 : (97 : Int) ≤ (s[k].toNat : Int) ∧ (s[k].toNat : Int) ≤ 122
      · have HC : Hid ((s.data.toList.take (k + 1)).all okL = true) := by
          show _ = true
          rw [HS.out, HA.out, HO.out.2 c1]; rfl
        obtain ⟨c1, c1'⟩ := c1
        clear HIN HS HO HB
        go_wp2
        go_round
        case rel => exact ⟨k + 1, by omega, by go_num, HC⟩
        case measure => simp [intOf]; omega
      · have HC : Hid (keyB s = false) := by
          apply HB.out
          cases h : okL s[k]
          · rfl
          · exfalso; exact c1 (HO.out.1 h)
        clear HS HO HB HA HIN
        by_cases d1 : (s[k].toNat : Int) < 97
        · clear c1
          go_wp2
          go_ret
          exact ⟨Base.ret_bool HC.out.symm, rfl⟩
        · have d4 : 122 < (s[k].toNat : Int) := by omega
          clear c1
          go_wp2
          go_ret
          exact ⟨Base.ret_bool HC.out.symm, rfl⟩
    · have hk' : k = s.size := by omega
      have HT : Hid (keyB s = (decide ((1 : Int) ≤ (s.size : Int)) && decide ((s.size : Int) ≤ 3))) := by
        show _ = _
        unfold keyB
        have := HA.out
        rw [hk', Kn.take_all] at this
        rw [this, Bool.true_and]
        congr 1 <;> exact decide_eq_decide.2 (by omega)
      go_wp2_with (go_at_call 30; refine (HIN.out _).mono ?_; rintro e w' ⟨rfl, rfl⟩)
      go_ret
      exact ⟨Base.ret_bool HT.out.symm, rfl⟩

/-- a deed -/
structure D where
  kind : Int
  key : ByteArray
  val : Int
  new : Int
def okD (d : D) : Bool := (decide (1 ≤ d.kind) && decide (d.kind ≤ 4)) && (keyB d.key && ((decide (0 ≤ d.val) && decide (d.val ≤ 99)) && ((decide (0 ≤ d.new) && decide (d.new ≤ 99)) && (((d.kind != 2) || (d.val == 0)) && ((d.kind == 4) || (d.new == 0))))))

set_option maxHeartbeats 1600000 in
theorem specDeedOk (kind : Int) (key : ByteArray) (val new : Int) (w : World) (hs : key.size ≤ 1099511627776) : Calls Tryd.prog 14 #[.agg #[.int .i64 kind, .string key, .int .i64 val, .int .i64 new]] w fun e w' =>
    e = .returned (.bool (okD ⟨kind, key, val, new⟩)) ∧ Below w.heap.size w w' := by
  have HO : Hid (okD ⟨kind, key, val, new⟩ = ((decide (1 ≤ kind) && decide (kind ≤ 4)) && (keyB key && ((decide (0 ≤ val) && decide (val ≤ 99)) && ((decide (0 ≤ new) && decide (new ≤ 99)) && (((kind != 2) || (val == 0)) && ((kind == 4) || (new == 0)))))))) := rfl
  have I1 : Hid (∀ W : World, Calls Tryd.prog 30 #[.int .i64 kind, .int .i64 1, .int .i64 4] W fun e w' => e = .returned (.bool (decide (1 ≤ kind) && decide (kind ≤ 4))) ∧ W = w') := fun W => Base.l1In kind 1 4 W
  have I2 : Hid (∀ W : World, Calls Tryd.prog 31 #[.string key] W fun e w' => e = .returned (.bool (keyB key)) ∧ W = w') := fun W => l16Key key W hs
  have I3 : Hid (∀ W : World, Calls Tryd.prog 30 #[.int .i64 val, .int .i64 0, .int .i64 99] W fun e w' => e = .returned (.bool (decide (0 ≤ val) && decide (val ≤ 99))) ∧ W = w') := fun W => Base.l1In val 0 99 W
  have I4 : Hid (∀ W : World, Calls Tryd.prog 30 #[.int .i64 new, .int .i64 0, .int .i64 99] W fun e w' => e = .returned (.bool (decide (0 ≤ new) && decide (new ≤ 99))) ∧ W = w') := fun W => Base.l1In new 0 99 W
  have B1 : Hid (∀ o : Obj, Below w.heap.size w (w.alloc o)) := fun o => (Below.refl _ _).alloc (Nat.le_refl _) o
  generalize okD ⟨kind, key, val, new⟩ = ok at HO ⊢
  generalize (decide (1 ≤ kind) && decide (kind ≤ 4)) = b1 at HO I1
  generalize keyB key = b2 at HO I2
  generalize (decide (0 ≤ val) && decide (val ≤ 99)) = b3 at HO I3
  generalize (decide (0 ≤ new) && decide (new ≤ 99)) = b4 at HO I4
  generalize h5 : (kind != 2) = b5 at HO
  generalize h6 : (val == 0) = b6 at HO
  generalize h7 : (kind == 4) = b7 at HO
  generalize h8 : (new == 0) = b8 at HO
  clear hs
  go_enter Tryd.func14, Tryd.ntmps14
  go_wp2_with fail
  refine (I1.out _).mono ?_
  rintro e w1 ⟨rfl, rfl⟩
  cases b1
  · go_wp2
    go_ret
    exact ⟨Base.ret_bool (by rw [HO.out]; rfl), B1.out _⟩
  go_wp2_with fail
  refine (I2.out _).mono ?_
  rintro e w1 ⟨rfl, rfl⟩
  cases b2
  · go_wp2
    go_ret
    exact ⟨Base.ret_bool (by rw [HO.out]; rfl), B1.out _⟩
  go_wp2_with fail
  refine (I3.out _).mono ?_
  rintro e w1 ⟨rfl, rfl⟩
  cases b3
  · go_wp2
    go_ret
    exact ⟨Base.ret_bool (by rw [HO.out]; rfl), B1.out _⟩
  go_wp2_with fail
  refine (I4.out _).mono ?_
  rintro e w1 ⟨rfl, rfl⟩
  cases b4
  · go_wp2
    go_ret
    exact ⟨Base.ret_bool (by rw [HO.out]; rfl), B1.out _⟩
  cases b5 <;> cases b6 <;> cases b7 <;> cases b8 <;>
  · go_wp2
    go_ret
    exact ⟨Base.ret_bool (by rw [HO.out]; rfl), B1.out _⟩

end De
end Go.Proofs.YtghpmhfhenndiaaDoor
