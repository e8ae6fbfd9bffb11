/-
  What the model's reading of numbers answers: a number below a thousand million, and the number itself where its digits are read; for texts of whatever make.
-/
import Derived.Test.YtghpmhfhenndiaaDoorKnotS
namespace Go.Proofs.YtghpmhfhenndiaaDoor
open Go.RowKit
set_option maxRecDepth 100000
namespace Kn

def val (l : List UInt8) : Nat := l.foldl (fun a c => a * 10 + (c.toNat - 48)) 0
theorem val_snoc (l : List UInt8) (c : UInt8) : val (l ++ [c]) = val l * 10 + (c.toNat - 48) := by simp [val]

theorem dig_nat (n : Nat) : (dig n).toNat = 48 + n % 10 := by
  unfold dig
  rw [UInt8.toNat_ofNat']
  omega

theorem dec_ind (P : Nat → Prop) (h1 : ∀ n, n < 10 → P n) (h2 : ∀ n, 10 ≤ n → n < 100000000000 → P (n / 10) → P n) : ∀ n, n < 100000000000 → P n := by
  intro n
  induction n using Nat.strongRecOn with
  | ind n ih =>
    intro hn
    by_cases h : n < 10
    · exact h1 n h
    · exact h2 n (by omega) hn (ih (n / 10) (by omega) (by omega))

theorem dec_ne (n : Nat) (hn : n < 100000000000) : dec n ≠ [] := by
  by_cases h : n < 10
  · rw [dec_small n h]; simp
  · rw [dec_big n (by omega) hn]; simp

theorem dec_digits : ∀ n, n < 100000000000 → ∀ c ∈ dec n, 48 ≤ c.toNat ∧ c.toNat ≤ 57 := by
  apply dec_ind
  · intro n h c hc
    rw [dec_small n h] at hc
    simp at hc; subst hc
    rw [dig_nat]; omega
  · intro n h10 hn ih c hc
    rw [dec_big n h10 hn, List.mem_append] at hc
    rcases hc with hc | hc
    · exact ih c hc
    · simp at hc; subst hc; rw [dig_nat]; omega

theorem val_dec : ∀ n, n < 100000000000 → val (dec n) = n := by
  apply dec_ind
  · intro n h
    rw [dec_small n h]
    simp [val, dig_nat]; omega
  · intro n h10 hn ih
    rw [dec_big n h10 hn, val_snoc, ih, dig_nat]; omega

theorem dec_head : ∀ n, n < 100000000000 → ∀ c r, dec n = c :: r → r ≠ [] → c.toNat ≠ 48 := by
  apply dec_ind
  · intro n h c r e hr
    rw [dec_small n h] at e
    simp at e; exact absurd e.2.symm (fun h => hr h.symm)
  · intro n h10 hn ih c r e hr
    rw [dec_big n h10 hn] at e
    cases hd : dec (n / 10) with
    | nil => exact absurd hd (dec_ne (n / 10) (by omega))
    | cons c' r' =>
      rw [hd] at e
      simp only [List.cons_append, List.cons.injEq] at e
      obtain ⟨rfl, e⟩ := e
      by_cases hr' : r' = []
      · subst hr'
        have h1 : n / 10 < 10 := by
          apply Classical.byContradiction; intro h
          rw [dec_big (n / 10) (by omega) (by omega)] at hd
          cases h2 : dec (n / 10 / 10) with
          | nil => exact absurd h2 (dec_ne _ (by omega))
          | cons a b => rw [h2] at hd; simp at hd
        rw [dec_small _ h1] at hd
        simp at hd
        rw [← hd, dig_nat]; omega
      · exact ih c' r' hd hr'

theorem dec_length (k n : Nat) (h : n < 10 ^ (k + 1)) (h2 : n < 100000000000) : (dec n).length ≤ k + 1 := by
  induction k generalizing n with
  | zero => rw [dec_small n (by simpa using h)]; simp
  | succ k ih =>
    by_cases h10 : n < 10
    · rw [dec_small n h10]; simp
    · rw [dec_big n (by omega) h2]
      have := ih (n / 10) (by rw [Nat.pow_succ] at h; omega) (by omega)
      simp; omega

theorem B_inj {a b : List UInt8} (h : B a = B b) : a = b := by
  have := congrArg ByteArray.toList h
  rwa [B_list, B_list] at this
theorem B_data (s : ByteArray) : B s.data.toList = s := by simp [B]
theorem B_of (s : ByteArray) (l : List UInt8) (h : s = B l) : s.data.toList = l := by rw [h]; simp [B]


/-- what a reading promises -/
def Reads (s : ByteArray) (n : Int) (b : Bool) : Prop := -1000000000 < n ∧ n < 1000000000 ∧ ∀ m : Nat, m < 1000000000 → s = B (dec m) → n = (m : Int) ∧ b = true

theorem reads_no {s : ByteArray} {n : Int} {b : Bool} (h0 : -1000000000 < n) (h1 : n < 1000000000) (h : ∀ m : Nat, m < 1000000000 → s ≠ B (dec m)) : Reads s n b :=
  ⟨h0, h1, fun m hm e => absurd e (h m hm)⟩

theorem no_empty (s : ByteArray) (h : s.size = 0) (m : Nat) (hm : m < 1000000000) : s ≠ B (dec m) := by
  intro e
  have := B_of s _ e
  have h2 := dec_ne m (by omega)
  apply h2
  rw [← this]
  exact List.length_eq_zero_iff.1 (by simpa using h)

theorem get_mem (s : ByteArray) (k : Nat) (hk : k < s.size) : s[k] ∈ s.data.toList := by
  have hk2 : k < s.data.toList.length := by simpa using hk
  have e : s[k] = s.data.toList[k] := rfl
  rw [e]; exact List.getElem_mem hk2

theorem no_sign (s : ByteArray) (k : Nat) (hk : k < s.size) (h : s[k].toNat < 48 ∨ 57 < s[k].toNat) (m : Nat) (hm : m < 1000000000) : s ≠ B (dec m) := by
  intro e
  have hmem := get_mem s k hk
  rw [B_of s _ e] at hmem
  have := dec_digits m (by omega) _ hmem
  omega

theorem no_long (s : ByteArray) (h : 9 < s.size) (m : Nat) (hm : m < 1000000000) : s ≠ B (dec m) := by
  intro e
  have hl := dec_length 8 m (by simpa using hm) (by omega)
  rw [e, B_size] at h
  omega

theorem no_nought (s : ByteArray) (h : 1 < s.size) (h0 : s[0].toNat = 48) (m : Nat) (hm : m < 1000000000) : s ≠ B (dec m) := by
  intro e
  have hd := B_of s _ e
  have hs : (dec m).length = s.size := by rw [← hd]; simp
  cases hc : dec m with
  | nil => exact absurd hc (dec_ne m (by omega))
  | cons c r =>
    have hr : r ≠ [] := by
      intro h2; rw [hc, h2] at hs; simp at hs; omega
    have := dec_head m (by omega) c r hc hr
    apply this
    have e0 : s[0] = s.data.toList[0]'(by simp; omega) := rfl
    have e1 : s.data.toList[0]'(by simp; omega) = c := by
      have : s.data.toList[0]? = some c := by rw [hd, hc]; rfl
      rw [List.getElem?_eq_getElem (by simp; omega)] at this
      exact Option.some.inj this
    rw [← e1, ← e0]; exact h0

/-- what has been read of the first k signs -/
def To (s : ByteArray) (k : Nat) (n : Int) : Prop := ∀ m : Nat, m < 1000000000 → s = B (dec m) → n = (val (s.data.toList.take k) : Int)

theorem to_snoc (s : ByteArray) (k : Nat) (hk : k < s.size) (n : Int) (h : To s k n) (h48 : 48 ≤ s[k].toNat) : To s (k + 1) (n * 10 + ((s[k].toNat : Int) - 48)) := by
  intro m hm e
  rw [take_snoc s k hk, val_snoc, h m hm e]
  omega

theorem to_end (s : ByteArray) (n : Int) (h : To s s.size n) (h0 : -1000000000 < n) (h1 : n < 1000000000) : Reads s n true := by
  refine ⟨h0, h1, fun m hm e => ⟨?_, rfl⟩⟩
  rw [h m hm e, take_all, B_of s _ e, val_dec m (by omega)]

/-- how a reading ends -/
def ReadPost (s : ByteArray) (w : World) (e : Ending) (w' : World) : Prop := ∃ n b, e = .returned (.tuple #[.int .i64 n, .bool b]) ∧ Reads s n b ∧ w = w'
theorem readPost_mk {s : ByteArray} {w : World} {e : Ending} (n : Int) (b : Bool) (he : e = .returned (.tuple #[.int .i64 n, .bool b])) (h : Reads s n b) : ReadPost s w e w := ⟨n, b, he, h, rfl⟩
theorem pow9 (k : Nat) (hk : k ≤ 9) : (10 : Int) ^ k ≤ 1000000000 := by
  have h2 : 10 ^ k ≤ 10 ^ 9 := Nat.pow_le_pow_right (by decide) hk
  have e : (10 : Int) ^ k = ((10 ^ k : Nat) : Int) := by simp
  rw [e]; omega

set_option maxHeartbeats 3200000 in
theorem readPos (s : ByteArray) (w : World) (hs : 0 < s.size) (hs2 : s.size ≤ 1099511627776) (h45 : s[0].toNat ≠ 45) : Calls Tryd.prog 26 #[.string s] w (ReadPost s w) := by
  have he : s.toList.isEmpty = false := isN s (by omega)
  have hb45 : ((s[0].toNat : Int) == 45) = false := by
    rw [beq_eq_false_iff_ne]; intro h; exact h45 (by omega)
  have hp : (0 : Int) < (s.size : Int) := by omega
  have hp1 : decide ((s.size : Int) < 1) = false := by simp; omega
  by_cases h9 : 9 < s.size
  · have H9 : Hid (∀ m : Nat, m < 1000000000 → s ≠ B (dec m)) := no_long s h9
    have h9' : (9 : Int) < (s.size : Int) := by omega
    go_enter Tryd.func26, Tryd.ntmps26
    go_wp2
    go_ret2
    exact readPost_mk 0 false rfl (reads_no (by omega) (by omega) H9.out)
  · have h9' : ¬ (9 : Int) < (s.size : Int) := by omega
    go_enter Tryd.func26, Tryd.ntmps26
    go_wp2
    go_loop [6, 7] (fun v i => ∃ (k : Nat) (n : Int), k ≤ s.size ∧ i = .int .i64 k ∧ v = .int .i64 n ∧ 0 ≤ n ∧ Hid (n < 10 ^ k) ∧ Hid (To s k n)) (fun _ i => s.size - (intOf i).toNat)
    case atStart => exact ⟨0, 0, by omega, rfl, rfl, by omega, by show (0 : Int) < 10 ^ 0; decide, by intro m hm e; rfl⟩
    case round =>
      obtain ⟨k, n, hk, rfl, rfl, hn0, HP, HT⟩ := hrel
      by_cases hlt : k < s.size
      · have hnb : n < 1000000000 := by
          have h1 := HP.out
          have h2 := pow9 k (by omega)
          omega
        by_cases hd : 48 ≤ s[k].toNat ∧ s[k].toNat ≤ 57
        · obtain ⟨hd1, hd2⟩ := hd
          have HT' : Hid (To s (k + 1) (n * 10 + ((s[k].toNat : Int) - 48))) := to_snoc s k hlt n HT.out hd1
          have HP' : Hid (n * 10 + ((s[k].toNat : Int) - 48) < 10 ^ (k + 1)) := by
            show _ < _
            have h1 := HP.out
            rw [Int.pow_succ]; omega
          have hd1' : (48 : Int) ≤ (s[k].toNat : Int) := by omega
          have hd2' : (s[k].toNat : Int) ≤ 57 := by omega
          go_wp2
          go_round
          case rel => exact ⟨k + 1, _, by omega, by go_num, rfl, by omega, HP', HT'⟩
          case measure => simp [intOf]; omega
        · have HN : Hid (∀ m : Nat, m < 1000000000 → s ≠ B (dec m)) := no_sign s k hlt (by omega)
          by_cases hd1 : s[k].toNat < 48
          · have hd1' : (s[k].toNat : Int) < 48 := by omega
            go_wp2
            go_ret2
            exact readPost_mk 0 false rfl (reads_no (by omega) (by omega) HN.out)
          · have hd1' : (57 : Int) < (s[k].toNat : Int) := by omega
            go_wp2
            go_ret2
            exact readPost_mk 0 false rfl (reads_no (by omega) (by omega) HN.out)
      · obtain rfl : k = s.size := by omega
        have hnb : n < 1000000000 := by
          have h1 := HP.out
          have h2 := pow9 s.size (by omega)
          omega
        have HR : Hid (Reads s n true) := to_end s n HT.out (by omega) hnb
        by_cases h48 : s[0].toNat = 48
        · have h48' : ((s[0].toNat : Int) == 48) = true := by rw [beq_iff_eq]; omega
          by_cases h1 : 1 < s.size
          · have HN : Hid (∀ m : Nat, m < 1000000000 → s ≠ B (dec m)) := no_nought s h1 h48
            have h1' : (1 : Int) < (s.size : Int) := by omega
            clear h48 h45 hb45
            go_wp2
            go_ret2
            exact readPost_mk 0 false rfl (reads_no (by omega) (by omega) HN.out)
          · have h1' : ¬ (1 : Int) < (s.size : Int) := by omega
            clear h48 h45 hb45
            go_wp2
            go_ret2
            exact readPost_mk n true rfl (HR.out)
        · have h48' : ((s[0].toNat : Int) == 48) = false := by
            rw [beq_eq_false_iff_ne]; intro h; exact h48 (by omega)
          clear h45 hb45
          go_wp2
          go_ret2
          exact readPost_mk n true rfl (HR.out)

set_option maxHeartbeats 3200000 in
theorem readNeg (s : ByteArray) (w : World) (hs : 0 < s.size) (hs2 : s.size ≤ 1099511627776) (h45 : s[0].toNat = 45) : Calls Tryd.prog 26 #[.string s] w (ReadPost s w) := by
  have HN : Hid (∀ m : Nat, m < 1000000000 → s ≠ B (dec m)) := no_sign s 0 hs (by omega)
  have he : s.toList.isEmpty = false := isN s (by omega)
  have hb45 : ((s[0].toNat : Int) == 45) = true := by rw [beq_iff_eq]; omega
  have hp : (0 : Int) < (s.size : Int) := by omega
  clear h45
  by_cases h1 : s.size = 1
  · have h1' : (s.size : Int) - 1 < 1 := by omega
    have h1d : decide ((s.size : Int) - 1 < 1) = true := by simp; omega
    go_enter Tryd.func26, Tryd.ntmps26
    go_wp2
    go_ret2
    exact readPost_mk 0 false rfl (reads_no (by omega) (by omega) HN.out)
  · have hp1 : decide ((s.size : Int) - 1 < 1) = false := by simp; omega
    by_cases h9 : 10 < s.size
    · have h9' : (9 : Int) < (s.size : Int) - 1 := by omega
      go_enter Tryd.func26, Tryd.ntmps26
      go_wp2
      go_ret2
      exact readPost_mk 0 false rfl (reads_no (by omega) (by omega) HN.out)
    · have h9' : ¬ (9 : Int) < (s.size : Int) - 1 := by omega
      have h9d : decide ((9 : Int) < (s.size : Int) - 1) = false := by simp; omega
      go_enter Tryd.func26, Tryd.ntmps26
      go_wp2
      go_loop [6, 7] (fun v i => ∃ (k : Nat) (n : Int), k + 1 ≤ s.size ∧ i = .int .i64 ((k : Int) + 1) ∧ v = .int .i64 n ∧ 0 ≤ n ∧ Hid (n < 10 ^ k)) (fun _ i => s.size - (intOf i).toNat)
      case atStart => exact ⟨0, 0, by omega, rfl, rfl, by omega, by show (0 : Int) < 10 ^ 0; decide⟩
      case round =>
        obtain ⟨k, n, hk, rfl, rfl, hn0, HP⟩ := hrel
        have hnb : n < 1000000000 := by
          have h1 := HP.out
          have h2 := pow9 k (by omega)
          omega
        by_cases hlt : k + 1 < s.size
        · have hlt' : (k : Int) + 1 < (s.size : Int) := by omega
          have e1 : ((k : Int) + 1).toNat = k + 1 := by omega
          by_cases hd : 48 ≤ s[k + 1].toNat ∧ s[k + 1].toNat ≤ 57
          · obtain ⟨hd1, hd2⟩ := hd
            have HP' : Hid (n * 10 + ((s[k + 1].toNat : Int) - 48) < 10 ^ (k + 1)) := by
              show _ < _
              have h1 := HP.out
              rw [Int.pow_succ]; omega
            have hd1' : (48 : Int) ≤ (s[k + 1].toNat : Int) := by omega
            have hd2' : (s[k + 1].toNat : Int) ≤ 57 := by omega
            go_wp2
            go_round
            case rel => exact ⟨k + 1, _, by omega, by go_num, rfl, by omega, HP'⟩
            case measure => simp [intOf]; omega
          · by_cases hd1 : s[k + 1].toNat < 48
            · have hd1' : (s[k + 1].toNat : Int) < 48 := by omega
              go_wp2
              go_ret2
              exact readPost_mk 0 false rfl (reads_no (by omega) (by omega) HN.out)
            · have hd1' : (57 : Int) < (s[k + 1].toNat : Int) := by omega
              go_wp2
              go_ret2
              exact readPost_mk 0 false rfl (reads_no (by omega) (by omega) HN.out)
        · have hlt' : ¬ (k : Int) + 1 < (s.size : Int) := by omega
          have hs1 : (1 : Int) < (s.size : Int) := by omega
          have hs1' : 1 < s.size := by omega
          by_cases h48 : s[1].toNat = 48
          · have h48' : ((s[1].toNat : Int) == 48) = true := by rw [beq_iff_eq]; omega
            clear h48
            go_wp2
            go_ret2
            exact readPost_mk 0 false rfl (reads_no (by omega) (by omega) HN.out)
          · have h48' : ((s[1].toNat : Int) == 48) = false := by
              rw [beq_eq_false_iff_ne]; intro h; exact h48 (by omega)
            clear h48
            go_wp2
            go_ret2
            exact readPost_mk (-n) true rfl (reads_no (by omega) (by omega) HN.out)

set_option maxHeartbeats 800000 in
theorem l1Read (s : ByteArray) (w : World) (hs2 : s.size ≤ 1099511627776) : Calls Tryd.prog 26 #[.string s] w (ReadPost s w) := by
  by_cases h0 : s.size = 0
  · have he : s.toList.isEmpty = true := isE s h0
    have HN : Hid (∀ m : Nat, m < 1000000000 → s ≠ B (dec m)) := no_empty s h0
    have h0' : (s.size : Int) = 0 := by omega
    go_enter Tryd.func26, Tryd.ntmps26
    go_wp2
    go_ret2
    exact readPost_mk 0 false rfl (reads_no (by omega) (by omega) HN.out)
  · by_cases h45 : (s[0]'(by omega)).toNat = 45
    · exact readNeg s w (by omega) hs2 h45
    · exact readPos s w (by omega) hs2 h45

end Kn
end Go.Proofs.YtghpmhfhenndiaaDoor
