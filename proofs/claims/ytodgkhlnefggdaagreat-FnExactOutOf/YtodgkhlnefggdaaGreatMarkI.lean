/-
  What the laws' own small functions over lists of numbers answer: two that hold the same are alike, what is marked is held; for lists of at most a million numbers that the call itself made.
-/
import Derived.Test.YtodgkhlnefggdaaGreatLike
namespace Go.Proofs.YtodgkhlnefggdaaGreat
open Go.RowKit
set_option maxRecDepth 100000
namespace Lsx
open Memb (Own)
open Lst (Rd own_block own_rd own_below own_drewN)

/-- k, k + 1, .. -/
def marks (k : Int) (n : Nat) : List Int := (List.range n).map fun i : Nat => k + (i : Int)
theorem marks_length (k : Int) (n : Nat) : (marks k n).length = n := by simp [marks]
theorem marks_get (k : Int) (n j : Nat) (h : j < n) : (marks k n).getD j 0 = k + (j : Int) := by simp [marks, h]

set_option maxHeartbeats 400000 in
theorem held (k0 : Int) (n : Nat) (ao : Option Addr) (cap : Nat) (w : World) (hk : 0 ≤ k0) (hk' : k0 ≤ 1048576) (hn : n ≤ 1048576) (h : Rd w ao (marks k0 n)) :
    Calls Tryz.prog 14 #[.slice ao n cap, .int .i64 k0] w fun e w' => e = .returned (.int .i64 (k0 + (n : Int))) ∧ w = w' := by
  go_enter Tryz.func14, Tryz.ntmps14
  go_wp2
  go_loop [1, 5] (fun q i => ∃ k : Nat, k ≤ n ∧ i = .int .i64 k ∧ q = .int .i64 (k0 + (k : Int))) (fun _ i => n - (intOf i).toNat)
  case atStart => exact ⟨0, by omega, rfl, by simp⟩
  case round =>
    obtain ⟨k, hkn, rfl, rfl⟩ := hrel
    by_cases hlt : k < n
    · rcases h with h | ⟨g, rfl, hc⟩
      · exfalso; have := marks_length k0 n; rw [h] at this; simp at this; omega
      · have hck := hc k (by rw [marks_length]; exact hlt)
        rw [marks_get k0 n k hlt] at hck
        clear hc
        go_wp2
        go_round
        case rel => exact ⟨k + 1, by omega, by go_num, by go_num⟩
        case measure => simp [intOf]; omega
    · obtain rfl : k = n := by omega
      go_wp2
      go_ret
      exact ⟨rfl, rfl⟩

set_option maxHeartbeats 800000 in
theorem alike (l : List Int) (a b : Option Addr) (ca cb : Nat) (w : World) (hn : l.length ≤ 1048576) (ha : Rd w a l) (hb : Rd w b l) :
    Calls Tryz.prog 10 #[.slice a l.length ca, .slice b l.length cb] w fun e w' => e = .returned (.bool true) ∧ ∃ n, w' = w.drewN n := by
  go_enter Tryz.func10, Tryz.ntmps10
  go_wp2
  go_loopw [5] (fun i wr => ∃ k n : Nat, k ≤ l.length ∧ i = .int .i64 k ∧ wr = w.drewN n) (fun i _ => l.length - (intOf i).toNat)
  case atStart => exact ⟨0, 0, by omega, rfl, rfl⟩
  case round =>
    obtain ⟨k, n, hkn, rfl, rfl⟩ := hrel
    by_cases hlt : k < l.length
    · rcases ha with h | ⟨g, rfl, hc⟩
      · exfalso; rw [h] at hlt; simp at hlt
      · rcases hb with h | ⟨g', rfl, hc'⟩
        · exfalso; rw [h] at hlt; simp at hlt
        · have h1 := hc k hlt
          have h2 := hc' k hlt
          clear hc hc'
          generalize l.getD k 0 = x at h1 h2
          go_wp2_with fail
          go_quiet (fail)
          go_wp2
          go_roundw
          case rel => exact ⟨k + 1, _, by omega, by go_num, rfl⟩
          case measure => simp [intOf]; omega
    · go_wp2
      go_ret
      exact ⟨rfl, n, rfl⟩

/-- marked up to k -/
def part (k0 : Int) (l : List Int) (k : Nat) : List Int := marks k0 k ++ l.drop k
theorem part_length (k0 : Int) (l : List Int) (k : Nat) (h : k ≤ l.length) : (part k0 l k).length = l.length := by simp [part, marks_length]; omega
theorem part_zero (k0 : Int) (l : List Int) : part k0 l 0 = l := by simp [part, marks]
theorem part_all (k0 : Int) (l : List Int) : part k0 l l.length = marks k0 l.length := by simp [part]
theorem part_get (k0 : Int) (l : List Int) (k : Nat) (h : k < l.length) : (part k0 l k)[k]? = some (l.getD k 0) := by
  unfold part
  rw [List.getElem?_append_right (by rw [marks_length]; omega), marks_length]
  simp [h]
theorem marks_succ (k0 : Int) (k : Nat) : marks k0 (k + 1) = marks k0 k ++ [k0 + (k : Int)] := by simp [marks, List.range_succ]
theorem part_set (k0 : Int) (l : List Int) (k : Nat) (h : k < l.length) : (part k0 l k).set k (k0 + (k : Int)) = part k0 l (k + 1) := by
  unfold part
  rw [List.set_append, if_neg (by rw [marks_length]; omega), marks_length, Nat.sub_self, List.drop_eq_getElem_cons h, List.set_cons_zero, marks_succ, List.append_assoc]
  rfl

theorem stored {B g cap n : Nat} {k0 : Int} {l : List Int} {k : Nat} {w wr : World} (hk : k < l.length) (hg : B ≤ g)
    (hown : wr.ownsRow B 2 1 (.slice (some ⟨g, 0, none⟩) n cap) n ((part k0 l k).map (Value.int .i64))) (hb : Below B w wr) :
    (wr.setCell ⟨g, k, none⟩ (.int .i64 (k0 + (k : Int)))).ownsRow B 2 1 (.slice (some ⟨g, 0, none⟩) n cap) n ((part k0 l (k + 1)).map (Value.int .i64)) ∧ Below B w (wr.setCell ⟨g, k, none⟩ (.int .i64 (k0 + (k : Int)))) := by
  refine ⟨?_, hb.setCell hg _⟩
  have := (World.ownsRow.stored hown k (.int .i64 (k0 + (k : Int)))).1
  rw [← List.map_set, part_set k0 l k hk] at this
  exact this

set_option maxHeartbeats 800000 in
theorem mark (k0 : Int) (l : List Int) (ao : Option Addr) (cap B : Nat) (w : World) (hk : 0 ≤ k0) (hk' : k0 ≤ 1048576) (hn : l.length ≤ 1048576) (h : Own B w ao cap l) :
    Calls Tryz.prog 13 #[.slice ao l.length cap, .int .i64 k0] w fun e w' => e = .returned (.int .i64 (k0 + (l.length : Int))) ∧ Own B w' ao cap (marks k0 l.length) ∧ Below B w w' := by
  by_cases hl : l = []
  · subst hl
    go_enter Tryz.func13, Tryz.ntmps13
    go_wp2
    refine wp_loop_rounds 1 ?_
    rw [rounds_succ]
    go_wp2
    go_ret
    exact ⟨by simp, h, Below.refl _ _⟩
  · obtain ⟨g, rfl, hg, _⟩ := own_block h hl
    obtain ⟨n, hnl⟩ : ∃ n, n = l.length := ⟨_, rfl⟩
    have HN : Hid (n = l.length) := hnl
    have hn' : n ≤ 1048576 := by omega
    rw [← hnl]
    have h0 : w.ownsRow B 2 1 (.slice (some ⟨g, 0, none⟩) n cap) n ((part k0 l 0).map (Value.int .i64)) := by
      rw [part_zero, hnl]; exact h
    clear hnl h hn
    go_enter Tryz.func13, Tryz.ntmps13
    go_wp2
    go_loopw [1, 5] (fun q i wr => ∃ k : Nat, k ≤ n ∧ i = .int .i64 k ∧ q = .int .i64 (k0 + (k : Int)) ∧ wr.ownsRow B 2 1 (.slice (some ⟨g, 0, none⟩) n cap) n ((part k0 l k).map (Value.int .i64)) ∧ Below B w wr) (fun _ i _ => n - (intOf i).toNat)
    case atStart => exact ⟨0, by omega, rfl, by simp, h0, Below.refl _ _⟩
    case round =>
      obtain ⟨k, hkn, rfl, rfl, hown, hb⟩ := hrel
      by_cases hlt : k < n
      · have hkl : k < l.length := by rw [← HN.out]; exact hlt
        have hc := World.ownsRow.cellAt hown k (by omega)
        rw [List.getElem?_map, part_get k0 l k hkl] at hc
        simp only [Option.map_some] at hc
        have hf := World.ownsRow.frozenAt hown k
        have R := stored hkl hg hown hb
        have HR : Hid _ := R
        clear R hown
        go_wp2
        go_roundw
        case rel => exact ⟨k + 1, by omega, by go_num, by go_num, HR.out.1, HR.out.2⟩
        case measure => simp [intOf]; omega
      · obtain rfl : k = n := by omega
        go_wp2
        go_ret
        refine ⟨rfl, ?_, hb⟩
        have e : part k0 l k = marks k0 k := by rw [HN.out]; exact part_all k0 l
        rw [e] at hown
        unfold Own
        rw [marks_length]
        exact hown

end Lsx
end Go.Proofs.YtodgkhlnefggdaaGreat
