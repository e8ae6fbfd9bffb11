/-
  What the small functions of the exact statements that compare, mark and ask texts answer.
-/
import Derived.Test.YtodgkhlnefggdaaWordS
import Derived.Test.YtodgkhlnefggdaaTieA
import Derived.Test.YtodgkhlnefggdaaFam
namespace Go.Proofs.Ytodgkhlnefggdaa
open Go.RowKit
set_option maxRecDepth 100000
set_option linter.unusedVariables false
namespace Tx
open Lc (markS)

theorem own_grown {B q : Nat} {w w' : World} {ao : Option Addr} {cap : Nat} {l : List ByteArray} (h : OwnT B w ao cap l) (hg : w.grownBy w' (some q)) (hne : ∀ g, ao = some ⟨g, 0, none⟩ → g ≠ q) : OwnT B w' ao cap l := by
  have hlt := World.ownsRow.lt h
  unfold OwnT at *
  obtain ⟨h1, h2⟩ := h
  refine ⟨h1, ?_⟩
  rcases h2 with h2 | ⟨g, cap', cur, hv, hB, hc, rest⟩
  · exact .inl h2
  · refine .inr ⟨g, cap', cur, hv, hB, ?_, rest⟩
    simp only [Value.slice.injEq] at hv
    obtain ⟨rfl, _, _⟩ := hv
    rw [hg.block g (hlt g rfl).2 (fun e => hne g rfl (by cases e; rfl))]; exact hc
theorem own_far {B : Nat} {w : World} {ao : Option Addr} {cap : Nat} {l : List ByteArray} (h : OwnT B w ao cap l) : ∀ g, ao = some ⟨g, 0, none⟩ → B ≤ g ∧ g < w.heap.size := fun g e => by
  subst e; exact World.ownsRow.lt h g rfl
/-- what lies lower than all that may have changed -/
theorem own_low {B n : Nat} {w w' : World} {ao : Option Addr} {cap : Nat} {l : List ByteArray} (h : OwnT B w ao cap l) (hf : ∀ g, ao = some ⟨g, 0, none⟩ → g < n) (hb : Below n w w') : OwnT B w' ao cap l := by
  have hlt := World.ownsRow.lt h
  unfold OwnT at *
  obtain ⟨h1, h2⟩ := h
  refine ⟨h1, ?_⟩
  rcases h2 with h2 | ⟨g, cap', cur, hv, hB, hc, rest⟩
  · exact .inl h2
  · refine .inr ⟨g, cap', cur, hv, hB, ?_, rest⟩
    simp only [Value.slice.injEq] at hv
    obtain ⟨rfl, _, _⟩ := hv
    rw [hb.block g (hf g rfl)]; exact hc
theorem own_base {B B' : Nat} {w : World} {ao : Option Addr} {cap : Nat} {l : List ByteArray} (h : OwnT B w ao cap l) (hB : B' ≤ B) : OwnT B' w ao cap l := by
  obtain ⟨h1, h2 | ⟨g, cp, cur, e, hg, r⟩⟩ := h
  · exact ⟨h1, .inl h2⟩
  · exact ⟨h1, .inr ⟨g, cp, cur, e, Nat.le_trans hB hg, r⟩⟩

/-- marks -/
def marksT (n : Nat) : List ByteArray := (List.range n).map fun i => markS (1 + i)
theorem marksT_len (n : Nat) : (marksT n).length = n := by simp [marksT]
theorem marksT_get (n i : Nat) (h : i < n) : (marksT n).getD i ⟨#[]⟩ = markS (1 + i) := by simp [marksT, List.getD, h]
/-- marked so far -/
def mixT (S : List ByteArray) (j : Nat) : List ByteArray := marksT j ++ S.drop j
theorem mixT_zero (S : List ByteArray) : mixT S 0 = S := by simp [mixT, marksT]
theorem mixT_len (S : List ByteArray) (j : Nat) (h : j ≤ S.length) : (mixT S j).length = S.length := by simp [mixT, marksT_len]; omega
theorem mixT_step (S : List ByteArray) (j : Nat) (h : j < S.length) : (mixT S j).set j (markS (1 + j)) = mixT S (j + 1) := by
  unfold mixT
  rw [List.set_append_right _ _ (by rw [marksT_len]; exact Nat.le_refl _), marksT_len, Nat.sub_self]
  have e : S.drop j = S[j] :: S.drop (j + 1) := List.drop_eq_getElem_cons h
  rw [e, List.set_cons_zero]
  have e2 : marksT (j + 1) = marksT j ++ [markS (1 + j)] := by unfold marksT; rw [List.range_succ, List.map_append]; rfl
  rw [e2, List.append_assoc]; rfl
theorem mixT_end (S : List ByteArray) : mixT S S.length = marksT S.length := by simp [mixT]

set_option maxHeartbeats 1600000 in
theorem eqT (S : List ByteArray) (a b : Option Addr) (ca cb : Nat) (w : World) (hn : S.length ≤ 1048576) (ha : RdT w a S) (hb : RdT w b S) :
    Calls Try.prog 13 #[.slice a S.length ca, .slice b S.length cb] w fun e w' => e = .returned (.bool true) ∧ Below w.heap.size w w' := by
  go_enter Try.func13, Try.ntmps13
  go_wp2
  go_loopw [5] (fun i wr => ∃ k n : Nat, k ≤ S.length ∧ i = .int .i64 k ∧ wr = w.drewN n) (fun i _ => S.length - (intOf i).toNat)
  case atStart => exact ⟨0, 0, by omega, rfl, rfl⟩
  case round =>
    obtain ⟨k, n, hk, rfl, rfl⟩ := hrel
    by_cases hlt : k < S.length
    · have hlti : (k : Int) < (S.length : Int) := by omega
      rcases ha with ha | ⟨ga, rfl, _, hca⟩
      · rw [ha] at hlt; simp at hlt
      rcases hb with hb | ⟨gb, rfl, _, hcb⟩
      · rw [hb] at hlt; simp at hlt
      have c1 := hca k hlt
      have c2 := hcb k hlt
      clear hca hcb
      generalize S.getD k ⟨#[]⟩ = x at c1 c2
      go_wp2_with fail
      go_quiet (fail)
      go_wp2
      go_roundw
      case rel => exact ⟨k + 1, _, by omega, by go_num, rfl⟩
      case measure => simp [intOf]; omega
    · obtain rfl : k = S.length := by omega
      have hlti : ¬ (S.length : Int) < (S.length : Int) := by omega
      go_wp2
      go_ret
      exact ⟨rfl, ⟨rfl, rfl, rfl, Nat.le_refl _, fun _ _ => rfl⟩⟩

set_option maxHeartbeats 1600000 in
theorem markT (B : Nat) (S : List ByteArray) (ao : Option Addr) (cap : Nat) (w : World) (hn : S.length ≤ 1048576) (hB : B ≤ w.heap.size) (h : OwnT B w ao cap S) :
    Calls Try.prog 17 #[.slice ao S.length cap, .int .i64 1] w fun e w' => e = .returned (.int .i64 (1 + (S.length : Int))) ∧ OwnT B w' ao cap (marksT S.length) ∧ Below B w w' := by
  have HO0 : Hid (w.ownsRow B 9 1 (.slice ao S.length cap) S.length ((mixT S 0).map Value.string)) := by show World.ownsRow _ _ _ _ _ _ _; rw [mixT_zero]; exact h
  clear h
  go_enter Try.func17, Try.ntmps17
  go_wp2
  go_loopw [1, 5] (fun k i wr => ∃ j : Nat, j ≤ S.length ∧ i = .int .i64 j ∧ k = .int .i64 (1 + (j : Int)) ∧ Hid (wr.ownsRow B 9 1 (.slice ao S.length cap) S.length ((mixT S j).map Value.string)) ∧ Hid (Below B w wr)) (fun _ i _ => S.length - (intOf i).toNat)
  case atStart => exact ⟨0, by omega, rfl, rfl, HO0, Below.refl _ _⟩
  case round =>
    obtain ⟨j, hj, rfl, rfl, HO, HB⟩ := hrel
    clear HO0
    by_cases hlt : j < S.length
    · have hlti : (j : Int) < (S.length : Int) := by omega
      have hk1 : ((1 + j : Nat) : Int) = 1 + (j : Int) := by omega
      have hmt := Lc.markText (1 + j) (by omega) (by omega) wr
      rw [hk1] at hmt
      have HST : Hid ((mixT S j).set j (markS (1 + j)) = mixT S (j + 1)) := mixT_step S j hlt
      obtain ⟨g, rfl⟩ : ∃ g, ao = some ⟨g, 0, none⟩ := by
        obtain ⟨_, ⟨hv, hn⟩ | ⟨g, cap', cur, hv, _⟩⟩ := HO.out
        · omega
        · injection hv with hv _ _; exact ⟨g, hv⟩
      have hwr : IntKind.i64.wrap (1 + (j : Int) + 1) = 1 + ((j + 1 : Nat) : Int) := by rw [IntKind.wrap_i64]; omega
      go_wp2_with fail
      refine hmt.mono ?_
      rintro e w1 ⟨rfl, hb1⟩
      have own1 : w1.ownsRow B 9 1 (.slice (some ⟨g, 0, none⟩) S.length cap) S.length ((mixT S j).map Value.string) := by
        obtain ⟨h1, h2⟩ := HO.out
        refine ⟨h1, ?_⟩
        rcases h2 with h2 | ⟨g2, cap', cur, hv, hB2, hg, rest⟩
        · exact .inl h2
        · refine .inr ⟨g2, cap', cur, hv, hB2, ?_, rest⟩
          rw [hb1.block g2 (World.ownsRow.lt HO.out g2 (by rw [hv]; rfl)).2]
          exact hg
      have hst := World.ownsRow.stored own1 j (.string (markS (1 + j)))
      have HO2 : Hid ((w1.setCell ⟨g, j, none⟩ (.string (markS (1 + j)))).ownsRow B 9 1 (.slice (some ⟨g, 0, none⟩) S.length cap) S.length ((mixT S (j + 1)).map Value.string)) := by
        show World.ownsRow _ _ _ _ _ _ _
        rw [← HST.out, List.map_set]
        exact hst.1
      have hgB := (World.ownsRow.lt own1 g rfl).1
      have HB2 : Hid (Below B w (w1.setCell ⟨g, j, none⟩ (.string (markS (1 + j))))) := (HB.out.trans (hb1.mono (by have := HB.out.size; omega))).setCell (p := ⟨g, j, none⟩) hgB _
      have fz := World.ownsRow.frozenAt own1 j
      obtain ⟨u, cu⟩ : ∃ u, w1.cell? ⟨g, j, none⟩ = some u := by
        have hl := mixT_len S j hj
        have := World.ownsRow.cells own1 (g := g) rfl j (.string ((mixT S j)[j]'(by omega))) (by simp [show j < (mixT S j).length by omega])
        by_cases hj0 : j = 0
        · subst hj0; exact ⟨_, by simpa [Addr.add] using this⟩
        · exact ⟨_, by simpa [Addr.add, hj0] using this⟩
      clear hmt hb1 own1 hst HST HO HB
      generalize markS (1 + j) = mk at HO2 HB2 ⊢
      go_wp2
      go_roundw
      case rel => exact ⟨j + 1, by omega, by go_num, by first | rfl | rw [hwr] | (congr 1; omega), HO2, HB2⟩
      case measure => simp [intOf]; omega
    · obtain rfl : j = S.length := by omega
      have hlti : ¬ (S.length : Int) < (S.length : Int) := by omega
      have HT : Hid (OwnT B wr ao cap (marksT S.length)) := by
        show OwnT _ _ _ _ _
        unfold OwnT
        rw [marksT_len, ← mixT_end]
        exact HO.out
      clear HO
      go_wp2
      go_ret
      exact ⟨rfl, HT.out, HB.out⟩

set_option maxHeartbeats 1600000 in
theorem heldT (n : Nat) (ao : Option Addr) (cap : Nat) (w : World) (hn : n ≤ 1048576) (h : RdT w ao (marksT n)) :
    Calls Try.prog 18 #[.slice ao n cap, .int .i64 1] w fun e w' => e = .returned (.int .i64 (1 + (n : Int))) ∧ Below w.heap.size w w' := by
  go_enter Try.func18, Try.ntmps18
  go_wp2
  go_loopw [1, 5] (fun k i wr => ∃ j : Nat, j ≤ n ∧ i = .int .i64 j ∧ k = .int .i64 (1 + (j : Int)) ∧ Hid (Below w.heap.size w wr)) (fun _ i _ => n - (intOf i).toNat)
  case atStart => exact ⟨0, by omega, rfl, rfl, Below.refl _ _⟩
  case round =>
    obtain ⟨j, hj, rfl, rfl, HB⟩ := hrel
    by_cases hlt : j < n
    · have hlti : (j : Int) < (n : Int) := by omega
      rcases h with h | ⟨g, rfl, hg, hc⟩
      · have := congrArg List.length h; rw [marksT_len] at this; simp at this; omega
      have cj := (HB.out.cell (p := ⟨g, j, none⟩) hg).trans (hc j (by rw [marksT_len]; exact hlt))
      rw [marksT_get n j hlt] at cj
      have hgr : g < wr.heap.size := Nat.lt_of_lt_of_le hg HB.out.size
      have hk1 : ((1 + j : Nat) : Int) = 1 + (j : Int) := by omega
      have HMT : Hid (∀ W : World, Below wr.heap.size wr W → Calls Try.prog 27 #[.int .i64 (1 + (j : Int))] W fun e w' => e = .returned (.string (markS (1 + j))) ∧ Below wr.heap.size wr w') := fun W hW => by
        have := Lc.markText (1 + j) (by omega) (by omega) W
        rw [hk1] at this
        exact this.mono fun _ _ q => ⟨q.1, hW.trans (q.2.mono hW.size)⟩
      clear hc
      generalize markS (1 + j) = mk at cj HMT
      go_wp2_with fail
      obtain ⟨X, _, F, HF, HG⟩ := Fam.fam wr
      have hc1 : ∀ z, (F z).cell? ⟨g, j, none⟩ = some (.string mk) := fun z => ((HF.out z).cell (p := ⟨g, j, none⟩) hgr).trans cj
      clear cj
      refine Fam.region (F := F) (by kernel_rfl) (by kernel_rfl) (HG.out _ (Below.refl _ wr).drew) ?_
      repeat (go_big_quiet_step (first
        | (go_at_call 27; exact (HMT.out _ (HF.out _)).mono fun _ _ q => ⟨q.1, HG.out _ q.2⟩)))
      refine wpQuiet_nil ?_
      intro w2 hw2
      obtain ⟨z, rfl⟩ := hw2
      have HB2 : Hid (Below w.heap.size w (F z)) := HB.out.trans ((HF.out z).mono HB.out.size)
      clear HB
      go_wp2
      go_roundw
      case rel => exact ⟨j + 1, by omega, by go_num, by first | rfl | (congr 1; omega), HB2⟩
      case measure => simp [intOf]; omega
    · obtain rfl : j = n := by omega
      have hlti : ¬ (j : Int) < (j : Int) := by omega
      go_wp2
      go_ret
      exact ⟨rfl, HB.out⟩

end Tx
end Go.Proofs.Ytodgkhlnefggdaa
