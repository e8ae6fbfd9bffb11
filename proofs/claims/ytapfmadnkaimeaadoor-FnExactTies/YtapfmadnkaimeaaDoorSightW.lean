/-
  What the program's own walk back along the threads does (an iterator over a lace in memory, whatever the loop's body is that keeps the lace), in the words of SightV; for laces.
-/
import Derived.RangeFuncNested
import Derived.RangeFuncBound
import Derived.RangeFuncCalls
import Derived.RangeFuncLeaves
import Derived.Shelf.Abstract
import Derived.Shelf.RegionOpen
import Derived.WalkKit
import Derived.OwnWalkIn
import Derived.TacticsInMore
import Derived.LoopNIn
import Derived.LoopIn
import Derived.Test.YtapfmadnkaimeaaDoorSightV
import Derived.Test.YtapfmadnkaimeaaDoorLaceF
namespace Go.Proofs.YtapfmadnkaimeaaDoor
open Go.RowKit
set_option maxRecDepth 100000
attribute [local go_sem] Oper.semAt_some
namespace Sg
open Kn (K okK)
open Bit (bit withB)
open Lc (at' RdK CellsK)

/-- what a round keeps: whatever lay below n₀, and the walk's own box for the lace -/
def KpL (n₀ Bl : Nat) (W W' : World) : Prop := Below n₀ W W' ∧ W'.heap[Bl]? = W.heap[Bl]?
theorem kpL_t {n₀ Bl : Nat} {A B C : World} (h : KpL n₀ Bl A B) (k : KpL n₀ Bl B C) : KpL n₀ Bl A C := ⟨h.1.trans k.1, k.2.trans h.2⟩
theorem kpL_b {n₀ Bl : Nat} {w : World} (hn : n₀ ≤ w.heap.size) (hB : Bl < w.heap.size) (W : World) (l : Nat) (o o' : Obj) (hl : w.heap.size ≤ l) (h : W.heap[l]? = some o) (h1 : o.isCells = false) (h2 : o.isWalk = false) : KpL n₀ Bl W (W.putObj l o') :=
  ⟨belowK_b hn W l o o' hl h h1 h2, World.putObj_heap_other (by omega)⟩
theorem kpL_refl (n₀ Bl : Nat) (W : World) : KpL n₀ Bl W W := ⟨Below.refl _ _, rfl⟩
theorem kpL_put {n₀ Bl : Nat} (W : World) (b : Nat) (hb : n₀ ≤ b) (hB : Bl ≠ b) (u : Value) : KpL n₀ Bl W (W.setCell ⟨b, 0, none⟩ u) :=
  ⟨(Below.refl n₀ W).setCell (p := ⟨b, 0, none⟩) hb u, Below.heap_setCell W ⟨b, 0, none⟩ u Bl hB⟩

theorem cellsK_at {n₀ : Nat} {w w' : World} {g o : Nat} {k : K} (h : CellsK w g o k) (hb : Below n₀ w w') (hg : g < n₀) : CellsK w' g o k where
  c0 := (hb.cell (p := ⟨g, o, none⟩) hg).trans h.c0
  c1 := (hb.cell (p := ⟨g, o + 1, none⟩) hg).trans h.c1
  c2 := (hb.cell (p := ⟨g, o + 2, none⟩) hg).trans h.c2
  c3 := (hb.cell (p := ⟨g, o + 3, none⟩) hg).trans h.c3

theorem cell_block {w w' : World} {b : Nat} (h : w'.heap[b]? = w.heap[b]?) : w'.cell? ⟨b, 0, none⟩ = w.cell? ⟨b, 0, none⟩ := World.cell?_of_block (w := w) h

set_option maxHeartbeats 2000000 in
theorem under1 (n : Nat) (hn : 1 ≤ n) (l Bs Bl n₀ g off cap : Nat) (L : List K) (hlc : Lc.laceB L = true) (s : Int) (h0 : 0 ≤ s) (h1 : s < 1152921504606846976) (hg : g < n₀) (J Jx : List (Fin L.length) → World → Prop)
    (hY : ∀ pre x W, J pre W → pre.length < L.length → YieldAt Fence.wide (n - 1) Tryd.prog l #[.int .i64 (x.val : Int)] W fun e W' =>
      (e = .returned (.bool true) ∧ J (pre ++ [x]) W' ∧ KpL n₀ Bl W W') ∨ (e = .returned (.bool false) ∧ Jx (pre ++ [x]) W'))
    (W : World) (hBs : W.cell? ⟨Bs, 0, none⟩ = some (.int .i64 s)) (hBl : W.cell? ⟨Bl, 0, none⟩ = some (.slice (some ⟨g, off, none⟩) L.length cap)) (hr : RdK W (some ⟨g, off, none⟩) L) (hJ0 : J [] W) :
    CallsIn Fence.wide n Tryd.prog 113 #[.func (.yield l) #[] #[], .pointer (some ⟨Bs, 0, none⟩), .pointer (some ⟨Bl, 0, none⟩)] W fun e W' => (∃ v, e = .returned v) ∧
      ((∃ ys, ys = vis L s ∧ J ys W') ∨ (∃ pre, pre <+: vis L s ∧ Jx pre W')) := by
  have h60 := ((Lc.lace_iff L).1 hlc).1
  refine callsIn_of_wp Tryd.func113 rfl trivial ?_ rfl
  simp only [Tryd.ntmps113, List.size_toArray, List.length_cons, List.length_nil, Nat.reduceAdd, Nat.reduceSub, Array.replicate_succ, Array.replicate_zero, List.push_toArray, List.append_toArray, List.nil_append, List.cons_append]
  gi_wp2
  gi_loopw [4, 5] (fun r i wr => ∃ (m : Nat) (hm : m ≤ L.length) (ri x : Int) (pre : List (Fin L.length)), i = .int .i64 x ∧ x = (m : Int) - 1 ∧ r = .int .i64 ri ∧ Hid (pre ++ visF L m hm ri = vis L s) ∧ Hid (Inv L s m ri) ∧ Hid (J pre wr) ∧ Hid (KpL n₀ Bl W wr))
    (fun _ i _ => (intOf i + 1).toNat)
  case atStart => exact ⟨L.length, Nat.le_refl _, s, _, [], rfl, by first | omega | go_num, rfl, rfl, inv_start L s h0 h1, hJ0, kpL_refl _ _ _⟩
  case round =>
    obtain ⟨m, hm, ri, x, pre, rfl, hx, rfl, HV, HI, HJ, HK⟩ := hrel
    cases m with
    | zero =>
      obtain rfl : x = -1 := by omega
      clear hx
      gi_wp2
      go_end0
      exact ⟨⟨_, rfl⟩, .inl ⟨pre, by have := HV.out; rw [← this]; exact (List.append_nil _).symm, HJ.out⟩⟩
    | succ m =>
      obtain rfl : x = (m : Int) := by omega
      clear hx
      have hml : m < L.length := hm
      have hin : Base.inB (m : Int) = true := (Base.inB_iff _).2 ⟨by omega, by omega⟩
      have hok : Base.okB ri = true := (Base.okB_iff _).2 ⟨HI.out.lo, HI.out.hi⟩
      cases hb : bit ri m
      · have HH : Hid ((Base.okB ri && (Base.inB (m : Int) && bit ri m)) = false) := by show _ = _; simp [hb]
        have HV2 : Hid (pre ++ visF L m (Nat.le_of_succ_le hm) ri = vis L s) := by show _ = _; rw [← visF_no L m hm ri hb]; exact HV.out
        have HI2 : Hid (Inv L s m ri) := inv_skip HI.out hb
        clear hb HV HI hin hok
        gi_wp2_with (first | (gi_at_call 62; refine (callsIn_wide.2 (Base.has _ _ _)).mono ?_; rintro e w' ⟨rfl, rfl⟩; rw [Int.toNat_natCast, HH.out]) | (refine ⟨trivial, ?_⟩; gi_at_call 62; refine (callsIn_wide.2 (Base.has _ _ _)).mono ?_; rintro e w' ⟨rfl, rfl⟩; rw [Int.toNat_natCast, HH.out]))
        go_roundw
        case rel => exact ⟨m, Nat.le_of_succ_le hm, ri, _, pre, by go_num, rfl, rfl, HV2, HI2, HJ, HK⟩
        case measure => simp [intOf]
      · have HH : Hid ((Base.okB ri && (Base.inB (m : Int) && bit ri m)) = true) := by show _ = _; simp [hb, hin, hok]
        have HV2 : Hid ((pre ++ [⟨m, hm⟩]) ++ visF L m (Nat.le_of_succ_le hm) (orB ri (at' L m).frm) = vis L s) := by
          show _ = _
          rw [List.append_assoc, List.singleton_append, ← visF_yes L m hm ri hb]; exact HV.out
        have HI2 : Hid (Inv L s m (orB ri (at' L m).frm)) := inv_take hlc hml HI.out hb
        have hfr := frm_lace hlc _ (Lc.at_mem L m hml)
        have HOr : Hid (bits .or .i64 ri (at' L m).frm = orB ri (at' L m).frm) := or_eq _ _ HI.out.lo HI.out.hi hfr.1 hfr.2
        have hlen : pre.length < L.length := by
          have h1 := congrArg List.length HV2.out
          have h2 := vis_len L s
          simp at h1; omega
        obtain ⟨fn, tmps, assign, body, hy, hR⟩ := hY pre ⟨m, hm⟩ wr HJ.out hlen
        dsimp only at hy
        have HC : Hid (∀ W3, KpL n₀ Bl wr W3 → W3.cell? ⟨Bl, 0, none⟩ = some (.slice (some ⟨g, off, none⟩) L.length cap) ∧ W3.cell? ⟨g, off + m * 4 + 2, none⟩ = some (.int .i64 (at' L m).frm)) := by
          intro W3 hk3
          have hkk := kpL_t HK.out hk3
          obtain ⟨_, hc⟩ := hr.on m hml
          exact ⟨(cell_block hkk.2).trans hBl, (cellsK_at hc hkk.1 hg).c2⟩
        clear hb HV HI hin hok hfr hlen
        gi_wp2_with (first | (gi_at_call 62; refine (callsIn_wide.2 (Base.has _ _ _)).mono ?_; rintro e w' ⟨rfl, rfl⟩; rw [Int.toNat_natCast, HH.out]) | (refine ⟨trivial, ?_⟩; gi_at_call 62; refine (callsIn_wide.2 (Base.has _ _ _)).mono ?_; rintro e w' ⟨rfl, rfl⟩; rw [Int.toNat_natCast, HH.out]))
        refine hR.mono ?_
        rintro e W3 (⟨rfl, hJ3, hk3⟩ | ⟨rfl, hJx3⟩)
        · obtain ⟨cl, cf⟩ := HC.out W3 hk3
          have HK3 : Hid (KpL n₀ Bl W W3) := kpL_t HK.out hk3
          have HJ3 : Hid (J (pre ++ [⟨m, hm⟩]) W3) := hJ3
          clear hk3 hJ3 hR hy HC HK HJ
          gi_wp2
          go_roundw
          case rel => exact ⟨m, Nat.le_of_succ_le hm, _, _, _, by go_num, rfl, by rw [HOr.out], HV2, HI2, HJ3, HK3⟩
          case measure => simp [intOf]
        · gi_wp2
          refine bodyPost_ret (results_none rfl _ _ _) rfl ?_
          exact ⟨⟨_, rfl⟩, .inr ⟨pre ++ [⟨m, hm⟩], ⟨_, HV2.out⟩, hJx3⟩⟩

end Sg
end Go.Proofs.YtapfmadnkaimeaaDoor
