/-
  What the model's Forgets and NextRound answer; for lists of knots whose words have at most 2^40 bytes.
-/
import Derived.Test.YtmhcbmcfhopiiaaDoorHandT
namespace Go.Proofs.YtmhcbmcfhopiiaaDoor
open Go.RowKit
set_option maxRecDepth 100000
set_option linter.unusedVariables false
namespace Rm
open Kn (K okK)
open Bit (bit withB)
open Lc (at' RdK laceB WordsOk)
open Sg (bel belows closedTo orB)

set_option maxHeartbeats 3200000 in
theorem specForgets (g off cap : Nat) (L : List K) (h : Hd) (w : World) (hcap : L.length ≤ cap) (hw : WordsOk L) (hr : RdK w (some ⟨g, off, none⟩) L) (hk : H64 h) :
    Calls Tryd.prog 21 #[.slice (some ⟨g, off, none⟩) L.length cap, .agg #[.int .i64 h.who, .int .i64 h.has, .int .i64 h.kept, .int .i64 h.last]] w fun e w' => e = .returned (.agg #[.int .i64 (forgotH L h).who, .int .i64 (forgotH L h).has, .int .i64 (forgotH L h).kept, .int .i64 (forgotH L h).last]) ∧ Below w.heap.size w w' := by
  have P0 : Hid (HzO w ((w.alloc (.cells #[.int .i64 h.who, .int .i64 h.has, .int .i64 h.kept, .int .i64 h.last] 29)).alloc (.cells #[.int .i64 0, .int .i64 0, .int .i64 0, .int .i64 0] 29)) h ⟨0, 0, 0, 0⟩) := hzo_new w h _
  have HR : Hid (RdK w (some ⟨g, off, none⟩) L) := hr
  clear hr
  go_enter Tryd.func21, Tryd.ntmps21
  go_upto_region 1 with fail
  generalize (w.alloc (.cells #[.int .i64 h.who, .int .i64 h.has, .int .i64 h.kept, .int .i64 h.last] 29)).alloc (.cells #[.int .i64 0, .int .i64 0, .int .i64 0, .int .i64 0] 29) = V at P0 ⊢
  obtain ⟨a0, a1, a2, a3⟩ := cellsH P0.out.hh
  have hho := specHandOk g off cap L h V hcap hw (HR.out.below P0.out.bel) hk
  go_wp2_with fail
  refine hho.mono ?_
  rintro e w1 ⟨rfl, hb1⟩
  have P1 : Hid (HzO w w1 h ⟨0, 0, 0, 0⟩) := P0.out.below hb1
  clear P0 hho hb1 a0 a1 a2 a3
  cases ho : handOkB L h
  · have HT : Hid (forgotH L h = ⟨0, 0, 0, 0⟩) := by show _ = _; unfold forgotH; rw [ho]; rfl
    obtain ⟨W, hW, b0, b1, b2, b3, hB⟩ := P1.out.put ⟨0, 0, 0, 0⟩
    have HW : Hid (W = _) := hW
    obtain ⟨z0, z1, z2, z3⟩ := cellsH P1.out.zz
    have f0 := P1.out.zz.f0
    have f1 := P1.out.zz.f1
    have f2 := P1.out.zz.f2
    have f3 := P1.out.zz.f3
    simp only [Nat.zero_add] at f1 f2 f3
    dsimp only at b0 b1 b2 b3 HW
    clear ho hW
    go_wp2
    rw [← HW.out]
    refine bodyPost_ret (v := .agg #[.int .i64 0, .int .i64 0, .int .i64 0, .int .i64 0]) (by simp [results, Tryd.f21, go_sem, b0, b1, b2, b3]) rfl ?_
    exact ⟨by rw [HT.out], hB⟩
  · have hpt := ho
    unfold handOkB at hpt
    rw [Bool.and_eq_true] at hpt
    obtain ⟨hl, hok⟩ := hpt
    have hbd := hok_parts hk hl hok
    have h60 := ((Lc.lace_iff L).1 hl).1
    have HTH : Hid (forgotH L h = ⟨h.who, h.kept, h.kept, h.last⟩) := by show _ = _; unfold forgotH; rw [if_pos ho]
    have P2 : Hid (HzO w (w1.setCell ⟨w.heap.size, 1, none⟩ (.int .i64 h.kept)) ⟨h.who, h.kept, h.kept, h.last⟩ ⟨0, 0, 0, 0⟩) := by
      have q := hat_has P1.out.hh h.kept
      rw [Nat.zero_add] at q
      exact ⟨P1.out.bel.setCell (p := ⟨w.heap.size, 1, none⟩) (Nat.le_refl _) _, q, hat_other P1.out.zz (by omega) _⟩
    obtain ⟨a0, a1, a2, a3⟩ := cellsH P1.out.hh
    have k1 := P1.out.hh.f1
    rw [Nat.zero_add] at k1
    clear ho hok
    go_upto_region 4 with fail
    generalize w1.setCell ⟨w.heap.size, 1, none⟩ (.int .i64 h.kept) = W4 at P2 ⊢
    clear P1 a0 a1 a2 a3 k1
    obtain ⟨W, hW, b0, b1, b2, b3, hB⟩ := P2.out.put ⟨h.who, h.kept, h.kept, h.last⟩
    have HW : Hid (W = _) := hW
    obtain ⟨c0, c1, c2, c3⟩ := cellsH P2.out.hh
    obtain ⟨z0, z1, z2, z3⟩ := cellsH P2.out.zz
    have f0 := P2.out.zz.f0
    have f1 := P2.out.zz.f1
    have f2 := P2.out.zz.f2
    have f3 := P2.out.zz.f3
    simp only [Nat.zero_add] at f1 f2 f3
    dsimp only at b0 b1 b2 b3 c0 c1 c2 c3 HW
    clear hW
    go_wp2
    rw [← HW.out]
    refine bodyPost_ret (v := .agg #[.int .i64 h.who, .int .i64 h.kept, .int .i64 h.kept, .int .i64 h.last]) (by simp [results, Tryd.f21, go_sem, b0, b1, b2, b3]) rfl ?_
    exact ⟨by rw [HTH.out], hB⟩

/-- the document's NextRound -/
def nextRI (L : List K) (h : Hd) : Int := if handOkB L h then nextI L h.has h.last else -1
theorem hok_last {L : List K} {h : Hd} (x : hokB L h = true) : h.last < (L.length : Int) := by
  unfold hokB at x
  simp only [Bool.and_eq_true, beq_iff_eq] at x
  have := lastTo_bd L h.who h.kept L.length
  rw [← x.2.2.2.2.2.2.2.2] at this
  exact this.2

end Rm
end Go.Proofs.YtmhcbmcfhopiiaaDoor
