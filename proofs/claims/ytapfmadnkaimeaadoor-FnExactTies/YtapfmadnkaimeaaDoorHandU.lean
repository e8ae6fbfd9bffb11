/-
  What the model's Forgets and NextRound answer; for lists of knots whose words have at most 2^40 bytes.
-/
import Derived.Test.YtapfmadnkaimeaaDoorHandT
namespace Go.Proofs.YtapfmadnkaimeaaDoor
open Go.RowKit
set_option maxRecDepth 100000
set_option linter.unusedVariables false
namespace Rm
open Kn (K okK)
open Bit (bit withB)
open Lc (at' RdK laceB WordsOk)
open Sg (bel belows closedTo orB)

/-- the document's NextRound -/
def nextRI (L : List K) (h : Hd) : Int := if handOkB L h then nextI L h.has h.last else -1
theorem hok_last {L : List K} {h : Hd} (x : hokB L h = true) : h.last < (L.length : Int) := by
  unfold hokB at x
  simp only [Bool.and_eq_true, beq_iff_eq] at x
  have := lastTo_bd L h.who h.kept L.length
  rw [← x.2.2.2.2.2.2.2.2] at this
  exact this.2

set_option maxHeartbeats 1600000 in
theorem specNextRound (g off cap : Nat) (L : List K) (h : Hd) (w : World) (hcap : L.length ≤ cap) (hw : WordsOk L) (hr : RdK w (some ⟨g, off, none⟩) L) (hk : H64 h) :
    Calls Tryd.prog 17 #[.slice (some ⟨g, off, none⟩) L.length cap, .agg #[.int .i64 h.who, .int .i64 h.has, .int .i64 h.kept, .int .i64 h.last]] w fun e w' => e = .returned (.int .i64 (nextRI L h)) ∧ Below w.heap.size w w' := by
  have P0 : Hid (Below w.heap.size w (w.alloc (.cells #[.int .i64 h.who, .int .i64 h.has, .int .i64 h.kept, .int .i64 h.last] 26)) ∧ HAt (w.alloc (.cells #[.int .i64 h.who, .int .i64 h.has, .int .i64 h.kept, .int .i64 h.last] 26)) w.heap.size 0 h) := ⟨(Below.refl _ _).alloc (Nat.le_refl _) _, hat_new w h _⟩
  have HR : Hid (RdK w (some ⟨g, off, none⟩) L) := hr
  clear hr
  go_enter Tryd.func17, Tryd.ntmps17
  go_upto_region 1 with fail
  generalize w.alloc (.cells #[.int .i64 h.who, .int .i64 h.has, .int .i64 h.kept, .int .i64 h.last] 26) = V at P0 ⊢
  obtain ⟨a0, a1, a2, a3⟩ := cellsH P0.out.2
  have hho := specHandOk g off cap L h V hcap hw (HR.out.below P0.out.1) hk
  go_wp2_with fail
  refine hho.mono ?_
  rintro e w1 ⟨rfl, hb1⟩
  have P1 : Hid (Below w.heap.size w w1 ∧ HAt w1 w.heap.size 0 h) := ⟨P0.out.1.trans (hb1.mono P0.out.1.size), hat_below P0.out.2 hb1⟩
  clear P0 hho hb1 a0 a1 a2 a3
  cases ho : handOkB L h
  · have HT : Hid (nextRI L h = -1) := by show _ = _; unfold nextRI; rw [ho]; rfl
    clear ho
    go_wp2
    go_ret
    exact ⟨by rw [HT.out]; rfl, P1.out.1⟩
  · have hpt := ho
    unfold handOkB at hpt
    rw [Bool.and_eq_true] at hpt
    obtain ⟨hl, hok⟩ := hpt
    have hbd := hok_parts hk hl hok
    have h60 := ((Lc.lace_iff L).1 hl).1
    have HT : Hid (nextRI L h = nextI L h.has h.last) := by show _ = _; unfold nextRI; rw [if_pos ho]
    have hnx := l14Next (some ⟨g, off, none⟩) cap L h.who h.has h.kept h.last w1 h60 (Lc.lace_hands hl) (HR.out.below P1.out.1) hbd.1 hbd.2.1 (hok_last hok)
    obtain ⟨a0, a1, a2, a3⟩ := cellsH P1.out.2
    generalize nextI L h.has h.last = nr at HT hnx
    clear ho hok
    go_wp2_with fail
    refine hnx.mono ?_
    rintro e w2 ⟨rfl, hb2⟩
    have B2 : Below w.heap.size w w2 := P1.out.1.trans (hb2.mono P1.out.1.size)
    clear hnx hb2
    go_wp2
    go_ret
    exact ⟨by rw [HT.out]; rfl, B2⟩

end Rm
end Go.Proofs.YtapfmadnkaimeaaDoor
