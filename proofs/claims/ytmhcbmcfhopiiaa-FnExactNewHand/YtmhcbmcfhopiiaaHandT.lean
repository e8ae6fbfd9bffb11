/-
  What the model's HandOk, NewHand, Learns, LearnsAll, Keeps and Forgets answer; for lists of knots whose words have at most 2^40 bytes.
-/
import Derived.Test.YtmhcbmcfhopiiaaHandS
import Derived.Test.YtmhcbmcfhopiiaaFam
import Derived.Deep.RegionHeld3
namespace Go.Proofs.Ytmhcbmcfhopiiaa
open Go.RowKit
set_option maxRecDepth 100000
set_option linter.unusedVariables false
namespace Rm
open Kn (K okK)
open Bit (bit withB)
open Lc (at' RdK laceB WordsOk)
open Sg (bel belows closedTo orB)

theorem cellsH {w : World} {b : Nat} {h : Hd} (x : HAt w b 0 h) : w.cell? ⟨b, 0, none⟩ = some (.int .i64 h.who) ∧ w.cell? ⟨b, 1, none⟩ = some (.int .i64 h.has) ∧ w.cell? ⟨b, 2, none⟩ = some (.int .i64 h.kept) ∧ w.cell? ⟨b, 3, none⟩ = some (.int .i64 h.last) := by
  obtain ⟨_, a0, a1, a2, a3, _, _, _, _⟩ := x
  simp only [Nat.zero_add] at a1 a2 a3
  exact ⟨a0, a1, a2, a3⟩

/-- the document's NewHand -/
def newHandH (who : Int) : Hd := if Kn.in3 who then ⟨who, 0, 0, -1⟩ else ⟨0, 0, 0, 0⟩

set_option maxHeartbeats 800000 in
theorem specNewHand (who : Int) (w : World) : Calls Try.prog 4 #[.int .i64 who] w fun e w' => e = .returned (.tuple #[.agg #[.int .i64 (newHandH who).who, .int .i64 (newHandH who).has, .int .i64 (newHandH who).kept, .int .i64 (newHandH who).last], .bool (Kn.in3 who)]) ∧ Below w.heap.size w w' := by
  cases hq : Kn.in3 who
  · have HT : Hid (newHandH who = ⟨0, 0, 0, 0⟩) := by show _ = _; unfold newHandH; rw [hq]; rfl
    have HQ : Hid (Kn.in3 who = false) := hq
    clear hq
    go_enter Try.func4, Try.ntmps4
    go_wp2_with (go_at_call 7; refine (Kn.l1In3 _ _).mono ?_; rintro e w' ⟨rfl, rfl⟩; rw [HQ.out])
    refine bodyPost_ret (v := .tuple #[.agg #[.int .i64 0, .int .i64 0, .int .i64 0, .int .i64 0], .bool false]) (by simp [results, Try.f4, go_sem]) rfl ?_
    exact ⟨by rw [HT.out], (Below.refl _ _).alloc (Nat.le_refl _) _⟩
  · have HT : Hid (newHandH who = ⟨who, 0, 0, -1⟩) := by show _ = _; unfold newHandH; rw [hq]; rfl
    have HQ : Hid (Kn.in3 who = true) := hq
    clear hq
    go_enter Try.func4, Try.ntmps4
    go_wp2_with (go_at_call 7; refine (Kn.l1In3 _ _).mono ?_; rintro e w' ⟨rfl, rfl⟩; rw [HQ.out])
    refine bodyPost_ret (v := .tuple #[.agg #[.int .i64 who, .int .i64 0, .int .i64 0, .int .i64 (-1)], .bool true]) (by simp [results, Try.f4, go_sem]) rfl ?_
    exact ⟨by rw [HT.out], (Below.refl _ _).alloc (Nat.le_refl _) _⟩

/-- a hand and room for one, both of the call's own -/
structure HzO (w W : World) (h z : Hd) : Prop where
  bel : Below w.heap.size w W
  hh : HAt W w.heap.size 0 h
  zz : HAt W (w.heap.size + 1) 0 z
theorem hzo_new (w : World) (h : Hd) (t : TypeId) : HzO w ((w.alloc (.cells #[.int .i64 h.who, .int .i64 h.has, .int .i64 h.kept, .int .i64 h.last] t)).alloc (.cells #[.int .i64 0, .int .i64 0, .int .i64 0, .int .i64 0] t)) h ⟨0, 0, 0, 0⟩ where
  bel := ((Below.refl _ w).alloc (Nat.le_refl _) _).alloc (by simp) _
  hh := hat_below (hat_new w h t) ((Below.refl _ _).alloc (Nat.le_refl _) _)
  zz := by
    have := hat_new (w.alloc (.cells #[.int .i64 h.who, .int .i64 h.has, .int .i64 h.kept, .int .i64 h.last] t)) ⟨0, 0, 0, 0⟩ t
    rw [World.size_alloc] at this
    exact this
theorem HzO.below {w W V : World} {h z : Hd} (x : HzO w W h z) (hb : Below W.heap.size W V) : HzO w V h z := ⟨x.bel.trans (hb.mono x.bel.size), hat_below x.hh hb, hat_below x.zz hb⟩
/-- the answer is written -/
theorem HzO.put {w W : World} {h z : Hd} (x : HzO w W h z) (y : Hd) : ∃ V, V = ((((W.setCell ⟨w.heap.size + 1, 0, none⟩ (.int .i64 y.who)).setCell ⟨w.heap.size + 1, 1, none⟩ (.int .i64 y.has)).setCell ⟨w.heap.size + 1, 2, none⟩ (.int .i64 y.kept)).setCell ⟨w.heap.size + 1, 3, none⟩ (.int .i64 y.last)) ∧
    V.cell? ⟨w.heap.size + 1, 0, none⟩ = some (.int .i64 y.who) ∧ V.cell? ⟨w.heap.size + 1, 1, none⟩ = some (.int .i64 y.has) ∧ V.cell? ⟨w.heap.size + 1, 2, none⟩ = some (.int .i64 y.kept) ∧ V.cell? ⟨w.heap.size + 1, 3, none⟩ = some (.int .i64 y.last) ∧ Below w.heap.size w V := by
  have q := hput x.zz (.int .i64 y.who) (.int .i64 y.has) (.int .i64 y.kept) (.int .i64 y.last)
  refine ⟨_, rfl, q.1, q.2.1, q.2.2.1, q.2.2.2, ?_⟩
  exact (((x.bel.setCell (p := ⟨w.heap.size + 1, 0, none⟩) (by simp) _).setCell (p := ⟨w.heap.size + 1, 1, none⟩) (by simp) _).setCell (p := ⟨w.heap.size + 1, 2, none⟩) (by simp) _).setCell (p := ⟨w.heap.size + 1, 3, none⟩) (by simp) _
theorem hok_parts {L : List K} {h : Hd} (hk : H64 h) (hl : laceB L = true) (x : hokB L h = true) : 0 ≤ h.has ∧ h.has < 1152921504606846976 ∧ 0 ≤ h.kept ∧ h.kept < 1152921504606846976 := by
  unfold hokB at x
  simp only [Bool.and_eq_true, decide_eq_true_eq] at x
  have h60 := ((Lc.lace_iff L).1 hl).1
  have hb := div_lt60 x.2.1 x.2.2.2.1 h60
  exact ⟨x.2.1, hb, x.2.2.1, and_sub x.2.2.1 x.2.1 hb hk.k1 x.2.2.2.2.1⟩

/-- what is learned of a lace -/
def learnedB (L : List K) (h : Hd) (k : Int) (al : Bool) : Bool := handOkB L h && learnB L (belows L L.length) h.who h.has k al
def learnedH (L : List K) (h : Hd) (k : Int) (al : Bool) : Hd := if handOkB L h then (if learnB L (belows L L.length) h.who h.has k al then { h with has := orB h.has ((belows L L.length).getD k.toNat 0) } else h) else ⟨0, 0, 0, 0⟩

/-- the document's Keeps and Forgets -/
def keptH (L : List K) (h : Hd) : Hd := if handOkB L h then ⟨h.who, h.has, h.has, lastTo L h.who h.has L.length⟩ else ⟨0, 0, 0, 0⟩
def forgotH (L : List K) (h : Hd) : Hd := if handOkB L h then ⟨h.who, h.kept, h.kept, h.last⟩ else ⟨0, 0, 0, 0⟩

end Rm
end Go.Proofs.Ytmhcbmcfhopiiaa
