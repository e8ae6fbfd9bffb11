/-
  FnWaves answers true at every code, for three rounds are one wave, each wave has one leader and nobody else leads; no condition.
  What the model's drawing of a list of knots hands back, where the drawing of a room keeps its word: a list of at most 61 knots with short words, in memory of its own; it changes the cursor alone.
  What the model's drawing of any list of knots, of a set and of a number hands back, where the drawing of a room keeps its word: a list of at most 61 knots with short words, in memory of its own; it changes the cursor alone.
  What the model's drawings of a set and of a number hand back: a number; they change the cursor alone. And the drawings of the laws on laces, where the drawing of a room keeps its word.
  What the model's Below, Sees, Closed and Tips answer, in the words of SightM; for lists of knots whose words have at most 2^40 bytes.
  What the model's drawings for the laws on sight hand back, where the drawing of a room keeps its word.
  Plain mathematics of a walk back along the threads: it goes through the numbers from the last to the first, keeps the set of those reached, and adds a reached one's threads; what it meets is what hangs below the set; for laces.
  What the program's own HandsOf and AtRound answer, in the words of LaceM; for lists of at most 2^40 knots whose words have at most 2^40 bytes.
  What the program's own walk back along the threads does (an iterator over a lace in memory, whatever the loop's body is that keeps the lace), in the words of SightV; for laces.
  What the program's own Below, Sees, Closed and Tips answer, in the words of SightT; for lists of knots whose words have at most 2^40 bytes.
  What the law on closed sets and tips answers, where the drawing of a room keeps its word: true at every code.
  Plain mathematics of the law on what hangs below and what is seen; for laces.
  What the model's Doubled and DoublesOf answer: two knots of one hand neither of which sees the other; for lists of knots whose words have at most 2^40 bytes.
  What the program's own Doubled and DoublesOf answer, in the words of DoubM; for lists of knots whose words have at most 2^40 bytes.
  Plain mathematics of waves: three rounds each, and whose turn a wave is. No program in it.
  What the model's WaveOf, LeaderOf and Leads answer; for coins of at most a million numbers and lists of knots whose words have at most 2^40 bytes.
  What the model's drawings for the law on waves hand back, where the drawing of a room keeps its word.
  What the law on waves answers, where the drawing of a room keeps its word and the program's CoinsOk, WaveOf, LeaderOf and Leads answer as they should: true at every code.
  What the program lays out hand by hand: those of a set that each hand tied; for laces of at most 60 knots, their hands 0 to 3.
  What the program's own CoinsOk, WaveOf, LeaderOf and Leads answer, in the words of WaveM; for coins of at most 2^20 numbers and lists of knots whose words have at most 2^40 bytes.
  The drawing of a room keeps its word.
-/
import Derived.Test.YtcbfdfddifmeiaaRoomW
import Derived.Test.YtcbfdfddifmeiaaRoomG
import Derived.Test.YtcbfdfddifmeiaaDraw
import Derived.Test.YtcbfdfddifmeiaaDrawK
import Derived.Maps.AppendAt
import Derived.Test.YtcbfdfddifmeiaaSightS
import Derived.Test.YtcbfdfddifmeiaaSightN
import Derived.Test.YtcbfdfddifmeiaaLaceU
import Derived.Test.YtcbfdfddifmeiaaLaceE
import Derived.RangeFuncNested
import Derived.RangeFuncBound
import Derived.RangeFuncCalls
import Derived.RangeFuncLeaves
import Derived.Shelf.Abstract
import Derived.Shelf.RegionOpen
import Derived.WalkKit
import Derived.OwnWalkIn
import Derived.TacticsInMore
import Derived.LoopNIn
import Derived.LoopIn
import Derived.Test.YtcbfdfddifmeiaaDoubS
import Derived.Test.YtcbfdfddifmeiaaFam
import Derived.Test.YtcbfdfddifmeiaaRoomC
import Derived.Test.YtcbfdfddifmeiaaLaceA
import Derived.Test.YtcbfdfddifmeiaaLaceB
import Derived.Test.YtcbfdfddifmeiaaRoomXm
import Derived.Test.YtcbfdfddifmeiaaRoomV
import Derived.Test.YtcbfdfddifmeiaaRows
import Derived.ProofKit
import Derived.OpenShut
import Derived.ChangeOld
import Derived.Below
namespace Go.Proofs.Ytcbfdfddifmeiaa
open Go.RowKit
set_option maxRecDepth 100000
namespace Rm
open Kn (K okK)
open Lc (at' RdK laceB flat OwnK cellsOf)
open Cur (At)

/-- the drawing of a room keeps its word -/
def DrawsRoom : Prop := ∀ (c : Nat) (a : Option Addr) (len cap : Nat) (w : World), len ≤ 4096 → At c a len cap w → Calls Try.prog 48 #[.pointer (some ⟨c, 0, none⟩)] w (DrawPost c a len cap w)

/-- how the drawing of a list ends -/
def ListPost (m : Nat) (c : Nat) (a : Option Addr) (len cap : Nat) (w : World) (e : Ending) (w' : World) : Prop := ∃ v L, e = .returned v ∧ OwnK 37 w.heap.size w' v L ∧ L.length ≤ m ∧ (∀ k ∈ L, k.word.size ≤ 13) ∧ At c a len cap w' ∧ w.grownBy w' (some c)
/-- how the drawing of a number ends -/
def NumPost (c : Nat) (a : Option Addr) (len cap : Nat) (w : World) (e : Ending) (w' : World) : Prop := ∃ x : Int, e = .returned (.int .i64 x) ∧ (-9223372036854775808 ≤ x ∧ x ≤ 9223372036854775807) ∧ At c a len cap w' ∧ w.grownBy w' (some c)

theorem word_lace {L : List K} (h : laceB L = true) : ∀ k ∈ L, k.word.size ≤ 13 := by
  intro k hk
  obtain ⟨i, hi, rfl⟩ := List.mem_iff_getElem.1 hk
  have := Lc.can_ok (Lc.lace_upTo h i hi)
  rw [Lc.at_get L i hi] at this
  simp only [okK, Bool.and_eq_true] at this
  have h5 := this.2.2.2.2
  simp only [Kn.okW, Bool.and_eq_true, decide_eq_true_eq] at h5
  omega

theorem ownK_base {t : TypeId} {B B' : Nat} {w : World} {v : Value} {L : List K} (h : OwnK t B w v L) (hB : B' ≤ B) : OwnK t B' w v L := by
  obtain ⟨⟨h1, h2 | ⟨g, cp, cur, e, hg, r⟩⟩, hv⟩ := h
  · exact ⟨⟨h1, .inl h2⟩, hv⟩
  · exact ⟨⟨h1, .inr ⟨g, cp, cur, e, Nat.le_trans hB hg, r⟩⟩, hv⟩

theorem ownK_grown {t : TypeId} {B c : Nat} {w w' : World} {v : Value} {L : List K} (h : OwnK t B w v L) (hg : w.grownBy w' (some c)) (hc : c < B) : OwnK t B w' v L :=
  ⟨own_fr (Fr.of_grown hg) h.1 (fun g e => by have := (World.ownsRow.lt h.1 g e).1; omega), h.2⟩

theorem lace_field (ao : Option Addr) (n cp : Nat) (v1 v2 v3 : Value) (W : World) : (Instr.field 77 (.agg #[.slice ao n cp, v1, v2, v3]) 0).run Try.prog W = .ok (.slice ao n cp) W := by kernel_rfl

set_option maxHeartbeats 800000 in
theorem l3Draw (HD : DrawsRoom) (c : Nat) (a : Option Addr) (len cap : Nat) (w : World) (hl : len ≤ 4096) (hc : At c a len cap w) :
    Calls Try.prog 35 #[.pointer (some ⟨c, 0, none⟩)] w (ListPost 60 c a len cap w) := by
  have hcw : c < w.heap.size := hc.lt
  have HDD : Hid DrawsRoom := HD
  clear HD
  go_enter Try.func35, Try.ntmps35
  go_wp2_with fail
  refine (HDD.out c a len cap _ hl hc).mono ?_
  rintro e w1 ⟨R, rfl, hP, hA1, hF1⟩
  obtain ⟨ao, cp, hlv, ho, hz, _, hrd, _⟩ := own_lace hP.own
  have h60 := ((Lc.lace_iff R.L).1 hP.lace).1
  have hwd := word_lace hP.lace
  have HWD : Hid (∀ k ∈ R.L, k.word.size ≤ 13) := hwd
  have HV : Hid (roV R = .agg #[.slice ao R.L.length cp, R.cv, .slice (some ⟨R.gh, 0, none⟩) 4 R.hc, .int .i64 R.bad]) := by show _ = _; unfold roV; rw [hlv]
  rw [HV.out]
  have hfl := lace_field ao R.L.length cp R.cv (.slice (some ⟨R.gh, 0, none⟩) 4 R.hc) (.int .i64 R.bad)
  clear hwd hlv hP
  go_wp2_with fail
  refine (l3CopyO ao cp R.L _ ho hz (by omega) hrd).mono ?_
  rintro e w2 ⟨v, rfl, hO, hb2⟩
  have HR : Hid (OwnK 37 w.heap.size w2 v R.L ∧ At c a len cap w2 ∧ w.grownBy w2 (some c)) := ⟨ownK_base hO hF1.size, hA1.below hb2, (hF1.trans (Fr.of_below hb2 (fun x => x = c)) (fun _ h _ => h)).grown⟩
  clear hO hb2 hA1 hF1 hrd
  go_wp2
  go_ret
  exact ⟨v, R.L, rfl, HR.out.1, h60, HWD.out, HR.out.2.1, HR.out.2.2⟩

set_option maxHeartbeats 400000 in
theorem l1From (c : Nat) (a : Option Addr) (len cap : Nat) (lo hi : Int) (w : World) (hl : len ≤ 4096) (h0 : -10 ≤ lo) (h1 : lo ≤ hi) (h2 : hi ≤ 100) (hc : At c a len cap w) :
    Calls Try.prog 19 #[.pointer (some ⟨c, 0, none⟩), .int .i64 lo, .int .i64 hi] w (NumPost c a len cap w) := by
  have hw1 : IntKind.i64.wrap (hi - lo) = hi - lo := by rw [IntKind.wrap_i64]; omega
  have hw2 : IntKind.i64.wrap (hi - lo + 1) = hi - lo + 1 := by rw [IntKind.wrap_i64]; omega
  go_enter Try.func19, Try.ntmps19
  go_wp2_with fail
  refine (Cur.below c a len cap _ _ hl (by omega) hc).mono ?_
  rintro e w1 ⟨x, rfl, hx0, hx1, hA1, hG1⟩
  have hx2 := hx1 (by omega)
  go_wp2
  go_ret
  exact ⟨_, rfl, by omega, hA1, hG1⟩

end Rm
end Go.Proofs.Ytcbfdfddifmeiaa

namespace Go.Proofs.Ytcbfdfddifmeiaa
open Go.RowKit
set_option maxRecDepth 100000
namespace Rm
open Kn (K okK)
open Lc (at' RdK laceB flat OwnK cellsOf)
open Cur (At)

theorem flat_set (L : List K) (j c : Nat) (hj : j < L.length) (hc : c < 4) (k' : K) (v : Value) (h : cellsOf k' = (cellsOf (at' L j)).set c v) : (flat L).set (j * 4 + c) v = flat (L.set j k') := by
  induction L generalizing j with
  | nil => simp at hj
  | cons k L ih =>
    have hk4 : (cellsOf k).length = 4 := rfl
    cases j with
    | zero =>
      show (cellsOf k ++ flat L).set (0 * 4 + c) v = cellsOf k' ++ flat L
      rw [List.set_append_left _ _ (by rw [hk4]; omega), h]
      simp [at']
    | succ j =>
      show (cellsOf k ++ flat L).set ((j + 1) * 4 + c) v = cellsOf k ++ flat (L.set j k')
      rw [List.set_append_right _ _ (by rw [hk4]; omega), hk4, show (j + 1) * 4 + c - 4 = j * 4 + c by omega, ih j (by simpa using hj) (by simpa [at'] using h)]

theorem grown_far {w w5 w6 : World} {c g : Nat} (h : w.grownBy w5 (some c)) (h2 : w5.grownBy w6 (some g)) (hg : w.heap.size ≤ g) : w.grownBy w6 (some c) :=
  ((Fr.of_grown h).trans (Fr.of_grown h2) (fun x hx hl => by omega)).grown

/-- a number of a knot is written -/
theorem list_put {m c : Nat} {a : Option Addr} {len cap : Nat} {w w5 : World} {g cp : Nat} {L : List K} {j f : Nat} {u : Value} {k' : K} (hc : At c a len cap w) (hO : OwnK 37 w.heap.size w5 (.slice (some ⟨g, 0, none⟩) L.length cp) L) (hm : L.length ≤ m) (hwd : ∀ k ∈ L, k.word.size ≤ 13)
    (hA : At c a len cap w5) (hG : w.grownBy w5 (some c)) (hj : j < L.length) (hf : f < 4) (hk : cellsOf k' = (cellsOf (at' L j)).set f u) (hw : k'.word.size ≤ 13) :
    ListPost m c a len cap w (.returned (.slice (some ⟨g, 0, none⟩) L.length cp)) (w5.setCell ⟨g, j * 4 + f, none⟩ u) := by
  have hgB := (World.ownsRow.lt hO.1 g rfl).1
  have hs := World.ownsRow.stored hO.1 (j * 4 + f) u
  rw [flat_set L j f hj hf k' u hk] at hs
  have hl : (L.set j k').length = L.length := by simp
  refine ⟨_, L.set j k', rfl, ⟨by rw [hl]; exact hs.1, by simp⟩, by rw [hl]; exact hm, fun k hkm => ?_, ?_, grown_far hG hs.2 hgB⟩
  · rcases List.mem_or_eq_of_mem_set hkm with h | h
    · exact hwd k h
    · rw [h]; exact hw
  · exact at_belowB hA (curB_of hc) ((Below.refl w.heap.size w5).grown hs.2 hG.size (fun x e => by cases e; exact hgB))

set_option maxHeartbeats 6400000 in
theorem l3DrawAny (HD : DrawsRoom) (c : Nat) (a : Option Addr) (len cap : Nat) (w : World) (hl : len ≤ 4096) (hc : At c a len cap w) :
    Calls Try.prog 23 #[.pointer (some ⟨c, 0, none⟩)] w (ListPost 61 c a len cap w) := by
  obtain ⟨i0, hi, hz0, hz1, hz2⟩ := info_parts Lc.infoKn
  have hcw : c < w.heap.size := hc.lt
  have HDD : Hid DrawsRoom := HD
  clear HD
  go_enter Try.func23, Try.ntmps23
  go_wp2_with fail
  refine (l3Draw HDD.out c a len cap _ hl hc).mono ?_
  rintro e w1 ⟨v, L, rfl, hO, h60, hwd, hA1, hG1⟩
  obtain ⟨g, cp, rfl, hcap, _, hbg, _, _, _⟩ := Lc.ownK_shape hO
  have HWD : Hid (∀ k ∈ L, k.word.size ≤ 13) := hwd
  have HO : Hid (OwnK 37 w.heap.size w1 (.slice (some ⟨g, 0, none⟩) L.length cp) L) := hO
  clear hO hwd
  by_cases hz : L.length = 0
  · obtain rfl : L = [] := List.eq_nil_of_length_eq_zero hz
    go_wp2
    go_ret
    exact ⟨_, [], rfl, HO.out, by simp, HWD.out, hA1, hG1⟩
  · have hz' : (0 : Int) < (L.length : Int) := by omega
    go_wp2_with fail
    refine (Cur.once c a len cap 10 _ hl (by omega) hA1).mono ?_
    rintro e w2 ⟨b, rfl, hA2, hG2⟩
    have HO2 : Hid (OwnK 37 w.heap.size w2 (.slice (some ⟨g, 0, none⟩) L.length cp) L) := ownK_grown HO.out hG2 hcw
    have G2 := Cur.grownBy_trans hG1 hG2
    clear HO hG1 hG2 hA1
    cases b
    · go_wp2
      go_ret
      exact ⟨_, L, rfl, HO2.out, by omega, HWD.out, hA2, G2⟩
    · go_wp2_with fail
      refine (Cur.below c a len cap (L.length : Int) _ hl (by omega) hA2).mono ?_
      rintro e w3 ⟨x, rfl, hx0, hx1, hA3, hG3⟩
      have hx2 := hx1 hz'
      obtain ⟨j, rfl⟩ := Int.eq_ofNat_of_zero_le hx0
      have hj : j < L.length := by omega
      have HO3 : Hid (OwnK 37 w.heap.size w3 (.slice (some ⟨g, 0, none⟩) L.length cp) L) := ownK_grown HO2.out hG3 hcw
      have G3 := Cur.grownBy_trans G2 hG3
      clear HO2 hG3 hA2 G2 hx1
      go_wp2_with fail
      refine (Cur.below c a len cap 4 _ hl (by omega) hA3).mono ?_
      rintro e w4 ⟨t, rfl, ht0, ht1, hA4, hG4⟩
      have ht2 := ht1 (by omega)
      have HO4 : Hid (OwnK 37 w.heap.size w4 (.slice (some ⟨g, 0, none⟩) L.length cp) L) := ownK_grown HO3.out hG4 hcw
      have HG4 : Hid (w.grownBy w4 (some c)) := Cur.grownBy_trans G3 hG4
      have HC : Hid (At c a len cap w) := hc
      clear HO3 hG4 hA3 G3 ht1 hc
      have htc : t = 0 ∨ t = 1 ∨ t = 2 ∨ t = 3 := by omega
      rcases htc with rfl | rfl | rfl | rfl
      · go_wp2_with fail
        refine (l1From c a len cap (-1) 4 _ hl (by omega) (by omega) (by omega) hA4).mono ?_
        rintro e w5 ⟨y, rfl, _, hA5, hG5⟩
        have hO5 := ownK_grown HO4.out hG5 hcw
        obtain ⟨_, _, e5, _, _, _, _, hrd5, hfz5⟩ := Lc.ownK_shape hO5
        simp only [Value.slice.injEq, Option.some.injEq, Addr.mk.injEq, and_true, true_and] at e5
        obtain ⟨rfl, rfl⟩ := e5
        have HF : Hid (ListPost 61 c a len cap w (.returned (.slice (some ⟨g, 0, none⟩) L.length cp)) (w5.setCell ⟨g, j * 4, none⟩ (.int .i64 y))) := list_put (f := 0) (k' := ⟨y, (at' L j).round, (at' L j).frm, (at' L j).word⟩) HC.out hO5 (by omega) HWD.out hA5 (Cur.grownBy_trans HG4.out hG5) hj (by omega) rfl (HWD.out (at' L j) (Lc.at_mem L j hj))
        obtain ⟨_, c0, c1, c2, _⟩ := hrd5.on j hj
        rw [Nat.zero_add] at c0 c1 c2
        have f5 := hfz5 (j * 4) (by omega)
        clear hO5 hrd5 hfz5 HO4 HG4 hA5 hG5
        go_wp2
        go_ret
        exact HF.out
      · go_wp2_with fail
        refine (Cur.below c a len cap 5 _ hl (by omega) hA4).mono ?_
        rintro e w5 ⟨y, rfl, _, _, hA5, hG5⟩
        have hO5 := ownK_grown HO4.out hG5 hcw
        obtain ⟨_, _, e5, _, _, _, _, hrd5, hfz5⟩ := Lc.ownK_shape hO5
        simp only [Value.slice.injEq, Option.some.injEq, Addr.mk.injEq, and_true, true_and] at e5
        obtain ⟨rfl, rfl⟩ := e5
        have HF : Hid (ListPost 61 c a len cap w (.returned (.slice (some ⟨g, 0, none⟩) L.length cp)) (w5.setCell ⟨g, j * 4 + 1, none⟩ (.int .i64 y))) := list_put (f := 1) (k' := ⟨(at' L j).hand, y, (at' L j).frm, (at' L j).word⟩) HC.out hO5 (by omega) HWD.out hA5 (Cur.grownBy_trans HG4.out hG5) hj (by omega) rfl (HWD.out (at' L j) (Lc.at_mem L j hj))
        obtain ⟨_, c0, c1, c2, _⟩ := hrd5.on j hj
        rw [Nat.zero_add] at c0 c1 c2
        have f5 := hfz5 (j * 4 + 1) (by omega)
        clear hO5 hrd5 hfz5 HO4 HG4 hA5 hG5
        go_wp2
        go_ret
        exact HF.out
      · go_wp2_with fail
        refine (Draw.drawSet c a len cap _ hl hA4).mono ?_
        rintro e w5 ⟨y, rfl, _, hA5, hG5⟩
        have hO5 := ownK_grown HO4.out hG5 hcw
        obtain ⟨_, _, e5, _, _, _, _, hrd5, hfz5⟩ := Lc.ownK_shape hO5
        simp only [Value.slice.injEq, Option.some.injEq, Addr.mk.injEq, and_true, true_and] at e5
        obtain ⟨rfl, rfl⟩ := e5
        have HF : Hid (ListPost 61 c a len cap w (.returned (.slice (some ⟨g, 0, none⟩) L.length cp)) (w5.setCell ⟨g, j * 4 + 2, none⟩ (.int .i64 y))) := list_put (f := 2) (k' := ⟨(at' L j).hand, (at' L j).round, y, (at' L j).word⟩) HC.out hO5 (by omega) HWD.out hA5 (Cur.grownBy_trans HG4.out hG5) hj (by omega) rfl (HWD.out (at' L j) (Lc.at_mem L j hj))
        obtain ⟨_, c0, c1, c2, _⟩ := hrd5.on j hj
        rw [Nat.zero_add] at c0 c1 c2
        have f5 := hfz5 (j * 4 + 2) (by omega)
        clear hO5 hrd5 hfz5 HO4 HG4 hA5 hG5
        go_wp2
        go_ret
        exact HF.out
      · go_wp2_with fail
        refine (Kn.draw c a len cap _ hl hA4).mono ?_
        rintro e w5 ⟨h, r, f, s, rfl, hs13, hA5, hG5⟩
        have HO5 : Hid (OwnK 37 w.heap.size w5 (.slice (some ⟨g, 0, none⟩) L.length cp) L) := ownK_grown HO4.out hG5 hcw
        have HG5 : Hid (w.grownBy w5 (some c)) := Cur.grownBy_trans HG4.out hG5
        clear HO4 HG4 hG5
        go_wp2_with (at_builtin; refine wpList_append_own _ rfl _ _ 30 rfl w.heap.size 37 i0 (.agg #[.int .i64 0, .int .i64 0, .int .i64 0, .string ⟨#[]⟩]) 4 40 Try.underlying30 hi hz0 hz1 hz2 rfl (by decide) _ _ _ rfl (HO5.out.1.alloc _) ⟨w5.heap.size, 0, none⟩ 1 1 (cellsOf ⟨h, r, f, s⟩) rfl rfl ?c1 ?c2 ?c3 ?c4 ?c5 ?_)
        case c1 => exact Lc.new_cells w5 ⟨h, r, f, s⟩ _
        case c2 => intro u hu; simp [cellsOf] at hu; rcases hu with rfl | rfl | rfl | rfl <;> rfl
        case c3 => unfold maxLen; omega
        case c4 => omega
        case c5 => have := HG5.out.size; simp; omega
        intro v' w6 hown' hgrow hnil
        have HF : Hid (ListPost 61 c a len cap w (.returned v') w6) := by
          have hg6 : w5.grownBy w6 (some g) := (World.grownBy_alloc w5 _ _).trans hgrow
          refine ⟨v', L ++ [⟨h, r, f, s⟩], rfl, ⟨?_, ?_⟩, by simp; omega, ?_, ?_, grown_far HG5.out hg6 hbg⟩
          · rw [List.length_append, Lc.flat_snoc]; exact hown'
          · intro e; simp [e] at hnil
          · intro k hk
            rcases List.mem_append.1 hk with hk | hk
            · exact HWD.out k hk
            · simp at hk; subst hk; exact hs13
          · exact at_belowB hA5 (curB_of HC.out) ((Below.refl w.heap.size w5).grown hg6 HG5.out.size (fun x e => by cases e; exact hbg))
        clear hown' hgrow hnil
        go_wp2
        go_ret
        exact HF.out

end Rm
end Go.Proofs.Ytcbfdfddifmeiaa

namespace Go.Proofs.Ytcbfdfddifmeiaa
open Go.RowKit
set_option maxRecDepth 100000
namespace Rm
open Kn (K okK)
open Lc (at' RdK laceB flat OwnK cellsOf)
open Cur (At)

theorem wrap_bd (x : Int) : -9223372036854775808 ≤ IntKind.i64.wrap x ∧ IntKind.i64.wrap x ≤ 9223372036854775807 := by rw [IntKind.wrap_i64]; omega

set_option maxHeartbeats 400000 in
theorem l1BitAny (i : Nat) (w : World) (h : i ≤ 62) : Calls Try.prog 44 #[.int .i64 (i : Int)] w fun e w' => ∃ x : Int, e = .returned (.int .i64 x) ∧ w = w' := by
  go_enter Try.func44, Try.ntmps44
  go_wp2
  go_ret
  exact ⟨_, rfl, rfl⟩

theorem new_four (W : World) (x : Int) (t : TypeId) (j : Nat) (hj : j < 4) : ∃ y : Int, (W.alloc (.cells #[.int .i64 (-1), .int .i64 x, .int .i64 60, .int .i64 0] t)).cell? ⟨W.heap.size, j, none⟩ = some (.int .i64 y) ∧ (y = -1 ∨ y = x ∨ y = 60 ∨ y = 0) := by
  match j, hj with
  | 0, _ => exact ⟨-1, by simp, .inl rfl⟩
  | 1, _ => exact ⟨x, by simp, .inr (.inl rfl)⟩
  | 2, _ => exact ⟨60, by simp, .inr (.inr (.inl rfl))⟩
  | 3, _ => exact ⟨0, by simp, .inr (.inr (.inr rfl))⟩

set_option maxHeartbeats 1600000 in
theorem l3DrawAt (c : Nat) (a : Option Addr) (len cap n : Nat) (w : World) (hl : len ≤ 4096) (hn : n ≤ 61) (hc : At c a len cap w) :
    Calls Try.prog 24 #[.pointer (some ⟨c, 0, none⟩), .int .i64 (n : Int)] w (NumPost c a len cap w) := by
  have hcw : c < w.heap.size := hc.lt
  have HT : Hid (∀ W : World, At c a len cap W → w.grownBy W (some c) → ∀ w', At c a len cap w' → (W.alloc (.cells #[.int .i64 (-1), .int .i64 (n : Int), .int .i64 60, .int .i64 0] 2)).grownBy w' (some c) → ∀ j, j < 4 → ∃ y : Int, w'.cell? ⟨W.heap.size, j, none⟩ = some (.int .i64 y) ∧ (-9223372036854775808 ≤ y ∧ y ≤ 9223372036854775807) ∧ w.grownBy w' (some c)) := by
    intro W hA hG w' hA' hG' j hj
    obtain ⟨y, hy, hyc⟩ := new_four W (n : Int) 2 j hj
    refine ⟨y, ((Fr.of_grown hG').cell (p := ⟨W.heap.size, j, none⟩) (by simp) (by have := hA.lt; simp; omega)).trans hy, by omega, Cur.grownBy_trans hG ((World.grownBy_alloc W _ _).trans hG')⟩
  have HGR : Hid (w.grownBy w (some c)) := ⟨rfl, rfl, rfl, Nat.le_refl _, fun _ _ _ => rfl⟩
  go_enter Try.func24, Try.ntmps24
  by_cases hz : n = 0
  · subst hz
    have hAl := Draw.at_alloc hc (.cells #[.int .i64 (-1), .int .i64 ((0 : Nat) : Int), .int .i64 60, .int .i64 0] 2)
    simp only [Int.ofNat_zero] at hAl HT
    go_wp2_with fail
    refine (Cur.below c a len cap 4 _ hl (by omega) hAl).mono ?_
    rintro e w1 ⟨x, rfl, hx0, hx1, hA1, hG1⟩
    have hx2 := hx1 (by omega)
    obtain ⟨j, rfl⟩ := Int.eq_ofNat_of_zero_le hx0
    obtain ⟨y, hy, hyb, hG⟩ := HT.out w hc HGR.out w1 hA1 hG1 j (by omega)
    have hj4 : (j : Int) < 4 := by omega
    clear hG1 hx1 HT
    go_wp2
    go_ret
    exact ⟨y, rfl, hyb, hA1, hG⟩
  · have hz' : (0 : Int) < (n : Int) := by omega
    go_wp2_with fail
    refine (Cur.once c a len cap 10 _ hl (by omega) hc).mono ?_
    rintro e w1 ⟨b, rfl, hA1, hG1⟩
    cases b
    · go_wp2_with fail
      refine (Cur.below c a len cap (n : Int) _ hl (by omega) hA1).mono ?_
      rintro e w2 ⟨x, rfl, hx0, hx1, hA2, hG2⟩
      have hx2 := hx1 hz'
      have G2 := Cur.grownBy_trans hG1 hG2
      go_wp2
      go_ret
      exact ⟨x, rfl, by omega, hA2, G2⟩
    · have hAl := Draw.at_alloc hA1 (.cells #[.int .i64 (-1), .int .i64 (n : Int), .int .i64 60, .int .i64 0] 2)
      go_wp2_with fail
      refine (Cur.below c a len cap 4 _ hl (by omega) hAl).mono ?_
      rintro e w2 ⟨x, rfl, hx0, hx1, hA2, hG2⟩
      have hx2 := hx1 (by omega)
      obtain ⟨j, rfl⟩ := Int.eq_ofNat_of_zero_le hx0
      obtain ⟨y, hy, hyb, hG⟩ := HT.out w1 hA1 hG1 w2 hA2 hG2 j (by omega)
      have hj4 : (j : Int) < 4 := by omega
      clear hG2 hx1 HT hAl hG1
      go_wp2
      go_ret
      exact ⟨y, rfl, hyb, hA2, hG⟩

/-- a list and numbers that the laws draw -/
structure Drawn (B : Nat) (w w' : World) (v : Value) (L : List K) : Prop where
  own : OwnK 37 B w' v L
  len : L.length ≤ 61
  word : ∀ k ∈ L, k.word.size ≤ 13
  bel : Below w.heap.size w w'

end Rm
end Go.Proofs.Ytcbfdfddifmeiaa

namespace Go.Proofs.Ytcbfdfddifmeiaa
open Go.RowKit
set_option maxRecDepth 100000
namespace Sg
open Kn (K okK)
open Bit (bit)
open Lc (at' RdK laceB WordsOk setB)

/-- is there such a knot, of a lace? -/
def isB (L : List K) (k : Int) : Bool := decide (0 ≤ k) && (decide (k < (L.length : Int)) && laceB L)
/-- what Below answers -/
def belowI (L : List K) (k : Int) : Int := if isB L k then bel L k.toNat else -1
/-- what Sees answers -/
def seesB (L : List K) (a b : Int) : Bool := isB L a && (isB L b && bit (bel L a.toNat) b.toNat)
/-- what Closed answers -/
def closedB (L : List K) (s : Int) : Bool := setB L s && closedTo (belows L L.length) s L.length
/-- what Tips answers -/
def tipsI (L : List K) (s : Int) : Int := if closedB L s then tipsTo (belows L L.length) s L.length else -1

theorem isB_parts {L : List K} {k : Int} (h : isB L k = true) : 0 ≤ k ∧ k < (L.length : Int) ∧ laceB L = true := by
  unfold isB at h
  simpa using h

set_option maxHeartbeats 800000 in
theorem l4Is (g off cap : Nat) (L : List K) (k : Int) (w : World) (hcap : L.length ≤ cap) (hw : WordsOk L) (hr : RdK w (some ⟨g, off, none⟩) L) :
    Calls Try.prog 29 #[.slice (some ⟨g, off, none⟩) L.length cap, .int .i64 k] w fun e w' => e = .returned (.bool (isB L k)) ∧ Below w.heap.size w w' := by
  by_cases h0 : 0 ≤ k
  · by_cases h1 : k < (L.length : Int)
    · have HT : Hid (isB L k = laceB L) := by show _ = _; unfold isB; rw [decide_eq_true h0, decide_eq_true h1]; rfl
      go_enter Try.func29, Try.ntmps29
      go_wp2_with fail
      refine (Lc.specLaceOk g off cap L _ hcap hw hr).mono ?_
      rintro e w1 ⟨rfl, hb1⟩
      go_wp2
      go_ret
      exact ⟨by rw [HT.out]; rfl, hb1⟩
    · have HT : Hid (isB L k = false) := by show _ = _; unfold isB; rw [decide_eq_false h1]; simp
      go_enter Try.func29, Try.ntmps29
      go_wp2
      go_ret
      exact ⟨by rw [HT.out]; rfl, Below.refl _ _⟩
  · have HT : Hid (isB L k = false) := by show _ = _; unfold isB; rw [decide_eq_false h0]; rfl
    go_enter Try.func29, Try.ntmps29
    go_wp2
    go_ret
    exact ⟨by rw [HT.out]; rfl, Below.refl _ _⟩

set_option maxHeartbeats 800000 in
theorem specBelow (g off cap : Nat) (L : List K) (k : Int) (w : World) (hcap : L.length ≤ cap) (hw : WordsOk L) (hr : RdK w (some ⟨g, off, none⟩) L) :
    Calls Try.prog 16 #[.slice (some ⟨g, off, none⟩) L.length cap, .int .i64 k] w fun e w' => e = .returned (.int .i64 (belowI L k)) ∧ Below w.heap.size w w' := by
  go_enter Try.func16, Try.ntmps16
  go_wp2_with fail
  refine (l4Is g off cap L k _ hcap hw hr).mono ?_
  rintro e w1 ⟨rfl, hb1⟩
  have hr1 := hr.below hb1
  cases his : isB L k
  · have HT : Hid (belowI L k = -1) := by show _ = _; unfold belowI; rw [his]; rfl
    clear his
    go_wp2
    go_ret
    exact ⟨by rw [HT.out]; rfl, hb1⟩
  · obtain ⟨h0, h1, hlc⟩ := isB_parts his
    have HT : Hid (belowI L k = bel L k.toNat) := by show _ = _; unfold belowI; rw [his]; rfl
    have h60 := ((Lc.lace_iff L).1 hlc).1
    have hf := frm_lace hlc
    clear his hlc
    obtain ⟨p, rfl⟩ := Int.eq_ofNat_of_zero_le h0
    have hp : p < L.length := by omega
    have HG : Hid ((belows L L.length).getD p 0 = bel L p) := belows_get L L.length p hp
    have HBL : Hid ((belows L L.length).length = L.length) := belows_len L L.length
    go_wp2_with fail
    refine (l4All (some ⟨g, off, none⟩) cap L _ h60 hf hr1).mono ?_
    rintro e w2 ⟨bo, bc, rfl, hown, hb2⟩
    have hB2 := hb1.trans (hb2.mono hb1.size)
    have hrd := Lst.own_rd hown
    clear hb1 hb2 hown hr1
    generalize belows L L.length = l at HG HBL hrd ⊢
    have hpl : p < l.length := by rw [HBL.out]; exact hp
    have hpi : (p : Int) < (l.length : Int) := by omega
    rcases hrd with hrd | ⟨b, rfl, hcell⟩
    · rw [hrd] at hpl; simp at hpl
    have cp := hcell p hpl
    rw [HG.out] at cp
    clear hcell HBL HG
    go_wp2
    go_ret
    exact ⟨by rw [HT.out]; rfl, hB2⟩

theorem below_drewN {b : Nat} {a w : World} (h : Below b a w) (n : Nat) : Below b a (w.drewN n) := ⟨h.os, h.tape, h.output, h.size, h.block⟩

end Sg
end Go.Proofs.Ytcbfdfddifmeiaa

namespace Go.Proofs.Ytcbfdfddifmeiaa
open Go.RowKit
set_option maxRecDepth 100000
namespace Rm
open Kn (K okK)
open Lc (at' RdK laceB flat OwnK cellsOf)
open Cur (At)

/-- the cursor moves on, the list stays -/
theorem rd_grown2 {A B : World} {c g : Nat} {L : List K} (h : RdK A (some ⟨g, 0, none⟩) L) (hg : A.grownBy B (some c)) (hne : g ≠ c) : RdK B (some ⟨g, 0, none⟩) L := by
  rcases h with h | ⟨g', off', e, hlt, hc⟩
  · exact .inl h
  · cases e
    refine .inr ⟨g, 0, rfl, Nat.lt_of_lt_of_le hlt hg.size, fun i hi => ?_⟩
    have c' := hc i hi
    have f : ∀ o : Nat, B.cell? ⟨g, o, none⟩ = A.cell? ⟨g, o, none⟩ := fun o => (Fr.of_grown hg).cell (p := ⟨g, o, none⟩) hlt hne
    exact ⟨(f _).trans c'.c0, (f _).trans c'.c1, (f _).trans c'.c2, (f _).trans c'.c3⟩

end Rm
end Go.Proofs.Ytcbfdfddifmeiaa

namespace Go.Proofs.Ytcbfdfddifmeiaa
open Go.RowKit
set_option maxRecDepth 100000
namespace Sg
open Kn (K okK)
open Bit (bit withB)
open Lc (at')

/-- what has been reached when all numbers from m on are done -/
structure Inv (L : List K) (s : Int) (m : Nat) (r : Int) : Prop where
  lo : 0 ≤ r
  hi : r < 1152921504606846976
  start : ∀ j, bit s j = true → bit r j = true
  sound : ∀ j, bit r j = true → bit s j = true ∨ ∃ i, i < L.length ∧ bit s i = true ∧ Reach L i j
  done : ∀ i, m ≤ i → i < L.length → bit r i = true → ∀ j, bit (at' L i).frm j = true → bit r j = true

theorem inv_start (L : List K) (s : Int) (h0 : 0 ≤ s) (h1 : s < 1152921504606846976) : Inv L s L.length s :=
  ⟨h0, h1, fun _ h => h, fun _ h => .inl h, fun i h1 h2 => by omega⟩

theorem inv_skip {L : List K} {s r : Int} {m : Nat} (h : Inv L s (m + 1) r) (hb : bit r m = false) : Inv L s m r :=
  ⟨h.lo, h.hi, h.start, h.sound, fun i hi hl hr j hj => by
    by_cases e : i = m
    · subst e; rw [hb] at hr; exact Bool.noConfusion hr
    · exact h.done i (by omega) hl hr j hj⟩

theorem inv_take {L : List K} (hl : Lc.laceB L = true) {s r : Int} {m : Nat} (hm : m < L.length) (h : Inv L s (m + 1) r) (hb : bit r m = true) : Inv L s m (orB r (at' L m).frm) := by
  have hf := frm_lace hl _ (Lc.at_mem L m hm)
  have hbd := orB_bd r (at' L m).frm h.lo h.hi hf.1 hf.2
  refine ⟨hbd.1, hbd.2, ?_, ?_, ?_⟩
  · intro j hj; rw [bit_orB _ _ h.lo hf.1, h.start j hj]; rfl
  · intro j hj
    rw [bit_orB _ _ h.lo hf.1, Bool.or_eq_true] at hj
    rcases hj with hj | hj
    · exact h.sound j hj
    · rcases h.sound m hb with hs | ⟨i, hi, hs, hr⟩
      · exact .inr ⟨m, hm, hs, .step hj (.self _)⟩
      · exact .inr ⟨i, hi, hs, hr.trans (.step hj (.self _))⟩
  · intro i hi hil hr j hj
    rw [bit_orB _ _ h.lo hf.1, Bool.or_eq_true] at hr ⊢
    by_cases e : i = m
    · subst e; exact .inr hj
    · rcases hr with hr | hr
      · exact .inl (h.done i (by omega) hil hr j hj)
      · have := thread_lt hl hm hr; omega

/-- all that hangs below one of the set has been reached -/
theorem inv_reach {L : List K} (hl : Lc.laceB L = true) {s r : Int} (h : Inv L s 0 r) {i j : Nat} (hi : i < L.length) (hb : bit r i = true) (hr : Reach L i j) : bit r j = true := by
  induction hr with
  | self => exact hb
  | step hm _ ih => exact ih (Nat.lt_trans (thread_lt hl hi hm) hi) (h.done _ (Nat.zero_le _) hi hb _ hm)

/-- those met so far are kept -/
structure Met (L : List K) (m : Nat) (r f : Int) : Prop where
  lo : 0 ≤ f
  hi : f < 1152921504606846976
  has : ∀ j, bit f j = true ↔ m ≤ j ∧ j < L.length ∧ bit r j = true

theorem met_start (L : List K) (s : Int) : Met L L.length s 0 := ⟨by omega, by omega, fun j => by rw [Lc.bit_zero]; simp; omega⟩

theorem met_skip {L : List K} {r f : Int} {m : Nat} (h : Met L (m + 1) r f) (hb : bit r m = false) : Met L m r f :=
  ⟨h.lo, h.hi, fun j => by
    rw [h.has j]
    constructor
    · rintro ⟨a, b, c⟩; exact ⟨by omega, b, c⟩
    · rintro ⟨a, b, c⟩
      refine ⟨?_, b, c⟩
      apply Classical.byContradiction
      intro hn
      obtain rfl : j = m := by omega
      rw [hb] at c; exact Bool.noConfusion c⟩

theorem met_take {L : List K} (hl : Lc.laceB L = true) {s r f : Int} {m : Nat} (hm : m < L.length) (hi : Inv L s (m + 1) r) (h : Met L (m + 1) r f) (hb : bit r m = true) : Met L m (orB r (at' L m).frm) (withB f m) := by
  have h60 := ((Lc.lace_iff L).1 hl).1
  have hf := frm_lace hl _ (Lc.at_mem L m hm)
  have hbd := Bit.withB_bd f h.lo h.hi m (by omega)
  refine ⟨hbd.1, hbd.2, fun j => ?_⟩
  rw [Bit.bit_withB f h.lo, bit_orB _ _ hi.lo hf.1]
  simp only [Bool.or_eq_true, decide_eq_true_eq]
  rw [h.has j]
  constructor
  · rintro (rfl | ⟨a, b, c⟩)
    · exact ⟨Nat.le_refl _, hm, .inl hb⟩
    · exact ⟨by omega, b, .inl c⟩
  · rintro ⟨a, b, c | c⟩
    · by_cases e : j = m
      · exact .inl e
      · exact .inr ⟨by omega, b, c⟩
    · have := thread_lt hl hm c; omega

/-- a set of one -/
def oneI (k : Int) : Int := if 0 ≤ k ∧ k < 60 then 2 ^ k.toNat else 0

theorem oneI_bd (k : Int) : 0 ≤ oneI k ∧ oneI k < 1152921504606846976 := by
  unfold oneI
  split
  · rename_i h; have := Base.pow_bd k.toNat (by omega); exact ⟨by omega, this.2⟩
  · omega

theorem bit_oneI (k : Int) (j : Nat) : bit (oneI k) j = true ↔ k = (j : Int) ∧ j < 60 := by
  unfold oneI
  split
  · rename_i h; rw [bit_pow]; simp; omega
  · rw [Lc.bit_zero]; simp; omega

/-- what the walk from one has met at its end -/
def metI (L : List K) (k : Int) : Int := if 0 ≤ k ∧ k < (L.length : Int) then bel L k.toNat else 0

theorem met_end {L : List K} (hl : Lc.laceB L = true) {k r f : Int} (hi : Inv L (oneI k) 0 r) (h : Met L 0 r f) : f = metI L k := by
  have h60 := ((Lc.lace_iff L).1 hl).1
  unfold metI
  split
  · rename_i hk
    obtain ⟨p, rfl⟩ := Int.eq_ofNat_of_zero_le hk.1
    rw [Int.toNat_natCast]
    have hp : p < L.length := by omega
    have hbd := bel_bd L p (by omega)
    refine Lc.eq_of_bits _ _ h.lo hbd.1 fun j => ?_
    rw [Bool.eq_iff_iff, h.has j, bel_reach hl p hp j]
    constructor
    · rintro ⟨_, _, c⟩
      rcases hi.sound j c with hs | ⟨i, _, hs, hr⟩
      · have := ((bit_oneI _ _).1 hs).1
        obtain rfl : p = j := by omega
        exact .self _
      · have := ((bit_oneI _ _).1 hs).1
        obtain rfl : p = i := by omega
        exact hr
    · intro hr
      have := reach_le hl hp hr
      refine ⟨Nat.zero_le _, by omega, ?_⟩
      exact inv_reach hl hi hp (hi.start p ((bit_oneI _ _).2 ⟨rfl, by omega⟩)) hr
  · rename_i hk
    refine Lc.eq_of_bits _ _ h.lo (Int.le_refl _) fun j => ?_
    rw [Lc.bit_zero, Bool.eq_false_iff]
    intro hj
    obtain ⟨_, hjl, c⟩ := (h.has j).1 hj
    rcases hi.sound j c with hs | ⟨i, hil, hs, _⟩
    · have := ((bit_oneI _ _).1 hs).1; omega
    · have := ((bit_oneI _ _).1 hs).1; omega

/-! ### closed -/
/-- all that is met is in the set, so far -/
def Kept (L : List K) (s : Int) (m : Nat) (r : Int) : Prop := ∀ j, m ≤ j → j < L.length → bit r j = true → bit s j = true

theorem kept_start (L : List K) (s r : Int) : Kept L s L.length r := fun j h1 h2 => by omega

theorem kept_skip {L : List K} {s r : Int} {m : Nat} (h : Kept L s (m + 1) r) (hb : bit r m = false) : Kept L s m r := fun j h1 h2 h3 => by
  by_cases e : j = m
  · subst e; rw [hb] at h3; exact Bool.noConfusion h3
  · exact h j (by omega) h2 h3

theorem kept_take {L : List K} (hl : Lc.laceB L = true) {s r : Int} {m : Nat} (hm : m < L.length) (hi : Inv L s (m + 1) r) (h : Kept L s (m + 1) r) (hs : bit s m = true) : Kept L s m (orB r (at' L m).frm) := fun j h1 h2 h3 => by
  have hf := frm_lace hl _ (Lc.at_mem L m hm)
  by_cases e : j = m
  · subst e; exact hs
  · rw [bit_orB _ _ hi.lo hf.1, Bool.or_eq_true] at h3
    rcases h3 with h3 | h3
    · exact h j (by omega) h2 h3
    · have := thread_lt hl hm h3; omega

theorem reach_in {L : List K} (hl : Lc.laceB L = true) {s : Int} (h : ∀ i, i < L.length → bit s i = true → ∀ m, bit (at' L i).frm m = true → bit s m = true) {i j : Nat} (hi : i < L.length) (hb : bit s i = true) (hr : Reach L i j) : bit s j = true := by
  induction hr with
  | self => exact hb
  | step hm _ ih => exact ih (Nat.lt_trans (thread_lt hl hi hm) hi) (h _ hi hb _ hm)

theorem closed_end {L : List K} (hl : Lc.laceB L = true) {s r : Int} (h0 : 0 ≤ s) (h1 : s < 1152921504606846976) (hi : Inv L s 0 r) (h : Kept L s 0 r) : closedTo (belows L L.length) s L.length = true := by
  rw [closed_threads hl s h0 h1]
  intro i hil hb m hm
  have := thread_lt hl hil hm
  exact h m (Nat.zero_le _) (by omega) (hi.done i (Nat.zero_le _) hil (hi.start i hb) m hm)

theorem closed_not {L : List K} (hl : Lc.laceB L = true) {s r : Int} (h0 : 0 ≤ s) (h1 : s < 1152921504606846976) {m j : Nat} (hi : Inv L s m r) (hr : bit r j = true) (hs : bit s j = false) : closedTo (belows L L.length) s L.length = false := by
  rw [Bool.eq_false_iff]
  intro hc
  rw [closed_threads hl s h0 h1] at hc
  rcases hi.sound j hr with h | ⟨i, hil, hb, hre⟩
  · rw [hs] at h; exact Bool.noConfusion h
  · have := reach_in hl hc hil hb hre
    rw [hs] at this; exact Bool.noConfusion this

/-! ### tips -/
theorem bit_andNot (a s : Int) (h0 : 0 ≤ a) (h1 : a < 1152921504606846976) (h2 : 0 ≤ s) (h3 : s < 1152921504606846976) (i : Nat) : bit (bits .andNot .i64 a s) i = (bit a i && !bit s i) := by
  obtain ⟨A, rfl⟩ := Int.eq_ofNat_of_zero_le h0
  obtain ⟨S, rfl⟩ := Int.eq_ofNat_of_zero_le h2
  have hA : (BitVec.ofInt 64 (A : Int)).toNat = A := ofInt_u64 A (by omega)
  have hS : (BitVec.ofInt 64 (S : Int)).toNat = S := ofInt_u64 S (by omega)
  have hx : (BitVec.ofInt 64 (A : Int) &&& ~~~ BitVec.ofInt 64 (S : Int)).toNat ≤ A := by
    rw [BitVec.toNat_and, hA]; exact Nat.and_le_left
  have e : bits .andNot .i64 (A : Int) (S : Int) = ((BitVec.ofInt 64 (A : Int) &&& ~~~ BitVec.ofInt 64 (S : Int)).toNat : Int) := by
    show IntKind.i64.wrap ((BitVec.ofInt 64 (A : Int) &&& ~~~ BitVec.ofInt 64 (S : Int)).toNat : Int) = _
    rw [IntKind.wrap_i64]; omega
  have hn : (0 : Int) ≤ ((BitVec.ofInt 64 (A : Int) &&& ~~~ BitVec.ofInt 64 (S : Int)).toNat : Int) := by omega
  rw [e, Bit.bit_testBit _ hn, Int.toNat_natCast, Bit.bit_testBit _ h0, Bit.bit_testBit _ h2, Int.toNat_natCast, Int.toNat_natCast]
  by_cases h64 : i < 64
  · show (BitVec.ofInt 64 (A : Int) &&& ~~~ BitVec.ofInt 64 (S : Int)).getLsbD i = _
    rw [BitVec.getLsbD_and, BitVec.getLsbD_not, BitVec.getLsbD, hA, BitVec.getLsbD, hS]
    simp [h64]
  · have ha : A.testBit i = false := Nat.testBit_lt_two_pow (Nat.lt_of_lt_of_le (show A < 2 ^ 64 by omega) (Nat.pow_le_pow_right (by decide) (by omega)))
    have hb : (BitVec.ofInt 64 (A : Int) &&& ~~~ BitVec.ofInt 64 (S : Int)).toNat.testBit i = false := Nat.testBit_lt_two_pow (Nat.lt_of_lt_of_le (show _ < 2 ^ 64 by omega) (Nat.pow_le_pow_right (by decide) (by omega)))
    rw [ha, hb]; rfl

theorem andNot_bd' (a s : Int) (h0 : 0 ≤ a) (h1 : a < 1152921504606846976) : 0 ≤ bits .andNot .i64 a s ∧ bits .andNot .i64 a s < 1152921504606846976 := by
  obtain ⟨A, rfl⟩ := Int.eq_ofNat_of_zero_le h0
  have hA : (BitVec.ofInt 64 (A : Int)).toNat = A := ofInt_u64 A (by omega)
  have hx : (BitVec.ofInt 64 (A : Int) &&& ~~~ BitVec.ofInt 64 s).toNat ≤ A := by
    rw [BitVec.toNat_and, hA]; exact Nat.and_le_left
  have e : bits .andNot .i64 (A : Int) s = ((BitVec.ofInt 64 (A : Int) &&& ~~~ BitVec.ofInt 64 s).toNat : Int) := by
    show IntKind.i64.wrap ((BitVec.ofInt 64 (A : Int) &&& ~~~ BitVec.ofInt 64 s).toNat : Int) = _
    rw [IntKind.wrap_i64]; omega
  rw [e]; omega

theorem tipsTo_bd (l : List Int) (s : Int) (n : Nat) (h0 : 0 ≤ s) (h1 : s < 1152921504606846976) : 0 ≤ tipsTo l s n ∧ tipsTo l s n < 1152921504606846976 := by
  induction n with
  | zero => exact ⟨h0, h1⟩
  | succ n ih =>
    unfold tipsTo
    split
    · exact andNot_bd' _ _ ih.1 ih.2
    · exact ih

theorem bit_tips (L : List K) (s : Int) (n N : Nat) (hn : n ≤ N) (hN : N ≤ 60) (h0 : 0 ≤ s) (h1 : s < 1152921504606846976) (j : Nat) : bit (tipsTo (belows L N) s n) j = true ↔ bit s j = true ∧ ∀ i, i < n → bit s i = true → j ≠ i → bit (bel L i) j = false := by
  induction n with
  | zero => unfold tipsTo; simp
  | succ n ih =>
    have ih := ih (by omega)
    have hbd := tipsTo_bd (belows L N) s n h0 h1
    have hb := bel_bd L n (by omega)
    have hp := Base.pow_bd n (by omega)
    have hg := belows_get L N n (by omega)
    unfold tipsTo
    cases hs : bit s n
    · simp only [Bool.false_eq_true, if_false]
      rw [ih]
      constructor
      · rintro ⟨a, b⟩
        refine ⟨a, fun i hi hb' hj => ?_⟩
        by_cases e : i = n
        · subst e; rw [hs] at hb'; exact Bool.noConfusion hb'
        · exact b i (by omega) hb' hj
      · rintro ⟨a, b⟩; exact ⟨a, fun i hi hb' hj => b i (by omega) hb' hj⟩
    · simp only [if_true]
      have hq := andNot_bd' (bel L n) (2 ^ n) hb.1 hb.2
      rw [hg, bit_andNot _ _ hbd.1 hbd.2 hq.1 hq.2, bit_andNot _ _ hb.1 hb.2 (by omega) hp.2, bit_pow, Bool.and_eq_true, ih]
      constructor
      · rintro ⟨⟨a, b⟩, c⟩
        refine ⟨a, fun i hi hb' hj => ?_⟩
        by_cases e : i = n
        · subst e
          rw [decide_eq_false hj] at c
          simpa using c
        · exact b i (by omega) hb' hj
      · rintro ⟨a, b⟩
        refine ⟨⟨a, fun i hi hb' hj => b i (by omega) hb' hj⟩, ?_⟩
        by_cases e : j = n
        · rw [decide_eq_true e]; simp
        · rw [b n (by omega) hs e]; rfl

/-- those of the set that no thread of a met one leads to -/
structure Unseen (L : List K) (s : Int) (m : Nat) (r u : Int) : Prop where
  lo : 0 ≤ u
  hi : u < 1152921504606846976
  has : ∀ j, bit u j = true ↔ bit s j = true ∧ ∀ i, m ≤ i → i < L.length → bit r i = true → bit (at' L i).frm j = false

theorem unseen_start (L : List K) (s r : Int) (h0 : 0 ≤ s) (h1 : s < 1152921504606846976) : Unseen L s L.length r s := ⟨h0, h1, fun j => ⟨fun h => ⟨h, fun i h1 h2 => by omega⟩, fun h => h.1⟩⟩

theorem unseen_skip {L : List K} {s r u : Int} {m : Nat} (h : Unseen L s (m + 1) r u) (hb : bit r m = false) : Unseen L s m r u :=
  ⟨h.lo, h.hi, fun j => by
    rw [h.has j]
    constructor
    · rintro ⟨a, b⟩
      refine ⟨a, fun i h1 h2 h3 => ?_⟩
      by_cases e : i = m
      · subst e; rw [hb] at h3; exact Bool.noConfusion h3
      · exact b i (by omega) h2 h3
    · rintro ⟨a, b⟩; exact ⟨a, fun i h1 h2 h3 => b i (by omega) h2 h3⟩⟩

theorem unseen_take {L : List K} (hl : Lc.laceB L = true) {s r u : Int} {m : Nat} (hm : m < L.length) (hi : Inv L s (m + 1) r) (h : Unseen L s (m + 1) r u) (hb : bit r m = true) : Unseen L s m (orB r (at' L m).frm) (bits .andNot .i64 u (at' L m).frm) := by
  have hf := frm_lace hl _ (Lc.at_mem L m hm)
  have hbd := andNot_bd' u (at' L m).frm h.lo h.hi
  refine ⟨hbd.1, hbd.2, fun j => ?_⟩
  rw [bit_andNot _ _ h.lo h.hi hf.1 hf.2, Bool.and_eq_true, h.has j]
  constructor
  · rintro ⟨⟨a, b⟩, c⟩
    refine ⟨a, fun i h1 h2 h3 => ?_⟩
    rw [bit_orB _ _ hi.lo hf.1, Bool.or_eq_true] at h3
    by_cases e : i = m
    · subst e; simpa using c
    · rcases h3 with h3 | h3
      · exact b i (by omega) h2 h3
      · have := thread_lt hl hm h3; omega
  · rintro ⟨a, b⟩
    refine ⟨⟨a, fun i h1 h2 h3 => b i (by omega) h2 (by rw [bit_orB _ _ hi.lo hf.1, h3]; rfl)⟩, ?_⟩
    rw [b m (Nat.le_refl _) hm (by rw [bit_orB _ _ hi.lo hf.1, hb]; rfl)]; rfl

theorem reach_last {L : List K} {i j : Nat} (h : Reach L i j) : j = i ∨ ∃ p, Reach L i p ∧ bit (at' L p).frm j = true := by
  induction h with
  | self => exact .inl rfl
  | @step i m j hb hr ih =>
    rcases ih with rfl | ⟨p, hp, hq⟩
    · exact .inr ⟨i, .self _, hb⟩
    · exact .inr ⟨p, .step hb hp, hq⟩

theorem tips_end {L : List K} (hl : Lc.laceB L = true) {s r u : Int} (h0 : 0 ≤ s) (h1 : s < 1152921504606846976) (hc : closedTo (belows L L.length) s L.length = true) (hi : Inv L s 0 r) (h : Unseen L s 0 r u) : u = tipsTo (belows L L.length) s L.length := by
  have h60 := ((Lc.lace_iff L).1 hl).1
  have hbd := tipsTo_bd (belows L L.length) s L.length h0 h1
  rw [closed_threads hl s h0 h1] at hc
  refine Lc.eq_of_bits _ _ h.lo hbd.1 fun j => ?_
  rw [Bool.eq_iff_iff, h.has j, bit_tips L s L.length L.length (Nat.le_refl _) h60 h0 h1 j]
  constructor
  · rintro ⟨a, b⟩
    refine ⟨a, fun i hil hs hj => ?_⟩
    rw [Bool.eq_false_iff]
    intro hbe
    rcases reach_last ((bel_reach hl i hil j).1 hbe) with e | ⟨p, hp, hq⟩
    · exact hj e
    · have hpl := reach_le hl hil hp
      have := b p (Nat.zero_le _) (by omega) (hi.start p (reach_in hl hc hil hs hp))
      rw [this] at hq; exact Bool.noConfusion hq
  · rintro ⟨a, b⟩
    refine ⟨a, fun i _ hil hr => ?_⟩
    rw [Bool.eq_false_iff]
    intro hbf
    have hs : bit s i = true := by
      rcases hi.sound i hr with h | ⟨i', hil', hs', hre⟩
      · exact h
      · exact reach_in hl hc hil' hs' hre
    have hlt := thread_lt hl hil hbf
    have := b i hil hs (by omega)
    rw [(bel_reach hl i hil j).2 (.step hbf (.self _))] at this
    exact Bool.noConfusion this

/-! ### what the walk meets, in its order -/
def visF (L : List K) : (m : Nat) → m ≤ L.length → Int → List (Fin L.length)
  | 0, _, _ => []
  | m + 1, h, r => if bit r m then ⟨m, h⟩ :: visF L m (Nat.le_of_succ_le h) (orB r (at' L m).frm) else visF L m (Nat.le_of_succ_le h) r

def vis (L : List K) (s : Int) : List (Fin L.length) := visF L L.length (Nat.le_refl _) s

theorem visF_yes (L : List K) (m : Nat) (h : m + 1 ≤ L.length) (r : Int) (hb : bit r m = true) : visF L (m + 1) h r = ⟨m, h⟩ :: visF L m (Nat.le_of_succ_le h) (orB r (at' L m).frm) := by
  show (if bit r m then _ else _) = _
  rw [hb]; rfl
theorem visF_no (L : List K) (m : Nat) (h : m + 1 ≤ L.length) (r : Int) (hb : bit r m = false) : visF L (m + 1) h r = visF L m (Nat.le_of_succ_le h) r := by
  show (if bit r m then _ else _) = _
  rw [hb]; rfl

theorem visF_len (L : List K) (m : Nat) (h : m ≤ L.length) (r : Int) : (visF L m h r).length ≤ m := by
  induction m generalizing r with
  | zero => exact Nat.le_refl _
  | succ m ih =>
    cases hb : bit r m
    · rw [visF_no L m h r hb]; have := ih (Nat.le_of_succ_le h) r; omega
    · rw [visF_yes L m h r hb]; have := ih (Nat.le_of_succ_le h) (orB r (at' L m).frm); simp; omega

theorem vis_len (L : List K) (s : Int) : (vis L s).length ≤ L.length := visF_len L _ _ s

/-- those gathered -/
def gath {n : Nat} (f : Int) (xs : List (Fin n)) : Int := xs.foldl (fun f x => withB f x.val) f
theorem gath_snoc {n : Nat} (f : Int) (xs : List (Fin n)) (x : Fin n) : gath f (xs ++ [x]) = withB (gath f xs) x.val := by simp [gath]

theorem gath_bd {n : Nat} (hn : n ≤ 60) (xs : List (Fin n)) : 0 ≤ gath 0 xs ∧ gath 0 xs < 1152921504606846976 := by
  have : ∀ (xs : List (Fin n)) (f : Int), 0 ≤ f → f < 1152921504606846976 → 0 ≤ gath f xs ∧ gath f xs < 1152921504606846976 := by
    intro xs
    induction xs with
    | nil => intro f h0 h1; exact ⟨h0, h1⟩
    | cons x xs ih =>
      intro f h0 h1
      have hx := x.isLt
      have hb := Bit.withB_bd f h0 h1 x.val (by omega)
      exact ih _ hb.1 hb.2
  exact this xs 0 (by omega) (by omega)

theorem gath_vis {L : List K} (hl : Lc.laceB L = true) (k : Int) : gath 0 (vis L (oneI k)) = metI L k := by
  have h60 := ((Lc.lace_iff L).1 hl).1
  have : ∀ (m : Nat) (h : m ≤ L.length) (r f : Int), Inv L (oneI k) m r → Met L m r f → gath f (visF L m h r) = metI L k := by
    intro m
    induction m with
    | zero => intro h r f hi hm; exact met_end hl hi hm
    | succ m ih =>
      intro h r f hi hm
      cases hb : bit r m
      · rw [visF_no L m h r hb]; exact ih _ r f (inv_skip hi hb) (met_skip hm hb)
      · rw [visF_yes L m h r hb]; exact ih _ _ _ (inv_take hl h hi hb) (met_take hl h hi hm hb)
  exact this L.length (Nat.le_refl _) (oneI k) 0 (inv_start L _ (oneI_bd k).1 (oneI_bd k).2) (met_start L _)

theorem vis_closed {L : List K} (hl : Lc.laceB L = true) (s : Int) (h0 : 0 ≤ s) (h1 : s < 1152921504606846976) : (∀ x ∈ vis L s, bit s x.val = true) ↔ closedTo (belows L L.length) s L.length = true := by
  have : ∀ (m : Nat) (h : m ≤ L.length) (r : Int), Inv L s m r → Kept L s m r → ((∀ x ∈ visF L m h r, bit s x.val = true) ↔ closedTo (belows L L.length) s L.length = true) := by
    intro m
    induction m with
    | zero => intro h r hi hk; exact ⟨fun _ => closed_end hl h0 h1 hi hk, fun _ x hx => by cases hx⟩
    | succ m ih =>
      intro h r hi hk
      cases hb : bit r m
      · rw [visF_no L m h r hb]; exact ih _ r (inv_skip hi hb) (kept_skip hk hb)
      · rw [visF_yes L m h r hb]
        cases hs : bit s m
        · constructor
          · intro hx
            have := hx ⟨m, h⟩ (List.mem_cons_self ..)
            rw [hs] at this; exact Bool.noConfusion this
          · intro hc
            rw [closed_not hl h0 h1 hi hb hs] at hc; exact Bool.noConfusion hc
        · have := ih (Nat.le_of_succ_le h) _ (inv_take hl h hi hb) (kept_take hl h hi hk hs)
          rw [← this]
          constructor
          · intro hx x hm; exact hx x (List.mem_cons_of_mem _ hm)
          · intro hx x hm
            rcases List.mem_cons.1 hm with rfl | hm
            · exact hs
            · exact hx x hm
  exact this L.length (Nat.le_refl _) s (inv_start L _ h0 h1) (kept_start L s s)

/-- what is left of a set when the threads of those are struck -/
def strike (L : List K) (u : Int) (xs : List (Fin L.length)) : Int := xs.foldl (fun u x => bits .andNot .i64 u (at' L x.val).frm) u
theorem strike_snoc (L : List K) (u : Int) (xs : List (Fin L.length)) (x : Fin L.length) : strike L u (xs ++ [x]) = bits .andNot .i64 (strike L u xs) (at' L x.val).frm := by simp [strike]

theorem strike_vis {L : List K} (hl : Lc.laceB L = true) (s : Int) (h0 : 0 ≤ s) (h1 : s < 1152921504606846976) (hc : closedTo (belows L L.length) s L.length = true) : strike L s (vis L s) = tipsTo (belows L L.length) s L.length := by
  have : ∀ (m : Nat) (h : m ≤ L.length) (r u : Int), Inv L s m r → Unseen L s m r u → strike L u (visF L m h r) = tipsTo (belows L L.length) s L.length := by
    intro m
    induction m with
    | zero => intro h r u hi hu; exact tips_end hl h0 h1 hc hi hu
    | succ m ih =>
      intro h r u hi hu
      cases hb : bit r m
      · rw [visF_no L m h r hb]; exact ih _ r u (inv_skip hi hb) (unseen_skip hu hb)
      · rw [visF_yes L m h r hb]; exact ih _ _ _ (inv_take hl h hi hb) (unseen_take hl h hi hu hb)
  exact this L.length (Nat.le_refl _) s s (inv_start L _ h0 h1) (unseen_start L s s h0 h1)

end Sg
end Go.Proofs.Ytcbfdfddifmeiaa

namespace Go.Proofs.Ytcbfdfddifmeiaa
open Go.RowKit
set_option maxRecDepth 100000
namespace Lc
open Kn (K okK)
open Bit (bit withB)

theorem pow60 (n : Nat) (hn : n ≤ 60) : (1 : Int) ≤ 2 ^ n ∧ (2 : Int) ^ n ≤ 1152921504606846976 := by
  have hp : 1 ≤ 2 ^ n := Nat.one_le_two_pow
  have hq : 2 ^ n ≤ 2 ^ 60 := Nat.pow_le_pow_right (by decide) hn
  have hpc : ((2 ^ n : Nat) : Int) = (2 : Int) ^ n := by simp
  omega

theorem wrap60 (n : Nat) (hn : n ≤ 60) : IntKind.i64.wrap (2 ^ n) = 2 ^ n := by
  have := pow60 n hn
  rw [IntKind.wrap_i64]; omega

/-- within the lace -/
def inL (n : Nat) (s : Int) : Bool := decide (0 ≤ s) && decide (s / 2 ^ n = 0)

set_option maxHeartbeats 400000 in
theorem all (a : Option Addr) (cap n : Nat) (w : World) (hn : n ≤ 60) : Calls Try.prog 40 #[.slice a n cap] w fun e w' => e = .returned (.int .i64 (2 ^ n - 1)) ∧ w = w' := by
  have h1 := wrap60 n hn
  have h2 := pow60 n hn
  go_enter Try.func40, Try.ntmps40
  go_wp2
  go_ret
  exact ⟨rfl, rfl⟩

theorem setB_eq (L : List K) (s : Int) : setB L s = (laceB L && inL L.length s) := rfl

end Lc
end Go.Proofs.Ytcbfdfddifmeiaa

namespace Go.Proofs.Ytcbfdfddifmeiaa
open Go.RowKit
set_option maxRecDepth 100000
attribute [local go_sem] Oper.semAt_some
namespace Sg
open Kn (K okK)
open Bit (bit withB)
open Lc (at' RdK CellsK)

/-- what a round keeps: whatever lay below n₀, and the walk's own box for the lace -/
def KpL (n₀ Bl : Nat) (W W' : World) : Prop := Below n₀ W W' ∧ W'.heap[Bl]? = W.heap[Bl]?
theorem kpL_t {n₀ Bl : Nat} {A B C : World} (h : KpL n₀ Bl A B) (k : KpL n₀ Bl B C) : KpL n₀ Bl A C := ⟨h.1.trans k.1, k.2.trans h.2⟩
theorem kpL_b {n₀ Bl : Nat} {w : World} (hn : n₀ ≤ w.heap.size) (hB : Bl < w.heap.size) (W : World) (l : Nat) (o o' : Obj) (hl : w.heap.size ≤ l) (h : W.heap[l]? = some o) (h1 : o.isCells = false) (h2 : o.isWalk = false) : KpL n₀ Bl W (W.putObj l o') :=
  ⟨belowK_b hn W l o o' hl h h1 h2, World.putObj_heap_other (by omega)⟩
theorem kpL_refl (n₀ Bl : Nat) (W : World) : KpL n₀ Bl W W := ⟨Below.refl _ _, rfl⟩
theorem kpL_put {n₀ Bl : Nat} (W : World) (b : Nat) (hb : n₀ ≤ b) (hB : Bl ≠ b) (u : Value) : KpL n₀ Bl W (W.setCell ⟨b, 0, none⟩ u) :=
  ⟨(Below.refl n₀ W).setCell (p := ⟨b, 0, none⟩) hb u, Below.heap_setCell W ⟨b, 0, none⟩ u Bl hB⟩

theorem cellsK_at {n₀ : Nat} {w w' : World} {g o : Nat} {k : K} (h : CellsK w g o k) (hb : Below n₀ w w') (hg : g < n₀) : CellsK w' g o k where
  c0 := (hb.cell (p := ⟨g, o, none⟩) hg).trans h.c0
  c1 := (hb.cell (p := ⟨g, o + 1, none⟩) hg).trans h.c1
  c2 := (hb.cell (p := ⟨g, o + 2, none⟩) hg).trans h.c2
  c3 := (hb.cell (p := ⟨g, o + 3, none⟩) hg).trans h.c3

theorem cell_block {w w' : World} {b : Nat} (h : w'.heap[b]? = w.heap[b]?) : w'.cell? ⟨b, 0, none⟩ = w.cell? ⟨b, 0, none⟩ := World.cell?_of_block (w := w) h

end Sg
end Go.Proofs.Ytcbfdfddifmeiaa

namespace Go.Proofs.Ytcbfdfddifmeiaa
open Go.RowKit Go.Shelf
set_option maxRecDepth 100000
attribute [local go_sem] Oper.semAt_some
namespace Sg
open Kn (K okK)
open Bit (bit withB)
open Lc (at' RdK CellsK)

theorem boxNew (W : World) (v : Value) (t : TypeId) : (W.alloc (.cells #[v] t)).cell? ⟨W.heap.size, 0, none⟩ = some v ∧ (W.alloc (.cells #[v] t)).frozen? ⟨W.heap.size, 0, none⟩ = false := ⟨by simp, by simp⟩
theorem boxCell {W : World} {a : Addr} {v : Value} (o : Obj) (h : W.cell? a = some v) : (W.alloc o).cell? a = some v := cell_kept h (World.grownBy_alloc W o none) (fun r e => by cases e)
theorem boxFrozen {W : World} {a : Addr} {v : Value} (o : Obj) (h : W.cell? a = some v) (hf : W.frozen? a = false) : (W.alloc o).frozen? a = false := (frozen_kept h (World.grownBy_alloc W o none) (fun r e => by cases e)).trans hf

theorem kpL_drew {n₀ Bl : Nat} {W W' : World} (h : KpL n₀ Bl W W') : KpL n₀ Bl W W'.drew := ⟨h.1.drew, h.2⟩
theorem put_other (W : World) (b c : Nat) (hbc : b ≠ c) (u : Value) : (W.setCell ⟨c, 0, none⟩ u).cell? ⟨b, 0, none⟩ = W.cell? ⟨b, 0, none⟩ := cell_block (Below.heap_setCell W ⟨c, 0, none⟩ u b hbc)

theorem with_one (k : Int) : Base.withI 0 k = oneI k := by
  unfold Base.withI oneI
  by_cases h : 0 ≤ k ∧ k < 60
  · rw [(Base.inB_iff k).2 h, (Base.okB_iff 0).2 (by omega), if_pos h]
    simp [Bit.withB]
  · have : Base.inB k = false := by
      cases hb : Base.inB k
      · rfl
      · exact absurd ((Base.inB_iff k).1 hb) h
    rw [this, if_neg h]; simp

theorem vis_in {L : List K} {s : Int} {pre : List (Fin L.length)} (hp : pre <+: vis L s) {y : Fin L.length} (hy : y ∈ pre) : y ∈ vis L s := hp.subset hy

/-- what the walk from a has met has b just where a sees b -/
theorem met_sees {L : List K} (hlc : Lc.laceB L = true) (a b : Int) : (Base.okB (metI L a) && (Base.inB b && bit (metI L a) b.toNat)) = seesB L a b := by
  have h60 := ((Lc.lace_iff L).1 hlc).1
  unfold seesB isB metI
  rw [hlc]
  by_cases ha : 0 ≤ a ∧ a < (L.length : Int)
  · obtain ⟨p, rfl⟩ := Int.eq_ofNat_of_zero_le ha.1
    have hp : p < L.length := by omega
    have hbd := bel_bd L p (by omega)
    rw [if_pos ha, Int.toNat_natCast, (Base.okB_iff _).2 hbd]
    by_cases hb : 0 ≤ b ∧ b < (L.length : Int)
    · rw [(Base.inB_iff b).2 ⟨hb.1, by omega⟩, decide_eq_true ha.1, decide_eq_true ha.2, decide_eq_true hb.1, decide_eq_true hb.2]; rfl
    · have e2 : (decide (0 ≤ b) && (decide (b < (L.length : Int)) && true)) = false := by
        rw [Bool.eq_false_iff]; intro h; simp at h; exact hb h
      rw [e2]
      simp only [Bool.false_and, Bool.and_false, Bool.true_and]
      rw [Bool.eq_false_iff]
      intro h
      rw [Bool.and_eq_true] at h
      have hb0 := (Base.inB_iff b).1 h.1
      have := reach_le hlc hp ((bel_reach hlc p hp b.toNat).1 h.2)
      exact hb ⟨hb0.1, by omega⟩
  · have e1 : (decide (0 ≤ a) && (decide (a < (L.length : Int)) && true)) = false := by
      rw [Bool.eq_false_iff]; intro h; simp at h; exact ha h
    rw [if_neg ha, e1, Lc.bit_zero]; simp

/-- a number that there is a knot for -/
theorem all_has {n : Nat} (hn : n ≤ 60) (k : Int) : (Base.okB (2 ^ n - 1) && (Base.inB k && bit (2 ^ n - 1) k.toNat)) = (decide (0 ≤ k) && decide (k < (n : Int))) := by
  have hp := Lc.pow60 n hn
  have hok : Base.okB (2 ^ n - 1) = true := (Base.okB_iff _).2 ⟨by omega, by omega⟩
  have hb : bit (2 ^ n - 1) k.toNat = decide (k.toNat < n) := by
    have e : ((2 : Int) ^ n - 1) = ((2 ^ n - 1 : Nat) : Int) := by rw [Int.ofNat_sub Nat.one_le_two_pow]; simp
    rw [Bit.bit_testBit _ (by omega), e, Int.toNat_natCast, Nat.testBit_two_pow_sub_one]
  rw [hok, hb, Bool.true_and, Bool.eq_iff_iff]
  simp only [Bool.and_eq_true, decide_eq_true_eq, Base.inB_iff]
  omega

theorem closedB_eq (L : List K) (s : Int) (hl : Lc.laceB L = true) : (Lc.inL L.length s && closedTo (belows L L.length) s L.length) = closedB L s := by
  unfold closedB; rw [Lc.setB_eq, hl]; rfl

end Sg
end Go.Proofs.Ytcbfdfddifmeiaa

namespace Go.Proofs.Ytcbfdfddifmeiaa
open Go.RowKit
set_option maxRecDepth 100000
namespace Rm
open Kn (K okK)
open Bit (bit memTo)
open Lc (at' RdK laceB flat OwnK cellsOf setB)
open Sg (bel belows orB closedB tipsI tipsTo closedTo seesB belowI isB)
open Cur (At)

theorem code_below2 {w w' : World} {a : Option Addr} {len : Nat} (h : Cur.Code w a len) (hb : Below w.heap.size w w') : Cur.Code w' a len := by
  rcases h with h | ⟨b, off, ha, hlt, hc⟩
  · exact .inl h
  · refine .inr ⟨b, off, ha, Nat.lt_of_lt_of_le hlt hb.size, fun j hj => ?_⟩
    obtain ⟨z, hz, hz'⟩ := hc j hj
    exact ⟨z, (hb.cell (p := ⟨b, off + j, none⟩) hlt).trans hz, hz'⟩

/-- a list that lies there -/
structure LiesS (w : World) (g : Nat) (L : List K) : Prop where
  rd : RdK w (some ⟨g, 0, none⟩) L
  len : L.length ≤ 61
  words : Lc.WordsOk L

theorem LiesS.below {w w' : World} {g : Nat} {L : List K} (h : LiesS w g L) (hb : Below w.heap.size w w') : LiesS w' g L := ⟨h.rd.below hb, h.len, h.words⟩

theorem drawn_liesS {B : Nat} {w w' : World} {v : Value} {L : List K} (h : Drawn B w w' v L) : ∃ g cp, v = .slice (some ⟨g, 0, none⟩) L.length cp ∧ L.length ≤ cp ∧ LiesS w' g L := by
  obtain ⟨g, cp, rfl, hcp, _, _, _, hrd, _⟩ := Lc.ownK_shape h.own
  exact ⟨g, cp, rfl, hcp, hrd, h.len, fun k hk => by have := h.word k hk; omega⟩

/-- all that hangs below those -/
def accT (L : List K) (l : List Int) : Int := l.foldl (fun a x => orB a (bel L x.toNat)) 0
theorem accT_snoc (L : List K) (l : List Int) (x : Int) : accT L (l ++ [x]) = orB (accT L l) (bel L x.toNat) := by simp [accT]

theorem accT_fold (L : List K) (l : List Int) (hl : ∀ x ∈ l, x.toNat < 60) : ∀ f : Int, 0 ≤ f → f < 1152921504606846976 →
    (0 ≤ l.foldl (fun a x => orB a (bel L x.toNat)) f ∧ l.foldl (fun a x => orB a (bel L x.toNat)) f < 1152921504606846976) ∧ ∀ j, bit (l.foldl (fun a x => orB a (bel L x.toNat)) f) j = (bit f j || l.any (fun x => bit (bel L x.toNat) j)) := by
  induction l with
  | nil => intro f h0 h1; exact ⟨⟨h0, h1⟩, fun j => by simp⟩
  | cons x l ih =>
    intro f h0 h1
    have hb := Sg.bel_bd L x.toNat (hl x (List.mem_cons_self ..))
    have ho := Sg.orB_bd f (bel L x.toNat) h0 h1 hb.1 hb.2
    have r := ih (fun y hy => hl y (List.mem_cons_of_mem _ hy)) (orB f (bel L x.toNat)) ho.1 ho.2
    refine ⟨r.1, fun j => ?_⟩
    show bit (l.foldl (fun a x => orB a (bel L x.toNat)) (orB f (bel L x.toNat))) j = _
    rw [r.2 j, Sg.bit_orB _ _ h0 hb.1, List.any_cons, Bool.or_assoc]

theorem accT_bd (L : List K) (l : List Int) (hl : ∀ x ∈ l, x.toNat < 60) : 0 ≤ accT L l ∧ accT L l < 1152921504606846976 := (accT_fold L l hl 0 (by omega) (by omega)).1
theorem bit_accT (L : List K) (l : List Int) (hl : ∀ x ∈ l, x.toNat < 60) (j : Nat) : bit (accT L l) j = l.any (fun x => bit (bel L x.toNat) j) := by
  rw [show accT L l = l.foldl (fun a x => orB a (bel L x.toNat)) 0 from rfl, (accT_fold L l hl 0 (by omega) (by omega)).2 j, Lc.bit_zero]; rfl

/-- what the law knows of a closed set -/
structure ClosedIs (L : List K) (s : Int) : Prop where
  lace : laceB L = true
  s0 : 0 ≤ s
  s1 : s < 1152921504606846976
  top : s / 2 ^ L.length = 0
  cl : closedTo (belows L L.length) s L.length = true

theorem closedIs {L : List K} {s : Int} (h : closedB L s = true) : ClosedIs L s := by
  unfold Sg.closedB at h
  rw [Bool.and_eq_true] at h
  obtain ⟨hl, h0, h1, ht, _, _⟩ := Lc.setB_parts h.1
  exact ⟨hl, h0, h1, ht, h.2⟩

theorem in_len {L : List K} {s : Int} (h : ClosedIs L s) {j : Nat} (hj : bit s j = true) : j < L.length := by
  apply Classical.byContradiction
  intro hn
  rw [Lc.bit_hi s L.length h.s0 h.top j (by omega)] at hj
  exact Bool.noConfusion hj

theorem tips_iff {L : List K} {s : Int} (h : ClosedIs L s) (j : Nat) : bit (tipsTo (belows L L.length) s L.length) j = true ↔ bit s j = true ∧ ∀ i, i < L.length → bit s i = true → j ≠ i → bit (bel L i) j = false :=
  Sg.bit_tips L s L.length L.length (Nat.le_refl _) ((Lc.lace_iff L).1 h.lace).1 h.s0 h.s1 j

/-- each one of the set hangs below a tip -/
theorem below_tip {L : List K} {s : Int} (h : ClosedIs L s) : ∀ (d i j : Nat), L.length - i = d → bit s i = true → bit (bel L i) j = true → ∃ x, bit (tipsTo (belows L L.length) s L.length) x = true ∧ bit (bel L x) j = true := by
  intro d
  induction d using Nat.strongRecOn with
  | _ d ih =>
    intro i j hd hi hb
    have hil := in_len h hi
    by_cases ht : bit (tipsTo (belows L L.length) s L.length) i = true
    · exact ⟨i, ht, hb⟩
    · have : ∃ i', i' < L.length ∧ bit s i' = true ∧ i ≠ i' ∧ bit (bel L i') i = true := by
        apply Classical.byContradiction
        intro hn
        refine ht ((tips_iff h i).2 ⟨hi, fun i' h1 h2 h3 => ?_⟩)
        cases hq : bit (bel L i') i
        · rfl
        · exact absurd ⟨i', h1, h2, h3, hq⟩ hn
      obtain ⟨i', h1, h2, h3, h4⟩ := this
      have hle := Sg.reach_le h.lace h1 ((Sg.bel_reach h.lace i' h1 i).1 h4)
      exact ih (L.length - i') (by omega) i' j rfl h2 (Sg.bel_trans h.lace h1 h4 hb)

theorem tips_mem {L : List K} {s : Int} (h : ClosedIs L s) {x : Int} (hx : x ∈ Memb.memI (tipsTo (belows L L.length) s L.length)) : ∃ j : Nat, x = (j : Int) ∧ j < L.length ∧ bit s j = true ∧ bit (tipsTo (belows L L.length) s L.length) j = true := by
  have hb := Sg.tipsTo_bd (belows L L.length) s L.length h.s0 h.s1
  unfold Memb.memI at hx
  rw [(Base.okB_iff _).2 hb, if_pos rfl, Bit.mem_memTo] at hx
  obtain ⟨j, _, rfl, hj⟩ := hx
  have hs := ((tips_iff h j).1 hj).1
  exact ⟨j, rfl, in_len h hs, hs, hj⟩

theorem all_tips {L : List K} {s : Int} (h : ClosedIs L s) : accT L (Memb.memI (tipsTo (belows L L.length) s L.length)) = s := by
  have h60 := ((Lc.lace_iff L).1 h.lace).1
  have hb := Sg.tipsTo_bd (belows L L.length) s L.length h.s0 h.s1
  have hl : ∀ x ∈ Memb.memI (tipsTo (belows L L.length) s L.length), x.toNat < 60 := fun x hx => by
    obtain ⟨j, rfl, hj, _⟩ := tips_mem h hx
    rw [Int.toNat_natCast]; omega
  refine Lc.eq_of_bits _ _ (accT_bd L _ hl).1 h.s0 fun j => ?_
  rw [bit_accT L _ hl, Bool.eq_iff_iff, List.any_eq_true]
  constructor
  · rintro ⟨x, hx, hxb⟩
    obtain ⟨i, rfl, hi, hs, _⟩ := tips_mem h hx
    rw [Int.toNat_natCast] at hxb
    exact (Sg.closed_iff L s L.length h60 h.s0 h.s1).1 h.cl i hi hs j hxb
  · intro hj
    have hjl := in_len h hj
    obtain ⟨x, hx, hxb⟩ := below_tip h _ j j rfl hj ((Sg.bel_reach h.lace j hjl j).2 (.self _))
    refine ⟨(x : Int), ?_, by rw [Int.toNat_natCast]; exact hxb⟩
    have hxs := ((tips_iff h x).1 hx).1
    have hxl := in_len h hxs
    unfold Memb.memI
    rw [(Base.okB_iff _).2 hb, if_pos rfl, Bit.mem_memTo]
    exact ⟨x, by omega, rfl, hx⟩

theorem tips_apart {L : List K} {s : Int} (h : ClosedIs L s) {x y : Int} (hx : x ∈ Memb.memI (tipsTo (belows L L.length) s L.length)) (hy : y ∈ Memb.memI (tipsTo (belows L L.length) s L.length)) (hne : x ≠ y) : seesB L x y = false := by
  obtain ⟨i, rfl, hi, hsi, _⟩ := tips_mem h hx
  obtain ⟨j, rfl, hj, _, htj⟩ := tips_mem h hy
  unfold Sg.seesB
  rw [Int.toNat_natCast, Int.toNat_natCast, ((tips_iff h j).1 htj).2 i hi hsi (by omega)]
  simp

theorem below_tips {L : List K} {s : Int} (h : ClosedIs L s) {x : Int} (hx : x ∈ Memb.memI (tipsTo (belows L L.length) s L.length)) : belowI L x = bel L x.toNat ∧ x.toNat < 60 := by
  have h60 := ((Lc.lace_iff L).1 h.lace).1
  obtain ⟨i, rfl, hi, _⟩ := tips_mem h hx
  refine ⟨?_, by rw [Int.toNat_natCast]; omega⟩
  unfold Sg.belowI
  have : isB L (i : Int) = true := by unfold Sg.isB; rw [h.lace]; simp; omega
  rw [this]; rfl

theorem rise_distinct (s : Int) (i j : Nat) (hi : i < (Memb.memI s).length) (hj : j < (Memb.memI s).length) (hne : i ≠ j) : (Memb.memI s).getD i 0 ≠ (Memb.memI s).getD j 0 := by
  have key : ∀ (l : List Int), l.Pairwise (· < ·) → ∀ i j, i < j → i < l.length → j < l.length → l.getD i 0 < l.getD j 0 := by
    intro l hl i j hij h1 h2
    have := List.pairwise_iff_getElem.1 hl i j h1 h2 hij
    simpa [h1, h2] using this
  have hp : (Memb.memI s).Pairwise (· < ·) := by
    unfold Memb.memI
    split
    · have : ∀ k, (memTo s k).Pairwise (· < ·) := by
        intro k
        induction k with
        | zero => exact List.Pairwise.nil
        | succ k ih =>
          rw [Bit.memTo_succ]
          refine List.pairwise_append.2 ⟨ih, ?_, ?_⟩
          · split
            · exact List.pairwise_singleton _ _
            · exact List.Pairwise.nil
          · intro x hx y hy
            obtain ⟨j, hj, rfl, _⟩ := (Bit.mem_memTo s k x).1 hx
            split at hy
            · simp at hy; omega
            · cases hy
      exact this 60
    · exact List.Pairwise.nil
  rcases Nat.lt_or_gt_of_ne hne with h | h
  · have := key _ hp i j h hi hj; omega
  · have := key _ hp j i h hj hi; omega

end Rm
end Go.Proofs.Ytcbfdfddifmeiaa

namespace Go.Proofs.Ytcbfdfddifmeiaa
open Go.RowKit
set_option maxRecDepth 100000
namespace Rm
open Kn (K okK)
open Bit (bit memTo withB)
open Lc (at' RdK laceB setB)
open Sg (bel belows orB closedB tipsI tipsTo closedTo seesB belowI isB)

theorem isB_iff {L : List K} (hl : laceB L = true) (k : Int) : isB L k = true ↔ 0 ≤ k ∧ k < (L.length : Int) := by
  unfold Sg.isB; rw [hl]; simp

theorem sees_iff {L : List K} {x y : Int} (h : seesB L x y = true) : laceB L = true ∧ ∃ i j : Nat, x = (i : Int) ∧ y = (j : Int) ∧ i < L.length ∧ j < L.length ∧ bit (bel L i) j = true := by
  unfold Sg.seesB at h
  simp only [Bool.and_eq_true] at h
  obtain ⟨hx, hy, hb⟩ := h
  obtain ⟨a0, a1, hl⟩ := Sg.isB_parts hx
  obtain ⟨b0, b1, _⟩ := Sg.isB_parts hy
  obtain ⟨i, rfl⟩ := Int.eq_ofNat_of_zero_le a0
  obtain ⟨j, rfl⟩ := Int.eq_ofNat_of_zero_le b0
  rw [Int.toNat_natCast, Int.toNat_natCast] at hb
  exact ⟨hl, i, j, rfl, rfl, by omega, by omega, hb⟩

theorem below_at {L : List K} (hl : laceB L = true) (i : Nat) (hi : i < L.length) : belowI L (i : Int) = bel L i := by
  unfold Sg.belowI
  rw [(isB_iff hl (i : Int)).2 ⟨by omega, by omega⟩, Int.toNat_natCast]; rfl

theorem sees_sub {L : List K} {x y : Int} (h : seesB L x y = true) : bits .andNot .i64 (belowI L y) (belowI L x) = 0 := by
  obtain ⟨hl, i, j, rfl, rfl, hi, hj, hb⟩ := sees_iff h
  have h60 := ((Lc.lace_iff L).1 hl).1
  have b1 := Sg.bel_bd L i (by omega)
  have b2 := Sg.bel_bd L j (by omega)
  rw [below_at hl i hi, below_at hl j hj]
  have := (Sg.andNot_sub (bel L j) (bel L i) b2.1 (by omega) b1.1 (by omega)).2 (fun z hz => Sg.bel_trans hl hi hb hz)
  simpa using this

theorem sees_anti {L : List K} {x y : Int} (h : seesB L x y = true) (hne : x ≠ y) : seesB L y x = false := by
  obtain ⟨hl, i, j, rfl, rfl, hi, hj, hb⟩ := sees_iff h
  rw [Bool.eq_false_iff]
  intro h2
  obtain ⟨_, j', i', e1, e2, _, _, hb2⟩ := sees_iff h2
  have ej : j = j' := by omega
  have ei : i = i' := by omega
  subst ej ei
  have r1 := Sg.reach_le hl hi ((Sg.bel_reach hl i hi j).1 hb)
  have r2 := Sg.reach_le hl hj ((Sg.bel_reach hl j hj i).1 hb2)
  omega

theorem thread_round {L : List K} (hl : laceB L = true) {i m : Nat} (hi : i < L.length) (hb : bit (at' L i).frm m = true) : (at' L m).round < (at' L i).round := by
  have hm := Sg.thread_lt hl hi hb
  have hc := Lc.lace_upTo hl i hi
  simp only [Lc.canB, Bool.and_eq_true] at hc
  have hle := (Lc.lesser_iff (L.take i) (at' L i).frm (at' L i).round (L.take i).length).1 hc.2.2.1 m (by simp; omega) hb
  rwa [Lc.at_take L i m hm] at hle

theorem reach_round {L : List K} (hl : laceB L = true) {i j : Nat} (hi : i < L.length) (h : Sg.Reach L i j) : j = i ∨ (at' L j).round < (at' L i).round := by
  induction h with
  | self => exact .inl rfl
  | @step i m j hb hr ih =>
    have hm := Sg.thread_lt hl hi hb
    have hr1 := thread_round hl hi hb
    rcases ih (by omega) with rfl | h
    · exact .inr hr1
    · exact .inr (by omega)

theorem below_round {L : List K} (hl : laceB L = true) {i j : Nat} (hi : i < L.length) (h : bit (bel L i) j = true) (hne : j ≠ i) : (at' L j).round < (at' L i).round := by
  rcases reach_round hl hi ((Sg.bel_reach hl i hi j).1 h) with e | e
  · exact absurd e hne
  · exact e

/-- the one, and all below what it hangs on -/
def wantT (L : List K) (p : Nat) (l : List Int) : Int := l.foldl (fun a x => orB a (bel L x.toNat)) (2 ^ p)
theorem wantT_snoc (L : List K) (p : Nat) (l : List Int) (x : Int) : wantT L p (l ++ [x]) = orB (wantT L p l) (bel L x.toNat) := by simp [wantT]
theorem wantT_bd (L : List K) (p : Nat) (hp : p < 60) (l : List Int) (hl : ∀ x ∈ l, x.toNat < 60) : 0 ≤ wantT L p l ∧ wantT L p l < 1152921504606846976 := by
  have hb := Base.pow_bd p hp
  exact (accT_fold L l hl (2 ^ p) (by omega) hb.2).1

theorem frm_mem {L : List K} (hl : laceB L = true) {p : Nat} (hp : p < L.length) {x : Int} (hx : x ∈ Memb.memI (at' L p).frm) : ∃ m : Nat, x = (m : Int) ∧ m < p ∧ bit (at' L p).frm m = true := by
  have hf := Sg.frm_lace hl _ (Lc.at_mem L p hp)
  unfold Memb.memI at hx
  rw [(Base.okB_iff _).2 hf, if_pos rfl, Bit.mem_memTo] at hx
  obtain ⟨m, _, rfl, hb⟩ := hx
  exact ⟨m, rfl, Sg.thread_lt hl hp hb, hb⟩

theorem want_eq {L : List K} (hl : laceB L = true) {p : Nat} (hp : p < L.length) : wantT L p (Memb.memI (at' L p).frm) = bel L p := by
  have h60 := ((Lc.lace_iff L).1 hl).1
  have hf := Sg.frm_lace hl _ (Lc.at_mem L p hp)
  have hb := Base.pow_bd p (by omega)
  have hlt : ∀ x ∈ Memb.memI (at' L p).frm, x.toNat < 60 := fun x hx => by
    obtain ⟨m, rfl, hm, _⟩ := frm_mem hl hp hx
    rw [Int.toNat_natCast]; omega
  have hbl := Sg.bel_bd L p (by omega)
  refine Lc.eq_of_bits _ _ (wantT_bd L p (by omega) _ hlt).1 hbl.1 fun j => ?_
  show bit ((Memb.memI (at' L p).frm).foldl (fun a x => orB a (bel L x.toNat)) (2 ^ p)) j = _
  rw [(accT_fold L _ hlt (2 ^ p) (by omega) hb.2).2 j, Bool.eq_iff_iff, Bool.or_eq_true, Sg.bit_pow, decide_eq_true_eq, Sg.bit_bel L p (by omega) j, List.any_eq_true]
  constructor
  · rintro (h | ⟨x, hx, hxb⟩)
    · exact .inl h
    · obtain ⟨m, rfl, hm, hfm⟩ := frm_mem hl hp hx
      rw [Int.toNat_natCast] at hxb
      exact .inr ⟨m, hm, hfm, hxb⟩
  · rintro (h | ⟨m, hm, hfm, hxb⟩)
    · exact .inl h
    · refine .inr ⟨(m : Int), ?_, by rw [Int.toNat_natCast]; exact hxb⟩
      unfold Memb.memI
      rw [(Base.okB_iff _).2 hf, if_pos rfl, Bit.mem_memTo]
      exact ⟨m, by omega, rfl, hfm⟩

theorem frm_below {L : List K} (hl : laceB L = true) {p : Nat} (hp : p < L.length) {x : Int} (hx : x ∈ Memb.memI (at' L p).frm) : belowI L x = bel L x.toNat ∧ x.toNat < 60 := by
  have h60 := ((Lc.lace_iff L).1 hl).1
  obtain ⟨m, rfl, hm, _⟩ := frm_mem hl hp hx
  exact ⟨by rw [below_at hl m (by omega), Int.toNat_natCast], by rw [Int.toNat_natCast]; omega⟩

theorem bel_closed {L : List K} (hl : laceB L = true) {p : Nat} (hp : p < L.length) : closedB L (bel L p) = true := by
  have h60 := ((Lc.lace_iff L).1 hl).1
  have hb := Sg.bel_bd L p (by omega)
  unfold Sg.closedB
  rw [Lc.setB_eq, hl, Bool.true_and, Bool.and_eq_true]
  constructor
  · unfold Lc.inL
    rw [Lc.div_of_bits (bel L p) L.length hb.1 (fun i hi => by
      rw [Bool.eq_false_iff]; intro h
      have := Sg.reach_le hl hp ((Sg.bel_reach hl p hp i).1 h); omega)]
    simp; exact hb.1
  · exact (Sg.closed_iff L (bel L p) L.length h60 hb.1 hb.2).2 (fun i hi hbi j hj => Sg.bel_trans hl hp hbi hj)

theorem bel_tips {L : List K} (hl : laceB L = true) {p : Nat} (hp : p < L.length) : tipsI L (bel L p) = 2 ^ p := by
  have h60 := ((Lc.lace_iff L).1 hl).1
  have hc := bel_closed hl hp
  have hI := closedIs hc
  have hb := Base.pow_bd p (by omega)
  unfold Sg.tipsI
  rw [hc, if_pos rfl]
  refine Lc.eq_of_bits _ _ (Sg.tipsTo_bd _ _ _ hI.s0 hI.s1).1 (by omega) fun j => ?_
  rw [Bool.eq_iff_iff, tips_iff hI j, Sg.bit_pow, decide_eq_true_eq]
  have hself : bit (bel L p) p = true := (Sg.bel_reach hl p hp p).2 (.self _)
  constructor
  · rintro ⟨h1, h2⟩
    apply Classical.byContradiction
    intro hne
    have := h2 p hp hself hne
    rw [h1] at this; exact Bool.noConfusion this
  · rintro rfl
    refine ⟨hself, fun i hi hbi hne => ?_⟩
    rw [Bool.eq_false_iff]; intro h
    have r1 := Sg.reach_le hl hi ((Sg.bel_reach hl i hi j).1 h)
    have r2 := Sg.reach_le hl hp ((Sg.bel_reach hl j hp i).1 hbi)
    omega

/-- what InSet answers -/
def inJ (s i : Int) : Bool := Base.okB s && (Base.inB i && bit s i.toNat)
theorem inJ_at {s : Int} (h0 : 0 ≤ s) (h1 : s < 1152921504606846976) (i : Nat) (hi : i < 60) : inJ s (i : Int) = bit s i := by
  unfold inJ
  rw [(Base.okB_iff _).2 ⟨h0, h1⟩, (Base.inB_iff _).2 ⟨by omega, by omega⟩, Int.toNat_natCast]; rfl
theorem sees_at {L : List K} (hl : laceB L = true) {p i : Nat} (hp : p < L.length) (hi : i < L.length) : seesB L (p : Int) (i : Int) = bit (bel L p) i := by
  unfold Sg.seesB
  rw [(isB_iff hl (p : Int)).2 ⟨by omega, by omega⟩, (isB_iff hl (i : Int)).2 ⟨by omega, by omega⟩, Int.toNat_natCast, Int.toNat_natCast]; rfl

end Rm
end Go.Proofs.Ytcbfdfddifmeiaa

namespace Go.Proofs.Ytcbfdfddifmeiaa
open Go.RowKit
set_option maxRecDepth 100000
namespace Db
open Kn (K okK)
open Bit (bit withB)
open Lc (at' RdK WordsOk laceB setB)
open Sg (isB bel belows)

/-- of one hand, and neither sees the other -/
def dblN (L : List K) (i j : Nat) : Bool := decide ((at' L i).hand = (at' L j).hand) && (!bit (bel L i) j && !bit (bel L j) i)
/-- the document's Doubled -/
def doubledB (L : List K) (a b : Int) : Bool := isB L a && (isB L b && dblN L a.toNat b.toNat)
/-- all that are doubled with one -/
def dblS (L : List K) (i : Nat) : Nat → Int
  | 0 => 0
  | n + 1 => if dblN L i n then withB (dblS L i n) n else dblS L i n
/-- the document's DoublesOf -/
def doublesI (L : List K) (a : Int) : Int := if isB L a then dblS L a.toNat L.length else -1

theorem dblS_bd (L : List K) (i n : Nat) (hn : n ≤ 60) : 0 ≤ dblS L i n ∧ dblS L i n < 1152921504606846976 := by
  induction n with
  | zero => exact ⟨Int.le_refl 0, show (0 : Int) < 1152921504606846976 by decide⟩
  | succ n ih =>
    have ih := ih (by omega)
    unfold dblS
    split
    · exact Bit.withB_bd _ ih.1 ih.2 n (by omega)
    · exact ih

theorem bit_dblS (L : List K) (i n : Nat) (hn : n ≤ 60) (j : Nat) : bit (dblS L i n) j = (decide (j < n) && dblN L i j) := by
  induction n with
  | zero => unfold dblS; rw [Lc.bit_zero]; simp
  | succ n ih =>
    have ih := ih (by omega)
    have hb := dblS_bd L i n (by omega)
    unfold dblS
    cases hd : dblN L i n
    · rw [if_neg (by simp), ih]
      by_cases e : j = n
      · subst e; simp [hd]
      · rw [show decide (j < n + 1) = decide (j < n) from by rw [Bool.eq_iff_iff]; simp; omega]
    · rw [if_pos rfl, Bit.bit_withB _ hb.1, ih]
      by_cases e : j = n
      · subst e; simp [hd]
      · rw [show decide (j < n + 1) = decide (j < n) from by rw [Bool.eq_iff_iff]; simp; omega]; simp [e]

theorem bel_hi {L : List K} (hl : laceB L = true) {i j : Nat} (hi : i < L.length) (hj : i < j) : bit (bel L i) j = false := by
  rw [Bool.eq_false_iff]
  intro h
  have := Sg.reach_le hl hi ((Sg.bel_reach hl i hi j).1 h)
  omega
theorem bel_self {L : List K} (hl : laceB L = true) {i : Nat} (hi : i < L.length) : bit (bel L i) i = true := (Sg.bel_reach hl i hi i).2 (.self _)

theorem dbl_n {L : List K} (hl : laceB L = true) {i j : Nat} (hi : i < L.length) (hj : j < L.length) : dblB L (belows L L.length) i j = dblN L i j := by
  unfold dblB dblN pairB
  rw [Sg.belows_get L L.length i hi, Sg.belows_get L L.length j hj]
  by_cases h1 : j < i
  · rw [if_pos h1, bel_hi hl hj h1]; simp
  · by_cases h2 : i < j
    · rw [if_neg h1, if_pos h2, bel_hi hl hi h2]
      rw [show decide ((at' L j).hand = (at' L i).hand) = decide ((at' L i).hand = (at' L j).hand) from by rw [Bool.eq_iff_iff]; simp [eq_comm]]
      simp
    · obtain rfl : i = j := by omega
      rw [if_neg h1, if_neg h2, bel_self hl hi]; simp

theorem dbl_bit {L : List K} (hl : laceB L = true) {D : Nat → Int} (h : Dbl L (belows L L.length) L.length 0 D) {i : Nat} (hi : i < L.length) (j : Nat) : bit (D i) j = (decide (j < L.length) && dblN L i j) := by
  rw [(h i hi).2 j]
  by_cases hj : j < L.length
  · rw [dbl_n hl hi hj]
    have : doneB L.length 0 i j = true := by unfold doneB; simp [hi, hj]
    rw [this]; simp [hj]
  · have : doneB L.length 0 i j = false := by unfold doneB; simp [hj]
    rw [this]; simp [hj]

theorem dbl_eq {L : List K} (hl : laceB L = true) {D : Nat → Int} (h : Dbl L (belows L L.length) L.length 0 D) {i : Nat} (hi : i < L.length) : D i = dblS L i L.length := by
  have h60 := ((Lc.lace_iff L).1 hl).1
  exact Lc.eq_of_bits _ _ (h i hi).1.1 (dblS_bd L i _ h60).1 fun j => by rw [dbl_bit hl h hi j, bit_dblS L i _ h60]

/-- the model's table of the doubled ones, with what it stands on -/
theorem table (g off cap : Nat) (L : List K) (w : World) (hl : laceB L = true) (hr : RdK w (some ⟨g, off, none⟩) L) :
    Calls Try.prog 31 #[.slice (some ⟨g, off, none⟩) L.length cap] w fun e w' => ∃ bo bc, e = .returned (.slice bo L.length bc) ∧ Below w.heap.size w w' ∧
      Calls Try.prog 90 #[.slice (some ⟨g, off, none⟩) L.length cap, .slice bo L.length bc] w' fun e2 w2 => ∃ D, e2 = .returned (.slice (some ⟨w'.heap.size, 0, none⟩) L.length L.length) ∧ RowI w2 w'.heap.size L.length D ∧ Dbl L (belows L L.length) L.length 0 D ∧ Below w'.heap.size w' w2 := by
  have h60 := ((Lc.lace_iff L).1 hl).1
  refine (Sg.l4All (some ⟨g, off, none⟩) cap L w h60 (Sg.frm_lace hl) hr).mono ?_
  rintro e w1 ⟨bo, bc, rfl, hown, hb1⟩
  have hbl := Sg.belows_len L L.length
  refine ⟨bo, bc, by rw [hbl], hb1, ?_⟩
  have h5 := l5All (some ⟨g, off, none⟩) cap L bo bc (belows L L.length) w1 h60 hbl (Sg.belows_in L L.length h60) (hr.below hb1) (Lst.own_rd hown) (fun g' e => by subst e; exact (World.ownsRow.lt hown g' rfl).2)
  rw [hbl] at h5
  exact h5

end Db
end Go.Proofs.Ytcbfdfddifmeiaa

namespace Go.Proofs.Ytcbfdfddifmeiaa
open Go.RowKit
set_option maxRecDepth 100000
namespace Db
open Kn (K okK)
open Bit (bit withB)
open Lc (at' RdK WordsOk laceB setB)
open Sg (isB bel belows seesB)

theorem twoNew (W : World) (t : TypeId) : ((W.alloc (.cells #[.bool false, .bool false] t)).cell? ⟨W.heap.size, 0, none⟩ = some (.bool false) ∧ (W.alloc (.cells #[.bool false, .bool false] t)).cell? ⟨W.heap.size, 1, none⟩ = some (.bool false)) ∧
    (W.alloc (.cells #[.bool false, .bool false] t)).frozen? ⟨W.heap.size, 0, none⟩ = false ∧ (W.alloc (.cells #[.bool false, .bool false] t)).frozen? ⟨W.heap.size, 1, none⟩ = false := ⟨⟨by simp, by simp⟩, by simp, by simp⟩

/-- what the program's doubled asks -/
theorem dbl_sees {L : List K} {a b : Int} (ha : isB L a = true) (hb : isB L b = true) : doubledB L a b = (decide ((at' L a.toNat).hand = (at' L b.toNat).hand) && (!seesB L a b && !seesB L b a)) := by
  unfold doubledB dblN seesB
  rw [ha, hb]; simp

theorem isB_lace {L : List K} (hl : laceB L = true) (k : Int) : isB L k = (decide (0 ≤ k) && decide (k < (L.length : Int))) := by unfold isB; rw [hl]; simp

/-- those found so far -/
theorem dbl_step {L : List K} {a : Int} (ha : isB L a = true) (n : Nat) (hn : n < L.length) (hl : laceB L = true) : dblS L a.toNat (n + 1) = if doubledB L a (n : Int) then withB (dblS L a.toNat n) n else dblS L a.toNat n := by
  have hb : isB L (n : Int) = true := by rw [isB_lace hl]; simp; omega
  unfold doubledB
  rw [ha, hb, Bool.true_and, Bool.true_and, Int.toNat_natCast]; rfl

end Db
end Go.Proofs.Ytcbfdfddifmeiaa

namespace Go.Proofs.Ytcbfdfddifmeiaa
open Go.RowKit
set_option maxRecDepth 100000
namespace Ch
open Kn (K okK)
open Lc (at' laceB)
open Sg (isB)
open Rm (coinsB)

/-- whose turn a wave is -/
def leadI (C : List Int) (wave : Int) : Int := if wave < (C.length : Int) then C.getD wave.toNat 0 else wave % 4
/-- does a knot lead? -/
def leadK (C : List Int) (k : K) : Bool := decide (k.round % 3 = 0) && decide (k.hand = leadI C (k.round / 3))
/-- the document's WaveOf -/
def waveI (r : Int) : Int := if Kn.in19 r then r / 3 else -1
def in6 (x : Int) : Bool := decide (0 ≤ x) && decide (x ≤ 6)
/-- the document's LeaderOf -/
def leaderI (C : List Int) (wave : Int) : Int := if coinsB C && in6 wave then leadI C wave else -1
/-- the document's Leads -/
def leadsB (L : List K) (C : List Int) (k : Int) : Bool := isB L k && (coinsB C && leadK C (at' L k.toNat))

theorem lead_iff (C : List Int) (k : K) : leadK C k = true ↔ k.round % 3 = 0 ∧ k.hand = leadI C (k.round / 3) := by
  unfold leadK; rw [Bool.and_eq_true, decide_eq_true_eq, decide_eq_true_eq]
theorem lead_hand {C : List Int} {x y : K} (hx : leadK C x = true) (hy : leadK C y = true) (hr : x.round = y.round) : x.hand = y.hand := by
  rw [((lead_iff C x).1 hx).2, ((lead_iff C y).1 hy).2, hr]
theorem lead_gap {C : List Int} {x y : K} (hx : leadK C x = true) (hy : leadK C y = true) (hr : x.round < y.round) : x.round + 3 ≤ y.round := by
  have := ((lead_iff C x).1 hx).1
  have := ((lead_iff C y).1 hy).1
  omega
theorem coins_in {C : List Int} (h : coinsB C = true) {i : Nat} (hi : i < C.length) : 0 ≤ C.getD i 0 ∧ C.getD i 0 ≤ 3 := by
  unfold Rm.coinsB Rm.coinsTo at h
  rw [Bool.and_eq_true, List.all_eq_true] at h
  have := h.1 i (by simpa using hi)
  unfold Kn.in3 at this
  simpa using this
theorem coins_len {C : List Int} (h : coinsB C = true) : C.length ≤ 6 := by
  unfold Rm.coinsB at h
  rw [Bool.and_eq_true, decide_eq_true_eq] at h
  exact h.2
theorem lead_bd {C : List Int} (h : coinsB C = true) {wave : Int} (h0 : 0 ≤ wave) : 0 ≤ leadI C wave ∧ leadI C wave ≤ 3 := by
  unfold leadI
  split
  · exact coins_in h (by omega)
  · omega

end Ch
end Go.Proofs.Ytcbfdfddifmeiaa

namespace Go.Proofs.Ytcbfdfddifmeiaa
open Go.RowKit
set_option maxRecDepth 100000
namespace Ch
open Kn (K okK)
open Lc (at' RdK laceB WordsOk)
open Sg (isB)
open Rm (coinsB)

set_option maxHeartbeats 400000 in
theorem specWaveOf (r : Int) (w : World) : Calls Try.prog 12 #[.int .i64 r] w fun e w' => e = .returned (.int .i64 (waveI r)) ∧ w = w' := by
  cases hq : Kn.in19 r
  · have HT : Hid (waveI r = -1) := by show _ = _; unfold waveI; rw [hq]; rfl
    have HQ : Hid (Kn.in19 r = false) := hq
    clear hq
    go_enter Try.func12, Try.ntmps12
    go_wp2_with (go_at_call 27; refine (Kn.l1In19 _ _).mono ?_; rintro e w' ⟨rfl, rfl⟩; rw [HQ.out])
    go_ret
    exact ⟨by rw [HT.out]; rfl, rfl⟩
  · have HT : Hid (waveI r = r / 3) := by show _ = _; unfold waveI; rw [hq]; rfl
    have HQ : Hid (Kn.in19 r = true) := hq
    have hb : 0 ≤ r ∧ r ≤ 19 := by unfold Kn.in19 at hq; simpa using hq
    clear hq
    go_enter Try.func12, Try.ntmps12
    go_wp2_with (go_at_call 27; refine (Kn.l1In19 _ _).mono ?_; rintro e w' ⟨rfl, rfl⟩; rw [HQ.out])
    go_ret
    exact ⟨by rw [HT.out]; rfl, rfl⟩

set_option maxHeartbeats 400000 in
theorem l8Leader (ao : Option Addr) (cap : Nat) (C : List Int) (wave : Int) (w : World) (h0 : 0 ≤ wave) (h1 : wave ≤ 1000) (hrd : Lst.Rd w ao C) :
    Calls Try.prog 28 #[.slice ao C.length cap, .int .i64 wave] w fun e w' => e = .returned (.int .i64 (leadI C wave)) ∧ w = w' := by
  obtain ⟨p, rfl⟩ := Int.eq_ofNat_of_zero_le h0
  by_cases hlt : p < C.length
  · have hi : (p : Int) < (C.length : Int) := by omega
    have HT : Hid (leadI C (p : Int) = C.getD p 0) := by show _ = _; unfold leadI; rw [if_pos hi, Int.toNat_natCast]
    rcases hrd with hrd | ⟨b, rfl, hcell⟩
    · rw [hrd] at hlt; simp at hlt
    have cj := hcell p hlt
    clear hcell
    generalize C.getD p 0 = y at cj HT
    go_enter Try.func28, Try.ntmps28
    go_wp2
    go_ret
    exact ⟨by rw [HT.out]; rfl, rfl⟩
  · have hi : ¬ (p : Int) < (C.length : Int) := by omega
    have HT : Hid (leadI C (p : Int) = (p : Int) % 4) := by show _ = _; unfold leadI; rw [if_neg hi]
    clear hrd
    go_enter Try.func28, Try.ntmps28
    go_wp2
    go_ret
    exact ⟨by rw [HT.out]; rfl, rfl⟩

theorem rd_below {w w' : World} {ao : Option Addr} {l : List Int} (h : Lst.Rd w ao l) (hao : ∀ c, ao = some ⟨c, 0, none⟩ → c < w.heap.size) (hb : Below w.heap.size w w') : Lst.Rd w' ao l := by
  rcases h with h | ⟨g, rfl, hc⟩
  · exact .inl h
  · exact .inr ⟨g, rfl, fun j hj => (hb.cell (p := ⟨g, j, none⟩) (hao g rfl)).trans (hc j hj)⟩

set_option maxHeartbeats 800000 in
theorem l8Leads (ao : Option Addr) (cap : Nat) (C : List Int) (k : K) (w : World) (h0 : 0 ≤ k.round) (h1 : k.round ≤ 1000) (hrd : Lst.Rd w ao C) (hao : ∀ c, ao = some ⟨c, 0, none⟩ → c < w.heap.size) :
    Calls Try.prog 30 #[.slice ao C.length cap, .agg #[.int .i64 k.hand, .int .i64 k.round, .int .i64 k.frm, .string k.word]] w fun e w' => e = .returned (.bool (leadK C k)) ∧ Below w.heap.size w w' := by
  have P0 : Hid (Below w.heap.size w (w.alloc (.cells #[.int .i64 k.hand, .int .i64 k.round, .int .i64 k.frm, .string k.word] 37)) ∧ Lc.CellsK (w.alloc (.cells #[.int .i64 k.hand, .int .i64 k.round, .int .i64 k.frm, .string k.word] 37)) w.heap.size 0 k ∧ w.heap.size < (w.alloc (.cells #[.int .i64 k.hand, .int .i64 k.round, .int .i64 k.frm, .string k.word] 37)).heap.size) :=
    ⟨(Below.refl _ _).alloc (Nat.le_refl _) _, ⟨by simp, by simp, by simp, by simp⟩, by simp⟩
  have HRD : Hid (∀ W : World, Below w.heap.size w W → Lst.Rd W ao C) := fun W hW => rd_below hrd hao hW
  clear hrd hao
  by_cases hz : k.round % 3 = 0
  · have HT : Hid (leadK C k = (k.hand == leadI C (k.round / 3))) := by show _ = _; unfold leadK; rw [decide_eq_true hz, Bool.true_and]; exact (Bool.eq_iff_iff.2 (by simp))
    have hz' : (k.round % 3 == 0) = true := by simpa using hz
    clear hz
    go_enter Try.func30, Try.ntmps30
    go_wp2_with fail
    generalize w.alloc (.cells #[.int .i64 k.hand, .int .i64 k.round, .int .i64 k.frm, .string k.word] 37) = V at P0 ⊢
    obtain ⟨B0, ⟨c0, c1, _, _⟩, hlt⟩ := P0.out
    rw [Nat.zero_add] at c1
    have HC : Hid (∀ n : Nat, Calls Try.prog 28 #[.slice ao C.length cap, .int .i64 (k.round / 3)] (V.drewN n) fun e w' => e = .returned (.int .i64 (leadI C (k.round / 3))) ∧ V.drewN n = w') := fun n => l8Leader ao cap C (k.round / 3) _ (by omega) (by omega) (HRD.out _ (Db.below_drewN B0 n))
    have HB0 : Hid (Below w.heap.size w V) := B0
    clear HRD P0 B0
    generalize leadI C (k.round / 3) = y at HT HC
    go_quiet (first | (go_at_call 28; exact (HC.out _).mono fun _ _ h => ⟨h.1, _, h.2.symm⟩))
    go_wp2
    go_ret
    exact ⟨by rw [HT.out]; rfl, Db.below_drewN HB0.out _⟩
  · have HT : Hid (leadK C k = false) := by show _ = _; unfold leadK; rw [decide_eq_false hz]; rfl
    have hz' : (k.round % 3 == 0) = false := by simpa using hz
    clear hz HRD
    go_enter Try.func30, Try.ntmps30
    go_wp2_with fail
    generalize w.alloc (.cells #[.int .i64 k.hand, .int .i64 k.round, .int .i64 k.frm, .string k.word] 37) = V at P0 ⊢
    obtain ⟨B0, ⟨c0, c1, _, _⟩, hlt⟩ := P0.out
    rw [Nat.zero_add] at c1
    have HB0 : Hid (Below w.heap.size w V) := B0
    clear P0 B0
    go_quiet (fail)
    go_wp2
    go_ret
    exact ⟨by rw [HT.out]; rfl, Db.below_drewN HB0.out _⟩

theorem l1In6 (x : Int) (w : World) : Calls Try.prog 27 #[.int .i64 x, .int .i64 0, .int .i64 6] w fun e w' => e = .returned (.bool (in6 x)) ∧ w = w' := Base.l1In x 0 6 w

set_option maxHeartbeats 800000 in
theorem specLeaderOf (ao : Option Addr) (cap : Nat) (C : List Int) (wave : Int) (w : World) (hl : C.length ≤ 1048576) (hrd : Lst.Rd w ao C) :
    Calls Try.prog 11 #[.slice ao C.length cap, .int .i64 wave] w fun e w' => e = .returned (.int .i64 (leaderI C wave)) ∧ w = w' := by
  have HC : Hid (∀ W : World, Lst.Rd W ao C → Calls Try.prog 15 #[.slice ao C.length cap] W fun e w' => e = .returned (.bool (coinsB C)) ∧ W = w') := fun W h => Rm.specCoinsOk ao cap C W hl h
  cases hc : coinsB C
  · have HT : Hid (leaderI C wave = -1) := by show _ = _; unfold leaderI; rw [hc]; rfl
    rw [hc] at HC
    clear hc
    go_enter Try.func11, Try.ntmps11
    go_wp2_with (go_at_call 15; refine (HC.out _ hrd).mono ?_; rintro e w' ⟨rfl, rfl⟩)
    go_ret
    exact ⟨by rw [HT.out]; rfl, rfl⟩
  · rw [hc] at HC
    cases hq : in6 wave
    · have HT : Hid (leaderI C wave = -1) := by show _ = _; unfold leaderI; rw [hq]; simp
      have HQ : Hid (in6 wave = false) := hq
      clear hc hq
      go_enter Try.func11, Try.ntmps11
      go_wp2_with (first | (go_at_call 15; refine (HC.out _ hrd).mono ?_; rintro e w' ⟨rfl, rfl⟩) | (go_at_call 27; refine (l1In6 _ _).mono ?_; rintro e w' ⟨rfl, rfl⟩; rw [HQ.out]))
      go_ret
      exact ⟨by rw [HT.out]; rfl, rfl⟩
    · have HT : Hid (leaderI C wave = leadI C wave) := by show _ = _; unfold leaderI; rw [hq, hc]; rfl
      have HQ : Hid (in6 wave = true) := hq
      have hb : 0 ≤ wave ∧ wave ≤ 6 := by unfold in6 at hq; simpa using hq
      have HL : Hid (∀ W : World, Lst.Rd W ao C → Calls Try.prog 28 #[.slice ao C.length cap, .int .i64 wave] W fun e w' => e = .returned (.int .i64 (leadI C wave)) ∧ W = w') := fun W h => l8Leader ao cap C wave W hb.1 (by omega) h
      clear hc hq
      go_enter Try.func11, Try.ntmps11
      go_wp2_with (first | (go_at_call 15; refine (HC.out _ hrd).mono ?_; rintro e w' ⟨rfl, rfl⟩) | (go_at_call 27; refine (l1In6 _ _).mono ?_; rintro e w' ⟨rfl, rfl⟩; rw [HQ.out]) | (go_at_call 28; refine (HL.out _ hrd).mono ?_; rintro e w' ⟨rfl, rfl⟩))
      go_ret
      exact ⟨by rw [HT.out]; rfl, rfl⟩

set_option maxHeartbeats 1600000 in
theorem specLeads (g off cap : Nat) (L : List K) (ao : Option Addr) (cc : Nat) (C : List Int) (k : Int) (w : World) (hcap : L.length ≤ cap) (hw : WordsOk L) (hr : RdK w (some ⟨g, off, none⟩) L) (hl : C.length ≤ 1048576) (hrd : Lst.Rd w ao C) (hao : ∀ c, ao = some ⟨c, 0, none⟩ → c < w.heap.size) :
    Calls Try.prog 13 #[.slice (some ⟨g, off, none⟩) L.length cap, .slice ao C.length cc, .int .i64 k] w fun e w' => e = .returned (.bool (leadsB L C k)) ∧ Below w.heap.size w w' := by
  go_enter Try.func13, Try.ntmps13
  go_wp2_with fail
  refine (Sg.l4Is g off cap L k _ hcap hw hr).mono ?_
  rintro e w1 ⟨rfl, hb1⟩
  have hr1 := hr.below hb1
  have hrd1 := rd_below hrd hao hb1
  have hao1 : ∀ c, ao = some ⟨c, 0, none⟩ → c < w1.heap.size := fun c e => Nat.lt_of_lt_of_le (hao c e) hb1.size
  clear hrd hao
  cases his : isB L k
  · have HT : Hid (leadsB L C k = false) := by show _ = _; unfold leadsB; rw [his]; rfl
    clear his hrd1 hao1
    go_wp2
    go_ret
    exact ⟨by rw [HT.out]; rfl, hb1⟩
  · have hcall := Rm.specCoinsOk ao cc C w1 hl hrd1
    obtain ⟨k0, k1, hlc⟩ := Sg.isB_parts his
    cases hc : coinsB C
    · have HT : Hid (leadsB L C k = false) := by show _ = _; unfold leadsB; rw [hc]; simp
      rw [hc] at hcall
      clear his hc hrd1 hao1
      go_wp2_with (go_at_call 15; refine hcall.mono ?_; rintro e w' ⟨rfl, rfl⟩)
      go_ret
      exact ⟨by rw [HT.out]; rfl, hb1⟩
    · rw [hc] at hcall
      have HT : Hid (leadsB L C k = leadK C (at' L k.toNat)) := by show _ = _; unfold leadsB; rw [his, hc]; rfl
      obtain ⟨p, rfl⟩ := Int.eq_ofNat_of_zero_le k0
      have hp : p < L.length := by omega
      rw [Int.toNat_natCast] at HT
      have hrb := Lc.ok_round (Lc.can_ok (Lc.lace_upTo hlc p hp))
      have hld := l8Leads ao cc C (at' L p) w1 hrb.1 (by omega) hrd1 hao1
      obtain ⟨_, c0, c1, c2, c3⟩ := hr1.on p hp
      have HB1 : Hid (Below w.heap.size w w1) := hb1
      clear his hc hrd1 hao1 hlc hr1 hr hb1
      generalize at' L p = kk at c0 c1 c2 c3 HT hld
      generalize leadK C kk = b at HT hld
      go_wp2_with (first | (go_at_call 15; refine hcall.mono ?_; rintro e w' ⟨rfl, rfl⟩) | fail)
      refine hld.mono ?_
      rintro e w2 ⟨rfl, hb2⟩
      have HB2 : Hid (Below w.heap.size w w2) := HB1.out.trans (hb2.mono HB1.out.size)
      clear hb2 HB1 hld hcall
      go_wp2
      go_ret
      exact ⟨by rw [HT.out]; rfl, HB2.out⟩

end Ch
end Go.Proofs.Ytcbfdfddifmeiaa

namespace Go.Proofs.Ytcbfdfddifmeiaa
open Go.RowKit
set_option maxRecDepth 100000
namespace Rm
open Kn (K okK)
open Lc (at' RdK laceB flat OwnK cellsOf)
open Cur (At)

/-- the coins drawn so far, right or not -/
structure CoSt (c : Nat) (a : Option Addr) (len cap : Nat) (W wr : World) (v : Value) (l : List Int) : Prop where
  at' : At c a len cap wr
  fr : FrC c W wr
  own : wr.ownsRow W.heap.size 2 1 v l.length (l.map (Value.int .i64))
  ne : v ≠ .slice none 0 0

theorem co_step {c : Nat} {a : Option Addr} {len cap : Nat} {W wr w1 w2 : World} {v v' : Value} {l : List Int} {x : Int} {o : Obj} (s : CoSt c a len cap W wr v l) (hcb : CurB c a len W.heap.size) (hA : At c a len cap w1) (hG : wr.grownBy w1 (some c)) (ho : w2.ownsRow W.heap.size 2 1 v' (l.length + 1) (l.map (Value.int .i64) ++ [.int .i64 x])) (hg : (w1.alloc o).grownBy w2 v.ownBlock) (hn : ¬ v' = .slice none 0 0) :
    CoSt c a len cap W w2 v' (l ++ [x]) := by
  have hlt := World.ownsRow.lt s.own
  have hf1 : Fr (fun y => v.ownBlock = some y) w1 w2 := (Fr.alloc _ w1 o).trans (Fr.of_own hg) (fun _ hx _ => hx)
  have hW1 : W.heap.size ≤ w1.heap.size := Nat.le_trans s.fr.size hG.size
  refine ⟨at_belowB hA hcb (hf1.toBelow hW1 (fun y hy => (hlt y hy).1)), ?_, ?_, hn⟩
  · exact (s.fr.trans (Fr.of_grown hG) (fun _ hx _ => hx)).trans hf1 (fun y hy hl => by have := (hlt y hy).1; omega)
  · simpa using ho
theorem CoSt.grown {c : Nat} {a : Option Addr} {len cap : Nat} {W wr w1 : World} {v : Value} {l : List Int} (s : CoSt c a len cap W wr v l) (hcW : c < W.heap.size) (hA : At c a len cap w1) (hG : wr.grownBy w1 (some c)) : CoSt c a len cap W w1 v l :=
  ⟨hA, s.fr.trans (Fr.of_grown hG) (fun _ hx _ => hx), own_fr (Fr.of_grown hG) s.own (fun g hg e => by have := (World.ownsRow.lt s.own g hg).1; omega), s.ne⟩

/-- how the drawing of coins ends -/
def CoinsPost (c : Nat) (a : Option Addr) (len cap : Nat) (w : World) (e : Ending) (w' : World) : Prop := ∃ g cc C, e = .returned (.slice (some ⟨g, 0, none⟩) C.length cc) ∧ C.length ≤ 7 ∧ Memb.Own w.heap.size w' (some ⟨g, 0, none⟩) cc C ∧ At c a len cap w' ∧ w.grownBy w' (some c)

theorem co_post {c : Nat} {a : Option Addr} {len cap : Nat} {w wr : World} {v : Value} {l : List Int} (s : CoSt c a len cap w wr v l) (hl : l.length ≤ 7) : CoinsPost c a len cap w (.returned v) wr := by
  obtain ⟨g, gc, hv, _, _⟩ := own_some s.own s.ne
  subst hv
  exact ⟨g, gc, l, rfl, hl, s.own, s.at', s.fr.grown⟩

theorem new_three (W : World) (t : TypeId) (j : Nat) (hj : j < 3) : ∃ y : Int, (W.alloc (.cells #[.int .i64 (-1), .int .i64 3, .int .i64 4] t)).cell? ⟨W.heap.size, j, none⟩ = some (.int .i64 y) := by
  match j, hj with
  | 0, _ => exact ⟨-1, by simp⟩
  | 1, _ => exact ⟨3, by simp⟩
  | 2, _ => exact ⟨4, by simp⟩

theorem own_zeros (w : World) (B n : Nat) (hB : B ≤ w.heap.size) (hn : n ≤ 100) : (w.alloc (.cells (madeCells #[.int .i64 0] n) 2)).ownsRow B 2 1 (.slice (some ⟨w.heap.size, 0, none⟩) n n) n ((List.replicate n (0 : Int)).map (Value.int .i64)) := by
  refine ⟨by simp, .inr ⟨w.heap.size, n, madeCells #[.int .i64 0] n, rfl, hB, by show (w.heap.push _)[w.heap.size]? = _; rw [Array.getElem?_push_size], Nat.le_refl _, by unfold maxLen; omega, by rw [size_madeCells]; simp, ?_⟩⟩
  apply List.ext_getElem
  · rw [List.length_take, Array.length_toList, size_madeCells]; simp
  · intro i h1 h2
    simp [madeCells, Nat.mod_one]
theorem co_zeros {c : Nat} {a : Option Addr} {len cap : Nat} {w w7 : World} {n : Nat} (hA : At c a len cap w7) (hf : FrC c w w7) (hn : n ≤ 100) : CoSt c a len cap w (w7.alloc (.cells (madeCells #[.int .i64 0] n) 2)) (.slice (some ⟨w7.heap.size, 0, none⟩) n n) (List.replicate n 0) :=
  ⟨Draw.at_alloc hA _, hf.trans (Fr.alloc _ w7 _) (fun _ hx _ => hx), by have := own_zeros w7 w.heap.size n hf.size hn; simpa using this, by simp⟩

set_option maxHeartbeats 3200000 in
theorem l8Draw (c : Nat) (a : Option Addr) (len cap : Nat) (w : World) (hl : len ≤ 4096) (hc : At c a len cap w) :
    Calls Try.prog 18 #[.pointer (some ⟨c, 0, none⟩)] w (CoinsPost c a len cap w) := by
  obtain ⟨i0, hi, hz0, hz1, hz2⟩ := info_parts Memb.info2
  have hcb := curB_of hc
  have HA0 : Hid (At c a len cap (w.alloc (.cells #[] 2))) := at_belowB hc hcb ((Below.refl _ w).alloc (Nat.le_refl _) _)
  have HE : Hid ((w.alloc (.cells #[] 2)).ownsRow w.heap.size 2 1 (.slice (some ⟨w.heap.size, 0, none⟩) 0 0) 0 []) := Memb.own_empty w
  go_enter Try.func18, Try.ntmps18
  go_wp2_with fail
  refine (Cur.below c a len cap 5 _ hl (by omega) HA0.out).mono ?_
  rintro e w1 ⟨n0, rfl, hn0, hn1, hA1, hG1⟩
  have hn2 := hn1 (by omega)
  have HS1 : Hid (CoSt c a len cap w w1 (.slice (some ⟨w.heap.size, 0, none⟩) 0 0) []) := by
    refine ⟨hA1, (Fr.alloc _ w _).trans (Fr.of_grown hG1) (fun _ hx _ => hx), ?_, by simp⟩
    exact own_fr (Fr.of_grown hG1) HE.out (fun g hg e => by simp [Value.ownBlock] at hg; have := hcb.1; omega)
  clear hA1 hG1 HA0 HE hn1
  go_wp2_with fail
  go_loopw [3, 4] (fun v n wr => ∃ (m : Nat) (l : List Int), n = .int .i64 m ∧ l.length + m ≤ 4 ∧ Hid (CoSt c a len cap w wr v l)) (fun _ n _ => (intOf n).toNat)
  case atStart =>
    obtain ⟨m, rfl⟩ := Int.eq_ofNat_of_zero_le hn0
    exact ⟨m, [], rfl, by simp; omega, HS1.out⟩
  case round =>
    obtain ⟨m, l, rfl, hlm, HS⟩ := hrel
    by_cases hm : 0 < m
    · have hm' : (0 : Int) < (m : Int) := by omega
      go_wp2_with fail
      refine (Cur.below c a len cap 4 _ hl (by omega) HS.out.at').mono ?_
      rintro e w2 ⟨x, rfl, hx0, hx1, hA2, hG2⟩
      have hg3 : ∀ g, u3.ownBlock = some g → g ≠ c := fun g hg e => by have := (World.ownsRow.lt HS.out.own g hg).1; have := hcb.1; omega
      have own2 : w2.ownsRow w.heap.size 2 1 u3 l.length (l.map (Value.int .i64)) := own_fr (Fr.of_grown hG2) HS.out.own hg3
      have hW2 : w.heap.size ≤ w2.heap.size := Nat.le_trans HS.out.fr.size hG2.size
      go_wp2_with (at_builtin; refine wpList_append_own _ rfl _ _ 24 rfl w.heap.size 2 i0 (.int .i64 0) 1 8 Try.underlying24 hi hz0 hz1 hz2 rfl (by decide) u3 l.length (l.map (Value.int .i64)) (by first | rfl | simp [Act.eval]) (own2.alloc _) ⟨w2.heap.size, 0, none⟩ 1 1 [.int .i64 x] (by first | rfl | simp [Act.eval]) rfl (Sg.one_new w2 x _) (Sg.one_one x) ?c3 ?c4 ?c5 ?_)
      case c3 => unfold maxLen; omega
      case c4 => omega
      case c5 => simp; omega
      intro v' w3 hown' hgrow hnil
      have HS3 : Hid (CoSt c a len cap w w3 v' (l ++ [x])) := co_step HS.out hcb hA2 hG2 hown' hgrow hnil
      clear hown' hgrow hnil own2 hA2 hG2 HS
      go_wp2
      go_roundw
      case rel => exact ⟨m - 1, l ++ [x], by congr 1; omega, by simp; omega, HS3⟩
      case measure => simp [intOf]; omega
    · obtain rfl : m = 0 := by omega
      have hn00 : ¬ (0 : Int) < ((0 : Nat) : Int) := by omega
      have hl4 : l.length ≤ 4 := by omega
      clear HS1
      go_wp2_with fail
      refine (Cur.once c a len cap 12 _ hl (by omega) HS.out.at').mono ?_
      rintro e w2 ⟨b, rfl, hA2, hG2⟩
      have HS2 : Hid (CoSt c a len cap w w2 u3 l) := HS.out.grown hcb.1 hA2 hG2
      clear hA2 hG2 HS
      go_upto_if 18 with fail
      go_cut [3] (fun v wx => ∃ l : List Int, l.length ≤ 5 ∧ Hid (CoSt c a len cap w wx v l))
      case first =>
        cases b
        · go_wp2_with fail
          go_meet
          exact ⟨l, by omega, HS2⟩
        · have hAl := Draw.at_alloc HS2.out.at' (.cells #[.int .i64 (-1), .int .i64 3, .int .i64 4] 2)
          go_wp2_with fail
          refine (Cur.below c a len cap 3 _ hl (by omega) hAl).mono ?_
          rintro e w3 ⟨x, rfl, hx0, hx1, hA3, hG3⟩
          have hx2 := hx1 (by omega)
          obtain ⟨j, rfl⟩ := Int.eq_ofNat_of_zero_le hx0
          obtain ⟨y, hy⟩ := new_three w2 2 j (by omega)
          have hc2 := HS2.out.at'.lt
          have cy := Draw.kept_cell hG3 (show w2.heap.size ≠ c by omega) hy
          have hj3 : (j : Int) < 3 := by omega
          have G3 : w2.grownBy w3 (some c) := (World.grownBy_alloc w2 _ _).trans hG3
          have hg3 : ∀ g, u3.ownBlock = some g → g ≠ c := fun g hg e => by have := (World.ownsRow.lt HS2.out.own g hg).1; have := hcb.1; omega
          have own3 : w3.ownsRow w.heap.size 2 1 u3 l.length (l.map (Value.int .i64)) := own_fr (Fr.of_grown G3) HS2.out.own hg3
          have hW3 : w.heap.size ≤ w3.heap.size := Nat.le_trans HS2.out.fr.size G3.size
          clear hG3 hy hAl hx1
          go_wp2_with (at_builtin; refine wpList_append_own _ rfl _ _ 24 rfl w.heap.size 2 i0 (.int .i64 0) 1 8 Try.underlying24 hi hz0 hz1 hz2 rfl (by decide) u3 l.length (l.map (Value.int .i64)) (by first | rfl | simp [Act.eval]) (own3.alloc _) ⟨w3.heap.size, 0, none⟩ 1 1 [.int .i64 y] (by first | rfl | simp [Act.eval]) rfl (Sg.one_new w3 y _) (Sg.one_one y) ?c3 ?c4 ?c5 ?_)
          case c3 => unfold maxLen; omega
          case c4 => omega
          case c5 => simp; omega
          intro v' w4 hown' hgrow hnil
          have HS4 : Hid (CoSt c a len cap w w4 v' (l ++ [y])) := co_step HS2.out hcb hA3 G3 hown' hgrow hnil
          clear hown' hgrow hnil own3 hA3 G3 HS2
          go_wp2_with fail
          go_meet
          exact ⟨l ++ [y], by simp; omega, HS4⟩
      case rest =>
        obtain ⟨l5, hl5, HS5⟩ := hcut
        clear HS2
        go_wp2_with fail
        refine (Cur.once c a len cap 30 _ hl (by omega) HS5.out.at').mono ?_
        rintro e w6 ⟨b6, rfl, hA6, hG6⟩
        have HS6 : Hid (CoSt c a len cap w w6 u3 l5) := HS5.out.grown hcb.1 hA6 hG6
        clear hA6 hG6 HS5
        cases b6
        · go_wp2
          go_ret
          exact co_post HS6.out (by omega)
        · go_wp2_with fail
          refine (Cur.below c a len cap 2 w6 hl (by omega) HS6.out.at').mono ?_
          rintro e w7 ⟨x, rfl, hx0, hx1, hA7, hG7⟩
          have hx2 := hx1 (by omega)
          obtain ⟨j, rfl⟩ := Int.eq_ofNat_of_zero_le hx0
          have hmk : (Instr.makeSlice 24 (.int .i64 (6 + (j : Int))) (.int .i64 (6 + (j : Int)))).run Try.prog w7 = .ok (.slice (some ⟨w7.heap.size, 0, none⟩) (6 + j) (6 + j)) (w7.alloc (.cells (madeCells #[.int .i64 0] (6 + j)) 2)) := by
            have := run_make_row' (P := Try.prog) 24 2 (.int .i64 0) 8 Try.underlying24 Memb.info2 rfl .i64 .i64 (6 + j) (by omega) (by omega) w7
            simpa using this
          have HS8 : Hid (CoSt c a len cap w (w7.alloc (.cells (madeCells #[.int .i64 0] (6 + j)) 2)) (.slice (some ⟨w7.heap.size, 0, none⟩) (6 + j) (6 + j)) (List.replicate (6 + j) 0)) := co_zeros hA7 (HS6.out.fr.trans (Fr.of_grown hG7) (fun _ hx _ => hx)) (by omega)
          generalize madeCells #[Value.int .i64 0] (6 + j) = mc at hmk HS8
          clear hA7 hG7 HS6 hx1
          go_wp2
          go_ret
          exact co_post HS8.out (by simp; omega)

/-- coins that lie in memory of the law's own -/
structure CoinsL (w : World) (g : Nat) (C : List Int) : Prop where
  rd : Lst.Rd w (some ⟨g, 0, none⟩) C
  lt : g < w.heap.size
  len : C.length ≤ 7
theorem CoinsL.below {w w' : World} {g : Nat} {C : List Int} (h : CoinsL w g C) (hb : Below w.heap.size w w') : CoinsL w' g C :=
  ⟨Ch.rd_below h.rd (fun c e => by injection e with e; injection e with e; subst e; exact h.lt) hb, Nat.lt_of_lt_of_le h.lt hb.size, h.len⟩
theorem CoinsL.at {w : World} {g : Nat} {C : List Int} (h : CoinsL w g C) : ∀ c, some (⟨g, 0, none⟩ : Addr) = some ⟨c, 0, none⟩ → c < w.heap.size := fun c e => by injection e with e; injection e with e; subst e; exact h.lt
theorem coinsL_of {B : Nat} {w : World} {g cc : Nat} {C : List Int} (h : Memb.Own B w (some ⟨g, 0, none⟩) cc C) (hl : C.length ≤ 7) : CoinsL w g C := ⟨Lst.own_rd h, (World.ownsRow.lt h g rfl).2, hl⟩
theorem CoinsL.cell {w : World} {g : Nat} {C : List Int} (h : CoinsL w g C) {j : Nat} (hj : j < C.length) : w.cell? ⟨g, j, none⟩ = some (.int .i64 (C.getD j 0)) := by
  rcases h.rd with e | ⟨g', e, hc⟩
  · rw [e] at hj; simp at hj
  · injection e with e; injection e with e; subst e; exact hc j hj

set_option maxHeartbeats 800000 in
theorem drawLeaderOf (a : Option Addr) (len cap : Nat) (w : World) (hl : len ≤ 4096) (hc : Cur.Code w a len) :
    Calls Try.prog 5 #[.slice a len cap] w fun e w' => ∃ g cc C x, e = .returned (.tuple #[.slice (some ⟨g, 0, none⟩) C.length cc, .int .i64 x]) ∧ CoinsL w' g C ∧ (-9223372036854775808 ≤ x ∧ x ≤ 9223372036854775807) ∧ Below w.heap.size w w' := by
  go_enter Try.func5, Try.ntmps5
  go_wp2_with fail
  refine (Cur.new a len cap _ hl hc).mono ?_
  rintro e w1 ⟨rfl, hA1, hb1⟩
  have hlt1 := hA1.lt
  go_wp2_with fail
  refine (l8Draw _ a len cap _ hl hA1).mono ?_
  rintro e w2 ⟨g, cc, C, rfl, hC7, hO2, hA2, hG2⟩
  have hB2 := Draw.below_of_grown hb1 (Nat.le_refl _) hG2
  clear hG2 hb1 hA1
  go_wp2_with fail
  refine (l1From _ a len cap (-1) 8 _ hl (by omega) (by omega) (by omega) hA2).mono ?_
  rintro e w3 ⟨x, rfl, hx, hA3, hG3⟩
  have hO3 := Draw.own_grown hO2 hG3 hlt1
  have HF : Hid (CoinsL w3 g C ∧ Below w.heap.size w w3) := ⟨coinsL_of hO3 hC7, Draw.below_of_grown hB2 (Nat.le_refl _) hG3⟩
  clear hG3 hB2 hO2 hO3 hA2 hA3
  go_wp2
  refine bodyPost_ret (v := .tuple #[.slice (some ⟨g, 0, none⟩) C.length cc, .int .i64 x]) (by simp [results, Try.f5, go_sem]) rfl ?_
  exact ⟨g, cc, C, x, rfl, HF.out.1, hx, HF.out.2⟩

set_option maxHeartbeats 400000 in
theorem drawWaveOf (a : Option Addr) (len cap : Nat) (w : World) (hl : len ≤ 4096) (hc : Cur.Code w a len) :
    Calls Try.prog 7 #[.slice a len cap] w fun e w' => ∃ x : Int, e = .returned (.int .i64 x) ∧ (-9223372036854775808 ≤ x ∧ x ≤ 9223372036854775807) ∧ Below w.heap.size w w' := by
  go_enter Try.func7, Try.ntmps7
  go_wp2_with fail
  refine (Cur.new a len cap _ hl hc).mono ?_
  rintro e w1 ⟨rfl, hA1, hb1⟩
  go_wp2_with fail
  refine (l1From _ a len cap (-1) 21 _ hl (by omega) (by omega) (by omega) hA1).mono ?_
  rintro e w2 ⟨x, rfl, hx, hA2, hG2⟩
  have hB2 := Draw.below_of_grown hb1 (Nat.le_refl _) hG2
  clear hG2 hb1 hA1 hA2
  go_wp2
  go_ret
  exact ⟨x, rfl, hx, hB2⟩

set_option maxHeartbeats 1600000 in
theorem drawLeads (HD : DrawsRoom) (a : Option Addr) (len cap : Nat) (w : World) (hl : len ≤ 4096) (hc : Cur.Code w a len) :
    Calls Try.prog 9 #[.slice a len cap] w fun e w' => ∃ v L g cc C x, e = .returned (.tuple #[v, .slice (some ⟨g, 0, none⟩) C.length cc, .int .i64 x]) ∧ Drawn w.heap.size w w' v L ∧ CoinsL w' g C := by
  have HDD : Hid DrawsRoom := HD
  clear HD
  go_enter Try.func9, Try.ntmps9
  go_wp2_with fail
  refine (Cur.new a len cap _ hl hc).mono ?_
  rintro e w1 ⟨rfl, hA1, hb1⟩
  go_wp2_with fail
  refine (l3DrawAny HDD.out _ a len cap _ hl hA1).mono ?_
  rintro e w2 ⟨v, L, rfl, hO, h61, hwd, hA2, hG2⟩
  obtain ⟨g, cp, rfl, _, _, _, _, _, _⟩ := Lc.ownK_shape hO
  have hB2 := Draw.below_of_grown hb1 (Nat.le_refl _) hG2
  have hs1 := hb1.size
  have hlt1 := hA1.lt
  have hlt2 := hA2.lt
  have HO : Hid (OwnK 37 w1.heap.size w2 (.slice (some ⟨g, 0, none⟩) L.length cp) L) := hO
  have HWD : Hid (∀ k ∈ L, k.word.size ≤ 13) := hwd
  clear hO hwd hG2 hb1 hA1
  go_wp2_with fail
  refine (l8Draw _ a len cap _ hl hA2).mono ?_
  rintro e w3 ⟨gc, cc, C, rfl, hC7, hO3, hA3, hG3⟩
  have hB3 := Draw.below_of_grown hB2 (Nat.le_refl _) hG3
  have HO3 : Hid (OwnK 37 w1.heap.size w3 (.slice (some ⟨g, 0, none⟩) L.length cp) L) := ownK_grown HO.out hG3 hlt1
  clear HO hB2 hG3 hA2
  go_wp2_with fail
  refine (l3DrawAt _ a len cap L.length _ hl h61 hA3).mono ?_
  rintro e w4 ⟨x, rfl, _, hA4, hG4⟩
  have HF : Hid (Drawn w.heap.size w w4 (.slice (some ⟨g, 0, none⟩) L.length cp) L) := ⟨ownK_base (ownK_grown HO3.out hG4 hlt1) hs1, h61, HWD.out, Draw.below_of_grown hB3 (Nat.le_refl _) hG4⟩
  have HFC : Hid (CoinsL w4 gc C) := coinsL_of (Draw.own_grown hO3 hG4 hlt2) hC7
  clear HO3 hB3 hG4 hA3 hA4 hO3
  go_wp2
  refine bodyPost_ret (v := .tuple #[.slice (some ⟨g, 0, none⟩) L.length cp, .slice (some ⟨gc, 0, none⟩) C.length cc, .int .i64 x]) (by simp [results, Try.f9, go_sem]) rfl ?_
  exact ⟨_, L, gc, cc, C, x, rfl, HF.out, HFC.out⟩

end Rm
end Go.Proofs.Ytcbfdfddifmeiaa

namespace Go.Proofs.Ytcbfdfddifmeiaa
open Go.RowKit
set_option maxRecDepth 100000
namespace Rm
open Kn (K okK)
open Bit (bit memTo)
open Lc (at' RdK laceB flat OwnK cellsOf setB)
open Sg (bel belowI isB)
open Ch (leadI leadK waveI in6 leaderI leadsB)
open Cur (At)

def ImplWaveOf : Prop := ∀ (r : Int) (w : World), Calls Try.prog 8 #[.int .i64 r] w fun e w' => e = .returned (.int .i64 (waveI r)) ∧ Below w.heap.size w w'
def ImplLeaderOf : Prop := ∀ (g cc : Nat) (C : List Int) (wave : Int) (w : World), CoinsL w g C → Calls Try.prog 6 #[.slice (some ⟨g, 0, none⟩) C.length cc, .int .i64 wave] w fun e w' => e = .returned (.int .i64 (leaderI C wave)) ∧ Below w.heap.size w w'
def ImplCoinsOk : Prop := ∀ (g cc : Nat) (C : List Int) (w : World), CoinsL w g C → Calls Try.prog 14 #[.slice (some ⟨g, 0, none⟩) C.length cc] w fun e w' => e = .returned (.bool (coinsB C)) ∧ Below w.heap.size w w'
def ImplLeads : Prop := ∀ (g cap : Nat) (L : List K) (gc cc : Nat) (C : List Int) (k : Int) (w : World), LiesS w g L → CoinsL w gc C → Calls Try.prog 10 #[.slice (some ⟨g, 0, none⟩) L.length cap, .slice (some ⟨gc, 0, none⟩) C.length cc, .int .i64 k] w fun e w' => e = .returned (.bool (leadsB L C k)) ∧ Below w.heap.size w w'

theorem wave_bd (r : Int) : waveI r = -1 ∨ (0 ≤ waveI r ∧ waveI r ≤ 6 ∧ 3 * waveI r ≤ r ∧ r ≤ 3 * waveI r + 2) := by
  unfold Ch.waveI
  cases hq : Kn.in19 r
  · left; rfl
  · right
    have hb : 0 ≤ r ∧ r ≤ 19 := by unfold Kn.in19 at hq; simpa using hq
    rw [if_pos rfl]; omega
theorem leader_bd (C : List Int) (wave : Int) : leaderI C wave = -1 ∨ (0 ≤ leaderI C wave ∧ leaderI C wave ≤ 3 ∧ 0 ≤ wave ∧ wave ≤ 6 ∧ (wave < (C.length : Int) → leaderI C wave = C.getD wave.toNat 0)) := by
  unfold Ch.leaderI
  cases hc : (coinsB C && in6 wave)
  · left; rfl
  · right
    rw [Bool.and_eq_true] at hc
    have hb : 0 ≤ wave ∧ wave ≤ 6 := by have := hc.2; unfold Ch.in6 at this; simpa using this
    rw [if_pos rfl]
    have h2 := Ch.lead_bd hc.1 hb.1
    refine ⟨h2.1, h2.2, hb.1, hb.2, fun hlt => ?_⟩
    unfold Ch.leadI; rw [if_pos hlt]

/-- of a knot of a lace, and of coins: what to lead is -/
theorem leads_at {L : List K} (hl : laceB L = true) {C : List Int} (hc : coinsB C = true) {p : Nat} (hp : p < L.length) : ∃ q : Int, waveI (at' L p).round = q ∧ 0 ≤ q ∧ q ≤ 6 ∧ (0 ≤ (at' L p).round ∧ (at' L p).round ≤ 19) ∧ leadsB L C (p : Int) = (((at' L p).round == 3 * q) && ((at' L p).hand == leaderI C q)) := by
  have hr := Lc.ok_round (Lc.can_ok (Lc.lace_upTo hl p hp))
  have hi : isB L (p : Int) = true := by rw [isB_iff hl]; omega
  have hq : Kn.in19 (at' L p).round = true := by unfold Kn.in19; simp; omega
  have h6 : in6 ((at' L p).round / 3) = true := by unfold Ch.in6; simp; omega
  refine ⟨(at' L p).round / 3, by unfold Ch.waveI; rw [hq]; rfl, by omega, by omega, hr, ?_⟩
  unfold Ch.leadsB Ch.leaderI Ch.leadK
  rw [hi, hc, h6, Int.toNat_natCast]
  have e : decide ((at' L p).round % 3 = 0) = ((at' L p).round == 3 * ((at' L p).round / 3)) := by
    rw [Bool.eq_iff_iff, decide_eq_true_eq, beq_iff_eq]; omega
  rw [e, Bool.true_and, Bool.true_and, Bool.and_self, if_pos rfl]
  congr 1

set_option maxHeartbeats 12800000 in
theorem wavesWalk (HI1 : ImplWaveOf) (HI2 : ImplLeaderOf) (HI3 : ImplCoinsOk) (HI4 : ImplLeads) (HD : DrawsRoom) (a0 : Option Addr) (len0 cap0 : Nat) (w : World) (hcode : Cur.Code w a0 len0) :
    Calls Try.prog 3 #[.slice a0 len0 cap0] w fun e w' => e = .returned (.bool true) ∧ Below w.heap.size w w' := by
  by_cases hbig : 4096 < len0
  · have hb' : (4096 : Int) < (len0 : Int) := by omega
    go_enter Try.func3, Try.ntmps3
    go_wp2
    go_ret
    exact ⟨rfl, Below.refl _ _⟩
  · have hb' : ¬ (4096 : Int) < (len0 : Int) := by omega
    have hle0 : len0 ≤ 4096 := by omega
    have HDD : Hid DrawsRoom := HD
    have H1 : Hid ImplWaveOf := HI1
    have H2 : Hid ImplLeaderOf := HI2
    have H3 : Hid ImplCoinsOk := HI3
    have H4 : Hid ImplLeads := HI4
    have HCode : Hid (Cur.Code w a0 len0) := hcode
    clear hbig HD hcode HI1 HI2 HI3 HI4
    go_enter Try.func3, Try.ntmps3
    go_wp2_with (first | (go_at_call 4; go_in) | fail)
    refine (drawLeaderOf a0 len0 cap0 _ hle0 HCode.out).mono ?_
    rintro e w1 ⟨gd, dc, D, wv, rfl, hD1, _, hB1⟩
    go_wp2_with fail
    refine (H2.out gd dc D wv _ hD1).mono ?_
    rintro e w2 ⟨rfl, hb2⟩
    have HD2 : Hid (CoinsL w2 gd D) := hD1.below hb2
    have HB2 : Hid (Below w.heap.size w w2) := hB1.trans (hb2.mono hB1.size)
    clear hD1 hB1 hb2
    go_wp2_with fail
    refine (drawWaveOf a0 len0 cap0 _ hle0 (code_below2 HCode.out HB2.out)).mono ?_
    rintro e w3 ⟨r, rfl, hr0, hb3⟩
    have HD3 : Hid (CoinsL w3 gd D) := HD2.out.below hb3
    have HB3 : Hid (Below w.heap.size w w3) := HB2.out.trans (hb3.mono HB2.out.size)
    clear HD2 HB2 hb3
    go_wp2_with fail
    refine (H1.out r _).mono ?_
    rintro e w4 ⟨rfl, hb4⟩
    have HD4 : Hid (CoinsL w4 gd D) := HD3.out.below hb4
    have HB4 : Hid (Below w.heap.size w w4) := HB3.out.trans (hb4.mono HB3.out.size)
    clear HD3 HB3 hb4
    go_wp2_with fail
    refine (drawLeads HDD.out a0 len0 cap0 _ hle0 (code_below2 HCode.out HB4.out)).mono ?_
    rintro e w5 ⟨v, L, gc, cc, C, k, rfl, hDr, hC5⟩
    obtain ⟨g, cp, rfl, hcp, hL5⟩ := drawn_liesS hDr
    have HD5 : Hid (CoinsL w5 gd D) := HD4.out.below hDr.bel
    have HB5 : Hid (Below w.heap.size w w5) := HB4.out.trans (hDr.bel.mono HB4.out.size)
    clear HD4 HB4 hDr
    go_wp2_with fail
    refine (H4.out g cp L gc cc C k _ hL5 hC5).mono ?_
    rintro e w6 ⟨rfl, hb6⟩
    have HSTEP : Hid (∀ W W' : World, (LiesS W g L ∧ CoinsL W gc C ∧ CoinsL W gd D ∧ Below w.heap.size w W) → Below W.heap.size W W' → (LiesS W' g L ∧ CoinsL W' gc C ∧ CoinsL W' gd D ∧ Below w.heap.size w W')) := fun W W' h hb => ⟨h.1.below hb, h.2.1.below hb, h.2.2.1.below hb, h.2.2.2.trans (hb.mono h.2.2.2.size)⟩
    have HS6 : Hid (LiesS w6 g L ∧ CoinsL w6 gc C ∧ CoinsL w6 gd D ∧ Below w.heap.size w w6) := HSTEP.out _ _ ⟨hL5, hC5, HD5.out, HB5.out⟩ hb6
    clear hL5 hC5 HD5 HB5 hb6
    have HLB : Hid (leaderI D wv = -1 ∨ (0 ≤ leaderI D wv ∧ leaderI D wv ≤ 3 ∧ 0 ≤ wv ∧ wv ≤ 6 ∧ (wv < (D.length : Int) → leaderI D wv = D.getD wv.toNat 0))) := leader_bd D wv
    have HWB : Hid (waveI r = -1 ∨ (0 ≤ waveI r ∧ waveI r ≤ 6 ∧ 3 * waveI r ≤ r ∧ r ≤ 3 * waveI r + 2)) := wave_bd r
    have hcA := Ch.specLeaderOf (some ⟨gd, 0, none⟩) dc D wv w6 (by have := HS6.out.2.2.1.len; omega) HS6.out.2.2.1.rd
    generalize leaderI D wv = hh at HLB hcA ⊢
    have hcB := Ch.specWaveOf r w6
    generalize waveI r = ww at HWB hcB ⊢
    have hcC := Ch.specLeads g 0 cp L (some ⟨gc, 0, none⟩) cc C k w6 hcp HS6.out.1.words HS6.out.1.rd (by have := HS6.out.2.1.len; omega) HS6.out.2.1.rd HS6.out.2.1.at
    generalize hib : leadsB L C k = ib at hcC ⊢
    have HIB : Hid (leadsB L C k = ib) := hib
    clear hib
    go_wp2_with fail
    refine hcA.mono ?_
    rintro e w' ⟨rfl, rfl⟩
    clear hcA
    go_wp2_with fail
    refine hcB.mono ?_
    rintro e w' ⟨rfl, rfl⟩
    clear hcB
    go_wp2_with fail
    refine hcC.mono ?_
    rintro e w7 ⟨rfl, hb7⟩
    have HS7 : Hid (LiesS w7 g L ∧ CoinsL w7 gc C ∧ CoinsL w7 gd D ∧ Below w.heap.size w w7) := HSTEP.out _ _ HS6.out hb7
    clear hcC hb7 HS6
    go_wp2_with fail
    refine (H3.out gd dc D _ HS7.out.2.2.1).mono ?_
    rintro e w8 ⟨rfl, hb8⟩
    have HS8 : Hid (LiesS w8 g L ∧ CoinsL w8 gc C ∧ CoinsL w8 gd D ∧ Below w.heap.size w w8) := HSTEP.out _ _ HS7.out hb8
    clear hb8 HS7
    have hcD := specCoinsOk (some ⟨gd, 0, none⟩) dc D w8 (by have := HS8.out.2.2.1.len; omega) HS8.out.2.2.1.rd
    generalize coinsB D = cb at hcD ⊢
    go_wp2_with fail
    refine hcD.mono ?_
    rintro e w' ⟨rfl, rfl⟩
    clear hcD
    go_upto_region 11 with fail
    go_cut [76] (fun bv wx => bv = .bool false ∧ Hid (LiesS wx g L ∧ CoinsL wx gc C ∧ CoinsL wx gd D ∧ Below w.heap.size w wx))
    case first =>
      rcases HWB.out with e | ⟨e1, e2, e3, e4⟩
      · subst e
        clear HWB
        go_wp2_with fail
        go_meet
        exact ⟨rfl, HS8⟩
      · clear HWB
        have m1 : IntKind.i64.wrap (3 * ww) = 3 * ww := by rw [IntKind.wrap_i64]; omega
        have m2 : IntKind.i64.wrap (3 * ww + 2) = 3 * ww + 2 := by rw [IntKind.wrap_i64]; omega
        go_wp2_with fail
        go_meet
        exact ⟨by rw [decide_eq_false (by omega : ¬ r < 3 * ww), decide_eq_false (by omega : ¬ 3 * ww + 2 < r)]; rfl, HS8⟩
    case rest =>
      obtain ⟨rfl, HS9⟩ := hcut
      clear HWB HS8
      go_upto_region 13 with fail
      go_cut [96] (fun bv wx => bv = .bool false ∧ Hid (LiesS wx g L ∧ CoinsL wx gc C ∧ CoinsL wx gd D ∧ Below w.heap.size w wx))
      case first =>
        rcases HLB.out with e | ⟨e1, e2, e3, e4, e5⟩
        · subst e
          clear HLB
          go_wp2_with fail
          go_meet
          exact ⟨rfl, HS9⟩
        · obtain ⟨p, rfl⟩ := Int.eq_ofNat_of_zero_le e3
          rw [Int.toNat_natCast] at e5
          by_cases hlt : p < D.length
          · have hpi : (p : Int) < (D.length : Int) := by omega
            have cy := HS9.out.2.2.1.cell hlt
            rw [← e5 hpi] at cy
            have hbn : (hh != hh) = false := by simp
            clear HLB e5
            go_wp2_with fail
            go_meet
            exact ⟨by rw [decide_eq_false (by omega : ¬ 3 < hh)], HS9⟩
          · have hpi : ¬ (p : Int) < (D.length : Int) := by omega
            clear HLB e5
            go_wp2_with fail
            go_meet
            exact ⟨by rw [decide_eq_false (by omega : ¬ 3 < hh)], HS9⟩
      case rest =>
        obtain ⟨rfl, HS10⟩ := hcut
        clear HLB HS9
        have hcE := Sg.specBelow g 0 cp L k wc hcp HS10.out.1.words HS10.out.1.rd
        cases hia : isB L k
        · have hib : ib = false := by rw [← HIB.out]; unfold Ch.leadsB; rw [hia]; rfl
          subst hib
          have e : belowI L k = -1 := by unfold Sg.belowI; rw [hia]; rfl
          rw [e] at hcE
          clear hia HIB e
          go_wp2_with fail
          refine hcE.mono ?_
          rintro e w11 ⟨rfl, hb11⟩
          have HB11 : Hid (Below w.heap.size w w11) := (HSTEP.out _ _ HS10.out hb11).2.2.2
          clear hcE hb11 HS10
          go_wp2
          go_ret
          exact ⟨rfl, HB11.out⟩
        · obtain ⟨k0, k1, hlc⟩ := Sg.isB_parts hia
          have h60 := ((Lc.lace_iff L).1 hlc).1
          have hpos : ¬ belowI L k < 0 := by
            unfold Sg.belowI; rw [hia, if_pos rfl]
            have := (Sg.bel_bd L k.toNat (by omega)).1
            omega
          generalize belowI L k = bl at hcE hpos
          go_wp2_with fail
          refine hcE.mono ?_
          rintro e w11 ⟨rfl, hb11⟩
          have HS11 : Hid (LiesS w11 g L ∧ CoinsL w11 gc C ∧ CoinsL w11 gd D ∧ Below w.heap.size w w11) := HSTEP.out _ _ HS10.out hb11
          clear hcE hb11 HS10
          have hcF := specCoinsOk (some ⟨gc, 0, none⟩) cc C w11 (by have := HS11.out.2.1.len; omega) HS11.out.2.1.rd
          cases hcb : coinsB C
          · have hib : ib = false := by rw [← HIB.out]; unfold Ch.leadsB; rw [hcb]; simp
            subst hib
            rw [hcb] at hcF
            clear hcb HIB hia hlc
            go_wp2_with fail
            refine hcF.mono ?_
            rintro e w12 ⟨rfl, rfl⟩
            clear hcF
            go_wp2
            go_ret
            exact ⟨rfl, HS11.out.2.2.2⟩
          · rw [hcb] at hcF
            obtain ⟨p, rfl⟩ := Int.eq_ofNat_of_zero_le k0
            have hp : p < L.length := by omega
            obtain ⟨q, hq, hq0, hq6, hrr, hlead⟩ := leads_at hlc hcb hp
            rw [HIB.out] at hlead
            have HWV : Hid (∀ W : World, Calls Try.prog 8 #[.int .i64 (at' L p).round] W fun e w' => e = .returned (.int .i64 q) ∧ Below W.heap.size W w') := fun W => by
              have := H1.out (at' L p).round W
              rwa [hq] at this
            have HLV : Hid (∀ W : World, CoinsL W gc C → Calls Try.prog 6 #[.slice (some ⟨gc, 0, none⟩) C.length cc, .int .i64 q] W fun e w' => e = .returned (.int .i64 (leaderI C q)) ∧ Below W.heap.size W w') := fun W hW => H2.out gc cc C q W hW
            obtain ⟨hgl, c0, c1, _, _⟩ := HS11.out.1.rd.on p hp
            rw [Nat.zero_add] at c0 c1
            have hpi : (p : Int) < (L.length : Int) := by omega
            have HLD : Hid (ib = (((at' L p).round == 3 * q) && ((at' L p).hand == leaderI C q))) := hlead
            clear hq hlead HIB hia hlc hcb H1 H2 H3 H4
            generalize (at' L p).round = rr at c1 HLD HWV hrr
            generalize (at' L p).hand = hd at c0 HLD
            generalize leaderI C q = lq at HLV HLD
            have hw3 : IntKind.i64.wrap (3 * q) = 3 * q := by rw [IntKind.wrap_i64]; omega
            go_wp2_with fail
            refine hcF.mono ?_
            rintro e w12 ⟨rfl, rfl⟩
            clear hcF
            go_wp2_with fail
            obtain ⟨X, _, F, HF, HG⟩ := Fam.fam w11
            have hc1 : ∀ z, (F z).cell? ⟨g, p * 4 + 1, none⟩ = some (.int .i64 rr) := fun z => ((HF.out z).cell (p := ⟨g, p * 4 + 1, none⟩) hgl).trans c1
            have hc0 : ∀ z, (F z).cell? ⟨g, p * 4, none⟩ = some (.int .i64 hd) := fun z => ((HF.out z).cell (p := ⟨g, p * 4, none⟩) hgl).trans c0
            clear c0 c1
            by_cases hr3 : rr = 3 * q
            · have hr3' : (rr == 3 * q) = true := by simpa using hr3
              rw [hr3', Bool.true_and] at HLD
              clear hr3
              refine Fam.region (F := F) (by kernel_rfl) (by kernel_rfl) (HG.out _ (Below.refl _ w11).drew) ?_
              repeat (go_big_quiet_step (first
                | (go_at_call 8; exact (HWV.out _).mono fun _ _ h => ⟨h.1, HG.out _ ((HF.out _).trans (h.2.mono (HF.out _).size))⟩)
                | (go_at_call 6; exact (HLV.out _ (HS11.out.2.1.below (HF.out _))).mono fun _ _ h => ⟨h.1, HG.out _ ((HF.out _).trans (h.2.mono (HF.out _).size))⟩)))
              refine wpQuiet_nil ?_
              intro w13 hw13
              obtain ⟨z, rfl⟩ := hw13
              have HB13 : Hid (Below w.heap.size w (F z)) := HS11.out.2.2.2.trans ((HF.out z).mono HS11.out.2.2.2.size)
              have hib2 := HLD.out
              subst hib2
              clear HLD
              go_wp2
              go_ret
              exact ⟨by simp, HB13.out⟩
            · have hr3' : (rr == 3 * q) = false := by simpa using hr3
              rw [hr3', Bool.false_and] at HLD
              clear hr3
              refine Fam.region (F := F) (by kernel_rfl) (by kernel_rfl) (HG.out _ (Below.refl _ w11).drew) ?_
              repeat (go_big_quiet_step (first
                | (go_at_call 8; exact (HWV.out _).mono fun _ _ h => ⟨h.1, HG.out _ ((HF.out _).trans (h.2.mono (HF.out _).size))⟩)))
              refine wpQuiet_nil ?_
              intro w13 hw13
              obtain ⟨z, rfl⟩ := hw13
              have HB13 : Hid (Below w.heap.size w (F z)) := HS11.out.2.2.2.trans ((HF.out z).mono HS11.out.2.2.2.size)
              have hib2 := HLD.out
              subst hib2
              clear HLD
              go_wp2
              go_ret
              exact ⟨by simp, HB13.out⟩

end Rm
end Go.Proofs.Ytcbfdfddifmeiaa

namespace Go.Proofs.Ytcbfdfddifmeiaa
open Go.RowKit
set_option maxRecDepth 100000
namespace Nd
open Kn (K okK)
open Bit (bit withB)
open Lc (at' RdK amongI HandsOk)
open Db (RowI)

/-- those of a set, of the first n, that a hand tied -/
def hf (L : List K) (s h : Int) (n : Nat) : Int := amongI (fun k => decide (k.hand = h)) L s n

theorem hf_step (L : List K) (s h : Int) (n : Nat) : hf L s h (n + 1) = if bit s n && decide ((at' L n).hand = h) then withB (hf L s h n) n else hf L s h n := rfl
theorem hf_bd (L : List K) (s h : Int) (n : Nat) (hn : n ≤ 60) : 0 ≤ hf L s h n ∧ hf L s h n < 1152921504606846976 := Lc.among_bd _ L s n hn
theorem hf_miss (L : List K) (s : Int) (n : Nat) (hb : bit s n = false) : (fun h : Nat => hf L s h (n + 1)) = fun h : Nat => hf L s h n := by
  funext h; rw [hf_step, hb]; simp
theorem hf_hit (L : List K) (s : Int) (n m : Nat) (hb : bit s n = true) (hm : (at' L n).hand = (m : Int)) : (fun h : Nat => if h = m then withB (hf L s m n) n else hf L s h n) = fun h : Nat => hf L s h (n + 1) := by
  funext h; rw [hf_step, hb, hm]
  by_cases e : h = m
  · subst e; simp
  · have : ¬ ((m : Int) = (h : Int)) := by omega
    rw [if_neg e, decide_eq_false this]; simp

theorem rowI_alloc {w : World} {g n : Nat} {D : Nat → Int} (h : RowI w g n D) (o : Obj) : RowI (w.alloc o) g n D where
  lt := by have := h.lt; simp; omega
  rd := fun i hi => by rw [World.cell?_alloc_lt _ _ _ h.lt]; exact h.rd i hi
  fr := fun i hi => by rw [World.frozen?_alloc_past _ _ _ h.lt]; exact h.fr i hi
theorem rowI_other {w : World} {g n : Nat} {D : Nat → Int} (h : RowI w g n D) (c i : Nat) (hc : g ≠ c) (v : Value) : RowI (w.setCell ⟨c, i, none⟩ v) g n D where
  lt := by simpa using h.lt
  rd := fun j hj => (World.cell?_of_block (w := w) (Below.heap_setCell w ⟨c, i, none⟩ v g hc)).trans (h.rd j hj)
  fr := fun j hj => by rw [World.frozen?_setCell]; exact h.fr j hj

theorem rowI_four (w : World) (t : TypeId) : RowI (w.alloc (.cells #[.int .i64 0, .int .i64 0, .int .i64 0, .int .i64 0] t)) w.heap.size 4 (fun _ => 0) where
  lt := by simp
  rd := fun i hi => by
    match i, hi with
    | 0, _ => simp
    | 1, _ => simp
    | 2, _ => simp
    | 3, _ => simp
  fr := fun i hi => by
    match i, hi with
    | 0, _ => simp
    | 1, _ => simp
    | 2, _ => simp
    | 3, _ => simp

end Nd
end Go.Proofs.Ytcbfdfddifmeiaa

namespace Go.Proofs.Ytcbfdfddifmeiaa
open Go.RowKit
set_option maxRecDepth 100000
set_option linter.unusedVariables false
namespace Ch
open Kn (K okK)
open Lc (at' laceB RdK WordsOk)
open Sg (isB)
open Rm (coinsB coinsTo)
open Db (RowI)

/-- whose turn each wave is, the first j coins laid -/
def led (C : List Int) (j i : Nat) : Int := if i < j then C.getD i 0 else (i : Int) % 4
theorem led_all (C : List Int) (i : Nat) : led C C.length i = leadI C (i : Int) := by
  unfold led leadI
  by_cases h : i < C.length
  · rw [if_pos h, if_pos (by omega), Int.toNat_natCast]
  · rw [if_neg h, if_neg (by omega)]
theorem led_zero (C : List Int) : led C 0 = fun i : Nat => (i : Int) % 4 := by funext i; unfold led; rw [if_neg (by omega)]
theorem led_step (C : List Int) (j : Nat) : (fun i => if i = j then C.getD j 0 else led C j i) = led C (j + 1) := by
  funext i
  unfold led
  by_cases h : i = j
  · subst h; rw [if_pos rfl, if_pos (by omega)]
  · rw [if_neg h]
    by_cases h2 : i < j
    · rw [if_pos h2, if_pos (by omega)]
    · rw [if_neg h2, if_neg (by omega)]
/-- the waves' own turns, the first j laid -/
def own4 (j i : Nat) : Int := if i < j then (i : Int) % 4 else 0
theorem own4_zero : own4 0 = fun _ => 0 := by funext i; unfold own4; rw [if_neg (by omega)]
theorem own4_step (j : Nat) : (fun i => if i = j then (j : Int) % 4 else own4 j i) = own4 (j + 1) := by
  funext i
  unfold own4
  by_cases h : i = j
  · subst h; rw [if_pos rfl, if_pos (by omega)]
  · rw [if_neg h]
    by_cases h2 : i < j
    · rw [if_pos h2, if_pos (by omega)]
    · rw [if_neg h2, if_neg (by omega)]

def seven (f : Nat → Int) : Array Value := #[.int .i64 (f 0), .int .i64 (f 1), .int .i64 (f 2), .int .i64 (f 3), .int .i64 (f 4), .int .i64 (f 5), .int .i64 (f 6)]

theorem rowI_seven (w : World) (t : TypeId) (f : Nat → Int) : RowI (w.alloc (.cells #[.int .i64 (f 0), .int .i64 (f 1), .int .i64 (f 2), .int .i64 (f 3), .int .i64 (f 4), .int .i64 (f 5), .int .i64 (f 6)] t)) w.heap.size 7 f where
  lt := by simp
  rd := fun i hi => by
    match i, hi with
    | 0, _ => simp
    | 1, _ => simp
    | 2, _ => simp
    | 3, _ => simp
    | 4, _ => simp
    | 5, _ => simp
    | 6, _ => simp
  fr := fun i hi => by
    match i, hi with
    | 0, _ => simp
    | 1, _ => simp
    | 2, _ => simp
    | 3, _ => simp
    | 4, _ => simp
    | 5, _ => simp
    | 6, _ => simp

theorem put7 {w0 wr : World} {b : Nat} {D : Nat → Int} (h : RowI wr b 7 D) (n : Nat) (hn : n ≤ b) (hB : Below n w0 wr) (x0 x1 x2 x3 x4 x5 x6 : Int) :
    ∃ W7, W7 = (((((((wr.setCell ⟨b, 0, none⟩ (.int .i64 x0)).setCell ⟨b, 1, none⟩ (.int .i64 x1)).setCell ⟨b, 2, none⟩ (.int .i64 x2)).setCell ⟨b, 3, none⟩ (.int .i64 x3)).setCell ⟨b, 4, none⟩ (.int .i64 x4)).setCell ⟨b, 5, none⟩ (.int .i64 x5)).setCell ⟨b, 6, none⟩ (.int .i64 x6)) ∧
      W7.cell? ⟨b, 0, none⟩ = some (.int .i64 x0) ∧ W7.cell? ⟨b, 1, none⟩ = some (.int .i64 x1) ∧ W7.cell? ⟨b, 2, none⟩ = some (.int .i64 x2) ∧ W7.cell? ⟨b, 3, none⟩ = some (.int .i64 x3) ∧ W7.cell? ⟨b, 4, none⟩ = some (.int .i64 x4) ∧ W7.cell? ⟨b, 5, none⟩ = some (.int .i64 x5) ∧ W7.cell? ⟨b, 6, none⟩ = some (.int .i64 x6) ∧
      (∀ i, i < 7 → W7.frozen? ⟨b, i, none⟩ = false) ∧ Below n w0 W7 := by
  have h1 := ((((((h.put 0 (by omega) x0).put 1 (by omega) x1).put 2 (by omega) x2).put 3 (by omega) x3).put 4 (by omega) x4).put 5 (by omega) x5).put 6 (by omega) x6
  refine ⟨_, rfl, h1.rd 0 (by omega), h1.rd 1 (by omega), h1.rd 2 (by omega), h1.rd 3 (by omega), h1.rd 4 (by omega), h1.rd 5 (by omega), h1.rd 6 (by omega), h1.fr, ?_⟩
  exact ((((((hB.setCell (p := ⟨b, 0, none⟩) hn _).setCell (p := ⟨b, 1, none⟩) hn _).setCell (p := ⟨b, 2, none⟩) hn _).setCell (p := ⟨b, 3, none⟩) hn _).setCell (p := ⟨b, 4, none⟩) hn _).setCell (p := ⟨b, 5, none⟩) hn _).setCell (p := ⟨b, 6, none⟩) hn _

theorem coins_long {C : List Int} (h : ¬ C.length ≤ 6) : coinsB C = false := by unfold Rm.coinsB; rw [decide_eq_false h]; simp
theorem coins_done {C : List Int} (h : C.length ≤ 6) (h2 : coinsTo C C.length = true) : coinsB C = true := by unfold Rm.coinsB; rw [h2, decide_eq_true h]; rfl

theorem rd_low {w w' : World} {ao : Option Addr} {l : List Int} (h : Lst.Rd w ao l) (hao : ∀ c, ao = some ⟨c, 0, none⟩ → c < w.heap.size) (hb : Below w.heap.size w w') : Lst.Rd w' ao l := by
  rcases h with h | ⟨g, rfl, hc⟩
  · exact .inl h
  · exact .inr ⟨g, rfl, fun j hj => (hb.cell (p := ⟨g, j, none⟩) (hao g rfl)).trans (hc j hj)⟩

/-- how the laying of the coins ends -/
def LedPost (C : List Int) (w : World) (e : Ending) (w' : World) : Prop :=
  (coinsB C = true ∧ e = .returned (.tuple #[.agg #[.int .i64 (leadI C 0), .int .i64 (leadI C 1), .int .i64 (leadI C 2), .int .i64 (leadI C 3), .int .i64 (leadI C 4), .int .i64 (leadI C 5), .int .i64 (leadI C 6)], .bool true]) ∧ Below w.heap.size w w') ∨
  (coinsB C = false ∧ e = .returned (.tuple #[.agg #[.int .i64 0, .int .i64 0, .int .i64 0, .int .i64 0, .int .i64 0, .int .i64 0, .int .i64 0], .bool false]) ∧ Below w.heap.size w w')

set_option maxHeartbeats 1600000 in
theorem leadersOf (ao : Option Addr) (cap : Nat) (C : List Int) (w : World) (hl : C.length ≤ 1048576) (hrd : Lst.Rd w ao C) (hao : ∀ c, ao = some ⟨c, 0, none⟩ → c < w.heap.size) :
    Calls Try.prog 20 #[.slice ao C.length cap] w (LedPost C w) := by
  by_cases h6 : C.length ≤ 6
  · have h6' : ¬ (6 : Int) < (C.length : Int) := by omega
    have P0 : Hid (RowI ((w.alloc (.cells #[.int .i64 0, .int .i64 0, .int .i64 0, .int .i64 0, .int .i64 0, .int .i64 0, .int .i64 0] 44)).alloc (.cells #[.int .i64 0, .int .i64 0, .int .i64 0, .int .i64 0, .int .i64 0, .int .i64 0, .int .i64 0] 44)) w.heap.size 7 (fun _ => 0) ∧
        RowI ((w.alloc (.cells #[.int .i64 0, .int .i64 0, .int .i64 0, .int .i64 0, .int .i64 0, .int .i64 0, .int .i64 0] 44)).alloc (.cells #[.int .i64 0, .int .i64 0, .int .i64 0, .int .i64 0, .int .i64 0, .int .i64 0, .int .i64 0] 44)) (w.heap.size + 1) 7 (own4 0) ∧
        Below w.heap.size w ((w.alloc (.cells #[.int .i64 0, .int .i64 0, .int .i64 0, .int .i64 0, .int .i64 0, .int .i64 0, .int .i64 0] 44)).alloc (.cells #[.int .i64 0, .int .i64 0, .int .i64 0, .int .i64 0, .int .i64 0, .int .i64 0, .int .i64 0] 44))) :=
      ⟨Nd.rowI_alloc (rowI_seven w _ (fun _ => 0)) _, by rw [own4_zero]; have := rowI_seven (w.alloc (.cells #[.int .i64 0, .int .i64 0, .int .i64 0, .int .i64 0, .int .i64 0, .int .i64 0, .int .i64 0] 44)) 44 (fun _ => 0); simpa using this, ((Below.refl _ w).alloc (Nat.le_refl _) _).alloc (by simp) _⟩
    go_enter Try.func20, Try.ntmps20
    go_wp2
    go_loopw [12] (fun i wr => ∃ j : Nat, j ≤ 7 ∧ i = .int .i64 j ∧ Hid (RowI wr w.heap.size 7 (fun _ => 0)) ∧ Hid (RowI wr (w.heap.size + 1) 7 (own4 j)) ∧ Hid (Below w.heap.size w wr)) (fun i _ => 7 - (intOf i).toNat)
    case atStart => exact ⟨0, by omega, rfl, P0.out.1, P0.out.2.1, P0.out.2.2⟩
    case round =>
      obtain ⟨j, hj, rfl, HR, HF, HB⟩ := hrel
      clear P0
      by_cases hlt : j < 7
      · have hlt' : (j : Int) < 7 := by omega
        have e1 := HF.out.rd j hlt
        have f1 := HF.out.fr j hlt
        have HR2 : Hid (RowI (wr.setCell ⟨w.heap.size + 1, j, none⟩ (.int .i64 ((j : Int) % 4))) w.heap.size 7 (fun _ => 0)) := Nd.rowI_other HR.out _ _ (by omega) _
        have HF2 : Hid (RowI (wr.setCell ⟨w.heap.size + 1, j, none⟩ (.int .i64 ((j : Int) % 4))) (w.heap.size + 1) 7 (own4 (j + 1))) := by
          show RowI _ _ _ _
          rw [← own4_step]; exact HF.out.put j hlt _
        have HB2 : Hid (Below w.heap.size w (wr.setCell ⟨w.heap.size + 1, j, none⟩ (.int .i64 ((j : Int) % 4)))) := HB.out.setCell (p := ⟨w.heap.size + 1, j, none⟩) (by simp) _
        clear HR HF HB
        generalize own4 j j = y at e1
        go_wp2
        go_roundw
        case rel => exact ⟨j + 1, by omega, by go_num, HR2, HF2, HB2⟩
        case measure => simp [intOf]; omega
      · obtain rfl : j = 7 := by omega
        have HF' : Hid (RowI wr (w.heap.size + 1) 7 (led C 0)) := by
          rw [led_zero]
          exact ⟨HF.out.lt, fun i hi => by rw [HF.out.rd i hi]; unfold own4; rw [if_pos hi], HF.out.fr⟩
        clear HF
        rw [show ((7 : Nat) : Int) = 7 from rfl]
        go_wp2
        go_loopw [22] (fun i wr => ∃ j : Nat, j ≤ C.length ∧ i = .int .i64 j ∧ Hid (coinsTo C j = true) ∧ Hid (RowI wr w.heap.size 7 (fun _ => 0)) ∧ Hid (RowI wr (w.heap.size + 1) 7 (led C j)) ∧ Hid (Below w.heap.size w wr)) (fun i _ => C.length - (intOf i).toNat)
        case atStart => exact ⟨0, by omega, rfl, rfl, HR, HF', HB⟩
        case round =>
          clear HR HF' HB
          obtain ⟨j, hj, rfl, HC, HR, HF, HB⟩ := hrel
          by_cases hlt : j < C.length
          · rcases hrd with hrd | ⟨b, rfl, hcell⟩
            · rw [hrd] at hlt; simp at hlt
            have hb0 := hao b rfl
            have cj := (HB.out.cell (p := ⟨b, j, none⟩) hb0).trans (hcell j hlt)
            have HS : Hid (coinsTo C (j + 1) = (coinsTo C j && Kn.in3 (C.getD j 0))) := Rm.coins_step C j
            have HN : Hid (Kn.in3 (C.getD j 0) = false → coinsB C = false) := Rm.coins_no C j hlt
            have HL : Hid ((fun i => if i = j then C.getD j 0 else led C j i) = led C (j + 1)) := led_step C j
            clear hcell hao
            generalize C.getD j 0 = y at cj HS HN HL
            cases hq : Kn.in3 y
            · have HT : Hid (coinsB C = false) := HN.out hq
              have HQ : Hid (Kn.in3 y = false) := hq
              obtain ⟨W7, hW7, k0, k1, k2, k3, k4, k5, k6, _, hB7⟩ := put7 HR.out w.heap.size (Nat.le_refl _) HB.out 0 0 0 0 0 0 0
              have HW : Hid (W7 = _) := hW7
              have q0 := HR.out.fr 0 (by omega)
              have q1 := HR.out.fr 1 (by omega)
              have q2 := HR.out.fr 2 (by omega)
              have q3 := HR.out.fr 3 (by omega)
              have q4 := HR.out.fr 4 (by omega)
              have q5 := HR.out.fr 5 (by omega)
              have q6 := HR.out.fr 6 (by omega)
              have r0 := HR.out.rd 0 (by omega)
              have r1 := HR.out.rd 1 (by omega)
              have r2 := HR.out.rd 2 (by omega)
              have r3 := HR.out.rd 3 (by omega)
              have r4 := HR.out.rd 4 (by omega)
              have r5 := HR.out.rd 5 (by omega)
              have r6 := HR.out.rd 6 (by omega)
              clear hq HS HN HL hW7
              go_wp2_with (go_at_call 34; refine (Kn.known _ _).mono ?_; rintro e w' ⟨rfl, rfl⟩; rw [HQ.out])
              rw [← HW.out]
              refine bodyPost_ret (v := .tuple #[.agg #[.int .i64 0, .int .i64 0, .int .i64 0, .int .i64 0, .int .i64 0, .int .i64 0, .int .i64 0], .bool false]) (by simp [results, Try.f20, go_sem, k0, k1, k2, k3, k4, k5, k6]) rfl ?_
              exact .inr ⟨HT.out, rfl, hB7⟩
            · have HT : Hid (coinsTo C (j + 1) = true) := by show _ = _; rw [HS.out, HC.out, hq]; rfl
              have HQ : Hid (Kn.in3 y = true) := hq
              have e1 := HF.out.rd j (by omega)
              have f1 := HF.out.fr j (by omega)
              have hj7 : (j : Int) < 7 := by omega
              have HR2 : Hid (RowI (wr.setCell ⟨w.heap.size + 1, j, none⟩ (.int .i64 y)) w.heap.size 7 (fun _ => 0)) := Nd.rowI_other HR.out _ _ (by omega) _
              have HF2 : Hid (RowI (wr.setCell ⟨w.heap.size + 1, j, none⟩ (.int .i64 y)) (w.heap.size + 1) 7 (led C (j + 1))) := by
                show RowI _ _ _ _
                rw [← HL.out]; exact HF.out.put j (by omega) _
              have HB2 : Hid (Below w.heap.size w (wr.setCell ⟨w.heap.size + 1, j, none⟩ (.int .i64 y))) := HB.out.setCell (p := ⟨w.heap.size + 1, j, none⟩) (by simp) _
              clear hq HS HN HC HR HF HB HL
              generalize led C j j = z at e1
              go_wp2_with (go_at_call 34; refine (Kn.known _ _).mono ?_; rintro e w' ⟨rfl, rfl⟩; rw [HQ.out])
              go_roundw
              case rel => exact ⟨j + 1, by omega, by go_num, HT, HR2, HF2, HB2⟩
              case measure => simp [intOf]; omega
          · obtain rfl : j = C.length := by omega
            have HT : Hid (coinsB C = true) := coins_done h6 HC.out
            have HF' : Hid (RowI wr (w.heap.size + 1) 7 (fun i => leadI C (i : Int))) := ⟨HF.out.lt, fun i hi => by rw [HF.out.rd i hi, led_all], HF.out.fr⟩
            clear HF HC
            have q0 := HR.out.fr 0 (by omega)
            have q1 := HR.out.fr 1 (by omega)
            have q2 := HR.out.fr 2 (by omega)
            have q3 := HR.out.fr 3 (by omega)
            have q4 := HR.out.fr 4 (by omega)
            have q5 := HR.out.fr 5 (by omega)
            have q6 := HR.out.fr 6 (by omega)
            have r0 := HR.out.rd 0 (by omega)
            have r1 := HR.out.rd 1 (by omega)
            have r2 := HR.out.rd 2 (by omega)
            have r3 := HR.out.rd 3 (by omega)
            have r4 := HR.out.rd 4 (by omega)
            have r5 := HR.out.rd 5 (by omega)
            have r6 := HR.out.rd 6 (by omega)
            have f0 := HF'.out.rd 0 (by omega)
            have f1 := HF'.out.rd 1 (by omega)
            have f2 := HF'.out.rd 2 (by omega)
            have f3 := HF'.out.rd 3 (by omega)
            have f4 := HF'.out.rd 4 (by omega)
            have f5 := HF'.out.rd 5 (by omega)
            have f6 := HF'.out.rd 6 (by omega)
            have HP : Hid (∀ x0 x1 x2 x3 x4 x5 x6 : Int, _) := put7 HR.out w.heap.size (Nat.le_refl _) HB.out
            clear HR HB HF' hrd hao
            go_wp2
            obtain ⟨W7, hW7, k0, k1, k2, k3, k4, k5, k6, _, hB7⟩ := HP.out (leadI C 0) (leadI C 1) (leadI C 2) (leadI C 3) (leadI C 4) (leadI C 5) (leadI C 6)
            rw [← hW7]
            refine bodyPost_ret (v := .tuple #[.agg #[.int .i64 (leadI C 0), .int .i64 (leadI C 1), .int .i64 (leadI C 2), .int .i64 (leadI C 3), .int .i64 (leadI C 4), .int .i64 (leadI C 5), .int .i64 (leadI C 6)], .bool true]) (by simp [results, Try.f20, go_sem, k0, k1, k2, k3, k4, k5, k6]) rfl ?_
            exact .inl ⟨HT.out, rfl, hB7⟩
  · have HT : Hid (coinsB C = false) := coins_long h6
    have h6' : (6 : Int) < (C.length : Int) := by omega
    clear hrd hao
    go_enter Try.func20, Try.ntmps20
    go_wp2
    refine bodyPost_ret (v := .tuple #[.agg #[.int .i64 0, .int .i64 0, .int .i64 0, .int .i64 0, .int .i64 0, .int .i64 0, .int .i64 0], .bool false]) (by simp [results, Try.f20, go_sem]) rfl ?_
    exact .inr ⟨HT.out, rfl, (Below.refl _ w).alloc (Nat.le_refl _) _⟩

/-- what the program's leads asks -/
def ledB (L : List K) (f : Nat → Int) (k : Int) : Bool := (decide (0 ≤ k) && decide (k < (L.length : Int))) && (decide ((at' L k.toNat).round % 3 = 0) && decide ((at' L k.toNat).hand = f ((at' L k.toNat).round / 3).toNat))
theorem ledB_leads {L : List K} (hlc : laceB L = true) {C : List Int} (hc : coinsB C = true) (f : Nat → Int) (hf : ∀ i, i < 7 → f i = leadI C (i : Int)) (k : Int) : ledB L f k = leadsB L C k := by
  unfold ledB leadsB leadK
  rw [Db.isB_lace hlc, hc]
  by_cases hk : 0 ≤ k ∧ k < (L.length : Int)
  · obtain ⟨p, rfl⟩ := Int.eq_ofNat_of_zero_le hk.1
    have hrb := Lc.ok_round (Lc.can_ok (Lc.lace_upTo hlc p (by omega)))
    rw [Int.toNat_natCast] at *
    rw [hf _ (by omega), show ((((at' L p).round / 3).toNat : Nat) : Int) = (at' L p).round / 3 by omega]
    simp
  · have : (decide (0 ≤ k) && decide (k < (L.length : Int))) = false := by
      rw [Bool.eq_false_iff]; intro h; rw [Bool.and_eq_true, decide_eq_true_eq, decide_eq_true_eq] at h; exact hk h
    rw [this]; rfl

theorem beginsWave (r : Int) (w : World) (h0 : 0 ≤ r) (h1 : r ≤ 1000) : Calls Try.prog 42 #[.int .i64 r] w fun e w' => e = .returned (.bool (decide (r % 3 = 0))) ∧ w = w' := by
  have HD : Hid ((r % 3 == 0) = decide (r % 3 = 0)) := rfl
  go_enter Try.func42, Try.ntmps42
  go_wp2
  go_ret
  exact ⟨by rw [← HD.out]; rfl, rfl⟩

theorem waveOf (r : Int) (w : World) (h0 : 0 ≤ r) (h1 : r ≤ 1000) : Calls Try.prog 22 #[.int .i64 r] w fun e w' => e = .returned (.int .i64 (r / 3)) ∧ w = w' := by
  go_enter Try.func22, Try.ntmps22
  go_wp2
  go_ret
  exact ⟨rfl, rfl⟩

set_option maxHeartbeats 400000 in
theorem implWaveOf (r : Int) (w : World) : Calls Try.prog 8 #[.int .i64 r] w fun e w' => e = .returned (.int .i64 (waveI r)) ∧ w = w' := by
  cases hq : Kn.in19 r
  · have HT : Hid (waveI r = -1) := by show _ = _; unfold waveI; rw [hq]; rfl
    have HQ : Hid (Kn.in19 r = false) := hq
    clear hq
    go_enter Try.func8, Try.ntmps8
    go_wp2_with (go_at_call 21; refine (Kn.isRound _ _).mono ?_; rintro e w' ⟨rfl, rfl⟩; rw [HQ.out])
    go_ret
    exact ⟨by rw [HT.out]; rfl, rfl⟩
  · have HT : Hid (waveI r = r / 3) := by show _ = _; unfold waveI; rw [hq]; rfl
    have HQ : Hid (Kn.in19 r = true) := hq
    have hb : 0 ≤ r ∧ r ≤ 19 := by unfold Kn.in19 at hq; simpa using hq
    clear hq
    go_enter Try.func8, Try.ntmps8
    go_wp2_with (first | (go_at_call 21; refine (Kn.isRound _ _).mono ?_; rintro e w' ⟨rfl, rfl⟩; rw [HQ.out]) | (go_at_call 22; refine (waveOf _ _ hb.1 (by omega)).mono ?_; rintro e w' ⟨rfl, rfl⟩))
    go_ret
    exact ⟨by rw [HT.out]; rfl, rfl⟩

set_option maxHeartbeats 400000 in
theorem implCoinsOk (ao : Option Addr) (cap : Nat) (C : List Int) (w : World) (hl : C.length ≤ 1048576) (hrd : Lst.Rd w ao C) (hao : ∀ c, ao = some ⟨c, 0, none⟩ → c < w.heap.size) :
    Calls Try.prog 14 #[.slice ao C.length cap] w fun e w' => e = .returned (.bool (coinsB C)) ∧ Below w.heap.size w w' := by
  go_enter Try.func14, Try.ntmps14
  go_wp2_with fail
  refine (leadersOf ao cap C _ hl hrd hao).mono ?_
  rintro e w1 (⟨hc, rfl, hb1⟩ | ⟨hc, rfl, hb1⟩)
  · have HT : Hid (coinsB C = true) := hc
    clear hc hrd hao
    go_wp2
    go_ret
    exact ⟨by rw [HT.out]; rfl, hb1.alloc hb1.size _⟩
  · have HT : Hid (coinsB C = false) := hc
    clear hc hrd hao
    go_wp2
    go_ret
    exact ⟨by rw [HT.out]; rfl, hb1.alloc hb1.size _⟩

set_option maxHeartbeats 800000 in
theorem implLeaderOf (ao : Option Addr) (cap : Nat) (C : List Int) (wave : Int) (w : World) (hl : C.length ≤ 1048576) (hrd : Lst.Rd w ao C) (hao : ∀ c, ao = some ⟨c, 0, none⟩ → c < w.heap.size) :
    Calls Try.prog 6 #[.slice ao C.length cap, .int .i64 wave] w fun e w' => e = .returned (.int .i64 (leaderI C wave)) ∧ Below w.heap.size w w' := by
  go_enter Try.func6, Try.ntmps6
  go_wp2_with fail
  refine (leadersOf ao cap C _ hl hrd hao).mono ?_
  rintro e w1 (⟨hc, rfl, hb1⟩ | ⟨hc, rfl, hb1⟩)
  · by_cases hq : 0 ≤ wave ∧ wave ≤ 6
    · have HT : Hid (leaderI C wave = leadI C wave) := by show _ = _; unfold leaderI in6; rw [hc, decide_eq_true hq.1, decide_eq_true hq.2]; rfl
      obtain ⟨p, rfl⟩ := Int.eq_ofNat_of_zero_le hq.1
      have h6 : ¬ (6 : Int) < (p : Int) := by omega
      have h7 : (p : Int) < 7 := by omega
      have HRW : Hid (RowI (w1.alloc (.cells #[.int .i64 (leadI C 0), .int .i64 (leadI C 1), .int .i64 (leadI C 2), .int .i64 (leadI C 3), .int .i64 (leadI C 4), .int .i64 (leadI C 5), .int .i64 (leadI C 6)] 44)) w1.heap.size 7 (fun i => leadI C (i : Int))) := rowI_seven w1 44 (fun i => leadI C (i : Int))
      have HB : Hid (Below w.heap.size w (w1.alloc (.cells #[.int .i64 (leadI C 0), .int .i64 (leadI C 1), .int .i64 (leadI C 2), .int .i64 (leadI C 3), .int .i64 (leadI C 4), .int .i64 (leadI C 5), .int .i64 (leadI C 6)] 44))) := hb1.alloc hb1.size _
      have hcell := HRW.out.rd p (by omega)
      generalize leadI C (p : Int) = y at HT hcell
      clear hc hrd hao hb1 hq HRW
      go_wp2
      go_ret
      exact ⟨by rw [HT.out]; rfl, HB.out⟩
    · have HT : Hid (leaderI C wave = -1) := by
        show _ = _
        unfold leaderI in6
        rw [if_neg]
        intro h
        rw [Bool.and_eq_true, Bool.and_eq_true, decide_eq_true_eq, decide_eq_true_eq] at h
        exact hq h.2
      have HB : Hid (Below w.heap.size w (w1.alloc (.cells #[.int .i64 (leadI C 0), .int .i64 (leadI C 1), .int .i64 (leadI C 2), .int .i64 (leadI C 3), .int .i64 (leadI C 4), .int .i64 (leadI C 5), .int .i64 (leadI C 6)] 44))) := hb1.alloc hb1.size _
      clear hc hrd hao hb1
      by_cases h0 : wave < 0
      · clear hq
        go_wp2
        go_ret
        exact ⟨by rw [HT.out]; rfl, HB.out⟩
      · have h6 : (6 : Int) < wave := by omega
        clear hq
        go_wp2
        go_ret
        exact ⟨by rw [HT.out]; rfl, HB.out⟩
  · have HT : Hid (leaderI C wave = -1) := by show _ = _; unfold leaderI; rw [hc]; rfl
    clear hc hrd hao
    go_wp2
    go_ret
    exact ⟨by rw [HT.out]; rfl, hb1.alloc hb1.size _⟩

set_option maxHeartbeats 1600000 in
theorem leads (g off cap : Nat) (L : List K) (f : Nat → Int) (k : Int) (w : World) (hlc : laceB L = true) (hg : g < w.heap.size) (hr : RdK w (some ⟨g, off, none⟩) L) :
    Calls Try.prog 26 #[.slice (some ⟨g, off, none⟩) L.length cap, .agg #[.int .i64 (f 0), .int .i64 (f 1), .int .i64 (f 2), .int .i64 (f 3), .int .i64 (f 4), .int .i64 (f 5), .int .i64 (f 6)], .int .i64 k] w fun e w' => e = .returned (.bool (ledB L f k)) ∧ Below w.heap.size w w' := by
  have h60 := ((Lc.lace_iff L).1 hlc).1
  have P0 : Hid (Below w.heap.size w (w.alloc (.cells #[.int .i64 (f 0), .int .i64 (f 1), .int .i64 (f 2), .int .i64 (f 3), .int .i64 (f 4), .int .i64 (f 5), .int .i64 (f 6)] 44)) ∧ RowI (w.alloc (.cells #[.int .i64 (f 0), .int .i64 (f 1), .int .i64 (f 2), .int .i64 (f 3), .int .i64 (f 4), .int .i64 (f 5), .int .i64 (f 6)] 44)) w.heap.size 7 f) := ⟨(Below.refl _ _).alloc (Nat.le_refl _) _, rowI_seven w _ f⟩
  have HA : Hid (∀ W : World, Calls Try.prog 41 #[.int .i64 (2 ^ L.length - 1), .int .i64 k] W fun e w' => e = .returned (.bool (decide (0 ≤ k) && decide (k < (L.length : Int)))) ∧ W = w') := fun W => by
    have := Base.has (2 ^ L.length - 1) k W
    rw [Sg.all_has h60 k] at this
    exact this
  by_cases hk : 0 ≤ k ∧ k < (L.length : Int)
  · have HI : Hid ((decide (0 ≤ k) && decide (k < (L.length : Int))) = true) := by show _ = _; rw [decide_eq_true hk.1, decide_eq_true hk.2]; rfl
    have HT : Hid (ledB L f k = (decide ((at' L k.toNat).round % 3 = 0) && decide ((at' L k.toNat).hand = f ((at' L k.toNat).round / 3).toNat))) := by show _ = _; unfold ledB; rw [HI.out]; rfl
    rw [HI.out] at HA
    obtain ⟨p, rfl⟩ := Int.eq_ofNat_of_zero_le hk.1
    have hp : p < L.length := by omega
    rw [Int.toNat_natCast] at HT
    have hrb := Lc.ok_round (Lc.can_ok (Lc.lace_upTo hlc p hp))
    obtain ⟨_, hcs⟩ := hr.on p hp
    have hcs' := hcs.below P0.out.1 hg
    obtain ⟨c0, c1, _, _⟩ := hcs'
    clear HI hk hlc hcs hr
    generalize at' L p = kk at c0 c1 HT hrb
    obtain ⟨kh, kr, kf, kw⟩ := kk
    dsimp only at c0 c1 HT hrb
    have HBW : Hid (∀ W : World, Calls Try.prog 42 #[.int .i64 kr] W fun e w' => e = .returned (.bool (decide (kr % 3 = 0))) ∧ W = w') := fun W => beginsWave kr W hrb.1 (by omega)
    have HWO : Hid (∀ W : World, Calls Try.prog 22 #[.int .i64 kr] W fun e w' => e = .returned (.int .i64 (kr / 3)) ∧ W = w') := fun W => waveOf kr W hrb.1 (by omega)
    by_cases hz : kr % 3 = 0
    · obtain ⟨q, hq⟩ := Int.eq_ofNat_of_zero_le (show 0 ≤ kr / 3 by omega)
      have hq7 : q < 7 := by omega
      have hq7' : (q : Int) < 7 := by omega
      rw [hq] at HWO HT
      rw [decide_eq_true hz] at HBW HT
      rw [Int.toNat_natCast, Bool.true_and] at HT
      have HE : Hid ((kh == f q) = decide (kh = f q)) := rfl
      clear hz hrb hq
      have HP := P0
      clear P0
      go_enter Try.func26, Try.ntmps26
      go_wp2_with fail
      generalize w.alloc (.cells #[.int .i64 (f 0), .int .i64 (f 1), .int .i64 (f 2), .int .i64 (f 3), .int .i64 (f 4), .int .i64 (f 5), .int .i64 (f 6)] 44) = V at HP c0 c1 ⊢
      have HB : Hid (Below w.heap.size w V) := HP.out.1
      have cq := HP.out.2.rd q hq7
      clear HP
      generalize f q = y at cq HT HE
      go_quiet (first | (go_at_call 40; exact (Lc.all _ _ _ _ h60).mono fun _ _ h => ⟨h.1, _, h.2.symm⟩) | (go_at_call 41; exact (HA.out _).mono fun _ _ h => ⟨h.1, _, h.2.symm⟩) | (go_at_call 42; exact (HBW.out _).mono fun _ _ h => ⟨h.1, _, h.2.symm⟩) | (go_at_call 22; exact (HWO.out _).mono fun _ _ h => ⟨h.1, _, h.2.symm⟩))
      go_wp2
      go_ret
      exact ⟨by rw [HT.out, ← HE.out]; rfl, Db.below_drewN HB.out _⟩
    · rw [decide_eq_false hz] at HBW HT
      rw [Bool.false_and] at HT
      have HP := P0
      clear P0 hz hrb HWO
      go_enter Try.func26, Try.ntmps26
      go_wp2_with fail
      generalize w.alloc (.cells #[.int .i64 (f 0), .int .i64 (f 1), .int .i64 (f 2), .int .i64 (f 3), .int .i64 (f 4), .int .i64 (f 5), .int .i64 (f 6)] 44) = V at HP c0 c1 ⊢
      have HB : Hid (Below w.heap.size w V) := HP.out.1
      clear HP
      go_quiet (first | (go_at_call 40; exact (Lc.all _ _ _ _ h60).mono fun _ _ h => ⟨h.1, _, h.2.symm⟩) | (go_at_call 41; exact (HA.out _).mono fun _ _ h => ⟨h.1, _, h.2.symm⟩) | (go_at_call 42; exact (HBW.out _).mono fun _ _ h => ⟨h.1, _, h.2.symm⟩))
      go_wp2
      go_ret
      exact ⟨by rw [HT.out]; rfl, Db.below_drewN HB.out _⟩
  · have HI : Hid ((decide (0 ≤ k) && decide (k < (L.length : Int))) = false) := by
      show _ = _
      rw [Bool.eq_false_iff]; intro h; rw [Bool.and_eq_true, decide_eq_true_eq, decide_eq_true_eq] at h; exact hk h
    have HT : Hid (ledB L f k = false) := by show _ = _; unfold ledB; rw [HI.out]; rfl
    rw [HI.out] at HA
    clear HI hk hlc hr
    go_enter Try.func26, Try.ntmps26
    go_wp2_with fail
    generalize w.alloc (.cells #[.int .i64 (f 0), .int .i64 (f 1), .int .i64 (f 2), .int .i64 (f 3), .int .i64 (f 4), .int .i64 (f 5), .int .i64 (f 6)] 44) = V at P0 ⊢
    have HB : Hid (Below w.heap.size w V) := P0.out.1
    clear P0
    go_quiet (first | (go_at_call 40; exact (Lc.all _ _ _ _ h60).mono fun _ _ h => ⟨h.1, _, h.2.symm⟩) | (go_at_call 41; exact (HA.out _).mono fun _ _ h => ⟨h.1, _, h.2.symm⟩))
    go_wp2
    go_ret
    exact ⟨by rw [HT.out]; rfl, Db.below_drewN HB.out _⟩

set_option maxHeartbeats 1600000 in
theorem implLeads (g off cap : Nat) (L : List K) (ao : Option Addr) (cc : Nat) (C : List Int) (k : Int) (w : World) (hlen : L.length ≤ 1099511627776) (hw : WordsOk L) (hr : RdK w (some ⟨g, off, none⟩) L) (hl : C.length ≤ 1048576) (hrd : Lst.Rd w ao C) (hao : ∀ c, ao = some ⟨c, 0, none⟩ → c < w.heap.size) :
    Calls Try.prog 10 #[.slice (some ⟨g, off, none⟩) L.length cap, .slice ao C.length cc, .int .i64 k] w fun e w' => e = .returned (.bool (leadsB L C k)) ∧ Below w.heap.size w w' := by
  go_enter Try.func10, Try.ntmps10
  go_wp2_with fail
  refine (Lc.laceOf g off cap L _ hlen hw hr).mono ?_
  rintro e w1 (⟨hlc, g', rfl, hg', hrg, hb1⟩ | ⟨hlc, rfl, hb1⟩)
  · have hrd1 := rd_low hrd hao hb1
    have hao1 : ∀ c, ao = some ⟨c, 0, none⟩ → c < w1.heap.size := fun c e => Nat.lt_of_lt_of_le (hao c e) hb1.size
    clear hrd hao hr
    go_wp2_with fail
    refine (leadersOf ao cc C _ hl hrd1 hao1).mono ?_
    rintro e w2 (⟨hc, rfl, hb2⟩ | ⟨hc, rfl, hb2⟩)
    · have B2 := hb1.trans (hb2.mono hb1.size)
      have HB3 : Hid (Below w.heap.size w (w2.alloc (.cells #[.int .i64 (leadI C 0), .int .i64 (leadI C 1), .int .i64 (leadI C 2), .int .i64 (leadI C 3), .int .i64 (leadI C 4), .int .i64 (leadI C 5), .int .i64 (leadI C 6)] 44))) := B2.alloc B2.size _
      have HRW : Hid (RowI (w2.alloc (.cells #[.int .i64 (leadI C 0), .int .i64 (leadI C 1), .int .i64 (leadI C 2), .int .i64 (leadI C 3), .int .i64 (leadI C 4), .int .i64 (leadI C 5), .int .i64 (leadI C 6)] 44)) w2.heap.size 7 (fun i => leadI C (i : Int))) := rowI_seven w2 44 (fun i => leadI C (i : Int))
      have hB4 : Below w1.heap.size w1 (w2.alloc (.cells #[.int .i64 (leadI C 0), .int .i64 (leadI C 1), .int .i64 (leadI C 2), .int .i64 (leadI C 3), .int .i64 (leadI C 4), .int .i64 (leadI C 5), .int .i64 (leadI C 6)] 44)) := hb2.alloc hb2.size _
      have hrg2 := hrg.below hB4
      have hg2 := Nat.lt_of_lt_of_le hg' hB4.size
      have hcall := leads g' 0 L.length L (fun i => leadI C (i : Int)) k _ hlc hg2 hrg2
      have HT : Hid (ledB L (fun i => leadI C (i : Int)) k = leadsB L C k) := ledB_leads hlc hc _ (fun _ _ => rfl) k
      have r0 := HRW.out.rd 0 (by omega)
      have r1 := HRW.out.rd 1 (by omega)
      have r2 := HRW.out.rd 2 (by omega)
      have r3 := HRW.out.rd 3 (by omega)
      have r4 := HRW.out.rd 4 (by omega)
      have r5 := HRW.out.rd 5 (by omega)
      have r6 := HRW.out.rd 6 (by omega)
      clear hlc hc hrg hg' hb1 hb2 B2 hrd1 hao1 hrg2 hg2 hB4 HRW
      go_wp2_with fail
      refine hcall.mono ?_
      rintro e w3 ⟨rfl, hb3⟩
      have HB4 : Hid (Below w.heap.size w w3) := HB3.out.trans (hb3.mono HB3.out.size)
      clear hcall hb3 r0 r1 r2 r3 r4 r5 r6 HB3
      go_wp2
      go_ret
      exact ⟨by rw [← HT.out]; rfl, HB4.out⟩
    · have B2 := hb1.trans (hb2.mono hb1.size)
      have HB3 : Hid (Below w.heap.size w (w2.alloc (.cells #[.int .i64 0, .int .i64 0, .int .i64 0, .int .i64 0, .int .i64 0, .int .i64 0, .int .i64 0] 44))) := B2.alloc B2.size _
      have HT : Hid (leadsB L C k = false) := by show _ = _; unfold leadsB; rw [hc]; simp
      clear hlc hc hrg hg' hb1 hb2 B2 hrd1 hao1
      go_wp2
      go_ret
      exact ⟨by rw [HT.out]; rfl, HB3.out⟩
  · have HT : Hid (leadsB L C k = false) := by
      have h9 : isB L k = false := by unfold Sg.isB; rw [hlc]; simp
      show _ = _
      unfold leadsB
      rw [h9]; rfl
    have hrd1 := rd_low hrd hao hb1
    have hao1 : ∀ c, ao = some ⟨c, 0, none⟩ → c < w1.heap.size := fun c e => Nat.lt_of_lt_of_le (hao c e) hb1.size
    clear hrd hao hr hlc
    go_wp2_with fail
    refine (leadersOf ao cc C _ hl hrd1 hao1).mono ?_
    rintro e w2 (⟨hc, rfl, hb2⟩ | ⟨hc, rfl, hb2⟩)
    · have B2 := hb1.trans (hb2.mono hb1.size)
      have HB3 : Hid (Below w.heap.size w (w2.alloc (.cells #[.int .i64 (leadI C 0), .int .i64 (leadI C 1), .int .i64 (leadI C 2), .int .i64 (leadI C 3), .int .i64 (leadI C 4), .int .i64 (leadI C 5), .int .i64 (leadI C 6)] 44))) := B2.alloc B2.size _
      clear hc hb1 hb2 B2 hrd1 hao1
      go_wp2
      go_ret
      exact ⟨by rw [HT.out]; rfl, HB3.out⟩
    · have B2 := hb1.trans (hb2.mono hb1.size)
      have HB3 : Hid (Below w.heap.size w (w2.alloc (.cells #[.int .i64 0, .int .i64 0, .int .i64 0, .int .i64 0, .int .i64 0, .int .i64 0, .int .i64 0] 44))) := B2.alloc B2.size _
      clear hc hb1 hb2 B2 hrd1 hao1
      go_wp2
      go_ret
      exact ⟨by rw [HT.out]; rfl, HB3.out⟩

end Ch
end Go.Proofs.Ytcbfdfddifmeiaa

namespace Go.Proofs.Ytcbfdfddifmeiaa
open Go.RowKit
namespace Rm

theorem drawsBad : DrawsBad := fun c a len cap ao cp L co nc cc go nh hc bad w hl hca hlc hr hn => l18DrawBad c a len cap ao cp L co nc cc go nh hc bad w hl hca hlc hr hn
theorem drawsRoom : DrawsRoom := fun c a len cap w hl hc => l18Draw' (l18DrawActs' drawsBad (l18DrawAct' drawsBad)) c a len cap w hl hc

end Rm
end Go.Proofs.Ytcbfdfddifmeiaa

namespace Go.Proofs.Ytcbfdfddifmeiaa.fnWaves
open Go.ChangeShapes Go.WideShapes Go.ChangeAt Go.RowKit
set_option linter.unusedVariables false
set_option maxRecDepth 100000

theorem own : ownKnob Try.prog.godebug = none := by kernel_rfl
theorem laidOut : laidOutB Try.prog = true := by kernel_rfl

/-- what is told of a slice of integers that came in: it is nil, or it leads to a row of cells that hold these -/
def IsRow (k : IntKind) (w : World) (a : Option Addr) (len cap : Nat) (zs : List Int) : Prop :=
  (a = none ∧ len = 0 ∧ cap = 0 ∧ zs = []) ∨
  ∃ x, a = some x ∧ len ≤ cap ∧ cap ≤ maxLen ∧ zs.length = cap ∧ (∀ i, i < zs.length → w.cell? (x.add i) = some (.int k (zs.getD i 0))) ∧ ∀ n ∈ zs, (Lit.int k n).wf = true

theorem code_of {w : World} {a : Option Addr} {len cap : Nat} {zs : List Int} (h : IsRow .u8 w a len cap zs) : Cur.Code w a len := by
  rcases h with ⟨_, h, _, _⟩ | ⟨x, rfl, hl, _, hz, hcell, hwz⟩
  · exact .inl h
  · by_cases h0 : len = 0
    · exact .inl h0
    · obtain ⟨b, off, spot⟩ := x
      have hc := hcell 0 (by omega)
      have hspot : spot = none := by simpa [Addr.add] using World.cell?_spot hc
      subst hspot
      refine .inr ⟨b, off, rfl, ?_, fun j hj => ?_⟩
      · have := block_lt_of_cell hc; simpa [Addr.add] using this
      · have hcj := hcell j (by omega)
        have hj' : j < zs.length := by omega
        have hw := hwz (zs.getD j 0) (by simp [List.getD, List.getElem?_eq_getElem hj'])
        refine ⟨zs.getD j 0, ?_, ?_⟩
        · by_cases hj0 : j = 0
          · subst hj0; simpa [Addr.add] using hcj
          · simpa [Addr.add, hj0] using hcj
        simpa [Lit.wf, IntKind.min, IntKind.max, IntKind.signed, IntKind.bits] using hw

theorem lifted (os : Os) (started : os.Started) (H : Type) (enc : TypeId × Value → H) :
    ReturnsInHanded {} Try.checked os 3 .any (Rows.fnWavesSpec.pre6 enc Try.prog Try.f3 Rows.fnWavesRow.domain false) (Rows.fnWavesSpec.post enc Try.prog Try.f3 false true false false) := by
  refine returnsInHanded_of_change (C := Try.checked) own started (by kernel_rfl) Try.func3
    (ChangeSpec.witness6 (enc := enc) (C := Try.checked) false ⟨#[], #[.slice none 0 0], []⟩ 8 (by kernel_rfl) (by kernel_rfl) (by kernel_rfl) (by kernel_rfl)) ?_
  intro W base args ds gs before hval0 hW hcnd _
  have hval : ∀ (j : Nat) t v, Try.f3.params[j]? = some t → args[j]? = some v → Value.okWide Try.prog W .any base t v := hval0
  have hW' := hW
  obtain ⟨p, q, hA0, hV, rfl, hfz, hnd⟩ := hW
  have hA : DataW.TrodAll enc Try.prog W 0 (fun _ => true) true Try.f3.params.toList args.toList ds p := hA0
  rw [Try.params3] at hA hval
  obtain ⟨v0, vs0, d0, ds0, p0, q0, hargs, rfl, rfl, h0, r0⟩ := trodAll_cons hA
  obtain ⟨rfl, rfl, rfl⟩ := trodAll_nil r0
  obtain rfl : args = #[v0] := by cases args; simp_all
  obtain ⟨rfl, rfl⟩ := trodVars_none hV
  obtain ⟨a0, len0, cap0, rfl⟩ := okWide_slice Try.underlying22 (hval 0 22 v0 rfl rfl)
  have k0 := h0
  have lt0 : ∀ x ∈ p0, x.block < W.heap.size := by obtain ⟨m, hm⟩ := k0; exact DataW.trod_lt m _ _ _ hm
  obtain ⟨z0, w0⟩ : ∃ zs, IsRow .u8 W a0 len0 cap0 zs := by
    obtain ⟨fuel, hf⟩ := h0
    rcases open_ints Try.underlying22 Try.underlying5 (by kernel_rfl) hf with ⟨hcs, _⟩ | ⟨x, l, c, zs, hcs, _, hl, hm, hz, _, hcell, hwz⟩
    · simp [Value.cells] at hcs
      obtain ⟨rfl, rfl, rfl⟩ := hcs
      exact ⟨[], .inl ⟨rfl, rfl, rfl, rfl⟩⟩
    · simp [Value.cells] at hcs
      obtain ⟨rfl, rfl, rfl⟩ := hcs
      exact ⟨zs, .inr ⟨_, rfl, hl, hm, by simpa using hz, hcell, hwz⟩⟩
  clear hA0 hval0
  simp only [List.append_nil] at hW'
  refine (Rm.wavesWalk (fun r w => (Ch.implWaveOf r w).mono fun _ _ h => ⟨h.1, h.2 ▸ Below.refl _ _⟩) (fun g cc C v w h => Ch.implLeaderOf _ cc C v w (by have := h.len; omega) h.rd h.at) (fun g cc C w h => Ch.implCoinsOk _ cc C w (by have := h.len; omega) h.rd h.at) (fun g cap L gc cc C k w h1 h2 => Ch.implLeads g 0 cap L _ cc C k w (by have := h1.len; omega) h1.words h1.rd (by have := h2.len; omega) h2.rd h2.at) Rm.drawsRoom a0 len0 cap0 W (code_of w0)).mono fun e W' ⟨he, bel⟩ => ?_
  subst he
  exact ⟨_, rfl, _, _, _, [], _, [], hW', trodAll_mk1 (shut_bool Try.underlying4 _), (trodAll_cons_mk (Below.trod laidOut (by kernel_rfl) (of_decide_eq_true (by kernel_rfl)) k0 bel lt0) trodAll_mk0), rfl, bel.frame _, fun h => by cases h⟩

theorem over : Rows.fnWavesRow.holds Try.pinned (OpenSpec.ofChange Rows.fnWavesSpec) :=
  OpenClaim.holds_of_wide 3 Try.f3 rfl rfl rfl rfl rfl rfl rfl ⟨rfl, rfl, rfl, rfl, rfl⟩ rfl rfl rfl rfl rfl (by kernel_rfl) Try.func3 (by kernel_rfl)
    (of_decide_eq_true (by kernel_rfl)) (by unfold Func.isWrapper; first | (rw [if_pos (by decide +kernel)]; kernel_rfl) | (rw [if_neg (by decide +kernel)]; exact ⟨rfl, rfl⟩))
    (fun os started H enc _ => lifted os started H enc)

theorem proved : Rows.FnWavesSaid :=
  over
end Go.Proofs.Ytcbfdfddifmeiaa.fnWaves
