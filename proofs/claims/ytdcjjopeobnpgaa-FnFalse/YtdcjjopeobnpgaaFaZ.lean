/-
  FnFalse answers true at every code, for FalseHands keeps promise 5; no condition.
  What the model's drawing of a list of knots hands back, where the drawing of a room keeps its word: a list of at most 61 knots with short words, in memory of its own; it changes the cursor alone.
  What the model's drawing of any list of knots, of a set and of a number hands back, where the drawing of a room keeps its word: a list of at most 61 knots with short words, in memory of its own; it changes the cursor alone.
  What the model's drawings of a set and of a number hand back: a number; they change the cursor alone. And the drawings of the laws on laces, where the drawing of a room keeps its word.
  What the model's Below, Sees, Closed and Tips answer, in the words of SightM; for lists of knots whose words have at most 2^40 bytes.
  What the model's drawings for the laws on sight hand back, where the drawing of a room keeps its word.
  A map of pairs of knots' numbers that the call itself made: which pairs it holds; made, put, struck, cleared, counted. For numbers below 60.
  What the model's Doubled and DoublesOf answer: two knots of one hand neither of which sees the other; for lists of knots whose words have at most 2^40 bytes.
  Plain mathematics of a walk back along the threads: it goes through the numbers from the last to the first, keeps the set of those reached, and adds a reached one's threads; what it meets is what hangs below the set; for laces.
  Plain mathematics of the pairs: all two of a set are put, those of which the greater one sees the lesser one are struck, one knot after another; what is left; for laces.
  What the program's own HandsOf and AtRound answer, in the words of LaceM; for lists of at most 2^40 knots whose words have at most 2^40 bytes.
  What the program's own walk back along the threads does (an iterator over a lace in memory, whatever the loop's body is that keeps the lace), in the words of SightV; for laces.
  What the program's own Below, Sees, Closed and Tips answer, in the words of SightT; for lists of knots whose words have at most 2^40 bytes.
  What the program's own putApart leaves in its map: of all two of a set those of which the greater one doesn't see the lesser one; for laces.
  What the model's FalseHands answers: the hands of which two in the set are doubled, rising; for lists of knots whose words have at most 2^40 bytes.
  What the program's own FalseHands answers, in the words of DoubQ; for lists of knots whose words have at most 2^40 bytes.
  What the law on closed sets and tips answers, where the drawing of a room keeps its word: true at every code.
  What the law on false hands stands on: plain mathematics of the false hands of a set and of a greater one, and the law's own pick.
  Plain mathematics of the law on what hangs below and what is seen; for laces.
  What the law on false hands answers, where the drawing of a room keeps its word: true at every code.
  The drawing of a room keeps its word.
-/
import Derived.Test.YtdcjjopeobnpgaaRoomW
import Derived.Test.YtdcjjopeobnpgaaRoomG
import Derived.Test.YtdcjjopeobnpgaaDraw
import Derived.Test.YtdcjjopeobnpgaaDrawK
import Derived.Maps.AppendAt
import Derived.Test.YtdcjjopeobnpgaaSightS
import Derived.Test.YtdcjjopeobnpgaaSightN
import Derived.Test.YtdcjjopeobnpgaaLaceU
import Derived.Maps.OwnSet
import Derived.Maps.OwnIn
import Derived.DeepKeys4
import Derived.MapViews
import Derived.WideKeyEntry
import Derived.Lib.SmallJoins
import Derived.WalkKit
import Derived.Below
import Derived.Test.YtdcjjopeobnpgaaBase
import Derived.Test.YtdcjjopeobnpgaaDoubS
import Derived.Test.YtdcjjopeobnpgaaLaceE
import Derived.RangeFuncNested
import Derived.RangeFuncBound
import Derived.RangeFuncCalls
import Derived.RangeFuncLeaves
import Derived.Shelf.Abstract
import Derived.Shelf.RegionOpen
import Derived.OwnWalkIn
import Derived.TacticsInMore
import Derived.LoopNIn
import Derived.LoopIn
import Derived.BigRegionIn
import Derived.Test.YtdcjjopeobnpgaaLaceA
import Derived.Test.YtdcjjopeobnpgaaLike
import Derived.Test.YtdcjjopeobnpgaaFam
import Derived.Test.YtdcjjopeobnpgaaRoomXm
import Derived.Test.YtdcjjopeobnpgaaRows
import Derived.ProofKit
import Derived.OpenShut
import Derived.ChangeOld
namespace Go.Proofs.Ytdcjjopeobnpgaa
open Go.RowKit
set_option maxRecDepth 100000
namespace Rm
open Kn (K okK)
open Lc (at' RdK laceB flat OwnK cellsOf)
open Cur (At)

/-- the drawing of a room keeps its word -/
def DrawsRoom : Prop := ∀ (c : Nat) (a : Option Addr) (len cap : Nat) (w : World), len ≤ 4096 → At c a len cap w → Calls Try.prog 127 #[.pointer (some ⟨c, 0, none⟩)] w (DrawPost c a len cap w)

/-- how the drawing of a list ends -/
def ListPost (m : Nat) (c : Nat) (a : Option Addr) (len cap : Nat) (w : World) (e : Ending) (w' : World) : Prop := ∃ v L, e = .returned v ∧ OwnK 26 w.heap.size w' v L ∧ L.length ≤ m ∧ (∀ k ∈ L, k.word.size ≤ 13) ∧ At c a len cap w' ∧ w.grownBy w' (some c)
/-- how the drawing of a number ends -/
def NumPost (c : Nat) (a : Option Addr) (len cap : Nat) (w : World) (e : Ending) (w' : World) : Prop := ∃ x : Int, e = .returned (.int .i64 x) ∧ (-9223372036854775808 ≤ x ∧ x ≤ 9223372036854775807) ∧ At c a len cap w' ∧ w.grownBy w' (some c)

theorem word_lace {L : List K} (h : laceB L = true) : ∀ k ∈ L, k.word.size ≤ 13 := by
  intro k hk
  obtain ⟨i, hi, rfl⟩ := List.mem_iff_getElem.1 hk
  have := Lc.can_ok (Lc.lace_upTo h i hi)
  rw [Lc.at_get L i hi] at this
  simp only [okK, Bool.and_eq_true] at this
  have h5 := this.2.2.2.2
  simp only [Kn.okW, Bool.and_eq_true, decide_eq_true_eq] at h5
  omega

theorem ownK_base {t : TypeId} {B B' : Nat} {w : World} {v : Value} {L : List K} (h : OwnK t B w v L) (hB : B' ≤ B) : OwnK t B' w v L := by
  obtain ⟨⟨h1, h2 | ⟨g, cp, cur, e, hg, r⟩⟩, hv⟩ := h
  · exact ⟨⟨h1, .inl h2⟩, hv⟩
  · exact ⟨⟨h1, .inr ⟨g, cp, cur, e, Nat.le_trans hB hg, r⟩⟩, hv⟩

theorem ownK_grown {t : TypeId} {B c : Nat} {w w' : World} {v : Value} {L : List K} (h : OwnK t B w v L) (hg : w.grownBy w' (some c)) (hc : c < B) : OwnK t B w' v L :=
  ⟨own_fr (Fr.of_grown hg) h.1 (fun g e => by have := (World.ownsRow.lt h.1 g e).1; omega), h.2⟩

theorem lace_field (ao : Option Addr) (n cp : Nat) (v1 v2 v3 : Value) (W : World) : (Instr.field 115 (.agg #[.slice ao n cp, v1, v2, v3]) 0).run Try.prog W = .ok (.slice ao n cp) W := by kernel_rfl

set_option maxHeartbeats 800000 in
theorem l3Draw (HD : DrawsRoom) (c : Nat) (a : Option Addr) (len cap : Nat) (w : World) (hl : len ≤ 4096) (hc : At c a len cap w) :
    Calls Try.prog 106 #[.pointer (some ⟨c, 0, none⟩)] w (ListPost 60 c a len cap w) := by
  have hcw : c < w.heap.size := hc.lt
  have HDD : Hid DrawsRoom := HD
  clear HD
  go_enter Try.func106, Try.ntmps106
  go_wp2_with fail
  refine (HDD.out c a len cap _ hl hc).mono ?_
  rintro e w1 ⟨R, rfl, hP, hA1, hF1⟩
  obtain ⟨ao, cp, hlv, ho, hz, _, hrd, _⟩ := own_lace hP.own
  have h60 := ((Lc.lace_iff R.L).1 hP.lace).1
  have hwd := word_lace hP.lace
  have HWD : Hid (∀ k ∈ R.L, k.word.size ≤ 13) := hwd
  have HV : Hid (roV R = .agg #[.slice ao R.L.length cp, R.cv, .slice (some ⟨R.gh, 0, none⟩) 4 R.hc, .int .i64 R.bad]) := by show _ = _; unfold roV; rw [hlv]
  rw [HV.out]
  have hfl := lace_field ao R.L.length cp R.cv (.slice (some ⟨R.gh, 0, none⟩) 4 R.hc) (.int .i64 R.bad)
  clear hwd hlv hP
  go_wp2_with fail
  refine (l3CopyO ao cp R.L _ ho hz (by omega) hrd).mono ?_
  rintro e w2 ⟨v, rfl, hO, hb2⟩
  have HR : Hid (OwnK 26 w.heap.size w2 v R.L ∧ At c a len cap w2 ∧ w.grownBy w2 (some c)) := ⟨ownK_base hO hF1.size, hA1.below hb2, (hF1.trans (Fr.of_below hb2 (fun x => x = c)) (fun _ h _ => h)).grown⟩
  clear hO hb2 hA1 hF1 hrd
  go_wp2
  go_ret
  exact ⟨v, R.L, rfl, HR.out.1, h60, HWD.out, HR.out.2.1, HR.out.2.2⟩

set_option maxHeartbeats 400000 in
theorem l1From (c : Nat) (a : Option Addr) (len cap : Nat) (lo hi : Int) (w : World) (hl : len ≤ 4096) (h0 : -10 ≤ lo) (h1 : lo ≤ hi) (h2 : hi ≤ 100) (hc : At c a len cap w) :
    Calls Try.prog 68 #[.pointer (some ⟨c, 0, none⟩), .int .i64 lo, .int .i64 hi] w (NumPost c a len cap w) := by
  have hw1 : IntKind.i64.wrap (hi - lo) = hi - lo := by rw [IntKind.wrap_i64]; omega
  have hw2 : IntKind.i64.wrap (hi - lo + 1) = hi - lo + 1 := by rw [IntKind.wrap_i64]; omega
  go_enter Try.func68, Try.ntmps68
  go_wp2_with fail
  refine (Cur.below c a len cap _ _ hl (by omega) hc).mono ?_
  rintro e w1 ⟨x, rfl, hx0, hx1, hA1, hG1⟩
  have hx2 := hx1 (by omega)
  go_wp2
  go_ret
  exact ⟨_, rfl, by omega, hA1, hG1⟩

end Rm
end Go.Proofs.Ytdcjjopeobnpgaa

namespace Go.Proofs.Ytdcjjopeobnpgaa
open Go.RowKit
set_option maxRecDepth 100000
namespace Rm
open Kn (K okK)
open Lc (at' RdK laceB flat OwnK cellsOf)
open Cur (At)

theorem flat_set (L : List K) (j c : Nat) (hj : j < L.length) (hc : c < 4) (k' : K) (v : Value) (h : cellsOf k' = (cellsOf (at' L j)).set c v) : (flat L).set (j * 4 + c) v = flat (L.set j k') := by
  induction L generalizing j with
  | nil => simp at hj
  | cons k L ih =>
    have hk4 : (cellsOf k).length = 4 := rfl
    cases j with
    | zero =>
      show (cellsOf k ++ flat L).set (0 * 4 + c) v = cellsOf k' ++ flat L
      rw [List.set_append_left _ _ (by rw [hk4]; omega), h]
      simp [at']
    | succ j =>
      show (cellsOf k ++ flat L).set ((j + 1) * 4 + c) v = cellsOf k ++ flat (L.set j k')
      rw [List.set_append_right _ _ (by rw [hk4]; omega), hk4, show (j + 1) * 4 + c - 4 = j * 4 + c by omega, ih j (by simpa using hj) (by simpa [at'] using h)]

theorem grown_far {w w5 w6 : World} {c g : Nat} (h : w.grownBy w5 (some c)) (h2 : w5.grownBy w6 (some g)) (hg : w.heap.size ≤ g) : w.grownBy w6 (some c) :=
  ((Fr.of_grown h).trans (Fr.of_grown h2) (fun x hx hl => by omega)).grown

/-- a number of a knot is written -/
theorem list_put {m c : Nat} {a : Option Addr} {len cap : Nat} {w w5 : World} {g cp : Nat} {L : List K} {j f : Nat} {u : Value} {k' : K} (hc : At c a len cap w) (hO : OwnK 26 w.heap.size w5 (.slice (some ⟨g, 0, none⟩) L.length cp) L) (hm : L.length ≤ m) (hwd : ∀ k ∈ L, k.word.size ≤ 13)
    (hA : At c a len cap w5) (hG : w.grownBy w5 (some c)) (hj : j < L.length) (hf : f < 4) (hk : cellsOf k' = (cellsOf (at' L j)).set f u) (hw : k'.word.size ≤ 13) :
    ListPost m c a len cap w (.returned (.slice (some ⟨g, 0, none⟩) L.length cp)) (w5.setCell ⟨g, j * 4 + f, none⟩ u) := by
  have hgB := (World.ownsRow.lt hO.1 g rfl).1
  have hs := World.ownsRow.stored hO.1 (j * 4 + f) u
  rw [flat_set L j f hj hf k' u hk] at hs
  have hl : (L.set j k').length = L.length := by simp
  refine ⟨_, L.set j k', rfl, ⟨by rw [hl]; exact hs.1, by simp⟩, by rw [hl]; exact hm, fun k hkm => ?_, ?_, grown_far hG hs.2 hgB⟩
  · rcases List.mem_or_eq_of_mem_set hkm with h | h
    · exact hwd k h
    · rw [h]; exact hw
  · exact at_belowB hA (curB_of hc) ((Below.refl w.heap.size w5).grown hs.2 hG.size (fun x e => by cases e; exact hgB))

set_option maxHeartbeats 6400000 in
theorem l3DrawAny (HD : DrawsRoom) (c : Nat) (a : Option Addr) (len cap : Nat) (w : World) (hl : len ≤ 4096) (hc : At c a len cap w) :
    Calls Try.prog 66 #[.pointer (some ⟨c, 0, none⟩)] w (ListPost 61 c a len cap w) := by
  obtain ⟨i0, hi, hz0, hz1, hz2⟩ := info_parts Lc.infoKn
  have hcw : c < w.heap.size := hc.lt
  have HDD : Hid DrawsRoom := HD
  clear HD
  go_enter Try.func66, Try.ntmps66
  go_wp2_with fail
  refine (l3Draw HDD.out c a len cap _ hl hc).mono ?_
  rintro e w1 ⟨v, L, rfl, hO, h60, hwd, hA1, hG1⟩
  obtain ⟨g, cp, rfl, hcap, _, hbg, _, _, _⟩ := Lc.ownK_shape hO
  have HWD : Hid (∀ k ∈ L, k.word.size ≤ 13) := hwd
  have HO : Hid (OwnK 26 w.heap.size w1 (.slice (some ⟨g, 0, none⟩) L.length cp) L) := hO
  clear hO hwd
  by_cases hz : L.length = 0
  · obtain rfl : L = [] := List.eq_nil_of_length_eq_zero hz
    go_wp2
    go_ret
    exact ⟨_, [], rfl, HO.out, by simp, HWD.out, hA1, hG1⟩
  · have hz' : (0 : Int) < (L.length : Int) := by omega
    go_wp2_with fail
    refine (Cur.once c a len cap 10 _ hl (by omega) hA1).mono ?_
    rintro e w2 ⟨b, rfl, hA2, hG2⟩
    have HO2 : Hid (OwnK 26 w.heap.size w2 (.slice (some ⟨g, 0, none⟩) L.length cp) L) := ownK_grown HO.out hG2 hcw
    have G2 := Cur.grownBy_trans hG1 hG2
    clear HO hG1 hG2 hA1
    cases b
    · go_wp2
      go_ret
      exact ⟨_, L, rfl, HO2.out, by omega, HWD.out, hA2, G2⟩
    · go_wp2_with fail
      refine (Cur.below c a len cap (L.length : Int) _ hl (by omega) hA2).mono ?_
      rintro e w3 ⟨x, rfl, hx0, hx1, hA3, hG3⟩
      have hx2 := hx1 hz'
      obtain ⟨j, rfl⟩ := Int.eq_ofNat_of_zero_le hx0
      have hj : j < L.length := by omega
      have HO3 : Hid (OwnK 26 w.heap.size w3 (.slice (some ⟨g, 0, none⟩) L.length cp) L) := ownK_grown HO2.out hG3 hcw
      have G3 := Cur.grownBy_trans G2 hG3
      clear HO2 hG3 hA2 G2 hx1
      go_wp2_with fail
      refine (Cur.below c a len cap 4 _ hl (by omega) hA3).mono ?_
      rintro e w4 ⟨t, rfl, ht0, ht1, hA4, hG4⟩
      have ht2 := ht1 (by omega)
      have HO4 : Hid (OwnK 26 w.heap.size w4 (.slice (some ⟨g, 0, none⟩) L.length cp) L) := ownK_grown HO3.out hG4 hcw
      have HG4 : Hid (w.grownBy w4 (some c)) := Cur.grownBy_trans G3 hG4
      have HC : Hid (At c a len cap w) := hc
      clear HO3 hG4 hA3 G3 ht1 hc
      have htc : t = 0 ∨ t = 1 ∨ t = 2 ∨ t = 3 := by omega
      rcases htc with rfl | rfl | rfl | rfl
      · go_wp2_with fail
        refine (l1From c a len cap (-1) 4 _ hl (by omega) (by omega) (by omega) hA4).mono ?_
        rintro e w5 ⟨y, rfl, _, hA5, hG5⟩
        have hO5 := ownK_grown HO4.out hG5 hcw
        obtain ⟨_, _, e5, _, _, _, _, hrd5, hfz5⟩ := Lc.ownK_shape hO5
        simp only [Value.slice.injEq, Option.some.injEq, Addr.mk.injEq, and_true, true_and] at e5
        obtain ⟨rfl, rfl⟩ := e5
        have HF : Hid (ListPost 61 c a len cap w (.returned (.slice (some ⟨g, 0, none⟩) L.length cp)) (w5.setCell ⟨g, j * 4, none⟩ (.int .i64 y))) := list_put (f := 0) (k' := ⟨y, (at' L j).round, (at' L j).frm, (at' L j).word⟩) HC.out hO5 (by omega) HWD.out hA5 (Cur.grownBy_trans HG4.out hG5) hj (by omega) rfl (HWD.out (at' L j) (Lc.at_mem L j hj))
        obtain ⟨_, c0, c1, c2, _⟩ := hrd5.on j hj
        rw [Nat.zero_add] at c0 c1 c2
        have f5 := hfz5 (j * 4) (by omega)
        clear hO5 hrd5 hfz5 HO4 HG4 hA5 hG5
        go_wp2
        go_ret
        exact HF.out
      · go_wp2_with fail
        refine (Cur.below c a len cap 5 _ hl (by omega) hA4).mono ?_
        rintro e w5 ⟨y, rfl, _, _, hA5, hG5⟩
        have hO5 := ownK_grown HO4.out hG5 hcw
        obtain ⟨_, _, e5, _, _, _, _, hrd5, hfz5⟩ := Lc.ownK_shape hO5
        simp only [Value.slice.injEq, Option.some.injEq, Addr.mk.injEq, and_true, true_and] at e5
        obtain ⟨rfl, rfl⟩ := e5
        have HF : Hid (ListPost 61 c a len cap w (.returned (.slice (some ⟨g, 0, none⟩) L.length cp)) (w5.setCell ⟨g, j * 4 + 1, none⟩ (.int .i64 y))) := list_put (f := 1) (k' := ⟨(at' L j).hand, y, (at' L j).frm, (at' L j).word⟩) HC.out hO5 (by omega) HWD.out hA5 (Cur.grownBy_trans HG4.out hG5) hj (by omega) rfl (HWD.out (at' L j) (Lc.at_mem L j hj))
        obtain ⟨_, c0, c1, c2, _⟩ := hrd5.on j hj
        rw [Nat.zero_add] at c0 c1 c2
        have f5 := hfz5 (j * 4 + 1) (by omega)
        clear hO5 hrd5 hfz5 HO4 HG4 hA5 hG5
        go_wp2
        go_ret
        exact HF.out
      · go_wp2_with fail
        refine (Draw.drawSet c a len cap _ hl hA4).mono ?_
        rintro e w5 ⟨y, rfl, _, hA5, hG5⟩
        have hO5 := ownK_grown HO4.out hG5 hcw
        obtain ⟨_, _, e5, _, _, _, _, hrd5, hfz5⟩ := Lc.ownK_shape hO5
        simp only [Value.slice.injEq, Option.some.injEq, Addr.mk.injEq, and_true, true_and] at e5
        obtain ⟨rfl, rfl⟩ := e5
        have HF : Hid (ListPost 61 c a len cap w (.returned (.slice (some ⟨g, 0, none⟩) L.length cp)) (w5.setCell ⟨g, j * 4 + 2, none⟩ (.int .i64 y))) := list_put (f := 2) (k' := ⟨(at' L j).hand, (at' L j).round, y, (at' L j).word⟩) HC.out hO5 (by omega) HWD.out hA5 (Cur.grownBy_trans HG4.out hG5) hj (by omega) rfl (HWD.out (at' L j) (Lc.at_mem L j hj))
        obtain ⟨_, c0, c1, c2, _⟩ := hrd5.on j hj
        rw [Nat.zero_add] at c0 c1 c2
        have f5 := hfz5 (j * 4 + 2) (by omega)
        clear hO5 hrd5 hfz5 HO4 HG4 hA5 hG5
        go_wp2
        go_ret
        exact HF.out
      · go_wp2_with fail
        refine (Kn.draw c a len cap _ hl hA4).mono ?_
        rintro e w5 ⟨h, r, f, s, rfl, hs13, hA5, hG5⟩
        have HO5 : Hid (OwnK 26 w.heap.size w5 (.slice (some ⟨g, 0, none⟩) L.length cp) L) := ownK_grown HO4.out hG5 hcw
        have HG5 : Hid (w.grownBy w5 (some c)) := Cur.grownBy_trans HG4.out hG5
        clear HO4 HG4 hG5
        go_wp2_with (at_builtin; refine wpList_append_own _ rfl _ _ 24 rfl w.heap.size 26 i0 (.agg #[.int .i64 0, .int .i64 0, .int .i64 0, .string ⟨#[]⟩]) 4 40 Try.underlying24 hi hz0 hz1 hz2 rfl (by decide) _ _ _ rfl (HO5.out.1.alloc _) ⟨w5.heap.size, 0, none⟩ 1 1 (cellsOf ⟨h, r, f, s⟩) rfl rfl ?c1 ?c2 ?c3 ?c4 ?c5 ?_)
        case c1 => exact Lc.new_cells w5 ⟨h, r, f, s⟩ _
        case c2 => intro u hu; simp [cellsOf] at hu; rcases hu with rfl | rfl | rfl | rfl <;> rfl
        case c3 => unfold maxLen; omega
        case c4 => omega
        case c5 => have := HG5.out.size; simp; omega
        intro v' w6 hown' hgrow hnil
        have HF : Hid (ListPost 61 c a len cap w (.returned v') w6) := by
          have hg6 : w5.grownBy w6 (some g) := (World.grownBy_alloc w5 _ _).trans hgrow
          refine ⟨v', L ++ [⟨h, r, f, s⟩], rfl, ⟨?_, ?_⟩, by simp; omega, ?_, ?_, grown_far HG5.out hg6 hbg⟩
          · rw [List.length_append, Lc.flat_snoc]; exact hown'
          · intro e; simp [e] at hnil
          · intro k hk
            rcases List.mem_append.1 hk with hk | hk
            · exact HWD.out k hk
            · simp at hk; subst hk; exact hs13
          · exact at_belowB hA5 (curB_of HC.out) ((Below.refl w.heap.size w5).grown hg6 HG5.out.size (fun x e => by cases e; exact hbg))
        clear hown' hgrow hnil
        go_wp2
        go_ret
        exact HF.out

end Rm
end Go.Proofs.Ytdcjjopeobnpgaa

namespace Go.Proofs.Ytdcjjopeobnpgaa
open Go.RowKit
set_option maxRecDepth 100000
namespace Rm
open Kn (K okK)
open Lc (at' RdK laceB flat OwnK cellsOf)
open Cur (At)

theorem wrap_bd (x : Int) : -9223372036854775808 ≤ IntKind.i64.wrap x ∧ IntKind.i64.wrap x ≤ 9223372036854775807 := by rw [IntKind.wrap_i64]; omega

set_option maxHeartbeats 400000 in
theorem l1BitAny (i : Nat) (w : World) (h : i ≤ 62) : Calls Try.prog 82 #[.int .i64 (i : Int)] w fun e w' => ∃ x : Int, e = .returned (.int .i64 x) ∧ w = w' := by
  go_enter Try.func82, Try.ntmps82
  go_wp2
  go_ret
  exact ⟨_, rfl, rfl⟩

set_option maxHeartbeats 1600000 in
theorem l3DrawSet (c : Nat) (a : Option Addr) (len cap n : Nat) (w : World) (hl : len ≤ 4096) (hn : n ≤ 61) (hc : At c a len cap w) :
    Calls Try.prog 67 #[.pointer (some ⟨c, 0, none⟩), .int .i64 (n : Int)] w (NumPost c a len cap w) := by
  go_enter Try.func67, Try.ntmps67
  go_wp2_with fail
  refine (Cur.once c a len cap 8 _ hl (by omega) hc).mono ?_
  rintro e w1 ⟨b, rfl, hA1, hG1⟩
  cases b
  · go_wp2
    go_loopw [5, 6] (fun s i wr => ∃ (k : Nat) (x : Int), k ≤ n ∧ i = .int .i64 (k : Int) ∧ s = .int .i64 x ∧ Hid (-9223372036854775808 ≤ x ∧ x ≤ 9223372036854775807) ∧ Hid (At c a len cap wr) ∧ Hid (w.grownBy wr (some c))) (fun _ i _ => n - (intOf i).toNat)
    case atStart => exact ⟨0, 0, by omega, rfl, rfl, ⟨by omega, by omega⟩, hA1, hG1⟩
    case round =>
      obtain ⟨k, x, hk, rfl, rfl, HX, HA, HG⟩ := hrel
      by_cases hlt : k < n
      · have hki : (k : Int) < (n : Int) := by omega
        go_wp2_with fail
        refine (Cur.once c a len cap 3 _ hl (by omega) HA.out).mono ?_
        rintro e w2 ⟨b, rfl, hA2, hG2⟩
        have HA2 : Hid (At c a len cap w2) := hA2
        have HG2 : Hid (w.grownBy w2 (some c)) := Cur.grownBy_trans HG.out hG2
        clear hA2 hG2 HA HG
        cases b
        · go_wp2_with fail
          refine (l1BitAny k _ (by omega)).mono ?_
          rintro e w3 ⟨y, rfl, rfl⟩
          go_wp2
          go_roundw
          case rel => exact ⟨k + 1, _, by omega, by go_num, rfl, Draw.bits_bd _ _ _, HA2, HG2⟩
          case measure => simp [intOf]; omega
        · go_wp2
          go_roundw
          case rel => exact ⟨k + 1, x, by omega, by go_num, rfl, HX, HA2, HG2⟩
          case measure => simp [intOf]; omega
      · obtain rfl : k = n := by omega
        go_wp2
        go_ret
        exact ⟨x, rfl, HX.out, HA.out, HG.out⟩
  · go_wp2_with fail
    refine (Draw.drawSet c a len cap _ hl hA1).mono ?_
    rintro e w2 ⟨y, rfl, hy, hA2, hG2⟩
    have G2 := Cur.grownBy_trans hG1 hG2
    go_wp2
    go_ret
    exact ⟨y, rfl, hy, hA2, G2⟩

theorem new_four (W : World) (x : Int) (t : TypeId) (j : Nat) (hj : j < 4) : ∃ y : Int, (W.alloc (.cells #[.int .i64 (-1), .int .i64 x, .int .i64 60, .int .i64 0] t)).cell? ⟨W.heap.size, j, none⟩ = some (.int .i64 y) ∧ (y = -1 ∨ y = x ∨ y = 60 ∨ y = 0) := by
  match j, hj with
  | 0, _ => exact ⟨-1, by simp, .inl rfl⟩
  | 1, _ => exact ⟨x, by simp, .inr (.inl rfl)⟩
  | 2, _ => exact ⟨60, by simp, .inr (.inr (.inl rfl))⟩
  | 3, _ => exact ⟨0, by simp, .inr (.inr (.inr rfl))⟩

set_option maxHeartbeats 1600000 in
theorem l3DrawAt (c : Nat) (a : Option Addr) (len cap n : Nat) (w : World) (hl : len ≤ 4096) (hn : n ≤ 61) (hc : At c a len cap w) :
    Calls Try.prog 73 #[.pointer (some ⟨c, 0, none⟩), .int .i64 (n : Int)] w (NumPost c a len cap w) := by
  have hcw : c < w.heap.size := hc.lt
  have HT : Hid (∀ W : World, At c a len cap W → w.grownBy W (some c) → ∀ w', At c a len cap w' → (W.alloc (.cells #[.int .i64 (-1), .int .i64 (n : Int), .int .i64 60, .int .i64 0] 2)).grownBy w' (some c) → ∀ j, j < 4 → ∃ y : Int, w'.cell? ⟨W.heap.size, j, none⟩ = some (.int .i64 y) ∧ (-9223372036854775808 ≤ y ∧ y ≤ 9223372036854775807) ∧ w.grownBy w' (some c)) := by
    intro W hA hG w' hA' hG' j hj
    obtain ⟨y, hy, hyc⟩ := new_four W (n : Int) 2 j hj
    refine ⟨y, ((Fr.of_grown hG').cell (p := ⟨W.heap.size, j, none⟩) (by simp) (by have := hA.lt; simp; omega)).trans hy, by omega, Cur.grownBy_trans hG ((World.grownBy_alloc W _ _).trans hG')⟩
  have HGR : Hid (w.grownBy w (some c)) := ⟨rfl, rfl, rfl, Nat.le_refl _, fun _ _ _ => rfl⟩
  go_enter Try.func73, Try.ntmps73
  by_cases hz : n = 0
  · subst hz
    have hAl := Draw.at_alloc hc (.cells #[.int .i64 (-1), .int .i64 ((0 : Nat) : Int), .int .i64 60, .int .i64 0] 2)
    simp only [Int.ofNat_zero] at hAl HT
    go_wp2_with fail
    refine (Cur.below c a len cap 4 _ hl (by omega) hAl).mono ?_
    rintro e w1 ⟨x, rfl, hx0, hx1, hA1, hG1⟩
    have hx2 := hx1 (by omega)
    obtain ⟨j, rfl⟩ := Int.eq_ofNat_of_zero_le hx0
    obtain ⟨y, hy, hyb, hG⟩ := HT.out w hc HGR.out w1 hA1 hG1 j (by omega)
    have hj4 : (j : Int) < 4 := by omega
    clear hG1 hx1 HT
    go_wp2
    go_ret
    exact ⟨y, rfl, hyb, hA1, hG⟩
  · have hz' : (0 : Int) < (n : Int) := by omega
    go_wp2_with fail
    refine (Cur.once c a len cap 10 _ hl (by omega) hc).mono ?_
    rintro e w1 ⟨b, rfl, hA1, hG1⟩
    cases b
    · go_wp2_with fail
      refine (Cur.below c a len cap (n : Int) _ hl (by omega) hA1).mono ?_
      rintro e w2 ⟨x, rfl, hx0, hx1, hA2, hG2⟩
      have hx2 := hx1 hz'
      have G2 := Cur.grownBy_trans hG1 hG2
      go_wp2
      go_ret
      exact ⟨x, rfl, by omega, hA2, G2⟩
    · have hAl := Draw.at_alloc hA1 (.cells #[.int .i64 (-1), .int .i64 (n : Int), .int .i64 60, .int .i64 0] 2)
      go_wp2_with fail
      refine (Cur.below c a len cap 4 _ hl (by omega) hAl).mono ?_
      rintro e w2 ⟨x, rfl, hx0, hx1, hA2, hG2⟩
      have hx2 := hx1 (by omega)
      obtain ⟨j, rfl⟩ := Int.eq_ofNat_of_zero_le hx0
      obtain ⟨y, hy, hyb, hG⟩ := HT.out w1 hA1 hG1 w2 hA2 hG2 j (by omega)
      have hj4 : (j : Int) < 4 := by omega
      clear hG2 hx1 HT hAl hG1
      go_wp2
      go_ret
      exact ⟨y, rfl, hyb, hA2, hG⟩

/-- a list and numbers that the laws draw -/
structure Drawn (B : Nat) (w w' : World) (v : Value) (L : List K) : Prop where
  own : OwnK 26 B w' v L
  len : L.length ≤ 61
  word : ∀ k ∈ L, k.word.size ≤ 13
  bel : Below w.heap.size w w'

set_option maxHeartbeats 1600000 in
theorem drawHandsOf (HD : DrawsRoom) (a : Option Addr) (len cap : Nat) (w : World) (hl : len ≤ 4096) (hc : Cur.Code w a len) :
    Calls Try.prog 20 #[.slice a len cap] w fun e w' => ∃ v L s, e = .returned (.tuple #[v, .int .i64 s]) ∧ Drawn w.heap.size w w' v L ∧ (-9223372036854775808 ≤ s ∧ s ≤ 9223372036854775807) := by
  have HDD : Hid DrawsRoom := HD
  clear HD
  go_enter Try.func20, Try.ntmps20
  go_wp2_with fail
  refine (Cur.new a len cap _ hl hc).mono ?_
  rintro e w1 ⟨rfl, hA1, hb1⟩
  go_wp2_with fail
  refine (l3DrawAny HDD.out _ a len cap _ hl hA1).mono ?_
  rintro e w2 ⟨v, L, rfl, hO, h61, hwd, hA2, hG2⟩
  obtain ⟨g, cp, rfl, _, _, _, _, _, _⟩ := Lc.ownK_shape hO
  have hB2 := Draw.below_of_grown hb1 (Nat.le_refl _) hG2
  have hs1 := hb1.size
  have hlt1 := hA1.lt
  have HO : Hid (OwnK 26 w1.heap.size w2 (.slice (some ⟨g, 0, none⟩) L.length cp) L) := hO
  have HWD : Hid (∀ k ∈ L, k.word.size ≤ 13) := hwd
  clear hO hwd hG2 hb1 hA1
  go_wp2_with fail
  refine (l3DrawSet _ a len cap L.length _ hl h61 hA2).mono ?_
  rintro e w3 ⟨s, rfl, hs, hA3, hG3⟩
  have HF : Hid (Drawn w.heap.size w w3 (.slice (some ⟨g, 0, none⟩) L.length cp) L) := ⟨ownK_base (ownK_grown HO.out hG3 hlt1) hs1, h61, HWD.out, Draw.below_of_grown hB2 (Nat.le_refl _) hG3⟩
  clear HO hB2 hG3 hA2 hA3
  go_wp2
  refine bodyPost_ret (v := .tuple #[.slice (some ⟨g, 0, none⟩) L.length cp, .int .i64 s]) (by simp [results, Try.f20, go_sem]) rfl ?_
  exact ⟨_, L, s, rfl, HF.out, hs⟩

set_option maxHeartbeats 1600000 in
theorem drawAtRound (HD : DrawsRoom) (a : Option Addr) (len cap : Nat) (w : World) (hl : len ≤ 4096) (hc : Cur.Code w a len) :
    Calls Try.prog 21 #[.slice a len cap] w fun e w' => ∃ v L s r, e = .returned (.tuple #[v, .int .i64 s, .int .i64 r]) ∧ Drawn w.heap.size w w' v L ∧ (-9223372036854775808 ≤ s ∧ s ≤ 9223372036854775807) := by
  have HDD : Hid DrawsRoom := HD
  clear HD
  go_enter Try.func21, Try.ntmps21
  go_wp2_with fail
  refine (Cur.new a len cap _ hl hc).mono ?_
  rintro e w1 ⟨rfl, hA1, hb1⟩
  go_wp2_with fail
  refine (l3DrawAny HDD.out _ a len cap _ hl hA1).mono ?_
  rintro e w2 ⟨v, L, rfl, hO, h61, hwd, hA2, hG2⟩
  obtain ⟨g, cp, rfl, _, _, _, _, _, _⟩ := Lc.ownK_shape hO
  have hB2 := Draw.below_of_grown hb1 (Nat.le_refl _) hG2
  have hs1 := hb1.size
  have hlt1 := hA1.lt
  have HO : Hid (OwnK 26 w1.heap.size w2 (.slice (some ⟨g, 0, none⟩) L.length cp) L) := hO
  have HWD : Hid (∀ k ∈ L, k.word.size ≤ 13) := hwd
  clear hO hwd hG2 hb1 hA1
  go_wp2_with fail
  refine (l3DrawSet _ a len cap L.length _ hl h61 hA2).mono ?_
  rintro e w3 ⟨s, rfl, hs, hA3, hG3⟩
  have hB3 := Draw.below_of_grown hB2 (Nat.le_refl _) hG3
  have HO3 : Hid (OwnK 26 w1.heap.size w3 (.slice (some ⟨g, 0, none⟩) L.length cp) L) := ownK_grown HO.out hG3 hlt1
  clear HO hB2 hG3 hA2
  go_wp2_with fail
  refine (l1From _ a len cap (-1) 6 _ hl (by omega) (by omega) (by omega) hA3).mono ?_
  rintro e w4 ⟨r, rfl, _, hA4, hG4⟩
  have HF : Hid (Drawn w.heap.size w w4 (.slice (some ⟨g, 0, none⟩) L.length cp) L) := ⟨ownK_base (ownK_grown HO3.out hG4 hlt1) hs1, h61, HWD.out, Draw.below_of_grown hB3 (Nat.le_refl _) hG4⟩
  clear HO3 hB3 hG4 hA3 hA4
  go_wp2
  refine bodyPost_ret (v := .tuple #[.slice (some ⟨g, 0, none⟩) L.length cp, .int .i64 s, .int .i64 r]) (by simp [results, Try.f21, go_sem]) rfl ?_
  exact ⟨_, L, s, r, rfl, HF.out, hs⟩

end Rm
end Go.Proofs.Ytdcjjopeobnpgaa

namespace Go.Proofs.Ytdcjjopeobnpgaa
open Go.RowKit
set_option maxRecDepth 100000
namespace Sg
open Kn (K okK)
open Bit (bit)
open Lc (at' RdK laceB WordsOk setB)

/-- is there such a knot, of a lace? -/
def isB (L : List K) (k : Int) : Bool := decide (0 ≤ k) && (decide (k < (L.length : Int)) && laceB L)
/-- what Below answers -/
def belowI (L : List K) (k : Int) : Int := if isB L k then bel L k.toNat else -1
/-- what Sees answers -/
def seesB (L : List K) (a b : Int) : Bool := isB L a && (isB L b && bit (bel L a.toNat) b.toNat)
/-- what Closed answers -/
def closedB (L : List K) (s : Int) : Bool := setB L s && closedTo (belows L L.length) s L.length
/-- what Tips answers -/
def tipsI (L : List K) (s : Int) : Int := if closedB L s then tipsTo (belows L L.length) s L.length else -1

theorem isB_parts {L : List K} {k : Int} (h : isB L k = true) : 0 ≤ k ∧ k < (L.length : Int) ∧ laceB L = true := by
  unfold isB at h
  simpa using h

set_option maxHeartbeats 800000 in
theorem l4Is (g off cap : Nat) (L : List K) (k : Int) (w : World) (hcap : L.length ≤ cap) (hw : WordsOk L) (hr : RdK w (some ⟨g, off, none⟩) L) :
    Calls Try.prog 76 #[.slice (some ⟨g, off, none⟩) L.length cap, .int .i64 k] w fun e w' => e = .returned (.bool (isB L k)) ∧ Below w.heap.size w w' := by
  by_cases h0 : 0 ≤ k
  · by_cases h1 : k < (L.length : Int)
    · have HT : Hid (isB L k = laceB L) := by show _ = _; unfold isB; rw [decide_eq_true h0, decide_eq_true h1]; rfl
      go_enter Try.func76, Try.ntmps76
      go_wp2_with fail
      refine (Lc.specLaceOk g off cap L _ hcap hw hr).mono ?_
      rintro e w1 ⟨rfl, hb1⟩
      go_wp2
      go_ret
      exact ⟨by rw [HT.out]; rfl, hb1⟩
    · have HT : Hid (isB L k = false) := by show _ = _; unfold isB; rw [decide_eq_false h1]; simp
      go_enter Try.func76, Try.ntmps76
      go_wp2
      go_ret
      exact ⟨by rw [HT.out]; rfl, Below.refl _ _⟩
  · have HT : Hid (isB L k = false) := by show _ = _; unfold isB; rw [decide_eq_false h0]; rfl
    go_enter Try.func76, Try.ntmps76
    go_wp2
    go_ret
    exact ⟨by rw [HT.out]; rfl, Below.refl _ _⟩

set_option maxHeartbeats 800000 in
theorem specBelow (g off cap : Nat) (L : List K) (k : Int) (w : World) (hcap : L.length ≤ cap) (hw : WordsOk L) (hr : RdK w (some ⟨g, off, none⟩) L) :
    Calls Try.prog 28 #[.slice (some ⟨g, off, none⟩) L.length cap, .int .i64 k] w fun e w' => e = .returned (.int .i64 (belowI L k)) ∧ Below w.heap.size w w' := by
  go_enter Try.func28, Try.ntmps28
  go_wp2_with fail
  refine (l4Is g off cap L k _ hcap hw hr).mono ?_
  rintro e w1 ⟨rfl, hb1⟩
  have hr1 := hr.below hb1
  cases his : isB L k
  · have HT : Hid (belowI L k = -1) := by show _ = _; unfold belowI; rw [his]; rfl
    clear his
    go_wp2
    go_ret
    exact ⟨by rw [HT.out]; rfl, hb1⟩
  · obtain ⟨h0, h1, hlc⟩ := isB_parts his
    have HT : Hid (belowI L k = bel L k.toNat) := by show _ = _; unfold belowI; rw [his]; rfl
    have h60 := ((Lc.lace_iff L).1 hlc).1
    have hf := frm_lace hlc
    clear his hlc
    obtain ⟨p, rfl⟩ := Int.eq_ofNat_of_zero_le h0
    have hp : p < L.length := by omega
    have HG : Hid ((belows L L.length).getD p 0 = bel L p) := belows_get L L.length p hp
    have HBL : Hid ((belows L L.length).length = L.length) := belows_len L L.length
    go_wp2_with fail
    refine (l4All (some ⟨g, off, none⟩) cap L _ h60 hf hr1).mono ?_
    rintro e w2 ⟨bo, bc, rfl, hown, hb2⟩
    have hB2 := hb1.trans (hb2.mono hb1.size)
    have hrd := Lst.own_rd hown
    clear hb1 hb2 hown hr1
    generalize belows L L.length = l at HG HBL hrd ⊢
    have hpl : p < l.length := by rw [HBL.out]; exact hp
    have hpi : (p : Int) < (l.length : Int) := by omega
    rcases hrd with hrd | ⟨b, rfl, hcell⟩
    · rw [hrd] at hpl; simp at hpl
    have cp := hcell p hpl
    rw [HG.out] at cp
    clear hcell HBL HG
    go_wp2
    go_ret
    exact ⟨by rw [HT.out]; rfl, hB2⟩

set_option maxHeartbeats 800000 in
theorem specClosed (g off cap : Nat) (L : List K) (s : Int) (w : World) (hcap : L.length ≤ cap) (hw : WordsOk L) (hr : RdK w (some ⟨g, off, none⟩) L) :
    Calls Try.prog 38 #[.slice (some ⟨g, off, none⟩) L.length cap, .int .i64 s] w fun e w' => e = .returned (.bool (closedB L s)) ∧ Below w.heap.size w w' := by
  go_enter Try.func38, Try.ntmps38
  go_wp2_with fail
  refine (Lc.l3Set g off cap L s _ hcap hw hr).mono ?_
  rintro e w1 ⟨rfl, hb1⟩
  have hr1 := hr.below hb1
  cases hs : setB L s
  · have HT : Hid (closedB L s = false) := by show _ = _; unfold closedB; rw [hs]; rfl
    clear hs
    go_wp2
    go_ret
    exact ⟨by rw [HT.out]; rfl, hb1⟩
  · obtain ⟨hlc, h0, h1, _, h60, _⟩ := Lc.setB_parts hs
    have HT : Hid (closedB L s = closedTo (belows L L.length) s L.length) := by show _ = _; unfold closedB; rw [hs]; rfl
    have hf := frm_lace hlc
    clear hs hlc
    have HBL : Hid ((belows L L.length).length = L.length) := belows_len L L.length
    go_wp2_with fail
    refine (l4All (some ⟨g, off, none⟩) cap L _ h60 hf hr1).mono ?_
    rintro e w2 ⟨bo, bc, rfl, hown, hb2⟩
    have hB2 := hb1.trans (hb2.mono hb1.size)
    have hrd := Lst.own_rd hown
    clear hb1 hb2 hown hr1
    generalize belows L L.length = l at HT HBL hrd ⊢
    rw [← HBL.out] at HT
    go_wp2_with fail
    refine (l4Closed bo bc l s _ (by rw [HBL.out]; exact h60) h0 h1 hrd).mono ?_
    rintro e w3 ⟨rfl, rfl⟩
    go_wp2
    go_ret
    exact ⟨by rw [HT.out]; rfl, hB2⟩

theorem below_drewN {b : Nat} {a w : World} (h : Below b a w) (n : Nat) : Below b a (w.drewN n) := ⟨h.os, h.tape, h.output, h.size, h.block⟩

set_option maxHeartbeats 800000 in
theorem specTips (g off cap : Nat) (L : List K) (s : Int) (w : World) (hcap : L.length ≤ cap) (hw : WordsOk L) (hr : RdK w (some ⟨g, off, none⟩) L) :
    Calls Try.prog 37 #[.slice (some ⟨g, off, none⟩) L.length cap, .int .i64 s] w fun e w' => e = .returned (.int .i64 (tipsI L s)) ∧ Below w.heap.size w w' := by
  go_enter Try.func37, Try.ntmps37
  go_wp2_with fail
  refine (specClosed g off cap L s _ hcap hw hr).mono ?_
  rintro e w1 ⟨rfl, hb1⟩
  have hr1 := hr.below hb1
  cases hs : closedB L s
  · have HT : Hid (tipsI L s = -1) := by show _ = _; unfold tipsI; rw [hs]; rfl
    clear hs
    go_wp2
    go_ret
    exact ⟨by rw [HT.out]; rfl, hb1⟩
  · have hset : setB L s = true := by
      unfold closedB at hs; rw [Bool.and_eq_true] at hs; exact hs.1
    obtain ⟨hlc, h0, h1, _, h60, _⟩ := Lc.setB_parts hset
    have HT : Hid (tipsI L s = tipsTo (belows L L.length) s L.length) := by show _ = _; unfold tipsI; rw [hs]; rfl
    have hf := frm_lace hlc
    clear hs hlc hset
    have HBL : Hid ((belows L L.length).length = L.length) := belows_len L L.length
    go_wp2_with fail
    refine (l4All (some ⟨g, off, none⟩) cap L _ h60 hf hr1).mono ?_
    rintro e w2 ⟨bo, bc, rfl, hown, hb2⟩
    have hB2 := hb1.trans (hb2.mono hb1.size)
    have hrd := Lst.own_rd hown
    clear hb1 hb2 hown hr1
    generalize belows L L.length = l at HT HBL hrd ⊢
    rw [← HBL.out] at HT
    go_wp2_with fail
    refine (l4Tips bo bc l s _ (by rw [HBL.out]; exact h60) h0 h1 hrd).mono ?_
    rintro e w3 ⟨rfl, n3, rfl⟩
    have hB3 := below_drewN hB2 n3
    go_wp2
    go_ret
    exact ⟨by rw [HT.out]; rfl, hB3⟩

set_option maxHeartbeats 1600000 in
theorem specSees (g off cap : Nat) (L : List K) (a b : Int) (w : World) (hcap : L.length ≤ cap) (hw : WordsOk L) (hr : RdK w (some ⟨g, off, none⟩) L) :
    Calls Try.prog 30 #[.slice (some ⟨g, off, none⟩) L.length cap, .int .i64 a, .int .i64 b] w fun e w' => e = .returned (.bool (seesB L a b)) ∧ Below w.heap.size w w' := by
  go_enter Try.func30, Try.ntmps30
  go_wp2_with fail
  refine (l4Is g off cap L a _ hcap hw hr).mono ?_
  rintro e w1 ⟨rfl, hb1⟩
  have hr1 := hr.below hb1
  cases his : isB L a
  · have HT : Hid (seesB L a b = false) := by show _ = _; unfold seesB; rw [his]; rfl
    clear his
    go_wp2
    go_ret
    exact ⟨by rw [HT.out]; rfl, hb1⟩
  · have HT1 : Hid (seesB L a b = (isB L b && bit (bel L a.toNat) b.toNat)) := by show _ = _; unfold seesB; rw [his]; rfl
    obtain ⟨h0, h1, hlc⟩ := isB_parts his
    clear his
    go_wp2_with fail
    refine (l4Is g off cap L b _ hcap hw hr1).mono ?_
    rintro e w2 ⟨rfl, hb2⟩
    have hr2 := hr1.below hb2
    have hB2 := hb1.trans (hb2.mono hb1.size)
    clear hb1 hb2 hr1
    cases hib : isB L b
    · have HT : Hid (seesB L a b = false) := by show _ = _; rw [HT1.out, hib]; rfl
      clear hib HT1
      go_wp2
      go_ret
      exact ⟨by rw [HT.out]; rfl, hB2⟩
    · have HT : Hid (seesB L a b = bit (bel L a.toNat) b.toNat) := by show _ = _; rw [HT1.out, hib]; rfl
      obtain ⟨q0, q1, _⟩ := isB_parts hib
      have h60 := ((Lc.lace_iff L).1 hlc).1
      have hf := frm_lace hlc
      clear hib hlc HT1
      obtain ⟨p, rfl⟩ := Int.eq_ofNat_of_zero_le h0
      have hp : p < L.length := by omega
      have HG : Hid ((belows L L.length).getD p 0 = bel L p) := belows_get L L.length p hp
      have HBL : Hid ((belows L L.length).length = L.length) := belows_len L L.length
      have hbb := bel_bd L p (by omega)
      rw [Int.toNat_natCast] at HT
      go_wp2_with fail
      refine (l4All (some ⟨g, off, none⟩) cap L _ h60 hf hr2).mono ?_
      rintro e w3 ⟨bo, bc, rfl, hown, hb3⟩
      have hB3 := hB2.trans (hb3.mono hB2.size)
      have hrd := Lst.own_rd hown
      clear hB2 hb3 hown hr2
      generalize belows L L.length = l at HG HBL hrd ⊢
      have hpl : p < l.length := by rw [HBL.out]; exact hp
      have hpi : (p : Int) < (l.length : Int) := by omega
      rcases hrd with hrd | ⟨bb, rfl, hcell⟩
      · rw [hrd] at hpl; simp at hpl
      have cp := hcell p hpl
      rw [HG.out] at cp
      clear hcell HBL HG
      generalize bel L p = y at cp HT hbb
      go_wp2_with (go_at_call 79; refine (Base.l1Has _ _ _ hbb.1 hbb.2 q0 (by omega)).mono ?_; rintro e w' ⟨rfl, rfl⟩)
      go_ret
      exact ⟨by rw [HT.out]; rfl, hB3⟩

end Sg
end Go.Proofs.Ytdcjjopeobnpgaa

namespace Go.Proofs.Ytdcjjopeobnpgaa
open Go.RowKit
set_option maxRecDepth 100000
namespace Rm
open Kn (K okK)
open Lc (at' RdK laceB flat OwnK cellsOf)
open Cur (At)

set_option maxHeartbeats 1600000 in
theorem drawBelow (HD : DrawsRoom) (a : Option Addr) (len cap : Nat) (w : World) (hl : len ≤ 4096) (hc : Cur.Code w a len) :
    Calls Try.prog 25 #[.slice a len cap] w fun e w' => ∃ v L s, e = .returned (.tuple #[v, .int .i64 s]) ∧ Drawn w.heap.size w w' v L ∧ (-9223372036854775808 ≤ s ∧ s ≤ 9223372036854775807) := by
  have HDD : Hid DrawsRoom := HD
  clear HD
  go_enter Try.func25, Try.ntmps25
  go_wp2_with fail
  refine (Cur.new a len cap _ hl hc).mono ?_
  rintro e w1 ⟨rfl, hA1, hb1⟩
  go_wp2_with fail
  refine (l3DrawAny HDD.out _ a len cap _ hl hA1).mono ?_
  rintro e w2 ⟨v, L, rfl, hO, h61, hwd, hA2, hG2⟩
  obtain ⟨g, cp, rfl, _, _, _, _, _, _⟩ := Lc.ownK_shape hO
  have hB2 := Draw.below_of_grown hb1 (Nat.le_refl _) hG2
  have hs1 := hb1.size
  have hlt1 := hA1.lt
  have HO : Hid (OwnK 26 w1.heap.size w2 (.slice (some ⟨g, 0, none⟩) L.length cp) L) := hO
  have HWD : Hid (∀ k ∈ L, k.word.size ≤ 13) := hwd
  clear hO hwd hG2 hb1 hA1
  go_wp2_with fail
  refine (l3DrawAt _ a len cap L.length _ hl h61 hA2).mono ?_
  rintro e w3 ⟨s, rfl, hs, hA3, hG3⟩
  have HF : Hid (Drawn w.heap.size w w3 (.slice (some ⟨g, 0, none⟩) L.length cp) L) := ⟨ownK_base (ownK_grown HO.out hG3 hlt1) hs1, h61, HWD.out, Draw.below_of_grown hB2 (Nat.le_refl _) hG3⟩
  clear HO hB2 hG3 hA2 hA3
  go_wp2
  refine bodyPost_ret (v := .tuple #[.slice (some ⟨g, 0, none⟩) L.length cp, .int .i64 s]) (by simp [results, Try.f25, go_sem]) rfl ?_
  exact ⟨_, L, s, rfl, HF.out, hs⟩

set_option maxHeartbeats 1600000 in
theorem drawSees (HD : DrawsRoom) (a : Option Addr) (len cap : Nat) (w : World) (hl : len ≤ 4096) (hc : Cur.Code w a len) :
    Calls Try.prog 27 #[.slice a len cap] w fun e w' => ∃ v L s r, e = .returned (.tuple #[v, .int .i64 s, .int .i64 r]) ∧ Drawn w.heap.size w w' v L := by
  have HDD : Hid DrawsRoom := HD
  clear HD
  go_enter Try.func27, Try.ntmps27
  go_wp2_with fail
  refine (Cur.new a len cap _ hl hc).mono ?_
  rintro e w1 ⟨rfl, hA1, hb1⟩
  go_wp2_with fail
  refine (l3DrawAny HDD.out _ a len cap _ hl hA1).mono ?_
  rintro e w2 ⟨v, L, rfl, hO, h61, hwd, hA2, hG2⟩
  obtain ⟨g, cp, rfl, _, _, _, _, _, _⟩ := Lc.ownK_shape hO
  have hB2 := Draw.below_of_grown hb1 (Nat.le_refl _) hG2
  have hs1 := hb1.size
  have hlt1 := hA1.lt
  have HO : Hid (OwnK 26 w1.heap.size w2 (.slice (some ⟨g, 0, none⟩) L.length cp) L) := hO
  have HWD : Hid (∀ k ∈ L, k.word.size ≤ 13) := hwd
  clear hO hwd hG2 hb1 hA1
  go_wp2_with fail
  refine (l3DrawAt _ a len cap L.length _ hl h61 hA2).mono ?_
  rintro e w3 ⟨s, rfl, _, hA3, hG3⟩
  have hB3 := Draw.below_of_grown hB2 (Nat.le_refl _) hG3
  have HO3 : Hid (OwnK 26 w1.heap.size w3 (.slice (some ⟨g, 0, none⟩) L.length cp) L) := ownK_grown HO.out hG3 hlt1
  clear HO hB2 hG3 hA2
  go_wp2_with fail
  refine (l3DrawAt _ a len cap L.length _ hl h61 hA3).mono ?_
  rintro e w4 ⟨r, rfl, _, hA4, hG4⟩
  have HF : Hid (Drawn w.heap.size w w4 (.slice (some ⟨g, 0, none⟩) L.length cp) L) := ⟨ownK_base (ownK_grown HO3.out hG4 hlt1) hs1, h61, HWD.out, Draw.below_of_grown hB3 (Nat.le_refl _) hG4⟩
  clear HO3 hB3 hG4 hA3 hA4
  go_wp2
  refine bodyPost_ret (v := .tuple #[.slice (some ⟨g, 0, none⟩) L.length cp, .int .i64 s, .int .i64 r]) (by simp [results, Try.f27, go_sem]) rfl ?_
  exact ⟨_, L, s, r, rfl, HF.out⟩

/-- the cursor moves on, the list stays -/
theorem rd_grown2 {A B : World} {c g : Nat} {L : List K} (h : RdK A (some ⟨g, 0, none⟩) L) (hg : A.grownBy B (some c)) (hne : g ≠ c) : RdK B (some ⟨g, 0, none⟩) L := by
  rcases h with h | ⟨g', off', e, hlt, hc⟩
  · exact .inl h
  · cases e
    refine .inr ⟨g, 0, rfl, Nat.lt_of_lt_of_le hlt hg.size, fun i hi => ?_⟩
    have c' := hc i hi
    have f : ∀ o : Nat, B.cell? ⟨g, o, none⟩ = A.cell? ⟨g, o, none⟩ := fun o => (Fr.of_grown hg).cell (p := ⟨g, o, none⟩) hlt hne
    exact ⟨(f _).trans c'.c0, (f _).trans c'.c1, (f _).trans c'.c2, (f _).trans c'.c3⟩

set_option maxHeartbeats 3200000 in
theorem l4DrawSet (c : Nat) (a : Option Addr) (len cap : Nat) (g cp : Nat) (L : List K) (w : World) (hl : len ≤ 4096) (hc : At c a len cap w) (hne : g ≠ c) (h61 : L.length ≤ 61) (hcp : L.length ≤ cp) (hw : Lc.WordsOk L) (hr : RdK w (some ⟨g, 0, none⟩) L) :
    Calls Try.prog 114 #[.pointer (some ⟨c, 0, none⟩), .slice (some ⟨g, 0, none⟩) L.length cp] w (NumPost c a len cap w) := by
  go_enter Try.func114, Try.ntmps114
  go_wp2_with fail
  refine (Cur.once c a len cap 6 _ hl (by omega) hc).mono ?_
  rintro e w1 ⟨b, rfl, hA1, hG1⟩
  have hr1 := rd_grown2 hr hG1 hne
  cases b
  · go_wp2_with fail
    refine (Lc.specLaceOk g 0 cp L _ hcp hw hr1).mono ?_
    rintro e w2 ⟨rfl, hb2⟩
    have hA2 := hA1.below hb2
    have G2 : w.grownBy w2 (some c) := ((Fr.of_grown hG1).trans (Fr.of_below hb2 (fun x => x = c)) (fun _ h _ => h)).grown
    have hr2 := hr1.below hb2
    clear hA1 hG1 hb2 hr1
    cases hlc : laceB L
    · go_wp2_with fail
      refine (l3DrawSet _ a len cap L.length _ hl h61 hA2).mono ?_
      rintro e w3 ⟨s, rfl, hs, hA3, hG3⟩
      have G3 := Cur.grownBy_trans G2 hG3
      go_wp2
      go_ret
      exact ⟨s, rfl, hs, hA3, G3⟩
    · have h60 := ((Lc.lace_iff L).1 hlc).1
      have hf := Sg.frm_lace hlc
      clear hlc
      go_wp2_with fail
      refine (Sg.l4All (some ⟨g, 0, none⟩) cp L _ h60 hf hr2).mono ?_
      rintro e w3 ⟨bo, bc, rfl, hown, hb3⟩
      have hbl := Sg.belows_len L L.length
      have hA3 := hA2.below hb3
      have G3 : w.grownBy w3 (some c) := ((Fr.of_grown G2).trans (Fr.of_below hb3 (fun x => x = c)) (fun _ h _ => h)).grown
      have hlt2 := hA2.lt
      have HON : Hid (Memb.Own w2.heap.size w3 bo bc (Sg.belows L L.length)) := hown
      have HBL : Hid ((Sg.belows L L.length).length = L.length) := hbl
      clear hA2 G2 hb3 hr2 hown hbl
      generalize Sg.belows L L.length = l at HON HBL ⊢
      go_wp2_with fail
      refine (Cur.below c a len cap 4 _ hl (by omega) hA3).mono ?_
      rintro e w4 ⟨k, rfl, hk0, hk1, hA4, hG4⟩
      have hk2 := hk1 (by omega)
      have HO4 : Hid (Memb.Own w2.heap.size w4 bo bc l) := Draw.own_grown HON.out hG4 hlt2
      have HA4 : Hid (At c a len cap w4) := hA4
      have HG4 : Hid (w.grownBy w4 (some c)) := Cur.grownBy_trans G3 hG4
      clear HON hA3 hA4 hG4 G3 hk1
      have hwl : ∀ x : Int, -1 ≤ x → x ≤ 4 → IntKind.i64.wrap (x - 1) = x - 1 := fun x h1 h2 => by rw [IntKind.wrap_i64]; omega
      go_wp2
      go_loopw [6, 8] (fun s kv wr => ∃ (k x : Int), -1 ≤ k ∧ k ≤ 3 ∧ kv = .int .i64 k ∧ s = .int .i64 x ∧ Hid (-9223372036854775808 ≤ x ∧ x ≤ 9223372036854775807) ∧ Hid (At c a len cap wr) ∧ Hid (w.grownBy wr (some c)) ∧ Hid (Memb.Own w2.heap.size wr bo bc l)) (fun _ kv _ => (intOf kv + 1).toNat)
      case atStart => exact ⟨k, 0, by omega, by omega, rfl, rfl, ⟨by omega, by omega⟩, HA4, HG4, HO4⟩
      case round =>
        obtain ⟨k, x, hk0, hk3, rfl, rfl, HX, HA, HG, HO⟩ := hrel
        by_cases hkn : 0 ≤ k ∧ 0 < L.length
        · have hk' := hkn.1
          have hn' : (0 : Int) < (L.length : Int) := by omega
          have hwk := hwl k (by omega) (by omega)
          clear hwl hkn
          go_wp2_with fail
          refine (Cur.below c a len cap (L.length : Int) _ hl (by omega) HA.out).mono ?_
          rintro e w5 ⟨y, rfl, hy0, hy1, hA5, hG5⟩
          have hy2 := hy1 hn'
          obtain ⟨j, rfl⟩ := Int.eq_ofNat_of_zero_le hy0
          have HO5 : Hid (Memb.Own w2.heap.size w5 bo bc l) := Draw.own_grown HO.out hG5 hlt2
          have HA5 : Hid (At c a len cap w5) := hA5
          have HG5 : Hid (w.grownBy w5 (some c)) := Cur.grownBy_trans HG.out hG5
          have hjl : j < l.length := by have := HBL.out; omega
          have hji : (j : Int) < (l.length : Int) := by omega
          obtain ⟨bb, rfl, hcell⟩ : ∃ bb, bo = some ⟨bb, 0, none⟩ ∧ w5.cell? ⟨bb, j, none⟩ = some (.int .i64 (l.getD j 0)) := by
            rcases Lst.own_rd HO5.out with e | ⟨bb, e, h⟩
            · rw [e] at hjl; simp at hjl
            · exact ⟨bb, e, h j hjl⟩
          clear hA5 hG5 HA HG HO hy1
          generalize l.getD j 0 = z at hcell
          go_wp2
          go_roundw
          case rel => exact ⟨k - 1, _, by omega, by omega, rfl, rfl, Draw.bits_bd _ _ _, HA5, HG5, HO5⟩
          case measure => simp [intOf]; omega
        · have hex : k < 0 ∨ (0 ≤ k ∧ L.length = 0) := by omega
          have HE : Hid (∀ W : World, At c a len cap W → w.grownBy W (some c) → Calls Try.prog 90 #[.pointer (some ⟨c, 0, none⟩), .int .i64 4] W fun e w' => ∃ b : Bool, e = .returned (.bool b) ∧ At c a len cap w' ∧ w.grownBy w' (some c)) := fun W h1 h2 => (Cur.once c a len cap 4 W hl (by omega) h1).mono fun e w' ⟨b, he, hA, hG⟩ => ⟨b, he, hA, Cur.grownBy_trans h2 hG⟩
          clear hkn hwl
          rcases hex with hk | ⟨hk, hz⟩
          · have hk' : ¬ 0 ≤ k := by omega
            go_wp2_with fail
            refine (HE.out _ HA.out HG.out).mono ?_
            rintro e w5 ⟨b, rfl, hA5, hG5⟩
            cases b
            · go_wp2
              go_ret
              exact ⟨x, rfl, HX.out, hA5, hG5⟩
            · go_wp2_with fail
              refine (l1BitAny L.length _ (by omega)).mono ?_
              rintro e w6 ⟨y, rfl, rfl⟩
              go_wp2
              go_ret
              exact ⟨_, rfl, by first | exact wrap_bd _ | exact Cur.wrap64_bd _, hA5, hG5⟩
          · have hz' : ¬ (0 : Int) < (L.length : Int) := by omega
            go_wp2_with fail
            refine (HE.out _ HA.out HG.out).mono ?_
            rintro e w5 ⟨b, rfl, hA5, hG5⟩
            cases b
            · go_wp2
              go_ret
              exact ⟨x, rfl, HX.out, hA5, hG5⟩
            · go_wp2_with fail
              refine (l1BitAny 0 _ (by omega)).mono ?_
              rintro e w6 ⟨y, rfl, rfl⟩
              go_wp2
              go_ret
              exact ⟨_, rfl, by first | exact wrap_bd _ | exact Cur.wrap64_bd _, hA5, hG5⟩
  · go_wp2_with fail
    refine (l3DrawSet _ a len cap L.length _ hl h61 hA1).mono ?_
    rintro e w3 ⟨s, rfl, hs, hA3, hG3⟩
    have G3 := Cur.grownBy_trans hG1 hG3
    go_wp2
    go_ret
    exact ⟨s, rfl, hs, hA3, G3⟩

set_option maxHeartbeats 1600000 in
theorem drawClosed (HD : DrawsRoom) (a : Option Addr) (len cap : Nat) (w : World) (hl : len ≤ 4096) (hc : Cur.Code w a len) :
    Calls Try.prog 86 #[.slice a len cap] w fun e w' => ∃ v L s, e = .returned (.tuple #[v, .int .i64 s]) ∧ Drawn w.heap.size w w' v L ∧ (-9223372036854775808 ≤ s ∧ s ≤ 9223372036854775807) := by
  have HDD : Hid DrawsRoom := HD
  clear HD
  go_enter Try.func86, Try.ntmps86
  go_wp2_with fail
  refine (Cur.new a len cap _ hl hc).mono ?_
  rintro e w1 ⟨rfl, hA1, hb1⟩
  go_wp2_with fail
  refine (l3DrawAny HDD.out _ a len cap _ hl hA1).mono ?_
  rintro e w2 ⟨v, L, rfl, hO, h61, hwd, hA2, hG2⟩
  obtain ⟨g, cp, rfl, hcp, _, hgB, _, hrd, _⟩ := Lc.ownK_shape hO
  have hB2 := Draw.below_of_grown hb1 (Nat.le_refl _) hG2
  have hs1 := hb1.size
  have hlt1 := hA1.lt
  have HO : Hid (OwnK 26 w1.heap.size w2 (.slice (some ⟨g, 0, none⟩) L.length cp) L) := hO
  have HWD : Hid (∀ k ∈ L, k.word.size ≤ 13) := hwd
  have hne : g ≠ w.heap.size := by omega
  have hww : Lc.WordsOk L := fun k hk => by have := hwd k hk; omega
  have hset := l4DrawSet w.heap.size a len cap g cp L w2 hl hA2 hne h61 hcp hww hrd
  clear hO hwd hG2 hb1 hA1 hww hrd
  go_wp2_with fail
  refine hset.mono ?_
  rintro e w3 ⟨s, rfl, hs, hA3, hG3⟩
  have HF : Hid (Drawn w.heap.size w w3 (.slice (some ⟨g, 0, none⟩) L.length cp) L) := ⟨ownK_base (ownK_grown HO.out hG3 hlt1) hs1, h61, HWD.out, Draw.below_of_grown hB2 (Nat.le_refl _) hG3⟩
  clear HO hB2 hG3 hA2 hA3 hset
  go_wp2
  refine bodyPost_ret (v := .tuple #[.slice (some ⟨g, 0, none⟩) L.length cp, .int .i64 s]) (by simp [results, Try.f86, go_sem]) rfl ?_
  exact ⟨_, L, s, rfl, HF.out, hs⟩

set_option maxHeartbeats 800000 in
theorem drawTips (HD : DrawsRoom) (a : Option Addr) (len cap : Nat) (w : World) (hl : len ≤ 4096) (hc : Cur.Code w a len) :
    Calls Try.prog 36 #[.slice a len cap] w fun e w' => ∃ v L s, e = .returned (.tuple #[v, .int .i64 s]) ∧ Drawn w.heap.size w w' v L ∧ (-9223372036854775808 ≤ s ∧ s ≤ 9223372036854775807) := by
  go_enter Try.func36, Try.ntmps36
  go_wp2_with fail
  refine (drawClosed HD a len cap _ hl hc).mono ?_
  rintro e w1 ⟨v, L, s, rfl, hD, hs⟩
  go_wp2
  refine bodyPost_ret (v := .tuple #[v, .int .i64 s]) (by simp [results, Try.f36, go_sem]) rfl ?_
  exact ⟨_, L, s, rfl, hD, hs⟩

end Rm
end Go.Proofs.Ytdcjjopeobnpgaa

namespace Go.Proofs.Ytdcjjopeobnpgaa
open Go.RowKit Go.ChangeShapes Go.WideShapes Go.WideElems Go.Joins
open Go.ChangeMaps (setBlock heap_setBlock_same heap_setBlock_other)
open Go.Maps (Keyed)
set_option maxRecDepth 100000
namespace Db

theorem laidOutP : laidOutB Try.prog = true := by kernel_rfl
theorem rowPair : (118 : TypeId) < Try.prog.types.size := of_decide_eq_true (by kernel_rfl)
theorem widePair : (match Try.prog.underlying 118 with | some (.array _ _) | some (.struct _) => true | _ => false) = true := by rw [Try.underlying118]
theorem klaw : WideMaps.KeyLaw Try.prog 118 := deep_law_laid laidOutP (m := 2) (by omega) rowPair (by kernel_rfl) widePair
theorem keyed : Keyed Try.prog 118 := Keyed.of_law klaw
theorem deepPair : Try.prog.keyTypeAt (Try.prog.types.size + 1) 118 = true := by kernel_rfl
theorem cellsPair : Try.prog.cellsOf 118 = 2 := by kernel_rfl
theorem zeroI (w : World) : (zeroValue 2).run Try.prog w = .ok (.int .i64 0) w := by kernel_rfl

/-- a pair as a value -/
abbrev pv (a b : Nat) : Value := .agg #[.int .i64 (a : Int), .int .i64 (b : Int)]
/-- a pair as a key -/
def kl (a b : Nat) : Lit := (DataW.agg [.lit (.int .i64 (a : Int)), .lit (.int .i64 (b : Int))] : DataW Unit).asKey

theorem wfN (a : Nat) (ha : a < 60) : (Lit.int .i64 (a : Int)).wf = true := by
  simp [Lit.wf, IntKind.min, IntKind.max, IntKind.signed, IntKind.bits]; omega

theorem key_pv (a b : Nat) (ha : a < 60) (hb : b < 60) : keyOf Try.prog 118 (pv a b) = some (kl a b) := by
  have tr : ∀ x : Nat, x < 60 → ∃ n, DataW.trod (fun _ : TypeId × Value => ()) Try.prog (default : World) 0 (fun _ => true) true n 2 [.int .i64 (x : Int)] = some (.lit (.int .i64 (x : Int)), []) := fun x hx => ⟨1, by simp [DataW.trod, Try.underlying2, wfN x hx]⟩
  have ht := shut_agg2 (enc := fun _ : TypeId × Value => ()) (P := Try.prog) (w := (default : World)) (base := 0) (spare := fun _ => true) (held := true) (y0 := (.lit (.int .i64 (a : Int)), [])) (y1 := (.lit (.int .i64 (b : Int)), [])) Try.underlying118 (by kernel_rfl) cellsPair (tr a ha) (tr b hb)
  exact (keyOf_asKey deepPair widePair (by simp [Value.formed, Try.underlying118, cellsPair]) ht).1

theorem kl_inj {a b a' b' : Nat} (ha : a < 60) (hb : b < 60) (ha' : a' < 60) (hb' : b' < 60) (h : kl a b = kl a' b') : a = a' ∧ b = b' := by
  have := keyed.inj (key_pv a b ha hb) (h ▸ key_pv a' b' ha' hb')
  simp only [pv, Value.agg.injEq, Array.mk.injEq, List.cons.injEq, Value.int.injEq, true_and, and_true] at this
  omega

/-- block M is a map of at most n pairs: just those of S -/
def Apart (w : World) (M n : Nat) (S : Nat → Nat → Bool) : Prop :=
  ∃ D : DataW Unit, w.ownsMap Try.prog 118 (plainElem Try.prog 2) M n D ∧ (∀ i j, i < 60 → j < 60 → Maps.has D (kl i j) = S i j) ∧ (∀ k, Maps.has D k = true → ∃ i j, i < 60 ∧ j < 60 ∧ k = kl i j)

theorem Apart.lt {w : World} {M n : Nat} {S : Nat → Nat → Bool} (h : Apart w M n S) : M < w.heap.size := by
  obtain ⟨D, h, _⟩ := h
  exact h.lt
theorem Apart.kept {w w' : World} {row : Option Nat} {M n : Nat} {S : Nat → Nat → Bool} (h : Apart w M n S) (hg : w.grownBy w' row) (hne : some M ≠ row) : Apart w' M n S := by
  obtain ⟨D, h, r⟩ := h
  exact ⟨D, h.kept hg hne, r⟩
theorem Apart.mono {w : World} {M n n' : Nat} {S : Nat → Nat → Bool} (h : Apart w M n S) (hn : n ≤ n') : Apart w M n' S := by
  obtain ⟨D, h, r⟩ := h
  exact ⟨D, h.mono hn, r⟩
theorem Apart.of {w : World} {M n : Nat} {S S' : Nat → Nat → Bool} (h : Apart w M n S) (he : ∀ i j, i < 60 → j < 60 → S i j = S' i j) : Apart w M n S' := by
  obtain ⟨D, h, r1, r2⟩ := h
  exact ⟨D, h, fun i j hi hj => (r1 i j hi hj).trans (he i j hi hj), r2⟩

theorem apart_none {w : World} {M n : Nat} (h : w.ownsMap Try.prog 118 (plainElem (H := Unit) Try.prog 2) M n (.map [])) : Apart w M n (fun _ _ => false) :=
  ⟨_, h, fun i j _ _ => rfl, fun k hk => by cases hk⟩
theorem apart_made (w : World) : Apart (w.alloc (.map #[] 0)) w.heap.size 0 (fun _ _ => false) := apart_none (World.ownsMap_made w _ _ _)

/-- cleared -/
theorem apart_clear {w : World} {M n : Nat} {S : Nat → Nat → Bool} (h : Apart w M n S) (ty : TypeId) :
    ∃ w', (Builtin.clear_ #[106] ty #[.map (some M)]).run Try.prog w = .ok (.tuple #[]) w' ∧ Apart w' M 0 (fun _ _ => false) ∧ w.grownBy w' (some M) := by
  obtain ⟨D, ⟨es, clock, hb, F, hs, hD⟩, _⟩ := h
  refine ⟨setBlock w M (.map #[] clock), ?_, apart_none ⟨#[], clock, heap_setBlock_same hb _, ⟨by simp, ?_, by simp⟩, Nat.le_refl _, rfl⟩, ?_⟩
  · simp [Builtin.clear_, run_underlying Try.underlying106, MapKept.run_getObj_map hb, MapKept.run_setObj_map _ hb, Result.andThen, setBlock]
  · exact MapKept.stamped_empty clock
  · exact ⟨rfl, rfl, rfl, by simp [setBlock], fun i _ hi => heap_setBlock_other hb _ (fun e => hi (by rw [e]))⟩

/-- counted -/
theorem apart_len {w : World} {M n : Nat} {S : Nat → Nat → Bool} (h : Apart w M n S) (ty : TypeId) :
    ∃ c : Nat, (Builtin.len_ #[106] ty #[.map (some M)]).run Try.prog w = .ok (.int .i64 (c : Int)) w ∧ (0 < c ↔ ∃ i j, i < 60 ∧ j < 60 ∧ S i j = true) := by
  obtain ⟨D, h, r1, r2⟩ := h
  refine ⟨Maps.size D, h.len Try.underlying106 ty, ?_⟩
  obtain ⟨es, clock, hb, F, hs, rfl⟩ := h
  constructor
  · intro hc
    generalize hl : (es.toList.map (rg Try.prog 118 (plainElem (H := Unit) Try.prog 2))).foldr DataW.insert [] = l at hc r1 r2
    cases l with
    | nil => exact absurd hc (Nat.lt_irrefl 0)
    | cons p l =>
      have hp : p ∈ es.toList.map (rg Try.prog 118 (plainElem (H := Unit) Try.prog 2)) := (sorted_perm _).mem_iff.1 (hl ▸ List.mem_cons_self ..)
      obtain ⟨v, hv⟩ := Maps.fit_keys F p hp
      have hk : WideAt.IsKeyLit p.1 := keyed.key hv
      have hh : Maps.has (.map (p :: l) : DataW Unit) p.1 = true := by simp [Maps.has, WideAt.sameKey_self hk]
      obtain ⟨i, j, hi, hj, e⟩ := r2 _ hh
      exact ⟨i, j, hi, hj, by rw [← r1 i j hi hj, ← e]; exact hh⟩
  · rintro ⟨i, j, hi, hj, hS⟩
    have hh := (r1 i j hi hj).trans hS
    generalize (es.toList.map (rg Try.prog 118 (plainElem (H := Unit) Try.prog 2))).foldr DataW.insert [] = l at hh
    cases l with
    | nil => cases hh
    | cons p l => exact Nat.succ_pos _

theorem put_has {D : DataW Unit} {S : Nat → Nat → Bool} (hD : Maps.IsMap D) (r1 : ∀ i j, i < 60 → j < 60 → Maps.has D (kl i j) = S i j) (r2 : ∀ k, Maps.has D k = true → ∃ i j, i < 60 ∧ j < 60 ∧ k = kl i j) (a b : Nat) (ha : a < 60) (hb : b < 60) (d : DataW Unit) :
    (∀ i j, i < 60 → j < 60 → Maps.has (D.put (kl a b) d) (kl i j) = (S i j || (decide (i = a) && decide (j = b)))) ∧ (∀ k, Maps.has (D.put (kl a b) d) k = true → ∃ i j, i < 60 ∧ j < 60 ∧ k = kl i j) := by
  have hk : WideAt.IsKeyLit (kl a b) := keyed.key (key_pv a b ha hb)
  constructor
  · intro i j hi hj
    by_cases e : i = a ∧ j = b
    · obtain ⟨rfl, rfl⟩ := e
      rw [Maps.has_put_same hD hk]; simp
    · have hne : kl i j ≠ kl a b := fun e' => e (kl_inj hi hj ha hb e')
      rw [Maps.has_put_other hne, r1 i j hi hj]
      have : (decide (i = a) && decide (j = b)) = false := by rw [Bool.eq_false_iff]; intro h; simp at h; exact e h
      rw [this, Bool.or_false]
  · intro k h
    by_cases e : k = kl a b
    · exact ⟨a, b, ha, hb, e⟩
    · rw [Maps.has_put_other e] at h; exact r2 k h

theorem del_has {D : DataW Unit} {S : Nat → Nat → Bool} (r1 : ∀ i j, i < 60 → j < 60 → Maps.has D (kl i j) = S i j) (r2 : ∀ k, Maps.has D k = true → ∃ i j, i < 60 ∧ j < 60 ∧ k = kl i j) (a b : Nat) (ha : a < 60) (hb : b < 60) :
    (∀ i j, i < 60 → j < 60 → Maps.has (D.del (kl a b)) (kl i j) = (S i j && !(decide (i = a) && decide (j = b)))) ∧ (∀ k, Maps.has (D.del (kl a b)) k = true → ∃ i j, i < 60 ∧ j < 60 ∧ k = kl i j) := by
  constructor
  · intro i j hi hj
    by_cases e : i = a ∧ j = b
    · obtain ⟨rfl, rfl⟩ := e
      rw [Maps.has_del_same]; simp
    · have hne : kl i j ≠ kl a b := fun e' => e (kl_inj hi hj ha hb e')
      rw [Maps.has_del_other hne, r1 i j hi hj]
      have : (decide (i = a) && decide (j = b)) = false := by rw [Bool.eq_false_iff]; intro h; simp at h; exact e h
      rw [this]; simp
  · intro k h
    by_cases e : k = kl a b
    · exact ⟨a, b, ha, hb, e⟩
    · rw [Maps.has_del_other e] at h; exact r2 k h

/-- struck -/
theorem apart_drop {w : World} {M n : Nat} {S : Nat → Nat → Bool} (h : Apart w M n S) (a b : Nat) (ha : a < 60) (hb : b < 60) (ty : TypeId) :
    ∃ w', (Builtin.delete_ #[106, 118] ty #[.map (some M), pv a b]).run Try.prog w = .ok (.tuple #[]) w' ∧ Apart w' M n (fun i j => S i j && !(decide (i = a) && decide (j = b))) ∧ w.grownBy w' (some M) := by
  obtain ⟨D, h, r1, r2⟩ := h
  obtain ⟨w', hr, ho, ht⟩ := h.drop keyed Try.underlying106 (key_pv a b ha hb) ty
  exact ⟨w', hr, ⟨_, ho, (del_has r1 r2 a b ha hb).1, (del_has r1 r2 a b ha hb).2⟩, ht.grown⟩

/-- put: looked up, its entry made, its entry written -/
structure Puts (w : World) (M n : Nat) (S : Nat → Nat → Bool) (a b : Nat) (c : Int) (v0 : Value) (st : Nat) (o1 : Obj) : Prop where
  look : ∀ k, (Instr.lookup 106 (.map (some M)) (pv a b) false).run Try.prog (w.drewN k) = .ok (.int .i64 c) (w.drewN k)
  entry : ∀ k, (Instr.mapEntry 106 (.map (some M)) (pv a b)).run Try.prog (w.drewN k) = .ok (.tuple #[v0, .int .i64 (st : Int)]) (setBlock (w.drewN k) M o1)
  look1 : ∀ k, (Instr.lookup 106 (.map (some M)) (pv a b) false).run Try.prog (setBlock (w.drewN k) M o1) = .ok (.int .i64 c) (setBlock (w.drewN k) M o1)
  store : ∀ x : Int, (Lit.int .i64 x).wf = true → ∃ o2, (∀ k, (Instr.entryStore 106 (.map (some M)) (.int .i64 (st : Int)) (.int .i64 x)).run Try.prog (setBlock (w.drewN k) M o1) = .ok () (setBlock (w.drewN k) M o2)) ∧ Apart (setBlock w M o2) M (n + 1) (fun i j => S i j || (decide (i = a) && decide (j = b))) ∧ w.grownBy (setBlock w M o2) (some M)

theorem setBlock_twice (w : World) (M : Nat) (o o' : Obj) : setBlock (setBlock w M o) M o' = setBlock w M o' := by simp [setBlock]

theorem one_at {l : List MapEntry} (h : l.Pairwise (fun x y => x.key ≠ y.key)) {j j' : Nat} {e e' : MapEntry} (hj : l[j]? = some e) (hj' : l[j']? = some e') (hk : e.key = e'.key) : j = j' := by
  obtain ⟨h1, rfl⟩ := List.getElem?_eq_some_iff.1 hj
  obtain ⟨h2, rfl⟩ := List.getElem?_eq_some_iff.1 hj'
  rcases Nat.lt_trichotomy j j' with hlt | heq | hgt
  · exact absurd hk (List.pairwise_iff_getElem.1 h j j' h1 h2 hlt)
  · exact heq
  · exact absurd hk.symm (List.pairwise_iff_getElem.1 h j' j h2 h1 hgt)

theorem block_drewN (w : World) (k M : Nat) : (w.drewN k).heap[M]? = w.heap[M]? := rfl

theorem grown_setBlock (w : World) (M : Nat) (o' : Obj) : w.grownBy (setBlock w M o') (some M) := by
  refine ⟨rfl, rfl, rfl, by simp [setBlock], fun i _ hi => ?_⟩
  unfold setBlock
  simp only [Array.getElem?_setIfInBounds]
  rw [if_neg (fun e => hi (by rw [e]))]

theorem look_hit (V : World) (M : Nat) (es : Array MapEntry) (clock a b j : Nat) (ha : a < 60) (hb : b < 60) (c : Int) (hV : V.heap[M]? = some (.map es clock)) (hf : (Instr.findKey 118 (pv a b) es.toList).run Try.prog V = .ok (some (j, .int .i64 c)) V) :
    (Instr.lookup 106 (.map (some M)) (pv a b) false).run Try.prog V = .ok (.int .i64 c) V := by
  simp [Instr.lookup, run_underlying Try.underlying106, MapKept.run_getObj_map hV, keyed.check V _ (key_pv a b ha hb), hf, Result.andThen]

theorem store_hit (V : World) (M : Nat) (es es2 : Array MapEntry) (clock st i : Nat) (x : Int) (hV : V.heap[M]? = some (.map es clock)) (hi : es.findIdx? (fun e => ((e.born : Nat) : Int) == ((st : Nat) : Int)) = some i) (hm : es.modify i (fun e => { e with val := Value.int .i64 x }) = es2) :
    (Instr.entryStore 106 (.map (some M)) (.int .i64 (st : Int)) (.int .i64 x)).run Try.prog V = .ok () (setBlock V M (.map es2 clock)) := by
  simp [Instr.entryStore, MapKept.run_getObj_map hV, asInt, asIntOf, hi, hm, MapKept.run_setObj_map _ hV, Result.andThen, setBlock]

theorem apart_puts {w : World} {M n : Nat} {S : Nat → Nat → Bool} (h : Apart w M n S) (hn : n < 100000) (a b : Nat) (ha : a < 60) (hb : b < 60) : ∃ c v0 st o1, Puts w M n S a b c v0 st o1 := by
  obtain ⟨D, h, r1, r2⟩ := h
  have hkey := key_pv a b ha hb
  have hup := fun (x : Int) (wx : (Lit.int .i64 x).wf = true) => h.store (ps := []) keyed Try.underlying106 (show n < maxLen by unfold maxLen; omega) hkey (plainElem_int Try.underlying2 wx)
  have hD := h.isMap
  obtain ⟨es, clock, hbl, F, hs, _⟩ := h
  have hst := F.stamped
  obtain ⟨s1, s2, s3⟩ := hst
  have hpw : es.toList.Pairwise (fun x y => x.key ≠ y.key) := ((MapKept.stamped_iff es clock).1 F.stamped).2.2
  have hblk : ∀ k, (w.drewN k).heap[M]? = some (.map es clock) := fun k => hbl
  have fin : ∀ (es2 : Array MapEntry) (clock2 : Nat) (x : Int), (Lit.int .i64 x).wf = true → (Instr.mapUpdate 106 (.map (some M)) (pv a b) (.int .i64 x)).run Try.prog w = .ok () (setBlock w M (.map es2 clock2)) →
      Apart (setBlock w M (.map es2 clock2)) M (n + 1) (fun i j => S i j || (decide (i = a) && decide (j = b))) ∧ w.grownBy (setBlock w M (.map es2 clock2)) (some M) := by
    intro es2 clock2 x wx hrun
    obtain ⟨w', hr, ho, _⟩ := hup x wx
    rw [hrun] at hr
    injection hr with _ hr
    subst hr
    exact ⟨⟨_, ho, (put_has hD r1 r2 a b ha hb _).1, (put_has hD r1 r2 a b ha hb _).2⟩, grown_setBlock w M _⟩
  by_cases hex : ∃ j : Nat, ∃ e0 : MapEntry, es.toList[j]? = some e0 ∧ e0.key = pv a b
  · obtain ⟨j, e0, hj, h3⟩ := hex
    have hfind : ∀ V : World, (Instr.findKey 118 (pv a b) es.toList).run Try.prog V = .ok (some (j, e0.val)) V := by
      intro V
      rcases keyed.find V hkey es.toList F.keys with ⟨_, h2⟩ | ⟨j', e', f1, f2, f3⟩
      · exact absurd h3 (h2 e0 (List.mem_of_getElem? hj))
      · have e1 := one_at hpw hj f2 (h3.trans f3.symm)
        subst e1
        rw [hj] at f2
        injection f2 with f2
        subst f2
        exact f1
    obtain ⟨y, hy⟩ := F.reads e0 (List.mem_of_getElem? hj)
    obtain ⟨z, hz, _⟩ := rd_val hy
    obtain ⟨c, hc, _, _⟩ := plainElem_int_inv Try.underlying2 hz
    have hja : es[j]? = some e0 := by simpa using hj
    have hsame : es.modify j (fun e => { e with key := pv a b }) = es := by
      apply Array.ext'
      rw [Array.toList_modify, ChangeMaps.modify_eq_set _ _ _ _ hj]
      have : ({ e0 with key := pv a b } : MapEntry) = e0 := by rw [← h3]
      rw [this]
      exact set_self _ _ _ hj
    have hself : ∀ V : World, V.heap[M]? = some (.map es clock) → setBlock V M (.map es clock) = V := by
      intro V hV
      have : V.heap.setIfInBounds M (.map es clock) = V.heap := by
        apply Array.ext_getElem?
        intro i
        by_cases hi : i = M
        · subst hi; exact (heap_setBlock_same hV _).trans hV.symm
        · exact heap_setBlock_other hV _ hi
      unfold setBlock; rw [this]
    have hlook : ∀ V : World, V.heap[M]? = some (.map es clock) → (Instr.lookup 106 (.map (some M)) (pv a b) false).run Try.prog V = .ok (.int .i64 c) V := by
      intro V hV
      simp [Instr.lookup, run_underlying Try.underlying106, MapKept.run_getObj_map hV, keyed.check V _ hkey, hfind V, hc, Result.andThen]
    refine ⟨c, e0.val, e0.born, .map es clock, ⟨fun k => hlook _ (hblk k), fun k => ?_, fun k => ?_, fun x wx => ⟨.map (es.modify j (fun e => { e with val := .int .i64 x })) clock, fun k => ?_, ?_⟩⟩⟩
    · simp [Instr.mapEntry, run_underlying Try.underlying106, MapKept.run_getObj_map (hblk k), keyed.check _ false hkey, hfind, hja, h3, keyed.stays _ hkey, hsame, MapKept.run_setObj_map _ (hblk k), Result.andThen, setBlock, goInt]
    · rw [hself _ (hblk k)]; exact hlook _ (hblk k)
    · have hidx : es.findIdx? (fun e => ((e.born : Nat) : Int) == ((e0.born : Nat) : Int)) = some j := by
        rw [findIdx_arr]
        exact findIdx_born s2 hj
      rw [hself _ (hblk k)]
      simp [Instr.entryStore, MapKept.run_getObj_map (hblk k), asInt, asIntOf, hidx, MapKept.run_setObj_map _ (hblk k), Result.andThen, setBlock]
    · refine fin _ _ x wx ?_
      have hmod : es.modify j (fun e => { e with val := Value.int .i64 x }) = es.modify j (fun e' => { e' with key := pv a b, val := Value.int .i64 x }) := by
        apply Array.ext'
        rw [Array.toList_modify, Array.toList_modify, ChangeMaps.modify_eq_set _ _ _ _ hj, ChangeMaps.modify_eq_set _ _ _ _ hj, ← h3]
      rw [hmod]
      simp [Instr.mapUpdate, run_underlying Try.underlying106, MapKept.run_getObj_map hbl, keyed.check w false hkey, hfind w, hja, h3, keyed.stays w hkey, MapKept.run_setObj_map _ hbl, Result.andThen, setBlock]
  · have hno : ∀ e ∈ es.toList, e.key ≠ pv a b := fun e he hk => by
      obtain ⟨j, hj⟩ := List.getElem?_of_mem he
      exact hex ⟨j, e, hj, hk⟩
    have hfind : ∀ V : World, (Instr.findKey 118 (pv a b) es.toList).run Try.prog V = .ok none V := by
      intro V
      rcases keyed.find V hkey es.toList F.keys with ⟨f1, _⟩ | ⟨j', e', _, f2, f3⟩
      · exact f1
      · exact absurd f3 (hno e' (List.mem_of_getElem? f2))
    have hfind1 : ∀ V : World, ∃ j, (Instr.findKey 118 (pv a b) (es.push ⟨pv a b, .int .i64 0, clock⟩).toList).run Try.prog V = .ok (some (j, .int .i64 0)) V := by
      intro V
      have hks : ∀ e ∈ (es.push ⟨pv a b, .int .i64 0, clock⟩).toList, ∃ l, keyOf Try.prog 118 e.key = some l := by
        intro e he
        simp only [Array.toList_push, List.mem_append, List.mem_singleton] at he
        rcases he with he | rfl
        · exact F.keys e he
        · exact ⟨_, hkey⟩
      rcases keyed.find V hkey _ hks with ⟨_, h2⟩ | ⟨j', e', f1, f2, f3⟩
      · exact absurd rfl (h2 ⟨pv a b, .int .i64 0, clock⟩ (by simp))
      · have hm := List.mem_of_getElem? f2
        simp only [Array.toList_push, List.mem_append, List.mem_singleton] at hm
        rcases hm with hm | rfl
        · exact absurd f3 (hno e' hm)
        · exact ⟨j', f1⟩
    have hb1 : ∀ k, (setBlock (w.drewN k) M (.map (es.push ⟨pv a b, .int .i64 0, clock⟩) (clock + 1))).heap[M]? = some (.map (es.push ⟨pv a b, .int .i64 0, clock⟩) (clock + 1)) := fun k => heap_setBlock_same (hblk k) _
    refine ⟨0, .int .i64 0, clock, .map (es.push ⟨pv a b, .int .i64 0, clock⟩) (clock + 1), ⟨fun k => ?_, fun k => ?_, fun k => ?_, fun x wx => ⟨.map (es.push ⟨pv a b, .int .i64 x, clock⟩) (clock + 1), fun k => ?_, ?_⟩⟩⟩
    · simp [Instr.lookup, run_underlying Try.underlying106, MapKept.run_getObj_map (hblk k), keyed.check _ _ hkey, hfind, Result.andThen]
    · simp [Instr.mapEntry, run_underlying Try.underlying106, MapKept.run_getObj_map (hblk k), keyed.check _ false hkey, hfind, MapKept.run_setObj_map _ (hblk k), Result.andThen, setBlock, goInt]
    · obtain ⟨j, hj⟩ := hfind1 (setBlock (w.drewN k) M (.map (es.push ⟨pv a b, .int .i64 0, clock⟩) (clock + 1)))
      exact look_hit _ M _ _ a b j ha hb 0 (hb1 k) hj
    · have hidx : (es.push ⟨pv a b, .int .i64 0, clock⟩).findIdx? (fun e => ((e.born : Nat) : Int) == ((clock : Nat) : Int)) = some es.size := by
        rw [findIdx_arr]
        exact findIdx_born (l := (es.push ⟨pv a b, .int .i64 0, clock⟩).toList) (j := es.size) (e0 := ⟨pv a b, .int .i64 0, clock⟩) (by
          simp only [Array.toList_push, List.map_append, List.map_cons, List.map_nil]
          refine List.nodup_append.2 ⟨s2, by simp, fun x hx y hy e1 => ?_⟩
          simp only [List.mem_singleton] at hy
          obtain ⟨z, hz, rfl⟩ := List.mem_map.1 hx
          have := s1 z hz
          omega) (by simp)
      have hmod : (es.push ⟨pv a b, .int .i64 0, clock⟩).modify es.size (fun e => { e with val := Value.int .i64 x }) = es.push ⟨pv a b, .int .i64 x, clock⟩ := by
        apply Array.ext'
        rw [Array.toList_modify, Array.toList_push, Array.toList_push, ← Array.length_toList, modify_last]
      rw [store_hit _ M _ _ _ clock es.size x (hb1 k) hidx hmod, setBlock_twice]
    · refine fin _ _ x wx ?_
      simp [Instr.mapUpdate, run_underlying Try.underlying106, MapKept.run_getObj_map hbl, keyed.check w false hkey, hfind w, MapKept.run_setObj_map _ hbl, Result.andThen, setBlock]

end Db
end Go.Proofs.Ytdcjjopeobnpgaa

namespace Go.Proofs.Ytdcjjopeobnpgaa
open Go.RowKit
set_option maxRecDepth 100000
namespace Db
open Kn (K okK)
open Bit (bit withB)
open Lc (at' RdK WordsOk laceB setB)
open Sg (isB bel belows)

/-- of one hand, and neither sees the other -/
def dblN (L : List K) (i j : Nat) : Bool := decide ((at' L i).hand = (at' L j).hand) && (!bit (bel L i) j && !bit (bel L j) i)
/-- the document's Doubled -/
def doubledB (L : List K) (a b : Int) : Bool := isB L a && (isB L b && dblN L a.toNat b.toNat)
/-- all that are doubled with one -/
def dblS (L : List K) (i : Nat) : Nat → Int
  | 0 => 0
  | n + 1 => if dblN L i n then withB (dblS L i n) n else dblS L i n
/-- the document's DoublesOf -/
def doublesI (L : List K) (a : Int) : Int := if isB L a then dblS L a.toNat L.length else -1

theorem dblS_bd (L : List K) (i n : Nat) (hn : n ≤ 60) : 0 ≤ dblS L i n ∧ dblS L i n < 1152921504606846976 := by
  induction n with
  | zero => exact ⟨Int.le_refl 0, show (0 : Int) < 1152921504606846976 by decide⟩
  | succ n ih =>
    have ih := ih (by omega)
    unfold dblS
    split
    · exact Bit.withB_bd _ ih.1 ih.2 n (by omega)
    · exact ih

theorem bit_dblS (L : List K) (i n : Nat) (hn : n ≤ 60) (j : Nat) : bit (dblS L i n) j = (decide (j < n) && dblN L i j) := by
  induction n with
  | zero => unfold dblS; rw [Lc.bit_zero]; simp
  | succ n ih =>
    have ih := ih (by omega)
    have hb := dblS_bd L i n (by omega)
    unfold dblS
    cases hd : dblN L i n
    · rw [if_neg (by simp), ih]
      by_cases e : j = n
      · subst e; simp [hd]
      · rw [show decide (j < n + 1) = decide (j < n) from by rw [Bool.eq_iff_iff]; simp; omega]
    · rw [if_pos rfl, Bit.bit_withB _ hb.1, ih]
      by_cases e : j = n
      · subst e; simp [hd]
      · rw [show decide (j < n + 1) = decide (j < n) from by rw [Bool.eq_iff_iff]; simp; omega]; simp [e]

theorem bel_hi {L : List K} (hl : laceB L = true) {i j : Nat} (hi : i < L.length) (hj : i < j) : bit (bel L i) j = false := by
  rw [Bool.eq_false_iff]
  intro h
  have := Sg.reach_le hl hi ((Sg.bel_reach hl i hi j).1 h)
  omega
theorem bel_self {L : List K} (hl : laceB L = true) {i : Nat} (hi : i < L.length) : bit (bel L i) i = true := (Sg.bel_reach hl i hi i).2 (.self _)

theorem dbl_n {L : List K} (hl : laceB L = true) {i j : Nat} (hi : i < L.length) (hj : j < L.length) : dblB L (belows L L.length) i j = dblN L i j := by
  unfold dblB dblN pairB
  rw [Sg.belows_get L L.length i hi, Sg.belows_get L L.length j hj]
  by_cases h1 : j < i
  · rw [if_pos h1, bel_hi hl hj h1]; simp
  · by_cases h2 : i < j
    · rw [if_neg h1, if_pos h2, bel_hi hl hi h2]
      rw [show decide ((at' L j).hand = (at' L i).hand) = decide ((at' L i).hand = (at' L j).hand) from by rw [Bool.eq_iff_iff]; simp [eq_comm]]
      simp
    · obtain rfl : i = j := by omega
      rw [if_neg h1, if_neg h2, bel_self hl hi]; simp

theorem dbl_bit {L : List K} (hl : laceB L = true) {D : Nat → Int} (h : Dbl L (belows L L.length) L.length 0 D) {i : Nat} (hi : i < L.length) (j : Nat) : bit (D i) j = (decide (j < L.length) && dblN L i j) := by
  rw [(h i hi).2 j]
  by_cases hj : j < L.length
  · rw [dbl_n hl hi hj]
    have : doneB L.length 0 i j = true := by unfold doneB; simp [hi, hj]
    rw [this]; simp [hj]
  · have : doneB L.length 0 i j = false := by unfold doneB; simp [hj]
    rw [this]; simp [hj]

theorem dbl_eq {L : List K} (hl : laceB L = true) {D : Nat → Int} (h : Dbl L (belows L L.length) L.length 0 D) {i : Nat} (hi : i < L.length) : D i = dblS L i L.length := by
  have h60 := ((Lc.lace_iff L).1 hl).1
  exact Lc.eq_of_bits _ _ (h i hi).1.1 (dblS_bd L i _ h60).1 fun j => by rw [dbl_bit hl h hi j, bit_dblS L i _ h60]

/-- the model's table of the doubled ones, with what it stands on -/
theorem table (g off cap : Nat) (L : List K) (w : World) (hl : laceB L = true) (hr : RdK w (some ⟨g, off, none⟩) L) :
    Calls Try.prog 77 #[.slice (some ⟨g, off, none⟩) L.length cap] w fun e w' => ∃ bo bc, e = .returned (.slice bo L.length bc) ∧ Below w.heap.size w w' ∧
      Calls Try.prog 89 #[.slice (some ⟨g, off, none⟩) L.length cap, .slice bo L.length bc] w' fun e2 w2 => ∃ D, e2 = .returned (.slice (some ⟨w'.heap.size, 0, none⟩) L.length L.length) ∧ RowI w2 w'.heap.size L.length D ∧ Dbl L (belows L L.length) L.length 0 D ∧ Below w'.heap.size w' w2 := by
  have h60 := ((Lc.lace_iff L).1 hl).1
  refine (Sg.l4All (some ⟨g, off, none⟩) cap L w h60 (Sg.frm_lace hl) hr).mono ?_
  rintro e w1 ⟨bo, bc, rfl, hown, hb1⟩
  have hbl := Sg.belows_len L L.length
  refine ⟨bo, bc, by rw [hbl], hb1, ?_⟩
  have h5 := l5All (some ⟨g, off, none⟩) cap L bo bc (belows L L.length) w1 h60 hbl (Sg.belows_in L L.length h60) (hr.below hb1) (Lst.own_rd hown) (fun g' e => by subst e; exact (World.ownsRow.lt hown g' rfl).2)
  rw [hbl] at h5
  exact h5

set_option maxHeartbeats 1600000 in
theorem specDoublesOf (g off cap : Nat) (L : List K) (a : Int) (w : World) (hcap : L.length ≤ cap) (hw : WordsOk L) (hr : RdK w (some ⟨g, off, none⟩) L) :
    Calls Try.prog 44 #[.slice (some ⟨g, off, none⟩) L.length cap, .int .i64 a] w fun e w' => e = .returned (.int .i64 (doublesI L a)) ∧ Below w.heap.size w w' := by
  go_enter Try.func44, Try.ntmps44
  go_wp2_with fail
  refine (Sg.l4Is g off cap L a _ hcap hw hr).mono ?_
  rintro e w1 ⟨rfl, hb1⟩
  have hr1 := hr.below hb1
  cases his : isB L a
  · have HT : Hid (doublesI L a = -1) := by show _ = _; unfold doublesI; rw [his]; rfl
    clear his
    go_wp2
    go_ret
    exact ⟨by rw [HT.out]; rfl, hb1⟩
  · have HT : Hid (doublesI L a = dblS L a.toNat L.length) := by show _ = _; unfold doublesI; rw [his]; rfl
    obtain ⟨h0, h1, hlc⟩ := Sg.isB_parts his
    clear his
    obtain ⟨p, rfl⟩ := Int.eq_ofNat_of_zero_le h0
    have hp : p < L.length := by omega
    rw [Int.toNat_natCast] at HT
    have HLC : Hid (laceB L = true) := hlc
    clear hlc
    go_wp2_with fail
    refine (table g off cap L _ HLC.out hr1).mono ?_
    rintro e w2 ⟨bo, bc, rfl, hb2, h5⟩
    have hB2 := hb1.trans (hb2.mono hb1.size)
    clear hb1 hb2 hr1 hr
    go_wp2_with fail
    refine h5.mono ?_
    rintro e w3 ⟨D, rfl, hrow, hD, hb3⟩
    have hB3 := hB2.trans (hb3.mono hB2.size)
    have cp := hrow.rd p hp
    rw [dbl_eq HLC.out hD hp] at cp
    clear hb3 hB2 hrow hD h5
    go_wp2
    go_ret
    exact ⟨by rw [HT.out]; rfl, hB3⟩

set_option maxHeartbeats 1600000 in
theorem specDoubled (g off cap : Nat) (L : List K) (a b : Int) (w : World) (hcap : L.length ≤ cap) (hw : WordsOk L) (hr : RdK w (some ⟨g, off, none⟩) L) :
    Calls Try.prog 43 #[.slice (some ⟨g, off, none⟩) L.length cap, .int .i64 a, .int .i64 b] w fun e w' => e = .returned (.bool (doubledB L a b)) ∧ Below w.heap.size w w' := by
  go_enter Try.func43, Try.ntmps43
  go_wp2_with fail
  refine (Sg.l4Is g off cap L a _ hcap hw hr).mono ?_
  rintro e w1 ⟨rfl, hb1⟩
  have hr1 := hr.below hb1
  cases his : isB L a
  · have HT : Hid (doubledB L a b = false) := by show _ = _; unfold doubledB; rw [his]; rfl
    clear his
    go_wp2
    go_ret
    exact ⟨by rw [HT.out]; rfl, hb1⟩
  · have HT1 : Hid (doubledB L a b = (isB L b && dblN L a.toNat b.toNat)) := by show _ = _; unfold doubledB; rw [his]; rfl
    obtain ⟨h0, h1, hlc⟩ := Sg.isB_parts his
    clear his
    go_wp2_with fail
    refine (Sg.l4Is g off cap L b _ hcap hw hr1).mono ?_
    rintro e w2 ⟨rfl, hb2⟩
    have hr2 := hr1.below hb2
    have hB2 := hb1.trans (hb2.mono hb1.size)
    clear hb1 hb2 hr1
    cases hib : isB L b
    · have HT : Hid (doubledB L a b = false) := by show _ = _; rw [HT1.out, hib]; rfl
      clear hib HT1
      go_wp2
      go_ret
      exact ⟨by rw [HT.out]; rfl, hB2⟩
    · have HT : Hid (doubledB L a b = dblN L a.toNat b.toNat) := by show _ = _; rw [HT1.out, hib]; rfl
      obtain ⟨q0, q1, _⟩ := Sg.isB_parts hib
      have h60 := ((Lc.lace_iff L).1 hlc).1
      have HLC : Hid (laceB L = true) := hlc
      clear hib hlc HT1
      obtain ⟨p, rfl⟩ := Int.eq_ofNat_of_zero_le h0
      obtain ⟨q, rfl⟩ := Int.eq_ofNat_of_zero_le q0
      have hp : p < L.length := by omega
      have hq : q < L.length := by omega
      rw [Int.toNat_natCast, Int.toNat_natCast] at HT
      go_wp2_with fail
      refine (table g off cap L _ HLC.out hr2).mono ?_
      rintro e w3 ⟨bo, bc, rfl, hb3, h5⟩
      have hB3 := hB2.trans (hb3.mono hB2.size)
      clear hB2 hb3 hr2 hr
      go_wp2_with fail
      refine h5.mono ?_
      rintro e w4 ⟨D, rfl, hrow, hD, hb4⟩
      have hB4 := hB3.trans (hb4.mono hB3.size)
      have cp := hrow.rd p hp
      have HC := has_call (D p) q (dblN L p q) (hD p hp).1.1 (hD p hp).1.2 (by omega) (by rw [dbl_bit HLC.out hD hp q]; simp [hq])
      clear hb4 hB3 hrow hD h5
      go_wp2_with (go_at_call 79; refine (HC _).mono ?_; rintro e w' ⟨rfl, rfl⟩)
      go_ret
      exact ⟨by rw [HT.out]; rfl, hB4⟩

end Db
end Go.Proofs.Ytdcjjopeobnpgaa

namespace Go.Proofs.Ytdcjjopeobnpgaa
open Go.RowKit
set_option maxRecDepth 100000
namespace Sg
open Kn (K okK)
open Bit (bit withB)
open Lc (at')

/-- what has been reached when all numbers from m on are done -/
structure Inv (L : List K) (s : Int) (m : Nat) (r : Int) : Prop where
  lo : 0 ≤ r
  hi : r < 1152921504606846976
  start : ∀ j, bit s j = true → bit r j = true
  sound : ∀ j, bit r j = true → bit s j = true ∨ ∃ i, i < L.length ∧ bit s i = true ∧ Reach L i j
  done : ∀ i, m ≤ i → i < L.length → bit r i = true → ∀ j, bit (at' L i).frm j = true → bit r j = true

theorem inv_start (L : List K) (s : Int) (h0 : 0 ≤ s) (h1 : s < 1152921504606846976) : Inv L s L.length s :=
  ⟨h0, h1, fun _ h => h, fun _ h => .inl h, fun i h1 h2 => by omega⟩

theorem inv_skip {L : List K} {s r : Int} {m : Nat} (h : Inv L s (m + 1) r) (hb : bit r m = false) : Inv L s m r :=
  ⟨h.lo, h.hi, h.start, h.sound, fun i hi hl hr j hj => by
    by_cases e : i = m
    · subst e; rw [hb] at hr; exact Bool.noConfusion hr
    · exact h.done i (by omega) hl hr j hj⟩

theorem inv_take {L : List K} (hl : Lc.laceB L = true) {s r : Int} {m : Nat} (hm : m < L.length) (h : Inv L s (m + 1) r) (hb : bit r m = true) : Inv L s m (orB r (at' L m).frm) := by
  have hf := frm_lace hl _ (Lc.at_mem L m hm)
  have hbd := orB_bd r (at' L m).frm h.lo h.hi hf.1 hf.2
  refine ⟨hbd.1, hbd.2, ?_, ?_, ?_⟩
  · intro j hj; rw [bit_orB _ _ h.lo hf.1, h.start j hj]; rfl
  · intro j hj
    rw [bit_orB _ _ h.lo hf.1, Bool.or_eq_true] at hj
    rcases hj with hj | hj
    · exact h.sound j hj
    · rcases h.sound m hb with hs | ⟨i, hi, hs, hr⟩
      · exact .inr ⟨m, hm, hs, .step hj (.self _)⟩
      · exact .inr ⟨i, hi, hs, hr.trans (.step hj (.self _))⟩
  · intro i hi hil hr j hj
    rw [bit_orB _ _ h.lo hf.1, Bool.or_eq_true] at hr ⊢
    by_cases e : i = m
    · subst e; exact .inr hj
    · rcases hr with hr | hr
      · exact .inl (h.done i (by omega) hil hr j hj)
      · have := thread_lt hl hm hr; omega

/-- all that hangs below one of the set has been reached -/
theorem inv_reach {L : List K} (hl : Lc.laceB L = true) {s r : Int} (h : Inv L s 0 r) {i j : Nat} (hi : i < L.length) (hb : bit r i = true) (hr : Reach L i j) : bit r j = true := by
  induction hr with
  | self => exact hb
  | step hm _ ih => exact ih (Nat.lt_trans (thread_lt hl hi hm) hi) (h.done _ (Nat.zero_le _) hi hb _ hm)

/-- those met so far are kept -/
structure Met (L : List K) (m : Nat) (r f : Int) : Prop where
  lo : 0 ≤ f
  hi : f < 1152921504606846976
  has : ∀ j, bit f j = true ↔ m ≤ j ∧ j < L.length ∧ bit r j = true

theorem met_start (L : List K) (s : Int) : Met L L.length s 0 := ⟨by omega, by omega, fun j => by rw [Lc.bit_zero]; simp; omega⟩

theorem met_skip {L : List K} {r f : Int} {m : Nat} (h : Met L (m + 1) r f) (hb : bit r m = false) : Met L m r f :=
  ⟨h.lo, h.hi, fun j => by
    rw [h.has j]
    constructor
    · rintro ⟨a, b, c⟩; exact ⟨by omega, b, c⟩
    · rintro ⟨a, b, c⟩
      refine ⟨?_, b, c⟩
      apply Classical.byContradiction
      intro hn
      obtain rfl : j = m := by omega
      rw [hb] at c; exact Bool.noConfusion c⟩

theorem met_take {L : List K} (hl : Lc.laceB L = true) {s r f : Int} {m : Nat} (hm : m < L.length) (hi : Inv L s (m + 1) r) (h : Met L (m + 1) r f) (hb : bit r m = true) : Met L m (orB r (at' L m).frm) (withB f m) := by
  have h60 := ((Lc.lace_iff L).1 hl).1
  have hf := frm_lace hl _ (Lc.at_mem L m hm)
  have hbd := Bit.withB_bd f h.lo h.hi m (by omega)
  refine ⟨hbd.1, hbd.2, fun j => ?_⟩
  rw [Bit.bit_withB f h.lo, bit_orB _ _ hi.lo hf.1]
  simp only [Bool.or_eq_true, decide_eq_true_eq]
  rw [h.has j]
  constructor
  · rintro (rfl | ⟨a, b, c⟩)
    · exact ⟨Nat.le_refl _, hm, .inl hb⟩
    · exact ⟨by omega, b, .inl c⟩
  · rintro ⟨a, b, c | c⟩
    · by_cases e : j = m
      · exact .inl e
      · exact .inr ⟨by omega, b, c⟩
    · have := thread_lt hl hm c; omega

/-- a set of one -/
def oneI (k : Int) : Int := if 0 ≤ k ∧ k < 60 then 2 ^ k.toNat else 0

theorem oneI_bd (k : Int) : 0 ≤ oneI k ∧ oneI k < 1152921504606846976 := by
  unfold oneI
  split
  · rename_i h; have := Base.pow_bd k.toNat (by omega); exact ⟨by omega, this.2⟩
  · omega

theorem bit_oneI (k : Int) (j : Nat) : bit (oneI k) j = true ↔ k = (j : Int) ∧ j < 60 := by
  unfold oneI
  split
  · rename_i h; rw [bit_pow]; simp; omega
  · rw [Lc.bit_zero]; simp; omega

/-- what the walk from one has met at its end -/
def metI (L : List K) (k : Int) : Int := if 0 ≤ k ∧ k < (L.length : Int) then bel L k.toNat else 0

theorem met_end {L : List K} (hl : Lc.laceB L = true) {k r f : Int} (hi : Inv L (oneI k) 0 r) (h : Met L 0 r f) : f = metI L k := by
  have h60 := ((Lc.lace_iff L).1 hl).1
  unfold metI
  split
  · rename_i hk
    obtain ⟨p, rfl⟩ := Int.eq_ofNat_of_zero_le hk.1
    rw [Int.toNat_natCast]
    have hp : p < L.length := by omega
    have hbd := bel_bd L p (by omega)
    refine Lc.eq_of_bits _ _ h.lo hbd.1 fun j => ?_
    rw [Bool.eq_iff_iff, h.has j, bel_reach hl p hp j]
    constructor
    · rintro ⟨_, _, c⟩
      rcases hi.sound j c with hs | ⟨i, _, hs, hr⟩
      · have := ((bit_oneI _ _).1 hs).1
        obtain rfl : p = j := by omega
        exact .self _
      · have := ((bit_oneI _ _).1 hs).1
        obtain rfl : p = i := by omega
        exact hr
    · intro hr
      have := reach_le hl hp hr
      refine ⟨Nat.zero_le _, by omega, ?_⟩
      exact inv_reach hl hi hp (hi.start p ((bit_oneI _ _).2 ⟨rfl, by omega⟩)) hr
  · rename_i hk
    refine Lc.eq_of_bits _ _ h.lo (Int.le_refl _) fun j => ?_
    rw [Lc.bit_zero, Bool.eq_false_iff]
    intro hj
    obtain ⟨_, hjl, c⟩ := (h.has j).1 hj
    rcases hi.sound j c with hs | ⟨i, hil, hs, _⟩
    · have := ((bit_oneI _ _).1 hs).1; omega
    · have := ((bit_oneI _ _).1 hs).1; omega

/-! ### closed -/
/-- all that is met is in the set, so far -/
def Kept (L : List K) (s : Int) (m : Nat) (r : Int) : Prop := ∀ j, m ≤ j → j < L.length → bit r j = true → bit s j = true

theorem kept_start (L : List K) (s r : Int) : Kept L s L.length r := fun j h1 h2 => by omega

theorem kept_skip {L : List K} {s r : Int} {m : Nat} (h : Kept L s (m + 1) r) (hb : bit r m = false) : Kept L s m r := fun j h1 h2 h3 => by
  by_cases e : j = m
  · subst e; rw [hb] at h3; exact Bool.noConfusion h3
  · exact h j (by omega) h2 h3

theorem kept_take {L : List K} (hl : Lc.laceB L = true) {s r : Int} {m : Nat} (hm : m < L.length) (hi : Inv L s (m + 1) r) (h : Kept L s (m + 1) r) (hs : bit s m = true) : Kept L s m (orB r (at' L m).frm) := fun j h1 h2 h3 => by
  have hf := frm_lace hl _ (Lc.at_mem L m hm)
  by_cases e : j = m
  · subst e; exact hs
  · rw [bit_orB _ _ hi.lo hf.1, Bool.or_eq_true] at h3
    rcases h3 with h3 | h3
    · exact h j (by omega) h2 h3
    · have := thread_lt hl hm h3; omega

theorem reach_in {L : List K} (hl : Lc.laceB L = true) {s : Int} (h : ∀ i, i < L.length → bit s i = true → ∀ m, bit (at' L i).frm m = true → bit s m = true) {i j : Nat} (hi : i < L.length) (hb : bit s i = true) (hr : Reach L i j) : bit s j = true := by
  induction hr with
  | self => exact hb
  | step hm _ ih => exact ih (Nat.lt_trans (thread_lt hl hi hm) hi) (h _ hi hb _ hm)

theorem closed_end {L : List K} (hl : Lc.laceB L = true) {s r : Int} (h0 : 0 ≤ s) (h1 : s < 1152921504606846976) (hi : Inv L s 0 r) (h : Kept L s 0 r) : closedTo (belows L L.length) s L.length = true := by
  rw [closed_threads hl s h0 h1]
  intro i hil hb m hm
  have := thread_lt hl hil hm
  exact h m (Nat.zero_le _) (by omega) (hi.done i (Nat.zero_le _) hil (hi.start i hb) m hm)

theorem closed_not {L : List K} (hl : Lc.laceB L = true) {s r : Int} (h0 : 0 ≤ s) (h1 : s < 1152921504606846976) {m j : Nat} (hi : Inv L s m r) (hr : bit r j = true) (hs : bit s j = false) : closedTo (belows L L.length) s L.length = false := by
  rw [Bool.eq_false_iff]
  intro hc
  rw [closed_threads hl s h0 h1] at hc
  rcases hi.sound j hr with h | ⟨i, hil, hb, hre⟩
  · rw [hs] at h; exact Bool.noConfusion h
  · have := reach_in hl hc hil hb hre
    rw [hs] at this; exact Bool.noConfusion this

/-! ### tips -/
theorem bit_andNot (a s : Int) (h0 : 0 ≤ a) (h1 : a < 1152921504606846976) (h2 : 0 ≤ s) (h3 : s < 1152921504606846976) (i : Nat) : bit (bits .andNot .i64 a s) i = (bit a i && !bit s i) := by
  obtain ⟨A, rfl⟩ := Int.eq_ofNat_of_zero_le h0
  obtain ⟨S, rfl⟩ := Int.eq_ofNat_of_zero_le h2
  have hA : (BitVec.ofInt 64 (A : Int)).toNat = A := ofInt_u64 A (by omega)
  have hS : (BitVec.ofInt 64 (S : Int)).toNat = S := ofInt_u64 S (by omega)
  have hx : (BitVec.ofInt 64 (A : Int) &&& ~~~ BitVec.ofInt 64 (S : Int)).toNat ≤ A := by
    rw [BitVec.toNat_and, hA]; exact Nat.and_le_left
  have e : bits .andNot .i64 (A : Int) (S : Int) = ((BitVec.ofInt 64 (A : Int) &&& ~~~ BitVec.ofInt 64 (S : Int)).toNat : Int) := by
    show IntKind.i64.wrap ((BitVec.ofInt 64 (A : Int) &&& ~~~ BitVec.ofInt 64 (S : Int)).toNat : Int) = _
    rw [IntKind.wrap_i64]; omega
  have hn : (0 : Int) ≤ ((BitVec.ofInt 64 (A : Int) &&& ~~~ BitVec.ofInt 64 (S : Int)).toNat : Int) := by omega
  rw [e, Bit.bit_testBit _ hn, Int.toNat_natCast, Bit.bit_testBit _ h0, Bit.bit_testBit _ h2, Int.toNat_natCast, Int.toNat_natCast]
  by_cases h64 : i < 64
  · show (BitVec.ofInt 64 (A : Int) &&& ~~~ BitVec.ofInt 64 (S : Int)).getLsbD i = _
    rw [BitVec.getLsbD_and, BitVec.getLsbD_not, BitVec.getLsbD, hA, BitVec.getLsbD, hS]
    simp [h64]
  · have ha : A.testBit i = false := Nat.testBit_lt_two_pow (Nat.lt_of_lt_of_le (show A < 2 ^ 64 by omega) (Nat.pow_le_pow_right (by decide) (by omega)))
    have hb : (BitVec.ofInt 64 (A : Int) &&& ~~~ BitVec.ofInt 64 (S : Int)).toNat.testBit i = false := Nat.testBit_lt_two_pow (Nat.lt_of_lt_of_le (show _ < 2 ^ 64 by omega) (Nat.pow_le_pow_right (by decide) (by omega)))
    rw [ha, hb]; rfl

theorem andNot_bd' (a s : Int) (h0 : 0 ≤ a) (h1 : a < 1152921504606846976) : 0 ≤ bits .andNot .i64 a s ∧ bits .andNot .i64 a s < 1152921504606846976 := by
  obtain ⟨A, rfl⟩ := Int.eq_ofNat_of_zero_le h0
  have hA : (BitVec.ofInt 64 (A : Int)).toNat = A := ofInt_u64 A (by omega)
  have hx : (BitVec.ofInt 64 (A : Int) &&& ~~~ BitVec.ofInt 64 s).toNat ≤ A := by
    rw [BitVec.toNat_and, hA]; exact Nat.and_le_left
  have e : bits .andNot .i64 (A : Int) s = ((BitVec.ofInt 64 (A : Int) &&& ~~~ BitVec.ofInt 64 s).toNat : Int) := by
    show IntKind.i64.wrap ((BitVec.ofInt 64 (A : Int) &&& ~~~ BitVec.ofInt 64 s).toNat : Int) = _
    rw [IntKind.wrap_i64]; omega
  rw [e]; omega

theorem tipsTo_bd (l : List Int) (s : Int) (n : Nat) (h0 : 0 ≤ s) (h1 : s < 1152921504606846976) : 0 ≤ tipsTo l s n ∧ tipsTo l s n < 1152921504606846976 := by
  induction n with
  | zero => exact ⟨h0, h1⟩
  | succ n ih =>
    unfold tipsTo
    split
    · exact andNot_bd' _ _ ih.1 ih.2
    · exact ih

theorem bit_tips (L : List K) (s : Int) (n N : Nat) (hn : n ≤ N) (hN : N ≤ 60) (h0 : 0 ≤ s) (h1 : s < 1152921504606846976) (j : Nat) : bit (tipsTo (belows L N) s n) j = true ↔ bit s j = true ∧ ∀ i, i < n → bit s i = true → j ≠ i → bit (bel L i) j = false := by
  induction n with
  | zero => unfold tipsTo; simp
  | succ n ih =>
    have ih := ih (by omega)
    have hbd := tipsTo_bd (belows L N) s n h0 h1
    have hb := bel_bd L n (by omega)
    have hp := Base.pow_bd n (by omega)
    have hg := belows_get L N n (by omega)
    unfold tipsTo
    cases hs : bit s n
    · simp only [Bool.false_eq_true, if_false]
      rw [ih]
      constructor
      · rintro ⟨a, b⟩
        refine ⟨a, fun i hi hb' hj => ?_⟩
        by_cases e : i = n
        · subst e; rw [hs] at hb'; exact Bool.noConfusion hb'
        · exact b i (by omega) hb' hj
      · rintro ⟨a, b⟩; exact ⟨a, fun i hi hb' hj => b i (by omega) hb' hj⟩
    · simp only [if_true]
      have hq := andNot_bd' (bel L n) (2 ^ n) hb.1 hb.2
      rw [hg, bit_andNot _ _ hbd.1 hbd.2 hq.1 hq.2, bit_andNot _ _ hb.1 hb.2 (by omega) hp.2, bit_pow, Bool.and_eq_true, ih]
      constructor
      · rintro ⟨⟨a, b⟩, c⟩
        refine ⟨a, fun i hi hb' hj => ?_⟩
        by_cases e : i = n
        · subst e
          rw [decide_eq_false hj] at c
          simpa using c
        · exact b i (by omega) hb' hj
      · rintro ⟨a, b⟩
        refine ⟨⟨a, fun i hi hb' hj => b i (by omega) hb' hj⟩, ?_⟩
        by_cases e : j = n
        · rw [decide_eq_true e]; simp
        · rw [b n (by omega) hs e]; rfl

/-- those of the set that no thread of a met one leads to -/
structure Unseen (L : List K) (s : Int) (m : Nat) (r u : Int) : Prop where
  lo : 0 ≤ u
  hi : u < 1152921504606846976
  has : ∀ j, bit u j = true ↔ bit s j = true ∧ ∀ i, m ≤ i → i < L.length → bit r i = true → bit (at' L i).frm j = false

theorem unseen_start (L : List K) (s r : Int) (h0 : 0 ≤ s) (h1 : s < 1152921504606846976) : Unseen L s L.length r s := ⟨h0, h1, fun j => ⟨fun h => ⟨h, fun i h1 h2 => by omega⟩, fun h => h.1⟩⟩

theorem unseen_skip {L : List K} {s r u : Int} {m : Nat} (h : Unseen L s (m + 1) r u) (hb : bit r m = false) : Unseen L s m r u :=
  ⟨h.lo, h.hi, fun j => by
    rw [h.has j]
    constructor
    · rintro ⟨a, b⟩
      refine ⟨a, fun i h1 h2 h3 => ?_⟩
      by_cases e : i = m
      · subst e; rw [hb] at h3; exact Bool.noConfusion h3
      · exact b i (by omega) h2 h3
    · rintro ⟨a, b⟩; exact ⟨a, fun i h1 h2 h3 => b i (by omega) h2 h3⟩⟩

theorem unseen_take {L : List K} (hl : Lc.laceB L = true) {s r u : Int} {m : Nat} (hm : m < L.length) (hi : Inv L s (m + 1) r) (h : Unseen L s (m + 1) r u) (hb : bit r m = true) : Unseen L s m (orB r (at' L m).frm) (bits .andNot .i64 u (at' L m).frm) := by
  have hf := frm_lace hl _ (Lc.at_mem L m hm)
  have hbd := andNot_bd' u (at' L m).frm h.lo h.hi
  refine ⟨hbd.1, hbd.2, fun j => ?_⟩
  rw [bit_andNot _ _ h.lo h.hi hf.1 hf.2, Bool.and_eq_true, h.has j]
  constructor
  · rintro ⟨⟨a, b⟩, c⟩
    refine ⟨a, fun i h1 h2 h3 => ?_⟩
    rw [bit_orB _ _ hi.lo hf.1, Bool.or_eq_true] at h3
    by_cases e : i = m
    · subst e; simpa using c
    · rcases h3 with h3 | h3
      · exact b i (by omega) h2 h3
      · have := thread_lt hl hm h3; omega
  · rintro ⟨a, b⟩
    refine ⟨⟨a, fun i h1 h2 h3 => b i (by omega) h2 (by rw [bit_orB _ _ hi.lo hf.1, h3]; rfl)⟩, ?_⟩
    rw [b m (Nat.le_refl _) hm (by rw [bit_orB _ _ hi.lo hf.1, hb]; rfl)]; rfl

theorem reach_last {L : List K} {i j : Nat} (h : Reach L i j) : j = i ∨ ∃ p, Reach L i p ∧ bit (at' L p).frm j = true := by
  induction h with
  | self => exact .inl rfl
  | @step i m j hb hr ih =>
    rcases ih with rfl | ⟨p, hp, hq⟩
    · exact .inr ⟨i, .self _, hb⟩
    · exact .inr ⟨p, .step hb hp, hq⟩

theorem tips_end {L : List K} (hl : Lc.laceB L = true) {s r u : Int} (h0 : 0 ≤ s) (h1 : s < 1152921504606846976) (hc : closedTo (belows L L.length) s L.length = true) (hi : Inv L s 0 r) (h : Unseen L s 0 r u) : u = tipsTo (belows L L.length) s L.length := by
  have h60 := ((Lc.lace_iff L).1 hl).1
  have hbd := tipsTo_bd (belows L L.length) s L.length h0 h1
  rw [closed_threads hl s h0 h1] at hc
  refine Lc.eq_of_bits _ _ h.lo hbd.1 fun j => ?_
  rw [Bool.eq_iff_iff, h.has j, bit_tips L s L.length L.length (Nat.le_refl _) h60 h0 h1 j]
  constructor
  · rintro ⟨a, b⟩
    refine ⟨a, fun i hil hs hj => ?_⟩
    rw [Bool.eq_false_iff]
    intro hbe
    rcases reach_last ((bel_reach hl i hil j).1 hbe) with e | ⟨p, hp, hq⟩
    · exact hj e
    · have hpl := reach_le hl hil hp
      have := b p (Nat.zero_le _) (by omega) (hi.start p (reach_in hl hc hil hs hp))
      rw [this] at hq; exact Bool.noConfusion hq
  · rintro ⟨a, b⟩
    refine ⟨a, fun i _ hil hr => ?_⟩
    rw [Bool.eq_false_iff]
    intro hbf
    have hs : bit s i = true := by
      rcases hi.sound i hr with h | ⟨i', hil', hs', hre⟩
      · exact h
      · exact reach_in hl hc hil' hs' hre
    have hlt := thread_lt hl hil hbf
    have := b i hil hs (by omega)
    rw [(bel_reach hl i hil j).2 (.step hbf (.self _))] at this
    exact Bool.noConfusion this

/-! ### what the walk meets, in its order -/
def visF (L : List K) : (m : Nat) → m ≤ L.length → Int → List (Fin L.length)
  | 0, _, _ => []
  | m + 1, h, r => if bit r m then ⟨m, h⟩ :: visF L m (Nat.le_of_succ_le h) (orB r (at' L m).frm) else visF L m (Nat.le_of_succ_le h) r

def vis (L : List K) (s : Int) : List (Fin L.length) := visF L L.length (Nat.le_refl _) s

theorem visF_yes (L : List K) (m : Nat) (h : m + 1 ≤ L.length) (r : Int) (hb : bit r m = true) : visF L (m + 1) h r = ⟨m, h⟩ :: visF L m (Nat.le_of_succ_le h) (orB r (at' L m).frm) := by
  show (if bit r m then _ else _) = _
  rw [hb]; rfl
theorem visF_no (L : List K) (m : Nat) (h : m + 1 ≤ L.length) (r : Int) (hb : bit r m = false) : visF L (m + 1) h r = visF L m (Nat.le_of_succ_le h) r := by
  show (if bit r m then _ else _) = _
  rw [hb]; rfl

theorem visF_len (L : List K) (m : Nat) (h : m ≤ L.length) (r : Int) : (visF L m h r).length ≤ m := by
  induction m generalizing r with
  | zero => exact Nat.le_refl _
  | succ m ih =>
    cases hb : bit r m
    · rw [visF_no L m h r hb]; have := ih (Nat.le_of_succ_le h) r; omega
    · rw [visF_yes L m h r hb]; have := ih (Nat.le_of_succ_le h) (orB r (at' L m).frm); simp; omega

theorem vis_len (L : List K) (s : Int) : (vis L s).length ≤ L.length := visF_len L _ _ s

/-- those gathered -/
def gath {n : Nat} (f : Int) (xs : List (Fin n)) : Int := xs.foldl (fun f x => withB f x.val) f
theorem gath_snoc {n : Nat} (f : Int) (xs : List (Fin n)) (x : Fin n) : gath f (xs ++ [x]) = withB (gath f xs) x.val := by simp [gath]

theorem gath_bd {n : Nat} (hn : n ≤ 60) (xs : List (Fin n)) : 0 ≤ gath 0 xs ∧ gath 0 xs < 1152921504606846976 := by
  have : ∀ (xs : List (Fin n)) (f : Int), 0 ≤ f → f < 1152921504606846976 → 0 ≤ gath f xs ∧ gath f xs < 1152921504606846976 := by
    intro xs
    induction xs with
    | nil => intro f h0 h1; exact ⟨h0, h1⟩
    | cons x xs ih =>
      intro f h0 h1
      have hx := x.isLt
      have hb := Bit.withB_bd f h0 h1 x.val (by omega)
      exact ih _ hb.1 hb.2
  exact this xs 0 (by omega) (by omega)

theorem gath_vis {L : List K} (hl : Lc.laceB L = true) (k : Int) : gath 0 (vis L (oneI k)) = metI L k := by
  have h60 := ((Lc.lace_iff L).1 hl).1
  have : ∀ (m : Nat) (h : m ≤ L.length) (r f : Int), Inv L (oneI k) m r → Met L m r f → gath f (visF L m h r) = metI L k := by
    intro m
    induction m with
    | zero => intro h r f hi hm; exact met_end hl hi hm
    | succ m ih =>
      intro h r f hi hm
      cases hb : bit r m
      · rw [visF_no L m h r hb]; exact ih _ r f (inv_skip hi hb) (met_skip hm hb)
      · rw [visF_yes L m h r hb]; exact ih _ _ _ (inv_take hl h hi hb) (met_take hl h hi hm hb)
  exact this L.length (Nat.le_refl _) (oneI k) 0 (inv_start L _ (oneI_bd k).1 (oneI_bd k).2) (met_start L _)

theorem vis_closed {L : List K} (hl : Lc.laceB L = true) (s : Int) (h0 : 0 ≤ s) (h1 : s < 1152921504606846976) : (∀ x ∈ vis L s, bit s x.val = true) ↔ closedTo (belows L L.length) s L.length = true := by
  have : ∀ (m : Nat) (h : m ≤ L.length) (r : Int), Inv L s m r → Kept L s m r → ((∀ x ∈ visF L m h r, bit s x.val = true) ↔ closedTo (belows L L.length) s L.length = true) := by
    intro m
    induction m with
    | zero => intro h r hi hk; exact ⟨fun _ => closed_end hl h0 h1 hi hk, fun _ x hx => by cases hx⟩
    | succ m ih =>
      intro h r hi hk
      cases hb : bit r m
      · rw [visF_no L m h r hb]; exact ih _ r (inv_skip hi hb) (kept_skip hk hb)
      · rw [visF_yes L m h r hb]
        cases hs : bit s m
        · constructor
          · intro hx
            have := hx ⟨m, h⟩ (List.mem_cons_self ..)
            rw [hs] at this; exact Bool.noConfusion this
          · intro hc
            rw [closed_not hl h0 h1 hi hb hs] at hc; exact Bool.noConfusion hc
        · have := ih (Nat.le_of_succ_le h) _ (inv_take hl h hi hb) (kept_take hl h hi hk hs)
          rw [← this]
          constructor
          · intro hx x hm; exact hx x (List.mem_cons_of_mem _ hm)
          · intro hx x hm
            rcases List.mem_cons.1 hm with rfl | hm
            · exact hs
            · exact hx x hm
  exact this L.length (Nat.le_refl _) s (inv_start L _ h0 h1) (kept_start L s s)

/-- what is left of a set when the threads of those are struck -/
def strike (L : List K) (u : Int) (xs : List (Fin L.length)) : Int := xs.foldl (fun u x => bits .andNot .i64 u (at' L x.val).frm) u
theorem strike_snoc (L : List K) (u : Int) (xs : List (Fin L.length)) (x : Fin L.length) : strike L u (xs ++ [x]) = bits .andNot .i64 (strike L u xs) (at' L x.val).frm := by simp [strike]

theorem strike_vis {L : List K} (hl : Lc.laceB L = true) (s : Int) (h0 : 0 ≤ s) (h1 : s < 1152921504606846976) (hc : closedTo (belows L L.length) s L.length = true) : strike L s (vis L s) = tipsTo (belows L L.length) s L.length := by
  have : ∀ (m : Nat) (h : m ≤ L.length) (r u : Int), Inv L s m r → Unseen L s m r u → strike L u (visF L m h r) = tipsTo (belows L L.length) s L.length := by
    intro m
    induction m with
    | zero => intro h r u hi hu; exact tips_end hl h0 h1 hc hi hu
    | succ m ih =>
      intro h r u hi hu
      cases hb : bit r m
      · rw [visF_no L m h r hb]; exact ih _ r u (inv_skip hi hb) (unseen_skip hu hb)
      · rw [visF_yes L m h r hb]; exact ih _ _ _ (inv_take hl h hi hb) (unseen_take hl h hi hu hb)
  exact this L.length (Nat.le_refl _) s s (inv_start L _ h0 h1) (unseen_start L s s h0 h1)

end Sg
end Go.Proofs.Ytdcjjopeobnpgaa

namespace Go.Proofs.Ytdcjjopeobnpgaa
open Go.RowKit
set_option maxRecDepth 100000
namespace Db
open Kn (K okK)
open Bit (bit withB memTo)
open Lc (at' laceB)
open Sg (bel vis oneI gath metI)

/-- pairs whose greater one is among the first i -/
def doneP (L : List K) (l : List Int) (i a b : Nat) : Bool := decide ((b : Int) ∈ l.take i) && (decide ((a : Int) ∈ l) && (decide (a < b) && !bit (bel L b) a))
/-- .. and those of y with one of the first t -/
def midP (L : List K) (l : List Int) (i y t a b : Nat) : Bool := doneP L l i a b || (decide (a ∈ (l.take t).map Int.toNat) && decide (b = y))
/-- .. without those that have been struck -/
def delP (L : List K) (l : List Int) (i y : Nat) (pre : List (Fin L.length)) (a b : Nat) : Bool := midP L l i y i a b && !(decide (a ∈ pre.map Fin.val) && decide (b = y))

/-- a list of numbers that rise, from 0 up -/
structure Rise (l : List Int) : Prop where
  nn : ∀ x ∈ l, 0 ≤ x
  up : l.Pairwise (· < ·)

theorem rise_memTo (s : Int) (k : Nat) : Rise (memTo s k) := by
  refine ⟨fun x hx => ?_, ?_⟩
  · obtain ⟨j, _, rfl, _⟩ := (Bit.mem_memTo s k x).1 hx; omega
  · induction k with
    | zero => exact List.Pairwise.nil
    | succ k ih =>
      rw [Bit.memTo_succ]
      refine List.pairwise_append.2 ⟨ih, ?_, ?_⟩
      · split
        · exact List.pairwise_singleton _ _
        · exact List.Pairwise.nil
      · intro x hx y hy
        obtain ⟨j, hj, rfl, _⟩ := (Bit.mem_memTo s k x).1 hx
        split at hy
        · simp at hy; omega
        · cases hy

theorem take_lt {l : List Int} (h : Rise l) (i : Nat) (hi : i < l.length) (x : Int) : x ∈ l.take i ↔ x ∈ l ∧ x < l.getD i 0 := by
  have hg : l.getD i 0 = l[i] := by simp [hi]
  rw [hg]
  constructor
  · intro hx
    refine ⟨List.mem_of_mem_take hx, ?_⟩
    obtain ⟨j, hj, rfl⟩ := List.mem_iff_getElem.1 hx
    rw [List.getElem_take]
    have hji : j < i := by have := hj; simp at this; omega
    exact List.pairwise_iff_getElem.1 h.up j i (by omega) hi hji
  · rintro ⟨hx, hlt⟩
    obtain ⟨j, hj, rfl⟩ := List.mem_iff_getElem.1 hx
    have hji : j < i := by
      apply Classical.byContradiction
      intro hn
      by_cases e : j = i
      · subst e; omega
      · have := List.pairwise_iff_getElem.1 h.up i j hi hj (by omega); omega
    exact List.mem_iff_getElem.2 ⟨j, by simp; omega, by rw [List.getElem_take]⟩

theorem mem_toNat {l : List Int} (h : Rise l) (a : Nat) (t : Nat) : a ∈ (l.take t).map Int.toNat ↔ (a : Int) ∈ l.take t := by
  simp only [List.mem_map]
  constructor
  · rintro ⟨x, hx, e⟩
    have := h.nn x (List.mem_of_mem_take hx)
    have e' : x = (a : Int) := by omega
    exact e' ▸ hx
  · intro hx; exact ⟨_, hx, by simp⟩

theorem take_next (l : List Int) (i : Nat) (hi : i < l.length) : l.take (i + 1) = l.take i ++ [l.getD i 0] := by
  rw [List.take_succ_eq_append_getElem hi]; simp [hi]

theorem mid_zero (L : List K) (l : List Int) (i y a b : Nat) : midP L l i y 0 a b = doneP L l i a b := by unfold midP; simp

theorem mid_step (L : List K) (l : List Int) (i y t : Nat) (ht : t < l.length) (a b : Nat) : midP L l i y (t + 1) a b = (midP L l i y t a b || (decide (a = (l.getD t 0).toNat) && decide (b = y))) := by
  unfold midP
  rw [take_next l t ht, List.map_append, Bool.eq_iff_iff]
  simp only [Bool.or_eq_true, Bool.and_eq_true, decide_eq_true_eq, List.mem_append, List.map_cons, List.map_nil, List.mem_singleton]
  constructor
  · rintro (h | ⟨h | h, e⟩)
    · exact .inl (.inl h)
    · exact .inl (.inr ⟨h, e⟩)
    · exact .inr ⟨h, e⟩
  · rintro ((h | ⟨h, e⟩) | ⟨h, e⟩)
    · exact .inl h
    · exact .inr ⟨.inl h, e⟩
    · exact .inr ⟨.inr h, e⟩

theorem del_nil (L : List K) (l : List Int) (i y a b : Nat) : delP L l i y [] a b = midP L l i y i a b := by unfold delP; simp

theorem del_step (L : List K) (l : List Int) (i y : Nat) (pre : List (Fin L.length)) (x : Fin L.length) (a b : Nat) : delP L l i y (pre ++ [x]) a b = (delP L l i y pre a b && !(decide (a = x.val) && decide (b = y))) := by
  unfold delP
  rw [List.map_append, Bool.eq_iff_iff]
  simp only [Bool.and_eq_true, Bool.not_eq_true', Bool.and_eq_false_iff, decide_eq_false_iff_not, List.mem_append, List.map_cons, List.map_nil, List.mem_singleton]
  constructor
  · rintro ⟨h, h2 | h2⟩
    · exact ⟨⟨h, .inl fun e => h2 (.inl e)⟩, .inl fun e => h2 (.inr e)⟩
    · exact ⟨⟨h, .inr h2⟩, .inr h2⟩
  · rintro ⟨⟨h, h2⟩, h3⟩
    refine ⟨h, ?_⟩
    rcases h2 with h2 | h2
    · rcases h3 with h3 | h3
      · exact .inl (fun e => e.elim h2 h3)
      · exact .inr h3
    · exact .inr h2

theorem bit_gath {n : Nat} (xs : List (Fin n)) (j : Nat) : bit (gath 0 xs) j = decide (j ∈ xs.map Fin.val) := by
  have : ∀ (xs : List (Fin n)) (f : Int), 0 ≤ f → (bit (gath f xs) j = (bit f j || decide (j ∈ xs.map Fin.val))) := by
    intro xs
    induction xs with
    | nil => intro f _; simp [gath]
    | cons x xs ih =>
      intro f hf
      have hw : 0 ≤ withB f x.val := by unfold withB; omega
      have := ih (withB f x.val) hw
      show bit (gath (withB f x.val) xs) j = _
      rw [this, Bit.bit_withB f hf, Bool.eq_iff_iff]
      simp only [Bool.or_eq_true, decide_eq_true_eq, List.map_cons, List.mem_cons]
      constructor
      · rintro ((h | h) | h)
        · exact .inr (.inl h)
        · exact .inl h
        · exact .inr (.inr h)
      · rintro (h | h | h)
        · exact .inl (.inr h)
        · exact .inl (.inl h)
        · exact .inr h
  rw [this xs 0 (Int.le_refl 0), Lc.bit_zero]; simp

theorem mem_vis {L : List K} (hl : laceB L = true) (y : Nat) (hy : y < L.length) (j : Nat) : j ∈ (vis L (oneI (y : Int))).map Fin.val ↔ bit (bel L y) j = true := by
  have h := Sg.gath_vis hl (y : Int)
  have e : metI L (y : Int) = bel L y := by unfold Sg.metI; rw [if_pos ⟨by omega, by omega⟩, Int.toNat_natCast]
  rw [e] at h
  rw [← h, bit_gath]; simp

theorem del_end {L : List K} (hl : laceB L = true) {l : List Int} (hr : Rise l) (i y : Nat) (hi : i < l.length) (hy : l.getD i 0 = (y : Int)) (hyl : y < L.length) (a b : Nat) : delP L l i y (vis L (oneI (y : Int))) a b = doneP L l (i + 1) a b := by
  unfold delP midP doneP
  rw [take_next l i hi, hy, Bool.eq_iff_iff]
  simp only [Bool.and_eq_true, Bool.or_eq_true, Bool.not_eq_true', Bool.and_eq_false_iff, decide_eq_false_iff_not, decide_eq_true_eq, List.mem_append, List.mem_singleton, mem_toNat hr, mem_vis hl y hyl, take_lt hr i hi, hy]
  by_cases e : b = y
  · subst e
    constructor
    · rintro ⟨(⟨⟨_, h⟩, _⟩ | ⟨⟨h1, h2⟩, _⟩), h3⟩
      · omega
      · refine ⟨.inr rfl, h1, by omega, ?_⟩
        rcases h3 with h3 | h3
        · simpa using h3
        · exact absurd rfl h3
    · rintro ⟨_, h1, h2, h3⟩
      exact ⟨.inr ⟨⟨h1, by omega⟩, rfl⟩, .inl (by simp [h3])⟩
  · constructor
    · rintro ⟨(⟨h, h2⟩ | ⟨_, h⟩), _⟩
      · exact ⟨.inl h, h2⟩
      · exact absurd h e
    · rintro ⟨(h | h), h2⟩
      · exact ⟨.inl ⟨h, h2⟩, .inr e⟩
      · omega

/-- two of the set that are apart -/
def apartB (L : List K) (l : List Int) (a b : Nat) : Bool := doneP L l l.length a b
theorem apart_iff (L : List K) (l : List Int) (a b : Nat) : apartB L l a b = true ↔ (b : Int) ∈ l ∧ (a : Int) ∈ l ∧ a < b ∧ bit (bel L b) a = false := by
  unfold apartB doneP
  rw [List.take_length]; simp

end Db
end Go.Proofs.Ytdcjjopeobnpgaa

namespace Go.Proofs.Ytdcjjopeobnpgaa
open Go.RowKit
set_option maxRecDepth 100000
namespace Lc
open Kn (K okK)
open Bit (bit withB)

theorem pow60 (n : Nat) (hn : n ≤ 60) : (1 : Int) ≤ 2 ^ n ∧ (2 : Int) ^ n ≤ 1152921504606846976 := by
  have hp : 1 ≤ 2 ^ n := Nat.one_le_two_pow
  have hq : 2 ^ n ≤ 2 ^ 60 := Nat.pow_le_pow_right (by decide) hn
  have hpc : ((2 ^ n : Nat) : Int) = (2 : Int) ^ n := by simp
  omega

theorem wrap60 (n : Nat) (hn : n ≤ 60) : IntKind.i64.wrap (2 ^ n) = 2 ^ n := by
  have := pow60 n hn
  rw [IntKind.wrap_i64]; omega

/-- within the lace -/
def inL (n : Nat) (s : Int) : Bool := decide (0 ≤ s) && decide (s / 2 ^ n = 0)

set_option maxHeartbeats 400000 in
theorem all (a : Option Addr) (cap n : Nat) (w : World) (hn : n ≤ 60) : Calls Try.prog 112 #[.slice a n cap] w fun e w' => e = .returned (.int .i64 (2 ^ n - 1)) ∧ w = w' := by
  have h1 := wrap60 n hn
  have h2 := pow60 n hn
  go_enter Try.func112, Try.ntmps112
  go_wp2
  go_ret
  exact ⟨rfl, rfl⟩

set_option maxHeartbeats 400000 in
theorem holds (a : Option Addr) (cap n : Nat) (s : Int) (w : World) (hn : n ≤ 60) (h0 : -9223372036854775808 ≤ s) (h1 : s ≤ 9223372036854775807) : Calls Try.prog 93 #[.slice a n cap, .int .i64 s] w fun e w' => e = .returned (.bool (inL n s)) ∧ w = w' := by
  have HA : Hid ((bits .andNot .i64 s (2 ^ n - 1) == 0) = inL n s) := andNot_zero s n hn h0 h1
  go_enter Try.func93, Try.ntmps93
  go_wp2_with fail
  refine (all _ _ _ _ hn).mono ?_
  rintro e w1 ⟨rfl, rfl⟩
  go_wp2
  go_ret
  exact ⟨by rw [← HA.out]; rfl, rfl⟩

theorem setB_eq (L : List K) (s : Int) : setB L s = (laceB L && inL L.length s) := rfl

set_option maxHeartbeats 1600000 in
theorem implHandsOf (g off cap : Nat) (L : List K) (s : Int) (w : World) (hlen : L.length ≤ 1099511627776) (hw : WordsOk L) (h0 : -9223372036854775808 ≤ s) (h1 : s ≤ 9223372036854775807) (hr : RdK w (some ⟨g, off, none⟩) L) :
    Calls Try.prog 18 #[.slice (some ⟨g, off, none⟩) L.length cap, .int .i64 s] w fun e w' => e = .returned (.int .i64 (handsOfI L s)) ∧ Below w.heap.size w w' := by
  have HLF : Hid (∀ W : World, RdK W (some ⟨g, off, none⟩) L → Calls Try.prog 53 #[.slice (some ⟨g, off, none⟩) L.length cap] W (LacePost L W)) := fun W h => laceOf g off cap L W hlen hw h
  go_enter Try.func18, Try.ntmps18
  go_wp2_with (first | (go_at_call 61; go_in) | fail)
  refine (HLF.out _ hr).mono ?_
  rintro e w1 (⟨hl, g', rfl, hg', hrg, hb1⟩ | ⟨hl, rfl, hb1⟩)
  · have h60 := ((lace_iff L).1 hl).1
    have hh := lace_hands hl
    have HS : Hid (setB L s = inL L.length s) := by show _ = _; rw [setB_eq, hl]; rfl
    clear hl HLF
    go_wp2_with fail
    refine (holds _ _ _ s _ h60 h0 h1).mono ?_
    rintro e w1' ⟨rfl, rfl⟩
    cases hin : inL L.length s
    · have HT : Hid (handsOfI L s = -1) := by show _ = _; unfold handsOfI; rw [HS.out, hin]; rfl
      clear hin HS
      go_wp2
      go_ret
      exact ⟨by rw [HT.out]; rfl, hb1⟩
    · have HT : Hid (handsOfI L s = handsN L s) := by show _ = _; unfold handsOfI; rw [HS.out, hin]; rfl
      obtain ⟨_, q0, q1, qd, _, _⟩ := setB_parts (HS.out.trans hin)
      clear hin HS
      go_wp2_with fail
      refine (hands g' 0 L.length L s _ h60 q0 q1 qd hh hrg).mono ?_
      rintro e w2 ⟨rfl, hb2⟩
      have B2 := hb1.trans (hb2.mono hb1.size)
      clear hb1 hb2 hrg hg' qd
      go_wp2
      go_ret
      exact ⟨by rw [HT.out]; rfl, B2⟩
  · have HT : Hid (handsOfI L s = -1) := by show _ = _; unfold handsOfI; rw [setB_eq, hl]; rfl
    clear hl HLF
    go_wp2
    go_ret
    exact ⟨by rw [HT.out]; rfl, hb1⟩

set_option maxHeartbeats 1600000 in
theorem implAtRound (g off cap : Nat) (L : List K) (s r : Int) (w : World) (hlen : L.length ≤ 1099511627776) (hw : WordsOk L) (h0 : -9223372036854775808 ≤ s) (h1 : s ≤ 9223372036854775807) (hr : RdK w (some ⟨g, off, none⟩) L) :
    Calls Try.prog 19 #[.slice (some ⟨g, off, none⟩) L.length cap, .int .i64 s, .int .i64 r] w fun e w' => e = .returned (.int .i64 (atRoundI L s r)) ∧ Below w.heap.size w w' := by
  have HLF : Hid (∀ W : World, RdK W (some ⟨g, off, none⟩) L → Calls Try.prog 53 #[.slice (some ⟨g, off, none⟩) L.length cap] W (LacePost L W)) := fun W h => laceOf g off cap L W hlen hw h
  have P0 : Hid (Below w.heap.size w (w.alloc (.cells #[.int .i64 r] 2)) ∧ (w.alloc (.cells #[.int .i64 r] 2)).cell? ⟨w.heap.size, 0, none⟩ = some (.int .i64 r) ∧ w.heap.size < (w.alloc (.cells #[.int .i64 r] 2)).heap.size) := ⟨(Below.refl _ _).alloc (Nat.le_refl _) _, by simp, by simp⟩
  go_enter Try.func19, Try.ntmps19
  go_wp2_with (first | (go_at_call 61; go_in) | fail)
  generalize w.alloc (.cells #[.int .i64 r] 2) = w0 at P0 ⊢
  obtain ⟨B0, C0, S0⟩ := P0
  have hr0 := hr.below B0
  generalize hb : w.heap.size = b at *
  refine (HLF.out _ hr0).mono ?_
  rintro e w1 (⟨hl, g', rfl, hg', hrg, hb1⟩ | ⟨hl, rfl, hb1⟩)
  · have h60 := ((lace_iff L).1 hl).1
    have hh := lace_hands hl
    have HS : Hid (setB L s = inL L.length s) := by show _ = _; rw [setB_eq, hl]; rfl
    have c0 := (hb1.cell (p := ⟨b, 0, none⟩) S0).trans C0
    have B1 := B0.trans (hb1.mono (Nat.le_of_lt S0))
    have S1 : b < w1.heap.size := Nat.lt_of_lt_of_le S0 hb1.size
    clear hl HLF hb1 B0 S0 C0 hr0
    go_wp2_with fail
    refine (holds _ _ _ s _ h60 h0 h1).mono ?_
    rintro e w1' ⟨rfl, rfl⟩
    cases hin : inL L.length s
    · have HT : Hid (atRoundI L s r = -1) := by show _ = _; unfold atRoundI; rw [HS.out, hin]; rfl
      clear hin HS
      go_wp2
      go_ret
      exact ⟨by rw [HT.out]; rfl, by first | exact B1 | (rw [hb]; exact B1)⟩
    · have HT : Hid (atRoundI L s r = roundS L s r) := by show _ = _; unfold atRoundI; rw [HS.out, hin]; rfl
      obtain ⟨_, q0, q1, qd, _, _⟩ := setB_parts (HS.out.trans hin)
      clear hin HS
      go_wp2_with (first | (go_at_call 63; go_in) | fail)
      refine (atRound g' 0 L.length L s r _ h60 ((Base.okB_iff s).2 ⟨q0, q1⟩) hrg).mono ?_
      rintro e w2 ⟨rfl, hb2⟩
      have B2 := B1.trans (hb2.mono (Nat.le_of_lt S1))
      clear B1 hb2 hrg hg' qd
      go_wp2
      go_ret
      exact ⟨by rw [HT.out]; rfl, by first | exact B2 | (rw [hb]; exact B2)⟩
  · have HT : Hid (atRoundI L s r = -1) := by show _ = _; unfold atRoundI; rw [setB_eq, hl]; rfl
    have B1 := B0.trans (hb1.mono (Nat.le_of_lt S0))
    clear hl HLF hb1 B0 S0 C0 hr0
    go_wp2
    go_ret
    exact ⟨by rw [HT.out]; rfl, by first | exact B1 | (rw [hb]; exact B1)⟩

end Lc
end Go.Proofs.Ytdcjjopeobnpgaa

namespace Go.Proofs.Ytdcjjopeobnpgaa
open Go.RowKit
set_option maxRecDepth 100000
attribute [local go_sem] Oper.semAt_some
namespace Sg
open Kn (K okK)
open Bit (bit withB)
open Lc (at' RdK CellsK)

/-- what a round keeps: whatever lay below n₀, and the walk's own box for the lace -/
def KpL (n₀ Bl : Nat) (W W' : World) : Prop := Below n₀ W W' ∧ W'.heap[Bl]? = W.heap[Bl]?
theorem kpL_t {n₀ Bl : Nat} {A B C : World} (h : KpL n₀ Bl A B) (k : KpL n₀ Bl B C) : KpL n₀ Bl A C := ⟨h.1.trans k.1, k.2.trans h.2⟩
theorem kpL_b {n₀ Bl : Nat} {w : World} (hn : n₀ ≤ w.heap.size) (hB : Bl < w.heap.size) (W : World) (l : Nat) (o o' : Obj) (hl : w.heap.size ≤ l) (h : W.heap[l]? = some o) (h1 : o.isCells = false) (h2 : o.isWalk = false) : KpL n₀ Bl W (W.putObj l o') :=
  ⟨belowK_b hn W l o o' hl h h1 h2, World.putObj_heap_other (by omega)⟩
theorem kpL_refl (n₀ Bl : Nat) (W : World) : KpL n₀ Bl W W := ⟨Below.refl _ _, rfl⟩
theorem kpL_put {n₀ Bl : Nat} (W : World) (b : Nat) (hb : n₀ ≤ b) (hB : Bl ≠ b) (u : Value) : KpL n₀ Bl W (W.setCell ⟨b, 0, none⟩ u) :=
  ⟨(Below.refl n₀ W).setCell (p := ⟨b, 0, none⟩) hb u, Below.heap_setCell W ⟨b, 0, none⟩ u Bl hB⟩

theorem cellsK_at {n₀ : Nat} {w w' : World} {g o : Nat} {k : K} (h : CellsK w g o k) (hb : Below n₀ w w') (hg : g < n₀) : CellsK w' g o k where
  c0 := (hb.cell (p := ⟨g, o, none⟩) hg).trans h.c0
  c1 := (hb.cell (p := ⟨g, o + 1, none⟩) hg).trans h.c1
  c2 := (hb.cell (p := ⟨g, o + 2, none⟩) hg).trans h.c2
  c3 := (hb.cell (p := ⟨g, o + 3, none⟩) hg).trans h.c3

theorem cell_block {w w' : World} {b : Nat} (h : w'.heap[b]? = w.heap[b]?) : w'.cell? ⟨b, 0, none⟩ = w.cell? ⟨b, 0, none⟩ := World.cell?_of_block (w := w) h

set_option maxHeartbeats 2000000 in
theorem under1 (n : Nat) (hn : 1 ≤ n) (l Bs Bl n₀ g off cap : Nat) (L : List K) (hlc : Lc.laceB L = true) (s : Int) (h0 : 0 ≤ s) (h1 : s < 1152921504606846976) (hg : g < n₀) (J Jx : List (Fin L.length) → World → Prop)
    (hY : ∀ pre x W, J pre W → pre.length < L.length → YieldAt Fence.wide (n - 1) Try.prog l #[.int .i64 (x.val : Int)] W fun e W' =>
      (e = .returned (.bool true) ∧ J (pre ++ [x]) W' ∧ KpL n₀ Bl W W') ∨ (e = .returned (.bool false) ∧ Jx (pre ++ [x]) W'))
    (W : World) (hBs : W.cell? ⟨Bs, 0, none⟩ = some (.int .i64 s)) (hBl : W.cell? ⟨Bl, 0, none⟩ = some (.slice (some ⟨g, off, none⟩) L.length cap)) (hr : RdK W (some ⟨g, off, none⟩) L) (hJ0 : J [] W) :
    CallsIn Fence.wide n Try.prog 128 #[.func (.yield l) #[] #[], .pointer (some ⟨Bs, 0, none⟩), .pointer (some ⟨Bl, 0, none⟩)] W fun e W' => (∃ v, e = .returned v) ∧
      ((∃ ys, ys = vis L s ∧ J ys W') ∨ (∃ pre, pre <+: vis L s ∧ Jx pre W')) := by
  have h60 := ((Lc.lace_iff L).1 hlc).1
  refine callsIn_of_wp Try.func128 rfl trivial ?_ rfl
  simp only [Try.ntmps128, List.size_toArray, List.length_cons, List.length_nil, Nat.reduceAdd, Nat.reduceSub, Array.replicate_succ, Array.replicate_zero, List.push_toArray, List.append_toArray, List.nil_append, List.cons_append]
  gi_wp2
  gi_loopw [4, 5] (fun r i wr => ∃ (m : Nat) (hm : m ≤ L.length) (ri x : Int) (pre : List (Fin L.length)), i = .int .i64 x ∧ x = (m : Int) - 1 ∧ r = .int .i64 ri ∧ Hid (pre ++ visF L m hm ri = vis L s) ∧ Hid (Inv L s m ri) ∧ Hid (J pre wr) ∧ Hid (KpL n₀ Bl W wr))
    (fun _ i _ => (intOf i + 1).toNat)
  case atStart => exact ⟨L.length, Nat.le_refl _, s, _, [], rfl, by first | omega | go_num, rfl, rfl, inv_start L s h0 h1, hJ0, kpL_refl _ _ _⟩
  case round =>
    obtain ⟨m, hm, ri, x, pre, rfl, hx, rfl, HV, HI, HJ, HK⟩ := hrel
    cases m with
    | zero =>
      obtain rfl : x = -1 := by omega
      clear hx
      gi_wp2
      go_end0
      exact ⟨⟨_, rfl⟩, .inl ⟨pre, by have := HV.out; rw [← this]; exact (List.append_nil _).symm, HJ.out⟩⟩
    | succ m =>
      obtain rfl : x = (m : Int) := by omega
      clear hx
      have hml : m < L.length := hm
      have hin : Base.inB (m : Int) = true := (Base.inB_iff _).2 ⟨by omega, by omega⟩
      have hok : Base.okB ri = true := (Base.okB_iff _).2 ⟨HI.out.lo, HI.out.hi⟩
      cases hb : bit ri m
      · have HH : Hid ((Base.okB ri && (Base.inB (m : Int) && bit ri m)) = false) := by show _ = _; simp [hb]
        have HV2 : Hid (pre ++ visF L m (Nat.le_of_succ_le hm) ri = vis L s) := by show _ = _; rw [← visF_no L m hm ri hb]; exact HV.out
        have HI2 : Hid (Inv L s m ri) := inv_skip HI.out hb
        clear hb HV HI hin hok
        gi_wp2_with (first | (gi_at_call 72; refine (callsIn_wide.2 (Base.has _ _ _)).mono ?_; rintro e w' ⟨rfl, rfl⟩; rw [Int.toNat_natCast, HH.out]) | (refine ⟨trivial, ?_⟩; gi_at_call 72; refine (callsIn_wide.2 (Base.has _ _ _)).mono ?_; rintro e w' ⟨rfl, rfl⟩; rw [Int.toNat_natCast, HH.out]))
        go_roundw
        case rel => exact ⟨m, Nat.le_of_succ_le hm, ri, _, pre, by go_num, rfl, rfl, HV2, HI2, HJ, HK⟩
        case measure => simp [intOf]
      · have HH : Hid ((Base.okB ri && (Base.inB (m : Int) && bit ri m)) = true) := by show _ = _; simp [hb, hin, hok]
        have HV2 : Hid ((pre ++ [⟨m, hm⟩]) ++ visF L m (Nat.le_of_succ_le hm) (orB ri (at' L m).frm) = vis L s) := by
          show _ = _
          rw [List.append_assoc, List.singleton_append, ← visF_yes L m hm ri hb]; exact HV.out
        have HI2 : Hid (Inv L s m (orB ri (at' L m).frm)) := inv_take hlc hml HI.out hb
        have hfr := frm_lace hlc _ (Lc.at_mem L m hml)
        have HOr : Hid (bits .or .i64 ri (at' L m).frm = orB ri (at' L m).frm) := or_eq _ _ HI.out.lo HI.out.hi hfr.1 hfr.2
        have hlen : pre.length < L.length := by
          have h1 := congrArg List.length HV2.out
          have h2 := vis_len L s
          simp at h1; omega
        obtain ⟨fn, tmps, assign, body, hy, hR⟩ := hY pre ⟨m, hm⟩ wr HJ.out hlen
        dsimp only at hy
        have HC : Hid (∀ W3, KpL n₀ Bl wr W3 → W3.cell? ⟨Bl, 0, none⟩ = some (.slice (some ⟨g, off, none⟩) L.length cap) ∧ W3.cell? ⟨g, off + m * 4 + 2, none⟩ = some (.int .i64 (at' L m).frm)) := by
          intro W3 hk3
          have hkk := kpL_t HK.out hk3
          obtain ⟨_, hc⟩ := hr.on m hml
          exact ⟨(cell_block hkk.2).trans hBl, (cellsK_at hc hkk.1 hg).c2⟩
        clear hb HV HI hin hok hfr hlen
        gi_wp2_with (first | (gi_at_call 72; refine (callsIn_wide.2 (Base.has _ _ _)).mono ?_; rintro e w' ⟨rfl, rfl⟩; rw [Int.toNat_natCast, HH.out]) | (refine ⟨trivial, ?_⟩; gi_at_call 72; refine (callsIn_wide.2 (Base.has _ _ _)).mono ?_; rintro e w' ⟨rfl, rfl⟩; rw [Int.toNat_natCast, HH.out]))
        refine hR.mono ?_
        rintro e W3 (⟨rfl, hJ3, hk3⟩ | ⟨rfl, hJx3⟩)
        · obtain ⟨cl, cf⟩ := HC.out W3 hk3
          have HK3 : Hid (KpL n₀ Bl W W3) := kpL_t HK.out hk3
          have HJ3 : Hid (J (pre ++ [⟨m, hm⟩]) W3) := hJ3
          clear hk3 hJ3 hR hy HC HK HJ
          gi_wp2
          go_roundw
          case rel => exact ⟨m, Nat.le_of_succ_le hm, _, _, _, by go_num, rfl, by rw [HOr.out], HV2, HI2, HJ3, HK3⟩
          case measure => simp [intOf]
        · gi_wp2
          refine bodyPost_ret (results_none rfl _ _ _) rfl ?_
          exact ⟨⟨_, rfl⟩, .inr ⟨pre ++ [⟨m, hm⟩], ⟨_, HV2.out⟩, hJx3⟩⟩

end Sg
end Go.Proofs.Ytdcjjopeobnpgaa

namespace Go.Proofs.Ytdcjjopeobnpgaa
open Go.RowKit Go.Shelf
set_option maxRecDepth 100000
attribute [local go_sem] Oper.semAt_some
namespace Sg
open Kn (K okK)
open Bit (bit withB)
open Lc (at' RdK CellsK)

theorem boxNew (W : World) (v : Value) (t : TypeId) : (W.alloc (.cells #[v] t)).cell? ⟨W.heap.size, 0, none⟩ = some v ∧ (W.alloc (.cells #[v] t)).frozen? ⟨W.heap.size, 0, none⟩ = false := ⟨by simp, by simp⟩
theorem boxCell {W : World} {a : Addr} {v : Value} (o : Obj) (h : W.cell? a = some v) : (W.alloc o).cell? a = some v := cell_kept h (World.grownBy_alloc W o none) (fun r e => by cases e)
theorem boxFrozen {W : World} {a : Addr} {v : Value} (o : Obj) (h : W.cell? a = some v) (hf : W.frozen? a = false) : (W.alloc o).frozen? a = false := (frozen_kept h (World.grownBy_alloc W o none) (fun r e => by cases e)).trans hf

theorem kpL_drew {n₀ Bl : Nat} {W W' : World} (h : KpL n₀ Bl W W') : KpL n₀ Bl W W'.drew := ⟨h.1.drew, h.2⟩
theorem put_other (W : World) (b c : Nat) (hbc : b ≠ c) (u : Value) : (W.setCell ⟨c, 0, none⟩ u).cell? ⟨b, 0, none⟩ = W.cell? ⟨b, 0, none⟩ := cell_block (Below.heap_setCell W ⟨c, 0, none⟩ u b hbc)

theorem under_stops (n : Nat) (hn : 1 ≤ n) (Bs Bl n₀ g off cap : Nat) (L : List K) (hlc : Lc.laceB L = true) (s : Int) (h0 : 0 ≤ s) (h1 : s < 1152921504606846976) (hg : g < n₀) (w : World) (hs : Bs < w.heap.size) (hl : Bl < w.heap.size)
    (cs : w.cell? ⟨Bs, 0, none⟩ = some (.int .i64 s)) (cl : w.cell? ⟨Bl, 0, none⟩ = some (.slice (some ⟨g, off, none⟩) L.length cap)) (hr : RdK w (some ⟨g, off, none⟩) L) :
    SeqStopsK Fence.wide n Try.prog 128 #[.pointer (some ⟨Bs, 0, none⟩), .pointer (some ⟨Bl, 0, none⟩)] (fun x : Fin L.length => #[Value.int .i64 (x.val : Int)]) (KpL n₀ Bl) (fun ys => ys = vis L s) (fun pre => pre <+: vis L s) L.length w := fun l J Jx W hW _ _ hY hJ =>
  under1 n hn l Bs Bl n₀ g off cap L hlc s h0 h1 hg J Jx hY W ((hW.cell (p := ⟨Bs, 0, none⟩) hs).trans cs) ((hW.cell (p := ⟨Bl, 0, none⟩) hl).trans cl) (hr.below hW) hJ

set_option maxHeartbeats 400000 in
theorem under (a : Option Addr) (len cap : Nat) (s : Int) (w : World) : Calls Try.prog 113 #[.slice a len cap, .int .i64 s] w fun e w' =>
    e = .returned (.func (.func 128) #[] #[.pointer (some ⟨w.heap.size + 1, 0, none⟩), .pointer (some ⟨w.heap.size, 0, none⟩)]) ∧ w' = (w.alloc (.cells #[.slice a len cap] 51)).alloc (.cells #[.int .i64 s] 56) := by
  go_enter Try.func113, Try.ntmps113
  go_wp2
  go_ret
  exact ⟨rfl, rfl⟩

theorem with_one (k : Int) : Base.withI 0 k = oneI k := by
  unfold Base.withI oneI
  by_cases h : 0 ≤ k ∧ k < 60
  · rw [(Base.inB_iff k).2 h, (Base.okB_iff 0).2 (by omega), if_pos h]
    simp [Bit.withB]
  · have : Base.inB k = false := by
      cases hb : Base.inB k
      · rfl
      · exact absurd ((Base.inB_iff k).1 hb) h
    rw [this, if_neg h]; simp

set_option maxHeartbeats 2000000 in
theorem below (g off cap : Nat) (L : List K) (k : Int) (w : World) (hlc : Lc.laceB L = true) (hg : g < w.heap.size) (hr : RdK w (some ⟨g, off, none⟩) L) :
    Calls Try.prog 75 #[.slice (some ⟨g, off, none⟩) L.length cap, .int .i64 k] w fun e w' => e = .returned (.int .i64 (metI L k)) ∧ Below w.heap.size w w' := by
  have h60 := ((Lc.lace_iff L).1 hlc).1
  refine (callsIn_wide (n := 3)).1 ?_
  refine callsIn_of_wp_marks Try.func75 rfl trivial ?_ rfl
  simp only [Try.ntmps75, List.size_toArray, List.length_cons, List.length_nil, Nat.reduceAdd, Nat.reduceSub, Array.replicate_succ, Array.replicate_zero, List.push_toArray, List.append_toArray, List.nil_append, List.cons_append]
  gi_wp2_with (first | (refine ⟨trivial, ?_⟩; gi_at_call 102; refine (callsIn_wide.2 (Base.withM _ _ _)).mono ?_; rintro e w' ⟨rfl, rfl⟩; rw [with_one]) | (refine ⟨trivial, ?_⟩; gi_at_call 113; refine (callsIn_wide.2 (under _ _ _ _ _)).mono ?_; rintro e w' ⟨rfl, rfl⟩))
  have hB0 : Below w.heap.size w (((w.alloc (.cells #[.int .i64 0] 56)).alloc (.cells #[.slice (some ⟨g, off, none⟩) L.length cap] 51)).alloc (.cells #[.int .i64 (oneI k)] 56)) := (((Below.refl _ w).alloc (Nat.le_refl _) _).alloc (by simp) _).alloc (by simp; omega) _
  have c0 := boxNew w (.int .i64 0) 56
  have c1 := boxNew (w.alloc (.cells #[.int .i64 0] 56)) (.slice (some ⟨g, off, none⟩) L.length cap) 51
  have c2 := boxNew ((w.alloc (.cells #[.int .i64 0] 56)).alloc (.cells #[.slice (some ⟨g, off, none⟩) L.length cap] 51)) (.int .i64 (oneI k)) 56
  simp only [World.size_alloc] at c1 c2
  have hob := oneI_bd k
  refine wpIn_rangeFunc_ownF rfl (by omega) (gf := 128) (lb := #[.pointer (some ⟨w.heap.size + 1 + 1, 0, none⟩), .pointer (some ⟨w.heap.size + 1, 0, none⟩)]) rfl trivial (enters_of Try.func128 (by kernel_rfl) rfl)
    (under_stops 2 (by omega) (w.heap.size + 1 + 1) (w.heap.size + 1) w.heap.size g off cap L hlc (oneI k) hob.1 hob.2 hg _ (by simp) (by simp) c2.1 (boxCell _ c1.1) (hr.below hB0)) kpL_t (kpL_b (by simp; omega) (by simp)) (Below.refl _ _) (fun _ => rfl)
    (fun pre W => (W.cell? ⟨w.heap.size, 0, none⟩ = some (.int .i64 (gath 0 pre)) ∧ W.frozen? ⟨w.heap.size, 0, none⟩ = false) ∧ Below w.heap.size w W)
    (fun _ _ _ => False)
    (OwnFrom.and (Own.from (fun s A B row hs hg hr => ⟨cell_kept hs.1 hg hr, (frozen_kept hs.1 hg hr).trans hs.2⟩) _) (ownFrom_below (Nat.le_refl _) (by simp; omega)))
    (fun _ _ _ _ _ hs _ _ => hs)
    ⟨⟨boxCell _ (boxCell _ c0.1), boxFrozen _ (boxCell _ c0.1) (boxFrozen _ c0.1 c0.2)⟩, hB0⟩
    (fun x => { tmps := #[.slice (some ⟨g, off, none⟩) L.length cap, .int .i64 k, undef, undef, .int .i64 0, .pointer (some ⟨w.heap.size, 0, none⟩), .int .i64 (x.val : Int), .slice (some ⟨g, off, none⟩) L.length cap, .int .i64 k, .int .i64 (oneI k), .func (.func 128) #[] #[.pointer (some ⟨w.heap.size + 1 + 1, 0, none⟩), .pointer (some ⟨w.heap.size + 1, 0, none⟩)], .int .i64 (x.val : Int), undef, undef, undef, undef], defers := [] }) ?assign ?body ?done ?stop
  case assign =>
    intro l x W K hK
    gi_wp2
    exact hK
  case body =>
    rintro l pre x W ⟨⟨hc, hf⟩, hB⟩ _
    have hx := x.isLt
    have hgb := gath_bd h60 pre
    have HW : Hid (Base.withI (gath 0 pre) (x.val : Int) = gath 0 (pre ++ [x])) := by
      show _ = _
      unfold Base.withI
      rw [(Base.okB_iff _).2 hgb, (Base.inB_iff _).2 ⟨by omega, by omega⟩, gath_snoc]; simp
    clear hgb
    gi_wp2_with (refine ⟨trivial, ?_⟩; gi_at_call 102; refine (CallsIn.inRound l (callsIn_wide.2 (Base.withM _ _ _))).mono ?_; rintro e w' ⟨rfl, rfl⟩; rw [HW.out])
    exact ⟨KeepsOthers.setCell _ _ _, kpL_put W w.heap.size (Nat.le_refl _) (by omega) _, ⟨World.cell?_setCell_same' _ _ _ (by rw [hc]; rfl), by rw [World.frozen?_setCell]; exact hf⟩, hB.setCell (p := ⟨w.heap.size, 0, none⟩) (Nat.le_refl _) _⟩
  case done =>
    rintro D ys W hD rfl ⟨⟨hc, _⟩, hB⟩ hK
    rw [gath_vis hlc k] at hc
    gi_wp2
    refine ⟨by simp, .inl ⟨_, _, rfl, run_takeDeferred hK, ?_⟩⟩
    exact ⟨_, results_tmp rfl _ _ _, rfl, hB.trans (belowK_b (w := w) (Nat.le_refl _) W D _ _ (by simp at hD; omega) hK rfl rfl)⟩
  case stop =>
    rintro D c pre W _ _ h _
    exact h.elim

theorem vis_in {L : List K} {s : Int} {pre : List (Fin L.length)} (hp : pre <+: vis L s) {y : Fin L.length} (hy : y ∈ pre) : y ∈ vis L s := hp.subset hy

set_option maxHeartbeats 2000000 in
theorem closed (g off cap : Nat) (L : List K) (s : Int) (w : World) (hlc : Lc.laceB L = true) (hs0 : -9223372036854775808 ≤ s) (hs1 : s ≤ 9223372036854775807) (hg : g < w.heap.size) (hr : RdK w (some ⟨g, off, none⟩) L) :
    Calls Try.prog 84 #[.slice (some ⟨g, off, none⟩) L.length cap, .int .i64 s] w fun e w' => e = .returned (.bool (Lc.inL L.length s && closedTo (belows L L.length) s L.length)) ∧ Below w.heap.size w w' := by
  have h60 := ((Lc.lace_iff L).1 hlc).1
  have hB1 : Below w.heap.size w ((w.alloc (.cells #[.int .i64 s] 56)).alloc (.cells #[.bool false] 4)) := ((Below.refl _ w).alloc (Nat.le_refl _) _).alloc (by simp) _
  have a0 := boxNew w (.int .i64 s) 56
  have a1 := boxNew (w.alloc (.cells #[.int .i64 s] 56)) (.bool false) 4
  simp only [World.size_alloc] at a1
  cases hin : Lc.inL L.length s
  · have HT : Hid ((false && closedTo (belows L L.length) s L.length) = false) := rfl
    have HB1 : Hid (Below w.heap.size w ((w.alloc (.cells #[.int .i64 s] 56)).alloc (.cells #[.bool false] 4))) := hB1
    have HIN : Hid (Lc.inL L.length s = false) := hin
    clear hin hB1
    rw [HT.out]
    go_enter Try.func84, Try.ntmps84
    go_wp2_with (go_at_call 93; refine (Lc.holds _ _ _ s _ h60 hs0 hs1).mono ?_; rintro e w' ⟨rfl, rfl⟩; rw [HIN.out])
    refine bodyPost_ret (v := .bool false) (by simp [results, Try.f84, go_sem]) rfl ?_
    exact ⟨rfl, HB1.out⟩
  · have hpar : 0 ≤ s ∧ s < 1152921504606846976 := by
      have hset : Lc.setB L s = true := by rw [Lc.setB_eq, hlc, hin]; rfl
      obtain ⟨_, q0, q1, _, _, _⟩ := Lc.setB_parts hset
      exact ⟨q0, q1⟩
    have HIN : Hid (Lc.inL L.length s = true) := hin
    clear hin
    have hok : Base.okB s = true := (Base.okB_iff _).2 hpar
    have HVC := vis_closed hlc s hpar.1 hpar.2
    refine (callsIn_wide (n := 3)).1 ?_
    refine callsIn_of_wp_marks Try.func84 rfl trivial ?_ rfl
    simp only [Try.ntmps84, List.size_toArray, List.length_cons, List.length_nil, Nat.reduceAdd, Nat.reduceSub, Array.replicate_succ, Array.replicate_zero, List.push_toArray, List.append_toArray, List.nil_append, List.cons_append]
    gi_wp2_with (first | (refine ⟨trivial, ?_⟩; gi_at_call 93; refine (callsIn_wide.2 (Lc.holds _ _ _ s _ h60 hs0 hs1)).mono ?_; rintro e w' ⟨rfl, rfl⟩; rw [HIN.out]) | (refine ⟨trivial, ?_⟩; gi_at_call 113; refine (callsIn_wide.2 (under _ _ _ _ _)).mono ?_; rintro e w' ⟨rfl, rfl⟩))
    have hB0 : Below w.heap.size w ((((w.alloc (.cells #[.int .i64 s] 56)).alloc (.cells #[.bool false] 4)).alloc (.cells #[.slice (some ⟨g, off, none⟩) L.length cap] 51)).alloc (.cells #[.int .i64 s] 56)) := (hB1.alloc (by simp; omega) _).alloc (by simp; omega) _
    have c2 := boxNew ((w.alloc (.cells #[.int .i64 s] 56)).alloc (.cells #[.bool false] 4)) (.slice (some ⟨g, off, none⟩) L.length cap) 51
    have c3 := boxNew (((w.alloc (.cells #[.int .i64 s] 56)).alloc (.cells #[.bool false] 4)).alloc (.cells #[.slice (some ⟨g, off, none⟩) L.length cap] 51)) (.int .i64 s) 56
    simp only [World.size_alloc] at c2 c3
    refine wpIn_rangeFunc_ownF rfl (by omega) (gf := 128) (lb := #[.pointer (some ⟨w.heap.size + 1 + 1 + 1, 0, none⟩), .pointer (some ⟨w.heap.size + 1 + 1, 0, none⟩)]) rfl trivial (enters_of Try.func128 (by kernel_rfl) rfl)
      (under_stops 2 (by omega) (w.heap.size + 1 + 1 + 1) (w.heap.size + 1 + 1) w.heap.size g off cap L hlc s hpar.1 hpar.2 hg _ (by simp) (by simp) c3.1 (boxCell _ c2.1) (hr.below hB0)) kpL_t (kpL_b (by simp; omega) (by simp)) (Below.refl _ _) (fun _ => rfl)
      (fun pre W => ((∀ y ∈ pre, bit s y.val = true) ∧ W.cell? ⟨w.heap.size, 0, none⟩ = some (.int .i64 s) ∧ W.cell? ⟨w.heap.size + 1, 0, none⟩ = some (.bool false) ∧ W.frozen? ⟨w.heap.size + 1, 0, none⟩ = false) ∧ Below w.heap.size w W)
      (fun c pre W => (c = .ret ∧ (∃ y ∈ pre, bit s y.val = false) ∧ W.cell? ⟨w.heap.size + 1, 0, none⟩ = some (.bool false)) ∧ Below w.heap.size w W)
      (OwnFrom.and (Own.from (fun s A B row hs hg hr => ⟨hs.1, cell_kept hs.2.1 hg hr, cell_kept hs.2.2.1 hg hr, (frozen_kept hs.2.2.1 hg hr).trans hs.2.2.2⟩) _) (ownFrom_below (Nat.le_refl _) (by simp; omega)))
      (fun c => OwnFrom.and (Own.from (fun s A B row hs hg hr => ⟨hs.1, hs.2.1, cell_kept hs.2.2 hg hr⟩) _) (ownFrom_below (Nat.le_refl _) (by simp; omega)))
      ⟨⟨by simp, boxCell _ (boxCell _ (boxCell _ a0.1)), boxCell _ (boxCell _ a1.1), boxFrozen _ (boxCell _ a1.1) (boxFrozen _ a1.1 a1.2)⟩, hB0⟩
      (fun x => { tmps := #[.slice (some ⟨g, off, none⟩) L.length cap, .int .i64 s, undef, .pointer (some ⟨w.heap.size, 0, none⟩), .pointer (some ⟨w.heap.size + 1, 0, none⟩), .int .i64 (x.val : Int), .slice (some ⟨g, off, none⟩) L.length cap, .int .i64 s, .bool true, .bool false, .slice (some ⟨g, off, none⟩) L.length cap, .int .i64 s, .func (.func 128) #[] #[.pointer (some ⟨w.heap.size + 1 + 1 + 1, 0, none⟩), .pointer (some ⟨w.heap.size + 1 + 1, 0, none⟩)], .int .i64 (x.val : Int), undef, undef, undef, undef], defers := [] }) ?assign ?body ?done ?stop
    case assign =>
      intro l x W K hK
      gi_wp2
      exact hK
    case body =>
      rintro l pre x W ⟨⟨hp, hcs, hcr, hfr⟩, hB⟩ _
      have hx := x.isLt
      have hin : Base.inB (x.val : Int) = true := (Base.inB_iff _).2 ⟨by omega, by omega⟩
      cases hb : bit s x.val
      · have HH : Hid ((Base.okB s && (Base.inB (x.val : Int) && bit s (x.val : Int).toNat)) = false) := by show _ = _; rw [Int.toNat_natCast, hb]; simp
        gi_wp2_with (refine ⟨trivial, ?_⟩; gi_at_call 72; refine (CallsIn.inRound l (callsIn_wide.2 (Base.has _ _ _))).mono ?_; rintro e w' ⟨rfl, rfl⟩; rw [HH.out])
        exact ⟨KeepsOthers.setCell _ _ _, ⟨rfl, ⟨x, List.mem_append.2 (.inr (by simp)), hb⟩, World.cell?_setCell_same' _ _ _ (by rw [hcr]; rfl)⟩, hB.setCell (p := ⟨w.heap.size + 1, 0, none⟩) (by simp) _⟩
      · have HH : Hid ((Base.okB s && (Base.inB (x.val : Int) && bit s (x.val : Int).toNat)) = true) := by show _ = _; rw [Int.toNat_natCast, hb, hin, hok]; rfl
        gi_wp2_with (refine ⟨trivial, ?_⟩; gi_at_call 72; refine (CallsIn.inRound l (callsIn_wide.2 (Base.has _ _ _))).mono ?_; rintro e w' ⟨rfl, rfl⟩; rw [HH.out])
        exact ⟨KeepsOthers.refl _, kpL_refl _ _ _, ⟨fun y hy => (List.mem_append.1 hy).elim (hp y) (fun e => by simp at e; subst e; exact hb), hcs, hcr, hfr⟩, hB⟩
    case done =>
      rintro D ys W hD rfl ⟨⟨hall, _, hcr, hfr⟩, hB⟩ hK
      have hcl := HVC.1 hall
      gi_wp2
      have hK' := (KeepsOthers.setCell W ⟨w.heap.size + 1, 0, none⟩ (.bool true)).same D _ hK rfl
      refine ⟨by simp, .inl ⟨_, _, rfl, run_takeDeferred hK', ?_⟩⟩
      have hc5 := cell_kept (World.cell?_setCell_same' W ⟨w.heap.size + 1, 0, none⟩ (.bool true) (by rw [hcr]; rfl)) (grownBy_putObj' _ D (.deferred none)) (fun r e => by cases e; exact ⟨_, hK', rfl⟩)
      refine ⟨.bool true, ?_, by rw [hcl]; rfl, (hB.setCell (p := ⟨w.heap.size + 1, 0, none⟩) (by simp) _).trans (belowK_b (w := w) (Nat.le_refl _) _ D _ _ (by simp at hD; omega) hK' rfl rfl)⟩
      simp [results, Try.f84, go_sem, hc5]
    case stop =>
      rintro D c pre W hD hpre ⟨⟨rfl, ⟨y, hy, hyb⟩, hcr⟩, hB⟩ hK
      have hcl : closedTo (belows L L.length) s L.length = false := by
        rw [Bool.eq_false_iff]
        intro hc
        have := HVC.2 hc y (vis_in hpre hy)
        rw [hyb] at this; exact Bool.noConfusion this
      gi_wp2
      refine ⟨by simp, .inl ⟨_, _, rfl, run_takeDeferred hK, ?_⟩⟩
      have hc5 := cell_kept hcr (grownBy_putObj' _ D (.deferred none)) (fun r e => by cases e; exact ⟨_, hK, rfl⟩)
      refine ⟨.bool false, ?_, by rw [hcl]; rfl, hB.trans (belowK_b (w := w) (Nat.le_refl _) W D _ _ (by simp at hD; omega) hK rfl rfl)⟩
      simp [results, Try.f84, go_sem, hc5]

set_option maxHeartbeats 2000000 in
theorem tips (g off cap : Nat) (L : List K) (s : Int) (w : World) (hlc : Lc.laceB L = true) (h0 : 0 ≤ s) (h1 : s < 1152921504606846976) (hcl : closedTo (belows L L.length) s L.length = true) (hg : g < w.heap.size) (hr : RdK w (some ⟨g, off, none⟩) L) :
    Calls Try.prog 85 #[.slice (some ⟨g, off, none⟩) L.length cap, .int .i64 s] w fun e w' => e = .returned (.int .i64 (tipsTo (belows L L.length) s L.length)) ∧ Below w.heap.size w w' := by
  have h60 := ((Lc.lace_iff L).1 hlc).1
  have HSV := strike_vis hlc s h0 h1 hcl
  refine (callsIn_wide (n := 3)).1 ?_
  refine callsIn_of_wp_marks Try.func85 rfl trivial ?_ rfl
  simp only [Try.ntmps85, List.size_toArray, List.length_cons, List.length_nil, Nat.reduceAdd, Nat.reduceSub, Array.replicate_succ, Array.replicate_zero, List.push_toArray, List.append_toArray, List.nil_append, List.cons_append]
  gi_wp2_with (refine ⟨trivial, ?_⟩; gi_at_call 113; refine (callsIn_wide.2 (under _ _ _ _ _)).mono ?_; rintro e w' ⟨rfl, rfl⟩)
  have hB0 : Below w.heap.size w ((((w.alloc (.cells #[.slice (some ⟨g, off, none⟩) L.length cap] 51)).alloc (.cells #[.int .i64 s] 56)).alloc (.cells #[.slice (some ⟨g, off, none⟩) L.length cap] 51)).alloc (.cells #[.int .i64 s] 56)) := ((((Below.refl _ w).alloc (Nat.le_refl _) _).alloc (by simp) _).alloc (by simp; omega) _).alloc (by simp; omega) _
  have a0 := boxNew w (.slice (some ⟨g, off, none⟩) L.length cap) 51
  have a1 := boxNew (w.alloc (.cells #[.slice (some ⟨g, off, none⟩) L.length cap] 51)) (.int .i64 s) 56
  have c2 := boxNew ((w.alloc (.cells #[.slice (some ⟨g, off, none⟩) L.length cap] 51)).alloc (.cells #[.int .i64 s] 56)) (.slice (some ⟨g, off, none⟩) L.length cap) 51
  have c3 := boxNew (((w.alloc (.cells #[.slice (some ⟨g, off, none⟩) L.length cap] 51)).alloc (.cells #[.int .i64 s] 56)).alloc (.cells #[.slice (some ⟨g, off, none⟩) L.length cap] 51)) (.int .i64 s) 56
  simp only [World.size_alloc] at a1 c2 c3
  refine wpIn_rangeFunc_ownF rfl (by omega) (gf := 128) (lb := #[.pointer (some ⟨w.heap.size + 1 + 1 + 1, 0, none⟩), .pointer (some ⟨w.heap.size + 1 + 1, 0, none⟩)]) rfl trivial (enters_of Try.func128 (by kernel_rfl) rfl)
    (under_stops 2 (by omega) (w.heap.size + 1 + 1 + 1) (w.heap.size + 1 + 1) w.heap.size g off cap L hlc s h0 h1 hg _ (by simp) (by simp) c3.1 (boxCell _ c2.1) (hr.below hB0)) kpL_t (kpL_b (by simp; omega) (by simp)) (Below.refl _ _) (fun _ => rfl)
    (fun pre W => (W.cell? ⟨w.heap.size, 0, none⟩ = some (.slice (some ⟨g, off, none⟩) L.length cap) ∧ W.cell? ⟨w.heap.size + 1, 0, none⟩ = some (.int .i64 (strike L s pre)) ∧ W.frozen? ⟨w.heap.size + 1, 0, none⟩ = false) ∧ Below w.heap.size w W)
    (fun _ _ _ => False)
    (OwnFrom.and (Own.from (fun s A B row hs hg hr => ⟨cell_kept hs.1 hg hr, cell_kept hs.2.1 hg hr, (frozen_kept hs.2.1 hg hr).trans hs.2.2⟩) _) (ownFrom_below (Nat.le_refl _) (by simp; omega)))
    (fun _ _ _ _ _ hs _ _ => hs)
    ⟨⟨boxCell _ (boxCell _ (boxCell _ a0.1)), boxCell _ (boxCell _ a1.1), boxFrozen _ (boxCell _ a1.1) (boxFrozen _ a1.1 a1.2)⟩, hB0⟩
    (fun x => { tmps := #[.slice (some ⟨g, off, none⟩) L.length cap, .int .i64 s, .pointer (some ⟨w.heap.size, 0, none⟩), undef, .int .i64 0, .pointer (some ⟨w.heap.size + 1, 0, none⟩), .int .i64 (x.val : Int), .int .i64 s, .slice (some ⟨g, off, none⟩) L.length cap, .int .i64 s, .func (.func 128) #[] #[.pointer (some ⟨w.heap.size + 1 + 1 + 1, 0, none⟩), .pointer (some ⟨w.heap.size + 1 + 1, 0, none⟩)], .int .i64 (x.val : Int), undef, undef, undef, undef, undef, undef, undef, undef], defers := [] }) ?assign ?body ?done ?stop
  case assign =>
    intro l x W K hK
    gi_wp2
    exact hK
  case body =>
    rintro l pre x W ⟨⟨hcl', hcu, hfu⟩, hB⟩ _
    have hx := x.isLt
    have hxi : (x.val : Int) < (L.length : Int) := by omega
    obtain ⟨_, hc⟩ := hr.on x.val hx
    obtain ⟨_, _, cf, _⟩ := hc.below hB hg
    have HS : Hid (strike L s (pre ++ [x]) = bits .andNot .i64 (strike L s pre) (at' L x.val).frm) := strike_snoc L s pre x
    have hmx : Try.prog.follows .mixedOrders = true := by kernel_rfl
    clear hc
    generalize (at' L x.val).frm = y at cf HS
    generalize hxv : x.val = xv at cf hx hxi ⊢
    gi_wp2
    gi_region_with_o fail
    all_goals gi_wp2
    all_goals (try go_bits)
    all_goals exact ⟨(KeepsOthers.setCell _ _ _).trans (KeepsOthers.drew _), kpL_drew (kpL_put W (w.heap.size + 1) (by omega) (by omega) _), ⟨(put_other W _ _ (by omega) _).trans hcl', by rw [HS.out]; exact World.cell?_setCell_same' _ _ _ (by rw [hcu]; rfl), by rw [frozen_drew_own, World.frozen?_setCell]; exact hfu⟩, (hB.setCell (p := ⟨w.heap.size + 1, 0, none⟩) (by simp) _).drew⟩
  case done =>
    rintro D ys W hD rfl ⟨⟨_, hcu, _⟩, hB⟩ hK
    rw [HSV] at hcu
    gi_wp2
    refine ⟨by simp, .inl ⟨_, _, rfl, run_takeDeferred hK, ?_⟩⟩
    exact ⟨_, results_tmp rfl _ _ _, rfl, hB.trans (belowK_b (w := w) (Nat.le_refl _) W D _ _ (by simp at hD; omega) hK rfl rfl)⟩
  case stop =>
    rintro D c pre W _ _ h _
    exact h.elim

/-- what the walk from a has met has b just where a sees b -/
theorem met_sees {L : List K} (hlc : Lc.laceB L = true) (a b : Int) : (Base.okB (metI L a) && (Base.inB b && bit (metI L a) b.toNat)) = seesB L a b := by
  have h60 := ((Lc.lace_iff L).1 hlc).1
  unfold seesB isB metI
  rw [hlc]
  by_cases ha : 0 ≤ a ∧ a < (L.length : Int)
  · obtain ⟨p, rfl⟩ := Int.eq_ofNat_of_zero_le ha.1
    have hp : p < L.length := by omega
    have hbd := bel_bd L p (by omega)
    rw [if_pos ha, Int.toNat_natCast, (Base.okB_iff _).2 hbd]
    by_cases hb : 0 ≤ b ∧ b < (L.length : Int)
    · rw [(Base.inB_iff b).2 ⟨hb.1, by omega⟩, decide_eq_true ha.1, decide_eq_true ha.2, decide_eq_true hb.1, decide_eq_true hb.2]; rfl
    · have e2 : (decide (0 ≤ b) && (decide (b < (L.length : Int)) && true)) = false := by
        rw [Bool.eq_false_iff]; intro h; simp at h; exact hb h
      rw [e2]
      simp only [Bool.false_and, Bool.and_false, Bool.true_and]
      rw [Bool.eq_false_iff]
      intro h
      rw [Bool.and_eq_true] at h
      have hb0 := (Base.inB_iff b).1 h.1
      have := reach_le hlc hp ((bel_reach hlc p hp b.toNat).1 h.2)
      exact hb ⟨hb0.1, by omega⟩
  · have e1 : (decide (0 ≤ a) && (decide (a < (L.length : Int)) && true)) = false := by
      rw [Bool.eq_false_iff]; intro h; simp at h; exact ha h
    rw [if_neg ha, e1, Lc.bit_zero]; simp

/-- a number that there is a knot for -/
theorem all_has {n : Nat} (hn : n ≤ 60) (k : Int) : (Base.okB (2 ^ n - 1) && (Base.inB k && bit (2 ^ n - 1) k.toNat)) = (decide (0 ≤ k) && decide (k < (n : Int))) := by
  have hp := Lc.pow60 n hn
  have hok : Base.okB (2 ^ n - 1) = true := (Base.okB_iff _).2 ⟨by omega, by omega⟩
  have hb : bit (2 ^ n - 1) k.toNat = decide (k.toNat < n) := by
    have e : ((2 : Int) ^ n - 1) = ((2 ^ n - 1 : Nat) : Int) := by rw [Int.ofNat_sub Nat.one_le_two_pow]; simp
    rw [Bit.bit_testBit _ (by omega), e, Int.toNat_natCast, Nat.testBit_two_pow_sub_one]
  rw [hok, hb, Bool.true_and, Bool.eq_iff_iff]
  simp only [Bool.and_eq_true, decide_eq_true_eq, Base.inB_iff]
  omega

set_option maxHeartbeats 800000 in
theorem sees (g off cap : Nat) (L : List K) (a b : Int) (w : World) (hlc : Lc.laceB L = true) (hg : g < w.heap.size) (hr : RdK w (some ⟨g, off, none⟩) L) :
    Calls Try.prog 78 #[.slice (some ⟨g, off, none⟩) L.length cap, .int .i64 a, .int .i64 b] w fun e w' => e = .returned (.bool (seesB L a b)) ∧ Below w.heap.size w w' := by
  have HT : Hid ((Base.okB (metI L a) && (Base.inB b && bit (metI L a) b.toNat)) = seesB L a b) := met_sees hlc a b
  go_enter Try.func78, Try.ntmps78
  go_wp2_with fail
  refine (below g off cap L a _ hlc hg hr).mono ?_
  rintro e w1 ⟨rfl, hb1⟩
  go_wp2_with (go_at_call 72; refine (Base.has _ _ _).mono ?_; rintro e w' ⟨rfl, rfl⟩; rw [HT.out])
  go_ret
  exact ⟨rfl, hb1⟩

set_option maxHeartbeats 1600000 in
theorem implBelow (g off cap : Nat) (L : List K) (k : Int) (w : World) (hlen : L.length ≤ 1099511627776) (hw : Lc.WordsOk L) (hr : RdK w (some ⟨g, off, none⟩) L) :
    Calls Try.prog 26 #[.slice (some ⟨g, off, none⟩) L.length cap, .int .i64 k] w fun e w' => e = .returned (.int .i64 (belowI L k)) ∧ Below w.heap.size w w' := by
  have HLF : Hid (∀ W : World, RdK W (some ⟨g, off, none⟩) L → Calls Try.prog 53 #[.slice (some ⟨g, off, none⟩) L.length cap] W (Lc.LacePost L W)) := fun W h => Lc.laceOf g off cap L W hlen hw h
  go_enter Try.func26, Try.ntmps26
  go_wp2_with (first | (go_at_call 74; go_in) | fail)
  refine (HLF.out _ hr).mono ?_
  rintro e w1 (⟨hl, g', rfl, hg', hrg, hb1⟩ | ⟨hl, rfl, hb1⟩)
  · have h60 := ((Lc.lace_iff L).1 hl).1
    have HA : Hid ((Base.okB (2 ^ L.length - 1) && (Base.inB k && bit (2 ^ L.length - 1) k.toNat)) = (decide (0 ≤ k) && decide (k < (L.length : Int)))) := all_has h60 k
    have HS : Hid (isB L k = (decide (0 ≤ k) && decide (k < (L.length : Int)))) := by show _ = _; unfold isB; rw [hl]; simp
    have HLC : Hid (Lc.laceB L = true) := hl
    clear hl HLF
    go_wp2_with fail
    refine (Lc.all _ _ _ _ h60).mono ?_
    rintro e w1' ⟨rfl, rfl⟩
    cases hin : (decide (0 ≤ k) && decide (k < (L.length : Int)))
    · have HT : Hid (belowI L k = -1) := by show _ = _; unfold belowI; rw [HS.out, hin]; rfl
      have HF : Hid ((Base.okB (2 ^ L.length - 1) && (Base.inB k && bit (2 ^ L.length - 1) k.toNat)) = false) := HA.out.trans hin
      clear hin HS HA
      go_wp2_with (first | (go_at_call 72; refine (Base.has _ _ _).mono ?_; rintro e w' ⟨rfl, rfl⟩; rw [HF.out]) | fail)
      go_ret
      exact ⟨by rw [HT.out]; rfl, hb1⟩
    · have hk : 0 ≤ k ∧ k < (L.length : Int) := by simpa using hin
      have HT : Hid (belowI L k = metI L k) := by show _ = _; unfold belowI metI; rw [HS.out, hin, if_pos hk]; rfl
      have HF : Hid ((Base.okB (2 ^ L.length - 1) && (Base.inB k && bit (2 ^ L.length - 1) k.toNat)) = true) := HA.out.trans hin
      clear hin HS HA hk
      go_wp2_with (first | (go_at_call 72; refine (Base.has _ _ _).mono ?_; rintro e w' ⟨rfl, rfl⟩; rw [HF.out]) | fail)
      refine (below g' 0 L.length L k _ HLC.out hg' hrg).mono ?_
      rintro e w2 ⟨rfl, hb2⟩
      have B2 := hb1.trans (hb2.mono hb1.size)
      clear hb1 hb2 hrg hg'
      go_wp2
      go_ret
      exact ⟨by rw [HT.out]; rfl, B2⟩
  · have HT : Hid (belowI L k = -1) := by show _ = _; unfold belowI isB; rw [hl]; simp
    clear hl HLF
    go_wp2
    go_ret
    exact ⟨by rw [HT.out]; rfl, hb1⟩

set_option maxHeartbeats 800000 in
theorem implSees (g off cap : Nat) (L : List K) (a b : Int) (w : World) (hlen : L.length ≤ 1099511627776) (hw : Lc.WordsOk L) (hr : RdK w (some ⟨g, off, none⟩) L) :
    Calls Try.prog 29 #[.slice (some ⟨g, off, none⟩) L.length cap, .int .i64 a, .int .i64 b] w fun e w' => e = .returned (.bool (seesB L a b)) ∧ Below w.heap.size w w' := by
  go_enter Try.func29, Try.ntmps29
  go_wp2_with fail
  refine (Lc.laceOf g off cap L _ hlen hw hr).mono ?_
  rintro e w1 (⟨hl, g', rfl, hg', hrg, hb1⟩ | ⟨hl, rfl, hb1⟩)
  · have HLC : Hid (Lc.laceB L = true) := hl
    clear hl
    go_wp2_with fail
    refine (sees g' 0 L.length L a b _ HLC.out hg' hrg).mono ?_
    rintro e w2 ⟨rfl, hb2⟩
    have B2 := hb1.trans (hb2.mono hb1.size)
    clear hb1 hb2 hrg hg'
    go_wp2
    go_ret
    exact ⟨rfl, B2⟩
  · have HT : Hid (seesB L a b = false) := by show _ = _; unfold seesB isB; rw [hl]; simp
    clear hl
    go_wp2
    go_ret
    exact ⟨by rw [HT.out]; rfl, hb1⟩

theorem closedB_eq (L : List K) (s : Int) (hl : Lc.laceB L = true) : (Lc.inL L.length s && closedTo (belows L L.length) s L.length) = closedB L s := by
  unfold closedB; rw [Lc.setB_eq, hl]; rfl

set_option maxHeartbeats 800000 in
theorem implClosed (g off cap : Nat) (L : List K) (s : Int) (w : World) (hlen : L.length ≤ 1099511627776) (hw : Lc.WordsOk L) (h0 : -9223372036854775808 ≤ s) (h1 : s ≤ 9223372036854775807) (hr : RdK w (some ⟨g, off, none⟩) L) :
    Calls Try.prog 34 #[.slice (some ⟨g, off, none⟩) L.length cap, .int .i64 s] w fun e w' => e = .returned (.bool (closedB L s)) ∧ Below w.heap.size w w' := by
  go_enter Try.func34, Try.ntmps34
  go_wp2_with fail
  refine (Lc.laceOf g off cap L _ hlen hw hr).mono ?_
  rintro e w1 (⟨hl, g', rfl, hg', hrg, hb1⟩ | ⟨hl, rfl, hb1⟩)
  · have HLC : Hid (Lc.laceB L = true) := hl
    clear hl
    go_wp2_with fail
    refine (closed g' 0 L.length L s _ HLC.out h0 h1 hg' hrg).mono ?_
    rintro e w2 ⟨rfl, hb2⟩
    rw [closedB_eq L s HLC.out]
    have B2 := hb1.trans (hb2.mono hb1.size)
    clear hb1 hb2 hrg hg'
    go_wp2
    go_ret
    exact ⟨rfl, B2⟩
  · have HT : Hid (closedB L s = false) := by show _ = _; unfold closedB; rw [Lc.setB_eq, hl]; rfl
    clear hl
    go_wp2
    go_ret
    exact ⟨by rw [HT.out]; rfl, hb1⟩

set_option maxHeartbeats 800000 in
theorem implTips (g off cap : Nat) (L : List K) (s : Int) (w : World) (hlen : L.length ≤ 1099511627776) (hw : Lc.WordsOk L) (h0 : -9223372036854775808 ≤ s) (h1 : s ≤ 9223372036854775807) (hr : RdK w (some ⟨g, off, none⟩) L) :
    Calls Try.prog 35 #[.slice (some ⟨g, off, none⟩) L.length cap, .int .i64 s] w fun e w' => e = .returned (.int .i64 (tipsI L s)) ∧ Below w.heap.size w w' := by
  go_enter Try.func35, Try.ntmps35
  go_wp2_with fail
  refine (Lc.laceOf g off cap L _ hlen hw hr).mono ?_
  rintro e w1 (⟨hl, g', rfl, hg', hrg, hb1⟩ | ⟨hl, rfl, hb1⟩)
  · have HLC : Hid (Lc.laceB L = true) := hl
    clear hl
    go_wp2_with fail
    refine (closed g' 0 L.length L s _ HLC.out h0 h1 hg' hrg).mono ?_
    rintro e w2 ⟨rfl, hb2⟩
    rw [closedB_eq L s HLC.out]
    have B2 := hb1.trans (hb2.mono hb1.size)
    have hrg2 := hrg.below hb2
    have hg2 : g' < w2.heap.size := Nat.lt_of_lt_of_le hg' hb2.size
    clear hb1 hb2 hrg hg'
    cases hc : closedB L s
    · have HT : Hid (tipsI L s = -1) := by show _ = _; unfold tipsI; rw [hc]; rfl
      clear hc
      go_wp2
      go_ret
      exact ⟨by rw [HT.out]; rfl, B2⟩
    · have HT : Hid (tipsI L s = tipsTo (belows L L.length) s L.length) := by show _ = _; unfold tipsI; rw [hc]; rfl
      have hq : Lc.setB L s = true ∧ closedTo (belows L L.length) s L.length = true := by unfold closedB at hc; rw [Bool.and_eq_true] at hc; exact hc
      obtain ⟨_, q0, q1, _, _, _⟩ := Lc.setB_parts hq.1
      have HC : Hid (closedTo (belows L L.length) s L.length = true) := hq.2
      clear hc hq
      go_wp2_with fail
      refine (tips g' 0 L.length L s _ HLC.out q0 q1 HC.out hg2 hrg2).mono ?_
      rintro e w3 ⟨rfl, hb3⟩
      have B3 := B2.trans (hb3.mono B2.size)
      clear hb3 B2 hrg2 hg2
      go_wp2
      go_ret
      exact ⟨by rw [HT.out]; rfl, B3⟩
  · have HT : Hid (tipsI L s = -1) := by show _ = _; unfold tipsI closedB; rw [Lc.setB_eq, hl]; rfl
    clear hl
    go_wp2
    go_ret
    exact ⟨by rw [HT.out]; rfl, hb1⟩

end Sg
end Go.Proofs.Ytdcjjopeobnpgaa

namespace Go.Proofs.Ytdcjjopeobnpgaa
open Go.RowKit Go.Shelf
open Go.ChangeMaps (setBlock)
set_option maxRecDepth 100000
attribute [local go_sem] Oper.semAt_some
namespace Db
open Kn (K okK)
open Bit (bit withB)
open Lc (at' RdK WordsOk laceB setB)
open Sg (vis oneI)

/-- the marks that loops over functions leave, the last one first -/
def Marks (lo : Nat) (w : World) : Nat → List Deferred → Prop
  | _, [] => True
  | hi, d :: ds => ∃ r, lo ≤ r ∧ r < hi ∧ d.target = .collected r ∧ w.heap[r]? = some (.deferred (some [])) ∧ Marks lo w r ds

theorem Marks.kept {lo : Nat} {w w' : World} {M : Nat} (hM : M < lo) (hg : w.grownBy w' (some M)) : ∀ (ds : List Deferred) (hi : Nat), Marks lo w hi ds → Marks lo w' hi ds := by
  intro ds
  induction ds with
  | nil => intro hi _; trivial
  | cons d ds ih =>
    intro hi h
    obtain ⟨r, h1, h2, h3, h4, h5⟩ := h
    exact ⟨r, h1, h2, h3, (hg.block r (Array.getElem?_eq_some_iff.1 h4).1 (fun e => by cases e; omega)).trans h4, ih r h5⟩

theorem Marks.mono {lo : Nat} {w : World} {hi hi' : Nat} (hh : hi ≤ hi') : ∀ (ds : List Deferred), Marks lo w hi ds → Marks lo w hi' ds := by
  intro ds h
  cases ds with
  | nil => trivial
  | cons d ds =>
    obtain ⟨r, h1, h2, h3⟩ := h
    exact ⟨r, h1, by omega, h3⟩

theorem Marks.under {lo : Nat} {w w' : World} : ∀ (ds : List Deferred) (hi : Nat), (∀ r, r < hi → w'.heap[r]? = w.heap[r]?) → Marks lo w hi ds → Marks lo w' hi ds := by
  intro ds
  induction ds with
  | nil => intro hi _ _; trivial
  | cons d ds ih =>
    intro hi hs h
    obtain ⟨r, h1, h2, h3, h4, h5⟩ := h
    exact ⟨r, h1, h2, h3, (hs r h2).trans h4, ih r (fun r' hr' => hs r' (by omega)) h5⟩

theorem leaves_marks {F : Fence} {n : Nat} {P : Program} {fn : Func} {tmps : Array Value} {R : Ending → World → Prop} (hfn : fn.results = #[]) (lo : Nat) : ∀ (ds : List Deferred) (hi : Nat) (w : World), lo ≤ w.heap.size → Marks lo w hi ds →
    (∀ w', Below lo w w' → R (.returned (.tuple #[])) w') → LeavesInM F n P fn tmps R ds .returning w := by
  intro ds
  induction ds with
  | nil =>
    intro hi w _ _ hR
    exact ⟨_, results_none hfn _ _ _, hR w (Below.refl _ _)⟩
  | cons d ds ih =>
    intro hi w hlo h hR
    obtain ⟨r, h1, h2, h3, h4, h5⟩ := h
    refine ⟨by simp, .inl ⟨r, _, h3, run_takeDeferred h4, ?_⟩⟩
    have hb : Below lo w (w.putObj r (.deferred none)) := (Below.refl lo w).grown (grownBy_putObj' w r (.deferred none)) hlo (fun k e => by cases e; exact h1)
    refine ih r _ (Nat.le_trans hlo hb.size) (Marks.under ds r (fun r' hr' => World.putObj_heap_other (by omega)) h5) (fun w' hw' => hR w' (hb.trans hw'))

theorem grown_cell {A B : World} {M : Nat} (hg : A.grownBy B (some M)) {p : Addr} (hb : p.block < A.heap.size) (hne : p.block ≠ M) : B.cell? p = A.cell? p :=
  World.cell?_of_block (w := A) (hg.block p.block hb (fun e => hne (by cases e; rfl)))

theorem grown_drew {A B : World} {row : Option Nat} (h : A.grownBy B row) : A.grownBy B.drew row := ⟨h.os, h.tape, h.output, h.size, h.block⟩

theorem below_grown {A B : World} (h : Below A.heap.size A B) (row : Option Nat) : A.grownBy B row := ⟨h.os, h.tape, h.output, h.size, fun i hi _ => h.block i hi⟩

theorem grown_own {A B C : World} {M : Nat} {row : Option Nat} (h : A.grownBy B (some M)) (h2 : B.grownBy C row) (hr : ∀ r, row = some r → A.heap.size ≤ r) : A.grownBy C (some M) :=
  ⟨h2.os.trans h.os, h2.tape.trans h.tape, h2.output.trans h.output, Nat.le_trans h.size h2.size, fun k hk hne => (h2.block k (Nat.lt_of_lt_of_le hk h.size) (fun e => by have := hr k e.symm; omega)).trans (h.block k hk hne)⟩

theorem grown_below {A B C : World} {M : Nat} (h : A.grownBy B (some M)) (h2 : Below A.heap.size B C) : A.grownBy C (some M) :=
  ⟨h2.os.trans h.os, h2.tape.trans h.tape, h2.output.trans h.output, Nat.le_trans h.size h2.size, fun k hk hne => (h2.block k hk).trans (h.block k hk hne)⟩

theorem apart_block {A B : World} {M n : Nat} {S : Nat → Nat → Bool} (h : Apart A M n S) (hb : B.heap[M]? = A.heap[M]?) : Apart B M n S := by
  obtain ⟨D, ⟨es, clock, hbl, r⟩, r2⟩ := h
  exact ⟨D, ⟨es, clock, hb.trans hbl, r⟩, r2⟩

theorem rd_grown {A B : World} {M g off : Nat} {L : List K} (h : RdK A (some ⟨g, off, none⟩) L) (hg : A.grownBy B (some M)) (hne : g ≠ M) : RdK B (some ⟨g, off, none⟩) L := by
  rcases h with h | ⟨g', off', e, hlt, hc⟩
  · exact .inl h
  · cases e
    refine .inr ⟨g, off, rfl, Nat.lt_of_lt_of_le hlt hg.size, fun i hi => ?_⟩
    have c := hc i hi
    have f : ∀ o : Nat, B.cell? ⟨g, o, none⟩ = A.cell? ⟨g, o, none⟩ := fun o => grown_cell hg (p := ⟨g, o, none⟩) hlt hne
    exact ⟨(f _).trans c.c0, (f _).trans c.c1, (f _).trans c.c2, (f _).trans c.c3⟩

set_option maxHeartbeats 2000000 in
theorem putApart (n₀ g off cap M : Nat) (L : List K) (S : Int) (w : World) (hlc : laceB L = true) (hin : ∀ x ∈ Memb.memI S, 0 ≤ x ∧ x < (L.length : Int)) (hri : Rise (Memb.memI S)) (hg : g < n₀) (hn : n₀ ≤ M) (hr : RdK w (some ⟨g, off, none⟩) L) (hm : Apart w M 0 (fun _ _ => false)) :
    Calls Try.prog 116 #[.slice (some ⟨g, off, none⟩) L.length cap, .map (some M), .int .i64 S] w fun e w' => e = .returned (.tuple #[]) ∧ w.grownBy w' (some M) ∧ ∃ c, Apart w' M c (apartB L (Memb.memI S)) := by
  have h60 := ((Lc.lace_iff L).1 hlc).1
  have hM := hm.lt
  refine (callsIn_wide (n := 3)).1 ?_
  refine callsIn_of_wp_marks Try.func116 rfl trivial ?_ rfl
  simp only [Try.ntmps116, List.size_toArray, List.length_cons, List.length_nil, Nat.reduceAdd, Nat.reduceSub, Array.replicate_succ, Array.replicate_zero, List.push_toArray, List.append_toArray, List.nil_append, List.cons_append]
  have cb := Sg.boxNew w (.map (some M)) 106
  gi_wp2_with (first | (refine ⟨trivial, ?_⟩; gi_at_call 101; refine (callsIn_wide.2 (Memb.picked S _)).mono ?_; rintro e w1 ⟨ao, bc, rfl, hown, hb1⟩))
  have hl60 := Memb.memI_le S
  generalize hlS : Memb.memI S = l at hin hri hown hl60 ⊢
  have HL : Hid (Memb.memI S = l) := hlS
  clear hlS
  have hG1 : w.grownBy w1 (some M) := (World.grownBy_alloc w _ _).trans (below_grown hb1 _)
  have hs1 : w.heap.size < w1.heap.size := by have := hb1.size; simp at this; omega
  have cb1 : w1.cell? ⟨w.heap.size, 0, none⟩ = some (.map (some M)) := (hb1.cell (p := ⟨w.heap.size, 0, none⟩) (by simp)).trans cb.1
  have hr1 : RdK w1 (some ⟨g, off, none⟩) L := (hr.below ((Below.refl _ w).alloc (Nat.le_refl _) _)).below hb1
  have hm1 : Apart w1 M 0 (doneP L l 0) := ((hm.kept (World.grownBy_alloc w _ none) (by simp)).kept (below_grown hb1 none) (by simp)).of (fun i j _ _ => by unfold doneP; simp)
  have hrd := Lst.own_rd hown
  have hblk : l ≠ [] → ∃ gb, ao = some ⟨gb, 0, none⟩ ∧ w.heap.size < gb ∧ gb < w1.heap.size := fun hl => by
    obtain ⟨gb, e, h1, h2⟩ := Lst.own_block hown hl
    exact ⟨gb, e, by simp at h1; omega, h2⟩
  have hcap : l.length ≤ bc := by
    obtain ⟨_, ⟨hv, hz⟩ | ⟨_, cp, _, hv, _, _, hle, _⟩⟩ := hown
    · omega
    · simp only [Value.slice.injEq] at hv; omega
  clear hown hb1 cb hm hr
  refine wpIn_loop (fun a' wr => ∃ (i : Nat) (ds : List Deferred) (u7 u8 u10 u11 u18 u19 u20 u21 u22 u23 u24 u25 u26 u27 u28 u29 u30 u31 u32 u33 u34 u35 u36 u37 u38 u39 u40 u41 u42 u43 u44 u45 u46 u47 u48 : Value), (i ≤ l.length ∧ Hid (w1.grownBy wr (some M)) ∧ Hid (Apart wr M (60 * i) (doneP L l i)) ∧ Hid (Marks w1.heap.size wr wr.heap.size ds)) ∧ a' = { tmps := #[.slice (some ⟨g, off, none⟩) L.length cap, .map (some M), .int .i64 S, undef, .pointer (some ⟨w.heap.size, 0, none⟩), undef, .slice ao l.length bc, u7, u8, undef, u10, u11, .int .i64 S, .func (.func 72) #[.int .i64 S] #[], .slice ao l.length bc, .slice ao l.length bc, .int .i64 (l.length : Int), .int .i64 (i : Int), u18, u19, u20, u21, u22, u23, u24, u25, u26, u27, u28, u29, u30, u31, u32, u33, u34, u35, u36, u37, u38, u39, u40, u41, u42, u43, u44, u45, u46, u47, u48], defers := ds }) (fun a' _ => l.length - (intOf (a'.tmps.getD 17 undef)).toNat) ?start ?round
  case start => exact ⟨0, [], _, _, _, _, _, _, _, _, _, _, _, _, _, _, _, _, _, _, _, _, _, _, _, _, _, _, _, _, _, _, _, _, _, _, _, ⟨by omega, below_grown (Below.refl _ w1) _, hm1, trivial⟩, rfl⟩
  case round =>
    rintro a' wq ⟨i, ds, u7, u8, u10, u11, u18, u19, u20, u21, u22, u23, u24, u25, u26, u27, u28, u29, u30, u31, u32, u33, u34, u35, u36, u37, u38, u39, u40, u41, u42, u43, u44, u45, u46, u47, u48, ⟨hi, HG, HA, HM⟩, rfl⟩
    by_cases hlt : i < l.length
    · obtain ⟨gb, rfl, hgb0, hgb1⟩ := hblk (by intro e; rw [e] at hlt; simp at hlt)
      have hcl : ∀ j, j < l.length → w1.cell? ⟨gb, j, none⟩ = some (.int .i64 (l.getD j 0)) := by
        rcases hrd with e | ⟨gb', e, h⟩
        · rw [e] at hlt; simp at hlt
        · cases e; exact h
      have hxy := hin (l.getD i 0) (by simp [hlt])
      obtain ⟨y, hy⟩ := Int.eq_ofNat_of_zero_le hxy.1
      have hyl : y < L.length := by omega
      have ci : wq.cell? ⟨gb, i, none⟩ = some (.int .i64 (y : Int)) := (grown_cell HG.out (p := ⟨gb, i, none⟩) hgb1 (by simp; omega)).trans (by rw [hcl i hlt, hy])
      gi_wp2
      have hW2 : w1.grownBy (wq.alloc (.cells #[.int .i64 (y : Int)] 2)) (some M) := HG.out.trans (World.grownBy_alloc wq _ _)
      have hA2 : Apart (wq.alloc (.cells #[.int .i64 (y : Int)] 2)) M (60 * i) (midP L l i y 0) := (HA.out.kept (World.grownBy_alloc wq _ none) (by simp)).of (fun a b _ _ => (mid_zero L l i y a b).symm)
      have cy := (Sg.boxNew wq (.int .i64 (y : Int)) 2).1
      have hy2 : wq.heap.size < (wq.alloc (.cells #[.int .i64 (y : Int)] 2)).heap.size := by simp
      have hMk : Marks w1.heap.size (wq.alloc (.cells #[.int .i64 (y : Int)] 2)) wq.heap.size ds := Marks.kept (Nat.lt_trans hM (by omega)) (World.grownBy_alloc wq _ (some M)) ds _ HM.out
      have hws := HG.out.size
      generalize wq.alloc (.cells #[.int .i64 (y : Int)] 2) = W2 at hW2 hA2 cy hy2 hMk ⊢
      have HW2 : Hid (w1.grownBy W2 (some M)) := hW2
      have HMk : Hid (Marks w1.heap.size W2 wq.heap.size ds) := hMk
      clear hW2 hMk ci HG HA HM
      gi_loopw [26] (fun v wt => ∃ t : Nat, t ≤ i ∧ v = .int .i64 (t : Int) ∧ Hid (W2.grownBy wt (some M)) ∧ Hid (Apart wt M (60 * i + t) (midP L l i y t))) (fun v _ => i - (intOf v).toNat)
      case atStart => exact ⟨0, by omega, rfl, below_grown (Below.refl _ W2) _, hA2⟩
      case round =>
        obtain ⟨t, ht, rfl, HG, HA⟩ := hrel
        by_cases hti : t < i
        · have hxz := hin (l.getD t 0) (by simp; rw [List.getElem?_eq_getElem (by omega)]; simp)
          obtain ⟨x, hx⟩ := Int.eq_ofNat_of_zero_le hxz.1
          have ct : wr.cell? ⟨gb, t, none⟩ = some (.int .i64 (x : Int)) := (grown_cell (HW2.out.trans HG.out) (p := ⟨gb, t, none⟩) hgb1 (by simp; omega)).trans (by rw [hcl t (by omega), hx])
          have hx60 : x < 60 := by omega
          have hy60 : y < 60 := by omega
          have cM : wr.cell? ⟨w.heap.size, 0, none⟩ = some (.map (some M)) := (grown_cell (HW2.out.trans HG.out) (p := ⟨w.heap.size, 0, none⟩) hs1 (by simp; omega)).trans cb1
          have cY : wr.cell? ⟨wq.heap.size, 0, none⟩ = some (.int .i64 (y : Int)) := (grown_cell HG.out (p := ⟨wq.heap.size, 0, none⟩) hy2 (by simp; omega)).trans cy
          obtain ⟨c, v0, st, o1, P⟩ := apart_puts HA.out (show 60 * i + t < 100000 by omega) x y hx60 hy60
          obtain ⟨o2, hst, hA3, _⟩ := P.store (wrap64 (c + 1)) (wrap64_wf _)
          have q1 : (Instr.lookup 106 (.map (some M)) (pv x y) false).run Try.prog wr.drew = .ok (.int .i64 c) wr.drew := P.look 1
          have q2 : (Instr.mapEntry 106 (.map (some M)) (pv x y)).run Try.prog wr.drew = .ok (.tuple #[v0, .int .i64 (st : Int)]) (setBlock wr.drew M o1) := P.entry 1
          have q3 : (Instr.lookup 106 (.map (some M)) (pv x y) false).run Try.prog (setBlock wr.drew M o1) = .ok (.int .i64 c) (setBlock wr.drew M o1) := P.look1 1
          have q4 : (Instr.entryStore 106 (.map (some M)) (.int .i64 (st : Int)) (.int .i64 (wrap64 (c + 1)))).run Try.prog (setBlock wr.drew M o1) = .ok () (setBlock wr.drew M o2) := hst 1
          have HA3 : Hid (Apart (setBlock wr.drew M o2) M (60 * i + t + 1) (midP L l i y (t + 1))) := by
            refine Apart.of (S := fun i_1 j => midP L l i y t i_1 j || (decide (i_1 = x) && decide (j = y))) hA3 (fun a b _ _ => ?_)
            rw [mid_step L l i y t (by omega), hx, Int.toNat_natCast]
          have HG3 : Hid (W2.grownBy (setBlock wr.drew M o2) (some M)) := (grown_drew HG.out).trans (grown_setBlock wr.drew M o2)
          clear hst hA3 P hxz
          gi_wp2
          gi_region
          gi_wp2
          go_roundw
          case rel => exact ⟨t + 1, by omega, by go_num, HG3, HA3⟩
          case measure => simp [intOf]; omega
        · obtain rfl : t = i := by omega
          have cM : wr.cell? ⟨w.heap.size, 0, none⟩ = some (.map (some M)) := (grown_cell (HW2.out.trans HG.out) (p := ⟨w.heap.size, 0, none⟩) hs1 (by simp; omega)).trans cb1
          have cY : wr.cell? ⟨wq.heap.size, 0, none⟩ = some (.int .i64 (y : Int)) := (grown_cell HG.out (p := ⟨wq.heap.size, 0, none⟩) hy2 (by simp; omega)).trans cy
          have hB0 : wr.grownBy ((wr.alloc (.cells #[.slice (some ⟨g, off, none⟩) L.length cap] 51)).alloc (.cells #[.int .i64 (oneI (y : Int))] 56)) (some M) := (World.grownBy_alloc wr _ _).trans (World.grownBy_alloc _ _ _)
          have hA0 : wr.grownBy ((wr.alloc (.cells #[.slice (some ⟨g, off, none⟩) L.length cap] 51)).alloc (.cells #[.int .i64 (oneI (y : Int))] 56)) none := (World.grownBy_alloc wr _ _).trans (World.grownBy_alloc _ _ _)
          gi_wp2_with (first | (refine ⟨trivial, ?_⟩; gi_at_call 102; refine (callsIn_wide.2 (Base.withM _ _ _)).mono ?_; rintro e w' ⟨rfl, rfl⟩; rw [Sg.with_one]) | (refine ⟨trivial, ?_⟩; gi_at_call 113; refine (callsIn_wide.2 (Sg.under _ _ _ _ _)).mono ?_; rintro e w' ⟨rfl, rfl⟩))
          have c0 := Sg.boxNew wr (.slice (some ⟨g, off, none⟩) L.length cap) 51
          have c1 := Sg.boxNew (wr.alloc (.cells #[.slice (some ⟨g, off, none⟩) L.length cap] 51)) (.int .i64 (oneI (y : Int))) 56
          simp only [World.size_alloc] at c1
          have c0' := Sg.boxCell (.cells #[.int .i64 (oneI (y : Int))] 56) c0.1
          have hsz : ((wr.alloc (.cells #[.slice (some ⟨g, off, none⟩) L.length cap] 51)).alloc (.cells #[.int .i64 (oneI (y : Int))] 56)).heap.size = wr.heap.size + 1 + 1 := by simp
          generalize (wr.alloc (.cells #[.slice (some ⟨g, off, none⟩) L.length cap] 51)).alloc (.cells #[.int .i64 (oneI (y : Int))] 56) = W3 at hB0 hA0 c0' c1 hsz ⊢
          have hG3 : w1.grownBy W3 (some M) := (HW2.out.trans HG.out).trans hB0
          have hr3 : RdK W3 (some ⟨g, off, none⟩) L := rd_grown hr1 hG3 (by omega)
          have hA3 : Apart W3 M (60 * t + t) (midP L l t y t) := HA.out.kept hA0 (by simp)
          have hMr : M < wr.heap.size := HA.out.lt
          have hwr : W2.heap.size ≤ wr.heap.size := HG.out.size
          have kM := (grown_cell hB0 (p := ⟨w.heap.size, 0, none⟩) (by simp; omega) (by simp; omega)).trans cM
          have kY := (grown_cell hB0 (p := ⟨wq.heap.size, 0, none⟩) (by simp; omega) (by simp; omega)).trans cY
          have HMk3 : Hid (Marks w1.heap.size W3 wq.heap.size ds) := Marks.kept (Nat.lt_trans hM hs1) hB0 ds _ (Marks.kept (Nat.lt_trans hM hs1) HG.out ds _ HMk.out)
          have hob := Sg.oneI_bd (y : Int)
          clear cM cY HMk HG HA hA2 cy
          refine wpIn_rangeFunc_ownG rfl (by omega) (gf := 128) (lb := #[.pointer (some ⟨wr.heap.size + 1, 0, none⟩), .pointer (some ⟨wr.heap.size, 0, none⟩)]) rfl trivial (enters_of Try.func128 (by kernel_rfl) rfl)
            (Sg.under_stops 2 (by omega) (wr.heap.size + 1) wr.heap.size n₀ g off cap L hlc (oneI (y : Int)) hob.1 hob.2 hg W3 (by omega) (by omega) c1.1 c0' hr3) Sg.kpL_t (Sg.kpL_b (by omega) (by omega)) (Below.refl _ _) (fun _ => rfl)
            (fun pre W => W3.grownBy W (some M) ∧ Apart W M (60 * t + t) (delP L l t y pre))
            (fun _ _ _ => False)
            (fun s A B row hs hg hr => ⟨grown_own hs.1 hg (fun r e => (hr r e).1), hs.2.kept hg (fun e => by have := (hr M e.symm).1; omega)⟩)
            (fun _ _ _ _ _ hs _ _ => hs)
            ⟨below_grown (Below.refl _ W3) _, hA3.of (fun a b _ _ => (del_nil L l t y a b).symm)⟩
            (fun x => { tmps := #[.slice (some ⟨g, off, none⟩) L.length cap, .map (some M), .int .i64 S, undef, .pointer (some ⟨w.heap.size, 0, none⟩), undef, .slice (some ⟨gb, 0, none⟩) l.length bc, .int .i64 (t : Int), .pointer (some ⟨wq.heap.size, 0, none⟩), undef, u10, .int .i64 (x.val : Int), .int .i64 S, .func (.func 72) #[.int .i64 S] #[], .slice (some ⟨gb, 0, none⟩) l.length bc, .slice (some ⟨gb, 0, none⟩) l.length bc, .int .i64 (l.length : Int), .int .i64 (t : Int), .bool true, .int .i64 (t : Int), .pointer (some ⟨gb, t, none⟩), .int .i64 (y : Int), .slice (some ⟨gb, 0, none⟩) l.length bc, .int .i64 (t : Int), .slice (some ⟨gb, 0, none⟩) t bc, .int .i64 (t : Int), .int .i64 (t : Int), .bool false, u28, u29, u30, u31, u32, u33, u34, u35, u36, u37, u38, .slice (some ⟨g, off, none⟩) L.length cap, .int .i64 (y : Int), .int .i64 (oneI (y : Int)), .func (.func 128) #[] #[.pointer (some ⟨wr.heap.size + 1, 0, none⟩), .pointer (some ⟨wr.heap.size, 0, none⟩)], .int .i64 (x.val : Int), u44, u45, u46, u47, u48], defers := [] }) ?assign ?body ?done ?stop
          case assign =>
            intro ll x W K hK
            gi_wp2
            exact hK
          case body =>
            rintro ll pre x W ⟨hGW, hAW⟩ _
            have hx := x.isLt
            have cM := (grown_cell hGW (p := ⟨w.heap.size, 0, none⟩) (by simp; omega) (by simp; omega)).trans kM
            have cY := (grown_cell hGW (p := ⟨wq.heap.size, 0, none⟩) (by simp; omega) (by simp; omega)).trans kY
            obtain ⟨W', hd, hA', hG'⟩ := apart_drop hAW x.val y (by omega) (by omega) 0
            have HA' : Hid (Apart W' M (60 * t + t) (delP L l t y (pre ++ [x]))) := hA'.of (fun a b _ _ => (del_step L l t y pre x a b).symm)
            have HG' : Hid (W.grownBy W' (some M)) := hG'
            have HGW : Hid (W3.grownBy W (some M)) := hGW
            have hWs : W3.heap.size ≤ W.heap.size := hGW.size
            clear hAW hA' hG' hGW
            gi_wp2
            exact ⟨KeepsFrom.of_grownBy HG'.out (fun j e => by cases e; omega), ⟨(Below.refl n₀ W).grown HG'.out (by omega) (fun j e => by cases e; exact hn), HG'.out.block wr.heap.size (by omega) (fun e => by cases e; omega)⟩, HGW.out.trans HG'.out, HA'.out⟩
          case done =>
            rintro D ys W hD rfl ⟨hGW, hAW⟩ hK
            have hA4 : Apart W M (60 * (t + 1)) (doneP L l (t + 1)) := (hAW.mono (by omega)).of (fun a b _ _ => del_end hlc hri t y hlt hy hyl a b)
            have hG4 : w1.grownBy W (some M) := hG3.trans hGW
            have hM4 : Marks w1.heap.size W W.heap.size ({ target := .collected D, args := #[] } :: ds) := ⟨D, by omega, (Array.getElem?_eq_some_iff.1 hK).1, rfl, hK, Marks.mono (by omega) ds (Marks.kept (Nat.lt_trans hM hs1) hGW ds _ HMk3.out)⟩
            have HA4 : Hid (Apart W M (60 * (t + 1)) (doneP L l (t + 1))) := hA4
            have HG4 : Hid (w1.grownBy W (some M)) := hG4
            have HM4 : Hid (Marks w1.heap.size W W.heap.size ({ target := .collected D, args := #[] } :: ds)) := hM4
            clear hA4 hG4 hM4 hK hGW hAW
            gi_wp2
            exact ⟨⟨t + 1, _, _, _, _, _, _, _, _, _, _, _, _, _, _, _, _, _, _, _, _, _, _, _, _, _, _, _, _, _, _, _, _, _, _, _, _, ⟨by omega, HG4, HA4, HM4⟩, by simp; exact ⟨rfl, rfl, rfl, rfl, rfl, rfl, rfl, rfl, rfl, rfl, rfl, rfl, rfl, rfl, rfl, rfl, rfl, rfl, rfl, rfl, rfl, rfl, rfl, rfl, rfl, rfl, rfl, rfl, rfl, rfl, rfl, rfl, rfl, rfl, rfl⟩⟩, by simp [intOf]; omega⟩
          case stop =>
            rintro D c pre W _ _ h _
            exact h.elim
    · obtain rfl : i = l.length := by omega
      gi_wp2
      refine leaves_marks rfl w1.heap.size ds _ _ HG.out.size HM.out ?_
      intro w' hb
      have hG5 : w1.grownBy w' (some M) := grown_below HG.out hb
      exact ⟨rfl, hG1.trans hG5, _, by rw [HL.out]; exact apart_block HA.out (hb.block M (by omega))⟩

end Db
end Go.Proofs.Ytdcjjopeobnpgaa

namespace Go.Proofs.Ytdcjjopeobnpgaa
open Go.RowKit
set_option maxRecDepth 100000
namespace Db
open Kn (K okK)
open Bit (bit withB memTo)
open Lc (at' RdK WordsOk laceB setB amongI)
open Sg (isB bel belows)
open Memb (Own)

/-- one of the set is of that hand and doubled with one of the set -/
def hitB (L : List K) (s h : Int) (i : Nat) : Bool := bit s i && (decide ((at' L i).hand = h) && (bits .and .i64 (dblS L i L.length) s != 0))
def falseUp (L : List K) (s h : Int) (n : Nat) : Bool := (List.range n).any (hitB L s h)
theorem falseUp_succ (L : List K) (s h : Int) (n : Nat) : falseUp L s h (n + 1) = (falseUp L s h n || hitB L s h n) := by unfold falseUp; rw [List.range_succ]; simp
/-- the hand is false -/
def falseB (L : List K) (s h : Int) : Bool := falseUp L s h L.length
/-- the false ones of the first -/
def falseTo (L : List K) (s : Int) : Nat → List Int
  | 0 => []
  | n + 1 => falseTo L s n ++ if falseB L s (n : Int) then [(n : Int)] else []
/-- the document's FalseHands -/
def falseI (L : List K) (s : Int) : List Int := if setB L s then falseTo L s 4 else []

theorem falseTo_le (L : List K) (s : Int) (n : Nat) : (falseTo L s n).length ≤ n := by
  induction n with
  | zero => exact Nat.le_refl 0
  | succ n ih => unfold falseTo; split <;> simp <;> omega
theorem falseI_le (L : List K) (s : Int) : (falseI L s).length ≤ 4 := by
  unfold falseI; split
  · exact falseTo_le L s 4
  · simp

theorem false_iff {L : List K} (s h : Int) (hn : L.length ≤ 60) (h0 : 0 ≤ s) (h1 : s < 1152921504606846976) :
    falseB L s h = true ↔ ∃ i j, i < L.length ∧ j < L.length ∧ bit s i = true ∧ bit s j = true ∧ (at' L i).hand = h ∧ dblN L i j = true := by
  unfold falseB falseUp
  rw [List.any_eq_true]
  constructor
  · rintro ⟨i, hi, hh⟩
    rw [List.mem_range] at hi
    unfold hitB at hh
    simp only [Bool.and_eq_true, decide_eq_true_eq, bne_iff_ne] at hh
    obtain ⟨a, b, c⟩ := hh
    have hb := dblS_bd L i L.length hn
    obtain ⟨j, hj, hs⟩ := (Lc.and_zero_iff _ _ hb.1 (by omega) h0 (by omega)).1 c
    rw [bit_dblS L i _ hn, Bool.and_eq_true, decide_eq_true_eq] at hj
    exact ⟨i, j, hi, hj.1, a, hs, b, hj.2⟩
  · rintro ⟨i, j, hi, hj, a, b, c, d⟩
    refine ⟨i, List.mem_range.2 hi, ?_⟩
    have hb := dblS_bd L i L.length hn
    unfold hitB
    simp only [Bool.and_eq_true, decide_eq_true_eq, bne_iff_ne]
    refine ⟨a, c, (Lc.and_zero_iff _ _ hb.1 (by omega) h0 (by omega)).2 ⟨j, ?_, b⟩⟩
    rw [bit_dblS L i _ hn, d]; simp [hj]

theorem dblN_symm (L : List K) (i j : Nat) : dblN L i j = dblN L j i := by
  unfold dblN
  rw [show decide ((at' L j).hand = (at' L i).hand) = decide ((at' L i).hand = (at' L j).hand) from by rw [Bool.eq_iff_iff]; simp [eq_comm], Bool.and_comm (!bit (bel L i) j)]

/-- those of the set that are of that hand -/
def ofHand (L : List K) (s h : Int) : Int := amongI (fun y => decide (y.hand = h)) L s L.length

theorem mem_ofHand {L : List K} (hl : laceB L = true) (s h : Int) (a : Nat) : (a : Int) ∈ Memb.memI (ofHand L s h) ↔ a < L.length ∧ bit s a = true ∧ (at' L a).hand = h := by
  have h60 := ((Lc.lace_iff L).1 hl).1
  have hb := Lc.among_bd (fun y => decide (y.hand = h)) L s L.length h60
  unfold Memb.memI ofHand
  rw [(Base.okB_iff _).2 hb, if_pos rfl, Bit.mem_memTo]
  constructor
  · rintro ⟨j, _, e, hbit⟩
    obtain rfl : a = j := by omega
    rw [Lc.bit_among _ L s _ h60] at hbit
    simpa using hbit
  · rintro ⟨h1, h2, h3⟩
    exact ⟨a, by omega, rfl, by rw [Lc.bit_among _ L s _ h60]; simp [h1, h2, h3]⟩

theorem ofHand_in {L : List K} (hl : laceB L = true) (s h : Int) : ∀ x ∈ Memb.memI (ofHand L s h), 0 ≤ x ∧ x < (L.length : Int) := by
  intro x hx
  have h60 := ((Lc.lace_iff L).1 hl).1
  have hb := Lc.among_bd (fun y => decide (y.hand = h)) L s L.length h60
  have hx' := hx
  unfold Memb.memI ofHand at hx'
  rw [(Base.okB_iff _).2 hb, if_pos rfl, Bit.mem_memTo] at hx'
  obtain ⟨j, _, rfl, _⟩ := hx'
  have := ((mem_ofHand hl s h j).1 hx).1
  omega

theorem ofHand_rise {L : List K} (hl : laceB L = true) (s h : Int) : Rise (Memb.memI (ofHand L s h)) := by
  have h60 := ((Lc.lace_iff L).1 hl).1
  have hb := Lc.among_bd (fun y => decide (y.hand = h)) L s L.length h60
  unfold Memb.memI ofHand
  rw [(Base.okB_iff _).2 hb, if_pos rfl]
  exact rise_memTo _ _

/-- there are two that are apart just where the hand is false -/
theorem apart_false {L : List K} (hl : laceB L = true) (s h : Int) (h0 : 0 ≤ s) (h1 : s < 1152921504606846976) :
    (∃ a b, a < 60 ∧ b < 60 ∧ apartB L (Memb.memI (ofHand L s h)) a b = true) ↔ falseB L s h = true := by
  have h60 := ((Lc.lace_iff L).1 hl).1
  rw [false_iff s h h60 h0 h1]
  constructor
  · rintro ⟨a, b, _, _, hab⟩
    obtain ⟨hb, ha, hlt, hbit⟩ := (apart_iff L _ a b).1 hab
    obtain ⟨b1, b2, b3⟩ := (mem_ofHand hl s h b).1 hb
    obtain ⟨a1, a2, a3⟩ := (mem_ofHand hl s h a).1 ha
    refine ⟨b, a, b1, a1, b2, a2, b3, ?_⟩
    unfold dblN
    rw [b3, a3, hbit, bel_hi hl a1 hlt]; simp
  · rintro ⟨i, j, hi, hj, si, sj, hh, hd⟩
    have key : ∀ i j : Nat, i < j → i < L.length → j < L.length → bit s i = true → bit s j = true → (at' L i).hand = h → dblN L i j = true → ∃ a b, a < 60 ∧ b < 60 ∧ apartB L (Memb.memI (ofHand L s h)) a b = true := by
      intro i j hij hi hj si sj hh hd
      have hd' := hd
      unfold dblN at hd'
      simp only [Bool.and_eq_true, decide_eq_true_eq, Bool.not_eq_true'] at hd'
      refine ⟨i, j, by omega, by omega, (apart_iff L _ i j).2 ⟨(mem_ofHand hl s h j).2 ⟨hj, sj, by rw [← hd'.1]; exact hh⟩, (mem_ofHand hl s h i).2 ⟨hi, si, hh⟩, hij, hd'.2.2⟩⟩
    rcases Nat.lt_trichotomy i j with hlt | rfl | hgt
    · exact key i j hlt hi hj si sj hh hd
    · unfold dblN at hd
      rw [bel_self hl hi] at hd
      simp at hd
    · refine key j i hgt hj hi sj si ?_ (by rw [dblN_symm]; exact hd)
      unfold dblN at hd
      simp only [Bool.and_eq_true, decide_eq_true_eq] at hd
      rw [← hd.1]; exact hh

/-- the false ones found so far, as a set -/
def foundS (L : List K) (s : Int) : Nat → Int
  | 0 => 0
  | n + 1 => if falseB L s (n : Int) then withB (foundS L s n) n else foundS L s n

theorem foundS_bd (L : List K) (s : Int) (n : Nat) (hn : n ≤ 60) : 0 ≤ foundS L s n ∧ foundS L s n < 1152921504606846976 := by
  induction n with
  | zero => exact ⟨Int.le_refl 0, show (0 : Int) < 1152921504606846976 by decide⟩
  | succ n ih =>
    have ih := ih (by omega)
    unfold foundS
    split
    · exact Bit.withB_bd _ ih.1 ih.2 n (by omega)
    · exact ih

theorem bit_foundS (L : List K) (s : Int) (n : Nat) (hn : n ≤ 60) (j : Nat) : bit (foundS L s n) j = (decide (j < n) && falseB L s (j : Int)) := by
  induction n with
  | zero => unfold foundS; rw [Lc.bit_zero]; simp
  | succ n ih =>
    have ih := ih (by omega)
    have hb := foundS_bd L s n (by omega)
    unfold foundS
    cases hd : falseB L s (n : Int)
    · rw [if_neg (by simp), ih]
      by_cases e : j = n
      · subst e; simp [hd]
      · rw [show decide (j < n + 1) = decide (j < n) from by rw [Bool.eq_iff_iff]; simp; omega]
    · rw [if_pos rfl, Bit.bit_withB _ hb.1, ih]
      by_cases e : j = n
      · subst e; simp [hd]
      · rw [show decide (j < n + 1) = decide (j < n) from by rw [Bool.eq_iff_iff]; simp; omega]; simp [e]

theorem mem_foundS (L : List K) (s : Int) : Memb.memI (foundS L s 4) = falseTo L s 4 := by
  have hb := foundS_bd L s 4 (by omega)
  have hd : foundS L s 4 / 2 ^ 4 = 0 := Lc.div_of_bits _ 4 hb.1 fun i hi => by rw [bit_foundS L s 4 (by omega)]; simp; omega
  unfold Memb.memI
  rw [(Base.okB_iff _).2 hb, if_pos rfl, ← Bit.memTo_all _ hb.1 hb.2 4 hd]
  have : ∀ n, n ≤ 4 → memTo (foundS L s 4) n = falseTo L s n := by
    intro n
    induction n with
    | zero => intro _; rfl
    | succ n ih =>
      intro hn
      rw [Bit.memTo_succ, ih (by omega), bit_foundS L s 4 (by omega)]
      have : decide (n < 4) = true := by simp; omega
      rw [this]; rfl
  exact this 4 (by omega)

/-- the list that is handed back lies in memory of its own, apart from the table -/
theorem own_far {B gD : Nat} {w wr w1 : World} {v v' : Value} {o : Obj} {l l' : List Int} {x : Int} (hl : l' = l ++ [x]) (hB : B ≤ wr.heap.size) (hne : v.ownBlock ≠ some gD) (hgD : gD < wr.heap.size)
    (hown : wr.ownsRow B 2 1 v l.length (l.map (Value.int .i64))) (hnx : Below B w wr)
    (hown' : w1.ownsRow B 2 1 v' (l.length + 1) (l.map (Value.int .i64) ++ [.int .i64 x])) (hgrow : (wr.alloc o).grownBy w1 v.ownBlock) (hloc : v'.ownBlock = v.ownBlock ∨ v'.ownBlock = some (wr.heap.size + 1)) {n : Nat} {D : Nat → Int} (hD : RowI wr gD n D) :
    (w1.ownsRow B 2 1 v' l'.length (l'.map (Value.int .i64)) ∧ Below B w w1) ∧ v'.ownBlock ≠ some gD ∧ RowI w1 gD n D := by
  have R := Memb.rel_put hl hB hown hnx hown' hgrow
  have hg : wr.grownBy w1 v.ownBlock := (World.grownBy_alloc wr o _).trans hgrow
  have hblk : w1.heap[gD]? = wr.heap[gD]? := hg.block gD hgD (fun e => hne e.symm)
  refine ⟨⟨R.1, R.2.1⟩, ?_, ⟨Nat.lt_of_lt_of_le hgD hg.size, fun i hi => (World.cell?_of_block (w := wr) (a := ⟨gD, i, none⟩) hblk).trans (hD.rd i hi), fun i hi => (World.frozen?_of_block (w := wr) (a := ⟨gD, i, none⟩) hblk).trans (hD.fr i hi)⟩⟩
  rcases hloc with e | e
  · rw [e]; exact hne
  · rw [e]; simp; omega

set_option maxHeartbeats 6400000 in
theorem specFalseHands (g off cap : Nat) (L : List K) (s : Int) (w : World) (hcap : L.length ≤ cap) (hw : WordsOk L) (hr : RdK w (some ⟨g, off, none⟩) L) :
    Calls Try.prog 48 #[.slice (some ⟨g, off, none⟩) L.length cap, .int .i64 s] w (Sg.NumsPost (falseI L s) w) := by
  obtain ⟨i0, hi, hz0, hz1, hz2⟩ := info_parts Memb.info2
  have hB0 : Below w.heap.size w (w.alloc (.cells #[] 2)) := (Below.refl _ w).alloc (Nat.le_refl _) _
  have hO0 := Memb.own_empty w
  have hr0 := hr.below hB0
  have hs0 : w.heap.size < (w.alloc (.cells #[] 2)).heap.size := by simp
  go_enter Try.func48, Try.ntmps48
  go_wp2_with fail
  generalize w.alloc (.cells #[] 2) = W0 at hB0 hO0 hr0 hs0 ⊢
  refine (Lc.l3Set g off cap L s _ hcap hw hr0).mono ?_
  rintro e w1 ⟨rfl, hb1⟩
  have hr1 := hr0.below hb1
  have hB1 : Below w.heap.size w w1 := hB0.trans (hb1.mono hB0.size)
  have hO1 : Memb.Own w.heap.size w1 (some ⟨w.heap.size, 0, none⟩) 0 [] := Lst.own_below (l := []) hO0 hb1
  have hs1 : w.heap.size < w1.heap.size := Nat.lt_of_lt_of_le hs0 hb1.size
  have HR0 : Hid (RdK w (some ⟨g, off, none⟩) L) := hr
  clear hb1 hO0 hr0 hB0 hs0 hr
  cases hset : setB L s
  · have HT : Hid (falseI L s = []) := by show _ = _; unfold falseI; rw [hset]; rfl
    clear hset
    go_wp2
    go_ret
    rw [HT.out]
    exact ⟨_, _, rfl, hO1, hB1⟩
  · have HT : Hid (falseI L s = falseTo L s 4) := by show _ = _; unfold falseI; rw [hset]; rfl
    obtain ⟨hlc, q0, q1, _, h60, _⟩ := Lc.setB_parts hset
    have HLC : Hid (laceB L = true) := hlc
    clear hset hlc
    go_wp2_with fail
    refine (table g off cap L _ HLC.out hr1).mono ?_
    rintro e w2 ⟨bo, bc, rfl, hb2, h5⟩
    have hB2 := hB1.trans (hb2.mono hB1.size)
    have hO2 := Lst.own_below (l := []) hO1 hb2
    have hr2 := hr1.below hb2
    have hs2 : w.heap.size < w2.heap.size := Nat.lt_of_lt_of_le hs1 hb2.size
    clear hb2 hB1 hO1 hr1 hs1
    go_wp2_with fail
    refine h5.mono ?_
    rintro e w3 ⟨D, rfl, hrow, hD, hb3⟩
    have hB3 := hB2.trans (hb3.mono hB2.size)
    have hO3 := Lst.own_below (l := []) hO2 hb3
    have hr3 := hr2.below hb3
    have HD : Hid (∀ i, i < L.length → D i = dblS L i L.length) := fun i hi => dbl_eq HLC.out hD hi
    have hgs : w.heap.size ≤ w2.heap.size := Nat.le_of_lt hs2
    have hne0 : w.heap.size ≠ w2.heap.size := by omega
    clear hb3 hB2 hO2 hr2 hD h5 hs2
    generalize w2.heap.size = gD at hrow hgs hne0 ⊢
    have HB3 : Hid (Below w.heap.size w w3) := hB3
    have HO3 : Hid (Memb.Own w.heap.size w3 (some ⟨w.heap.size, 0, none⟩) 0 []) := hO3
    have HRow : Hid (RowI w3 gD L.length D) := hrow
    clear hr3 hB3 hO3 hrow
    go_wp2
    go_loopw [5, 7] (fun v h wr => ∃ k : Nat, k ≤ 4 ∧ h = .int .i64 (k : Int) ∧ Hid (wr.ownsRow w.heap.size 2 1 v (falseTo L s k).length ((falseTo L s k).map (Value.int .i64))) ∧ Hid (Below w.heap.size w wr) ∧ Hid (v.ownBlock ≠ some gD) ∧ Hid (RowI wr gD L.length D)) (fun _ h _ => 4 - (intOf h).toNat)
    case atStart => exact ⟨0, by omega, rfl, HO3.out, HB3, fun e => by cases e; exact hne0 rfl, HRow⟩
    case round =>
      obtain ⟨k, hk, rfl, HO, HB, HN, HW⟩ := hrel
      obtain ⟨wq, hwq⟩ : ∃ wq, wq = wr := ⟨_, rfl⟩
      subst hwq
      by_cases hlt : k < 4
      · have hrk := HR0.out.below HB.out
        have hle := falseTo_le L s k
        have hnn : wq.heap.size ≥ w.heap.size := HB.out.size
        have hk4 : decide ((k : Int) < 4) = true := by simp; omega
        go_wp2
        try rw [hk4]
        go_loopw [8, 9] (fun b i wz => ∃ j : Nat, j ≤ L.length ∧ i = .int .i64 (j : Int) ∧ b = .bool (falseUp L s (k : Int) j) ∧ wz = wq) (fun _ i _ => L.length - (intOf i).toNat)
        case atStart => exact ⟨0, by omega, rfl, rfl, rfl⟩
        case round =>
          obtain ⟨j, hj, rfl, rfl, hwz⟩ := hrel
          subst hwz
          by_cases hjl : j < L.length
          · have HS : Hid (falseUp L s (k : Int) (j + 1) = (falseUp L s (k : Int) j || hitB L s (k : Int) j)) := falseUp_succ L s _ j
            cases hu : falseUp L s (k : Int) j
            · obtain ⟨_, c0, _, _, _⟩ := hrk.on j hjl
              have cd := HW.out.rd j hjl
              rw [HD.out j hjl] at cd
              have HH : Hid (hitB L s (k : Int) j = (bit s j && (decide ((at' L j).hand = (k : Int)) && (bits .and .i64 (dblS L j L.length) s != 0)))) := rfl
              cases hb : bit s j
              · have HT2 : Hid (falseUp L s (k : Int) (j + 1) = false) := by show _ = _; rw [HS.out, hu, HH.out, hb]; rfl
                have HC : Hid (bit s j = false) := hb
                clear hb hu HS HH
                go_wp2_with (go_at_call 79; refine (Base.l1Has _ _ _ q0 q1 (by omega) (by omega)).mono ?_; rintro e w' ⟨rfl, rfl⟩; rw [Int.toNat_natCast, HC.out])
                go_roundw
                case rel => exact ⟨j + 1, by omega, by go_num, by rw [HT2.out], by first | rfl | trivial⟩
                case measure => simp [intOf]; omega
              · have HC : Hid (bit s j = true) := hb
                by_cases hh : (at' L j).hand = (k : Int)
                · have hh1 : ((at' L j).hand == (k : Int)) = true := by simpa using hh
                  have HT2 : Hid (falseUp L s (k : Int) (j + 1) = (bits .and .i64 (dblS L j L.length) s != 0)) := by show _ = _; rw [HS.out, hu, HH.out, hb]; simp [hh]
                  clear hb hu HS HH hh
                  generalize dblS L j L.length = d at cd HT2
                  cases hz : (bits .and .i64 d s != 0)
                  · have HT3 : Hid (falseUp L s (k : Int) (j + 1) = false) := HT2.out.trans hz
                    clear HT2
                    go_wp2_with (go_at_call 79; refine (Base.l1Has _ _ _ q0 q1 (by omega) (by omega)).mono ?_; rintro e w' ⟨rfl, rfl⟩; rw [Int.toNat_natCast, HC.out])
                    go_roundw
                    case rel => exact ⟨j + 1, by omega, by go_num, by rw [HT3.out], by first | rfl | trivial⟩
                    case measure => simp [intOf]; omega
                  · have HT3 : Hid (falseUp L s (k : Int) (j + 1) = true) := HT2.out.trans hz
                    clear HT2
                    go_wp2_with (go_at_call 79; refine (Base.l1Has _ _ _ q0 q1 (by omega) (by omega)).mono ?_; rintro e w' ⟨rfl, rfl⟩; rw [Int.toNat_natCast, HC.out])
                    go_roundw
                    case rel => exact ⟨j + 1, by omega, by go_num, by rw [HT3.out], by first | rfl | trivial⟩
                    case measure => simp [intOf]; omega
                · have hh1 : ((at' L j).hand == (k : Int)) = false := by simpa using hh
                  have HT2 : Hid (falseUp L s (k : Int) (j + 1) = false) := by show _ = _; rw [HS.out, hu, HH.out, hb]; simp [hh]
                  clear hb hu HS HH hh
                  go_wp2_with (go_at_call 79; refine (Base.l1Has _ _ _ q0 q1 (by omega) (by omega)).mono ?_; rintro e w' ⟨rfl, rfl⟩; rw [Int.toNat_natCast, HC.out])
                  go_roundw
                  case rel => exact ⟨j + 1, by omega, by go_num, by rw [HT2.out], by first | rfl | trivial⟩
                  case measure => simp [intOf]; omega
            · have HT2 : Hid (falseUp L s (k : Int) (j + 1) = true) := by show _ = _; rw [HS.out, hu]; rfl
              clear hu HS
              go_wp2
              go_roundw
              case rel => exact ⟨j + 1, by omega, by go_num, by rw [HT2.out], by first | rfl | trivial⟩
              case measure => simp [intOf]; omega
          · obtain rfl : j = L.length := by omega
            have HF : Hid (falseTo L s (k + 1) = falseTo L s k ++ if falseUp L s (k : Int) L.length then [(k : Int)] else []) := rfl
            clear hrk
            cases hu : falseUp L s (k : Int) L.length
            · have HF2 : Hid (falseTo L s (k + 1) = falseTo L s k) := by show _ = _; rw [HF.out, hu]; simp
              clear hu HF
              go_wp2
              go_roundw
              case rel => exact ⟨k + 1, by omega, by go_num, by rw [HF2.out]; exact HO, HB, HN, HW⟩
              case measure => simp [intOf]; omega
            · have HF2 : Hid (falseTo L s (k + 1) = falseTo L s k ++ [(k : Int)]) := by show _ = _; rw [HF.out, hu]; simp
              have HOA : Hid (∀ o : Obj, (wr.alloc o).ownsRow w.heap.size 2 1 u5 (falseTo L s k).length ((falseTo L s k).map (Value.int .i64))) := fun o => HO.out.alloc o
              clear hu HF
              generalize falseTo L s k = l at HF2 HO HOA hle
              go_wp2_with (at_builtin; refine wpList_append_own_at _ rfl _ _ 42 rfl w.heap.size 2 i0 (.int .i64 0) 1 8 Try.underlying42 hi hz0 hz1 hz2 rfl (by decide) _ _ _ rfl (HOA.out _) ⟨wr.heap.size, 0, none⟩ 1 1 [.int .i64 (k : Int)] rfl rfl (Sg.one_new wr _ _) (Sg.one_one _) ?c3 ?c4 ?c5 ?_)
              case c3 => unfold maxLen; omega
              case c4 => omega
              case c5 => simp; omega
              intro v' w4 hown' hgrow _ hloc
              have R := own_far HF2.out HB.out.size HN.out HW.out.lt HO.out HB.out hown' hgrow hloc HW.out
              have HO1 : Hid _ := R.1.1
              have HB1 : Hid _ := R.1.2
              have HN1 : Hid _ := R.2.1
              have HW1 : Hid _ := R.2.2
              clear hown' hgrow hloc R HO HB HN HW HOA
              go_wp2
              go_roundw
              case rel => exact ⟨k + 1, by omega, by go_num, HO1, HB1, HN1, HW1⟩
              case measure => simp [intOf]; omega
      · obtain rfl : k = 4 := by omega
        obtain ⟨ro, rc, hv, hown⟩ := Memb.own_shape HO.out
        have HV : Hid (u5 = .slice ro (falseTo L s 4).length rc) := hv
        clear hv
        go_wp2
        go_ret
        rw [HT.out]
        exact ⟨ro, rc, by rw [← HV.out]; rfl, hown, HB.out⟩

end Db
end Go.Proofs.Ytdcjjopeobnpgaa

namespace Go.Proofs.Ytdcjjopeobnpgaa
open Go.RowKit
open Go.ChangeMaps (setBlock)
set_option maxRecDepth 100000
namespace Db
open Kn (K okK)
open Bit (bit withB)
open Lc (at' RdK WordsOk laceB setB amongI among_bd)


set_option maxHeartbeats 1600000 in
theorem amongHand (g off cap : Nat) (L : List K) (s : Int) (kb : Nat) (r : Int) (w : World) (hL : L.length ≤ 60) (hs : Base.okB s = true) (hr : RdK w (some ⟨g, off, none⟩) L) (hkb : kb < w.heap.size) (hk : w.cell? ⟨kb, 0, none⟩ = some (.int .i64 r)) :
    Calls Try.prog 104 #[.slice (some ⟨g, off, none⟩) L.length cap, .int .i64 s, .func (.func 117) #[] #[.pointer (some ⟨kb, 0, none⟩)]] w fun e w' =>
      e = .returned (.int .i64 (amongI (fun y => decide (y.hand = r)) L s L.length)) ∧ Below w.heap.size w w' := by
  go_enter Try.func104, Try.ntmps104
  go_wp2
  go_loopw [7, 12] (fun o i wr => ∃ j : Nat, j ≤ L.length ∧ i = .int .i64 j ∧ o = .int .i64 (amongI (fun y => decide (y.hand = r)) L s j) ∧ Hid (Below w.heap.size w wr)) (fun _ i _ => L.length - (intOf i).toNat)
  case atStart => exact ⟨0, by omega, rfl, rfl, Below.refl _ _⟩
  case round =>
    obtain ⟨j, hj, rfl, rfl, HB⟩ := hrel
    by_cases hlt : j < L.length
    · obtain ⟨hg, hc⟩ := hr.on j hlt
      obtain ⟨c0, c1, c2, c3⟩ := hc.below HB.out hg
      have HO : Hid (Base.okB s = true) := hs
      have hin : Base.inB (j : Int) = true := (Base.inB_iff _).2 ⟨by omega, by omega⟩
      have HA : Hid (amongI (fun y => decide (y.hand = r)) L s (j + 1) = if bit s j && (fun y => decide (y.hand = r)) (at' L j) then withB (amongI (fun y => decide (y.hand = r)) L s j) j else amongI (fun y => decide (y.hand = r)) L s j) := rfl
      have hbd := among_bd (fun y => decide (y.hand = r)) L s j (by omega)
      have HW : Hid (Base.withI (amongI (fun y => decide (y.hand = r)) L s j) (j : Int) = withB (amongI (fun y => decide (y.hand = r)) L s j) j) := by
        show _ = _
        unfold Base.withI
        rw [(Base.okB_iff _).2 hbd, hin]; simp
      have HN : Hid (Below w.heap.size w (wr.alloc (.cells #[.int .i64 (at' L j).hand, .int .i64 (at' L j).round, .int .i64 (at' L j).frm, .string (at' L j).word] 58))) := HB.out.alloc HB.out.size _
      clear hbd
      generalize amongI (fun y => decide (y.hand = r)) L s j = x at HA HW ⊢
      cases hb : bit s j
      · have HH : Hid ((Base.okB s && (Base.inB (j : Int) && bit s j)) = false) := by show _ = _; simp [hb]
        have HD : Hid (amongI (fun y => decide (y.hand = r)) L s (j + 1) = x) := by show _ = _; rw [HA.out, hb]; simp
        clear hb HA HW hin
        go_wp2_with (go_at_call 72; refine (Base.has _ _ _).mono ?_; rintro e w' ⟨rfl, rfl⟩; rw [Int.toNat_natCast, HH.out])
        go_roundw
        case rel => exact ⟨j + 1, by omega, by go_num, by rw [HD.out], HN⟩
        case measure => simp [intOf]; omega
      · have HH : Hid ((Base.okB s && (Base.inB (j : Int) && bit s j)) = true) := by show _ = _; simp [hb, hin, HO.out]
        have d1 := (HB.out.cell (p := ⟨kb, 0, none⟩) hkb).trans hk
        have hkb2 : kb < wr.heap.size := Nat.lt_of_lt_of_le hkb HB.out.size
        have HM : Hid (∀ o : Obj, Below w.heap.size w ((wr.alloc (.cells #[.int .i64 (at' L j).hand, .int .i64 (at' L j).round, .int .i64 (at' L j).frm, .string (at' L j).word] 58)).alloc o)) := fun o => HN.out.alloc HN.out.size o
        by_cases hq : (at' L j).hand = r
        · have HD : Hid (amongI (fun y => decide (y.hand = r)) L s (j + 1) = withB x j) := by show _ = _; rw [HA.out, hb]; simp [hq]
          have hq1 : ((at' L j).hand == r) = true := by simpa using hq
          clear hq
          clear hb HA hin HN
          go_wp2_with (first | (go_at_call 72; refine (Base.has _ _ _).mono ?_; rintro e w' ⟨rfl, rfl⟩; rw [Int.toNat_natCast, HH.out]) | (go_at_call 102; refine (Base.withM _ _ _).mono ?_; rintro e w' ⟨rfl, rfl⟩; rw [HW.out]) | go_in)
          go_roundw
          case rel => exact ⟨j + 1, by omega, by go_num, by rw [HD.out], HM.out _⟩
          case measure => simp [intOf]; omega
        · have HD : Hid (amongI (fun y => decide (y.hand = r)) L s (j + 1) = x) := by show _ = _; rw [HA.out, hb]; simp [hq]
          have hq1 : ((at' L j).hand == r) = false := by simpa using hq
          clear hq
          clear hb HA hin HN
          go_wp2_with (first | (go_at_call 72; refine (Base.has _ _ _).mono ?_; rintro e w' ⟨rfl, rfl⟩; rw [Int.toNat_natCast, HH.out]) | go_in)
          go_roundw
          case rel => exact ⟨j + 1, by omega, by go_num, by rw [HD.out], HM.out _⟩
          case measure => simp [intOf]; omega
    · obtain rfl : j = L.length := by omega
      go_wp2
      go_ret
      exact ⟨rfl, HB.out⟩

theorem own_base {B B' : Nat} {w : World} {ao : Option Addr} {cap : Nat} {l : List Int} (h : Memb.Own B w ao cap l) (hB : B' ≤ B) : Memb.Own B' w ao cap l := by
  obtain ⟨h1, h2 | ⟨g, cp, cur, e, hg, r⟩⟩ := h
  · exact ⟨h1, .inl h2⟩
  · exact ⟨h1, .inr ⟨g, cp, cur, e, Nat.le_trans hB hg, r⟩⟩

set_option maxHeartbeats 3200000 in
theorem falseHands (g off cap : Nat) (L : List K) (s : Int) (w : World) (hlc : laceB L = true) (q0 : 0 ≤ s) (q1 : s < 1152921504606846976) (hg : g < w.heap.size) (hr : RdK w (some ⟨g, off, none⟩) L) :
    Calls Try.prog 94 #[.slice (some ⟨g, off, none⟩) L.length cap, .int .i64 s] w (Sg.NumsPost (falseTo L s 4) w) := by
  have h60 := ((Lc.lace_iff L).1 hlc).1
  have hok : Base.okB s = true := (Base.okB_iff _).2 ⟨q0, q1⟩
  have hmm := @run_makeMap Try.prog
  have hA0 := apart_made w
  have hB0 : Below w.heap.size w (w.alloc (.map #[] 0)) := (Below.refl _ w).alloc (Nat.le_refl _) _
  go_enter Try.func94, Try.ntmps94
  go_wp2
  go_loopw [5, 9] (fun f i wr => ∃ (k c : Nat), k ≤ 4 ∧ i = .int .i64 (k : Int) ∧ f = .int .i64 (foundS L s k) ∧ Hid (Below w.heap.size w wr) ∧ ∃ S, Hid (Apart wr w.heap.size c S)) (fun _ i _ => 4 - (intOf i).toNat)
  case atStart => exact ⟨0, 0, by omega, rfl, rfl, hB0, _, hA0⟩
  case round =>
    obtain ⟨k, c, hk, rfl, rfl, HB, S, HA⟩ := hrel
    by_cases hlt : k < 4
    · have hk4 : decide ((k : Int) < 4) = true := by simp; omega
      have hbd := foundS_bd L s k (by omega)
      have HS : Hid (foundS L s (k + 1) = if falseB L s (k : Int) then withB (foundS L s k) k else foundS L s k) := rfl
      have HW : Hid (Base.withI (foundS L s k) (k : Int) = withB (foundS L s k) k) := by
        show _ = _
        unfold Base.withI
        rw [(Base.okB_iff _).2 hbd, (Base.inB_iff _).2 ⟨by omega, by omega⟩]; simp
      clear hbd
      generalize foundS L s k = x at HS HW ⊢
      have hA1 := HA.out.kept (World.grownBy_alloc wr (.cells #[.int .i64 (k : Int)] 55) none) (by simp)
      have hB1 : Below w.heap.size w (wr.alloc (.cells #[.int .i64 (k : Int)] 55)) := HB.out.alloc HB.out.size _
      have ck := (Sg.boxNew wr (.int .i64 (k : Int)) 55).1
      obtain ⟨w2, hcl, hA2, hG2⟩ := apart_clear hA1 0
      have hsz : wr.heap.size < (wr.alloc (.cells #[.int .i64 (k : Int)] 55)).heap.size := by simp
      have hM := HA.out.lt
      have HB2 : Hid (Below w.heap.size w w2) := hB1.grown hG2 hB1.size (fun j e => by cases e; exact Nat.le_refl _)
      have ck2 : w2.cell? ⟨wr.heap.size, 0, none⟩ = some (.int .i64 (k : Int)) := (grown_cell hG2 (p := ⟨wr.heap.size, 0, none⟩) hsz (by simp; omega)).trans ck
      have hs2 : wr.heap.size < w2.heap.size := Nat.lt_of_lt_of_le hsz hG2.size
      have HA2 : Hid (Apart w2 w.heap.size 0 (fun _ _ => false)) := hA2
      clear hA1 hB1 ck hA2 hG2 hsz HB HA
      go_wp2_with fail
      refine (amongHand g off cap L s wr.heap.size (k : Int) _ h60 hok (hr.below HB2.out) hs2 ck2).mono ?_
      rintro e w3 ⟨rfl, hb3⟩
      have HB3 : Hid (Below w.heap.size w w3) := HB2.out.trans (hb3.mono HB2.out.size)
      have ck3 := (hb3.cell (p := ⟨wr.heap.size, 0, none⟩) hs2).trans ck2
      have hA3 := HA2.out.kept (below_grown hb3 none) (by simp)
      have hs3 : wr.heap.size < w3.heap.size := Nat.lt_of_lt_of_le hs2 hb3.size
      clear hb3 HB2 ck2 HA2 hcl hs2
      have hput := putApart w.heap.size g off cap w.heap.size L (ofHand L s (k : Int)) w3 hlc (ofHand_in hlc s _) (ofHand_rise hlc s _) hg (Nat.le_refl _) (hr.below HB3.out) hA3
      have HI : Hid ((∃ a b, a < 60 ∧ b < 60 ∧ apartB L (Memb.memI (ofHand L s (k : Int))) a b = true) ↔ falseB L s (k : Int) = true) := apart_false hlc s _ q0 q1
      unfold ofHand at hput HI
      go_wp2_with fail
      refine hput.mono ?_
      rintro e w4 ⟨rfl, hG4, c4, hA4⟩
      have HB4 : Hid (Below w.heap.size w w4) := HB3.out.grown hG4 HB3.out.size (fun j e => by cases e; exact Nat.le_refl _)
      have ck4 := (grown_cell hG4 (p := ⟨wr.heap.size, 0, none⟩) hs3 (by simp; omega)).trans ck3
      obtain ⟨n4, hlen, hn4⟩ := apart_len hA4 3
      have HA4 : Hid (Apart w4 w.heap.size c4 _) := hA4
      clear hput hG4 hA4 ck3 HB3 hA3 hs3
      cases hf : falseB L s (k : Int)
      · have HD : Hid (foundS L s (k + 1) = x) := by show _ = _; rw [HS.out, hf]; rfl
        obtain rfl : n4 = 0 := by
          apply Classical.byContradiction
          intro hne
          have := HI.out.1 (hn4.1 (by omega))
          rw [hf] at this; exact Bool.noConfusion this
        clear hf HS HW hn4 HI
        go_wp2
        go_roundw
        case rel => exact ⟨k + 1, c4, by omega, by go_num, by rw [HD.out], HB4, _, HA4⟩
        case measure => simp [intOf]; omega
      · have HD : Hid (foundS L s (k + 1) = withB x k) := by show _ = _; rw [HS.out, hf]; rfl
        have hpos : 0 < n4 := hn4.2 (HI.out.2 hf)
        have hpos' : decide ((0 : Int) < (n4 : Int)) = true := by simp; omega
        clear hf HS hn4 HI
        go_wp2_with (go_at_call 102; refine (Base.withM _ _ _).mono ?_; rintro e w' ⟨rfl, rfl⟩; rw [HW.out])
        go_roundw
        case rel => exact ⟨k + 1, c4, by omega, by go_num, by rw [HD.out], HB4, _, HA4⟩
        case measure => simp [intOf]; omega
    · obtain rfl : k = 4 := by omega
      have HM : Hid (Memb.memI (foundS L s 4) = falseTo L s 4) := mem_foundS L s
      go_wp2_with (go_at_call 101; refine (Memb.picked _ _).mono ?_; rintro e w' ⟨ao, ac, rfl, hown, hb⟩; rw [HM.out] at hown ⊢)
      go_ret
      exact ⟨ao, ac, rfl, own_base hown HB.out.size, HB.out.trans (hb.mono HB.out.size)⟩

set_option maxHeartbeats 1600000 in
theorem implFalseHands (g off cap : Nat) (L : List K) (s : Int) (w : World) (hlen : L.length ≤ 1099511627776) (hw : WordsOk L) (h0 : -9223372036854775808 ≤ s) (h1 : s ≤ 9223372036854775807) (hr : RdK w (some ⟨g, off, none⟩) L) :
    Calls Try.prog 46 #[.slice (some ⟨g, off, none⟩) L.length cap, .int .i64 s] w (Sg.NumsPost (falseI L s) w) := by
  go_enter Try.func46, Try.ntmps46
  go_wp2_with fail
  refine (Lc.laceOf g off cap L _ hlen hw hr).mono ?_
  rintro e w1 (⟨hl, g', rfl, hg', hrg, hb1⟩ | ⟨hl, rfl, hb1⟩)
  · have h60 := ((Lc.lace_iff L).1 hl).1
    have HLC : Hid (laceB L = true) := hl
    have HS : Hid (setB L s = Lc.inL L.length s) := by show _ = _; rw [Lc.setB_eq, hl]; rfl
    clear hl
    cases hin : Lc.inL L.length s
    · have HT : Hid (falseI L s = []) := by show _ = _; unfold falseI; rw [HS.out, hin]; rfl
      have HIN : Hid (Lc.inL L.length s = false) := hin
      have hO : Memb.Own w.heap.size (w1.alloc (.cells #[] 2)) (some ⟨w1.heap.size, 0, none⟩) 0 [] := own_base (Memb.own_empty w1) hb1.size
      have hB : Below w.heap.size w (w1.alloc (.cells #[] 2)) := hb1.alloc hb1.size _
      clear hin HS
      go_wp2_with (go_at_call 93; refine (Lc.holds _ _ _ s _ h60 h0 h1).mono ?_; rintro e w' ⟨rfl, rfl⟩; rw [HIN.out])
      go_ret
      rw [HT.out]
      exact ⟨_, _, rfl, hO, hB⟩
    · have HT : Hid (falseI L s = falseTo L s 4) := by show _ = _; unfold falseI; rw [HS.out, hin]; rfl
      have HIN : Hid (Lc.inL L.length s = true) := hin
      have hset : setB L s = true := HS.out.trans hin
      obtain ⟨_, q0, q1, _, _, _⟩ := Lc.setB_parts hset
      clear hin HS hset
      go_wp2_with (first | (go_at_call 93; refine (Lc.holds _ _ _ s _ h60 h0 h1).mono ?_; rintro e w' ⟨rfl, rfl⟩; rw [HIN.out]) | fail)
      refine (falseHands g' 0 L.length L s _ HLC.out q0 q1 hg' hrg).mono ?_
      rintro e w2 ⟨ao, ac, rfl, hown, hb2⟩
      have B2 := hb1.trans (hb2.mono hb1.size)
      have hO := own_base hown hb1.size
      clear hb1 hb2 hrg hg' hown
      go_wp2
      go_ret
      rw [HT.out]
      exact ⟨ao, ac, rfl, hO, B2⟩
  · have HT : Hid (falseI L s = []) := by show _ = _; unfold falseI; rw [Lc.setB_eq, hl]; rfl
    have hO : Memb.Own w.heap.size (w1.alloc (.cells #[] 2)) (some ⟨w1.heap.size, 0, none⟩) 0 [] := own_base (Memb.own_empty w1) hb1.size
    have hB : Below w.heap.size w (w1.alloc (.cells #[] 2)) := hb1.alloc hb1.size _
    clear hl
    go_wp2
    go_ret
    rw [HT.out]
    exact ⟨_, _, rfl, hO, hB⟩

end Db
end Go.Proofs.Ytdcjjopeobnpgaa

namespace Go.Proofs.Ytdcjjopeobnpgaa
open Go.RowKit
set_option maxRecDepth 100000
namespace Rm
open Kn (K okK)
open Bit (bit memTo)
open Lc (at' RdK laceB flat OwnK cellsOf setB)
open Sg (bel belows orB closedB tipsI tipsTo closedTo seesB belowI isB)
open Cur (At)

theorem code_below2 {w w' : World} {a : Option Addr} {len : Nat} (h : Cur.Code w a len) (hb : Below w.heap.size w w') : Cur.Code w' a len := by
  rcases h with h | ⟨b, off, ha, hlt, hc⟩
  · exact .inl h
  · refine .inr ⟨b, off, ha, Nat.lt_of_lt_of_le hlt hb.size, fun j hj => ?_⟩
    obtain ⟨z, hz, hz'⟩ := hc j hj
    exact ⟨z, (hb.cell (p := ⟨b, off + j, none⟩) hlt).trans hz, hz'⟩

/-- a list that lies there -/
structure LiesS (w : World) (g : Nat) (L : List K) : Prop where
  rd : RdK w (some ⟨g, 0, none⟩) L
  len : L.length ≤ 61
  words : Lc.WordsOk L

theorem LiesS.below {w w' : World} {g : Nat} {L : List K} (h : LiesS w g L) (hb : Below w.heap.size w w') : LiesS w' g L := ⟨h.rd.below hb, h.len, h.words⟩

theorem drawn_liesS {B : Nat} {w w' : World} {v : Value} {L : List K} (h : Drawn B w w' v L) : ∃ g cp, v = .slice (some ⟨g, 0, none⟩) L.length cp ∧ L.length ≤ cp ∧ LiesS w' g L := by
  obtain ⟨g, cp, rfl, hcp, _, _, _, hrd, _⟩ := Lc.ownK_shape h.own
  exact ⟨g, cp, rfl, hcp, hrd, h.len, fun k hk => by have := h.word k hk; omega⟩

/-- all that hangs below those -/
def accT (L : List K) (l : List Int) : Int := l.foldl (fun a x => orB a (bel L x.toNat)) 0
theorem accT_snoc (L : List K) (l : List Int) (x : Int) : accT L (l ++ [x]) = orB (accT L l) (bel L x.toNat) := by simp [accT]

theorem accT_fold (L : List K) (l : List Int) (hl : ∀ x ∈ l, x.toNat < 60) : ∀ f : Int, 0 ≤ f → f < 1152921504606846976 →
    (0 ≤ l.foldl (fun a x => orB a (bel L x.toNat)) f ∧ l.foldl (fun a x => orB a (bel L x.toNat)) f < 1152921504606846976) ∧ ∀ j, bit (l.foldl (fun a x => orB a (bel L x.toNat)) f) j = (bit f j || l.any (fun x => bit (bel L x.toNat) j)) := by
  induction l with
  | nil => intro f h0 h1; exact ⟨⟨h0, h1⟩, fun j => by simp⟩
  | cons x l ih =>
    intro f h0 h1
    have hb := Sg.bel_bd L x.toNat (hl x (List.mem_cons_self ..))
    have ho := Sg.orB_bd f (bel L x.toNat) h0 h1 hb.1 hb.2
    have r := ih (fun y hy => hl y (List.mem_cons_of_mem _ hy)) (orB f (bel L x.toNat)) ho.1 ho.2
    refine ⟨r.1, fun j => ?_⟩
    show bit (l.foldl (fun a x => orB a (bel L x.toNat)) (orB f (bel L x.toNat))) j = _
    rw [r.2 j, Sg.bit_orB _ _ h0 hb.1, List.any_cons, Bool.or_assoc]

theorem accT_bd (L : List K) (l : List Int) (hl : ∀ x ∈ l, x.toNat < 60) : 0 ≤ accT L l ∧ accT L l < 1152921504606846976 := (accT_fold L l hl 0 (by omega) (by omega)).1
theorem bit_accT (L : List K) (l : List Int) (hl : ∀ x ∈ l, x.toNat < 60) (j : Nat) : bit (accT L l) j = l.any (fun x => bit (bel L x.toNat) j) := by
  rw [show accT L l = l.foldl (fun a x => orB a (bel L x.toNat)) 0 from rfl, (accT_fold L l hl 0 (by omega) (by omega)).2 j, Lc.bit_zero]; rfl

/-- what the law knows of a closed set -/
structure ClosedIs (L : List K) (s : Int) : Prop where
  lace : laceB L = true
  s0 : 0 ≤ s
  s1 : s < 1152921504606846976
  top : s / 2 ^ L.length = 0
  cl : closedTo (belows L L.length) s L.length = true

theorem closedIs {L : List K} {s : Int} (h : closedB L s = true) : ClosedIs L s := by
  unfold Sg.closedB at h
  rw [Bool.and_eq_true] at h
  obtain ⟨hl, h0, h1, ht, _, _⟩ := Lc.setB_parts h.1
  exact ⟨hl, h0, h1, ht, h.2⟩

theorem in_len {L : List K} {s : Int} (h : ClosedIs L s) {j : Nat} (hj : bit s j = true) : j < L.length := by
  apply Classical.byContradiction
  intro hn
  rw [Lc.bit_hi s L.length h.s0 h.top j (by omega)] at hj
  exact Bool.noConfusion hj

theorem tips_iff {L : List K} {s : Int} (h : ClosedIs L s) (j : Nat) : bit (tipsTo (belows L L.length) s L.length) j = true ↔ bit s j = true ∧ ∀ i, i < L.length → bit s i = true → j ≠ i → bit (bel L i) j = false :=
  Sg.bit_tips L s L.length L.length (Nat.le_refl _) ((Lc.lace_iff L).1 h.lace).1 h.s0 h.s1 j

/-- each one of the set hangs below a tip -/
theorem below_tip {L : List K} {s : Int} (h : ClosedIs L s) : ∀ (d i j : Nat), L.length - i = d → bit s i = true → bit (bel L i) j = true → ∃ x, bit (tipsTo (belows L L.length) s L.length) x = true ∧ bit (bel L x) j = true := by
  intro d
  induction d using Nat.strongRecOn with
  | _ d ih =>
    intro i j hd hi hb
    have hil := in_len h hi
    by_cases ht : bit (tipsTo (belows L L.length) s L.length) i = true
    · exact ⟨i, ht, hb⟩
    · have : ∃ i', i' < L.length ∧ bit s i' = true ∧ i ≠ i' ∧ bit (bel L i') i = true := by
        apply Classical.byContradiction
        intro hn
        refine ht ((tips_iff h i).2 ⟨hi, fun i' h1 h2 h3 => ?_⟩)
        cases hq : bit (bel L i') i
        · rfl
        · exact absurd ⟨i', h1, h2, h3, hq⟩ hn
      obtain ⟨i', h1, h2, h3, h4⟩ := this
      have hle := Sg.reach_le h.lace h1 ((Sg.bel_reach h.lace i' h1 i).1 h4)
      exact ih (L.length - i') (by omega) i' j rfl h2 (Sg.bel_trans h.lace h1 h4 hb)

theorem tips_mem {L : List K} {s : Int} (h : ClosedIs L s) {x : Int} (hx : x ∈ Memb.memI (tipsTo (belows L L.length) s L.length)) : ∃ j : Nat, x = (j : Int) ∧ j < L.length ∧ bit s j = true ∧ bit (tipsTo (belows L L.length) s L.length) j = true := by
  have hb := Sg.tipsTo_bd (belows L L.length) s L.length h.s0 h.s1
  unfold Memb.memI at hx
  rw [(Base.okB_iff _).2 hb, if_pos rfl, Bit.mem_memTo] at hx
  obtain ⟨j, _, rfl, hj⟩ := hx
  have hs := ((tips_iff h j).1 hj).1
  exact ⟨j, rfl, in_len h hs, hs, hj⟩

theorem all_tips {L : List K} {s : Int} (h : ClosedIs L s) : accT L (Memb.memI (tipsTo (belows L L.length) s L.length)) = s := by
  have h60 := ((Lc.lace_iff L).1 h.lace).1
  have hb := Sg.tipsTo_bd (belows L L.length) s L.length h.s0 h.s1
  have hl : ∀ x ∈ Memb.memI (tipsTo (belows L L.length) s L.length), x.toNat < 60 := fun x hx => by
    obtain ⟨j, rfl, hj, _⟩ := tips_mem h hx
    rw [Int.toNat_natCast]; omega
  refine Lc.eq_of_bits _ _ (accT_bd L _ hl).1 h.s0 fun j => ?_
  rw [bit_accT L _ hl, Bool.eq_iff_iff, List.any_eq_true]
  constructor
  · rintro ⟨x, hx, hxb⟩
    obtain ⟨i, rfl, hi, hs, _⟩ := tips_mem h hx
    rw [Int.toNat_natCast] at hxb
    exact (Sg.closed_iff L s L.length h60 h.s0 h.s1).1 h.cl i hi hs j hxb
  · intro hj
    have hjl := in_len h hj
    obtain ⟨x, hx, hxb⟩ := below_tip h _ j j rfl hj ((Sg.bel_reach h.lace j hjl j).2 (.self _))
    refine ⟨(x : Int), ?_, by rw [Int.toNat_natCast]; exact hxb⟩
    have hxs := ((tips_iff h x).1 hx).1
    have hxl := in_len h hxs
    unfold Memb.memI
    rw [(Base.okB_iff _).2 hb, if_pos rfl, Bit.mem_memTo]
    exact ⟨x, by omega, rfl, hx⟩

theorem tips_apart {L : List K} {s : Int} (h : ClosedIs L s) {x y : Int} (hx : x ∈ Memb.memI (tipsTo (belows L L.length) s L.length)) (hy : y ∈ Memb.memI (tipsTo (belows L L.length) s L.length)) (hne : x ≠ y) : seesB L x y = false := by
  obtain ⟨i, rfl, hi, hsi, _⟩ := tips_mem h hx
  obtain ⟨j, rfl, hj, _, htj⟩ := tips_mem h hy
  unfold Sg.seesB
  rw [Int.toNat_natCast, Int.toNat_natCast, ((tips_iff h j).1 htj).2 i hi hsi (by omega)]
  simp

theorem below_tips {L : List K} {s : Int} (h : ClosedIs L s) {x : Int} (hx : x ∈ Memb.memI (tipsTo (belows L L.length) s L.length)) : belowI L x = bel L x.toNat ∧ x.toNat < 60 := by
  have h60 := ((Lc.lace_iff L).1 h.lace).1
  obtain ⟨i, rfl, hi, _⟩ := tips_mem h hx
  refine ⟨?_, by rw [Int.toNat_natCast]; omega⟩
  unfold Sg.belowI
  have : isB L (i : Int) = true := by unfold Sg.isB; rw [h.lace]; simp; omega
  rw [this]; rfl

theorem rise_distinct (s : Int) (i j : Nat) (hi : i < (Memb.memI s).length) (hj : j < (Memb.memI s).length) (hne : i ≠ j) : (Memb.memI s).getD i 0 ≠ (Memb.memI s).getD j 0 := by
  have key : ∀ (l : List Int), l.Pairwise (· < ·) → ∀ i j, i < j → i < l.length → j < l.length → l.getD i 0 < l.getD j 0 := by
    intro l hl i j hij h1 h2
    have := List.pairwise_iff_getElem.1 hl i j h1 h2 hij
    simpa [h1, h2] using this
  have hp : (Memb.memI s).Pairwise (· < ·) := by
    unfold Memb.memI
    split
    · have : ∀ k, (memTo s k).Pairwise (· < ·) := by
        intro k
        induction k with
        | zero => exact List.Pairwise.nil
        | succ k ih =>
          rw [Bit.memTo_succ]
          refine List.pairwise_append.2 ⟨ih, ?_, ?_⟩
          · split
            · exact List.pairwise_singleton _ _
            · exact List.Pairwise.nil
          · intro x hx y hy
            obtain ⟨j, hj, rfl, _⟩ := (Bit.mem_memTo s k x).1 hx
            split at hy
            · simp at hy; omega
            · cases hy
      exact this 60
    · exact List.Pairwise.nil
  rcases Nat.lt_or_gt_of_ne hne with h | h
  · have := key _ hp i j h hi hj; omega
  · have := key _ hp j i h hj hi; omega

end Rm
end Go.Proofs.Ytdcjjopeobnpgaa

namespace Go.Proofs.Ytdcjjopeobnpgaa
open Go.RowKit
set_option maxRecDepth 100000
namespace Rm
open Kn (K okK)
open Bit (bit memTo withB)
open Lc (at' RdK laceB flat OwnK cellsOf setB)
open Sg (bel isB)
open Db (dblN dblS falseB falseTo falseI)
open Cur (At)

theorem mem_falseTo (L : List K) (s : Int) (n : Nat) (x : Int) : x ∈ falseTo L s n ↔ ∃ j : Nat, j < n ∧ x = (j : Int) ∧ falseB L s (j : Int) = true := by
  induction n with
  | zero => simp [Db.falseTo]
  | succ n ih =>
    unfold Db.falseTo
    rw [List.mem_append, ih]
    constructor
    · rintro (⟨j, hj, rfl, hb⟩ | h)
      · exact ⟨j, by omega, rfl, hb⟩
      · cases hf : falseB L s (n : Int)
        · rw [hf] at h; simp at h
        · rw [hf] at h; simp at h; exact ⟨n, by omega, h, hf⟩
    · rintro ⟨j, hj, rfl, hb⟩
      by_cases e : j = n
      · subst e; right; rw [hb]; simp
      · exact .inl ⟨j, by omega, rfl, hb⟩

theorem false_has (L : List K) (s : Int) (h : Nat) (hh : h < 4) : Lst.inL (falseTo L s 4) (h : Int) = falseB L s (h : Int) := by
  rw [Bool.eq_iff_iff, Lst.inL_iff, mem_falseTo]
  constructor
  · rintro ⟨j, _, e, hb⟩
    obtain rfl : h = j := by omega
    exact hb
  · intro hb; exact ⟨h, hh, rfl, hb⟩

theorem false_up (L : List K) (s : Int) : Lst.Up (falseI L s) := by
  unfold Db.falseI
  split
  · intro k hk
    have h4 := Db.falseTo_le L s 4
    have hk3 : k = 0 ∨ k = 1 ∨ k = 2 := by omega
    clear h4
    simp only [Db.falseTo] at hk ⊢
    generalize falseB L s ((0 : Nat) : Int) = b0 at hk ⊢
    generalize falseB L s ((1 : Nat) : Int) = b1 at hk ⊢
    generalize falseB L s ((2 : Nat) : Int) = b2 at hk ⊢
    generalize falseB L s ((3 : Nat) : Int) = b3 at hk ⊢
    rcases hk3 with rfl | rfl | rfl <;> revert hk <;> cases b0 <;> cases b1 <;> cases b2 <;> cases b3 <;> decide
  · intro k hk; simp at hk

/-- one of those is of that hand and doubled with one of the set -/
def someT (L : List K) (s h : Int) (l : List Int) : Bool := l.any fun x => decide ((at' L x.toNat).hand = h) && (bits .and .i64 (dblS L x.toNat L.length) s != 0)
theorem someT_snoc (L : List K) (s h : Int) (l : List Int) (x : Int) : someT L s h (l ++ [x]) = (someT L s h l || (decide ((at' L x.toNat).hand = h) && (bits .and .i64 (dblS L x.toNat L.length) s != 0))) := by
  unfold someT; rw [List.any_append]; simp

theorem set_lt {L : List K} {s : Int} (hset : setB L s = true) {i : Nat} (hb : bit s i = true) : i < L.length := by
  obtain ⟨_, q0, _, hd, _, _⟩ := Lc.setB_parts hset
  apply Classical.byContradiction
  intro hn
  rw [Lc.bit_hi s L.length q0 hd i (by omega)] at hb
  exact Bool.noConfusion hb

theorem set_mem {L : List K} {s : Int} (hset : setB L s = true) {x : Int} (hx : x ∈ Memb.memI s) : ∃ i : Nat, x = (i : Int) ∧ i < L.length ∧ bit s i = true := by
  obtain ⟨_, q0, q1, _, _, _⟩ := Lc.setB_parts hset
  unfold Memb.memI at hx
  rw [(Base.okB_iff _).2 ⟨q0, q1⟩, if_pos rfl, Bit.mem_memTo] at hx
  obtain ⟨i, _, rfl, hb⟩ := hx
  exact ⟨i, rfl, set_lt hset hb, hb⟩

theorem some_all {L : List K} {s : Int} (hset : setB L s = true) (h : Int) : someT L s h (Memb.memI s) = falseB L s h := by
  obtain ⟨_, q0, q1, _, h60, _⟩ := Lc.setB_parts hset
  unfold someT Db.falseB Db.falseUp
  rw [Bool.eq_iff_iff, List.any_eq_true, List.any_eq_true]
  constructor
  · rintro ⟨x, hx, hh⟩
    obtain ⟨i, rfl, hi, hb⟩ := set_mem hset hx
    rw [Int.toNat_natCast] at hh
    exact ⟨i, List.mem_range.2 hi, by unfold Db.hitB; rw [hb, hh]; rfl⟩
  · rintro ⟨i, hi, hh⟩
    rw [List.mem_range] at hi
    unfold Db.hitB at hh
    rw [Bool.and_eq_true] at hh
    refine ⟨(i : Int), ?_, by rw [Int.toNat_natCast]; exact hh.2⟩
    unfold Memb.memI
    rw [(Base.okB_iff _).2 ⟨q0, q1⟩, if_pos rfl, Bit.mem_memTo]
    exact ⟨i, by omega, rfl, hh.1⟩

/-- the greater set -/
def moreS (L : List K) (s k : Int) : Int := bits .and .i64 (Base.withI s k) (IntKind.i64.wrap (Base.withI 0 (L.length : Int) - 1))

theorem more_set {L : List K} {s : Int} (hset : setB L s = true) (h60 : L.length < 60) (k : Int) (k0 : 0 ≤ k) (k1 : k < 60) : setB L (moreS L s k) = true ∧ ∀ i, bit s i = true → bit (moreS L s k) i = true := by
  obtain ⟨hl, q0, q1, _, _, _⟩ := Lc.setB_parts hset
  obtain ⟨k, rfl⟩ := Int.eq_ofNat_of_zero_le k0
  have hk : k < 60 := by omega
  have hw : Base.withI s (k : Int) = withB s k := by
    unfold Base.withI
    rw [(Base.okB_iff _).2 ⟨q0, q1⟩, (Base.inB_iff _).2 ⟨by omega, by omega⟩, Int.toNat_natCast]; rfl
  have hbd := Bit.withB_bd s q0 q1 k hk
  have hp := Base.pow_bd L.length h60
  have hone : Base.withI 0 (L.length : Int) = ((2 ^ L.length : Nat) : Int) := by
    rw [Sg.with_one]; unfold Sg.oneI
    rw [if_pos ⟨by omega, by omega⟩, Int.toNat_natCast]; simp
  have hpn : 0 < 2 ^ L.length := Nat.pow_pos (by decide)
  have hp' : ((2 ^ L.length : Nat) : Int) < 1152921504606846976 := by simpa using hp.2
  have hm : moreS L s (k : Int) = (((withB s k).toNat &&& (2 ^ L.length - 1) : Nat) : Int) := by
    unfold moreS
    rw [hw, hone, show IntKind.i64.wrap (((2 ^ L.length : Nat) : Int) - 1) = ((2 ^ L.length - 1 : Nat) : Int) from by rw [IntKind.wrap_i64]; omega]
    rw [Lc.i64_and _ _ hbd.1 (by omega) (by omega) (by omega), Int.toNat_natCast]
  have hnn : 0 ≤ moreS L s (k : Int) := by rw [hm]; omega
  constructor
  · unfold Lc.setB
    rw [hl, Bool.true_and, Bool.and_eq_true, decide_eq_true_eq, decide_eq_true_eq]
    refine ⟨hnn, ?_⟩
    rw [hm, Nat.and_two_pow_sub_one_eq_mod]
    have := Nat.mod_lt (withB s k).toNat hpn
    refine Int.ediv_eq_zero_of_lt (by omega) ?_
    have e : ((2 : Int) ^ L.length) = ((2 ^ L.length : Nat) : Int) := by simp
    rw [e]; omega
  · intro i hb
    have hi := set_lt hset hb
    rw [Bit.bit_testBit _ hnn, hm, Int.toNat_natCast, Nat.testBit_and, Nat.testBit_two_pow_sub_one, ← Bit.bit_testBit _ hbd.1, Bit.bit_withB s q0, hb]
    simp [hi]

theorem false_mono {L : List K} {s : Int} (hset : setB L s = true) (h60 : L.length < 60) (k : Int) (k0 : 0 ≤ k) (k1 : k < 60) : ∀ x ∈ falseI L s, Lst.inL (falseI L (moreS L s k)) x = true := by
  obtain ⟨hm, hsub⟩ := more_set hset h60 k k0 k1
  obtain ⟨_, q0, q1, _, _, _⟩ := Lc.setB_parts hset
  obtain ⟨_, r0, r1, _, _, _⟩ := Lc.setB_parts hm
  intro x hx
  unfold Db.falseI at hx
  rw [hset, if_pos rfl, mem_falseTo] at hx
  obtain ⟨j, hj, rfl, hb⟩ := hx
  unfold Db.falseI
  rw [hm, if_pos rfl, Lst.inL_iff, mem_falseTo]
  refine ⟨j, hj, rfl, ?_⟩
  rw [Db.false_iff _ _ (by omega) q0 q1] at hb
  rw [Db.false_iff _ _ (by omega) r0 r1]
  obtain ⟨a, b, h1, h2, h3, h4, h5, h6⟩ := hb
  exact ⟨a, b, h1, h2, hsub _ h3, hsub _ h4, h5, h6⟩

set_option maxHeartbeats 1600000 in
theorem pick (a : Option Addr) (len cap : Nat) (w : World) (hl : len ≤ 4096) (hc : Cur.Code w a len) :
    Calls Try.prog 51 #[.slice a len cap, .int .i64 1, .int .i64 60] w fun e w' => ∃ r : Int, e = .returned (.int .i64 r) ∧ (0 ≤ r ∧ r < 60) ∧ ∃ n, w' = w.drewN n := by
  have HC : Hid (Cur.Code w a len) := hc
  clear hc
  go_enter Try.func51, Try.ntmps51
  go_wp2
  go_loopw [7, 8] (fun kv iv wr => ∃ (i n : Nat) (k : Int), i ≤ len ∧ iv = .int .i64 (i : Int) ∧ kv = .int .i64 k ∧ 0 ≤ k ∧ k ≤ 1000003 ∧ wr = w.drewN n) (fun _ iv _ => len - (intOf iv).toNat)
  case atStart => exact ⟨0, 0, (len : Int) + 7919, by omega, rfl, by go_num, by omega, by omega, rfl⟩
  case round =>
    obtain ⟨i, n, k, hi, rfl, rfl, k0, k1, rfl⟩ := hrel
    by_cases hlt : i < len
    · have hii : (i : Int) < (len : Int) := by omega
      obtain ⟨b, off, rfl, z, cz, z0, z1⟩ : ∃ b off, a = some ⟨b, off, none⟩ ∧ ∃ z : Int, (w.drewN n).cell? ⟨b, off + i, none⟩ = some (.int .u8 z) ∧ 0 ≤ z ∧ z ≤ 255 := by
        rcases HC.out with h | ⟨b, off, ha, _, h⟩
        · omega
        · obtain ⟨z, h1, h2, h3⟩ := h i hlt
          exact ⟨b, off, ha, z, h1, h2, h3⟩
      have m0 := Int.emod_nonneg (k * 257 + z + 1) (show (1000003 : Int) ≠ 0 by omega)
      have m1 := Int.emod_lt_of_pos (k * 257 + z + 1) (show (0 : Int) < 1000003 by omega)
      go_wp2
      go_roundw
      case rel => exact ⟨i + 1, _, (k * 257 + z + 1) % 1000003, by omega, by go_num, by go_num, m0, by omega, rfl⟩
      case measure => simp [intOf]; omega
    · obtain rfl : i = len := by omega
      have m0 := Int.emod_nonneg k (show (60 : Int) ≠ 0 by omega)
      have m1 := Int.emod_lt_of_pos k (show (0 : Int) < 60 by omega)
      go_wp2
      go_ret
      exact ⟨k % 60, rfl, ⟨m0, m1⟩, n, rfl⟩

set_option maxHeartbeats 800000 in
theorem drawFalseHands (HD : DrawsRoom) (a : Option Addr) (len cap : Nat) (w : World) (hl : len ≤ 4096) (hc : Cur.Code w a len) :
    Calls Try.prog 45 #[.slice a len cap] w fun e w' => ∃ v L s, e = .returned (.tuple #[v, .int .i64 s]) ∧ Drawn w.heap.size w w' v L ∧ (-9223372036854775808 ≤ s ∧ s ≤ 9223372036854775807) := by
  go_enter Try.func45, Try.ntmps45
  go_wp2_with fail
  refine (drawClosed HD a len cap _ hl hc).mono ?_
  rintro e w1 ⟨v, L, s, rfl, hD, hs⟩
  go_wp2
  refine bodyPost_ret (v := .tuple #[v, .int .i64 s]) (by simp [results, Try.f45, go_sem]) rfl ?_
  exact ⟨_, L, s, rfl, hD, hs⟩

end Rm
end Go.Proofs.Ytdcjjopeobnpgaa

namespace Go.Proofs.Ytdcjjopeobnpgaa
open Go.RowKit
set_option maxRecDepth 100000
namespace Rm
open Kn (K okK)
open Bit (bit memTo withB)
open Lc (at' RdK laceB setB)
open Sg (bel belows orB closedB tipsI tipsTo closedTo seesB belowI isB)

theorem isB_iff {L : List K} (hl : laceB L = true) (k : Int) : isB L k = true ↔ 0 ≤ k ∧ k < (L.length : Int) := by
  unfold Sg.isB; rw [hl]; simp

theorem sees_iff {L : List K} {x y : Int} (h : seesB L x y = true) : laceB L = true ∧ ∃ i j : Nat, x = (i : Int) ∧ y = (j : Int) ∧ i < L.length ∧ j < L.length ∧ bit (bel L i) j = true := by
  unfold Sg.seesB at h
  simp only [Bool.and_eq_true] at h
  obtain ⟨hx, hy, hb⟩ := h
  obtain ⟨a0, a1, hl⟩ := Sg.isB_parts hx
  obtain ⟨b0, b1, _⟩ := Sg.isB_parts hy
  obtain ⟨i, rfl⟩ := Int.eq_ofNat_of_zero_le a0
  obtain ⟨j, rfl⟩ := Int.eq_ofNat_of_zero_le b0
  rw [Int.toNat_natCast, Int.toNat_natCast] at hb
  exact ⟨hl, i, j, rfl, rfl, by omega, by omega, hb⟩

theorem below_at {L : List K} (hl : laceB L = true) (i : Nat) (hi : i < L.length) : belowI L (i : Int) = bel L i := by
  unfold Sg.belowI
  rw [(isB_iff hl (i : Int)).2 ⟨by omega, by omega⟩, Int.toNat_natCast]; rfl

theorem sees_sub {L : List K} {x y : Int} (h : seesB L x y = true) : bits .andNot .i64 (belowI L y) (belowI L x) = 0 := by
  obtain ⟨hl, i, j, rfl, rfl, hi, hj, hb⟩ := sees_iff h
  have h60 := ((Lc.lace_iff L).1 hl).1
  have b1 := Sg.bel_bd L i (by omega)
  have b2 := Sg.bel_bd L j (by omega)
  rw [below_at hl i hi, below_at hl j hj]
  have := (Sg.andNot_sub (bel L j) (bel L i) b2.1 (by omega) b1.1 (by omega)).2 (fun z hz => Sg.bel_trans hl hi hb hz)
  simpa using this

theorem sees_anti {L : List K} {x y : Int} (h : seesB L x y = true) (hne : x ≠ y) : seesB L y x = false := by
  obtain ⟨hl, i, j, rfl, rfl, hi, hj, hb⟩ := sees_iff h
  rw [Bool.eq_false_iff]
  intro h2
  obtain ⟨_, j', i', e1, e2, _, _, hb2⟩ := sees_iff h2
  have ej : j = j' := by omega
  have ei : i = i' := by omega
  subst ej ei
  have r1 := Sg.reach_le hl hi ((Sg.bel_reach hl i hi j).1 hb)
  have r2 := Sg.reach_le hl hj ((Sg.bel_reach hl j hj i).1 hb2)
  omega

theorem thread_round {L : List K} (hl : laceB L = true) {i m : Nat} (hi : i < L.length) (hb : bit (at' L i).frm m = true) : (at' L m).round < (at' L i).round := by
  have hm := Sg.thread_lt hl hi hb
  have hc := Lc.lace_upTo hl i hi
  simp only [Lc.canB, Bool.and_eq_true] at hc
  have hle := (Lc.lesser_iff (L.take i) (at' L i).frm (at' L i).round (L.take i).length).1 hc.2.2.1 m (by simp; omega) hb
  rwa [Lc.at_take L i m hm] at hle

theorem reach_round {L : List K} (hl : laceB L = true) {i j : Nat} (hi : i < L.length) (h : Sg.Reach L i j) : j = i ∨ (at' L j).round < (at' L i).round := by
  induction h with
  | self => exact .inl rfl
  | @step i m j hb hr ih =>
    have hm := Sg.thread_lt hl hi hb
    have hr1 := thread_round hl hi hb
    rcases ih (by omega) with rfl | h
    · exact .inr hr1
    · exact .inr (by omega)

theorem below_round {L : List K} (hl : laceB L = true) {i j : Nat} (hi : i < L.length) (h : bit (bel L i) j = true) (hne : j ≠ i) : (at' L j).round < (at' L i).round := by
  rcases reach_round hl hi ((Sg.bel_reach hl i hi j).1 h) with e | e
  · exact absurd e hne
  · exact e

/-- the one, and all below what it hangs on -/
def wantT (L : List K) (p : Nat) (l : List Int) : Int := l.foldl (fun a x => orB a (bel L x.toNat)) (2 ^ p)
theorem wantT_snoc (L : List K) (p : Nat) (l : List Int) (x : Int) : wantT L p (l ++ [x]) = orB (wantT L p l) (bel L x.toNat) := by simp [wantT]
theorem wantT_bd (L : List K) (p : Nat) (hp : p < 60) (l : List Int) (hl : ∀ x ∈ l, x.toNat < 60) : 0 ≤ wantT L p l ∧ wantT L p l < 1152921504606846976 := by
  have hb := Base.pow_bd p hp
  exact (accT_fold L l hl (2 ^ p) (by omega) hb.2).1

theorem frm_mem {L : List K} (hl : laceB L = true) {p : Nat} (hp : p < L.length) {x : Int} (hx : x ∈ Memb.memI (at' L p).frm) : ∃ m : Nat, x = (m : Int) ∧ m < p ∧ bit (at' L p).frm m = true := by
  have hf := Sg.frm_lace hl _ (Lc.at_mem L p hp)
  unfold Memb.memI at hx
  rw [(Base.okB_iff _).2 hf, if_pos rfl, Bit.mem_memTo] at hx
  obtain ⟨m, _, rfl, hb⟩ := hx
  exact ⟨m, rfl, Sg.thread_lt hl hp hb, hb⟩

theorem want_eq {L : List K} (hl : laceB L = true) {p : Nat} (hp : p < L.length) : wantT L p (Memb.memI (at' L p).frm) = bel L p := by
  have h60 := ((Lc.lace_iff L).1 hl).1
  have hf := Sg.frm_lace hl _ (Lc.at_mem L p hp)
  have hb := Base.pow_bd p (by omega)
  have hlt : ∀ x ∈ Memb.memI (at' L p).frm, x.toNat < 60 := fun x hx => by
    obtain ⟨m, rfl, hm, _⟩ := frm_mem hl hp hx
    rw [Int.toNat_natCast]; omega
  have hbl := Sg.bel_bd L p (by omega)
  refine Lc.eq_of_bits _ _ (wantT_bd L p (by omega) _ hlt).1 hbl.1 fun j => ?_
  show bit ((Memb.memI (at' L p).frm).foldl (fun a x => orB a (bel L x.toNat)) (2 ^ p)) j = _
  rw [(accT_fold L _ hlt (2 ^ p) (by omega) hb.2).2 j, Bool.eq_iff_iff, Bool.or_eq_true, Sg.bit_pow, decide_eq_true_eq, Sg.bit_bel L p (by omega) j, List.any_eq_true]
  constructor
  · rintro (h | ⟨x, hx, hxb⟩)
    · exact .inl h
    · obtain ⟨m, rfl, hm, hfm⟩ := frm_mem hl hp hx
      rw [Int.toNat_natCast] at hxb
      exact .inr ⟨m, hm, hfm, hxb⟩
  · rintro (h | ⟨m, hm, hfm, hxb⟩)
    · exact .inl h
    · refine .inr ⟨(m : Int), ?_, by rw [Int.toNat_natCast]; exact hxb⟩
      unfold Memb.memI
      rw [(Base.okB_iff _).2 hf, if_pos rfl, Bit.mem_memTo]
      exact ⟨m, by omega, rfl, hfm⟩

theorem frm_below {L : List K} (hl : laceB L = true) {p : Nat} (hp : p < L.length) {x : Int} (hx : x ∈ Memb.memI (at' L p).frm) : belowI L x = bel L x.toNat ∧ x.toNat < 60 := by
  have h60 := ((Lc.lace_iff L).1 hl).1
  obtain ⟨m, rfl, hm, _⟩ := frm_mem hl hp hx
  exact ⟨by rw [below_at hl m (by omega), Int.toNat_natCast], by rw [Int.toNat_natCast]; omega⟩

theorem bel_closed {L : List K} (hl : laceB L = true) {p : Nat} (hp : p < L.length) : closedB L (bel L p) = true := by
  have h60 := ((Lc.lace_iff L).1 hl).1
  have hb := Sg.bel_bd L p (by omega)
  unfold Sg.closedB
  rw [Lc.setB_eq, hl, Bool.true_and, Bool.and_eq_true]
  constructor
  · unfold Lc.inL
    rw [Lc.div_of_bits (bel L p) L.length hb.1 (fun i hi => by
      rw [Bool.eq_false_iff]; intro h
      have := Sg.reach_le hl hp ((Sg.bel_reach hl p hp i).1 h); omega)]
    simp; exact hb.1
  · exact (Sg.closed_iff L (bel L p) L.length h60 hb.1 hb.2).2 (fun i hi hbi j hj => Sg.bel_trans hl hp hbi hj)

theorem bel_tips {L : List K} (hl : laceB L = true) {p : Nat} (hp : p < L.length) : tipsI L (bel L p) = 2 ^ p := by
  have h60 := ((Lc.lace_iff L).1 hl).1
  have hc := bel_closed hl hp
  have hI := closedIs hc
  have hb := Base.pow_bd p (by omega)
  unfold Sg.tipsI
  rw [hc, if_pos rfl]
  refine Lc.eq_of_bits _ _ (Sg.tipsTo_bd _ _ _ hI.s0 hI.s1).1 (by omega) fun j => ?_
  rw [Bool.eq_iff_iff, tips_iff hI j, Sg.bit_pow, decide_eq_true_eq]
  have hself : bit (bel L p) p = true := (Sg.bel_reach hl p hp p).2 (.self _)
  constructor
  · rintro ⟨h1, h2⟩
    apply Classical.byContradiction
    intro hne
    have := h2 p hp hself hne
    rw [h1] at this; exact Bool.noConfusion this
  · rintro rfl
    refine ⟨hself, fun i hi hbi hne => ?_⟩
    rw [Bool.eq_false_iff]; intro h
    have r1 := Sg.reach_le hl hi ((Sg.bel_reach hl i hi j).1 h)
    have r2 := Sg.reach_le hl hp ((Sg.bel_reach hl j hp i).1 hbi)
    omega

/-- what InSet answers -/
def inJ (s i : Int) : Bool := Base.okB s && (Base.inB i && bit s i.toNat)
theorem inJ_at {s : Int} (h0 : 0 ≤ s) (h1 : s < 1152921504606846976) (i : Nat) (hi : i < 60) : inJ s (i : Int) = bit s i := by
  unfold inJ
  rw [(Base.okB_iff _).2 ⟨h0, h1⟩, (Base.inB_iff _).2 ⟨by omega, by omega⟩, Int.toNat_natCast]; rfl
theorem sees_at {L : List K} (hl : laceB L = true) {p i : Nat} (hp : p < L.length) (hi : i < L.length) : seesB L (p : Int) (i : Int) = bit (bel L p) i := by
  unfold Sg.seesB
  rw [(isB_iff hl (p : Int)).2 ⟨by omega, by omega⟩, (isB_iff hl (i : Int)).2 ⟨by omega, by omega⟩, Int.toNat_natCast, Int.toNat_natCast]; rfl

end Rm
end Go.Proofs.Ytdcjjopeobnpgaa

namespace Go.Proofs.Ytdcjjopeobnpgaa
open Go.RowKit
set_option maxRecDepth 100000
namespace Rm
open Kn (K okK)
open Bit (bit memTo)
open Lc (at' RdK laceB flat OwnK cellsOf setB handsOfI)
open Sg (bel isB)
open Db (dblN dblS doublesI falseB falseTo falseI)
open Cur (At)

theorem take_get3 (l : List Int) (i : Nat) (hi : i < l.length) : l.take (i + 1) = l.take i ++ [l.getD i 0] := by
  rw [List.take_succ_eq_append_getElem hi]; simp [hi]
theorem getD_mem3 (l : List Int) (i : Nat) (hi : i < l.length) : l.getD i 0 ∈ l := by simp [hi]

theorem one_bd (n : Nat) : 0 ≤ Base.withI 0 (n : Int) ∧ Base.withI 0 (n : Int) < 1152921504606846976 := by
  rw [Sg.with_one]; unfold Sg.oneI
  split
  · rename_i h
    have := Base.pow_bd (n : Int).toNat (by omega)
    omega
  · exact ⟨by decide, by decide⟩

set_option maxHeartbeats 12800000 in
theorem falseWalk (HD : DrawsRoom) (a0 : Option Addr) (len0 cap0 : Nat) (w : World) (hcode : Cur.Code w a0 len0) :
    Calls Try.prog 8 #[.slice a0 len0 cap0] w fun e w' => e = .returned (.bool true) ∧ Below w.heap.size w w' := by
  by_cases hbig : 4096 < len0
  · have hb' : (4096 : Int) < (len0 : Int) := by omega
    go_enter Try.func8, Try.ntmps8
    go_wp2
    go_ret
    exact ⟨rfl, Below.refl _ _⟩
  · have hb' : ¬ (4096 : Int) < (len0 : Int) := by omega
    have hle0 : len0 ≤ 4096 := by omega
    have HDD : Hid DrawsRoom := HD
    have HCode : Hid (Cur.Code w a0 len0) := hcode
    clear hbig HD hcode
    go_enter Try.func8, Try.ntmps8
    go_wp2_with (first | (go_at_call 9; go_in) | fail)
    refine (drawFalseHands HDD.out a0 len0 cap0 _ hle0 HCode.out).mono ?_
    rintro e w1 ⟨v, L, s, rfl, hD1, hs⟩
    obtain ⟨g, cp, rfl, hcp, hL1⟩ := drawn_liesS hD1
    have hB1 : Below w.heap.size w w1 := hD1.bel
    clear hD1
    go_wp2_with fail
    refine (Db.implFalseHands g 0 cp L s _ (by have := hL1.len; omega) hL1.words hs.1 hs.2 hL1.rd).mono ?_
    rintro e w2 ⟨fo, fc, rfl, hown2, hb2⟩
    have HL2 : Hid (LiesS w2 g L) := hL1.below hb2
    have HB2 : Hid (Below w.heap.size w w2) := hB1.trans (hb2.mono hB1.size)
    have HF2 : Hid (Memb.Own w1.heap.size w2 fo fc (falseI L s)) := hown2
    have hfl := Db.falseI_le L s
    clear hL1 hB1 hb2 hown2
    generalize w1.heap.size = q1 at HF2
    go_wp2_with fail
    refine (Db.specFalseHands g 0 cp L s _ hcp HL2.out.words HL2.out.rd).mono ?_
    rintro e w3 ⟨xo, xc, rfl, hown3, hb3⟩
    have HL3 : Hid (LiesS w3 g L) := HL2.out.below hb3
    have HB3 : Hid (Below w.heap.size w w3) := HB2.out.trans (hb3.mono HB2.out.size)
    have HF3 : Hid (Memb.Own q1 w3 fo fc (falseI L s)) := Lst.own_below HF2.out hb3
    have HX3 : Hid (Lst.Rd w3 xo (falseI L s)) := Lst.own_rd hown3
    clear HL2 HB2 hb3 hown3 HF2
    have HUP : Hid (Lst.Up (falseI L s)) := false_up L s
    have HCS : Hid ((setB L s = false ∧ falseI L s = []) ∨ (setB L s = true ∧ falseI L s = falseTo L s 4 ∧ ¬ handsOfI L s < 0)) := by
      show _ ∨ _
      cases hset : setB L s
      · left; exact ⟨rfl, by unfold Db.falseI; rw [hset]; rfl⟩
      · right
        refine ⟨rfl, by unfold Db.falseI; rw [hset]; rfl, ?_⟩
        unfold Lc.handsOfI; rw [hset, if_pos rfl]
        have := (Lc.handsN_bd L s).1; omega
    have HMO : Hid (setB L s = true → L.length < 60 → ∀ k : Int, 0 ≤ k → k < 60 → ∀ x ∈ falseI L s, Lst.inL (falseI L (moreS L s k)) x = true) := fun h1 h2 k k0 k1 => false_mono h1 h2 k k0 k1
    generalize falseI L s = fl at hfl HF3 HX3 HUP HCS HMO ⊢
    go_wp2_with fail
    refine (Lst.alike fl fo xo fc xc _ (by omega) (Lst.own_rd HF3.out) HX3.out).mono ?_
    rintro e w4 ⟨rfl, n4, rfl⟩
    have HL4 : Hid (LiesS (w3.drewN n4) g L) := HL3.out.below (Lc.below_drewN' (Below.refl _ _) n4)
    have HB4 : Hid (Below w.heap.size w (w3.drewN n4)) := HB3.out.trans ((Lc.below_drewN' (Below.refl _ _) n4).mono HB3.out.size)
    have HF4 : Hid (Memb.Own q1 (w3.drewN n4) fo fc fl) := Lst.own_drewN HF3.out n4
    clear HL3 HB3 HF3 HX3
    generalize w3.drewN n4 = v4 at HL4 HB4 HF4 ⊢
    go_wp2_with fail
    refine (Lst.rises fl fo fc _ (by omega) HUP.out (Lst.own_rd HF4.out)).mono ?_
    rintro e w5 ⟨rfl, n5, rfl⟩
    have HL5 : Hid (LiesS (v4.drewN n5) g L) := HL4.out.below (Lc.below_drewN' (Below.refl _ _) n5)
    have HB5 : Hid (Below w.heap.size w (v4.drewN n5)) := HB4.out.trans ((Lc.below_drewN' (Below.refl _ _) n5).mono HB4.out.size)
    have HF5 : Hid (Memb.Own q1 (v4.drewN n5) fo fc fl) := Lst.own_drewN HF4.out n5
    clear HL4 HB4 HF4 HUP
    generalize v4.drewN n5 = v5 at HL5 HB5 HF5 ⊢
    go_wp2_with fail
    refine (Lc.specHandsOf g 0 cp L s _ hcp HL5.out.words HL5.out.rd).mono ?_
    rintro e w6 ⟨rfl, hb6⟩
    have HL6 : Hid (LiesS w6 g L) := HL5.out.below hb6
    have HB6 : Hid (Below w.heap.size w w6) := HB5.out.trans (hb6.mono HB5.out.size)
    have HF6 : Hid (Memb.Own q1 w6 fo fc fl) := Lst.own_below HF5.out hb6
    clear HL5 HB5 HF5 hb6
    rcases HCS.out with ⟨hset, rfl⟩ | ⟨hset, hfl4, hh0⟩
    · have HT : Hid (handsOfI L s = -1) := by show _ = _; unfold Lc.handsOfI; rw [hset]; rfl
      rw [HT.out]
      clear hset HCS HMO
      go_wp2
      go_ret
      exact ⟨rfl, HB6.out⟩
    · obtain ⟨hlc, q0, q1', _, h60, _⟩ := Lc.setB_parts hset
      have HFH : Hid (∀ h : Nat, h < 4 → Lst.inL fl (h : Int) = falseB L s (h : Int)) := fun h hh => by rw [hfl4]; exact false_has L s h hh
      have HSO : Hid (∀ h : Int, someT L s h (Memb.memI s) = falseB L s h) := fun h => some_all hset h
      have HME : Hid (∀ x ∈ Memb.memI s, ∃ i : Nat, x = (i : Int) ∧ i < L.length ∧ bit s i = true) := fun x hx => set_mem hset hx
      have HDO : Hid (∀ i : Nat, i < L.length → doublesI L (i : Int) = dblS L i L.length) := fun i hi => by
        show _ = _
        unfold Db.doublesI; rw [(isB_iff hlc (i : Int)).2 ⟨by omega, by omega⟩, if_pos rfl, Int.toNat_natCast]
      have HMO2 : Hid (L.length < 60 → ∀ k : Int, 0 ≤ k → k < 60 → ∀ x ∈ fl, Lst.inL (falseI L (moreS L s k)) x = true) := HMO.out hset
      have hml := Memb.memI_le s
      generalize handsOfI L s = hv at hh0 ⊢
      clear hset HCS HMO hlc hfl4
      go_wp2_with fail
      refine (Memb.specMembers _ _).mono ?_
      rintro e w7 ⟨mo, mc, rfl, hown7, hb7⟩
      have HL7 : Hid (LiesS w7 g L) := HL6.out.below hb7
      have HB7 : Hid (Below w.heap.size w w7) := HB6.out.trans (hb7.mono HB6.out.size)
      have HF7 : Hid (Memb.Own q1 w7 fo fc fl) := Lst.own_below HF6.out hb7
      have HO7 : Hid (Memb.Own w6.heap.size w7 mo mc (Memb.memI s)) := hown7
      clear hb7 hown7 HL6 HB6 HF6
      generalize w6.heap.size = q7 at HO7
      generalize Memb.memI s = l at HSO HME hml HO7 ⊢
      go_wp2
      go_loopw [7] (fun hv wr => ∃ h : Nat, h ≤ 4 ∧ hv = .int .i64 (h : Int) ∧ Hid (LiesS wr g L) ∧ Hid (Below w.heap.size w wr) ∧ Hid (Memb.Own q1 wr fo fc fl) ∧ Hid (Memb.Own q7 wr mo mc l)) (fun hv _ => 4 - (intOf hv).toNat)
      case atStart => exact ⟨0, by omega, rfl, HL7, HB7, HF7, HO7⟩
      case round =>
        obtain ⟨h, hh, rfl, HL, HB, HF, HO⟩ := hrel
        clear HL7 HB7 HF7 HO7
        by_cases hlt : h < 4
        · have h4 : decide ((h : Int) < 4) = true := by simp; omega
          have HSM : Hid (someT L s (h : Int) l = Lst.inL fl (h : Int)) := by show _ = _; rw [HSO.out, HFH.out h hlt]
          clear HSO HFH
          go_wp2
          try rw [h4]
          go_loopw [8, 9] (fun bv iv wr => ∃ i : Nat, i ≤ l.length ∧ iv = .int .i64 (i : Int) ∧ bv = .bool (someT L s (h : Int) (l.take i)) ∧ Hid (LiesS wr g L) ∧ Hid (Below w.heap.size w wr) ∧ Hid (Memb.Own q1 wr fo fc fl) ∧ Hid (Memb.Own q7 wr mo mc l)) (fun _ iv _ => l.length - (intOf iv).toNat)
          case atStart => exact ⟨0, by omega, rfl, by rw [List.take_zero]; rfl, HL, HB, HF, HO⟩
          case round =>
            obtain ⟨i, hi, rfl, rfl, HL, HB, HF, HO⟩ := hrel
            by_cases hil : i < l.length
            · have hii : (i : Int) < (l.length : Int) := by omega
              obtain ⟨mb, rfl, ci⟩ : ∃ mb, mo = some ⟨mb, 0, none⟩ ∧ wr.cell? ⟨mb, i, none⟩ = some (.int .i64 (l.getD i 0)) := by
                rcases Lst.own_rd HO.out with e | ⟨mb, e, h⟩
                · rw [e] at hil; simp at hil
                · exact ⟨mb, e, h i hil⟩
              obtain ⟨j, hx, hj, _⟩ := HME.out _ (getD_mem3 l i hil)
              rw [hx] at ci
              have hji : (j : Int) < (L.length : Int) := by omega
              have HS : Hid (someT L s (h : Int) (l.take (i + 1)) = (someT L s (h : Int) (l.take i) || (decide ((at' L j).hand = (h : Int)) && (bits .and .i64 (dblS L j L.length) s != 0)))) := by
                show _ = _
                rw [take_get3 l i hil, someT_snoc, hx, Int.toNat_natCast]
              obtain ⟨hgl, cg, _, _, _⟩ := HL.out.rd.on j hj
              rw [Nat.zero_add] at cg
              have hcall := Db.specDoublesOf g 0 cp L (j : Int) wr hcp HL.out.words HL.out.rd
              rw [HDO.out j hj] at hcall
              generalize dblS L j L.length = dv at HS hcall
              generalize someT L s (h : Int) (l.take i) = st at HS ⊢
              generalize (at' L j).hand = hd at cg HS
              clear hx
              cases st
              · by_cases hhd : hd = (h : Int)
                · have hh1 : (hd == (h : Int)) = true := by simpa using hhd
                  have HS2 : Hid (someT L s (h : Int) (l.take (i + 1)) = (bits .and .i64 dv s != 0)) := by show _ = _; rw [HS.out, decide_eq_true hhd]; rfl
                  clear HS hhd
                  go_wp2_with fail
                  refine hcall.mono ?_
                  rintro e w8 ⟨rfl, hb8⟩
                  have HL8 : Hid (LiesS w8 g L) := HL.out.below hb8
                  have HB8 : Hid (Below w.heap.size w w8) := HB.out.trans (hb8.mono HB.out.size)
                  have HF8 : Hid (Memb.Own q1 w8 fo fc fl) := Lst.own_below HF.out hb8
                  have HO8 : Hid (Memb.Own q7 w8 (some ⟨mb, 0, none⟩) mc l) := Lst.own_below HO.out hb8
                  clear hcall hb8 HL HB HF HO ci cg
                  go_wp2
                  go_roundw
                  case rel => exact ⟨i + 1, by omega, by go_num, by rw [HS2.out], HL8, HB8, HF8, HO8⟩
                  case measure => simp [intOf]; omega
                · have hh1 : (hd == (h : Int)) = false := by simpa using hhd
                  have HS2 : Hid (someT L s (h : Int) (l.take (i + 1)) = false) := by show _ = _; rw [HS.out, decide_eq_false hhd]; rfl
                  clear HS hhd hcall
                  go_wp2
                  go_roundw
                  case rel => exact ⟨i + 1, by omega, by go_num, by rw [HS2.out], HL, HB, HF, HO⟩
                  case measure => simp [intOf]; omega
              · have HS2 : Hid (someT L s (h : Int) (l.take (i + 1)) = true) := by show _ = _; rw [HS.out]; rfl
                clear HS hcall
                go_wp2
                go_roundw
                case rel => exact ⟨i + 1, by omega, by go_num, by rw [HS2.out], HL, HB, HF, HO⟩
                case measure => simp [intOf]; omega
            · obtain rfl : i = l.length := by omega
              have HE : Hid (someT L s (h : Int) (l.take l.length) = Lst.inL fl (h : Int)) := by show _ = _; rw [List.take_length]; exact HSM.out
              rw [HE.out]
              have hin := fun W (hW : Lst.Rd W fo fl) => Lst.isIn fl (h : Int) fo fc W (by omega) hW
              generalize Lst.inL fl (h : Int) = bb at hin ⊢
              clear HE HSM
              go_wp2_with fail
              refine (hin _ (Lst.own_rd HF.out)).mono ?_
              rintro e w8 ⟨rfl, rfl⟩
              clear hin
              go_wp2
              go_roundw
              case rel => exact ⟨h + 1, by omega, by go_num, HL, HB, HF, HO⟩
              case measure => simp [intOf]; omega
        · obtain rfl : h = 4 := by omega
          have HMO3 : Hid (∀ k : Int, 0 ≤ k → k < 60 → L.length < 60 → ∀ x ∈ fl, Lst.inL (falseI L (moreS L s k)) x = true) := fun k k0 k1 h => HMO2.out h k k0 k1
          clear HSO HFH HME HDO HMO2 HO
          have hgl : fl.length ≤ 4 := hfl
          go_wp2_with fail
          refine (pick a0 len0 cap0 _ hle0 (code_below2 HCode.out HB.out)).mono ?_
          rintro e w8 ⟨r, rfl, hr, n8, rfl⟩
          have HL8 : Hid (LiesS (wr.drewN n8) g L) := HL.out.below (Lc.below_drewN' (Below.refl _ _) n8)
          have HB8 : Hid (Below w.heap.size w (wr.drewN n8)) := HB.out.trans ((Lc.below_drewN' (Below.refl _ _) n8).mono HB.out.size)
          have HF8 : Hid (Memb.Own q1 (wr.drewN n8) fo fc fl) := Lst.own_drewN HF.out n8
          clear HL HB HF
          generalize wr.drewN n8 = v8 at HL8 HB8 HF8 ⊢
          have HSUB : Hid (L.length < 60 → ∀ x ∈ fl, Lst.inL (falseI L (moreS L s r)) x = true) := HMO3.out r hr.1 hr.2
          have hone : 0 ≤ Base.withI 0 (L.length : Int) ∧ Base.withI 0 (L.length : Int) < 1152921504606846976 := one_bd L.length
          have HM : Hid (moreS L s r = bits .and .i64 (Base.withI s r) (Base.withI 0 (L.length : Int) - 1)) := by
            show _ = _
            unfold moreS
            rw [show IntKind.i64.wrap (Base.withI 0 (L.length : Int) - 1) = Base.withI 0 (L.length : Int) - 1 from by rw [IntKind.wrap_i64]; omega]
          rw [HM.out] at HSUB
          have hw1 := fun W => Base.specWith s r W
          have hw2 := fun W => Base.specWith 0 (L.length : Int) W
          clear HM HMO3
          generalize Base.withI s r = ws at HSUB hw1
          generalize Base.withI 0 (L.length : Int) = oi at HSUB hw2 hone
          obtain ⟨o0, o1⟩ := hone
          have hcall := Db.implFalseHands g 0 cp L (bits .and .i64 ws (oi - 1)) v8 (by have := HL8.out.len; omega) HL8.out.words (Draw.bits_bd _ _ _).1 (Draw.bits_bd _ _ _).2 HL8.out.rd
          have hgl4 := Db.falseI_le L (bits .and .i64 ws (oi - 1))
          generalize falseI L (bits .and .i64 ws (oi - 1)) = gl at HSUB hcall hgl4
          go_wp2_with fail
          refine (hw1 _).mono ?_
          rintro e w9 ⟨rfl, rfl⟩
          go_wp2_with fail
          refine (hw2 _).mono ?_
          rintro e w9 ⟨rfl, rfl⟩
          clear hw1 hw2
          go_wp2_with fail
          refine hcall.mono ?_
          rintro e w9 ⟨gao, gac, rfl, hown9, hb9⟩
          have HB9 : Hid (Below w.heap.size w w9) := HB8.out.trans (hb9.mono HB8.out.size)
          have HF9 : Hid (Memb.Own q1 w9 fo fc fl) := Lst.own_below HF8.out hb9
          have HG9 : Hid (Lst.Rd w9 gao gl) := Lst.own_rd hown9
          clear hcall hown9 hb9 HL8 HB8 HF8
          go_wp2
          go_loopw [11] (fun iv wz => ∃ i : Nat, i ≤ fl.length ∧ iv = .int .i64 (i : Int) ∧ wz = w9) (fun iv _ => fl.length - (intOf iv).toNat)
          case atStart => exact ⟨0, by omega, rfl, rfl⟩
          case round =>
            obtain ⟨i, hi, rfl, hw⟩ := hrel
            have hw' := hw.symm
            subst hw'
            by_cases hil : i < fl.length
            · have hii : (i : Int) < (fl.length : Int) := by omega
              by_cases hL60 : L.length < 60
              · have hLi : (L.length : Int) < 60 := by omega
                obtain ⟨fb, rfl, ci⟩ : ∃ fb, fo = some ⟨fb, 0, none⟩ ∧ w9.cell? ⟨fb, i, none⟩ = some (.int .i64 (fl.getD i 0)) := by
                  rcases Lst.own_rd HF9.out with e | ⟨fb, e, h⟩
                  · rw [e] at hil; simp at hil
                  · exact ⟨fb, e, h i hil⟩
                have hin := Lst.isIn gl (fl.getD i 0) gao gac w9 (by omega) HG9.out
                rw [HSUB.out hL60 _ (getD_mem3 fl i hil)] at hin
                generalize fl.getD i 0 = x at ci hin
                go_wp2_with fail
                refine hin.mono ?_
                rintro e w10 ⟨rfl, rfl⟩
                clear hin
                go_wp2
                go_roundw
                case rel => exact ⟨i + 1, by omega, by go_num, by first | rfl | trivial⟩
                case measure => simp [intOf]; omega
              · have hLi : ¬ (L.length : Int) < 60 := by omega
                go_wp2
                go_ret
                exact ⟨rfl, HB9.out⟩
            · obtain rfl : i = fl.length := by omega
              go_wp2
              go_ret
              exact ⟨rfl, HB9.out⟩

end Rm
end Go.Proofs.Ytdcjjopeobnpgaa

namespace Go.Proofs.Ytdcjjopeobnpgaa
open Go.RowKit
namespace Rm

theorem drawsBad : DrawsBad := fun c a len cap ao cp L co nc cc go nh hc bad w hl hca hlc hr hn => l18DrawBad c a len cap ao cp L co nc cc go nh hc bad w hl hca hlc hr hn
theorem drawsRoom : DrawsRoom := fun c a len cap w hl hc => l18Draw' (l18DrawActs' drawsBad (l18DrawAct' drawsBad)) c a len cap w hl hc

end Rm
end Go.Proofs.Ytdcjjopeobnpgaa

namespace Go.Proofs.Ytdcjjopeobnpgaa.fnFalse
open Go.ChangeShapes Go.WideShapes Go.ChangeAt Go.RowKit
set_option linter.unusedVariables false
set_option maxRecDepth 100000

theorem own : ownKnob Try.prog.godebug = none := by kernel_rfl
theorem laidOut : laidOutB Try.prog = true := by kernel_rfl

/-- what is told of a slice of integers that came in: it is nil, or it leads to a row of cells that hold these -/
def IsRow (k : IntKind) (w : World) (a : Option Addr) (len cap : Nat) (zs : List Int) : Prop :=
  (a = none ∧ len = 0 ∧ cap = 0 ∧ zs = []) ∨
  ∃ x, a = some x ∧ len ≤ cap ∧ cap ≤ maxLen ∧ zs.length = cap ∧ (∀ i, i < zs.length → w.cell? (x.add i) = some (.int k (zs.getD i 0))) ∧ ∀ n ∈ zs, (Lit.int k n).wf = true

theorem code_of {w : World} {a : Option Addr} {len cap : Nat} {zs : List Int} (h : IsRow .u8 w a len cap zs) : Cur.Code w a len := by
  rcases h with ⟨_, h, _, _⟩ | ⟨x, rfl, hl, _, hz, hcell, hwz⟩
  · exact .inl h
  · by_cases h0 : len = 0
    · exact .inl h0
    · obtain ⟨b, off, spot⟩ := x
      have hc := hcell 0 (by omega)
      have hspot : spot = none := by simpa [Addr.add] using World.cell?_spot hc
      subst hspot
      refine .inr ⟨b, off, rfl, ?_, fun j hj => ?_⟩
      · have := block_lt_of_cell hc; simpa [Addr.add] using this
      · have hcj := hcell j (by omega)
        have hj' : j < zs.length := by omega
        have hw := hwz (zs.getD j 0) (by simp [List.getD, List.getElem?_eq_getElem hj'])
        refine ⟨zs.getD j 0, ?_, ?_⟩
        · by_cases hj0 : j = 0
          · subst hj0; simpa [Addr.add] using hcj
          · simpa [Addr.add, hj0] using hcj
        simpa [Lit.wf, IntKind.min, IntKind.max, IntKind.signed, IntKind.bits] using hw

theorem lifted (os : Os) (started : os.Started) (H : Type) (enc : TypeId × Value → H) :
    ReturnsInHanded {} Try.checked os 8 .any (Rows.fnFalseSpec.pre6 enc Try.prog Try.f8 Rows.fnFalseRow.domain false) (Rows.fnFalseSpec.post enc Try.prog Try.f8 false true false false) := by
  refine returnsInHanded_of_change (C := Try.checked) own started (by kernel_rfl) Try.func8
    (ChangeSpec.witness6 (enc := enc) (C := Try.checked) false ⟨#[], #[.slice none 0 0], []⟩ 8 (by kernel_rfl) (by kernel_rfl) (by kernel_rfl) (by kernel_rfl)) ?_
  intro W base args ds gs before hval0 hW hcnd _
  have hval : ∀ (j : Nat) t v, Try.f8.params[j]? = some t → args[j]? = some v → Value.okWide Try.prog W .any base t v := hval0
  have hW' := hW
  obtain ⟨p, q, hA0, hV, rfl, hfz, hnd⟩ := hW
  have hA : DataW.TrodAll enc Try.prog W 0 (fun _ => true) true Try.f8.params.toList args.toList ds p := hA0
  rw [Try.params8] at hA hval
  obtain ⟨v0, vs0, d0, ds0, p0, q0, hargs, rfl, rfl, h0, r0⟩ := trodAll_cons hA
  obtain ⟨rfl, rfl, rfl⟩ := trodAll_nil r0
  obtain rfl : args = #[v0] := by cases args; simp_all
  obtain ⟨rfl, rfl⟩ := trodVars_none hV
  obtain ⟨a0, len0, cap0, rfl⟩ := okWide_slice Try.underlying22 (hval 0 22 v0 rfl rfl)
  have k0 := h0
  have lt0 : ∀ x ∈ p0, x.block < W.heap.size := by obtain ⟨m, hm⟩ := k0; exact DataW.trod_lt m _ _ _ hm
  obtain ⟨z0, w0⟩ : ∃ zs, IsRow .u8 W a0 len0 cap0 zs := by
    obtain ⟨fuel, hf⟩ := h0
    rcases open_ints Try.underlying22 Try.underlying5 (by kernel_rfl) hf with ⟨hcs, _⟩ | ⟨x, l, c, zs, hcs, _, hl, hm, hz, _, hcell, hwz⟩
    · simp [Value.cells] at hcs
      obtain ⟨rfl, rfl, rfl⟩ := hcs
      exact ⟨[], .inl ⟨rfl, rfl, rfl, rfl⟩⟩
    · simp [Value.cells] at hcs
      obtain ⟨rfl, rfl, rfl⟩ := hcs
      exact ⟨zs, .inr ⟨_, rfl, hl, hm, by simpa using hz, hcell, hwz⟩⟩
  clear hA0 hval0
  simp only [List.append_nil] at hW'
  refine (Rm.falseWalk Rm.drawsRoom a0 len0 cap0 W (code_of w0)).mono fun e W' ⟨he, bel⟩ => ?_
  subst he
  exact ⟨_, rfl, _, _, _, [], _, [], hW', trodAll_mk1 (shut_bool Try.underlying4 _), (trodAll_cons_mk (Below.trod laidOut (by kernel_rfl) (of_decide_eq_true (by kernel_rfl)) k0 bel lt0) trodAll_mk0), rfl, bel.frame _, fun h => by cases h⟩

theorem over : Rows.fnFalseRow.holds Try.pinned (OpenSpec.ofChange Rows.fnFalseSpec) :=
  OpenClaim.holds_of_wide 8 Try.f8 rfl rfl rfl rfl rfl rfl rfl ⟨rfl, rfl, rfl, rfl, rfl⟩ rfl rfl rfl rfl rfl (by kernel_rfl) Try.func8 (by kernel_rfl)
    (of_decide_eq_true (by kernel_rfl)) (by unfold Func.isWrapper; first | (rw [if_pos (by decide +kernel)]; kernel_rfl) | (rw [if_neg (by decide +kernel)]; exact ⟨rfl, rfl⟩))
    (fun os started H enc _ => lifted os started H enc)

theorem proved : Rows.FnFalseSaid :=
  over
end Go.Proofs.Ytdcjjopeobnpgaa.fnFalse
