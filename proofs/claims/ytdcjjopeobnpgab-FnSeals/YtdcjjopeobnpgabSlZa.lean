/-
  What the program's own Nods and Nodders answer, in the words of NodM; for lists of knots whose words have at most 2^40 bytes.
  What the model's drawing of a list of knots hands back, where the drawing of a room keeps its word: a list of at most 61 knots with short words, in memory of its own; it changes the cursor alone.
  What the model's drawing of any list of knots, of a set and of a number hands back, where the drawing of a room keeps its word: a list of at most 61 knots with short words, in memory of its own; it changes the cursor alone.
  What the model's drawings of a set and of a number hand back: a number; they change the cursor alone. And the drawings of the laws on laces, where the drawing of a room keeps its word.
  What the model's Below, Sees, Closed and Tips answer, in the words of SightM; for lists of knots whose words have at most 2^40 bytes.
  What the model's drawings for the laws on sight hand back, where the drawing of a room keeps its word.
  Plain mathematics of a walk back along the threads: it goes through the numbers from the last to the first, keeps the set of those reached, and adds a reached one's threads; what it meets is what hangs below the set; for laces.
  What the program's own HandsOf and AtRound answer, in the words of LaceM; for lists of at most 2^40 knots whose words have at most 2^40 bytes.
  What the program's own walk back along the threads does (an iterator over a lace in memory, whatever the loop's body is that keeps the lace), in the words of SightV; for laces.
  What the program's own Below, Sees, Closed and Tips answer, in the words of SightT; for lists of knots whose words have at most 2^40 bytes.
  What the law on closed sets and tips answers, where the drawing of a room keeps its word: true at every code.
  Plain mathematics of the law on what hangs below and what is seen; for laces.
  What the model's drawings for the law on nodding hand back, where the drawing of a room keeps its word.
  What the model's Doubled and DoublesOf answer: two knots of one hand neither of which sees the other; for lists of knots whose words have at most 2^40 bytes.
  Plain mathematics of nodding, for laces: who sees a knot and nothing that is doubled with it. No program in it.
  What the model answers for those that nod: for each knot of a lace the set of those that see it and nothing that is doubled with it; for lists of knots whose words have at most 2^40 bytes.
  What the program lays out hand by hand: those of a set that each hand tied; for laces of at most 60 knots, their hands 0 to 3.
  What the program's own Doubled and DoublesOf answer, in the words of DoubM; for lists of knots whose words have at most 2^40 bytes.
  What the program's only and askSetAndKnot answer, whatever function they are handed: in plain words.
-/
import Derived.Test.YtdcjjopeobnpgabRoomW
import Derived.Test.YtdcjjopeobnpgabRoomG
import Derived.Test.YtdcjjopeobnpgabDraw
import Derived.Test.YtdcjjopeobnpgabDrawK
import Derived.Maps.AppendAt
import Derived.Test.YtdcjjopeobnpgabSightS
import Derived.Test.YtdcjjopeobnpgabSightN
import Derived.Test.YtdcjjopeobnpgabLaceU
import Derived.Test.YtdcjjopeobnpgabLaceE
import Derived.RangeFuncNested
import Derived.RangeFuncBound
import Derived.RangeFuncCalls
import Derived.RangeFuncLeaves
import Derived.Shelf.Abstract
import Derived.Shelf.RegionOpen
import Derived.WalkKit
import Derived.OwnWalkIn
import Derived.TacticsInMore
import Derived.LoopNIn
import Derived.LoopIn
import Derived.Test.YtdcjjopeobnpgabDoubS
import Derived.Test.YtdcjjopeobnpgabLaceB
import Derived.Test.YtdcjjopeobnpgabFam
import Derived.ChangeKeysEq
namespace Go.Proofs.Ytdcjjopeobnpgab
open Go.RowKit
set_option maxRecDepth 100000
namespace Rm
open Kn (K okK)
open Lc (at' RdK laceB flat OwnK cellsOf)
open Cur (At)

/-- the drawing of a room keeps its word -/
def DrawsRoom : Prop := ∀ (c : Nat) (a : Option Addr) (len cap : Nat) (w : World), len ≤ 4096 → At c a len cap w → Calls Try.prog 52 #[.pointer (some ⟨c, 0, none⟩)] w (DrawPost c a len cap w)

/-- how the drawing of a list ends -/
def ListPost (m : Nat) (c : Nat) (a : Option Addr) (len cap : Nat) (w : World) (e : Ending) (w' : World) : Prop := ∃ v L, e = .returned v ∧ OwnK 46 w.heap.size w' v L ∧ L.length ≤ m ∧ (∀ k ∈ L, k.word.size ≤ 13) ∧ At c a len cap w' ∧ w.grownBy w' (some c)
/-- how the drawing of a number ends -/
def NumPost (c : Nat) (a : Option Addr) (len cap : Nat) (w : World) (e : Ending) (w' : World) : Prop := ∃ x : Int, e = .returned (.int .i64 x) ∧ (-9223372036854775808 ≤ x ∧ x ≤ 9223372036854775807) ∧ At c a len cap w' ∧ w.grownBy w' (some c)

theorem word_lace {L : List K} (h : laceB L = true) : ∀ k ∈ L, k.word.size ≤ 13 := by
  intro k hk
  obtain ⟨i, hi, rfl⟩ := List.mem_iff_getElem.1 hk
  have := Lc.can_ok (Lc.lace_upTo h i hi)
  rw [Lc.at_get L i hi] at this
  simp only [okK, Bool.and_eq_true] at this
  have h5 := this.2.2.2.2
  simp only [Kn.okW, Bool.and_eq_true, decide_eq_true_eq] at h5
  omega

theorem ownK_base {t : TypeId} {B B' : Nat} {w : World} {v : Value} {L : List K} (h : OwnK t B w v L) (hB : B' ≤ B) : OwnK t B' w v L := by
  obtain ⟨⟨h1, h2 | ⟨g, cp, cur, e, hg, r⟩⟩, hv⟩ := h
  · exact ⟨⟨h1, .inl h2⟩, hv⟩
  · exact ⟨⟨h1, .inr ⟨g, cp, cur, e, Nat.le_trans hB hg, r⟩⟩, hv⟩

theorem ownK_grown {t : TypeId} {B c : Nat} {w w' : World} {v : Value} {L : List K} (h : OwnK t B w v L) (hg : w.grownBy w' (some c)) (hc : c < B) : OwnK t B w' v L :=
  ⟨own_fr (Fr.of_grown hg) h.1 (fun g e => by have := (World.ownsRow.lt h.1 g e).1; omega), h.2⟩

theorem lace_field (ao : Option Addr) (n cp : Nat) (v1 v2 v3 : Value) (W : World) : (Instr.field 74 (.agg #[.slice ao n cp, v1, v2, v3]) 0).run Try.prog W = .ok (.slice ao n cp) W := by kernel_rfl

set_option maxHeartbeats 800000 in
theorem l3Draw (HD : DrawsRoom) (c : Nat) (a : Option Addr) (len cap : Nat) (w : World) (hl : len ≤ 4096) (hc : At c a len cap w) :
    Calls Try.prog 36 #[.pointer (some ⟨c, 0, none⟩)] w (ListPost 60 c a len cap w) := by
  have hcw : c < w.heap.size := hc.lt
  have HDD : Hid DrawsRoom := HD
  clear HD
  go_enter Try.func36, Try.ntmps36
  go_wp2_with fail
  refine (HDD.out c a len cap _ hl hc).mono ?_
  rintro e w1 ⟨R, rfl, hP, hA1, hF1⟩
  obtain ⟨ao, cp, hlv, ho, hz, _, hrd, _⟩ := own_lace hP.own
  have h60 := ((Lc.lace_iff R.L).1 hP.lace).1
  have hwd := word_lace hP.lace
  have HWD : Hid (∀ k ∈ R.L, k.word.size ≤ 13) := hwd
  have HV : Hid (roV R = .agg #[.slice ao R.L.length cp, R.cv, .slice (some ⟨R.gh, 0, none⟩) 4 R.hc, .int .i64 R.bad]) := by show _ = _; unfold roV; rw [hlv]
  rw [HV.out]
  have hfl := lace_field ao R.L.length cp R.cv (.slice (some ⟨R.gh, 0, none⟩) 4 R.hc) (.int .i64 R.bad)
  clear hwd hlv hP
  go_wp2_with fail
  refine (l3CopyO ao cp R.L _ ho hz (by omega) hrd).mono ?_
  rintro e w2 ⟨v, rfl, hO, hb2⟩
  have HR : Hid (OwnK 46 w.heap.size w2 v R.L ∧ At c a len cap w2 ∧ w.grownBy w2 (some c)) := ⟨ownK_base hO hF1.size, hA1.below hb2, (hF1.trans (Fr.of_below hb2 (fun x => x = c)) (fun _ h _ => h)).grown⟩
  clear hO hb2 hA1 hF1 hrd
  go_wp2
  go_ret
  exact ⟨v, R.L, rfl, HR.out.1, h60, HWD.out, HR.out.2.1, HR.out.2.2⟩

set_option maxHeartbeats 400000 in
theorem l1From (c : Nat) (a : Option Addr) (len cap : Nat) (lo hi : Int) (w : World) (hl : len ≤ 4096) (h0 : -10 ≤ lo) (h1 : lo ≤ hi) (h2 : hi ≤ 100) (hc : At c a len cap w) :
    Calls Try.prog 37 #[.pointer (some ⟨c, 0, none⟩), .int .i64 lo, .int .i64 hi] w (NumPost c a len cap w) := by
  have hw1 : IntKind.i64.wrap (hi - lo) = hi - lo := by rw [IntKind.wrap_i64]; omega
  have hw2 : IntKind.i64.wrap (hi - lo + 1) = hi - lo + 1 := by rw [IntKind.wrap_i64]; omega
  go_enter Try.func37, Try.ntmps37
  go_wp2_with fail
  refine (Cur.below c a len cap _ _ hl (by omega) hc).mono ?_
  rintro e w1 ⟨x, rfl, hx0, hx1, hA1, hG1⟩
  have hx2 := hx1 (by omega)
  go_wp2
  go_ret
  exact ⟨_, rfl, by omega, hA1, hG1⟩

end Rm
end Go.Proofs.Ytdcjjopeobnpgab

namespace Go.Proofs.Ytdcjjopeobnpgab
open Go.RowKit
set_option maxRecDepth 100000
namespace Rm
open Kn (K okK)
open Lc (at' RdK laceB flat OwnK cellsOf)
open Cur (At)

theorem flat_set (L : List K) (j c : Nat) (hj : j < L.length) (hc : c < 4) (k' : K) (v : Value) (h : cellsOf k' = (cellsOf (at' L j)).set c v) : (flat L).set (j * 4 + c) v = flat (L.set j k') := by
  induction L generalizing j with
  | nil => simp at hj
  | cons k L ih =>
    have hk4 : (cellsOf k).length = 4 := rfl
    cases j with
    | zero =>
      show (cellsOf k ++ flat L).set (0 * 4 + c) v = cellsOf k' ++ flat L
      rw [List.set_append_left _ _ (by rw [hk4]; omega), h]
      simp [at']
    | succ j =>
      show (cellsOf k ++ flat L).set ((j + 1) * 4 + c) v = cellsOf k ++ flat (L.set j k')
      rw [List.set_append_right _ _ (by rw [hk4]; omega), hk4, show (j + 1) * 4 + c - 4 = j * 4 + c by omega, ih j (by simpa using hj) (by simpa [at'] using h)]

theorem grown_far {w w5 w6 : World} {c g : Nat} (h : w.grownBy w5 (some c)) (h2 : w5.grownBy w6 (some g)) (hg : w.heap.size ≤ g) : w.grownBy w6 (some c) :=
  ((Fr.of_grown h).trans (Fr.of_grown h2) (fun x hx hl => by omega)).grown

/-- a number of a knot is written -/
theorem list_put {m c : Nat} {a : Option Addr} {len cap : Nat} {w w5 : World} {g cp : Nat} {L : List K} {j f : Nat} {u : Value} {k' : K} (hc : At c a len cap w) (hO : OwnK 46 w.heap.size w5 (.slice (some ⟨g, 0, none⟩) L.length cp) L) (hm : L.length ≤ m) (hwd : ∀ k ∈ L, k.word.size ≤ 13)
    (hA : At c a len cap w5) (hG : w.grownBy w5 (some c)) (hj : j < L.length) (hf : f < 4) (hk : cellsOf k' = (cellsOf (at' L j)).set f u) (hw : k'.word.size ≤ 13) :
    ListPost m c a len cap w (.returned (.slice (some ⟨g, 0, none⟩) L.length cp)) (w5.setCell ⟨g, j * 4 + f, none⟩ u) := by
  have hgB := (World.ownsRow.lt hO.1 g rfl).1
  have hs := World.ownsRow.stored hO.1 (j * 4 + f) u
  rw [flat_set L j f hj hf k' u hk] at hs
  have hl : (L.set j k').length = L.length := by simp
  refine ⟨_, L.set j k', rfl, ⟨by rw [hl]; exact hs.1, by simp⟩, by rw [hl]; exact hm, fun k hkm => ?_, ?_, grown_far hG hs.2 hgB⟩
  · rcases List.mem_or_eq_of_mem_set hkm with h | h
    · exact hwd k h
    · rw [h]; exact hw
  · exact at_belowB hA (curB_of hc) ((Below.refl w.heap.size w5).grown hs.2 hG.size (fun x e => by cases e; exact hgB))

set_option maxHeartbeats 6400000 in
theorem l3DrawAny (HD : DrawsRoom) (c : Nat) (a : Option Addr) (len cap : Nat) (w : World) (hl : len ≤ 4096) (hc : At c a len cap w) :
    Calls Try.prog 23 #[.pointer (some ⟨c, 0, none⟩)] w (ListPost 61 c a len cap w) := by
  obtain ⟨i0, hi, hz0, hz1, hz2⟩ := info_parts Lc.infoKn
  have hcw : c < w.heap.size := hc.lt
  have HDD : Hid DrawsRoom := HD
  clear HD
  go_enter Try.func23, Try.ntmps23
  go_wp2_with fail
  refine (l3Draw HDD.out c a len cap _ hl hc).mono ?_
  rintro e w1 ⟨v, L, rfl, hO, h60, hwd, hA1, hG1⟩
  obtain ⟨g, cp, rfl, hcap, _, hbg, _, _, _⟩ := Lc.ownK_shape hO
  have HWD : Hid (∀ k ∈ L, k.word.size ≤ 13) := hwd
  have HO : Hid (OwnK 46 w.heap.size w1 (.slice (some ⟨g, 0, none⟩) L.length cp) L) := hO
  clear hO hwd
  by_cases hz : L.length = 0
  · obtain rfl : L = [] := List.eq_nil_of_length_eq_zero hz
    go_wp2
    go_ret
    exact ⟨_, [], rfl, HO.out, by simp, HWD.out, hA1, hG1⟩
  · have hz' : (0 : Int) < (L.length : Int) := by omega
    go_wp2_with fail
    refine (Cur.once c a len cap 10 _ hl (by omega) hA1).mono ?_
    rintro e w2 ⟨b, rfl, hA2, hG2⟩
    have HO2 : Hid (OwnK 46 w.heap.size w2 (.slice (some ⟨g, 0, none⟩) L.length cp) L) := ownK_grown HO.out hG2 hcw
    have G2 := Cur.grownBy_trans hG1 hG2
    clear HO hG1 hG2 hA1
    cases b
    · go_wp2
      go_ret
      exact ⟨_, L, rfl, HO2.out, by omega, HWD.out, hA2, G2⟩
    · go_wp2_with fail
      refine (Cur.below c a len cap (L.length : Int) _ hl (by omega) hA2).mono ?_
      rintro e w3 ⟨x, rfl, hx0, hx1, hA3, hG3⟩
      have hx2 := hx1 hz'
      obtain ⟨j, rfl⟩ := Int.eq_ofNat_of_zero_le hx0
      have hj : j < L.length := by omega
      have HO3 : Hid (OwnK 46 w.heap.size w3 (.slice (some ⟨g, 0, none⟩) L.length cp) L) := ownK_grown HO2.out hG3 hcw
      have G3 := Cur.grownBy_trans G2 hG3
      clear HO2 hG3 hA2 G2 hx1
      go_wp2_with fail
      refine (Cur.below c a len cap 4 _ hl (by omega) hA3).mono ?_
      rintro e w4 ⟨t, rfl, ht0, ht1, hA4, hG4⟩
      have ht2 := ht1 (by omega)
      have HO4 : Hid (OwnK 46 w.heap.size w4 (.slice (some ⟨g, 0, none⟩) L.length cp) L) := ownK_grown HO3.out hG4 hcw
      have HG4 : Hid (w.grownBy w4 (some c)) := Cur.grownBy_trans G3 hG4
      have HC : Hid (At c a len cap w) := hc
      clear HO3 hG4 hA3 G3 ht1 hc
      have htc : t = 0 ∨ t = 1 ∨ t = 2 ∨ t = 3 := by omega
      rcases htc with rfl | rfl | rfl | rfl
      · go_wp2_with fail
        refine (l1From c a len cap (-1) 4 _ hl (by omega) (by omega) (by omega) hA4).mono ?_
        rintro e w5 ⟨y, rfl, _, hA5, hG5⟩
        have hO5 := ownK_grown HO4.out hG5 hcw
        obtain ⟨_, _, e5, _, _, _, _, hrd5, hfz5⟩ := Lc.ownK_shape hO5
        simp only [Value.slice.injEq, Option.some.injEq, Addr.mk.injEq, and_true, true_and] at e5
        obtain ⟨rfl, rfl⟩ := e5
        have HF : Hid (ListPost 61 c a len cap w (.returned (.slice (some ⟨g, 0, none⟩) L.length cp)) (w5.setCell ⟨g, j * 4, none⟩ (.int .i64 y))) := list_put (f := 0) (k' := ⟨y, (at' L j).round, (at' L j).frm, (at' L j).word⟩) HC.out hO5 (by omega) HWD.out hA5 (Cur.grownBy_trans HG4.out hG5) hj (by omega) rfl (HWD.out (at' L j) (Lc.at_mem L j hj))
        obtain ⟨_, c0, c1, c2, _⟩ := hrd5.on j hj
        rw [Nat.zero_add] at c0 c1 c2
        have f5 := hfz5 (j * 4) (by omega)
        clear hO5 hrd5 hfz5 HO4 HG4 hA5 hG5
        go_wp2
        go_ret
        exact HF.out
      · go_wp2_with fail
        refine (Cur.below c a len cap 5 _ hl (by omega) hA4).mono ?_
        rintro e w5 ⟨y, rfl, _, _, hA5, hG5⟩
        have hO5 := ownK_grown HO4.out hG5 hcw
        obtain ⟨_, _, e5, _, _, _, _, hrd5, hfz5⟩ := Lc.ownK_shape hO5
        simp only [Value.slice.injEq, Option.some.injEq, Addr.mk.injEq, and_true, true_and] at e5
        obtain ⟨rfl, rfl⟩ := e5
        have HF : Hid (ListPost 61 c a len cap w (.returned (.slice (some ⟨g, 0, none⟩) L.length cp)) (w5.setCell ⟨g, j * 4 + 1, none⟩ (.int .i64 y))) := list_put (f := 1) (k' := ⟨(at' L j).hand, y, (at' L j).frm, (at' L j).word⟩) HC.out hO5 (by omega) HWD.out hA5 (Cur.grownBy_trans HG4.out hG5) hj (by omega) rfl (HWD.out (at' L j) (Lc.at_mem L j hj))
        obtain ⟨_, c0, c1, c2, _⟩ := hrd5.on j hj
        rw [Nat.zero_add] at c0 c1 c2
        have f5 := hfz5 (j * 4 + 1) (by omega)
        clear hO5 hrd5 hfz5 HO4 HG4 hA5 hG5
        go_wp2
        go_ret
        exact HF.out
      · go_wp2_with fail
        refine (Draw.drawSet c a len cap _ hl hA4).mono ?_
        rintro e w5 ⟨y, rfl, _, hA5, hG5⟩
        have hO5 := ownK_grown HO4.out hG5 hcw
        obtain ⟨_, _, e5, _, _, _, _, hrd5, hfz5⟩ := Lc.ownK_shape hO5
        simp only [Value.slice.injEq, Option.some.injEq, Addr.mk.injEq, and_true, true_and] at e5
        obtain ⟨rfl, rfl⟩ := e5
        have HF : Hid (ListPost 61 c a len cap w (.returned (.slice (some ⟨g, 0, none⟩) L.length cp)) (w5.setCell ⟨g, j * 4 + 2, none⟩ (.int .i64 y))) := list_put (f := 2) (k' := ⟨(at' L j).hand, (at' L j).round, y, (at' L j).word⟩) HC.out hO5 (by omega) HWD.out hA5 (Cur.grownBy_trans HG4.out hG5) hj (by omega) rfl (HWD.out (at' L j) (Lc.at_mem L j hj))
        obtain ⟨_, c0, c1, c2, _⟩ := hrd5.on j hj
        rw [Nat.zero_add] at c0 c1 c2
        have f5 := hfz5 (j * 4 + 2) (by omega)
        clear hO5 hrd5 hfz5 HO4 HG4 hA5 hG5
        go_wp2
        go_ret
        exact HF.out
      · go_wp2_with fail
        refine (Kn.draw c a len cap _ hl hA4).mono ?_
        rintro e w5 ⟨h, r, f, s, rfl, hs13, hA5, hG5⟩
        have HO5 : Hid (OwnK 46 w.heap.size w5 (.slice (some ⟨g, 0, none⟩) L.length cp) L) := ownK_grown HO4.out hG5 hcw
        have HG5 : Hid (w.grownBy w5 (some c)) := Cur.grownBy_trans HG4.out hG5
        clear HO4 HG4 hG5
        go_wp2_with (at_builtin; refine wpList_append_own _ rfl _ _ 24 rfl w.heap.size 46 i0 (.agg #[.int .i64 0, .int .i64 0, .int .i64 0, .string ⟨#[]⟩]) 4 40 Try.underlying24 hi hz0 hz1 hz2 rfl (by decide) _ _ _ rfl (HO5.out.1.alloc _) ⟨w5.heap.size, 0, none⟩ 1 1 (cellsOf ⟨h, r, f, s⟩) rfl rfl ?c1 ?c2 ?c3 ?c4 ?c5 ?_)
        case c1 => exact Lc.new_cells w5 ⟨h, r, f, s⟩ _
        case c2 => intro u hu; simp [cellsOf] at hu; rcases hu with rfl | rfl | rfl | rfl <;> rfl
        case c3 => unfold maxLen; omega
        case c4 => omega
        case c5 => have := HG5.out.size; simp; omega
        intro v' w6 hown' hgrow hnil
        have HF : Hid (ListPost 61 c a len cap w (.returned v') w6) := by
          have hg6 : w5.grownBy w6 (some g) := (World.grownBy_alloc w5 _ _).trans hgrow
          refine ⟨v', L ++ [⟨h, r, f, s⟩], rfl, ⟨?_, ?_⟩, by simp; omega, ?_, ?_, grown_far HG5.out hg6 hbg⟩
          · rw [List.length_append, Lc.flat_snoc]; exact hown'
          · intro e; simp [e] at hnil
          · intro k hk
            rcases List.mem_append.1 hk with hk | hk
            · exact HWD.out k hk
            · simp at hk; subst hk; exact hs13
          · exact at_belowB hA5 (curB_of HC.out) ((Below.refl w.heap.size w5).grown hg6 HG5.out.size (fun x e => by cases e; exact hbg))
        clear hown' hgrow hnil
        go_wp2
        go_ret
        exact HF.out

end Rm
end Go.Proofs.Ytdcjjopeobnpgab

namespace Go.Proofs.Ytdcjjopeobnpgab
open Go.RowKit
set_option maxRecDepth 100000
namespace Rm
open Kn (K okK)
open Lc (at' RdK laceB flat OwnK cellsOf)
open Cur (At)

theorem wrap_bd (x : Int) : -9223372036854775808 ≤ IntKind.i64.wrap x ∧ IntKind.i64.wrap x ≤ 9223372036854775807 := by rw [IntKind.wrap_i64]; omega

set_option maxHeartbeats 400000 in
theorem l1BitAny (i : Nat) (w : World) (h : i ≤ 62) : Calls Try.prog 34 #[.int .i64 (i : Int)] w fun e w' => ∃ x : Int, e = .returned (.int .i64 x) ∧ w = w' := by
  go_enter Try.func34, Try.ntmps34
  go_wp2
  go_ret
  exact ⟨_, rfl, rfl⟩

theorem new_four (W : World) (x : Int) (t : TypeId) (j : Nat) (hj : j < 4) : ∃ y : Int, (W.alloc (.cells #[.int .i64 (-1), .int .i64 x, .int .i64 60, .int .i64 0] t)).cell? ⟨W.heap.size, j, none⟩ = some (.int .i64 y) ∧ (y = -1 ∨ y = x ∨ y = 60 ∨ y = 0) := by
  match j, hj with
  | 0, _ => exact ⟨-1, by simp, .inl rfl⟩
  | 1, _ => exact ⟨x, by simp, .inr (.inl rfl)⟩
  | 2, _ => exact ⟨60, by simp, .inr (.inr (.inl rfl))⟩
  | 3, _ => exact ⟨0, by simp, .inr (.inr (.inr rfl))⟩

set_option maxHeartbeats 1600000 in
theorem l3DrawAt (c : Nat) (a : Option Addr) (len cap n : Nat) (w : World) (hl : len ≤ 4096) (hn : n ≤ 61) (hc : At c a len cap w) :
    Calls Try.prog 24 #[.pointer (some ⟨c, 0, none⟩), .int .i64 (n : Int)] w (NumPost c a len cap w) := by
  have hcw : c < w.heap.size := hc.lt
  have HT : Hid (∀ W : World, At c a len cap W → w.grownBy W (some c) → ∀ w', At c a len cap w' → (W.alloc (.cells #[.int .i64 (-1), .int .i64 (n : Int), .int .i64 60, .int .i64 0] 2)).grownBy w' (some c) → ∀ j, j < 4 → ∃ y : Int, w'.cell? ⟨W.heap.size, j, none⟩ = some (.int .i64 y) ∧ (-9223372036854775808 ≤ y ∧ y ≤ 9223372036854775807) ∧ w.grownBy w' (some c)) := by
    intro W hA hG w' hA' hG' j hj
    obtain ⟨y, hy, hyc⟩ := new_four W (n : Int) 2 j hj
    refine ⟨y, ((Fr.of_grown hG').cell (p := ⟨W.heap.size, j, none⟩) (by simp) (by have := hA.lt; simp; omega)).trans hy, by omega, Cur.grownBy_trans hG ((World.grownBy_alloc W _ _).trans hG')⟩
  have HGR : Hid (w.grownBy w (some c)) := ⟨rfl, rfl, rfl, Nat.le_refl _, fun _ _ _ => rfl⟩
  go_enter Try.func24, Try.ntmps24
  by_cases hz : n = 0
  · subst hz
    have hAl := Draw.at_alloc hc (.cells #[.int .i64 (-1), .int .i64 ((0 : Nat) : Int), .int .i64 60, .int .i64 0] 2)
    simp only [Int.ofNat_zero] at hAl HT
    go_wp2_with fail
    refine (Cur.below c a len cap 4 _ hl (by omega) hAl).mono ?_
    rintro e w1 ⟨x, rfl, hx0, hx1, hA1, hG1⟩
    have hx2 := hx1 (by omega)
    obtain ⟨j, rfl⟩ := Int.eq_ofNat_of_zero_le hx0
    obtain ⟨y, hy, hyb, hG⟩ := HT.out w hc HGR.out w1 hA1 hG1 j (by omega)
    have hj4 : (j : Int) < 4 := by omega
    clear hG1 hx1 HT
    go_wp2
    go_ret
    exact ⟨y, rfl, hyb, hA1, hG⟩
  · have hz' : (0 : Int) < (n : Int) := by omega
    go_wp2_with fail
    refine (Cur.once c a len cap 10 _ hl (by omega) hc).mono ?_
    rintro e w1 ⟨b, rfl, hA1, hG1⟩
    cases b
    · go_wp2_with fail
      refine (Cur.below c a len cap (n : Int) _ hl (by omega) hA1).mono ?_
      rintro e w2 ⟨x, rfl, hx0, hx1, hA2, hG2⟩
      have hx2 := hx1 hz'
      have G2 := Cur.grownBy_trans hG1 hG2
      go_wp2
      go_ret
      exact ⟨x, rfl, by omega, hA2, G2⟩
    · have hAl := Draw.at_alloc hA1 (.cells #[.int .i64 (-1), .int .i64 (n : Int), .int .i64 60, .int .i64 0] 2)
      go_wp2_with fail
      refine (Cur.below c a len cap 4 _ hl (by omega) hAl).mono ?_
      rintro e w2 ⟨x, rfl, hx0, hx1, hA2, hG2⟩
      have hx2 := hx1 (by omega)
      obtain ⟨j, rfl⟩ := Int.eq_ofNat_of_zero_le hx0
      obtain ⟨y, hy, hyb, hG⟩ := HT.out w1 hA1 hG1 w2 hA2 hG2 j (by omega)
      have hj4 : (j : Int) < 4 := by omega
      clear hG2 hx1 HT hAl hG1
      go_wp2
      go_ret
      exact ⟨y, rfl, hyb, hA2, hG⟩

/-- a list and numbers that the laws draw -/
structure Drawn (B : Nat) (w w' : World) (v : Value) (L : List K) : Prop where
  own : OwnK 46 B w' v L
  len : L.length ≤ 61
  word : ∀ k ∈ L, k.word.size ≤ 13
  bel : Below w.heap.size w w'

end Rm
end Go.Proofs.Ytdcjjopeobnpgab

namespace Go.Proofs.Ytdcjjopeobnpgab
open Go.RowKit
set_option maxRecDepth 100000
namespace Sg
open Kn (K okK)
open Bit (bit)
open Lc (at' RdK laceB WordsOk setB)

/-- is there such a knot, of a lace? -/
def isB (L : List K) (k : Int) : Bool := decide (0 ≤ k) && (decide (k < (L.length : Int)) && laceB L)
/-- what Below answers -/
def belowI (L : List K) (k : Int) : Int := if isB L k then bel L k.toNat else -1
/-- what Sees answers -/
def seesB (L : List K) (a b : Int) : Bool := isB L a && (isB L b && bit (bel L a.toNat) b.toNat)
/-- what Closed answers -/
def closedB (L : List K) (s : Int) : Bool := setB L s && closedTo (belows L L.length) s L.length
/-- what Tips answers -/
def tipsI (L : List K) (s : Int) : Int := if closedB L s then tipsTo (belows L L.length) s L.length else -1

theorem isB_parts {L : List K} {k : Int} (h : isB L k = true) : 0 ≤ k ∧ k < (L.length : Int) ∧ laceB L = true := by
  unfold isB at h
  simpa using h

set_option maxHeartbeats 800000 in
theorem l4Is (g off cap : Nat) (L : List K) (k : Int) (w : World) (hcap : L.length ≤ cap) (hw : WordsOk L) (hr : RdK w (some ⟨g, off, none⟩) L) :
    Calls Try.prog 15 #[.slice (some ⟨g, off, none⟩) L.length cap, .int .i64 k] w fun e w' => e = .returned (.bool (isB L k)) ∧ Below w.heap.size w w' := by
  by_cases h0 : 0 ≤ k
  · by_cases h1 : k < (L.length : Int)
    · have HT : Hid (isB L k = laceB L) := by show _ = _; unfold isB; rw [decide_eq_true h0, decide_eq_true h1]; rfl
      go_enter Try.func15, Try.ntmps15
      go_wp2_with fail
      refine (Lc.specLaceOk g off cap L _ hcap hw hr).mono ?_
      rintro e w1 ⟨rfl, hb1⟩
      go_wp2
      go_ret
      exact ⟨by rw [HT.out]; rfl, hb1⟩
    · have HT : Hid (isB L k = false) := by show _ = _; unfold isB; rw [decide_eq_false h1]; simp
      go_enter Try.func15, Try.ntmps15
      go_wp2
      go_ret
      exact ⟨by rw [HT.out]; rfl, Below.refl _ _⟩
  · have HT : Hid (isB L k = false) := by show _ = _; unfold isB; rw [decide_eq_false h0]; rfl
    go_enter Try.func15, Try.ntmps15
    go_wp2
    go_ret
    exact ⟨by rw [HT.out]; rfl, Below.refl _ _⟩

set_option maxHeartbeats 800000 in
theorem specBelow (g off cap : Nat) (L : List K) (k : Int) (w : World) (hcap : L.length ≤ cap) (hw : WordsOk L) (hr : RdK w (some ⟨g, off, none⟩) L) :
    Calls Try.prog 8 #[.slice (some ⟨g, off, none⟩) L.length cap, .int .i64 k] w fun e w' => e = .returned (.int .i64 (belowI L k)) ∧ Below w.heap.size w w' := by
  go_enter Try.func8, Try.ntmps8
  go_wp2_with fail
  refine (l4Is g off cap L k _ hcap hw hr).mono ?_
  rintro e w1 ⟨rfl, hb1⟩
  have hr1 := hr.below hb1
  cases his : isB L k
  · have HT : Hid (belowI L k = -1) := by show _ = _; unfold belowI; rw [his]; rfl
    clear his
    go_wp2
    go_ret
    exact ⟨by rw [HT.out]; rfl, hb1⟩
  · obtain ⟨h0, h1, hlc⟩ := isB_parts his
    have HT : Hid (belowI L k = bel L k.toNat) := by show _ = _; unfold belowI; rw [his]; rfl
    have h60 := ((Lc.lace_iff L).1 hlc).1
    have hf := frm_lace hlc
    clear his hlc
    obtain ⟨p, rfl⟩ := Int.eq_ofNat_of_zero_le h0
    have hp : p < L.length := by omega
    have HG : Hid ((belows L L.length).getD p 0 = bel L p) := belows_get L L.length p hp
    have HBL : Hid ((belows L L.length).length = L.length) := belows_len L L.length
    go_wp2_with fail
    refine (l4All (some ⟨g, off, none⟩) cap L _ h60 hf hr1).mono ?_
    rintro e w2 ⟨bo, bc, rfl, hown, hb2⟩
    have hB2 := hb1.trans (hb2.mono hb1.size)
    have hrd := Lst.own_rd hown
    clear hb1 hb2 hown hr1
    generalize belows L L.length = l at HG HBL hrd ⊢
    have hpl : p < l.length := by rw [HBL.out]; exact hp
    have hpi : (p : Int) < (l.length : Int) := by omega
    rcases hrd with hrd | ⟨b, rfl, hcell⟩
    · rw [hrd] at hpl; simp at hpl
    have cp := hcell p hpl
    rw [HG.out] at cp
    clear hcell HBL HG
    go_wp2
    go_ret
    exact ⟨by rw [HT.out]; rfl, hB2⟩

theorem below_drewN {b : Nat} {a w : World} (h : Below b a w) (n : Nat) : Below b a (w.drewN n) := ⟨h.os, h.tape, h.output, h.size, h.block⟩

set_option maxHeartbeats 1600000 in
theorem specSees (g off cap : Nat) (L : List K) (a b : Int) (w : World) (hcap : L.length ≤ cap) (hw : WordsOk L) (hr : RdK w (some ⟨g, off, none⟩) L) :
    Calls Try.prog 11 #[.slice (some ⟨g, off, none⟩) L.length cap, .int .i64 a, .int .i64 b] w fun e w' => e = .returned (.bool (seesB L a b)) ∧ Below w.heap.size w w' := by
  go_enter Try.func11, Try.ntmps11
  go_wp2_with fail
  refine (l4Is g off cap L a _ hcap hw hr).mono ?_
  rintro e w1 ⟨rfl, hb1⟩
  have hr1 := hr.below hb1
  cases his : isB L a
  · have HT : Hid (seesB L a b = false) := by show _ = _; unfold seesB; rw [his]; rfl
    clear his
    go_wp2
    go_ret
    exact ⟨by rw [HT.out]; rfl, hb1⟩
  · have HT1 : Hid (seesB L a b = (isB L b && bit (bel L a.toNat) b.toNat)) := by show _ = _; unfold seesB; rw [his]; rfl
    obtain ⟨h0, h1, hlc⟩ := isB_parts his
    clear his
    go_wp2_with fail
    refine (l4Is g off cap L b _ hcap hw hr1).mono ?_
    rintro e w2 ⟨rfl, hb2⟩
    have hr2 := hr1.below hb2
    have hB2 := hb1.trans (hb2.mono hb1.size)
    clear hb1 hb2 hr1
    cases hib : isB L b
    · have HT : Hid (seesB L a b = false) := by show _ = _; rw [HT1.out, hib]; rfl
      clear hib HT1
      go_wp2
      go_ret
      exact ⟨by rw [HT.out]; rfl, hB2⟩
    · have HT : Hid (seesB L a b = bit (bel L a.toNat) b.toNat) := by show _ = _; rw [HT1.out, hib]; rfl
      obtain ⟨q0, q1, _⟩ := isB_parts hib
      have h60 := ((Lc.lace_iff L).1 hlc).1
      have hf := frm_lace hlc
      clear hib hlc HT1
      obtain ⟨p, rfl⟩ := Int.eq_ofNat_of_zero_le h0
      have hp : p < L.length := by omega
      have HG : Hid ((belows L L.length).getD p 0 = bel L p) := belows_get L L.length p hp
      have HBL : Hid ((belows L L.length).length = L.length) := belows_len L L.length
      have hbb := bel_bd L p (by omega)
      rw [Int.toNat_natCast] at HT
      go_wp2_with fail
      refine (l4All (some ⟨g, off, none⟩) cap L _ h60 hf hr2).mono ?_
      rintro e w3 ⟨bo, bc, rfl, hown, hb3⟩
      have hB3 := hB2.trans (hb3.mono hB2.size)
      have hrd := Lst.own_rd hown
      clear hB2 hb3 hown hr2
      generalize belows L L.length = l at HG HBL hrd ⊢
      have hpl : p < l.length := by rw [HBL.out]; exact hp
      have hpi : (p : Int) < (l.length : Int) := by omega
      rcases hrd with hrd | ⟨bb, rfl, hcell⟩
      · rw [hrd] at hpl; simp at hpl
      have cp := hcell p hpl
      rw [HG.out] at cp
      clear hcell HBL HG
      generalize bel L p = y at cp HT hbb
      go_wp2_with (go_at_call 16; refine (Base.l1Has _ _ _ hbb.1 hbb.2 q0 (by omega)).mono ?_; rintro e w' ⟨rfl, rfl⟩)
      go_ret
      exact ⟨by rw [HT.out]; rfl, hB3⟩

end Sg
end Go.Proofs.Ytdcjjopeobnpgab

namespace Go.Proofs.Ytdcjjopeobnpgab
open Go.RowKit
set_option maxRecDepth 100000
namespace Rm
open Kn (K okK)
open Lc (at' RdK laceB flat OwnK cellsOf)
open Cur (At)

/-- the cursor moves on, the list stays -/
theorem rd_grown2 {A B : World} {c g : Nat} {L : List K} (h : RdK A (some ⟨g, 0, none⟩) L) (hg : A.grownBy B (some c)) (hne : g ≠ c) : RdK B (some ⟨g, 0, none⟩) L := by
  rcases h with h | ⟨g', off', e, hlt, hc⟩
  · exact .inl h
  · cases e
    refine .inr ⟨g, 0, rfl, Nat.lt_of_lt_of_le hlt hg.size, fun i hi => ?_⟩
    have c' := hc i hi
    have f : ∀ o : Nat, B.cell? ⟨g, o, none⟩ = A.cell? ⟨g, o, none⟩ := fun o => (Fr.of_grown hg).cell (p := ⟨g, o, none⟩) hlt hne
    exact ⟨(f _).trans c'.c0, (f _).trans c'.c1, (f _).trans c'.c2, (f _).trans c'.c3⟩

end Rm
end Go.Proofs.Ytdcjjopeobnpgab

namespace Go.Proofs.Ytdcjjopeobnpgab
open Go.RowKit
set_option maxRecDepth 100000
namespace Sg
open Kn (K okK)
open Bit (bit withB)
open Lc (at')

/-- what has been reached when all numbers from m on are done -/
structure Inv (L : List K) (s : Int) (m : Nat) (r : Int) : Prop where
  lo : 0 ≤ r
  hi : r < 1152921504606846976
  start : ∀ j, bit s j = true → bit r j = true
  sound : ∀ j, bit r j = true → bit s j = true ∨ ∃ i, i < L.length ∧ bit s i = true ∧ Reach L i j
  done : ∀ i, m ≤ i → i < L.length → bit r i = true → ∀ j, bit (at' L i).frm j = true → bit r j = true

theorem inv_start (L : List K) (s : Int) (h0 : 0 ≤ s) (h1 : s < 1152921504606846976) : Inv L s L.length s :=
  ⟨h0, h1, fun _ h => h, fun _ h => .inl h, fun i h1 h2 => by omega⟩

theorem inv_skip {L : List K} {s r : Int} {m : Nat} (h : Inv L s (m + 1) r) (hb : bit r m = false) : Inv L s m r :=
  ⟨h.lo, h.hi, h.start, h.sound, fun i hi hl hr j hj => by
    by_cases e : i = m
    · subst e; rw [hb] at hr; exact Bool.noConfusion hr
    · exact h.done i (by omega) hl hr j hj⟩

theorem inv_take {L : List K} (hl : Lc.laceB L = true) {s r : Int} {m : Nat} (hm : m < L.length) (h : Inv L s (m + 1) r) (hb : bit r m = true) : Inv L s m (orB r (at' L m).frm) := by
  have hf := frm_lace hl _ (Lc.at_mem L m hm)
  have hbd := orB_bd r (at' L m).frm h.lo h.hi hf.1 hf.2
  refine ⟨hbd.1, hbd.2, ?_, ?_, ?_⟩
  · intro j hj; rw [bit_orB _ _ h.lo hf.1, h.start j hj]; rfl
  · intro j hj
    rw [bit_orB _ _ h.lo hf.1, Bool.or_eq_true] at hj
    rcases hj with hj | hj
    · exact h.sound j hj
    · rcases h.sound m hb with hs | ⟨i, hi, hs, hr⟩
      · exact .inr ⟨m, hm, hs, .step hj (.self _)⟩
      · exact .inr ⟨i, hi, hs, hr.trans (.step hj (.self _))⟩
  · intro i hi hil hr j hj
    rw [bit_orB _ _ h.lo hf.1, Bool.or_eq_true] at hr ⊢
    by_cases e : i = m
    · subst e; exact .inr hj
    · rcases hr with hr | hr
      · exact .inl (h.done i (by omega) hil hr j hj)
      · have := thread_lt hl hm hr; omega

/-- all that hangs below one of the set has been reached -/
theorem inv_reach {L : List K} (hl : Lc.laceB L = true) {s r : Int} (h : Inv L s 0 r) {i j : Nat} (hi : i < L.length) (hb : bit r i = true) (hr : Reach L i j) : bit r j = true := by
  induction hr with
  | self => exact hb
  | step hm _ ih => exact ih (Nat.lt_trans (thread_lt hl hi hm) hi) (h.done _ (Nat.zero_le _) hi hb _ hm)

/-- those met so far are kept -/
structure Met (L : List K) (m : Nat) (r f : Int) : Prop where
  lo : 0 ≤ f
  hi : f < 1152921504606846976
  has : ∀ j, bit f j = true ↔ m ≤ j ∧ j < L.length ∧ bit r j = true

theorem met_start (L : List K) (s : Int) : Met L L.length s 0 := ⟨by omega, by omega, fun j => by rw [Lc.bit_zero]; simp; omega⟩

theorem met_skip {L : List K} {r f : Int} {m : Nat} (h : Met L (m + 1) r f) (hb : bit r m = false) : Met L m r f :=
  ⟨h.lo, h.hi, fun j => by
    rw [h.has j]
    constructor
    · rintro ⟨a, b, c⟩; exact ⟨by omega, b, c⟩
    · rintro ⟨a, b, c⟩
      refine ⟨?_, b, c⟩
      apply Classical.byContradiction
      intro hn
      obtain rfl : j = m := by omega
      rw [hb] at c; exact Bool.noConfusion c⟩

theorem met_take {L : List K} (hl : Lc.laceB L = true) {s r f : Int} {m : Nat} (hm : m < L.length) (hi : Inv L s (m + 1) r) (h : Met L (m + 1) r f) (hb : bit r m = true) : Met L m (orB r (at' L m).frm) (withB f m) := by
  have h60 := ((Lc.lace_iff L).1 hl).1
  have hf := frm_lace hl _ (Lc.at_mem L m hm)
  have hbd := Bit.withB_bd f h.lo h.hi m (by omega)
  refine ⟨hbd.1, hbd.2, fun j => ?_⟩
  rw [Bit.bit_withB f h.lo, bit_orB _ _ hi.lo hf.1]
  simp only [Bool.or_eq_true, decide_eq_true_eq]
  rw [h.has j]
  constructor
  · rintro (rfl | ⟨a, b, c⟩)
    · exact ⟨Nat.le_refl _, hm, .inl hb⟩
    · exact ⟨by omega, b, .inl c⟩
  · rintro ⟨a, b, c | c⟩
    · by_cases e : j = m
      · exact .inl e
      · exact .inr ⟨by omega, b, c⟩
    · have := thread_lt hl hm c; omega

/-- a set of one -/
def oneI (k : Int) : Int := if 0 ≤ k ∧ k < 60 then 2 ^ k.toNat else 0

theorem oneI_bd (k : Int) : 0 ≤ oneI k ∧ oneI k < 1152921504606846976 := by
  unfold oneI
  split
  · rename_i h; have := Base.pow_bd k.toNat (by omega); exact ⟨by omega, this.2⟩
  · omega

theorem bit_oneI (k : Int) (j : Nat) : bit (oneI k) j = true ↔ k = (j : Int) ∧ j < 60 := by
  unfold oneI
  split
  · rename_i h; rw [bit_pow]; simp; omega
  · rw [Lc.bit_zero]; simp; omega

/-- what the walk from one has met at its end -/
def metI (L : List K) (k : Int) : Int := if 0 ≤ k ∧ k < (L.length : Int) then bel L k.toNat else 0

theorem met_end {L : List K} (hl : Lc.laceB L = true) {k r f : Int} (hi : Inv L (oneI k) 0 r) (h : Met L 0 r f) : f = metI L k := by
  have h60 := ((Lc.lace_iff L).1 hl).1
  unfold metI
  split
  · rename_i hk
    obtain ⟨p, rfl⟩ := Int.eq_ofNat_of_zero_le hk.1
    rw [Int.toNat_natCast]
    have hp : p < L.length := by omega
    have hbd := bel_bd L p (by omega)
    refine Lc.eq_of_bits _ _ h.lo hbd.1 fun j => ?_
    rw [Bool.eq_iff_iff, h.has j, bel_reach hl p hp j]
    constructor
    · rintro ⟨_, _, c⟩
      rcases hi.sound j c with hs | ⟨i, _, hs, hr⟩
      · have := ((bit_oneI _ _).1 hs).1
        obtain rfl : p = j := by omega
        exact .self _
      · have := ((bit_oneI _ _).1 hs).1
        obtain rfl : p = i := by omega
        exact hr
    · intro hr
      have := reach_le hl hp hr
      refine ⟨Nat.zero_le _, by omega, ?_⟩
      exact inv_reach hl hi hp (hi.start p ((bit_oneI _ _).2 ⟨rfl, by omega⟩)) hr
  · rename_i hk
    refine Lc.eq_of_bits _ _ h.lo (Int.le_refl _) fun j => ?_
    rw [Lc.bit_zero, Bool.eq_false_iff]
    intro hj
    obtain ⟨_, hjl, c⟩ := (h.has j).1 hj
    rcases hi.sound j c with hs | ⟨i, hil, hs, _⟩
    · have := ((bit_oneI _ _).1 hs).1; omega
    · have := ((bit_oneI _ _).1 hs).1; omega

/-! ### closed -/
/-- all that is met is in the set, so far -/
def Kept (L : List K) (s : Int) (m : Nat) (r : Int) : Prop := ∀ j, m ≤ j → j < L.length → bit r j = true → bit s j = true

theorem kept_start (L : List K) (s r : Int) : Kept L s L.length r := fun j h1 h2 => by omega

theorem kept_skip {L : List K} {s r : Int} {m : Nat} (h : Kept L s (m + 1) r) (hb : bit r m = false) : Kept L s m r := fun j h1 h2 h3 => by
  by_cases e : j = m
  · subst e; rw [hb] at h3; exact Bool.noConfusion h3
  · exact h j (by omega) h2 h3

theorem kept_take {L : List K} (hl : Lc.laceB L = true) {s r : Int} {m : Nat} (hm : m < L.length) (hi : Inv L s (m + 1) r) (h : Kept L s (m + 1) r) (hs : bit s m = true) : Kept L s m (orB r (at' L m).frm) := fun j h1 h2 h3 => by
  have hf := frm_lace hl _ (Lc.at_mem L m hm)
  by_cases e : j = m
  · subst e; exact hs
  · rw [bit_orB _ _ hi.lo hf.1, Bool.or_eq_true] at h3
    rcases h3 with h3 | h3
    · exact h j (by omega) h2 h3
    · have := thread_lt hl hm h3; omega

theorem reach_in {L : List K} (hl : Lc.laceB L = true) {s : Int} (h : ∀ i, i < L.length → bit s i = true → ∀ m, bit (at' L i).frm m = true → bit s m = true) {i j : Nat} (hi : i < L.length) (hb : bit s i = true) (hr : Reach L i j) : bit s j = true := by
  induction hr with
  | self => exact hb
  | step hm _ ih => exact ih (Nat.lt_trans (thread_lt hl hi hm) hi) (h _ hi hb _ hm)

theorem closed_end {L : List K} (hl : Lc.laceB L = true) {s r : Int} (h0 : 0 ≤ s) (h1 : s < 1152921504606846976) (hi : Inv L s 0 r) (h : Kept L s 0 r) : closedTo (belows L L.length) s L.length = true := by
  rw [closed_threads hl s h0 h1]
  intro i hil hb m hm
  have := thread_lt hl hil hm
  exact h m (Nat.zero_le _) (by omega) (hi.done i (Nat.zero_le _) hil (hi.start i hb) m hm)

theorem closed_not {L : List K} (hl : Lc.laceB L = true) {s r : Int} (h0 : 0 ≤ s) (h1 : s < 1152921504606846976) {m j : Nat} (hi : Inv L s m r) (hr : bit r j = true) (hs : bit s j = false) : closedTo (belows L L.length) s L.length = false := by
  rw [Bool.eq_false_iff]
  intro hc
  rw [closed_threads hl s h0 h1] at hc
  rcases hi.sound j hr with h | ⟨i, hil, hb, hre⟩
  · rw [hs] at h; exact Bool.noConfusion h
  · have := reach_in hl hc hil hb hre
    rw [hs] at this; exact Bool.noConfusion this

/-! ### tips -/
theorem bit_andNot (a s : Int) (h0 : 0 ≤ a) (h1 : a < 1152921504606846976) (h2 : 0 ≤ s) (h3 : s < 1152921504606846976) (i : Nat) : bit (bits .andNot .i64 a s) i = (bit a i && !bit s i) := by
  obtain ⟨A, rfl⟩ := Int.eq_ofNat_of_zero_le h0
  obtain ⟨S, rfl⟩ := Int.eq_ofNat_of_zero_le h2
  have hA : (BitVec.ofInt 64 (A : Int)).toNat = A := ofInt_u64 A (by omega)
  have hS : (BitVec.ofInt 64 (S : Int)).toNat = S := ofInt_u64 S (by omega)
  have hx : (BitVec.ofInt 64 (A : Int) &&& ~~~ BitVec.ofInt 64 (S : Int)).toNat ≤ A := by
    rw [BitVec.toNat_and, hA]; exact Nat.and_le_left
  have e : bits .andNot .i64 (A : Int) (S : Int) = ((BitVec.ofInt 64 (A : Int) &&& ~~~ BitVec.ofInt 64 (S : Int)).toNat : Int) := by
    show IntKind.i64.wrap ((BitVec.ofInt 64 (A : Int) &&& ~~~ BitVec.ofInt 64 (S : Int)).toNat : Int) = _
    rw [IntKind.wrap_i64]; omega
  have hn : (0 : Int) ≤ ((BitVec.ofInt 64 (A : Int) &&& ~~~ BitVec.ofInt 64 (S : Int)).toNat : Int) := by omega
  rw [e, Bit.bit_testBit _ hn, Int.toNat_natCast, Bit.bit_testBit _ h0, Bit.bit_testBit _ h2, Int.toNat_natCast, Int.toNat_natCast]
  by_cases h64 : i < 64
  · show (BitVec.ofInt 64 (A : Int) &&& ~~~ BitVec.ofInt 64 (S : Int)).getLsbD i = _
    rw [BitVec.getLsbD_and, BitVec.getLsbD_not, BitVec.getLsbD, hA, BitVec.getLsbD, hS]
    simp [h64]
  · have ha : A.testBit i = false := Nat.testBit_lt_two_pow (Nat.lt_of_lt_of_le (show A < 2 ^ 64 by omega) (Nat.pow_le_pow_right (by decide) (by omega)))
    have hb : (BitVec.ofInt 64 (A : Int) &&& ~~~ BitVec.ofInt 64 (S : Int)).toNat.testBit i = false := Nat.testBit_lt_two_pow (Nat.lt_of_lt_of_le (show _ < 2 ^ 64 by omega) (Nat.pow_le_pow_right (by decide) (by omega)))
    rw [ha, hb]; rfl

theorem andNot_bd' (a s : Int) (h0 : 0 ≤ a) (h1 : a < 1152921504606846976) : 0 ≤ bits .andNot .i64 a s ∧ bits .andNot .i64 a s < 1152921504606846976 := by
  obtain ⟨A, rfl⟩ := Int.eq_ofNat_of_zero_le h0
  have hA : (BitVec.ofInt 64 (A : Int)).toNat = A := ofInt_u64 A (by omega)
  have hx : (BitVec.ofInt 64 (A : Int) &&& ~~~ BitVec.ofInt 64 s).toNat ≤ A := by
    rw [BitVec.toNat_and, hA]; exact Nat.and_le_left
  have e : bits .andNot .i64 (A : Int) s = ((BitVec.ofInt 64 (A : Int) &&& ~~~ BitVec.ofInt 64 s).toNat : Int) := by
    show IntKind.i64.wrap ((BitVec.ofInt 64 (A : Int) &&& ~~~ BitVec.ofInt 64 s).toNat : Int) = _
    rw [IntKind.wrap_i64]; omega
  rw [e]; omega

theorem tipsTo_bd (l : List Int) (s : Int) (n : Nat) (h0 : 0 ≤ s) (h1 : s < 1152921504606846976) : 0 ≤ tipsTo l s n ∧ tipsTo l s n < 1152921504606846976 := by
  induction n with
  | zero => exact ⟨h0, h1⟩
  | succ n ih =>
    unfold tipsTo
    split
    · exact andNot_bd' _ _ ih.1 ih.2
    · exact ih

theorem bit_tips (L : List K) (s : Int) (n N : Nat) (hn : n ≤ N) (hN : N ≤ 60) (h0 : 0 ≤ s) (h1 : s < 1152921504606846976) (j : Nat) : bit (tipsTo (belows L N) s n) j = true ↔ bit s j = true ∧ ∀ i, i < n → bit s i = true → j ≠ i → bit (bel L i) j = false := by
  induction n with
  | zero => unfold tipsTo; simp
  | succ n ih =>
    have ih := ih (by omega)
    have hbd := tipsTo_bd (belows L N) s n h0 h1
    have hb := bel_bd L n (by omega)
    have hp := Base.pow_bd n (by omega)
    have hg := belows_get L N n (by omega)
    unfold tipsTo
    cases hs : bit s n
    · simp only [Bool.false_eq_true, if_false]
      rw [ih]
      constructor
      · rintro ⟨a, b⟩
        refine ⟨a, fun i hi hb' hj => ?_⟩
        by_cases e : i = n
        · subst e; rw [hs] at hb'; exact Bool.noConfusion hb'
        · exact b i (by omega) hb' hj
      · rintro ⟨a, b⟩; exact ⟨a, fun i hi hb' hj => b i (by omega) hb' hj⟩
    · simp only [if_true]
      have hq := andNot_bd' (bel L n) (2 ^ n) hb.1 hb.2
      rw [hg, bit_andNot _ _ hbd.1 hbd.2 hq.1 hq.2, bit_andNot _ _ hb.1 hb.2 (by omega) hp.2, bit_pow, Bool.and_eq_true, ih]
      constructor
      · rintro ⟨⟨a, b⟩, c⟩
        refine ⟨a, fun i hi hb' hj => ?_⟩
        by_cases e : i = n
        · subst e
          rw [decide_eq_false hj] at c
          simpa using c
        · exact b i (by omega) hb' hj
      · rintro ⟨a, b⟩
        refine ⟨⟨a, fun i hi hb' hj => b i (by omega) hb' hj⟩, ?_⟩
        by_cases e : j = n
        · rw [decide_eq_true e]; simp
        · rw [b n (by omega) hs e]; rfl

/-- those of the set that no thread of a met one leads to -/
structure Unseen (L : List K) (s : Int) (m : Nat) (r u : Int) : Prop where
  lo : 0 ≤ u
  hi : u < 1152921504606846976
  has : ∀ j, bit u j = true ↔ bit s j = true ∧ ∀ i, m ≤ i → i < L.length → bit r i = true → bit (at' L i).frm j = false

theorem unseen_start (L : List K) (s r : Int) (h0 : 0 ≤ s) (h1 : s < 1152921504606846976) : Unseen L s L.length r s := ⟨h0, h1, fun j => ⟨fun h => ⟨h, fun i h1 h2 => by omega⟩, fun h => h.1⟩⟩

theorem unseen_skip {L : List K} {s r u : Int} {m : Nat} (h : Unseen L s (m + 1) r u) (hb : bit r m = false) : Unseen L s m r u :=
  ⟨h.lo, h.hi, fun j => by
    rw [h.has j]
    constructor
    · rintro ⟨a, b⟩
      refine ⟨a, fun i h1 h2 h3 => ?_⟩
      by_cases e : i = m
      · subst e; rw [hb] at h3; exact Bool.noConfusion h3
      · exact b i (by omega) h2 h3
    · rintro ⟨a, b⟩; exact ⟨a, fun i h1 h2 h3 => b i (by omega) h2 h3⟩⟩

theorem unseen_take {L : List K} (hl : Lc.laceB L = true) {s r u : Int} {m : Nat} (hm : m < L.length) (hi : Inv L s (m + 1) r) (h : Unseen L s (m + 1) r u) (hb : bit r m = true) : Unseen L s m (orB r (at' L m).frm) (bits .andNot .i64 u (at' L m).frm) := by
  have hf := frm_lace hl _ (Lc.at_mem L m hm)
  have hbd := andNot_bd' u (at' L m).frm h.lo h.hi
  refine ⟨hbd.1, hbd.2, fun j => ?_⟩
  rw [bit_andNot _ _ h.lo h.hi hf.1 hf.2, Bool.and_eq_true, h.has j]
  constructor
  · rintro ⟨⟨a, b⟩, c⟩
    refine ⟨a, fun i h1 h2 h3 => ?_⟩
    rw [bit_orB _ _ hi.lo hf.1, Bool.or_eq_true] at h3
    by_cases e : i = m
    · subst e; simpa using c
    · rcases h3 with h3 | h3
      · exact b i (by omega) h2 h3
      · have := thread_lt hl hm h3; omega
  · rintro ⟨a, b⟩
    refine ⟨⟨a, fun i h1 h2 h3 => b i (by omega) h2 (by rw [bit_orB _ _ hi.lo hf.1, h3]; rfl)⟩, ?_⟩
    rw [b m (Nat.le_refl _) hm (by rw [bit_orB _ _ hi.lo hf.1, hb]; rfl)]; rfl

theorem reach_last {L : List K} {i j : Nat} (h : Reach L i j) : j = i ∨ ∃ p, Reach L i p ∧ bit (at' L p).frm j = true := by
  induction h with
  | self => exact .inl rfl
  | @step i m j hb hr ih =>
    rcases ih with rfl | ⟨p, hp, hq⟩
    · exact .inr ⟨i, .self _, hb⟩
    · exact .inr ⟨p, .step hb hp, hq⟩

theorem tips_end {L : List K} (hl : Lc.laceB L = true) {s r u : Int} (h0 : 0 ≤ s) (h1 : s < 1152921504606846976) (hc : closedTo (belows L L.length) s L.length = true) (hi : Inv L s 0 r) (h : Unseen L s 0 r u) : u = tipsTo (belows L L.length) s L.length := by
  have h60 := ((Lc.lace_iff L).1 hl).1
  have hbd := tipsTo_bd (belows L L.length) s L.length h0 h1
  rw [closed_threads hl s h0 h1] at hc
  refine Lc.eq_of_bits _ _ h.lo hbd.1 fun j => ?_
  rw [Bool.eq_iff_iff, h.has j, bit_tips L s L.length L.length (Nat.le_refl _) h60 h0 h1 j]
  constructor
  · rintro ⟨a, b⟩
    refine ⟨a, fun i hil hs hj => ?_⟩
    rw [Bool.eq_false_iff]
    intro hbe
    rcases reach_last ((bel_reach hl i hil j).1 hbe) with e | ⟨p, hp, hq⟩
    · exact hj e
    · have hpl := reach_le hl hil hp
      have := b p (Nat.zero_le _) (by omega) (hi.start p (reach_in hl hc hil hs hp))
      rw [this] at hq; exact Bool.noConfusion hq
  · rintro ⟨a, b⟩
    refine ⟨a, fun i _ hil hr => ?_⟩
    rw [Bool.eq_false_iff]
    intro hbf
    have hs : bit s i = true := by
      rcases hi.sound i hr with h | ⟨i', hil', hs', hre⟩
      · exact h
      · exact reach_in hl hc hil' hs' hre
    have hlt := thread_lt hl hil hbf
    have := b i hil hs (by omega)
    rw [(bel_reach hl i hil j).2 (.step hbf (.self _))] at this
    exact Bool.noConfusion this

/-! ### what the walk meets, in its order -/
def visF (L : List K) : (m : Nat) → m ≤ L.length → Int → List (Fin L.length)
  | 0, _, _ => []
  | m + 1, h, r => if bit r m then ⟨m, h⟩ :: visF L m (Nat.le_of_succ_le h) (orB r (at' L m).frm) else visF L m (Nat.le_of_succ_le h) r

def vis (L : List K) (s : Int) : List (Fin L.length) := visF L L.length (Nat.le_refl _) s

theorem visF_yes (L : List K) (m : Nat) (h : m + 1 ≤ L.length) (r : Int) (hb : bit r m = true) : visF L (m + 1) h r = ⟨m, h⟩ :: visF L m (Nat.le_of_succ_le h) (orB r (at' L m).frm) := by
  show (if bit r m then _ else _) = _
  rw [hb]; rfl
theorem visF_no (L : List K) (m : Nat) (h : m + 1 ≤ L.length) (r : Int) (hb : bit r m = false) : visF L (m + 1) h r = visF L m (Nat.le_of_succ_le h) r := by
  show (if bit r m then _ else _) = _
  rw [hb]; rfl

theorem visF_len (L : List K) (m : Nat) (h : m ≤ L.length) (r : Int) : (visF L m h r).length ≤ m := by
  induction m generalizing r with
  | zero => exact Nat.le_refl _
  | succ m ih =>
    cases hb : bit r m
    · rw [visF_no L m h r hb]; have := ih (Nat.le_of_succ_le h) r; omega
    · rw [visF_yes L m h r hb]; have := ih (Nat.le_of_succ_le h) (orB r (at' L m).frm); simp; omega

theorem vis_len (L : List K) (s : Int) : (vis L s).length ≤ L.length := visF_len L _ _ s

/-- those gathered -/
def gath {n : Nat} (f : Int) (xs : List (Fin n)) : Int := xs.foldl (fun f x => withB f x.val) f
theorem gath_snoc {n : Nat} (f : Int) (xs : List (Fin n)) (x : Fin n) : gath f (xs ++ [x]) = withB (gath f xs) x.val := by simp [gath]

theorem gath_bd {n : Nat} (hn : n ≤ 60) (xs : List (Fin n)) : 0 ≤ gath 0 xs ∧ gath 0 xs < 1152921504606846976 := by
  have : ∀ (xs : List (Fin n)) (f : Int), 0 ≤ f → f < 1152921504606846976 → 0 ≤ gath f xs ∧ gath f xs < 1152921504606846976 := by
    intro xs
    induction xs with
    | nil => intro f h0 h1; exact ⟨h0, h1⟩
    | cons x xs ih =>
      intro f h0 h1
      have hx := x.isLt
      have hb := Bit.withB_bd f h0 h1 x.val (by omega)
      exact ih _ hb.1 hb.2
  exact this xs 0 (by omega) (by omega)

theorem gath_vis {L : List K} (hl : Lc.laceB L = true) (k : Int) : gath 0 (vis L (oneI k)) = metI L k := by
  have h60 := ((Lc.lace_iff L).1 hl).1
  have : ∀ (m : Nat) (h : m ≤ L.length) (r f : Int), Inv L (oneI k) m r → Met L m r f → gath f (visF L m h r) = metI L k := by
    intro m
    induction m with
    | zero => intro h r f hi hm; exact met_end hl hi hm
    | succ m ih =>
      intro h r f hi hm
      cases hb : bit r m
      · rw [visF_no L m h r hb]; exact ih _ r f (inv_skip hi hb) (met_skip hm hb)
      · rw [visF_yes L m h r hb]; exact ih _ _ _ (inv_take hl h hi hb) (met_take hl h hi hm hb)
  exact this L.length (Nat.le_refl _) (oneI k) 0 (inv_start L _ (oneI_bd k).1 (oneI_bd k).2) (met_start L _)

theorem vis_closed {L : List K} (hl : Lc.laceB L = true) (s : Int) (h0 : 0 ≤ s) (h1 : s < 1152921504606846976) : (∀ x ∈ vis L s, bit s x.val = true) ↔ closedTo (belows L L.length) s L.length = true := by
  have : ∀ (m : Nat) (h : m ≤ L.length) (r : Int), Inv L s m r → Kept L s m r → ((∀ x ∈ visF L m h r, bit s x.val = true) ↔ closedTo (belows L L.length) s L.length = true) := by
    intro m
    induction m with
    | zero => intro h r hi hk; exact ⟨fun _ => closed_end hl h0 h1 hi hk, fun _ x hx => by cases hx⟩
    | succ m ih =>
      intro h r hi hk
      cases hb : bit r m
      · rw [visF_no L m h r hb]; exact ih _ r (inv_skip hi hb) (kept_skip hk hb)
      · rw [visF_yes L m h r hb]
        cases hs : bit s m
        · constructor
          · intro hx
            have := hx ⟨m, h⟩ (List.mem_cons_self ..)
            rw [hs] at this; exact Bool.noConfusion this
          · intro hc
            rw [closed_not hl h0 h1 hi hb hs] at hc; exact Bool.noConfusion hc
        · have := ih (Nat.le_of_succ_le h) _ (inv_take hl h hi hb) (kept_take hl h hi hk hs)
          rw [← this]
          constructor
          · intro hx x hm; exact hx x (List.mem_cons_of_mem _ hm)
          · intro hx x hm
            rcases List.mem_cons.1 hm with rfl | hm
            · exact hs
            · exact hx x hm
  exact this L.length (Nat.le_refl _) s (inv_start L _ h0 h1) (kept_start L s s)

/-- what is left of a set when the threads of those are struck -/
def strike (L : List K) (u : Int) (xs : List (Fin L.length)) : Int := xs.foldl (fun u x => bits .andNot .i64 u (at' L x.val).frm) u
theorem strike_snoc (L : List K) (u : Int) (xs : List (Fin L.length)) (x : Fin L.length) : strike L u (xs ++ [x]) = bits .andNot .i64 (strike L u xs) (at' L x.val).frm := by simp [strike]

theorem strike_vis {L : List K} (hl : Lc.laceB L = true) (s : Int) (h0 : 0 ≤ s) (h1 : s < 1152921504606846976) (hc : closedTo (belows L L.length) s L.length = true) : strike L s (vis L s) = tipsTo (belows L L.length) s L.length := by
  have : ∀ (m : Nat) (h : m ≤ L.length) (r u : Int), Inv L s m r → Unseen L s m r u → strike L u (visF L m h r) = tipsTo (belows L L.length) s L.length := by
    intro m
    induction m with
    | zero => intro h r u hi hu; exact tips_end hl h0 h1 hc hi hu
    | succ m ih =>
      intro h r u hi hu
      cases hb : bit r m
      · rw [visF_no L m h r hb]; exact ih _ r u (inv_skip hi hb) (unseen_skip hu hb)
      · rw [visF_yes L m h r hb]; exact ih _ _ _ (inv_take hl h hi hb) (unseen_take hl h hi hu hb)
  exact this L.length (Nat.le_refl _) s s (inv_start L _ h0 h1) (unseen_start L s s h0 h1)

end Sg
end Go.Proofs.Ytdcjjopeobnpgab

namespace Go.Proofs.Ytdcjjopeobnpgab
open Go.RowKit
set_option maxRecDepth 100000
namespace Lc
open Kn (K okK)
open Bit (bit withB)

theorem pow60 (n : Nat) (hn : n ≤ 60) : (1 : Int) ≤ 2 ^ n ∧ (2 : Int) ^ n ≤ 1152921504606846976 := by
  have hp : 1 ≤ 2 ^ n := Nat.one_le_two_pow
  have hq : 2 ^ n ≤ 2 ^ 60 := Nat.pow_le_pow_right (by decide) hn
  have hpc : ((2 ^ n : Nat) : Int) = (2 : Int) ^ n := by simp
  omega

theorem wrap60 (n : Nat) (hn : n ≤ 60) : IntKind.i64.wrap (2 ^ n) = 2 ^ n := by
  have := pow60 n hn
  rw [IntKind.wrap_i64]; omega

/-- within the lace -/
def inL (n : Nat) (s : Int) : Bool := decide (0 ≤ s) && decide (s / 2 ^ n = 0)

set_option maxHeartbeats 400000 in
theorem all (a : Option Addr) (cap n : Nat) (w : World) (hn : n ≤ 60) : Calls Try.prog 46 #[.slice a n cap] w fun e w' => e = .returned (.int .i64 (2 ^ n - 1)) ∧ w = w' := by
  have h1 := wrap60 n hn
  have h2 := pow60 n hn
  go_enter Try.func46, Try.ntmps46
  go_wp2
  go_ret
  exact ⟨rfl, rfl⟩

theorem setB_eq (L : List K) (s : Int) : setB L s = (laceB L && inL L.length s) := rfl

end Lc
end Go.Proofs.Ytdcjjopeobnpgab

namespace Go.Proofs.Ytdcjjopeobnpgab
open Go.RowKit
set_option maxRecDepth 100000
attribute [local go_sem] Oper.semAt_some
namespace Sg
open Kn (K okK)
open Bit (bit withB)
open Lc (at' RdK CellsK)

/-- what a round keeps: whatever lay below n₀, and the walk's own box for the lace -/
def KpL (n₀ Bl : Nat) (W W' : World) : Prop := Below n₀ W W' ∧ W'.heap[Bl]? = W.heap[Bl]?
theorem kpL_t {n₀ Bl : Nat} {A B C : World} (h : KpL n₀ Bl A B) (k : KpL n₀ Bl B C) : KpL n₀ Bl A C := ⟨h.1.trans k.1, k.2.trans h.2⟩
theorem kpL_b {n₀ Bl : Nat} {w : World} (hn : n₀ ≤ w.heap.size) (hB : Bl < w.heap.size) (W : World) (l : Nat) (o o' : Obj) (hl : w.heap.size ≤ l) (h : W.heap[l]? = some o) (h1 : o.isCells = false) (h2 : o.isWalk = false) : KpL n₀ Bl W (W.putObj l o') :=
  ⟨belowK_b hn W l o o' hl h h1 h2, World.putObj_heap_other (by omega)⟩
theorem kpL_refl (n₀ Bl : Nat) (W : World) : KpL n₀ Bl W W := ⟨Below.refl _ _, rfl⟩
theorem kpL_put {n₀ Bl : Nat} (W : World) (b : Nat) (hb : n₀ ≤ b) (hB : Bl ≠ b) (u : Value) : KpL n₀ Bl W (W.setCell ⟨b, 0, none⟩ u) :=
  ⟨(Below.refl n₀ W).setCell (p := ⟨b, 0, none⟩) hb u, Below.heap_setCell W ⟨b, 0, none⟩ u Bl hB⟩

theorem cellsK_at {n₀ : Nat} {w w' : World} {g o : Nat} {k : K} (h : CellsK w g o k) (hb : Below n₀ w w') (hg : g < n₀) : CellsK w' g o k where
  c0 := (hb.cell (p := ⟨g, o, none⟩) hg).trans h.c0
  c1 := (hb.cell (p := ⟨g, o + 1, none⟩) hg).trans h.c1
  c2 := (hb.cell (p := ⟨g, o + 2, none⟩) hg).trans h.c2
  c3 := (hb.cell (p := ⟨g, o + 3, none⟩) hg).trans h.c3

theorem cell_block {w w' : World} {b : Nat} (h : w'.heap[b]? = w.heap[b]?) : w'.cell? ⟨b, 0, none⟩ = w.cell? ⟨b, 0, none⟩ := World.cell?_of_block (w := w) h

set_option maxHeartbeats 2000000 in
theorem under1 (n : Nat) (hn : 1 ≤ n) (l Bs Bl n₀ g off cap : Nat) (L : List K) (hlc : Lc.laceB L = true) (s : Int) (h0 : 0 ≤ s) (h1 : s < 1152921504606846976) (hg : g < n₀) (J Jx : List (Fin L.length) → World → Prop)
    (hY : ∀ pre x W, J pre W → pre.length < L.length → YieldAt Fence.wide (n - 1) Try.prog l #[.int .i64 (x.val : Int)] W fun e W' =>
      (e = .returned (.bool true) ∧ J (pre ++ [x]) W' ∧ KpL n₀ Bl W W') ∨ (e = .returned (.bool false) ∧ Jx (pre ++ [x]) W'))
    (W : World) (hBs : W.cell? ⟨Bs, 0, none⟩ = some (.int .i64 s)) (hBl : W.cell? ⟨Bl, 0, none⟩ = some (.slice (some ⟨g, off, none⟩) L.length cap)) (hr : RdK W (some ⟨g, off, none⟩) L) (hJ0 : J [] W) :
    CallsIn Fence.wide n Try.prog 80 #[.func (.yield l) #[] #[], .pointer (some ⟨Bs, 0, none⟩), .pointer (some ⟨Bl, 0, none⟩)] W fun e W' => (∃ v, e = .returned v) ∧
      ((∃ ys, ys = vis L s ∧ J ys W') ∨ (∃ pre, pre <+: vis L s ∧ Jx pre W')) := by
  have h60 := ((Lc.lace_iff L).1 hlc).1
  refine callsIn_of_wp Try.func80 rfl trivial ?_ rfl
  simp only [Try.ntmps80, List.size_toArray, List.length_cons, List.length_nil, Nat.reduceAdd, Nat.reduceSub, Array.replicate_succ, Array.replicate_zero, List.push_toArray, List.append_toArray, List.nil_append, List.cons_append]
  gi_wp2
  gi_loopw [4, 5] (fun r i wr => ∃ (m : Nat) (hm : m ≤ L.length) (ri x : Int) (pre : List (Fin L.length)), i = .int .i64 x ∧ x = (m : Int) - 1 ∧ r = .int .i64 ri ∧ Hid (pre ++ visF L m hm ri = vis L s) ∧ Hid (Inv L s m ri) ∧ Hid (J pre wr) ∧ Hid (KpL n₀ Bl W wr))
    (fun _ i _ => (intOf i + 1).toNat)
  case atStart => exact ⟨L.length, Nat.le_refl _, s, _, [], rfl, by first | omega | go_num, rfl, rfl, inv_start L s h0 h1, hJ0, kpL_refl _ _ _⟩
  case round =>
    obtain ⟨m, hm, ri, x, pre, rfl, hx, rfl, HV, HI, HJ, HK⟩ := hrel
    cases m with
    | zero =>
      obtain rfl : x = -1 := by omega
      clear hx
      gi_wp2
      go_end0
      exact ⟨⟨_, rfl⟩, .inl ⟨pre, by have := HV.out; rw [← this]; exact (List.append_nil _).symm, HJ.out⟩⟩
    | succ m =>
      obtain rfl : x = (m : Int) := by omega
      clear hx
      have hml : m < L.length := hm
      have hin : Base.inB (m : Int) = true := (Base.inB_iff _).2 ⟨by omega, by omega⟩
      have hok : Base.okB ri = true := (Base.okB_iff _).2 ⟨HI.out.lo, HI.out.hi⟩
      cases hb : bit ri m
      · have HH : Hid ((Base.okB ri && (Base.inB (m : Int) && bit ri m)) = false) := by show _ = _; simp [hb]
        have HV2 : Hid (pre ++ visF L m (Nat.le_of_succ_le hm) ri = vis L s) := by show _ = _; rw [← visF_no L m hm ri hb]; exact HV.out
        have HI2 : Hid (Inv L s m ri) := inv_skip HI.out hb
        clear hb HV HI hin hok
        gi_wp2_with (first | (gi_at_call 64; refine (callsIn_wide.2 (Base.has _ _ _)).mono ?_; rintro e w' ⟨rfl, rfl⟩; rw [Int.toNat_natCast, HH.out]) | (refine ⟨trivial, ?_⟩; gi_at_call 64; refine (callsIn_wide.2 (Base.has _ _ _)).mono ?_; rintro e w' ⟨rfl, rfl⟩; rw [Int.toNat_natCast, HH.out]))
        go_roundw
        case rel => exact ⟨m, Nat.le_of_succ_le hm, ri, _, pre, by go_num, rfl, rfl, HV2, HI2, HJ, HK⟩
        case measure => simp [intOf]
      · have HH : Hid ((Base.okB ri && (Base.inB (m : Int) && bit ri m)) = true) := by show _ = _; simp [hb, hin, hok]
        have HV2 : Hid ((pre ++ [⟨m, hm⟩]) ++ visF L m (Nat.le_of_succ_le hm) (orB ri (at' L m).frm) = vis L s) := by
          show _ = _
          rw [List.append_assoc, List.singleton_append, ← visF_yes L m hm ri hb]; exact HV.out
        have HI2 : Hid (Inv L s m (orB ri (at' L m).frm)) := inv_take hlc hml HI.out hb
        have hfr := frm_lace hlc _ (Lc.at_mem L m hml)
        have HOr : Hid (bits .or .i64 ri (at' L m).frm = orB ri (at' L m).frm) := or_eq _ _ HI.out.lo HI.out.hi hfr.1 hfr.2
        have hlen : pre.length < L.length := by
          have h1 := congrArg List.length HV2.out
          have h2 := vis_len L s
          simp at h1; omega
        obtain ⟨fn, tmps, assign, body, hy, hR⟩ := hY pre ⟨m, hm⟩ wr HJ.out hlen
        dsimp only at hy
        have HC : Hid (∀ W3, KpL n₀ Bl wr W3 → W3.cell? ⟨Bl, 0, none⟩ = some (.slice (some ⟨g, off, none⟩) L.length cap) ∧ W3.cell? ⟨g, off + m * 4 + 2, none⟩ = some (.int .i64 (at' L m).frm)) := by
          intro W3 hk3
          have hkk := kpL_t HK.out hk3
          obtain ⟨_, hc⟩ := hr.on m hml
          exact ⟨(cell_block hkk.2).trans hBl, (cellsK_at hc hkk.1 hg).c2⟩
        clear hb HV HI hin hok hfr hlen
        gi_wp2_with (first | (gi_at_call 64; refine (callsIn_wide.2 (Base.has _ _ _)).mono ?_; rintro e w' ⟨rfl, rfl⟩; rw [Int.toNat_natCast, HH.out]) | (refine ⟨trivial, ?_⟩; gi_at_call 64; refine (callsIn_wide.2 (Base.has _ _ _)).mono ?_; rintro e w' ⟨rfl, rfl⟩; rw [Int.toNat_natCast, HH.out]))
        refine hR.mono ?_
        rintro e W3 (⟨rfl, hJ3, hk3⟩ | ⟨rfl, hJx3⟩)
        · obtain ⟨cl, cf⟩ := HC.out W3 hk3
          have HK3 : Hid (KpL n₀ Bl W W3) := kpL_t HK.out hk3
          have HJ3 : Hid (J (pre ++ [⟨m, hm⟩]) W3) := hJ3
          clear hk3 hJ3 hR hy HC HK HJ
          gi_wp2
          go_roundw
          case rel => exact ⟨m, Nat.le_of_succ_le hm, _, _, _, by go_num, rfl, by rw [HOr.out], HV2, HI2, HJ3, HK3⟩
          case measure => simp [intOf]
        · gi_wp2
          refine bodyPost_ret (results_none rfl _ _ _) rfl ?_
          exact ⟨⟨_, rfl⟩, .inr ⟨pre ++ [⟨m, hm⟩], ⟨_, HV2.out⟩, hJx3⟩⟩

end Sg
end Go.Proofs.Ytdcjjopeobnpgab

namespace Go.Proofs.Ytdcjjopeobnpgab
open Go.RowKit Go.Shelf
set_option maxRecDepth 100000
attribute [local go_sem] Oper.semAt_some
namespace Sg
open Kn (K okK)
open Bit (bit withB)
open Lc (at' RdK CellsK)

theorem boxNew (W : World) (v : Value) (t : TypeId) : (W.alloc (.cells #[v] t)).cell? ⟨W.heap.size, 0, none⟩ = some v ∧ (W.alloc (.cells #[v] t)).frozen? ⟨W.heap.size, 0, none⟩ = false := ⟨by simp, by simp⟩
theorem boxCell {W : World} {a : Addr} {v : Value} (o : Obj) (h : W.cell? a = some v) : (W.alloc o).cell? a = some v := cell_kept h (World.grownBy_alloc W o none) (fun r e => by cases e)
theorem boxFrozen {W : World} {a : Addr} {v : Value} (o : Obj) (h : W.cell? a = some v) (hf : W.frozen? a = false) : (W.alloc o).frozen? a = false := (frozen_kept h (World.grownBy_alloc W o none) (fun r e => by cases e)).trans hf

theorem kpL_drew {n₀ Bl : Nat} {W W' : World} (h : KpL n₀ Bl W W') : KpL n₀ Bl W W'.drew := ⟨h.1.drew, h.2⟩
theorem put_other (W : World) (b c : Nat) (hbc : b ≠ c) (u : Value) : (W.setCell ⟨c, 0, none⟩ u).cell? ⟨b, 0, none⟩ = W.cell? ⟨b, 0, none⟩ := cell_block (Below.heap_setCell W ⟨c, 0, none⟩ u b hbc)

theorem under_stops (n : Nat) (hn : 1 ≤ n) (Bs Bl n₀ g off cap : Nat) (L : List K) (hlc : Lc.laceB L = true) (s : Int) (h0 : 0 ≤ s) (h1 : s < 1152921504606846976) (hg : g < n₀) (w : World) (hs : Bs < w.heap.size) (hl : Bl < w.heap.size)
    (cs : w.cell? ⟨Bs, 0, none⟩ = some (.int .i64 s)) (cl : w.cell? ⟨Bl, 0, none⟩ = some (.slice (some ⟨g, off, none⟩) L.length cap)) (hr : RdK w (some ⟨g, off, none⟩) L) :
    SeqStopsK Fence.wide n Try.prog 80 #[.pointer (some ⟨Bs, 0, none⟩), .pointer (some ⟨Bl, 0, none⟩)] (fun x : Fin L.length => #[Value.int .i64 (x.val : Int)]) (KpL n₀ Bl) (fun ys => ys = vis L s) (fun pre => pre <+: vis L s) L.length w := fun l J Jx W hW _ _ hY hJ =>
  under1 n hn l Bs Bl n₀ g off cap L hlc s h0 h1 hg J Jx hY W ((hW.cell (p := ⟨Bs, 0, none⟩) hs).trans cs) ((hW.cell (p := ⟨Bl, 0, none⟩) hl).trans cl) (hr.below hW) hJ

set_option maxHeartbeats 400000 in
theorem under (a : Option Addr) (len cap : Nat) (s : Int) (w : World) : Calls Try.prog 68 #[.slice a len cap, .int .i64 s] w fun e w' =>
    e = .returned (.func (.func 80) #[] #[.pointer (some ⟨w.heap.size + 1, 0, none⟩), .pointer (some ⟨w.heap.size, 0, none⟩)]) ∧ w' = (w.alloc (.cells #[.slice a len cap] 31)).alloc (.cells #[.int .i64 s] 49) := by
  go_enter Try.func68, Try.ntmps68
  go_wp2
  go_ret
  exact ⟨rfl, rfl⟩

theorem with_one (k : Int) : Base.withI 0 k = oneI k := by
  unfold Base.withI oneI
  by_cases h : 0 ≤ k ∧ k < 60
  · rw [(Base.inB_iff k).2 h, (Base.okB_iff 0).2 (by omega), if_pos h]
    simp [Bit.withB]
  · have : Base.inB k = false := by
      cases hb : Base.inB k
      · rfl
      · exact absurd ((Base.inB_iff k).1 hb) h
    rw [this, if_neg h]; simp

set_option maxHeartbeats 2000000 in
theorem below (g off cap : Nat) (L : List K) (k : Int) (w : World) (hlc : Lc.laceB L = true) (hg : g < w.heap.size) (hr : RdK w (some ⟨g, off, none⟩) L) :
    Calls Try.prog 49 #[.slice (some ⟨g, off, none⟩) L.length cap, .int .i64 k] w fun e w' => e = .returned (.int .i64 (metI L k)) ∧ Below w.heap.size w w' := by
  have h60 := ((Lc.lace_iff L).1 hlc).1
  refine (callsIn_wide (n := 3)).1 ?_
  refine callsIn_of_wp_marks Try.func49 rfl trivial ?_ rfl
  simp only [Try.ntmps49, List.size_toArray, List.length_cons, List.length_nil, Nat.reduceAdd, Nat.reduceSub, Array.replicate_succ, Array.replicate_zero, List.push_toArray, List.append_toArray, List.nil_append, List.cons_append]
  gi_wp2_with (first | (refine ⟨trivial, ?_⟩; gi_at_call 66; refine (callsIn_wide.2 (Base.withM _ _ _)).mono ?_; rintro e w' ⟨rfl, rfl⟩; rw [with_one]) | (refine ⟨trivial, ?_⟩; gi_at_call 68; refine (callsIn_wide.2 (under _ _ _ _ _)).mono ?_; rintro e w' ⟨rfl, rfl⟩))
  have hB0 : Below w.heap.size w (((w.alloc (.cells #[.int .i64 0] 49)).alloc (.cells #[.slice (some ⟨g, off, none⟩) L.length cap] 31)).alloc (.cells #[.int .i64 (oneI k)] 49)) := (((Below.refl _ w).alloc (Nat.le_refl _) _).alloc (by simp) _).alloc (by simp; omega) _
  have c0 := boxNew w (.int .i64 0) 49
  have c1 := boxNew (w.alloc (.cells #[.int .i64 0] 49)) (.slice (some ⟨g, off, none⟩) L.length cap) 31
  have c2 := boxNew ((w.alloc (.cells #[.int .i64 0] 49)).alloc (.cells #[.slice (some ⟨g, off, none⟩) L.length cap] 31)) (.int .i64 (oneI k)) 49
  simp only [World.size_alloc] at c1 c2
  have hob := oneI_bd k
  refine wpIn_rangeFunc_ownF rfl (by omega) (gf := 80) (lb := #[.pointer (some ⟨w.heap.size + 1 + 1, 0, none⟩), .pointer (some ⟨w.heap.size + 1, 0, none⟩)]) rfl trivial (enters_of Try.func80 (by kernel_rfl) rfl)
    (under_stops 2 (by omega) (w.heap.size + 1 + 1) (w.heap.size + 1) w.heap.size g off cap L hlc (oneI k) hob.1 hob.2 hg _ (by simp) (by simp) c2.1 (boxCell _ c1.1) (hr.below hB0)) kpL_t (kpL_b (by simp; omega) (by simp)) (Below.refl _ _) (fun _ => rfl)
    (fun pre W => (W.cell? ⟨w.heap.size, 0, none⟩ = some (.int .i64 (gath 0 pre)) ∧ W.frozen? ⟨w.heap.size, 0, none⟩ = false) ∧ Below w.heap.size w W)
    (fun _ _ _ => False)
    (OwnFrom.and (Own.from (fun s A B row hs hg hr => ⟨cell_kept hs.1 hg hr, (frozen_kept hs.1 hg hr).trans hs.2⟩) _) (ownFrom_below (Nat.le_refl _) (by simp; omega)))
    (fun _ _ _ _ _ hs _ _ => hs)
    ⟨⟨boxCell _ (boxCell _ c0.1), boxFrozen _ (boxCell _ c0.1) (boxFrozen _ c0.1 c0.2)⟩, hB0⟩
    (fun x => { tmps := #[.slice (some ⟨g, off, none⟩) L.length cap, .int .i64 k, undef, undef, .int .i64 0, .pointer (some ⟨w.heap.size, 0, none⟩), .int .i64 (x.val : Int), .slice (some ⟨g, off, none⟩) L.length cap, .int .i64 k, .int .i64 (oneI k), .func (.func 80) #[] #[.pointer (some ⟨w.heap.size + 1 + 1, 0, none⟩), .pointer (some ⟨w.heap.size + 1, 0, none⟩)], .int .i64 (x.val : Int), undef, undef, undef, undef], defers := [] }) ?assign ?body ?done ?stop
  case assign =>
    intro l x W K hK
    gi_wp2
    exact hK
  case body =>
    rintro l pre x W ⟨⟨hc, hf⟩, hB⟩ _
    have hx := x.isLt
    have hgb := gath_bd h60 pre
    have HW : Hid (Base.withI (gath 0 pre) (x.val : Int) = gath 0 (pre ++ [x])) := by
      show _ = _
      unfold Base.withI
      rw [(Base.okB_iff _).2 hgb, (Base.inB_iff _).2 ⟨by omega, by omega⟩, gath_snoc]; simp
    clear hgb
    gi_wp2_with (refine ⟨trivial, ?_⟩; gi_at_call 66; refine (CallsIn.inRound l (callsIn_wide.2 (Base.withM _ _ _))).mono ?_; rintro e w' ⟨rfl, rfl⟩; rw [HW.out])
    exact ⟨KeepsOthers.setCell _ _ _, kpL_put W w.heap.size (Nat.le_refl _) (by omega) _, ⟨World.cell?_setCell_same' _ _ _ (by rw [hc]; rfl), by rw [World.frozen?_setCell]; exact hf⟩, hB.setCell (p := ⟨w.heap.size, 0, none⟩) (Nat.le_refl _) _⟩
  case done =>
    rintro D ys W hD rfl ⟨⟨hc, _⟩, hB⟩ hK
    rw [gath_vis hlc k] at hc
    gi_wp2
    refine ⟨by simp, .inl ⟨_, _, rfl, run_takeDeferred hK, ?_⟩⟩
    exact ⟨_, results_tmp rfl _ _ _, rfl, hB.trans (belowK_b (w := w) (Nat.le_refl _) W D _ _ (by simp at hD; omega) hK rfl rfl)⟩
  case stop =>
    rintro D c pre W _ _ h _
    exact h.elim

theorem vis_in {L : List K} {s : Int} {pre : List (Fin L.length)} (hp : pre <+: vis L s) {y : Fin L.length} (hy : y ∈ pre) : y ∈ vis L s := hp.subset hy

/-- what the walk from a has met has b just where a sees b -/
theorem met_sees {L : List K} (hlc : Lc.laceB L = true) (a b : Int) : (Base.okB (metI L a) && (Base.inB b && bit (metI L a) b.toNat)) = seesB L a b := by
  have h60 := ((Lc.lace_iff L).1 hlc).1
  unfold seesB isB metI
  rw [hlc]
  by_cases ha : 0 ≤ a ∧ a < (L.length : Int)
  · obtain ⟨p, rfl⟩ := Int.eq_ofNat_of_zero_le ha.1
    have hp : p < L.length := by omega
    have hbd := bel_bd L p (by omega)
    rw [if_pos ha, Int.toNat_natCast, (Base.okB_iff _).2 hbd]
    by_cases hb : 0 ≤ b ∧ b < (L.length : Int)
    · rw [(Base.inB_iff b).2 ⟨hb.1, by omega⟩, decide_eq_true ha.1, decide_eq_true ha.2, decide_eq_true hb.1, decide_eq_true hb.2]; rfl
    · have e2 : (decide (0 ≤ b) && (decide (b < (L.length : Int)) && true)) = false := by
        rw [Bool.eq_false_iff]; intro h; simp at h; exact hb h
      rw [e2]
      simp only [Bool.false_and, Bool.and_false, Bool.true_and]
      rw [Bool.eq_false_iff]
      intro h
      rw [Bool.and_eq_true] at h
      have hb0 := (Base.inB_iff b).1 h.1
      have := reach_le hlc hp ((bel_reach hlc p hp b.toNat).1 h.2)
      exact hb ⟨hb0.1, by omega⟩
  · have e1 : (decide (0 ≤ a) && (decide (a < (L.length : Int)) && true)) = false := by
      rw [Bool.eq_false_iff]; intro h; simp at h; exact ha h
    rw [if_neg ha, e1, Lc.bit_zero]; simp

/-- a number that there is a knot for -/
theorem all_has {n : Nat} (hn : n ≤ 60) (k : Int) : (Base.okB (2 ^ n - 1) && (Base.inB k && bit (2 ^ n - 1) k.toNat)) = (decide (0 ≤ k) && decide (k < (n : Int))) := by
  have hp := Lc.pow60 n hn
  have hok : Base.okB (2 ^ n - 1) = true := (Base.okB_iff _).2 ⟨by omega, by omega⟩
  have hb : bit (2 ^ n - 1) k.toNat = decide (k.toNat < n) := by
    have e : ((2 : Int) ^ n - 1) = ((2 ^ n - 1 : Nat) : Int) := by rw [Int.ofNat_sub Nat.one_le_two_pow]; simp
    rw [Bit.bit_testBit _ (by omega), e, Int.toNat_natCast, Nat.testBit_two_pow_sub_one]
  rw [hok, hb, Bool.true_and, Bool.eq_iff_iff]
  simp only [Bool.and_eq_true, decide_eq_true_eq, Base.inB_iff]
  omega

set_option maxHeartbeats 800000 in
theorem sees (g off cap : Nat) (L : List K) (a b : Int) (w : World) (hlc : Lc.laceB L = true) (hg : g < w.heap.size) (hr : RdK w (some ⟨g, off, none⟩) L) :
    Calls Try.prog 96 #[.slice (some ⟨g, off, none⟩) L.length cap, .int .i64 a, .int .i64 b] w fun e w' => e = .returned (.bool (seesB L a b)) ∧ Below w.heap.size w w' := by
  have HT : Hid ((Base.okB (metI L a) && (Base.inB b && bit (metI L a) b.toNat)) = seesB L a b) := met_sees hlc a b
  go_enter Try.func96, Try.ntmps96
  go_wp2_with fail
  refine (below g off cap L a _ hlc hg hr).mono ?_
  rintro e w1 ⟨rfl, hb1⟩
  go_wp2_with (go_at_call 64; refine (Base.has _ _ _).mono ?_; rintro e w' ⟨rfl, rfl⟩; rw [HT.out])
  go_ret
  exact ⟨rfl, hb1⟩

theorem closedB_eq (L : List K) (s : Int) (hl : Lc.laceB L = true) : (Lc.inL L.length s && closedTo (belows L L.length) s L.length) = closedB L s := by
  unfold closedB; rw [Lc.setB_eq, hl]; rfl

end Sg
end Go.Proofs.Ytdcjjopeobnpgab

namespace Go.Proofs.Ytdcjjopeobnpgab
open Go.RowKit
set_option maxRecDepth 100000
namespace Rm
open Kn (K okK)
open Bit (bit memTo)
open Lc (at' RdK laceB flat OwnK cellsOf setB)
open Sg (bel belows orB closedB tipsI tipsTo closedTo seesB belowI isB)
open Cur (At)

theorem code_below2 {w w' : World} {a : Option Addr} {len : Nat} (h : Cur.Code w a len) (hb : Below w.heap.size w w') : Cur.Code w' a len := by
  rcases h with h | ⟨b, off, ha, hlt, hc⟩
  · exact .inl h
  · refine .inr ⟨b, off, ha, Nat.lt_of_lt_of_le hlt hb.size, fun j hj => ?_⟩
    obtain ⟨z, hz, hz'⟩ := hc j hj
    exact ⟨z, (hb.cell (p := ⟨b, off + j, none⟩) hlt).trans hz, hz'⟩

/-- a list that lies there -/
structure LiesS (w : World) (g : Nat) (L : List K) : Prop where
  rd : RdK w (some ⟨g, 0, none⟩) L
  len : L.length ≤ 61
  words : Lc.WordsOk L

theorem LiesS.below {w w' : World} {g : Nat} {L : List K} (h : LiesS w g L) (hb : Below w.heap.size w w') : LiesS w' g L := ⟨h.rd.below hb, h.len, h.words⟩

theorem drawn_liesS {B : Nat} {w w' : World} {v : Value} {L : List K} (h : Drawn B w w' v L) : ∃ g cp, v = .slice (some ⟨g, 0, none⟩) L.length cp ∧ L.length ≤ cp ∧ LiesS w' g L := by
  obtain ⟨g, cp, rfl, hcp, _, _, _, hrd, _⟩ := Lc.ownK_shape h.own
  exact ⟨g, cp, rfl, hcp, hrd, h.len, fun k hk => by have := h.word k hk; omega⟩

/-- all that hangs below those -/
def accT (L : List K) (l : List Int) : Int := l.foldl (fun a x => orB a (bel L x.toNat)) 0
theorem accT_snoc (L : List K) (l : List Int) (x : Int) : accT L (l ++ [x]) = orB (accT L l) (bel L x.toNat) := by simp [accT]

theorem accT_fold (L : List K) (l : List Int) (hl : ∀ x ∈ l, x.toNat < 60) : ∀ f : Int, 0 ≤ f → f < 1152921504606846976 →
    (0 ≤ l.foldl (fun a x => orB a (bel L x.toNat)) f ∧ l.foldl (fun a x => orB a (bel L x.toNat)) f < 1152921504606846976) ∧ ∀ j, bit (l.foldl (fun a x => orB a (bel L x.toNat)) f) j = (bit f j || l.any (fun x => bit (bel L x.toNat) j)) := by
  induction l with
  | nil => intro f h0 h1; exact ⟨⟨h0, h1⟩, fun j => by simp⟩
  | cons x l ih =>
    intro f h0 h1
    have hb := Sg.bel_bd L x.toNat (hl x (List.mem_cons_self ..))
    have ho := Sg.orB_bd f (bel L x.toNat) h0 h1 hb.1 hb.2
    have r := ih (fun y hy => hl y (List.mem_cons_of_mem _ hy)) (orB f (bel L x.toNat)) ho.1 ho.2
    refine ⟨r.1, fun j => ?_⟩
    show bit (l.foldl (fun a x => orB a (bel L x.toNat)) (orB f (bel L x.toNat))) j = _
    rw [r.2 j, Sg.bit_orB _ _ h0 hb.1, List.any_cons, Bool.or_assoc]

theorem accT_bd (L : List K) (l : List Int) (hl : ∀ x ∈ l, x.toNat < 60) : 0 ≤ accT L l ∧ accT L l < 1152921504606846976 := (accT_fold L l hl 0 (by omega) (by omega)).1
theorem bit_accT (L : List K) (l : List Int) (hl : ∀ x ∈ l, x.toNat < 60) (j : Nat) : bit (accT L l) j = l.any (fun x => bit (bel L x.toNat) j) := by
  rw [show accT L l = l.foldl (fun a x => orB a (bel L x.toNat)) 0 from rfl, (accT_fold L l hl 0 (by omega) (by omega)).2 j, Lc.bit_zero]; rfl

/-- what the law knows of a closed set -/
structure ClosedIs (L : List K) (s : Int) : Prop where
  lace : laceB L = true
  s0 : 0 ≤ s
  s1 : s < 1152921504606846976
  top : s / 2 ^ L.length = 0
  cl : closedTo (belows L L.length) s L.length = true

theorem closedIs {L : List K} {s : Int} (h : closedB L s = true) : ClosedIs L s := by
  unfold Sg.closedB at h
  rw [Bool.and_eq_true] at h
  obtain ⟨hl, h0, h1, ht, _, _⟩ := Lc.setB_parts h.1
  exact ⟨hl, h0, h1, ht, h.2⟩

theorem in_len {L : List K} {s : Int} (h : ClosedIs L s) {j : Nat} (hj : bit s j = true) : j < L.length := by
  apply Classical.byContradiction
  intro hn
  rw [Lc.bit_hi s L.length h.s0 h.top j (by omega)] at hj
  exact Bool.noConfusion hj

theorem tips_iff {L : List K} {s : Int} (h : ClosedIs L s) (j : Nat) : bit (tipsTo (belows L L.length) s L.length) j = true ↔ bit s j = true ∧ ∀ i, i < L.length → bit s i = true → j ≠ i → bit (bel L i) j = false :=
  Sg.bit_tips L s L.length L.length (Nat.le_refl _) ((Lc.lace_iff L).1 h.lace).1 h.s0 h.s1 j

/-- each one of the set hangs below a tip -/
theorem below_tip {L : List K} {s : Int} (h : ClosedIs L s) : ∀ (d i j : Nat), L.length - i = d → bit s i = true → bit (bel L i) j = true → ∃ x, bit (tipsTo (belows L L.length) s L.length) x = true ∧ bit (bel L x) j = true := by
  intro d
  induction d using Nat.strongRecOn with
  | _ d ih =>
    intro i j hd hi hb
    have hil := in_len h hi
    by_cases ht : bit (tipsTo (belows L L.length) s L.length) i = true
    · exact ⟨i, ht, hb⟩
    · have : ∃ i', i' < L.length ∧ bit s i' = true ∧ i ≠ i' ∧ bit (bel L i') i = true := by
        apply Classical.byContradiction
        intro hn
        refine ht ((tips_iff h i).2 ⟨hi, fun i' h1 h2 h3 => ?_⟩)
        cases hq : bit (bel L i') i
        · rfl
        · exact absurd ⟨i', h1, h2, h3, hq⟩ hn
      obtain ⟨i', h1, h2, h3, h4⟩ := this
      have hle := Sg.reach_le h.lace h1 ((Sg.bel_reach h.lace i' h1 i).1 h4)
      exact ih (L.length - i') (by omega) i' j rfl h2 (Sg.bel_trans h.lace h1 h4 hb)

theorem tips_mem {L : List K} {s : Int} (h : ClosedIs L s) {x : Int} (hx : x ∈ Memb.memI (tipsTo (belows L L.length) s L.length)) : ∃ j : Nat, x = (j : Int) ∧ j < L.length ∧ bit s j = true ∧ bit (tipsTo (belows L L.length) s L.length) j = true := by
  have hb := Sg.tipsTo_bd (belows L L.length) s L.length h.s0 h.s1
  unfold Memb.memI at hx
  rw [(Base.okB_iff _).2 hb, if_pos rfl, Bit.mem_memTo] at hx
  obtain ⟨j, _, rfl, hj⟩ := hx
  have hs := ((tips_iff h j).1 hj).1
  exact ⟨j, rfl, in_len h hs, hs, hj⟩

theorem all_tips {L : List K} {s : Int} (h : ClosedIs L s) : accT L (Memb.memI (tipsTo (belows L L.length) s L.length)) = s := by
  have h60 := ((Lc.lace_iff L).1 h.lace).1
  have hb := Sg.tipsTo_bd (belows L L.length) s L.length h.s0 h.s1
  have hl : ∀ x ∈ Memb.memI (tipsTo (belows L L.length) s L.length), x.toNat < 60 := fun x hx => by
    obtain ⟨j, rfl, hj, _⟩ := tips_mem h hx
    rw [Int.toNat_natCast]; omega
  refine Lc.eq_of_bits _ _ (accT_bd L _ hl).1 h.s0 fun j => ?_
  rw [bit_accT L _ hl, Bool.eq_iff_iff, List.any_eq_true]
  constructor
  · rintro ⟨x, hx, hxb⟩
    obtain ⟨i, rfl, hi, hs, _⟩ := tips_mem h hx
    rw [Int.toNat_natCast] at hxb
    exact (Sg.closed_iff L s L.length h60 h.s0 h.s1).1 h.cl i hi hs j hxb
  · intro hj
    have hjl := in_len h hj
    obtain ⟨x, hx, hxb⟩ := below_tip h _ j j rfl hj ((Sg.bel_reach h.lace j hjl j).2 (.self _))
    refine ⟨(x : Int), ?_, by rw [Int.toNat_natCast]; exact hxb⟩
    have hxs := ((tips_iff h x).1 hx).1
    have hxl := in_len h hxs
    unfold Memb.memI
    rw [(Base.okB_iff _).2 hb, if_pos rfl, Bit.mem_memTo]
    exact ⟨x, by omega, rfl, hx⟩

theorem tips_apart {L : List K} {s : Int} (h : ClosedIs L s) {x y : Int} (hx : x ∈ Memb.memI (tipsTo (belows L L.length) s L.length)) (hy : y ∈ Memb.memI (tipsTo (belows L L.length) s L.length)) (hne : x ≠ y) : seesB L x y = false := by
  obtain ⟨i, rfl, hi, hsi, _⟩ := tips_mem h hx
  obtain ⟨j, rfl, hj, _, htj⟩ := tips_mem h hy
  unfold Sg.seesB
  rw [Int.toNat_natCast, Int.toNat_natCast, ((tips_iff h j).1 htj).2 i hi hsi (by omega)]
  simp

theorem below_tips {L : List K} {s : Int} (h : ClosedIs L s) {x : Int} (hx : x ∈ Memb.memI (tipsTo (belows L L.length) s L.length)) : belowI L x = bel L x.toNat ∧ x.toNat < 60 := by
  have h60 := ((Lc.lace_iff L).1 h.lace).1
  obtain ⟨i, rfl, hi, _⟩ := tips_mem h hx
  refine ⟨?_, by rw [Int.toNat_natCast]; omega⟩
  unfold Sg.belowI
  have : isB L (i : Int) = true := by unfold Sg.isB; rw [h.lace]; simp; omega
  rw [this]; rfl

theorem rise_distinct (s : Int) (i j : Nat) (hi : i < (Memb.memI s).length) (hj : j < (Memb.memI s).length) (hne : i ≠ j) : (Memb.memI s).getD i 0 ≠ (Memb.memI s).getD j 0 := by
  have key : ∀ (l : List Int), l.Pairwise (· < ·) → ∀ i j, i < j → i < l.length → j < l.length → l.getD i 0 < l.getD j 0 := by
    intro l hl i j hij h1 h2
    have := List.pairwise_iff_getElem.1 hl i j h1 h2 hij
    simpa [h1, h2] using this
  have hp : (Memb.memI s).Pairwise (· < ·) := by
    unfold Memb.memI
    split
    · have : ∀ k, (memTo s k).Pairwise (· < ·) := by
        intro k
        induction k with
        | zero => exact List.Pairwise.nil
        | succ k ih =>
          rw [Bit.memTo_succ]
          refine List.pairwise_append.2 ⟨ih, ?_, ?_⟩
          · split
            · exact List.pairwise_singleton _ _
            · exact List.Pairwise.nil
          · intro x hx y hy
            obtain ⟨j, hj, rfl, _⟩ := (Bit.mem_memTo s k x).1 hx
            split at hy
            · simp at hy; omega
            · cases hy
      exact this 60
    · exact List.Pairwise.nil
  rcases Nat.lt_or_gt_of_ne hne with h | h
  · have := key _ hp i j h hi hj; omega
  · have := key _ hp j i h hj hi; omega

end Rm
end Go.Proofs.Ytdcjjopeobnpgab

namespace Go.Proofs.Ytdcjjopeobnpgab
open Go.RowKit
set_option maxRecDepth 100000
namespace Rm
open Kn (K okK)
open Bit (bit memTo withB)
open Lc (at' RdK laceB setB)
open Sg (bel belows orB closedB tipsI tipsTo closedTo seesB belowI isB)

theorem isB_iff {L : List K} (hl : laceB L = true) (k : Int) : isB L k = true ↔ 0 ≤ k ∧ k < (L.length : Int) := by
  unfold Sg.isB; rw [hl]; simp

theorem sees_iff {L : List K} {x y : Int} (h : seesB L x y = true) : laceB L = true ∧ ∃ i j : Nat, x = (i : Int) ∧ y = (j : Int) ∧ i < L.length ∧ j < L.length ∧ bit (bel L i) j = true := by
  unfold Sg.seesB at h
  simp only [Bool.and_eq_true] at h
  obtain ⟨hx, hy, hb⟩ := h
  obtain ⟨a0, a1, hl⟩ := Sg.isB_parts hx
  obtain ⟨b0, b1, _⟩ := Sg.isB_parts hy
  obtain ⟨i, rfl⟩ := Int.eq_ofNat_of_zero_le a0
  obtain ⟨j, rfl⟩ := Int.eq_ofNat_of_zero_le b0
  rw [Int.toNat_natCast, Int.toNat_natCast] at hb
  exact ⟨hl, i, j, rfl, rfl, by omega, by omega, hb⟩

theorem below_at {L : List K} (hl : laceB L = true) (i : Nat) (hi : i < L.length) : belowI L (i : Int) = bel L i := by
  unfold Sg.belowI
  rw [(isB_iff hl (i : Int)).2 ⟨by omega, by omega⟩, Int.toNat_natCast]; rfl

theorem sees_sub {L : List K} {x y : Int} (h : seesB L x y = true) : bits .andNot .i64 (belowI L y) (belowI L x) = 0 := by
  obtain ⟨hl, i, j, rfl, rfl, hi, hj, hb⟩ := sees_iff h
  have h60 := ((Lc.lace_iff L).1 hl).1
  have b1 := Sg.bel_bd L i (by omega)
  have b2 := Sg.bel_bd L j (by omega)
  rw [below_at hl i hi, below_at hl j hj]
  have := (Sg.andNot_sub (bel L j) (bel L i) b2.1 (by omega) b1.1 (by omega)).2 (fun z hz => Sg.bel_trans hl hi hb hz)
  simpa using this

theorem sees_anti {L : List K} {x y : Int} (h : seesB L x y = true) (hne : x ≠ y) : seesB L y x = false := by
  obtain ⟨hl, i, j, rfl, rfl, hi, hj, hb⟩ := sees_iff h
  rw [Bool.eq_false_iff]
  intro h2
  obtain ⟨_, j', i', e1, e2, _, _, hb2⟩ := sees_iff h2
  have ej : j = j' := by omega
  have ei : i = i' := by omega
  subst ej ei
  have r1 := Sg.reach_le hl hi ((Sg.bel_reach hl i hi j).1 hb)
  have r2 := Sg.reach_le hl hj ((Sg.bel_reach hl j hj i).1 hb2)
  omega

theorem thread_round {L : List K} (hl : laceB L = true) {i m : Nat} (hi : i < L.length) (hb : bit (at' L i).frm m = true) : (at' L m).round < (at' L i).round := by
  have hm := Sg.thread_lt hl hi hb
  have hc := Lc.lace_upTo hl i hi
  simp only [Lc.canB, Bool.and_eq_true] at hc
  have hle := (Lc.lesser_iff (L.take i) (at' L i).frm (at' L i).round (L.take i).length).1 hc.2.2.1 m (by simp; omega) hb
  rwa [Lc.at_take L i m hm] at hle

theorem reach_round {L : List K} (hl : laceB L = true) {i j : Nat} (hi : i < L.length) (h : Sg.Reach L i j) : j = i ∨ (at' L j).round < (at' L i).round := by
  induction h with
  | self => exact .inl rfl
  | @step i m j hb hr ih =>
    have hm := Sg.thread_lt hl hi hb
    have hr1 := thread_round hl hi hb
    rcases ih (by omega) with rfl | h
    · exact .inr hr1
    · exact .inr (by omega)

theorem below_round {L : List K} (hl : laceB L = true) {i j : Nat} (hi : i < L.length) (h : bit (bel L i) j = true) (hne : j ≠ i) : (at' L j).round < (at' L i).round := by
  rcases reach_round hl hi ((Sg.bel_reach hl i hi j).1 h) with e | e
  · exact absurd e hne
  · exact e

/-- the one, and all below what it hangs on -/
def wantT (L : List K) (p : Nat) (l : List Int) : Int := l.foldl (fun a x => orB a (bel L x.toNat)) (2 ^ p)
theorem wantT_snoc (L : List K) (p : Nat) (l : List Int) (x : Int) : wantT L p (l ++ [x]) = orB (wantT L p l) (bel L x.toNat) := by simp [wantT]
theorem wantT_bd (L : List K) (p : Nat) (hp : p < 60) (l : List Int) (hl : ∀ x ∈ l, x.toNat < 60) : 0 ≤ wantT L p l ∧ wantT L p l < 1152921504606846976 := by
  have hb := Base.pow_bd p hp
  exact (accT_fold L l hl (2 ^ p) (by omega) hb.2).1

theorem frm_mem {L : List K} (hl : laceB L = true) {p : Nat} (hp : p < L.length) {x : Int} (hx : x ∈ Memb.memI (at' L p).frm) : ∃ m : Nat, x = (m : Int) ∧ m < p ∧ bit (at' L p).frm m = true := by
  have hf := Sg.frm_lace hl _ (Lc.at_mem L p hp)
  unfold Memb.memI at hx
  rw [(Base.okB_iff _).2 hf, if_pos rfl, Bit.mem_memTo] at hx
  obtain ⟨m, _, rfl, hb⟩ := hx
  exact ⟨m, rfl, Sg.thread_lt hl hp hb, hb⟩

theorem want_eq {L : List K} (hl : laceB L = true) {p : Nat} (hp : p < L.length) : wantT L p (Memb.memI (at' L p).frm) = bel L p := by
  have h60 := ((Lc.lace_iff L).1 hl).1
  have hf := Sg.frm_lace hl _ (Lc.at_mem L p hp)
  have hb := Base.pow_bd p (by omega)
  have hlt : ∀ x ∈ Memb.memI (at' L p).frm, x.toNat < 60 := fun x hx => by
    obtain ⟨m, rfl, hm, _⟩ := frm_mem hl hp hx
    rw [Int.toNat_natCast]; omega
  have hbl := Sg.bel_bd L p (by omega)
  refine Lc.eq_of_bits _ _ (wantT_bd L p (by omega) _ hlt).1 hbl.1 fun j => ?_
  show bit ((Memb.memI (at' L p).frm).foldl (fun a x => orB a (bel L x.toNat)) (2 ^ p)) j = _
  rw [(accT_fold L _ hlt (2 ^ p) (by omega) hb.2).2 j, Bool.eq_iff_iff, Bool.or_eq_true, Sg.bit_pow, decide_eq_true_eq, Sg.bit_bel L p (by omega) j, List.any_eq_true]
  constructor
  · rintro (h | ⟨x, hx, hxb⟩)
    · exact .inl h
    · obtain ⟨m, rfl, hm, hfm⟩ := frm_mem hl hp hx
      rw [Int.toNat_natCast] at hxb
      exact .inr ⟨m, hm, hfm, hxb⟩
  · rintro (h | ⟨m, hm, hfm, hxb⟩)
    · exact .inl h
    · refine .inr ⟨(m : Int), ?_, by rw [Int.toNat_natCast]; exact hxb⟩
      unfold Memb.memI
      rw [(Base.okB_iff _).2 hf, if_pos rfl, Bit.mem_memTo]
      exact ⟨m, by omega, rfl, hfm⟩

theorem frm_below {L : List K} (hl : laceB L = true) {p : Nat} (hp : p < L.length) {x : Int} (hx : x ∈ Memb.memI (at' L p).frm) : belowI L x = bel L x.toNat ∧ x.toNat < 60 := by
  have h60 := ((Lc.lace_iff L).1 hl).1
  obtain ⟨m, rfl, hm, _⟩ := frm_mem hl hp hx
  exact ⟨by rw [below_at hl m (by omega), Int.toNat_natCast], by rw [Int.toNat_natCast]; omega⟩

theorem bel_closed {L : List K} (hl : laceB L = true) {p : Nat} (hp : p < L.length) : closedB L (bel L p) = true := by
  have h60 := ((Lc.lace_iff L).1 hl).1
  have hb := Sg.bel_bd L p (by omega)
  unfold Sg.closedB
  rw [Lc.setB_eq, hl, Bool.true_and, Bool.and_eq_true]
  constructor
  · unfold Lc.inL
    rw [Lc.div_of_bits (bel L p) L.length hb.1 (fun i hi => by
      rw [Bool.eq_false_iff]; intro h
      have := Sg.reach_le hl hp ((Sg.bel_reach hl p hp i).1 h); omega)]
    simp; exact hb.1
  · exact (Sg.closed_iff L (bel L p) L.length h60 hb.1 hb.2).2 (fun i hi hbi j hj => Sg.bel_trans hl hp hbi hj)

theorem bel_tips {L : List K} (hl : laceB L = true) {p : Nat} (hp : p < L.length) : tipsI L (bel L p) = 2 ^ p := by
  have h60 := ((Lc.lace_iff L).1 hl).1
  have hc := bel_closed hl hp
  have hI := closedIs hc
  have hb := Base.pow_bd p (by omega)
  unfold Sg.tipsI
  rw [hc, if_pos rfl]
  refine Lc.eq_of_bits _ _ (Sg.tipsTo_bd _ _ _ hI.s0 hI.s1).1 (by omega) fun j => ?_
  rw [Bool.eq_iff_iff, tips_iff hI j, Sg.bit_pow, decide_eq_true_eq]
  have hself : bit (bel L p) p = true := (Sg.bel_reach hl p hp p).2 (.self _)
  constructor
  · rintro ⟨h1, h2⟩
    apply Classical.byContradiction
    intro hne
    have := h2 p hp hself hne
    rw [h1] at this; exact Bool.noConfusion this
  · rintro rfl
    refine ⟨hself, fun i hi hbi hne => ?_⟩
    rw [Bool.eq_false_iff]; intro h
    have r1 := Sg.reach_le hl hi ((Sg.bel_reach hl i hi j).1 h)
    have r2 := Sg.reach_le hl hp ((Sg.bel_reach hl j hp i).1 hbi)
    omega

/-- what InSet answers -/
def inJ (s i : Int) : Bool := Base.okB s && (Base.inB i && bit s i.toNat)
theorem inJ_at {s : Int} (h0 : 0 ≤ s) (h1 : s < 1152921504606846976) (i : Nat) (hi : i < 60) : inJ s (i : Int) = bit s i := by
  unfold inJ
  rw [(Base.okB_iff _).2 ⟨h0, h1⟩, (Base.inB_iff _).2 ⟨by omega, by omega⟩, Int.toNat_natCast]; rfl
theorem sees_at {L : List K} (hl : laceB L = true) {p i : Nat} (hp : p < L.length) (hi : i < L.length) : seesB L (p : Int) (i : Int) = bit (bel L p) i := by
  unfold Sg.seesB
  rw [(isB_iff hl (p : Int)).2 ⟨by omega, by omega⟩, (isB_iff hl (i : Int)).2 ⟨by omega, by omega⟩, Int.toNat_natCast, Int.toNat_natCast]; rfl

end Rm
end Go.Proofs.Ytdcjjopeobnpgab

namespace Go.Proofs.Ytdcjjopeobnpgab
open Go.RowKit
set_option maxRecDepth 100000
namespace Rm
open Kn (K okK)
open Bit (bit memTo)
open Lc (at' RdK laceB flat OwnK cellsOf)
open Cur (At)

set_option maxHeartbeats 6400000 in
theorem drawNods (HD : DrawsRoom) (a : Option Addr) (len cap : Nat) (w : World) (hl : len ≤ 4096) (hc : Cur.Code w a len) :
    Calls Try.prog 12 #[.slice a len cap] w fun e w' => ∃ v L s r, e = .returned (.tuple #[v, .int .i64 s, .int .i64 r]) ∧ Drawn w.heap.size w w' v L := by
  have HDD : Hid DrawsRoom := HD
  clear HD
  go_enter Try.func12, Try.ntmps12
  go_wp2_with fail
  refine (Cur.new a len cap _ hl hc).mono ?_
  rintro e w1 ⟨rfl, hA1, hb1⟩
  go_wp2_with fail
  refine (l3DrawAny HDD.out _ a len cap _ hl hA1).mono ?_
  rintro e w2 ⟨v, L, rfl, hO, h61, hwd, hA2, hG2⟩
  obtain ⟨g, cp, rfl, hcp, _, hgB, _, hrd, _⟩ := Lc.ownK_shape hO
  have hB2 := Draw.below_of_grown hb1 (Nat.le_refl _) hG2
  have hs1 := hb1.size
  have hlt1 := hA1.lt
  have hne : g ≠ w.heap.size := by omega
  have HO : Hid (OwnK 46 w1.heap.size w2 (.slice (some ⟨g, 0, none⟩) L.length cp) L) := hO
  have HWD : Hid (∀ k ∈ L, k.word.size ≤ 13) := hwd
  have HWW : Hid (Lc.WordsOk L) := fun k hk => by have := hwd k hk; omega
  clear hO hwd hG2 hb1 hA1
  go_wp2_with fail
  refine (l3DrawAt _ a len cap L.length _ hl h61 hA2).mono ?_
  rintro e w3 ⟨s, rfl, _, hA3, hG3⟩
  have hB3 := Draw.below_of_grown hB2 (Nat.le_refl _) hG3
  have hr3 := rd_grown2 hrd hG3 hne
  have HO3 : Hid (OwnK 46 w1.heap.size w3 (.slice (some ⟨g, 0, none⟩) L.length cp) L) := ownK_grown HO.out hG3 hlt1
  clear HO hB2 hG3 hA2 hrd
  go_wp2_with fail
  refine (Sg.specBelow g 0 cp L s _ hcp HWW.out hr3).mono ?_
  rintro e w4 ⟨rfl, hb4⟩
  have hB4 := hB3.trans (hb4.mono hB3.size)
  have hA4 := hA3.below hb4
  have HO4 : Hid (OwnK 46 w1.heap.size w4 (.slice (some ⟨g, 0, none⟩) L.length cp) L) := Lc.ownK_below HO3.out hb4
  clear HO3 hB3 hb4 hA3 hr3
  generalize Sg.belowI L s = bl
  go_wp2_with fail
  refine (Memb.specMembers bl _).mono ?_
  rintro e w5 ⟨mo, mc, rfl, hown, hb5⟩
  have HB5 : Hid (Below w.heap.size w w5) := hB4.trans (hb5.mono hB4.size)
  have HA5 : Hid (At w.heap.size a len cap w5) := hA4.below hb5
  have HO5 : Hid (OwnK 46 w1.heap.size w5 (.slice (some ⟨g, 0, none⟩) L.length cp) L) := Lc.ownK_below HO4.out hb5
  have hw4 : w.heap.size < w4.heap.size := hA4.lt
  have HM : Hid (Memb.memI bl = [] ∨ ∃ mb, mo = some ⟨mb, 0, none⟩ ∧ mb ≠ w.heap.size ∧ mb < w5.heap.size ∧ ∀ j, j < (Memb.memI bl).length → ∃ z : Int, w5.cell? ⟨mb, j, none⟩ = some (.int .i64 z)) := by
    rcases Lst.own_rd hown with e | ⟨mb, e, h⟩
    · exact .inl e
    · subst e
      have := World.ownsRow.lt hown mb rfl
      exact .inr ⟨mb, rfl, by omega, this.2, fun j hj => ⟨_, h j hj⟩⟩
  have hml : (Memb.memI bl).length ≤ 60 := by unfold Memb.memI; split; exact Bit.memTo_le bl 60; simp
  have HFIN : Hid (∀ W : World, OwnK 46 w1.heap.size W (.slice (some ⟨g, 0, none⟩) L.length cp) L → Below w.heap.size w W → Drawn w.heap.size w W (.slice (some ⟨g, 0, none⟩) L.length cp) L) := fun W h1 h2 => ⟨ownK_base h1 hs1, h61, HWD.out, h2⟩
  clear HO4 hB4 hb5 hA4 hown hw4
  generalize Memb.memI bl = ml at HM hml ⊢
  by_cases hz : ml.length = 0
  · rw [hz]
    clear HM hml hz
    go_wp2_with fail
    refine (l3DrawAt _ a len cap L.length _ hl h61 HA5.out).mono ?_
    rintro e w6 ⟨r, rfl, _, hA6, hG6⟩
    have HF : Hid (Drawn w.heap.size w w6 (.slice (some ⟨g, 0, none⟩) L.length cp) L) := HFIN.out _ (ownK_grown HO5.out hG6 hlt1) (Draw.below_of_grown HB5.out (Nat.le_refl _) hG6)
    clear HFIN HB5 HA5 HO5 hA6 hG6
    go_wp2
    refine bodyPost_ret (v := .tuple #[.slice (some ⟨g, 0, none⟩) L.length cp, .int .i64 s, .int .i64 r]) (by simp [results, Try.f12, go_sem]) rfl ?_
    exact ⟨_, L, s, r, rfl, HF.out⟩
  · have hpos : (0 : Int) < (ml.length : Int) := by omega
    go_wp2_with fail
    refine (Cur.once w.heap.size a len cap 2 _ hl (by omega) HA5.out).mono ?_
    rintro e w6 ⟨b, rfl, hA6, hG6⟩
    have HB6 : Hid (Below w.heap.size w w6) := Draw.below_of_grown HB5.out (Nat.le_refl _) hG6
    have HO6 : Hid (OwnK 46 w1.heap.size w6 (.slice (some ⟨g, 0, none⟩) L.length cp) L) := ownK_grown HO5.out hG6 hlt1
    have HA6 : Hid (At w.heap.size a len cap w6) := hA6
    cases b
    · clear HM hml hz HB5 HA5 HO5 hA6 hG6
      go_wp2_with fail
      refine (l3DrawAt _ a len cap L.length _ hl h61 HA6.out).mono ?_
      rintro e w7 ⟨r, rfl, _, hA7, hG7⟩
      have HF : Hid (Drawn w.heap.size w w7 (.slice (some ⟨g, 0, none⟩) L.length cp) L) := HFIN.out _ (ownK_grown HO6.out hG7 hlt1) (Draw.below_of_grown HB6.out (Nat.le_refl _) hG7)
      clear HFIN HB6 HA6 HO6 hA7 hG7
      go_wp2
      refine bodyPost_ret (v := .tuple #[.slice (some ⟨g, 0, none⟩) L.length cp, .int .i64 s, .int .i64 r]) (by simp [results, Try.f12, go_sem]) rfl ?_
      exact ⟨_, L, s, r, rfl, HF.out⟩
    · rcases HM.out with e | ⟨mb, rfl, hmc, hm5, hcell⟩
      · rw [e] at hz; simp at hz
      have HMB : Hid (∀ W : World, Below w6.heap.size w6 W → Calls Try.prog 27 #[.pointer (some ⟨w.heap.size, 0, none⟩), .int .i64 (ml.length : Int)] W fun e W' => ∃ x : Nat, ∃ z : Int, e = .returned (.int .i64 (x : Int)) ∧ x < ml.length ∧ W'.cell? ⟨mb, x, none⟩ = some (.int .i64 z) ∧ Drawn w.heap.size w W' (.slice (some ⟨g, 0, none⟩) L.length cp) L) := fun W hW => by
        refine (Cur.below w.heap.size a len cap (ml.length : Int) W hl (by omega) (HA6.out.below hW)).mono ?_
        rintro e w7 ⟨x, rfl, hx0, hx1, hA7, hG7⟩
        obtain ⟨p, rfl⟩ := Int.eq_ofNat_of_zero_le hx0
        have hp : p < ml.length := by have := hx1 hpos; omega
        obtain ⟨z, hz1⟩ := hcell p hp
        refine ⟨p, z, rfl, hp, ?_, ?_⟩
        · have c6 := Draw.kept_cell hG6 hmc hz1
          have c7 := (hW.cell (p := ⟨mb, p, none⟩) (Nat.lt_of_lt_of_le hm5 hG6.size)).trans c6
          exact Draw.kept_cell hG7 hmc c7
        · exact HFIN.out _ (ownK_grown (Lc.ownK_below HO6.out hW) hG7 hlt1) (Draw.below_of_grown (HB6.out.trans (hW.mono HB6.out.size)) (Nat.le_refl _) hG7)
      clear HM hml hz HB5 HA5 HO5 hA6 hG6 HFIN HB6 HO6 HA6 hcell hm5 hmc
      generalize ml.length = mn at HMB hpos ⊢
      go_wp2_with fail
      go_region_with (go_at_call 27; refine (HMB.out _ (Below.refl _ w6).drew).mono ?_; rintro e w7 ⟨x, z, rfl, hxm, ci, hD7⟩; have HF : Hid (Drawn w.heap.size w w7 (.slice (some ⟨g, 0, none⟩) L.length cp) L) := hD7; have hxi : (x : Int) < (mn : Int) := Int.ofNat_lt.2 hxm; clear hD7)
      all_goals
        go_wp2
        refine bodyPost_ret (v := .tuple #[.slice (some ⟨g, 0, none⟩) L.length cp, .int .i64 s, .int .i64 z]) (by simp [results, Try.f12, go_sem]) rfl ?_
        exact ⟨_, L, _, _, rfl, HF.out⟩

end Rm
end Go.Proofs.Ytdcjjopeobnpgab

namespace Go.Proofs.Ytdcjjopeobnpgab
open Go.RowKit
set_option maxRecDepth 100000
namespace Db
open Kn (K okK)
open Bit (bit withB)
open Lc (at' RdK WordsOk laceB setB)
open Sg (isB bel belows)

/-- of one hand, and neither sees the other -/
def dblN (L : List K) (i j : Nat) : Bool := decide ((at' L i).hand = (at' L j).hand) && (!bit (bel L i) j && !bit (bel L j) i)
/-- the document's Doubled -/
def doubledB (L : List K) (a b : Int) : Bool := isB L a && (isB L b && dblN L a.toNat b.toNat)
/-- all that are doubled with one -/
def dblS (L : List K) (i : Nat) : Nat → Int
  | 0 => 0
  | n + 1 => if dblN L i n then withB (dblS L i n) n else dblS L i n
/-- the document's DoublesOf -/
def doublesI (L : List K) (a : Int) : Int := if isB L a then dblS L a.toNat L.length else -1

theorem dblS_bd (L : List K) (i n : Nat) (hn : n ≤ 60) : 0 ≤ dblS L i n ∧ dblS L i n < 1152921504606846976 := by
  induction n with
  | zero => exact ⟨Int.le_refl 0, show (0 : Int) < 1152921504606846976 by decide⟩
  | succ n ih =>
    have ih := ih (by omega)
    unfold dblS
    split
    · exact Bit.withB_bd _ ih.1 ih.2 n (by omega)
    · exact ih

theorem bit_dblS (L : List K) (i n : Nat) (hn : n ≤ 60) (j : Nat) : bit (dblS L i n) j = (decide (j < n) && dblN L i j) := by
  induction n with
  | zero => unfold dblS; rw [Lc.bit_zero]; simp
  | succ n ih =>
    have ih := ih (by omega)
    have hb := dblS_bd L i n (by omega)
    unfold dblS
    cases hd : dblN L i n
    · rw [if_neg (by simp), ih]
      by_cases e : j = n
      · subst e; simp [hd]
      · rw [show decide (j < n + 1) = decide (j < n) from by rw [Bool.eq_iff_iff]; simp; omega]
    · rw [if_pos rfl, Bit.bit_withB _ hb.1, ih]
      by_cases e : j = n
      · subst e; simp [hd]
      · rw [show decide (j < n + 1) = decide (j < n) from by rw [Bool.eq_iff_iff]; simp; omega]; simp [e]

theorem bel_hi {L : List K} (hl : laceB L = true) {i j : Nat} (hi : i < L.length) (hj : i < j) : bit (bel L i) j = false := by
  rw [Bool.eq_false_iff]
  intro h
  have := Sg.reach_le hl hi ((Sg.bel_reach hl i hi j).1 h)
  omega
theorem bel_self {L : List K} (hl : laceB L = true) {i : Nat} (hi : i < L.length) : bit (bel L i) i = true := (Sg.bel_reach hl i hi i).2 (.self _)

theorem dbl_n {L : List K} (hl : laceB L = true) {i j : Nat} (hi : i < L.length) (hj : j < L.length) : dblB L (belows L L.length) i j = dblN L i j := by
  unfold dblB dblN pairB
  rw [Sg.belows_get L L.length i hi, Sg.belows_get L L.length j hj]
  by_cases h1 : j < i
  · rw [if_pos h1, bel_hi hl hj h1]; simp
  · by_cases h2 : i < j
    · rw [if_neg h1, if_pos h2, bel_hi hl hi h2]
      rw [show decide ((at' L j).hand = (at' L i).hand) = decide ((at' L i).hand = (at' L j).hand) from by rw [Bool.eq_iff_iff]; simp [eq_comm]]
      simp
    · obtain rfl : i = j := by omega
      rw [if_neg h1, if_neg h2, bel_self hl hi]; simp

theorem dbl_bit {L : List K} (hl : laceB L = true) {D : Nat → Int} (h : Dbl L (belows L L.length) L.length 0 D) {i : Nat} (hi : i < L.length) (j : Nat) : bit (D i) j = (decide (j < L.length) && dblN L i j) := by
  rw [(h i hi).2 j]
  by_cases hj : j < L.length
  · rw [dbl_n hl hi hj]
    have : doneB L.length 0 i j = true := by unfold doneB; simp [hi, hj]
    rw [this]; simp [hj]
  · have : doneB L.length 0 i j = false := by unfold doneB; simp [hj]
    rw [this]; simp [hj]

theorem dbl_eq {L : List K} (hl : laceB L = true) {D : Nat → Int} (h : Dbl L (belows L L.length) L.length 0 D) {i : Nat} (hi : i < L.length) : D i = dblS L i L.length := by
  have h60 := ((Lc.lace_iff L).1 hl).1
  exact Lc.eq_of_bits _ _ (h i hi).1.1 (dblS_bd L i _ h60).1 fun j => by rw [dbl_bit hl h hi j, bit_dblS L i _ h60]

/-- the model's table of the doubled ones, with what it stands on -/
theorem table (g off cap : Nat) (L : List K) (w : World) (hl : laceB L = true) (hr : RdK w (some ⟨g, off, none⟩) L) :
    Calls Try.prog 18 #[.slice (some ⟨g, off, none⟩) L.length cap] w fun e w' => ∃ bo bc, e = .returned (.slice bo L.length bc) ∧ Below w.heap.size w w' ∧
      Calls Try.prog 35 #[.slice (some ⟨g, off, none⟩) L.length cap, .slice bo L.length bc] w' fun e2 w2 => ∃ D, e2 = .returned (.slice (some ⟨w'.heap.size, 0, none⟩) L.length L.length) ∧ RowI w2 w'.heap.size L.length D ∧ Dbl L (belows L L.length) L.length 0 D ∧ Below w'.heap.size w' w2 := by
  have h60 := ((Lc.lace_iff L).1 hl).1
  refine (Sg.l4All (some ⟨g, off, none⟩) cap L w h60 (Sg.frm_lace hl) hr).mono ?_
  rintro e w1 ⟨bo, bc, rfl, hown, hb1⟩
  have hbl := Sg.belows_len L L.length
  refine ⟨bo, bc, by rw [hbl], hb1, ?_⟩
  have h5 := l5All (some ⟨g, off, none⟩) cap L bo bc (belows L L.length) w1 h60 hbl (Sg.belows_in L L.length h60) (hr.below hb1) (Lst.own_rd hown) (fun g' e => by subst e; exact (World.ownsRow.lt hown g' rfl).2)
  rw [hbl] at h5
  exact h5

end Db
end Go.Proofs.Ytdcjjopeobnpgab

namespace Go.Proofs.Ytdcjjopeobnpgab
open Go.RowKit
set_option maxRecDepth 100000
namespace Nd
open Kn (K okK)
open Bit (bit withB memTo)
open Lc (at' laceB setB)
open Sg (isB bel)
open Db (dblN dblS doublesI)

/-- a sees b and nothing that is doubled with b -/
def nodN (L : List K) (a b : Nat) : Bool := bit (bel L a) b && (bits .and .i64 (bel L a) (dblS L b L.length) == 0)
/-- the document's Nods -/
def nodsB (L : List K) (a b : Int) : Bool := isB L a && (isB L b && nodN L a.toNat b.toNat)
/-- those of the first that nod to b -/
def nodS (L : List K) (b : Nat) : Nat → Int
  | 0 => 0
  | n + 1 => if nodN L n b then withB (nodS L b n) n else nodS L b n
/-- the document's Nodders -/
def noddersI (L : List K) (s b : Int) : Int := if setB L s && isB L b then bits .and .i64 s (nodS L b.toNat L.length) else -1

theorem nodS_bd (L : List K) (b n : Nat) (hn : n ≤ 60) : 0 ≤ nodS L b n ∧ nodS L b n < 1152921504606846976 := by
  induction n with
  | zero => exact ⟨Int.le_refl 0, show (0 : Int) < 1152921504606846976 by decide⟩
  | succ n ih =>
    have h := ih (by omega)
    unfold nodS; split
    · exact Bit.withB_bd _ h.1 h.2 n (by omega)
    · exact h

theorem bit_nodS (L : List K) (b n : Nat) (hn : n ≤ 60) (j : Nat) : bit (nodS L b n) j = (decide (j < n) && nodN L j b) := by
  induction n with
  | zero => show bit 0 j = _; rw [Lc.bit_zero]; simp
  | succ n ih =>
    have h := nodS_bd L b n (by omega)
    unfold nodS
    cases hd : nodN L n b
    · rw [if_neg (by simp), ih (by omega)]
      by_cases e : j = n
      · subst e; rw [hd]; simp
      · have : decide (j < n + 1) = decide (j < n) := by simp; omega
        rw [this]
    · rw [if_pos rfl, Bit.bit_withB _ h.1, ih (by omega)]
      by_cases e : j = n
      · subst e; rw [hd]; simp
      · have : decide (j < n + 1) = decide (j < n) := by simp; omega
        rw [this, decide_eq_false e, Bool.false_or]

theorem nod_iff {L : List K} (h60 : L.length ≤ 60) {a b : Nat} (ha : a < 60) : nodN L a b = true ↔ bit (bel L a) b = true ∧ ∀ j, j < L.length → bit (bel L a) j = true → dblN L b j = false := by
  have h1 := Sg.bel_bd L a ha
  have h2 := Db.dblS_bd L b L.length h60
  unfold nodN
  rw [Bool.and_eq_true, beq_iff_eq]
  have hz := Lc.and_zero_iff (bel L a) (dblS L b L.length) h1.1 (by omega) h2.1 (by omega)
  constructor
  · rintro ⟨hb, he⟩
    refine ⟨hb, fun j hj hbj => ?_⟩
    rw [Bool.eq_false_iff]
    intro hd
    exact hz.2 ⟨j, hbj, by rw [Db.bit_dblS L b _ h60, hd]; simp [hj]⟩ he
  · rintro ⟨hb, hno⟩
    refine ⟨hb, ?_⟩
    apply Classical.byContradiction
    intro hne
    obtain ⟨j, h3, h4⟩ := hz.1 hne
    rw [Db.bit_dblS L b _ h60, Bool.and_eq_true, decide_eq_true_eq] at h4
    rw [hno j h4.1 h3] at h4
    exact Bool.noConfusion h4.2

/-- nobody nods to two that are doubled -/
theorem nod_one {L : List K} (h60 : L.length ≤ 60) {a b d : Nat} (ha : a < 60) (hd : d < L.length) (hn : nodN L a b = true) (hb : dblN L b d = true) : nodN L a d = false := by
  rw [Bool.eq_false_iff]
  intro h2
  have h3 := ((nod_iff h60 ha).1 h2).1
  rw [((nod_iff h60 ha).1 hn).2 d hd h3] at hb
  exact Bool.noConfusion hb

/-- who nods is no earlier one -/
theorem nod_le {L : List K} (hl : laceB L = true) {a b : Nat} (ha : a < L.length) (hn : nodN L a b = true) : b ≤ a := by
  apply Classical.byContradiction
  intro h
  have h60 := ((Lc.lace_iff L).1 hl).1
  have h1 := ((nod_iff h60 (by omega)).1 hn).1
  rw [Db.bel_hi hl ha (by omega)] at h1
  exact Bool.noConfusion h1

end Nd
end Go.Proofs.Ytdcjjopeobnpgab

namespace Go.Proofs.Ytdcjjopeobnpgab
open Go.RowKit
set_option maxRecDepth 100000
namespace Nd
open Kn (K okK)
open Bit (bit withB)
open Lc (at' RdK WordsOk laceB setB)
open Sg (isB bel belows)
open Db (RowI Dbl dblS)

/-- the model's question, over its two tables -/
def nodT (l : List Int) (D : Nat → Int) (b a : Nat) : Bool := bit (l.getD a 0) b && (bits .and .i64 (l.getD a 0) (D b) == 0)
/-- those of the first that nod, over the two tables -/
def nodR (l : List Int) (D : Nat → Int) (b : Nat) : Nat → Int
  | 0 => 0
  | n + 1 => if decide (b ≤ n) && nodT l D b n then withB (nodR l D b n) n else nodR l D b n
/-- the table when all below b have been done, and of b those below a -/
def tabN (l : List Int) (D : Nat → Int) (N b a i : Nat) : Int := if i < b then nodR l D i N else if i = b then nodR l D i a else 0

theorem nodR_low (l : List Int) (D : Nat → Int) (b n : Nat) (h : n ≤ b) : nodR l D b n = 0 := by
  induction n with
  | zero => rfl
  | succ n ih =>
    unfold nodR
    rw [decide_eq_false (by omega), Bool.false_and, if_neg (by simp)]
    exact ih (by omega)
theorem nodR_bd (l : List Int) (D : Nat → Int) (b n : Nat) (hn : n ≤ 60) : 0 ≤ nodR l D b n ∧ nodR l D b n < 1152921504606846976 := by
  induction n with
  | zero => exact ⟨Int.le_refl 0, show (0 : Int) < 1152921504606846976 by decide⟩
  | succ n ih =>
    have h := ih (by omega)
    unfold nodR; split
    · exact Bit.withB_bd _ h.1 h.2 n (by omega)
    · exact h
theorem tab_zero (l : List Int) (D : Nat → Int) (N : Nat) : tabN l D N 0 0 = fun _ => 0 := by
  funext i
  unfold tabN
  rw [if_neg (by omega)]
  split
  · rfl
  · rfl
theorem tab_next (l : List Int) (D : Nat → Int) (N b : Nat) : tabN l D N b N = tabN l D N (b + 1) (b + 1) := by
  funext i
  unfold tabN
  by_cases h1 : i < b
  · rw [if_pos h1, if_pos (by omega)]
  · by_cases h2 : i = b
    · rw [if_neg h1, if_pos h2, if_pos (by omega)]
    · rw [if_neg h1, if_neg h2, if_neg (by omega)]
      by_cases h3 : i = b + 1
      · rw [if_pos h3, nodR_low _ _ _ _ (by omega)]
      · rw [if_neg h3]
theorem tab_skip (l : List Int) (D : Nat → Int) (N b a : Nat) (hp : nodT l D b a = false) : tabN l D N b (a + 1) = tabN l D N b a := by
  funext i
  unfold tabN
  by_cases h2 : i = b
  · subst h2
    rw [if_neg (by omega), if_pos rfl, if_neg (by omega), if_pos rfl]
    show nodR l D i (a + 1) = _
    conv => lhs; unfold nodR
    rw [hp, Bool.and_false, if_neg (by simp)]
  · rw [if_neg h2, if_neg h2]
theorem tab_put (l : List Int) (D : Nat → Int) (N b a : Nat) (hba : b ≤ a) (hp : nodT l D b a = true) : (fun i => if i = b then withB (nodR l D b a) a else tabN l D N b a i) = tabN l D N b (a + 1) := by
  funext i
  unfold tabN
  by_cases h2 : i = b
  · subst h2
    rw [if_pos rfl, if_neg (by omega), if_pos rfl]
    show _ = nodR l D i (a + 1)
    conv => rhs; unfold nodR
    rw [hp, decide_eq_true hba, Bool.true_and, if_pos rfl]
  · rw [if_neg h2, if_neg h2, if_neg h2]
theorem tab_at (l : List Int) (D : Nat → Int) (N b a : Nat) : tabN l D N b a b = nodR l D b a := by
  unfold tabN; rw [if_neg (by omega), if_pos rfl]

/-- the nodding ones are handed back -/
def NodPost (L : List K) (l : List Int) (w : World) (e : Ending) (w' : World) : Prop := ∃ h D O, e = .returned (.slice (some ⟨h, 0, none⟩) L.length L.length) ∧ w.heap.size ≤ h ∧ RowI w' h L.length O ∧ Dbl L l L.length 0 D ∧ (∀ i, i < L.length → O i = nodR l D i L.length) ∧ Below w.heap.size w w'

set_option maxHeartbeats 6400000 in
theorem l6All (ao : Option Addr) (cap : Nat) (L : List K) (bo : Option Addr) (bc : Nat) (l : List Int) (w : World) (hL : L.length ≤ 60) (hll : l.length = L.length) (hin : Sg.Within l) (hr : RdK w ao L) (hrd : Lst.Rd w bo l) (hbo : ∀ g, bo = some ⟨g, 0, none⟩ → g < w.heap.size) :
    Calls Try.prog 21 #[.slice ao L.length cap, .slice bo l.length bc] w (NodPost L l w) := by
  have hmk : ∀ W : World, (Instr.makeSlice 36 (.int .i64 (L.length : Int)) (.int .i64 (L.length : Int))).run Try.prog W = .ok (.slice (some ⟨W.heap.size, 0, none⟩) L.length L.length) (W.alloc (.cells (madeCells #[.int .i64 0] L.length) 2)) :=
    fun W => run_make_row' (P := Try.prog) 36 2 (.int .i64 0) 8 Try.underlying36 Memb.info2 rfl .i64 .i64 L.length (by omega) (by omega) W
  have H5 : Hid (Calls Try.prog 35 #[.slice ao L.length cap, .slice bo l.length bc] w (Db.DblPost L l w)) := Db.l5All ao cap L bo bc l w hL hll hin hr hrd hbo
  have HLL : Hid (l.length = L.length) := hll
  have hl60 : l.length ≤ 60 := by omega
  clear hll hr
  go_enter Try.func21, Try.ntmps21
  go_wp2_with fail
  refine H5.out.mono ?_
  rintro e w1 ⟨D, rfl, hrow, hDb, hb1⟩
  clear H5
  have HP : Hid (RowI (w1.alloc (.cells (madeCells #[.int .i64 0] L.length) 2)) w1.heap.size L.length (fun _ => 0) ∧ Below w1.heap.size w1 (w1.alloc (.cells (madeCells #[.int .i64 0] L.length) 2))) := ⟨Db.rowI_made _ _ _, (Below.refl _ _).alloc (Nat.le_refl _) _⟩
  generalize madeCells #[Value.int .i64 0] L.length = mc at hmk HP
  have HROW : Hid (RowI w1 w.heap.size L.length D) := hrow
  have HDB : Hid (Dbl L l L.length 0 D) := hDb
  have HB1 : Hid (Below w.heap.size w w1) := hb1
  have hw1 : w.heap.size < w1.heap.size := hrow.lt
  clear hrow hDb hb1
  go_wp2
  clear hmk
  go_loopw [7] (fun i wr => ∃ b : Nat, b ≤ L.length ∧ i = .int .i64 b ∧ Hid (RowI wr w1.heap.size L.length (tabN l D L.length b b)) ∧ Hid (Below w1.heap.size w1 wr)) (fun i _ => L.length - (intOf i).toNat)
  case atStart => exact ⟨0, by omega, rfl, by show RowI _ _ _ _; rw [tab_zero]; exact HP.out.1, HP.out.2⟩
  case round =>
    obtain ⟨b, hb, rfl, HR, HB⟩ := hrel
    clear HP
    by_cases hlt : b < L.length
    · have hbi : (b : Int) < (L.length : Int) := by omega
      go_wp2
      go_loopw [8] (fun i wr => ∃ a : Nat, b ≤ a ∧ a ≤ L.length ∧ i = .int .i64 a ∧ Hid (RowI wr w1.heap.size L.length (tabN l D L.length b a)) ∧ Hid (Below w1.heap.size w1 wr)) (fun i _ => L.length - (intOf i).toNat)
      case atStart => exact ⟨b, by omega, by omega, rfl, HR, HB⟩
      case round =>
        obtain ⟨a, hba, ha, rfl, HR, HB⟩ := hrel
        by_cases hal' : a < L.length
        · have hal : a < l.length := by rw [HLL.out]; exact hal'
          have hali : (a : Int) < (l.length : Int) := by omega
          have haLi : (a : Int) < (L.length : Int) := by omega
          have hya := Sg.within_get hin a
          rcases hrd with hrd | ⟨bb, rfl, hcell⟩
          · rw [hrd] at hal; simp at hal
          have hbb : bb < w1.heap.size := Nat.lt_trans (hbo bb rfl) hw1
          have cy := (HB.out.cell (p := ⟨bb, a, none⟩) hbb).trans ((HB1.out.cell (p := ⟨bb, a, none⟩) (hbo bb rfl)).trans (hcell a hal))
          have cd := (HB.out.cell (p := ⟨w.heap.size, b, none⟩) hw1).trans (HROW.out.rd b hlt)
          have HPB : Hid (nodT l D b a = (bit (l.getD a 0) b && (bits .and .i64 (l.getD a 0) (D b) == 0))) := rfl
          clear hcell hbo
          generalize l.getD a 0 = y at cy hya HPB
          cases hbit : bit y b
          · have hp : nodT l D b a = false := by rw [HPB.out, hbit]; rfl
            have hcall := Db.has_call y b false hya.1 hya.2 (by omega) hbit
            have HT2 : Hid (tabN l D L.length b (a + 1) = tabN l D L.length b a) := tab_skip l D L.length b a hp
            clear hbit HPB hp
            go_wp2_with fail
            go_quiet (first | (go_at_call 16; exact (hcall _).mono fun _ _ h => ⟨h.1, _, h.2⟩))
            go_wp2
            go_roundw
            case rel => exact ⟨a + 1, by omega, by omega, by go_num, by show RowI _ _ _ _; rw [HT2.out]; exact HR.out.drewN nq, Db.below_drewN HB.out nq⟩
            case measure => simp [intOf]; omega
          · have hcall := Db.has_call y b true hya.1 hya.2 (by omega) hbit
            cases hz : (bits .and .i64 y (D b) == 0)
            · have hp : nodT l D b a = false := by rw [HPB.out, hbit, hz]; rfl
              have HT2 : Hid (tabN l D L.length b (a + 1) = tabN l D L.length b a) := tab_skip l D L.length b a hp
              clear hbit HPB hp
              go_wp2_with fail
              go_quiet (first | (go_at_call 16; exact (hcall _).mono fun _ _ h => ⟨h.1, _, h.2⟩))
              go_wp2
              go_roundw
              case rel => exact ⟨a + 1, by omega, by omega, by go_num, by show RowI _ _ _ _; rw [HT2.out]; exact HR.out.drewN nq, Db.below_drewN HB.out nq⟩
              case measure => simp [intOf]; omega
            · have hp : nodT l D b a = true := by rw [HPB.out, hbit, hz]; rfl
              have HT2 : Hid ((fun i => if i = b then withB (nodR l D b a) a else tabN l D L.length b a i) = tabN l D L.length b (a + 1)) := tab_put l D L.length b a hba hp
              clear hbit HPB hp
              go_wp2_with fail
              go_quiet (first | (go_at_call 16; exact (hcall _).mono fun _ _ h => ⟨h.1, _, h.2⟩))
              go_wp2_with fail
              have R1 := HR.out.drewN nq
              have HB2 : Hid (Below w1.heap.size w1 (wr.drewN nq)) := Db.below_drewN HB.out nq
              clear cy cd HR HB hz hcall
              generalize wr.drewN nq = V at R1 HB2 ⊢
              have e1 := R1.rd b hlt
              rw [tab_at] at e1
              have f1 := R1.fr b hlt
              have hda := nodR_bd l D b a (by omega)
              have HO1 : Hid (bits .or .i64 (nodR l D b a) (2 ^ a) = withB (nodR l D b a) a) := Base.shl_or _ a hda.1 hda.2 (by omega)
              have HR2 : Hid (RowI (V.setCell ⟨w1.heap.size, b, none⟩ (.int .i64 (withB (nodR l D b a) a))) w1.heap.size L.length (tabN l D L.length b (a + 1))) := by
                show RowI _ _ _ _
                rw [← HT2.out]; exact R1.put b hlt _
              have HB3 : Hid (Below w1.heap.size w1 (V.setCell ⟨w1.heap.size, b, none⟩ (.int .i64 (withB (nodR l D b a) a)))) := HB2.out.setCell (p := ⟨w1.heap.size, b, none⟩) (Nat.le_refl _) _
              clear R1 HB2 HT2
              generalize nodR l D b a = x at e1 hda HO1 HR2 HB3
              go_region_with (go_at_call 34; refine (Base.l1Bit _ _ (by omega) (by omega)).mono ?_; rintro e w' ⟨rfl, rfl⟩; rw [Int.toNat_natCast])
              all_goals
                rw [HO1.out]
                go_wp2
                go_roundw
                case rel => exact ⟨a + 1, by omega, by omega, by go_num, HR2.out.drew, HB3.out.drew⟩
                case measure => simp [intOf]; omega
        · obtain rfl : a = L.length := by omega
          go_wp2
          go_roundw
          case rel => exact ⟨b + 1, by omega, by go_num, by show RowI _ _ _ _; rw [← tab_next]; exact HR.out, HB⟩
          case measure => simp [intOf]; omega
    · obtain rfl : b = L.length := by omega
      go_wp2
      go_ret
      exact ⟨_, D, _, rfl, HB1.out.size, HR.out, HDB.out, fun i hi => by unfold tabN; rw [if_pos hi], HB1.out.trans (HB.out.mono HB1.out.size)⟩

/-- over the lace's own tables: the document's word -/
theorem nodR_eq {L : List K} (hl : laceB L = true) {D : Nat → Int} (h : Dbl L (belows L L.length) L.length 0 D) {b : Nat} (hb : b < L.length) (n : Nat) (hn : n ≤ L.length) : nodR (belows L L.length) D b n = nodS L b n := by
  induction n with
  | zero => rfl
  | succ n ih =>
    have ih := ih (by omega)
    unfold nodR nodS
    have e : (decide (b ≤ n) && nodT (belows L L.length) D b n) = nodN L n b := by
      have e1 : nodT (belows L L.length) D b n = nodN L n b := by
        unfold nodT nodN
        rw [Sg.belows_get L L.length n (by omega), Db.dbl_eq hl h hb]
      rw [e1]
      by_cases hbn : b ≤ n
      · rw [decide_eq_true hbn, Bool.true_and]
      · rw [decide_eq_false hbn, Bool.false_and]
        symm
        rw [Bool.eq_false_iff]
        intro hq
        exact hbn (nod_le hl (by omega) hq)
    rw [e, ih]

/-- the model's table of the nodding ones, with what it stands on -/
theorem table6 (g off cap : Nat) (L : List K) (w : World) (hl : laceB L = true) (hr : RdK w (some ⟨g, off, none⟩) L) :
    Calls Try.prog 18 #[.slice (some ⟨g, off, none⟩) L.length cap] w fun e w' => ∃ bo bc, e = .returned (.slice bo L.length bc) ∧ Below w.heap.size w w' ∧
      Calls Try.prog 21 #[.slice (some ⟨g, off, none⟩) L.length cap, .slice bo L.length bc] w' fun e2 w2 => ∃ h O, e2 = .returned (.slice (some ⟨h, 0, none⟩) L.length L.length) ∧ RowI w2 h L.length O ∧ (∀ i, i < L.length → O i = nodS L i L.length) ∧ Below w'.heap.size w' w2 := by
  have h60 := ((Lc.lace_iff L).1 hl).1
  refine (Sg.l4All (some ⟨g, off, none⟩) cap L w h60 (Sg.frm_lace hl) hr).mono ?_
  rintro e w1 ⟨bo, bc, rfl, hown, hb1⟩
  have hbl := Sg.belows_len L L.length
  refine ⟨bo, bc, by rw [hbl], hb1, ?_⟩
  have h5 := l6All (some ⟨g, off, none⟩) cap L bo bc (belows L L.length) w1 h60 hbl (Sg.belows_in L L.length h60) (hr.below hb1) (Lst.own_rd hown) (fun g' e => by subst e; exact (World.ownsRow.lt hown g' rfl).2)
  rw [hbl] at h5
  refine h5.mono ?_
  rintro e w2 ⟨h, D, O, rfl, _, hrow, hD, hO, hb2⟩
  exact ⟨h, O, rfl, hrow, fun i hi => by rw [hO i hi, nodR_eq hl hD hi _ (Nat.le_refl _)], hb2⟩

set_option maxHeartbeats 1600000 in
theorem specNodders (g off cap : Nat) (L : List K) (s b : Int) (w : World) (hcap : L.length ≤ cap) (hw : WordsOk L) (hr : RdK w (some ⟨g, off, none⟩) L) :
    Calls Try.prog 10 #[.slice (some ⟨g, off, none⟩) L.length cap, .int .i64 s, .int .i64 b] w fun e w' => e = .returned (.int .i64 (noddersI L s b)) ∧ Below w.heap.size w w' := by
  go_enter Try.func10, Try.ntmps10
  go_wp2_with fail
  refine (Lc.l3Set g off cap L s _ hcap hw hr).mono ?_
  rintro e w1 ⟨rfl, hb1⟩
  have hr1 := hr.below hb1
  cases his : setB L s
  · have HT : Hid (noddersI L s b = -1) := by show _ = _; unfold noddersI; rw [his]; rfl
    clear his
    go_wp2
    go_ret
    exact ⟨by rw [HT.out]; rfl, hb1⟩
  · go_wp2_with fail
    refine (Sg.l4Is g off cap L b _ hcap hw hr1).mono ?_
    rintro e w2 ⟨rfl, hb2⟩
    have hr2 := hr1.below hb2
    have hB2 := hb1.trans (hb2.mono hb1.size)
    clear hb1 hb2 hr1
    cases hib : isB L b
    · have HT : Hid (noddersI L s b = -1) := by show _ = _; unfold noddersI; rw [hib]; simp
      clear hib his
      go_wp2
      go_ret
      exact ⟨by rw [HT.out]; rfl, hB2⟩
    · have HT : Hid (noddersI L s b = bits .and .i64 s (nodS L b.toNat L.length)) := by show _ = _; unfold noddersI; rw [hib, his]; rfl
      obtain ⟨q0, q1, hlc⟩ := Sg.isB_parts hib
      have HLC : Hid (laceB L = true) := hlc
      clear hib hlc his
      obtain ⟨q, rfl⟩ := Int.eq_ofNat_of_zero_le q0
      have hq : q < L.length := by omega
      rw [Int.toNat_natCast] at HT
      go_wp2_with fail
      refine (table6 g off cap L _ HLC.out hr2).mono ?_
      rintro e w3 ⟨bo, bc, rfl, hb3, h5⟩
      have hB3 := hB2.trans (hb3.mono hB2.size)
      clear hB2 hb3 hr2 hr
      go_wp2_with fail
      refine h5.mono ?_
      rintro e w4 ⟨h, O, rfl, hrow, hO, hb4⟩
      have hB4 := hB3.trans (hb4.mono hB3.size)
      have cp := hrow.rd q hq
      rw [hO q hq] at cp
      clear hb4 hB3 hrow hO h5
      go_wp2
      go_ret
      exact ⟨by rw [HT.out]; rfl, hB4⟩

end Nd
end Go.Proofs.Ytdcjjopeobnpgab

namespace Go.Proofs.Ytdcjjopeobnpgab
open Go.RowKit
set_option maxRecDepth 100000
namespace Nd
open Kn (K okK)
open Bit (bit withB)
open Lc (at' RdK amongI HandsOk)
open Db (RowI)

/-- those of a set, of the first n, that a hand tied -/
def hf (L : List K) (s h : Int) (n : Nat) : Int := amongI (fun k => decide (k.hand = h)) L s n

theorem hf_step (L : List K) (s h : Int) (n : Nat) : hf L s h (n + 1) = if bit s n && decide ((at' L n).hand = h) then withB (hf L s h n) n else hf L s h n := rfl
theorem hf_bd (L : List K) (s h : Int) (n : Nat) (hn : n ≤ 60) : 0 ≤ hf L s h n ∧ hf L s h n < 1152921504606846976 := Lc.among_bd _ L s n hn
theorem hf_miss (L : List K) (s : Int) (n : Nat) (hb : bit s n = false) : (fun h : Nat => hf L s h (n + 1)) = fun h : Nat => hf L s h n := by
  funext h; rw [hf_step, hb]; simp
theorem hf_hit (L : List K) (s : Int) (n m : Nat) (hb : bit s n = true) (hm : (at' L n).hand = (m : Int)) : (fun h : Nat => if h = m then withB (hf L s m n) n else hf L s h n) = fun h : Nat => hf L s h (n + 1) := by
  funext h; rw [hf_step, hb, hm]
  by_cases e : h = m
  · subst e; simp
  · have : ¬ ((m : Int) = (h : Int)) := by omega
    rw [if_neg e, decide_eq_false this]; simp

theorem rowI_alloc {w : World} {g n : Nat} {D : Nat → Int} (h : RowI w g n D) (o : Obj) : RowI (w.alloc o) g n D where
  lt := by have := h.lt; simp; omega
  rd := fun i hi => by rw [World.cell?_alloc_lt _ _ _ h.lt]; exact h.rd i hi
  fr := fun i hi => by rw [World.frozen?_alloc_past _ _ _ h.lt]; exact h.fr i hi
theorem rowI_other {w : World} {g n : Nat} {D : Nat → Int} (h : RowI w g n D) (c i : Nat) (hc : g ≠ c) (v : Value) : RowI (w.setCell ⟨c, i, none⟩ v) g n D where
  lt := by simpa using h.lt
  rd := fun j hj => (World.cell?_of_block (w := w) (Below.heap_setCell w ⟨c, i, none⟩ v g hc)).trans (h.rd j hj)
  fr := fun j hj => by rw [World.frozen?_setCell]; exact h.fr j hj

theorem rowI_four (w : World) (t : TypeId) : RowI (w.alloc (.cells #[.int .i64 0, .int .i64 0, .int .i64 0, .int .i64 0] t)) w.heap.size 4 (fun _ => 0) where
  lt := by simp
  rd := fun i hi => by
    match i, hi with
    | 0, _ => simp
    | 1, _ => simp
    | 2, _ => simp
    | 3, _ => simp
  fr := fun i hi => by
    match i, hi with
    | 0, _ => simp
    | 1, _ => simp
    | 2, _ => simp
    | 3, _ => simp

set_option maxHeartbeats 1600000 in
theorem handfulsOf (g off cap : Nat) (L : List K) (s : Int) (w : World) (hL : L.length ≤ 60) (hs : Base.okB s = true) (hh : HandsOk L) (hr : RdK w (some ⟨g, off, none⟩) L) :
    Calls Try.prog 65 #[.slice (some ⟨g, off, none⟩) L.length cap, .int .i64 s] w fun e w' =>
      e = .returned (.agg #[.int .i64 (hf L s 0 L.length), .int .i64 (hf L s 1 L.length), .int .i64 (hf L s 2 L.length), .int .i64 (hf L s 3 L.length)]) ∧ Below w.heap.size w w' := by
  have HO : Hid (Base.okB s = true) := hs
  have P0 : Hid (RowI ((w.alloc (.cells #[.int .i64 0, .int .i64 0, .int .i64 0, .int .i64 0] 83)).alloc (.cells #[.int .i64 0, .int .i64 0, .int .i64 0, .int .i64 0] 83)) w.heap.size 4 (fun _ => 0) ∧
      RowI ((w.alloc (.cells #[.int .i64 0, .int .i64 0, .int .i64 0, .int .i64 0] 83)).alloc (.cells #[.int .i64 0, .int .i64 0, .int .i64 0, .int .i64 0] 83)) (w.heap.size + 1) 4 (fun _ => 0) ∧
      Below w.heap.size w ((w.alloc (.cells #[.int .i64 0, .int .i64 0, .int .i64 0, .int .i64 0] 83)).alloc (.cells #[.int .i64 0, .int .i64 0, .int .i64 0, .int .i64 0] 83))) :=
    ⟨rowI_alloc (rowI_four w _) _, by have := rowI_four (w.alloc (.cells #[.int .i64 0, .int .i64 0, .int .i64 0, .int .i64 0] 83)) 83; simpa using this, ((Below.refl _ w).alloc (Nat.le_refl _) _).alloc (by simp) _⟩
  clear hs
  go_enter Try.func65, Try.ntmps65
  go_wp2
  go_loopw [10] (fun i wr => ∃ j : Nat, j ≤ L.length ∧ i = .int .i64 j ∧ Hid (RowI wr w.heap.size 4 (fun _ => 0)) ∧ Hid (RowI wr (w.heap.size + 1) 4 (fun h => hf L s h j)) ∧ Hid (Below w.heap.size w wr)) (fun i _ => L.length - (intOf i).toNat)
  case atStart => exact ⟨0, by omega, rfl, P0.out.1, P0.out.2.1, P0.out.2.2⟩
  case round =>
    obtain ⟨j, hj, rfl, HR, HF, HB⟩ := hrel
    clear P0
    by_cases hlt : j < L.length
    · obtain ⟨hg, hc⟩ := hr.on j hlt
      obtain ⟨c0, c1, c2, c3⟩ := hc.below HB.out hg
      have hin : Base.inB (j : Int) = true := (Base.inB_iff _).2 ⟨by omega, by omega⟩
      have hk := hh _ (Lc.at_mem L j hlt)
      cases hb : bit s j
      · have HH : Hid ((Base.okB s && (Base.inB (j : Int) && bit s j)) = false) := by show _ = _; simp [hb]
        have HD : Hid ((fun h : Nat => hf L s h (j + 1)) = fun h : Nat => hf L s h j) := hf_miss L s j hb
        clear hb hin hk
        go_wp2_with (go_at_call 64; refine (Base.has _ _ _).mono ?_; rintro e w' ⟨rfl, rfl⟩; rw [Int.toNat_natCast, HH.out])
        go_roundw
        case rel => exact ⟨j + 1, by omega, by go_num, rowI_alloc HR.out _, by show RowI _ _ _ _; rw [HD.out]; exact rowI_alloc HF.out _, HB.out.alloc HB.out.size _⟩
        case measure => simp [intOf]; omega
      · have HH : Hid ((Base.okB s && (Base.inB (j : Int) && bit s j)) = true) := by show _ = _; simp [hb, hin, HO.out]
        obtain ⟨m, hm⟩ := Int.eq_ofNat_of_zero_le hk.1
        have hm4 : m < 4 := by omega
        have HD : Hid ((fun h : Nat => if h = m then withB (hf L s m j) j else hf L s h j) = fun h : Nat => hf L s h (j + 1)) := hf_hit L s j m hb hm
        have hbd := hf_bd L s m j (by omega)
        have HW : Hid (Base.withI (hf L s m j) (j : Int) = withB (hf L s m j) j) := by
          show _ = _
          unfold Base.withI
          rw [(Base.okB_iff _).2 hbd, hin]; simp
        have HR1 : Hid (RowI (wr.alloc (.cells #[.int .i64 m, .int .i64 (at' L j).round, .int .i64 (at' L j).frm, .string (at' L j).word] 51)) w.heap.size 4 (fun _ => 0)) := rowI_alloc HR.out _
        have HF1 : Hid (RowI (wr.alloc (.cells #[.int .i64 m, .int .i64 (at' L j).round, .int .i64 (at' L j).frm, .string (at' L j).word] 51)) (w.heap.size + 1) 4 (fun h => hf L s h j)) := rowI_alloc HF.out _
        have HB1 : Hid (Below w.heap.size w (wr.alloc (.cells #[.int .i64 m, .int .i64 (at' L j).round, .int .i64 (at' L j).frm, .string (at' L j).word] 51))) := HB.out.alloc HB.out.size _
        have HK1 : Hid ((wr.alloc (.cells #[.int .i64 m, .int .i64 (at' L j).round, .int .i64 (at' L j).frm, .string (at' L j).word] 51)).cell? ⟨wr.heap.size, 0, none⟩ = some (.int .i64 m)) := by show _ = _; simp
        rw [hm] at c0
        clear hb hin hk hbd hm HR HF
        go_wp2_with (first | (go_at_call 64; refine (Base.has _ _ _).mono ?_; rintro e w' ⟨rfl, rfl⟩; rw [Int.toNat_natCast, HH.out]) | fail)
        clear HH c0 c1 c2 c3 hc
        generalize wr.alloc (.cells #[.int .i64 m, .int .i64 (at' L j).round, .int .i64 (at' L j).frm, .string (at' L j).word] 51) = V at HR1 HF1 HB1 HK1 ⊢
        generalize wr.heap.size = kb at HK1 ⊢
        have d0 := HK1.out
        have e1 := HF1.out.rd m hm4
        have f1 := HF1.out.fr m hm4
        have hmi : (m : Int) < 4 := by omega
        have HR2 : Hid (RowI (V.setCell ⟨w.heap.size + 1, m, none⟩ (.int .i64 (withB (hf L s m j) j))) w.heap.size 4 (fun _ => 0)) := rowI_other HR1.out _ _ (by omega) _
        have HF2 : Hid (RowI (V.setCell ⟨w.heap.size + 1, m, none⟩ (.int .i64 (withB (hf L s m j) j))) (w.heap.size + 1) 4 (fun h => hf L s h (j + 1))) := by
          show RowI _ _ _ _
          rw [← HD.out]; exact HF1.out.put m hm4 _
        have HB2 : Hid (Below w.heap.size w (V.setCell ⟨w.heap.size + 1, m, none⟩ (.int .i64 (withB (hf L s m j) j)))) := HB1.out.setCell (p := ⟨w.heap.size + 1, m, none⟩) (by simp) _
        clear HR1 HF1 HB1 HK1 HD
        generalize hf L s m j = x at e1 HW HR2 HF2 HB2
        go_region_with (go_at_call 66; refine (Base.withM _ _ _).mono ?_; rintro e w' ⟨rfl, rfl⟩; rw [HW.out])
        all_goals
          go_wp2
          go_roundw
          case rel => exact ⟨j + 1, by omega, by go_num, HR2.out.drew, HF2.out.drew, HB2.out.drew⟩
          case measure => simp [intOf]; omega
    · obtain rfl : j = L.length := by omega
      have r0 := HR.out.rd 0 (by omega)
      have r1 := HR.out.rd 1 (by omega)
      have r2 := HR.out.rd 2 (by omega)
      have r3 := HR.out.rd 3 (by omega)
      have q0 := HR.out.fr 0 (by omega)
      have q1 := HR.out.fr 1 (by omega)
      have q2 := HR.out.fr 2 (by omega)
      have q3 := HR.out.fr 3 (by omega)
      have f0 := HF.out.rd 0 (by omega)
      have f1 := HF.out.rd 1 (by omega)
      have f2 := HF.out.rd 2 (by omega)
      have f3 := HF.out.rd 3 (by omega)
      have HP4 : Hid (∀ x0 x1 x2 x3 : Int, ∃ W4, W4 = ((((wr.setCell ⟨w.heap.size, 0, none⟩ (.int .i64 x0)).setCell ⟨w.heap.size, 1, none⟩ (.int .i64 x1)).setCell ⟨w.heap.size, 2, none⟩ (.int .i64 x2)).setCell ⟨w.heap.size, 3, none⟩ (.int .i64 x3)) ∧
          W4.cell? ⟨w.heap.size, 0, none⟩ = some (.int .i64 x0) ∧ W4.cell? ⟨w.heap.size, 1, none⟩ = some (.int .i64 x1) ∧ W4.cell? ⟨w.heap.size, 2, none⟩ = some (.int .i64 x2) ∧ W4.cell? ⟨w.heap.size, 3, none⟩ = some (.int .i64 x3) ∧ Below w.heap.size w W4) := fun x0 x1 x2 x3 => by
        have h1 := (((HR.out.put 0 (by omega) x0).put 1 (by omega) x1).put 2 (by omega) x2).put 3 (by omega) x3
        refine ⟨_, rfl, h1.rd 0 (by omega), h1.rd 1 (by omega), h1.rd 2 (by omega), h1.rd 3 (by omega), ?_⟩
        exact (((HB.out.setCell (p := ⟨w.heap.size, 0, none⟩) (Nat.le_refl _) _).setCell (p := ⟨w.heap.size, 1, none⟩) (Nat.le_refl _) _).setCell (p := ⟨w.heap.size, 2, none⟩) (Nat.le_refl _) _).setCell (p := ⟨w.heap.size, 3, none⟩) (Nat.le_refl _) _
      go_wp2
      obtain ⟨W4, hW4, k0, k1, k2, k3, hB4⟩ := HP4.out (hf L s 0 L.length) (hf L s 1 L.length) (hf L s 2 L.length) (hf L s 3 L.length)
      rw [← hW4]
      refine bodyPost_ret (v := .agg #[.int .i64 (hf L s 0 L.length), .int .i64 (hf L s 1 L.length), .int .i64 (hf L s 2 L.length), .int .i64 (hf L s 3 L.length)]) (by simp [results, Try.f65, go_sem, k0, k1, k2, k3]) rfl ?_
      exact ⟨rfl, hB4⟩

end Nd
end Go.Proofs.Ytdcjjopeobnpgab

namespace Go.Proofs.Ytdcjjopeobnpgab
open Go.RowKit
set_option maxRecDepth 100000
namespace Db
open Kn (K okK)
open Bit (bit withB)
open Lc (at' RdK WordsOk laceB setB)
open Sg (isB bel belows seesB)

theorem eqSight (x y : Bool) (W : World) : (binOp .eql 112 (.agg #[.bool x, .bool y]) (.agg #[.bool false, .bool false])).run Try.prog W = .ok (.bool (!x && !y)) W := by
  cases x <;> cases y <;> kernel_rfl

theorem twoNew (W : World) (t : TypeId) : ((W.alloc (.cells #[.bool false, .bool false] t)).cell? ⟨W.heap.size, 0, none⟩ = some (.bool false) ∧ (W.alloc (.cells #[.bool false, .bool false] t)).cell? ⟨W.heap.size, 1, none⟩ = some (.bool false)) ∧
    (W.alloc (.cells #[.bool false, .bool false] t)).frozen? ⟨W.heap.size, 0, none⟩ = false ∧ (W.alloc (.cells #[.bool false, .bool false] t)).frozen? ⟨W.heap.size, 1, none⟩ = false := ⟨⟨by simp, by simp⟩, by simp, by simp⟩

set_option maxHeartbeats 800000 in
theorem between (g off cap : Nat) (L : List K) (a b : Int) (w : World) (hlc : laceB L = true) (hg : g < w.heap.size) (hr : RdK w (some ⟨g, off, none⟩) L) :
    Calls Try.prog 90 #[.slice (some ⟨g, off, none⟩) L.length cap, .int .i64 a, .int .i64 b] w fun e w' => e = .returned (.agg #[.bool (seesB L a b), .bool (seesB L b a)]) ∧ Below w.heap.size w w' := by
  have hB0 : Below w.heap.size w (w.alloc (.cells #[.bool false, .bool false] 112)) := (Below.refl _ w).alloc (Nat.le_refl _) _
  have hg0 : g < (w.alloc (.cells #[.bool false, .bool false] 112)).heap.size := by simp; omega
  have hr0 := hr.below hB0
  obtain ⟨⟨c0, c1⟩, f0, f1⟩ := twoNew w 112
  have hs0 : w.heap.size < (w.alloc (.cells #[.bool false, .bool false] 112)).heap.size := by simp
  go_enter Try.func90, Try.ntmps90
  go_wp2_with fail
  generalize w.alloc (.cells #[.bool false, .bool false] 112) = W0 at hB0 hg0 hr0 c0 c1 f0 f1 hs0 ⊢
  refine (Sg.sees g off cap L a b _ hlc hg0 hr0).mono ?_
  rintro e w1 ⟨rfl, hb1⟩
  have hr1 := hr0.below hb1
  have hg1 : g < w1.heap.size := Nat.lt_of_lt_of_le hg0 hb1.size
  go_wp2_with fail
  refine (Sg.sees g off cap L b a _ hlc hg1 hr1).mono ?_
  rintro e w2 ⟨rfl, hb2⟩
  have hb : Below W0.heap.size W0 w2 := hb1.trans (hb2.mono hb1.size)
  have d0 := (hb.cell (p := ⟨w.heap.size, 0, none⟩) hs0).trans c0
  have d1 := (hb.cell (p := ⟨w.heap.size, 1, none⟩) hs0).trans c1
  have e0 := (hb.frozen (p := ⟨w.heap.size, 0, none⟩) hs0).trans f0
  have e1 := (hb.frozen (p := ⟨w.heap.size, 1, none⟩) hs0).trans f1
  have HB : Hid (Below w.heap.size w w2) := hB0.trans (hb.mono (Nat.le_of_lt hs0))
  clear hB0 hg0 hr0 c0 c1 f0 f1 hb1 hr1 hg1 hb2 hb
  generalize hx : seesB L a b = x
  generalize hy : seesB L b a = y
  have HX : Hid (seesB L a b = x ∧ seesB L b a = y) := ⟨hx, hy⟩
  clear hx hy
  go_wp2
  have k0 : ((w2.setCell ⟨w.heap.size, 0, none⟩ (.bool x)).setCell ⟨w.heap.size, 1, none⟩ (.bool y)).cell? ⟨w.heap.size, 0, none⟩ = some (.bool x) :=
    (World.cell?_setCell_other _ _ _ _ (by intro q; injection q with _ q; omega)).trans (World.cell?_setCell_same' _ _ _ (by rw [d0]; rfl))
  have k1 : ((w2.setCell ⟨w.heap.size, 0, none⟩ (.bool x)).setCell ⟨w.heap.size, 1, none⟩ (.bool y)).cell? ⟨w.heap.size, 1, none⟩ = some (.bool y) :=
    World.cell?_setCell_same' _ _ _ (by rw [World.cell?_setCell_other _ _ _ _ (by intro q; injection q with _ q; omega), d1]; rfl)
  refine bodyPost_ret (v := .agg #[.bool x, .bool y]) (by simp [results, Try.f90, go_sem, k0, k1]) rfl ?_
  exact ⟨by rw [HX.out.1, HX.out.2], (HB.out.setCell (p := ⟨w.heap.size, 0, none⟩) (Nat.le_refl _) _).setCell (p := ⟨w.heap.size, 1, none⟩) (Nat.le_refl _) _⟩

/-- what the program's doubled asks -/
theorem dbl_sees {L : List K} {a b : Int} (ha : isB L a = true) (hb : isB L b = true) : doubledB L a b = (decide ((at' L a.toNat).hand = (at' L b.toNat).hand) && (!seesB L a b && !seesB L b a)) := by
  unfold doubledB dblN seesB
  rw [ha, hb]; simp

theorem isB_lace {L : List K} (hl : laceB L = true) (k : Int) : isB L k = (decide (0 ≤ k) && decide (k < (L.length : Int))) := by unfold isB; rw [hl]; simp

set_option maxHeartbeats 3200000 in
theorem doubled (g off cap : Nat) (L : List K) (a b : Int) (w : World) (hlc : laceB L = true) (hg : g < w.heap.size) (hr : RdK w (some ⟨g, off, none⟩) L) :
    Calls Try.prog 77 #[.slice (some ⟨g, off, none⟩) L.length cap, .int .i64 a, .int .i64 b] w fun e w' => e = .returned (.bool (doubledB L a b)) ∧ Below w.heap.size w w' := by
  have h60 := ((Lc.lace_iff L).1 hlc).1
  have HA : Hid ((Base.okB (2 ^ L.length - 1) && (Base.inB a && bit (2 ^ L.length - 1) a.toNat)) = isB L a) := by show _ = _; rw [isB_lace hlc]; exact Sg.all_has h60 a
  have HC : Hid ((Base.okB (2 ^ L.length - 1) && (Base.inB b && bit (2 ^ L.length - 1) b.toNat)) = isB L b) := by show _ = _; rw [isB_lace hlc]; exact Sg.all_has h60 b
  cases ha : isB L a
  · have HT : Hid (doubledB L a b = false) := by show _ = _; unfold doubledB; rw [ha]; rfl
    have HAF : Hid ((Base.okB (2 ^ L.length - 1) && (Base.inB a && bit (2 ^ L.length - 1) a.toNat)) = false) := HA.out.trans ha
    clear ha HA HC
    go_enter Try.func77, Try.ntmps77
    go_wp2_with (first | (go_at_call 46; refine (Lc.all _ _ _ _ h60).mono ?_; rintro e w' ⟨rfl, rfl⟩) | (go_at_call 64; refine (Base.has _ _ _).mono ?_; rintro e w' ⟨rfl, rfl⟩; rw [HAF.out]))
    go_quiet (fail)
    go_wp2
    go_ret
    exact ⟨by rw [HT.out]; rfl, Sg.below_drewN (Below.refl _ _) _⟩
  · have HAT : Hid ((Base.okB (2 ^ L.length - 1) && (Base.inB a && bit (2 ^ L.length - 1) a.toNat)) = true) := HA.out.trans ha
    cases hb : isB L b
    · have HT : Hid (doubledB L a b = false) := by show _ = _; unfold doubledB; rw [hb]; simp
      have HCF : Hid ((Base.okB (2 ^ L.length - 1) && (Base.inB b && bit (2 ^ L.length - 1) b.toNat)) = false) := HC.out.trans hb
      clear ha hb HA HC
      go_enter Try.func77, Try.ntmps77
      go_wp2_with (first | (go_at_call 46; refine (Lc.all _ _ _ _ h60).mono ?_; rintro e w' ⟨rfl, rfl⟩) | (go_at_call 64; refine (Base.has _ _ _).mono ?_; rintro e w' ⟨rfl, rfl⟩; first | rw [HAT.out] | rw [HCF.out]))
      go_quiet (fail)
      go_wp2
      go_ret
      exact ⟨by rw [HT.out]; rfl, Sg.below_drewN (Below.refl _ _) _⟩
    · have HCT : Hid ((Base.okB (2 ^ L.length - 1) && (Base.inB b && bit (2 ^ L.length - 1) b.toNat)) = true) := HC.out.trans hb
      have HT0 : Hid (doubledB L a b = (decide ((at' L a.toNat).hand = (at' L b.toNat).hand) && (!seesB L a b && !seesB L b a))) := dbl_sees ha hb
      obtain ⟨p0, p1, _⟩ := Sg.isB_parts ha
      obtain ⟨q0, q1, _⟩ := Sg.isB_parts hb
      clear ha hb HA HC
      obtain ⟨p, rfl⟩ := Int.eq_ofNat_of_zero_le p0
      obtain ⟨q, rfl⟩ := Int.eq_ofNat_of_zero_le q0
      have hp : p < L.length := by omega
      have hq : q < L.length := by omega
      rw [Int.toNat_natCast, Int.toNat_natCast] at HT0
      rw [Int.toNat_natCast] at HAT HCT
      obtain ⟨_, a0, _, _, _⟩ := hr.on p hp
      obtain ⟨_, b0, _, _, _⟩ := hr.on q hq
      by_cases hh : (at' L p).hand = (at' L q).hand
      · have hh1 : ((at' L p).hand == (at' L q).hand) = true := by simpa using hh
        have HT1 : Hid (doubledB L (p : Int) (q : Int) = (!seesB L (p : Int) (q : Int) && !seesB L (q : Int) (p : Int))) := by show _ = _; rw [HT0.out]; simp [hh]
        have HBW : Hid (∀ W : World, g < W.heap.size → RdK W (some ⟨g, off, none⟩) L → Calls Try.prog 90 #[.slice (some ⟨g, off, none⟩) L.length cap, .int .i64 (p : Int), .int .i64 (q : Int)] W fun e w' => e = .returned (.agg #[.bool (seesB L (p : Int) (q : Int)), .bool (seesB L (q : Int) (p : Int))]) ∧ Below W.heap.size W w') := fun W h1 h2 => between g off cap L p q W hlc h1 h2
        have heq := eqSight (seesB L (p : Int) (q : Int)) (seesB L (q : Int) (p : Int))
        generalize seesB L (p : Int) (q : Int) = x at HT1 HBW heq
        generalize seesB L (q : Int) (p : Int) = y at HT1 HBW heq
        clear hh HT0
        have HR : Hid (RdK w (some ⟨g, off, none⟩) L) := hr
        clear hr
        go_enter Try.func77, Try.ntmps77
        go_wp2_with (first | (go_at_call 46; refine (Lc.all _ _ _ _ h60).mono ?_; rintro e w' ⟨rfl, rfl⟩) | (go_at_call 64; refine (Base.has _ _ _).mono ?_; rintro e w' ⟨rfl, rfl⟩; rw [Int.toNat_natCast]; first | rw [HAT.out] | rw [HCT.out]))
        obtain ⟨X, _, F, HF, HG⟩ := Fam.fam w
        have hc1 : ∀ z, (F z).cell? ⟨g, off + p * 4, none⟩ = some (.int .i64 (at' L p).hand) := fun z => ((HF.out z).cell (p := ⟨g, off + p * 4, none⟩) hg).trans a0
        have hc2 : ∀ z, (F z).cell? ⟨g, off + q * 4, none⟩ = some (.int .i64 (at' L q).hand) := fun z => ((HF.out z).cell (p := ⟨g, off + q * 4, none⟩) hg).trans b0
        clear a0 b0
        refine Fam.region (F := F) (by kernel_rfl) (by kernel_rfl) (HG.out _ (Below.refl _ w).drew) ?_
        repeat (go_big_quiet_step (first
          | (go_at_call 90; exact (HBW.out _ (Nat.lt_of_lt_of_le hg (HF.out _).size) (HR.out.below (HF.out _))).mono fun _ _ h => ⟨h.1, HG.out _ ((HF.out _).trans (h.2.mono (HF.out _).size))⟩)))
        refine wpQuiet_nil ?_
        intro w2 hw2
        obtain ⟨z, rfl⟩ := hw2
        have HB2 : Hid (Below w.heap.size w (F z)) := HF.out z
        go_wp2
        go_ret
        exact ⟨by rw [HT1.out]; rfl, HB2.out⟩
      · have hh1 : ((at' L p).hand == (at' L q).hand) = false := by simpa using hh
        have HT1 : Hid (doubledB L (p : Int) (q : Int) = false) := by show _ = _; rw [HT0.out]; simp [hh]
        clear hh HT0
        go_enter Try.func77, Try.ntmps77
        go_wp2_with (first | (go_at_call 46; refine (Lc.all _ _ _ _ h60).mono ?_; rintro e w' ⟨rfl, rfl⟩) | (go_at_call 64; refine (Base.has _ _ _).mono ?_; rintro e w' ⟨rfl, rfl⟩; rw [Int.toNat_natCast]; first | rw [HAT.out] | rw [HCT.out]))
        go_quiet (fail)
        go_wp2
        go_ret
        exact ⟨by rw [HT1.out]; rfl, Sg.below_drewN (Below.refl _ _) _⟩

/-- those found so far -/
theorem dbl_step {L : List K} {a : Int} (ha : isB L a = true) (n : Nat) (hn : n < L.length) (hl : laceB L = true) : dblS L a.toNat (n + 1) = if doubledB L a (n : Int) then withB (dblS L a.toNat n) n else dblS L a.toNat n := by
  have hb : isB L (n : Int) = true := by rw [isB_lace hl]; simp; omega
  unfold doubledB
  rw [ha, hb, Bool.true_and, Bool.true_and, Int.toNat_natCast]; rfl

set_option maxHeartbeats 1600000 in
theorem doubles (g off cap : Nat) (L : List K) (a : Int) (w : World) (hlc : laceB L = true) (ha : isB L a = true) (hg : g < w.heap.size) (hr : RdK w (some ⟨g, off, none⟩) L) :
    Calls Try.prog 62 #[.slice (some ⟨g, off, none⟩) L.length cap, .int .i64 a] w fun e w' => e = .returned (.int .i64 (dblS L a.toNat L.length)) ∧ Below w.heap.size w w' := by
  have h60 := ((Lc.lace_iff L).1 hlc).1
  go_enter Try.func62, Try.ntmps62
  go_wp2
  go_loopw [5, 9] (fun o i wr => ∃ j : Nat, j ≤ L.length ∧ i = .int .i64 j ∧ o = .int .i64 (dblS L a.toNat j) ∧ Hid (Below w.heap.size w wr)) (fun _ i _ => L.length - (intOf i).toNat)
  case atStart => exact ⟨0, by omega, rfl, rfl, Below.refl _ _⟩
  case round =>
    obtain ⟨j, hj, rfl, rfl, HB⟩ := hrel
    by_cases hlt : j < L.length
    · have HS : Hid (dblS L a.toNat (j + 1) = if doubledB L a (j : Int) then withB (dblS L a.toNat j) j else dblS L a.toNat j) := dbl_step ha j hlt hlc
      have hbd := dblS_bd L a.toNat j (by omega)
      have HW : Hid (Base.withI (dblS L a.toNat j) (j : Int) = withB (dblS L a.toNat j) j) := by
        show _ = _
        unfold Base.withI
        rw [(Base.okB_iff _).2 hbd, (Base.inB_iff _).2 ⟨by omega, by omega⟩]; simp
      have hg1 : g < wr.heap.size := Nat.lt_of_lt_of_le hg HB.out.size
      have hcall := doubled g off cap L a (j : Int) wr hlc hg1 (hr.below HB.out)
      clear hbd
      generalize dblS L a.toNat j = x at HS HW ⊢
      go_wp2_with fail
      refine hcall.mono ?_
      rintro e w1 ⟨rfl, hb1⟩
      have HB1 : Hid (Below w.heap.size w w1) := HB.out.trans (hb1.mono HB.out.size)
      clear hcall hb1 HB hg1
      cases hd : doubledB L a (j : Int)
      · have HD : Hid (dblS L a.toNat (j + 1) = x) := by show _ = _; rw [HS.out, hd]; rfl
        clear hd HS HW
        go_wp2
        go_roundw
        case rel => exact ⟨j + 1, by omega, by go_num, by rw [HD.out], HB1⟩
        case measure => simp [intOf]; omega
      · have HD : Hid (dblS L a.toNat (j + 1) = withB x j) := by show _ = _; rw [HS.out, hd]; rfl
        clear hd HS
        go_wp2_with (go_at_call 66; refine (Base.withM _ _ _).mono ?_; rintro e w' ⟨rfl, rfl⟩; rw [HW.out])
        go_roundw
        case rel => exact ⟨j + 1, by omega, by go_num, by rw [HD.out], HB1⟩
        case measure => simp [intOf]; omega
    · obtain rfl : j = L.length := by omega
      go_wp2
      go_ret
      exact ⟨rfl, HB.out⟩

end Db
end Go.Proofs.Ytdcjjopeobnpgab

namespace Go.Proofs.Ytdcjjopeobnpgab
open Go.RowKit
set_option maxRecDepth 100000
namespace Ak
open Kn (K okK)
open Bit (bit withB memTo)
open Lc (at' RdK WordsOk laceB setB)
open Sg (isB bel)

/-- those of a list that are wanted, as a set -/
def onlyF (P : Int → Bool) (l : List Int) : Int := l.foldl (fun x a => if P a then withB x a.toNat else x) 0

theorem onlyF_snoc (P : Int → Bool) (l : List Int) (a : Int) : onlyF P (l ++ [a]) = if P a then withB (onlyF P l) a.toNat else onlyF P l := by
  unfold onlyF; rw [List.foldl_append]; rfl

theorem onlyF_bits (P : Int → Bool) (l : List Int) (hl : ∀ a ∈ l, 0 ≤ a ∧ a < 60) : (0 ≤ onlyF P l ∧ onlyF P l < 1152921504606846976) ∧ ∀ j : Nat, bit (onlyF P l) j = true ↔ ((j : Int) ∈ l ∧ P (j : Int) = true) := by
  suffices H : ∀ (l : List Int) (x : Int), (∀ a ∈ l, 0 ≤ a ∧ a < 60) → (0 ≤ x ∧ x < 1152921504606846976) →
      (0 ≤ l.foldl (fun x a => if P a then withB x a.toNat else x) x ∧ l.foldl (fun x a => if P a then withB x a.toNat else x) x < 1152921504606846976) ∧
      ∀ j : Nat, bit (l.foldl (fun x a => if P a then withB x a.toNat else x) x) j = true ↔ (bit x j = true ∨ ((j : Int) ∈ l ∧ P (j : Int) = true)) by
    have := H l 0 hl ⟨Int.le_refl 0, by decide⟩
    refine ⟨this.1, fun j => ?_⟩
    rw [show onlyF P l = l.foldl (fun x a => if P a then withB x a.toNat else x) 0 from rfl, this.2 j, Lc.bit_zero]
    simp
  intro l
  induction l with
  | nil => intro x _ hx; exact ⟨hx, fun j => by simp⟩
  | cons a l ih =>
    intro x hl hx
    have ha := hl a (by simp)
    obtain ⟨p, rfl⟩ := Int.eq_ofNat_of_zero_le ha.1
    simp only [List.foldl_cons]
    cases hn : P (p : Int)
    · rw [if_neg (by simp)]
      have := ih x (fun a h => hl a (by simp [h])) hx
      refine ⟨this.1, fun j => ?_⟩
      rw [this.2 j]
      constructor
      · rintro (h | ⟨h1, h2⟩)
        · exact .inl h
        · exact .inr ⟨by simp [h1], h2⟩
      · rintro (h | ⟨h1, h2⟩)
        · exact .inl h
        · rcases List.mem_cons.1 h1 with e | e
          · rw [e, hn] at h2; exact Bool.noConfusion h2
          · exact .inr ⟨e, h2⟩
    · rw [if_pos rfl, Int.toNat_natCast]
      have := ih (withB x p) (fun a h => hl a (by simp [h])) (Bit.withB_bd x hx.1 hx.2 p (by omega))
      refine ⟨this.1, fun j => ?_⟩
      rw [this.2 j, Bit.bit_withB x hx.1]
      constructor
      · rintro (h | ⟨h1, h2⟩)
        · rw [Bool.or_eq_true, decide_eq_true_eq] at h
          rcases h with h | h
          · subst h; exact .inr ⟨by simp, hn⟩
          · exact .inl h
        · exact .inr ⟨by simp [h1], h2⟩
      · rintro (h | ⟨h1, h2⟩)
        · exact .inl (by rw [h]; simp)
        · rcases List.mem_cons.1 h1 with e | e
          · exact .inl (by rw [Bool.or_eq_true, decide_eq_true_eq]; exact .inl (by omega))
          · exact .inr ⟨e, h2⟩

theorem mem_memI {s : Int} {x : Int} (h : x ∈ Memb.memI s) : 0 ≤ x ∧ x < 60 := by
  unfold Memb.memI at h
  split at h
  · obtain ⟨j, hj, rfl, _⟩ := (Bit.mem_memTo s 60 x).1 h
    omega
  · exact absurd h (by simp)

theorem mem_bit {s : Int} (q0 : 0 ≤ s) (q1 : s < 1152921504606846976) (j : Nat) : (j : Int) ∈ Memb.memI s ↔ bit s j = true := by
  unfold Memb.memI
  rw [(Base.okB_iff s).2 ⟨q0, q1⟩, if_pos rfl, Bit.mem_memTo]
  constructor
  · rintro ⟨i, _, e, h⟩
    obtain rfl : j = i := by omega
    exact h
  · intro h
    refine ⟨j, ?_, rfl, h⟩
    apply Classical.byContradiction
    intro hn
    rw [Lc.bit_hi s 60 q0 (by omega) j (by omega)] at h
    exact Bool.noConfusion h

theorem bit_all {n : Nat} (hn : n ≤ 60) (k : Nat) : bit (2 ^ n - 1) k = decide (k < n) := by
  have hp := Lc.pow60 n hn
  have e : ((2 : Int) ^ n - 1) = ((2 ^ n - 1 : Nat) : Int) := by rw [Int.ofNat_sub Nat.one_le_two_pow]; simp
  rw [Bit.bit_testBit _ (by omega), e, Int.toNat_natCast, Nat.testBit_two_pow_sub_one]

theorem two_box (w : World) (k : Int) (f : Value) (t u : TypeId) : Below w.heap.size w ((w.alloc (.cells #[.int .i64 k] t)).alloc (.cells #[f] u)) ∧ ((w.alloc (.cells #[.int .i64 k] t)).alloc (.cells #[f] u)).cell? ⟨w.heap.size, 0, none⟩ = some (.int .i64 k) ∧ ((w.alloc (.cells #[.int .i64 k] t)).alloc (.cells #[f] u)).cell? ⟨w.heap.size + 1, 0, none⟩ = some f ∧ w.heap.size + 1 < ((w.alloc (.cells #[.int .i64 k] t)).alloc (.cells #[f] u)).heap.size := by
  have c1 := Sg.boxNew (w.alloc (.cells #[.int .i64 k] t)) f u
  simp only [World.size_alloc] at c1
  exact ⟨((Below.refl _ _).alloc (Nat.le_refl _) _).alloc (by simp) _, Sg.boxCell _ (Sg.boxNew w (.int .i64 k) t).1, c1.1, by simp⟩

/-- the answer, or the one fixed answer -/
def askI (L : List K) (s k A : Int) : Int := if setB L s && isB L k then A else -1

end Ak
end Go.Proofs.Ytdcjjopeobnpgab

namespace Go.Proofs.Ytdcjjopeobnpgab
open Go.RowKit
set_option maxRecDepth 100000
namespace Nd
open Kn (K okK)
open Bit (bit withB memTo)
open Lc (at' RdK WordsOk laceB setB amongI HandsOk)
open Sg (isB bel belows seesB metI)
open Db (dblN dblS doubledB)

theorem infoSet : (Try.prog.info? 49).map (fun i => (i.zero, i.size, i.bytes)) = some (some (.int .i64 0), 1, 8) := by kernel_rfl

/-- two rows of four hands are compared -/
theorem eqHand (a0 a1 a2 a3 b0 b1 b2 b3 : Int) (W : World) : (binOp .eql 83 (.agg #[.int .i64 a0, .int .i64 a1, .int .i64 a2, .int .i64 a3]) (.agg #[.int .i64 b0, .int .i64 b1, .int .i64 b2, .int .i64 b3])).run Try.prog W = .ok (.bool (a0 == b0 && (a1 == b1 && (a2 == b2 && a3 == b3)))) W := by
  obtain ⟨i0, hi, hz0, hz1, hz2⟩ := info_parts infoSet
  rw [run_eql_struct, run_equalIn_array W 9999 _ _ (by kernel_rfl : Try.prog.underlying 83 = some (.array 4 49)) hi]
  rw [show List.range 4 = [0, 1, 2, 3] from rfl, show Try.prog.cellsOf 49 = 1 from by kernel_rfl]
  have hu : Try.prog.underlying 49 = some (.int .i64) := by kernel_rfl
  have hp : ∀ (xs : Array Value) (i : Nat) (v : Value), xs[i]? = some v → (part 49 xs i).run Try.prog W = .ok v W := fun xs i v h => by
    simp [part, isAgg, run_underlying hu, h]
  have he : ∀ x y : Int, (Op.equalIn 9999 49 (.int .i64 x) (.int .i64 y)).run Try.prog W = .ok (x == y) W := fun x y => run_equalIn_int W 9998 49 .i64 .i64 x y hu
  simp only [Op.eqItems, Sem.run_bind, Nat.mul_one]
  rw [hp #[.int .i64 a0, .int .i64 a1, .int .i64 a2, .int .i64 a3] 0 (.int .i64 a0) rfl, Result.andThen_ok, hp #[.int .i64 b0, .int .i64 b1, .int .i64 b2, .int .i64 b3] 0 (.int .i64 b0) rfl, Result.andThen_ok, he, Result.andThen_ok]
  by_cases h0 : a0 = b0
  · rw [show (a0 == b0) = true from by simpa using h0]
    simp only [Bool.not_true, Bool.false_eq_true, if_false, Sem.run_bind, Bool.true_and]
    rw [hp #[.int .i64 a0, .int .i64 a1, .int .i64 a2, .int .i64 a3] 1 (.int .i64 a1) rfl, Result.andThen_ok, hp #[.int .i64 b0, .int .i64 b1, .int .i64 b2, .int .i64 b3] 1 (.int .i64 b1) rfl, Result.andThen_ok, he, Result.andThen_ok]
    by_cases h1 : a1 = b1
    · rw [show (a1 == b1) = true from by simpa using h1]
      simp only [Bool.not_true, Bool.false_eq_true, if_false, Sem.run_bind, Bool.true_and]
      rw [hp #[.int .i64 a0, .int .i64 a1, .int .i64 a2, .int .i64 a3] 2 (.int .i64 a2) rfl, Result.andThen_ok, hp #[.int .i64 b0, .int .i64 b1, .int .i64 b2, .int .i64 b3] 2 (.int .i64 b2) rfl, Result.andThen_ok, he, Result.andThen_ok]
      by_cases h2 : a2 = b2
      · rw [show (a2 == b2) = true from by simpa using h2]
        simp only [Bool.not_true, Bool.false_eq_true, if_false, Sem.run_bind, Bool.true_and]
        rw [hp #[.int .i64 a0, .int .i64 a1, .int .i64 a2, .int .i64 a3] 3 (.int .i64 a3) rfl, Result.andThen_ok, hp #[.int .i64 b0, .int .i64 b1, .int .i64 b2, .int .i64 b3] 3 (.int .i64 b3) rfl, Result.andThen_ok, he, Result.andThen_ok]
        cases (a3 == b3) <;> simp
      · rw [show (a2 == b2) = false from by simpa using h2]; simp
    · rw [show (a1 == b1) = false from by simpa using h1]; simp
  · rw [show (a0 == b0) = false from by simpa using h0]; simp

/-- without all that is in d no hand has less: then nothing of it is in x -/
theorem hands_same {L : List K} (hl : laceB L = true) (x d : Int) (h0 : 0 ≤ x) (h1 : x < 1152921504606846976) (hx : ∀ i, bit x i = true → i < L.length) (h2 : 0 ≤ d) (h3 : d < 1152921504606846976) :
    (hf L x 0 L.length == hf L (bits .andNot .i64 x d) 0 L.length && (hf L x 1 L.length == hf L (bits .andNot .i64 x d) 1 L.length && (hf L x 2 L.length == hf L (bits .andNot .i64 x d) 2 L.length && hf L x 3 L.length == hf L (bits .andNot .i64 x d) 3 L.length))) = (bits .and .i64 x d == 0) := by
  have h60 := ((Lc.lace_iff L).1 hl).1
  have hz := Lc.and_zero_iff x d h0 (by omega) h2 (by omega)
  rw [Bool.eq_iff_iff]
  simp only [Bool.and_eq_true, beq_iff_eq]
  constructor
  · rintro ⟨e0, e1, e2, e3⟩
    apply Classical.byContradiction
    intro hne
    obtain ⟨i, hi, hd⟩ := hz.1 hne
    have hil := hx i hi
    have hh := Lc.lace_hands hl _ (Lc.at_mem L i hil)
    have key : ∀ h : Int, (at' L i).hand = h → hf L x h L.length = hf L (bits .andNot .i64 x d) h L.length → False := fun h hm e => by
      have q1 : bit (hf L x h L.length) i = true := by
        unfold hf
        rw [Lc.bit_among _ _ _ _ h60, decide_eq_true hil, hi]; simp [hm]
      rw [e] at q1
      unfold hf at q1
      rw [Lc.bit_among _ _ _ _ h60, Sg.bit_andNot x d h0 h1 h2 h3, hd] at q1
      simp at q1
    have hc : (at' L i).hand = 0 ∨ (at' L i).hand = 1 ∨ (at' L i).hand = 2 ∨ (at' L i).hand = 3 := by omega
    rcases hc with h | h | h | h
    · exact key 0 h e0
    · exact key 1 h e1
    · exact key 2 h e2
    · exact key 3 h e3
  · intro he
    have hb := Sg.andNot_bd' x d h0 h1
    have : bits .andNot .i64 x d = x := Lc.eq_of_bits _ _ hb.1 h0 fun i => by
      rw [Sg.bit_andNot x d h0 h1 h2 h3]
      cases hxi : bit x i
      · rfl
      · cases hdi : bit d i
        · rfl
        · exact absurd he (hz.2 ⟨i, hxi, hdi⟩)
    rw [this]
    exact ⟨rfl, rfl, rfl, rfl⟩

/-- all that speaks against b -/
def agI (L : List K) (b : Int) : Int := if isB L b then dblS L b.toNat L.length else 0

theorem ag_bd {L : List K} (h60 : L.length ≤ 60) (b : Int) : 0 ≤ agI L b ∧ agI L b < 1152921504606846976 := by
  unfold agI
  split
  · exact Db.dblS_bd L _ _ h60
  · exact ⟨Int.le_refl 0, by decide⟩

/-- what a nod asks -/
theorem nods_sees {L : List K} {a b : Int} (hs : seesB L a b = true) : nodsB L a b = (bits .and .i64 (metI L a) (agI L b) == 0) := by
  unfold Sg.seesB at hs
  simp only [Bool.and_eq_true] at hs
  obtain ⟨ha, hb, hbit⟩ := hs
  obtain ⟨a0, a1, _⟩ := Sg.isB_parts ha
  unfold nodsB nodN agI Sg.metI
  rw [ha, hb, hbit, if_pos ⟨a0, a1⟩]
  rfl
theorem nods_blind {L : List K} {a b : Int} (hs : seesB L a b = false) : nodsB L a b = false := by
  unfold Sg.seesB at hs
  unfold nodsB nodN
  cases ha : isB L a
  · rfl
  · cases hb : isB L b
    · rfl
    · rw [ha, hb] at hs
      simp only [Bool.true_and] at hs
      rw [hs]; rfl

theorem met_bd {L : List K} (h60 : L.length ≤ 60) (a : Int) : 0 ≤ metI L a ∧ metI L a < 1152921504606846976 := by
  unfold Sg.metI
  split
  · exact Sg.bel_bd L _ (by omega)
  · exact ⟨Int.le_refl 0, by decide⟩
theorem met_in {L : List K} (hl : laceB L = true) (a : Int) (i : Nat) (h : bit (metI L a) i = true) : i < L.length := by
  unfold Sg.metI at h
  split at h
  · rename_i hc
    apply Classical.byContradiction
    intro hn
    rw [Db.bel_hi hl (by omega : a.toNat < L.length) (by omega)] at h
    exact Bool.noConfusion h
  · rw [Lc.bit_zero] at h; exact Bool.noConfusion h

/-- those of a list that nod to b, as a set -/
def nodF (L : List K) (b : Int) (l : List Int) : Int := l.foldl (fun x a => if nodsB L a b then withB x a.toNat else x) 0

theorem nodF_snoc (L : List K) (b : Int) (l : List Int) (a : Int) : nodF L b (l ++ [a]) = if nodsB L a b then withB (nodF L b l) a.toNat else nodF L b l := by
  unfold nodF; rw [List.foldl_append]; rfl

theorem nodF_bits (L : List K) (b : Int) (l : List Int) (hl : ∀ a ∈ l, 0 ≤ a ∧ a < 60) : (0 ≤ nodF L b l ∧ nodF L b l < 1152921504606846976) ∧ ∀ j : Nat, bit (nodF L b l) j = true ↔ ((j : Int) ∈ l ∧ nodsB L (j : Int) b = true) := by
  suffices H : ∀ (l : List Int) (x : Int), (∀ a ∈ l, 0 ≤ a ∧ a < 60) → (0 ≤ x ∧ x < 1152921504606846976) →
      (0 ≤ l.foldl (fun x a => if nodsB L a b then withB x a.toNat else x) x ∧ l.foldl (fun x a => if nodsB L a b then withB x a.toNat else x) x < 1152921504606846976) ∧
      ∀ j : Nat, bit (l.foldl (fun x a => if nodsB L a b then withB x a.toNat else x) x) j = true ↔ (bit x j = true ∨ ((j : Int) ∈ l ∧ nodsB L (j : Int) b = true)) by
    have := H l 0 hl ⟨Int.le_refl 0, by decide⟩
    refine ⟨this.1, fun j => ?_⟩
    rw [show nodF L b l = l.foldl (fun x a => if nodsB L a b then withB x a.toNat else x) 0 from rfl, this.2 j, Lc.bit_zero]
    simp
  intro l
  induction l with
  | nil => intro x _ hx; exact ⟨hx, fun j => by simp⟩
  | cons a l ih =>
    intro x hl hx
    have ha := hl a (by simp)
    obtain ⟨p, rfl⟩ := Int.eq_ofNat_of_zero_le ha.1
    simp only [List.foldl_cons]
    cases hn : nodsB L (p : Int) b
    · rw [if_neg (by simp)]
      have := ih x (fun a h => hl a (by simp [h])) hx
      refine ⟨this.1, fun j => ?_⟩
      rw [this.2 j]
      constructor
      · rintro (h | ⟨h1, h2⟩)
        · exact .inl h
        · exact .inr ⟨by simp [h1], h2⟩
      · rintro (h | ⟨h1, h2⟩)
        · exact .inl h
        · rcases List.mem_cons.1 h1 with e | e
          · rw [e, hn] at h2; exact Bool.noConfusion h2
          · exact .inr ⟨e, h2⟩
    · rw [if_pos rfl, Int.toNat_natCast]
      have := ih (withB x p) (fun a h => hl a (by simp [h])) (Bit.withB_bd x hx.1 hx.2 p (by omega))
      refine ⟨this.1, fun j => ?_⟩
      rw [this.2 j, Bit.bit_withB x hx.1]
      constructor
      · rintro (h | ⟨h1, h2⟩)
        · rw [Bool.or_eq_true, decide_eq_true_eq] at h
          rcases h with h | h
          · subst h; exact .inr ⟨by simp, hn⟩
          · exact .inl h
        · exact .inr ⟨by simp [h1], h2⟩
      · rintro (h | ⟨h1, h2⟩)
        · exact .inl (by rw [h]; simp)
        · rcases List.mem_cons.1 h1 with e | e
          · exact .inl (by rw [Bool.or_eq_true, decide_eq_true_eq]; exact .inl (by omega))
          · exact .inr ⟨e, h2⟩

theorem mem_memI {s : Int} {x : Int} (h : x ∈ Memb.memI s) : 0 ≤ x ∧ x < 60 := by
  unfold Memb.memI at h
  split at h
  · obtain ⟨j, hj, rfl, _⟩ := (Bit.mem_memTo s 60 x).1 h
    omega
  · exact absurd h (by simp)

theorem bit_and (a b : Int) (h1 : 0 ≤ a) (h2 : a < 9223372036854775808) (h3 : 0 ≤ b) (h4 : b < 9223372036854775808) (i : Nat) : bit (bits .and .i64 a b) i = (bit a i && bit b i) := by
  rw [Lc.i64_and a b h1 h2 h3 h4, Bit.bit_testBit _ (by omega), Int.toNat_natCast, Nat.testBit_and, ← Bit.bit_testBit _ h1, ← Bit.bit_testBit _ h3]

/-- of a set of the lace: the document's Nodders -/
theorem nodF_set {L : List K} {s b : Int} (hs : setB L s = true) (hb : isB L b = true) : nodF L b (Memb.memI s) = noddersI L s b := by
  obtain ⟨hl, q0, q1, qd, _, _⟩ := Lc.setB_parts hs
  have h60 := ((Lc.lace_iff L).1 hl).1
  have hF := nodF_bits L b (Memb.memI s) (fun a h => mem_memI h)
  have hN := nodS_bd L b.toNat L.length h60
  unfold noddersI
  rw [hs, hb]
  simp only [Bool.and_self, if_true]
  refine Lc.eq_of_bits _ _ hF.1.1 (by rw [Lc.i64_and s _ q0 (by omega) hN.1 (by omega)]; omega) fun j => ?_
  rw [Bool.eq_iff_iff, hF.2 j, bit_and s _ q0 (by omega) hN.1 (by omega), bit_nodS L b.toNat L.length h60, Bool.and_eq_true, Bool.and_eq_true, decide_eq_true_eq]
  have hj : (j : Int) ∈ Memb.memI s ↔ bit s j = true := by
    unfold Memb.memI
    rw [(Base.okB_iff s).2 ⟨q0, q1⟩, if_pos rfl]
    rw [Bit.mem_memTo]
    constructor
    · rintro ⟨i, _, e, h⟩
      obtain rfl : j = i := by omega
      exact h
    · intro h
      refine ⟨j, ?_, rfl, h⟩
      apply Classical.byContradiction
      intro hn
      rw [Lc.bit_hi s L.length q0 qd j (by omega)] at h
      exact Bool.noConfusion h
  rw [hj]
  constructor
  · rintro ⟨h1, h2⟩
    unfold nodsB at h2
    rw [Bool.and_eq_true, Bool.and_eq_true] at h2
    obtain ⟨_, p1, _⟩ := Sg.isB_parts h2.1
    exact ⟨h1, by omega, by have := h2.2.2; rwa [Int.toNat_natCast] at this⟩
  · rintro ⟨h1, h2, h3⟩
    refine ⟨h1, ?_⟩
    unfold nodsB
    rw [hb, Int.toNat_natCast, h3, Db.isB_lace hl]
    simp; omega

/-- of one alone: the document's Nods -/
theorem nodF_one (L : List K) (h60 : L.length ≤ 60) (a b : Int) : (Base.okB (nodF L b (Memb.memI (Sg.oneI a))) && (Base.inB a && bit (nodF L b (Memb.memI (Sg.oneI a))) a.toNat)) = nodsB L a b := by
  have hF := nodF_bits L b (Memb.memI (Sg.oneI a)) (fun a h => mem_memI h)
  rw [(Base.okB_iff _).2 hF.1, Bool.true_and]
  by_cases h : 0 ≤ a ∧ a < 60
  · rw [(Base.inB_iff a).2 h, Bool.true_and]
    obtain ⟨p, rfl⟩ := Int.eq_ofNat_of_zero_le h.1
    rw [Int.toNat_natCast, Bool.eq_iff_iff, hF.2 p]
    refine ⟨fun q => q.2, fun q => ⟨?_, q⟩⟩
    unfold Memb.memI
    rw [(Base.okB_iff _).2 (Sg.oneI_bd _), if_pos rfl]
    exact (Bit.mem_memTo _ _ _).2 ⟨p, by omega, rfl, (Sg.bit_oneI _ p).2 ⟨rfl, by omega⟩⟩
  · have : Base.inB a = false := by
      cases hb : Base.inB a
      · rfl
      · exact absurd ((Base.inB_iff a).1 hb) h
    rw [this, Bool.false_and]
    symm
    rw [Bool.eq_false_iff]
    intro hn
    unfold nodsB at hn
    rw [Bool.and_eq_true] at hn
    obtain ⟨a0, a1, _⟩ := Sg.isB_parts hn.1
    exact h ⟨a0, by omega⟩

theorem not_dbl {L : List K} {a : Int} (ha : isB L a = false) (b : Int) : doubledB L a b = false := by unfold Db.doubledB; rw [ha]; rfl

set_option maxHeartbeats 1600000 in
theorem doublesAny (g off cap : Nat) (L : List K) (a : Int) (w : World) (hlc : laceB L = true) (hg : g < w.heap.size) (hr : RdK w (some ⟨g, off, none⟩) L) :
    Calls Try.prog 62 #[.slice (some ⟨g, off, none⟩) L.length cap, .int .i64 a] w fun e w' => e = .returned (.int .i64 (agI L a)) ∧ Below w.heap.size w w' := by
  cases ha : isB L a
  · have HT : Hid (agI L a = 0) := by show _ = _; unfold agI; rw [ha]; rfl
    have h60 := ((Lc.lace_iff L).1 hlc).1
    rw [HT.out]
    go_enter Try.func62, Try.ntmps62
    go_wp2
    go_loopw [5, 9] (fun o i wr => ∃ j : Nat, j ≤ L.length ∧ i = .int .i64 j ∧ o = .int .i64 0 ∧ Hid (Below w.heap.size w wr)) (fun _ i _ => L.length - (intOf i).toNat)
    case atStart => exact ⟨0, by omega, rfl, rfl, Below.refl _ _⟩
    case round =>
      obtain ⟨j, hj, rfl, rfl, HB⟩ := hrel
      by_cases hlt : j < L.length
      · have hg1 : g < wr.heap.size := Nat.lt_of_lt_of_le hg HB.out.size
        have hcall := Db.doubled g off cap L a (j : Int) wr hlc hg1 (hr.below HB.out)
        rw [not_dbl ha] at hcall
        go_wp2_with fail
        refine hcall.mono ?_
        rintro e w1 ⟨rfl, hb1⟩
        have HB1 : Hid (Below w.heap.size w w1) := HB.out.trans (hb1.mono HB.out.size)
        clear hcall hb1 HB hg1
        go_wp2
        go_roundw
        case rel => exact ⟨j + 1, by omega, by go_num, rfl, HB1⟩
        case measure => simp [intOf]; omega
      · obtain rfl : j = L.length := by omega
        go_wp2
        go_ret
        exact ⟨rfl, HB.out⟩
  · have HT : Hid (agI L a = dblS L a.toNat L.length) := by show _ = _; unfold agI; rw [ha]; rfl
    rw [HT.out]
    exact Db.doubles g off cap L a w hlc ha hg hr

set_option maxHeartbeats 1600000 in
theorem nodders (g off cap : Nat) (L : List K) (s b : Int) (w : World) (hlc : laceB L = true) (hg : g < w.heap.size) (hr : RdK w (some ⟨g, off, none⟩) L) :
    Calls Try.prog 45 #[.slice (some ⟨g, off, none⟩) L.length cap, .int .i64 s, .int .i64 b] w fun e w' => e = .returned (.int .i64 (nodF L b (Memb.memI s))) ∧ Below w.heap.size w w' := by
  have HLC : Hid (laceB L = true) := hlc
  have h60 := ((Lc.lace_iff L).1 hlc).1
  have hag := ag_bd h60 b
  clear hlc
  go_enter Try.func45, Try.ntmps45
  go_wp2_with fail
  refine (doublesAny g off cap L b _ HLC.out hg hr).mono ?_
  rintro e w1 ⟨rfl, hb1⟩
  generalize hag' : agI L b = ag at hag ⊢
  have HAG : Hid (agI L b = ag) := hag'
  clear hag'
  go_wp2_with fail
  refine (Memb.picked s _).mono ?_
  rintro e w2 ⟨ao, ca, rfl, hown, hb2⟩
  have hrd := Lst.own_rd hown
  have HBO : Hid (∀ c, ao = some ⟨c, 0, none⟩ → c < w2.heap.size) := fun c e => by subst e; exact (World.ownsRow.lt hown c rfl).2
  have hle : (Memb.memI s).length ≤ 60 := by unfold Memb.memI; split; exact Bit.memTo_le s 60; simp
  have HI : Hid (∀ i ∈ Memb.memI s, 0 ≤ i ∧ i < 60) := fun i h => mem_memI h
  have HB2 : Hid (Below w.heap.size w w2) := hb1.trans (hb2.mono hb1.size)
  clear hown hb1 hb2
  generalize hml : Memb.memI s = l at hrd hle HI ⊢
  have HML : Hid (Memb.memI s = l) := hml
  clear hml
  have hg2 : g < w2.heap.size := Nat.lt_of_lt_of_le hg HB2.out.size
  have HR2 : Hid (RdK w2 (some ⟨g, off, none⟩) L) := hr.below HB2.out
  have HH : Hid (HandsOk L) := Lc.lace_hands HLC.out
  go_wp2
  go_loopw [8, 19] (fun o i wr => ∃ j : Nat, j ≤ l.length ∧ i = .int .i64 j ∧ o = .int .i64 (nodF L b (l.take j)) ∧ Hid (Below w2.heap.size w2 wr)) (fun _ i _ => l.length - (intOf i).toNat)
  case atStart => exact ⟨0, by omega, rfl, rfl, Below.refl _ _⟩
  case round =>
    obtain ⟨j, hj, rfl, rfl, HB⟩ := hrel
    by_cases hlt : j < l.length
    · rcases hrd with hrd | ⟨bb, rfl, hcell⟩
      · rw [hrd] at hlt; simp at hlt
      have hbb := HBO.out bb rfl
      have cj := (HB.out.cell (p := ⟨bb, j, none⟩) hbb).trans (hcell j hlt)
      have hx := HI.out (l.getD j 0) (by simp [List.getD, List.getElem?_eq_getElem hlt])
      have hF := (nodF_bits L b (l.take j) (fun a h => HI.out a (List.mem_of_mem_take h))).1
      have HS : Hid (nodF L b (l.take (j + 1)) = if nodsB L (l.getD j 0) b then withB (nodF L b (l.take j)) (l.getD j 0).toNat else nodF L b (l.take j)) := by
        show _ = _
        rw [Lc.take_snocI l j hlt, nodF_snoc]
      generalize l.getD j 0 = x at cj hx HS
      generalize nodF L b (l.take j) = fo at hF HS ⊢
      have HT : Hid ((Base.okB (metI L x) && (Base.inB b && bit (metI L x) b.toNat)) = seesB L x b) := Sg.met_sees HLC.out x b
      have hmb := met_bd h60 x
      have hok : Base.okB (metI L x) = true := (Base.okB_iff _).2 hmb
      have hok2 : Base.okB (bits .andNot .i64 (metI L x) ag) = true := (Base.okB_iff _).2 (Sg.andNot_bd' _ _ hmb.1 hmb.2)
      have HSM : Hid (_) := hands_same HLC.out (metI L x) ag hmb.1 hmb.2 (met_in HLC.out x) hag.1 hag.2
      have hgr : g < wr.heap.size := Nat.lt_of_lt_of_le hg2 HB.out.size
      have HHF : Hid (∀ (W : World) (y : Int), Below w2.heap.size w2 W → Base.okB y = true → Calls Try.prog 65 #[.slice (some ⟨g, off, none⟩) L.length cap, .int .i64 y] W fun e w' => e = .returned (.agg #[.int .i64 (hf L y 0 L.length), .int .i64 (hf L y 1 L.length), .int .i64 (hf L y 2 L.length), .int .i64 (hf L y 3 L.length)]) ∧ Below w2.heap.size w2 w') := fun W y hW hy => by
        refine (handfulsOf g off cap L y W h60 hy HH.out (HR2.out.below hW)).mono ?_
        rintro e w' ⟨h1, h2⟩
        exact ⟨h1, hW.trans (h2.mono hW.size)⟩
      have hcall := Sg.below g off cap L x wr HLC.out hgr (HR2.out.below HB.out)
      clear hcell hgr hmb
      go_wp2_with fail
      refine hcall.mono ?_
      rintro e w3 ⟨rfl, hb3⟩
      have HB3 : Hid (Below w2.heap.size w2 w3) := HB.out.trans (hb3.mono HB.out.size)
      clear hcall hb3 HB cj
      cases hs : seesB L x b
      · have HD : Hid (nodF L b (l.take (j + 1)) = fo) := by show _ = _; rw [HS.out, nods_blind hs]; rfl
        have HT2 : Hid ((Base.okB (metI L x) && (Base.inB b && bit (metI L x) b.toNat)) = false) := HT.out.trans hs
        clear hs HT HS HSM hok hok2
        generalize metI L x = sn at HT2 ⊢
        go_wp2_with (go_at_call 64; refine (Base.has _ _ _).mono ?_; rintro e w' ⟨rfl, rfl⟩; rw [HT2.out])
        go_roundw
        case rel => exact ⟨j + 1, by omega, by go_num, by rw [HD.out], HB3⟩
        case measure => simp [intOf]; omega
      · have HN : Hid (nodsB L x b = (bits .and .i64 (metI L x) ag == 0)) := by show _ = _; rw [nods_sees hs, HAG.out]
        have HT2 : Hid ((Base.okB (metI L x) && (Base.inB b && bit (metI L x) b.toNat)) = true) := HT.out.trans hs
        clear hs HT
        generalize metI L x = sn at HT2 HN HSM hok hok2 ⊢
        generalize hy : bits .andNot .i64 sn ag = yy at HSM hok2
        have HY : Hid (bits .andNot .i64 sn ag = yy) := hy
        clear hy
        have hE := eqHand (hf L sn 0 L.length) (hf L sn 1 L.length) (hf L sn 2 L.length) (hf L sn 3 L.length) (hf L yy 0 L.length) (hf L yy 1 L.length) (hf L yy 2 L.length) (hf L yy 3 L.length)
        rw [HSM.out] at hE
        have HC1 : Hid (∀ W : World, Below w2.heap.size w2 W → Calls Try.prog 65 #[.slice (some ⟨g, off, none⟩) L.length cap, .int .i64 sn] W fun e w' => e = .returned (.agg #[.int .i64 (hf L sn 0 L.length), .int .i64 (hf L sn 1 L.length), .int .i64 (hf L sn 2 L.length), .int .i64 (hf L sn 3 L.length)]) ∧ Below w2.heap.size w2 w') := fun W hW => HHF.out W sn hW hok
        have HC2 : Hid (∀ W : World, Below w2.heap.size w2 W → Calls Try.prog 65 #[.slice (some ⟨g, off, none⟩) L.length cap, .int .i64 yy] W fun e w' => e = .returned (.agg #[.int .i64 (hf L yy 0 L.length), .int .i64 (hf L yy 1 L.length), .int .i64 (hf L yy 2 L.length), .int .i64 (hf L yy 3 L.length)]) ∧ Below w2.heap.size w2 w') := fun W hW => HHF.out W yy hW hok2
        clear HHF hok hok2 HSM
        generalize hf L sn 0 L.length = a0 at hE HC1
        generalize hf L sn 1 L.length = a1 at hE HC1
        generalize hf L sn 2 L.length = a2 at hE HC1
        generalize hf L sn 3 L.length = a3 at hE HC1
        generalize hf L yy 0 L.length = b0 at hE HC2
        generalize hf L yy 1 L.length = b1 at hE HC2
        generalize hf L yy 2 L.length = b2 at hE HC2
        generalize hf L yy 3 L.length = b3 at hE HC2
        have HW : Hid (Base.withI fo x = withB fo x.toNat) := by
          show _ = _
          unfold Base.withI
          rw [(Base.okB_iff _).2 hF, (Base.inB_iff _).2 hx]; simp
        go_wp2_with (first | (go_at_call 64; refine (Base.has _ _ _).mono ?_; rintro e w' ⟨rfl, rfl⟩; rw [HT2.out]) | fail)
        refine (HC1.out _ HB3.out).mono ?_
        rintro e w4 ⟨rfl, hb4⟩
        have HB4 : Hid (Below w2.heap.size w2 w4) := hb4
        clear hb4 HB3 HC1 HT2
        go_wp2_with fail
        rw [HY.out]
        refine (HC2.out _ HB4.out).mono ?_
        rintro e w5 ⟨rfl, hb5⟩
        have HB5 : Hid (Below w2.heap.size w2 w5) := hb5
        clear hb5 HB4 HC2
        cases hz : (bits .and .i64 sn ag == 0)
        · have HD : Hid (nodF L b (l.take (j + 1)) = fo) := by show _ = _; rw [HS.out, HN.out, hz]; rfl
          rw [hz] at hE
          clear hz HN HS
          go_wp2
          go_roundw
          case rel => exact ⟨j + 1, by omega, by go_num, by rw [HD.out], HB5⟩
          case measure => simp [intOf]; omega
        · have HD : Hid (nodF L b (l.take (j + 1)) = withB fo x.toNat) := by show _ = _; rw [HS.out, HN.out, hz]; rfl
          rw [hz] at hE
          clear hz HN HS
          go_wp2_with (go_at_call 66; refine (Base.withM _ _ _).mono ?_; rintro e w' ⟨rfl, rfl⟩; rw [HW.out])
          go_roundw
          case rel => exact ⟨j + 1, by omega, by go_num, by rw [HD.out], HB5⟩
          case measure => simp [intOf]; omega
    · obtain rfl : j = l.length := by omega
      have e : l.take l.length = l := List.take_length
      rw [e]
      have HBE : Hid (Below w.heap.size w wr) := HB2.out.trans (HB.out.mono HB2.out.size)
      clear HB HB2
      go_wp2
      go_ret
      exact ⟨by rw [HML.out]; rfl, HBE.out⟩

end Nd
end Go.Proofs.Ytdcjjopeobnpgab
