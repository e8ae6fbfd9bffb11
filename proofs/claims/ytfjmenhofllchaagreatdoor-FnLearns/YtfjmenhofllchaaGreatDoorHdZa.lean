/-
  What the model answers for those that seal: for each knot of a lace the set of those below which three hands nodded to it; for lists of knots whose words have at most 2^40 bytes.
  What the model's drawing of a list of knots hands back, where the drawing of a room keeps its word: a list of at most 61 knots with short words, in memory of its own; it changes the cursor alone.
  What the model's drawing of any list of knots, of a set and of a number hands back, where the drawing of a room keeps its word: a list of at most 61 knots with short words, in memory of its own; it changes the cursor alone.
  What the model's drawings of a set and of a number hand back: a number; they change the cursor alone. And the drawings of the laws on laces, where the drawing of a room keeps its word.
  What the model's Below, Sees, Closed and Tips answer, in the words of SightM; for lists of knots whose words have at most 2^40 bytes.
  What the model's drawings for the laws on sight hand back, where the drawing of a room keeps its word.
  Plain mathematics of a walk back along the threads: it goes through the numbers from the last to the first, keeps the set of those reached, and adds a reached one's threads; what it meets is what hangs below the set; for laces.
  What the program's own HandsOf and AtRound answer, in the words of LaceM; for lists of at most 2^40 knots whose words have at most 2^40 bytes.
  What the program's own walk back along the threads does (an iterator over a lace in memory, whatever the loop's body is that keeps the lace), in the words of SightV; for laces.
  What the program's own Below, Sees, Closed and Tips answer, in the words of SightT; for lists of knots whose words have at most 2^40 bytes.
  What the law on closed sets and tips answers, where the drawing of a room keeps its word: true at every code.
  Plain mathematics of waves: three rounds each, and whose turn a wave is. No program in it.
  What the model's WaveOf, LeaderOf and Leads answer; for coins of at most a million numbers and lists of knots whose words have at most 2^40 bytes.
  What the model's drawings for the law on waves hand back, where the drawing of a room keeps its word.
  What the model's Doubled and DoublesOf answer: two knots of one hand neither of which sees the other; for lists of knots whose words have at most 2^40 bytes.
  Plain mathematics of nodding, for laces: who sees a knot and nothing that is doubled with it. No program in it.
  Plain mathematics of sealing, for laces: below whom three hands nodded. No program in it.
  Plain mathematics of agreement: in a lace in which all hands but one see all they tied before, whoever is firm is sealed by all of the next wave, each wave has one firm leader at most, and the chains of two firm ones go the same way. No program in it.
  Plain mathematics of leaders, of those that are firm and of chains: what is firm is on the chain of every later leader that is firm. No program in it.
  Plain mathematics of order, of what is fresh and of tales: a tale begins with the tale of each of its chain, and the tales of two firm ones go the same way. No program in it.
  What the model answers for those that nod: for each knot of a lace the set of those that see it and nothing that is doubled with it; for lists of knots whose words have at most 2^40 bytes.
-/
import Derived.Test.YtfjmenhofllchaaGreatDoorRoomXm
import Derived.Test.YtfjmenhofllchaaGreatDoorRoomG
import Derived.Test.YtfjmenhofllchaaGreatDoorDraw
import Derived.Test.YtfjmenhofllchaaGreatDoorDrawK
import Derived.Maps.AppendAt
import Derived.Test.YtfjmenhofllchaaGreatDoorSightS
import Derived.Test.YtfjmenhofllchaaGreatDoorSightN
import Derived.Test.YtfjmenhofllchaaGreatDoorLaceU
import Derived.Test.YtfjmenhofllchaaGreatDoorLaceE
import Derived.RangeFuncNested
import Derived.RangeFuncBound
import Derived.RangeFuncCalls
import Derived.RangeFuncLeaves
import Derived.Shelf.Abstract
import Derived.Shelf.RegionOpen
import Derived.WalkKit
import Derived.OwnWalkIn
import Derived.TacticsInMore
import Derived.LoopNIn
import Derived.LoopIn
import Derived.Test.YtfjmenhofllchaaGreatDoorRoomC
import Derived.Test.YtfjmenhofllchaaGreatDoorLaceA
import Derived.Test.YtfjmenhofllchaaGreatDoorDoubS
import Derived.Test.YtfjmenhofllchaaGreatDoorMemb
namespace Go.Proofs.YtfjmenhofllchaaGreatDoor
open Go.RowKit
set_option maxRecDepth 100000
namespace Rm
open Kn (K okK)
open Lc (at' RdK laceB flat OwnK cellsOf)
open Cur (At)

/-- the drawing of a room keeps its word -/
def DrawsRoom : Prop := ∀ (c : Nat) (a : Option Addr) (len cap : Nat) (w : World), len ≤ 4096 → At c a len cap w → Calls Tryz.prog 79 #[.pointer (some ⟨c, 0, none⟩)] w (DrawPost c a len cap w)

/-- how the drawing of a list ends -/
def ListPost (m : Nat) (c : Nat) (a : Option Addr) (len cap : Nat) (w : World) (e : Ending) (w' : World) : Prop := ∃ v L, e = .returned v ∧ OwnK 36 w.heap.size w' v L ∧ L.length ≤ m ∧ (∀ k ∈ L, k.word.size ≤ 13) ∧ At c a len cap w' ∧ w.grownBy w' (some c)
/-- how the drawing of a number ends -/
def NumPost (c : Nat) (a : Option Addr) (len cap : Nat) (w : World) (e : Ending) (w' : World) : Prop := ∃ x : Int, e = .returned (.int .i64 x) ∧ (-9223372036854775808 ≤ x ∧ x ≤ 9223372036854775807) ∧ At c a len cap w' ∧ w.grownBy w' (some c)

theorem word_lace {L : List K} (h : laceB L = true) : ∀ k ∈ L, k.word.size ≤ 13 := by
  intro k hk
  obtain ⟨i, hi, rfl⟩ := List.mem_iff_getElem.1 hk
  have := Lc.can_ok (Lc.lace_upTo h i hi)
  rw [Lc.at_get L i hi] at this
  simp only [okK, Bool.and_eq_true] at this
  have h5 := this.2.2.2.2
  simp only [Kn.okW, Bool.and_eq_true, decide_eq_true_eq] at h5
  omega

theorem ownK_base {t : TypeId} {B B' : Nat} {w : World} {v : Value} {L : List K} (h : OwnK t B w v L) (hB : B' ≤ B) : OwnK t B' w v L := by
  obtain ⟨⟨h1, h2 | ⟨g, cp, cur, e, hg, r⟩⟩, hv⟩ := h
  · exact ⟨⟨h1, .inl h2⟩, hv⟩
  · exact ⟨⟨h1, .inr ⟨g, cp, cur, e, Nat.le_trans hB hg, r⟩⟩, hv⟩

theorem ownK_grown {t : TypeId} {B c : Nat} {w w' : World} {v : Value} {L : List K} (h : OwnK t B w v L) (hg : w.grownBy w' (some c)) (hc : c < B) : OwnK t B w' v L :=
  ⟨own_fr (Fr.of_grown hg) h.1 (fun g e => by have := (World.ownsRow.lt h.1 g e).1; omega), h.2⟩

theorem lace_field (ao : Option Addr) (n cp : Nat) (v1 v2 v3 : Value) (W : World) : (Instr.field 107 (.agg #[.slice ao n cp, v1, v2, v3]) 0).run Tryz.prog W = .ok (.slice ao n cp) W := by kernel_rfl

set_option maxHeartbeats 800000 in
theorem l3Draw (HD : DrawsRoom) (c : Nat) (a : Option Addr) (len cap : Nat) (w : World) (hl : len ≤ 4096) (hc : At c a len cap w) :
    Calls Tryz.prog 116 #[.pointer (some ⟨c, 0, none⟩)] w (ListPost 60 c a len cap w) := by
  have hcw : c < w.heap.size := hc.lt
  have HDD : Hid DrawsRoom := HD
  clear HD
  go_enter Tryz.func116, Tryz.ntmps116
  go_wp2_with fail
  refine (HDD.out c a len cap _ hl hc).mono ?_
  rintro e w1 ⟨R, rfl, hP, hA1, hF1⟩
  obtain ⟨ao, cp, hlv, ho, hz, _, hrd, _⟩ := own_lace hP.own
  have h60 := ((Lc.lace_iff R.L).1 hP.lace).1
  have hwd := word_lace hP.lace
  have HWD : Hid (∀ k ∈ R.L, k.word.size ≤ 13) := hwd
  have HV : Hid (roV R = .agg #[.slice ao R.L.length cp, R.cv, .slice (some ⟨R.gh, 0, none⟩) 4 R.hc, .int .i64 R.bad]) := by show _ = _; unfold roV; rw [hlv]
  rw [HV.out]
  have hfl := lace_field ao R.L.length cp R.cv (.slice (some ⟨R.gh, 0, none⟩) 4 R.hc) (.int .i64 R.bad)
  clear hwd hlv hP
  go_wp2_with fail
  refine (l3CopyO ao cp R.L _ ho hz (by omega) hrd).mono ?_
  rintro e w2 ⟨v, rfl, hO, hb2⟩
  have HR : Hid (OwnK 36 w.heap.size w2 v R.L ∧ At c a len cap w2 ∧ w.grownBy w2 (some c)) := ⟨ownK_base hO hF1.size, hA1.below hb2, (hF1.trans (Fr.of_below hb2 (fun x => x = c)) (fun _ h _ => h)).grown⟩
  clear hO hb2 hA1 hF1 hrd
  go_wp2
  go_ret
  exact ⟨v, R.L, rfl, HR.out.1, h60, HWD.out, HR.out.2.1, HR.out.2.2⟩

set_option maxHeartbeats 400000 in
theorem l1From (c : Nat) (a : Option Addr) (len cap : Nat) (lo hi : Int) (w : World) (hl : len ≤ 4096) (h0 : -10 ≤ lo) (h1 : lo ≤ hi) (h2 : hi ≤ 100) (hc : At c a len cap w) :
    Calls Tryz.prog 80 #[.pointer (some ⟨c, 0, none⟩), .int .i64 lo, .int .i64 hi] w (NumPost c a len cap w) := by
  have hw1 : IntKind.i64.wrap (hi - lo) = hi - lo := by rw [IntKind.wrap_i64]; omega
  have hw2 : IntKind.i64.wrap (hi - lo + 1) = hi - lo + 1 := by rw [IntKind.wrap_i64]; omega
  go_enter Tryz.func80, Tryz.ntmps80
  go_wp2_with fail
  refine (Cur.below c a len cap _ _ hl (by omega) hc).mono ?_
  rintro e w1 ⟨x, rfl, hx0, hx1, hA1, hG1⟩
  have hx2 := hx1 (by omega)
  go_wp2
  go_ret
  exact ⟨_, rfl, by omega, hA1, hG1⟩

end Rm
end Go.Proofs.YtfjmenhofllchaaGreatDoor

namespace Go.Proofs.YtfjmenhofllchaaGreatDoor
open Go.RowKit
set_option maxRecDepth 100000
namespace Rm
open Kn (K okK)
open Lc (at' RdK laceB flat OwnK cellsOf)
open Cur (At)

theorem flat_set (L : List K) (j c : Nat) (hj : j < L.length) (hc : c < 4) (k' : K) (v : Value) (h : cellsOf k' = (cellsOf (at' L j)).set c v) : (flat L).set (j * 4 + c) v = flat (L.set j k') := by
  induction L generalizing j with
  | nil => simp at hj
  | cons k L ih =>
    have hk4 : (cellsOf k).length = 4 := rfl
    cases j with
    | zero =>
      show (cellsOf k ++ flat L).set (0 * 4 + c) v = cellsOf k' ++ flat L
      rw [List.set_append_left _ _ (by rw [hk4]; omega), h]
      simp [at']
    | succ j =>
      show (cellsOf k ++ flat L).set ((j + 1) * 4 + c) v = cellsOf k ++ flat (L.set j k')
      rw [List.set_append_right _ _ (by rw [hk4]; omega), hk4, show (j + 1) * 4 + c - 4 = j * 4 + c by omega, ih j (by simpa using hj) (by simpa [at'] using h)]

theorem grown_far {w w5 w6 : World} {c g : Nat} (h : w.grownBy w5 (some c)) (h2 : w5.grownBy w6 (some g)) (hg : w.heap.size ≤ g) : w.grownBy w6 (some c) :=
  ((Fr.of_grown h).trans (Fr.of_grown h2) (fun x hx hl => by omega)).grown

/-- a number of a knot is written -/
theorem list_put {m c : Nat} {a : Option Addr} {len cap : Nat} {w w5 : World} {g cp : Nat} {L : List K} {j f : Nat} {u : Value} {k' : K} (hc : At c a len cap w) (hO : OwnK 36 w.heap.size w5 (.slice (some ⟨g, 0, none⟩) L.length cp) L) (hm : L.length ≤ m) (hwd : ∀ k ∈ L, k.word.size ≤ 13)
    (hA : At c a len cap w5) (hG : w.grownBy w5 (some c)) (hj : j < L.length) (hf : f < 4) (hk : cellsOf k' = (cellsOf (at' L j)).set f u) (hw : k'.word.size ≤ 13) :
    ListPost m c a len cap w (.returned (.slice (some ⟨g, 0, none⟩) L.length cp)) (w5.setCell ⟨g, j * 4 + f, none⟩ u) := by
  have hgB := (World.ownsRow.lt hO.1 g rfl).1
  have hs := World.ownsRow.stored hO.1 (j * 4 + f) u
  rw [flat_set L j f hj hf k' u hk] at hs
  have hl : (L.set j k').length = L.length := by simp
  refine ⟨_, L.set j k', rfl, ⟨by rw [hl]; exact hs.1, by simp⟩, by rw [hl]; exact hm, fun k hkm => ?_, ?_, grown_far hG hs.2 hgB⟩
  · rcases List.mem_or_eq_of_mem_set hkm with h | h
    · exact hwd k h
    · rw [h]; exact hw
  · exact at_belowB hA (curB_of hc) ((Below.refl w.heap.size w5).grown hs.2 hG.size (fun x e => by cases e; exact hgB))

set_option maxHeartbeats 6400000 in
theorem l3DrawAny (HD : DrawsRoom) (c : Nat) (a : Option Addr) (len cap : Nat) (w : World) (hl : len ≤ 4096) (hc : At c a len cap w) :
    Calls Tryz.prog 82 #[.pointer (some ⟨c, 0, none⟩)] w (ListPost 61 c a len cap w) := by
  obtain ⟨i0, hi, hz0, hz1, hz2⟩ := info_parts Lc.infoKn
  have hcw : c < w.heap.size := hc.lt
  have HDD : Hid DrawsRoom := HD
  clear HD
  go_enter Tryz.func82, Tryz.ntmps82
  go_wp2_with fail
  refine (l3Draw HDD.out c a len cap _ hl hc).mono ?_
  rintro e w1 ⟨v, L, rfl, hO, h60, hwd, hA1, hG1⟩
  obtain ⟨g, cp, rfl, hcap, _, hbg, _, _, _⟩ := Lc.ownK_shape hO
  have HWD : Hid (∀ k ∈ L, k.word.size ≤ 13) := hwd
  have HO : Hid (OwnK 36 w.heap.size w1 (.slice (some ⟨g, 0, none⟩) L.length cp) L) := hO
  clear hO hwd
  by_cases hz : L.length = 0
  · obtain rfl : L = [] := List.eq_nil_of_length_eq_zero hz
    go_wp2
    go_ret
    exact ⟨_, [], rfl, HO.out, by simp, HWD.out, hA1, hG1⟩
  · have hz' : (0 : Int) < (L.length : Int) := by omega
    go_wp2_with fail
    refine (Cur.once c a len cap 10 _ hl (by omega) hA1).mono ?_
    rintro e w2 ⟨b, rfl, hA2, hG2⟩
    have HO2 : Hid (OwnK 36 w.heap.size w2 (.slice (some ⟨g, 0, none⟩) L.length cp) L) := ownK_grown HO.out hG2 hcw
    have G2 := Cur.grownBy_trans hG1 hG2
    clear HO hG1 hG2 hA1
    cases b
    · go_wp2
      go_ret
      exact ⟨_, L, rfl, HO2.out, by omega, HWD.out, hA2, G2⟩
    · go_wp2_with fail
      refine (Cur.below c a len cap (L.length : Int) _ hl (by omega) hA2).mono ?_
      rintro e w3 ⟨x, rfl, hx0, hx1, hA3, hG3⟩
      have hx2 := hx1 hz'
      obtain ⟨j, rfl⟩ := Int.eq_ofNat_of_zero_le hx0
      have hj : j < L.length := by omega
      have HO3 : Hid (OwnK 36 w.heap.size w3 (.slice (some ⟨g, 0, none⟩) L.length cp) L) := ownK_grown HO2.out hG3 hcw
      have G3 := Cur.grownBy_trans G2 hG3
      clear HO2 hG3 hA2 G2 hx1
      go_wp2_with fail
      refine (Cur.below c a len cap 4 _ hl (by omega) hA3).mono ?_
      rintro e w4 ⟨t, rfl, ht0, ht1, hA4, hG4⟩
      have ht2 := ht1 (by omega)
      have HO4 : Hid (OwnK 36 w.heap.size w4 (.slice (some ⟨g, 0, none⟩) L.length cp) L) := ownK_grown HO3.out hG4 hcw
      have HG4 : Hid (w.grownBy w4 (some c)) := Cur.grownBy_trans G3 hG4
      have HC : Hid (At c a len cap w) := hc
      clear HO3 hG4 hA3 G3 ht1 hc
      have htc : t = 0 ∨ t = 1 ∨ t = 2 ∨ t = 3 := by omega
      rcases htc with rfl | rfl | rfl | rfl
      · go_wp2_with fail
        refine (l1From c a len cap (-1) 4 _ hl (by omega) (by omega) (by omega) hA4).mono ?_
        rintro e w5 ⟨y, rfl, _, hA5, hG5⟩
        have hO5 := ownK_grown HO4.out hG5 hcw
        obtain ⟨_, _, e5, _, _, _, _, hrd5, hfz5⟩ := Lc.ownK_shape hO5
        simp only [Value.slice.injEq, Option.some.injEq, Addr.mk.injEq, and_true, true_and] at e5
        obtain ⟨rfl, rfl⟩ := e5
        have HF : Hid (ListPost 61 c a len cap w (.returned (.slice (some ⟨g, 0, none⟩) L.length cp)) (w5.setCell ⟨g, j * 4, none⟩ (.int .i64 y))) := list_put (f := 0) (k' := ⟨y, (at' L j).round, (at' L j).frm, (at' L j).word⟩) HC.out hO5 (by omega) HWD.out hA5 (Cur.grownBy_trans HG4.out hG5) hj (by omega) rfl (HWD.out (at' L j) (Lc.at_mem L j hj))
        obtain ⟨_, c0, c1, c2, _⟩ := hrd5.on j hj
        rw [Nat.zero_add] at c0 c1 c2
        have f5 := hfz5 (j * 4) (by omega)
        clear hO5 hrd5 hfz5 HO4 HG4 hA5 hG5
        go_wp2
        go_ret
        exact HF.out
      · go_wp2_with fail
        refine (Cur.below c a len cap 5 _ hl (by omega) hA4).mono ?_
        rintro e w5 ⟨y, rfl, _, _, hA5, hG5⟩
        have hO5 := ownK_grown HO4.out hG5 hcw
        obtain ⟨_, _, e5, _, _, _, _, hrd5, hfz5⟩ := Lc.ownK_shape hO5
        simp only [Value.slice.injEq, Option.some.injEq, Addr.mk.injEq, and_true, true_and] at e5
        obtain ⟨rfl, rfl⟩ := e5
        have HF : Hid (ListPost 61 c a len cap w (.returned (.slice (some ⟨g, 0, none⟩) L.length cp)) (w5.setCell ⟨g, j * 4 + 1, none⟩ (.int .i64 y))) := list_put (f := 1) (k' := ⟨(at' L j).hand, y, (at' L j).frm, (at' L j).word⟩) HC.out hO5 (by omega) HWD.out hA5 (Cur.grownBy_trans HG4.out hG5) hj (by omega) rfl (HWD.out (at' L j) (Lc.at_mem L j hj))
        obtain ⟨_, c0, c1, c2, _⟩ := hrd5.on j hj
        rw [Nat.zero_add] at c0 c1 c2
        have f5 := hfz5 (j * 4 + 1) (by omega)
        clear hO5 hrd5 hfz5 HO4 HG4 hA5 hG5
        go_wp2
        go_ret
        exact HF.out
      · go_wp2_with fail
        refine (Draw.drawSet c a len cap _ hl hA4).mono ?_
        rintro e w5 ⟨y, rfl, _, hA5, hG5⟩
        have hO5 := ownK_grown HO4.out hG5 hcw
        obtain ⟨_, _, e5, _, _, _, _, hrd5, hfz5⟩ := Lc.ownK_shape hO5
        simp only [Value.slice.injEq, Option.some.injEq, Addr.mk.injEq, and_true, true_and] at e5
        obtain ⟨rfl, rfl⟩ := e5
        have HF : Hid (ListPost 61 c a len cap w (.returned (.slice (some ⟨g, 0, none⟩) L.length cp)) (w5.setCell ⟨g, j * 4 + 2, none⟩ (.int .i64 y))) := list_put (f := 2) (k' := ⟨(at' L j).hand, (at' L j).round, y, (at' L j).word⟩) HC.out hO5 (by omega) HWD.out hA5 (Cur.grownBy_trans HG4.out hG5) hj (by omega) rfl (HWD.out (at' L j) (Lc.at_mem L j hj))
        obtain ⟨_, c0, c1, c2, _⟩ := hrd5.on j hj
        rw [Nat.zero_add] at c0 c1 c2
        have f5 := hfz5 (j * 4 + 2) (by omega)
        clear hO5 hrd5 hfz5 HO4 HG4 hA5 hG5
        go_wp2
        go_ret
        exact HF.out
      · go_wp2_with fail
        refine (Kn.draw c a len cap _ hl hA4).mono ?_
        rintro e w5 ⟨h, r, f, s, rfl, hs13, hA5, hG5⟩
        have HO5 : Hid (OwnK 36 w.heap.size w5 (.slice (some ⟨g, 0, none⟩) L.length cp) L) := ownK_grown HO4.out hG5 hcw
        have HG5 : Hid (w.grownBy w5 (some c)) := Cur.grownBy_trans HG4.out hG5
        clear HO4 HG4 hG5
        go_wp2_with (at_builtin; refine wpList_append_own _ rfl _ _ 24 rfl w.heap.size 36 i0 (.agg #[.int .i64 0, .int .i64 0, .int .i64 0, .string ⟨#[]⟩]) 4 40 Tryz.underlying24 hi hz0 hz1 hz2 rfl (by decide) _ _ _ rfl (HO5.out.1.alloc _) ⟨w5.heap.size, 0, none⟩ 1 1 (cellsOf ⟨h, r, f, s⟩) rfl rfl ?c1 ?c2 ?c3 ?c4 ?c5 ?_)
        case c1 => exact Lc.new_cells w5 ⟨h, r, f, s⟩ _
        case c2 => intro u hu; simp [cellsOf] at hu; rcases hu with rfl | rfl | rfl | rfl <;> rfl
        case c3 => unfold maxLen; omega
        case c4 => omega
        case c5 => have := HG5.out.size; simp; omega
        intro v' w6 hown' hgrow hnil
        have HF : Hid (ListPost 61 c a len cap w (.returned v') w6) := by
          have hg6 : w5.grownBy w6 (some g) := (World.grownBy_alloc w5 _ _).trans hgrow
          refine ⟨v', L ++ [⟨h, r, f, s⟩], rfl, ⟨?_, ?_⟩, by simp; omega, ?_, ?_, grown_far HG5.out hg6 hbg⟩
          · rw [List.length_append, Lc.flat_snoc]; exact hown'
          · intro e; simp [e] at hnil
          · intro k hk
            rcases List.mem_append.1 hk with hk | hk
            · exact HWD.out k hk
            · simp at hk; subst hk; exact hs13
          · exact at_belowB hA5 (curB_of HC.out) ((Below.refl w.heap.size w5).grown hg6 HG5.out.size (fun x e => by cases e; exact hbg))
        clear hown' hgrow hnil
        go_wp2
        go_ret
        exact HF.out

end Rm
end Go.Proofs.YtfjmenhofllchaaGreatDoor

namespace Go.Proofs.YtfjmenhofllchaaGreatDoor
open Go.RowKit
set_option maxRecDepth 100000
namespace Rm
open Kn (K okK)
open Lc (at' RdK laceB flat OwnK cellsOf)
open Cur (At)

theorem wrap_bd (x : Int) : -9223372036854775808 ≤ IntKind.i64.wrap x ∧ IntKind.i64.wrap x ≤ 9223372036854775807 := by rw [IntKind.wrap_i64]; omega

set_option maxHeartbeats 400000 in
theorem l1BitAny (i : Nat) (w : World) (h : i ≤ 62) : Calls Tryz.prog 50 #[.int .i64 (i : Int)] w fun e w' => ∃ x : Int, e = .returned (.int .i64 x) ∧ w = w' := by
  go_enter Tryz.func50, Tryz.ntmps50
  go_wp2
  go_ret
  exact ⟨_, rfl, rfl⟩

set_option maxHeartbeats 1600000 in
theorem l3DrawSet (c : Nat) (a : Option Addr) (len cap n : Nat) (w : World) (hl : len ≤ 4096) (hn : n ≤ 61) (hc : At c a len cap w) :
    Calls Tryz.prog 115 #[.pointer (some ⟨c, 0, none⟩), .int .i64 (n : Int)] w (NumPost c a len cap w) := by
  go_enter Tryz.func115, Tryz.ntmps115
  go_wp2_with fail
  refine (Cur.once c a len cap 8 _ hl (by omega) hc).mono ?_
  rintro e w1 ⟨b, rfl, hA1, hG1⟩
  cases b
  · go_wp2
    go_loopw [5, 6] (fun s i wr => ∃ (k : Nat) (x : Int), k ≤ n ∧ i = .int .i64 (k : Int) ∧ s = .int .i64 x ∧ Hid (-9223372036854775808 ≤ x ∧ x ≤ 9223372036854775807) ∧ Hid (At c a len cap wr) ∧ Hid (w.grownBy wr (some c))) (fun _ i _ => n - (intOf i).toNat)
    case atStart => exact ⟨0, 0, by omega, rfl, rfl, ⟨by omega, by omega⟩, hA1, hG1⟩
    case round =>
      obtain ⟨k, x, hk, rfl, rfl, HX, HA, HG⟩ := hrel
      by_cases hlt : k < n
      · have hki : (k : Int) < (n : Int) := by omega
        go_wp2_with fail
        refine (Cur.once c a len cap 3 _ hl (by omega) HA.out).mono ?_
        rintro e w2 ⟨b, rfl, hA2, hG2⟩
        have HA2 : Hid (At c a len cap w2) := hA2
        have HG2 : Hid (w.grownBy w2 (some c)) := Cur.grownBy_trans HG.out hG2
        clear hA2 hG2 HA HG
        cases b
        · go_wp2_with fail
          refine (l1BitAny k _ (by omega)).mono ?_
          rintro e w3 ⟨y, rfl, rfl⟩
          go_wp2
          go_roundw
          case rel => exact ⟨k + 1, _, by omega, by go_num, rfl, Draw.bits_bd _ _ _, HA2, HG2⟩
          case measure => simp [intOf]; omega
        · go_wp2
          go_roundw
          case rel => exact ⟨k + 1, x, by omega, by go_num, rfl, HX, HA2, HG2⟩
          case measure => simp [intOf]; omega
      · obtain rfl : k = n := by omega
        go_wp2
        go_ret
        exact ⟨x, rfl, HX.out, HA.out, HG.out⟩
  · go_wp2_with fail
    refine (Draw.drawSet c a len cap _ hl hA1).mono ?_
    rintro e w2 ⟨y, rfl, hy, hA2, hG2⟩
    have G2 := Cur.grownBy_trans hG1 hG2
    go_wp2
    go_ret
    exact ⟨y, rfl, hy, hA2, G2⟩

theorem new_four (W : World) (x : Int) (t : TypeId) (j : Nat) (hj : j < 4) : ∃ y : Int, (W.alloc (.cells #[.int .i64 (-1), .int .i64 x, .int .i64 60, .int .i64 0] t)).cell? ⟨W.heap.size, j, none⟩ = some (.int .i64 y) ∧ (y = -1 ∨ y = x ∨ y = 60 ∨ y = 0) := by
  match j, hj with
  | 0, _ => exact ⟨-1, by simp, .inl rfl⟩
  | 1, _ => exact ⟨x, by simp, .inr (.inl rfl)⟩
  | 2, _ => exact ⟨60, by simp, .inr (.inr (.inl rfl))⟩
  | 3, _ => exact ⟨0, by simp, .inr (.inr (.inr rfl))⟩

set_option maxHeartbeats 1600000 in
theorem l3DrawAt (c : Nat) (a : Option Addr) (len cap n : Nat) (w : World) (hl : len ≤ 4096) (hn : n ≤ 61) (hc : At c a len cap w) :
    Calls Tryz.prog 38 #[.pointer (some ⟨c, 0, none⟩), .int .i64 (n : Int)] w (NumPost c a len cap w) := by
  have hcw : c < w.heap.size := hc.lt
  have HT : Hid (∀ W : World, At c a len cap W → w.grownBy W (some c) → ∀ w', At c a len cap w' → (W.alloc (.cells #[.int .i64 (-1), .int .i64 (n : Int), .int .i64 60, .int .i64 0] 2)).grownBy w' (some c) → ∀ j, j < 4 → ∃ y : Int, w'.cell? ⟨W.heap.size, j, none⟩ = some (.int .i64 y) ∧ (-9223372036854775808 ≤ y ∧ y ≤ 9223372036854775807) ∧ w.grownBy w' (some c)) := by
    intro W hA hG w' hA' hG' j hj
    obtain ⟨y, hy, hyc⟩ := new_four W (n : Int) 2 j hj
    refine ⟨y, ((Fr.of_grown hG').cell (p := ⟨W.heap.size, j, none⟩) (by simp) (by have := hA.lt; simp; omega)).trans hy, by omega, Cur.grownBy_trans hG ((World.grownBy_alloc W _ _).trans hG')⟩
  have HGR : Hid (w.grownBy w (some c)) := ⟨rfl, rfl, rfl, Nat.le_refl _, fun _ _ _ => rfl⟩
  go_enter Tryz.func38, Tryz.ntmps38
  by_cases hz : n = 0
  · subst hz
    have hAl := Draw.at_alloc hc (.cells #[.int .i64 (-1), .int .i64 ((0 : Nat) : Int), .int .i64 60, .int .i64 0] 2)
    simp only [Int.ofNat_zero] at hAl HT
    go_wp2_with fail
    refine (Cur.below c a len cap 4 _ hl (by omega) hAl).mono ?_
    rintro e w1 ⟨x, rfl, hx0, hx1, hA1, hG1⟩
    have hx2 := hx1 (by omega)
    obtain ⟨j, rfl⟩ := Int.eq_ofNat_of_zero_le hx0
    obtain ⟨y, hy, hyb, hG⟩ := HT.out w hc HGR.out w1 hA1 hG1 j (by omega)
    have hj4 : (j : Int) < 4 := by omega
    clear hG1 hx1 HT
    go_wp2
    go_ret
    exact ⟨y, rfl, hyb, hA1, hG⟩
  · have hz' : (0 : Int) < (n : Int) := by omega
    go_wp2_with fail
    refine (Cur.once c a len cap 10 _ hl (by omega) hc).mono ?_
    rintro e w1 ⟨b, rfl, hA1, hG1⟩
    cases b
    · go_wp2_with fail
      refine (Cur.below c a len cap (n : Int) _ hl (by omega) hA1).mono ?_
      rintro e w2 ⟨x, rfl, hx0, hx1, hA2, hG2⟩
      have hx2 := hx1 hz'
      have G2 := Cur.grownBy_trans hG1 hG2
      go_wp2
      go_ret
      exact ⟨x, rfl, by omega, hA2, G2⟩
    · have hAl := Draw.at_alloc hA1 (.cells #[.int .i64 (-1), .int .i64 (n : Int), .int .i64 60, .int .i64 0] 2)
      go_wp2_with fail
      refine (Cur.below c a len cap 4 _ hl (by omega) hAl).mono ?_
      rintro e w2 ⟨x, rfl, hx0, hx1, hA2, hG2⟩
      have hx2 := hx1 (by omega)
      obtain ⟨j, rfl⟩ := Int.eq_ofNat_of_zero_le hx0
      obtain ⟨y, hy, hyb, hG⟩ := HT.out w1 hA1 hG1 w2 hA2 hG2 j (by omega)
      have hj4 : (j : Int) < 4 := by omega
      clear hG2 hx1 HT hAl hG1
      go_wp2
      go_ret
      exact ⟨y, rfl, hyb, hA2, hG⟩

/-- a list and numbers that the laws draw -/
structure Drawn (B : Nat) (w w' : World) (v : Value) (L : List K) : Prop where
  own : OwnK 36 B w' v L
  len : L.length ≤ 61
  word : ∀ k ∈ L, k.word.size ≤ 13
  bel : Below w.heap.size w w'

end Rm
end Go.Proofs.YtfjmenhofllchaaGreatDoor

namespace Go.Proofs.YtfjmenhofllchaaGreatDoor
open Go.RowKit
set_option maxRecDepth 100000
namespace Sg
open Kn (K okK)
open Bit (bit)
open Lc (at' RdK laceB WordsOk setB)

/-- is there such a knot, of a lace? -/
def isB (L : List K) (k : Int) : Bool := decide (0 ≤ k) && (decide (k < (L.length : Int)) && laceB L)
/-- what Below answers -/
def belowI (L : List K) (k : Int) : Int := if isB L k then bel L k.toNat else -1
/-- what Sees answers -/
def seesB (L : List K) (a b : Int) : Bool := isB L a && (isB L b && bit (bel L a.toNat) b.toNat)
/-- what Closed answers -/
def closedB (L : List K) (s : Int) : Bool := setB L s && closedTo (belows L L.length) s L.length
/-- what Tips answers -/
def tipsI (L : List K) (s : Int) : Int := if closedB L s then tipsTo (belows L L.length) s L.length else -1

theorem isB_parts {L : List K} {k : Int} (h : isB L k = true) : 0 ≤ k ∧ k < (L.length : Int) ∧ laceB L = true := by
  unfold isB at h
  simpa using h

set_option maxHeartbeats 800000 in
theorem l4Is (g off cap : Nat) (L : List K) (k : Int) (w : World) (hcap : L.length ≤ cap) (hw : WordsOk L) (hr : RdK w (some ⟨g, off, none⟩) L) :
    Calls Tryz.prog 45 #[.slice (some ⟨g, off, none⟩) L.length cap, .int .i64 k] w fun e w' => e = .returned (.bool (isB L k)) ∧ Below w.heap.size w w' := by
  by_cases h0 : 0 ≤ k
  · by_cases h1 : k < (L.length : Int)
    · have HT : Hid (isB L k = laceB L) := by show _ = _; unfold isB; rw [decide_eq_true h0, decide_eq_true h1]; rfl
      go_enter Tryz.func45, Tryz.ntmps45
      go_wp2_with fail
      refine (Lc.specLaceOk g off cap L _ hcap hw hr).mono ?_
      rintro e w1 ⟨rfl, hb1⟩
      go_wp2
      go_ret
      exact ⟨by rw [HT.out]; rfl, hb1⟩
    · have HT : Hid (isB L k = false) := by show _ = _; unfold isB; rw [decide_eq_false h1]; simp
      go_enter Tryz.func45, Tryz.ntmps45
      go_wp2
      go_ret
      exact ⟨by rw [HT.out]; rfl, Below.refl _ _⟩
  · have HT : Hid (isB L k = false) := by show _ = _; unfold isB; rw [decide_eq_false h0]; rfl
    go_enter Tryz.func45, Tryz.ntmps45
    go_wp2
    go_ret
    exact ⟨by rw [HT.out]; rfl, Below.refl _ _⟩

set_option maxHeartbeats 800000 in
theorem specBelow (g off cap : Nat) (L : List K) (k : Int) (w : World) (hcap : L.length ≤ cap) (hw : WordsOk L) (hr : RdK w (some ⟨g, off, none⟩) L) :
    Calls Tryz.prog 14 #[.slice (some ⟨g, off, none⟩) L.length cap, .int .i64 k] w fun e w' => e = .returned (.int .i64 (belowI L k)) ∧ Below w.heap.size w w' := by
  go_enter Tryz.func14, Tryz.ntmps14
  go_wp2_with fail
  refine (l4Is g off cap L k _ hcap hw hr).mono ?_
  rintro e w1 ⟨rfl, hb1⟩
  have hr1 := hr.below hb1
  cases his : isB L k
  · have HT : Hid (belowI L k = -1) := by show _ = _; unfold belowI; rw [his]; rfl
    clear his
    go_wp2
    go_ret
    exact ⟨by rw [HT.out]; rfl, hb1⟩
  · obtain ⟨h0, h1, hlc⟩ := isB_parts his
    have HT : Hid (belowI L k = bel L k.toNat) := by show _ = _; unfold belowI; rw [his]; rfl
    have h60 := ((Lc.lace_iff L).1 hlc).1
    have hf := frm_lace hlc
    clear his hlc
    obtain ⟨p, rfl⟩ := Int.eq_ofNat_of_zero_le h0
    have hp : p < L.length := by omega
    have HG : Hid ((belows L L.length).getD p 0 = bel L p) := belows_get L L.length p hp
    have HBL : Hid ((belows L L.length).length = L.length) := belows_len L L.length
    go_wp2_with fail
    refine (l4All (some ⟨g, off, none⟩) cap L _ h60 hf hr1).mono ?_
    rintro e w2 ⟨bo, bc, rfl, hown, hb2⟩
    have hB2 := hb1.trans (hb2.mono hb1.size)
    have hrd := Lst.own_rd hown
    clear hb1 hb2 hown hr1
    generalize belows L L.length = l at HG HBL hrd ⊢
    have hpl : p < l.length := by rw [HBL.out]; exact hp
    have hpi : (p : Int) < (l.length : Int) := by omega
    rcases hrd with hrd | ⟨b, rfl, hcell⟩
    · rw [hrd] at hpl; simp at hpl
    have cp := hcell p hpl
    rw [HG.out] at cp
    clear hcell HBL HG
    go_wp2
    go_ret
    exact ⟨by rw [HT.out]; rfl, hB2⟩

theorem below_drewN {b : Nat} {a w : World} (h : Below b a w) (n : Nat) : Below b a (w.drewN n) := ⟨h.os, h.tape, h.output, h.size, h.block⟩

set_option maxHeartbeats 1600000 in
theorem specSees (g off cap : Nat) (L : List K) (a b : Int) (w : World) (hcap : L.length ≤ cap) (hw : WordsOk L) (hr : RdK w (some ⟨g, off, none⟩) L) :
    Calls Tryz.prog 32 #[.slice (some ⟨g, off, none⟩) L.length cap, .int .i64 a, .int .i64 b] w fun e w' => e = .returned (.bool (seesB L a b)) ∧ Below w.heap.size w w' := by
  go_enter Tryz.func32, Tryz.ntmps32
  go_wp2_with fail
  refine (l4Is g off cap L a _ hcap hw hr).mono ?_
  rintro e w1 ⟨rfl, hb1⟩
  have hr1 := hr.below hb1
  cases his : isB L a
  · have HT : Hid (seesB L a b = false) := by show _ = _; unfold seesB; rw [his]; rfl
    clear his
    go_wp2
    go_ret
    exact ⟨by rw [HT.out]; rfl, hb1⟩
  · have HT1 : Hid (seesB L a b = (isB L b && bit (bel L a.toNat) b.toNat)) := by show _ = _; unfold seesB; rw [his]; rfl
    obtain ⟨h0, h1, hlc⟩ := isB_parts his
    clear his
    go_wp2_with fail
    refine (l4Is g off cap L b _ hcap hw hr1).mono ?_
    rintro e w2 ⟨rfl, hb2⟩
    have hr2 := hr1.below hb2
    have hB2 := hb1.trans (hb2.mono hb1.size)
    clear hb1 hb2 hr1
    cases hib : isB L b
    · have HT : Hid (seesB L a b = false) := by show _ = _; rw [HT1.out, hib]; rfl
      clear hib HT1
      go_wp2
      go_ret
      exact ⟨by rw [HT.out]; rfl, hB2⟩
    · have HT : Hid (seesB L a b = bit (bel L a.toNat) b.toNat) := by show _ = _; rw [HT1.out, hib]; rfl
      obtain ⟨q0, q1, _⟩ := isB_parts hib
      have h60 := ((Lc.lace_iff L).1 hlc).1
      have hf := frm_lace hlc
      clear hib hlc HT1
      obtain ⟨p, rfl⟩ := Int.eq_ofNat_of_zero_le h0
      have hp : p < L.length := by omega
      have HG : Hid ((belows L L.length).getD p 0 = bel L p) := belows_get L L.length p hp
      have HBL : Hid ((belows L L.length).length = L.length) := belows_len L L.length
      have hbb := bel_bd L p (by omega)
      rw [Int.toNat_natCast] at HT
      go_wp2_with fail
      refine (l4All (some ⟨g, off, none⟩) cap L _ h60 hf hr2).mono ?_
      rintro e w3 ⟨bo, bc, rfl, hown, hb3⟩
      have hB3 := hB2.trans (hb3.mono hB2.size)
      have hrd := Lst.own_rd hown
      clear hB2 hb3 hown hr2
      generalize belows L L.length = l at HG HBL hrd ⊢
      have hpl : p < l.length := by rw [HBL.out]; exact hp
      have hpi : (p : Int) < (l.length : Int) := by omega
      rcases hrd with hrd | ⟨bb, rfl, hcell⟩
      · rw [hrd] at hpl; simp at hpl
      have cp := hcell p hpl
      rw [HG.out] at cp
      clear hcell HBL HG
      generalize bel L p = y at cp HT hbb
      go_wp2_with (go_at_call 48; refine (Base.l1Has _ _ _ hbb.1 hbb.2 q0 (by omega)).mono ?_; rintro e w' ⟨rfl, rfl⟩)
      go_ret
      exact ⟨by rw [HT.out]; rfl, hB3⟩

end Sg
end Go.Proofs.YtfjmenhofllchaaGreatDoor

namespace Go.Proofs.YtfjmenhofllchaaGreatDoor
open Go.RowKit
set_option maxRecDepth 100000
namespace Rm
open Kn (K okK)
open Lc (at' RdK laceB flat OwnK cellsOf)
open Cur (At)

/-- the cursor moves on, the list stays -/
theorem rd_grown2 {A B : World} {c g : Nat} {L : List K} (h : RdK A (some ⟨g, 0, none⟩) L) (hg : A.grownBy B (some c)) (hne : g ≠ c) : RdK B (some ⟨g, 0, none⟩) L := by
  rcases h with h | ⟨g', off', e, hlt, hc⟩
  · exact .inl h
  · cases e
    refine .inr ⟨g, 0, rfl, Nat.lt_of_lt_of_le hlt hg.size, fun i hi => ?_⟩
    have c' := hc i hi
    have f : ∀ o : Nat, B.cell? ⟨g, o, none⟩ = A.cell? ⟨g, o, none⟩ := fun o => (Fr.of_grown hg).cell (p := ⟨g, o, none⟩) hlt hne
    exact ⟨(f _).trans c'.c0, (f _).trans c'.c1, (f _).trans c'.c2, (f _).trans c'.c3⟩

set_option maxHeartbeats 3200000 in
theorem l4DrawSet (c : Nat) (a : Option Addr) (len cap : Nat) (g cp : Nat) (L : List K) (w : World) (hl : len ≤ 4096) (hc : At c a len cap w) (hne : g ≠ c) (h61 : L.length ≤ 61) (hcp : L.length ≤ cp) (hw : Lc.WordsOk L) (hr : RdK w (some ⟨g, 0, none⟩) L) :
    Calls Tryz.prog 81 #[.pointer (some ⟨c, 0, none⟩), .slice (some ⟨g, 0, none⟩) L.length cp] w (NumPost c a len cap w) := by
  go_enter Tryz.func81, Tryz.ntmps81
  go_wp2_with fail
  refine (Cur.once c a len cap 6 _ hl (by omega) hc).mono ?_
  rintro e w1 ⟨b, rfl, hA1, hG1⟩
  have hr1 := rd_grown2 hr hG1 hne
  cases b
  · go_wp2_with fail
    refine (Lc.specLaceOk g 0 cp L _ hcp hw hr1).mono ?_
    rintro e w2 ⟨rfl, hb2⟩
    have hA2 := hA1.below hb2
    have G2 : w.grownBy w2 (some c) := ((Fr.of_grown hG1).trans (Fr.of_below hb2 (fun x => x = c)) (fun _ h _ => h)).grown
    have hr2 := hr1.below hb2
    clear hA1 hG1 hb2 hr1
    cases hlc : laceB L
    · go_wp2_with fail
      refine (l3DrawSet _ a len cap L.length _ hl h61 hA2).mono ?_
      rintro e w3 ⟨s, rfl, hs, hA3, hG3⟩
      have G3 := Cur.grownBy_trans G2 hG3
      go_wp2
      go_ret
      exact ⟨s, rfl, hs, hA3, G3⟩
    · have h60 := ((Lc.lace_iff L).1 hlc).1
      have hf := Sg.frm_lace hlc
      clear hlc
      go_wp2_with fail
      refine (Sg.l4All (some ⟨g, 0, none⟩) cp L _ h60 hf hr2).mono ?_
      rintro e w3 ⟨bo, bc, rfl, hown, hb3⟩
      have hbl := Sg.belows_len L L.length
      have hA3 := hA2.below hb3
      have G3 : w.grownBy w3 (some c) := ((Fr.of_grown G2).trans (Fr.of_below hb3 (fun x => x = c)) (fun _ h _ => h)).grown
      have hlt2 := hA2.lt
      have HON : Hid (Memb.Own w2.heap.size w3 bo bc (Sg.belows L L.length)) := hown
      have HBL : Hid ((Sg.belows L L.length).length = L.length) := hbl
      clear hA2 G2 hb3 hr2 hown hbl
      generalize Sg.belows L L.length = l at HON HBL ⊢
      go_wp2_with fail
      refine (Cur.below c a len cap 4 _ hl (by omega) hA3).mono ?_
      rintro e w4 ⟨k, rfl, hk0, hk1, hA4, hG4⟩
      have hk2 := hk1 (by omega)
      have HO4 : Hid (Memb.Own w2.heap.size w4 bo bc l) := Draw.own_grown HON.out hG4 hlt2
      have HA4 : Hid (At c a len cap w4) := hA4
      have HG4 : Hid (w.grownBy w4 (some c)) := Cur.grownBy_trans G3 hG4
      clear HON hA3 hA4 hG4 G3 hk1
      have hwl : ∀ x : Int, -1 ≤ x → x ≤ 4 → IntKind.i64.wrap (x - 1) = x - 1 := fun x h1 h2 => by rw [IntKind.wrap_i64]; omega
      go_wp2
      go_loopw [6, 8] (fun s kv wr => ∃ (k x : Int), -1 ≤ k ∧ k ≤ 3 ∧ kv = .int .i64 k ∧ s = .int .i64 x ∧ Hid (-9223372036854775808 ≤ x ∧ x ≤ 9223372036854775807) ∧ Hid (At c a len cap wr) ∧ Hid (w.grownBy wr (some c)) ∧ Hid (Memb.Own w2.heap.size wr bo bc l)) (fun _ kv _ => (intOf kv + 1).toNat)
      case atStart => exact ⟨k, 0, by omega, by omega, rfl, rfl, ⟨by omega, by omega⟩, HA4, HG4, HO4⟩
      case round =>
        obtain ⟨k, x, hk0, hk3, rfl, rfl, HX, HA, HG, HO⟩ := hrel
        by_cases hkn : 0 ≤ k ∧ 0 < L.length
        · have hk' := hkn.1
          have hn' : (0 : Int) < (L.length : Int) := by omega
          have hwk := hwl k (by omega) (by omega)
          clear hwl hkn
          go_wp2_with fail
          refine (Cur.below c a len cap (L.length : Int) _ hl (by omega) HA.out).mono ?_
          rintro e w5 ⟨y, rfl, hy0, hy1, hA5, hG5⟩
          have hy2 := hy1 hn'
          obtain ⟨j, rfl⟩ := Int.eq_ofNat_of_zero_le hy0
          have HO5 : Hid (Memb.Own w2.heap.size w5 bo bc l) := Draw.own_grown HO.out hG5 hlt2
          have HA5 : Hid (At c a len cap w5) := hA5
          have HG5 : Hid (w.grownBy w5 (some c)) := Cur.grownBy_trans HG.out hG5
          have hjl : j < l.length := by have := HBL.out; omega
          have hji : (j : Int) < (l.length : Int) := by omega
          obtain ⟨bb, rfl, hcell⟩ : ∃ bb, bo = some ⟨bb, 0, none⟩ ∧ w5.cell? ⟨bb, j, none⟩ = some (.int .i64 (l.getD j 0)) := by
            rcases Lst.own_rd HO5.out with e | ⟨bb, e, h⟩
            · rw [e] at hjl; simp at hjl
            · exact ⟨bb, e, h j hjl⟩
          clear hA5 hG5 HA HG HO hy1
          generalize l.getD j 0 = z at hcell
          go_wp2
          go_roundw
          case rel => exact ⟨k - 1, _, by omega, by omega, rfl, rfl, Draw.bits_bd _ _ _, HA5, HG5, HO5⟩
          case measure => simp [intOf]; omega
        · have hex : k < 0 ∨ (0 ≤ k ∧ L.length = 0) := by omega
          have HE : Hid (∀ W : World, At c a len cap W → w.grownBy W (some c) → Calls Tryz.prog 37 #[.pointer (some ⟨c, 0, none⟩), .int .i64 4] W fun e w' => ∃ b : Bool, e = .returned (.bool b) ∧ At c a len cap w' ∧ w.grownBy w' (some c)) := fun W h1 h2 => (Cur.once c a len cap 4 W hl (by omega) h1).mono fun e w' ⟨b, he, hA, hG⟩ => ⟨b, he, hA, Cur.grownBy_trans h2 hG⟩
          clear hkn hwl
          rcases hex with hk | ⟨hk, hz⟩
          · have hk' : ¬ 0 ≤ k := by omega
            go_wp2_with fail
            refine (HE.out _ HA.out HG.out).mono ?_
            rintro e w5 ⟨b, rfl, hA5, hG5⟩
            cases b
            · go_wp2
              go_ret
              exact ⟨x, rfl, HX.out, hA5, hG5⟩
            · go_wp2_with fail
              refine (l1BitAny L.length _ (by omega)).mono ?_
              rintro e w6 ⟨y, rfl, rfl⟩
              go_wp2
              go_ret
              exact ⟨_, rfl, by first | exact wrap_bd _ | exact Cur.wrap64_bd _, hA5, hG5⟩
          · have hz' : ¬ (0 : Int) < (L.length : Int) := by omega
            go_wp2_with fail
            refine (HE.out _ HA.out HG.out).mono ?_
            rintro e w5 ⟨b, rfl, hA5, hG5⟩
            cases b
            · go_wp2
              go_ret
              exact ⟨x, rfl, HX.out, hA5, hG5⟩
            · go_wp2_with fail
              refine (l1BitAny 0 _ (by omega)).mono ?_
              rintro e w6 ⟨y, rfl, rfl⟩
              go_wp2
              go_ret
              exact ⟨_, rfl, by first | exact wrap_bd _ | exact Cur.wrap64_bd _, hA5, hG5⟩
  · go_wp2_with fail
    refine (l3DrawSet _ a len cap L.length _ hl h61 hA1).mono ?_
    rintro e w3 ⟨s, rfl, hs, hA3, hG3⟩
    have G3 := Cur.grownBy_trans hG1 hG3
    go_wp2
    go_ret
    exact ⟨s, rfl, hs, hA3, G3⟩

end Rm
end Go.Proofs.YtfjmenhofllchaaGreatDoor

namespace Go.Proofs.YtfjmenhofllchaaGreatDoor
open Go.RowKit
set_option maxRecDepth 100000
namespace Sg
open Kn (K okK)
open Bit (bit withB)
open Lc (at')

/-- what has been reached when all numbers from m on are done -/
structure Inv (L : List K) (s : Int) (m : Nat) (r : Int) : Prop where
  lo : 0 ≤ r
  hi : r < 1152921504606846976
  start : ∀ j, bit s j = true → bit r j = true
  sound : ∀ j, bit r j = true → bit s j = true ∨ ∃ i, i < L.length ∧ bit s i = true ∧ Reach L i j
  done : ∀ i, m ≤ i → i < L.length → bit r i = true → ∀ j, bit (at' L i).frm j = true → bit r j = true

theorem inv_start (L : List K) (s : Int) (h0 : 0 ≤ s) (h1 : s < 1152921504606846976) : Inv L s L.length s :=
  ⟨h0, h1, fun _ h => h, fun _ h => .inl h, fun i h1 h2 => by omega⟩

theorem inv_skip {L : List K} {s r : Int} {m : Nat} (h : Inv L s (m + 1) r) (hb : bit r m = false) : Inv L s m r :=
  ⟨h.lo, h.hi, h.start, h.sound, fun i hi hl hr j hj => by
    by_cases e : i = m
    · subst e; rw [hb] at hr; exact Bool.noConfusion hr
    · exact h.done i (by omega) hl hr j hj⟩

theorem inv_take {L : List K} (hl : Lc.laceB L = true) {s r : Int} {m : Nat} (hm : m < L.length) (h : Inv L s (m + 1) r) (hb : bit r m = true) : Inv L s m (orB r (at' L m).frm) := by
  have hf := frm_lace hl _ (Lc.at_mem L m hm)
  have hbd := orB_bd r (at' L m).frm h.lo h.hi hf.1 hf.2
  refine ⟨hbd.1, hbd.2, ?_, ?_, ?_⟩
  · intro j hj; rw [bit_orB _ _ h.lo hf.1, h.start j hj]; rfl
  · intro j hj
    rw [bit_orB _ _ h.lo hf.1, Bool.or_eq_true] at hj
    rcases hj with hj | hj
    · exact h.sound j hj
    · rcases h.sound m hb with hs | ⟨i, hi, hs, hr⟩
      · exact .inr ⟨m, hm, hs, .step hj (.self _)⟩
      · exact .inr ⟨i, hi, hs, hr.trans (.step hj (.self _))⟩
  · intro i hi hil hr j hj
    rw [bit_orB _ _ h.lo hf.1, Bool.or_eq_true] at hr ⊢
    by_cases e : i = m
    · subst e; exact .inr hj
    · rcases hr with hr | hr
      · exact .inl (h.done i (by omega) hil hr j hj)
      · have := thread_lt hl hm hr; omega

/-- all that hangs below one of the set has been reached -/
theorem inv_reach {L : List K} (hl : Lc.laceB L = true) {s r : Int} (h : Inv L s 0 r) {i j : Nat} (hi : i < L.length) (hb : bit r i = true) (hr : Reach L i j) : bit r j = true := by
  induction hr with
  | self => exact hb
  | step hm _ ih => exact ih (Nat.lt_trans (thread_lt hl hi hm) hi) (h.done _ (Nat.zero_le _) hi hb _ hm)

/-- those met so far are kept -/
structure Met (L : List K) (m : Nat) (r f : Int) : Prop where
  lo : 0 ≤ f
  hi : f < 1152921504606846976
  has : ∀ j, bit f j = true ↔ m ≤ j ∧ j < L.length ∧ bit r j = true

theorem met_start (L : List K) (s : Int) : Met L L.length s 0 := ⟨by omega, by omega, fun j => by rw [Lc.bit_zero]; simp; omega⟩

theorem met_skip {L : List K} {r f : Int} {m : Nat} (h : Met L (m + 1) r f) (hb : bit r m = false) : Met L m r f :=
  ⟨h.lo, h.hi, fun j => by
    rw [h.has j]
    constructor
    · rintro ⟨a, b, c⟩; exact ⟨by omega, b, c⟩
    · rintro ⟨a, b, c⟩
      refine ⟨?_, b, c⟩
      apply Classical.byContradiction
      intro hn
      obtain rfl : j = m := by omega
      rw [hb] at c; exact Bool.noConfusion c⟩

theorem met_take {L : List K} (hl : Lc.laceB L = true) {s r f : Int} {m : Nat} (hm : m < L.length) (hi : Inv L s (m + 1) r) (h : Met L (m + 1) r f) (hb : bit r m = true) : Met L m (orB r (at' L m).frm) (withB f m) := by
  have h60 := ((Lc.lace_iff L).1 hl).1
  have hf := frm_lace hl _ (Lc.at_mem L m hm)
  have hbd := Bit.withB_bd f h.lo h.hi m (by omega)
  refine ⟨hbd.1, hbd.2, fun j => ?_⟩
  rw [Bit.bit_withB f h.lo, bit_orB _ _ hi.lo hf.1]
  simp only [Bool.or_eq_true, decide_eq_true_eq]
  rw [h.has j]
  constructor
  · rintro (rfl | ⟨a, b, c⟩)
    · exact ⟨Nat.le_refl _, hm, .inl hb⟩
    · exact ⟨by omega, b, .inl c⟩
  · rintro ⟨a, b, c | c⟩
    · by_cases e : j = m
      · exact .inl e
      · exact .inr ⟨by omega, b, c⟩
    · have := thread_lt hl hm c; omega

/-- a set of one -/
def oneI (k : Int) : Int := if 0 ≤ k ∧ k < 60 then 2 ^ k.toNat else 0

theorem oneI_bd (k : Int) : 0 ≤ oneI k ∧ oneI k < 1152921504606846976 := by
  unfold oneI
  split
  · rename_i h; have := Base.pow_bd k.toNat (by omega); exact ⟨by omega, this.2⟩
  · omega

theorem bit_oneI (k : Int) (j : Nat) : bit (oneI k) j = true ↔ k = (j : Int) ∧ j < 60 := by
  unfold oneI
  split
  · rename_i h; rw [bit_pow]; simp; omega
  · rw [Lc.bit_zero]; simp; omega

/-- what the walk from one has met at its end -/
def metI (L : List K) (k : Int) : Int := if 0 ≤ k ∧ k < (L.length : Int) then bel L k.toNat else 0

theorem met_end {L : List K} (hl : Lc.laceB L = true) {k r f : Int} (hi : Inv L (oneI k) 0 r) (h : Met L 0 r f) : f = metI L k := by
  have h60 := ((Lc.lace_iff L).1 hl).1
  unfold metI
  split
  · rename_i hk
    obtain ⟨p, rfl⟩ := Int.eq_ofNat_of_zero_le hk.1
    rw [Int.toNat_natCast]
    have hp : p < L.length := by omega
    have hbd := bel_bd L p (by omega)
    refine Lc.eq_of_bits _ _ h.lo hbd.1 fun j => ?_
    rw [Bool.eq_iff_iff, h.has j, bel_reach hl p hp j]
    constructor
    · rintro ⟨_, _, c⟩
      rcases hi.sound j c with hs | ⟨i, _, hs, hr⟩
      · have := ((bit_oneI _ _).1 hs).1
        obtain rfl : p = j := by omega
        exact .self _
      · have := ((bit_oneI _ _).1 hs).1
        obtain rfl : p = i := by omega
        exact hr
    · intro hr
      have := reach_le hl hp hr
      refine ⟨Nat.zero_le _, by omega, ?_⟩
      exact inv_reach hl hi hp (hi.start p ((bit_oneI _ _).2 ⟨rfl, by omega⟩)) hr
  · rename_i hk
    refine Lc.eq_of_bits _ _ h.lo (Int.le_refl _) fun j => ?_
    rw [Lc.bit_zero, Bool.eq_false_iff]
    intro hj
    obtain ⟨_, hjl, c⟩ := (h.has j).1 hj
    rcases hi.sound j c with hs | ⟨i, hil, hs, _⟩
    · have := ((bit_oneI _ _).1 hs).1; omega
    · have := ((bit_oneI _ _).1 hs).1; omega

/-! ### closed -/
/-- all that is met is in the set, so far -/
def Kept (L : List K) (s : Int) (m : Nat) (r : Int) : Prop := ∀ j, m ≤ j → j < L.length → bit r j = true → bit s j = true

theorem kept_start (L : List K) (s r : Int) : Kept L s L.length r := fun j h1 h2 => by omega

theorem kept_skip {L : List K} {s r : Int} {m : Nat} (h : Kept L s (m + 1) r) (hb : bit r m = false) : Kept L s m r := fun j h1 h2 h3 => by
  by_cases e : j = m
  · subst e; rw [hb] at h3; exact Bool.noConfusion h3
  · exact h j (by omega) h2 h3

theorem kept_take {L : List K} (hl : Lc.laceB L = true) {s r : Int} {m : Nat} (hm : m < L.length) (hi : Inv L s (m + 1) r) (h : Kept L s (m + 1) r) (hs : bit s m = true) : Kept L s m (orB r (at' L m).frm) := fun j h1 h2 h3 => by
  have hf := frm_lace hl _ (Lc.at_mem L m hm)
  by_cases e : j = m
  · subst e; exact hs
  · rw [bit_orB _ _ hi.lo hf.1, Bool.or_eq_true] at h3
    rcases h3 with h3 | h3
    · exact h j (by omega) h2 h3
    · have := thread_lt hl hm h3; omega

theorem reach_in {L : List K} (hl : Lc.laceB L = true) {s : Int} (h : ∀ i, i < L.length → bit s i = true → ∀ m, bit (at' L i).frm m = true → bit s m = true) {i j : Nat} (hi : i < L.length) (hb : bit s i = true) (hr : Reach L i j) : bit s j = true := by
  induction hr with
  | self => exact hb
  | step hm _ ih => exact ih (Nat.lt_trans (thread_lt hl hi hm) hi) (h _ hi hb _ hm)

theorem closed_end {L : List K} (hl : Lc.laceB L = true) {s r : Int} (h0 : 0 ≤ s) (h1 : s < 1152921504606846976) (hi : Inv L s 0 r) (h : Kept L s 0 r) : closedTo (belows L L.length) s L.length = true := by
  rw [closed_threads hl s h0 h1]
  intro i hil hb m hm
  have := thread_lt hl hil hm
  exact h m (Nat.zero_le _) (by omega) (hi.done i (Nat.zero_le _) hil (hi.start i hb) m hm)

theorem closed_not {L : List K} (hl : Lc.laceB L = true) {s r : Int} (h0 : 0 ≤ s) (h1 : s < 1152921504606846976) {m j : Nat} (hi : Inv L s m r) (hr : bit r j = true) (hs : bit s j = false) : closedTo (belows L L.length) s L.length = false := by
  rw [Bool.eq_false_iff]
  intro hc
  rw [closed_threads hl s h0 h1] at hc
  rcases hi.sound j hr with h | ⟨i, hil, hb, hre⟩
  · rw [hs] at h; exact Bool.noConfusion h
  · have := reach_in hl hc hil hb hre
    rw [hs] at this; exact Bool.noConfusion this

/-! ### tips -/
theorem bit_andNot (a s : Int) (h0 : 0 ≤ a) (h1 : a < 1152921504606846976) (h2 : 0 ≤ s) (h3 : s < 1152921504606846976) (i : Nat) : bit (bits .andNot .i64 a s) i = (bit a i && !bit s i) := by
  obtain ⟨A, rfl⟩ := Int.eq_ofNat_of_zero_le h0
  obtain ⟨S, rfl⟩ := Int.eq_ofNat_of_zero_le h2
  have hA : (BitVec.ofInt 64 (A : Int)).toNat = A := ofInt_u64 A (by omega)
  have hS : (BitVec.ofInt 64 (S : Int)).toNat = S := ofInt_u64 S (by omega)
  have hx : (BitVec.ofInt 64 (A : Int) &&& ~~~ BitVec.ofInt 64 (S : Int)).toNat ≤ A := by
    rw [BitVec.toNat_and, hA]; exact Nat.and_le_left
  have e : bits .andNot .i64 (A : Int) (S : Int) = ((BitVec.ofInt 64 (A : Int) &&& ~~~ BitVec.ofInt 64 (S : Int)).toNat : Int) := by
    show IntKind.i64.wrap ((BitVec.ofInt 64 (A : Int) &&& ~~~ BitVec.ofInt 64 (S : Int)).toNat : Int) = _
    rw [IntKind.wrap_i64]; omega
  have hn : (0 : Int) ≤ ((BitVec.ofInt 64 (A : Int) &&& ~~~ BitVec.ofInt 64 (S : Int)).toNat : Int) := by omega
  rw [e, Bit.bit_testBit _ hn, Int.toNat_natCast, Bit.bit_testBit _ h0, Bit.bit_testBit _ h2, Int.toNat_natCast, Int.toNat_natCast]
  by_cases h64 : i < 64
  · show (BitVec.ofInt 64 (A : Int) &&& ~~~ BitVec.ofInt 64 (S : Int)).getLsbD i = _
    rw [BitVec.getLsbD_and, BitVec.getLsbD_not, BitVec.getLsbD, hA, BitVec.getLsbD, hS]
    simp [h64]
  · have ha : A.testBit i = false := Nat.testBit_lt_two_pow (Nat.lt_of_lt_of_le (show A < 2 ^ 64 by omega) (Nat.pow_le_pow_right (by decide) (by omega)))
    have hb : (BitVec.ofInt 64 (A : Int) &&& ~~~ BitVec.ofInt 64 (S : Int)).toNat.testBit i = false := Nat.testBit_lt_two_pow (Nat.lt_of_lt_of_le (show _ < 2 ^ 64 by omega) (Nat.pow_le_pow_right (by decide) (by omega)))
    rw [ha, hb]; rfl

theorem andNot_bd' (a s : Int) (h0 : 0 ≤ a) (h1 : a < 1152921504606846976) : 0 ≤ bits .andNot .i64 a s ∧ bits .andNot .i64 a s < 1152921504606846976 := by
  obtain ⟨A, rfl⟩ := Int.eq_ofNat_of_zero_le h0
  have hA : (BitVec.ofInt 64 (A : Int)).toNat = A := ofInt_u64 A (by omega)
  have hx : (BitVec.ofInt 64 (A : Int) &&& ~~~ BitVec.ofInt 64 s).toNat ≤ A := by
    rw [BitVec.toNat_and, hA]; exact Nat.and_le_left
  have e : bits .andNot .i64 (A : Int) s = ((BitVec.ofInt 64 (A : Int) &&& ~~~ BitVec.ofInt 64 s).toNat : Int) := by
    show IntKind.i64.wrap ((BitVec.ofInt 64 (A : Int) &&& ~~~ BitVec.ofInt 64 s).toNat : Int) = _
    rw [IntKind.wrap_i64]; omega
  rw [e]; omega

theorem tipsTo_bd (l : List Int) (s : Int) (n : Nat) (h0 : 0 ≤ s) (h1 : s < 1152921504606846976) : 0 ≤ tipsTo l s n ∧ tipsTo l s n < 1152921504606846976 := by
  induction n with
  | zero => exact ⟨h0, h1⟩
  | succ n ih =>
    unfold tipsTo
    split
    · exact andNot_bd' _ _ ih.1 ih.2
    · exact ih

theorem bit_tips (L : List K) (s : Int) (n N : Nat) (hn : n ≤ N) (hN : N ≤ 60) (h0 : 0 ≤ s) (h1 : s < 1152921504606846976) (j : Nat) : bit (tipsTo (belows L N) s n) j = true ↔ bit s j = true ∧ ∀ i, i < n → bit s i = true → j ≠ i → bit (bel L i) j = false := by
  induction n with
  | zero => unfold tipsTo; simp
  | succ n ih =>
    have ih := ih (by omega)
    have hbd := tipsTo_bd (belows L N) s n h0 h1
    have hb := bel_bd L n (by omega)
    have hp := Base.pow_bd n (by omega)
    have hg := belows_get L N n (by omega)
    unfold tipsTo
    cases hs : bit s n
    · simp only [Bool.false_eq_true, if_false]
      rw [ih]
      constructor
      · rintro ⟨a, b⟩
        refine ⟨a, fun i hi hb' hj => ?_⟩
        by_cases e : i = n
        · subst e; rw [hs] at hb'; exact Bool.noConfusion hb'
        · exact b i (by omega) hb' hj
      · rintro ⟨a, b⟩; exact ⟨a, fun i hi hb' hj => b i (by omega) hb' hj⟩
    · simp only [if_true]
      have hq := andNot_bd' (bel L n) (2 ^ n) hb.1 hb.2
      rw [hg, bit_andNot _ _ hbd.1 hbd.2 hq.1 hq.2, bit_andNot _ _ hb.1 hb.2 (by omega) hp.2, bit_pow, Bool.and_eq_true, ih]
      constructor
      · rintro ⟨⟨a, b⟩, c⟩
        refine ⟨a, fun i hi hb' hj => ?_⟩
        by_cases e : i = n
        · subst e
          rw [decide_eq_false hj] at c
          simpa using c
        · exact b i (by omega) hb' hj
      · rintro ⟨a, b⟩
        refine ⟨⟨a, fun i hi hb' hj => b i (by omega) hb' hj⟩, ?_⟩
        by_cases e : j = n
        · rw [decide_eq_true e]; simp
        · rw [b n (by omega) hs e]; rfl

/-- those of the set that no thread of a met one leads to -/
structure Unseen (L : List K) (s : Int) (m : Nat) (r u : Int) : Prop where
  lo : 0 ≤ u
  hi : u < 1152921504606846976
  has : ∀ j, bit u j = true ↔ bit s j = true ∧ ∀ i, m ≤ i → i < L.length → bit r i = true → bit (at' L i).frm j = false

theorem unseen_start (L : List K) (s r : Int) (h0 : 0 ≤ s) (h1 : s < 1152921504606846976) : Unseen L s L.length r s := ⟨h0, h1, fun j => ⟨fun h => ⟨h, fun i h1 h2 => by omega⟩, fun h => h.1⟩⟩

theorem unseen_skip {L : List K} {s r u : Int} {m : Nat} (h : Unseen L s (m + 1) r u) (hb : bit r m = false) : Unseen L s m r u :=
  ⟨h.lo, h.hi, fun j => by
    rw [h.has j]
    constructor
    · rintro ⟨a, b⟩
      refine ⟨a, fun i h1 h2 h3 => ?_⟩
      by_cases e : i = m
      · subst e; rw [hb] at h3; exact Bool.noConfusion h3
      · exact b i (by omega) h2 h3
    · rintro ⟨a, b⟩; exact ⟨a, fun i h1 h2 h3 => b i (by omega) h2 h3⟩⟩

theorem unseen_take {L : List K} (hl : Lc.laceB L = true) {s r u : Int} {m : Nat} (hm : m < L.length) (hi : Inv L s (m + 1) r) (h : Unseen L s (m + 1) r u) (hb : bit r m = true) : Unseen L s m (orB r (at' L m).frm) (bits .andNot .i64 u (at' L m).frm) := by
  have hf := frm_lace hl _ (Lc.at_mem L m hm)
  have hbd := andNot_bd' u (at' L m).frm h.lo h.hi
  refine ⟨hbd.1, hbd.2, fun j => ?_⟩
  rw [bit_andNot _ _ h.lo h.hi hf.1 hf.2, Bool.and_eq_true, h.has j]
  constructor
  · rintro ⟨⟨a, b⟩, c⟩
    refine ⟨a, fun i h1 h2 h3 => ?_⟩
    rw [bit_orB _ _ hi.lo hf.1, Bool.or_eq_true] at h3
    by_cases e : i = m
    · subst e; simpa using c
    · rcases h3 with h3 | h3
      · exact b i (by omega) h2 h3
      · have := thread_lt hl hm h3; omega
  · rintro ⟨a, b⟩
    refine ⟨⟨a, fun i h1 h2 h3 => b i (by omega) h2 (by rw [bit_orB _ _ hi.lo hf.1, h3]; rfl)⟩, ?_⟩
    rw [b m (Nat.le_refl _) hm (by rw [bit_orB _ _ hi.lo hf.1, hb]; rfl)]; rfl

theorem reach_last {L : List K} {i j : Nat} (h : Reach L i j) : j = i ∨ ∃ p, Reach L i p ∧ bit (at' L p).frm j = true := by
  induction h with
  | self => exact .inl rfl
  | @step i m j hb hr ih =>
    rcases ih with rfl | ⟨p, hp, hq⟩
    · exact .inr ⟨i, .self _, hb⟩
    · exact .inr ⟨p, .step hb hp, hq⟩

theorem tips_end {L : List K} (hl : Lc.laceB L = true) {s r u : Int} (h0 : 0 ≤ s) (h1 : s < 1152921504606846976) (hc : closedTo (belows L L.length) s L.length = true) (hi : Inv L s 0 r) (h : Unseen L s 0 r u) : u = tipsTo (belows L L.length) s L.length := by
  have h60 := ((Lc.lace_iff L).1 hl).1
  have hbd := tipsTo_bd (belows L L.length) s L.length h0 h1
  rw [closed_threads hl s h0 h1] at hc
  refine Lc.eq_of_bits _ _ h.lo hbd.1 fun j => ?_
  rw [Bool.eq_iff_iff, h.has j, bit_tips L s L.length L.length (Nat.le_refl _) h60 h0 h1 j]
  constructor
  · rintro ⟨a, b⟩
    refine ⟨a, fun i hil hs hj => ?_⟩
    rw [Bool.eq_false_iff]
    intro hbe
    rcases reach_last ((bel_reach hl i hil j).1 hbe) with e | ⟨p, hp, hq⟩
    · exact hj e
    · have hpl := reach_le hl hil hp
      have := b p (Nat.zero_le _) (by omega) (hi.start p (reach_in hl hc hil hs hp))
      rw [this] at hq; exact Bool.noConfusion hq
  · rintro ⟨a, b⟩
    refine ⟨a, fun i _ hil hr => ?_⟩
    rw [Bool.eq_false_iff]
    intro hbf
    have hs : bit s i = true := by
      rcases hi.sound i hr with h | ⟨i', hil', hs', hre⟩
      · exact h
      · exact reach_in hl hc hil' hs' hre
    have hlt := thread_lt hl hil hbf
    have := b i hil hs (by omega)
    rw [(bel_reach hl i hil j).2 (.step hbf (.self _))] at this
    exact Bool.noConfusion this

/-! ### what the walk meets, in its order -/
def visF (L : List K) : (m : Nat) → m ≤ L.length → Int → List (Fin L.length)
  | 0, _, _ => []
  | m + 1, h, r => if bit r m then ⟨m, h⟩ :: visF L m (Nat.le_of_succ_le h) (orB r (at' L m).frm) else visF L m (Nat.le_of_succ_le h) r

def vis (L : List K) (s : Int) : List (Fin L.length) := visF L L.length (Nat.le_refl _) s

theorem visF_yes (L : List K) (m : Nat) (h : m + 1 ≤ L.length) (r : Int) (hb : bit r m = true) : visF L (m + 1) h r = ⟨m, h⟩ :: visF L m (Nat.le_of_succ_le h) (orB r (at' L m).frm) := by
  show (if bit r m then _ else _) = _
  rw [hb]; rfl
theorem visF_no (L : List K) (m : Nat) (h : m + 1 ≤ L.length) (r : Int) (hb : bit r m = false) : visF L (m + 1) h r = visF L m (Nat.le_of_succ_le h) r := by
  show (if bit r m then _ else _) = _
  rw [hb]; rfl

theorem visF_len (L : List K) (m : Nat) (h : m ≤ L.length) (r : Int) : (visF L m h r).length ≤ m := by
  induction m generalizing r with
  | zero => exact Nat.le_refl _
  | succ m ih =>
    cases hb : bit r m
    · rw [visF_no L m h r hb]; have := ih (Nat.le_of_succ_le h) r; omega
    · rw [visF_yes L m h r hb]; have := ih (Nat.le_of_succ_le h) (orB r (at' L m).frm); simp; omega

theorem vis_len (L : List K) (s : Int) : (vis L s).length ≤ L.length := visF_len L _ _ s

/-- those gathered -/
def gath {n : Nat} (f : Int) (xs : List (Fin n)) : Int := xs.foldl (fun f x => withB f x.val) f
theorem gath_snoc {n : Nat} (f : Int) (xs : List (Fin n)) (x : Fin n) : gath f (xs ++ [x]) = withB (gath f xs) x.val := by simp [gath]

theorem gath_bd {n : Nat} (hn : n ≤ 60) (xs : List (Fin n)) : 0 ≤ gath 0 xs ∧ gath 0 xs < 1152921504606846976 := by
  have : ∀ (xs : List (Fin n)) (f : Int), 0 ≤ f → f < 1152921504606846976 → 0 ≤ gath f xs ∧ gath f xs < 1152921504606846976 := by
    intro xs
    induction xs with
    | nil => intro f h0 h1; exact ⟨h0, h1⟩
    | cons x xs ih =>
      intro f h0 h1
      have hx := x.isLt
      have hb := Bit.withB_bd f h0 h1 x.val (by omega)
      exact ih _ hb.1 hb.2
  exact this xs 0 (by omega) (by omega)

theorem gath_vis {L : List K} (hl : Lc.laceB L = true) (k : Int) : gath 0 (vis L (oneI k)) = metI L k := by
  have h60 := ((Lc.lace_iff L).1 hl).1
  have : ∀ (m : Nat) (h : m ≤ L.length) (r f : Int), Inv L (oneI k) m r → Met L m r f → gath f (visF L m h r) = metI L k := by
    intro m
    induction m with
    | zero => intro h r f hi hm; exact met_end hl hi hm
    | succ m ih =>
      intro h r f hi hm
      cases hb : bit r m
      · rw [visF_no L m h r hb]; exact ih _ r f (inv_skip hi hb) (met_skip hm hb)
      · rw [visF_yes L m h r hb]; exact ih _ _ _ (inv_take hl h hi hb) (met_take hl h hi hm hb)
  exact this L.length (Nat.le_refl _) (oneI k) 0 (inv_start L _ (oneI_bd k).1 (oneI_bd k).2) (met_start L _)

theorem vis_closed {L : List K} (hl : Lc.laceB L = true) (s : Int) (h0 : 0 ≤ s) (h1 : s < 1152921504606846976) : (∀ x ∈ vis L s, bit s x.val = true) ↔ closedTo (belows L L.length) s L.length = true := by
  have : ∀ (m : Nat) (h : m ≤ L.length) (r : Int), Inv L s m r → Kept L s m r → ((∀ x ∈ visF L m h r, bit s x.val = true) ↔ closedTo (belows L L.length) s L.length = true) := by
    intro m
    induction m with
    | zero => intro h r hi hk; exact ⟨fun _ => closed_end hl h0 h1 hi hk, fun _ x hx => by cases hx⟩
    | succ m ih =>
      intro h r hi hk
      cases hb : bit r m
      · rw [visF_no L m h r hb]; exact ih _ r (inv_skip hi hb) (kept_skip hk hb)
      · rw [visF_yes L m h r hb]
        cases hs : bit s m
        · constructor
          · intro hx
            have := hx ⟨m, h⟩ (List.mem_cons_self ..)
            rw [hs] at this; exact Bool.noConfusion this
          · intro hc
            rw [closed_not hl h0 h1 hi hb hs] at hc; exact Bool.noConfusion hc
        · have := ih (Nat.le_of_succ_le h) _ (inv_take hl h hi hb) (kept_take hl h hi hk hs)
          rw [← this]
          constructor
          · intro hx x hm; exact hx x (List.mem_cons_of_mem _ hm)
          · intro hx x hm
            rcases List.mem_cons.1 hm with rfl | hm
            · exact hs
            · exact hx x hm
  exact this L.length (Nat.le_refl _) s (inv_start L _ h0 h1) (kept_start L s s)

/-- what is left of a set when the threads of those are struck -/
def strike (L : List K) (u : Int) (xs : List (Fin L.length)) : Int := xs.foldl (fun u x => bits .andNot .i64 u (at' L x.val).frm) u
theorem strike_snoc (L : List K) (u : Int) (xs : List (Fin L.length)) (x : Fin L.length) : strike L u (xs ++ [x]) = bits .andNot .i64 (strike L u xs) (at' L x.val).frm := by simp [strike]

theorem strike_vis {L : List K} (hl : Lc.laceB L = true) (s : Int) (h0 : 0 ≤ s) (h1 : s < 1152921504606846976) (hc : closedTo (belows L L.length) s L.length = true) : strike L s (vis L s) = tipsTo (belows L L.length) s L.length := by
  have : ∀ (m : Nat) (h : m ≤ L.length) (r u : Int), Inv L s m r → Unseen L s m r u → strike L u (visF L m h r) = tipsTo (belows L L.length) s L.length := by
    intro m
    induction m with
    | zero => intro h r u hi hu; exact tips_end hl h0 h1 hc hi hu
    | succ m ih =>
      intro h r u hi hu
      cases hb : bit r m
      · rw [visF_no L m h r hb]; exact ih _ r u (inv_skip hi hb) (unseen_skip hu hb)
      · rw [visF_yes L m h r hb]; exact ih _ _ _ (inv_take hl h hi hb) (unseen_take hl h hi hu hb)
  exact this L.length (Nat.le_refl _) s s (inv_start L _ h0 h1) (unseen_start L s s h0 h1)

end Sg
end Go.Proofs.YtfjmenhofllchaaGreatDoor

namespace Go.Proofs.YtfjmenhofllchaaGreatDoor
open Go.RowKit
set_option maxRecDepth 100000
namespace Lc
open Kn (K okK)
open Bit (bit withB)

theorem pow60 (n : Nat) (hn : n ≤ 60) : (1 : Int) ≤ 2 ^ n ∧ (2 : Int) ^ n ≤ 1152921504606846976 := by
  have hp : 1 ≤ 2 ^ n := Nat.one_le_two_pow
  have hq : 2 ^ n ≤ 2 ^ 60 := Nat.pow_le_pow_right (by decide) hn
  have hpc : ((2 ^ n : Nat) : Int) = (2 : Int) ^ n := by simp
  omega

theorem wrap60 (n : Nat) (hn : n ≤ 60) : IntKind.i64.wrap (2 ^ n) = 2 ^ n := by
  have := pow60 n hn
  rw [IntKind.wrap_i64]; omega

/-- within the lace -/
def inL (n : Nat) (s : Int) : Bool := decide (0 ≤ s) && decide (s / 2 ^ n = 0)

set_option maxHeartbeats 400000 in
theorem all (a : Option Addr) (cap n : Nat) (w : World) (hn : n ≤ 60) : Calls Tryz.prog 85 #[.slice a n cap] w fun e w' => e = .returned (.int .i64 (2 ^ n - 1)) ∧ w = w' := by
  have h1 := wrap60 n hn
  have h2 := pow60 n hn
  go_enter Tryz.func85, Tryz.ntmps85
  go_wp2
  go_ret
  exact ⟨rfl, rfl⟩

set_option maxHeartbeats 400000 in
theorem holds (a : Option Addr) (cap n : Nat) (s : Int) (w : World) (hn : n ≤ 60) (h0 : -9223372036854775808 ≤ s) (h1 : s ≤ 9223372036854775807) : Calls Tryz.prog 146 #[.slice a n cap, .int .i64 s] w fun e w' => e = .returned (.bool (inL n s)) ∧ w = w' := by
  have HA : Hid ((bits .andNot .i64 s (2 ^ n - 1) == 0) = inL n s) := andNot_zero s n hn h0 h1
  go_enter Tryz.func146, Tryz.ntmps146
  go_wp2_with fail
  refine (all _ _ _ _ hn).mono ?_
  rintro e w1 ⟨rfl, rfl⟩
  go_wp2
  go_ret
  exact ⟨by rw [← HA.out]; rfl, rfl⟩

theorem setB_eq (L : List K) (s : Int) : setB L s = (laceB L && inL L.length s) := rfl

end Lc
end Go.Proofs.YtfjmenhofllchaaGreatDoor

namespace Go.Proofs.YtfjmenhofllchaaGreatDoor
open Go.RowKit
set_option maxRecDepth 100000
attribute [local go_sem] Oper.semAt_some
namespace Sg
open Kn (K okK)
open Bit (bit withB)
open Lc (at' RdK CellsK)

/-- what a round keeps: whatever lay below n₀, and the walk's own box for the lace -/
def KpL (n₀ Bl : Nat) (W W' : World) : Prop := Below n₀ W W' ∧ W'.heap[Bl]? = W.heap[Bl]?
theorem kpL_t {n₀ Bl : Nat} {A B C : World} (h : KpL n₀ Bl A B) (k : KpL n₀ Bl B C) : KpL n₀ Bl A C := ⟨h.1.trans k.1, k.2.trans h.2⟩
theorem kpL_b {n₀ Bl : Nat} {w : World} (hn : n₀ ≤ w.heap.size) (hB : Bl < w.heap.size) (W : World) (l : Nat) (o o' : Obj) (hl : w.heap.size ≤ l) (h : W.heap[l]? = some o) (h1 : o.isCells = false) (h2 : o.isWalk = false) : KpL n₀ Bl W (W.putObj l o') :=
  ⟨belowK_b hn W l o o' hl h h1 h2, World.putObj_heap_other (by omega)⟩
theorem kpL_refl (n₀ Bl : Nat) (W : World) : KpL n₀ Bl W W := ⟨Below.refl _ _, rfl⟩
theorem kpL_put {n₀ Bl : Nat} (W : World) (b : Nat) (hb : n₀ ≤ b) (hB : Bl ≠ b) (u : Value) : KpL n₀ Bl W (W.setCell ⟨b, 0, none⟩ u) :=
  ⟨(Below.refl n₀ W).setCell (p := ⟨b, 0, none⟩) hb u, Below.heap_setCell W ⟨b, 0, none⟩ u Bl hB⟩

theorem cellsK_at {n₀ : Nat} {w w' : World} {g o : Nat} {k : K} (h : CellsK w g o k) (hb : Below n₀ w w') (hg : g < n₀) : CellsK w' g o k where
  c0 := (hb.cell (p := ⟨g, o, none⟩) hg).trans h.c0
  c1 := (hb.cell (p := ⟨g, o + 1, none⟩) hg).trans h.c1
  c2 := (hb.cell (p := ⟨g, o + 2, none⟩) hg).trans h.c2
  c3 := (hb.cell (p := ⟨g, o + 3, none⟩) hg).trans h.c3

theorem cell_block {w w' : World} {b : Nat} (h : w'.heap[b]? = w.heap[b]?) : w'.cell? ⟨b, 0, none⟩ = w.cell? ⟨b, 0, none⟩ := World.cell?_of_block (w := w) h

set_option maxHeartbeats 2000000 in
theorem under1 (n : Nat) (hn : 1 ≤ n) (l Bs Bl n₀ g off cap : Nat) (L : List K) (hlc : Lc.laceB L = true) (s : Int) (h0 : 0 ≤ s) (h1 : s < 1152921504606846976) (hg : g < n₀) (J Jx : List (Fin L.length) → World → Prop)
    (hY : ∀ pre x W, J pre W → pre.length < L.length → YieldAt Fence.wide (n - 1) Tryz.prog l #[.int .i64 (x.val : Int)] W fun e W' =>
      (e = .returned (.bool true) ∧ J (pre ++ [x]) W' ∧ KpL n₀ Bl W W') ∨ (e = .returned (.bool false) ∧ Jx (pre ++ [x]) W'))
    (W : World) (hBs : W.cell? ⟨Bs, 0, none⟩ = some (.int .i64 s)) (hBl : W.cell? ⟨Bl, 0, none⟩ = some (.slice (some ⟨g, off, none⟩) L.length cap)) (hr : RdK W (some ⟨g, off, none⟩) L) (hJ0 : J [] W) :
    CallsIn Fence.wide n Tryz.prog 143 #[.func (.yield l) #[] #[], .pointer (some ⟨Bs, 0, none⟩), .pointer (some ⟨Bl, 0, none⟩)] W fun e W' => (∃ v, e = .returned v) ∧
      ((∃ ys, ys = vis L s ∧ J ys W') ∨ (∃ pre, pre <+: vis L s ∧ Jx pre W')) := by
  have h60 := ((Lc.lace_iff L).1 hlc).1
  refine callsIn_of_wp Tryz.func143 rfl trivial ?_ rfl
  simp only [Tryz.ntmps143, List.size_toArray, List.length_cons, List.length_nil, Nat.reduceAdd, Nat.reduceSub, Array.replicate_succ, Array.replicate_zero, List.push_toArray, List.append_toArray, List.nil_append, List.cons_append]
  gi_wp2
  gi_loopw [4, 5] (fun r i wr => ∃ (m : Nat) (hm : m ≤ L.length) (ri x : Int) (pre : List (Fin L.length)), i = .int .i64 x ∧ x = (m : Int) - 1 ∧ r = .int .i64 ri ∧ Hid (pre ++ visF L m hm ri = vis L s) ∧ Hid (Inv L s m ri) ∧ Hid (J pre wr) ∧ Hid (KpL n₀ Bl W wr))
    (fun _ i _ => (intOf i + 1).toNat)
  case atStart => exact ⟨L.length, Nat.le_refl _, s, _, [], rfl, by first | omega | go_num, rfl, rfl, inv_start L s h0 h1, hJ0, kpL_refl _ _ _⟩
  case round =>
    obtain ⟨m, hm, ri, x, pre, rfl, hx, rfl, HV, HI, HJ, HK⟩ := hrel
    cases m with
    | zero =>
      obtain rfl : x = -1 := by omega
      clear hx
      gi_wp2
      go_end0
      exact ⟨⟨_, rfl⟩, .inl ⟨pre, by have := HV.out; rw [← this]; exact (List.append_nil _).symm, HJ.out⟩⟩
    | succ m =>
      obtain rfl : x = (m : Int) := by omega
      clear hx
      have hml : m < L.length := hm
      have hin : Base.inB (m : Int) = true := (Base.inB_iff _).2 ⟨by omega, by omega⟩
      have hok : Base.okB ri = true := (Base.okB_iff _).2 ⟨HI.out.lo, HI.out.hi⟩
      cases hb : bit ri m
      · have HH : Hid ((Base.okB ri && (Base.inB (m : Int) && bit ri m)) = false) := by show _ = _; simp [hb]
        have HV2 : Hid (pre ++ visF L m (Nat.le_of_succ_le hm) ri = vis L s) := by show _ = _; rw [← visF_no L m hm ri hb]; exact HV.out
        have HI2 : Hid (Inv L s m ri) := inv_skip HI.out hb
        clear hb HV HI hin hok
        gi_wp2_with (first | (gi_at_call 86; refine (callsIn_wide.2 (Base.has _ _ _)).mono ?_; rintro e w' ⟨rfl, rfl⟩; rw [Int.toNat_natCast, HH.out]) | (refine ⟨trivial, ?_⟩; gi_at_call 86; refine (callsIn_wide.2 (Base.has _ _ _)).mono ?_; rintro e w' ⟨rfl, rfl⟩; rw [Int.toNat_natCast, HH.out]))
        go_roundw
        case rel => exact ⟨m, Nat.le_of_succ_le hm, ri, _, pre, by go_num, rfl, rfl, HV2, HI2, HJ, HK⟩
        case measure => simp [intOf]
      · have HH : Hid ((Base.okB ri && (Base.inB (m : Int) && bit ri m)) = true) := by show _ = _; simp [hb, hin, hok]
        have HV2 : Hid ((pre ++ [⟨m, hm⟩]) ++ visF L m (Nat.le_of_succ_le hm) (orB ri (at' L m).frm) = vis L s) := by
          show _ = _
          rw [List.append_assoc, List.singleton_append, ← visF_yes L m hm ri hb]; exact HV.out
        have HI2 : Hid (Inv L s m (orB ri (at' L m).frm)) := inv_take hlc hml HI.out hb
        have hfr := frm_lace hlc _ (Lc.at_mem L m hml)
        have HOr : Hid (bits .or .i64 ri (at' L m).frm = orB ri (at' L m).frm) := or_eq _ _ HI.out.lo HI.out.hi hfr.1 hfr.2
        have hlen : pre.length < L.length := by
          have h1 := congrArg List.length HV2.out
          have h2 := vis_len L s
          simp at h1; omega
        obtain ⟨fn, tmps, assign, body, hy, hR⟩ := hY pre ⟨m, hm⟩ wr HJ.out hlen
        dsimp only at hy
        have HC : Hid (∀ W3, KpL n₀ Bl wr W3 → W3.cell? ⟨Bl, 0, none⟩ = some (.slice (some ⟨g, off, none⟩) L.length cap) ∧ W3.cell? ⟨g, off + m * 4 + 2, none⟩ = some (.int .i64 (at' L m).frm)) := by
          intro W3 hk3
          have hkk := kpL_t HK.out hk3
          obtain ⟨_, hc⟩ := hr.on m hml
          exact ⟨(cell_block hkk.2).trans hBl, (cellsK_at hc hkk.1 hg).c2⟩
        clear hb HV HI hin hok hfr hlen
        gi_wp2_with (first | (gi_at_call 86; refine (callsIn_wide.2 (Base.has _ _ _)).mono ?_; rintro e w' ⟨rfl, rfl⟩; rw [Int.toNat_natCast, HH.out]) | (refine ⟨trivial, ?_⟩; gi_at_call 86; refine (callsIn_wide.2 (Base.has _ _ _)).mono ?_; rintro e w' ⟨rfl, rfl⟩; rw [Int.toNat_natCast, HH.out]))
        refine hR.mono ?_
        rintro e W3 (⟨rfl, hJ3, hk3⟩ | ⟨rfl, hJx3⟩)
        · obtain ⟨cl, cf⟩ := HC.out W3 hk3
          have HK3 : Hid (KpL n₀ Bl W W3) := kpL_t HK.out hk3
          have HJ3 : Hid (J (pre ++ [⟨m, hm⟩]) W3) := hJ3
          clear hk3 hJ3 hR hy HC HK HJ
          gi_wp2
          go_roundw
          case rel => exact ⟨m, Nat.le_of_succ_le hm, _, _, _, by go_num, rfl, by rw [HOr.out], HV2, HI2, HJ3, HK3⟩
          case measure => simp [intOf]
        · gi_wp2
          refine bodyPost_ret (results_none rfl _ _ _) rfl ?_
          exact ⟨⟨_, rfl⟩, .inr ⟨pre ++ [⟨m, hm⟩], ⟨_, HV2.out⟩, hJx3⟩⟩

end Sg
end Go.Proofs.YtfjmenhofllchaaGreatDoor

namespace Go.Proofs.YtfjmenhofllchaaGreatDoor
open Go.RowKit Go.Shelf
set_option maxRecDepth 100000
attribute [local go_sem] Oper.semAt_some
namespace Sg
open Kn (K okK)
open Bit (bit withB)
open Lc (at' RdK CellsK)

theorem boxNew (W : World) (v : Value) (t : TypeId) : (W.alloc (.cells #[v] t)).cell? ⟨W.heap.size, 0, none⟩ = some v ∧ (W.alloc (.cells #[v] t)).frozen? ⟨W.heap.size, 0, none⟩ = false := ⟨by simp, by simp⟩
theorem boxCell {W : World} {a : Addr} {v : Value} (o : Obj) (h : W.cell? a = some v) : (W.alloc o).cell? a = some v := cell_kept h (World.grownBy_alloc W o none) (fun r e => by cases e)
theorem boxFrozen {W : World} {a : Addr} {v : Value} (o : Obj) (h : W.cell? a = some v) (hf : W.frozen? a = false) : (W.alloc o).frozen? a = false := (frozen_kept h (World.grownBy_alloc W o none) (fun r e => by cases e)).trans hf

theorem kpL_drew {n₀ Bl : Nat} {W W' : World} (h : KpL n₀ Bl W W') : KpL n₀ Bl W W'.drew := ⟨h.1.drew, h.2⟩
theorem put_other (W : World) (b c : Nat) (hbc : b ≠ c) (u : Value) : (W.setCell ⟨c, 0, none⟩ u).cell? ⟨b, 0, none⟩ = W.cell? ⟨b, 0, none⟩ := cell_block (Below.heap_setCell W ⟨c, 0, none⟩ u b hbc)

theorem under_stops (n : Nat) (hn : 1 ≤ n) (Bs Bl n₀ g off cap : Nat) (L : List K) (hlc : Lc.laceB L = true) (s : Int) (h0 : 0 ≤ s) (h1 : s < 1152921504606846976) (hg : g < n₀) (w : World) (hs : Bs < w.heap.size) (hl : Bl < w.heap.size)
    (cs : w.cell? ⟨Bs, 0, none⟩ = some (.int .i64 s)) (cl : w.cell? ⟨Bl, 0, none⟩ = some (.slice (some ⟨g, off, none⟩) L.length cap)) (hr : RdK w (some ⟨g, off, none⟩) L) :
    SeqStopsK Fence.wide n Tryz.prog 143 #[.pointer (some ⟨Bs, 0, none⟩), .pointer (some ⟨Bl, 0, none⟩)] (fun x : Fin L.length => #[Value.int .i64 (x.val : Int)]) (KpL n₀ Bl) (fun ys => ys = vis L s) (fun pre => pre <+: vis L s) L.length w := fun l J Jx W hW _ _ hY hJ =>
  under1 n hn l Bs Bl n₀ g off cap L hlc s h0 h1 hg J Jx hY W ((hW.cell (p := ⟨Bs, 0, none⟩) hs).trans cs) ((hW.cell (p := ⟨Bl, 0, none⟩) hl).trans cl) (hr.below hW) hJ

set_option maxHeartbeats 400000 in
theorem under (a : Option Addr) (len cap : Nat) (s : Int) (w : World) : Calls Tryz.prog 121 #[.slice a len cap, .int .i64 s] w fun e w' =>
    e = .returned (.func (.func 143) #[] #[.pointer (some ⟨w.heap.size + 1, 0, none⟩), .pointer (some ⟨w.heap.size, 0, none⟩)]) ∧ w' = (w.alloc (.cells #[.slice a len cap] 62)).alloc (.cells #[.int .i64 s] 64) := by
  go_enter Tryz.func121, Tryz.ntmps121
  go_wp2
  go_ret
  exact ⟨rfl, rfl⟩

theorem with_one (k : Int) : Base.withI 0 k = oneI k := by
  unfold Base.withI oneI
  by_cases h : 0 ≤ k ∧ k < 60
  · rw [(Base.inB_iff k).2 h, (Base.okB_iff 0).2 (by omega), if_pos h]
    simp [Bit.withB]
  · have : Base.inB k = false := by
      cases hb : Base.inB k
      · rfl
      · exact absurd ((Base.inB_iff k).1 hb) h
    rw [this, if_neg h]; simp

set_option maxHeartbeats 2000000 in
theorem below (g off cap : Nat) (L : List K) (k : Int) (w : World) (hlc : Lc.laceB L = true) (hg : g < w.heap.size) (hr : RdK w (some ⟨g, off, none⟩) L) :
    Calls Tryz.prog 84 #[.slice (some ⟨g, off, none⟩) L.length cap, .int .i64 k] w fun e w' => e = .returned (.int .i64 (metI L k)) ∧ Below w.heap.size w w' := by
  have h60 := ((Lc.lace_iff L).1 hlc).1
  refine (callsIn_wide (n := 3)).1 ?_
  refine callsIn_of_wp_marks Tryz.func84 rfl trivial ?_ rfl
  simp only [Tryz.ntmps84, List.size_toArray, List.length_cons, List.length_nil, Nat.reduceAdd, Nat.reduceSub, Array.replicate_succ, Array.replicate_zero, List.push_toArray, List.append_toArray, List.nil_append, List.cons_append]
  gi_wp2_with (first | (refine ⟨trivial, ?_⟩; gi_at_call 87; refine (callsIn_wide.2 (Base.withM _ _ _)).mono ?_; rintro e w' ⟨rfl, rfl⟩; rw [with_one]) | (refine ⟨trivial, ?_⟩; gi_at_call 121; refine (callsIn_wide.2 (under _ _ _ _ _)).mono ?_; rintro e w' ⟨rfl, rfl⟩))
  have hB0 : Below w.heap.size w (((w.alloc (.cells #[.int .i64 0] 64)).alloc (.cells #[.slice (some ⟨g, off, none⟩) L.length cap] 62)).alloc (.cells #[.int .i64 (oneI k)] 64)) := (((Below.refl _ w).alloc (Nat.le_refl _) _).alloc (by simp) _).alloc (by simp; omega) _
  have c0 := boxNew w (.int .i64 0) 64
  have c1 := boxNew (w.alloc (.cells #[.int .i64 0] 64)) (.slice (some ⟨g, off, none⟩) L.length cap) 62
  have c2 := boxNew ((w.alloc (.cells #[.int .i64 0] 64)).alloc (.cells #[.slice (some ⟨g, off, none⟩) L.length cap] 62)) (.int .i64 (oneI k)) 64
  simp only [World.size_alloc] at c1 c2
  have hob := oneI_bd k
  refine wpIn_rangeFunc_ownF rfl (by omega) (gf := 143) (lb := #[.pointer (some ⟨w.heap.size + 1 + 1, 0, none⟩), .pointer (some ⟨w.heap.size + 1, 0, none⟩)]) rfl trivial (enters_of Tryz.func143 (by kernel_rfl) rfl)
    (under_stops 2 (by omega) (w.heap.size + 1 + 1) (w.heap.size + 1) w.heap.size g off cap L hlc (oneI k) hob.1 hob.2 hg _ (by simp) (by simp) c2.1 (boxCell _ c1.1) (hr.below hB0)) kpL_t (kpL_b (by simp; omega) (by simp)) (Below.refl _ _) (fun _ => rfl)
    (fun pre W => (W.cell? ⟨w.heap.size, 0, none⟩ = some (.int .i64 (gath 0 pre)) ∧ W.frozen? ⟨w.heap.size, 0, none⟩ = false) ∧ Below w.heap.size w W)
    (fun _ _ _ => False)
    (OwnFrom.and (Own.from (fun s A B row hs hg hr => ⟨cell_kept hs.1 hg hr, (frozen_kept hs.1 hg hr).trans hs.2⟩) _) (ownFrom_below (Nat.le_refl _) (by simp; omega)))
    (fun _ _ _ _ _ hs _ _ => hs)
    ⟨⟨boxCell _ (boxCell _ c0.1), boxFrozen _ (boxCell _ c0.1) (boxFrozen _ c0.1 c0.2)⟩, hB0⟩
    (fun x => { tmps := #[.slice (some ⟨g, off, none⟩) L.length cap, .int .i64 k, undef, undef, .int .i64 0, .pointer (some ⟨w.heap.size, 0, none⟩), .int .i64 (x.val : Int), .slice (some ⟨g, off, none⟩) L.length cap, .int .i64 k, .int .i64 (oneI k), .func (.func 143) #[] #[.pointer (some ⟨w.heap.size + 1 + 1, 0, none⟩), .pointer (some ⟨w.heap.size + 1, 0, none⟩)], .int .i64 (x.val : Int), undef, undef, undef, undef], defers := [] }) ?assign ?body ?done ?stop
  case assign =>
    intro l x W K hK
    gi_wp2
    exact hK
  case body =>
    rintro l pre x W ⟨⟨hc, hf⟩, hB⟩ _
    have hx := x.isLt
    have hgb := gath_bd h60 pre
    have HW : Hid (Base.withI (gath 0 pre) (x.val : Int) = gath 0 (pre ++ [x])) := by
      show _ = _
      unfold Base.withI
      rw [(Base.okB_iff _).2 hgb, (Base.inB_iff _).2 ⟨by omega, by omega⟩, gath_snoc]; simp
    clear hgb
    gi_wp2_with (refine ⟨trivial, ?_⟩; gi_at_call 87; refine (CallsIn.inRound l (callsIn_wide.2 (Base.withM _ _ _))).mono ?_; rintro e w' ⟨rfl, rfl⟩; rw [HW.out])
    exact ⟨KeepsOthers.setCell _ _ _, kpL_put W w.heap.size (Nat.le_refl _) (by omega) _, ⟨World.cell?_setCell_same' _ _ _ (by rw [hc]; rfl), by rw [World.frozen?_setCell]; exact hf⟩, hB.setCell (p := ⟨w.heap.size, 0, none⟩) (Nat.le_refl _) _⟩
  case done =>
    rintro D ys W hD rfl ⟨⟨hc, _⟩, hB⟩ hK
    rw [gath_vis hlc k] at hc
    gi_wp2
    refine ⟨by simp, .inl ⟨_, _, rfl, run_takeDeferred hK, ?_⟩⟩
    exact ⟨_, results_tmp rfl _ _ _, rfl, hB.trans (belowK_b (w := w) (Nat.le_refl _) W D _ _ (by simp at hD; omega) hK rfl rfl)⟩
  case stop =>
    rintro D c pre W _ _ h _
    exact h.elim

theorem vis_in {L : List K} {s : Int} {pre : List (Fin L.length)} (hp : pre <+: vis L s) {y : Fin L.length} (hy : y ∈ pre) : y ∈ vis L s := hp.subset hy

set_option maxHeartbeats 2000000 in
theorem closed (g off cap : Nat) (L : List K) (s : Int) (w : World) (hlc : Lc.laceB L = true) (hs0 : -9223372036854775808 ≤ s) (hs1 : s ≤ 9223372036854775807) (hg : g < w.heap.size) (hr : RdK w (some ⟨g, off, none⟩) L) :
    Calls Tryz.prog 131 #[.slice (some ⟨g, off, none⟩) L.length cap, .int .i64 s] w fun e w' => e = .returned (.bool (Lc.inL L.length s && closedTo (belows L L.length) s L.length)) ∧ Below w.heap.size w w' := by
  have h60 := ((Lc.lace_iff L).1 hlc).1
  have hB1 : Below w.heap.size w ((w.alloc (.cells #[.int .i64 s] 64)).alloc (.cells #[.bool false] 4)) := ((Below.refl _ w).alloc (Nat.le_refl _) _).alloc (by simp) _
  have a0 := boxNew w (.int .i64 s) 64
  have a1 := boxNew (w.alloc (.cells #[.int .i64 s] 64)) (.bool false) 4
  simp only [World.size_alloc] at a1
  cases hin : Lc.inL L.length s
  · have HT : Hid ((false && closedTo (belows L L.length) s L.length) = false) := rfl
    have HB1 : Hid (Below w.heap.size w ((w.alloc (.cells #[.int .i64 s] 64)).alloc (.cells #[.bool false] 4))) := hB1
    have HIN : Hid (Lc.inL L.length s = false) := hin
    clear hin hB1
    rw [HT.out]
    go_enter Tryz.func131, Tryz.ntmps131
    go_wp2_with (go_at_call 146; refine (Lc.holds _ _ _ s _ h60 hs0 hs1).mono ?_; rintro e w' ⟨rfl, rfl⟩; rw [HIN.out])
    refine bodyPost_ret (v := .bool false) (by simp [results, Tryz.f131, go_sem]) rfl ?_
    exact ⟨rfl, HB1.out⟩
  · have hpar : 0 ≤ s ∧ s < 1152921504606846976 := by
      have hset : Lc.setB L s = true := by rw [Lc.setB_eq, hlc, hin]; rfl
      obtain ⟨_, q0, q1, _, _, _⟩ := Lc.setB_parts hset
      exact ⟨q0, q1⟩
    have HIN : Hid (Lc.inL L.length s = true) := hin
    clear hin
    have hok : Base.okB s = true := (Base.okB_iff _).2 hpar
    have HVC := vis_closed hlc s hpar.1 hpar.2
    refine (callsIn_wide (n := 3)).1 ?_
    refine callsIn_of_wp_marks Tryz.func131 rfl trivial ?_ rfl
    simp only [Tryz.ntmps131, List.size_toArray, List.length_cons, List.length_nil, Nat.reduceAdd, Nat.reduceSub, Array.replicate_succ, Array.replicate_zero, List.push_toArray, List.append_toArray, List.nil_append, List.cons_append]
    gi_wp2_with (first | (refine ⟨trivial, ?_⟩; gi_at_call 146; refine (callsIn_wide.2 (Lc.holds _ _ _ s _ h60 hs0 hs1)).mono ?_; rintro e w' ⟨rfl, rfl⟩; rw [HIN.out]) | (refine ⟨trivial, ?_⟩; gi_at_call 121; refine (callsIn_wide.2 (under _ _ _ _ _)).mono ?_; rintro e w' ⟨rfl, rfl⟩))
    have hB0 : Below w.heap.size w ((((w.alloc (.cells #[.int .i64 s] 64)).alloc (.cells #[.bool false] 4)).alloc (.cells #[.slice (some ⟨g, off, none⟩) L.length cap] 62)).alloc (.cells #[.int .i64 s] 64)) := (hB1.alloc (by simp; omega) _).alloc (by simp; omega) _
    have c2 := boxNew ((w.alloc (.cells #[.int .i64 s] 64)).alloc (.cells #[.bool false] 4)) (.slice (some ⟨g, off, none⟩) L.length cap) 62
    have c3 := boxNew (((w.alloc (.cells #[.int .i64 s] 64)).alloc (.cells #[.bool false] 4)).alloc (.cells #[.slice (some ⟨g, off, none⟩) L.length cap] 62)) (.int .i64 s) 64
    simp only [World.size_alloc] at c2 c3
    refine wpIn_rangeFunc_ownF rfl (by omega) (gf := 143) (lb := #[.pointer (some ⟨w.heap.size + 1 + 1 + 1, 0, none⟩), .pointer (some ⟨w.heap.size + 1 + 1, 0, none⟩)]) rfl trivial (enters_of Tryz.func143 (by kernel_rfl) rfl)
      (under_stops 2 (by omega) (w.heap.size + 1 + 1 + 1) (w.heap.size + 1 + 1) w.heap.size g off cap L hlc s hpar.1 hpar.2 hg _ (by simp) (by simp) c3.1 (boxCell _ c2.1) (hr.below hB0)) kpL_t (kpL_b (by simp; omega) (by simp)) (Below.refl _ _) (fun _ => rfl)
      (fun pre W => ((∀ y ∈ pre, bit s y.val = true) ∧ W.cell? ⟨w.heap.size, 0, none⟩ = some (.int .i64 s) ∧ W.cell? ⟨w.heap.size + 1, 0, none⟩ = some (.bool false) ∧ W.frozen? ⟨w.heap.size + 1, 0, none⟩ = false) ∧ Below w.heap.size w W)
      (fun c pre W => (c = .ret ∧ (∃ y ∈ pre, bit s y.val = false) ∧ W.cell? ⟨w.heap.size + 1, 0, none⟩ = some (.bool false)) ∧ Below w.heap.size w W)
      (OwnFrom.and (Own.from (fun s A B row hs hg hr => ⟨hs.1, cell_kept hs.2.1 hg hr, cell_kept hs.2.2.1 hg hr, (frozen_kept hs.2.2.1 hg hr).trans hs.2.2.2⟩) _) (ownFrom_below (Nat.le_refl _) (by simp; omega)))
      (fun c => OwnFrom.and (Own.from (fun s A B row hs hg hr => ⟨hs.1, hs.2.1, cell_kept hs.2.2 hg hr⟩) _) (ownFrom_below (Nat.le_refl _) (by simp; omega)))
      ⟨⟨by simp, boxCell _ (boxCell _ (boxCell _ a0.1)), boxCell _ (boxCell _ a1.1), boxFrozen _ (boxCell _ a1.1) (boxFrozen _ a1.1 a1.2)⟩, hB0⟩
      (fun x => { tmps := #[.slice (some ⟨g, off, none⟩) L.length cap, .int .i64 s, undef, .pointer (some ⟨w.heap.size, 0, none⟩), .pointer (some ⟨w.heap.size + 1, 0, none⟩), .int .i64 (x.val : Int), .slice (some ⟨g, off, none⟩) L.length cap, .int .i64 s, .bool true, .bool false, .slice (some ⟨g, off, none⟩) L.length cap, .int .i64 s, .func (.func 143) #[] #[.pointer (some ⟨w.heap.size + 1 + 1 + 1, 0, none⟩), .pointer (some ⟨w.heap.size + 1 + 1, 0, none⟩)], .int .i64 (x.val : Int), undef, undef, undef, undef], defers := [] }) ?assign ?body ?done ?stop
    case assign =>
      intro l x W K hK
      gi_wp2
      exact hK
    case body =>
      rintro l pre x W ⟨⟨hp, hcs, hcr, hfr⟩, hB⟩ _
      have hx := x.isLt
      have hin : Base.inB (x.val : Int) = true := (Base.inB_iff _).2 ⟨by omega, by omega⟩
      cases hb : bit s x.val
      · have HH : Hid ((Base.okB s && (Base.inB (x.val : Int) && bit s (x.val : Int).toNat)) = false) := by show _ = _; rw [Int.toNat_natCast, hb]; simp
        gi_wp2_with (refine ⟨trivial, ?_⟩; gi_at_call 86; refine (CallsIn.inRound l (callsIn_wide.2 (Base.has _ _ _))).mono ?_; rintro e w' ⟨rfl, rfl⟩; rw [HH.out])
        exact ⟨KeepsOthers.setCell _ _ _, ⟨rfl, ⟨x, List.mem_append.2 (.inr (by simp)), hb⟩, World.cell?_setCell_same' _ _ _ (by rw [hcr]; rfl)⟩, hB.setCell (p := ⟨w.heap.size + 1, 0, none⟩) (by simp) _⟩
      · have HH : Hid ((Base.okB s && (Base.inB (x.val : Int) && bit s (x.val : Int).toNat)) = true) := by show _ = _; rw [Int.toNat_natCast, hb, hin, hok]; rfl
        gi_wp2_with (refine ⟨trivial, ?_⟩; gi_at_call 86; refine (CallsIn.inRound l (callsIn_wide.2 (Base.has _ _ _))).mono ?_; rintro e w' ⟨rfl, rfl⟩; rw [HH.out])
        exact ⟨KeepsOthers.refl _, kpL_refl _ _ _, ⟨fun y hy => (List.mem_append.1 hy).elim (hp y) (fun e => by simp at e; subst e; exact hb), hcs, hcr, hfr⟩, hB⟩
    case done =>
      rintro D ys W hD rfl ⟨⟨hall, _, hcr, hfr⟩, hB⟩ hK
      have hcl := HVC.1 hall
      gi_wp2
      have hK' := (KeepsOthers.setCell W ⟨w.heap.size + 1, 0, none⟩ (.bool true)).same D _ hK rfl
      refine ⟨by simp, .inl ⟨_, _, rfl, run_takeDeferred hK', ?_⟩⟩
      have hc5 := cell_kept (World.cell?_setCell_same' W ⟨w.heap.size + 1, 0, none⟩ (.bool true) (by rw [hcr]; rfl)) (grownBy_putObj' _ D (.deferred none)) (fun r e => by cases e; exact ⟨_, hK', rfl⟩)
      refine ⟨.bool true, ?_, by rw [hcl]; rfl, (hB.setCell (p := ⟨w.heap.size + 1, 0, none⟩) (by simp) _).trans (belowK_b (w := w) (Nat.le_refl _) _ D _ _ (by simp at hD; omega) hK' rfl rfl)⟩
      simp [results, Tryz.f131, go_sem, hc5]
    case stop =>
      rintro D c pre W hD hpre ⟨⟨rfl, ⟨y, hy, hyb⟩, hcr⟩, hB⟩ hK
      have hcl : closedTo (belows L L.length) s L.length = false := by
        rw [Bool.eq_false_iff]
        intro hc
        have := HVC.2 hc y (vis_in hpre hy)
        rw [hyb] at this; exact Bool.noConfusion this
      gi_wp2
      refine ⟨by simp, .inl ⟨_, _, rfl, run_takeDeferred hK, ?_⟩⟩
      have hc5 := cell_kept hcr (grownBy_putObj' _ D (.deferred none)) (fun r e => by cases e; exact ⟨_, hK, rfl⟩)
      refine ⟨.bool false, ?_, by rw [hcl]; rfl, hB.trans (belowK_b (w := w) (Nat.le_refl _) W D _ _ (by simp at hD; omega) hK rfl rfl)⟩
      simp [results, Tryz.f131, go_sem, hc5]

set_option maxHeartbeats 2000000 in
theorem tips (g off cap : Nat) (L : List K) (s : Int) (w : World) (hlc : Lc.laceB L = true) (h0 : 0 ≤ s) (h1 : s < 1152921504606846976) (hcl : closedTo (belows L L.length) s L.length = true) (hg : g < w.heap.size) (hr : RdK w (some ⟨g, off, none⟩) L) :
    Calls Tryz.prog 106 #[.slice (some ⟨g, off, none⟩) L.length cap, .int .i64 s] w fun e w' => e = .returned (.int .i64 (tipsTo (belows L L.length) s L.length)) ∧ Below w.heap.size w w' := by
  have h60 := ((Lc.lace_iff L).1 hlc).1
  have HSV := strike_vis hlc s h0 h1 hcl
  refine (callsIn_wide (n := 3)).1 ?_
  refine callsIn_of_wp_marks Tryz.func106 rfl trivial ?_ rfl
  simp only [Tryz.ntmps106, List.size_toArray, List.length_cons, List.length_nil, Nat.reduceAdd, Nat.reduceSub, Array.replicate_succ, Array.replicate_zero, List.push_toArray, List.append_toArray, List.nil_append, List.cons_append]
  gi_wp2_with (refine ⟨trivial, ?_⟩; gi_at_call 121; refine (callsIn_wide.2 (under _ _ _ _ _)).mono ?_; rintro e w' ⟨rfl, rfl⟩)
  have hB0 : Below w.heap.size w ((((w.alloc (.cells #[.slice (some ⟨g, off, none⟩) L.length cap] 62)).alloc (.cells #[.int .i64 s] 64)).alloc (.cells #[.slice (some ⟨g, off, none⟩) L.length cap] 62)).alloc (.cells #[.int .i64 s] 64)) := ((((Below.refl _ w).alloc (Nat.le_refl _) _).alloc (by simp) _).alloc (by simp; omega) _).alloc (by simp; omega) _
  have a0 := boxNew w (.slice (some ⟨g, off, none⟩) L.length cap) 62
  have a1 := boxNew (w.alloc (.cells #[.slice (some ⟨g, off, none⟩) L.length cap] 62)) (.int .i64 s) 64
  have c2 := boxNew ((w.alloc (.cells #[.slice (some ⟨g, off, none⟩) L.length cap] 62)).alloc (.cells #[.int .i64 s] 64)) (.slice (some ⟨g, off, none⟩) L.length cap) 62
  have c3 := boxNew (((w.alloc (.cells #[.slice (some ⟨g, off, none⟩) L.length cap] 62)).alloc (.cells #[.int .i64 s] 64)).alloc (.cells #[.slice (some ⟨g, off, none⟩) L.length cap] 62)) (.int .i64 s) 64
  simp only [World.size_alloc] at a1 c2 c3
  refine wpIn_rangeFunc_ownF rfl (by omega) (gf := 143) (lb := #[.pointer (some ⟨w.heap.size + 1 + 1 + 1, 0, none⟩), .pointer (some ⟨w.heap.size + 1 + 1, 0, none⟩)]) rfl trivial (enters_of Tryz.func143 (by kernel_rfl) rfl)
    (under_stops 2 (by omega) (w.heap.size + 1 + 1 + 1) (w.heap.size + 1 + 1) w.heap.size g off cap L hlc s h0 h1 hg _ (by simp) (by simp) c3.1 (boxCell _ c2.1) (hr.below hB0)) kpL_t (kpL_b (by simp; omega) (by simp)) (Below.refl _ _) (fun _ => rfl)
    (fun pre W => (W.cell? ⟨w.heap.size, 0, none⟩ = some (.slice (some ⟨g, off, none⟩) L.length cap) ∧ W.cell? ⟨w.heap.size + 1, 0, none⟩ = some (.int .i64 (strike L s pre)) ∧ W.frozen? ⟨w.heap.size + 1, 0, none⟩ = false) ∧ Below w.heap.size w W)
    (fun _ _ _ => False)
    (OwnFrom.and (Own.from (fun s A B row hs hg hr => ⟨cell_kept hs.1 hg hr, cell_kept hs.2.1 hg hr, (frozen_kept hs.2.1 hg hr).trans hs.2.2⟩) _) (ownFrom_below (Nat.le_refl _) (by simp; omega)))
    (fun _ _ _ _ _ hs _ _ => hs)
    ⟨⟨boxCell _ (boxCell _ (boxCell _ a0.1)), boxCell _ (boxCell _ a1.1), boxFrozen _ (boxCell _ a1.1) (boxFrozen _ a1.1 a1.2)⟩, hB0⟩
    (fun x => { tmps := #[.slice (some ⟨g, off, none⟩) L.length cap, .int .i64 s, .pointer (some ⟨w.heap.size, 0, none⟩), undef, .int .i64 0, .pointer (some ⟨w.heap.size + 1, 0, none⟩), .int .i64 (x.val : Int), .int .i64 s, .slice (some ⟨g, off, none⟩) L.length cap, .int .i64 s, .func (.func 143) #[] #[.pointer (some ⟨w.heap.size + 1 + 1 + 1, 0, none⟩), .pointer (some ⟨w.heap.size + 1 + 1, 0, none⟩)], .int .i64 (x.val : Int), undef, undef, undef, undef, undef, undef, undef, undef], defers := [] }) ?assign ?body ?done ?stop
  case assign =>
    intro l x W K hK
    gi_wp2
    exact hK
  case body =>
    rintro l pre x W ⟨⟨hcl', hcu, hfu⟩, hB⟩ _
    have hx := x.isLt
    have hxi : (x.val : Int) < (L.length : Int) := by omega
    obtain ⟨_, hc⟩ := hr.on x.val hx
    obtain ⟨_, _, cf, _⟩ := hc.below hB hg
    have HS : Hid (strike L s (pre ++ [x]) = bits .andNot .i64 (strike L s pre) (at' L x.val).frm) := strike_snoc L s pre x
    have hmx : Tryz.prog.follows .mixedOrders = true := by kernel_rfl
    clear hc
    generalize (at' L x.val).frm = y at cf HS
    generalize hxv : x.val = xv at cf hx hxi ⊢
    gi_wp2
    gi_region_with_o fail
    all_goals gi_wp2
    all_goals (try go_bits)
    all_goals exact ⟨(KeepsOthers.setCell _ _ _).trans (KeepsOthers.drew _), kpL_drew (kpL_put W (w.heap.size + 1) (by omega) (by omega) _), ⟨(put_other W _ _ (by omega) _).trans hcl', by rw [HS.out]; exact World.cell?_setCell_same' _ _ _ (by rw [hcu]; rfl), by rw [frozen_drew_own, World.frozen?_setCell]; exact hfu⟩, (hB.setCell (p := ⟨w.heap.size + 1, 0, none⟩) (by simp) _).drew⟩
  case done =>
    rintro D ys W hD rfl ⟨⟨_, hcu, _⟩, hB⟩ hK
    rw [HSV] at hcu
    gi_wp2
    refine ⟨by simp, .inl ⟨_, _, rfl, run_takeDeferred hK, ?_⟩⟩
    exact ⟨_, results_tmp rfl _ _ _, rfl, hB.trans (belowK_b (w := w) (Nat.le_refl _) W D _ _ (by simp at hD; omega) hK rfl rfl)⟩
  case stop =>
    rintro D c pre W _ _ h _
    exact h.elim

/-- what the walk from a has met has b just where a sees b -/
theorem met_sees {L : List K} (hlc : Lc.laceB L = true) (a b : Int) : (Base.okB (metI L a) && (Base.inB b && bit (metI L a) b.toNat)) = seesB L a b := by
  have h60 := ((Lc.lace_iff L).1 hlc).1
  unfold seesB isB metI
  rw [hlc]
  by_cases ha : 0 ≤ a ∧ a < (L.length : Int)
  · obtain ⟨p, rfl⟩ := Int.eq_ofNat_of_zero_le ha.1
    have hp : p < L.length := by omega
    have hbd := bel_bd L p (by omega)
    rw [if_pos ha, Int.toNat_natCast, (Base.okB_iff _).2 hbd]
    by_cases hb : 0 ≤ b ∧ b < (L.length : Int)
    · rw [(Base.inB_iff b).2 ⟨hb.1, by omega⟩, decide_eq_true ha.1, decide_eq_true ha.2, decide_eq_true hb.1, decide_eq_true hb.2]; rfl
    · have e2 : (decide (0 ≤ b) && (decide (b < (L.length : Int)) && true)) = false := by
        rw [Bool.eq_false_iff]; intro h; simp at h; exact hb h
      rw [e2]
      simp only [Bool.false_and, Bool.and_false, Bool.true_and]
      rw [Bool.eq_false_iff]
      intro h
      rw [Bool.and_eq_true] at h
      have hb0 := (Base.inB_iff b).1 h.1
      have := reach_le hlc hp ((bel_reach hlc p hp b.toNat).1 h.2)
      exact hb ⟨hb0.1, by omega⟩
  · have e1 : (decide (0 ≤ a) && (decide (a < (L.length : Int)) && true)) = false := by
      rw [Bool.eq_false_iff]; intro h; simp at h; exact ha h
    rw [if_neg ha, e1, Lc.bit_zero]; simp

/-- a number that there is a knot for -/
theorem all_has {n : Nat} (hn : n ≤ 60) (k : Int) : (Base.okB (2 ^ n - 1) && (Base.inB k && bit (2 ^ n - 1) k.toNat)) = (decide (0 ≤ k) && decide (k < (n : Int))) := by
  have hp := Lc.pow60 n hn
  have hok : Base.okB (2 ^ n - 1) = true := (Base.okB_iff _).2 ⟨by omega, by omega⟩
  have hb : bit (2 ^ n - 1) k.toNat = decide (k.toNat < n) := by
    have e : ((2 : Int) ^ n - 1) = ((2 ^ n - 1 : Nat) : Int) := by rw [Int.ofNat_sub Nat.one_le_two_pow]; simp
    rw [Bit.bit_testBit _ (by omega), e, Int.toNat_natCast, Nat.testBit_two_pow_sub_one]
  rw [hok, hb, Bool.true_and, Bool.eq_iff_iff]
  simp only [Bool.and_eq_true, decide_eq_true_eq, Base.inB_iff]
  omega

theorem closedB_eq (L : List K) (s : Int) (hl : Lc.laceB L = true) : (Lc.inL L.length s && closedTo (belows L L.length) s L.length) = closedB L s := by
  unfold closedB; rw [Lc.setB_eq, hl]; rfl

end Sg
end Go.Proofs.YtfjmenhofllchaaGreatDoor

namespace Go.Proofs.YtfjmenhofllchaaGreatDoor
open Go.RowKit
set_option maxRecDepth 100000
namespace Rm
open Kn (K okK)
open Bit (bit memTo)
open Lc (at' RdK laceB flat OwnK cellsOf setB)
open Sg (bel belows orB closedB tipsI tipsTo closedTo seesB belowI isB)
open Cur (At)

theorem code_below2 {w w' : World} {a : Option Addr} {len : Nat} (h : Cur.Code w a len) (hb : Below w.heap.size w w') : Cur.Code w' a len := by
  rcases h with h | ⟨b, off, ha, hlt, hc⟩
  · exact .inl h
  · refine .inr ⟨b, off, ha, Nat.lt_of_lt_of_le hlt hb.size, fun j hj => ?_⟩
    obtain ⟨z, hz, hz'⟩ := hc j hj
    exact ⟨z, (hb.cell (p := ⟨b, off + j, none⟩) hlt).trans hz, hz'⟩

/-- a list that lies there -/
structure LiesS (w : World) (g : Nat) (L : List K) : Prop where
  rd : RdK w (some ⟨g, 0, none⟩) L
  len : L.length ≤ 61
  words : Lc.WordsOk L

theorem LiesS.below {w w' : World} {g : Nat} {L : List K} (h : LiesS w g L) (hb : Below w.heap.size w w') : LiesS w' g L := ⟨h.rd.below hb, h.len, h.words⟩

theorem drawn_liesS {B : Nat} {w w' : World} {v : Value} {L : List K} (h : Drawn B w w' v L) : ∃ g cp, v = .slice (some ⟨g, 0, none⟩) L.length cp ∧ L.length ≤ cp ∧ LiesS w' g L := by
  obtain ⟨g, cp, rfl, hcp, _, _, _, hrd, _⟩ := Lc.ownK_shape h.own
  exact ⟨g, cp, rfl, hcp, hrd, h.len, fun k hk => by have := h.word k hk; omega⟩

/-- all that hangs below those -/
def accT (L : List K) (l : List Int) : Int := l.foldl (fun a x => orB a (bel L x.toNat)) 0
theorem accT_snoc (L : List K) (l : List Int) (x : Int) : accT L (l ++ [x]) = orB (accT L l) (bel L x.toNat) := by simp [accT]

theorem accT_fold (L : List K) (l : List Int) (hl : ∀ x ∈ l, x.toNat < 60) : ∀ f : Int, 0 ≤ f → f < 1152921504606846976 →
    (0 ≤ l.foldl (fun a x => orB a (bel L x.toNat)) f ∧ l.foldl (fun a x => orB a (bel L x.toNat)) f < 1152921504606846976) ∧ ∀ j, bit (l.foldl (fun a x => orB a (bel L x.toNat)) f) j = (bit f j || l.any (fun x => bit (bel L x.toNat) j)) := by
  induction l with
  | nil => intro f h0 h1; exact ⟨⟨h0, h1⟩, fun j => by simp⟩
  | cons x l ih =>
    intro f h0 h1
    have hb := Sg.bel_bd L x.toNat (hl x (List.mem_cons_self ..))
    have ho := Sg.orB_bd f (bel L x.toNat) h0 h1 hb.1 hb.2
    have r := ih (fun y hy => hl y (List.mem_cons_of_mem _ hy)) (orB f (bel L x.toNat)) ho.1 ho.2
    refine ⟨r.1, fun j => ?_⟩
    show bit (l.foldl (fun a x => orB a (bel L x.toNat)) (orB f (bel L x.toNat))) j = _
    rw [r.2 j, Sg.bit_orB _ _ h0 hb.1, List.any_cons, Bool.or_assoc]

theorem accT_bd (L : List K) (l : List Int) (hl : ∀ x ∈ l, x.toNat < 60) : 0 ≤ accT L l ∧ accT L l < 1152921504606846976 := (accT_fold L l hl 0 (by omega) (by omega)).1
theorem bit_accT (L : List K) (l : List Int) (hl : ∀ x ∈ l, x.toNat < 60) (j : Nat) : bit (accT L l) j = l.any (fun x => bit (bel L x.toNat) j) := by
  rw [show accT L l = l.foldl (fun a x => orB a (bel L x.toNat)) 0 from rfl, (accT_fold L l hl 0 (by omega) (by omega)).2 j, Lc.bit_zero]; rfl

/-- what the law knows of a closed set -/
structure ClosedIs (L : List K) (s : Int) : Prop where
  lace : laceB L = true
  s0 : 0 ≤ s
  s1 : s < 1152921504606846976
  top : s / 2 ^ L.length = 0
  cl : closedTo (belows L L.length) s L.length = true

theorem closedIs {L : List K} {s : Int} (h : closedB L s = true) : ClosedIs L s := by
  unfold Sg.closedB at h
  rw [Bool.and_eq_true] at h
  obtain ⟨hl, h0, h1, ht, _, _⟩ := Lc.setB_parts h.1
  exact ⟨hl, h0, h1, ht, h.2⟩

theorem in_len {L : List K} {s : Int} (h : ClosedIs L s) {j : Nat} (hj : bit s j = true) : j < L.length := by
  apply Classical.byContradiction
  intro hn
  rw [Lc.bit_hi s L.length h.s0 h.top j (by omega)] at hj
  exact Bool.noConfusion hj

theorem tips_iff {L : List K} {s : Int} (h : ClosedIs L s) (j : Nat) : bit (tipsTo (belows L L.length) s L.length) j = true ↔ bit s j = true ∧ ∀ i, i < L.length → bit s i = true → j ≠ i → bit (bel L i) j = false :=
  Sg.bit_tips L s L.length L.length (Nat.le_refl _) ((Lc.lace_iff L).1 h.lace).1 h.s0 h.s1 j

/-- each one of the set hangs below a tip -/
theorem below_tip {L : List K} {s : Int} (h : ClosedIs L s) : ∀ (d i j : Nat), L.length - i = d → bit s i = true → bit (bel L i) j = true → ∃ x, bit (tipsTo (belows L L.length) s L.length) x = true ∧ bit (bel L x) j = true := by
  intro d
  induction d using Nat.strongRecOn with
  | _ d ih =>
    intro i j hd hi hb
    have hil := in_len h hi
    by_cases ht : bit (tipsTo (belows L L.length) s L.length) i = true
    · exact ⟨i, ht, hb⟩
    · have : ∃ i', i' < L.length ∧ bit s i' = true ∧ i ≠ i' ∧ bit (bel L i') i = true := by
        apply Classical.byContradiction
        intro hn
        refine ht ((tips_iff h i).2 ⟨hi, fun i' h1 h2 h3 => ?_⟩)
        cases hq : bit (bel L i') i
        · rfl
        · exact absurd ⟨i', h1, h2, h3, hq⟩ hn
      obtain ⟨i', h1, h2, h3, h4⟩ := this
      have hle := Sg.reach_le h.lace h1 ((Sg.bel_reach h.lace i' h1 i).1 h4)
      exact ih (L.length - i') (by omega) i' j rfl h2 (Sg.bel_trans h.lace h1 h4 hb)

theorem tips_mem {L : List K} {s : Int} (h : ClosedIs L s) {x : Int} (hx : x ∈ Memb.memI (tipsTo (belows L L.length) s L.length)) : ∃ j : Nat, x = (j : Int) ∧ j < L.length ∧ bit s j = true ∧ bit (tipsTo (belows L L.length) s L.length) j = true := by
  have hb := Sg.tipsTo_bd (belows L L.length) s L.length h.s0 h.s1
  unfold Memb.memI at hx
  rw [(Base.okB_iff _).2 hb, if_pos rfl, Bit.mem_memTo] at hx
  obtain ⟨j, _, rfl, hj⟩ := hx
  have hs := ((tips_iff h j).1 hj).1
  exact ⟨j, rfl, in_len h hs, hs, hj⟩

theorem all_tips {L : List K} {s : Int} (h : ClosedIs L s) : accT L (Memb.memI (tipsTo (belows L L.length) s L.length)) = s := by
  have h60 := ((Lc.lace_iff L).1 h.lace).1
  have hb := Sg.tipsTo_bd (belows L L.length) s L.length h.s0 h.s1
  have hl : ∀ x ∈ Memb.memI (tipsTo (belows L L.length) s L.length), x.toNat < 60 := fun x hx => by
    obtain ⟨j, rfl, hj, _⟩ := tips_mem h hx
    rw [Int.toNat_natCast]; omega
  refine Lc.eq_of_bits _ _ (accT_bd L _ hl).1 h.s0 fun j => ?_
  rw [bit_accT L _ hl, Bool.eq_iff_iff, List.any_eq_true]
  constructor
  · rintro ⟨x, hx, hxb⟩
    obtain ⟨i, rfl, hi, hs, _⟩ := tips_mem h hx
    rw [Int.toNat_natCast] at hxb
    exact (Sg.closed_iff L s L.length h60 h.s0 h.s1).1 h.cl i hi hs j hxb
  · intro hj
    have hjl := in_len h hj
    obtain ⟨x, hx, hxb⟩ := below_tip h _ j j rfl hj ((Sg.bel_reach h.lace j hjl j).2 (.self _))
    refine ⟨(x : Int), ?_, by rw [Int.toNat_natCast]; exact hxb⟩
    have hxs := ((tips_iff h x).1 hx).1
    have hxl := in_len h hxs
    unfold Memb.memI
    rw [(Base.okB_iff _).2 hb, if_pos rfl, Bit.mem_memTo]
    exact ⟨x, by omega, rfl, hx⟩

theorem tips_apart {L : List K} {s : Int} (h : ClosedIs L s) {x y : Int} (hx : x ∈ Memb.memI (tipsTo (belows L L.length) s L.length)) (hy : y ∈ Memb.memI (tipsTo (belows L L.length) s L.length)) (hne : x ≠ y) : seesB L x y = false := by
  obtain ⟨i, rfl, hi, hsi, _⟩ := tips_mem h hx
  obtain ⟨j, rfl, hj, _, htj⟩ := tips_mem h hy
  unfold Sg.seesB
  rw [Int.toNat_natCast, Int.toNat_natCast, ((tips_iff h j).1 htj).2 i hi hsi (by omega)]
  simp

theorem below_tips {L : List K} {s : Int} (h : ClosedIs L s) {x : Int} (hx : x ∈ Memb.memI (tipsTo (belows L L.length) s L.length)) : belowI L x = bel L x.toNat ∧ x.toNat < 60 := by
  have h60 := ((Lc.lace_iff L).1 h.lace).1
  obtain ⟨i, rfl, hi, _⟩ := tips_mem h hx
  refine ⟨?_, by rw [Int.toNat_natCast]; omega⟩
  unfold Sg.belowI
  have : isB L (i : Int) = true := by unfold Sg.isB; rw [h.lace]; simp; omega
  rw [this]; rfl

theorem rise_distinct (s : Int) (i j : Nat) (hi : i < (Memb.memI s).length) (hj : j < (Memb.memI s).length) (hne : i ≠ j) : (Memb.memI s).getD i 0 ≠ (Memb.memI s).getD j 0 := by
  have key : ∀ (l : List Int), l.Pairwise (· < ·) → ∀ i j, i < j → i < l.length → j < l.length → l.getD i 0 < l.getD j 0 := by
    intro l hl i j hij h1 h2
    have := List.pairwise_iff_getElem.1 hl i j h1 h2 hij
    simpa [h1, h2] using this
  have hp : (Memb.memI s).Pairwise (· < ·) := by
    unfold Memb.memI
    split
    · have : ∀ k, (memTo s k).Pairwise (· < ·) := by
        intro k
        induction k with
        | zero => exact List.Pairwise.nil
        | succ k ih =>
          rw [Bit.memTo_succ]
          refine List.pairwise_append.2 ⟨ih, ?_, ?_⟩
          · split
            · exact List.pairwise_singleton _ _
            · exact List.Pairwise.nil
          · intro x hx y hy
            obtain ⟨j, hj, rfl, _⟩ := (Bit.mem_memTo s k x).1 hx
            split at hy
            · simp at hy; omega
            · cases hy
      exact this 60
    · exact List.Pairwise.nil
  rcases Nat.lt_or_gt_of_ne hne with h | h
  · have := key _ hp i j h hi hj; omega
  · have := key _ hp j i h hj hi; omega

end Rm
end Go.Proofs.YtfjmenhofllchaaGreatDoor

namespace Go.Proofs.YtfjmenhofllchaaGreatDoor
open Go.RowKit
set_option maxRecDepth 100000
namespace Ch
open Kn (K okK)
open Lc (at' laceB)
open Sg (isB)
open Rm (coinsB)

/-- whose turn a wave is -/
def leadI (C : List Int) (wave : Int) : Int := if wave < (C.length : Int) then C.getD wave.toNat 0 else wave % 4
/-- does a knot lead? -/
def leadK (C : List Int) (k : K) : Bool := decide (k.round % 3 = 0) && decide (k.hand = leadI C (k.round / 3))
/-- the document's WaveOf -/
def waveI (r : Int) : Int := if Kn.in19 r then r / 3 else -1
def in6 (x : Int) : Bool := decide (0 ≤ x) && decide (x ≤ 6)
/-- the document's LeaderOf -/
def leaderI (C : List Int) (wave : Int) : Int := if coinsB C && in6 wave then leadI C wave else -1
/-- the document's Leads -/
def leadsB (L : List K) (C : List Int) (k : Int) : Bool := isB L k && (coinsB C && leadK C (at' L k.toNat))

theorem lead_iff (C : List Int) (k : K) : leadK C k = true ↔ k.round % 3 = 0 ∧ k.hand = leadI C (k.round / 3) := by
  unfold leadK; rw [Bool.and_eq_true, decide_eq_true_eq, decide_eq_true_eq]
theorem lead_hand {C : List Int} {x y : K} (hx : leadK C x = true) (hy : leadK C y = true) (hr : x.round = y.round) : x.hand = y.hand := by
  rw [((lead_iff C x).1 hx).2, ((lead_iff C y).1 hy).2, hr]
theorem lead_gap {C : List Int} {x y : K} (hx : leadK C x = true) (hy : leadK C y = true) (hr : x.round < y.round) : x.round + 3 ≤ y.round := by
  have := ((lead_iff C x).1 hx).1
  have := ((lead_iff C y).1 hy).1
  omega
theorem coins_in {C : List Int} (h : coinsB C = true) {i : Nat} (hi : i < C.length) : 0 ≤ C.getD i 0 ∧ C.getD i 0 ≤ 3 := by
  unfold Rm.coinsB Rm.coinsTo at h
  rw [Bool.and_eq_true, List.all_eq_true] at h
  have := h.1 i (by simpa using hi)
  unfold Kn.in3 at this
  simpa using this
theorem coins_len {C : List Int} (h : coinsB C = true) : C.length ≤ 6 := by
  unfold Rm.coinsB at h
  rw [Bool.and_eq_true, decide_eq_true_eq] at h
  exact h.2
theorem lead_bd {C : List Int} (h : coinsB C = true) {wave : Int} (h0 : 0 ≤ wave) : 0 ≤ leadI C wave ∧ leadI C wave ≤ 3 := by
  unfold leadI
  split
  · exact coins_in h (by omega)
  · omega

end Ch
end Go.Proofs.YtfjmenhofllchaaGreatDoor

namespace Go.Proofs.YtfjmenhofllchaaGreatDoor
open Go.RowKit
set_option maxRecDepth 100000
namespace Ch
open Kn (K okK)
open Lc (at' RdK laceB WordsOk)
open Sg (isB)
open Rm (coinsB)

theorem rd_below {w w' : World} {ao : Option Addr} {l : List Int} (h : Lst.Rd w ao l) (hao : ∀ c, ao = some ⟨c, 0, none⟩ → c < w.heap.size) (hb : Below w.heap.size w w') : Lst.Rd w' ao l := by
  rcases h with h | ⟨g, rfl, hc⟩
  · exact .inl h
  · exact .inr ⟨g, rfl, fun j hj => (hb.cell (p := ⟨g, j, none⟩) (hao g rfl)).trans (hc j hj)⟩

theorem l1In6 (x : Int) (w : World) : Calls Tryz.prog 47 #[.int .i64 x, .int .i64 0, .int .i64 6] w fun e w' => e = .returned (.bool (in6 x)) ∧ w = w' := Base.l1In x 0 6 w

end Ch
end Go.Proofs.YtfjmenhofllchaaGreatDoor

namespace Go.Proofs.YtfjmenhofllchaaGreatDoor
open Go.RowKit
set_option maxRecDepth 100000
namespace Rm
open Kn (K okK)
open Lc (at' RdK laceB flat OwnK cellsOf)
open Cur (At)

/-- the coins drawn so far, right or not -/
structure CoSt (c : Nat) (a : Option Addr) (len cap : Nat) (W wr : World) (v : Value) (l : List Int) : Prop where
  at' : At c a len cap wr
  fr : FrC c W wr
  own : wr.ownsRow W.heap.size 2 1 v l.length (l.map (Value.int .i64))
  ne : v ≠ .slice none 0 0

theorem co_step {c : Nat} {a : Option Addr} {len cap : Nat} {W wr w1 w2 : World} {v v' : Value} {l : List Int} {x : Int} {o : Obj} (s : CoSt c a len cap W wr v l) (hcb : CurB c a len W.heap.size) (hA : At c a len cap w1) (hG : wr.grownBy w1 (some c)) (ho : w2.ownsRow W.heap.size 2 1 v' (l.length + 1) (l.map (Value.int .i64) ++ [.int .i64 x])) (hg : (w1.alloc o).grownBy w2 v.ownBlock) (hn : ¬ v' = .slice none 0 0) :
    CoSt c a len cap W w2 v' (l ++ [x]) := by
  have hlt := World.ownsRow.lt s.own
  have hf1 : Fr (fun y => v.ownBlock = some y) w1 w2 := (Fr.alloc _ w1 o).trans (Fr.of_own hg) (fun _ hx _ => hx)
  have hW1 : W.heap.size ≤ w1.heap.size := Nat.le_trans s.fr.size hG.size
  refine ⟨at_belowB hA hcb (hf1.toBelow hW1 (fun y hy => (hlt y hy).1)), ?_, ?_, hn⟩
  · exact (s.fr.trans (Fr.of_grown hG) (fun _ hx _ => hx)).trans hf1 (fun y hy hl => by have := (hlt y hy).1; omega)
  · simpa using ho
theorem CoSt.grown {c : Nat} {a : Option Addr} {len cap : Nat} {W wr w1 : World} {v : Value} {l : List Int} (s : CoSt c a len cap W wr v l) (hcW : c < W.heap.size) (hA : At c a len cap w1) (hG : wr.grownBy w1 (some c)) : CoSt c a len cap W w1 v l :=
  ⟨hA, s.fr.trans (Fr.of_grown hG) (fun _ hx _ => hx), own_fr (Fr.of_grown hG) s.own (fun g hg e => by have := (World.ownsRow.lt s.own g hg).1; omega), s.ne⟩

/-- how the drawing of coins ends -/
def CoinsPost (c : Nat) (a : Option Addr) (len cap : Nat) (w : World) (e : Ending) (w' : World) : Prop := ∃ g cc C, e = .returned (.slice (some ⟨g, 0, none⟩) C.length cc) ∧ C.length ≤ 7 ∧ Memb.Own w.heap.size w' (some ⟨g, 0, none⟩) cc C ∧ At c a len cap w' ∧ w.grownBy w' (some c)

theorem co_post {c : Nat} {a : Option Addr} {len cap : Nat} {w wr : World} {v : Value} {l : List Int} (s : CoSt c a len cap w wr v l) (hl : l.length ≤ 7) : CoinsPost c a len cap w (.returned v) wr := by
  obtain ⟨g, gc, hv, _, _⟩ := own_some s.own s.ne
  subst hv
  exact ⟨g, gc, l, rfl, hl, s.own, s.at', s.fr.grown⟩

theorem new_three (W : World) (t : TypeId) (j : Nat) (hj : j < 3) : ∃ y : Int, (W.alloc (.cells #[.int .i64 (-1), .int .i64 3, .int .i64 4] t)).cell? ⟨W.heap.size, j, none⟩ = some (.int .i64 y) := by
  match j, hj with
  | 0, _ => exact ⟨-1, by simp⟩
  | 1, _ => exact ⟨3, by simp⟩
  | 2, _ => exact ⟨4, by simp⟩

theorem own_zeros (w : World) (B n : Nat) (hB : B ≤ w.heap.size) (hn : n ≤ 100) : (w.alloc (.cells (madeCells #[.int .i64 0] n) 2)).ownsRow B 2 1 (.slice (some ⟨w.heap.size, 0, none⟩) n n) n ((List.replicate n (0 : Int)).map (Value.int .i64)) := by
  refine ⟨by simp, .inr ⟨w.heap.size, n, madeCells #[.int .i64 0] n, rfl, hB, by show (w.heap.push _)[w.heap.size]? = _; rw [Array.getElem?_push_size], Nat.le_refl _, by unfold maxLen; omega, by rw [size_madeCells]; simp, ?_⟩⟩
  apply List.ext_getElem
  · rw [List.length_take, Array.length_toList, size_madeCells]; simp
  · intro i h1 h2
    simp [madeCells, Nat.mod_one]
theorem co_zeros {c : Nat} {a : Option Addr} {len cap : Nat} {w w7 : World} {n : Nat} (hA : At c a len cap w7) (hf : FrC c w w7) (hn : n ≤ 100) : CoSt c a len cap w (w7.alloc (.cells (madeCells #[.int .i64 0] n) 2)) (.slice (some ⟨w7.heap.size, 0, none⟩) n n) (List.replicate n 0) :=
  ⟨Draw.at_alloc hA _, hf.trans (Fr.alloc _ w7 _) (fun _ hx _ => hx), by have := own_zeros w7 w.heap.size n hf.size hn; simpa using this, by simp⟩

/-- coins that lie in memory of the law's own -/
structure CoinsL (w : World) (g : Nat) (C : List Int) : Prop where
  rd : Lst.Rd w (some ⟨g, 0, none⟩) C
  lt : g < w.heap.size
  len : C.length ≤ 7
theorem CoinsL.below {w w' : World} {g : Nat} {C : List Int} (h : CoinsL w g C) (hb : Below w.heap.size w w') : CoinsL w' g C :=
  ⟨Ch.rd_below h.rd (fun c e => by injection e with e; injection e with e; subst e; exact h.lt) hb, Nat.lt_of_lt_of_le h.lt hb.size, h.len⟩
theorem CoinsL.at {w : World} {g : Nat} {C : List Int} (h : CoinsL w g C) : ∀ c, some (⟨g, 0, none⟩ : Addr) = some ⟨c, 0, none⟩ → c < w.heap.size := fun c e => by injection e with e; injection e with e; subst e; exact h.lt
theorem coinsL_of {B : Nat} {w : World} {g cc : Nat} {C : List Int} (h : Memb.Own B w (some ⟨g, 0, none⟩) cc C) (hl : C.length ≤ 7) : CoinsL w g C := ⟨Lst.own_rd h, (World.ownsRow.lt h g rfl).2, hl⟩
theorem CoinsL.cell {w : World} {g : Nat} {C : List Int} (h : CoinsL w g C) {j : Nat} (hj : j < C.length) : w.cell? ⟨g, j, none⟩ = some (.int .i64 (C.getD j 0)) := by
  rcases h.rd with e | ⟨g', e, hc⟩
  · rw [e] at hj; simp at hj
  · injection e with e; injection e with e; subst e; exact hc j hj

end Rm
end Go.Proofs.YtfjmenhofllchaaGreatDoor

namespace Go.Proofs.YtfjmenhofllchaaGreatDoor
open Go.RowKit
set_option maxRecDepth 100000
namespace Db
open Kn (K okK)
open Bit (bit withB)
open Lc (at' RdK WordsOk laceB setB)
open Sg (isB bel belows)

/-- of one hand, and neither sees the other -/
def dblN (L : List K) (i j : Nat) : Bool := decide ((at' L i).hand = (at' L j).hand) && (!bit (bel L i) j && !bit (bel L j) i)
/-- the document's Doubled -/
def doubledB (L : List K) (a b : Int) : Bool := isB L a && (isB L b && dblN L a.toNat b.toNat)
/-- all that are doubled with one -/
def dblS (L : List K) (i : Nat) : Nat → Int
  | 0 => 0
  | n + 1 => if dblN L i n then withB (dblS L i n) n else dblS L i n
/-- the document's DoublesOf -/
def doublesI (L : List K) (a : Int) : Int := if isB L a then dblS L a.toNat L.length else -1

theorem dblS_bd (L : List K) (i n : Nat) (hn : n ≤ 60) : 0 ≤ dblS L i n ∧ dblS L i n < 1152921504606846976 := by
  induction n with
  | zero => exact ⟨Int.le_refl 0, show (0 : Int) < 1152921504606846976 by decide⟩
  | succ n ih =>
    have ih := ih (by omega)
    unfold dblS
    split
    · exact Bit.withB_bd _ ih.1 ih.2 n (by omega)
    · exact ih

theorem bit_dblS (L : List K) (i n : Nat) (hn : n ≤ 60) (j : Nat) : bit (dblS L i n) j = (decide (j < n) && dblN L i j) := by
  induction n with
  | zero => unfold dblS; rw [Lc.bit_zero]; simp
  | succ n ih =>
    have ih := ih (by omega)
    have hb := dblS_bd L i n (by omega)
    unfold dblS
    cases hd : dblN L i n
    · rw [if_neg (by simp), ih]
      by_cases e : j = n
      · subst e; simp [hd]
      · rw [show decide (j < n + 1) = decide (j < n) from by rw [Bool.eq_iff_iff]; simp; omega]
    · rw [if_pos rfl, Bit.bit_withB _ hb.1, ih]
      by_cases e : j = n
      · subst e; simp [hd]
      · rw [show decide (j < n + 1) = decide (j < n) from by rw [Bool.eq_iff_iff]; simp; omega]; simp [e]

theorem bel_hi {L : List K} (hl : laceB L = true) {i j : Nat} (hi : i < L.length) (hj : i < j) : bit (bel L i) j = false := by
  rw [Bool.eq_false_iff]
  intro h
  have := Sg.reach_le hl hi ((Sg.bel_reach hl i hi j).1 h)
  omega
theorem bel_self {L : List K} (hl : laceB L = true) {i : Nat} (hi : i < L.length) : bit (bel L i) i = true := (Sg.bel_reach hl i hi i).2 (.self _)

theorem dbl_n {L : List K} (hl : laceB L = true) {i j : Nat} (hi : i < L.length) (hj : j < L.length) : dblB L (belows L L.length) i j = dblN L i j := by
  unfold dblB dblN pairB
  rw [Sg.belows_get L L.length i hi, Sg.belows_get L L.length j hj]
  by_cases h1 : j < i
  · rw [if_pos h1, bel_hi hl hj h1]; simp
  · by_cases h2 : i < j
    · rw [if_neg h1, if_pos h2, bel_hi hl hi h2]
      rw [show decide ((at' L j).hand = (at' L i).hand) = decide ((at' L i).hand = (at' L j).hand) from by rw [Bool.eq_iff_iff]; simp [eq_comm]]
      simp
    · obtain rfl : i = j := by omega
      rw [if_neg h1, if_neg h2, bel_self hl hi]; simp

theorem dbl_bit {L : List K} (hl : laceB L = true) {D : Nat → Int} (h : Dbl L (belows L L.length) L.length 0 D) {i : Nat} (hi : i < L.length) (j : Nat) : bit (D i) j = (decide (j < L.length) && dblN L i j) := by
  rw [(h i hi).2 j]
  by_cases hj : j < L.length
  · rw [dbl_n hl hi hj]
    have : doneB L.length 0 i j = true := by unfold doneB; simp [hi, hj]
    rw [this]; simp [hj]
  · have : doneB L.length 0 i j = false := by unfold doneB; simp [hj]
    rw [this]; simp [hj]

theorem dbl_eq {L : List K} (hl : laceB L = true) {D : Nat → Int} (h : Dbl L (belows L L.length) L.length 0 D) {i : Nat} (hi : i < L.length) : D i = dblS L i L.length := by
  have h60 := ((Lc.lace_iff L).1 hl).1
  exact Lc.eq_of_bits _ _ (h i hi).1.1 (dblS_bd L i _ h60).1 fun j => by rw [dbl_bit hl h hi j, bit_dblS L i _ h60]

/-- the model's table of the doubled ones, with what it stands on -/
theorem table (g off cap : Nat) (L : List K) (w : World) (hl : laceB L = true) (hr : RdK w (some ⟨g, off, none⟩) L) :
    Calls Tryz.prog 43 #[.slice (some ⟨g, off, none⟩) L.length cap] w fun e w' => ∃ bo bc, e = .returned (.slice bo L.length bc) ∧ Below w.heap.size w w' ∧
      Calls Tryz.prog 78 #[.slice (some ⟨g, off, none⟩) L.length cap, .slice bo L.length bc] w' fun e2 w2 => ∃ D, e2 = .returned (.slice (some ⟨w'.heap.size, 0, none⟩) L.length L.length) ∧ RowI w2 w'.heap.size L.length D ∧ Dbl L (belows L L.length) L.length 0 D ∧ Below w'.heap.size w' w2 := by
  have h60 := ((Lc.lace_iff L).1 hl).1
  refine (Sg.l4All (some ⟨g, off, none⟩) cap L w h60 (Sg.frm_lace hl) hr).mono ?_
  rintro e w1 ⟨bo, bc, rfl, hown, hb1⟩
  have hbl := Sg.belows_len L L.length
  refine ⟨bo, bc, by rw [hbl], hb1, ?_⟩
  have h5 := l5All (some ⟨g, off, none⟩) cap L bo bc (belows L L.length) w1 h60 hbl (Sg.belows_in L L.length h60) (hr.below hb1) (Lst.own_rd hown) (fun g' e => by subst e; exact (World.ownsRow.lt hown g' rfl).2)
  rw [hbl] at h5
  exact h5

set_option maxHeartbeats 1600000 in
theorem specDoublesOf (g off cap : Nat) (L : List K) (a : Int) (w : World) (hcap : L.length ≤ cap) (hw : WordsOk L) (hr : RdK w (some ⟨g, off, none⟩) L) :
    Calls Tryz.prog 34 #[.slice (some ⟨g, off, none⟩) L.length cap, .int .i64 a] w fun e w' => e = .returned (.int .i64 (doublesI L a)) ∧ Below w.heap.size w w' := by
  go_enter Tryz.func34, Tryz.ntmps34
  go_wp2_with fail
  refine (Sg.l4Is g off cap L a _ hcap hw hr).mono ?_
  rintro e w1 ⟨rfl, hb1⟩
  have hr1 := hr.below hb1
  cases his : isB L a
  · have HT : Hid (doublesI L a = -1) := by show _ = _; unfold doublesI; rw [his]; rfl
    clear his
    go_wp2
    go_ret
    exact ⟨by rw [HT.out]; rfl, hb1⟩
  · have HT : Hid (doublesI L a = dblS L a.toNat L.length) := by show _ = _; unfold doublesI; rw [his]; rfl
    obtain ⟨h0, h1, hlc⟩ := Sg.isB_parts his
    clear his
    obtain ⟨p, rfl⟩ := Int.eq_ofNat_of_zero_le h0
    have hp : p < L.length := by omega
    rw [Int.toNat_natCast] at HT
    have HLC : Hid (laceB L = true) := hlc
    clear hlc
    go_wp2_with fail
    refine (table g off cap L _ HLC.out hr1).mono ?_
    rintro e w2 ⟨bo, bc, rfl, hb2, h5⟩
    have hB2 := hb1.trans (hb2.mono hb1.size)
    clear hb1 hb2 hr1 hr
    go_wp2_with fail
    refine h5.mono ?_
    rintro e w3 ⟨D, rfl, hrow, hD, hb3⟩
    have hB3 := hB2.trans (hb3.mono hB2.size)
    have cp := hrow.rd p hp
    rw [dbl_eq HLC.out hD hp] at cp
    clear hb3 hB2 hrow hD h5
    go_wp2
    go_ret
    exact ⟨by rw [HT.out]; rfl, hB3⟩

end Db
end Go.Proofs.YtfjmenhofllchaaGreatDoor

namespace Go.Proofs.YtfjmenhofllchaaGreatDoor
open Go.RowKit
set_option maxRecDepth 100000
namespace Nd
open Kn (K okK)
open Bit (bit withB memTo)
open Lc (at' laceB setB)
open Sg (isB bel)
open Db (dblN dblS doublesI)

/-- a sees b and nothing that is doubled with b -/
def nodN (L : List K) (a b : Nat) : Bool := bit (bel L a) b && (bits .and .i64 (bel L a) (dblS L b L.length) == 0)
/-- the document's Nods -/
def nodsB (L : List K) (a b : Int) : Bool := isB L a && (isB L b && nodN L a.toNat b.toNat)
/-- those of the first that nod to b -/
def nodS (L : List K) (b : Nat) : Nat → Int
  | 0 => 0
  | n + 1 => if nodN L n b then withB (nodS L b n) n else nodS L b n
/-- the document's Nodders -/
def noddersI (L : List K) (s b : Int) : Int := if setB L s && isB L b then bits .and .i64 s (nodS L b.toNat L.length) else -1

theorem nodS_bd (L : List K) (b n : Nat) (hn : n ≤ 60) : 0 ≤ nodS L b n ∧ nodS L b n < 1152921504606846976 := by
  induction n with
  | zero => exact ⟨Int.le_refl 0, show (0 : Int) < 1152921504606846976 by decide⟩
  | succ n ih =>
    have h := ih (by omega)
    unfold nodS; split
    · exact Bit.withB_bd _ h.1 h.2 n (by omega)
    · exact h

theorem bit_nodS (L : List K) (b n : Nat) (hn : n ≤ 60) (j : Nat) : bit (nodS L b n) j = (decide (j < n) && nodN L j b) := by
  induction n with
  | zero => show bit 0 j = _; rw [Lc.bit_zero]; simp
  | succ n ih =>
    have h := nodS_bd L b n (by omega)
    unfold nodS
    cases hd : nodN L n b
    · rw [if_neg (by simp), ih (by omega)]
      by_cases e : j = n
      · subst e; rw [hd]; simp
      · have : decide (j < n + 1) = decide (j < n) := by simp; omega
        rw [this]
    · rw [if_pos rfl, Bit.bit_withB _ h.1, ih (by omega)]
      by_cases e : j = n
      · subst e; rw [hd]; simp
      · have : decide (j < n + 1) = decide (j < n) := by simp; omega
        rw [this, decide_eq_false e, Bool.false_or]

theorem nod_iff {L : List K} (h60 : L.length ≤ 60) {a b : Nat} (ha : a < 60) : nodN L a b = true ↔ bit (bel L a) b = true ∧ ∀ j, j < L.length → bit (bel L a) j = true → dblN L b j = false := by
  have h1 := Sg.bel_bd L a ha
  have h2 := Db.dblS_bd L b L.length h60
  unfold nodN
  rw [Bool.and_eq_true, beq_iff_eq]
  have hz := Lc.and_zero_iff (bel L a) (dblS L b L.length) h1.1 (by omega) h2.1 (by omega)
  constructor
  · rintro ⟨hb, he⟩
    refine ⟨hb, fun j hj hbj => ?_⟩
    rw [Bool.eq_false_iff]
    intro hd
    exact hz.2 ⟨j, hbj, by rw [Db.bit_dblS L b _ h60, hd]; simp [hj]⟩ he
  · rintro ⟨hb, hno⟩
    refine ⟨hb, ?_⟩
    apply Classical.byContradiction
    intro hne
    obtain ⟨j, h3, h4⟩ := hz.1 hne
    rw [Db.bit_dblS L b _ h60, Bool.and_eq_true, decide_eq_true_eq] at h4
    rw [hno j h4.1 h3] at h4
    exact Bool.noConfusion h4.2

/-- nobody nods to two that are doubled -/
theorem nod_one {L : List K} (h60 : L.length ≤ 60) {a b d : Nat} (ha : a < 60) (hd : d < L.length) (hn : nodN L a b = true) (hb : dblN L b d = true) : nodN L a d = false := by
  rw [Bool.eq_false_iff]
  intro h2
  have h3 := ((nod_iff h60 ha).1 h2).1
  rw [((nod_iff h60 ha).1 hn).2 d hd h3] at hb
  exact Bool.noConfusion hb

/-- who nods is no earlier one -/
theorem nod_le {L : List K} (hl : laceB L = true) {a b : Nat} (ha : a < L.length) (hn : nodN L a b = true) : b ≤ a := by
  apply Classical.byContradiction
  intro h
  have h60 := ((Lc.lace_iff L).1 hl).1
  have h1 := ((nod_iff h60 (by omega)).1 hn).1
  rw [Db.bel_hi hl ha (by omega)] at h1
  exact Bool.noConfusion h1

end Nd
end Go.Proofs.YtfjmenhofllchaaGreatDoor

namespace Go.Proofs.YtfjmenhofllchaaGreatDoor
open Go.RowKit
set_option maxRecDepth 100000
namespace Sl
open Kn (K okK)
open Bit (bit withB memTo)
open Lc (at' laceB setB handsN hasHand)
open Sg (isB bel)
open Nd (nodN nodS)

theorem and_bd (a b : Int) (h0 : 0 ≤ a) (h1 : a < 1152921504606846976) (h2 : 0 ≤ b) (h3 : b < 1152921504606846976) : 0 ≤ bits .and .i64 a b ∧ bits .and .i64 a b < 1152921504606846976 := by
  rw [Lc.i64_and a b h0 (by omega) h2 (by omega)]
  have := Nat.and_le_left (n := a.toNat) (m := b.toNat)
  omega
theorem bit_and (a b : Int) (h1 : 0 ≤ a) (h2 : a < 1152921504606846976) (h3 : 0 ≤ b) (h4 : b < 1152921504606846976) (i : Nat) : bit (bits .and .i64 a b) i = (bit a i && bit b i) := by
  rw [Lc.i64_and a b h1 (by omega) h3 (by omega), Bit.bit_testBit _ (by omega), Int.toNat_natCast, Nat.testBit_and, ← Bit.bit_testBit _ h1, ← Bit.bit_testBit _ h3]

/-- those below a that nod to b -/
def nodAt (L : List K) (a b : Nat) : Int := bits .and .i64 (bel L a) (nodS L b L.length)
/-- three hands of those below a nodded to b -/
def sealN (L : List K) (a b : Nat) : Bool := decide (3 ≤ handsN L (nodAt L a b))
/-- the document's Seals -/
def sealsB (L : List K) (a b : Int) : Bool := isB L a && (isB L b && sealN L a.toNat b.toNat)
/-- those of the first that seal b -/
def sealS (L : List K) (b : Nat) : Nat → Int
  | 0 => 0
  | n + 1 => if sealN L n b then withB (sealS L b n) n else sealS L b n
/-- the document's Sealers -/
def sealersI (L : List K) (s b : Int) : Int := if setB L s && isB L b then bits .and .i64 s (sealS L b.toNat L.length) else -1
/-- those of the first that a seals -/
def sealedS (L : List K) (a : Nat) : Nat → Int
  | 0 => 0
  | n + 1 => if sealN L a n then withB (sealedS L a n) n else sealedS L a n
/-- the document's SealedOf -/
def sealedI (L : List K) (a : Int) : Int := if isB L a then sealedS L a.toNat L.length else -1

theorem nodAt_bd {L : List K} (h60 : L.length ≤ 60) {a : Nat} (ha : a < 60) (b : Nat) : 0 ≤ nodAt L a b ∧ nodAt L a b < 1152921504606846976 :=
  and_bd _ _ (Sg.bel_bd L a ha).1 (Sg.bel_bd L a ha).2 (Nd.nodS_bd L b _ h60).1 (Nd.nodS_bd L b _ h60).2
theorem bit_nodAt {L : List K} (h60 : L.length ≤ 60) {a : Nat} (ha : a < 60) (b i : Nat) : bit (nodAt L a b) i = (bit (bel L a) i && (decide (i < L.length) && nodN L i b)) := by
  unfold nodAt
  rw [bit_and _ _ (Sg.bel_bd L a ha).1 (Sg.bel_bd L a ha).2 (Nd.nodS_bd L b _ h60).1 (Nd.nodS_bd L b _ h60).2, Nd.bit_nodS L b _ h60]

theorem sealS_bd (L : List K) (b n : Nat) (hn : n ≤ 60) : 0 ≤ sealS L b n ∧ sealS L b n < 1152921504606846976 := by
  induction n with
  | zero => exact ⟨Int.le_refl 0, show (0 : Int) < 1152921504606846976 by decide⟩
  | succ n ih =>
    have h := ih (by omega)
    unfold sealS; split
    · exact Bit.withB_bd _ h.1 h.2 n (by omega)
    · exact h
theorem bit_sealS (L : List K) (b n : Nat) (hn : n ≤ 60) (j : Nat) : bit (sealS L b n) j = (decide (j < n) && sealN L j b) := by
  induction n with
  | zero => show bit 0 j = _; rw [Lc.bit_zero]; simp
  | succ n ih =>
    have h := sealS_bd L b n (by omega)
    unfold sealS
    cases hd : sealN L n b
    · rw [if_neg (by simp), ih (by omega)]
      by_cases e : j = n
      · subst e; rw [hd]; simp
      · have : decide (j < n + 1) = decide (j < n) := by simp; omega
        rw [this]
    · rw [if_pos rfl, Bit.bit_withB _ h.1, ih (by omega)]
      by_cases e : j = n
      · subst e; rw [hd]; simp
      · have : decide (j < n + 1) = decide (j < n) := by simp; omega
        rw [this, decide_eq_false e, Bool.false_or]
theorem sealedS_bd (L : List K) (a n : Nat) (hn : n ≤ 60) : 0 ≤ sealedS L a n ∧ sealedS L a n < 1152921504606846976 := by
  induction n with
  | zero => exact ⟨Int.le_refl 0, show (0 : Int) < 1152921504606846976 by decide⟩
  | succ n ih =>
    have h := ih (by omega)
    unfold sealedS; split
    · exact Bit.withB_bd _ h.1 h.2 n (by omega)
    · exact h
theorem bit_sealedS (L : List K) (a n : Nat) (hn : n ≤ 60) (j : Nat) : bit (sealedS L a n) j = (decide (j < n) && sealN L a j) := by
  induction n with
  | zero => show bit 0 j = _; rw [Lc.bit_zero]; simp
  | succ n ih =>
    have h := sealedS_bd L a n (by omega)
    unfold sealedS
    cases hd : sealN L a n
    · rw [if_neg (by simp), ih (by omega)]
      by_cases e : j = n
      · subst e; rw [hd]; simp
      · have : decide (j < n + 1) = decide (j < n) := by simp; omega
        rw [this]
    · rw [if_pos rfl, Bit.bit_withB _ h.1, ih (by omega)]
      by_cases e : j = n
      · subst e; rw [hd]; simp
      · have : decide (j < n + 1) = decide (j < n) := by simp; omega
        rw [this, decide_eq_false e, Bool.false_or]

theorem has_mono {L : List K} {s t : Int} (h : ∀ i, i < L.length → bit s i = true → bit t i = true) (k : Int) (hs : hasHand L s k = true) : hasHand L t k = true := by
  obtain ⟨i, hi, hb, he⟩ := (Lc.hasHand_iff L s k).1 hs
  exact (Lc.hasHand_iff L t k).2 ⟨i, hi, h i hi hb, he⟩
theorem if_mono {a b : Bool} (h : a = true → b = true) : (if a = true then (1 : Int) else 0) ≤ if b = true then 1 else 0 := by
  cases a
  · rw [if_neg (by simp)]; split <;> omega
  · rw [if_pos rfl, if_pos (h rfl)]; exact Int.le_refl 1
theorem hands_mono {L : List K} {s t : Int} (h : ∀ i, i < L.length → bit s i = true → bit t i = true) : handsN L s ≤ handsN L t := by
  have q := fun k => if_mono (has_mono h k)
  have h0 := q 0
  have h1 := q 1
  have h2 := q 2
  have h3 := q 3
  unfold Lc.handsN
  omega
theorem hands_zero {L : List K} {s : Int} (h : ∀ i, i < L.length → bit s i = false) : handsN L s = 0 := by
  have q : ∀ k, hasHand L s k = false := fun k => by
    rw [Bool.eq_false_iff]
    intro hs
    obtain ⟨i, hi, hb, _⟩ := (Lc.hasHand_iff L s k).1 hs
    rw [h i hi] at hb; exact Bool.noConfusion hb
  unfold Lc.handsN
  rw [q 0, q 1, q 2, q 3]; rfl
/-- of two hands a set of three has one -/
theorem hands_two {L : List K} {s : Int} (h : 3 ≤ handsN L s) {x y : Int} (hx : x = 0 ∨ x = 1 ∨ x = 2 ∨ x = 3) (hy : y = 0 ∨ y = 1 ∨ y = 2 ∨ y = 3) (hne : x ≠ y) : hasHand L s x = true ∨ hasHand L s y = true := by
  unfold Lc.handsN at h
  rcases hx with rfl | rfl | rfl | rfl <;> rcases hy with rfl | rfl | rfl | rfl <;> first | exact absurd rfl hne | skip
  all_goals
    cases q0 : hasHand L s 0 <;> cases q1 : hasHand L s 1 <;> cases q2 : hasHand L s 2 <;> cases q3 : hasHand L s 3 <;> simp [q0, q1, q2, q3] at h ⊢
/-- two sets of three hands have a hand in common that is not the bad one -/
theorem hands_meet {L : List K} {s t : Int} (hs : 3 ≤ handsN L s) (ht : 3 ≤ handsN L t) (bad : Int) : ∃ k : Int, (k = 0 ∨ k = 1 ∨ k = 2 ∨ k = 3) ∧ k ≠ bad ∧ hasHand L s k = true ∧ hasHand L t k = true := by
  unfold Lc.handsN at hs ht
  by_cases b0 : bad = 0
  · subst b0
    by_cases c1 : hasHand L s 1 = true ∧ hasHand L t 1 = true
    · exact ⟨1, by simp, by decide, c1⟩
    · by_cases c2 : hasHand L s 2 = true ∧ hasHand L t 2 = true
      · exact ⟨2, by simp, by decide, c2⟩
      · refine ⟨3, by simp, by decide, ?_⟩
        cases q0 : hasHand L s 0 <;> cases q1 : hasHand L s 1 <;> cases q2 : hasHand L s 2 <;> cases q3 : hasHand L s 3 <;> simp [q0, q1, q2, q3] at hs c1 c2 ⊢
        all_goals
          cases r0 : hasHand L t 0 <;> cases r1 : hasHand L t 1 <;> cases r2 : hasHand L t 2 <;> cases r3 : hasHand L t 3 <;> simp [r0, r1, r2, r3] at ht c1 c2 ⊢
  · by_cases c0 : hasHand L s 0 = true ∧ hasHand L t 0 = true
    · exact ⟨0, by simp, fun e => b0 e.symm, c0⟩
    · by_cases b1 : bad = 1
      · subst b1
        by_cases c2 : hasHand L s 2 = true ∧ hasHand L t 2 = true
        · exact ⟨2, by simp, by decide, c2⟩
        · refine ⟨3, by simp, by decide, ?_⟩
          cases q0 : hasHand L s 0 <;> cases q1 : hasHand L s 1 <;> cases q2 : hasHand L s 2 <;> cases q3 : hasHand L s 3 <;> simp [q0, q1, q2, q3] at hs c0 c2 ⊢
          all_goals
            cases r0 : hasHand L t 0 <;> cases r1 : hasHand L t 1 <;> cases r2 : hasHand L t 2 <;> cases r3 : hasHand L t 3 <;> simp [r0, r1, r2, r3] at ht c0 c2 ⊢
      · by_cases c1 : hasHand L s 1 = true ∧ hasHand L t 1 = true
        · exact ⟨1, by simp, fun e => b1 e.symm, c1⟩
        · by_cases b2 : bad = 2
          · refine ⟨3, by simp, by omega, ?_⟩
            cases q0 : hasHand L s 0 <;> cases q1 : hasHand L s 1 <;> cases q2 : hasHand L s 2 <;> cases q3 : hasHand L s 3 <;> simp [q0, q1, q2, q3] at hs c0 c1 ⊢
            all_goals
              cases r0 : hasHand L t 0 <;> cases r1 : hasHand L t 1 <;> cases r2 : hasHand L t 2 <;> cases r3 : hasHand L t 3 <;> simp [r0, r1, r2, r3] at ht c0 c1 ⊢
          · refine ⟨2, by simp, fun e => b2 e.symm, ?_⟩
            cases q0 : hasHand L s 0 <;> cases q1 : hasHand L s 1 <;> cases q2 : hasHand L s 2 <;> cases q3 : hasHand L s 3 <;> simp [q0, q1, q2, q3] at hs c0 c1 ⊢
            all_goals
              cases r0 : hasHand L t 0 <;> cases r1 : hasHand L t 1 <;> cases r2 : hasHand L t 2 <;> cases r3 : hasHand L t 3 <;> simp [r0, r1, r2, r3] at ht c0 c1 ⊢

/-- what one seals it sees -/
theorem seal_sees {L : List K} (hl : laceB L = true) {a b : Nat} (ha : a < L.length) (hs : sealN L a b = true) : bit (bel L a) b = true := by
  have h60 := ((Lc.lace_iff L).1 hl).1
  unfold sealN at hs
  rw [decide_eq_true_eq] at hs
  apply Classical.byContradiction
  intro hn
  have hz : handsN L (nodAt L a b) = 0 := hands_zero fun i hi => by
    rw [Bool.eq_false_iff, bit_nodAt h60 (by omega)]
    intro h
    rw [Bool.and_eq_true, Bool.and_eq_true] at h
    have h2 := ((Nd.nod_iff h60 (by omega)).1 h.2.2).1
    apply hn
    exact (Sg.bel_reach hl a ha b).2 (Sg.Reach.trans ((Sg.bel_reach hl a ha i).1 h.1) ((Sg.bel_reach hl i hi b).1 h2))
  omega
theorem seal_le {L : List K} (hl : laceB L = true) {a b : Nat} (ha : a < L.length) (hs : sealN L a b = true) : b ≤ a := by
  have := seal_sees hl ha hs
  exact Sg.reach_le hl ha ((Sg.bel_reach hl a ha b).1 this)
/-- what sees one that seals, seals -/
theorem seal_up {L : List K} (hl : laceB L = true) {x a b : Nat} (hx : x < L.length) (hxa : bit (bel L x) a = true) (hs : sealN L a b = true) : sealN L x b = true := by
  have h60 := ((Lc.lace_iff L).1 hl).1
  have hax : a ≤ x := Sg.reach_le hl hx ((Sg.bel_reach hl x hx a).1 hxa)
  unfold sealN at hs ⊢
  rw [decide_eq_true_eq] at hs ⊢
  refine Int.le_trans hs (hands_mono fun i hi hb => ?_)
  rw [bit_nodAt h60 (by omega), Bool.and_eq_true] at hb ⊢
  exact ⟨(Sg.bel_reach hl x hx i).2 (Sg.Reach.trans ((Sg.bel_reach hl x hx a).1 hxa) ((Sg.bel_reach hl a (by omega) i).1 hb.1)), hb.2⟩

end Sl
end Go.Proofs.YtfjmenhofllchaaGreatDoor

namespace Go.Proofs.YtfjmenhofllchaaGreatDoor
open Go.RowKit
set_option maxRecDepth 100000
namespace Ag
open Kn (K okK)
open Bit (bit withB memTo)
open Lc (at' laceB setB handsN hasHand roundS)
open Sg (isB bel)
open Db (dblN)
open Nd (nodN nodS)
open Sl (sealN sealS nodAt)

theorem thread_round {L : List K} (hl : laceB L = true) {i m : Nat} (hi : i < L.length) (hb : bit (at' L i).frm m = true) : (at' L m).round < (at' L i).round := by
  have hm := Sg.thread_lt hl hi hb
  have hc := Lc.lace_upTo hl i hi
  simp only [Lc.canB, Bool.and_eq_true] at hc
  have hle := (Lc.lesser_iff (L.take i) (at' L i).frm (at' L i).round (L.take i).length).1 hc.2.2.1 m (by simp; omega) hb
  rwa [Lc.at_take L i m hm] at hle
theorem reach_round {L : List K} (hl : laceB L = true) {i j : Nat} (hi : i < L.length) (h : Sg.Reach L i j) : j = i ∨ (at' L j).round < (at' L i).round := by
  induction h with
  | self => exact .inl rfl
  | @step i m j hb hr ih =>
    have hm := Sg.thread_lt hl hi hb
    have hr1 := thread_round hl hi hb
    rcases ih (by omega) with rfl | h
    · exact .inr hr1
    · exact .inr (by omega)
theorem sees_round {L : List K} (hl : laceB L = true) {i j : Nat} (hi : i < L.length) (h : bit (bel L i) j = true) (hne : j ≠ i) : (at' L j).round < (at' L i).round := by
  rcases reach_round hl hi ((Sg.bel_reach hl i hi j).1 h) with e | e
  · exact absurd e hne
  · exact e
theorem sees_le {L : List K} (hl : laceB L = true) {i j : Nat} (hi : i < L.length) (h : bit (bel L i) j = true) : j ≤ i := Sg.reach_le hl hi ((Sg.bel_reach hl i hi j).1 h)
theorem sees_self {L : List K} (hl : laceB L = true) {i : Nat} (hi : i < L.length) : bit (bel L i) i = true := Db.bel_self hl hi
theorem sees_trans {L : List K} (hl : laceB L = true) {i j m : Nat} (hi : i < L.length) (h : bit (bel L i) j = true) (h2 : bit (bel L j) m = true) : bit (bel L i) m = true := by
  have hj := sees_le hl hi h
  exact (Sg.bel_reach hl i hi m).2 (Sg.Reach.trans ((Sg.bel_reach hl i hi j).1 h) ((Sg.bel_reach hl j (by omega) m).1 h2))
theorem frm_sees {L : List K} (hl : laceB L = true) {i m : Nat} (hi : i < L.length) (hb : bit (at' L i).frm m = true) : bit (bel L i) m = true :=
  (Sg.bel_reach hl i hi m).2 (.step hb (.self _))

theorem bit_round (L : List K) (s r : Int) (h60 : L.length ≤ 60) (i : Nat) : bit (roundS L s r) i = (decide (i < L.length) && (bit s i && decide ((at' L i).round = r))) := Lc.bit_among _ L s L.length h60 i

/-- who hangs on something hangs on three hands of the round before -/
theorem three_before {L : List K} (hl : laceB L = true) {i : Nat} (hi : i < L.length) (hr : 0 < (at' L i).round) : 3 ≤ handsN L (roundS L (at' L i).frm ((at' L i).round - 1)) := by
  have h60 := ((Lc.lace_iff L).1 hl).1
  have hc := Lc.lace_upTo hl i hi
  simp only [Lc.canB, Bool.and_eq_true] at hc
  have hh := hc.2.2.2
  unfold Lc.handsB at hh
  rw [Bool.or_eq_true, decide_eq_true_eq, decide_eq_true_eq] at hh
  rcases hh with hh | hh
  · omega
  · have hlt : (L.take i).length = i := by simp; omega
    refine Int.le_trans hh ?_
    have key : ∀ h : Int, hasHand (L.take i) (roundS (L.take i) (at' L i).frm ((at' L i).round - 1)) h = true → hasHand L (roundS L (at' L i).frm ((at' L i).round - 1)) h = true := fun h q => by
      obtain ⟨j, hj, hb, he⟩ := (Lc.hasHand_iff _ _ _).1 q
      have hji : j < i := by omega
      rw [Lc.at_take L i j hji] at he
      rw [bit_round _ _ _ (by omega)] at hb
      simp only [Bool.and_eq_true, decide_eq_true_eq] at hb
      rw [Lc.at_take L i j hji] at hb
      refine (Lc.hasHand_iff _ _ _).2 ⟨j, by omega, ?_, he⟩
      rw [bit_round _ _ _ h60]
      simp only [Bool.and_eq_true, decide_eq_true_eq]
      exact ⟨by omega, hb.2.1, hb.2.2⟩
    have q := fun k => Sl.if_mono (key k)
    have h0 := q 0
    have h1 := q 1
    have h2 := q 2
    have h3 := q 3
    unfold Lc.handsN
    omega

theorem hands_some {L : List K} {s : Int} (h : 3 ≤ handsN L s) : ∃ i, i < L.length ∧ bit s i = true := by
  apply Classical.byContradiction
  intro hn
  have := Sl.hands_zero (L := L) (s := s) fun i hi => by
    rw [Bool.eq_false_iff]; intro hb; exact hn ⟨i, hi, hb⟩
  omega

/-- one sees three hands of each round below its own -/
theorem three_below {L : List K} (hl : laceB L = true) (q : Int) (hq : 0 ≤ q) : ∀ i, i < L.length → q < (at' L i).round → 3 ≤ handsN L (roundS L (bel L i) q) := by
  have h60 := ((Lc.lace_iff L).1 hl).1
  intro i
  induction i using Nat.strongRecOn with
  | _ i ih =>
    intro hi hr
    have h3 := three_before hl hi (by omega)
    by_cases e : (at' L i).round - 1 = q
    · rw [e] at h3
      refine Int.le_trans h3 (Sl.hands_mono fun j hj hb => ?_)
      rw [bit_round _ _ _ h60] at hb ⊢
      simp only [Bool.and_eq_true] at hb ⊢
      exact ⟨hb.1, frm_sees hl hi hb.2.1, hb.2.2⟩
    · obtain ⟨m, hm, hb⟩ := hands_some h3
      rw [bit_round _ _ _ h60] at hb
      simp only [Bool.and_eq_true, decide_eq_true_eq] at hb
      have hlt := Sg.thread_lt hl hi hb.2.1
      refine Int.le_trans (ih m hlt (by omega) (by omega)) (Sl.hands_mono fun j hj hj2 => ?_)
      rw [bit_round _ _ _ h60] at hj2 ⊢
      simp only [Bool.and_eq_true] at hj2 ⊢
      exact ⟨hj2.1, sees_trans hl hi (frm_sees hl hi hb.2.1) hj2.2.1, hj2.2.2⟩

/-- a lace in which every hand but one sees all it tied before -/
structure Good (L : List K) (bad : Int) : Prop where
  lace : laceB L = true
  one : ∀ i j, i < L.length → j < L.length → (at' L i).hand = (at' L j).hand → (at' L i).hand ≠ bad → bit (bel L i) j = true ∨ bit (bel L j) i = true

theorem Good.len {L : List K} {bad : Int} (h : Good L bad) : L.length ≤ 60 := ((Lc.lace_iff L).1 h.lace).1

/-- a hand that is not bad ties once a round -/
theorem once {L : List K} {bad : Int} (hG : Ag.Good L bad) {i j : Nat} (hi : i < L.length) (hj : j < L.length) (hh : (at' L i).hand = (at' L j).hand) (hb : (at' L i).hand ≠ bad) (hr : (at' L i).round = (at' L j).round) : i = j := by
  rcases hG.one i j hi hj hh hb with h | h
  · apply Classical.byContradiction
    intro hne
    have := sees_round hG.lace hi h (fun e => hne e.symm)
    omega
  · apply Classical.byContradiction
    intro hne
    have := sees_round hG.lace hj h hne
    omega

theorem hand_bd {L : List K} (hl : laceB L = true) {i : Nat} (hi : i < L.length) : 0 ≤ (at' L i).hand ∧ (at' L i).hand ≤ 3 := Lc.lace_hands hl _ (Lc.at_mem L i hi)
theorem round_bd {L : List K} (hl : laceB L = true) {i : Nat} (hi : i < L.length) : 0 ≤ (at' L i).round ∧ (at' L i).round ≤ 19 := Lc.ok_round (Lc.can_ok (Lc.lace_upTo hl i hi))

/-- where three hands of a round seal it, all that come later seal it -/
theorem seal_spread {L : List K} {bad : Int} (hG : Ag.Good L bad) {f : Nat} {t q : Int} (hq : 0 ≤ q) (h3 : 3 ≤ handsN L (roundS L t q)) (ht : ∀ i, i < L.length → bit t i = true → sealN L i f = true) {k : Nat} (hk : k < L.length) (hr : q < (at' L k).round) : sealN L k f = true := by
  have h60 := hG.len
  have h3k := three_below hG.lace q hq k hk hr
  obtain ⟨h, _, hne, hs, hs2⟩ := Sl.hands_meet h3 h3k bad
  obtain ⟨i, hi, hbi, hhi⟩ := (Lc.hasHand_iff _ _ _).1 hs
  obtain ⟨j, hj, hbj, hhj⟩ := (Lc.hasHand_iff _ _ _).1 hs2
  rw [bit_round _ _ _ h60] at hbi hbj
  simp only [Bool.and_eq_true, decide_eq_true_eq] at hbi hbj
  have e : i = j := once hG hi hj (by rw [hhi, hhj]) (by rw [hhi]; exact hne) (by rw [hbi.2.2, hbj.2.2])
  subst e
  exact Sl.seal_up hG.lace hk hbj.2.1 (ht i hi hbi.2.1)

/-- nobody seals two that are doubled -/
theorem seal_one {L : List K} {bad : Int} (hG : Ag.Good L bad) {x f g : Nat} (hx : x < L.length) (hf : f < L.length) (hg : g < L.length) (hd : dblN L f g = true) (h1 : sealN L x f = true) (h2 : sealN L x g = true) : False := by
  have h60 := hG.len
  unfold Sl.sealN at h1 h2
  rw [decide_eq_true_eq] at h1 h2
  obtain ⟨h, _, hne, hs, hs2⟩ := Sl.hands_meet h1 h2 bad
  obtain ⟨i, hi, hbi, hhi⟩ := (Lc.hasHand_iff _ _ _).1 hs
  obtain ⟨j, hj, hbj, hhj⟩ := (Lc.hasHand_iff _ _ _).1 hs2
  rw [Sl.bit_nodAt h60 (by omega)] at hbi hbj
  simp only [Bool.and_eq_true, decide_eq_true_eq] at hbi hbj
  have ni := (Nd.nod_iff h60 (by omega)).1 hbi.2.2
  have nj := (Nd.nod_iff h60 (by omega)).1 hbj.2.2
  have hd' : dblN L g f = true := by
    unfold Db.dblN at hd ⊢
    simp only [Bool.and_eq_true, decide_eq_true_eq, Bool.not_eq_true'] at hd ⊢
    exact ⟨hd.1.symm, hd.2.2, hd.2.1⟩
  rcases hG.one i j hi hj (by rw [hhi, hhj]) (by rw [hhi]; exact hne) with h | h
  · have := ni.2 g hg (sees_trans hG.lace hi h nj.1)
    rw [hd] at this; exact Bool.noConfusion this
  · have := nj.2 f hf (sees_trans hG.lace hj h ni.1)
    rw [hd'] at this; exact Bool.noConfusion this

/-- two of one hand and one round are doubled -/
theorem dbl_round {L : List K} (hl : laceB L = true) {f g : Nat} (hf : f < L.length) (hg : g < L.length) (hh : (at' L f).hand = (at' L g).hand) (hr : (at' L f).round = (at' L g).round) (hne : f ≠ g) : dblN L f g = true := by
  unfold Db.dblN
  simp only [Bool.and_eq_true, decide_eq_true_eq, Bool.not_eq_true']
  refine ⟨hh, ?_, ?_⟩
  · rw [Bool.eq_false_iff]; intro h
    have := sees_round hl hf h (fun e => hne e.symm); omega
  · rw [Bool.eq_false_iff]; intro h
    have := sees_round hl hg h hne; omega

/-- of one hand and round, sealed by one: the same -/
theorem seal_same {L : List K} {bad : Int} (hG : Ag.Good L bad) {x f g : Nat} (hx : x < L.length) (hf : f < L.length) (hg : g < L.length) (hh : (at' L f).hand = (at' L g).hand) (hr : (at' L f).round = (at' L g).round) (h1 : sealN L x f = true) (h2 : sealN L x g = true) : f = g := by
  apply Classical.byContradiction
  intro hne
  exact seal_one hG hx hf hg (dbl_round hG.lace hf hg hh hr hne) h1 h2

end Ag
end Go.Proofs.YtfjmenhofllchaaGreatDoor

namespace Go.Proofs.YtfjmenhofllchaaGreatDoor
open Go.RowKit
set_option maxRecDepth 100000
namespace Ch
open Kn (K okK)
open Bit (bit withB memTo)
open Lc (at' laceB setB handsN hasHand roundS)
open Sg (isB bel)
open Nd (nodN nodS)
open Sl (sealN sealS nodAt)

/-- those of a set that seal one -/
def sealAt (L : List K) (s : Int) (k : Nat) : Int := bits .and .i64 s (sealS L k L.length)
/-- firm in a set -/
def firmN (L : List K) (C : List Int) (s : Int) (k : Nat) : Bool := bit s k && (leadK C (at' L k) && decide (3 ≤ handsN L (roundS L (sealAt L s k) ((at' L k).round + 2))))

/-- what a right set is -/
structure In (L : List K) (s : Int) : Prop where
  lo : 0 ≤ s
  hi : s < 1152921504606846976
theorem bit_sealAt {L : List K} {s : Int} (h60 : L.length ≤ 60) (hs : In L s) (k i : Nat) : bit (sealAt L s k) i = (bit s i && (decide (i < L.length) && sealN L i k)) := by
  have h := Sl.sealS_bd L k _ h60
  unfold sealAt
  rw [Sl.bit_and s _ hs.lo hs.hi h.1 h.2, Sl.bit_sealS L k _ h60]

/-- what is firm is sealed by all of the next waves -/
theorem firm_sealed {L : List K} {bad : Int} (hG : Ag.Good L bad) {C : List Int} {s : Int} (hs : In L s) {f k : Nat} (hf : f < L.length) (hF : firmN L C s f = true) (hk : k < L.length) (hr : (at' L f).round + 3 ≤ (at' L k).round) : sealN L k f = true := by
  unfold firmN at hF
  simp only [Bool.and_eq_true, decide_eq_true_eq] at hF
  have hrf := (Ag.round_bd hG.lace hf).1
  refine Ag.seal_spread hG (t := sealAt L s f) (q := (at' L f).round + 2) (by omega) hF.2.2 (fun i hi hb => ?_) hk (by omega)
  rw [bit_sealAt hG.len hs] at hb
  simp only [Bool.and_eq_true] at hb
  exact hb.2.2

/-- each wave has one firm leader at most -/
theorem firm_one {L : List K} {bad : Int} (hG : Ag.Good L bad) {C : List Int} {s t : Int} (hs : In L s) (ht : In L t) {f g : Nat} (hf : f < L.length) (hg : g < L.length) (hF : firmN L C s f = true) (hF2 : firmN L C t g = true) (hr : (at' L f).round = (at' L g).round) : f = g := by
  have h60 := hG.len
  unfold firmN at hF hF2
  simp only [Bool.and_eq_true, decide_eq_true_eq] at hF hF2
  obtain ⟨h, _, hne, h1, h2⟩ := Sl.hands_meet hF.2.2 hF2.2.2 bad
  obtain ⟨i, hi, hbi, hhi⟩ := (Lc.hasHand_iff _ _ _).1 h1
  obtain ⟨j, hj, hbj, hhj⟩ := (Lc.hasHand_iff _ _ _).1 h2
  rw [Ag.bit_round _ _ _ h60] at hbi hbj
  simp only [Bool.and_eq_true, decide_eq_true_eq] at hbi hbj
  rw [bit_sealAt h60 hs] at hbi
  rw [bit_sealAt h60 ht] at hbj
  simp only [Bool.and_eq_true] at hbi hbj
  have e : i = j := Ag.once hG hi hj (by rw [hhi, hhj]) (by rw [hhi]; exact hne) (by rw [hbi.2.2, hbj.2.2, hr])
  subst e
  exact Ag.seal_same hG hi hf hg (lead_hand hF.2.1 hF2.2.1 hr) hr hbi.2.1.2.2 hbj.2.1.2.2

/-- what is firm stays firm where more is known -/
theorem firm_more {L : List K} (h60 : L.length ≤ 60) {C : List Int} {s t : Int} (hs : In L s) (ht : In L t) (hst : ∀ i, bit s i = true → bit t i = true) {f : Nat} (hF : firmN L C s f = true) : firmN L C t f = true := by
  unfold firmN at hF ⊢
  simp only [Bool.and_eq_true, decide_eq_true_eq] at hF ⊢
  refine ⟨hst f hF.1, hF.2.1, Int.le_trans hF.2.2 (Sl.hands_mono fun i hi hb => ?_)⟩
  rw [Ag.bit_round _ _ _ h60, bit_sealAt h60 hs] at hb
  rw [Ag.bit_round _ _ _ h60, bit_sealAt h60 ht]
  simp only [Bool.and_eq_true] at hb ⊢
  exact ⟨hb.1, ⟨hst i hb.2.1.1, hb.2.1.2⟩, hb.2.2⟩

/-- may x be the leader before k? -/
def earN (L : List K) (C : List Int) (k x : Nat) : Bool := bit (bel L k) x && (leadK C (at' L x) && sealN L k x)
/-- of those of the first that may, the one of the greatest round, of some the first; -1: there is none -/
def earI (L : List K) (C : List Int) (k : Nat) : Nat → Int
  | 0 => -1
  | n + 1 => if earN L C k n && (decide (earI L C k n < 0) || decide ((at' L (earI L C k n).toNat).round < (at' L n).round)) then (n : Int) else earI L C k n

theorem ear_spec (L : List K) (C : List Int) (k n : Nat) :
    (earI L C k n = -1 ∧ ∀ x, x < n → earN L C k x = false) ∨ (∃ e : Nat, earI L C k n = (e : Int) ∧ e < n ∧ earN L C k e = true ∧ ∀ x, x < n → earN L C k x = true → (at' L x).round ≤ (at' L e).round ∧ ((at' L x).round = (at' L e).round → e ≤ x)) := by
  induction n with
  | zero => exact .inl ⟨rfl, fun x hx => by omega⟩
  | succ n ih =>
    unfold earI
    rcases ih with ⟨h1, h2⟩ | ⟨e, h1, h2, h3, h4⟩
    · cases hn : earN L C k n
      · left
        rw [Bool.false_and, if_neg (by simp)]
        refine ⟨h1, fun x hx => ?_⟩
        by_cases e : x = n
        · subst e; exact hn
        · exact h2 x (by omega)
      · right
        rw [h1, Bool.true_and, if_pos (by simp)]
        refine ⟨n, rfl, by omega, hn, fun x hx hxe => ?_⟩
        by_cases e : x = n
        · subst e; exact ⟨Int.le_refl _, fun _ => Nat.le_refl _⟩
        · rw [h2 x (by omega)] at hxe; exact Bool.noConfusion hxe
    · right
      rw [h1, Int.toNat_natCast]
      cases hn : earN L C k n
      · rw [Bool.false_and, if_neg (by simp)]
        refine ⟨e, rfl, by omega, h3, fun x hx hxe => ?_⟩
        by_cases q : x = n
        · subst q; rw [hn] at hxe; exact Bool.noConfusion hxe
        · exact h4 x (by omega) hxe
      · by_cases hr : (at' L e).round < (at' L n).round
        · rw [Bool.true_and, if_pos (by simp [hr])]
          refine ⟨n, rfl, by omega, hn, fun x hx hxe => ?_⟩
          by_cases q : x = n
          · subst q; exact ⟨Int.le_refl _, fun _ => Nat.le_refl _⟩
          · have := h4 x (by omega) hxe
            exact ⟨by omega, fun _ => by omega⟩
        · rw [Bool.true_and, if_neg (by simp; omega)]
          refine ⟨e, rfl, by omega, h3, fun x hx hxe => ?_⟩
          by_cases q : x = n
          · subst q; exact ⟨by omega, fun _ => by omega⟩
          · exact h4 x (by omega) hxe

/-- the leader before one; -1: there is none -/
def earlierN (L : List K) (C : List Int) (k : Nat) : Int := earI L C k k
theorem earlier_lt (L : List K) (C : List Int) (k : Nat) : earlierN L C k < (k : Int) := by
  unfold earlierN
  rcases ear_spec L C k k with ⟨h, _⟩ | ⟨e, h, he, _⟩ <;> omega

/-- from leader to leader, with so many steps -/
def chF (L : List K) (C : List Int) : Nat → Int → List Int
  | 0, _ => []
  | f + 1, k => if k < 0 then [] else chF L C f (earlierN L C k.toNat) ++ [k]
theorem chF_enough (L : List K) (C : List Int) : ∀ (f g : Nat) (k : Int), k < (f : Int) → k < (g : Int) → chF L C f k = chF L C g k := by
  intro f
  induction f with
  | zero =>
    intro g k h1 h2
    cases g with
    | zero => rfl
    | succ g => unfold chF; rw [if_pos (by omega)]
  | succ f ih =>
    intro g k h1 h2
    cases g with
    | zero => unfold chF; rw [if_pos (by omega)]
    | succ g =>
      unfold chF
      by_cases hk : k < 0
      · rw [if_pos hk, if_pos hk]
      · rw [if_neg hk, if_neg hk]
        have := earlier_lt L C k.toNat
        rw [ih g _ (by omega) (by omega)]
/-- the chain of one -/
def chainL (L : List K) (C : List Int) (k : Int) : List Int := chF L C (k.toNat + 1) k
theorem chain_neg (L : List K) (C : List Int) {k : Int} (h : k < 0) : chainL L C k = [] := by
  unfold chainL chF; rw [if_pos h]
theorem chain_step (L : List K) (C : List Int) (k : Nat) : chainL L C (k : Int) = chainL L C (earlierN L C k) ++ [(k : Int)] := by
  have hlt := earlier_lt L C k
  have : chainL L C (k : Int) = chF L C k (earlierN L C k) ++ [(k : Int)] := by
    unfold chainL
    rw [Int.toNat_natCast]
    show (if (k : Int) < 0 then [] else chF L C k (earlierN L C (k : Int).toNat) ++ [(k : Int)]) = _
    rw [if_neg (by omega), Int.toNat_natCast]
  rw [this]
  congr 1
  unfold chainL
  exact chF_enough L C _ _ _ (by omega) (by omega)

theorem chF_len (L : List K) (C : List Int) : ∀ (f : Nat) (k : Int), (chF L C f k).length ≤ f := by
  intro f
  induction f with
  | zero => intro k; exact Nat.le_refl 0
  | succ f ih =>
    intro k
    unfold chF
    split
    · simp
    · have := ih (earlierN L C k.toNat)
      simp; omega
theorem chain_len (L : List K) (C : List Int) (k : Int) : (chainL L C k).length ≤ k.toNat + 1 := chF_len L C _ _

/-- what is firm is on the chain of each leader of a later wave, and its chain begins that one's -/
theorem chain_along {L : List K} {bad : Int} (hG : Ag.Good L bad) {C : List Int} {s : Int} (hs : In L s) {f : Nat} (hf : f < L.length) (hF : firmN L C s f = true) : ∀ k, k < L.length → leadK C (at' L k) = true → ((at' L f).round < (at' L k).round ∨ k = f) → ∃ rest, chainL L C (k : Int) = chainL L C (f : Int) ++ rest := by
  have hlf : leadK C (at' L f) = true := by
    unfold firmN at hF
    simp only [Bool.and_eq_true] at hF
    exact hF.2.1
  intro k
  induction k using Nat.strongRecOn with
  | _ k ih =>
    intro hk hlk hc
    rcases hc with hr | rfl
    · have hsl := firm_sealed hG hs hf hF hk (lead_gap hlf hlk hr)
      have hse := Sl.seal_sees hG.lace hk hsl
      have hfk : f < k := by
        have := Ag.sees_le hG.lace hk hse
        have hne : f ≠ k := by intro e; subst e; omega
        omega
      have hcand : earN L C k f = true := by unfold earN; rw [hse, hlf, hsl]; rfl
      rcases ear_spec L C k k with ⟨_, hno⟩ | ⟨e, he, hek, hec, hbest⟩
      · rw [hno f hfk] at hcand; exact Bool.noConfusion hcand
      · have hb := (hbest f hfk hcand).1
        unfold earN at hec
        simp only [Bool.and_eq_true] at hec
        have hel : e < L.length := by omega
        have hcase : (at' L f).round < (at' L e).round ∨ e = f := by
          by_cases q : (at' L f).round = (at' L e).round
          · exact .inr (Ag.seal_same hG hk hel hf (lead_hand hec.2.1 hlf q.symm) q.symm hec.2.2 hsl)
          · exact .inl (by omega)
        obtain ⟨rest, hrest⟩ := ih e hek hel hec.2.1 hcase
        refine ⟨rest ++ [(k : Int)], ?_⟩
        rw [chain_step, show earlierN L C k = (e : Int) from he, hrest, List.append_assoc]
    · exact ⟨[], by rw [List.append_nil]⟩

end Ch
end Go.Proofs.YtfjmenhofllchaaGreatDoor

namespace Go.Proofs.YtfjmenhofllchaaGreatDoor
open Go.RowKit
set_option maxRecDepth 100000
namespace Tl
open Kn (K okK)
open Bit (bit withB memTo)
open Lc (at' laceB setB handsN hasHand roundS)
open Sg (isB bel)
open Db (dblN)
open Nd (nodN nodS)
open Sl (sealN sealS nodAt)
open Ch (leadK firmN earlierN chainL In)

/-- does y stand behind x? -/
def gtB (L : List K) (y x : Int) : Bool := decide ((at' L x.toNat).round < (at' L y.toNat).round) || (decide ((at' L y.toNat).round = (at' L x.toNat).round) && decide ((at' L x.toNat).hand < (at' L y.toNat).hand))
/-- put in from behind (the list is read from its end) -/
def insR (L : List K) (x : Int) : List Int → List Int
  | [] => [x]
  | y :: r => if gtB L y x then y :: insR L x r else x :: y :: r
/-- put in from behind -/
def insB (L : List K) (out : List Int) (x : Int) : List Int := (insR L x out.reverse).reverse
/-- by rounds, then by hands, then by numbers -/
def ordL (L : List K) (m : List Int) : List Int := m.foldl (insB L) []

theorem insR_perm (L : List K) (x : Int) (l : List Int) : (insR L x l).Perm (x :: l) := by
  induction l with
  | nil => exact List.Perm.refl _
  | cons y r ih =>
    unfold insR
    split
    · exact (List.Perm.cons y ih).trans (List.Perm.swap x y r)
    · exact List.Perm.refl _
theorem insB_perm (L : List K) (out : List Int) (x : Int) : (insB L out x).Perm (x :: out) := by
  unfold insB
  exact (List.reverse_perm _).trans ((insR_perm L x out.reverse).trans (List.Perm.cons x (List.reverse_perm out)))
theorem ord_fold_perm (L : List K) : ∀ (m out : List Int), (m.foldl (insB L) out).Perm (out ++ m) := by
  intro m
  induction m with
  | nil => intro out; simp
  | cons x m ih =>
    intro out
    rw [List.foldl_cons]
    refine (ih (insB L out x)).trans ?_
    refine ((insB_perm L out x).append_right m).trans ?_
    show (x :: (out ++ m)).Perm (out ++ x :: m)
    exact List.perm_middle.symm
theorem ord_perm (L : List K) (m : List Int) : (ordL L m).Perm m := by
  have := ord_fold_perm L m []
  simpa [ordL] using this
theorem mem_ord (L : List K) (m : List Int) (x : Int) : x ∈ ordL L m ↔ x ∈ m := (ord_perm L m).mem_iff
theorem ord_nodup (L : List K) {m : List Int} (h : m.Nodup) : (ordL L m).Nodup := (ord_perm L m).nodup_iff.2 h

/-- read from its end the list falls: what stands ahead is no greater -/
def Falls (L : List K) : List Int → Prop
  | [] => True
  | y :: r => (∀ z ∈ r, gtB L z y = false) ∧ Falls L r
theorem gt_total (L : List K) {x y : Int} (h : gtB L y x = true) : gtB L x y = false := by
  unfold gtB at h ⊢
  simp only [Bool.or_eq_true, Bool.and_eq_true, decide_eq_true_eq] at h
  rw [Bool.eq_false_iff]
  intro q
  simp only [Bool.or_eq_true, Bool.and_eq_true, decide_eq_true_eq] at q
  omega
theorem gt_trans (L : List K) {x y z : Int} (h1 : gtB L y x = false) (h2 : gtB L z y = false) : gtB L z x = false := by
  unfold gtB at h1 h2 ⊢
  rw [Bool.eq_false_iff] at h1 h2 ⊢
  simp only [ne_eq, Bool.or_eq_true, Bool.and_eq_true, decide_eq_true_eq] at h1 h2 ⊢
  omega
theorem insR_mem (L : List K) (x : Int) (l : List Int) (z : Int) : z ∈ insR L x l ↔ z = x ∨ z ∈ l := by
  rw [(insR_perm L x l).mem_iff, List.mem_cons]
theorem insR_falls (L : List K) (x : Int) : ∀ l : List Int, Falls L l → Falls L (insR L x l) := by
  intro l
  induction l with
  | nil => intro _; exact ⟨fun z hz => by simp at hz, trivial⟩
  | cons y r ih =>
    rintro ⟨h1, h2⟩
    unfold insR
    cases hg : gtB L y x
    · rw [if_neg (by simp)]
      refine ⟨fun z hz => ?_, h1, h2⟩
      rcases List.mem_cons.1 hz with e | e
      · subst e; exact hg
      · exact gt_trans L hg (h1 z e)
    · rw [if_pos rfl]
      refine ⟨fun z hz => ?_, ih h2⟩
      rcases (insR_mem L x r z).1 hz with e | e
      · subst e; exact gt_total L hg
      · exact h1 z e
theorem ord_falls (L : List K) : ∀ (m out : List Int), Falls L out.reverse → Falls L (m.foldl (insB L) out).reverse := by
  intro m
  induction m with
  | nil => intro out h; exact h
  | cons x m ih =>
    intro out h
    rw [List.foldl_cons]
    refine ih _ ?_
    unfold insB
    rw [List.reverse_reverse]
    exact insR_falls L x _ h
theorem falls_get (L : List K) : ∀ l : List Int, Falls L l.reverse → ∀ i j, i < j → j < l.length → gtB L (l.getD i 0) (l.getD j 0) = false := by
  suffices H : ∀ r : List Int, Falls L r → ∀ i j, i < j → j < r.length → gtB L (r.getD j 0) (r.getD i 0) = false by
    intro l h i j hij hj
    have := H l.reverse h (l.length - 1 - j) (l.length - 1 - i) (by omega) (by simp; omega)
    have e1 : l.reverse.getD (l.length - 1 - j) 0 = l.getD j 0 := by
      simp only [List.getD, List.getElem?_reverse (show l.length - 1 - j < l.length by omega)]
      rw [show l.length - 1 - (l.length - 1 - j) = j by omega]
    have e2 : l.reverse.getD (l.length - 1 - i) 0 = l.getD i 0 := by
      simp only [List.getD, List.getElem?_reverse (show l.length - 1 - i < l.length by omega)]
      rw [show l.length - 1 - (l.length - 1 - i) = i by omega]
    rwa [e1, e2] at this
  intro r
  induction r with
  | nil => intro _ i j _ hj; simp at hj
  | cons y r ih =>
    rintro ⟨h1, h2⟩ i j hij hj
    match i, j, hij with
    | 0, j + 1, _ =>
      have hj' : j < r.length := by simpa using hj
      simp only [List.getD_cons_succ, List.getD_cons_zero]
      exact h1 _ (by simp [List.getD, List.getElem?_eq_getElem hj'])
    | i + 1, j + 1, hij =>
      simp only [List.getD_cons_succ]
      exact ih h2 i j (by omega) (by simpa using hj)
/-- in order no one stands ahead of a lesser one -/
theorem ord_get (L : List K) (m : List Int) {i j : Nat} (hij : i < j) (hj : j < (ordL L m).length) : gtB L ((ordL L m).getD i 0) ((ordL L m).getD j 0) = false :=
  falls_get L _ (ord_falls L m [] trivial) i j hij hj

/-- fresh: below k, not below the earlier one, and k nods to it -/
def fresN (L : List K) (k : Nat) (e : Int) (b : Nat) : Bool := bit (bel L k) b && (!(decide (0 ≤ e) && bit (bel L e.toNat) b) && nodN L k b)
/-- those of the first that are fresh -/
def frS (L : List K) (k : Nat) (e : Int) : Nat → Int
  | 0 => 0
  | n + 1 => if fresN L k e n then withB (frS L k e n) n else frS L k e n
theorem frS_bd (L : List K) (k : Nat) (e : Int) (n : Nat) (hn : n ≤ 60) : 0 ≤ frS L k e n ∧ frS L k e n < 1152921504606846976 := by
  induction n with
  | zero => exact ⟨Int.le_refl 0, show (0 : Int) < 1152921504606846976 by decide⟩
  | succ n ih =>
    have h := ih (by omega)
    unfold frS; split
    · exact Bit.withB_bd _ h.1 h.2 n (by omega)
    · exact h
theorem bit_frS (L : List K) (k : Nat) (e : Int) (n : Nat) (hn : n ≤ 60) (j : Nat) : bit (frS L k e n) j = (decide (j < n) && fresN L k e j) := by
  induction n with
  | zero => show bit 0 j = _; rw [Lc.bit_zero]; simp
  | succ n ih =>
    have h := frS_bd L k e n (by omega)
    unfold frS
    cases hd : fresN L k e n
    · rw [if_neg (by simp), ih (by omega)]
      by_cases q : j = n
      · subst q; rw [hd]; simp
      · have : decide (j < n + 1) = decide (j < n) := by simp; omega
        rw [this]
    · rw [if_pos rfl, Bit.bit_withB _ h.1, ih (by omega)]
      by_cases q : j = n
      · subst q; rw [hd]; simp
      · have : decide (j < n + 1) = decide (j < n) := by simp; omega
        rw [this, decide_eq_false q, Bool.false_or]
/-- what is fresh, in order -/
def freshL (L : List K) (k e : Int) : List Int := ordL L (memTo (frS L k.toNat e L.length) 60)
theorem mem_fresh {L : List K} (h60 : L.length ≤ 60) (k e x : Int) : x ∈ freshL L k e ↔ ∃ j : Nat, x = (j : Int) ∧ j < L.length ∧ fresN L k.toNat e j = true := by
  unfold freshL
  rw [mem_ord, Bit.mem_memTo]
  constructor
  · rintro ⟨j, _, rfl, hb⟩
    rw [bit_frS L _ _ _ h60, Bool.and_eq_true, decide_eq_true_eq] at hb
    exact ⟨j, rfl, hb.1, hb.2⟩
  · rintro ⟨j, rfl, hj, hf⟩
    exact ⟨j, by omega, rfl, by rw [bit_frS L _ _ _ h60, decide_eq_true hj, hf]; rfl⟩

/-- leader by leader -/
def taleF (L : List K) (e : Int) : List Int → List Int
  | [] => []
  | c :: r => freshL L c e ++ taleF L c r
/-- the tale of one -/
def taleL (L : List K) (C : List Int) (k : Int) : List Int := taleF L (-1) (chainL L C k)
theorem taleF_append (L : List K) : ∀ (a b : List Int) (e : Int), ∃ rest, taleF L e (a ++ b) = taleF L e a ++ rest := by
  intro a
  induction a with
  | nil => intro b e; exact ⟨taleF L e b, rfl⟩
  | cons c a ih =>
    intro b e
    obtain ⟨r, hr⟩ := ih b c
    exact ⟨r, by show freshL L c e ++ taleF L c (a ++ b) = (freshL L c e ++ taleF L c a) ++ r; rw [hr, List.append_assoc]⟩

/-- the tale of one that is firm begins the tale of each later leader -/
theorem tale_along {L : List K} {bad : Int} (hG : Ag.Good L bad) {C : List Int} {s : Int} (hs : In L s) {f k : Nat} (hf : f < L.length) (hF : firmN L C s f = true) (hk : k < L.length) (hlk : leadK C (at' L k) = true) (hc : (at' L f).round < (at' L k).round ∨ k = f) : ∃ rest, taleL L C (k : Int) = taleL L C (f : Int) ++ rest := by
  obtain ⟨r, hr⟩ := Ch.chain_along hG hs hf hF k hk hlk hc
  unfold taleL
  rw [hr]
  exact taleF_append L _ _ _

/-- those that are firm, of the first -/
def firmL (L : List K) (C : List Int) (s : Int) : Nat → List Int
  | 0 => []
  | n + 1 => if firmN L C s n then firmL L C s n ++ [(n : Int)] else firmL L C s n
theorem mem_firm (L : List K) (C : List Int) (s : Int) (n : Nat) (x : Int) : x ∈ firmL L C s n ↔ ∃ k : Nat, x = (k : Int) ∧ k < n ∧ firmN L C s k = true := by
  induction n with
  | zero => unfold firmL; constructor; · intro h; simp at h
            · rintro ⟨k, _, hk, _⟩; omega
  | succ n ih =>
    unfold firmL
    cases hf : firmN L C s n
    · rw [if_neg (by simp), ih]
      constructor
      · rintro ⟨k, h1, h2, h3⟩; exact ⟨k, h1, by omega, h3⟩
      · rintro ⟨k, h1, h2, h3⟩
        have : k ≠ n := by intro e; subst e; rw [hf] at h3; exact Bool.noConfusion h3
        exact ⟨k, h1, by omega, h3⟩
    · rw [if_pos rfl, List.mem_append, ih]
      constructor
      · rintro (⟨k, h1, h2, h3⟩ | h)
        · exact ⟨k, h1, by omega, h3⟩
        · exact ⟨n, by simpa using h, by omega, hf⟩
      · rintro ⟨k, h1, h2, h3⟩
        by_cases e : k = n
        · subst e; exact .inr (by simp [h1])
        · exact .inl ⟨k, h1, by omega, h3⟩
/-- of a list the one of the greatest round, of some the first; -1: there is none -/
def lastT (L : List K) (l : List Int) : Int := l.foldl (fun out x => if out < 0 ∨ (at' L out.toNat).round < (at' L x.toNat).round then x else out) (-1)
theorem lastT_snoc (L : List K) (l : List Int) (x : Int) : lastT L (l ++ [x]) = if lastT L l < 0 ∨ (at' L (lastT L l).toNat).round < (at' L x.toNat).round then x else lastT L l := by
  unfold lastT; rw [List.foldl_append]; rfl
theorem last_spec (L : List K) (C : List Int) (s : Int) (n : Nat) :
    (lastT L (firmL L C s n) = -1 ∧ ∀ k, k < n → firmN L C s k = false) ∨ (∃ f : Nat, lastT L (firmL L C s n) = (f : Int) ∧ f < n ∧ firmN L C s f = true ∧ ∀ k, k < n → firmN L C s k = true → (at' L k).round ≤ (at' L f).round ∧ ((at' L k).round = (at' L f).round → f ≤ k)) := by
  induction n with
  | zero => exact .inl ⟨rfl, fun k hk => by omega⟩
  | succ n ih =>
    unfold firmL
    cases hf : firmN L C s n
    · rw [if_neg (by simp)]
      rcases ih with ⟨h1, h2⟩ | ⟨f, h1, h2, h3, h4⟩
      · refine .inl ⟨h1, fun k hk => ?_⟩
        by_cases e : k = n
        · subst e; exact hf
        · exact h2 k (by omega)
      · refine .inr ⟨f, h1, by omega, h3, fun k hk hkf => ?_⟩
        by_cases e : k = n
        · subst e; rw [hf] at hkf; exact Bool.noConfusion hkf
        · exact h4 k (by omega) hkf
    · rw [if_pos rfl, lastT_snoc]
      rcases ih with ⟨h1, h2⟩ | ⟨f, h1, h2, h3, h4⟩
      · rw [h1, if_pos (.inl (by omega))]
        refine .inr ⟨n, rfl, by omega, hf, fun k hk hkf => ?_⟩
        by_cases e : k = n
        · subst e; exact ⟨Int.le_refl _, fun _ => Nat.le_refl _⟩
        · rw [h2 k (by omega)] at hkf; exact Bool.noConfusion hkf
      · rw [h1, Int.toNat_natCast, Int.toNat_natCast]
        by_cases hr : (at' L f).round < (at' L n).round
        · rw [if_pos (.inr hr)]
          refine .inr ⟨n, rfl, by omega, hf, fun k hk hkf => ?_⟩
          by_cases e : k = n
          · subst e; exact ⟨Int.le_refl _, fun _ => Nat.le_refl _⟩
          · have := h4 k (by omega) hkf
            exact ⟨by omega, fun _ => by omega⟩
        · rw [if_neg (by omega)]
          refine .inr ⟨f, rfl, by omega, h3, fun k hk hkf => ?_⟩
          by_cases e : k = n
          · subst e; exact ⟨by omega, fun _ => by omega⟩
          · exact h4 k (by omega) hkf

/-- what is told of a set -/
def outL (L : List K) (C : List Int) (s : Int) : List Int := if lastT L (firmL L C s L.length) < 0 then [] else taleL L C (lastT L (firmL L C s L.length))

/-- what is told of two sets goes the same way -/
theorem out_along {L : List K} {bad : Int} (hG : Ag.Good L bad) {C : List Int} {s t : Int} (hs : In L s) (ht : In L t) : (∃ r, outL L C t = outL L C s ++ r) ∨ (∃ r, outL L C s = outL L C t ++ r) := by
  unfold outL
  rcases last_spec L C s L.length with ⟨h1, _⟩ | ⟨f, h1, hf, hF, _⟩
  · left; rw [h1, if_pos (show (-1 : Int) < 0 by omega)]; exact ⟨_, rfl⟩
  · rcases last_spec L C t L.length with ⟨h2, _⟩ | ⟨g, h2, hg, hF2, _⟩
    · right; rw [h2, if_pos (show (-1 : Int) < 0 by omega)]; exact ⟨_, rfl⟩
    · rw [h1, h2, if_neg (by omega), if_neg (by omega)]
      have lf : leadK C (at' L f) = true := by unfold Ch.firmN at hF; simp only [Bool.and_eq_true] at hF; exact hF.2.1
      have lg : leadK C (at' L g) = true := by unfold Ch.firmN at hF2; simp only [Bool.and_eq_true] at hF2; exact hF2.2.1
      by_cases q1 : (at' L f).round < (at' L g).round
      · exact .inl (tale_along hG hs hf hF hg lg (.inl q1))
      · by_cases q2 : (at' L g).round < (at' L f).round
        · exact .inr (tale_along hG ht hg hF2 hf lf (.inl q2))
        · have e : f = g := Ch.firm_one hG hs ht hf hg hF hF2 (by omega)
          subst e
          exact .inl ⟨[], by rw [List.append_nil]⟩

end Tl
end Go.Proofs.YtfjmenhofllchaaGreatDoor

namespace Go.Proofs.YtfjmenhofllchaaGreatDoor
open Go.RowKit
set_option maxRecDepth 100000
namespace Nd
open Kn (K okK)
open Bit (bit withB)
open Lc (at' RdK WordsOk laceB setB)
open Sg (isB bel belows)
open Db (RowI Dbl dblS)

/-- the model's question, over its two tables -/
def nodT (l : List Int) (D : Nat → Int) (b a : Nat) : Bool := bit (l.getD a 0) b && (bits .and .i64 (l.getD a 0) (D b) == 0)
/-- those of the first that nod, over the two tables -/
def nodR (l : List Int) (D : Nat → Int) (b : Nat) : Nat → Int
  | 0 => 0
  | n + 1 => if decide (b ≤ n) && nodT l D b n then withB (nodR l D b n) n else nodR l D b n
/-- the table when all below b have been done, and of b those below a -/
def tabN (l : List Int) (D : Nat → Int) (N b a i : Nat) : Int := if i < b then nodR l D i N else if i = b then nodR l D i a else 0

theorem nodR_low (l : List Int) (D : Nat → Int) (b n : Nat) (h : n ≤ b) : nodR l D b n = 0 := by
  induction n with
  | zero => rfl
  | succ n ih =>
    unfold nodR
    rw [decide_eq_false (by omega), Bool.false_and, if_neg (by simp)]
    exact ih (by omega)
theorem nodR_bd (l : List Int) (D : Nat → Int) (b n : Nat) (hn : n ≤ 60) : 0 ≤ nodR l D b n ∧ nodR l D b n < 1152921504606846976 := by
  induction n with
  | zero => exact ⟨Int.le_refl 0, show (0 : Int) < 1152921504606846976 by decide⟩
  | succ n ih =>
    have h := ih (by omega)
    unfold nodR; split
    · exact Bit.withB_bd _ h.1 h.2 n (by omega)
    · exact h
theorem tab_zero (l : List Int) (D : Nat → Int) (N : Nat) : tabN l D N 0 0 = fun _ => 0 := by
  funext i
  unfold tabN
  rw [if_neg (by omega)]
  split
  · rfl
  · rfl
theorem tab_next (l : List Int) (D : Nat → Int) (N b : Nat) : tabN l D N b N = tabN l D N (b + 1) (b + 1) := by
  funext i
  unfold tabN
  by_cases h1 : i < b
  · rw [if_pos h1, if_pos (by omega)]
  · by_cases h2 : i = b
    · rw [if_neg h1, if_pos h2, if_pos (by omega)]
    · rw [if_neg h1, if_neg h2, if_neg (by omega)]
      by_cases h3 : i = b + 1
      · rw [if_pos h3, nodR_low _ _ _ _ (by omega)]
      · rw [if_neg h3]
theorem tab_skip (l : List Int) (D : Nat → Int) (N b a : Nat) (hp : nodT l D b a = false) : tabN l D N b (a + 1) = tabN l D N b a := by
  funext i
  unfold tabN
  by_cases h2 : i = b
  · subst h2
    rw [if_neg (by omega), if_pos rfl, if_neg (by omega), if_pos rfl]
    show nodR l D i (a + 1) = _
    conv => lhs; unfold nodR
    rw [hp, Bool.and_false, if_neg (by simp)]
  · rw [if_neg h2, if_neg h2]
theorem tab_put (l : List Int) (D : Nat → Int) (N b a : Nat) (hba : b ≤ a) (hp : nodT l D b a = true) : (fun i => if i = b then withB (nodR l D b a) a else tabN l D N b a i) = tabN l D N b (a + 1) := by
  funext i
  unfold tabN
  by_cases h2 : i = b
  · subst h2
    rw [if_pos rfl, if_neg (by omega), if_pos rfl]
    show _ = nodR l D i (a + 1)
    conv => rhs; unfold nodR
    rw [hp, decide_eq_true hba, Bool.true_and, if_pos rfl]
  · rw [if_neg h2, if_neg h2, if_neg h2]
theorem tab_at (l : List Int) (D : Nat → Int) (N b a : Nat) : tabN l D N b a b = nodR l D b a := by
  unfold tabN; rw [if_neg (by omega), if_pos rfl]

/-- the nodding ones are handed back -/
def NodPost (L : List K) (l : List Int) (w : World) (e : Ending) (w' : World) : Prop := ∃ h D O, e = .returned (.slice (some ⟨h, 0, none⟩) L.length L.length) ∧ w.heap.size ≤ h ∧ RowI w' h L.length O ∧ Dbl L l L.length 0 D ∧ (∀ i, i < L.length → O i = nodR l D i L.length) ∧ Below w.heap.size w w'

/-- over the lace's own tables: the document's word -/
theorem nodR_eq {L : List K} (hl : laceB L = true) {D : Nat → Int} (h : Dbl L (belows L L.length) L.length 0 D) {b : Nat} (hb : b < L.length) (n : Nat) (hn : n ≤ L.length) : nodR (belows L L.length) D b n = nodS L b n := by
  induction n with
  | zero => rfl
  | succ n ih =>
    have ih := ih (by omega)
    unfold nodR nodS
    have e : (decide (b ≤ n) && nodT (belows L L.length) D b n) = nodN L n b := by
      have e1 : nodT (belows L L.length) D b n = nodN L n b := by
        unfold nodT nodN
        rw [Sg.belows_get L L.length n (by omega), Db.dbl_eq hl h hb]
      rw [e1]
      by_cases hbn : b ≤ n
      · rw [decide_eq_true hbn, Bool.true_and]
      · rw [decide_eq_false hbn, Bool.false_and]
        symm
        rw [Bool.eq_false_iff]
        intro hq
        exact hbn (nod_le hl (by omega) hq)
    rw [e, ih]

end Nd
end Go.Proofs.YtfjmenhofllchaaGreatDoor

namespace Go.Proofs.YtfjmenhofllchaaGreatDoor
open Go.RowKit
set_option maxRecDepth 100000
namespace Sl
open Kn (K okK)
open Bit (bit withB)
open Lc (at' RdK WordsOk laceB setB Four ofH handsN)
open Sg (isB bel belows)
open Db (RowI)
open Nd (nodS)

/-- the table when all below b have been done, and of b those below a -/
def tabS (L : List K) (N b a i : Nat) : Int := if i < b then sealS L i N else if i = b then sealS L i a else 0

theorem sealS_low {L : List K} (hl : laceB L = true) (b n : Nat) (hn : n ≤ L.length) (h : n ≤ b) : sealS L b n = 0 := by
  induction n with
  | zero => rfl
  | succ n ih =>
    have hf : sealN L n b = false := by
      rw [Bool.eq_false_iff]
      intro hs
      have := seal_le hl (by omega) hs
      omega
    unfold sealS
    rw [hf, if_neg (by simp)]
    exact ih (by omega) (by omega)
theorem tabS_zero (L : List K) (N : Nat) : tabS L N 0 0 = fun _ => 0 := by
  funext i
  unfold tabS
  rw [if_neg (by omega)]
  split
  · rfl
  · rfl
theorem tabS_next {L : List K} (hl : laceB L = true) (b : Nat) (hb : b < L.length) (i : Nat) : tabS L L.length b L.length i = tabS L L.length (b + 1) (b + 1) i := by
  unfold tabS
  by_cases h1 : i < b
  · rw [if_pos h1, if_pos (by omega)]
  · by_cases h2 : i = b
    · rw [if_neg h1, if_pos h2, if_pos (by omega)]
    · rw [if_neg h1, if_neg h2, if_neg (by omega)]
      by_cases h3 : i = b + 1
      · rw [if_pos h3, sealS_low hl _ _ (by omega) (by omega)]
      · rw [if_neg h3]
theorem tabS_skip (L : List K) (N b a : Nat) (hp : sealN L a b = false) : tabS L N b (a + 1) = tabS L N b a := by
  funext i
  unfold tabS
  by_cases h2 : i = b
  · subst h2
    rw [if_neg (by omega), if_pos rfl, if_neg (by omega), if_pos rfl]
    show sealS L i (a + 1) = _
    conv => lhs; unfold sealS
    rw [hp, if_neg (by simp)]
  · rw [if_neg h2, if_neg h2]
theorem tabS_put (L : List K) (N b a : Nat) (hp : sealN L a b = true) : (fun i => if i = b then withB (sealS L b a) a else tabS L N b a i) = tabS L N b (a + 1) := by
  funext i
  unfold tabS
  by_cases h2 : i = b
  · subst h2
    rw [if_pos rfl, if_neg (by omega), if_pos rfl]
    show _ = sealS L i (a + 1)
    conv => rhs; unfold sealS
    rw [hp, if_pos rfl]
  · rw [if_neg h2, if_neg h2, if_neg h2]
theorem tabS_at (L : List K) (N b a : Nat) : tabS L N b a b = sealS L b a := by
  unfold tabS; rw [if_neg (by omega), if_pos rfl]
theorem rowI_eq {w : World} {g n : Nat} {D E : Nat → Int} (h : RowI w g n D) (e : ∀ i, i < n → D i = E i) : RowI w g n E := ⟨h.lt, fun i hi => by rw [← e i hi]; exact h.rd i hi, h.fr⟩
theorem four_below {w w' : World} {g : Nat} {x0 x1 x2 x3 : Int} (h : Four w g x0 x1 x2 x3) (hb : Below w.heap.size w w') : Four w' g x0 x1 x2 x3 where
  lt := Nat.lt_of_lt_of_le h.lt hb.size
  c0 := (hb.cell (p := ⟨g, 0, none⟩) h.lt).trans h.c0
  c1 := (hb.cell (p := ⟨g, 1, none⟩) h.lt).trans h.c1
  c2 := (hb.cell (p := ⟨g, 2, none⟩) h.lt).trans h.c2
  c3 := (hb.cell (p := ⟨g, 3, none⟩) h.lt).trans h.c3
  f := fun j hj => (hb.frozen (p := ⟨g, j, none⟩) h.lt).trans (h.f j hj)

/-- the table of those that seal is handed back -/
def SealPost (L : List K) (w : World) (e : Ending) (w' : World) : Prop := ∃ h O, e = .returned (.slice (some ⟨h, 0, none⟩) L.length L.length) ∧ w.heap.size ≤ h ∧ RowI w' h L.length O ∧ (∀ i, i < L.length → O i = sealS L i L.length) ∧ Below w.heap.size w w'

end Sl
end Go.Proofs.YtfjmenhofllchaaGreatDoor
