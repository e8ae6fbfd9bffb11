/-
  FnBelow answers true at every code, for Below and Sees keep promise 4; no condition.
  What the model's drawing of a list of knots hands back, where the drawing of a room keeps its word: a list of at most 61 knots with short words, in memory of its own; it changes the cursor alone.
  What the model's drawing of any list of knots, of a set and of a number hands back, where the drawing of a room keeps its word: a list of at most 61 knots with short words, in memory of its own; it changes the cursor alone.
  What the model's drawings of a set and of a number hand back: a number; they change the cursor alone. And the drawings of the laws on laces, where the drawing of a room keeps its word.
  What the model's Below, Sees, Closed and Tips answer, in the words of SightM; for lists of knots whose words have at most 2^40 bytes.
  What the model's drawings for the laws on sight hand back, where the drawing of a room keeps its word.
  Plain mathematics of a walk back along the threads: it goes through the numbers from the last to the first, keeps the set of those reached, and adds a reached one's threads; what it meets is what hangs below the set; for laces.
  What the program's own HandsOf and AtRound answer, in the words of LaceM; for lists of at most 2^40 knots whose words have at most 2^40 bytes.
  What the program's own walk back along the threads does (an iterator over a lace in memory, whatever the loop's body is that keeps the lace), in the words of SightV; for laces.
  What the program's own Below, Sees, Closed and Tips answer, in the words of SightT; for lists of knots whose words have at most 2^40 bytes.
  What the law on closed sets and tips answers, where the drawing of a room keeps its word: true at every code.
  Plain mathematics of the law on what hangs below and what is seen; for laces.
  What the law on what hangs below and what is seen answers, where the drawing of a room keeps its word: true at every code.
  The drawing of a room keeps its word.
-/
import Derived.Test.YtdcjjopeobnpgaaRoomW
import Derived.Test.YtdcjjopeobnpgaaRoomG
import Derived.Test.YtdcjjopeobnpgaaDraw
import Derived.Test.YtdcjjopeobnpgaaDrawK
import Derived.Maps.AppendAt
import Derived.Test.YtdcjjopeobnpgaaSightS
import Derived.Test.YtdcjjopeobnpgaaSightN
import Derived.Test.YtdcjjopeobnpgaaLaceU
import Derived.Test.YtdcjjopeobnpgaaLaceE
import Derived.RangeFuncNested
import Derived.RangeFuncBound
import Derived.RangeFuncCalls
import Derived.RangeFuncLeaves
import Derived.Shelf.Abstract
import Derived.Shelf.RegionOpen
import Derived.WalkKit
import Derived.OwnWalkIn
import Derived.TacticsInMore
import Derived.LoopNIn
import Derived.LoopIn
import Derived.Test.YtdcjjopeobnpgaaFam
import Derived.Test.YtdcjjopeobnpgaaRoomXm
import Derived.Test.YtdcjjopeobnpgaaRows
import Derived.ProofKit
import Derived.OpenShut
import Derived.ChangeOld
import Derived.Below
namespace Go.Proofs.Ytdcjjopeobnpgaa
open Go.RowKit
set_option maxRecDepth 100000
namespace Rm
open Kn (K okK)
open Lc (at' RdK laceB flat OwnK cellsOf)
open Cur (At)

/-- the drawing of a room keeps its word -/
def DrawsRoom : Prop := ∀ (c : Nat) (a : Option Addr) (len cap : Nat) (w : World), len ≤ 4096 → At c a len cap w → Calls Try.prog 127 #[.pointer (some ⟨c, 0, none⟩)] w (DrawPost c a len cap w)

/-- how the drawing of a list ends -/
def ListPost (m : Nat) (c : Nat) (a : Option Addr) (len cap : Nat) (w : World) (e : Ending) (w' : World) : Prop := ∃ v L, e = .returned v ∧ OwnK 26 w.heap.size w' v L ∧ L.length ≤ m ∧ (∀ k ∈ L, k.word.size ≤ 13) ∧ At c a len cap w' ∧ w.grownBy w' (some c)
/-- how the drawing of a number ends -/
def NumPost (c : Nat) (a : Option Addr) (len cap : Nat) (w : World) (e : Ending) (w' : World) : Prop := ∃ x : Int, e = .returned (.int .i64 x) ∧ (-9223372036854775808 ≤ x ∧ x ≤ 9223372036854775807) ∧ At c a len cap w' ∧ w.grownBy w' (some c)

theorem word_lace {L : List K} (h : laceB L = true) : ∀ k ∈ L, k.word.size ≤ 13 := by
  intro k hk
  obtain ⟨i, hi, rfl⟩ := List.mem_iff_getElem.1 hk
  have := Lc.can_ok (Lc.lace_upTo h i hi)
  rw [Lc.at_get L i hi] at this
  simp only [okK, Bool.and_eq_true] at this
  have h5 := this.2.2.2.2
  simp only [Kn.okW, Bool.and_eq_true, decide_eq_true_eq] at h5
  omega

theorem ownK_base {t : TypeId} {B B' : Nat} {w : World} {v : Value} {L : List K} (h : OwnK t B w v L) (hB : B' ≤ B) : OwnK t B' w v L := by
  obtain ⟨⟨h1, h2 | ⟨g, cp, cur, e, hg, r⟩⟩, hv⟩ := h
  · exact ⟨⟨h1, .inl h2⟩, hv⟩
  · exact ⟨⟨h1, .inr ⟨g, cp, cur, e, Nat.le_trans hB hg, r⟩⟩, hv⟩

theorem ownK_grown {t : TypeId} {B c : Nat} {w w' : World} {v : Value} {L : List K} (h : OwnK t B w v L) (hg : w.grownBy w' (some c)) (hc : c < B) : OwnK t B w' v L :=
  ⟨own_fr (Fr.of_grown hg) h.1 (fun g e => by have := (World.ownsRow.lt h.1 g e).1; omega), h.2⟩

theorem lace_field (ao : Option Addr) (n cp : Nat) (v1 v2 v3 : Value) (W : World) : (Instr.field 115 (.agg #[.slice ao n cp, v1, v2, v3]) 0).run Try.prog W = .ok (.slice ao n cp) W := by kernel_rfl

set_option maxHeartbeats 800000 in
theorem l3Draw (HD : DrawsRoom) (c : Nat) (a : Option Addr) (len cap : Nat) (w : World) (hl : len ≤ 4096) (hc : At c a len cap w) :
    Calls Try.prog 106 #[.pointer (some ⟨c, 0, none⟩)] w (ListPost 60 c a len cap w) := by
  have hcw : c < w.heap.size := hc.lt
  have HDD : Hid DrawsRoom := HD
  clear HD
  go_enter Try.func106, Try.ntmps106
  go_wp2_with fail
  refine (HDD.out c a len cap _ hl hc).mono ?_
  rintro e w1 ⟨R, rfl, hP, hA1, hF1⟩
  obtain ⟨ao, cp, hlv, ho, hz, _, hrd, _⟩ := own_lace hP.own
  have h60 := ((Lc.lace_iff R.L).1 hP.lace).1
  have hwd := word_lace hP.lace
  have HWD : Hid (∀ k ∈ R.L, k.word.size ≤ 13) := hwd
  have HV : Hid (roV R = .agg #[.slice ao R.L.length cp, R.cv, .slice (some ⟨R.gh, 0, none⟩) 4 R.hc, .int .i64 R.bad]) := by show _ = _; unfold roV; rw [hlv]
  rw [HV.out]
  have hfl := lace_field ao R.L.length cp R.cv (.slice (some ⟨R.gh, 0, none⟩) 4 R.hc) (.int .i64 R.bad)
  clear hwd hlv hP
  go_wp2_with fail
  refine (l3CopyO ao cp R.L _ ho hz (by omega) hrd).mono ?_
  rintro e w2 ⟨v, rfl, hO, hb2⟩
  have HR : Hid (OwnK 26 w.heap.size w2 v R.L ∧ At c a len cap w2 ∧ w.grownBy w2 (some c)) := ⟨ownK_base hO hF1.size, hA1.below hb2, (hF1.trans (Fr.of_below hb2 (fun x => x = c)) (fun _ h _ => h)).grown⟩
  clear hO hb2 hA1 hF1 hrd
  go_wp2
  go_ret
  exact ⟨v, R.L, rfl, HR.out.1, h60, HWD.out, HR.out.2.1, HR.out.2.2⟩

set_option maxHeartbeats 400000 in
theorem l1From (c : Nat) (a : Option Addr) (len cap : Nat) (lo hi : Int) (w : World) (hl : len ≤ 4096) (h0 : -10 ≤ lo) (h1 : lo ≤ hi) (h2 : hi ≤ 100) (hc : At c a len cap w) :
    Calls Try.prog 68 #[.pointer (some ⟨c, 0, none⟩), .int .i64 lo, .int .i64 hi] w (NumPost c a len cap w) := by
  have hw1 : IntKind.i64.wrap (hi - lo) = hi - lo := by rw [IntKind.wrap_i64]; omega
  have hw2 : IntKind.i64.wrap (hi - lo + 1) = hi - lo + 1 := by rw [IntKind.wrap_i64]; omega
  go_enter Try.func68, Try.ntmps68
  go_wp2_with fail
  refine (Cur.below c a len cap _ _ hl (by omega) hc).mono ?_
  rintro e w1 ⟨x, rfl, hx0, hx1, hA1, hG1⟩
  have hx2 := hx1 (by omega)
  go_wp2
  go_ret
  exact ⟨_, rfl, by omega, hA1, hG1⟩

end Rm
end Go.Proofs.Ytdcjjopeobnpgaa

namespace Go.Proofs.Ytdcjjopeobnpgaa
open Go.RowKit
set_option maxRecDepth 100000
namespace Rm
open Kn (K okK)
open Lc (at' RdK laceB flat OwnK cellsOf)
open Cur (At)

theorem flat_set (L : List K) (j c : Nat) (hj : j < L.length) (hc : c < 4) (k' : K) (v : Value) (h : cellsOf k' = (cellsOf (at' L j)).set c v) : (flat L).set (j * 4 + c) v = flat (L.set j k') := by
  induction L generalizing j with
  | nil => simp at hj
  | cons k L ih =>
    have hk4 : (cellsOf k).length = 4 := rfl
    cases j with
    | zero =>
      show (cellsOf k ++ flat L).set (0 * 4 + c) v = cellsOf k' ++ flat L
      rw [List.set_append_left _ _ (by rw [hk4]; omega), h]
      simp [at']
    | succ j =>
      show (cellsOf k ++ flat L).set ((j + 1) * 4 + c) v = cellsOf k ++ flat (L.set j k')
      rw [List.set_append_right _ _ (by rw [hk4]; omega), hk4, show (j + 1) * 4 + c - 4 = j * 4 + c by omega, ih j (by simpa using hj) (by simpa [at'] using h)]

theorem grown_far {w w5 w6 : World} {c g : Nat} (h : w.grownBy w5 (some c)) (h2 : w5.grownBy w6 (some g)) (hg : w.heap.size ≤ g) : w.grownBy w6 (some c) :=
  ((Fr.of_grown h).trans (Fr.of_grown h2) (fun x hx hl => by omega)).grown

/-- a number of a knot is written -/
theorem list_put {m c : Nat} {a : Option Addr} {len cap : Nat} {w w5 : World} {g cp : Nat} {L : List K} {j f : Nat} {u : Value} {k' : K} (hc : At c a len cap w) (hO : OwnK 26 w.heap.size w5 (.slice (some ⟨g, 0, none⟩) L.length cp) L) (hm : L.length ≤ m) (hwd : ∀ k ∈ L, k.word.size ≤ 13)
    (hA : At c a len cap w5) (hG : w.grownBy w5 (some c)) (hj : j < L.length) (hf : f < 4) (hk : cellsOf k' = (cellsOf (at' L j)).set f u) (hw : k'.word.size ≤ 13) :
    ListPost m c a len cap w (.returned (.slice (some ⟨g, 0, none⟩) L.length cp)) (w5.setCell ⟨g, j * 4 + f, none⟩ u) := by
  have hgB := (World.ownsRow.lt hO.1 g rfl).1
  have hs := World.ownsRow.stored hO.1 (j * 4 + f) u
  rw [flat_set L j f hj hf k' u hk] at hs
  have hl : (L.set j k').length = L.length := by simp
  refine ⟨_, L.set j k', rfl, ⟨by rw [hl]; exact hs.1, by simp⟩, by rw [hl]; exact hm, fun k hkm => ?_, ?_, grown_far hG hs.2 hgB⟩
  · rcases List.mem_or_eq_of_mem_set hkm with h | h
    · exact hwd k h
    · rw [h]; exact hw
  · exact at_belowB hA (curB_of hc) ((Below.refl w.heap.size w5).grown hs.2 hG.size (fun x e => by cases e; exact hgB))

set_option maxHeartbeats 6400000 in
theorem l3DrawAny (HD : DrawsRoom) (c : Nat) (a : Option Addr) (len cap : Nat) (w : World) (hl : len ≤ 4096) (hc : At c a len cap w) :
    Calls Try.prog 66 #[.pointer (some ⟨c, 0, none⟩)] w (ListPost 61 c a len cap w) := by
  obtain ⟨i0, hi, hz0, hz1, hz2⟩ := info_parts Lc.infoKn
  have hcw : c < w.heap.size := hc.lt
  have HDD : Hid DrawsRoom := HD
  clear HD
  go_enter Try.func66, Try.ntmps66
  go_wp2_with fail
  refine (l3Draw HDD.out c a len cap _ hl hc).mono ?_
  rintro e w1 ⟨v, L, rfl, hO, h60, hwd, hA1, hG1⟩
  obtain ⟨g, cp, rfl, hcap, _, hbg, _, _, _⟩ := Lc.ownK_shape hO
  have HWD : Hid (∀ k ∈ L, k.word.size ≤ 13) := hwd
  have HO : Hid (OwnK 26 w.heap.size w1 (.slice (some ⟨g, 0, none⟩) L.length cp) L) := hO
  clear hO hwd
  by_cases hz : L.length = 0
  · obtain rfl : L = [] := List.eq_nil_of_length_eq_zero hz
    go_wp2
    go_ret
    exact ⟨_, [], rfl, HO.out, by simp, HWD.out, hA1, hG1⟩
  · have hz' : (0 : Int) < (L.length : Int) := by omega
    go_wp2_with fail
    refine (Cur.once c a len cap 10 _ hl (by omega) hA1).mono ?_
    rintro e w2 ⟨b, rfl, hA2, hG2⟩
    have HO2 : Hid (OwnK 26 w.heap.size w2 (.slice (some ⟨g, 0, none⟩) L.length cp) L) := ownK_grown HO.out hG2 hcw
    have G2 := Cur.grownBy_trans hG1 hG2
    clear HO hG1 hG2 hA1
    cases b
    · go_wp2
      go_ret
      exact ⟨_, L, rfl, HO2.out, by omega, HWD.out, hA2, G2⟩
    · go_wp2_with fail
      refine (Cur.below c a len cap (L.length : Int) _ hl (by omega) hA2).mono ?_
      rintro e w3 ⟨x, rfl, hx0, hx1, hA3, hG3⟩
      have hx2 := hx1 hz'
      obtain ⟨j, rfl⟩ := Int.eq_ofNat_of_zero_le hx0
      have hj : j < L.length := by omega
      have HO3 : Hid (OwnK 26 w.heap.size w3 (.slice (some ⟨g, 0, none⟩) L.length cp) L) := ownK_grown HO2.out hG3 hcw
      have G3 := Cur.grownBy_trans G2 hG3
      clear HO2 hG3 hA2 G2 hx1
      go_wp2_with fail
      refine (Cur.below c a len cap 4 _ hl (by omega) hA3).mono ?_
      rintro e w4 ⟨t, rfl, ht0, ht1, hA4, hG4⟩
      have ht2 := ht1 (by omega)
      have HO4 : Hid (OwnK 26 w.heap.size w4 (.slice (some ⟨g, 0, none⟩) L.length cp) L) := ownK_grown HO3.out hG4 hcw
      have HG4 : Hid (w.grownBy w4 (some c)) := Cur.grownBy_trans G3 hG4
      have HC : Hid (At c a len cap w) := hc
      clear HO3 hG4 hA3 G3 ht1 hc
      have htc : t = 0 ∨ t = 1 ∨ t = 2 ∨ t = 3 := by omega
      rcases htc with rfl | rfl | rfl | rfl
      · go_wp2_with fail
        refine (l1From c a len cap (-1) 4 _ hl (by omega) (by omega) (by omega) hA4).mono ?_
        rintro e w5 ⟨y, rfl, _, hA5, hG5⟩
        have hO5 := ownK_grown HO4.out hG5 hcw
        obtain ⟨_, _, e5, _, _, _, _, hrd5, hfz5⟩ := Lc.ownK_shape hO5
        simp only [Value.slice.injEq, Option.some.injEq, Addr.mk.injEq, and_true, true_and] at e5
        obtain ⟨rfl, rfl⟩ := e5
        have HF : Hid (ListPost 61 c a len cap w (.returned (.slice (some ⟨g, 0, none⟩) L.length cp)) (w5.setCell ⟨g, j * 4, none⟩ (.int .i64 y))) := list_put (f := 0) (k' := ⟨y, (at' L j).round, (at' L j).frm, (at' L j).word⟩) HC.out hO5 (by omega) HWD.out hA5 (Cur.grownBy_trans HG4.out hG5) hj (by omega) rfl (HWD.out (at' L j) (Lc.at_mem L j hj))
        obtain ⟨_, c0, c1, c2, _⟩ := hrd5.on j hj
        rw [Nat.zero_add] at c0 c1 c2
        have f5 := hfz5 (j * 4) (by omega)
        clear hO5 hrd5 hfz5 HO4 HG4 hA5 hG5
        go_wp2
        go_ret
        exact HF.out
      · go_wp2_with fail
        refine (Cur.below c a len cap 5 _ hl (by omega) hA4).mono ?_
        rintro e w5 ⟨y, rfl, _, _, hA5, hG5⟩
        have hO5 := ownK_grown HO4.out hG5 hcw
        obtain ⟨_, _, e5, _, _, _, _, hrd5, hfz5⟩ := Lc.ownK_shape hO5
        simp only [Value.slice.injEq, Option.some.injEq, Addr.mk.injEq, and_true, true_and] at e5
        obtain ⟨rfl, rfl⟩ := e5
        have HF : Hid (ListPost 61 c a len cap w (.returned (.slice (some ⟨g, 0, none⟩) L.length cp)) (w5.setCell ⟨g, j * 4 + 1, none⟩ (.int .i64 y))) := list_put (f := 1) (k' := ⟨(at' L j).hand, y, (at' L j).frm, (at' L j).word⟩) HC.out hO5 (by omega) HWD.out hA5 (Cur.grownBy_trans HG4.out hG5) hj (by omega) rfl (HWD.out (at' L j) (Lc.at_mem L j hj))
        obtain ⟨_, c0, c1, c2, _⟩ := hrd5.on j hj
        rw [Nat.zero_add] at c0 c1 c2
        have f5 := hfz5 (j * 4 + 1) (by omega)
        clear hO5 hrd5 hfz5 HO4 HG4 hA5 hG5
        go_wp2
        go_ret
        exact HF.out
      · go_wp2_with fail
        refine (Draw.drawSet c a len cap _ hl hA4).mono ?_
        rintro e w5 ⟨y, rfl, _, hA5, hG5⟩
        have hO5 := ownK_grown HO4.out hG5 hcw
        obtain ⟨_, _, e5, _, _, _, _, hrd5, hfz5⟩ := Lc.ownK_shape hO5
        simp only [Value.slice.injEq, Option.some.injEq, Addr.mk.injEq, and_true, true_and] at e5
        obtain ⟨rfl, rfl⟩ := e5
        have HF : Hid (ListPost 61 c a len cap w (.returned (.slice (some ⟨g, 0, none⟩) L.length cp)) (w5.setCell ⟨g, j * 4 + 2, none⟩ (.int .i64 y))) := list_put (f := 2) (k' := ⟨(at' L j).hand, (at' L j).round, y, (at' L j).word⟩) HC.out hO5 (by omega) HWD.out hA5 (Cur.grownBy_trans HG4.out hG5) hj (by omega) rfl (HWD.out (at' L j) (Lc.at_mem L j hj))
        obtain ⟨_, c0, c1, c2, _⟩ := hrd5.on j hj
        rw [Nat.zero_add] at c0 c1 c2
        have f5 := hfz5 (j * 4 + 2) (by omega)
        clear hO5 hrd5 hfz5 HO4 HG4 hA5 hG5
        go_wp2
        go_ret
        exact HF.out
      · go_wp2_with fail
        refine (Kn.draw c a len cap _ hl hA4).mono ?_
        rintro e w5 ⟨h, r, f, s, rfl, hs13, hA5, hG5⟩
        have HO5 : Hid (OwnK 26 w.heap.size w5 (.slice (some ⟨g, 0, none⟩) L.length cp) L) := ownK_grown HO4.out hG5 hcw
        have HG5 : Hid (w.grownBy w5 (some c)) := Cur.grownBy_trans HG4.out hG5
        clear HO4 HG4 hG5
        go_wp2_with (at_builtin; refine wpList_append_own _ rfl _ _ 24 rfl w.heap.size 26 i0 (.agg #[.int .i64 0, .int .i64 0, .int .i64 0, .string ⟨#[]⟩]) 4 40 Try.underlying24 hi hz0 hz1 hz2 rfl (by decide) _ _ _ rfl (HO5.out.1.alloc _) ⟨w5.heap.size, 0, none⟩ 1 1 (cellsOf ⟨h, r, f, s⟩) rfl rfl ?c1 ?c2 ?c3 ?c4 ?c5 ?_)
        case c1 => exact Lc.new_cells w5 ⟨h, r, f, s⟩ _
        case c2 => intro u hu; simp [cellsOf] at hu; rcases hu with rfl | rfl | rfl | rfl <;> rfl
        case c3 => unfold maxLen; omega
        case c4 => omega
        case c5 => have := HG5.out.size; simp; omega
        intro v' w6 hown' hgrow hnil
        have HF : Hid (ListPost 61 c a len cap w (.returned v') w6) := by
          have hg6 : w5.grownBy w6 (some g) := (World.grownBy_alloc w5 _ _).trans hgrow
          refine ⟨v', L ++ [⟨h, r, f, s⟩], rfl, ⟨?_, ?_⟩, by simp; omega, ?_, ?_, grown_far HG5.out hg6 hbg⟩
          · rw [List.length_append, Lc.flat_snoc]; exact hown'
          · intro e; simp [e] at hnil
          · intro k hk
            rcases List.mem_append.1 hk with hk | hk
            · exact HWD.out k hk
            · simp at hk; subst hk; exact hs13
          · exact at_belowB hA5 (curB_of HC.out) ((Below.refl w.heap.size w5).grown hg6 HG5.out.size (fun x e => by cases e; exact hbg))
        clear hown' hgrow hnil
        go_wp2
        go_ret
        exact HF.out

end Rm
end Go.Proofs.Ytdcjjopeobnpgaa

namespace Go.Proofs.Ytdcjjopeobnpgaa
open Go.RowKit
set_option maxRecDepth 100000
namespace Rm
open Kn (K okK)
open Lc (at' RdK laceB flat OwnK cellsOf)
open Cur (At)

theorem wrap_bd (x : Int) : -9223372036854775808 ≤ IntKind.i64.wrap x ∧ IntKind.i64.wrap x ≤ 9223372036854775807 := by rw [IntKind.wrap_i64]; omega

set_option maxHeartbeats 400000 in
theorem l1BitAny (i : Nat) (w : World) (h : i ≤ 62) : Calls Try.prog 82 #[.int .i64 (i : Int)] w fun e w' => ∃ x : Int, e = .returned (.int .i64 x) ∧ w = w' := by
  go_enter Try.func82, Try.ntmps82
  go_wp2
  go_ret
  exact ⟨_, rfl, rfl⟩

set_option maxHeartbeats 1600000 in
theorem l3DrawSet (c : Nat) (a : Option Addr) (len cap n : Nat) (w : World) (hl : len ≤ 4096) (hn : n ≤ 61) (hc : At c a len cap w) :
    Calls Try.prog 67 #[.pointer (some ⟨c, 0, none⟩), .int .i64 (n : Int)] w (NumPost c a len cap w) := by
  go_enter Try.func67, Try.ntmps67
  go_wp2_with fail
  refine (Cur.once c a len cap 8 _ hl (by omega) hc).mono ?_
  rintro e w1 ⟨b, rfl, hA1, hG1⟩
  cases b
  · go_wp2
    go_loopw [5, 6] (fun s i wr => ∃ (k : Nat) (x : Int), k ≤ n ∧ i = .int .i64 (k : Int) ∧ s = .int .i64 x ∧ Hid (-9223372036854775808 ≤ x ∧ x ≤ 9223372036854775807) ∧ Hid (At c a len cap wr) ∧ Hid (w.grownBy wr (some c))) (fun _ i _ => n - (intOf i).toNat)
    case atStart => exact ⟨0, 0, by omega, rfl, rfl, ⟨by omega, by omega⟩, hA1, hG1⟩
    case round =>
      obtain ⟨k, x, hk, rfl, rfl, HX, HA, HG⟩ := hrel
      by_cases hlt : k < n
      · have hki : (k : Int) < (n : Int) := by omega
        go_wp2_with fail
        refine (Cur.once c a len cap 3 _ hl (by omega) HA.out).mono ?_
        rintro e w2 ⟨b, rfl, hA2, hG2⟩
        have HA2 : Hid (At c a len cap w2) := hA2
        have HG2 : Hid (w.grownBy w2 (some c)) := Cur.grownBy_trans HG.out hG2
        clear hA2 hG2 HA HG
        cases b
        · go_wp2_with fail
          refine (l1BitAny k _ (by omega)).mono ?_
          rintro e w3 ⟨y, rfl, rfl⟩
          go_wp2
          go_roundw
          case rel => exact ⟨k + 1, _, by omega, by go_num, rfl, Draw.bits_bd _ _ _, HA2, HG2⟩
          case measure => simp [intOf]; omega
        · go_wp2
          go_roundw
          case rel => exact ⟨k + 1, x, by omega, by go_num, rfl, HX, HA2, HG2⟩
          case measure => simp [intOf]; omega
      · obtain rfl : k = n := by omega
        go_wp2
        go_ret
        exact ⟨x, rfl, HX.out, HA.out, HG.out⟩
  · go_wp2_with fail
    refine (Draw.drawSet c a len cap _ hl hA1).mono ?_
    rintro e w2 ⟨y, rfl, hy, hA2, hG2⟩
    have G2 := Cur.grownBy_trans hG1 hG2
    go_wp2
    go_ret
    exact ⟨y, rfl, hy, hA2, G2⟩

theorem new_four (W : World) (x : Int) (t : TypeId) (j : Nat) (hj : j < 4) : ∃ y : Int, (W.alloc (.cells #[.int .i64 (-1), .int .i64 x, .int .i64 60, .int .i64 0] t)).cell? ⟨W.heap.size, j, none⟩ = some (.int .i64 y) ∧ (y = -1 ∨ y = x ∨ y = 60 ∨ y = 0) := by
  match j, hj with
  | 0, _ => exact ⟨-1, by simp, .inl rfl⟩
  | 1, _ => exact ⟨x, by simp, .inr (.inl rfl)⟩
  | 2, _ => exact ⟨60, by simp, .inr (.inr (.inl rfl))⟩
  | 3, _ => exact ⟨0, by simp, .inr (.inr (.inr rfl))⟩

set_option maxHeartbeats 1600000 in
theorem l3DrawAt (c : Nat) (a : Option Addr) (len cap n : Nat) (w : World) (hl : len ≤ 4096) (hn : n ≤ 61) (hc : At c a len cap w) :
    Calls Try.prog 73 #[.pointer (some ⟨c, 0, none⟩), .int .i64 (n : Int)] w (NumPost c a len cap w) := by
  have hcw : c < w.heap.size := hc.lt
  have HT : Hid (∀ W : World, At c a len cap W → w.grownBy W (some c) → ∀ w', At c a len cap w' → (W.alloc (.cells #[.int .i64 (-1), .int .i64 (n : Int), .int .i64 60, .int .i64 0] 2)).grownBy w' (some c) → ∀ j, j < 4 → ∃ y : Int, w'.cell? ⟨W.heap.size, j, none⟩ = some (.int .i64 y) ∧ (-9223372036854775808 ≤ y ∧ y ≤ 9223372036854775807) ∧ w.grownBy w' (some c)) := by
    intro W hA hG w' hA' hG' j hj
    obtain ⟨y, hy, hyc⟩ := new_four W (n : Int) 2 j hj
    refine ⟨y, ((Fr.of_grown hG').cell (p := ⟨W.heap.size, j, none⟩) (by simp) (by have := hA.lt; simp; omega)).trans hy, by omega, Cur.grownBy_trans hG ((World.grownBy_alloc W _ _).trans hG')⟩
  have HGR : Hid (w.grownBy w (some c)) := ⟨rfl, rfl, rfl, Nat.le_refl _, fun _ _ _ => rfl⟩
  go_enter Try.func73, Try.ntmps73
  by_cases hz : n = 0
  · subst hz
    have hAl := Draw.at_alloc hc (.cells #[.int .i64 (-1), .int .i64 ((0 : Nat) : Int), .int .i64 60, .int .i64 0] 2)
    simp only [Int.ofNat_zero] at hAl HT
    go_wp2_with fail
    refine (Cur.below c a len cap 4 _ hl (by omega) hAl).mono ?_
    rintro e w1 ⟨x, rfl, hx0, hx1, hA1, hG1⟩
    have hx2 := hx1 (by omega)
    obtain ⟨j, rfl⟩ := Int.eq_ofNat_of_zero_le hx0
    obtain ⟨y, hy, hyb, hG⟩ := HT.out w hc HGR.out w1 hA1 hG1 j (by omega)
    have hj4 : (j : Int) < 4 := by omega
    clear hG1 hx1 HT
    go_wp2
    go_ret
    exact ⟨y, rfl, hyb, hA1, hG⟩
  · have hz' : (0 : Int) < (n : Int) := by omega
    go_wp2_with fail
    refine (Cur.once c a len cap 10 _ hl (by omega) hc).mono ?_
    rintro e w1 ⟨b, rfl, hA1, hG1⟩
    cases b
    · go_wp2_with fail
      refine (Cur.below c a len cap (n : Int) _ hl (by omega) hA1).mono ?_
      rintro e w2 ⟨x, rfl, hx0, hx1, hA2, hG2⟩
      have hx2 := hx1 hz'
      have G2 := Cur.grownBy_trans hG1 hG2
      go_wp2
      go_ret
      exact ⟨x, rfl, by omega, hA2, G2⟩
    · have hAl := Draw.at_alloc hA1 (.cells #[.int .i64 (-1), .int .i64 (n : Int), .int .i64 60, .int .i64 0] 2)
      go_wp2_with fail
      refine (Cur.below c a len cap 4 _ hl (by omega) hAl).mono ?_
      rintro e w2 ⟨x, rfl, hx0, hx1, hA2, hG2⟩
      have hx2 := hx1 (by omega)
      obtain ⟨j, rfl⟩ := Int.eq_ofNat_of_zero_le hx0
      obtain ⟨y, hy, hyb, hG⟩ := HT.out w1 hA1 hG1 w2 hA2 hG2 j (by omega)
      have hj4 : (j : Int) < 4 := by omega
      clear hG2 hx1 HT hAl hG1
      go_wp2
      go_ret
      exact ⟨y, rfl, hyb, hA2, hG⟩

/-- a list and numbers that the laws draw -/
structure Drawn (B : Nat) (w w' : World) (v : Value) (L : List K) : Prop where
  own : OwnK 26 B w' v L
  len : L.length ≤ 61
  word : ∀ k ∈ L, k.word.size ≤ 13
  bel : Below w.heap.size w w'

set_option maxHeartbeats 1600000 in
theorem drawHandsOf (HD : DrawsRoom) (a : Option Addr) (len cap : Nat) (w : World) (hl : len ≤ 4096) (hc : Cur.Code w a len) :
    Calls Try.prog 20 #[.slice a len cap] w fun e w' => ∃ v L s, e = .returned (.tuple #[v, .int .i64 s]) ∧ Drawn w.heap.size w w' v L ∧ (-9223372036854775808 ≤ s ∧ s ≤ 9223372036854775807) := by
  have HDD : Hid DrawsRoom := HD
  clear HD
  go_enter Try.func20, Try.ntmps20
  go_wp2_with fail
  refine (Cur.new a len cap _ hl hc).mono ?_
  rintro e w1 ⟨rfl, hA1, hb1⟩
  go_wp2_with fail
  refine (l3DrawAny HDD.out _ a len cap _ hl hA1).mono ?_
  rintro e w2 ⟨v, L, rfl, hO, h61, hwd, hA2, hG2⟩
  obtain ⟨g, cp, rfl, _, _, _, _, _, _⟩ := Lc.ownK_shape hO
  have hB2 := Draw.below_of_grown hb1 (Nat.le_refl _) hG2
  have hs1 := hb1.size
  have hlt1 := hA1.lt
  have HO : Hid (OwnK 26 w1.heap.size w2 (.slice (some ⟨g, 0, none⟩) L.length cp) L) := hO
  have HWD : Hid (∀ k ∈ L, k.word.size ≤ 13) := hwd
  clear hO hwd hG2 hb1 hA1
  go_wp2_with fail
  refine (l3DrawSet _ a len cap L.length _ hl h61 hA2).mono ?_
  rintro e w3 ⟨s, rfl, hs, hA3, hG3⟩
  have HF : Hid (Drawn w.heap.size w w3 (.slice (some ⟨g, 0, none⟩) L.length cp) L) := ⟨ownK_base (ownK_grown HO.out hG3 hlt1) hs1, h61, HWD.out, Draw.below_of_grown hB2 (Nat.le_refl _) hG3⟩
  clear HO hB2 hG3 hA2 hA3
  go_wp2
  refine bodyPost_ret (v := .tuple #[.slice (some ⟨g, 0, none⟩) L.length cp, .int .i64 s]) (by simp [results, Try.f20, go_sem]) rfl ?_
  exact ⟨_, L, s, rfl, HF.out, hs⟩

set_option maxHeartbeats 1600000 in
theorem drawAtRound (HD : DrawsRoom) (a : Option Addr) (len cap : Nat) (w : World) (hl : len ≤ 4096) (hc : Cur.Code w a len) :
    Calls Try.prog 21 #[.slice a len cap] w fun e w' => ∃ v L s r, e = .returned (.tuple #[v, .int .i64 s, .int .i64 r]) ∧ Drawn w.heap.size w w' v L ∧ (-9223372036854775808 ≤ s ∧ s ≤ 9223372036854775807) := by
  have HDD : Hid DrawsRoom := HD
  clear HD
  go_enter Try.func21, Try.ntmps21
  go_wp2_with fail
  refine (Cur.new a len cap _ hl hc).mono ?_
  rintro e w1 ⟨rfl, hA1, hb1⟩
  go_wp2_with fail
  refine (l3DrawAny HDD.out _ a len cap _ hl hA1).mono ?_
  rintro e w2 ⟨v, L, rfl, hO, h61, hwd, hA2, hG2⟩
  obtain ⟨g, cp, rfl, _, _, _, _, _, _⟩ := Lc.ownK_shape hO
  have hB2 := Draw.below_of_grown hb1 (Nat.le_refl _) hG2
  have hs1 := hb1.size
  have hlt1 := hA1.lt
  have HO : Hid (OwnK 26 w1.heap.size w2 (.slice (some ⟨g, 0, none⟩) L.length cp) L) := hO
  have HWD : Hid (∀ k ∈ L, k.word.size ≤ 13) := hwd
  clear hO hwd hG2 hb1 hA1
  go_wp2_with fail
  refine (l3DrawSet _ a len cap L.length _ hl h61 hA2).mono ?_
  rintro e w3 ⟨s, rfl, hs, hA3, hG3⟩
  have hB3 := Draw.below_of_grown hB2 (Nat.le_refl _) hG3
  have HO3 : Hid (OwnK 26 w1.heap.size w3 (.slice (some ⟨g, 0, none⟩) L.length cp) L) := ownK_grown HO.out hG3 hlt1
  clear HO hB2 hG3 hA2
  go_wp2_with fail
  refine (l1From _ a len cap (-1) 6 _ hl (by omega) (by omega) (by omega) hA3).mono ?_
  rintro e w4 ⟨r, rfl, _, hA4, hG4⟩
  have HF : Hid (Drawn w.heap.size w w4 (.slice (some ⟨g, 0, none⟩) L.length cp) L) := ⟨ownK_base (ownK_grown HO3.out hG4 hlt1) hs1, h61, HWD.out, Draw.below_of_grown hB3 (Nat.le_refl _) hG4⟩
  clear HO3 hB3 hG4 hA3 hA4
  go_wp2
  refine bodyPost_ret (v := .tuple #[.slice (some ⟨g, 0, none⟩) L.length cp, .int .i64 s, .int .i64 r]) (by simp [results, Try.f21, go_sem]) rfl ?_
  exact ⟨_, L, s, r, rfl, HF.out, hs⟩

end Rm
end Go.Proofs.Ytdcjjopeobnpgaa

namespace Go.Proofs.Ytdcjjopeobnpgaa
open Go.RowKit
set_option maxRecDepth 100000
namespace Sg
open Kn (K okK)
open Bit (bit)
open Lc (at' RdK laceB WordsOk setB)

/-- is there such a knot, of a lace? -/
def isB (L : List K) (k : Int) : Bool := decide (0 ≤ k) && (decide (k < (L.length : Int)) && laceB L)
/-- what Below answers -/
def belowI (L : List K) (k : Int) : Int := if isB L k then bel L k.toNat else -1
/-- what Sees answers -/
def seesB (L : List K) (a b : Int) : Bool := isB L a && (isB L b && bit (bel L a.toNat) b.toNat)
/-- what Closed answers -/
def closedB (L : List K) (s : Int) : Bool := setB L s && closedTo (belows L L.length) s L.length
/-- what Tips answers -/
def tipsI (L : List K) (s : Int) : Int := if closedB L s then tipsTo (belows L L.length) s L.length else -1

theorem isB_parts {L : List K} {k : Int} (h : isB L k = true) : 0 ≤ k ∧ k < (L.length : Int) ∧ laceB L = true := by
  unfold isB at h
  simpa using h

set_option maxHeartbeats 800000 in
theorem l4Is (g off cap : Nat) (L : List K) (k : Int) (w : World) (hcap : L.length ≤ cap) (hw : WordsOk L) (hr : RdK w (some ⟨g, off, none⟩) L) :
    Calls Try.prog 76 #[.slice (some ⟨g, off, none⟩) L.length cap, .int .i64 k] w fun e w' => e = .returned (.bool (isB L k)) ∧ Below w.heap.size w w' := by
  by_cases h0 : 0 ≤ k
  · by_cases h1 : k < (L.length : Int)
    · have HT : Hid (isB L k = laceB L) := by show _ = _; unfold isB; rw [decide_eq_true h0, decide_eq_true h1]; rfl
      go_enter Try.func76, Try.ntmps76
      go_wp2_with fail
      refine (Lc.specLaceOk g off cap L _ hcap hw hr).mono ?_
      rintro e w1 ⟨rfl, hb1⟩
      go_wp2
      go_ret
      exact ⟨by rw [HT.out]; rfl, hb1⟩
    · have HT : Hid (isB L k = false) := by show _ = _; unfold isB; rw [decide_eq_false h1]; simp
      go_enter Try.func76, Try.ntmps76
      go_wp2
      go_ret
      exact ⟨by rw [HT.out]; rfl, Below.refl _ _⟩
  · have HT : Hid (isB L k = false) := by show _ = _; unfold isB; rw [decide_eq_false h0]; rfl
    go_enter Try.func76, Try.ntmps76
    go_wp2
    go_ret
    exact ⟨by rw [HT.out]; rfl, Below.refl _ _⟩

set_option maxHeartbeats 800000 in
theorem specBelow (g off cap : Nat) (L : List K) (k : Int) (w : World) (hcap : L.length ≤ cap) (hw : WordsOk L) (hr : RdK w (some ⟨g, off, none⟩) L) :
    Calls Try.prog 28 #[.slice (some ⟨g, off, none⟩) L.length cap, .int .i64 k] w fun e w' => e = .returned (.int .i64 (belowI L k)) ∧ Below w.heap.size w w' := by
  go_enter Try.func28, Try.ntmps28
  go_wp2_with fail
  refine (l4Is g off cap L k _ hcap hw hr).mono ?_
  rintro e w1 ⟨rfl, hb1⟩
  have hr1 := hr.below hb1
  cases his : isB L k
  · have HT : Hid (belowI L k = -1) := by show _ = _; unfold belowI; rw [his]; rfl
    clear his
    go_wp2
    go_ret
    exact ⟨by rw [HT.out]; rfl, hb1⟩
  · obtain ⟨h0, h1, hlc⟩ := isB_parts his
    have HT : Hid (belowI L k = bel L k.toNat) := by show _ = _; unfold belowI; rw [his]; rfl
    have h60 := ((Lc.lace_iff L).1 hlc).1
    have hf := frm_lace hlc
    clear his hlc
    obtain ⟨p, rfl⟩ := Int.eq_ofNat_of_zero_le h0
    have hp : p < L.length := by omega
    have HG : Hid ((belows L L.length).getD p 0 = bel L p) := belows_get L L.length p hp
    have HBL : Hid ((belows L L.length).length = L.length) := belows_len L L.length
    go_wp2_with fail
    refine (l4All (some ⟨g, off, none⟩) cap L _ h60 hf hr1).mono ?_
    rintro e w2 ⟨bo, bc, rfl, hown, hb2⟩
    have hB2 := hb1.trans (hb2.mono hb1.size)
    have hrd := Lst.own_rd hown
    clear hb1 hb2 hown hr1
    generalize belows L L.length = l at HG HBL hrd ⊢
    have hpl : p < l.length := by rw [HBL.out]; exact hp
    have hpi : (p : Int) < (l.length : Int) := by omega
    rcases hrd with hrd | ⟨b, rfl, hcell⟩
    · rw [hrd] at hpl; simp at hpl
    have cp := hcell p hpl
    rw [HG.out] at cp
    clear hcell HBL HG
    go_wp2
    go_ret
    exact ⟨by rw [HT.out]; rfl, hB2⟩

set_option maxHeartbeats 800000 in
theorem specClosed (g off cap : Nat) (L : List K) (s : Int) (w : World) (hcap : L.length ≤ cap) (hw : WordsOk L) (hr : RdK w (some ⟨g, off, none⟩) L) :
    Calls Try.prog 38 #[.slice (some ⟨g, off, none⟩) L.length cap, .int .i64 s] w fun e w' => e = .returned (.bool (closedB L s)) ∧ Below w.heap.size w w' := by
  go_enter Try.func38, Try.ntmps38
  go_wp2_with fail
  refine (Lc.l3Set g off cap L s _ hcap hw hr).mono ?_
  rintro e w1 ⟨rfl, hb1⟩
  have hr1 := hr.below hb1
  cases hs : setB L s
  · have HT : Hid (closedB L s = false) := by show _ = _; unfold closedB; rw [hs]; rfl
    clear hs
    go_wp2
    go_ret
    exact ⟨by rw [HT.out]; rfl, hb1⟩
  · obtain ⟨hlc, h0, h1, _, h60, _⟩ := Lc.setB_parts hs
    have HT : Hid (closedB L s = closedTo (belows L L.length) s L.length) := by show _ = _; unfold closedB; rw [hs]; rfl
    have hf := frm_lace hlc
    clear hs hlc
    have HBL : Hid ((belows L L.length).length = L.length) := belows_len L L.length
    go_wp2_with fail
    refine (l4All (some ⟨g, off, none⟩) cap L _ h60 hf hr1).mono ?_
    rintro e w2 ⟨bo, bc, rfl, hown, hb2⟩
    have hB2 := hb1.trans (hb2.mono hb1.size)
    have hrd := Lst.own_rd hown
    clear hb1 hb2 hown hr1
    generalize belows L L.length = l at HT HBL hrd ⊢
    rw [← HBL.out] at HT
    go_wp2_with fail
    refine (l4Closed bo bc l s _ (by rw [HBL.out]; exact h60) h0 h1 hrd).mono ?_
    rintro e w3 ⟨rfl, rfl⟩
    go_wp2
    go_ret
    exact ⟨by rw [HT.out]; rfl, hB2⟩

theorem below_drewN {b : Nat} {a w : World} (h : Below b a w) (n : Nat) : Below b a (w.drewN n) := ⟨h.os, h.tape, h.output, h.size, h.block⟩

set_option maxHeartbeats 800000 in
theorem specTips (g off cap : Nat) (L : List K) (s : Int) (w : World) (hcap : L.length ≤ cap) (hw : WordsOk L) (hr : RdK w (some ⟨g, off, none⟩) L) :
    Calls Try.prog 37 #[.slice (some ⟨g, off, none⟩) L.length cap, .int .i64 s] w fun e w' => e = .returned (.int .i64 (tipsI L s)) ∧ Below w.heap.size w w' := by
  go_enter Try.func37, Try.ntmps37
  go_wp2_with fail
  refine (specClosed g off cap L s _ hcap hw hr).mono ?_
  rintro e w1 ⟨rfl, hb1⟩
  have hr1 := hr.below hb1
  cases hs : closedB L s
  · have HT : Hid (tipsI L s = -1) := by show _ = _; unfold tipsI; rw [hs]; rfl
    clear hs
    go_wp2
    go_ret
    exact ⟨by rw [HT.out]; rfl, hb1⟩
  · have hset : setB L s = true := by
      unfold closedB at hs; rw [Bool.and_eq_true] at hs; exact hs.1
    obtain ⟨hlc, h0, h1, _, h60, _⟩ := Lc.setB_parts hset
    have HT : Hid (tipsI L s = tipsTo (belows L L.length) s L.length) := by show _ = _; unfold tipsI; rw [hs]; rfl
    have hf := frm_lace hlc
    clear hs hlc hset
    have HBL : Hid ((belows L L.length).length = L.length) := belows_len L L.length
    go_wp2_with fail
    refine (l4All (some ⟨g, off, none⟩) cap L _ h60 hf hr1).mono ?_
    rintro e w2 ⟨bo, bc, rfl, hown, hb2⟩
    have hB2 := hb1.trans (hb2.mono hb1.size)
    have hrd := Lst.own_rd hown
    clear hb1 hb2 hown hr1
    generalize belows L L.length = l at HT HBL hrd ⊢
    rw [← HBL.out] at HT
    go_wp2_with fail
    refine (l4Tips bo bc l s _ (by rw [HBL.out]; exact h60) h0 h1 hrd).mono ?_
    rintro e w3 ⟨rfl, n3, rfl⟩
    have hB3 := below_drewN hB2 n3
    go_wp2
    go_ret
    exact ⟨by rw [HT.out]; rfl, hB3⟩

set_option maxHeartbeats 1600000 in
theorem specSees (g off cap : Nat) (L : List K) (a b : Int) (w : World) (hcap : L.length ≤ cap) (hw : WordsOk L) (hr : RdK w (some ⟨g, off, none⟩) L) :
    Calls Try.prog 30 #[.slice (some ⟨g, off, none⟩) L.length cap, .int .i64 a, .int .i64 b] w fun e w' => e = .returned (.bool (seesB L a b)) ∧ Below w.heap.size w w' := by
  go_enter Try.func30, Try.ntmps30
  go_wp2_with fail
  refine (l4Is g off cap L a _ hcap hw hr).mono ?_
  rintro e w1 ⟨rfl, hb1⟩
  have hr1 := hr.below hb1
  cases his : isB L a
  · have HT : Hid (seesB L a b = false) := by show _ = _; unfold seesB; rw [his]; rfl
    clear his
    go_wp2
    go_ret
    exact ⟨by rw [HT.out]; rfl, hb1⟩
  · have HT1 : Hid (seesB L a b = (isB L b && bit (bel L a.toNat) b.toNat)) := by show _ = _; unfold seesB; rw [his]; rfl
    obtain ⟨h0, h1, hlc⟩ := isB_parts his
    clear his
    go_wp2_with fail
    refine (l4Is g off cap L b _ hcap hw hr1).mono ?_
    rintro e w2 ⟨rfl, hb2⟩
    have hr2 := hr1.below hb2
    have hB2 := hb1.trans (hb2.mono hb1.size)
    clear hb1 hb2 hr1
    cases hib : isB L b
    · have HT : Hid (seesB L a b = false) := by show _ = _; rw [HT1.out, hib]; rfl
      clear hib HT1
      go_wp2
      go_ret
      exact ⟨by rw [HT.out]; rfl, hB2⟩
    · have HT : Hid (seesB L a b = bit (bel L a.toNat) b.toNat) := by show _ = _; rw [HT1.out, hib]; rfl
      obtain ⟨q0, q1, _⟩ := isB_parts hib
      have h60 := ((Lc.lace_iff L).1 hlc).1
      have hf := frm_lace hlc
      clear hib hlc HT1
      obtain ⟨p, rfl⟩ := Int.eq_ofNat_of_zero_le h0
      have hp : p < L.length := by omega
      have HG : Hid ((belows L L.length).getD p 0 = bel L p) := belows_get L L.length p hp
      have HBL : Hid ((belows L L.length).length = L.length) := belows_len L L.length
      have hbb := bel_bd L p (by omega)
      rw [Int.toNat_natCast] at HT
      go_wp2_with fail
      refine (l4All (some ⟨g, off, none⟩) cap L _ h60 hf hr2).mono ?_
      rintro e w3 ⟨bo, bc, rfl, hown, hb3⟩
      have hB3 := hB2.trans (hb3.mono hB2.size)
      have hrd := Lst.own_rd hown
      clear hB2 hb3 hown hr2
      generalize belows L L.length = l at HG HBL hrd ⊢
      have hpl : p < l.length := by rw [HBL.out]; exact hp
      have hpi : (p : Int) < (l.length : Int) := by omega
      rcases hrd with hrd | ⟨bb, rfl, hcell⟩
      · rw [hrd] at hpl; simp at hpl
      have cp := hcell p hpl
      rw [HG.out] at cp
      clear hcell HBL HG
      generalize bel L p = y at cp HT hbb
      go_wp2_with (go_at_call 79; refine (Base.l1Has _ _ _ hbb.1 hbb.2 q0 (by omega)).mono ?_; rintro e w' ⟨rfl, rfl⟩)
      go_ret
      exact ⟨by rw [HT.out]; rfl, hB3⟩

end Sg
end Go.Proofs.Ytdcjjopeobnpgaa

namespace Go.Proofs.Ytdcjjopeobnpgaa
open Go.RowKit
set_option maxRecDepth 100000
namespace Rm
open Kn (K okK)
open Lc (at' RdK laceB flat OwnK cellsOf)
open Cur (At)

set_option maxHeartbeats 1600000 in
theorem drawBelow (HD : DrawsRoom) (a : Option Addr) (len cap : Nat) (w : World) (hl : len ≤ 4096) (hc : Cur.Code w a len) :
    Calls Try.prog 25 #[.slice a len cap] w fun e w' => ∃ v L s, e = .returned (.tuple #[v, .int .i64 s]) ∧ Drawn w.heap.size w w' v L ∧ (-9223372036854775808 ≤ s ∧ s ≤ 9223372036854775807) := by
  have HDD : Hid DrawsRoom := HD
  clear HD
  go_enter Try.func25, Try.ntmps25
  go_wp2_with fail
  refine (Cur.new a len cap _ hl hc).mono ?_
  rintro e w1 ⟨rfl, hA1, hb1⟩
  go_wp2_with fail
  refine (l3DrawAny HDD.out _ a len cap _ hl hA1).mono ?_
  rintro e w2 ⟨v, L, rfl, hO, h61, hwd, hA2, hG2⟩
  obtain ⟨g, cp, rfl, _, _, _, _, _, _⟩ := Lc.ownK_shape hO
  have hB2 := Draw.below_of_grown hb1 (Nat.le_refl _) hG2
  have hs1 := hb1.size
  have hlt1 := hA1.lt
  have HO : Hid (OwnK 26 w1.heap.size w2 (.slice (some ⟨g, 0, none⟩) L.length cp) L) := hO
  have HWD : Hid (∀ k ∈ L, k.word.size ≤ 13) := hwd
  clear hO hwd hG2 hb1 hA1
  go_wp2_with fail
  refine (l3DrawAt _ a len cap L.length _ hl h61 hA2).mono ?_
  rintro e w3 ⟨s, rfl, hs, hA3, hG3⟩
  have HF : Hid (Drawn w.heap.size w w3 (.slice (some ⟨g, 0, none⟩) L.length cp) L) := ⟨ownK_base (ownK_grown HO.out hG3 hlt1) hs1, h61, HWD.out, Draw.below_of_grown hB2 (Nat.le_refl _) hG3⟩
  clear HO hB2 hG3 hA2 hA3
  go_wp2
  refine bodyPost_ret (v := .tuple #[.slice (some ⟨g, 0, none⟩) L.length cp, .int .i64 s]) (by simp [results, Try.f25, go_sem]) rfl ?_
  exact ⟨_, L, s, rfl, HF.out, hs⟩

set_option maxHeartbeats 1600000 in
theorem drawSees (HD : DrawsRoom) (a : Option Addr) (len cap : Nat) (w : World) (hl : len ≤ 4096) (hc : Cur.Code w a len) :
    Calls Try.prog 27 #[.slice a len cap] w fun e w' => ∃ v L s r, e = .returned (.tuple #[v, .int .i64 s, .int .i64 r]) ∧ Drawn w.heap.size w w' v L := by
  have HDD : Hid DrawsRoom := HD
  clear HD
  go_enter Try.func27, Try.ntmps27
  go_wp2_with fail
  refine (Cur.new a len cap _ hl hc).mono ?_
  rintro e w1 ⟨rfl, hA1, hb1⟩
  go_wp2_with fail
  refine (l3DrawAny HDD.out _ a len cap _ hl hA1).mono ?_
  rintro e w2 ⟨v, L, rfl, hO, h61, hwd, hA2, hG2⟩
  obtain ⟨g, cp, rfl, _, _, _, _, _, _⟩ := Lc.ownK_shape hO
  have hB2 := Draw.below_of_grown hb1 (Nat.le_refl _) hG2
  have hs1 := hb1.size
  have hlt1 := hA1.lt
  have HO : Hid (OwnK 26 w1.heap.size w2 (.slice (some ⟨g, 0, none⟩) L.length cp) L) := hO
  have HWD : Hid (∀ k ∈ L, k.word.size ≤ 13) := hwd
  clear hO hwd hG2 hb1 hA1
  go_wp2_with fail
  refine (l3DrawAt _ a len cap L.length _ hl h61 hA2).mono ?_
  rintro e w3 ⟨s, rfl, _, hA3, hG3⟩
  have hB3 := Draw.below_of_grown hB2 (Nat.le_refl _) hG3
  have HO3 : Hid (OwnK 26 w1.heap.size w3 (.slice (some ⟨g, 0, none⟩) L.length cp) L) := ownK_grown HO.out hG3 hlt1
  clear HO hB2 hG3 hA2
  go_wp2_with fail
  refine (l3DrawAt _ a len cap L.length _ hl h61 hA3).mono ?_
  rintro e w4 ⟨r, rfl, _, hA4, hG4⟩
  have HF : Hid (Drawn w.heap.size w w4 (.slice (some ⟨g, 0, none⟩) L.length cp) L) := ⟨ownK_base (ownK_grown HO3.out hG4 hlt1) hs1, h61, HWD.out, Draw.below_of_grown hB3 (Nat.le_refl _) hG4⟩
  clear HO3 hB3 hG4 hA3 hA4
  go_wp2
  refine bodyPost_ret (v := .tuple #[.slice (some ⟨g, 0, none⟩) L.length cp, .int .i64 s, .int .i64 r]) (by simp [results, Try.f27, go_sem]) rfl ?_
  exact ⟨_, L, s, r, rfl, HF.out⟩

/-- the cursor moves on, the list stays -/
theorem rd_grown2 {A B : World} {c g : Nat} {L : List K} (h : RdK A (some ⟨g, 0, none⟩) L) (hg : A.grownBy B (some c)) (hne : g ≠ c) : RdK B (some ⟨g, 0, none⟩) L := by
  rcases h with h | ⟨g', off', e, hlt, hc⟩
  · exact .inl h
  · cases e
    refine .inr ⟨g, 0, rfl, Nat.lt_of_lt_of_le hlt hg.size, fun i hi => ?_⟩
    have c' := hc i hi
    have f : ∀ o : Nat, B.cell? ⟨g, o, none⟩ = A.cell? ⟨g, o, none⟩ := fun o => (Fr.of_grown hg).cell (p := ⟨g, o, none⟩) hlt hne
    exact ⟨(f _).trans c'.c0, (f _).trans c'.c1, (f _).trans c'.c2, (f _).trans c'.c3⟩

set_option maxHeartbeats 3200000 in
theorem l4DrawSet (c : Nat) (a : Option Addr) (len cap : Nat) (g cp : Nat) (L : List K) (w : World) (hl : len ≤ 4096) (hc : At c a len cap w) (hne : g ≠ c) (h61 : L.length ≤ 61) (hcp : L.length ≤ cp) (hw : Lc.WordsOk L) (hr : RdK w (some ⟨g, 0, none⟩) L) :
    Calls Try.prog 114 #[.pointer (some ⟨c, 0, none⟩), .slice (some ⟨g, 0, none⟩) L.length cp] w (NumPost c a len cap w) := by
  go_enter Try.func114, Try.ntmps114
  go_wp2_with fail
  refine (Cur.once c a len cap 6 _ hl (by omega) hc).mono ?_
  rintro e w1 ⟨b, rfl, hA1, hG1⟩
  have hr1 := rd_grown2 hr hG1 hne
  cases b
  · go_wp2_with fail
    refine (Lc.specLaceOk g 0 cp L _ hcp hw hr1).mono ?_
    rintro e w2 ⟨rfl, hb2⟩
    have hA2 := hA1.below hb2
    have G2 : w.grownBy w2 (some c) := ((Fr.of_grown hG1).trans (Fr.of_below hb2 (fun x => x = c)) (fun _ h _ => h)).grown
    have hr2 := hr1.below hb2
    clear hA1 hG1 hb2 hr1
    cases hlc : laceB L
    · go_wp2_with fail
      refine (l3DrawSet _ a len cap L.length _ hl h61 hA2).mono ?_
      rintro e w3 ⟨s, rfl, hs, hA3, hG3⟩
      have G3 := Cur.grownBy_trans G2 hG3
      go_wp2
      go_ret
      exact ⟨s, rfl, hs, hA3, G3⟩
    · have h60 := ((Lc.lace_iff L).1 hlc).1
      have hf := Sg.frm_lace hlc
      clear hlc
      go_wp2_with fail
      refine (Sg.l4All (some ⟨g, 0, none⟩) cp L _ h60 hf hr2).mono ?_
      rintro e w3 ⟨bo, bc, rfl, hown, hb3⟩
      have hbl := Sg.belows_len L L.length
      have hA3 := hA2.below hb3
      have G3 : w.grownBy w3 (some c) := ((Fr.of_grown G2).trans (Fr.of_below hb3 (fun x => x = c)) (fun _ h _ => h)).grown
      have hlt2 := hA2.lt
      have HON : Hid (Memb.Own w2.heap.size w3 bo bc (Sg.belows L L.length)) := hown
      have HBL : Hid ((Sg.belows L L.length).length = L.length) := hbl
      clear hA2 G2 hb3 hr2 hown hbl
      generalize Sg.belows L L.length = l at HON HBL ⊢
      go_wp2_with fail
      refine (Cur.below c a len cap 4 _ hl (by omega) hA3).mono ?_
      rintro e w4 ⟨k, rfl, hk0, hk1, hA4, hG4⟩
      have hk2 := hk1 (by omega)
      have HO4 : Hid (Memb.Own w2.heap.size w4 bo bc l) := Draw.own_grown HON.out hG4 hlt2
      have HA4 : Hid (At c a len cap w4) := hA4
      have HG4 : Hid (w.grownBy w4 (some c)) := Cur.grownBy_trans G3 hG4
      clear HON hA3 hA4 hG4 G3 hk1
      have hwl : ∀ x : Int, -1 ≤ x → x ≤ 4 → IntKind.i64.wrap (x - 1) = x - 1 := fun x h1 h2 => by rw [IntKind.wrap_i64]; omega
      go_wp2
      go_loopw [6, 8] (fun s kv wr => ∃ (k x : Int), -1 ≤ k ∧ k ≤ 3 ∧ kv = .int .i64 k ∧ s = .int .i64 x ∧ Hid (-9223372036854775808 ≤ x ∧ x ≤ 9223372036854775807) ∧ Hid (At c a len cap wr) ∧ Hid (w.grownBy wr (some c)) ∧ Hid (Memb.Own w2.heap.size wr bo bc l)) (fun _ kv _ => (intOf kv + 1).toNat)
      case atStart => exact ⟨k, 0, by omega, by omega, rfl, rfl, ⟨by omega, by omega⟩, HA4, HG4, HO4⟩
      case round =>
        obtain ⟨k, x, hk0, hk3, rfl, rfl, HX, HA, HG, HO⟩ := hrel
        by_cases hkn : 0 ≤ k ∧ 0 < L.length
        · have hk' := hkn.1
          have hn' : (0 : Int) < (L.length : Int) := by omega
          have hwk := hwl k (by omega) (by omega)
          clear hwl hkn
          go_wp2_with fail
          refine (Cur.below c a len cap (L.length : Int) _ hl (by omega) HA.out).mono ?_
          rintro e w5 ⟨y, rfl, hy0, hy1, hA5, hG5⟩
          have hy2 := hy1 hn'
          obtain ⟨j, rfl⟩ := Int.eq_ofNat_of_zero_le hy0
          have HO5 : Hid (Memb.Own w2.heap.size w5 bo bc l) := Draw.own_grown HO.out hG5 hlt2
          have HA5 : Hid (At c a len cap w5) := hA5
          have HG5 : Hid (w.grownBy w5 (some c)) := Cur.grownBy_trans HG.out hG5
          have hjl : j < l.length := by have := HBL.out; omega
          have hji : (j : Int) < (l.length : Int) := by omega
          obtain ⟨bb, rfl, hcell⟩ : ∃ bb, bo = some ⟨bb, 0, none⟩ ∧ w5.cell? ⟨bb, j, none⟩ = some (.int .i64 (l.getD j 0)) := by
            rcases Lst.own_rd HO5.out with e | ⟨bb, e, h⟩
            · rw [e] at hjl; simp at hjl
            · exact ⟨bb, e, h j hjl⟩
          clear hA5 hG5 HA HG HO hy1
          generalize l.getD j 0 = z at hcell
          go_wp2
          go_roundw
          case rel => exact ⟨k - 1, _, by omega, by omega, rfl, rfl, Draw.bits_bd _ _ _, HA5, HG5, HO5⟩
          case measure => simp [intOf]; omega
        · have hex : k < 0 ∨ (0 ≤ k ∧ L.length = 0) := by omega
          have HE : Hid (∀ W : World, At c a len cap W → w.grownBy W (some c) → Calls Try.prog 90 #[.pointer (some ⟨c, 0, none⟩), .int .i64 4] W fun e w' => ∃ b : Bool, e = .returned (.bool b) ∧ At c a len cap w' ∧ w.grownBy w' (some c)) := fun W h1 h2 => (Cur.once c a len cap 4 W hl (by omega) h1).mono fun e w' ⟨b, he, hA, hG⟩ => ⟨b, he, hA, Cur.grownBy_trans h2 hG⟩
          clear hkn hwl
          rcases hex with hk | ⟨hk, hz⟩
          · have hk' : ¬ 0 ≤ k := by omega
            go_wp2_with fail
            refine (HE.out _ HA.out HG.out).mono ?_
            rintro e w5 ⟨b, rfl, hA5, hG5⟩
            cases b
            · go_wp2
              go_ret
              exact ⟨x, rfl, HX.out, hA5, hG5⟩
            · go_wp2_with fail
              refine (l1BitAny L.length _ (by omega)).mono ?_
              rintro e w6 ⟨y, rfl, rfl⟩
              go_wp2
              go_ret
              exact ⟨_, rfl, by first | exact wrap_bd _ | exact Cur.wrap64_bd _, hA5, hG5⟩
          · have hz' : ¬ (0 : Int) < (L.length : Int) := by omega
            go_wp2_with fail
            refine (HE.out _ HA.out HG.out).mono ?_
            rintro e w5 ⟨b, rfl, hA5, hG5⟩
            cases b
            · go_wp2
              go_ret
              exact ⟨x, rfl, HX.out, hA5, hG5⟩
            · go_wp2_with fail
              refine (l1BitAny 0 _ (by omega)).mono ?_
              rintro e w6 ⟨y, rfl, rfl⟩
              go_wp2
              go_ret
              exact ⟨_, rfl, by first | exact wrap_bd _ | exact Cur.wrap64_bd _, hA5, hG5⟩
  · go_wp2_with fail
    refine (l3DrawSet _ a len cap L.length _ hl h61 hA1).mono ?_
    rintro e w3 ⟨s, rfl, hs, hA3, hG3⟩
    have G3 := Cur.grownBy_trans hG1 hG3
    go_wp2
    go_ret
    exact ⟨s, rfl, hs, hA3, G3⟩

set_option maxHeartbeats 1600000 in
theorem drawClosed (HD : DrawsRoom) (a : Option Addr) (len cap : Nat) (w : World) (hl : len ≤ 4096) (hc : Cur.Code w a len) :
    Calls Try.prog 86 #[.slice a len cap] w fun e w' => ∃ v L s, e = .returned (.tuple #[v, .int .i64 s]) ∧ Drawn w.heap.size w w' v L ∧ (-9223372036854775808 ≤ s ∧ s ≤ 9223372036854775807) := by
  have HDD : Hid DrawsRoom := HD
  clear HD
  go_enter Try.func86, Try.ntmps86
  go_wp2_with fail
  refine (Cur.new a len cap _ hl hc).mono ?_
  rintro e w1 ⟨rfl, hA1, hb1⟩
  go_wp2_with fail
  refine (l3DrawAny HDD.out _ a len cap _ hl hA1).mono ?_
  rintro e w2 ⟨v, L, rfl, hO, h61, hwd, hA2, hG2⟩
  obtain ⟨g, cp, rfl, hcp, _, hgB, _, hrd, _⟩ := Lc.ownK_shape hO
  have hB2 := Draw.below_of_grown hb1 (Nat.le_refl _) hG2
  have hs1 := hb1.size
  have hlt1 := hA1.lt
  have HO : Hid (OwnK 26 w1.heap.size w2 (.slice (some ⟨g, 0, none⟩) L.length cp) L) := hO
  have HWD : Hid (∀ k ∈ L, k.word.size ≤ 13) := hwd
  have hne : g ≠ w.heap.size := by omega
  have hww : Lc.WordsOk L := fun k hk => by have := hwd k hk; omega
  have hset := l4DrawSet w.heap.size a len cap g cp L w2 hl hA2 hne h61 hcp hww hrd
  clear hO hwd hG2 hb1 hA1 hww hrd
  go_wp2_with fail
  refine hset.mono ?_
  rintro e w3 ⟨s, rfl, hs, hA3, hG3⟩
  have HF : Hid (Drawn w.heap.size w w3 (.slice (some ⟨g, 0, none⟩) L.length cp) L) := ⟨ownK_base (ownK_grown HO.out hG3 hlt1) hs1, h61, HWD.out, Draw.below_of_grown hB2 (Nat.le_refl _) hG3⟩
  clear HO hB2 hG3 hA2 hA3 hset
  go_wp2
  refine bodyPost_ret (v := .tuple #[.slice (some ⟨g, 0, none⟩) L.length cp, .int .i64 s]) (by simp [results, Try.f86, go_sem]) rfl ?_
  exact ⟨_, L, s, rfl, HF.out, hs⟩

set_option maxHeartbeats 800000 in
theorem drawTips (HD : DrawsRoom) (a : Option Addr) (len cap : Nat) (w : World) (hl : len ≤ 4096) (hc : Cur.Code w a len) :
    Calls Try.prog 36 #[.slice a len cap] w fun e w' => ∃ v L s, e = .returned (.tuple #[v, .int .i64 s]) ∧ Drawn w.heap.size w w' v L ∧ (-9223372036854775808 ≤ s ∧ s ≤ 9223372036854775807) := by
  go_enter Try.func36, Try.ntmps36
  go_wp2_with fail
  refine (drawClosed HD a len cap _ hl hc).mono ?_
  rintro e w1 ⟨v, L, s, rfl, hD, hs⟩
  go_wp2
  refine bodyPost_ret (v := .tuple #[v, .int .i64 s]) (by simp [results, Try.f36, go_sem]) rfl ?_
  exact ⟨_, L, s, rfl, hD, hs⟩

end Rm
end Go.Proofs.Ytdcjjopeobnpgaa

namespace Go.Proofs.Ytdcjjopeobnpgaa
open Go.RowKit
set_option maxRecDepth 100000
namespace Sg
open Kn (K okK)
open Bit (bit withB)
open Lc (at')

/-- what has been reached when all numbers from m on are done -/
structure Inv (L : List K) (s : Int) (m : Nat) (r : Int) : Prop where
  lo : 0 ≤ r
  hi : r < 1152921504606846976
  start : ∀ j, bit s j = true → bit r j = true
  sound : ∀ j, bit r j = true → bit s j = true ∨ ∃ i, i < L.length ∧ bit s i = true ∧ Reach L i j
  done : ∀ i, m ≤ i → i < L.length → bit r i = true → ∀ j, bit (at' L i).frm j = true → bit r j = true

theorem inv_start (L : List K) (s : Int) (h0 : 0 ≤ s) (h1 : s < 1152921504606846976) : Inv L s L.length s :=
  ⟨h0, h1, fun _ h => h, fun _ h => .inl h, fun i h1 h2 => by omega⟩

theorem inv_skip {L : List K} {s r : Int} {m : Nat} (h : Inv L s (m + 1) r) (hb : bit r m = false) : Inv L s m r :=
  ⟨h.lo, h.hi, h.start, h.sound, fun i hi hl hr j hj => by
    by_cases e : i = m
    · subst e; rw [hb] at hr; exact Bool.noConfusion hr
    · exact h.done i (by omega) hl hr j hj⟩

theorem inv_take {L : List K} (hl : Lc.laceB L = true) {s r : Int} {m : Nat} (hm : m < L.length) (h : Inv L s (m + 1) r) (hb : bit r m = true) : Inv L s m (orB r (at' L m).frm) := by
  have hf := frm_lace hl _ (Lc.at_mem L m hm)
  have hbd := orB_bd r (at' L m).frm h.lo h.hi hf.1 hf.2
  refine ⟨hbd.1, hbd.2, ?_, ?_, ?_⟩
  · intro j hj; rw [bit_orB _ _ h.lo hf.1, h.start j hj]; rfl
  · intro j hj
    rw [bit_orB _ _ h.lo hf.1, Bool.or_eq_true] at hj
    rcases hj with hj | hj
    · exact h.sound j hj
    · rcases h.sound m hb with hs | ⟨i, hi, hs, hr⟩
      · exact .inr ⟨m, hm, hs, .step hj (.self _)⟩
      · exact .inr ⟨i, hi, hs, hr.trans (.step hj (.self _))⟩
  · intro i hi hil hr j hj
    rw [bit_orB _ _ h.lo hf.1, Bool.or_eq_true] at hr ⊢
    by_cases e : i = m
    · subst e; exact .inr hj
    · rcases hr with hr | hr
      · exact .inl (h.done i (by omega) hil hr j hj)
      · have := thread_lt hl hm hr; omega

/-- all that hangs below one of the set has been reached -/
theorem inv_reach {L : List K} (hl : Lc.laceB L = true) {s r : Int} (h : Inv L s 0 r) {i j : Nat} (hi : i < L.length) (hb : bit r i = true) (hr : Reach L i j) : bit r j = true := by
  induction hr with
  | self => exact hb
  | step hm _ ih => exact ih (Nat.lt_trans (thread_lt hl hi hm) hi) (h.done _ (Nat.zero_le _) hi hb _ hm)

/-- those met so far are kept -/
structure Met (L : List K) (m : Nat) (r f : Int) : Prop where
  lo : 0 ≤ f
  hi : f < 1152921504606846976
  has : ∀ j, bit f j = true ↔ m ≤ j ∧ j < L.length ∧ bit r j = true

theorem met_start (L : List K) (s : Int) : Met L L.length s 0 := ⟨by omega, by omega, fun j => by rw [Lc.bit_zero]; simp; omega⟩

theorem met_skip {L : List K} {r f : Int} {m : Nat} (h : Met L (m + 1) r f) (hb : bit r m = false) : Met L m r f :=
  ⟨h.lo, h.hi, fun j => by
    rw [h.has j]
    constructor
    · rintro ⟨a, b, c⟩; exact ⟨by omega, b, c⟩
    · rintro ⟨a, b, c⟩
      refine ⟨?_, b, c⟩
      apply Classical.byContradiction
      intro hn
      obtain rfl : j = m := by omega
      rw [hb] at c; exact Bool.noConfusion c⟩

theorem met_take {L : List K} (hl : Lc.laceB L = true) {s r f : Int} {m : Nat} (hm : m < L.length) (hi : Inv L s (m + 1) r) (h : Met L (m + 1) r f) (hb : bit r m = true) : Met L m (orB r (at' L m).frm) (withB f m) := by
  have h60 := ((Lc.lace_iff L).1 hl).1
  have hf := frm_lace hl _ (Lc.at_mem L m hm)
  have hbd := Bit.withB_bd f h.lo h.hi m (by omega)
  refine ⟨hbd.1, hbd.2, fun j => ?_⟩
  rw [Bit.bit_withB f h.lo, bit_orB _ _ hi.lo hf.1]
  simp only [Bool.or_eq_true, decide_eq_true_eq]
  rw [h.has j]
  constructor
  · rintro (rfl | ⟨a, b, c⟩)
    · exact ⟨Nat.le_refl _, hm, .inl hb⟩
    · exact ⟨by omega, b, .inl c⟩
  · rintro ⟨a, b, c | c⟩
    · by_cases e : j = m
      · exact .inl e
      · exact .inr ⟨by omega, b, c⟩
    · have := thread_lt hl hm c; omega

/-- a set of one -/
def oneI (k : Int) : Int := if 0 ≤ k ∧ k < 60 then 2 ^ k.toNat else 0

theorem oneI_bd (k : Int) : 0 ≤ oneI k ∧ oneI k < 1152921504606846976 := by
  unfold oneI
  split
  · rename_i h; have := Base.pow_bd k.toNat (by omega); exact ⟨by omega, this.2⟩
  · omega

theorem bit_oneI (k : Int) (j : Nat) : bit (oneI k) j = true ↔ k = (j : Int) ∧ j < 60 := by
  unfold oneI
  split
  · rename_i h; rw [bit_pow]; simp; omega
  · rw [Lc.bit_zero]; simp; omega

/-- what the walk from one has met at its end -/
def metI (L : List K) (k : Int) : Int := if 0 ≤ k ∧ k < (L.length : Int) then bel L k.toNat else 0

theorem met_end {L : List K} (hl : Lc.laceB L = true) {k r f : Int} (hi : Inv L (oneI k) 0 r) (h : Met L 0 r f) : f = metI L k := by
  have h60 := ((Lc.lace_iff L).1 hl).1
  unfold metI
  split
  · rename_i hk
    obtain ⟨p, rfl⟩ := Int.eq_ofNat_of_zero_le hk.1
    rw [Int.toNat_natCast]
    have hp : p < L.length := by omega
    have hbd := bel_bd L p (by omega)
    refine Lc.eq_of_bits _ _ h.lo hbd.1 fun j => ?_
    rw [Bool.eq_iff_iff, h.has j, bel_reach hl p hp j]
    constructor
    · rintro ⟨_, _, c⟩
      rcases hi.sound j c with hs | ⟨i, _, hs, hr⟩
      · have := ((bit_oneI _ _).1 hs).1
        obtain rfl : p = j := by omega
        exact .self _
      · have := ((bit_oneI _ _).1 hs).1
        obtain rfl : p = i := by omega
        exact hr
    · intro hr
      have := reach_le hl hp hr
      refine ⟨Nat.zero_le _, by omega, ?_⟩
      exact inv_reach hl hi hp (hi.start p ((bit_oneI _ _).2 ⟨rfl, by omega⟩)) hr
  · rename_i hk
    refine Lc.eq_of_bits _ _ h.lo (Int.le_refl _) fun j => ?_
    rw [Lc.bit_zero, Bool.eq_false_iff]
    intro hj
    obtain ⟨_, hjl, c⟩ := (h.has j).1 hj
    rcases hi.sound j c with hs | ⟨i, hil, hs, _⟩
    · have := ((bit_oneI _ _).1 hs).1; omega
    · have := ((bit_oneI _ _).1 hs).1; omega

/-! ### closed -/
/-- all that is met is in the set, so far -/
def Kept (L : List K) (s : Int) (m : Nat) (r : Int) : Prop := ∀ j, m ≤ j → j < L.length → bit r j = true → bit s j = true

theorem kept_start (L : List K) (s r : Int) : Kept L s L.length r := fun j h1 h2 => by omega

theorem kept_skip {L : List K} {s r : Int} {m : Nat} (h : Kept L s (m + 1) r) (hb : bit r m = false) : Kept L s m r := fun j h1 h2 h3 => by
  by_cases e : j = m
  · subst e; rw [hb] at h3; exact Bool.noConfusion h3
  · exact h j (by omega) h2 h3

theorem kept_take {L : List K} (hl : Lc.laceB L = true) {s r : Int} {m : Nat} (hm : m < L.length) (hi : Inv L s (m + 1) r) (h : Kept L s (m + 1) r) (hs : bit s m = true) : Kept L s m (orB r (at' L m).frm) := fun j h1 h2 h3 => by
  have hf := frm_lace hl _ (Lc.at_mem L m hm)
  by_cases e : j = m
  · subst e; exact hs
  · rw [bit_orB _ _ hi.lo hf.1, Bool.or_eq_true] at h3
    rcases h3 with h3 | h3
    · exact h j (by omega) h2 h3
    · have := thread_lt hl hm h3; omega

theorem reach_in {L : List K} (hl : Lc.laceB L = true) {s : Int} (h : ∀ i, i < L.length → bit s i = true → ∀ m, bit (at' L i).frm m = true → bit s m = true) {i j : Nat} (hi : i < L.length) (hb : bit s i = true) (hr : Reach L i j) : bit s j = true := by
  induction hr with
  | self => exact hb
  | step hm _ ih => exact ih (Nat.lt_trans (thread_lt hl hi hm) hi) (h _ hi hb _ hm)

theorem closed_end {L : List K} (hl : Lc.laceB L = true) {s r : Int} (h0 : 0 ≤ s) (h1 : s < 1152921504606846976) (hi : Inv L s 0 r) (h : Kept L s 0 r) : closedTo (belows L L.length) s L.length = true := by
  rw [closed_threads hl s h0 h1]
  intro i hil hb m hm
  have := thread_lt hl hil hm
  exact h m (Nat.zero_le _) (by omega) (hi.done i (Nat.zero_le _) hil (hi.start i hb) m hm)

theorem closed_not {L : List K} (hl : Lc.laceB L = true) {s r : Int} (h0 : 0 ≤ s) (h1 : s < 1152921504606846976) {m j : Nat} (hi : Inv L s m r) (hr : bit r j = true) (hs : bit s j = false) : closedTo (belows L L.length) s L.length = false := by
  rw [Bool.eq_false_iff]
  intro hc
  rw [closed_threads hl s h0 h1] at hc
  rcases hi.sound j hr with h | ⟨i, hil, hb, hre⟩
  · rw [hs] at h; exact Bool.noConfusion h
  · have := reach_in hl hc hil hb hre
    rw [hs] at this; exact Bool.noConfusion this

/-! ### tips -/
theorem bit_andNot (a s : Int) (h0 : 0 ≤ a) (h1 : a < 1152921504606846976) (h2 : 0 ≤ s) (h3 : s < 1152921504606846976) (i : Nat) : bit (bits .andNot .i64 a s) i = (bit a i && !bit s i) := by
  obtain ⟨A, rfl⟩ := Int.eq_ofNat_of_zero_le h0
  obtain ⟨S, rfl⟩ := Int.eq_ofNat_of_zero_le h2
  have hA : (BitVec.ofInt 64 (A : Int)).toNat = A := ofInt_u64 A (by omega)
  have hS : (BitVec.ofInt 64 (S : Int)).toNat = S := ofInt_u64 S (by omega)
  have hx : (BitVec.ofInt 64 (A : Int) &&& ~~~ BitVec.ofInt 64 (S : Int)).toNat ≤ A := by
    rw [BitVec.toNat_and, hA]; exact Nat.and_le_left
  have e : bits .andNot .i64 (A : Int) (S : Int) = ((BitVec.ofInt 64 (A : Int) &&& ~~~ BitVec.ofInt 64 (S : Int)).toNat : Int) := by
    show IntKind.i64.wrap ((BitVec.ofInt 64 (A : Int) &&& ~~~ BitVec.ofInt 64 (S : Int)).toNat : Int) = _
    rw [IntKind.wrap_i64]; omega
  have hn : (0 : Int) ≤ ((BitVec.ofInt 64 (A : Int) &&& ~~~ BitVec.ofInt 64 (S : Int)).toNat : Int) := by omega
  rw [e, Bit.bit_testBit _ hn, Int.toNat_natCast, Bit.bit_testBit _ h0, Bit.bit_testBit _ h2, Int.toNat_natCast, Int.toNat_natCast]
  by_cases h64 : i < 64
  · show (BitVec.ofInt 64 (A : Int) &&& ~~~ BitVec.ofInt 64 (S : Int)).getLsbD i = _
    rw [BitVec.getLsbD_and, BitVec.getLsbD_not, BitVec.getLsbD, hA, BitVec.getLsbD, hS]
    simp [h64]
  · have ha : A.testBit i = false := Nat.testBit_lt_two_pow (Nat.lt_of_lt_of_le (show A < 2 ^ 64 by omega) (Nat.pow_le_pow_right (by decide) (by omega)))
    have hb : (BitVec.ofInt 64 (A : Int) &&& ~~~ BitVec.ofInt 64 (S : Int)).toNat.testBit i = false := Nat.testBit_lt_two_pow (Nat.lt_of_lt_of_le (show _ < 2 ^ 64 by omega) (Nat.pow_le_pow_right (by decide) (by omega)))
    rw [ha, hb]; rfl

theorem andNot_bd' (a s : Int) (h0 : 0 ≤ a) (h1 : a < 1152921504606846976) : 0 ≤ bits .andNot .i64 a s ∧ bits .andNot .i64 a s < 1152921504606846976 := by
  obtain ⟨A, rfl⟩ := Int.eq_ofNat_of_zero_le h0
  have hA : (BitVec.ofInt 64 (A : Int)).toNat = A := ofInt_u64 A (by omega)
  have hx : (BitVec.ofInt 64 (A : Int) &&& ~~~ BitVec.ofInt 64 s).toNat ≤ A := by
    rw [BitVec.toNat_and, hA]; exact Nat.and_le_left
  have e : bits .andNot .i64 (A : Int) s = ((BitVec.ofInt 64 (A : Int) &&& ~~~ BitVec.ofInt 64 s).toNat : Int) := by
    show IntKind.i64.wrap ((BitVec.ofInt 64 (A : Int) &&& ~~~ BitVec.ofInt 64 s).toNat : Int) = _
    rw [IntKind.wrap_i64]; omega
  rw [e]; omega

theorem tipsTo_bd (l : List Int) (s : Int) (n : Nat) (h0 : 0 ≤ s) (h1 : s < 1152921504606846976) : 0 ≤ tipsTo l s n ∧ tipsTo l s n < 1152921504606846976 := by
  induction n with
  | zero => exact ⟨h0, h1⟩
  | succ n ih =>
    unfold tipsTo
    split
    · exact andNot_bd' _ _ ih.1 ih.2
    · exact ih

theorem bit_tips (L : List K) (s : Int) (n N : Nat) (hn : n ≤ N) (hN : N ≤ 60) (h0 : 0 ≤ s) (h1 : s < 1152921504606846976) (j : Nat) : bit (tipsTo (belows L N) s n) j = true ↔ bit s j = true ∧ ∀ i, i < n → bit s i = true → j ≠ i → bit (bel L i) j = false := by
  induction n with
  | zero => unfold tipsTo; simp
  | succ n ih =>
    have ih := ih (by omega)
    have hbd := tipsTo_bd (belows L N) s n h0 h1
    have hb := bel_bd L n (by omega)
    have hp := Base.pow_bd n (by omega)
    have hg := belows_get L N n (by omega)
    unfold tipsTo
    cases hs : bit s n
    · simp only [Bool.false_eq_true, if_false]
      rw [ih]
      constructor
      · rintro ⟨a, b⟩
        refine ⟨a, fun i hi hb' hj => ?_⟩
        by_cases e : i = n
        · subst e; rw [hs] at hb'; exact Bool.noConfusion hb'
        · exact b i (by omega) hb' hj
      · rintro ⟨a, b⟩; exact ⟨a, fun i hi hb' hj => b i (by omega) hb' hj⟩
    · simp only [if_true]
      have hq := andNot_bd' (bel L n) (2 ^ n) hb.1 hb.2
      rw [hg, bit_andNot _ _ hbd.1 hbd.2 hq.1 hq.2, bit_andNot _ _ hb.1 hb.2 (by omega) hp.2, bit_pow, Bool.and_eq_true, ih]
      constructor
      · rintro ⟨⟨a, b⟩, c⟩
        refine ⟨a, fun i hi hb' hj => ?_⟩
        by_cases e : i = n
        · subst e
          rw [decide_eq_false hj] at c
          simpa using c
        · exact b i (by omega) hb' hj
      · rintro ⟨a, b⟩
        refine ⟨⟨a, fun i hi hb' hj => b i (by omega) hb' hj⟩, ?_⟩
        by_cases e : j = n
        · rw [decide_eq_true e]; simp
        · rw [b n (by omega) hs e]; rfl

/-- those of the set that no thread of a met one leads to -/
structure Unseen (L : List K) (s : Int) (m : Nat) (r u : Int) : Prop where
  lo : 0 ≤ u
  hi : u < 1152921504606846976
  has : ∀ j, bit u j = true ↔ bit s j = true ∧ ∀ i, m ≤ i → i < L.length → bit r i = true → bit (at' L i).frm j = false

theorem unseen_start (L : List K) (s r : Int) (h0 : 0 ≤ s) (h1 : s < 1152921504606846976) : Unseen L s L.length r s := ⟨h0, h1, fun j => ⟨fun h => ⟨h, fun i h1 h2 => by omega⟩, fun h => h.1⟩⟩

theorem unseen_skip {L : List K} {s r u : Int} {m : Nat} (h : Unseen L s (m + 1) r u) (hb : bit r m = false) : Unseen L s m r u :=
  ⟨h.lo, h.hi, fun j => by
    rw [h.has j]
    constructor
    · rintro ⟨a, b⟩
      refine ⟨a, fun i h1 h2 h3 => ?_⟩
      by_cases e : i = m
      · subst e; rw [hb] at h3; exact Bool.noConfusion h3
      · exact b i (by omega) h2 h3
    · rintro ⟨a, b⟩; exact ⟨a, fun i h1 h2 h3 => b i (by omega) h2 h3⟩⟩

theorem unseen_take {L : List K} (hl : Lc.laceB L = true) {s r u : Int} {m : Nat} (hm : m < L.length) (hi : Inv L s (m + 1) r) (h : Unseen L s (m + 1) r u) (hb : bit r m = true) : Unseen L s m (orB r (at' L m).frm) (bits .andNot .i64 u (at' L m).frm) := by
  have hf := frm_lace hl _ (Lc.at_mem L m hm)
  have hbd := andNot_bd' u (at' L m).frm h.lo h.hi
  refine ⟨hbd.1, hbd.2, fun j => ?_⟩
  rw [bit_andNot _ _ h.lo h.hi hf.1 hf.2, Bool.and_eq_true, h.has j]
  constructor
  · rintro ⟨⟨a, b⟩, c⟩
    refine ⟨a, fun i h1 h2 h3 => ?_⟩
    rw [bit_orB _ _ hi.lo hf.1, Bool.or_eq_true] at h3
    by_cases e : i = m
    · subst e; simpa using c
    · rcases h3 with h3 | h3
      · exact b i (by omega) h2 h3
      · have := thread_lt hl hm h3; omega
  · rintro ⟨a, b⟩
    refine ⟨⟨a, fun i h1 h2 h3 => b i (by omega) h2 (by rw [bit_orB _ _ hi.lo hf.1, h3]; rfl)⟩, ?_⟩
    rw [b m (Nat.le_refl _) hm (by rw [bit_orB _ _ hi.lo hf.1, hb]; rfl)]; rfl

theorem reach_last {L : List K} {i j : Nat} (h : Reach L i j) : j = i ∨ ∃ p, Reach L i p ∧ bit (at' L p).frm j = true := by
  induction h with
  | self => exact .inl rfl
  | @step i m j hb hr ih =>
    rcases ih with rfl | ⟨p, hp, hq⟩
    · exact .inr ⟨i, .self _, hb⟩
    · exact .inr ⟨p, .step hb hp, hq⟩

theorem tips_end {L : List K} (hl : Lc.laceB L = true) {s r u : Int} (h0 : 0 ≤ s) (h1 : s < 1152921504606846976) (hc : closedTo (belows L L.length) s L.length = true) (hi : Inv L s 0 r) (h : Unseen L s 0 r u) : u = tipsTo (belows L L.length) s L.length := by
  have h60 := ((Lc.lace_iff L).1 hl).1
  have hbd := tipsTo_bd (belows L L.length) s L.length h0 h1
  rw [closed_threads hl s h0 h1] at hc
  refine Lc.eq_of_bits _ _ h.lo hbd.1 fun j => ?_
  rw [Bool.eq_iff_iff, h.has j, bit_tips L s L.length L.length (Nat.le_refl _) h60 h0 h1 j]
  constructor
  · rintro ⟨a, b⟩
    refine ⟨a, fun i hil hs hj => ?_⟩
    rw [Bool.eq_false_iff]
    intro hbe
    rcases reach_last ((bel_reach hl i hil j).1 hbe) with e | ⟨p, hp, hq⟩
    · exact hj e
    · have hpl := reach_le hl hil hp
      have := b p (Nat.zero_le _) (by omega) (hi.start p (reach_in hl hc hil hs hp))
      rw [this] at hq; exact Bool.noConfusion hq
  · rintro ⟨a, b⟩
    refine ⟨a, fun i _ hil hr => ?_⟩
    rw [Bool.eq_false_iff]
    intro hbf
    have hs : bit s i = true := by
      rcases hi.sound i hr with h | ⟨i', hil', hs', hre⟩
      · exact h
      · exact reach_in hl hc hil' hs' hre
    have hlt := thread_lt hl hil hbf
    have := b i hil hs (by omega)
    rw [(bel_reach hl i hil j).2 (.step hbf (.self _))] at this
    exact Bool.noConfusion this

/-! ### what the walk meets, in its order -/
def visF (L : List K) : (m : Nat) → m ≤ L.length → Int → List (Fin L.length)
  | 0, _, _ => []
  | m + 1, h, r => if bit r m then ⟨m, h⟩ :: visF L m (Nat.le_of_succ_le h) (orB r (at' L m).frm) else visF L m (Nat.le_of_succ_le h) r

def vis (L : List K) (s : Int) : List (Fin L.length) := visF L L.length (Nat.le_refl _) s

theorem visF_yes (L : List K) (m : Nat) (h : m + 1 ≤ L.length) (r : Int) (hb : bit r m = true) : visF L (m + 1) h r = ⟨m, h⟩ :: visF L m (Nat.le_of_succ_le h) (orB r (at' L m).frm) := by
  show (if bit r m then _ else _) = _
  rw [hb]; rfl
theorem visF_no (L : List K) (m : Nat) (h : m + 1 ≤ L.length) (r : Int) (hb : bit r m = false) : visF L (m + 1) h r = visF L m (Nat.le_of_succ_le h) r := by
  show (if bit r m then _ else _) = _
  rw [hb]; rfl

theorem visF_len (L : List K) (m : Nat) (h : m ≤ L.length) (r : Int) : (visF L m h r).length ≤ m := by
  induction m generalizing r with
  | zero => exact Nat.le_refl _
  | succ m ih =>
    cases hb : bit r m
    · rw [visF_no L m h r hb]; have := ih (Nat.le_of_succ_le h) r; omega
    · rw [visF_yes L m h r hb]; have := ih (Nat.le_of_succ_le h) (orB r (at' L m).frm); simp; omega

theorem vis_len (L : List K) (s : Int) : (vis L s).length ≤ L.length := visF_len L _ _ s

/-- those gathered -/
def gath {n : Nat} (f : Int) (xs : List (Fin n)) : Int := xs.foldl (fun f x => withB f x.val) f
theorem gath_snoc {n : Nat} (f : Int) (xs : List (Fin n)) (x : Fin n) : gath f (xs ++ [x]) = withB (gath f xs) x.val := by simp [gath]

theorem gath_bd {n : Nat} (hn : n ≤ 60) (xs : List (Fin n)) : 0 ≤ gath 0 xs ∧ gath 0 xs < 1152921504606846976 := by
  have : ∀ (xs : List (Fin n)) (f : Int), 0 ≤ f → f < 1152921504606846976 → 0 ≤ gath f xs ∧ gath f xs < 1152921504606846976 := by
    intro xs
    induction xs with
    | nil => intro f h0 h1; exact ⟨h0, h1⟩
    | cons x xs ih =>
      intro f h0 h1
      have hx := x.isLt
      have hb := Bit.withB_bd f h0 h1 x.val (by omega)
      exact ih _ hb.1 hb.2
  exact this xs 0 (by omega) (by omega)

theorem gath_vis {L : List K} (hl : Lc.laceB L = true) (k : Int) : gath 0 (vis L (oneI k)) = metI L k := by
  have h60 := ((Lc.lace_iff L).1 hl).1
  have : ∀ (m : Nat) (h : m ≤ L.length) (r f : Int), Inv L (oneI k) m r → Met L m r f → gath f (visF L m h r) = metI L k := by
    intro m
    induction m with
    | zero => intro h r f hi hm; exact met_end hl hi hm
    | succ m ih =>
      intro h r f hi hm
      cases hb : bit r m
      · rw [visF_no L m h r hb]; exact ih _ r f (inv_skip hi hb) (met_skip hm hb)
      · rw [visF_yes L m h r hb]; exact ih _ _ _ (inv_take hl h hi hb) (met_take hl h hi hm hb)
  exact this L.length (Nat.le_refl _) (oneI k) 0 (inv_start L _ (oneI_bd k).1 (oneI_bd k).2) (met_start L _)

theorem vis_closed {L : List K} (hl : Lc.laceB L = true) (s : Int) (h0 : 0 ≤ s) (h1 : s < 1152921504606846976) : (∀ x ∈ vis L s, bit s x.val = true) ↔ closedTo (belows L L.length) s L.length = true := by
  have : ∀ (m : Nat) (h : m ≤ L.length) (r : Int), Inv L s m r → Kept L s m r → ((∀ x ∈ visF L m h r, bit s x.val = true) ↔ closedTo (belows L L.length) s L.length = true) := by
    intro m
    induction m with
    | zero => intro h r hi hk; exact ⟨fun _ => closed_end hl h0 h1 hi hk, fun _ x hx => by cases hx⟩
    | succ m ih =>
      intro h r hi hk
      cases hb : bit r m
      · rw [visF_no L m h r hb]; exact ih _ r (inv_skip hi hb) (kept_skip hk hb)
      · rw [visF_yes L m h r hb]
        cases hs : bit s m
        · constructor
          · intro hx
            have := hx ⟨m, h⟩ (List.mem_cons_self ..)
            rw [hs] at this; exact Bool.noConfusion this
          · intro hc
            rw [closed_not hl h0 h1 hi hb hs] at hc; exact Bool.noConfusion hc
        · have := ih (Nat.le_of_succ_le h) _ (inv_take hl h hi hb) (kept_take hl h hi hk hs)
          rw [← this]
          constructor
          · intro hx x hm; exact hx x (List.mem_cons_of_mem _ hm)
          · intro hx x hm
            rcases List.mem_cons.1 hm with rfl | hm
            · exact hs
            · exact hx x hm
  exact this L.length (Nat.le_refl _) s (inv_start L _ h0 h1) (kept_start L s s)

/-- what is left of a set when the threads of those are struck -/
def strike (L : List K) (u : Int) (xs : List (Fin L.length)) : Int := xs.foldl (fun u x => bits .andNot .i64 u (at' L x.val).frm) u
theorem strike_snoc (L : List K) (u : Int) (xs : List (Fin L.length)) (x : Fin L.length) : strike L u (xs ++ [x]) = bits .andNot .i64 (strike L u xs) (at' L x.val).frm := by simp [strike]

theorem strike_vis {L : List K} (hl : Lc.laceB L = true) (s : Int) (h0 : 0 ≤ s) (h1 : s < 1152921504606846976) (hc : closedTo (belows L L.length) s L.length = true) : strike L s (vis L s) = tipsTo (belows L L.length) s L.length := by
  have : ∀ (m : Nat) (h : m ≤ L.length) (r u : Int), Inv L s m r → Unseen L s m r u → strike L u (visF L m h r) = tipsTo (belows L L.length) s L.length := by
    intro m
    induction m with
    | zero => intro h r u hi hu; exact tips_end hl h0 h1 hc hi hu
    | succ m ih =>
      intro h r u hi hu
      cases hb : bit r m
      · rw [visF_no L m h r hb]; exact ih _ r u (inv_skip hi hb) (unseen_skip hu hb)
      · rw [visF_yes L m h r hb]; exact ih _ _ _ (inv_take hl h hi hb) (unseen_take hl h hi hu hb)
  exact this L.length (Nat.le_refl _) s s (inv_start L _ h0 h1) (unseen_start L s s h0 h1)

end Sg
end Go.Proofs.Ytdcjjopeobnpgaa

namespace Go.Proofs.Ytdcjjopeobnpgaa
open Go.RowKit
set_option maxRecDepth 100000
namespace Lc
open Kn (K okK)
open Bit (bit withB)

theorem pow60 (n : Nat) (hn : n ≤ 60) : (1 : Int) ≤ 2 ^ n ∧ (2 : Int) ^ n ≤ 1152921504606846976 := by
  have hp : 1 ≤ 2 ^ n := Nat.one_le_two_pow
  have hq : 2 ^ n ≤ 2 ^ 60 := Nat.pow_le_pow_right (by decide) hn
  have hpc : ((2 ^ n : Nat) : Int) = (2 : Int) ^ n := by simp
  omega

theorem wrap60 (n : Nat) (hn : n ≤ 60) : IntKind.i64.wrap (2 ^ n) = 2 ^ n := by
  have := pow60 n hn
  rw [IntKind.wrap_i64]; omega

/-- within the lace -/
def inL (n : Nat) (s : Int) : Bool := decide (0 ≤ s) && decide (s / 2 ^ n = 0)

set_option maxHeartbeats 400000 in
theorem all (a : Option Addr) (cap n : Nat) (w : World) (hn : n ≤ 60) : Calls Try.prog 112 #[.slice a n cap] w fun e w' => e = .returned (.int .i64 (2 ^ n - 1)) ∧ w = w' := by
  have h1 := wrap60 n hn
  have h2 := pow60 n hn
  go_enter Try.func112, Try.ntmps112
  go_wp2
  go_ret
  exact ⟨rfl, rfl⟩

set_option maxHeartbeats 400000 in
theorem holds (a : Option Addr) (cap n : Nat) (s : Int) (w : World) (hn : n ≤ 60) (h0 : -9223372036854775808 ≤ s) (h1 : s ≤ 9223372036854775807) : Calls Try.prog 93 #[.slice a n cap, .int .i64 s] w fun e w' => e = .returned (.bool (inL n s)) ∧ w = w' := by
  have HA : Hid ((bits .andNot .i64 s (2 ^ n - 1) == 0) = inL n s) := andNot_zero s n hn h0 h1
  go_enter Try.func93, Try.ntmps93
  go_wp2_with fail
  refine (all _ _ _ _ hn).mono ?_
  rintro e w1 ⟨rfl, rfl⟩
  go_wp2
  go_ret
  exact ⟨by rw [← HA.out]; rfl, rfl⟩

theorem setB_eq (L : List K) (s : Int) : setB L s = (laceB L && inL L.length s) := rfl

set_option maxHeartbeats 1600000 in
theorem implHandsOf (g off cap : Nat) (L : List K) (s : Int) (w : World) (hlen : L.length ≤ 1099511627776) (hw : WordsOk L) (h0 : -9223372036854775808 ≤ s) (h1 : s ≤ 9223372036854775807) (hr : RdK w (some ⟨g, off, none⟩) L) :
    Calls Try.prog 18 #[.slice (some ⟨g, off, none⟩) L.length cap, .int .i64 s] w fun e w' => e = .returned (.int .i64 (handsOfI L s)) ∧ Below w.heap.size w w' := by
  have HLF : Hid (∀ W : World, RdK W (some ⟨g, off, none⟩) L → Calls Try.prog 53 #[.slice (some ⟨g, off, none⟩) L.length cap] W (LacePost L W)) := fun W h => laceOf g off cap L W hlen hw h
  go_enter Try.func18, Try.ntmps18
  go_wp2_with (first | (go_at_call 61; go_in) | fail)
  refine (HLF.out _ hr).mono ?_
  rintro e w1 (⟨hl, g', rfl, hg', hrg, hb1⟩ | ⟨hl, rfl, hb1⟩)
  · have h60 := ((lace_iff L).1 hl).1
    have hh := lace_hands hl
    have HS : Hid (setB L s = inL L.length s) := by show _ = _; rw [setB_eq, hl]; rfl
    clear hl HLF
    go_wp2_with fail
    refine (holds _ _ _ s _ h60 h0 h1).mono ?_
    rintro e w1' ⟨rfl, rfl⟩
    cases hin : inL L.length s
    · have HT : Hid (handsOfI L s = -1) := by show _ = _; unfold handsOfI; rw [HS.out, hin]; rfl
      clear hin HS
      go_wp2
      go_ret
      exact ⟨by rw [HT.out]; rfl, hb1⟩
    · have HT : Hid (handsOfI L s = handsN L s) := by show _ = _; unfold handsOfI; rw [HS.out, hin]; rfl
      obtain ⟨_, q0, q1, qd, _, _⟩ := setB_parts (HS.out.trans hin)
      clear hin HS
      go_wp2_with fail
      refine (hands g' 0 L.length L s _ h60 q0 q1 qd hh hrg).mono ?_
      rintro e w2 ⟨rfl, hb2⟩
      have B2 := hb1.trans (hb2.mono hb1.size)
      clear hb1 hb2 hrg hg' qd
      go_wp2
      go_ret
      exact ⟨by rw [HT.out]; rfl, B2⟩
  · have HT : Hid (handsOfI L s = -1) := by show _ = _; unfold handsOfI; rw [setB_eq, hl]; rfl
    clear hl HLF
    go_wp2
    go_ret
    exact ⟨by rw [HT.out]; rfl, hb1⟩

set_option maxHeartbeats 1600000 in
theorem implAtRound (g off cap : Nat) (L : List K) (s r : Int) (w : World) (hlen : L.length ≤ 1099511627776) (hw : WordsOk L) (h0 : -9223372036854775808 ≤ s) (h1 : s ≤ 9223372036854775807) (hr : RdK w (some ⟨g, off, none⟩) L) :
    Calls Try.prog 19 #[.slice (some ⟨g, off, none⟩) L.length cap, .int .i64 s, .int .i64 r] w fun e w' => e = .returned (.int .i64 (atRoundI L s r)) ∧ Below w.heap.size w w' := by
  have HLF : Hid (∀ W : World, RdK W (some ⟨g, off, none⟩) L → Calls Try.prog 53 #[.slice (some ⟨g, off, none⟩) L.length cap] W (LacePost L W)) := fun W h => laceOf g off cap L W hlen hw h
  have P0 : Hid (Below w.heap.size w (w.alloc (.cells #[.int .i64 r] 2)) ∧ (w.alloc (.cells #[.int .i64 r] 2)).cell? ⟨w.heap.size, 0, none⟩ = some (.int .i64 r) ∧ w.heap.size < (w.alloc (.cells #[.int .i64 r] 2)).heap.size) := ⟨(Below.refl _ _).alloc (Nat.le_refl _) _, by simp, by simp⟩
  go_enter Try.func19, Try.ntmps19
  go_wp2_with (first | (go_at_call 61; go_in) | fail)
  generalize w.alloc (.cells #[.int .i64 r] 2) = w0 at P0 ⊢
  obtain ⟨B0, C0, S0⟩ := P0
  have hr0 := hr.below B0
  generalize hb : w.heap.size = b at *
  refine (HLF.out _ hr0).mono ?_
  rintro e w1 (⟨hl, g', rfl, hg', hrg, hb1⟩ | ⟨hl, rfl, hb1⟩)
  · have h60 := ((lace_iff L).1 hl).1
    have hh := lace_hands hl
    have HS : Hid (setB L s = inL L.length s) := by show _ = _; rw [setB_eq, hl]; rfl
    have c0 := (hb1.cell (p := ⟨b, 0, none⟩) S0).trans C0
    have B1 := B0.trans (hb1.mono (Nat.le_of_lt S0))
    have S1 : b < w1.heap.size := Nat.lt_of_lt_of_le S0 hb1.size
    clear hl HLF hb1 B0 S0 C0 hr0
    go_wp2_with fail
    refine (holds _ _ _ s _ h60 h0 h1).mono ?_
    rintro e w1' ⟨rfl, rfl⟩
    cases hin : inL L.length s
    · have HT : Hid (atRoundI L s r = -1) := by show _ = _; unfold atRoundI; rw [HS.out, hin]; rfl
      clear hin HS
      go_wp2
      go_ret
      exact ⟨by rw [HT.out]; rfl, by first | exact B1 | (rw [hb]; exact B1)⟩
    · have HT : Hid (atRoundI L s r = roundS L s r) := by show _ = _; unfold atRoundI; rw [HS.out, hin]; rfl
      obtain ⟨_, q0, q1, qd, _, _⟩ := setB_parts (HS.out.trans hin)
      clear hin HS
      go_wp2_with (first | (go_at_call 63; go_in) | fail)
      refine (atRound g' 0 L.length L s r _ h60 ((Base.okB_iff s).2 ⟨q0, q1⟩) hrg).mono ?_
      rintro e w2 ⟨rfl, hb2⟩
      have B2 := B1.trans (hb2.mono (Nat.le_of_lt S1))
      clear B1 hb2 hrg hg' qd
      go_wp2
      go_ret
      exact ⟨by rw [HT.out]; rfl, by first | exact B2 | (rw [hb]; exact B2)⟩
  · have HT : Hid (atRoundI L s r = -1) := by show _ = _; unfold atRoundI; rw [setB_eq, hl]; rfl
    have B1 := B0.trans (hb1.mono (Nat.le_of_lt S0))
    clear hl HLF hb1 B0 S0 C0 hr0
    go_wp2
    go_ret
    exact ⟨by rw [HT.out]; rfl, by first | exact B1 | (rw [hb]; exact B1)⟩

end Lc
end Go.Proofs.Ytdcjjopeobnpgaa

namespace Go.Proofs.Ytdcjjopeobnpgaa
open Go.RowKit
set_option maxRecDepth 100000
attribute [local go_sem] Oper.semAt_some
namespace Sg
open Kn (K okK)
open Bit (bit withB)
open Lc (at' RdK CellsK)

/-- what a round keeps: whatever lay below n₀, and the walk's own box for the lace -/
def KpL (n₀ Bl : Nat) (W W' : World) : Prop := Below n₀ W W' ∧ W'.heap[Bl]? = W.heap[Bl]?
theorem kpL_t {n₀ Bl : Nat} {A B C : World} (h : KpL n₀ Bl A B) (k : KpL n₀ Bl B C) : KpL n₀ Bl A C := ⟨h.1.trans k.1, k.2.trans h.2⟩
theorem kpL_b {n₀ Bl : Nat} {w : World} (hn : n₀ ≤ w.heap.size) (hB : Bl < w.heap.size) (W : World) (l : Nat) (o o' : Obj) (hl : w.heap.size ≤ l) (h : W.heap[l]? = some o) (h1 : o.isCells = false) (h2 : o.isWalk = false) : KpL n₀ Bl W (W.putObj l o') :=
  ⟨belowK_b hn W l o o' hl h h1 h2, World.putObj_heap_other (by omega)⟩
theorem kpL_refl (n₀ Bl : Nat) (W : World) : KpL n₀ Bl W W := ⟨Below.refl _ _, rfl⟩
theorem kpL_put {n₀ Bl : Nat} (W : World) (b : Nat) (hb : n₀ ≤ b) (hB : Bl ≠ b) (u : Value) : KpL n₀ Bl W (W.setCell ⟨b, 0, none⟩ u) :=
  ⟨(Below.refl n₀ W).setCell (p := ⟨b, 0, none⟩) hb u, Below.heap_setCell W ⟨b, 0, none⟩ u Bl hB⟩

theorem cellsK_at {n₀ : Nat} {w w' : World} {g o : Nat} {k : K} (h : CellsK w g o k) (hb : Below n₀ w w') (hg : g < n₀) : CellsK w' g o k where
  c0 := (hb.cell (p := ⟨g, o, none⟩) hg).trans h.c0
  c1 := (hb.cell (p := ⟨g, o + 1, none⟩) hg).trans h.c1
  c2 := (hb.cell (p := ⟨g, o + 2, none⟩) hg).trans h.c2
  c3 := (hb.cell (p := ⟨g, o + 3, none⟩) hg).trans h.c3

theorem cell_block {w w' : World} {b : Nat} (h : w'.heap[b]? = w.heap[b]?) : w'.cell? ⟨b, 0, none⟩ = w.cell? ⟨b, 0, none⟩ := World.cell?_of_block (w := w) h

set_option maxHeartbeats 2000000 in
theorem under1 (n : Nat) (hn : 1 ≤ n) (l Bs Bl n₀ g off cap : Nat) (L : List K) (hlc : Lc.laceB L = true) (s : Int) (h0 : 0 ≤ s) (h1 : s < 1152921504606846976) (hg : g < n₀) (J Jx : List (Fin L.length) → World → Prop)
    (hY : ∀ pre x W, J pre W → pre.length < L.length → YieldAt Fence.wide (n - 1) Try.prog l #[.int .i64 (x.val : Int)] W fun e W' =>
      (e = .returned (.bool true) ∧ J (pre ++ [x]) W' ∧ KpL n₀ Bl W W') ∨ (e = .returned (.bool false) ∧ Jx (pre ++ [x]) W'))
    (W : World) (hBs : W.cell? ⟨Bs, 0, none⟩ = some (.int .i64 s)) (hBl : W.cell? ⟨Bl, 0, none⟩ = some (.slice (some ⟨g, off, none⟩) L.length cap)) (hr : RdK W (some ⟨g, off, none⟩) L) (hJ0 : J [] W) :
    CallsIn Fence.wide n Try.prog 128 #[.func (.yield l) #[] #[], .pointer (some ⟨Bs, 0, none⟩), .pointer (some ⟨Bl, 0, none⟩)] W fun e W' => (∃ v, e = .returned v) ∧
      ((∃ ys, ys = vis L s ∧ J ys W') ∨ (∃ pre, pre <+: vis L s ∧ Jx pre W')) := by
  have h60 := ((Lc.lace_iff L).1 hlc).1
  refine callsIn_of_wp Try.func128 rfl trivial ?_ rfl
  simp only [Try.ntmps128, List.size_toArray, List.length_cons, List.length_nil, Nat.reduceAdd, Nat.reduceSub, Array.replicate_succ, Array.replicate_zero, List.push_toArray, List.append_toArray, List.nil_append, List.cons_append]
  gi_wp2
  gi_loopw [4, 5] (fun r i wr => ∃ (m : Nat) (hm : m ≤ L.length) (ri x : Int) (pre : List (Fin L.length)), i = .int .i64 x ∧ x = (m : Int) - 1 ∧ r = .int .i64 ri ∧ Hid (pre ++ visF L m hm ri = vis L s) ∧ Hid (Inv L s m ri) ∧ Hid (J pre wr) ∧ Hid (KpL n₀ Bl W wr))
    (fun _ i _ => (intOf i + 1).toNat)
  case atStart => exact ⟨L.length, Nat.le_refl _, s, _, [], rfl, by first | omega | go_num, rfl, rfl, inv_start L s h0 h1, hJ0, kpL_refl _ _ _⟩
  case round =>
    obtain ⟨m, hm, ri, x, pre, rfl, hx, rfl, HV, HI, HJ, HK⟩ := hrel
    cases m with
    | zero =>
      obtain rfl : x = -1 := by omega
      clear hx
      gi_wp2
      go_end0
      exact ⟨⟨_, rfl⟩, .inl ⟨pre, by have := HV.out; rw [← this]; exact (List.append_nil _).symm, HJ.out⟩⟩
    | succ m =>
      obtain rfl : x = (m : Int) := by omega
      clear hx
      have hml : m < L.length := hm
      have hin : Base.inB (m : Int) = true := (Base.inB_iff _).2 ⟨by omega, by omega⟩
      have hok : Base.okB ri = true := (Base.okB_iff _).2 ⟨HI.out.lo, HI.out.hi⟩
      cases hb : bit ri m
      · have HH : Hid ((Base.okB ri && (Base.inB (m : Int) && bit ri m)) = false) := by show _ = _; simp [hb]
        have HV2 : Hid (pre ++ visF L m (Nat.le_of_succ_le hm) ri = vis L s) := by show _ = _; rw [← visF_no L m hm ri hb]; exact HV.out
        have HI2 : Hid (Inv L s m ri) := inv_skip HI.out hb
        clear hb HV HI hin hok
        gi_wp2_with (first | (gi_at_call 72; refine (callsIn_wide.2 (Base.has _ _ _)).mono ?_; rintro e w' ⟨rfl, rfl⟩; rw [Int.toNat_natCast, HH.out]) | (refine ⟨trivial, ?_⟩; gi_at_call 72; refine (callsIn_wide.2 (Base.has _ _ _)).mono ?_; rintro e w' ⟨rfl, rfl⟩; rw [Int.toNat_natCast, HH.out]))
        go_roundw
        case rel => exact ⟨m, Nat.le_of_succ_le hm, ri, _, pre, by go_num, rfl, rfl, HV2, HI2, HJ, HK⟩
        case measure => simp [intOf]
      · have HH : Hid ((Base.okB ri && (Base.inB (m : Int) && bit ri m)) = true) := by show _ = _; simp [hb, hin, hok]
        have HV2 : Hid ((pre ++ [⟨m, hm⟩]) ++ visF L m (Nat.le_of_succ_le hm) (orB ri (at' L m).frm) = vis L s) := by
          show _ = _
          rw [List.append_assoc, List.singleton_append, ← visF_yes L m hm ri hb]; exact HV.out
        have HI2 : Hid (Inv L s m (orB ri (at' L m).frm)) := inv_take hlc hml HI.out hb
        have hfr := frm_lace hlc _ (Lc.at_mem L m hml)
        have HOr : Hid (bits .or .i64 ri (at' L m).frm = orB ri (at' L m).frm) := or_eq _ _ HI.out.lo HI.out.hi hfr.1 hfr.2
        have hlen : pre.length < L.length := by
          have h1 := congrArg List.length HV2.out
          have h2 := vis_len L s
          simp at h1; omega
        obtain ⟨fn, tmps, assign, body, hy, hR⟩ := hY pre ⟨m, hm⟩ wr HJ.out hlen
        dsimp only at hy
        have HC : Hid (∀ W3, KpL n₀ Bl wr W3 → W3.cell? ⟨Bl, 0, none⟩ = some (.slice (some ⟨g, off, none⟩) L.length cap) ∧ W3.cell? ⟨g, off + m * 4 + 2, none⟩ = some (.int .i64 (at' L m).frm)) := by
          intro W3 hk3
          have hkk := kpL_t HK.out hk3
          obtain ⟨_, hc⟩ := hr.on m hml
          exact ⟨(cell_block hkk.2).trans hBl, (cellsK_at hc hkk.1 hg).c2⟩
        clear hb HV HI hin hok hfr hlen
        gi_wp2_with (first | (gi_at_call 72; refine (callsIn_wide.2 (Base.has _ _ _)).mono ?_; rintro e w' ⟨rfl, rfl⟩; rw [Int.toNat_natCast, HH.out]) | (refine ⟨trivial, ?_⟩; gi_at_call 72; refine (callsIn_wide.2 (Base.has _ _ _)).mono ?_; rintro e w' ⟨rfl, rfl⟩; rw [Int.toNat_natCast, HH.out]))
        refine hR.mono ?_
        rintro e W3 (⟨rfl, hJ3, hk3⟩ | ⟨rfl, hJx3⟩)
        · obtain ⟨cl, cf⟩ := HC.out W3 hk3
          have HK3 : Hid (KpL n₀ Bl W W3) := kpL_t HK.out hk3
          have HJ3 : Hid (J (pre ++ [⟨m, hm⟩]) W3) := hJ3
          clear hk3 hJ3 hR hy HC HK HJ
          gi_wp2
          go_roundw
          case rel => exact ⟨m, Nat.le_of_succ_le hm, _, _, _, by go_num, rfl, by rw [HOr.out], HV2, HI2, HJ3, HK3⟩
          case measure => simp [intOf]
        · gi_wp2
          refine bodyPost_ret (results_none rfl _ _ _) rfl ?_
          exact ⟨⟨_, rfl⟩, .inr ⟨pre ++ [⟨m, hm⟩], ⟨_, HV2.out⟩, hJx3⟩⟩

end Sg
end Go.Proofs.Ytdcjjopeobnpgaa

namespace Go.Proofs.Ytdcjjopeobnpgaa
open Go.RowKit Go.Shelf
set_option maxRecDepth 100000
attribute [local go_sem] Oper.semAt_some
namespace Sg
open Kn (K okK)
open Bit (bit withB)
open Lc (at' RdK CellsK)

theorem boxNew (W : World) (v : Value) (t : TypeId) : (W.alloc (.cells #[v] t)).cell? ⟨W.heap.size, 0, none⟩ = some v ∧ (W.alloc (.cells #[v] t)).frozen? ⟨W.heap.size, 0, none⟩ = false := ⟨by simp, by simp⟩
theorem boxCell {W : World} {a : Addr} {v : Value} (o : Obj) (h : W.cell? a = some v) : (W.alloc o).cell? a = some v := cell_kept h (World.grownBy_alloc W o none) (fun r e => by cases e)
theorem boxFrozen {W : World} {a : Addr} {v : Value} (o : Obj) (h : W.cell? a = some v) (hf : W.frozen? a = false) : (W.alloc o).frozen? a = false := (frozen_kept h (World.grownBy_alloc W o none) (fun r e => by cases e)).trans hf

theorem kpL_drew {n₀ Bl : Nat} {W W' : World} (h : KpL n₀ Bl W W') : KpL n₀ Bl W W'.drew := ⟨h.1.drew, h.2⟩
theorem put_other (W : World) (b c : Nat) (hbc : b ≠ c) (u : Value) : (W.setCell ⟨c, 0, none⟩ u).cell? ⟨b, 0, none⟩ = W.cell? ⟨b, 0, none⟩ := cell_block (Below.heap_setCell W ⟨c, 0, none⟩ u b hbc)

theorem under_stops (n : Nat) (hn : 1 ≤ n) (Bs Bl n₀ g off cap : Nat) (L : List K) (hlc : Lc.laceB L = true) (s : Int) (h0 : 0 ≤ s) (h1 : s < 1152921504606846976) (hg : g < n₀) (w : World) (hs : Bs < w.heap.size) (hl : Bl < w.heap.size)
    (cs : w.cell? ⟨Bs, 0, none⟩ = some (.int .i64 s)) (cl : w.cell? ⟨Bl, 0, none⟩ = some (.slice (some ⟨g, off, none⟩) L.length cap)) (hr : RdK w (some ⟨g, off, none⟩) L) :
    SeqStopsK Fence.wide n Try.prog 128 #[.pointer (some ⟨Bs, 0, none⟩), .pointer (some ⟨Bl, 0, none⟩)] (fun x : Fin L.length => #[Value.int .i64 (x.val : Int)]) (KpL n₀ Bl) (fun ys => ys = vis L s) (fun pre => pre <+: vis L s) L.length w := fun l J Jx W hW _ _ hY hJ =>
  under1 n hn l Bs Bl n₀ g off cap L hlc s h0 h1 hg J Jx hY W ((hW.cell (p := ⟨Bs, 0, none⟩) hs).trans cs) ((hW.cell (p := ⟨Bl, 0, none⟩) hl).trans cl) (hr.below hW) hJ

set_option maxHeartbeats 400000 in
theorem under (a : Option Addr) (len cap : Nat) (s : Int) (w : World) : Calls Try.prog 113 #[.slice a len cap, .int .i64 s] w fun e w' =>
    e = .returned (.func (.func 128) #[] #[.pointer (some ⟨w.heap.size + 1, 0, none⟩), .pointer (some ⟨w.heap.size, 0, none⟩)]) ∧ w' = (w.alloc (.cells #[.slice a len cap] 51)).alloc (.cells #[.int .i64 s] 56) := by
  go_enter Try.func113, Try.ntmps113
  go_wp2
  go_ret
  exact ⟨rfl, rfl⟩

theorem with_one (k : Int) : Base.withI 0 k = oneI k := by
  unfold Base.withI oneI
  by_cases h : 0 ≤ k ∧ k < 60
  · rw [(Base.inB_iff k).2 h, (Base.okB_iff 0).2 (by omega), if_pos h]
    simp [Bit.withB]
  · have : Base.inB k = false := by
      cases hb : Base.inB k
      · rfl
      · exact absurd ((Base.inB_iff k).1 hb) h
    rw [this, if_neg h]; simp

set_option maxHeartbeats 2000000 in
theorem below (g off cap : Nat) (L : List K) (k : Int) (w : World) (hlc : Lc.laceB L = true) (hg : g < w.heap.size) (hr : RdK w (some ⟨g, off, none⟩) L) :
    Calls Try.prog 75 #[.slice (some ⟨g, off, none⟩) L.length cap, .int .i64 k] w fun e w' => e = .returned (.int .i64 (metI L k)) ∧ Below w.heap.size w w' := by
  have h60 := ((Lc.lace_iff L).1 hlc).1
  refine (callsIn_wide (n := 3)).1 ?_
  refine callsIn_of_wp_marks Try.func75 rfl trivial ?_ rfl
  simp only [Try.ntmps75, List.size_toArray, List.length_cons, List.length_nil, Nat.reduceAdd, Nat.reduceSub, Array.replicate_succ, Array.replicate_zero, List.push_toArray, List.append_toArray, List.nil_append, List.cons_append]
  gi_wp2_with (first | (refine ⟨trivial, ?_⟩; gi_at_call 102; refine (callsIn_wide.2 (Base.withM _ _ _)).mono ?_; rintro e w' ⟨rfl, rfl⟩; rw [with_one]) | (refine ⟨trivial, ?_⟩; gi_at_call 113; refine (callsIn_wide.2 (under _ _ _ _ _)).mono ?_; rintro e w' ⟨rfl, rfl⟩))
  have hB0 : Below w.heap.size w (((w.alloc (.cells #[.int .i64 0] 56)).alloc (.cells #[.slice (some ⟨g, off, none⟩) L.length cap] 51)).alloc (.cells #[.int .i64 (oneI k)] 56)) := (((Below.refl _ w).alloc (Nat.le_refl _) _).alloc (by simp) _).alloc (by simp; omega) _
  have c0 := boxNew w (.int .i64 0) 56
  have c1 := boxNew (w.alloc (.cells #[.int .i64 0] 56)) (.slice (some ⟨g, off, none⟩) L.length cap) 51
  have c2 := boxNew ((w.alloc (.cells #[.int .i64 0] 56)).alloc (.cells #[.slice (some ⟨g, off, none⟩) L.length cap] 51)) (.int .i64 (oneI k)) 56
  simp only [World.size_alloc] at c1 c2
  have hob := oneI_bd k
  refine wpIn_rangeFunc_ownF rfl (by omega) (gf := 128) (lb := #[.pointer (some ⟨w.heap.size + 1 + 1, 0, none⟩), .pointer (some ⟨w.heap.size + 1, 0, none⟩)]) rfl trivial (enters_of Try.func128 (by kernel_rfl) rfl)
    (under_stops 2 (by omega) (w.heap.size + 1 + 1) (w.heap.size + 1) w.heap.size g off cap L hlc (oneI k) hob.1 hob.2 hg _ (by simp) (by simp) c2.1 (boxCell _ c1.1) (hr.below hB0)) kpL_t (kpL_b (by simp; omega) (by simp)) (Below.refl _ _) (fun _ => rfl)
    (fun pre W => (W.cell? ⟨w.heap.size, 0, none⟩ = some (.int .i64 (gath 0 pre)) ∧ W.frozen? ⟨w.heap.size, 0, none⟩ = false) ∧ Below w.heap.size w W)
    (fun _ _ _ => False)
    (OwnFrom.and (Own.from (fun s A B row hs hg hr => ⟨cell_kept hs.1 hg hr, (frozen_kept hs.1 hg hr).trans hs.2⟩) _) (ownFrom_below (Nat.le_refl _) (by simp; omega)))
    (fun _ _ _ _ _ hs _ _ => hs)
    ⟨⟨boxCell _ (boxCell _ c0.1), boxFrozen _ (boxCell _ c0.1) (boxFrozen _ c0.1 c0.2)⟩, hB0⟩
    (fun x => { tmps := #[.slice (some ⟨g, off, none⟩) L.length cap, .int .i64 k, undef, undef, .int .i64 0, .pointer (some ⟨w.heap.size, 0, none⟩), .int .i64 (x.val : Int), .slice (some ⟨g, off, none⟩) L.length cap, .int .i64 k, .int .i64 (oneI k), .func (.func 128) #[] #[.pointer (some ⟨w.heap.size + 1 + 1, 0, none⟩), .pointer (some ⟨w.heap.size + 1, 0, none⟩)], .int .i64 (x.val : Int), undef, undef, undef, undef], defers := [] }) ?assign ?body ?done ?stop
  case assign =>
    intro l x W K hK
    gi_wp2
    exact hK
  case body =>
    rintro l pre x W ⟨⟨hc, hf⟩, hB⟩ _
    have hx := x.isLt
    have hgb := gath_bd h60 pre
    have HW : Hid (Base.withI (gath 0 pre) (x.val : Int) = gath 0 (pre ++ [x])) := by
      show _ = _
      unfold Base.withI
      rw [(Base.okB_iff _).2 hgb, (Base.inB_iff _).2 ⟨by omega, by omega⟩, gath_snoc]; simp
    clear hgb
    gi_wp2_with (refine ⟨trivial, ?_⟩; gi_at_call 102; refine (CallsIn.inRound l (callsIn_wide.2 (Base.withM _ _ _))).mono ?_; rintro e w' ⟨rfl, rfl⟩; rw [HW.out])
    exact ⟨KeepsOthers.setCell _ _ _, kpL_put W w.heap.size (Nat.le_refl _) (by omega) _, ⟨World.cell?_setCell_same' _ _ _ (by rw [hc]; rfl), by rw [World.frozen?_setCell]; exact hf⟩, hB.setCell (p := ⟨w.heap.size, 0, none⟩) (Nat.le_refl _) _⟩
  case done =>
    rintro D ys W hD rfl ⟨⟨hc, _⟩, hB⟩ hK
    rw [gath_vis hlc k] at hc
    gi_wp2
    refine ⟨by simp, .inl ⟨_, _, rfl, run_takeDeferred hK, ?_⟩⟩
    exact ⟨_, results_tmp rfl _ _ _, rfl, hB.trans (belowK_b (w := w) (Nat.le_refl _) W D _ _ (by simp at hD; omega) hK rfl rfl)⟩
  case stop =>
    rintro D c pre W _ _ h _
    exact h.elim

theorem vis_in {L : List K} {s : Int} {pre : List (Fin L.length)} (hp : pre <+: vis L s) {y : Fin L.length} (hy : y ∈ pre) : y ∈ vis L s := hp.subset hy

set_option maxHeartbeats 2000000 in
theorem closed (g off cap : Nat) (L : List K) (s : Int) (w : World) (hlc : Lc.laceB L = true) (hs0 : -9223372036854775808 ≤ s) (hs1 : s ≤ 9223372036854775807) (hg : g < w.heap.size) (hr : RdK w (some ⟨g, off, none⟩) L) :
    Calls Try.prog 84 #[.slice (some ⟨g, off, none⟩) L.length cap, .int .i64 s] w fun e w' => e = .returned (.bool (Lc.inL L.length s && closedTo (belows L L.length) s L.length)) ∧ Below w.heap.size w w' := by
  have h60 := ((Lc.lace_iff L).1 hlc).1
  have hB1 : Below w.heap.size w ((w.alloc (.cells #[.int .i64 s] 56)).alloc (.cells #[.bool false] 4)) := ((Below.refl _ w).alloc (Nat.le_refl _) _).alloc (by simp) _
  have a0 := boxNew w (.int .i64 s) 56
  have a1 := boxNew (w.alloc (.cells #[.int .i64 s] 56)) (.bool false) 4
  simp only [World.size_alloc] at a1
  cases hin : Lc.inL L.length s
  · have HT : Hid ((false && closedTo (belows L L.length) s L.length) = false) := rfl
    have HB1 : Hid (Below w.heap.size w ((w.alloc (.cells #[.int .i64 s] 56)).alloc (.cells #[.bool false] 4))) := hB1
    have HIN : Hid (Lc.inL L.length s = false) := hin
    clear hin hB1
    rw [HT.out]
    go_enter Try.func84, Try.ntmps84
    go_wp2_with (go_at_call 93; refine (Lc.holds _ _ _ s _ h60 hs0 hs1).mono ?_; rintro e w' ⟨rfl, rfl⟩; rw [HIN.out])
    refine bodyPost_ret (v := .bool false) (by simp [results, Try.f84, go_sem]) rfl ?_
    exact ⟨rfl, HB1.out⟩
  · have hpar : 0 ≤ s ∧ s < 1152921504606846976 := by
      have hset : Lc.setB L s = true := by rw [Lc.setB_eq, hlc, hin]; rfl
      obtain ⟨_, q0, q1, _, _, _⟩ := Lc.setB_parts hset
      exact ⟨q0, q1⟩
    have HIN : Hid (Lc.inL L.length s = true) := hin
    clear hin
    have hok : Base.okB s = true := (Base.okB_iff _).2 hpar
    have HVC := vis_closed hlc s hpar.1 hpar.2
    refine (callsIn_wide (n := 3)).1 ?_
    refine callsIn_of_wp_marks Try.func84 rfl trivial ?_ rfl
    simp only [Try.ntmps84, List.size_toArray, List.length_cons, List.length_nil, Nat.reduceAdd, Nat.reduceSub, Array.replicate_succ, Array.replicate_zero, List.push_toArray, List.append_toArray, List.nil_append, List.cons_append]
    gi_wp2_with (first | (refine ⟨trivial, ?_⟩; gi_at_call 93; refine (callsIn_wide.2 (Lc.holds _ _ _ s _ h60 hs0 hs1)).mono ?_; rintro e w' ⟨rfl, rfl⟩; rw [HIN.out]) | (refine ⟨trivial, ?_⟩; gi_at_call 113; refine (callsIn_wide.2 (under _ _ _ _ _)).mono ?_; rintro e w' ⟨rfl, rfl⟩))
    have hB0 : Below w.heap.size w ((((w.alloc (.cells #[.int .i64 s] 56)).alloc (.cells #[.bool false] 4)).alloc (.cells #[.slice (some ⟨g, off, none⟩) L.length cap] 51)).alloc (.cells #[.int .i64 s] 56)) := (hB1.alloc (by simp; omega) _).alloc (by simp; omega) _
    have c2 := boxNew ((w.alloc (.cells #[.int .i64 s] 56)).alloc (.cells #[.bool false] 4)) (.slice (some ⟨g, off, none⟩) L.length cap) 51
    have c3 := boxNew (((w.alloc (.cells #[.int .i64 s] 56)).alloc (.cells #[.bool false] 4)).alloc (.cells #[.slice (some ⟨g, off, none⟩) L.length cap] 51)) (.int .i64 s) 56
    simp only [World.size_alloc] at c2 c3
    refine wpIn_rangeFunc_ownF rfl (by omega) (gf := 128) (lb := #[.pointer (some ⟨w.heap.size + 1 + 1 + 1, 0, none⟩), .pointer (some ⟨w.heap.size + 1 + 1, 0, none⟩)]) rfl trivial (enters_of Try.func128 (by kernel_rfl) rfl)
      (under_stops 2 (by omega) (w.heap.size + 1 + 1 + 1) (w.heap.size + 1 + 1) w.heap.size g off cap L hlc s hpar.1 hpar.2 hg _ (by simp) (by simp) c3.1 (boxCell _ c2.1) (hr.below hB0)) kpL_t (kpL_b (by simp; omega) (by simp)) (Below.refl _ _) (fun _ => rfl)
      (fun pre W => ((∀ y ∈ pre, bit s y.val = true) ∧ W.cell? ⟨w.heap.size, 0, none⟩ = some (.int .i64 s) ∧ W.cell? ⟨w.heap.size + 1, 0, none⟩ = some (.bool false) ∧ W.frozen? ⟨w.heap.size + 1, 0, none⟩ = false) ∧ Below w.heap.size w W)
      (fun c pre W => (c = .ret ∧ (∃ y ∈ pre, bit s y.val = false) ∧ W.cell? ⟨w.heap.size + 1, 0, none⟩ = some (.bool false)) ∧ Below w.heap.size w W)
      (OwnFrom.and (Own.from (fun s A B row hs hg hr => ⟨hs.1, cell_kept hs.2.1 hg hr, cell_kept hs.2.2.1 hg hr, (frozen_kept hs.2.2.1 hg hr).trans hs.2.2.2⟩) _) (ownFrom_below (Nat.le_refl _) (by simp; omega)))
      (fun c => OwnFrom.and (Own.from (fun s A B row hs hg hr => ⟨hs.1, hs.2.1, cell_kept hs.2.2 hg hr⟩) _) (ownFrom_below (Nat.le_refl _) (by simp; omega)))
      ⟨⟨by simp, boxCell _ (boxCell _ (boxCell _ a0.1)), boxCell _ (boxCell _ a1.1), boxFrozen _ (boxCell _ a1.1) (boxFrozen _ a1.1 a1.2)⟩, hB0⟩
      (fun x => { tmps := #[.slice (some ⟨g, off, none⟩) L.length cap, .int .i64 s, undef, .pointer (some ⟨w.heap.size, 0, none⟩), .pointer (some ⟨w.heap.size + 1, 0, none⟩), .int .i64 (x.val : Int), .slice (some ⟨g, off, none⟩) L.length cap, .int .i64 s, .bool true, .bool false, .slice (some ⟨g, off, none⟩) L.length cap, .int .i64 s, .func (.func 128) #[] #[.pointer (some ⟨w.heap.size + 1 + 1 + 1, 0, none⟩), .pointer (some ⟨w.heap.size + 1 + 1, 0, none⟩)], .int .i64 (x.val : Int), undef, undef, undef, undef], defers := [] }) ?assign ?body ?done ?stop
    case assign =>
      intro l x W K hK
      gi_wp2
      exact hK
    case body =>
      rintro l pre x W ⟨⟨hp, hcs, hcr, hfr⟩, hB⟩ _
      have hx := x.isLt
      have hin : Base.inB (x.val : Int) = true := (Base.inB_iff _).2 ⟨by omega, by omega⟩
      cases hb : bit s x.val
      · have HH : Hid ((Base.okB s && (Base.inB (x.val : Int) && bit s (x.val : Int).toNat)) = false) := by show _ = _; rw [Int.toNat_natCast, hb]; simp
        gi_wp2_with (refine ⟨trivial, ?_⟩; gi_at_call 72; refine (CallsIn.inRound l (callsIn_wide.2 (Base.has _ _ _))).mono ?_; rintro e w' ⟨rfl, rfl⟩; rw [HH.out])
        exact ⟨KeepsOthers.setCell _ _ _, ⟨rfl, ⟨x, List.mem_append.2 (.inr (by simp)), hb⟩, World.cell?_setCell_same' _ _ _ (by rw [hcr]; rfl)⟩, hB.setCell (p := ⟨w.heap.size + 1, 0, none⟩) (by simp) _⟩
      · have HH : Hid ((Base.okB s && (Base.inB (x.val : Int) && bit s (x.val : Int).toNat)) = true) := by show _ = _; rw [Int.toNat_natCast, hb, hin, hok]; rfl
        gi_wp2_with (refine ⟨trivial, ?_⟩; gi_at_call 72; refine (CallsIn.inRound l (callsIn_wide.2 (Base.has _ _ _))).mono ?_; rintro e w' ⟨rfl, rfl⟩; rw [HH.out])
        exact ⟨KeepsOthers.refl _, kpL_refl _ _ _, ⟨fun y hy => (List.mem_append.1 hy).elim (hp y) (fun e => by simp at e; subst e; exact hb), hcs, hcr, hfr⟩, hB⟩
    case done =>
      rintro D ys W hD rfl ⟨⟨hall, _, hcr, hfr⟩, hB⟩ hK
      have hcl := HVC.1 hall
      gi_wp2
      have hK' := (KeepsOthers.setCell W ⟨w.heap.size + 1, 0, none⟩ (.bool true)).same D _ hK rfl
      refine ⟨by simp, .inl ⟨_, _, rfl, run_takeDeferred hK', ?_⟩⟩
      have hc5 := cell_kept (World.cell?_setCell_same' W ⟨w.heap.size + 1, 0, none⟩ (.bool true) (by rw [hcr]; rfl)) (grownBy_putObj' _ D (.deferred none)) (fun r e => by cases e; exact ⟨_, hK', rfl⟩)
      refine ⟨.bool true, ?_, by rw [hcl]; rfl, (hB.setCell (p := ⟨w.heap.size + 1, 0, none⟩) (by simp) _).trans (belowK_b (w := w) (Nat.le_refl _) _ D _ _ (by simp at hD; omega) hK' rfl rfl)⟩
      simp [results, Try.f84, go_sem, hc5]
    case stop =>
      rintro D c pre W hD hpre ⟨⟨rfl, ⟨y, hy, hyb⟩, hcr⟩, hB⟩ hK
      have hcl : closedTo (belows L L.length) s L.length = false := by
        rw [Bool.eq_false_iff]
        intro hc
        have := HVC.2 hc y (vis_in hpre hy)
        rw [hyb] at this; exact Bool.noConfusion this
      gi_wp2
      refine ⟨by simp, .inl ⟨_, _, rfl, run_takeDeferred hK, ?_⟩⟩
      have hc5 := cell_kept hcr (grownBy_putObj' _ D (.deferred none)) (fun r e => by cases e; exact ⟨_, hK, rfl⟩)
      refine ⟨.bool false, ?_, by rw [hcl]; rfl, hB.trans (belowK_b (w := w) (Nat.le_refl _) W D _ _ (by simp at hD; omega) hK rfl rfl)⟩
      simp [results, Try.f84, go_sem, hc5]

set_option maxHeartbeats 2000000 in
theorem tips (g off cap : Nat) (L : List K) (s : Int) (w : World) (hlc : Lc.laceB L = true) (h0 : 0 ≤ s) (h1 : s < 1152921504606846976) (hcl : closedTo (belows L L.length) s L.length = true) (hg : g < w.heap.size) (hr : RdK w (some ⟨g, off, none⟩) L) :
    Calls Try.prog 85 #[.slice (some ⟨g, off, none⟩) L.length cap, .int .i64 s] w fun e w' => e = .returned (.int .i64 (tipsTo (belows L L.length) s L.length)) ∧ Below w.heap.size w w' := by
  have h60 := ((Lc.lace_iff L).1 hlc).1
  have HSV := strike_vis hlc s h0 h1 hcl
  refine (callsIn_wide (n := 3)).1 ?_
  refine callsIn_of_wp_marks Try.func85 rfl trivial ?_ rfl
  simp only [Try.ntmps85, List.size_toArray, List.length_cons, List.length_nil, Nat.reduceAdd, Nat.reduceSub, Array.replicate_succ, Array.replicate_zero, List.push_toArray, List.append_toArray, List.nil_append, List.cons_append]
  gi_wp2_with (refine ⟨trivial, ?_⟩; gi_at_call 113; refine (callsIn_wide.2 (under _ _ _ _ _)).mono ?_; rintro e w' ⟨rfl, rfl⟩)
  have hB0 : Below w.heap.size w ((((w.alloc (.cells #[.slice (some ⟨g, off, none⟩) L.length cap] 51)).alloc (.cells #[.int .i64 s] 56)).alloc (.cells #[.slice (some ⟨g, off, none⟩) L.length cap] 51)).alloc (.cells #[.int .i64 s] 56)) := ((((Below.refl _ w).alloc (Nat.le_refl _) _).alloc (by simp) _).alloc (by simp; omega) _).alloc (by simp; omega) _
  have a0 := boxNew w (.slice (some ⟨g, off, none⟩) L.length cap) 51
  have a1 := boxNew (w.alloc (.cells #[.slice (some ⟨g, off, none⟩) L.length cap] 51)) (.int .i64 s) 56
  have c2 := boxNew ((w.alloc (.cells #[.slice (some ⟨g, off, none⟩) L.length cap] 51)).alloc (.cells #[.int .i64 s] 56)) (.slice (some ⟨g, off, none⟩) L.length cap) 51
  have c3 := boxNew (((w.alloc (.cells #[.slice (some ⟨g, off, none⟩) L.length cap] 51)).alloc (.cells #[.int .i64 s] 56)).alloc (.cells #[.slice (some ⟨g, off, none⟩) L.length cap] 51)) (.int .i64 s) 56
  simp only [World.size_alloc] at a1 c2 c3
  refine wpIn_rangeFunc_ownF rfl (by omega) (gf := 128) (lb := #[.pointer (some ⟨w.heap.size + 1 + 1 + 1, 0, none⟩), .pointer (some ⟨w.heap.size + 1 + 1, 0, none⟩)]) rfl trivial (enters_of Try.func128 (by kernel_rfl) rfl)
    (under_stops 2 (by omega) (w.heap.size + 1 + 1 + 1) (w.heap.size + 1 + 1) w.heap.size g off cap L hlc s h0 h1 hg _ (by simp) (by simp) c3.1 (boxCell _ c2.1) (hr.below hB0)) kpL_t (kpL_b (by simp; omega) (by simp)) (Below.refl _ _) (fun _ => rfl)
    (fun pre W => (W.cell? ⟨w.heap.size, 0, none⟩ = some (.slice (some ⟨g, off, none⟩) L.length cap) ∧ W.cell? ⟨w.heap.size + 1, 0, none⟩ = some (.int .i64 (strike L s pre)) ∧ W.frozen? ⟨w.heap.size + 1, 0, none⟩ = false) ∧ Below w.heap.size w W)
    (fun _ _ _ => False)
    (OwnFrom.and (Own.from (fun s A B row hs hg hr => ⟨cell_kept hs.1 hg hr, cell_kept hs.2.1 hg hr, (frozen_kept hs.2.1 hg hr).trans hs.2.2⟩) _) (ownFrom_below (Nat.le_refl _) (by simp; omega)))
    (fun _ _ _ _ _ hs _ _ => hs)
    ⟨⟨boxCell _ (boxCell _ (boxCell _ a0.1)), boxCell _ (boxCell _ a1.1), boxFrozen _ (boxCell _ a1.1) (boxFrozen _ a1.1 a1.2)⟩, hB0⟩
    (fun x => { tmps := #[.slice (some ⟨g, off, none⟩) L.length cap, .int .i64 s, .pointer (some ⟨w.heap.size, 0, none⟩), undef, .int .i64 0, .pointer (some ⟨w.heap.size + 1, 0, none⟩), .int .i64 (x.val : Int), .int .i64 s, .slice (some ⟨g, off, none⟩) L.length cap, .int .i64 s, .func (.func 128) #[] #[.pointer (some ⟨w.heap.size + 1 + 1 + 1, 0, none⟩), .pointer (some ⟨w.heap.size + 1 + 1, 0, none⟩)], .int .i64 (x.val : Int), undef, undef, undef, undef, undef, undef, undef, undef], defers := [] }) ?assign ?body ?done ?stop
  case assign =>
    intro l x W K hK
    gi_wp2
    exact hK
  case body =>
    rintro l pre x W ⟨⟨hcl', hcu, hfu⟩, hB⟩ _
    have hx := x.isLt
    have hxi : (x.val : Int) < (L.length : Int) := by omega
    obtain ⟨_, hc⟩ := hr.on x.val hx
    obtain ⟨_, _, cf, _⟩ := hc.below hB hg
    have HS : Hid (strike L s (pre ++ [x]) = bits .andNot .i64 (strike L s pre) (at' L x.val).frm) := strike_snoc L s pre x
    have hmx : Try.prog.follows .mixedOrders = true := by kernel_rfl
    clear hc
    generalize (at' L x.val).frm = y at cf HS
    generalize hxv : x.val = xv at cf hx hxi ⊢
    gi_wp2
    gi_region_with_o fail
    all_goals gi_wp2
    all_goals (try go_bits)
    all_goals exact ⟨(KeepsOthers.setCell _ _ _).trans (KeepsOthers.drew _), kpL_drew (kpL_put W (w.heap.size + 1) (by omega) (by omega) _), ⟨(put_other W _ _ (by omega) _).trans hcl', by rw [HS.out]; exact World.cell?_setCell_same' _ _ _ (by rw [hcu]; rfl), by rw [frozen_drew_own, World.frozen?_setCell]; exact hfu⟩, (hB.setCell (p := ⟨w.heap.size + 1, 0, none⟩) (by simp) _).drew⟩
  case done =>
    rintro D ys W hD rfl ⟨⟨_, hcu, _⟩, hB⟩ hK
    rw [HSV] at hcu
    gi_wp2
    refine ⟨by simp, .inl ⟨_, _, rfl, run_takeDeferred hK, ?_⟩⟩
    exact ⟨_, results_tmp rfl _ _ _, rfl, hB.trans (belowK_b (w := w) (Nat.le_refl _) W D _ _ (by simp at hD; omega) hK rfl rfl)⟩
  case stop =>
    rintro D c pre W _ _ h _
    exact h.elim

/-- what the walk from a has met has b just where a sees b -/
theorem met_sees {L : List K} (hlc : Lc.laceB L = true) (a b : Int) : (Base.okB (metI L a) && (Base.inB b && bit (metI L a) b.toNat)) = seesB L a b := by
  have h60 := ((Lc.lace_iff L).1 hlc).1
  unfold seesB isB metI
  rw [hlc]
  by_cases ha : 0 ≤ a ∧ a < (L.length : Int)
  · obtain ⟨p, rfl⟩ := Int.eq_ofNat_of_zero_le ha.1
    have hp : p < L.length := by omega
    have hbd := bel_bd L p (by omega)
    rw [if_pos ha, Int.toNat_natCast, (Base.okB_iff _).2 hbd]
    by_cases hb : 0 ≤ b ∧ b < (L.length : Int)
    · rw [(Base.inB_iff b).2 ⟨hb.1, by omega⟩, decide_eq_true ha.1, decide_eq_true ha.2, decide_eq_true hb.1, decide_eq_true hb.2]; rfl
    · have e2 : (decide (0 ≤ b) && (decide (b < (L.length : Int)) && true)) = false := by
        rw [Bool.eq_false_iff]; intro h; simp at h; exact hb h
      rw [e2]
      simp only [Bool.false_and, Bool.and_false, Bool.true_and]
      rw [Bool.eq_false_iff]
      intro h
      rw [Bool.and_eq_true] at h
      have hb0 := (Base.inB_iff b).1 h.1
      have := reach_le hlc hp ((bel_reach hlc p hp b.toNat).1 h.2)
      exact hb ⟨hb0.1, by omega⟩
  · have e1 : (decide (0 ≤ a) && (decide (a < (L.length : Int)) && true)) = false := by
      rw [Bool.eq_false_iff]; intro h; simp at h; exact ha h
    rw [if_neg ha, e1, Lc.bit_zero]; simp

/-- a number that there is a knot for -/
theorem all_has {n : Nat} (hn : n ≤ 60) (k : Int) : (Base.okB (2 ^ n - 1) && (Base.inB k && bit (2 ^ n - 1) k.toNat)) = (decide (0 ≤ k) && decide (k < (n : Int))) := by
  have hp := Lc.pow60 n hn
  have hok : Base.okB (2 ^ n - 1) = true := (Base.okB_iff _).2 ⟨by omega, by omega⟩
  have hb : bit (2 ^ n - 1) k.toNat = decide (k.toNat < n) := by
    have e : ((2 : Int) ^ n - 1) = ((2 ^ n - 1 : Nat) : Int) := by rw [Int.ofNat_sub Nat.one_le_two_pow]; simp
    rw [Bit.bit_testBit _ (by omega), e, Int.toNat_natCast, Nat.testBit_two_pow_sub_one]
  rw [hok, hb, Bool.true_and, Bool.eq_iff_iff]
  simp only [Bool.and_eq_true, decide_eq_true_eq, Base.inB_iff]
  omega

set_option maxHeartbeats 800000 in
theorem sees (g off cap : Nat) (L : List K) (a b : Int) (w : World) (hlc : Lc.laceB L = true) (hg : g < w.heap.size) (hr : RdK w (some ⟨g, off, none⟩) L) :
    Calls Try.prog 78 #[.slice (some ⟨g, off, none⟩) L.length cap, .int .i64 a, .int .i64 b] w fun e w' => e = .returned (.bool (seesB L a b)) ∧ Below w.heap.size w w' := by
  have HT : Hid ((Base.okB (metI L a) && (Base.inB b && bit (metI L a) b.toNat)) = seesB L a b) := met_sees hlc a b
  go_enter Try.func78, Try.ntmps78
  go_wp2_with fail
  refine (below g off cap L a _ hlc hg hr).mono ?_
  rintro e w1 ⟨rfl, hb1⟩
  go_wp2_with (go_at_call 72; refine (Base.has _ _ _).mono ?_; rintro e w' ⟨rfl, rfl⟩; rw [HT.out])
  go_ret
  exact ⟨rfl, hb1⟩

set_option maxHeartbeats 1600000 in
theorem implBelow (g off cap : Nat) (L : List K) (k : Int) (w : World) (hlen : L.length ≤ 1099511627776) (hw : Lc.WordsOk L) (hr : RdK w (some ⟨g, off, none⟩) L) :
    Calls Try.prog 26 #[.slice (some ⟨g, off, none⟩) L.length cap, .int .i64 k] w fun e w' => e = .returned (.int .i64 (belowI L k)) ∧ Below w.heap.size w w' := by
  have HLF : Hid (∀ W : World, RdK W (some ⟨g, off, none⟩) L → Calls Try.prog 53 #[.slice (some ⟨g, off, none⟩) L.length cap] W (Lc.LacePost L W)) := fun W h => Lc.laceOf g off cap L W hlen hw h
  go_enter Try.func26, Try.ntmps26
  go_wp2_with (first | (go_at_call 74; go_in) | fail)
  refine (HLF.out _ hr).mono ?_
  rintro e w1 (⟨hl, g', rfl, hg', hrg, hb1⟩ | ⟨hl, rfl, hb1⟩)
  · have h60 := ((Lc.lace_iff L).1 hl).1
    have HA : Hid ((Base.okB (2 ^ L.length - 1) && (Base.inB k && bit (2 ^ L.length - 1) k.toNat)) = (decide (0 ≤ k) && decide (k < (L.length : Int)))) := all_has h60 k
    have HS : Hid (isB L k = (decide (0 ≤ k) && decide (k < (L.length : Int)))) := by show _ = _; unfold isB; rw [hl]; simp
    have HLC : Hid (Lc.laceB L = true) := hl
    clear hl HLF
    go_wp2_with fail
    refine (Lc.all _ _ _ _ h60).mono ?_
    rintro e w1' ⟨rfl, rfl⟩
    cases hin : (decide (0 ≤ k) && decide (k < (L.length : Int)))
    · have HT : Hid (belowI L k = -1) := by show _ = _; unfold belowI; rw [HS.out, hin]; rfl
      have HF : Hid ((Base.okB (2 ^ L.length - 1) && (Base.inB k && bit (2 ^ L.length - 1) k.toNat)) = false) := HA.out.trans hin
      clear hin HS HA
      go_wp2_with (first | (go_at_call 72; refine (Base.has _ _ _).mono ?_; rintro e w' ⟨rfl, rfl⟩; rw [HF.out]) | fail)
      go_ret
      exact ⟨by rw [HT.out]; rfl, hb1⟩
    · have hk : 0 ≤ k ∧ k < (L.length : Int) := by simpa using hin
      have HT : Hid (belowI L k = metI L k) := by show _ = _; unfold belowI metI; rw [HS.out, hin, if_pos hk]; rfl
      have HF : Hid ((Base.okB (2 ^ L.length - 1) && (Base.inB k && bit (2 ^ L.length - 1) k.toNat)) = true) := HA.out.trans hin
      clear hin HS HA hk
      go_wp2_with (first | (go_at_call 72; refine (Base.has _ _ _).mono ?_; rintro e w' ⟨rfl, rfl⟩; rw [HF.out]) | fail)
      refine (below g' 0 L.length L k _ HLC.out hg' hrg).mono ?_
      rintro e w2 ⟨rfl, hb2⟩
      have B2 := hb1.trans (hb2.mono hb1.size)
      clear hb1 hb2 hrg hg'
      go_wp2
      go_ret
      exact ⟨by rw [HT.out]; rfl, B2⟩
  · have HT : Hid (belowI L k = -1) := by show _ = _; unfold belowI isB; rw [hl]; simp
    clear hl HLF
    go_wp2
    go_ret
    exact ⟨by rw [HT.out]; rfl, hb1⟩

set_option maxHeartbeats 800000 in
theorem implSees (g off cap : Nat) (L : List K) (a b : Int) (w : World) (hlen : L.length ≤ 1099511627776) (hw : Lc.WordsOk L) (hr : RdK w (some ⟨g, off, none⟩) L) :
    Calls Try.prog 29 #[.slice (some ⟨g, off, none⟩) L.length cap, .int .i64 a, .int .i64 b] w fun e w' => e = .returned (.bool (seesB L a b)) ∧ Below w.heap.size w w' := by
  go_enter Try.func29, Try.ntmps29
  go_wp2_with fail
  refine (Lc.laceOf g off cap L _ hlen hw hr).mono ?_
  rintro e w1 (⟨hl, g', rfl, hg', hrg, hb1⟩ | ⟨hl, rfl, hb1⟩)
  · have HLC : Hid (Lc.laceB L = true) := hl
    clear hl
    go_wp2_with fail
    refine (sees g' 0 L.length L a b _ HLC.out hg' hrg).mono ?_
    rintro e w2 ⟨rfl, hb2⟩
    have B2 := hb1.trans (hb2.mono hb1.size)
    clear hb1 hb2 hrg hg'
    go_wp2
    go_ret
    exact ⟨rfl, B2⟩
  · have HT : Hid (seesB L a b = false) := by show _ = _; unfold seesB isB; rw [hl]; simp
    clear hl
    go_wp2
    go_ret
    exact ⟨by rw [HT.out]; rfl, hb1⟩

theorem closedB_eq (L : List K) (s : Int) (hl : Lc.laceB L = true) : (Lc.inL L.length s && closedTo (belows L L.length) s L.length) = closedB L s := by
  unfold closedB; rw [Lc.setB_eq, hl]; rfl

set_option maxHeartbeats 800000 in
theorem implClosed (g off cap : Nat) (L : List K) (s : Int) (w : World) (hlen : L.length ≤ 1099511627776) (hw : Lc.WordsOk L) (h0 : -9223372036854775808 ≤ s) (h1 : s ≤ 9223372036854775807) (hr : RdK w (some ⟨g, off, none⟩) L) :
    Calls Try.prog 34 #[.slice (some ⟨g, off, none⟩) L.length cap, .int .i64 s] w fun e w' => e = .returned (.bool (closedB L s)) ∧ Below w.heap.size w w' := by
  go_enter Try.func34, Try.ntmps34
  go_wp2_with fail
  refine (Lc.laceOf g off cap L _ hlen hw hr).mono ?_
  rintro e w1 (⟨hl, g', rfl, hg', hrg, hb1⟩ | ⟨hl, rfl, hb1⟩)
  · have HLC : Hid (Lc.laceB L = true) := hl
    clear hl
    go_wp2_with fail
    refine (closed g' 0 L.length L s _ HLC.out h0 h1 hg' hrg).mono ?_
    rintro e w2 ⟨rfl, hb2⟩
    rw [closedB_eq L s HLC.out]
    have B2 := hb1.trans (hb2.mono hb1.size)
    clear hb1 hb2 hrg hg'
    go_wp2
    go_ret
    exact ⟨rfl, B2⟩
  · have HT : Hid (closedB L s = false) := by show _ = _; unfold closedB; rw [Lc.setB_eq, hl]; rfl
    clear hl
    go_wp2
    go_ret
    exact ⟨by rw [HT.out]; rfl, hb1⟩

set_option maxHeartbeats 800000 in
theorem implTips (g off cap : Nat) (L : List K) (s : Int) (w : World) (hlen : L.length ≤ 1099511627776) (hw : Lc.WordsOk L) (h0 : -9223372036854775808 ≤ s) (h1 : s ≤ 9223372036854775807) (hr : RdK w (some ⟨g, off, none⟩) L) :
    Calls Try.prog 35 #[.slice (some ⟨g, off, none⟩) L.length cap, .int .i64 s] w fun e w' => e = .returned (.int .i64 (tipsI L s)) ∧ Below w.heap.size w w' := by
  go_enter Try.func35, Try.ntmps35
  go_wp2_with fail
  refine (Lc.laceOf g off cap L _ hlen hw hr).mono ?_
  rintro e w1 (⟨hl, g', rfl, hg', hrg, hb1⟩ | ⟨hl, rfl, hb1⟩)
  · have HLC : Hid (Lc.laceB L = true) := hl
    clear hl
    go_wp2_with fail
    refine (closed g' 0 L.length L s _ HLC.out h0 h1 hg' hrg).mono ?_
    rintro e w2 ⟨rfl, hb2⟩
    rw [closedB_eq L s HLC.out]
    have B2 := hb1.trans (hb2.mono hb1.size)
    have hrg2 := hrg.below hb2
    have hg2 : g' < w2.heap.size := Nat.lt_of_lt_of_le hg' hb2.size
    clear hb1 hb2 hrg hg'
    cases hc : closedB L s
    · have HT : Hid (tipsI L s = -1) := by show _ = _; unfold tipsI; rw [hc]; rfl
      clear hc
      go_wp2
      go_ret
      exact ⟨by rw [HT.out]; rfl, B2⟩
    · have HT : Hid (tipsI L s = tipsTo (belows L L.length) s L.length) := by show _ = _; unfold tipsI; rw [hc]; rfl
      have hq : Lc.setB L s = true ∧ closedTo (belows L L.length) s L.length = true := by unfold closedB at hc; rw [Bool.and_eq_true] at hc; exact hc
      obtain ⟨_, q0, q1, _, _, _⟩ := Lc.setB_parts hq.1
      have HC : Hid (closedTo (belows L L.length) s L.length = true) := hq.2
      clear hc hq
      go_wp2_with fail
      refine (tips g' 0 L.length L s _ HLC.out q0 q1 HC.out hg2 hrg2).mono ?_
      rintro e w3 ⟨rfl, hb3⟩
      have B3 := B2.trans (hb3.mono B2.size)
      clear hb3 B2 hrg2 hg2
      go_wp2
      go_ret
      exact ⟨by rw [HT.out]; rfl, B3⟩
  · have HT : Hid (tipsI L s = -1) := by show _ = _; unfold tipsI closedB; rw [Lc.setB_eq, hl]; rfl
    clear hl
    go_wp2
    go_ret
    exact ⟨by rw [HT.out]; rfl, hb1⟩

end Sg
end Go.Proofs.Ytdcjjopeobnpgaa

namespace Go.Proofs.Ytdcjjopeobnpgaa
open Go.RowKit
set_option maxRecDepth 100000
namespace Rm
open Kn (K okK)
open Bit (bit memTo)
open Lc (at' RdK laceB flat OwnK cellsOf setB)
open Sg (bel belows orB closedB tipsI tipsTo closedTo seesB belowI isB)
open Cur (At)

theorem code_below2 {w w' : World} {a : Option Addr} {len : Nat} (h : Cur.Code w a len) (hb : Below w.heap.size w w') : Cur.Code w' a len := by
  rcases h with h | ⟨b, off, ha, hlt, hc⟩
  · exact .inl h
  · refine .inr ⟨b, off, ha, Nat.lt_of_lt_of_le hlt hb.size, fun j hj => ?_⟩
    obtain ⟨z, hz, hz'⟩ := hc j hj
    exact ⟨z, (hb.cell (p := ⟨b, off + j, none⟩) hlt).trans hz, hz'⟩

/-- a list that lies there -/
structure LiesS (w : World) (g : Nat) (L : List K) : Prop where
  rd : RdK w (some ⟨g, 0, none⟩) L
  len : L.length ≤ 61
  words : Lc.WordsOk L

theorem LiesS.below {w w' : World} {g : Nat} {L : List K} (h : LiesS w g L) (hb : Below w.heap.size w w') : LiesS w' g L := ⟨h.rd.below hb, h.len, h.words⟩

theorem drawn_liesS {B : Nat} {w w' : World} {v : Value} {L : List K} (h : Drawn B w w' v L) : ∃ g cp, v = .slice (some ⟨g, 0, none⟩) L.length cp ∧ L.length ≤ cp ∧ LiesS w' g L := by
  obtain ⟨g, cp, rfl, hcp, _, _, _, hrd, _⟩ := Lc.ownK_shape h.own
  exact ⟨g, cp, rfl, hcp, hrd, h.len, fun k hk => by have := h.word k hk; omega⟩

/-- all that hangs below those -/
def accT (L : List K) (l : List Int) : Int := l.foldl (fun a x => orB a (bel L x.toNat)) 0
theorem accT_snoc (L : List K) (l : List Int) (x : Int) : accT L (l ++ [x]) = orB (accT L l) (bel L x.toNat) := by simp [accT]

theorem accT_fold (L : List K) (l : List Int) (hl : ∀ x ∈ l, x.toNat < 60) : ∀ f : Int, 0 ≤ f → f < 1152921504606846976 →
    (0 ≤ l.foldl (fun a x => orB a (bel L x.toNat)) f ∧ l.foldl (fun a x => orB a (bel L x.toNat)) f < 1152921504606846976) ∧ ∀ j, bit (l.foldl (fun a x => orB a (bel L x.toNat)) f) j = (bit f j || l.any (fun x => bit (bel L x.toNat) j)) := by
  induction l with
  | nil => intro f h0 h1; exact ⟨⟨h0, h1⟩, fun j => by simp⟩
  | cons x l ih =>
    intro f h0 h1
    have hb := Sg.bel_bd L x.toNat (hl x (List.mem_cons_self ..))
    have ho := Sg.orB_bd f (bel L x.toNat) h0 h1 hb.1 hb.2
    have r := ih (fun y hy => hl y (List.mem_cons_of_mem _ hy)) (orB f (bel L x.toNat)) ho.1 ho.2
    refine ⟨r.1, fun j => ?_⟩
    show bit (l.foldl (fun a x => orB a (bel L x.toNat)) (orB f (bel L x.toNat))) j = _
    rw [r.2 j, Sg.bit_orB _ _ h0 hb.1, List.any_cons, Bool.or_assoc]

theorem accT_bd (L : List K) (l : List Int) (hl : ∀ x ∈ l, x.toNat < 60) : 0 ≤ accT L l ∧ accT L l < 1152921504606846976 := (accT_fold L l hl 0 (by omega) (by omega)).1
theorem bit_accT (L : List K) (l : List Int) (hl : ∀ x ∈ l, x.toNat < 60) (j : Nat) : bit (accT L l) j = l.any (fun x => bit (bel L x.toNat) j) := by
  rw [show accT L l = l.foldl (fun a x => orB a (bel L x.toNat)) 0 from rfl, (accT_fold L l hl 0 (by omega) (by omega)).2 j, Lc.bit_zero]; rfl

/-- what the law knows of a closed set -/
structure ClosedIs (L : List K) (s : Int) : Prop where
  lace : laceB L = true
  s0 : 0 ≤ s
  s1 : s < 1152921504606846976
  top : s / 2 ^ L.length = 0
  cl : closedTo (belows L L.length) s L.length = true

theorem closedIs {L : List K} {s : Int} (h : closedB L s = true) : ClosedIs L s := by
  unfold Sg.closedB at h
  rw [Bool.and_eq_true] at h
  obtain ⟨hl, h0, h1, ht, _, _⟩ := Lc.setB_parts h.1
  exact ⟨hl, h0, h1, ht, h.2⟩

theorem in_len {L : List K} {s : Int} (h : ClosedIs L s) {j : Nat} (hj : bit s j = true) : j < L.length := by
  apply Classical.byContradiction
  intro hn
  rw [Lc.bit_hi s L.length h.s0 h.top j (by omega)] at hj
  exact Bool.noConfusion hj

theorem tips_iff {L : List K} {s : Int} (h : ClosedIs L s) (j : Nat) : bit (tipsTo (belows L L.length) s L.length) j = true ↔ bit s j = true ∧ ∀ i, i < L.length → bit s i = true → j ≠ i → bit (bel L i) j = false :=
  Sg.bit_tips L s L.length L.length (Nat.le_refl _) ((Lc.lace_iff L).1 h.lace).1 h.s0 h.s1 j

/-- each one of the set hangs below a tip -/
theorem below_tip {L : List K} {s : Int} (h : ClosedIs L s) : ∀ (d i j : Nat), L.length - i = d → bit s i = true → bit (bel L i) j = true → ∃ x, bit (tipsTo (belows L L.length) s L.length) x = true ∧ bit (bel L x) j = true := by
  intro d
  induction d using Nat.strongRecOn with
  | _ d ih =>
    intro i j hd hi hb
    have hil := in_len h hi
    by_cases ht : bit (tipsTo (belows L L.length) s L.length) i = true
    · exact ⟨i, ht, hb⟩
    · have : ∃ i', i' < L.length ∧ bit s i' = true ∧ i ≠ i' ∧ bit (bel L i') i = true := by
        apply Classical.byContradiction
        intro hn
        refine ht ((tips_iff h i).2 ⟨hi, fun i' h1 h2 h3 => ?_⟩)
        cases hq : bit (bel L i') i
        · rfl
        · exact absurd ⟨i', h1, h2, h3, hq⟩ hn
      obtain ⟨i', h1, h2, h3, h4⟩ := this
      have hle := Sg.reach_le h.lace h1 ((Sg.bel_reach h.lace i' h1 i).1 h4)
      exact ih (L.length - i') (by omega) i' j rfl h2 (Sg.bel_trans h.lace h1 h4 hb)

theorem tips_mem {L : List K} {s : Int} (h : ClosedIs L s) {x : Int} (hx : x ∈ Memb.memI (tipsTo (belows L L.length) s L.length)) : ∃ j : Nat, x = (j : Int) ∧ j < L.length ∧ bit s j = true ∧ bit (tipsTo (belows L L.length) s L.length) j = true := by
  have hb := Sg.tipsTo_bd (belows L L.length) s L.length h.s0 h.s1
  unfold Memb.memI at hx
  rw [(Base.okB_iff _).2 hb, if_pos rfl, Bit.mem_memTo] at hx
  obtain ⟨j, _, rfl, hj⟩ := hx
  have hs := ((tips_iff h j).1 hj).1
  exact ⟨j, rfl, in_len h hs, hs, hj⟩

theorem all_tips {L : List K} {s : Int} (h : ClosedIs L s) : accT L (Memb.memI (tipsTo (belows L L.length) s L.length)) = s := by
  have h60 := ((Lc.lace_iff L).1 h.lace).1
  have hb := Sg.tipsTo_bd (belows L L.length) s L.length h.s0 h.s1
  have hl : ∀ x ∈ Memb.memI (tipsTo (belows L L.length) s L.length), x.toNat < 60 := fun x hx => by
    obtain ⟨j, rfl, hj, _⟩ := tips_mem h hx
    rw [Int.toNat_natCast]; omega
  refine Lc.eq_of_bits _ _ (accT_bd L _ hl).1 h.s0 fun j => ?_
  rw [bit_accT L _ hl, Bool.eq_iff_iff, List.any_eq_true]
  constructor
  · rintro ⟨x, hx, hxb⟩
    obtain ⟨i, rfl, hi, hs, _⟩ := tips_mem h hx
    rw [Int.toNat_natCast] at hxb
    exact (Sg.closed_iff L s L.length h60 h.s0 h.s1).1 h.cl i hi hs j hxb
  · intro hj
    have hjl := in_len h hj
    obtain ⟨x, hx, hxb⟩ := below_tip h _ j j rfl hj ((Sg.bel_reach h.lace j hjl j).2 (.self _))
    refine ⟨(x : Int), ?_, by rw [Int.toNat_natCast]; exact hxb⟩
    have hxs := ((tips_iff h x).1 hx).1
    have hxl := in_len h hxs
    unfold Memb.memI
    rw [(Base.okB_iff _).2 hb, if_pos rfl, Bit.mem_memTo]
    exact ⟨x, by omega, rfl, hx⟩

theorem tips_apart {L : List K} {s : Int} (h : ClosedIs L s) {x y : Int} (hx : x ∈ Memb.memI (tipsTo (belows L L.length) s L.length)) (hy : y ∈ Memb.memI (tipsTo (belows L L.length) s L.length)) (hne : x ≠ y) : seesB L x y = false := by
  obtain ⟨i, rfl, hi, hsi, _⟩ := tips_mem h hx
  obtain ⟨j, rfl, hj, _, htj⟩ := tips_mem h hy
  unfold Sg.seesB
  rw [Int.toNat_natCast, Int.toNat_natCast, ((tips_iff h j).1 htj).2 i hi hsi (by omega)]
  simp

theorem below_tips {L : List K} {s : Int} (h : ClosedIs L s) {x : Int} (hx : x ∈ Memb.memI (tipsTo (belows L L.length) s L.length)) : belowI L x = bel L x.toNat ∧ x.toNat < 60 := by
  have h60 := ((Lc.lace_iff L).1 h.lace).1
  obtain ⟨i, rfl, hi, _⟩ := tips_mem h hx
  refine ⟨?_, by rw [Int.toNat_natCast]; omega⟩
  unfold Sg.belowI
  have : isB L (i : Int) = true := by unfold Sg.isB; rw [h.lace]; simp; omega
  rw [this]; rfl

theorem rise_distinct (s : Int) (i j : Nat) (hi : i < (Memb.memI s).length) (hj : j < (Memb.memI s).length) (hne : i ≠ j) : (Memb.memI s).getD i 0 ≠ (Memb.memI s).getD j 0 := by
  have key : ∀ (l : List Int), l.Pairwise (· < ·) → ∀ i j, i < j → i < l.length → j < l.length → l.getD i 0 < l.getD j 0 := by
    intro l hl i j hij h1 h2
    have := List.pairwise_iff_getElem.1 hl i j h1 h2 hij
    simpa [h1, h2] using this
  have hp : (Memb.memI s).Pairwise (· < ·) := by
    unfold Memb.memI
    split
    · have : ∀ k, (memTo s k).Pairwise (· < ·) := by
        intro k
        induction k with
        | zero => exact List.Pairwise.nil
        | succ k ih =>
          rw [Bit.memTo_succ]
          refine List.pairwise_append.2 ⟨ih, ?_, ?_⟩
          · split
            · exact List.pairwise_singleton _ _
            · exact List.Pairwise.nil
          · intro x hx y hy
            obtain ⟨j, hj, rfl, _⟩ := (Bit.mem_memTo s k x).1 hx
            split at hy
            · simp at hy; omega
            · cases hy
      exact this 60
    · exact List.Pairwise.nil
  rcases Nat.lt_or_gt_of_ne hne with h | h
  · have := key _ hp i j h hi hj; omega
  · have := key _ hp j i h hj hi; omega

end Rm
end Go.Proofs.Ytdcjjopeobnpgaa

namespace Go.Proofs.Ytdcjjopeobnpgaa
open Go.RowKit
set_option maxRecDepth 100000
namespace Rm
open Kn (K okK)
open Bit (bit memTo withB)
open Lc (at' RdK laceB setB)
open Sg (bel belows orB closedB tipsI tipsTo closedTo seesB belowI isB)

theorem isB_iff {L : List K} (hl : laceB L = true) (k : Int) : isB L k = true ↔ 0 ≤ k ∧ k < (L.length : Int) := by
  unfold Sg.isB; rw [hl]; simp

theorem sees_iff {L : List K} {x y : Int} (h : seesB L x y = true) : laceB L = true ∧ ∃ i j : Nat, x = (i : Int) ∧ y = (j : Int) ∧ i < L.length ∧ j < L.length ∧ bit (bel L i) j = true := by
  unfold Sg.seesB at h
  simp only [Bool.and_eq_true] at h
  obtain ⟨hx, hy, hb⟩ := h
  obtain ⟨a0, a1, hl⟩ := Sg.isB_parts hx
  obtain ⟨b0, b1, _⟩ := Sg.isB_parts hy
  obtain ⟨i, rfl⟩ := Int.eq_ofNat_of_zero_le a0
  obtain ⟨j, rfl⟩ := Int.eq_ofNat_of_zero_le b0
  rw [Int.toNat_natCast, Int.toNat_natCast] at hb
  exact ⟨hl, i, j, rfl, rfl, by omega, by omega, hb⟩

theorem below_at {L : List K} (hl : laceB L = true) (i : Nat) (hi : i < L.length) : belowI L (i : Int) = bel L i := by
  unfold Sg.belowI
  rw [(isB_iff hl (i : Int)).2 ⟨by omega, by omega⟩, Int.toNat_natCast]; rfl

theorem sees_sub {L : List K} {x y : Int} (h : seesB L x y = true) : bits .andNot .i64 (belowI L y) (belowI L x) = 0 := by
  obtain ⟨hl, i, j, rfl, rfl, hi, hj, hb⟩ := sees_iff h
  have h60 := ((Lc.lace_iff L).1 hl).1
  have b1 := Sg.bel_bd L i (by omega)
  have b2 := Sg.bel_bd L j (by omega)
  rw [below_at hl i hi, below_at hl j hj]
  have := (Sg.andNot_sub (bel L j) (bel L i) b2.1 (by omega) b1.1 (by omega)).2 (fun z hz => Sg.bel_trans hl hi hb hz)
  simpa using this

theorem sees_anti {L : List K} {x y : Int} (h : seesB L x y = true) (hne : x ≠ y) : seesB L y x = false := by
  obtain ⟨hl, i, j, rfl, rfl, hi, hj, hb⟩ := sees_iff h
  rw [Bool.eq_false_iff]
  intro h2
  obtain ⟨_, j', i', e1, e2, _, _, hb2⟩ := sees_iff h2
  have ej : j = j' := by omega
  have ei : i = i' := by omega
  subst ej ei
  have r1 := Sg.reach_le hl hi ((Sg.bel_reach hl i hi j).1 hb)
  have r2 := Sg.reach_le hl hj ((Sg.bel_reach hl j hj i).1 hb2)
  omega

theorem thread_round {L : List K} (hl : laceB L = true) {i m : Nat} (hi : i < L.length) (hb : bit (at' L i).frm m = true) : (at' L m).round < (at' L i).round := by
  have hm := Sg.thread_lt hl hi hb
  have hc := Lc.lace_upTo hl i hi
  simp only [Lc.canB, Bool.and_eq_true] at hc
  have hle := (Lc.lesser_iff (L.take i) (at' L i).frm (at' L i).round (L.take i).length).1 hc.2.2.1 m (by simp; omega) hb
  rwa [Lc.at_take L i m hm] at hle

theorem reach_round {L : List K} (hl : laceB L = true) {i j : Nat} (hi : i < L.length) (h : Sg.Reach L i j) : j = i ∨ (at' L j).round < (at' L i).round := by
  induction h with
  | self => exact .inl rfl
  | @step i m j hb hr ih =>
    have hm := Sg.thread_lt hl hi hb
    have hr1 := thread_round hl hi hb
    rcases ih (by omega) with rfl | h
    · exact .inr hr1
    · exact .inr (by omega)

theorem below_round {L : List K} (hl : laceB L = true) {i j : Nat} (hi : i < L.length) (h : bit (bel L i) j = true) (hne : j ≠ i) : (at' L j).round < (at' L i).round := by
  rcases reach_round hl hi ((Sg.bel_reach hl i hi j).1 h) with e | e
  · exact absurd e hne
  · exact e

/-- the one, and all below what it hangs on -/
def wantT (L : List K) (p : Nat) (l : List Int) : Int := l.foldl (fun a x => orB a (bel L x.toNat)) (2 ^ p)
theorem wantT_snoc (L : List K) (p : Nat) (l : List Int) (x : Int) : wantT L p (l ++ [x]) = orB (wantT L p l) (bel L x.toNat) := by simp [wantT]
theorem wantT_bd (L : List K) (p : Nat) (hp : p < 60) (l : List Int) (hl : ∀ x ∈ l, x.toNat < 60) : 0 ≤ wantT L p l ∧ wantT L p l < 1152921504606846976 := by
  have hb := Base.pow_bd p hp
  exact (accT_fold L l hl (2 ^ p) (by omega) hb.2).1

theorem frm_mem {L : List K} (hl : laceB L = true) {p : Nat} (hp : p < L.length) {x : Int} (hx : x ∈ Memb.memI (at' L p).frm) : ∃ m : Nat, x = (m : Int) ∧ m < p ∧ bit (at' L p).frm m = true := by
  have hf := Sg.frm_lace hl _ (Lc.at_mem L p hp)
  unfold Memb.memI at hx
  rw [(Base.okB_iff _).2 hf, if_pos rfl, Bit.mem_memTo] at hx
  obtain ⟨m, _, rfl, hb⟩ := hx
  exact ⟨m, rfl, Sg.thread_lt hl hp hb, hb⟩

theorem want_eq {L : List K} (hl : laceB L = true) {p : Nat} (hp : p < L.length) : wantT L p (Memb.memI (at' L p).frm) = bel L p := by
  have h60 := ((Lc.lace_iff L).1 hl).1
  have hf := Sg.frm_lace hl _ (Lc.at_mem L p hp)
  have hb := Base.pow_bd p (by omega)
  have hlt : ∀ x ∈ Memb.memI (at' L p).frm, x.toNat < 60 := fun x hx => by
    obtain ⟨m, rfl, hm, _⟩ := frm_mem hl hp hx
    rw [Int.toNat_natCast]; omega
  have hbl := Sg.bel_bd L p (by omega)
  refine Lc.eq_of_bits _ _ (wantT_bd L p (by omega) _ hlt).1 hbl.1 fun j => ?_
  show bit ((Memb.memI (at' L p).frm).foldl (fun a x => orB a (bel L x.toNat)) (2 ^ p)) j = _
  rw [(accT_fold L _ hlt (2 ^ p) (by omega) hb.2).2 j, Bool.eq_iff_iff, Bool.or_eq_true, Sg.bit_pow, decide_eq_true_eq, Sg.bit_bel L p (by omega) j, List.any_eq_true]
  constructor
  · rintro (h | ⟨x, hx, hxb⟩)
    · exact .inl h
    · obtain ⟨m, rfl, hm, hfm⟩ := frm_mem hl hp hx
      rw [Int.toNat_natCast] at hxb
      exact .inr ⟨m, hm, hfm, hxb⟩
  · rintro (h | ⟨m, hm, hfm, hxb⟩)
    · exact .inl h
    · refine .inr ⟨(m : Int), ?_, by rw [Int.toNat_natCast]; exact hxb⟩
      unfold Memb.memI
      rw [(Base.okB_iff _).2 hf, if_pos rfl, Bit.mem_memTo]
      exact ⟨m, by omega, rfl, hfm⟩

theorem frm_below {L : List K} (hl : laceB L = true) {p : Nat} (hp : p < L.length) {x : Int} (hx : x ∈ Memb.memI (at' L p).frm) : belowI L x = bel L x.toNat ∧ x.toNat < 60 := by
  have h60 := ((Lc.lace_iff L).1 hl).1
  obtain ⟨m, rfl, hm, _⟩ := frm_mem hl hp hx
  exact ⟨by rw [below_at hl m (by omega), Int.toNat_natCast], by rw [Int.toNat_natCast]; omega⟩

theorem bel_closed {L : List K} (hl : laceB L = true) {p : Nat} (hp : p < L.length) : closedB L (bel L p) = true := by
  have h60 := ((Lc.lace_iff L).1 hl).1
  have hb := Sg.bel_bd L p (by omega)
  unfold Sg.closedB
  rw [Lc.setB_eq, hl, Bool.true_and, Bool.and_eq_true]
  constructor
  · unfold Lc.inL
    rw [Lc.div_of_bits (bel L p) L.length hb.1 (fun i hi => by
      rw [Bool.eq_false_iff]; intro h
      have := Sg.reach_le hl hp ((Sg.bel_reach hl p hp i).1 h); omega)]
    simp; exact hb.1
  · exact (Sg.closed_iff L (bel L p) L.length h60 hb.1 hb.2).2 (fun i hi hbi j hj => Sg.bel_trans hl hp hbi hj)

theorem bel_tips {L : List K} (hl : laceB L = true) {p : Nat} (hp : p < L.length) : tipsI L (bel L p) = 2 ^ p := by
  have h60 := ((Lc.lace_iff L).1 hl).1
  have hc := bel_closed hl hp
  have hI := closedIs hc
  have hb := Base.pow_bd p (by omega)
  unfold Sg.tipsI
  rw [hc, if_pos rfl]
  refine Lc.eq_of_bits _ _ (Sg.tipsTo_bd _ _ _ hI.s0 hI.s1).1 (by omega) fun j => ?_
  rw [Bool.eq_iff_iff, tips_iff hI j, Sg.bit_pow, decide_eq_true_eq]
  have hself : bit (bel L p) p = true := (Sg.bel_reach hl p hp p).2 (.self _)
  constructor
  · rintro ⟨h1, h2⟩
    apply Classical.byContradiction
    intro hne
    have := h2 p hp hself hne
    rw [h1] at this; exact Bool.noConfusion this
  · rintro rfl
    refine ⟨hself, fun i hi hbi hne => ?_⟩
    rw [Bool.eq_false_iff]; intro h
    have r1 := Sg.reach_le hl hi ((Sg.bel_reach hl i hi j).1 h)
    have r2 := Sg.reach_le hl hp ((Sg.bel_reach hl j hp i).1 hbi)
    omega

/-- what InSet answers -/
def inJ (s i : Int) : Bool := Base.okB s && (Base.inB i && bit s i.toNat)
theorem inJ_at {s : Int} (h0 : 0 ≤ s) (h1 : s < 1152921504606846976) (i : Nat) (hi : i < 60) : inJ s (i : Int) = bit s i := by
  unfold inJ
  rw [(Base.okB_iff _).2 ⟨h0, h1⟩, (Base.inB_iff _).2 ⟨by omega, by omega⟩, Int.toNat_natCast]; rfl
theorem sees_at {L : List K} (hl : laceB L = true) {p i : Nat} (hp : p < L.length) (hi : i < L.length) : seesB L (p : Int) (i : Int) = bit (bel L p) i := by
  unfold Sg.seesB
  rw [(isB_iff hl (p : Int)).2 ⟨by omega, by omega⟩, (isB_iff hl (i : Int)).2 ⟨by omega, by omega⟩, Int.toNat_natCast, Int.toNat_natCast]; rfl

end Rm
end Go.Proofs.Ytdcjjopeobnpgaa

namespace Go.Proofs.Ytdcjjopeobnpgaa
open Go.RowKit
set_option maxRecDepth 100000
namespace Rm
open Kn (K okK)
open Bit (bit memTo)
open Lc (at' RdK laceB flat OwnK cellsOf setB)
open Sg (bel belows orB closedB tipsI tipsTo closedTo seesB belowI isB)
open Cur (At)

theorem take_get2 (l : List Int) (i : Nat) (hi : i < l.length) : l.take (i + 1) = l.take i ++ [l.getD i 0] := by
  rw [List.take_succ_eq_append_getElem hi]; simp [hi]
theorem getD_mem2 (l : List Int) (i : Nat) (hi : i < l.length) : l.getD i 0 ∈ l := by simp [hi]
theorem withI_zero (k : Int) (p : Nat) (hk : k = (p : Int)) (hp : p < 60) : Base.withI 0 k = 2 ^ p := by
  rw [Sg.with_one]; unfold Sg.oneI
  rw [if_pos ⟨by omega, by omega⟩, hk, Int.toNat_natCast]
theorem specInJ (s i : Int) (w : World) : Calls Try.prog 33 #[.int .i64 s, .int .i64 i] w fun e w' => e = .returned (.bool (inJ s i)) ∧ w = w' := Base.specIn s i w

set_option maxHeartbeats 12800000 in
theorem belowWalk (HD : DrawsRoom) (a0 : Option Addr) (len0 cap0 : Nat) (w : World) (hcode : Cur.Code w a0 len0) :
    Calls Try.prog 5 #[.slice a0 len0 cap0] w fun e w' => e = .returned (.bool true) ∧ Below w.heap.size w w' := by
  by_cases hbig : 4096 < len0
  · have hb' : (4096 : Int) < (len0 : Int) := by omega
    go_enter Try.func5, Try.ntmps5
    go_wp2
    go_ret
    exact ⟨rfl, Below.refl _ _⟩
  · have hb' : ¬ (4096 : Int) < (len0 : Int) := by omega
    have hle0 : len0 ≤ 4096 := by omega
    have HDD : Hid DrawsRoom := HD
    have HCode : Hid (Cur.Code w a0 len0) := hcode
    clear hbig HD hcode
    go_enter Try.func5, Try.ntmps5
    go_wp2_with (first | (go_at_call 9; go_in) | fail)
    refine (drawBelow HDD.out a0 len0 cap0 _ hle0 HCode.out).mono ?_
    rintro e w1 ⟨v, L, k, rfl, hD1, _⟩
    obtain ⟨g, cp, rfl, hcp, hL1⟩ := drawn_liesS hD1
    have hB1 : Below w.heap.size w w1 := hD1.bel
    clear hD1
    go_wp2_with fail
    refine (Sg.implBelow g 0 cp L k _ (by have := hL1.len; omega) hL1.words hL1.rd).mono ?_
    rintro e w2 ⟨rfl, hb2⟩
    have HL2 : Hid (LiesS w2 g L) := hL1.below hb2
    have HB2 : Hid (Below w.heap.size w w2) := hB1.trans (hb2.mono hB1.size)
    clear hL1 hB1 hb2
    go_wp2_with fail
    refine (drawSees HDD.out a0 len0 cap0 _ hle0 (code_below2 HCode.out HB2.out)).mono ?_
    rintro e w3 ⟨v3, Q, x, y, rfl, hD3⟩
    obtain ⟨g3, cp3, rfl, hcp3, hQ3⟩ := drawn_liesS hD3
    have HL3 : Hid (LiesS w3 g L) := HL2.out.below hD3.bel
    have HB3 : Hid (Below w.heap.size w w3) := HB2.out.trans (hD3.bel.mono HB2.out.size)
    have HQ3 : Hid (LiesS w3 g3 Q) := hQ3
    clear hD3 HL2 HB2 hQ3
    go_wp2_with fail
    refine (Sg.specBelow g 0 cp L k _ hcp HL3.out.words HL3.out.rd).mono ?_
    rintro e w4 ⟨rfl, hb4⟩
    have HL4 : Hid (LiesS w4 g L) := HL3.out.below hb4
    have HQ4 : Hid (LiesS w4 g3 Q) := HQ3.out.below hb4
    have HB4 : Hid (Below w.heap.size w w4) := HB3.out.trans (hb4.mono HB3.out.size)
    clear HL3 HQ3 HB3 hb4
    go_wp2_with fail
    refine (Sg.implSees g3 0 cp3 Q x y _ (by have := HQ4.out.len; omega) HQ4.out.words HQ4.out.rd).mono ?_
    rintro e w5 ⟨rfl, hb5⟩
    have HL5 : Hid (LiesS w5 g L) := HL4.out.below hb5
    have HQ5 : Hid (LiesS w5 g3 Q) := HQ4.out.below hb5
    have HB5 : Hid (Below w.heap.size w w5) := HB4.out.trans (hb5.mono HB4.out.size)
    clear HL4 HQ4 HB4 hb5
    go_wp2_with fail
    refine (Sg.specSees g3 0 cp3 Q x y _ hcp3 HQ5.out.words HQ5.out.rd).mono ?_
    rintro e w6 ⟨rfl, hb6⟩
    have HL6 : Hid (LiesS w6 g L) := HL5.out.below hb6
    have HQ6 : Hid (LiesS w6 g3 Q) := HQ5.out.below hb6
    have HB6 : Hid (Below w.heap.size w w6) := HB5.out.trans (hb6.mono HB5.out.size)
    clear HL5 HQ5 HB5 hb6
    have HSUB : Hid (seesB Q x y = true → bits .andNot .i64 (belowI Q y) (belowI Q x) = 0) := fun h => sees_sub h
    have HANT : Hid (seesB Q x y = true → x ≠ y → seesB Q y x = false) := fun h hne => sees_anti h hne
    go_upto_region 8 with fail
    go_cut [69] (fun bv wx => bv = .bool false ∧ Hid (LiesS wx g L) ∧ Hid (Below w.heap.size w wx))
    case first =>
      go_wp2_with fail
      refine (Sg.implSees g3 0 cp3 Q x y _ (by have := HQ6.out.len; omega) HQ6.out.words HQ6.out.rd).mono ?_
      rintro e w7 ⟨rfl, hb7⟩
      have HL7 : Hid (LiesS w7 g L) := HL6.out.below hb7
      have HQ7 : Hid (LiesS w7 g3 Q) := HQ6.out.below hb7
      have HB7 : Hid (Below w.heap.size w w7) := HB6.out.trans (hb7.mono HB6.out.size)
      clear HL6 HQ6 HB6 hb7
      cases hse : seesB Q x y
      · go_wp2_with fail
        go_meet
        exact ⟨rfl, HL7, HB7⟩
      · have HZ : Hid (bits .andNot .i64 (belowI Q y) (belowI Q x) = 0) := HSUB.out hse
        have HAN : Hid (x ≠ y → seesB Q y x = false) := HANT.out hse
        clear hse HSUB HANT
        go_wp2_with fail
        refine (Sg.specBelow g3 0 cp3 Q y _ hcp3 HQ7.out.words HQ7.out.rd).mono ?_
        rintro e w8 ⟨rfl, hb8⟩
        have HL8 : Hid (LiesS w8 g L) := HL7.out.below hb8
        have HQ8 : Hid (LiesS w8 g3 Q) := HQ7.out.below hb8
        have HB8 : Hid (Below w.heap.size w w8) := HB7.out.trans (hb8.mono HB7.out.size)
        clear HL7 HQ7 HB7 hb8
        go_wp2_with fail
        refine (Sg.specBelow g3 0 cp3 Q x _ hcp3 HQ8.out.words HQ8.out.rd).mono ?_
        rintro e w9 ⟨rfl, hb9⟩
        have HL9 : Hid (LiesS w9 g L) := HL8.out.below hb9
        have HQ9 : Hid (LiesS w9 g3 Q) := HQ8.out.below hb9
        have HB9 : Hid (Below w.heap.size w w9) := HB8.out.trans (hb9.mono HB8.out.size)
        clear HL8 HQ8 HB8 hb9
        have hz := HZ.out
        generalize belowI Q y = by' at hz
        generalize belowI Q x = bx' at hz
        by_cases hxy : x = y
        · have hxy' : (x != y) = false := by simpa using hxy
          subst hxy
          go_wp2_with fail
          go_meet
          exact ⟨rfl, HL9, HB9⟩
        · have hxy' : (x != y) = true := by simpa using hxy
          have han := HAN.out hxy
          go_wp2_with fail
          refine (Sg.implSees g3 0 cp3 Q y x _ (by have := HQ9.out.len; omega) HQ9.out.words HQ9.out.rd).mono ?_
          rintro e w10 ⟨rfl, hb10⟩
          have HL10 : Hid (LiesS w10 g L) := HL9.out.below hb10
          have HB10 : Hid (Below w.heap.size w w10) := HB9.out.trans (hb10.mono HB9.out.size)
          rw [han]
          clear hb10 HL9 HB9 HQ9
          go_wp2_with fail
          go_meet
          exact ⟨rfl, HL10, HB10⟩
    case rest =>
      obtain ⟨rfl, HLc, HBc⟩ := hcut
      clear HL6 HQ6 HB6 HSUB HANT
      cases hib : isB L k
      · have HT : Hid (belowI L k = -1) := by show _ = _; unfold Sg.belowI; rw [hib]; rfl
        rw [HT.out]
        go_wp2_with fail
        refine (Lc.specLaceOk g 0 cp L _ hcp HLc.out.words HLc.out.rd).mono ?_
        rintro e w7 ⟨rfl, hb7⟩
        have HB7 : Hid (Below w.heap.size w w7) := HBc.out.trans (hb7.mono HBc.out.size)
        clear hb7 HLc HBc
        cases hlc : laceB L
        · go_wp2
          go_ret
          exact ⟨rfl, HB7.out⟩
        · have hk : k < 0 ∨ (0 ≤ k ∧ (L.length : Int) ≤ k) := by
            apply Classical.byContradiction
            intro hn
            have := (isB_iff hlc k).2 ⟨by omega, by omega⟩
            rw [hib] at this; exact Bool.noConfusion this
          clear hib hlc
          rcases hk with hk | ⟨hk, hk2⟩
          · go_wp2
            go_ret
            exact ⟨rfl, HB7.out⟩
          · have hk' : ¬ k < 0 := by omega
            go_wp2
            go_ret
            exact ⟨rfl, HB7.out⟩
      · obtain ⟨k0, k1, hlc⟩ := Sg.isB_parts hib
        obtain ⟨p, rfl⟩ := Int.eq_ofNat_of_zero_le k0
        have hp : p < L.length := by omega
        have h60 := ((Lc.lace_iff L).1 hlc).1
        have hp60 : p < 60 := by omega
        have HT : Hid (belowI L (p : Int) = bel L p) := below_at hlc p hp
        rw [HT.out]
        have hbb := Sg.bel_bd L p hp60
        have HLC : Hid (laceB L = true) := hlc
        have HBE : Hid (∀ x ∈ Memb.memI (at' L p).frm, belowI L x = bel L x.toNat ∧ x.toNat < 60) := fun x hx => frm_below hlc hp hx
        have HWANT : Hid (wantT L p (Memb.memI (at' L p).frm) = bel L p) := want_eq hlc hp
        have HRND : Hid (∀ i, i < L.length → bit (bel L p) i = true → i ≠ p → (at' L i).round < (at' L p).round) := fun i hi hb hne => below_round hlc hp hb hne
        have HSEE : Hid (∀ i, i < L.length → seesB L (p : Int) (i : Int) = bit (bel L p) i) := fun i hi => sees_at hlc hp hi
        have HINB : Hid (∀ i, i < L.length → inJ (bel L p) (i : Int) = bit (bel L p) i) := fun i hi => inJ_at hbb.1 hbb.2 i (by omega)
        have HCLO : Hid (closedB L (bel L p) = true) := bel_closed hlc hp
        have HTIP : Hid (tipsI L (bel L p) = 2 ^ p) := bel_tips hlc hp
        have HWITH : Hid (Base.withI 0 (p : Int) = 2 ^ p) := withI_zero _ p rfl hp60
        have hl60 := Memb.memI_le (at' L p).frm
        have HWB : Hid (∀ l' : List Int, (∀ x ∈ l', x ∈ Memb.memI (at' L p).frm) → 0 ≤ wantT L p l' ∧ wantT L p l' < 1152921504606846976) := fun l' hl' => wantT_bd L p hp60 l' (fun x hx => (frm_below hlc hp (hl' x hx)).2)
        have HW0 : Hid (wantT L p [] = 2 ^ p) := rfl
        have hb0 : ¬ bel L p < 0 := by omega
        have hbnd : -9223372036854775808 ≤ bel L p ∧ bel L p ≤ 9223372036854775807 := by omega
        obtain ⟨_, _, c1, c2, _⟩ := HLc.out.rd.on p hp
        rw [Nat.zero_add] at c1 c2
        have hpi : (p : Int) < (L.length : Int) := by omega
        clear hib hlc HT k0 k1 HLC c1
        generalize (at' L p).frm = fr at HBE HWANT hl60 c2 HWB
        generalize bel L p = bv at HWANT HRND HSEE HINB HCLO HTIP hbb hb0 hbnd ⊢
        generalize (2 : Int) ^ p = pw at HTIP HWITH HW0
        go_wp2_with fail
        refine (Base.specWith _ _ _).mono ?_
        rintro e wc' ⟨rfl, rfl⟩
        rw [HWITH.out]
        go_wp2_with fail
        refine (Memb.specMembers _ _).mono ?_
        rintro e w7 ⟨mo, mc, rfl, hown7, hb7⟩
        have HL7 : Hid (LiesS w7 g L) := HLc.out.below hb7
        have HB7 : Hid (Below w.heap.size w w7) := HBc.out.trans (hb7.mono HBc.out.size)
        have HO7 : Hid (Memb.Own wc.heap.size w7 mo mc (Memb.memI fr)) := hown7
        clear hb7 hown7 HLc HBc c2
        generalize wc.heap.size = q7 at HO7
        generalize Memb.memI fr = l at HBE HWANT hl60 HWB HO7 ⊢
        go_wp2
        go_loopw [9, 11] (fun av iv wr => ∃ i : Nat, i ≤ l.length ∧ iv = .int .i64 (i : Int) ∧ av = .int .i64 (wantT L p (l.take i)) ∧ Hid (LiesS wr g L) ∧ Hid (Below w.heap.size w wr) ∧ Hid (Memb.Own q7 wr mo mc l)) (fun _ iv _ => l.length - (intOf iv).toNat)
        case atStart => exact ⟨0, by omega, rfl, by rw [List.take_zero, HW0.out], HL7, HB7, HO7⟩
        case round =>
          obtain ⟨i, hi, rfl, rfl, HL, HB, HO⟩ := hrel
          by_cases hlt : i < l.length
          · have hii : (i : Int) < (l.length : Int) := by omega
            obtain ⟨mb, rfl, ci⟩ : ∃ mb, mo = some ⟨mb, 0, none⟩ ∧ wr.cell? ⟨mb, i, none⟩ = some (.int .i64 (l.getD i 0)) := by
              rcases Lst.own_rd HO.out with e | ⟨mb, e, h⟩
              · rw [e] at hlt; simp at hlt
              · exact ⟨mb, e, h i hlt⟩
            have hbe := HBE.out _ (getD_mem2 l i hlt)
            have hbx := Sg.bel_bd L (l.getD i 0).toNat hbe.2
            have hab := HWB.out (l.take i) (fun x hx => List.mem_of_mem_take hx)
            have HS : Hid (wantT L p (l.take (i + 1)) = bits .or .i64 (wantT L p (l.take i)) (belowI L (l.getD i 0))) := by
              show _ = _
              rw [take_get2 l i hlt, wantT_snoc, hbe.1, Sg.or_eq _ _ hab.1 hab.2 hbx.1 hbx.2]
            have hcall := Sg.implBelow g 0 cp L (l.getD i 0) wr (by have := HL.out.len; omega) HL.out.words HL.out.rd
            obtain ⟨z, hz⟩ : ∃ z, l.getD i 0 = z := ⟨_, rfl⟩
            rw [hz] at ci HS hcall
            clear hbe hbx hab hz
            generalize belowI L z = bz at HS hcall
            generalize wantT L p (l.take i) = av at HS ⊢
            go_wp2_with fail
            refine hcall.mono ?_
            rintro e w8 ⟨rfl, hb8⟩
            have HL8 : Hid (LiesS w8 g L) := HL.out.below hb8
            have HB8 : Hid (Below w.heap.size w w8) := HB.out.trans (hb8.mono HB.out.size)
            have HO8 : Hid (Memb.Own q7 w8 (some ⟨mb, 0, none⟩) mc l) := Lst.own_below HO.out hb8
            clear hcall hb8 HL HB HO ci
            go_wp2
            go_roundw
            case rel => exact ⟨i + 1, by omega, by go_num, by rw [HS.out], HL8, HB8, HO8⟩
            case measure => simp [intOf]; omega
          · obtain rfl : i = l.length := by omega
            have HE : Hid (wantT L p (l.take l.length) = bv) := by show _ = _; rw [List.take_length]; exact HWANT.out
            rw [HE.out]
            clear HE HWANT HBE HWB HO
            go_wp2
            go_loopw [12] (fun iv wz => ∃ i : Nat, i ≤ L.length ∧ iv = .int .i64 (i : Int) ∧ Hid (LiesS wz g L) ∧ Hid (Below w.heap.size w wz)) (fun iv _ => L.length - (intOf iv).toNat)
            case atStart => exact ⟨0, by omega, rfl, HL, HB⟩
            case round =>
              obtain ⟨i, hi, rfl, HL, HB⟩ := hrel
              by_cases hil : i < L.length
              · have hii : (i : Int) < (L.length : Int) := by omega
                obtain ⟨hgl, _, ci, _, _⟩ := HL.out.rd.on i hil
                obtain ⟨_, _, cq, _, _⟩ := HL.out.rd.on p hp
                rw [Nat.zero_add] at ci cq
                have HSC : Hid (∀ W : World, LiesS W g L → Calls Try.prog 29 #[.slice (some ⟨g, 0, none⟩) L.length cp, .int .i64 (p : Int), .int .i64 (i : Int)] W fun e w' => e = .returned (.bool (bit bv i)) ∧ Below W.heap.size W w') := fun W hW => by
                  have := Sg.implSees g 0 cp L (p : Int) (i : Int) W (by have := hW.len; omega) hW.words hW.rd
                  rwa [HSEE.out i hil] at this
                have HIC : Hid (∀ W : World, Calls Try.prog 33 #[.int .i64 bv, .int .i64 (i : Int)] W fun e w' => e = .returned (.bool (bit bv i)) ∧ W = w') := fun W => by
                  have := specInJ bv (i : Int) W
                  rwa [HINB.out i hil] at this
                have HR : Hid (bit bv i = true → i ≠ p → (at' L i).round < (at' L p).round) := HRND.out i hil
                generalize (at' L i).round = ri at ci HR
                generalize (at' L p).round = rp at cq HR
                cases hb : bit bv i
                · rw [hb] at HSC HIC
                  clear HR hb
                  obtain ⟨X, _, F, HF, HG⟩ := Fam.fam wr
                  have hc1 : ∀ z, (F z).cell? ⟨g, i * 4 + 1, none⟩ = some (.int .i64 ri) := fun z => ((HF.out z).cell (p := ⟨g, i * 4 + 1, none⟩) hgl).trans ci
                  have hc2 : ∀ z, (F z).cell? ⟨g, p * 4 + 1, none⟩ = some (.int .i64 rp) := fun z => ((HF.out z).cell (p := ⟨g, p * 4 + 1, none⟩) hgl).trans cq
                  clear ci cq
                  go_wp2_with fail
                  refine Fam.region (F := F) (by kernel_rfl) (by kernel_rfl) (HG.out _ (Below.refl _ wr).drew) ?_
                  repeat (go_big_quiet_step (first
                    | (go_at_call 33; exact (HIC.out _).mono fun _ _ h => ⟨h.1, _, h.2.symm⟩)
                    | (go_at_call 29; exact (HSC.out _ (HL.out.below (HF.out _))).mono fun _ _ h => ⟨h.1, HG.out _ ((HF.out _).trans (h.2.mono (HF.out _).size))⟩)))
                  refine wpQuiet_nil ?_
                  intro w8 hw8
                  obtain ⟨z, rfl⟩ := hw8
                  have HL8 : Hid (LiesS (F z) g L) := HL.out.below (HF.out z)
                  have HB8 : Hid (Below w.heap.size w (F z)) := HB.out.trans ((HF.out z).mono HB.out.size)
                  clear HL HB
                  go_wp2
                  go_roundw
                  case rel => exact ⟨i + 1, by omega, by go_num, HL8, HB8⟩
                  case measure => simp [intOf]; omega
                · rw [hb] at HSC HIC
                  have hr := HR.out hb
                  clear HR hb
                  by_cases hip : i = p
                  · have hip' : ((i : Int) != (p : Int)) = false := by simp; omega
                    clear hr hip
                    obtain ⟨X, _, F, HF, HG⟩ := Fam.fam wr
                    have hc1 : ∀ z, (F z).cell? ⟨g, i * 4 + 1, none⟩ = some (.int .i64 ri) := fun z => ((HF.out z).cell (p := ⟨g, i * 4 + 1, none⟩) hgl).trans ci
                    have hc2 : ∀ z, (F z).cell? ⟨g, p * 4 + 1, none⟩ = some (.int .i64 rp) := fun z => ((HF.out z).cell (p := ⟨g, p * 4 + 1, none⟩) hgl).trans cq
                    clear ci cq
                    go_wp2_with fail
                    refine Fam.region (F := F) (by kernel_rfl) (by kernel_rfl) (HG.out _ (Below.refl _ wr).drew) ?_
                    repeat (go_big_quiet_step (first
                      | (go_at_call 33; exact (HIC.out _).mono fun _ _ h => ⟨h.1, _, h.2.symm⟩)
                      | (go_at_call 29; exact (HSC.out _ (HL.out.below (HF.out _))).mono fun _ _ h => ⟨h.1, HG.out _ ((HF.out _).trans (h.2.mono (HF.out _).size))⟩)))
                    refine wpQuiet_nil ?_
                    intro w8 hw8
                    obtain ⟨z, rfl⟩ := hw8
                    have HL8 : Hid (LiesS (F z) g L) := HL.out.below (HF.out z)
                    have HB8 : Hid (Below w.heap.size w (F z)) := HB.out.trans ((HF.out z).mono HB.out.size)
                    clear HL HB
                    go_wp2
                    go_roundw
                    case rel => exact ⟨i + 1, by omega, by go_num, HL8, HB8⟩
                    case measure => simp [intOf]; omega
                  · have hip' : ((i : Int) != (p : Int)) = true := by simp; omega
                    have hr1 := hr hip
                    have hr2 : ¬ rp ≤ ri := by omega
                    have hr3 : decide (rp ≤ ri) = false := decide_eq_false hr2
                    clear hr hip
                    obtain ⟨X, _, F, HF, HG⟩ := Fam.fam wr
                    have hc1 : ∀ z, (F z).cell? ⟨g, i * 4 + 1, none⟩ = some (.int .i64 ri) := fun z => ((HF.out z).cell (p := ⟨g, i * 4 + 1, none⟩) hgl).trans ci
                    have hc2 : ∀ z, (F z).cell? ⟨g, p * 4 + 1, none⟩ = some (.int .i64 rp) := fun z => ((HF.out z).cell (p := ⟨g, p * 4 + 1, none⟩) hgl).trans cq
                    clear ci cq
                    go_wp2_with fail
                    refine Fam.region (F := F) (by kernel_rfl) (by kernel_rfl) (HG.out _ (Below.refl _ wr).drew) ?_
                    repeat (go_big_quiet_step (first
                      | (go_at_call 33; exact (HIC.out _).mono fun _ _ h => ⟨h.1, _, h.2.symm⟩)
                      | (go_at_call 29; exact (HSC.out _ (HL.out.below (HF.out _))).mono fun _ _ h => ⟨h.1, HG.out _ ((HF.out _).trans (h.2.mono (HF.out _).size))⟩)))
                    refine wpQuiet_nil ?_
                    intro w8 hw8
                    obtain ⟨z, rfl⟩ := hw8
                    have HL8 : Hid (LiesS (F z) g L) := HL.out.below (HF.out z)
                    have HB8 : Hid (Below w.heap.size w (F z)) := HB.out.trans ((HF.out z).mono HB.out.size)
                    clear HL HB
                    go_wp2
                    go_roundw
                    case rel => exact ⟨i + 1, by omega, by go_num, HL8, HB8⟩
                    case measure => simp [intOf]; omega
              · obtain rfl : i = L.length := by omega
                go_wp2_with fail
                refine (Sg.implClosed g 0 cp L bv _ (by have := HL.out.len; omega) HL.out.words hbnd.1 hbnd.2 HL.out.rd).mono ?_
                rintro e w8 ⟨rfl, hb8⟩
                have HL8 : Hid (LiesS w8 g L) := HL.out.below hb8
                have HB8 : Hid (Below w.heap.size w w8) := HB.out.trans (hb8.mono HB.out.size)
                rw [HCLO.out]
                clear hb8 HL HB
                go_wp2_with fail
                refine (Sg.implTips g 0 cp L bv _ (by have := HL8.out.len; omega) HL8.out.words hbnd.1 hbnd.2 HL8.out.rd).mono ?_
                rintro e w9 ⟨rfl, hb9⟩
                have HB9 : Hid (Below w.heap.size w w9) := HB8.out.trans (hb9.mono HB8.out.size)
                rw [HTIP.out]
                clear hb9 HL8 HB8
                go_wp2_with fail
                refine (Base.specWith _ _ _).mono ?_
                rintro e w10 ⟨rfl, rfl⟩
                rw [HWITH.out]
                go_wp2
                go_ret
                exact ⟨rfl, HB9.out⟩

end Rm
end Go.Proofs.Ytdcjjopeobnpgaa

namespace Go.Proofs.Ytdcjjopeobnpgaa
open Go.RowKit
namespace Rm

theorem drawsBad : DrawsBad := fun c a len cap ao cp L co nc cc go nh hc bad w hl hca hlc hr hn => l18DrawBad c a len cap ao cp L co nc cc go nh hc bad w hl hca hlc hr hn
theorem drawsRoom : DrawsRoom := fun c a len cap w hl hc => l18Draw' (l18DrawActs' drawsBad (l18DrawAct' drawsBad)) c a len cap w hl hc

end Rm
end Go.Proofs.Ytdcjjopeobnpgaa

namespace Go.Proofs.Ytdcjjopeobnpgaa.fnBelow
open Go.ChangeShapes Go.WideShapes Go.ChangeAt Go.RowKit
set_option linter.unusedVariables false
set_option maxRecDepth 100000

theorem own : ownKnob Try.prog.godebug = none := by kernel_rfl
theorem laidOut : laidOutB Try.prog = true := by kernel_rfl

/-- what is told of a slice of integers that came in: it is nil, or it leads to a row of cells that hold these -/
def IsRow (k : IntKind) (w : World) (a : Option Addr) (len cap : Nat) (zs : List Int) : Prop :=
  (a = none ∧ len = 0 ∧ cap = 0 ∧ zs = []) ∨
  ∃ x, a = some x ∧ len ≤ cap ∧ cap ≤ maxLen ∧ zs.length = cap ∧ (∀ i, i < zs.length → w.cell? (x.add i) = some (.int k (zs.getD i 0))) ∧ ∀ n ∈ zs, (Lit.int k n).wf = true

theorem code_of {w : World} {a : Option Addr} {len cap : Nat} {zs : List Int} (h : IsRow .u8 w a len cap zs) : Cur.Code w a len := by
  rcases h with ⟨_, h, _, _⟩ | ⟨x, rfl, hl, _, hz, hcell, hwz⟩
  · exact .inl h
  · by_cases h0 : len = 0
    · exact .inl h0
    · obtain ⟨b, off, spot⟩ := x
      have hc := hcell 0 (by omega)
      have hspot : spot = none := by simpa [Addr.add] using World.cell?_spot hc
      subst hspot
      refine .inr ⟨b, off, rfl, ?_, fun j hj => ?_⟩
      · have := block_lt_of_cell hc; simpa [Addr.add] using this
      · have hcj := hcell j (by omega)
        have hj' : j < zs.length := by omega
        have hw := hwz (zs.getD j 0) (by simp [List.getD, List.getElem?_eq_getElem hj'])
        refine ⟨zs.getD j 0, ?_, ?_⟩
        · by_cases hj0 : j = 0
          · subst hj0; simpa [Addr.add] using hcj
          · simpa [Addr.add, hj0] using hcj
        simpa [Lit.wf, IntKind.min, IntKind.max, IntKind.signed, IntKind.bits] using hw

theorem lifted (os : Os) (started : os.Started) (H : Type) (enc : TypeId × Value → H) :
    ReturnsInHanded {} Try.checked os 5 .any (Rows.fnBelowSpec.pre6 enc Try.prog Try.f5 Rows.fnBelowRow.domain false) (Rows.fnBelowSpec.post enc Try.prog Try.f5 false true false false) := by
  refine returnsInHanded_of_change (C := Try.checked) own started (by kernel_rfl) Try.func5
    (ChangeSpec.witness6 (enc := enc) (C := Try.checked) false ⟨#[], #[.slice none 0 0], []⟩ 8 (by kernel_rfl) (by kernel_rfl) (by kernel_rfl) (by kernel_rfl)) ?_
  intro W base args ds gs before hval0 hW hcnd _
  have hval : ∀ (j : Nat) t v, Try.f5.params[j]? = some t → args[j]? = some v → Value.okWide Try.prog W .any base t v := hval0
  have hW' := hW
  obtain ⟨p, q, hA0, hV, rfl, hfz, hnd⟩ := hW
  have hA : DataW.TrodAll enc Try.prog W 0 (fun _ => true) true Try.f5.params.toList args.toList ds p := hA0
  rw [Try.params5] at hA hval
  obtain ⟨v0, vs0, d0, ds0, p0, q0, hargs, rfl, rfl, h0, r0⟩ := trodAll_cons hA
  obtain ⟨rfl, rfl, rfl⟩ := trodAll_nil r0
  obtain rfl : args = #[v0] := by cases args; simp_all
  obtain ⟨rfl, rfl⟩ := trodVars_none hV
  obtain ⟨a0, len0, cap0, rfl⟩ := okWide_slice Try.underlying22 (hval 0 22 v0 rfl rfl)
  have k0 := h0
  have lt0 : ∀ x ∈ p0, x.block < W.heap.size := by obtain ⟨m, hm⟩ := k0; exact DataW.trod_lt m _ _ _ hm
  obtain ⟨z0, w0⟩ : ∃ zs, IsRow .u8 W a0 len0 cap0 zs := by
    obtain ⟨fuel, hf⟩ := h0
    rcases open_ints Try.underlying22 Try.underlying5 (by kernel_rfl) hf with ⟨hcs, _⟩ | ⟨x, l, c, zs, hcs, _, hl, hm, hz, _, hcell, hwz⟩
    · simp [Value.cells] at hcs
      obtain ⟨rfl, rfl, rfl⟩ := hcs
      exact ⟨[], .inl ⟨rfl, rfl, rfl, rfl⟩⟩
    · simp [Value.cells] at hcs
      obtain ⟨rfl, rfl, rfl⟩ := hcs
      exact ⟨zs, .inr ⟨_, rfl, hl, hm, by simpa using hz, hcell, hwz⟩⟩
  clear hA0 hval0
  simp only [List.append_nil] at hW'
  refine (Rm.belowWalk Rm.drawsRoom a0 len0 cap0 W (code_of w0)).mono fun e W' ⟨he, bel⟩ => ?_
  subst he
  exact ⟨_, rfl, _, _, _, [], _, [], hW', trodAll_mk1 (shut_bool Try.underlying4 _), (trodAll_cons_mk (Below.trod laidOut (by kernel_rfl) (of_decide_eq_true (by kernel_rfl)) k0 bel lt0) trodAll_mk0), rfl, bel.frame _, fun h => by cases h⟩

theorem over : Rows.fnBelowRow.holds Try.pinned (OpenSpec.ofChange Rows.fnBelowSpec) :=
  OpenClaim.holds_of_wide 5 Try.f5 rfl rfl rfl rfl rfl rfl rfl ⟨rfl, rfl, rfl, rfl, rfl⟩ rfl rfl rfl rfl rfl (by kernel_rfl) Try.func5 (by kernel_rfl)
    (of_decide_eq_true (by kernel_rfl)) (by unfold Func.isWrapper; first | (rw [if_pos (by decide +kernel)]; kernel_rfl) | (rw [if_neg (by decide +kernel)]; exact ⟨rfl, rfl⟩))
    (fun os started H enc _ => lifted os started H enc)

theorem proved : Rows.FnBelowSaid :=
  over
end Go.Proofs.Ytdcjjopeobnpgaa.fnBelow
