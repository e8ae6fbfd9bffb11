/-
  FnTied answers true at every code, for LaceOk, CanTie and Tied keep promise 3; no condition.
  What the model's drawing of a list of knots hands back, where the drawing of a room keeps its word: a list of at most 61 knots with short words, in memory of its own; it changes the cursor alone.
  What the model's drawing of any list of knots, of a set and of a number hands back, where the drawing of a room keeps its word: a list of at most 61 knots with short words, in memory of its own; it changes the cursor alone.
  What the model's drawings of a set and of a number hand back: a number; they change the cursor alone. And the drawings of the laws on laces, where the drawing of a room keeps its word.
  What the model's Below, Sees, Closed and Tips answer, in the words of SightM; for lists of knots whose words have at most 2^40 bytes.
  What the model's drawings for the laws on sight hand back, where the drawing of a room keeps its word.
  What the program's own HandsOf and AtRound answer, in the words of LaceM; for lists of at most 2^40 knots whose words have at most 2^40 bytes.
  What the model's drawing for the law on tying hands back, where the drawing of a room keeps its word, and the laws' own comparing of lists of knots.
  What the model's drawing for the law on tying hands back, where the drawing of a room keeps its word: a list and a knot with short words.
  What the program's own Tied answers, with the room behind its answer.
  What the law on tying answers, where the drawing of a room keeps its word: true at every code.
  The drawing of a room keeps its word.
-/
import Derived.Test.YtdcjjopeobnpgaaRoomW
import Derived.Test.YtdcjjopeobnpgaaRoomG
import Derived.Test.YtdcjjopeobnpgaaDraw
import Derived.Test.YtdcjjopeobnpgaaDrawK
import Derived.Maps.AppendAt
import Derived.Test.YtdcjjopeobnpgaaSightS
import Derived.Test.YtdcjjopeobnpgaaSightN
import Derived.Test.YtdcjjopeobnpgaaLaceU
import Derived.Test.YtdcjjopeobnpgaaLaceE
import Derived.Test.YtdcjjopeobnpgaaTieC
import Derived.BigRegion
import Derived.Laws.StructEq
import Derived.Deep.CutBlock
import Derived.Test.YtdcjjopeobnpgaaRoomJ
import Derived.Test.YtdcjjopeobnpgaaFam
import Derived.Test.YtdcjjopeobnpgaaRoomXm
import Derived.Test.YtdcjjopeobnpgaaRows
import Derived.WalkKit
import Derived.ProofKit
import Derived.OpenShut
import Derived.ChangeOld
import Derived.Below
namespace Go.Proofs.Ytdcjjopeobnpgaa
open Go.RowKit
set_option maxRecDepth 100000
namespace Rm
open Kn (K okK)
open Lc (at' RdK laceB flat OwnK cellsOf)
open Cur (At)

/-- the drawing of a room keeps its word -/
def DrawsRoom : Prop := ∀ (c : Nat) (a : Option Addr) (len cap : Nat) (w : World), len ≤ 4096 → At c a len cap w → Calls Try.prog 127 #[.pointer (some ⟨c, 0, none⟩)] w (DrawPost c a len cap w)

/-- how the drawing of a list ends -/
def ListPost (m : Nat) (c : Nat) (a : Option Addr) (len cap : Nat) (w : World) (e : Ending) (w' : World) : Prop := ∃ v L, e = .returned v ∧ OwnK 26 w.heap.size w' v L ∧ L.length ≤ m ∧ (∀ k ∈ L, k.word.size ≤ 13) ∧ At c a len cap w' ∧ w.grownBy w' (some c)
/-- how the drawing of a number ends -/
def NumPost (c : Nat) (a : Option Addr) (len cap : Nat) (w : World) (e : Ending) (w' : World) : Prop := ∃ x : Int, e = .returned (.int .i64 x) ∧ (-9223372036854775808 ≤ x ∧ x ≤ 9223372036854775807) ∧ At c a len cap w' ∧ w.grownBy w' (some c)

theorem word_lace {L : List K} (h : laceB L = true) : ∀ k ∈ L, k.word.size ≤ 13 := by
  intro k hk
  obtain ⟨i, hi, rfl⟩ := List.mem_iff_getElem.1 hk
  have := Lc.can_ok (Lc.lace_upTo h i hi)
  rw [Lc.at_get L i hi] at this
  simp only [okK, Bool.and_eq_true] at this
  have h5 := this.2.2.2.2
  simp only [Kn.okW, Bool.and_eq_true, decide_eq_true_eq] at h5
  omega

theorem ownK_base {t : TypeId} {B B' : Nat} {w : World} {v : Value} {L : List K} (h : OwnK t B w v L) (hB : B' ≤ B) : OwnK t B' w v L := by
  obtain ⟨⟨h1, h2 | ⟨g, cp, cur, e, hg, r⟩⟩, hv⟩ := h
  · exact ⟨⟨h1, .inl h2⟩, hv⟩
  · exact ⟨⟨h1, .inr ⟨g, cp, cur, e, Nat.le_trans hB hg, r⟩⟩, hv⟩

theorem ownK_grown {t : TypeId} {B c : Nat} {w w' : World} {v : Value} {L : List K} (h : OwnK t B w v L) (hg : w.grownBy w' (some c)) (hc : c < B) : OwnK t B w' v L :=
  ⟨own_fr (Fr.of_grown hg) h.1 (fun g e => by have := (World.ownsRow.lt h.1 g e).1; omega), h.2⟩

theorem lace_field (ao : Option Addr) (n cp : Nat) (v1 v2 v3 : Value) (W : World) : (Instr.field 115 (.agg #[.slice ao n cp, v1, v2, v3]) 0).run Try.prog W = .ok (.slice ao n cp) W := by kernel_rfl

set_option maxHeartbeats 800000 in
theorem l3Draw (HD : DrawsRoom) (c : Nat) (a : Option Addr) (len cap : Nat) (w : World) (hl : len ≤ 4096) (hc : At c a len cap w) :
    Calls Try.prog 106 #[.pointer (some ⟨c, 0, none⟩)] w (ListPost 60 c a len cap w) := by
  have hcw : c < w.heap.size := hc.lt
  have HDD : Hid DrawsRoom := HD
  clear HD
  go_enter Try.func106, Try.ntmps106
  go_wp2_with fail
  refine (HDD.out c a len cap _ hl hc).mono ?_
  rintro e w1 ⟨R, rfl, hP, hA1, hF1⟩
  obtain ⟨ao, cp, hlv, ho, hz, _, hrd, _⟩ := own_lace hP.own
  have h60 := ((Lc.lace_iff R.L).1 hP.lace).1
  have hwd := word_lace hP.lace
  have HWD : Hid (∀ k ∈ R.L, k.word.size ≤ 13) := hwd
  have HV : Hid (roV R = .agg #[.slice ao R.L.length cp, R.cv, .slice (some ⟨R.gh, 0, none⟩) 4 R.hc, .int .i64 R.bad]) := by show _ = _; unfold roV; rw [hlv]
  rw [HV.out]
  have hfl := lace_field ao R.L.length cp R.cv (.slice (some ⟨R.gh, 0, none⟩) 4 R.hc) (.int .i64 R.bad)
  clear hwd hlv hP
  go_wp2_with fail
  refine (l3CopyO ao cp R.L _ ho hz (by omega) hrd).mono ?_
  rintro e w2 ⟨v, rfl, hO, hb2⟩
  have HR : Hid (OwnK 26 w.heap.size w2 v R.L ∧ At c a len cap w2 ∧ w.grownBy w2 (some c)) := ⟨ownK_base hO hF1.size, hA1.below hb2, (hF1.trans (Fr.of_below hb2 (fun x => x = c)) (fun _ h _ => h)).grown⟩
  clear hO hb2 hA1 hF1 hrd
  go_wp2
  go_ret
  exact ⟨v, R.L, rfl, HR.out.1, h60, HWD.out, HR.out.2.1, HR.out.2.2⟩

set_option maxHeartbeats 400000 in
theorem l1From (c : Nat) (a : Option Addr) (len cap : Nat) (lo hi : Int) (w : World) (hl : len ≤ 4096) (h0 : -10 ≤ lo) (h1 : lo ≤ hi) (h2 : hi ≤ 100) (hc : At c a len cap w) :
    Calls Try.prog 68 #[.pointer (some ⟨c, 0, none⟩), .int .i64 lo, .int .i64 hi] w (NumPost c a len cap w) := by
  have hw1 : IntKind.i64.wrap (hi - lo) = hi - lo := by rw [IntKind.wrap_i64]; omega
  have hw2 : IntKind.i64.wrap (hi - lo + 1) = hi - lo + 1 := by rw [IntKind.wrap_i64]; omega
  go_enter Try.func68, Try.ntmps68
  go_wp2_with fail
  refine (Cur.below c a len cap _ _ hl (by omega) hc).mono ?_
  rintro e w1 ⟨x, rfl, hx0, hx1, hA1, hG1⟩
  have hx2 := hx1 (by omega)
  go_wp2
  go_ret
  exact ⟨_, rfl, by omega, hA1, hG1⟩

end Rm
end Go.Proofs.Ytdcjjopeobnpgaa

namespace Go.Proofs.Ytdcjjopeobnpgaa
open Go.RowKit
set_option maxRecDepth 100000
namespace Rm
open Kn (K okK)
open Lc (at' RdK laceB flat OwnK cellsOf)
open Cur (At)

theorem flat_set (L : List K) (j c : Nat) (hj : j < L.length) (hc : c < 4) (k' : K) (v : Value) (h : cellsOf k' = (cellsOf (at' L j)).set c v) : (flat L).set (j * 4 + c) v = flat (L.set j k') := by
  induction L generalizing j with
  | nil => simp at hj
  | cons k L ih =>
    have hk4 : (cellsOf k).length = 4 := rfl
    cases j with
    | zero =>
      show (cellsOf k ++ flat L).set (0 * 4 + c) v = cellsOf k' ++ flat L
      rw [List.set_append_left _ _ (by rw [hk4]; omega), h]
      simp [at']
    | succ j =>
      show (cellsOf k ++ flat L).set ((j + 1) * 4 + c) v = cellsOf k ++ flat (L.set j k')
      rw [List.set_append_right _ _ (by rw [hk4]; omega), hk4, show (j + 1) * 4 + c - 4 = j * 4 + c by omega, ih j (by simpa using hj) (by simpa [at'] using h)]

theorem grown_far {w w5 w6 : World} {c g : Nat} (h : w.grownBy w5 (some c)) (h2 : w5.grownBy w6 (some g)) (hg : w.heap.size ≤ g) : w.grownBy w6 (some c) :=
  ((Fr.of_grown h).trans (Fr.of_grown h2) (fun x hx hl => by omega)).grown

/-- a number of a knot is written -/
theorem list_put {m c : Nat} {a : Option Addr} {len cap : Nat} {w w5 : World} {g cp : Nat} {L : List K} {j f : Nat} {u : Value} {k' : K} (hc : At c a len cap w) (hO : OwnK 26 w.heap.size w5 (.slice (some ⟨g, 0, none⟩) L.length cp) L) (hm : L.length ≤ m) (hwd : ∀ k ∈ L, k.word.size ≤ 13)
    (hA : At c a len cap w5) (hG : w.grownBy w5 (some c)) (hj : j < L.length) (hf : f < 4) (hk : cellsOf k' = (cellsOf (at' L j)).set f u) (hw : k'.word.size ≤ 13) :
    ListPost m c a len cap w (.returned (.slice (some ⟨g, 0, none⟩) L.length cp)) (w5.setCell ⟨g, j * 4 + f, none⟩ u) := by
  have hgB := (World.ownsRow.lt hO.1 g rfl).1
  have hs := World.ownsRow.stored hO.1 (j * 4 + f) u
  rw [flat_set L j f hj hf k' u hk] at hs
  have hl : (L.set j k').length = L.length := by simp
  refine ⟨_, L.set j k', rfl, ⟨by rw [hl]; exact hs.1, by simp⟩, by rw [hl]; exact hm, fun k hkm => ?_, ?_, grown_far hG hs.2 hgB⟩
  · rcases List.mem_or_eq_of_mem_set hkm with h | h
    · exact hwd k h
    · rw [h]; exact hw
  · exact at_belowB hA (curB_of hc) ((Below.refl w.heap.size w5).grown hs.2 hG.size (fun x e => by cases e; exact hgB))

set_option maxHeartbeats 6400000 in
theorem l3DrawAny (HD : DrawsRoom) (c : Nat) (a : Option Addr) (len cap : Nat) (w : World) (hl : len ≤ 4096) (hc : At c a len cap w) :
    Calls Try.prog 66 #[.pointer (some ⟨c, 0, none⟩)] w (ListPost 61 c a len cap w) := by
  obtain ⟨i0, hi, hz0, hz1, hz2⟩ := info_parts Lc.infoKn
  have hcw : c < w.heap.size := hc.lt
  have HDD : Hid DrawsRoom := HD
  clear HD
  go_enter Try.func66, Try.ntmps66
  go_wp2_with fail
  refine (l3Draw HDD.out c a len cap _ hl hc).mono ?_
  rintro e w1 ⟨v, L, rfl, hO, h60, hwd, hA1, hG1⟩
  obtain ⟨g, cp, rfl, hcap, _, hbg, _, _, _⟩ := Lc.ownK_shape hO
  have HWD : Hid (∀ k ∈ L, k.word.size ≤ 13) := hwd
  have HO : Hid (OwnK 26 w.heap.size w1 (.slice (some ⟨g, 0, none⟩) L.length cp) L) := hO
  clear hO hwd
  by_cases hz : L.length = 0
  · obtain rfl : L = [] := List.eq_nil_of_length_eq_zero hz
    go_wp2
    go_ret
    exact ⟨_, [], rfl, HO.out, by simp, HWD.out, hA1, hG1⟩
  · have hz' : (0 : Int) < (L.length : Int) := by omega
    go_wp2_with fail
    refine (Cur.once c a len cap 10 _ hl (by omega) hA1).mono ?_
    rintro e w2 ⟨b, rfl, hA2, hG2⟩
    have HO2 : Hid (OwnK 26 w.heap.size w2 (.slice (some ⟨g, 0, none⟩) L.length cp) L) := ownK_grown HO.out hG2 hcw
    have G2 := Cur.grownBy_trans hG1 hG2
    clear HO hG1 hG2 hA1
    cases b
    · go_wp2
      go_ret
      exact ⟨_, L, rfl, HO2.out, by omega, HWD.out, hA2, G2⟩
    · go_wp2_with fail
      refine (Cur.below c a len cap (L.length : Int) _ hl (by omega) hA2).mono ?_
      rintro e w3 ⟨x, rfl, hx0, hx1, hA3, hG3⟩
      have hx2 := hx1 hz'
      obtain ⟨j, rfl⟩ := Int.eq_ofNat_of_zero_le hx0
      have hj : j < L.length := by omega
      have HO3 : Hid (OwnK 26 w.heap.size w3 (.slice (some ⟨g, 0, none⟩) L.length cp) L) := ownK_grown HO2.out hG3 hcw
      have G3 := Cur.grownBy_trans G2 hG3
      clear HO2 hG3 hA2 G2 hx1
      go_wp2_with fail
      refine (Cur.below c a len cap 4 _ hl (by omega) hA3).mono ?_
      rintro e w4 ⟨t, rfl, ht0, ht1, hA4, hG4⟩
      have ht2 := ht1 (by omega)
      have HO4 : Hid (OwnK 26 w.heap.size w4 (.slice (some ⟨g, 0, none⟩) L.length cp) L) := ownK_grown HO3.out hG4 hcw
      have HG4 : Hid (w.grownBy w4 (some c)) := Cur.grownBy_trans G3 hG4
      have HC : Hid (At c a len cap w) := hc
      clear HO3 hG4 hA3 G3 ht1 hc
      have htc : t = 0 ∨ t = 1 ∨ t = 2 ∨ t = 3 := by omega
      rcases htc with rfl | rfl | rfl | rfl
      · go_wp2_with fail
        refine (l1From c a len cap (-1) 4 _ hl (by omega) (by omega) (by omega) hA4).mono ?_
        rintro e w5 ⟨y, rfl, _, hA5, hG5⟩
        have hO5 := ownK_grown HO4.out hG5 hcw
        obtain ⟨_, _, e5, _, _, _, _, hrd5, hfz5⟩ := Lc.ownK_shape hO5
        simp only [Value.slice.injEq, Option.some.injEq, Addr.mk.injEq, and_true, true_and] at e5
        obtain ⟨rfl, rfl⟩ := e5
        have HF : Hid (ListPost 61 c a len cap w (.returned (.slice (some ⟨g, 0, none⟩) L.length cp)) (w5.setCell ⟨g, j * 4, none⟩ (.int .i64 y))) := list_put (f := 0) (k' := ⟨y, (at' L j).round, (at' L j).frm, (at' L j).word⟩) HC.out hO5 (by omega) HWD.out hA5 (Cur.grownBy_trans HG4.out hG5) hj (by omega) rfl (HWD.out (at' L j) (Lc.at_mem L j hj))
        obtain ⟨_, c0, c1, c2, _⟩ := hrd5.on j hj
        rw [Nat.zero_add] at c0 c1 c2
        have f5 := hfz5 (j * 4) (by omega)
        clear hO5 hrd5 hfz5 HO4 HG4 hA5 hG5
        go_wp2
        go_ret
        exact HF.out
      · go_wp2_with fail
        refine (Cur.below c a len cap 5 _ hl (by omega) hA4).mono ?_
        rintro e w5 ⟨y, rfl, _, _, hA5, hG5⟩
        have hO5 := ownK_grown HO4.out hG5 hcw
        obtain ⟨_, _, e5, _, _, _, _, hrd5, hfz5⟩ := Lc.ownK_shape hO5
        simp only [Value.slice.injEq, Option.some.injEq, Addr.mk.injEq, and_true, true_and] at e5
        obtain ⟨rfl, rfl⟩ := e5
        have HF : Hid (ListPost 61 c a len cap w (.returned (.slice (some ⟨g, 0, none⟩) L.length cp)) (w5.setCell ⟨g, j * 4 + 1, none⟩ (.int .i64 y))) := list_put (f := 1) (k' := ⟨(at' L j).hand, y, (at' L j).frm, (at' L j).word⟩) HC.out hO5 (by omega) HWD.out hA5 (Cur.grownBy_trans HG4.out hG5) hj (by omega) rfl (HWD.out (at' L j) (Lc.at_mem L j hj))
        obtain ⟨_, c0, c1, c2, _⟩ := hrd5.on j hj
        rw [Nat.zero_add] at c0 c1 c2
        have f5 := hfz5 (j * 4 + 1) (by omega)
        clear hO5 hrd5 hfz5 HO4 HG4 hA5 hG5
        go_wp2
        go_ret
        exact HF.out
      · go_wp2_with fail
        refine (Draw.drawSet c a len cap _ hl hA4).mono ?_
        rintro e w5 ⟨y, rfl, _, hA5, hG5⟩
        have hO5 := ownK_grown HO4.out hG5 hcw
        obtain ⟨_, _, e5, _, _, _, _, hrd5, hfz5⟩ := Lc.ownK_shape hO5
        simp only [Value.slice.injEq, Option.some.injEq, Addr.mk.injEq, and_true, true_and] at e5
        obtain ⟨rfl, rfl⟩ := e5
        have HF : Hid (ListPost 61 c a len cap w (.returned (.slice (some ⟨g, 0, none⟩) L.length cp)) (w5.setCell ⟨g, j * 4 + 2, none⟩ (.int .i64 y))) := list_put (f := 2) (k' := ⟨(at' L j).hand, (at' L j).round, y, (at' L j).word⟩) HC.out hO5 (by omega) HWD.out hA5 (Cur.grownBy_trans HG4.out hG5) hj (by omega) rfl (HWD.out (at' L j) (Lc.at_mem L j hj))
        obtain ⟨_, c0, c1, c2, _⟩ := hrd5.on j hj
        rw [Nat.zero_add] at c0 c1 c2
        have f5 := hfz5 (j * 4 + 2) (by omega)
        clear hO5 hrd5 hfz5 HO4 HG4 hA5 hG5
        go_wp2
        go_ret
        exact HF.out
      · go_wp2_with fail
        refine (Kn.draw c a len cap _ hl hA4).mono ?_
        rintro e w5 ⟨h, r, f, s, rfl, hs13, hA5, hG5⟩
        have HO5 : Hid (OwnK 26 w.heap.size w5 (.slice (some ⟨g, 0, none⟩) L.length cp) L) := ownK_grown HO4.out hG5 hcw
        have HG5 : Hid (w.grownBy w5 (some c)) := Cur.grownBy_trans HG4.out hG5
        clear HO4 HG4 hG5
        go_wp2_with (at_builtin; refine wpList_append_own _ rfl _ _ 24 rfl w.heap.size 26 i0 (.agg #[.int .i64 0, .int .i64 0, .int .i64 0, .string ⟨#[]⟩]) 4 40 Try.underlying24 hi hz0 hz1 hz2 rfl (by decide) _ _ _ rfl (HO5.out.1.alloc _) ⟨w5.heap.size, 0, none⟩ 1 1 (cellsOf ⟨h, r, f, s⟩) rfl rfl ?c1 ?c2 ?c3 ?c4 ?c5 ?_)
        case c1 => exact Lc.new_cells w5 ⟨h, r, f, s⟩ _
        case c2 => intro u hu; simp [cellsOf] at hu; rcases hu with rfl | rfl | rfl | rfl <;> rfl
        case c3 => unfold maxLen; omega
        case c4 => omega
        case c5 => have := HG5.out.size; simp; omega
        intro v' w6 hown' hgrow hnil
        have HF : Hid (ListPost 61 c a len cap w (.returned v') w6) := by
          have hg6 : w5.grownBy w6 (some g) := (World.grownBy_alloc w5 _ _).trans hgrow
          refine ⟨v', L ++ [⟨h, r, f, s⟩], rfl, ⟨?_, ?_⟩, by simp; omega, ?_, ?_, grown_far HG5.out hg6 hbg⟩
          · rw [List.length_append, Lc.flat_snoc]; exact hown'
          · intro e; simp [e] at hnil
          · intro k hk
            rcases List.mem_append.1 hk with hk | hk
            · exact HWD.out k hk
            · simp at hk; subst hk; exact hs13
          · exact at_belowB hA5 (curB_of HC.out) ((Below.refl w.heap.size w5).grown hg6 HG5.out.size (fun x e => by cases e; exact hbg))
        clear hown' hgrow hnil
        go_wp2
        go_ret
        exact HF.out

end Rm
end Go.Proofs.Ytdcjjopeobnpgaa

namespace Go.Proofs.Ytdcjjopeobnpgaa
open Go.RowKit
set_option maxRecDepth 100000
namespace Rm
open Kn (K okK)
open Lc (at' RdK laceB flat OwnK cellsOf)
open Cur (At)

theorem wrap_bd (x : Int) : -9223372036854775808 ≤ IntKind.i64.wrap x ∧ IntKind.i64.wrap x ≤ 9223372036854775807 := by rw [IntKind.wrap_i64]; omega

set_option maxHeartbeats 400000 in
theorem l1BitAny (i : Nat) (w : World) (h : i ≤ 62) : Calls Try.prog 82 #[.int .i64 (i : Int)] w fun e w' => ∃ x : Int, e = .returned (.int .i64 x) ∧ w = w' := by
  go_enter Try.func82, Try.ntmps82
  go_wp2
  go_ret
  exact ⟨_, rfl, rfl⟩

set_option maxHeartbeats 1600000 in
theorem l3DrawSet (c : Nat) (a : Option Addr) (len cap n : Nat) (w : World) (hl : len ≤ 4096) (hn : n ≤ 61) (hc : At c a len cap w) :
    Calls Try.prog 67 #[.pointer (some ⟨c, 0, none⟩), .int .i64 (n : Int)] w (NumPost c a len cap w) := by
  go_enter Try.func67, Try.ntmps67
  go_wp2_with fail
  refine (Cur.once c a len cap 8 _ hl (by omega) hc).mono ?_
  rintro e w1 ⟨b, rfl, hA1, hG1⟩
  cases b
  · go_wp2
    go_loopw [5, 6] (fun s i wr => ∃ (k : Nat) (x : Int), k ≤ n ∧ i = .int .i64 (k : Int) ∧ s = .int .i64 x ∧ Hid (-9223372036854775808 ≤ x ∧ x ≤ 9223372036854775807) ∧ Hid (At c a len cap wr) ∧ Hid (w.grownBy wr (some c))) (fun _ i _ => n - (intOf i).toNat)
    case atStart => exact ⟨0, 0, by omega, rfl, rfl, ⟨by omega, by omega⟩, hA1, hG1⟩
    case round =>
      obtain ⟨k, x, hk, rfl, rfl, HX, HA, HG⟩ := hrel
      by_cases hlt : k < n
      · have hki : (k : Int) < (n : Int) := by omega
        go_wp2_with fail
        refine (Cur.once c a len cap 3 _ hl (by omega) HA.out).mono ?_
        rintro e w2 ⟨b, rfl, hA2, hG2⟩
        have HA2 : Hid (At c a len cap w2) := hA2
        have HG2 : Hid (w.grownBy w2 (some c)) := Cur.grownBy_trans HG.out hG2
        clear hA2 hG2 HA HG
        cases b
        · go_wp2_with fail
          refine (l1BitAny k _ (by omega)).mono ?_
          rintro e w3 ⟨y, rfl, rfl⟩
          go_wp2
          go_roundw
          case rel => exact ⟨k + 1, _, by omega, by go_num, rfl, Draw.bits_bd _ _ _, HA2, HG2⟩
          case measure => simp [intOf]; omega
        · go_wp2
          go_roundw
          case rel => exact ⟨k + 1, x, by omega, by go_num, rfl, HX, HA2, HG2⟩
          case measure => simp [intOf]; omega
      · obtain rfl : k = n := by omega
        go_wp2
        go_ret
        exact ⟨x, rfl, HX.out, HA.out, HG.out⟩
  · go_wp2_with fail
    refine (Draw.drawSet c a len cap _ hl hA1).mono ?_
    rintro e w2 ⟨y, rfl, hy, hA2, hG2⟩
    have G2 := Cur.grownBy_trans hG1 hG2
    go_wp2
    go_ret
    exact ⟨y, rfl, hy, hA2, G2⟩

theorem new_four (W : World) (x : Int) (t : TypeId) (j : Nat) (hj : j < 4) : ∃ y : Int, (W.alloc (.cells #[.int .i64 (-1), .int .i64 x, .int .i64 60, .int .i64 0] t)).cell? ⟨W.heap.size, j, none⟩ = some (.int .i64 y) ∧ (y = -1 ∨ y = x ∨ y = 60 ∨ y = 0) := by
  match j, hj with
  | 0, _ => exact ⟨-1, by simp, .inl rfl⟩
  | 1, _ => exact ⟨x, by simp, .inr (.inl rfl)⟩
  | 2, _ => exact ⟨60, by simp, .inr (.inr (.inl rfl))⟩
  | 3, _ => exact ⟨0, by simp, .inr (.inr (.inr rfl))⟩

set_option maxHeartbeats 1600000 in
theorem l3DrawAt (c : Nat) (a : Option Addr) (len cap n : Nat) (w : World) (hl : len ≤ 4096) (hn : n ≤ 61) (hc : At c a len cap w) :
    Calls Try.prog 73 #[.pointer (some ⟨c, 0, none⟩), .int .i64 (n : Int)] w (NumPost c a len cap w) := by
  have hcw : c < w.heap.size := hc.lt
  have HT : Hid (∀ W : World, At c a len cap W → w.grownBy W (some c) → ∀ w', At c a len cap w' → (W.alloc (.cells #[.int .i64 (-1), .int .i64 (n : Int), .int .i64 60, .int .i64 0] 2)).grownBy w' (some c) → ∀ j, j < 4 → ∃ y : Int, w'.cell? ⟨W.heap.size, j, none⟩ = some (.int .i64 y) ∧ (-9223372036854775808 ≤ y ∧ y ≤ 9223372036854775807) ∧ w.grownBy w' (some c)) := by
    intro W hA hG w' hA' hG' j hj
    obtain ⟨y, hy, hyc⟩ := new_four W (n : Int) 2 j hj
    refine ⟨y, ((Fr.of_grown hG').cell (p := ⟨W.heap.size, j, none⟩) (by simp) (by have := hA.lt; simp; omega)).trans hy, by omega, Cur.grownBy_trans hG ((World.grownBy_alloc W _ _).trans hG')⟩
  have HGR : Hid (w.grownBy w (some c)) := ⟨rfl, rfl, rfl, Nat.le_refl _, fun _ _ _ => rfl⟩
  go_enter Try.func73, Try.ntmps73
  by_cases hz : n = 0
  · subst hz
    have hAl := Draw.at_alloc hc (.cells #[.int .i64 (-1), .int .i64 ((0 : Nat) : Int), .int .i64 60, .int .i64 0] 2)
    simp only [Int.ofNat_zero] at hAl HT
    go_wp2_with fail
    refine (Cur.below c a len cap 4 _ hl (by omega) hAl).mono ?_
    rintro e w1 ⟨x, rfl, hx0, hx1, hA1, hG1⟩
    have hx2 := hx1 (by omega)
    obtain ⟨j, rfl⟩ := Int.eq_ofNat_of_zero_le hx0
    obtain ⟨y, hy, hyb, hG⟩ := HT.out w hc HGR.out w1 hA1 hG1 j (by omega)
    have hj4 : (j : Int) < 4 := by omega
    clear hG1 hx1 HT
    go_wp2
    go_ret
    exact ⟨y, rfl, hyb, hA1, hG⟩
  · have hz' : (0 : Int) < (n : Int) := by omega
    go_wp2_with fail
    refine (Cur.once c a len cap 10 _ hl (by omega) hc).mono ?_
    rintro e w1 ⟨b, rfl, hA1, hG1⟩
    cases b
    · go_wp2_with fail
      refine (Cur.below c a len cap (n : Int) _ hl (by omega) hA1).mono ?_
      rintro e w2 ⟨x, rfl, hx0, hx1, hA2, hG2⟩
      have hx2 := hx1 hz'
      have G2 := Cur.grownBy_trans hG1 hG2
      go_wp2
      go_ret
      exact ⟨x, rfl, by omega, hA2, G2⟩
    · have hAl := Draw.at_alloc hA1 (.cells #[.int .i64 (-1), .int .i64 (n : Int), .int .i64 60, .int .i64 0] 2)
      go_wp2_with fail
      refine (Cur.below c a len cap 4 _ hl (by omega) hAl).mono ?_
      rintro e w2 ⟨x, rfl, hx0, hx1, hA2, hG2⟩
      have hx2 := hx1 (by omega)
      obtain ⟨j, rfl⟩ := Int.eq_ofNat_of_zero_le hx0
      obtain ⟨y, hy, hyb, hG⟩ := HT.out w1 hA1 hG1 w2 hA2 hG2 j (by omega)
      have hj4 : (j : Int) < 4 := by omega
      clear hG2 hx1 HT hAl hG1
      go_wp2
      go_ret
      exact ⟨y, rfl, hyb, hA2, hG⟩

/-- a list and numbers that the laws draw -/
structure Drawn (B : Nat) (w w' : World) (v : Value) (L : List K) : Prop where
  own : OwnK 26 B w' v L
  len : L.length ≤ 61
  word : ∀ k ∈ L, k.word.size ≤ 13
  bel : Below w.heap.size w w'

set_option maxHeartbeats 1600000 in
theorem drawHandsOf (HD : DrawsRoom) (a : Option Addr) (len cap : Nat) (w : World) (hl : len ≤ 4096) (hc : Cur.Code w a len) :
    Calls Try.prog 20 #[.slice a len cap] w fun e w' => ∃ v L s, e = .returned (.tuple #[v, .int .i64 s]) ∧ Drawn w.heap.size w w' v L ∧ (-9223372036854775808 ≤ s ∧ s ≤ 9223372036854775807) := by
  have HDD : Hid DrawsRoom := HD
  clear HD
  go_enter Try.func20, Try.ntmps20
  go_wp2_with fail
  refine (Cur.new a len cap _ hl hc).mono ?_
  rintro e w1 ⟨rfl, hA1, hb1⟩
  go_wp2_with fail
  refine (l3DrawAny HDD.out _ a len cap _ hl hA1).mono ?_
  rintro e w2 ⟨v, L, rfl, hO, h61, hwd, hA2, hG2⟩
  obtain ⟨g, cp, rfl, _, _, _, _, _, _⟩ := Lc.ownK_shape hO
  have hB2 := Draw.below_of_grown hb1 (Nat.le_refl _) hG2
  have hs1 := hb1.size
  have hlt1 := hA1.lt
  have HO : Hid (OwnK 26 w1.heap.size w2 (.slice (some ⟨g, 0, none⟩) L.length cp) L) := hO
  have HWD : Hid (∀ k ∈ L, k.word.size ≤ 13) := hwd
  clear hO hwd hG2 hb1 hA1
  go_wp2_with fail
  refine (l3DrawSet _ a len cap L.length _ hl h61 hA2).mono ?_
  rintro e w3 ⟨s, rfl, hs, hA3, hG3⟩
  have HF : Hid (Drawn w.heap.size w w3 (.slice (some ⟨g, 0, none⟩) L.length cp) L) := ⟨ownK_base (ownK_grown HO.out hG3 hlt1) hs1, h61, HWD.out, Draw.below_of_grown hB2 (Nat.le_refl _) hG3⟩
  clear HO hB2 hG3 hA2 hA3
  go_wp2
  refine bodyPost_ret (v := .tuple #[.slice (some ⟨g, 0, none⟩) L.length cp, .int .i64 s]) (by simp [results, Try.f20, go_sem]) rfl ?_
  exact ⟨_, L, s, rfl, HF.out, hs⟩

set_option maxHeartbeats 1600000 in
theorem drawAtRound (HD : DrawsRoom) (a : Option Addr) (len cap : Nat) (w : World) (hl : len ≤ 4096) (hc : Cur.Code w a len) :
    Calls Try.prog 21 #[.slice a len cap] w fun e w' => ∃ v L s r, e = .returned (.tuple #[v, .int .i64 s, .int .i64 r]) ∧ Drawn w.heap.size w w' v L ∧ (-9223372036854775808 ≤ s ∧ s ≤ 9223372036854775807) := by
  have HDD : Hid DrawsRoom := HD
  clear HD
  go_enter Try.func21, Try.ntmps21
  go_wp2_with fail
  refine (Cur.new a len cap _ hl hc).mono ?_
  rintro e w1 ⟨rfl, hA1, hb1⟩
  go_wp2_with fail
  refine (l3DrawAny HDD.out _ a len cap _ hl hA1).mono ?_
  rintro e w2 ⟨v, L, rfl, hO, h61, hwd, hA2, hG2⟩
  obtain ⟨g, cp, rfl, _, _, _, _, _, _⟩ := Lc.ownK_shape hO
  have hB2 := Draw.below_of_grown hb1 (Nat.le_refl _) hG2
  have hs1 := hb1.size
  have hlt1 := hA1.lt
  have HO : Hid (OwnK 26 w1.heap.size w2 (.slice (some ⟨g, 0, none⟩) L.length cp) L) := hO
  have HWD : Hid (∀ k ∈ L, k.word.size ≤ 13) := hwd
  clear hO hwd hG2 hb1 hA1
  go_wp2_with fail
  refine (l3DrawSet _ a len cap L.length _ hl h61 hA2).mono ?_
  rintro e w3 ⟨s, rfl, hs, hA3, hG3⟩
  have hB3 := Draw.below_of_grown hB2 (Nat.le_refl _) hG3
  have HO3 : Hid (OwnK 26 w1.heap.size w3 (.slice (some ⟨g, 0, none⟩) L.length cp) L) := ownK_grown HO.out hG3 hlt1
  clear HO hB2 hG3 hA2
  go_wp2_with fail
  refine (l1From _ a len cap (-1) 6 _ hl (by omega) (by omega) (by omega) hA3).mono ?_
  rintro e w4 ⟨r, rfl, _, hA4, hG4⟩
  have HF : Hid (Drawn w.heap.size w w4 (.slice (some ⟨g, 0, none⟩) L.length cp) L) := ⟨ownK_base (ownK_grown HO3.out hG4 hlt1) hs1, h61, HWD.out, Draw.below_of_grown hB3 (Nat.le_refl _) hG4⟩
  clear HO3 hB3 hG4 hA3 hA4
  go_wp2
  refine bodyPost_ret (v := .tuple #[.slice (some ⟨g, 0, none⟩) L.length cp, .int .i64 s, .int .i64 r]) (by simp [results, Try.f21, go_sem]) rfl ?_
  exact ⟨_, L, s, r, rfl, HF.out, hs⟩

end Rm
end Go.Proofs.Ytdcjjopeobnpgaa

namespace Go.Proofs.Ytdcjjopeobnpgaa
open Go.RowKit
set_option maxRecDepth 100000
namespace Sg
open Kn (K okK)
open Bit (bit)
open Lc (at' RdK laceB WordsOk setB)

/-- is there such a knot, of a lace? -/
def isB (L : List K) (k : Int) : Bool := decide (0 ≤ k) && (decide (k < (L.length : Int)) && laceB L)
/-- what Below answers -/
def belowI (L : List K) (k : Int) : Int := if isB L k then bel L k.toNat else -1
/-- what Sees answers -/
def seesB (L : List K) (a b : Int) : Bool := isB L a && (isB L b && bit (bel L a.toNat) b.toNat)
/-- what Closed answers -/
def closedB (L : List K) (s : Int) : Bool := setB L s && closedTo (belows L L.length) s L.length
/-- what Tips answers -/
def tipsI (L : List K) (s : Int) : Int := if closedB L s then tipsTo (belows L L.length) s L.length else -1

theorem isB_parts {L : List K} {k : Int} (h : isB L k = true) : 0 ≤ k ∧ k < (L.length : Int) ∧ laceB L = true := by
  unfold isB at h
  simpa using h

set_option maxHeartbeats 800000 in
theorem l4Is (g off cap : Nat) (L : List K) (k : Int) (w : World) (hcap : L.length ≤ cap) (hw : WordsOk L) (hr : RdK w (some ⟨g, off, none⟩) L) :
    Calls Try.prog 76 #[.slice (some ⟨g, off, none⟩) L.length cap, .int .i64 k] w fun e w' => e = .returned (.bool (isB L k)) ∧ Below w.heap.size w w' := by
  by_cases h0 : 0 ≤ k
  · by_cases h1 : k < (L.length : Int)
    · have HT : Hid (isB L k = laceB L) := by show _ = _; unfold isB; rw [decide_eq_true h0, decide_eq_true h1]; rfl
      go_enter Try.func76, Try.ntmps76
      go_wp2_with fail
      refine (Lc.specLaceOk g off cap L _ hcap hw hr).mono ?_
      rintro e w1 ⟨rfl, hb1⟩
      go_wp2
      go_ret
      exact ⟨by rw [HT.out]; rfl, hb1⟩
    · have HT : Hid (isB L k = false) := by show _ = _; unfold isB; rw [decide_eq_false h1]; simp
      go_enter Try.func76, Try.ntmps76
      go_wp2
      go_ret
      exact ⟨by rw [HT.out]; rfl, Below.refl _ _⟩
  · have HT : Hid (isB L k = false) := by show _ = _; unfold isB; rw [decide_eq_false h0]; rfl
    go_enter Try.func76, Try.ntmps76
    go_wp2
    go_ret
    exact ⟨by rw [HT.out]; rfl, Below.refl _ _⟩

set_option maxHeartbeats 800000 in
theorem specBelow (g off cap : Nat) (L : List K) (k : Int) (w : World) (hcap : L.length ≤ cap) (hw : WordsOk L) (hr : RdK w (some ⟨g, off, none⟩) L) :
    Calls Try.prog 28 #[.slice (some ⟨g, off, none⟩) L.length cap, .int .i64 k] w fun e w' => e = .returned (.int .i64 (belowI L k)) ∧ Below w.heap.size w w' := by
  go_enter Try.func28, Try.ntmps28
  go_wp2_with fail
  refine (l4Is g off cap L k _ hcap hw hr).mono ?_
  rintro e w1 ⟨rfl, hb1⟩
  have hr1 := hr.below hb1
  cases his : isB L k
  · have HT : Hid (belowI L k = -1) := by show _ = _; unfold belowI; rw [his]; rfl
    clear his
    go_wp2
    go_ret
    exact ⟨by rw [HT.out]; rfl, hb1⟩
  · obtain ⟨h0, h1, hlc⟩ := isB_parts his
    have HT : Hid (belowI L k = bel L k.toNat) := by show _ = _; unfold belowI; rw [his]; rfl
    have h60 := ((Lc.lace_iff L).1 hlc).1
    have hf := frm_lace hlc
    clear his hlc
    obtain ⟨p, rfl⟩ := Int.eq_ofNat_of_zero_le h0
    have hp : p < L.length := by omega
    have HG : Hid ((belows L L.length).getD p 0 = bel L p) := belows_get L L.length p hp
    have HBL : Hid ((belows L L.length).length = L.length) := belows_len L L.length
    go_wp2_with fail
    refine (l4All (some ⟨g, off, none⟩) cap L _ h60 hf hr1).mono ?_
    rintro e w2 ⟨bo, bc, rfl, hown, hb2⟩
    have hB2 := hb1.trans (hb2.mono hb1.size)
    have hrd := Lst.own_rd hown
    clear hb1 hb2 hown hr1
    generalize belows L L.length = l at HG HBL hrd ⊢
    have hpl : p < l.length := by rw [HBL.out]; exact hp
    have hpi : (p : Int) < (l.length : Int) := by omega
    rcases hrd with hrd | ⟨b, rfl, hcell⟩
    · rw [hrd] at hpl; simp at hpl
    have cp := hcell p hpl
    rw [HG.out] at cp
    clear hcell HBL HG
    go_wp2
    go_ret
    exact ⟨by rw [HT.out]; rfl, hB2⟩

set_option maxHeartbeats 800000 in
theorem specClosed (g off cap : Nat) (L : List K) (s : Int) (w : World) (hcap : L.length ≤ cap) (hw : WordsOk L) (hr : RdK w (some ⟨g, off, none⟩) L) :
    Calls Try.prog 38 #[.slice (some ⟨g, off, none⟩) L.length cap, .int .i64 s] w fun e w' => e = .returned (.bool (closedB L s)) ∧ Below w.heap.size w w' := by
  go_enter Try.func38, Try.ntmps38
  go_wp2_with fail
  refine (Lc.l3Set g off cap L s _ hcap hw hr).mono ?_
  rintro e w1 ⟨rfl, hb1⟩
  have hr1 := hr.below hb1
  cases hs : setB L s
  · have HT : Hid (closedB L s = false) := by show _ = _; unfold closedB; rw [hs]; rfl
    clear hs
    go_wp2
    go_ret
    exact ⟨by rw [HT.out]; rfl, hb1⟩
  · obtain ⟨hlc, h0, h1, _, h60, _⟩ := Lc.setB_parts hs
    have HT : Hid (closedB L s = closedTo (belows L L.length) s L.length) := by show _ = _; unfold closedB; rw [hs]; rfl
    have hf := frm_lace hlc
    clear hs hlc
    have HBL : Hid ((belows L L.length).length = L.length) := belows_len L L.length
    go_wp2_with fail
    refine (l4All (some ⟨g, off, none⟩) cap L _ h60 hf hr1).mono ?_
    rintro e w2 ⟨bo, bc, rfl, hown, hb2⟩
    have hB2 := hb1.trans (hb2.mono hb1.size)
    have hrd := Lst.own_rd hown
    clear hb1 hb2 hown hr1
    generalize belows L L.length = l at HT HBL hrd ⊢
    rw [← HBL.out] at HT
    go_wp2_with fail
    refine (l4Closed bo bc l s _ (by rw [HBL.out]; exact h60) h0 h1 hrd).mono ?_
    rintro e w3 ⟨rfl, rfl⟩
    go_wp2
    go_ret
    exact ⟨by rw [HT.out]; rfl, hB2⟩

theorem below_drewN {b : Nat} {a w : World} (h : Below b a w) (n : Nat) : Below b a (w.drewN n) := ⟨h.os, h.tape, h.output, h.size, h.block⟩

set_option maxHeartbeats 800000 in
theorem specTips (g off cap : Nat) (L : List K) (s : Int) (w : World) (hcap : L.length ≤ cap) (hw : WordsOk L) (hr : RdK w (some ⟨g, off, none⟩) L) :
    Calls Try.prog 37 #[.slice (some ⟨g, off, none⟩) L.length cap, .int .i64 s] w fun e w' => e = .returned (.int .i64 (tipsI L s)) ∧ Below w.heap.size w w' := by
  go_enter Try.func37, Try.ntmps37
  go_wp2_with fail
  refine (specClosed g off cap L s _ hcap hw hr).mono ?_
  rintro e w1 ⟨rfl, hb1⟩
  have hr1 := hr.below hb1
  cases hs : closedB L s
  · have HT : Hid (tipsI L s = -1) := by show _ = _; unfold tipsI; rw [hs]; rfl
    clear hs
    go_wp2
    go_ret
    exact ⟨by rw [HT.out]; rfl, hb1⟩
  · have hset : setB L s = true := by
      unfold closedB at hs; rw [Bool.and_eq_true] at hs; exact hs.1
    obtain ⟨hlc, h0, h1, _, h60, _⟩ := Lc.setB_parts hset
    have HT : Hid (tipsI L s = tipsTo (belows L L.length) s L.length) := by show _ = _; unfold tipsI; rw [hs]; rfl
    have hf := frm_lace hlc
    clear hs hlc hset
    have HBL : Hid ((belows L L.length).length = L.length) := belows_len L L.length
    go_wp2_with fail
    refine (l4All (some ⟨g, off, none⟩) cap L _ h60 hf hr1).mono ?_
    rintro e w2 ⟨bo, bc, rfl, hown, hb2⟩
    have hB2 := hb1.trans (hb2.mono hb1.size)
    have hrd := Lst.own_rd hown
    clear hb1 hb2 hown hr1
    generalize belows L L.length = l at HT HBL hrd ⊢
    rw [← HBL.out] at HT
    go_wp2_with fail
    refine (l4Tips bo bc l s _ (by rw [HBL.out]; exact h60) h0 h1 hrd).mono ?_
    rintro e w3 ⟨rfl, n3, rfl⟩
    have hB3 := below_drewN hB2 n3
    go_wp2
    go_ret
    exact ⟨by rw [HT.out]; rfl, hB3⟩

set_option maxHeartbeats 1600000 in
theorem specSees (g off cap : Nat) (L : List K) (a b : Int) (w : World) (hcap : L.length ≤ cap) (hw : WordsOk L) (hr : RdK w (some ⟨g, off, none⟩) L) :
    Calls Try.prog 30 #[.slice (some ⟨g, off, none⟩) L.length cap, .int .i64 a, .int .i64 b] w fun e w' => e = .returned (.bool (seesB L a b)) ∧ Below w.heap.size w w' := by
  go_enter Try.func30, Try.ntmps30
  go_wp2_with fail
  refine (l4Is g off cap L a _ hcap hw hr).mono ?_
  rintro e w1 ⟨rfl, hb1⟩
  have hr1 := hr.below hb1
  cases his : isB L a
  · have HT : Hid (seesB L a b = false) := by show _ = _; unfold seesB; rw [his]; rfl
    clear his
    go_wp2
    go_ret
    exact ⟨by rw [HT.out]; rfl, hb1⟩
  · have HT1 : Hid (seesB L a b = (isB L b && bit (bel L a.toNat) b.toNat)) := by show _ = _; unfold seesB; rw [his]; rfl
    obtain ⟨h0, h1, hlc⟩ := isB_parts his
    clear his
    go_wp2_with fail
    refine (l4Is g off cap L b _ hcap hw hr1).mono ?_
    rintro e w2 ⟨rfl, hb2⟩
    have hr2 := hr1.below hb2
    have hB2 := hb1.trans (hb2.mono hb1.size)
    clear hb1 hb2 hr1
    cases hib : isB L b
    · have HT : Hid (seesB L a b = false) := by show _ = _; rw [HT1.out, hib]; rfl
      clear hib HT1
      go_wp2
      go_ret
      exact ⟨by rw [HT.out]; rfl, hB2⟩
    · have HT : Hid (seesB L a b = bit (bel L a.toNat) b.toNat) := by show _ = _; rw [HT1.out, hib]; rfl
      obtain ⟨q0, q1, _⟩ := isB_parts hib
      have h60 := ((Lc.lace_iff L).1 hlc).1
      have hf := frm_lace hlc
      clear hib hlc HT1
      obtain ⟨p, rfl⟩ := Int.eq_ofNat_of_zero_le h0
      have hp : p < L.length := by omega
      have HG : Hid ((belows L L.length).getD p 0 = bel L p) := belows_get L L.length p hp
      have HBL : Hid ((belows L L.length).length = L.length) := belows_len L L.length
      have hbb := bel_bd L p (by omega)
      rw [Int.toNat_natCast] at HT
      go_wp2_with fail
      refine (l4All (some ⟨g, off, none⟩) cap L _ h60 hf hr2).mono ?_
      rintro e w3 ⟨bo, bc, rfl, hown, hb3⟩
      have hB3 := hB2.trans (hb3.mono hB2.size)
      have hrd := Lst.own_rd hown
      clear hB2 hb3 hown hr2
      generalize belows L L.length = l at HG HBL hrd ⊢
      have hpl : p < l.length := by rw [HBL.out]; exact hp
      have hpi : (p : Int) < (l.length : Int) := by omega
      rcases hrd with hrd | ⟨bb, rfl, hcell⟩
      · rw [hrd] at hpl; simp at hpl
      have cp := hcell p hpl
      rw [HG.out] at cp
      clear hcell HBL HG
      generalize bel L p = y at cp HT hbb
      go_wp2_with (go_at_call 79; refine (Base.l1Has _ _ _ hbb.1 hbb.2 q0 (by omega)).mono ?_; rintro e w' ⟨rfl, rfl⟩)
      go_ret
      exact ⟨by rw [HT.out]; rfl, hB3⟩

end Sg
end Go.Proofs.Ytdcjjopeobnpgaa

namespace Go.Proofs.Ytdcjjopeobnpgaa
open Go.RowKit
set_option maxRecDepth 100000
namespace Rm
open Kn (K okK)
open Lc (at' RdK laceB flat OwnK cellsOf)
open Cur (At)

set_option maxHeartbeats 1600000 in
theorem drawBelow (HD : DrawsRoom) (a : Option Addr) (len cap : Nat) (w : World) (hl : len ≤ 4096) (hc : Cur.Code w a len) :
    Calls Try.prog 25 #[.slice a len cap] w fun e w' => ∃ v L s, e = .returned (.tuple #[v, .int .i64 s]) ∧ Drawn w.heap.size w w' v L ∧ (-9223372036854775808 ≤ s ∧ s ≤ 9223372036854775807) := by
  have HDD : Hid DrawsRoom := HD
  clear HD
  go_enter Try.func25, Try.ntmps25
  go_wp2_with fail
  refine (Cur.new a len cap _ hl hc).mono ?_
  rintro e w1 ⟨rfl, hA1, hb1⟩
  go_wp2_with fail
  refine (l3DrawAny HDD.out _ a len cap _ hl hA1).mono ?_
  rintro e w2 ⟨v, L, rfl, hO, h61, hwd, hA2, hG2⟩
  obtain ⟨g, cp, rfl, _, _, _, _, _, _⟩ := Lc.ownK_shape hO
  have hB2 := Draw.below_of_grown hb1 (Nat.le_refl _) hG2
  have hs1 := hb1.size
  have hlt1 := hA1.lt
  have HO : Hid (OwnK 26 w1.heap.size w2 (.slice (some ⟨g, 0, none⟩) L.length cp) L) := hO
  have HWD : Hid (∀ k ∈ L, k.word.size ≤ 13) := hwd
  clear hO hwd hG2 hb1 hA1
  go_wp2_with fail
  refine (l3DrawAt _ a len cap L.length _ hl h61 hA2).mono ?_
  rintro e w3 ⟨s, rfl, hs, hA3, hG3⟩
  have HF : Hid (Drawn w.heap.size w w3 (.slice (some ⟨g, 0, none⟩) L.length cp) L) := ⟨ownK_base (ownK_grown HO.out hG3 hlt1) hs1, h61, HWD.out, Draw.below_of_grown hB2 (Nat.le_refl _) hG3⟩
  clear HO hB2 hG3 hA2 hA3
  go_wp2
  refine bodyPost_ret (v := .tuple #[.slice (some ⟨g, 0, none⟩) L.length cp, .int .i64 s]) (by simp [results, Try.f25, go_sem]) rfl ?_
  exact ⟨_, L, s, rfl, HF.out, hs⟩

set_option maxHeartbeats 1600000 in
theorem drawSees (HD : DrawsRoom) (a : Option Addr) (len cap : Nat) (w : World) (hl : len ≤ 4096) (hc : Cur.Code w a len) :
    Calls Try.prog 27 #[.slice a len cap] w fun e w' => ∃ v L s r, e = .returned (.tuple #[v, .int .i64 s, .int .i64 r]) ∧ Drawn w.heap.size w w' v L := by
  have HDD : Hid DrawsRoom := HD
  clear HD
  go_enter Try.func27, Try.ntmps27
  go_wp2_with fail
  refine (Cur.new a len cap _ hl hc).mono ?_
  rintro e w1 ⟨rfl, hA1, hb1⟩
  go_wp2_with fail
  refine (l3DrawAny HDD.out _ a len cap _ hl hA1).mono ?_
  rintro e w2 ⟨v, L, rfl, hO, h61, hwd, hA2, hG2⟩
  obtain ⟨g, cp, rfl, _, _, _, _, _, _⟩ := Lc.ownK_shape hO
  have hB2 := Draw.below_of_grown hb1 (Nat.le_refl _) hG2
  have hs1 := hb1.size
  have hlt1 := hA1.lt
  have HO : Hid (OwnK 26 w1.heap.size w2 (.slice (some ⟨g, 0, none⟩) L.length cp) L) := hO
  have HWD : Hid (∀ k ∈ L, k.word.size ≤ 13) := hwd
  clear hO hwd hG2 hb1 hA1
  go_wp2_with fail
  refine (l3DrawAt _ a len cap L.length _ hl h61 hA2).mono ?_
  rintro e w3 ⟨s, rfl, _, hA3, hG3⟩
  have hB3 := Draw.below_of_grown hB2 (Nat.le_refl _) hG3
  have HO3 : Hid (OwnK 26 w1.heap.size w3 (.slice (some ⟨g, 0, none⟩) L.length cp) L) := ownK_grown HO.out hG3 hlt1
  clear HO hB2 hG3 hA2
  go_wp2_with fail
  refine (l3DrawAt _ a len cap L.length _ hl h61 hA3).mono ?_
  rintro e w4 ⟨r, rfl, _, hA4, hG4⟩
  have HF : Hid (Drawn w.heap.size w w4 (.slice (some ⟨g, 0, none⟩) L.length cp) L) := ⟨ownK_base (ownK_grown HO3.out hG4 hlt1) hs1, h61, HWD.out, Draw.below_of_grown hB3 (Nat.le_refl _) hG4⟩
  clear HO3 hB3 hG4 hA3 hA4
  go_wp2
  refine bodyPost_ret (v := .tuple #[.slice (some ⟨g, 0, none⟩) L.length cp, .int .i64 s, .int .i64 r]) (by simp [results, Try.f27, go_sem]) rfl ?_
  exact ⟨_, L, s, r, rfl, HF.out⟩

/-- the cursor moves on, the list stays -/
theorem rd_grown2 {A B : World} {c g : Nat} {L : List K} (h : RdK A (some ⟨g, 0, none⟩) L) (hg : A.grownBy B (some c)) (hne : g ≠ c) : RdK B (some ⟨g, 0, none⟩) L := by
  rcases h with h | ⟨g', off', e, hlt, hc⟩
  · exact .inl h
  · cases e
    refine .inr ⟨g, 0, rfl, Nat.lt_of_lt_of_le hlt hg.size, fun i hi => ?_⟩
    have c' := hc i hi
    have f : ∀ o : Nat, B.cell? ⟨g, o, none⟩ = A.cell? ⟨g, o, none⟩ := fun o => (Fr.of_grown hg).cell (p := ⟨g, o, none⟩) hlt hne
    exact ⟨(f _).trans c'.c0, (f _).trans c'.c1, (f _).trans c'.c2, (f _).trans c'.c3⟩

set_option maxHeartbeats 3200000 in
theorem l4DrawSet (c : Nat) (a : Option Addr) (len cap : Nat) (g cp : Nat) (L : List K) (w : World) (hl : len ≤ 4096) (hc : At c a len cap w) (hne : g ≠ c) (h61 : L.length ≤ 61) (hcp : L.length ≤ cp) (hw : Lc.WordsOk L) (hr : RdK w (some ⟨g, 0, none⟩) L) :
    Calls Try.prog 114 #[.pointer (some ⟨c, 0, none⟩), .slice (some ⟨g, 0, none⟩) L.length cp] w (NumPost c a len cap w) := by
  go_enter Try.func114, Try.ntmps114
  go_wp2_with fail
  refine (Cur.once c a len cap 6 _ hl (by omega) hc).mono ?_
  rintro e w1 ⟨b, rfl, hA1, hG1⟩
  have hr1 := rd_grown2 hr hG1 hne
  cases b
  · go_wp2_with fail
    refine (Lc.specLaceOk g 0 cp L _ hcp hw hr1).mono ?_
    rintro e w2 ⟨rfl, hb2⟩
    have hA2 := hA1.below hb2
    have G2 : w.grownBy w2 (some c) := ((Fr.of_grown hG1).trans (Fr.of_below hb2 (fun x => x = c)) (fun _ h _ => h)).grown
    have hr2 := hr1.below hb2
    clear hA1 hG1 hb2 hr1
    cases hlc : laceB L
    · go_wp2_with fail
      refine (l3DrawSet _ a len cap L.length _ hl h61 hA2).mono ?_
      rintro e w3 ⟨s, rfl, hs, hA3, hG3⟩
      have G3 := Cur.grownBy_trans G2 hG3
      go_wp2
      go_ret
      exact ⟨s, rfl, hs, hA3, G3⟩
    · have h60 := ((Lc.lace_iff L).1 hlc).1
      have hf := Sg.frm_lace hlc
      clear hlc
      go_wp2_with fail
      refine (Sg.l4All (some ⟨g, 0, none⟩) cp L _ h60 hf hr2).mono ?_
      rintro e w3 ⟨bo, bc, rfl, hown, hb3⟩
      have hbl := Sg.belows_len L L.length
      have hA3 := hA2.below hb3
      have G3 : w.grownBy w3 (some c) := ((Fr.of_grown G2).trans (Fr.of_below hb3 (fun x => x = c)) (fun _ h _ => h)).grown
      have hlt2 := hA2.lt
      have HON : Hid (Memb.Own w2.heap.size w3 bo bc (Sg.belows L L.length)) := hown
      have HBL : Hid ((Sg.belows L L.length).length = L.length) := hbl
      clear hA2 G2 hb3 hr2 hown hbl
      generalize Sg.belows L L.length = l at HON HBL ⊢
      go_wp2_with fail
      refine (Cur.below c a len cap 4 _ hl (by omega) hA3).mono ?_
      rintro e w4 ⟨k, rfl, hk0, hk1, hA4, hG4⟩
      have hk2 := hk1 (by omega)
      have HO4 : Hid (Memb.Own w2.heap.size w4 bo bc l) := Draw.own_grown HON.out hG4 hlt2
      have HA4 : Hid (At c a len cap w4) := hA4
      have HG4 : Hid (w.grownBy w4 (some c)) := Cur.grownBy_trans G3 hG4
      clear HON hA3 hA4 hG4 G3 hk1
      have hwl : ∀ x : Int, -1 ≤ x → x ≤ 4 → IntKind.i64.wrap (x - 1) = x - 1 := fun x h1 h2 => by rw [IntKind.wrap_i64]; omega
      go_wp2
      go_loopw [6, 8] (fun s kv wr => ∃ (k x : Int), -1 ≤ k ∧ k ≤ 3 ∧ kv = .int .i64 k ∧ s = .int .i64 x ∧ Hid (-9223372036854775808 ≤ x ∧ x ≤ 9223372036854775807) ∧ Hid (At c a len cap wr) ∧ Hid (w.grownBy wr (some c)) ∧ Hid (Memb.Own w2.heap.size wr bo bc l)) (fun _ kv _ => (intOf kv + 1).toNat)
      case atStart => exact ⟨k, 0, by omega, by omega, rfl, rfl, ⟨by omega, by omega⟩, HA4, HG4, HO4⟩
      case round =>
        obtain ⟨k, x, hk0, hk3, rfl, rfl, HX, HA, HG, HO⟩ := hrel
        by_cases hkn : 0 ≤ k ∧ 0 < L.length
        · have hk' := hkn.1
          have hn' : (0 : Int) < (L.length : Int) := by omega
          have hwk := hwl k (by omega) (by omega)
          clear hwl hkn
          go_wp2_with fail
          refine (Cur.below c a len cap (L.length : Int) _ hl (by omega) HA.out).mono ?_
          rintro e w5 ⟨y, rfl, hy0, hy1, hA5, hG5⟩
          have hy2 := hy1 hn'
          obtain ⟨j, rfl⟩ := Int.eq_ofNat_of_zero_le hy0
          have HO5 : Hid (Memb.Own w2.heap.size w5 bo bc l) := Draw.own_grown HO.out hG5 hlt2
          have HA5 : Hid (At c a len cap w5) := hA5
          have HG5 : Hid (w.grownBy w5 (some c)) := Cur.grownBy_trans HG.out hG5
          have hjl : j < l.length := by have := HBL.out; omega
          have hji : (j : Int) < (l.length : Int) := by omega
          obtain ⟨bb, rfl, hcell⟩ : ∃ bb, bo = some ⟨bb, 0, none⟩ ∧ w5.cell? ⟨bb, j, none⟩ = some (.int .i64 (l.getD j 0)) := by
            rcases Lst.own_rd HO5.out with e | ⟨bb, e, h⟩
            · rw [e] at hjl; simp at hjl
            · exact ⟨bb, e, h j hjl⟩
          clear hA5 hG5 HA HG HO hy1
          generalize l.getD j 0 = z at hcell
          go_wp2
          go_roundw
          case rel => exact ⟨k - 1, _, by omega, by omega, rfl, rfl, Draw.bits_bd _ _ _, HA5, HG5, HO5⟩
          case measure => simp [intOf]; omega
        · have hex : k < 0 ∨ (0 ≤ k ∧ L.length = 0) := by omega
          have HE : Hid (∀ W : World, At c a len cap W → w.grownBy W (some c) → Calls Try.prog 90 #[.pointer (some ⟨c, 0, none⟩), .int .i64 4] W fun e w' => ∃ b : Bool, e = .returned (.bool b) ∧ At c a len cap w' ∧ w.grownBy w' (some c)) := fun W h1 h2 => (Cur.once c a len cap 4 W hl (by omega) h1).mono fun e w' ⟨b, he, hA, hG⟩ => ⟨b, he, hA, Cur.grownBy_trans h2 hG⟩
          clear hkn hwl
          rcases hex with hk | ⟨hk, hz⟩
          · have hk' : ¬ 0 ≤ k := by omega
            go_wp2_with fail
            refine (HE.out _ HA.out HG.out).mono ?_
            rintro e w5 ⟨b, rfl, hA5, hG5⟩
            cases b
            · go_wp2
              go_ret
              exact ⟨x, rfl, HX.out, hA5, hG5⟩
            · go_wp2_with fail
              refine (l1BitAny L.length _ (by omega)).mono ?_
              rintro e w6 ⟨y, rfl, rfl⟩
              go_wp2
              go_ret
              exact ⟨_, rfl, by first | exact wrap_bd _ | exact Cur.wrap64_bd _, hA5, hG5⟩
          · have hz' : ¬ (0 : Int) < (L.length : Int) := by omega
            go_wp2_with fail
            refine (HE.out _ HA.out HG.out).mono ?_
            rintro e w5 ⟨b, rfl, hA5, hG5⟩
            cases b
            · go_wp2
              go_ret
              exact ⟨x, rfl, HX.out, hA5, hG5⟩
            · go_wp2_with fail
              refine (l1BitAny 0 _ (by omega)).mono ?_
              rintro e w6 ⟨y, rfl, rfl⟩
              go_wp2
              go_ret
              exact ⟨_, rfl, by first | exact wrap_bd _ | exact Cur.wrap64_bd _, hA5, hG5⟩
  · go_wp2_with fail
    refine (l3DrawSet _ a len cap L.length _ hl h61 hA1).mono ?_
    rintro e w3 ⟨s, rfl, hs, hA3, hG3⟩
    have G3 := Cur.grownBy_trans hG1 hG3
    go_wp2
    go_ret
    exact ⟨s, rfl, hs, hA3, G3⟩

set_option maxHeartbeats 1600000 in
theorem drawClosed (HD : DrawsRoom) (a : Option Addr) (len cap : Nat) (w : World) (hl : len ≤ 4096) (hc : Cur.Code w a len) :
    Calls Try.prog 86 #[.slice a len cap] w fun e w' => ∃ v L s, e = .returned (.tuple #[v, .int .i64 s]) ∧ Drawn w.heap.size w w' v L ∧ (-9223372036854775808 ≤ s ∧ s ≤ 9223372036854775807) := by
  have HDD : Hid DrawsRoom := HD
  clear HD
  go_enter Try.func86, Try.ntmps86
  go_wp2_with fail
  refine (Cur.new a len cap _ hl hc).mono ?_
  rintro e w1 ⟨rfl, hA1, hb1⟩
  go_wp2_with fail
  refine (l3DrawAny HDD.out _ a len cap _ hl hA1).mono ?_
  rintro e w2 ⟨v, L, rfl, hO, h61, hwd, hA2, hG2⟩
  obtain ⟨g, cp, rfl, hcp, _, hgB, _, hrd, _⟩ := Lc.ownK_shape hO
  have hB2 := Draw.below_of_grown hb1 (Nat.le_refl _) hG2
  have hs1 := hb1.size
  have hlt1 := hA1.lt
  have HO : Hid (OwnK 26 w1.heap.size w2 (.slice (some ⟨g, 0, none⟩) L.length cp) L) := hO
  have HWD : Hid (∀ k ∈ L, k.word.size ≤ 13) := hwd
  have hne : g ≠ w.heap.size := by omega
  have hww : Lc.WordsOk L := fun k hk => by have := hwd k hk; omega
  have hset := l4DrawSet w.heap.size a len cap g cp L w2 hl hA2 hne h61 hcp hww hrd
  clear hO hwd hG2 hb1 hA1 hww hrd
  go_wp2_with fail
  refine hset.mono ?_
  rintro e w3 ⟨s, rfl, hs, hA3, hG3⟩
  have HF : Hid (Drawn w.heap.size w w3 (.slice (some ⟨g, 0, none⟩) L.length cp) L) := ⟨ownK_base (ownK_grown HO.out hG3 hlt1) hs1, h61, HWD.out, Draw.below_of_grown hB2 (Nat.le_refl _) hG3⟩
  clear HO hB2 hG3 hA2 hA3 hset
  go_wp2
  refine bodyPost_ret (v := .tuple #[.slice (some ⟨g, 0, none⟩) L.length cp, .int .i64 s]) (by simp [results, Try.f86, go_sem]) rfl ?_
  exact ⟨_, L, s, rfl, HF.out, hs⟩

set_option maxHeartbeats 800000 in
theorem drawTips (HD : DrawsRoom) (a : Option Addr) (len cap : Nat) (w : World) (hl : len ≤ 4096) (hc : Cur.Code w a len) :
    Calls Try.prog 36 #[.slice a len cap] w fun e w' => ∃ v L s, e = .returned (.tuple #[v, .int .i64 s]) ∧ Drawn w.heap.size w w' v L ∧ (-9223372036854775808 ≤ s ∧ s ≤ 9223372036854775807) := by
  go_enter Try.func36, Try.ntmps36
  go_wp2_with fail
  refine (drawClosed HD a len cap _ hl hc).mono ?_
  rintro e w1 ⟨v, L, s, rfl, hD, hs⟩
  go_wp2
  refine bodyPost_ret (v := .tuple #[v, .int .i64 s]) (by simp [results, Try.f36, go_sem]) rfl ?_
  exact ⟨_, L, s, rfl, hD, hs⟩

end Rm
end Go.Proofs.Ytdcjjopeobnpgaa

namespace Go.Proofs.Ytdcjjopeobnpgaa
open Go.RowKit
set_option maxRecDepth 100000
namespace Lc
open Kn (K okK)
open Bit (bit withB)

theorem pow60 (n : Nat) (hn : n ≤ 60) : (1 : Int) ≤ 2 ^ n ∧ (2 : Int) ^ n ≤ 1152921504606846976 := by
  have hp : 1 ≤ 2 ^ n := Nat.one_le_two_pow
  have hq : 2 ^ n ≤ 2 ^ 60 := Nat.pow_le_pow_right (by decide) hn
  have hpc : ((2 ^ n : Nat) : Int) = (2 : Int) ^ n := by simp
  omega

theorem wrap60 (n : Nat) (hn : n ≤ 60) : IntKind.i64.wrap (2 ^ n) = 2 ^ n := by
  have := pow60 n hn
  rw [IntKind.wrap_i64]; omega

/-- within the lace -/
def inL (n : Nat) (s : Int) : Bool := decide (0 ≤ s) && decide (s / 2 ^ n = 0)

set_option maxHeartbeats 400000 in
theorem all (a : Option Addr) (cap n : Nat) (w : World) (hn : n ≤ 60) : Calls Try.prog 112 #[.slice a n cap] w fun e w' => e = .returned (.int .i64 (2 ^ n - 1)) ∧ w = w' := by
  have h1 := wrap60 n hn
  have h2 := pow60 n hn
  go_enter Try.func112, Try.ntmps112
  go_wp2
  go_ret
  exact ⟨rfl, rfl⟩

set_option maxHeartbeats 400000 in
theorem holds (a : Option Addr) (cap n : Nat) (s : Int) (w : World) (hn : n ≤ 60) (h0 : -9223372036854775808 ≤ s) (h1 : s ≤ 9223372036854775807) : Calls Try.prog 93 #[.slice a n cap, .int .i64 s] w fun e w' => e = .returned (.bool (inL n s)) ∧ w = w' := by
  have HA : Hid ((bits .andNot .i64 s (2 ^ n - 1) == 0) = inL n s) := andNot_zero s n hn h0 h1
  go_enter Try.func93, Try.ntmps93
  go_wp2_with fail
  refine (all _ _ _ _ hn).mono ?_
  rintro e w1 ⟨rfl, rfl⟩
  go_wp2
  go_ret
  exact ⟨by rw [← HA.out]; rfl, rfl⟩

theorem setB_eq (L : List K) (s : Int) : setB L s = (laceB L && inL L.length s) := rfl

set_option maxHeartbeats 1600000 in
theorem implHandsOf (g off cap : Nat) (L : List K) (s : Int) (w : World) (hlen : L.length ≤ 1099511627776) (hw : WordsOk L) (h0 : -9223372036854775808 ≤ s) (h1 : s ≤ 9223372036854775807) (hr : RdK w (some ⟨g, off, none⟩) L) :
    Calls Try.prog 18 #[.slice (some ⟨g, off, none⟩) L.length cap, .int .i64 s] w fun e w' => e = .returned (.int .i64 (handsOfI L s)) ∧ Below w.heap.size w w' := by
  have HLF : Hid (∀ W : World, RdK W (some ⟨g, off, none⟩) L → Calls Try.prog 53 #[.slice (some ⟨g, off, none⟩) L.length cap] W (LacePost L W)) := fun W h => laceOf g off cap L W hlen hw h
  go_enter Try.func18, Try.ntmps18
  go_wp2_with (first | (go_at_call 61; go_in) | fail)
  refine (HLF.out _ hr).mono ?_
  rintro e w1 (⟨hl, g', rfl, hg', hrg, hb1⟩ | ⟨hl, rfl, hb1⟩)
  · have h60 := ((lace_iff L).1 hl).1
    have hh := lace_hands hl
    have HS : Hid (setB L s = inL L.length s) := by show _ = _; rw [setB_eq, hl]; rfl
    clear hl HLF
    go_wp2_with fail
    refine (holds _ _ _ s _ h60 h0 h1).mono ?_
    rintro e w1' ⟨rfl, rfl⟩
    cases hin : inL L.length s
    · have HT : Hid (handsOfI L s = -1) := by show _ = _; unfold handsOfI; rw [HS.out, hin]; rfl
      clear hin HS
      go_wp2
      go_ret
      exact ⟨by rw [HT.out]; rfl, hb1⟩
    · have HT : Hid (handsOfI L s = handsN L s) := by show _ = _; unfold handsOfI; rw [HS.out, hin]; rfl
      obtain ⟨_, q0, q1, qd, _, _⟩ := setB_parts (HS.out.trans hin)
      clear hin HS
      go_wp2_with fail
      refine (hands g' 0 L.length L s _ h60 q0 q1 qd hh hrg).mono ?_
      rintro e w2 ⟨rfl, hb2⟩
      have B2 := hb1.trans (hb2.mono hb1.size)
      clear hb1 hb2 hrg hg' qd
      go_wp2
      go_ret
      exact ⟨by rw [HT.out]; rfl, B2⟩
  · have HT : Hid (handsOfI L s = -1) := by show _ = _; unfold handsOfI; rw [setB_eq, hl]; rfl
    clear hl HLF
    go_wp2
    go_ret
    exact ⟨by rw [HT.out]; rfl, hb1⟩

set_option maxHeartbeats 1600000 in
theorem implAtRound (g off cap : Nat) (L : List K) (s r : Int) (w : World) (hlen : L.length ≤ 1099511627776) (hw : WordsOk L) (h0 : -9223372036854775808 ≤ s) (h1 : s ≤ 9223372036854775807) (hr : RdK w (some ⟨g, off, none⟩) L) :
    Calls Try.prog 19 #[.slice (some ⟨g, off, none⟩) L.length cap, .int .i64 s, .int .i64 r] w fun e w' => e = .returned (.int .i64 (atRoundI L s r)) ∧ Below w.heap.size w w' := by
  have HLF : Hid (∀ W : World, RdK W (some ⟨g, off, none⟩) L → Calls Try.prog 53 #[.slice (some ⟨g, off, none⟩) L.length cap] W (LacePost L W)) := fun W h => laceOf g off cap L W hlen hw h
  have P0 : Hid (Below w.heap.size w (w.alloc (.cells #[.int .i64 r] 2)) ∧ (w.alloc (.cells #[.int .i64 r] 2)).cell? ⟨w.heap.size, 0, none⟩ = some (.int .i64 r) ∧ w.heap.size < (w.alloc (.cells #[.int .i64 r] 2)).heap.size) := ⟨(Below.refl _ _).alloc (Nat.le_refl _) _, by simp, by simp⟩
  go_enter Try.func19, Try.ntmps19
  go_wp2_with (first | (go_at_call 61; go_in) | fail)
  generalize w.alloc (.cells #[.int .i64 r] 2) = w0 at P0 ⊢
  obtain ⟨B0, C0, S0⟩ := P0
  have hr0 := hr.below B0
  generalize hb : w.heap.size = b at *
  refine (HLF.out _ hr0).mono ?_
  rintro e w1 (⟨hl, g', rfl, hg', hrg, hb1⟩ | ⟨hl, rfl, hb1⟩)
  · have h60 := ((lace_iff L).1 hl).1
    have hh := lace_hands hl
    have HS : Hid (setB L s = inL L.length s) := by show _ = _; rw [setB_eq, hl]; rfl
    have c0 := (hb1.cell (p := ⟨b, 0, none⟩) S0).trans C0
    have B1 := B0.trans (hb1.mono (Nat.le_of_lt S0))
    have S1 : b < w1.heap.size := Nat.lt_of_lt_of_le S0 hb1.size
    clear hl HLF hb1 B0 S0 C0 hr0
    go_wp2_with fail
    refine (holds _ _ _ s _ h60 h0 h1).mono ?_
    rintro e w1' ⟨rfl, rfl⟩
    cases hin : inL L.length s
    · have HT : Hid (atRoundI L s r = -1) := by show _ = _; unfold atRoundI; rw [HS.out, hin]; rfl
      clear hin HS
      go_wp2
      go_ret
      exact ⟨by rw [HT.out]; rfl, by first | exact B1 | (rw [hb]; exact B1)⟩
    · have HT : Hid (atRoundI L s r = roundS L s r) := by show _ = _; unfold atRoundI; rw [HS.out, hin]; rfl
      obtain ⟨_, q0, q1, qd, _, _⟩ := setB_parts (HS.out.trans hin)
      clear hin HS
      go_wp2_with (first | (go_at_call 63; go_in) | fail)
      refine (atRound g' 0 L.length L s r _ h60 ((Base.okB_iff s).2 ⟨q0, q1⟩) hrg).mono ?_
      rintro e w2 ⟨rfl, hb2⟩
      have B2 := B1.trans (hb2.mono (Nat.le_of_lt S1))
      clear B1 hb2 hrg hg' qd
      go_wp2
      go_ret
      exact ⟨by rw [HT.out]; rfl, by first | exact B2 | (rw [hb]; exact B2)⟩
  · have HT : Hid (atRoundI L s r = -1) := by show _ = _; unfold atRoundI; rw [setB_eq, hl]; rfl
    have B1 := B0.trans (hb1.mono (Nat.le_of_lt S0))
    clear hl HLF hb1 B0 S0 C0 hr0
    go_wp2
    go_ret
    exact ⟨by rw [HT.out]; rfl, by first | exact B1 | (rw [hb]; exact B1)⟩

end Lc
end Go.Proofs.Ytdcjjopeobnpgaa

namespace Go.Proofs.Ytdcjjopeobnpgaa
open Go.RowKit
set_option maxRecDepth 100000
namespace Rm
open Kn (K okK)
open Bit (bit)
open Lc (at' RdK laceB flat OwnK cellsOf CellsK)
open Cur (At)

/-- a knot as a value -/
abbrev kv (k : K) : Value := .agg #[.int .i64 k.hand, .int .i64 k.round, .int .i64 k.frm, .string k.word]

theorem knS : Try.prog.stoodInHeld 26 = false := by kernel_rfl
theorem knF : Try.prog.underlying 26 = some (.struct (Try.prog.fieldsOf 26)) := by kernel_rfl
theorem knot_ne (h r f : Int) (s : ByteArray) (W : World) : (binOp .neq 26 (.agg #[.int .i64 h, .int .i64 r, .int .i64 f, .string s]) (.agg #[.int .i64 h, .int .i64 r, .int .i64 f, .string s])).run Try.prog W = .ok (.bool false) W := by
  rw [run_neq_struct, run_equalIn_agg W 9999 26 _ _ knF knS]
  simp only [Program.fieldsOf, Try.underlying26]
  simp [go_sem, Op.eqFields, Try.underlying2, Try.underlying9]
theorem knot_eq (h r f : Int) (s : ByteArray) (W : World) : (binOp .eql 26 (.agg #[.int .i64 h, .int .i64 r, .int .i64 f, .string s]) (.agg #[.int .i64 h, .int .i64 r, .int .i64 f, .string s])).run Try.prog W = .ok (.bool true) W := by
  rw [run_eql_struct, run_equalIn_agg W 9999 26 _ _ knF knS]
  simp only [Program.fieldsOf, Try.underlying26]
  simp [go_sem, Op.eqFields, Try.underlying2, Try.underlying9]

set_option maxHeartbeats 400000 in
theorem l1HasAny (s : Int) (i : Nat) (w : World) (h : i ≤ 62) : Calls Try.prog 79 #[.int .i64 s, .int .i64 (i : Int)] w fun e w' => ∃ b : Bool, e = .returned (.bool b) ∧ w = w' := by
  go_enter Try.func79, Try.ntmps79
  go_wp2
  go_ret
  exact ⟨_, rfl, rfl⟩

set_option maxHeartbeats 1600000 in
theorem l3RoundAny (g cap : Nat) (L : List K) (s r : Int) (w : World) (hL : L.length ≤ 61) (hr : RdK w (some ⟨g, 0, none⟩) L) : Calls Try.prog 71 #[.slice (some ⟨g, 0, none⟩) L.length cap, .int .i64 s, .int .i64 r] w fun e w' => ∃ x : Int, e = .returned (.int .i64 x) ∧ w' = w := by
  go_enter Try.func71, Try.ntmps71
  go_wp2
  go_loopw [7, 8] (fun o i wr => ∃ (k : Nat) (x : Int), k ≤ L.length ∧ i = .int .i64 (k : Int) ∧ o = .int .i64 x ∧ wr = w) (fun _ i _ => L.length - (intOf i).toNat)
  case atStart => exact ⟨0, 0, by omega, rfl, rfl, rfl⟩
  case round =>
    obtain ⟨k, x, hk, rfl, rfl, hw⟩ := hrel
    have hw' := hw.symm
    subst hw'
    by_cases hlt : k < L.length
    · have hki : (k : Int) < (L.length : Int) := by omega
      obtain ⟨_, _, c1, _, _⟩ := hr.on k hlt
      rw [Nat.zero_add] at c1
      generalize (at' L k).round = rk at c1
      go_wp2_with fail
      refine (l1HasAny s k _ (by omega)).mono ?_
      rintro e w1 ⟨b, rfl, rfl⟩
      cases b
      · go_wp2
        go_roundw
        case rel => exact ⟨k + 1, x, by omega, by go_num, rfl, by first | rfl | trivial⟩
        case measure => simp [intOf]; omega
      · by_cases hq : rk = r
        · have hq1 : (rk == r) = true := by simpa using hq
          go_wp2_with fail
          refine (l1BitAny k _ (by omega)).mono ?_
          rintro e w1 ⟨y, rfl, rfl⟩
          go_wp2
          go_roundw
          case rel => exact ⟨k + 1, _, by omega, by go_num, rfl, by first | rfl | trivial⟩
          case measure => simp [intOf]; omega
        · have hq1 : (rk == r) = false := by simpa using hq
          go_wp2
          go_roundw
          case rel => exact ⟨k + 1, x, by omega, by go_num, rfl, by first | rfl | trivial⟩
          case measure => simp [intOf]; omega
    · obtain rfl : k = L.length := by omega
      go_wp2
      go_ret
      first | exact ⟨x, rfl, rfl⟩ | exact ⟨⟨x, rfl⟩, rfl⟩

set_option maxHeartbeats 1600000 in
theorem likeLace (a b : Option Addr) (ca cb : Nat) (L : List K) (w : World) (hL : L.length ≤ 1000) (ha : RdK w a L) (hb : RdK w b L) :
    Calls Try.prog 13 #[.slice a L.length ca, .slice b L.length cb] w fun e w' => e = .returned (.bool true) ∧ ∃ n, w' = w.drewN n := by
  go_enter Try.func13, Try.ntmps13
  go_wp2
  go_loopw [5] (fun i wr => ∃ k n : Nat, k ≤ L.length ∧ i = .int .i64 (k : Int) ∧ wr = w.drewN n) (fun i _ => L.length - (intOf i).toNat)
  case atStart => exact ⟨0, 0, by omega, rfl, rfl⟩
  case round =>
    obtain ⟨k, n, hk, rfl, rfl⟩ := hrel
    by_cases hlt : k < L.length
    · obtain ⟨g1, o1, rfl, _, x0, x1, x2, x3⟩ := ha.at k hlt
      obtain ⟨g2, o2, rfl, _, y0, y1, y2, y3⟩ := hb.at k hlt
      have hki : (k : Int) < (L.length : Int) := by omega
      have hne := knot_ne (at' L k).hand (at' L k).round (at' L k).frm (at' L k).word
      generalize (at' L k).hand = h at x0 y0 hne
      generalize (at' L k).round = r at x1 y1 hne
      generalize (at' L k).frm = f at x2 y2 hne
      generalize (at' L k).word = s at x3 y3 hne
      go_wp2_with fail
      go_quiet (fail)
      go_wp2
      go_roundw
      case rel => exact ⟨k + 1, _, by omega, by go_num, rfl⟩
      case measure => simp [intOf]; omega
    · obtain rfl : k = L.length := by omega
      go_wp2
      go_ret
      exact ⟨rfl, n, rfl⟩

theorem four_new (W : World) (t : TypeId) : CellsK (W.alloc (.cells #[.int .i64 0, .int .i64 0, .int .i64 0, .string ⟨#[]⟩] t)) W.heap.size 0 ⟨0, 0, 0, ⟨#[]⟩⟩ ∧ ∀ j, j < 4 → (W.alloc (.cells #[.int .i64 0, .int .i64 0, .int .i64 0, .string ⟨#[]⟩] t)).frozen? ⟨W.heap.size, j, none⟩ = false :=
  ⟨⟨by simp, by simp, by simp, by simp⟩, fun j _ => by simp⟩

/-- a knot of the call's own -/
structure KAt (w : World) (b : Nat) (k : K) : Prop where
  lt : b < w.heap.size
  c0 : w.cell? ⟨b, 0, none⟩ = some (.int .i64 k.hand)
  c1 : w.cell? ⟨b, 1, none⟩ = some (.int .i64 k.round)
  c2 : w.cell? ⟨b, 2, none⟩ = some (.int .i64 k.frm)
  c3 : w.cell? ⟨b, 3, none⟩ = some (.string k.word)
  f0 : w.frozen? ⟨b, 0, none⟩ = false
  f1 : w.frozen? ⟨b, 1, none⟩ = false
  f2 : w.frozen? ⟨b, 2, none⟩ = false
  f3 : w.frozen? ⟨b, 3, none⟩ = false
theorem kat_new (W : World) (k : K) (t : TypeId) : KAt (W.alloc (.cells #[.int .i64 k.hand, .int .i64 k.round, .int .i64 k.frm, .string k.word] t)) W.heap.size k := ⟨by simp, by simp, by simp, by simp, by simp, by simp, by simp, by simp, by simp⟩
theorem kat_fr {S : Nat → Prop} {w w' : World} {b : Nat} {k : K} (h : KAt w b k) (hf : Fr S w w') (hn : ¬ S b) : KAt w' b k :=
  ⟨Nat.lt_of_lt_of_le h.lt hf.size, (hf.cell (p := ⟨b, 0, none⟩) h.lt hn).trans h.c0, (hf.cell (p := ⟨b, 1, none⟩) h.lt hn).trans h.c1, (hf.cell (p := ⟨b, 2, none⟩) h.lt hn).trans h.c2, (hf.cell (p := ⟨b, 3, none⟩) h.lt hn).trans h.c3,
    (hf.frozen (p := ⟨b, 0, none⟩) h.lt hn).trans h.f0, (hf.frozen (p := ⟨b, 1, none⟩) h.lt hn).trans h.f1, (hf.frozen (p := ⟨b, 2, none⟩) h.lt hn).trans h.f2, (hf.frozen (p := ⟨b, 3, none⟩) h.lt hn).trans h.f3⟩
theorem kat_below {w w' : World} {b : Nat} {k : K} (h : KAt w b k) (hb : Below w.heap.size w w') : KAt w' b k := kat_fr (S := fun _ => False) h (Fr.of_below hb _) (fun h => h)
theorem kat_round {w : World} {b : Nat} {k : K} (h : KAt w b k) (x : Int) : KAt (w.setCell ⟨b, 1, none⟩ (.int .i64 x)) b ⟨k.hand, x, k.frm, k.word⟩ :=
  ⟨by simpa using h.lt, (World.cell?_setCell_other _ _ _ _ (by simp)).trans h.c0, World.cell?_setCell_same _ _ _ h.c1, (World.cell?_setCell_other _ _ _ _ (by simp)).trans h.c2, (World.cell?_setCell_other _ _ _ _ (by simp)).trans h.c3, by simpa using h.f0, by simpa using h.f1, by simpa using h.f2, by simpa using h.f3⟩
theorem kat_frm {w : World} {b : Nat} {k : K} (h : KAt w b k) (x : Int) : KAt (w.setCell ⟨b, 2, none⟩ (.int .i64 x)) b ⟨k.hand, k.round, x, k.word⟩ :=
  ⟨by simpa using h.lt, (World.cell?_setCell_other _ _ _ _ (by simp)).trans h.c0, (World.cell?_setCell_other _ _ _ _ (by simp)).trans h.c1, World.cell?_setCell_same _ _ _ h.c2, (World.cell?_setCell_other _ _ _ _ (by simp)).trans h.c3, by simpa using h.f0, by simpa using h.f1, by simpa using h.f2, by simpa using h.f3⟩

end Rm
end Go.Proofs.Ytdcjjopeobnpgaa

namespace Go.Proofs.Ytdcjjopeobnpgaa
open Go.RowKit
set_option maxRecDepth 100000
namespace Rm
open Kn (K okK)
open Bit (bit)
open Lc (at' RdK laceB flat OwnK cellsOf CellsK)
open Cur (At)

theorem kput {w : World} {b : Nat} {k : K} (x : KAt w b k) (v0 v1 v2 v3 : Value) :
    ((((w.setCell ⟨b, 0, none⟩ v0).setCell ⟨b, 1, none⟩ v1).setCell ⟨b, 2, none⟩ v2).setCell ⟨b, 3, none⟩ v3).cell? ⟨b, 0, none⟩ = some v0 ∧
    ((((w.setCell ⟨b, 0, none⟩ v0).setCell ⟨b, 1, none⟩ v1).setCell ⟨b, 2, none⟩ v2).setCell ⟨b, 3, none⟩ v3).cell? ⟨b, 1, none⟩ = some v1 ∧
    ((((w.setCell ⟨b, 0, none⟩ v0).setCell ⟨b, 1, none⟩ v1).setCell ⟨b, 2, none⟩ v2).setCell ⟨b, 3, none⟩ v3).cell? ⟨b, 2, none⟩ = some v2 ∧
    ((((w.setCell ⟨b, 0, none⟩ v0).setCell ⟨b, 1, none⟩ v1).setCell ⟨b, 2, none⟩ v2).setCell ⟨b, 3, none⟩ v3).cell? ⟨b, 3, none⟩ = some v3 := by
  refine ⟨?_, ?_, ?_, ?_⟩
  · rw [World.cell?_setCell_other _ _ _ _ (by simp), World.cell?_setCell_other _ _ _ _ (by simp), World.cell?_setCell_other _ _ _ _ (by simp)]
    exact World.cell?_setCell_same _ _ _ x.c0
  · rw [World.cell?_setCell_other _ _ _ _ (by simp), World.cell?_setCell_other _ _ _ _ (by simp)]
    exact World.cell?_setCell_same _ _ _ ((World.cell?_setCell_other _ _ _ _ (by simp)).trans x.c1)
  · rw [World.cell?_setCell_other _ _ _ _ (by simp)]
    exact World.cell?_setCell_same _ _ _ ((World.cell?_setCell_other _ _ _ _ (by simp)).trans ((World.cell?_setCell_other _ _ _ _ (by simp)).trans x.c2))
  · exact World.cell?_setCell_same _ _ _ ((World.cell?_setCell_other _ _ _ _ (by simp)).trans ((World.cell?_setCell_other _ _ _ _ (by simp)).trans ((World.cell?_setCell_other _ _ _ _ (by simp)).trans x.c3)))

/-- what has been drawn, and where it lies -/
structure TieSt (c : Nat) (a : Option Addr) (len cap : Nat) (w : World) (B kb : Nat) (v : Value) (L : List K) (wx : World) (k : K) : Prop where
  at' : At c a len cap wx
  res : KAt wx w.heap.size ⟨0, 0, 0, ⟨#[]⟩⟩
  knot : KAt wx kb k
  own : OwnK 26 B wx v L
  bel : Below w.heap.size w wx

theorem TieSt.fr {c : Nat} {a : Option Addr} {len cap : Nat} {w : World} {B kb : Nat} {v : Value} {L : List K} {wx wy : World} {k : K} (h : TieSt c a len cap w B kb v L wx k) (hG : wx.grownBy wy (some c)) (hA : At c a len cap wy) (h1 : w.heap.size < c) (h2 : c < B) (h3 : c < kb) : TieSt c a len cap w B kb v L wy k :=
  ⟨hA, kat_fr h.res (Fr.of_grown hG) (by omega), kat_fr h.knot (Fr.of_grown hG) (by omega), ownK_grown h.own hG h2, h.bel.grown hG (by have := h.bel.size; omega) (fun j e => by cases e; omega)⟩

theorem TieSt.put {c : Nat} {a : Option Addr} {len cap : Nat} {w : World} {B kb g : Nat} {n cp : Nat} {L : List K} {wx : World} {k k' : K} {f : Nat} {u : Value} (h : TieSt c a len cap w B kb (.slice (some ⟨g, 0, none⟩) n cp) L wx k) (hk : KAt (wx.setCell ⟨kb, f, none⟩ u) kb k') (hCB : CurB c a len B) (hBk : B ≤ kb) (hB0 : w.heap.size < kb) (hg : g ≠ kb) : TieSt c a len cap w B kb (.slice (some ⟨g, 0, none⟩) n cp) L (wx.setCell ⟨kb, f, none⟩ u) k' :=
  ⟨at_belowB h.at' hCB ((Below.refl B wx).setCell (p := ⟨kb, f, none⟩) hBk u), kat_fr h.res (Fr.set wx ⟨kb, f, none⟩ u) (by simp; omega), hk, ⟨own_fr (Fr.set wx ⟨kb, f, none⟩ u) h.own.1 (fun y e => by cases e; exact hg), h.own.2⟩, h.bel.setCell (p := ⟨kb, f, none⟩) (by simp; omega) u⟩

set_option maxHeartbeats 3200000 in
theorem drawCanTie (HD : DrawsRoom) (a : Option Addr) (len cap : Nat) (w : World) (hl : len ≤ 4096) (hc : Cur.Code w a len) :
    Calls Try.prog 52 #[.slice a len cap] w fun e w' => ∃ v L k, e = .returned (.tuple #[v, kv k]) ∧ Drawn w.heap.size w w' v L ∧ k.word.size ≤ 13 := by
  have HDD : Hid DrawsRoom := HD
  have hB0 : Below w.heap.size w (w.alloc (.cells #[.int .i64 0, .int .i64 0, .int .i64 0, .string ⟨#[]⟩] 26)) := (Below.refl _ w).alloc (Nat.le_refl _) _
  have hR0 := kat_new w ⟨0, 0, 0, ⟨#[]⟩⟩ 26
  have hC0 : Cur.Code (w.alloc (.cells #[.int .i64 0, .int .i64 0, .int .i64 0, .string ⟨#[]⟩] 26)) a len := by
    rcases hc with h | ⟨b, off, ha, hlt, hh⟩
    · exact .inl h
    · refine .inr ⟨b, off, ha, Nat.lt_of_lt_of_le hlt hB0.size, fun j hj => ?_⟩
      obtain ⟨z, hz, hz'⟩ := hh j hj
      exact ⟨z, (hB0.cell (p := ⟨b, off + j, none⟩) hlt).trans hz, hz'⟩
  have hs0 : (w.alloc (.cells #[.int .i64 0, .int .i64 0, .int .i64 0, .string ⟨#[]⟩] 26)).heap.size = w.heap.size + 1 := by simp
  clear HD hc
  go_enter Try.func52, Try.ntmps52
  go_wp2_with fail
  generalize w.alloc (.cells #[.int .i64 0, .int .i64 0, .int .i64 0, .string ⟨#[]⟩] 26) = W0 at hB0 hR0 hC0 hs0 ⊢
  refine (Cur.new a len cap _ hl hC0).mono ?_
  rintro e w1 ⟨rfl, hA1, hb1⟩
  have hR1 := kat_below hR0 hb1
  have hB1 : Below w.heap.size w w1 := hB0.trans (hb1.mono hB0.size)
  have hlt1 := hA1.lt
  have HCB : Hid (CurB (W0.heap.size) a len w1.heap.size) := curB_of hA1
  clear hR0 hB0 hb1 hC0
  have hwc : w.heap.size < W0.heap.size := by omega
  clear hs0
  generalize W0.heap.size = c at hA1 hwc hlt1 HCB ⊢
  go_wp2_with fail
  refine (l3DrawAny HDD.out c a len cap _ hl hA1).mono ?_
  rintro e w2 ⟨v, L, rfl, hO2, h61, hwd, hA2, hG2⟩
  obtain ⟨g, cp, rfl, hcp, _, hgB, _, _, _⟩ := Lc.ownK_shape hO2
  have hR2 := kat_fr hR1 (Fr.of_grown hG2) (by omega)
  have hB2 : Below w.heap.size w w2 := hB1.grown hG2 hB1.size (fun j e => by cases e; omega)
  have HWD : Hid (∀ k ∈ L, k.word.size ≤ 13) := hwd
  have hsw : w1.heap.size ≤ w2.heap.size := hG2.size
  clear hR1 hG2 hA1 hwd
  go_wp2_with fail
  refine (Kn.draw c a len cap _ hl hA2).mono ?_
  rintro e w3 ⟨h, r, f, s, rfl, hs13, hA3, hG3⟩
  have hR3 := kat_fr hR2 (Fr.of_grown hG3) (by omega)
  have hB3 : Below w.heap.size w w3 := hB2.grown hG3 hB2.size (fun j e => by cases e; omega)
  have hO3 := ownK_grown hO2 hG3 (by omega)
  have hs23 := hG3.size
  have hg2 : g < w2.heap.size := (World.ownsRow.lt hO2.1 g rfl).2
  have HT : Hid (TieSt c a len cap w w1.heap.size w3.heap.size (.slice (some ⟨g, 0, none⟩) L.length cp) L (w3.alloc (.cells #[.int .i64 h, .int .i64 r, .int .i64 f, .string s] 26)) ⟨h, r, f, s⟩) :=
    ⟨Draw.at_alloc hA3 _, kat_below hR3 ((Below.refl _ _).alloc (Nat.le_refl _) _), kat_new w3 ⟨h, r, f, s⟩ _, Lc.ownK_below hO3 ((Below.refl _ _).alloc (Nat.le_refl _) _), hB3.alloc hB3.size _⟩
  have hcb : c < w3.heap.size := hA3.lt
  clear hR3 hR2 hB3 hB2 hB1 hO3 hO2 hA3 hA2 hG3
  go_upto_region 5 with fail
  generalize w3.alloc (.cells #[.int .i64 h, .int .i64 r, .int .i64 f, .string s] 26) = W4 at HT ⊢
  generalize w3.heap.size = kb at HT hcb hs23 ⊢
  have HLR : Hid (∀ wx k, TieSt c a len cap w w1.heap.size kb (.slice (some ⟨g, 0, none⟩) L.length cp) L wx k → RdK wx (some ⟨g, 0, none⟩) L) := fun wx k h => by
    obtain ⟨g', cp', e', _, _, _, _, hrd, _⟩ := Lc.ownK_shape h.own
    simp only [Value.slice.injEq, Option.some.injEq, Addr.mk.injEq, and_true, true_and] at e'
    obtain ⟨rfl, rfl⟩ := e'
    exact hrd
  have hcB : c < w1.heap.size := hlt1
  go_cut [22] (fun bv wx => ∃ x : Bool, bv = .bool x ∧ (x = true → 0 < L.length) ∧ Hid (TieSt c a len cap w w1.heap.size kb (.slice (some ⟨g, 0, none⟩) L.length cp) L wx ⟨h, r, f, s⟩))
  case first =>
    by_cases hz : L.length = 0
    · have hz' : ¬ (0 : Int) < (L.length : Int) := by omega
      clear hz
      go_wp2_with fail
      go_meet
      exact ⟨false, rfl, fun h => Bool.noConfusion h, HT⟩
    · have hz' : (0 : Int) < (L.length : Int) := by omega
      go_wp2_with fail
      refine (Cur.once c a len cap 2 _ hl (by omega) HT.out.at').mono ?_
      rintro e w5 ⟨b, rfl, hA5, hG5⟩
      have HT5 : Hid (TieSt c a len cap w w1.heap.size kb (.slice (some ⟨g, 0, none⟩) L.length cp) L w5 ⟨h, r, f, s⟩) := HT.out.fr hG5 hA5 hwc hcB hcb
      clear hA5 hG5
      go_wp2_with fail
      go_meet
      exact ⟨b, rfl, fun _ => by omega, HT5⟩
  case rest =>
    obtain ⟨x, rfl, hx, HT5⟩ := hcut
    clear HT
    go_upto_if 22 with fail
    go_cut [7] (fun n7 wx => n7 = .int .i64 (L.length : Int) ∧ ∃ k : K, k.word.size ≤ 13 ∧ Hid (TieSt c a len cap w w1.heap.size kb (.slice (some ⟨g, 0, none⟩) L.length cp) L wx k))
    case first =>
      cases x
      · go_wp2_with fail
        go_meet
        exact ⟨rfl, ⟨h, r, f, s⟩, hs13, HT5⟩
      · have hpos := hx rfl
        have hz' : (0 : Int) < (L.length : Int) := by omega
        go_wp2_with fail
        refine (Cur.below c a len cap (L.length : Int) _ hl (by omega) HT5.out.at').mono ?_
        rintro e w6 ⟨y, rfl, hy0, hy1, hA6, hG6⟩
        have hy2 := hy1 hz'
        obtain ⟨j, rfl⟩ := Int.eq_ofNat_of_zero_le hy0
        have hj : j < L.length := by omega
        have HT6 : Hid (TieSt c a len cap w w1.heap.size kb (.slice (some ⟨g, 0, none⟩) L.length cp) L w6 ⟨h, r, f, s⟩) := HT5.out.fr hG6 hA6 hwc hcB hcb
        obtain ⟨_, _, c1, _, _⟩ := (HLR.out _ _ HT6.out).on j hj
        rw [Nat.zero_add] at c1
        have k1 := HT6.out.knot.c1
        have kf1 := HT6.out.knot.f1
        have hgk : g ≠ kb := by omega
        have HT7 : Hid (∀ z : Int, TieSt c a len cap w w1.heap.size kb (.slice (some ⟨g, 0, none⟩) L.length cp) L (w6.setCell ⟨kb, 1, none⟩ (.int .i64 z)) ⟨h, z, f, s⟩) := fun z => HT6.out.put (kat_round HT6.out.knot z) HCB.out (by omega) (by omega) hgk
        generalize (at' L j).round = rj at c1
        clear hA6 hG6 hy1 HT5
        go_wp2_with fail
        have HT8 : Hid (TieSt c a len cap w w1.heap.size kb (.slice (some ⟨g, 0, none⟩) L.length cp) L (w6.setCell ⟨kb, 1, none⟩ (.int .i64 (wrap64 (rj + 1)))) ⟨h, wrap64 (rj + 1), f, s⟩) := HT7.out _
        clear HT7 HT6 c1 k1 kf1
        generalize w6.setCell ⟨kb, 1, none⟩ (.int .i64 (wrap64 (rj + 1))) = w8 at HT8 ⊢
        generalize wrap64 (rj + 1) = rz at HT8 ⊢
        refine (l1BitAny L.length _ (by omega)).mono ?_
        rintro e w9 ⟨y2, rfl, rfl⟩
        go_wp2_with fail
        refine (l3RoundAny g cp L _ rj _ h61 (HLR.out _ _ HT8.out)).mono ?_
        rintro e w9 ⟨fr, rfl, hw9⟩
        subst hw9
        have HT9 : Hid (TieSt c a len cap w w1.heap.size kb (.slice (some ⟨g, 0, none⟩) L.length cp) L (w9.setCell ⟨kb, 2, none⟩ (.int .i64 fr)) ⟨h, rz, fr, s⟩) := HT8.out.put (kat_frm HT8.out.knot fr) HCB.out (by omega) (by omega) hgk
        have k2 := HT8.out.knot.c2
        have kf2 := HT8.out.knot.f2
        go_wp2_with fail
        go_meet
        exact ⟨rfl, ⟨h, rz, fr, s⟩, hs13, HT9⟩
    case rest =>
      obtain ⟨rfl, k, hk13, HT9⟩ := hcut
      clear HT5
      have hB9 := HT9.out.bel
      have hgw : g ≠ w.heap.size := by omega
      have hww : w.heap.size ≤ w1.heap.size := by omega
      have HF : Hid (Drawn w.heap.size w ((((wc.setCell ⟨w.heap.size, 0, none⟩ (.int .i64 k.hand)).setCell ⟨w.heap.size, 1, none⟩ (.int .i64 k.round)).setCell ⟨w.heap.size, 2, none⟩ (.int .i64 k.frm)).setCell ⟨w.heap.size, 3, none⟩ (.string k.word)).drew (.slice (some ⟨g, 0, none⟩) L.length cp) L) := by
        have hf : Fr (fun x => x = w.heap.size) wc ((((wc.setCell ⟨w.heap.size, 0, none⟩ (.int .i64 k.hand)).setCell ⟨w.heap.size, 1, none⟩ (.int .i64 k.round)).setCell ⟨w.heap.size, 2, none⟩ (.int .i64 k.frm)).setCell ⟨w.heap.size, 3, none⟩ (.string k.word)).drew :=
          ((((Fr.set wc ⟨w.heap.size, 0, none⟩ (.int .i64 k.hand)).trans (Fr.set _ ⟨w.heap.size, 1, none⟩ (.int .i64 k.round)) (fun _ h _ => h)).trans (Fr.set _ ⟨w.heap.size, 2, none⟩ (.int .i64 k.frm)) (fun _ h _ => h)).trans (Fr.set _ ⟨w.heap.size, 3, none⟩ (.string k.word)) (fun _ h _ => h)).drew
        refine ⟨ownK_base ⟨own_fr hf HT9.out.own.1 (fun y e => by cases e; exact hgw), HT9.out.own.2⟩ hww, h61, HWD.out, ?_⟩
        exact ((((hB9.setCell (p := ⟨w.heap.size, 0, none⟩) (Nat.le_refl _) _).setCell (p := ⟨w.heap.size, 1, none⟩) (Nat.le_refl _) _).setCell (p := ⟨w.heap.size, 2, none⟩) (Nat.le_refl _) _).setCell (p := ⟨w.heap.size, 3, none⟩) (Nat.le_refl _) _).drew
      have HK : Hid _ := kput HT9.out.res (.int .i64 k.hand) (.int .i64 k.round) (.int .i64 k.frm) (.string k.word)
      obtain ⟨_, a0, a1, a2, a3, _, _, _, _⟩ := HT9.out.knot
      obtain ⟨_, b0, b1, b2, b3, e0, e1, e2, e3⟩ := HT9.out.res
      go_wp2_with fail
      go_region
      go_wp2_with fail
      obtain ⟨y0, y1, y2, y3⟩ := HK.out
      refine bodyPost_ret (v := .tuple #[.slice (some ⟨g, 0, none⟩) L.length cp, kv k]) (by simp [results, Try.f52, go_sem, y0, y1, y2, y3]) rfl ?_
      exact ⟨_, L, k, rfl, HF.out, hk13⟩

set_option maxHeartbeats 1600000 in
theorem drawTied (HD : DrawsRoom) (a : Option Addr) (len cap : Nat) (w : World) (hl : len ≤ 4096) (hc : Cur.Code w a len) :
    Calls Try.prog 10 #[.slice a len cap] w fun e w' => ∃ v L k, e = .returned (.tuple #[v, kv k]) ∧ Drawn w.heap.size w w' v L ∧ k.word.size ≤ 13 := by
  have hB0 : Below w.heap.size w (w.alloc (.cells #[.int .i64 0, .int .i64 0, .int .i64 0, .string ⟨#[]⟩] 26)) := (Below.refl _ w).alloc (Nat.le_refl _) _
  have hR0 := kat_new w ⟨0, 0, 0, ⟨#[]⟩⟩ 26
  have hC0 : Cur.Code (w.alloc (.cells #[.int .i64 0, .int .i64 0, .int .i64 0, .string ⟨#[]⟩] 26)) a len := by
    rcases hc with h | ⟨b, off, ha, hlt, hh⟩
    · exact .inl h
    · refine .inr ⟨b, off, ha, Nat.lt_of_lt_of_le hlt hB0.size, fun j hj => ?_⟩
      obtain ⟨z, hz, hz'⟩ := hh j hj
      exact ⟨z, (hB0.cell (p := ⟨b, off + j, none⟩) hlt).trans hz, hz'⟩
  clear hc
  go_enter Try.func10, Try.ntmps10
  go_wp2_with fail
  generalize w.alloc (.cells #[.int .i64 0, .int .i64 0, .int .i64 0, .string ⟨#[]⟩] 26) = W0 at hB0 hR0 hC0 ⊢
  refine (drawCanTie HD a len cap _ hl hC0).mono ?_
  rintro e w1 ⟨v, L, k, rfl, hD, hk⟩
  obtain ⟨g, cp, rfl, _, _, hgB, _, _, _⟩ := Lc.ownK_shape hD.own
  have hR1 := kat_below hR0 hD.bel
  have hB1 : Below w.heap.size w w1 := hB0.trans (hD.bel.mono hB0.size)
  have hlt0 := hR0.lt
  have hgw : g ≠ w.heap.size := by omega
  have HF : Hid (Drawn w.heap.size w ((((w1.setCell ⟨w.heap.size, 0, none⟩ (.int .i64 k.hand)).setCell ⟨w.heap.size, 1, none⟩ (.int .i64 k.round)).setCell ⟨w.heap.size, 2, none⟩ (.int .i64 k.frm)).setCell ⟨w.heap.size, 3, none⟩ (.string k.word)) (.slice (some ⟨g, 0, none⟩) L.length cp) L) := by
    have hf : Fr (fun x => x = w.heap.size) w1 ((((w1.setCell ⟨w.heap.size, 0, none⟩ (.int .i64 k.hand)).setCell ⟨w.heap.size, 1, none⟩ (.int .i64 k.round)).setCell ⟨w.heap.size, 2, none⟩ (.int .i64 k.frm)).setCell ⟨w.heap.size, 3, none⟩ (.string k.word)) :=
      (((Fr.set w1 ⟨w.heap.size, 0, none⟩ (.int .i64 k.hand)).trans (Fr.set _ ⟨w.heap.size, 1, none⟩ (.int .i64 k.round)) (fun _ h _ => h)).trans (Fr.set _ ⟨w.heap.size, 2, none⟩ (.int .i64 k.frm)) (fun _ h _ => h)).trans (Fr.set _ ⟨w.heap.size, 3, none⟩ (.string k.word)) (fun _ h _ => h)
    refine ⟨ownK_base ⟨own_fr hf hD.own.1 (fun y e => by cases e; exact hgw), hD.own.2⟩ (Nat.le_of_lt hlt0), hD.len, hD.word, ?_⟩
    exact (((hB1.setCell (p := ⟨w.heap.size, 0, none⟩) (Nat.le_refl _) _).setCell (p := ⟨w.heap.size, 1, none⟩) (Nat.le_refl _) _).setCell (p := ⟨w.heap.size, 2, none⟩) (Nat.le_refl _) _).setCell (p := ⟨w.heap.size, 3, none⟩) (Nat.le_refl _) _
  have HK : Hid _ := kput hR1 (.int .i64 k.hand) (.int .i64 k.round) (.int .i64 k.frm) (.string k.word)
  obtain ⟨_, b0, b1, b2, b3, e0, e1, e2, e3⟩ := hR1
  clear hR0 hB0 hC0 hD hB1
  go_wp2_with fail
  obtain ⟨y0, y1, y2, y3⟩ := HK.out
  refine bodyPost_ret (v := .tuple #[.slice (some ⟨g, 0, none⟩) L.length cp, kv k]) (by simp [results, Try.f10, go_sem, y0, y1, y2, y3]) rfl ?_
  exact ⟨_, L, k, rfl, HF.out, hk⟩

end Rm
end Go.Proofs.Ytdcjjopeobnpgaa

namespace Go.Proofs.Ytdcjjopeobnpgaa
open Go.RowKit
set_option maxRecDepth 100000
namespace Lc
open Kn (K okK)
open Bit (bit withB)

/-- how the program's tying ends, and that the answer's length is its room -/
def ImplTiedC (L : List K) (k : K) (w : World) (e : Ending) (w' : World) : Prop :=
  ∃ g, e = .returned (.tuple #[.slice (some ⟨g, 0, none⟩) (tiedL L k).length (tiedL L k).length, .int .i64 (tiedN L k)]) ∧ w.heap.size ≤ g ∧ Made w' g (tiedL L k).length (tiedL L k) (tiedL L k).length ∧ Below w.heap.size w w'
theorem implTiedC_mk {L : List K} {k : K} {w w' : World} {g n : Nat} {x : Int} {T : List K} (h : tiedL L k = T ∧ tiedN L k = x) (hn : n = T.length) (h1 : w.heap.size ≤ g) (h3 : Made w' g T.length T T.length) (h4 : Below w.heap.size w w') :
    ImplTiedC L k w (.returned (.tuple #[.slice (some ⟨g, 0, none⟩) n n, .int .i64 x])) w' := by
  obtain ⟨rfl, rfl⟩ := h; subst hn; exact ⟨g, rfl, h1, h3, h4⟩

set_option maxHeartbeats 1600000 in
theorem implTiedC (g off cap : Nat) (L : List K) (k : K) (w : World) (hl : L.length ≤ 1048576) (hw : WordsOk L) (hk : k.word.size ≤ 1099511627776) (hr : RdK w (some ⟨g, off, none⟩) L) :
    Calls Try.prog 11 #[.slice (some ⟨g, off, none⟩) L.length cap, .agg #[.int .i64 k.hand, .int .i64 k.round, .int .i64 k.frm, .string k.word]] w (ImplTiedC L k w) := by
  have P0 : Hid (Below w.heap.size w (w.alloc (.cells #[.int .i64 k.hand, .int .i64 k.round, .int .i64 k.frm, .string k.word] 26)) ∧ CellsK (w.alloc (.cells #[.int .i64 k.hand, .int .i64 k.round, .int .i64 k.frm, .string k.word] 26)) w.heap.size 0 k ∧ w.heap.size < (w.alloc (.cells #[.int .i64 k.hand, .int .i64 k.round, .int .i64 k.frm, .string k.word] 26)).heap.size) :=
    ⟨(Below.refl _ _).alloc (Nat.le_refl _) _, ⟨by simp, by simp, by simp, by simp⟩, by simp⟩
  go_enter Try.func11, Try.ntmps11
  go_wp2_with fail
  generalize w.alloc (.cells #[.int .i64 k.hand, .int .i64 k.round, .int .i64 k.frm, .string k.word] 26) = w0 at P0 ⊢
  obtain ⟨B0, C0, S0⟩ := P0
  have hr0 := hr.below B0
  refine (laceOf g off cap L _ (by omega) hw hr0).mono ?_
  rintro e w1 (⟨hlc, g', rfl, hg', hrg, hb1⟩ | ⟨hlc, rfl, hb1⟩)
  · have C1 := C0.below hb1 S0
    have S1 : w.heap.size < w1.heap.size := Nat.lt_of_lt_of_le S0 hb1.size
    have B1 := B0.trans (hb1.mono (Nat.le_of_lt S0))
    have h60 := ((lace_iff L).1 hlc).1
    have hh := lace_hands hlc
    have HL : Hid (laceB L = true) := hlc
    clear hb1 B0 S0 C0 hr0 hlc
    have HC1 : Hid (CellsK w1 w.heap.size 0 k) := C1
    obtain ⟨c0, c1, c2, c3⟩ := C1
    rw [Nat.zero_add] at c1 c2 c3
    go_wp2_with fail
    refine (Kn.knotOf _ _ _ _ _).mono ?_
    rintro e w2 ⟨rfl, hb2⟩
    have hrg2 := hrg.below hb2
    have B2 := B1.trans (hb2.mono (Nat.le_of_lt S1))
    have S2 : w.heap.size < w2.heap.size := Nat.lt_of_lt_of_le S1 hb2.size
    have HC2 : Hid (CellsK w2 w.heap.size 0 k) := HC1.out.below hb2 S1
    clear hb2 B1 S1 hrg HC1 c0 c1 c2 c3 hg'
    go_wp2_with fail
    refine (takes g' 0 L.length L k _ h60 hk hh hrg2).mono ?_
    rintro e w3 ⟨rfl, hb3⟩
    have hrg3 := hrg2.below hb3
    have B3 := B2.trans (hb3.mono (Nat.le_of_lt S2))
    have S3 : w.heap.size < w3.heap.size := Nat.lt_of_lt_of_le S2 hb3.size
    have HC3 : Hid (CellsK w3 w.heap.size 0 k) := HC2.out.below hb3 S2
    clear hb3 B2 S2 hrg2 HC2
    cases htk : takesB L k
    · have HT : Hid _ := tied_same HL.out htk
      clear htk
      go_wp2_with fail
      refine (laceOut g' 0 L.length L _ (by omega) hrg3).mono ?_
      rintro e w4 ⟨rfl, M4, hb4⟩
      have HB4 : Hid (Below w.heap.size w w4) := B3.trans (hb4.mono (Nat.le_of_lt S3))
      have HM4 : Hid (Made w4 w3.heap.size L.length L L.length) := M4
      have hle : w.heap.size ≤ w3.heap.size := Nat.le_of_lt S3
      clear hb4 B3 M4 hrg3
      go_wp2
      go_ret2
      exact implTiedC_mk HT.out rfl hle HM4.out HB4.out
    · have HT : Hid _ := tied_with HL.out htk
      clear htk
      obtain ⟨c0, c1, c2, c3⟩ := HC3.out
      rw [Nat.zero_add] at c1 c2 c3
      go_wp2_with fail
      refine (Kn.knotOf _ _ _ _ _).mono ?_
      rintro e w4 ⟨rfl, hb4⟩
      have hrg4 := hrg3.below hb4
      have B4 := B3.trans (hb4.mono (Nat.le_of_lt S3))
      have S4 : w.heap.size < w4.heap.size := Nat.lt_of_lt_of_le S3 hb4.size
      clear hb4 B3 S3 hrg3 HC3 c0 c1 c2 c3
      go_wp2_with fail
      refine (laceTied g' 0 L.length L k _ hl hrg4).mono ?_
      rintro e w5 ⟨g5, T, hT, rfl, hr5, hb5⟩
      have HT' : Hid (T = L ++ [k]) := hT
      have hTl : T.length ≤ 1048577 := by rw [hT]; simp; omega
      clear hT
      have B5 := B4.trans (hb5.mono (Nat.le_of_lt S4))
      have S5 : w.heap.size < w5.heap.size := Nat.lt_of_lt_of_le S4 hb5.size
      clear hb5 B4 S4 hrg4
      go_wp2_with fail
      refine (laceOut g5 0 T.length T _ hTl hr5).mono ?_
      rintro e w6 ⟨rfl, M6, hb6⟩
      have HB6 : Hid (Below w.heap.size w w6) := B5.trans (hb6.mono (Nat.le_of_lt S5))
      have HM6 : Hid (Made w6 w5.heap.size T.length T T.length) := M6
      have hle : w.heap.size ≤ w5.heap.size := Nat.le_of_lt S5
      clear hb6 B5 M6 hr5
      go_wp2
      go_ret2
      exact implTiedC_mk (T := T) ⟨HT.out.1.trans HT'.out.symm, HT.out.2⟩ rfl hle HM6.out HB6.out
  · have HT : Hid _ := tied_no k hlc
    have B1 := B0.trans (hb1.mono (Nat.le_of_lt S0))
    have HB : Hid (Below w.heap.size w (w1.alloc (.cells #[] 26))) := B1.alloc B1.size _
    have hle := B1.size
    clear hb1 B0 S0 C0 hr0 hlc
    go_wp2
    go_ret2
    exact implTiedC_mk HT.out rfl hle ⟨by simp, fun i hi => by simp at hi, fun i hi => by simp at hi, fun i hi => by simp at hi⟩ HB.out

end Lc
end Go.Proofs.Ytdcjjopeobnpgaa

namespace Go.Proofs.Ytdcjjopeobnpgaa
open Go.RowKit
set_option maxRecDepth 100000
namespace Rm
open Kn (K okK)
open Bit (bit)
open Lc (at' RdK laceB takesB canTieB flat OwnK cellsOf CellsK tiedL tiedN setB roundS handsN)
open Cur (At)

/-- a list that lies there -/
structure LiesT (w : World) (g : Nat) (L : List K) : Prop where
  rd : RdK w (some ⟨g, 0, none⟩) L
  len : L.length ≤ 61
  words : Lc.WordsOk L
theorem LiesT.below {w w' : World} {g : Nat} {L : List K} (h : LiesT w g L) (hb : Below w.heap.size w w') : LiesT w' g L := ⟨h.rd.below hb, h.len, h.words⟩
theorem drawn_liesT {B : Nat} {w w' : World} {v : Value} {L : List K} (h : Drawn B w w' v L) : ∃ g cp, v = .slice (some ⟨g, 0, none⟩) L.length cp ∧ L.length ≤ cp ∧ LiesT w' g L := by
  obtain ⟨g, cp, rfl, hcp, _, _, _, hrd, _⟩ := Lc.ownK_shape h.own
  exact ⟨g, cp, rfl, hcp, hrd, h.len, fun k hk => by have := h.word k hk; omega⟩

/-- what lies where: the list, the knot, the two answers -/
structure TdSt (w : World) (g kb gx gy : Nat) (L T : List K) (k : K) (wx : World) : Prop where
  l : LiesT wx g L
  k : KAt wx kb k
  x : RdK wx (some ⟨gx, 0, none⟩) T
  y : RdK wx (some ⟨gy, 0, none⟩) T
  b : Below w.heap.size w wx
theorem TdSt.below {w : World} {g kb gx gy : Nat} {L T : List K} {k : K} {wx wy : World} (h : TdSt w g kb gx gy L T k wx) (hb : Below wx.heap.size wx wy) : TdSt w g kb gx gy L T k wy :=
  ⟨h.l.below hb, kat_below h.k hb, h.x.below hb, h.y.below hb, h.b.trans (hb.mono h.b.size)⟩

theorem cases3 (L : List K) (k : K) : (laceB L = false ∧ tiedL L k = [] ∧ tiedN L k = -1) ∨ (laceB L = true ∧ takesB L k = false ∧ tiedL L k = L ∧ tiedN L k = -1) ∨ (laceB L = true ∧ takesB L k = true ∧ tiedL L k = L ++ [k] ∧ tiedN L k = (L.length : Int)) := by
  cases hl : laceB L
  · exact .inl ⟨rfl, (Lc.tied_no k hl).1, (Lc.tied_no k hl).2⟩
  · cases ht : takesB L k
    · exact .inr (.inl ⟨rfl, rfl, (Lc.tied_same hl ht).1, (Lc.tied_same hl ht).2⟩)
    · exact .inr (.inr ⟨rfl, rfl, (Lc.tied_with hl ht).1, (Lc.tied_with hl ht).2⟩)

/-- what is known of a knot that a lace takes -/
structure KnotFacts (L : List K) (k : K) : Prop where
  f0 : 0 ≤ k.frm
  f1 : k.frm < 1152921504606846976
  r0 : 0 ≤ roundS L k.frm (k.round - 1)
  r1 : roundS L k.frm (k.round - 1) < 1152921504606846976
  at' : Lc.atRoundI L k.frm (k.round - 1) = roundS L k.frm (k.round - 1)
  hands : Lc.handsOfI L (roundS L k.frm (k.round - 1)) = handsN L (roundS L k.frm (k.round - 1))
  three : k.round ≠ 0 → 3 ≤ handsN L (roundS L k.frm (k.round - 1))
  k0 : 0 ≤ k.round
  k1 : k.round ≤ 19

theorem knot_facts {L : List K} {k : K} (hl : laceB L = true) (ht : takesB L k = true) : KnotFacts L k := by
  have h60 := ((Lc.lace_iff L).1 hl).1
  unfold Lc.takesB at ht
  rw [Bool.and_eq_true] at ht
  have hc := ht.2
  have hok := Lc.can_ok hc
  have hf := Lc.ok_frm hok
  have hr := Lc.ok_round hok
  simp only [Lc.canB, Bool.and_eq_true, decide_eq_true_eq] at hc
  have hb := Lc.among_bd (fun y => decide (y.round = k.round - 1)) L k.frm L.length h60
  have hs1 : setB L k.frm = true := by rw [Lc.setB_eq, hl]; unfold Lc.inL; simp [hf.1, hc.2.1]
  have hs2 : setB L (roundS L k.frm (k.round - 1)) = true := by
    rw [Lc.setB_eq, hl]; unfold Lc.inL
    have hd : roundS L k.frm (k.round - 1) / 2 ^ L.length = 0 := Lc.div_of_bits _ _ hb.1 (fun i hi => by
      show bit (Lc.amongI _ L k.frm L.length) i = false
      rw [Lc.bit_among _ L k.frm _ h60]; simp; intro h; omega)
    simp [hd]; exact hb.1
  refine ⟨hf.1, hf.2, hb.1, hb.2, by unfold Lc.atRoundI; rw [hs1]; rfl, by unfold Lc.handsOfI; rw [hs2]; rfl, fun hz => ?_, hr.1, hr.2⟩
  have hh := hc.2.2.2
  simp only [Lc.handsB, Bool.or_eq_true, decide_eq_true_eq] at hh
  exact hh.resolve_left hz

set_option maxHeartbeats 12800000 in
theorem tiedWalk (HD : DrawsRoom) (a0 : Option Addr) (len0 cap0 : Nat) (w : World) (hcode : Cur.Code w a0 len0) :
    Calls Try.prog 3 #[.slice a0 len0 cap0] w fun e w' => e = .returned (.bool true) ∧ Below w.heap.size w w' := by
  by_cases hbig : 4096 < len0
  · have hb' : (4096 : Int) < (len0 : Int) := by omega
    go_enter Try.func3, Try.ntmps3
    go_wp2
    go_ret
    exact ⟨rfl, Below.refl _ _⟩
  · have hb' : ¬ (4096 : Int) < (len0 : Int) := by omega
    have hle0 : len0 ≤ 4096 := by omega
    have HDD : Hid DrawsRoom := HD
    have HCode : Hid (Cur.Code w a0 len0) := hcode
    clear hbig HD hcode
    go_enter Try.func3, Try.ntmps3
    go_wp2_with (first | (go_at_call 9; go_in) | fail)
    refine (drawTied HDD.out a0 len0 cap0 _ hle0 HCode.out).mono ?_
    rintro e w1 ⟨v, L, k, rfl, hD1, hk13⟩
    obtain ⟨g, cp, rfl, hcp, hL1⟩ := drawn_liesT hD1
    have hB1 : Below w.heap.size w w1 := hD1.bel
    have HL2 : Hid (LiesT (w1.alloc (.cells #[.int .i64 k.hand, .int .i64 k.round, .int .i64 k.frm, .string k.word] 26)) g L) := hL1.below ((Below.refl _ _).alloc (Nat.le_refl _) _)
    have HK2 : Hid (KAt (w1.alloc (.cells #[.int .i64 k.hand, .int .i64 k.round, .int .i64 k.frm, .string k.word] 26)) w1.heap.size k) := kat_new w1 k _
    have HB2 : Hid (Below w.heap.size w (w1.alloc (.cells #[.int .i64 k.hand, .int .i64 k.round, .int .i64 k.frm, .string k.word] 26))) := hB1.alloc hB1.size _
    clear hD1 hL1 hB1
    go_upto_region 4 with fail
    generalize w1.alloc (.cells #[.int .i64 k.hand, .int .i64 k.round, .int .i64 k.frm, .string k.word] 26) = W2 at HL2 HK2 HB2 ⊢
    generalize w1.heap.size = kb at HK2 ⊢
    have hl61 := HL2.out.len
    have hkw : k.word.size ≤ 1099511627776 := by omega
    obtain ⟨_, a0', a1, a2, a3, _, _, _, _⟩ := HK2.out
    go_wp2_with fail
    refine (Lc.implTiedC g 0 cp L k _ (by omega) HL2.out.words hkw HL2.out.rd).mono ?_
    rintro e w3 ⟨gx, rfl, hgx, hMx, hb3⟩
    have HL3 : Hid (LiesT w3 g L) := HL2.out.below hb3
    have HK3 : Hid (KAt w3 kb k) := kat_below HK2.out hb3
    have HB3 : Hid (Below w.heap.size w w3) := HB2.out.trans (hb3.mono HB2.out.size)
    have HX3 : Hid (RdK w3 (some ⟨gx, 0, none⟩) (tiedL L k)) := Lc.made_rd hMx
    clear hb3 hMx hgx HL2 HK2 HB2 a0' a1 a2 a3
    obtain ⟨_, a0', a1, a2, a3, _, _, _, _⟩ := HK3.out
    go_wp2_with fail
    refine (Lc.specTied g 0 cp L k _ (by omega) hcp HL3.out.words hkw HL3.out.rd).mono ?_
    rintro e w4 ⟨gy, cy, rfl, _, _, hry, hb4⟩
    have HS4 : Hid (TdSt w g kb gx gy L (tiedL L k) k w4) := ⟨HL3.out.below hb4, kat_below HK3.out hb4, HX3.out.below hb4, hry, HB3.out.trans (hb4.mono HB3.out.size)⟩
    clear hb4 hry HL3 HK3 HB3 HX3 a0' a1 a2 a3
    have hTl : (tiedL L k).length ≤ 62 := by have := Lc.tied_len L k; omega
    have HC3 : Hid ((laceB L = false ∧ tiedL L k = [] ∧ tiedN L k = -1) ∨ (laceB L = true ∧ takesB L k = false ∧ tiedL L k = L ∧ tiedN L k = -1) ∨ (laceB L = true ∧ takesB L k = true ∧ tiedL L k = L ++ [k] ∧ tiedN L k = (L.length : Int))) := cases3 L k
    generalize tiedL L k = T at HC3 HS4 hTl ⊢
    generalize tiedN L k = nv at HC3 ⊢
    go_upto_region 6 with fail
    go_cut [52] (fun bv wx => bv = .bool false ∧ Hid (TdSt w g kb gx gy L T k wx))
    case first =>
      have HLK : Hid (∀ W : World, TdSt w g kb gx gy L T k W → Calls Try.prog 13 #[.slice (some ⟨gx, 0, none⟩) T.length T.length, .slice (some ⟨gy, 0, none⟩) T.length cy] W fun e w' => e = .returned (.bool true) ∧ Below W.heap.size W w') := fun W h => (likeLace _ _ _ _ T W (by omega) h.x h.y).mono fun e w' ⟨he, n, hn⟩ => ⟨he, by rw [hn]; exact Lc.below_drewN' (Below.refl _ _) n⟩
      have HIL : Hid (∀ W : World, TdSt w g kb gx gy L T k W → Calls Try.prog 14 #[.slice (some ⟨g, 0, none⟩) L.length cp] W fun e w' => e = .returned (.bool (laceB L)) ∧ Below W.heap.size W w') := fun W h => Lc.implLaceOk g 0 cp L W (by omega) h.l.words h.l.rd
      have HSL : Hid (∀ W : World, TdSt w g kb gx gy L T k W → Calls Try.prog 15 #[.slice (some ⟨g, 0, none⟩) L.length cp] W fun e w' => e = .returned (.bool (laceB L)) ∧ Below W.heap.size W w') := fun W h => Lc.specLaceOk g 0 cp L W hcp h.l.words h.l.rd
      have HIC : Hid (∀ W : World, TdSt w g kb gx gy L T k W → Calls Try.prog 16 #[.slice (some ⟨g, 0, none⟩) L.length cp, .agg #[.int .i64 k.hand, .int .i64 k.round, .int .i64 k.frm, .string k.word]] W fun e w' => e = .returned (.bool (canTieB L k)) ∧ Below W.heap.size W w') := fun W h => Lc.implCanTie g 0 cp L k W (by omega) h.l.words hkw h.l.rd
      have HSC : Hid (∀ W : World, TdSt w g kb gx gy L T k W → Calls Try.prog 17 #[.slice (some ⟨g, 0, none⟩) L.length cp, .agg #[.int .i64 k.hand, .int .i64 k.round, .int .i64 k.frm, .string k.word]] W fun e w' => e = .returned (.bool (canTieB L k)) ∧ Below W.heap.size W w') := fun W h => Lc.specCanTie g 0 cp L k W hcp h.l.words hkw h.l.rd
      obtain ⟨hkl, a0', a1, a2, a3, _, _, _, _⟩ := HS4.out.k
      generalize laceB L = lb at HIL HSL
      generalize canTieB L k = cb at HIC HSC
      obtain ⟨X, _, F, HF, HG⟩ := Fam.fam w4
      have hc0 : ∀ z, (F z).cell? ⟨kb, 0, none⟩ = some (.int .i64 k.hand) := fun z => ((HF.out z).cell (p := ⟨kb, 0, none⟩) hkl).trans a0'
      have hc1 : ∀ z, (F z).cell? ⟨kb, 1, none⟩ = some (.int .i64 k.round) := fun z => ((HF.out z).cell (p := ⟨kb, 1, none⟩) hkl).trans a1
      have hc2 : ∀ z, (F z).cell? ⟨kb, 2, none⟩ = some (.int .i64 k.frm) := fun z => ((HF.out z).cell (p := ⟨kb, 2, none⟩) hkl).trans a2
      have hc3 : ∀ z, (F z).cell? ⟨kb, 3, none⟩ = some (.string k.word) := fun z => ((HF.out z).cell (p := ⟨kb, 3, none⟩) hkl).trans a3
      clear a0' a1 a2 a3
      refine Fam.region (F := F) (by kernel_rfl) (by kernel_rfl) (HG.out _ (Below.refl _ w4).drew) ?_
      repeat (go_big_quiet_step (first
        | (go_at_call 13; exact (HLK.out _ (HS4.out.below (HF.out _))).mono fun _ _ h => ⟨h.1, HG.out _ ((HF.out _).trans (h.2.mono (HF.out _).size))⟩)
        | (go_at_call 14; exact (HIL.out _ (HS4.out.below (HF.out _))).mono fun _ _ h => ⟨h.1, HG.out _ ((HF.out _).trans (h.2.mono (HF.out _).size))⟩)
        | (go_at_call 15; exact (HSL.out _ (HS4.out.below (HF.out _))).mono fun _ _ h => ⟨h.1, HG.out _ ((HF.out _).trans (h.2.mono (HF.out _).size))⟩)
        | (go_at_call 16; exact (HIC.out _ (HS4.out.below (HF.out _))).mono fun _ _ h => ⟨h.1, HG.out _ ((HF.out _).trans (h.2.mono (HF.out _).size))⟩)
        | (go_at_call 17; exact (HSC.out _ (HS4.out.below (HF.out _))).mono fun _ _ h => ⟨h.1, HG.out _ ((HF.out _).trans (h.2.mono (HF.out _).size))⟩)))
      refine wpQuiet_nil ?_
      intro w5 hw5
      obtain ⟨z, rfl⟩ := hw5
      have HS5 : Hid (TdSt w g kb gx gy L T k (F z)) := HS4.out.below (HF.out z)
      clear HS4
      go_wp2_with fail
      go_meet
      exact ⟨rfl, HS5⟩
    case rest =>
      obtain ⟨rfl, HS5⟩ := hcut
      clear HS4
      go_wp2_with fail
      refine (Lc.specLaceOk g 0 cp L _ hcp HS5.out.l.words HS5.out.l.rd).mono ?_
      rintro e w6 ⟨rfl, hb6⟩
      have HS6 : Hid (TdSt w g kb gx gy L T k w6) := HS5.out.below hb6
      clear HS5 hb6
      rcases HC3.out with ⟨hlc, rfl, rfl⟩ | ⟨hlc, htk, hTL, rfl⟩ | ⟨hlc, htk, hT, rfl⟩
      · rw [hlc]
        clear HC3 hlc
        go_wp2
        go_ret
        exact ⟨rfl, HS6.out.b⟩
      · have hTL' := hTL.symm
        subst hTL'
        rw [hlc]
        have HCT : Hid (canTieB L k = false) := by show _ = _; unfold Lc.canTieB; rw [htk]; simp
        clear HC3 hlc htk hTL
        go_wp2_with fail
        refine (likeLace _ _ _ _ L _ (by omega) HS6.out.x HS6.out.l.rd).mono ?_
        rintro e w7 ⟨rfl, n7, rfl⟩
        have HS7 : Hid (TdSt w g kb gx gy L L k (w6.drewN n7)) := HS6.out.below (Lc.below_drewN' (Below.refl _ _) n7)
        clear HS6
        generalize w6.drewN n7 = v7 at HS7 ⊢
        obtain ⟨_, a0', a1, a2, a3, _, _, _, _⟩ := HS7.out.k
        go_wp2_with fail
        refine (Lc.implCanTie g 0 cp L k _ (by omega) HS7.out.l.words hkw HS7.out.l.rd).mono ?_
        rintro e w8 ⟨rfl, hb8⟩
        rw [HCT.out]
        have HB8 : Hid (Below w.heap.size w w8) := HS7.out.b.trans (hb8.mono HS7.out.b.size)
        clear HS7 hb8 a0' a1 a2 a3
        go_wp2
        go_ret
        exact ⟨rfl, HB8.out⟩
      · rw [hlc]
        have hmax := knot_facts hlc htk
        have HCH : Hid (KnotFacts L k) := hmax
        have HLS : Hid (laceB (L ++ [k]) = true) := lace_snoc hlc htk
        have hTn : T.length = L.length + 1 := by rw [hT]; simp
        have HTK : Hid (T.take L.length = L ∧ at' T L.length = k) := by
          rw [hT]; exact ⟨by simp, Lc.at_end L k⟩
        have HTW : Hid (Lc.WordsOk T) := by
          rw [hT]; intro y hy
          rcases List.mem_append.1 hy with hy | hy
          · exact HS6.out.l.words y hy
          · simp at hy; subst hy; exact hkw
        have HTL : Hid (laceB T = true) := by rw [hT]; exact HLS.out
        have hn0 : ¬ (L.length : Int) < 0 := by omega
        have hcap : (L.length : Int) ≤ (T.length : Int) := by omega
        have hlt : (L.length : Int) < (T.length : Int) := by omega
        have hltn : L.length < T.length := by omega
        clear HC3 hlc htk hmax hT hTn HLS
        have HIX : Hid (∀ W : World, TdSt w g kb gx gy L T k W → Calls Try.prog 14 #[.slice (some ⟨gx, 0, none⟩) T.length T.length] W fun e w' => e = .returned (.bool true) ∧ Below W.heap.size W w') := fun W h => by
          have := Lc.implLaceOk gx 0 T.length T W (by omega) HTW.out h.x
          rwa [HTL.out] at this
        have HLK : Hid (∀ W : World, TdSt w g kb gx gy L T k W → Calls Try.prog 13 #[.slice (some ⟨gx, 0, none⟩) L.length T.length, .slice (some ⟨g, 0, none⟩) L.length cp] W fun e w' => e = .returned (.bool true) ∧ Below W.heap.size W w') := fun W h => by
          have hx := h.x.take L.length
          rw [HTK.out.1] at hx
          exact (likeLace _ _ _ _ L W (by omega) hx h.l.rd).mono fun e w' ⟨he, n, hn⟩ => ⟨he, by rw [hn]; exact Lc.below_drewN' (Below.refl _ _) n⟩
        have HAR : Hid (∀ W : World, TdSt w g kb gx gy L T k W → Calls Try.prog 19 #[.slice (some ⟨g, 0, none⟩) L.length cp, .int .i64 k.frm, .int .i64 (k.round - 1)] W fun e w' => e = .returned (.int .i64 (roundS L k.frm (k.round - 1))) ∧ Below W.heap.size W w') := fun W h => by
          have := Lc.implAtRound g 0 cp L k.frm (k.round - 1) W (by omega) h.l.words (by have := HCH.out.f0; omega) (by have := HCH.out.f1; omega) h.l.rd
          rwa [HCH.out.at'] at this
        have HHO : Hid (∀ W : World, TdSt w g kb gx gy L T k W → Calls Try.prog 18 #[.slice (some ⟨g, 0, none⟩) L.length cp, .int .i64 (roundS L k.frm (k.round - 1))] W fun e w' => e = .returned (.int .i64 (handsN L (roundS L k.frm (k.round - 1)))) ∧ Below W.heap.size W w') := fun W h => by
          have := Lc.implHandsOf g 0 cp L (roundS L k.frm (k.round - 1)) W (by omega) h.l.words (by have := HCH.out.r0; omega) (by have := HCH.out.r1; omega) h.l.rd
          rwa [HCH.out.hands] at this
        have HTH : Hid (k.round ≠ 0 → 3 ≤ handsN L (roundS L k.frm (k.round - 1))) := HCH.out.three
        have hwr : IntKind.i64.wrap (k.round - 1) = k.round - 1 := by have := HCH.out.k0; have := HCH.out.k1; rw [IntKind.wrap_i64]; omega
        obtain ⟨hkl, a0', a1, a2, a3, _, _, _, _⟩ := HS6.out.k
        obtain ⟨hxl, x0, x1, x2, x3⟩ := HS6.out.x.on L.length hltn
        rw [HTK.out.2] at x0 x1 x2 x3
        rw [Nat.zero_add] at x0 x1 x2 x3
        have heq := knot_eq k.hand k.round k.frm k.word
        clear HTK HTW HTL HCH
        generalize handsN L (roundS L k.frm (k.round - 1)) = hv at HHO HTH
        generalize roundS L k.frm (k.round - 1) = rv at HAR HHO
        by_cases hz : k.round = 0
        · have hz1 : (k.round == 0) = true := by simpa using hz
          clear hz HTH
          obtain ⟨X, _, F, HF, HG⟩ := Fam.fam w6
          have hc0 : ∀ z, (F z).cell? ⟨kb, 0, none⟩ = some (.int .i64 k.hand) := fun z => ((HF.out z).cell (p := ⟨kb, 0, none⟩) hkl).trans a0'
          have hc1 : ∀ z, (F z).cell? ⟨kb, 1, none⟩ = some (.int .i64 k.round) := fun z => ((HF.out z).cell (p := ⟨kb, 1, none⟩) hkl).trans a1
          have hc2 : ∀ z, (F z).cell? ⟨kb, 2, none⟩ = some (.int .i64 k.frm) := fun z => ((HF.out z).cell (p := ⟨kb, 2, none⟩) hkl).trans a2
          have hc3 : ∀ z, (F z).cell? ⟨kb, 3, none⟩ = some (.string k.word) := fun z => ((HF.out z).cell (p := ⟨kb, 3, none⟩) hkl).trans a3
          have hd0 : ∀ z, (F z).cell? ⟨gx, L.length * 4, none⟩ = some (.int .i64 k.hand) := fun z => ((HF.out z).cell (p := ⟨gx, L.length * 4, none⟩) hxl).trans x0
          have hd1 : ∀ z, (F z).cell? ⟨gx, L.length * 4 + 1, none⟩ = some (.int .i64 k.round) := fun z => ((HF.out z).cell (p := ⟨gx, L.length * 4 + 1, none⟩) hxl).trans x1
          have hd2 : ∀ z, (F z).cell? ⟨gx, L.length * 4 + 2, none⟩ = some (.int .i64 k.frm) := fun z => ((HF.out z).cell (p := ⟨gx, L.length * 4 + 2, none⟩) hxl).trans x2
          have hd3 : ∀ z, (F z).cell? ⟨gx, L.length * 4 + 3, none⟩ = some (.string k.word) := fun z => ((HF.out z).cell (p := ⟨gx, L.length * 4 + 3, none⟩) hxl).trans x3
          clear a0' a1 a2 a3 x0 x1 x2 x3
          go_wp2_with fail
          refine Fam.region (F := F) (by kernel_rfl) (by kernel_rfl) (HG.out _ (Below.refl _ w6).drew) ?_
          repeat (go_big_quiet_step (first
            | (go_at_call 14; exact (HIX.out _ (HS6.out.below (HF.out _))).mono fun _ _ h => ⟨h.1, HG.out _ ((HF.out _).trans (h.2.mono (HF.out _).size))⟩)
            | (go_at_call 13; exact (HLK.out _ (HS6.out.below (HF.out _))).mono fun _ _ h => ⟨h.1, HG.out _ ((HF.out _).trans (h.2.mono (HF.out _).size))⟩)
            | (go_at_call 19; exact (HAR.out _ (HS6.out.below (HF.out _))).mono fun _ _ h => ⟨h.1, HG.out _ ((HF.out _).trans (h.2.mono (HF.out _).size))⟩)
            | (go_at_call 18; exact (HHO.out _ (HS6.out.below (HF.out _))).mono fun _ _ h => ⟨h.1, HG.out _ ((HF.out _).trans (h.2.mono (HF.out _).size))⟩)))
          refine wpQuiet_nil ?_
          intro w7 hw7
          obtain ⟨z, rfl⟩ := hw7
          have HB7 : Hid (Below w.heap.size w (F z)) := HS6.out.b.trans ((HF.out z).mono HS6.out.b.size)
          clear HS6
          go_wp2
          go_ret
          exact ⟨rfl, HB7.out⟩
        · have hz1 : (k.round == 0) = false := by simpa using hz
          have h3 := HTH.out hz
          have h3d : decide (3 ≤ hv) = true := decide_eq_true h3
          clear hz HTH
          obtain ⟨X, _, F, HF, HG⟩ := Fam.fam w6
          have hc0 : ∀ z, (F z).cell? ⟨kb, 0, none⟩ = some (.int .i64 k.hand) := fun z => ((HF.out z).cell (p := ⟨kb, 0, none⟩) hkl).trans a0'
          have hc1 : ∀ z, (F z).cell? ⟨kb, 1, none⟩ = some (.int .i64 k.round) := fun z => ((HF.out z).cell (p := ⟨kb, 1, none⟩) hkl).trans a1
          have hc2 : ∀ z, (F z).cell? ⟨kb, 2, none⟩ = some (.int .i64 k.frm) := fun z => ((HF.out z).cell (p := ⟨kb, 2, none⟩) hkl).trans a2
          have hc3 : ∀ z, (F z).cell? ⟨kb, 3, none⟩ = some (.string k.word) := fun z => ((HF.out z).cell (p := ⟨kb, 3, none⟩) hkl).trans a3
          have hd0 : ∀ z, (F z).cell? ⟨gx, L.length * 4, none⟩ = some (.int .i64 k.hand) := fun z => ((HF.out z).cell (p := ⟨gx, L.length * 4, none⟩) hxl).trans x0
          have hd1 : ∀ z, (F z).cell? ⟨gx, L.length * 4 + 1, none⟩ = some (.int .i64 k.round) := fun z => ((HF.out z).cell (p := ⟨gx, L.length * 4 + 1, none⟩) hxl).trans x1
          have hd2 : ∀ z, (F z).cell? ⟨gx, L.length * 4 + 2, none⟩ = some (.int .i64 k.frm) := fun z => ((HF.out z).cell (p := ⟨gx, L.length * 4 + 2, none⟩) hxl).trans x2
          have hd3 : ∀ z, (F z).cell? ⟨gx, L.length * 4 + 3, none⟩ = some (.string k.word) := fun z => ((HF.out z).cell (p := ⟨gx, L.length * 4 + 3, none⟩) hxl).trans x3
          clear a0' a1 a2 a3 x0 x1 x2 x3
          go_wp2_with fail
          refine Fam.region (F := F) (by kernel_rfl) (by kernel_rfl) (HG.out _ (Below.refl _ w6).drew) ?_
          repeat (go_big_quiet_step (first
            | (go_at_call 14; exact (HIX.out _ (HS6.out.below (HF.out _))).mono fun _ _ h => ⟨h.1, HG.out _ ((HF.out _).trans (h.2.mono (HF.out _).size))⟩)
            | (go_at_call 13; exact (HLK.out _ (HS6.out.below (HF.out _))).mono fun _ _ h => ⟨h.1, HG.out _ ((HF.out _).trans (h.2.mono (HF.out _).size))⟩)
            | (go_at_call 19; exact (HAR.out _ (HS6.out.below (HF.out _))).mono fun _ _ h => ⟨h.1, HG.out _ ((HF.out _).trans (h.2.mono (HF.out _).size))⟩)
            | (go_at_call 18; exact (HHO.out _ (HS6.out.below (HF.out _))).mono fun _ _ h => ⟨h.1, HG.out _ ((HF.out _).trans (h.2.mono (HF.out _).size))⟩)))
          refine wpQuiet_nil ?_
          intro w7 hw7
          obtain ⟨z, rfl⟩ := hw7
          have HB7 : Hid (Below w.heap.size w (F z)) := HS6.out.b.trans ((HF.out z).mono HS6.out.b.size)
          clear HS6
          go_wp2
          go_ret
          exact ⟨rfl, HB7.out⟩

end Rm
end Go.Proofs.Ytdcjjopeobnpgaa

namespace Go.Proofs.Ytdcjjopeobnpgaa
open Go.RowKit
namespace Rm

theorem drawsBad : DrawsBad := fun c a len cap ao cp L co nc cc go nh hc bad w hl hca hlc hr hn => l18DrawBad c a len cap ao cp L co nc cc go nh hc bad w hl hca hlc hr hn
theorem drawsRoom : DrawsRoom := fun c a len cap w hl hc => l18Draw' (l18DrawActs' drawsBad (l18DrawAct' drawsBad)) c a len cap w hl hc

end Rm
end Go.Proofs.Ytdcjjopeobnpgaa

namespace Go.Proofs.Ytdcjjopeobnpgaa.fnTied
open Go.ChangeShapes Go.WideShapes Go.ChangeAt Go.RowKit
set_option linter.unusedVariables false
set_option maxRecDepth 100000

theorem own : ownKnob Try.prog.godebug = none := by kernel_rfl
theorem laidOut : laidOutB Try.prog = true := by kernel_rfl

/-- what is told of a slice of integers that came in: it is nil, or it leads to a row of cells that hold these -/
def IsRow (k : IntKind) (w : World) (a : Option Addr) (len cap : Nat) (zs : List Int) : Prop :=
  (a = none ∧ len = 0 ∧ cap = 0 ∧ zs = []) ∨
  ∃ x, a = some x ∧ len ≤ cap ∧ cap ≤ maxLen ∧ zs.length = cap ∧ (∀ i, i < zs.length → w.cell? (x.add i) = some (.int k (zs.getD i 0))) ∧ ∀ n ∈ zs, (Lit.int k n).wf = true

theorem code_of {w : World} {a : Option Addr} {len cap : Nat} {zs : List Int} (h : IsRow .u8 w a len cap zs) : Cur.Code w a len := by
  rcases h with ⟨_, h, _, _⟩ | ⟨x, rfl, hl, _, hz, hcell, hwz⟩
  · exact .inl h
  · by_cases h0 : len = 0
    · exact .inl h0
    · obtain ⟨b, off, spot⟩ := x
      have hc := hcell 0 (by omega)
      have hspot : spot = none := by simpa [Addr.add] using World.cell?_spot hc
      subst hspot
      refine .inr ⟨b, off, rfl, ?_, fun j hj => ?_⟩
      · have := block_lt_of_cell hc; simpa [Addr.add] using this
      · have hcj := hcell j (by omega)
        have hj' : j < zs.length := by omega
        have hw := hwz (zs.getD j 0) (by simp [List.getD, List.getElem?_eq_getElem hj'])
        refine ⟨zs.getD j 0, ?_, ?_⟩
        · by_cases hj0 : j = 0
          · subst hj0; simpa [Addr.add] using hcj
          · simpa [Addr.add, hj0] using hcj
        simpa [Lit.wf, IntKind.min, IntKind.max, IntKind.signed, IntKind.bits] using hw

theorem lifted (os : Os) (started : os.Started) (H : Type) (enc : TypeId × Value → H) :
    ReturnsInHanded {} Try.checked os 3 .any (Rows.fnTiedSpec.pre6 enc Try.prog Try.f3 Rows.fnTiedRow.domain false) (Rows.fnTiedSpec.post enc Try.prog Try.f3 false true false false) := by
  refine returnsInHanded_of_change (C := Try.checked) own started (by kernel_rfl) Try.func3
    (ChangeSpec.witness6 (enc := enc) (C := Try.checked) false ⟨#[], #[.slice none 0 0], []⟩ 8 (by kernel_rfl) (by kernel_rfl) (by kernel_rfl) (by kernel_rfl)) ?_
  intro W base args ds gs before hval0 hW hcnd _
  have hval : ∀ (j : Nat) t v, Try.f3.params[j]? = some t → args[j]? = some v → Value.okWide Try.prog W .any base t v := hval0
  have hW' := hW
  obtain ⟨p, q, hA0, hV, rfl, hfz, hnd⟩ := hW
  have hA : DataW.TrodAll enc Try.prog W 0 (fun _ => true) true Try.f3.params.toList args.toList ds p := hA0
  rw [Try.params3] at hA hval
  obtain ⟨v0, vs0, d0, ds0, p0, q0, hargs, rfl, rfl, h0, r0⟩ := trodAll_cons hA
  obtain ⟨rfl, rfl, rfl⟩ := trodAll_nil r0
  obtain rfl : args = #[v0] := by cases args; simp_all
  obtain ⟨rfl, rfl⟩ := trodVars_none hV
  obtain ⟨a0, len0, cap0, rfl⟩ := okWide_slice Try.underlying22 (hval 0 22 v0 rfl rfl)
  have k0 := h0
  have lt0 : ∀ x ∈ p0, x.block < W.heap.size := by obtain ⟨m, hm⟩ := k0; exact DataW.trod_lt m _ _ _ hm
  obtain ⟨z0, w0⟩ : ∃ zs, IsRow .u8 W a0 len0 cap0 zs := by
    obtain ⟨fuel, hf⟩ := h0
    rcases open_ints Try.underlying22 Try.underlying5 (by kernel_rfl) hf with ⟨hcs, _⟩ | ⟨x, l, c, zs, hcs, _, hl, hm, hz, _, hcell, hwz⟩
    · simp [Value.cells] at hcs
      obtain ⟨rfl, rfl, rfl⟩ := hcs
      exact ⟨[], .inl ⟨rfl, rfl, rfl, rfl⟩⟩
    · simp [Value.cells] at hcs
      obtain ⟨rfl, rfl, rfl⟩ := hcs
      exact ⟨zs, .inr ⟨_, rfl, hl, hm, by simpa using hz, hcell, hwz⟩⟩
  clear hA0 hval0
  simp only [List.append_nil] at hW'
  refine (Rm.tiedWalk Rm.drawsRoom a0 len0 cap0 W (code_of w0)).mono fun e W' ⟨he, bel⟩ => ?_
  subst he
  exact ⟨_, rfl, _, _, _, [], _, [], hW', trodAll_mk1 (shut_bool Try.underlying4 _), (trodAll_cons_mk (Below.trod laidOut (by kernel_rfl) (of_decide_eq_true (by kernel_rfl)) k0 bel lt0) trodAll_mk0), rfl, bel.frame _, fun h => by cases h⟩

theorem over : Rows.fnTiedRow.holds Try.pinned (OpenSpec.ofChange Rows.fnTiedSpec) :=
  OpenClaim.holds_of_wide 3 Try.f3 rfl rfl rfl rfl rfl rfl rfl ⟨rfl, rfl, rfl, rfl, rfl⟩ rfl rfl rfl rfl rfl (by kernel_rfl) Try.func3 (by kernel_rfl)
    (of_decide_eq_true (by kernel_rfl)) (by unfold Func.isWrapper; first | (rw [if_pos (by decide +kernel)]; kernel_rfl) | (rw [if_neg (by decide +kernel)]; exact ⟨rfl, rfl⟩))
    (fun os started H enc _ => lifted os started H enc)

theorem proved : Rows.FnTiedSaid :=
  over
end Go.Proofs.Ytdcjjopeobnpgaa.fnTied
