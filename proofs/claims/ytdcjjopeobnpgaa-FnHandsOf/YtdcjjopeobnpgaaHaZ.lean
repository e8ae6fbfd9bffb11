/-
  FnHandsOf answers true at every code, for HandsOf and AtRound keep promise 3; no condition.
  What the model's drawing of a list of knots hands back, where the drawing of a room keeps its word: a list of at most 61 knots with short words, in memory of its own; it changes the cursor alone.
  What the model's drawing of any list of knots, of a set and of a number hands back, where the drawing of a room keeps its word: a list of at most 61 knots with short words, in memory of its own; it changes the cursor alone.
  What the model's drawings of a set and of a number hand back: a number; they change the cursor alone. And the drawings of the laws on laces, where the drawing of a room keeps its word.
  What the program's own HandsOf and AtRound answer, in the words of LaceM; for lists of at most 2^40 knots whose words have at most 2^40 bytes.
  What the law on hands and rounds answers, where the drawing of a room keeps its word: true at every code.
  The drawing of a room keeps its word.
-/
import Derived.Test.YtdcjjopeobnpgaaRoomW
import Derived.Test.YtdcjjopeobnpgaaRoomG
import Derived.Test.YtdcjjopeobnpgaaDraw
import Derived.Test.YtdcjjopeobnpgaaDrawK
import Derived.Maps.AppendAt
import Derived.Test.YtdcjjopeobnpgaaLaceE
import Derived.Test.YtdcjjopeobnpgaaRoomXm
import Derived.Test.YtdcjjopeobnpgaaRows
import Derived.WalkKit
import Derived.ProofKit
import Derived.OpenShut
import Derived.ChangeOld
import Derived.Below
namespace Go.Proofs.Ytdcjjopeobnpgaa
open Go.RowKit
set_option maxRecDepth 100000
namespace Rm
open Kn (K okK)
open Lc (at' RdK laceB flat OwnK cellsOf)
open Cur (At)

/-- the drawing of a room keeps its word -/
def DrawsRoom : Prop := ∀ (c : Nat) (a : Option Addr) (len cap : Nat) (w : World), len ≤ 4096 → At c a len cap w → Calls Try.prog 127 #[.pointer (some ⟨c, 0, none⟩)] w (DrawPost c a len cap w)

/-- how the drawing of a list ends -/
def ListPost (m : Nat) (c : Nat) (a : Option Addr) (len cap : Nat) (w : World) (e : Ending) (w' : World) : Prop := ∃ v L, e = .returned v ∧ OwnK 26 w.heap.size w' v L ∧ L.length ≤ m ∧ (∀ k ∈ L, k.word.size ≤ 13) ∧ At c a len cap w' ∧ w.grownBy w' (some c)
/-- how the drawing of a number ends -/
def NumPost (c : Nat) (a : Option Addr) (len cap : Nat) (w : World) (e : Ending) (w' : World) : Prop := ∃ x : Int, e = .returned (.int .i64 x) ∧ (-9223372036854775808 ≤ x ∧ x ≤ 9223372036854775807) ∧ At c a len cap w' ∧ w.grownBy w' (some c)

theorem word_lace {L : List K} (h : laceB L = true) : ∀ k ∈ L, k.word.size ≤ 13 := by
  intro k hk
  obtain ⟨i, hi, rfl⟩ := List.mem_iff_getElem.1 hk
  have := Lc.can_ok (Lc.lace_upTo h i hi)
  rw [Lc.at_get L i hi] at this
  simp only [okK, Bool.and_eq_true] at this
  have h5 := this.2.2.2.2
  simp only [Kn.okW, Bool.and_eq_true, decide_eq_true_eq] at h5
  omega

theorem ownK_base {t : TypeId} {B B' : Nat} {w : World} {v : Value} {L : List K} (h : OwnK t B w v L) (hB : B' ≤ B) : OwnK t B' w v L := by
  obtain ⟨⟨h1, h2 | ⟨g, cp, cur, e, hg, r⟩⟩, hv⟩ := h
  · exact ⟨⟨h1, .inl h2⟩, hv⟩
  · exact ⟨⟨h1, .inr ⟨g, cp, cur, e, Nat.le_trans hB hg, r⟩⟩, hv⟩

theorem ownK_grown {t : TypeId} {B c : Nat} {w w' : World} {v : Value} {L : List K} (h : OwnK t B w v L) (hg : w.grownBy w' (some c)) (hc : c < B) : OwnK t B w' v L :=
  ⟨own_fr (Fr.of_grown hg) h.1 (fun g e => by have := (World.ownsRow.lt h.1 g e).1; omega), h.2⟩

theorem lace_field (ao : Option Addr) (n cp : Nat) (v1 v2 v3 : Value) (W : World) : (Instr.field 115 (.agg #[.slice ao n cp, v1, v2, v3]) 0).run Try.prog W = .ok (.slice ao n cp) W := by kernel_rfl

set_option maxHeartbeats 800000 in
theorem l3Draw (HD : DrawsRoom) (c : Nat) (a : Option Addr) (len cap : Nat) (w : World) (hl : len ≤ 4096) (hc : At c a len cap w) :
    Calls Try.prog 106 #[.pointer (some ⟨c, 0, none⟩)] w (ListPost 60 c a len cap w) := by
  have hcw : c < w.heap.size := hc.lt
  have HDD : Hid DrawsRoom := HD
  clear HD
  go_enter Try.func106, Try.ntmps106
  go_wp2_with fail
  refine (HDD.out c a len cap _ hl hc).mono ?_
  rintro e w1 ⟨R, rfl, hP, hA1, hF1⟩
  obtain ⟨ao, cp, hlv, ho, hz, _, hrd, _⟩ := own_lace hP.own
  have h60 := ((Lc.lace_iff R.L).1 hP.lace).1
  have hwd := word_lace hP.lace
  have HWD : Hid (∀ k ∈ R.L, k.word.size ≤ 13) := hwd
  have HV : Hid (roV R = .agg #[.slice ao R.L.length cp, R.cv, .slice (some ⟨R.gh, 0, none⟩) 4 R.hc, .int .i64 R.bad]) := by show _ = _; unfold roV; rw [hlv]
  rw [HV.out]
  have hfl := lace_field ao R.L.length cp R.cv (.slice (some ⟨R.gh, 0, none⟩) 4 R.hc) (.int .i64 R.bad)
  clear hwd hlv hP
  go_wp2_with fail
  refine (l3CopyO ao cp R.L _ ho hz (by omega) hrd).mono ?_
  rintro e w2 ⟨v, rfl, hO, hb2⟩
  have HR : Hid (OwnK 26 w.heap.size w2 v R.L ∧ At c a len cap w2 ∧ w.grownBy w2 (some c)) := ⟨ownK_base hO hF1.size, hA1.below hb2, (hF1.trans (Fr.of_below hb2 (fun x => x = c)) (fun _ h _ => h)).grown⟩
  clear hO hb2 hA1 hF1 hrd
  go_wp2
  go_ret
  exact ⟨v, R.L, rfl, HR.out.1, h60, HWD.out, HR.out.2.1, HR.out.2.2⟩

set_option maxHeartbeats 400000 in
theorem l1From (c : Nat) (a : Option Addr) (len cap : Nat) (lo hi : Int) (w : World) (hl : len ≤ 4096) (h0 : -10 ≤ lo) (h1 : lo ≤ hi) (h2 : hi ≤ 100) (hc : At c a len cap w) :
    Calls Try.prog 68 #[.pointer (some ⟨c, 0, none⟩), .int .i64 lo, .int .i64 hi] w (NumPost c a len cap w) := by
  have hw1 : IntKind.i64.wrap (hi - lo) = hi - lo := by rw [IntKind.wrap_i64]; omega
  have hw2 : IntKind.i64.wrap (hi - lo + 1) = hi - lo + 1 := by rw [IntKind.wrap_i64]; omega
  go_enter Try.func68, Try.ntmps68
  go_wp2_with fail
  refine (Cur.below c a len cap _ _ hl (by omega) hc).mono ?_
  rintro e w1 ⟨x, rfl, hx0, hx1, hA1, hG1⟩
  have hx2 := hx1 (by omega)
  go_wp2
  go_ret
  exact ⟨_, rfl, by omega, hA1, hG1⟩

end Rm
end Go.Proofs.Ytdcjjopeobnpgaa

namespace Go.Proofs.Ytdcjjopeobnpgaa
open Go.RowKit
set_option maxRecDepth 100000
namespace Rm
open Kn (K okK)
open Lc (at' RdK laceB flat OwnK cellsOf)
open Cur (At)

theorem flat_set (L : List K) (j c : Nat) (hj : j < L.length) (hc : c < 4) (k' : K) (v : Value) (h : cellsOf k' = (cellsOf (at' L j)).set c v) : (flat L).set (j * 4 + c) v = flat (L.set j k') := by
  induction L generalizing j with
  | nil => simp at hj
  | cons k L ih =>
    have hk4 : (cellsOf k).length = 4 := rfl
    cases j with
    | zero =>
      show (cellsOf k ++ flat L).set (0 * 4 + c) v = cellsOf k' ++ flat L
      rw [List.set_append_left _ _ (by rw [hk4]; omega), h]
      simp [at']
    | succ j =>
      show (cellsOf k ++ flat L).set ((j + 1) * 4 + c) v = cellsOf k ++ flat (L.set j k')
      rw [List.set_append_right _ _ (by rw [hk4]; omega), hk4, show (j + 1) * 4 + c - 4 = j * 4 + c by omega, ih j (by simpa using hj) (by simpa [at'] using h)]

theorem grown_far {w w5 w6 : World} {c g : Nat} (h : w.grownBy w5 (some c)) (h2 : w5.grownBy w6 (some g)) (hg : w.heap.size ≤ g) : w.grownBy w6 (some c) :=
  ((Fr.of_grown h).trans (Fr.of_grown h2) (fun x hx hl => by omega)).grown

/-- a number of a knot is written -/
theorem list_put {m c : Nat} {a : Option Addr} {len cap : Nat} {w w5 : World} {g cp : Nat} {L : List K} {j f : Nat} {u : Value} {k' : K} (hc : At c a len cap w) (hO : OwnK 26 w.heap.size w5 (.slice (some ⟨g, 0, none⟩) L.length cp) L) (hm : L.length ≤ m) (hwd : ∀ k ∈ L, k.word.size ≤ 13)
    (hA : At c a len cap w5) (hG : w.grownBy w5 (some c)) (hj : j < L.length) (hf : f < 4) (hk : cellsOf k' = (cellsOf (at' L j)).set f u) (hw : k'.word.size ≤ 13) :
    ListPost m c a len cap w (.returned (.slice (some ⟨g, 0, none⟩) L.length cp)) (w5.setCell ⟨g, j * 4 + f, none⟩ u) := by
  have hgB := (World.ownsRow.lt hO.1 g rfl).1
  have hs := World.ownsRow.stored hO.1 (j * 4 + f) u
  rw [flat_set L j f hj hf k' u hk] at hs
  have hl : (L.set j k').length = L.length := by simp
  refine ⟨_, L.set j k', rfl, ⟨by rw [hl]; exact hs.1, by simp⟩, by rw [hl]; exact hm, fun k hkm => ?_, ?_, grown_far hG hs.2 hgB⟩
  · rcases List.mem_or_eq_of_mem_set hkm with h | h
    · exact hwd k h
    · rw [h]; exact hw
  · exact at_belowB hA (curB_of hc) ((Below.refl w.heap.size w5).grown hs.2 hG.size (fun x e => by cases e; exact hgB))

set_option maxHeartbeats 6400000 in
theorem l3DrawAny (HD : DrawsRoom) (c : Nat) (a : Option Addr) (len cap : Nat) (w : World) (hl : len ≤ 4096) (hc : At c a len cap w) :
    Calls Try.prog 66 #[.pointer (some ⟨c, 0, none⟩)] w (ListPost 61 c a len cap w) := by
  obtain ⟨i0, hi, hz0, hz1, hz2⟩ := info_parts Lc.infoKn
  have hcw : c < w.heap.size := hc.lt
  have HDD : Hid DrawsRoom := HD
  clear HD
  go_enter Try.func66, Try.ntmps66
  go_wp2_with fail
  refine (l3Draw HDD.out c a len cap _ hl hc).mono ?_
  rintro e w1 ⟨v, L, rfl, hO, h60, hwd, hA1, hG1⟩
  obtain ⟨g, cp, rfl, hcap, _, hbg, _, _, _⟩ := Lc.ownK_shape hO
  have HWD : Hid (∀ k ∈ L, k.word.size ≤ 13) := hwd
  have HO : Hid (OwnK 26 w.heap.size w1 (.slice (some ⟨g, 0, none⟩) L.length cp) L) := hO
  clear hO hwd
  by_cases hz : L.length = 0
  · obtain rfl : L = [] := List.eq_nil_of_length_eq_zero hz
    go_wp2
    go_ret
    exact ⟨_, [], rfl, HO.out, by simp, HWD.out, hA1, hG1⟩
  · have hz' : (0 : Int) < (L.length : Int) := by omega
    go_wp2_with fail
    refine (Cur.once c a len cap 10 _ hl (by omega) hA1).mono ?_
    rintro e w2 ⟨b, rfl, hA2, hG2⟩
    have HO2 : Hid (OwnK 26 w.heap.size w2 (.slice (some ⟨g, 0, none⟩) L.length cp) L) := ownK_grown HO.out hG2 hcw
    have G2 := Cur.grownBy_trans hG1 hG2
    clear HO hG1 hG2 hA1
    cases b
    · go_wp2
      go_ret
      exact ⟨_, L, rfl, HO2.out, by omega, HWD.out, hA2, G2⟩
    · go_wp2_with fail
      refine (Cur.below c a len cap (L.length : Int) _ hl (by omega) hA2).mono ?_
      rintro e w3 ⟨x, rfl, hx0, hx1, hA3, hG3⟩
      have hx2 := hx1 hz'
      obtain ⟨j, rfl⟩ := Int.eq_ofNat_of_zero_le hx0
      have hj : j < L.length := by omega
      have HO3 : Hid (OwnK 26 w.heap.size w3 (.slice (some ⟨g, 0, none⟩) L.length cp) L) := ownK_grown HO2.out hG3 hcw
      have G3 := Cur.grownBy_trans G2 hG3
      clear HO2 hG3 hA2 G2 hx1
      go_wp2_with fail
      refine (Cur.below c a len cap 4 _ hl (by omega) hA3).mono ?_
      rintro e w4 ⟨t, rfl, ht0, ht1, hA4, hG4⟩
      have ht2 := ht1 (by omega)
      have HO4 : Hid (OwnK 26 w.heap.size w4 (.slice (some ⟨g, 0, none⟩) L.length cp) L) := ownK_grown HO3.out hG4 hcw
      have HG4 : Hid (w.grownBy w4 (some c)) := Cur.grownBy_trans G3 hG4
      have HC : Hid (At c a len cap w) := hc
      clear HO3 hG4 hA3 G3 ht1 hc
      have htc : t = 0 ∨ t = 1 ∨ t = 2 ∨ t = 3 := by omega
      rcases htc with rfl | rfl | rfl | rfl
      · go_wp2_with fail
        refine (l1From c a len cap (-1) 4 _ hl (by omega) (by omega) (by omega) hA4).mono ?_
        rintro e w5 ⟨y, rfl, _, hA5, hG5⟩
        have hO5 := ownK_grown HO4.out hG5 hcw
        obtain ⟨_, _, e5, _, _, _, _, hrd5, hfz5⟩ := Lc.ownK_shape hO5
        simp only [Value.slice.injEq, Option.some.injEq, Addr.mk.injEq, and_true, true_and] at e5
        obtain ⟨rfl, rfl⟩ := e5
        have HF : Hid (ListPost 61 c a len cap w (.returned (.slice (some ⟨g, 0, none⟩) L.length cp)) (w5.setCell ⟨g, j * 4, none⟩ (.int .i64 y))) := list_put (f := 0) (k' := ⟨y, (at' L j).round, (at' L j).frm, (at' L j).word⟩) HC.out hO5 (by omega) HWD.out hA5 (Cur.grownBy_trans HG4.out hG5) hj (by omega) rfl (HWD.out (at' L j) (Lc.at_mem L j hj))
        obtain ⟨_, c0, c1, c2, _⟩ := hrd5.on j hj
        rw [Nat.zero_add] at c0 c1 c2
        have f5 := hfz5 (j * 4) (by omega)
        clear hO5 hrd5 hfz5 HO4 HG4 hA5 hG5
        go_wp2
        go_ret
        exact HF.out
      · go_wp2_with fail
        refine (Cur.below c a len cap 5 _ hl (by omega) hA4).mono ?_
        rintro e w5 ⟨y, rfl, _, _, hA5, hG5⟩
        have hO5 := ownK_grown HO4.out hG5 hcw
        obtain ⟨_, _, e5, _, _, _, _, hrd5, hfz5⟩ := Lc.ownK_shape hO5
        simp only [Value.slice.injEq, Option.some.injEq, Addr.mk.injEq, and_true, true_and] at e5
        obtain ⟨rfl, rfl⟩ := e5
        have HF : Hid (ListPost 61 c a len cap w (.returned (.slice (some ⟨g, 0, none⟩) L.length cp)) (w5.setCell ⟨g, j * 4 + 1, none⟩ (.int .i64 y))) := list_put (f := 1) (k' := ⟨(at' L j).hand, y, (at' L j).frm, (at' L j).word⟩) HC.out hO5 (by omega) HWD.out hA5 (Cur.grownBy_trans HG4.out hG5) hj (by omega) rfl (HWD.out (at' L j) (Lc.at_mem L j hj))
        obtain ⟨_, c0, c1, c2, _⟩ := hrd5.on j hj
        rw [Nat.zero_add] at c0 c1 c2
        have f5 := hfz5 (j * 4 + 1) (by omega)
        clear hO5 hrd5 hfz5 HO4 HG4 hA5 hG5
        go_wp2
        go_ret
        exact HF.out
      · go_wp2_with fail
        refine (Draw.drawSet c a len cap _ hl hA4).mono ?_
        rintro e w5 ⟨y, rfl, _, hA5, hG5⟩
        have hO5 := ownK_grown HO4.out hG5 hcw
        obtain ⟨_, _, e5, _, _, _, _, hrd5, hfz5⟩ := Lc.ownK_shape hO5
        simp only [Value.slice.injEq, Option.some.injEq, Addr.mk.injEq, and_true, true_and] at e5
        obtain ⟨rfl, rfl⟩ := e5
        have HF : Hid (ListPost 61 c a len cap w (.returned (.slice (some ⟨g, 0, none⟩) L.length cp)) (w5.setCell ⟨g, j * 4 + 2, none⟩ (.int .i64 y))) := list_put (f := 2) (k' := ⟨(at' L j).hand, (at' L j).round, y, (at' L j).word⟩) HC.out hO5 (by omega) HWD.out hA5 (Cur.grownBy_trans HG4.out hG5) hj (by omega) rfl (HWD.out (at' L j) (Lc.at_mem L j hj))
        obtain ⟨_, c0, c1, c2, _⟩ := hrd5.on j hj
        rw [Nat.zero_add] at c0 c1 c2
        have f5 := hfz5 (j * 4 + 2) (by omega)
        clear hO5 hrd5 hfz5 HO4 HG4 hA5 hG5
        go_wp2
        go_ret
        exact HF.out
      · go_wp2_with fail
        refine (Kn.draw c a len cap _ hl hA4).mono ?_
        rintro e w5 ⟨h, r, f, s, rfl, hs13, hA5, hG5⟩
        have HO5 : Hid (OwnK 26 w.heap.size w5 (.slice (some ⟨g, 0, none⟩) L.length cp) L) := ownK_grown HO4.out hG5 hcw
        have HG5 : Hid (w.grownBy w5 (some c)) := Cur.grownBy_trans HG4.out hG5
        clear HO4 HG4 hG5
        go_wp2_with (at_builtin; refine wpList_append_own _ rfl _ _ 24 rfl w.heap.size 26 i0 (.agg #[.int .i64 0, .int .i64 0, .int .i64 0, .string ⟨#[]⟩]) 4 40 Try.underlying24 hi hz0 hz1 hz2 rfl (by decide) _ _ _ rfl (HO5.out.1.alloc _) ⟨w5.heap.size, 0, none⟩ 1 1 (cellsOf ⟨h, r, f, s⟩) rfl rfl ?c1 ?c2 ?c3 ?c4 ?c5 ?_)
        case c1 => exact Lc.new_cells w5 ⟨h, r, f, s⟩ _
        case c2 => intro u hu; simp [cellsOf] at hu; rcases hu with rfl | rfl | rfl | rfl <;> rfl
        case c3 => unfold maxLen; omega
        case c4 => omega
        case c5 => have := HG5.out.size; simp; omega
        intro v' w6 hown' hgrow hnil
        have HF : Hid (ListPost 61 c a len cap w (.returned v') w6) := by
          have hg6 : w5.grownBy w6 (some g) := (World.grownBy_alloc w5 _ _).trans hgrow
          refine ⟨v', L ++ [⟨h, r, f, s⟩], rfl, ⟨?_, ?_⟩, by simp; omega, ?_, ?_, grown_far HG5.out hg6 hbg⟩
          · rw [List.length_append, Lc.flat_snoc]; exact hown'
          · intro e; simp [e] at hnil
          · intro k hk
            rcases List.mem_append.1 hk with hk | hk
            · exact HWD.out k hk
            · simp at hk; subst hk; exact hs13
          · exact at_belowB hA5 (curB_of HC.out) ((Below.refl w.heap.size w5).grown hg6 HG5.out.size (fun x e => by cases e; exact hbg))
        clear hown' hgrow hnil
        go_wp2
        go_ret
        exact HF.out

end Rm
end Go.Proofs.Ytdcjjopeobnpgaa

namespace Go.Proofs.Ytdcjjopeobnpgaa
open Go.RowKit
set_option maxRecDepth 100000
namespace Rm
open Kn (K okK)
open Lc (at' RdK laceB flat OwnK cellsOf)
open Cur (At)

theorem wrap_bd (x : Int) : -9223372036854775808 ≤ IntKind.i64.wrap x ∧ IntKind.i64.wrap x ≤ 9223372036854775807 := by rw [IntKind.wrap_i64]; omega

set_option maxHeartbeats 400000 in
theorem l1BitAny (i : Nat) (w : World) (h : i ≤ 62) : Calls Try.prog 82 #[.int .i64 (i : Int)] w fun e w' => ∃ x : Int, e = .returned (.int .i64 x) ∧ w = w' := by
  go_enter Try.func82, Try.ntmps82
  go_wp2
  go_ret
  exact ⟨_, rfl, rfl⟩

set_option maxHeartbeats 1600000 in
theorem l3DrawSet (c : Nat) (a : Option Addr) (len cap n : Nat) (w : World) (hl : len ≤ 4096) (hn : n ≤ 61) (hc : At c a len cap w) :
    Calls Try.prog 67 #[.pointer (some ⟨c, 0, none⟩), .int .i64 (n : Int)] w (NumPost c a len cap w) := by
  go_enter Try.func67, Try.ntmps67
  go_wp2_with fail
  refine (Cur.once c a len cap 8 _ hl (by omega) hc).mono ?_
  rintro e w1 ⟨b, rfl, hA1, hG1⟩
  cases b
  · go_wp2
    go_loopw [5, 6] (fun s i wr => ∃ (k : Nat) (x : Int), k ≤ n ∧ i = .int .i64 (k : Int) ∧ s = .int .i64 x ∧ Hid (-9223372036854775808 ≤ x ∧ x ≤ 9223372036854775807) ∧ Hid (At c a len cap wr) ∧ Hid (w.grownBy wr (some c))) (fun _ i _ => n - (intOf i).toNat)
    case atStart => exact ⟨0, 0, by omega, rfl, rfl, ⟨by omega, by omega⟩, hA1, hG1⟩
    case round =>
      obtain ⟨k, x, hk, rfl, rfl, HX, HA, HG⟩ := hrel
      by_cases hlt : k < n
      · have hki : (k : Int) < (n : Int) := by omega
        go_wp2_with fail
        refine (Cur.once c a len cap 3 _ hl (by omega) HA.out).mono ?_
        rintro e w2 ⟨b, rfl, hA2, hG2⟩
        have HA2 : Hid (At c a len cap w2) := hA2
        have HG2 : Hid (w.grownBy w2 (some c)) := Cur.grownBy_trans HG.out hG2
        clear hA2 hG2 HA HG
        cases b
        · go_wp2_with fail
          refine (l1BitAny k _ (by omega)).mono ?_
          rintro e w3 ⟨y, rfl, rfl⟩
          go_wp2
          go_roundw
          case rel => exact ⟨k + 1, _, by omega, by go_num, rfl, Draw.bits_bd _ _ _, HA2, HG2⟩
          case measure => simp [intOf]; omega
        · go_wp2
          go_roundw
          case rel => exact ⟨k + 1, x, by omega, by go_num, rfl, HX, HA2, HG2⟩
          case measure => simp [intOf]; omega
      · obtain rfl : k = n := by omega
        go_wp2
        go_ret
        exact ⟨x, rfl, HX.out, HA.out, HG.out⟩
  · go_wp2_with fail
    refine (Draw.drawSet c a len cap _ hl hA1).mono ?_
    rintro e w2 ⟨y, rfl, hy, hA2, hG2⟩
    have G2 := Cur.grownBy_trans hG1 hG2
    go_wp2
    go_ret
    exact ⟨y, rfl, hy, hA2, G2⟩

theorem new_four (W : World) (x : Int) (t : TypeId) (j : Nat) (hj : j < 4) : ∃ y : Int, (W.alloc (.cells #[.int .i64 (-1), .int .i64 x, .int .i64 60, .int .i64 0] t)).cell? ⟨W.heap.size, j, none⟩ = some (.int .i64 y) ∧ (y = -1 ∨ y = x ∨ y = 60 ∨ y = 0) := by
  match j, hj with
  | 0, _ => exact ⟨-1, by simp, .inl rfl⟩
  | 1, _ => exact ⟨x, by simp, .inr (.inl rfl)⟩
  | 2, _ => exact ⟨60, by simp, .inr (.inr (.inl rfl))⟩
  | 3, _ => exact ⟨0, by simp, .inr (.inr (.inr rfl))⟩

set_option maxHeartbeats 1600000 in
theorem l3DrawAt (c : Nat) (a : Option Addr) (len cap n : Nat) (w : World) (hl : len ≤ 4096) (hn : n ≤ 61) (hc : At c a len cap w) :
    Calls Try.prog 73 #[.pointer (some ⟨c, 0, none⟩), .int .i64 (n : Int)] w (NumPost c a len cap w) := by
  have hcw : c < w.heap.size := hc.lt
  have HT : Hid (∀ W : World, At c a len cap W → w.grownBy W (some c) → ∀ w', At c a len cap w' → (W.alloc (.cells #[.int .i64 (-1), .int .i64 (n : Int), .int .i64 60, .int .i64 0] 2)).grownBy w' (some c) → ∀ j, j < 4 → ∃ y : Int, w'.cell? ⟨W.heap.size, j, none⟩ = some (.int .i64 y) ∧ (-9223372036854775808 ≤ y ∧ y ≤ 9223372036854775807) ∧ w.grownBy w' (some c)) := by
    intro W hA hG w' hA' hG' j hj
    obtain ⟨y, hy, hyc⟩ := new_four W (n : Int) 2 j hj
    refine ⟨y, ((Fr.of_grown hG').cell (p := ⟨W.heap.size, j, none⟩) (by simp) (by have := hA.lt; simp; omega)).trans hy, by omega, Cur.grownBy_trans hG ((World.grownBy_alloc W _ _).trans hG')⟩
  have HGR : Hid (w.grownBy w (some c)) := ⟨rfl, rfl, rfl, Nat.le_refl _, fun _ _ _ => rfl⟩
  go_enter Try.func73, Try.ntmps73
  by_cases hz : n = 0
  · subst hz
    have hAl := Draw.at_alloc hc (.cells #[.int .i64 (-1), .int .i64 ((0 : Nat) : Int), .int .i64 60, .int .i64 0] 2)
    simp only [Int.ofNat_zero] at hAl HT
    go_wp2_with fail
    refine (Cur.below c a len cap 4 _ hl (by omega) hAl).mono ?_
    rintro e w1 ⟨x, rfl, hx0, hx1, hA1, hG1⟩
    have hx2 := hx1 (by omega)
    obtain ⟨j, rfl⟩ := Int.eq_ofNat_of_zero_le hx0
    obtain ⟨y, hy, hyb, hG⟩ := HT.out w hc HGR.out w1 hA1 hG1 j (by omega)
    have hj4 : (j : Int) < 4 := by omega
    clear hG1 hx1 HT
    go_wp2
    go_ret
    exact ⟨y, rfl, hyb, hA1, hG⟩
  · have hz' : (0 : Int) < (n : Int) := by omega
    go_wp2_with fail
    refine (Cur.once c a len cap 10 _ hl (by omega) hc).mono ?_
    rintro e w1 ⟨b, rfl, hA1, hG1⟩
    cases b
    · go_wp2_with fail
      refine (Cur.below c a len cap (n : Int) _ hl (by omega) hA1).mono ?_
      rintro e w2 ⟨x, rfl, hx0, hx1, hA2, hG2⟩
      have hx2 := hx1 hz'
      have G2 := Cur.grownBy_trans hG1 hG2
      go_wp2
      go_ret
      exact ⟨x, rfl, by omega, hA2, G2⟩
    · have hAl := Draw.at_alloc hA1 (.cells #[.int .i64 (-1), .int .i64 (n : Int), .int .i64 60, .int .i64 0] 2)
      go_wp2_with fail
      refine (Cur.below c a len cap 4 _ hl (by omega) hAl).mono ?_
      rintro e w2 ⟨x, rfl, hx0, hx1, hA2, hG2⟩
      have hx2 := hx1 (by omega)
      obtain ⟨j, rfl⟩ := Int.eq_ofNat_of_zero_le hx0
      obtain ⟨y, hy, hyb, hG⟩ := HT.out w1 hA1 hG1 w2 hA2 hG2 j (by omega)
      have hj4 : (j : Int) < 4 := by omega
      clear hG2 hx1 HT hAl hG1
      go_wp2
      go_ret
      exact ⟨y, rfl, hyb, hA2, hG⟩

/-- a list and numbers that the laws draw -/
structure Drawn (B : Nat) (w w' : World) (v : Value) (L : List K) : Prop where
  own : OwnK 26 B w' v L
  len : L.length ≤ 61
  word : ∀ k ∈ L, k.word.size ≤ 13
  bel : Below w.heap.size w w'

set_option maxHeartbeats 1600000 in
theorem drawHandsOf (HD : DrawsRoom) (a : Option Addr) (len cap : Nat) (w : World) (hl : len ≤ 4096) (hc : Cur.Code w a len) :
    Calls Try.prog 20 #[.slice a len cap] w fun e w' => ∃ v L s, e = .returned (.tuple #[v, .int .i64 s]) ∧ Drawn w.heap.size w w' v L ∧ (-9223372036854775808 ≤ s ∧ s ≤ 9223372036854775807) := by
  have HDD : Hid DrawsRoom := HD
  clear HD
  go_enter Try.func20, Try.ntmps20
  go_wp2_with fail
  refine (Cur.new a len cap _ hl hc).mono ?_
  rintro e w1 ⟨rfl, hA1, hb1⟩
  go_wp2_with fail
  refine (l3DrawAny HDD.out _ a len cap _ hl hA1).mono ?_
  rintro e w2 ⟨v, L, rfl, hO, h61, hwd, hA2, hG2⟩
  obtain ⟨g, cp, rfl, _, _, _, _, _, _⟩ := Lc.ownK_shape hO
  have hB2 := Draw.below_of_grown hb1 (Nat.le_refl _) hG2
  have hs1 := hb1.size
  have hlt1 := hA1.lt
  have HO : Hid (OwnK 26 w1.heap.size w2 (.slice (some ⟨g, 0, none⟩) L.length cp) L) := hO
  have HWD : Hid (∀ k ∈ L, k.word.size ≤ 13) := hwd
  clear hO hwd hG2 hb1 hA1
  go_wp2_with fail
  refine (l3DrawSet _ a len cap L.length _ hl h61 hA2).mono ?_
  rintro e w3 ⟨s, rfl, hs, hA3, hG3⟩
  have HF : Hid (Drawn w.heap.size w w3 (.slice (some ⟨g, 0, none⟩) L.length cp) L) := ⟨ownK_base (ownK_grown HO.out hG3 hlt1) hs1, h61, HWD.out, Draw.below_of_grown hB2 (Nat.le_refl _) hG3⟩
  clear HO hB2 hG3 hA2 hA3
  go_wp2
  refine bodyPost_ret (v := .tuple #[.slice (some ⟨g, 0, none⟩) L.length cp, .int .i64 s]) (by simp [results, Try.f20, go_sem]) rfl ?_
  exact ⟨_, L, s, rfl, HF.out, hs⟩

set_option maxHeartbeats 1600000 in
theorem drawAtRound (HD : DrawsRoom) (a : Option Addr) (len cap : Nat) (w : World) (hl : len ≤ 4096) (hc : Cur.Code w a len) :
    Calls Try.prog 21 #[.slice a len cap] w fun e w' => ∃ v L s r, e = .returned (.tuple #[v, .int .i64 s, .int .i64 r]) ∧ Drawn w.heap.size w w' v L ∧ (-9223372036854775808 ≤ s ∧ s ≤ 9223372036854775807) := by
  have HDD : Hid DrawsRoom := HD
  clear HD
  go_enter Try.func21, Try.ntmps21
  go_wp2_with fail
  refine (Cur.new a len cap _ hl hc).mono ?_
  rintro e w1 ⟨rfl, hA1, hb1⟩
  go_wp2_with fail
  refine (l3DrawAny HDD.out _ a len cap _ hl hA1).mono ?_
  rintro e w2 ⟨v, L, rfl, hO, h61, hwd, hA2, hG2⟩
  obtain ⟨g, cp, rfl, _, _, _, _, _, _⟩ := Lc.ownK_shape hO
  have hB2 := Draw.below_of_grown hb1 (Nat.le_refl _) hG2
  have hs1 := hb1.size
  have hlt1 := hA1.lt
  have HO : Hid (OwnK 26 w1.heap.size w2 (.slice (some ⟨g, 0, none⟩) L.length cp) L) := hO
  have HWD : Hid (∀ k ∈ L, k.word.size ≤ 13) := hwd
  clear hO hwd hG2 hb1 hA1
  go_wp2_with fail
  refine (l3DrawSet _ a len cap L.length _ hl h61 hA2).mono ?_
  rintro e w3 ⟨s, rfl, hs, hA3, hG3⟩
  have hB3 := Draw.below_of_grown hB2 (Nat.le_refl _) hG3
  have HO3 : Hid (OwnK 26 w1.heap.size w3 (.slice (some ⟨g, 0, none⟩) L.length cp) L) := ownK_grown HO.out hG3 hlt1
  clear HO hB2 hG3 hA2
  go_wp2_with fail
  refine (l1From _ a len cap (-1) 6 _ hl (by omega) (by omega) (by omega) hA3).mono ?_
  rintro e w4 ⟨r, rfl, _, hA4, hG4⟩
  have HF : Hid (Drawn w.heap.size w w4 (.slice (some ⟨g, 0, none⟩) L.length cp) L) := ⟨ownK_base (ownK_grown HO3.out hG4 hlt1) hs1, h61, HWD.out, Draw.below_of_grown hB3 (Nat.le_refl _) hG4⟩
  clear HO3 hB3 hG4 hA3 hA4
  go_wp2
  refine bodyPost_ret (v := .tuple #[.slice (some ⟨g, 0, none⟩) L.length cp, .int .i64 s, .int .i64 r]) (by simp [results, Try.f21, go_sem]) rfl ?_
  exact ⟨_, L, s, r, rfl, HF.out, hs⟩

end Rm
end Go.Proofs.Ytdcjjopeobnpgaa

namespace Go.Proofs.Ytdcjjopeobnpgaa
open Go.RowKit
set_option maxRecDepth 100000
namespace Lc
open Kn (K okK)
open Bit (bit withB)

theorem pow60 (n : Nat) (hn : n ≤ 60) : (1 : Int) ≤ 2 ^ n ∧ (2 : Int) ^ n ≤ 1152921504606846976 := by
  have hp : 1 ≤ 2 ^ n := Nat.one_le_two_pow
  have hq : 2 ^ n ≤ 2 ^ 60 := Nat.pow_le_pow_right (by decide) hn
  have hpc : ((2 ^ n : Nat) : Int) = (2 : Int) ^ n := by simp
  omega

theorem wrap60 (n : Nat) (hn : n ≤ 60) : IntKind.i64.wrap (2 ^ n) = 2 ^ n := by
  have := pow60 n hn
  rw [IntKind.wrap_i64]; omega

/-- within the lace -/
def inL (n : Nat) (s : Int) : Bool := decide (0 ≤ s) && decide (s / 2 ^ n = 0)

set_option maxHeartbeats 400000 in
theorem all (a : Option Addr) (cap n : Nat) (w : World) (hn : n ≤ 60) : Calls Try.prog 112 #[.slice a n cap] w fun e w' => e = .returned (.int .i64 (2 ^ n - 1)) ∧ w = w' := by
  have h1 := wrap60 n hn
  have h2 := pow60 n hn
  go_enter Try.func112, Try.ntmps112
  go_wp2
  go_ret
  exact ⟨rfl, rfl⟩

set_option maxHeartbeats 400000 in
theorem holds (a : Option Addr) (cap n : Nat) (s : Int) (w : World) (hn : n ≤ 60) (h0 : -9223372036854775808 ≤ s) (h1 : s ≤ 9223372036854775807) : Calls Try.prog 93 #[.slice a n cap, .int .i64 s] w fun e w' => e = .returned (.bool (inL n s)) ∧ w = w' := by
  have HA : Hid ((bits .andNot .i64 s (2 ^ n - 1) == 0) = inL n s) := andNot_zero s n hn h0 h1
  go_enter Try.func93, Try.ntmps93
  go_wp2_with fail
  refine (all _ _ _ _ hn).mono ?_
  rintro e w1 ⟨rfl, rfl⟩
  go_wp2
  go_ret
  exact ⟨by rw [← HA.out]; rfl, rfl⟩

theorem setB_eq (L : List K) (s : Int) : setB L s = (laceB L && inL L.length s) := rfl

set_option maxHeartbeats 1600000 in
theorem implHandsOf (g off cap : Nat) (L : List K) (s : Int) (w : World) (hlen : L.length ≤ 1099511627776) (hw : WordsOk L) (h0 : -9223372036854775808 ≤ s) (h1 : s ≤ 9223372036854775807) (hr : RdK w (some ⟨g, off, none⟩) L) :
    Calls Try.prog 18 #[.slice (some ⟨g, off, none⟩) L.length cap, .int .i64 s] w fun e w' => e = .returned (.int .i64 (handsOfI L s)) ∧ Below w.heap.size w w' := by
  have HLF : Hid (∀ W : World, RdK W (some ⟨g, off, none⟩) L → Calls Try.prog 53 #[.slice (some ⟨g, off, none⟩) L.length cap] W (LacePost L W)) := fun W h => laceOf g off cap L W hlen hw h
  go_enter Try.func18, Try.ntmps18
  go_wp2_with (first | (go_at_call 61; go_in) | fail)
  refine (HLF.out _ hr).mono ?_
  rintro e w1 (⟨hl, g', rfl, hg', hrg, hb1⟩ | ⟨hl, rfl, hb1⟩)
  · have h60 := ((lace_iff L).1 hl).1
    have hh := lace_hands hl
    have HS : Hid (setB L s = inL L.length s) := by show _ = _; rw [setB_eq, hl]; rfl
    clear hl HLF
    go_wp2_with fail
    refine (holds _ _ _ s _ h60 h0 h1).mono ?_
    rintro e w1' ⟨rfl, rfl⟩
    cases hin : inL L.length s
    · have HT : Hid (handsOfI L s = -1) := by show _ = _; unfold handsOfI; rw [HS.out, hin]; rfl
      clear hin HS
      go_wp2
      go_ret
      exact ⟨by rw [HT.out]; rfl, hb1⟩
    · have HT : Hid (handsOfI L s = handsN L s) := by show _ = _; unfold handsOfI; rw [HS.out, hin]; rfl
      obtain ⟨_, q0, q1, qd, _, _⟩ := setB_parts (HS.out.trans hin)
      clear hin HS
      go_wp2_with fail
      refine (hands g' 0 L.length L s _ h60 q0 q1 qd hh hrg).mono ?_
      rintro e w2 ⟨rfl, hb2⟩
      have B2 := hb1.trans (hb2.mono hb1.size)
      clear hb1 hb2 hrg hg' qd
      go_wp2
      go_ret
      exact ⟨by rw [HT.out]; rfl, B2⟩
  · have HT : Hid (handsOfI L s = -1) := by show _ = _; unfold handsOfI; rw [setB_eq, hl]; rfl
    clear hl HLF
    go_wp2
    go_ret
    exact ⟨by rw [HT.out]; rfl, hb1⟩

set_option maxHeartbeats 1600000 in
theorem implAtRound (g off cap : Nat) (L : List K) (s r : Int) (w : World) (hlen : L.length ≤ 1099511627776) (hw : WordsOk L) (h0 : -9223372036854775808 ≤ s) (h1 : s ≤ 9223372036854775807) (hr : RdK w (some ⟨g, off, none⟩) L) :
    Calls Try.prog 19 #[.slice (some ⟨g, off, none⟩) L.length cap, .int .i64 s, .int .i64 r] w fun e w' => e = .returned (.int .i64 (atRoundI L s r)) ∧ Below w.heap.size w w' := by
  have HLF : Hid (∀ W : World, RdK W (some ⟨g, off, none⟩) L → Calls Try.prog 53 #[.slice (some ⟨g, off, none⟩) L.length cap] W (LacePost L W)) := fun W h => laceOf g off cap L W hlen hw h
  have P0 : Hid (Below w.heap.size w (w.alloc (.cells #[.int .i64 r] 2)) ∧ (w.alloc (.cells #[.int .i64 r] 2)).cell? ⟨w.heap.size, 0, none⟩ = some (.int .i64 r) ∧ w.heap.size < (w.alloc (.cells #[.int .i64 r] 2)).heap.size) := ⟨(Below.refl _ _).alloc (Nat.le_refl _) _, by simp, by simp⟩
  go_enter Try.func19, Try.ntmps19
  go_wp2_with (first | (go_at_call 61; go_in) | fail)
  generalize w.alloc (.cells #[.int .i64 r] 2) = w0 at P0 ⊢
  obtain ⟨B0, C0, S0⟩ := P0
  have hr0 := hr.below B0
  generalize hb : w.heap.size = b at *
  refine (HLF.out _ hr0).mono ?_
  rintro e w1 (⟨hl, g', rfl, hg', hrg, hb1⟩ | ⟨hl, rfl, hb1⟩)
  · have h60 := ((lace_iff L).1 hl).1
    have hh := lace_hands hl
    have HS : Hid (setB L s = inL L.length s) := by show _ = _; rw [setB_eq, hl]; rfl
    have c0 := (hb1.cell (p := ⟨b, 0, none⟩) S0).trans C0
    have B1 := B0.trans (hb1.mono (Nat.le_of_lt S0))
    have S1 : b < w1.heap.size := Nat.lt_of_lt_of_le S0 hb1.size
    clear hl HLF hb1 B0 S0 C0 hr0
    go_wp2_with fail
    refine (holds _ _ _ s _ h60 h0 h1).mono ?_
    rintro e w1' ⟨rfl, rfl⟩
    cases hin : inL L.length s
    · have HT : Hid (atRoundI L s r = -1) := by show _ = _; unfold atRoundI; rw [HS.out, hin]; rfl
      clear hin HS
      go_wp2
      go_ret
      exact ⟨by rw [HT.out]; rfl, by first | exact B1 | (rw [hb]; exact B1)⟩
    · have HT : Hid (atRoundI L s r = roundS L s r) := by show _ = _; unfold atRoundI; rw [HS.out, hin]; rfl
      obtain ⟨_, q0, q1, qd, _, _⟩ := setB_parts (HS.out.trans hin)
      clear hin HS
      go_wp2_with (first | (go_at_call 63; go_in) | fail)
      refine (atRound g' 0 L.length L s r _ h60 ((Base.okB_iff s).2 ⟨q0, q1⟩) hrg).mono ?_
      rintro e w2 ⟨rfl, hb2⟩
      have B2 := B1.trans (hb2.mono (Nat.le_of_lt S1))
      clear B1 hb2 hrg hg' qd
      go_wp2
      go_ret
      exact ⟨by rw [HT.out]; rfl, by first | exact B2 | (rw [hb]; exact B2)⟩
  · have HT : Hid (atRoundI L s r = -1) := by show _ = _; unfold atRoundI; rw [setB_eq, hl]; rfl
    have B1 := B0.trans (hb1.mono (Nat.le_of_lt S0))
    clear hl HLF hb1 B0 S0 C0 hr0
    go_wp2
    go_ret
    exact ⟨by rw [HT.out]; rfl, by first | exact B1 | (rw [hb]; exact B1)⟩

end Lc
end Go.Proofs.Ytdcjjopeobnpgaa

namespace Go.Proofs.Ytdcjjopeobnpgaa
open Go.RowKit
set_option maxRecDepth 100000
namespace Rm
open Kn (K okK)
open Bit (bit)
open Lc (at' RdK laceB flat OwnK cellsOf setB handsN roundS hasHand)
open Cur (At)

theorem code_below {w w' : World} {a : Option Addr} {len : Nat} (h : Cur.Code w a len) (hb : Below w.heap.size w w') : Cur.Code w' a len := by
  rcases h with h | ⟨b, off, ha, hlt, hc⟩
  · exact .inl h
  · refine .inr ⟨b, off, ha, Nat.lt_of_lt_of_le hlt hb.size, fun j hj => ?_⟩
    obtain ⟨z, hz, hz'⟩ := hc j hj
    exact ⟨z, (hb.cell (p := ⟨b, off + j, none⟩) hlt).trans hz, hz'⟩

/-- a list that lies there -/
structure Lies (w : World) (g : Nat) (L : List K) : Prop where
  rd : RdK w (some ⟨g, 0, none⟩) L
  len : L.length ≤ 61
  words : Lc.WordsOk L

theorem Lies.below {w w' : World} {g : Nat} {L : List K} (h : Lies w g L) (hb : Below w.heap.size w w') : Lies w' g L := ⟨h.rd.below hb, h.len, h.words⟩

theorem drawn_lies {B : Nat} {w w' : World} {v : Value} {L : List K} (h : Drawn B w w' v L) : ∃ g cp, v = .slice (some ⟨g, 0, none⟩) L.length cp ∧ L.length ≤ cp ∧ Lies w' g L := by
  obtain ⟨g, cp, rfl, hcp, _, _, _, hrd, _⟩ := Lc.ownK_shape h.own
  exact ⟨g, cp, rfl, hcp, hrd, h.len, fun k hk => by have := h.word k hk; omega⟩

/-- what InSet answers -/
def inI (s i : Int) : Bool := Base.okB s && (Base.inB i && bit s i.toNat)

theorem at_eq {L : List K} {t r : Int} (hs : setB L t = true) (i : Nat) (hi : i < L.length) : inI (roundS L t r) (i : Int) = (inI t (i : Int) && decide ((at' L i).round = r)) := by
  obtain ⟨_, h0, h1, _, h60, _⟩ := Lc.setB_parts hs
  have hb := Lc.among_bd (fun k => decide (k.round = r)) L t L.length h60
  have hin : Base.inB (i : Int) = true := (Base.inB_iff _).2 ⟨by omega, by omega⟩
  unfold inI roundS
  rw [(Base.okB_iff _).2 hb, (Base.okB_iff _).2 ⟨h0, h1⟩, hin, Int.toNat_natCast, Lc.bit_among _ L t _ h60]
  simp [hi]

/-- the hands below h that one of the set has -/
def cntH (L : List K) (s : Int) : Nat → Int
  | 0 => 0
  | h + 1 => cntH L s h + if hasHand L s (h : Int) then 1 else 0
theorem cntH_bd (L : List K) (s : Int) (h : Nat) : 0 ≤ cntH L s h ∧ cntH L s h ≤ (h : Int) := by
  induction h with
  | zero => exact ⟨Int.le_refl 0, Int.le_refl 0⟩
  | succ h ih => unfold cntH; split <;> omega
theorem cntH_four (L : List K) (s : Int) : cntH L s 4 = handsN L s := by
  unfold handsN
  simp only [cntH]
  simp
theorem hand_hit {L : List K} {s h : Int} (j : Nat) (hj : j < L.length) (hb : bit s j = true) (hh : (at' L j).hand = h) : hasHand L s h = true := (Lc.hasHand_iff L s h).2 ⟨j, hj, hb, hh⟩
theorem hand_none {L : List K} {s h : Int} (hn : ∀ i, i < L.length → bit s i = true → (at' L i).hand = h → False) : hasHand L s h = false := by
  rw [Bool.eq_false_iff]
  intro e
  obtain ⟨i, hi, hb, hh⟩ := (Lc.hasHand_iff L s h).1 e
  exact hn i hi hb hh

theorem implInI (s i : Int) (w : World) : Calls Try.prog 24 #[.int .i64 s, .int .i64 i] w fun e w' => e = .returned (.bool (inI s i)) ∧ w = w' := Base.implIn s i w

set_option maxHeartbeats 6400000 in
theorem handsWalk (HD : DrawsRoom) (a0 : Option Addr) (len0 cap0 : Nat) (w : World) (hcode : Cur.Code w a0 len0) :
    Calls Try.prog 4 #[.slice a0 len0 cap0] w fun e w' => e = .returned (.bool true) ∧ Below w.heap.size w w' := by
  by_cases hbig : 4096 < len0
  · have hb' : (4096 : Int) < (len0 : Int) := by omega
    go_enter Try.func4, Try.ntmps4
    go_wp2
    go_ret
    exact ⟨rfl, Below.refl _ _⟩
  · have hb' : ¬ (4096 : Int) < (len0 : Int) := by omega
    have hle0 : len0 ≤ 4096 := by omega
    have HDD : Hid DrawsRoom := HD
    have HCode : Hid (Cur.Code w a0 len0) := hcode
    clear hbig HD hcode
    go_enter Try.func4, Try.ntmps4
    go_wp2_with (first | (go_at_call 9; go_in) | fail)
    refine (drawHandsOf HDD.out a0 len0 cap0 _ hle0 HCode.out).mono ?_
    rintro e w1 ⟨v, L, s, rfl, hD1, hs⟩
    obtain ⟨g, cp, rfl, hcp, hL1⟩ := drawn_lies hD1
    have hB1 : Below w.heap.size w w1 := hD1.bel
    clear hD1
    go_wp2_with fail
    refine (Lc.implHandsOf g 0 cp L s _ (by have := hL1.len; omega) hL1.words hs.1 hs.2 hL1.rd).mono ?_
    rintro e w2 ⟨rfl, hb2⟩
    have HL2 : Hid (Lies w2 g L) := hL1.below hb2
    have HB2 : Hid (Below w.heap.size w w2) := hB1.trans (hb2.mono hB1.size)
    clear hL1 hB1 hb2
    go_wp2_with fail
    refine (drawAtRound HDD.out a0 len0 cap0 _ hle0 (code_below HCode.out HB2.out)).mono ?_
    rintro e w3 ⟨v3, Q, t, r, rfl, hD3, ht⟩
    obtain ⟨g3, cp3, rfl, hcp3, hQ3⟩ := drawn_lies hD3
    have HL3 : Hid (Lies w3 g L) := HL2.out.below hD3.bel
    have HB3 : Hid (Below w.heap.size w w3) := HB2.out.trans (hD3.bel.mono HB2.out.size)
    clear hD3 HL2 HB2
    go_wp2_with fail
    refine (Lc.implAtRound g3 0 cp3 Q t r _ (by have := hQ3.len; omega) hQ3.words ht.1 ht.2 hQ3.rd).mono ?_
    rintro e w4 ⟨rfl, hb4⟩
    have HL4 : Hid (Lies w4 g L) := HL3.out.below hb4
    have HQ4 : Hid (Lies w4 g3 Q) := hQ3.below hb4
    have HB4 : Hid (Below w.heap.size w w4) := HB3.out.trans (hb4.mono HB3.out.size)
    clear hQ3 hb4 HL3 HB3
    go_wp2_with fail
    refine (Lc.specHandsOf g 0 cp L s _ hcp HL4.out.words HL4.out.rd).mono ?_
    rintro e w5 ⟨rfl, hb5⟩
    have HL5 : Hid (Lies w5 g L) := HL4.out.below hb5
    have HQ5 : Hid (Lies w5 g3 Q) := HQ4.out.below hb5
    have HB5 : Hid (Below w.heap.size w w5) := HB4.out.trans (hb5.mono HB4.out.size)
    clear hb5 HL4 HQ4 HB4
    go_wp2_with fail
    refine (Lc.specAtRound g3 0 cp3 Q t r _ hcp3 HQ5.out.words HQ5.out.rd).mono ?_
    rintro e w6 ⟨rfl, hb6⟩
    have HL6 : Hid (Lies w6 g L) := HL5.out.below hb6
    have HQ6 : Hid (Lies w6 g3 Q) := HQ5.out.below hb6
    have HB6 : Hid (Below w.heap.size w w6) := HB5.out.trans (hb6.mono HB5.out.size)
    clear hb6 HL5 HQ5 HB5
    have HAV : Hid (0 ≤ Lc.atRoundI Q t r → setB Q t = true ∧ Lc.atRoundI Q t r = roundS Q t r) := by
      intro h
      unfold Lc.atRoundI at h ⊢
      cases hq : setB Q t
      · rw [hq] at h; simp at h
      · exact ⟨rfl, rfl⟩
    have HNV : Hid (¬ Lc.handsOfI L s < 0 → setB L s = true ∧ Lc.handsOfI L s = handsN L s) := by
      intro h
      unfold Lc.handsOfI at h ⊢
      cases hq : setB L s
      · rw [hq] at h; simp at h
      · exact ⟨rfl, rfl⟩
    generalize Lc.atRoundI Q t r = av at HAV
    generalize Lc.handsOfI L s = nv at HNV
    go_upto_if 48 with fail
    go_cut [5] (fun n5 wx => n5 = .int .i64 nv ∧ ∃ m, wx = w6.drewN m)
    case first =>
      by_cases ha : 0 ≤ av
      · obtain ⟨hset, hav⟩ := HAV.out ha
        have HSet : Hid (setB Q t = true) := hset
        have HAv : Hid (av = roundS Q t r) := hav
        clear hset hav HNV HAV
        have hl61 := HQ6.out.len
        have hd : decide (0 ≤ av) = true := decide_eq_true ha
        try simp only [hd]
        go_wp2_with fail
        go_loopw [10] (fun i wr => ∃ (k m : Nat), k ≤ Q.length ∧ i = .int .i64 (k : Int) ∧ wr = w6.drewN m) (fun i _ => Q.length - (intOf i).toNat)
        case atStart => exact ⟨0, 0, by omega, rfl, rfl⟩
        case round =>
          obtain ⟨k, m, hk, rfl, rfl⟩ := hrel
          by_cases hlt : k < Q.length
          · have hki : (k : Int) < (Q.length : Int) := by omega
            obtain ⟨_, _, c1, _, _⟩ := (HQ6.out.rd.drewN m).on k hlt
            rw [Nat.zero_add] at c1
            have HE : Hid (inI av (k : Int) = (inI t (k : Int) && decide ((at' Q k).round = r))) := by show _ = _; rw [HAv.out]; exact at_eq HSet.out k hlt
            cases hy : inI t (k : Int)
            · have hx : inI av (k : Int) = false := by rw [HE.out, hy]; rfl
              have h1 := fun W => implInI av (k : Int) W
              have h2 := fun W => implInI t (k : Int) W
              rw [hx] at h1
              rw [hy] at h2
              clear hx hy HE
              go_wp2_with (first | (go_at_call 24; refine (h1 _).mono ?_; rintro e w' ⟨rfl, rfl⟩) | (go_at_call 24; refine (h2 _).mono ?_; rintro e w' ⟨rfl, rfl⟩))
              go_roundw
              case rel => exact ⟨k + 1, _, by omega, by go_num, rfl⟩
              case measure => simp [intOf]; omega
            · by_cases hr : (at' Q k).round = r
              · have hx : inI av (k : Int) = true := by rw [HE.out, hy]; simp [hr]
                have hr1 : ((at' Q k).round == r) = true := by simpa using hr
                have h1 := fun W => implInI av (k : Int) W
                have h2 := fun W => implInI t (k : Int) W
                rw [hx] at h1
                rw [hy] at h2
                clear hx hy HE hr
                go_wp2_with (first | (go_at_call 24; refine (h1 _).mono ?_; rintro e w' ⟨rfl, rfl⟩) | (go_at_call 24; refine (h2 _).mono ?_; rintro e w' ⟨rfl, rfl⟩))
                go_roundw
                case rel => exact ⟨k + 1, _, by omega, by go_num, rfl⟩
                case measure => simp [intOf]; omega
              · have hx : inI av (k : Int) = false := by rw [HE.out, hy]; simp [hr]
                have hr1 : ((at' Q k).round == r) = false := by simpa using hr
                have h1 := fun W => implInI av (k : Int) W
                have h2 := fun W => implInI t (k : Int) W
                rw [hx] at h1
                rw [hy] at h2
                clear hx hy HE hr
                go_wp2_with (first | (go_at_call 24; refine (h1 _).mono ?_; rintro e w' ⟨rfl, rfl⟩) | (go_at_call 24; refine (h2 _).mono ?_; rintro e w' ⟨rfl, rfl⟩))
                go_roundw
                case rel => exact ⟨k + 1, _, by omega, by go_num, rfl⟩
                case measure => simp [intOf]; omega
          · obtain rfl : k = Q.length := by omega
            go_wp2_with fail
            go_meet
            exact ⟨rfl, m, rfl⟩
      · go_wp2_with fail
        go_meet
        exact ⟨rfl, 0, rfl⟩
    case rest =>
      obtain ⟨rfl, m, rfl⟩ := hcut
      by_cases hn : nv < 0
      · have hd : decide (nv < 0) = true := decide_eq_true hn
        go_wp2
        go_ret
        exact ⟨rfl, Lc.below_drewN' HB6.out m⟩
      · obtain ⟨hset, hnv⟩ := HNV.out (by omega)
        obtain ⟨_, q0, q1, _, h60, hhk⟩ := Lc.setB_parts hset
        have HNv : Hid (nv = handsN L s) := hnv
        have HBW : Hid (Below w.heap.size w (w6.drewN m)) := Lc.below_drewN' HB6.out m
        have HRW : Hid (RdK (w6.drewN m) (some ⟨g, 0, none⟩) L) := HL6.out.rd.drewN m
        have hnb := Lc.handsN_bd L s
        clear hset hnv HAV HNV HB6 HL6 HQ6
        generalize w6.drewN m = W0 at HBW HRW ⊢
        go_wp2
        go_loopw [11, 12] (fun cv hv wr => ∃ h : Nat, h ≤ 4 ∧ hv = .int .i64 (h : Int) ∧ cv = .int .i64 (cntH L s h) ∧ wr = W0) (fun _ hv _ => 4 - (intOf hv).toNat)
        case atStart => exact ⟨0, by omega, rfl, rfl, rfl⟩
        case round =>
          obtain ⟨h, hh, rfl, rfl, hw⟩ := hrel
          have hw' := hw.symm
          subst hw'
          by_cases hlt : h < 4
          · have h4 : decide ((h : Int) < 4) = true := by simp; omega
            have HC : Hid (cntH L s (h + 1) = cntH L s h + if hasHand L s (h : Int) then 1 else 0) := rfl
            have hcb := cntH_bd L s h
            generalize cntH L s h = cv at HC hcb
            go_wp2
            try rw [h4]
            go_loopw [11, 13] (fun v11 iv wz => ∃ k : Nat, k ≤ L.length ∧ iv = .int .i64 (k : Int) ∧ v11 = .int .i64 cv ∧ wz = W0 ∧ Hid (∀ i, i < k → bit s i = true → (at' L i).hand = (h : Int) → False)) (fun _ iv _ => L.length - (intOf iv).toNat)
            case atStart => exact ⟨0, by omega, rfl, rfl, rfl, fun i hi => by omega⟩
            case round =>
              obtain ⟨k, hk, rfl, rfl, hw, HNo⟩ := hrel
              have hw' := hw.symm
              subst hw'
              by_cases hkl : k < L.length
              · have hki : (k : Int) < (L.length : Int) := by omega
                obtain ⟨_, c0, _, _, _⟩ := HRW.out.on k hkl
                rw [Nat.zero_add] at c0
                have HIN : Hid (inI s (k : Int) = bit s k) := by
                  show _ = _
                  unfold inI
                  rw [(Base.okB_iff _).2 ⟨q0, q1⟩, (Base.inB_iff _).2 ⟨by omega, by omega⟩, Int.toNat_natCast]; rfl
                have h1 := fun X => implInI s (k : Int) X
                rw [HIN.out] at h1
                cases hb : bit s k
                · rw [hb] at h1
                  have HNo2 : Hid (∀ i, i < k + 1 → bit s i = true → (at' L i).hand = (h : Int) → False) := fun i hi h2 h3 => by
                    by_cases e : i = k
                    · subst e; rw [hb] at h2; exact Bool.noConfusion h2
                    · exact HNo.out i (by omega) h2 h3
                  clear hb HNo HIN
                  go_wp2_with (go_at_call 24; refine (h1 _).mono ?_; rintro e w' ⟨rfl, rfl⟩)
                  go_roundw
                  case rel => exact ⟨k + 1, by omega, by go_num, rfl, by first | rfl | trivial, HNo2⟩
                  case measure => simp [intOf]; omega
                · rw [hb] at h1
                  by_cases hhd : (at' L k).hand = (h : Int)
                  · have hh1 : ((at' L k).hand == (h : Int)) = true := by simpa using hhd
                    have HC2 : Hid (cntH L s (h + 1) = cv + 1) := by show _ = _; rw [HC.out, hand_hit k hkl hb hhd]; rfl
                    clear hb HNo HIN HC hhd
                    go_wp2_with (go_at_call 24; refine (h1 _).mono ?_; rintro e w' ⟨rfl, rfl⟩)
                    go_roundw
                    case rel => exact ⟨h + 1, by omega, by go_num, by rw [HC2.out], by first | rfl | trivial⟩
                    case measure => simp [intOf]; omega
                  · have hh1 : ((at' L k).hand == (h : Int)) = false := by simpa using hhd
                    have HNo2 : Hid (∀ i, i < k + 1 → bit s i = true → (at' L i).hand = (h : Int) → False) := fun i hi h2 h3 => by
                      by_cases e : i = k
                      · subst e; exact hhd h3
                      · exact HNo.out i (by omega) h2 h3
                    clear hb HNo HIN hhd
                    go_wp2_with (go_at_call 24; refine (h1 _).mono ?_; rintro e w' ⟨rfl, rfl⟩)
                    go_roundw
                    case rel => exact ⟨k + 1, by omega, by go_num, rfl, by first | rfl | trivial, HNo2⟩
                    case measure => simp [intOf]; omega
              · obtain rfl : k = L.length := by omega
                have HC2 : Hid (cntH L s (h + 1) = cv) := by show _ = _; rw [HC.out, hand_none HNo.out]; simp
                clear HNo HC
                go_wp2
                go_roundw
                case rel => exact ⟨h + 1, by omega, by go_num, by rw [HC2.out], by first | rfl | trivial⟩
                case measure => simp [intOf]; omega
          · obtain rfl : h = 4 := by omega
            have HE : Hid (cntH L s 4 = nv) := by show _ = _; rw [cntH_four, HNv.out]
            rw [HE.out]
            go_wp2
            go_ret
            exact ⟨rfl, HBW.out⟩

end Rm
end Go.Proofs.Ytdcjjopeobnpgaa

namespace Go.Proofs.Ytdcjjopeobnpgaa
open Go.RowKit
namespace Rm

theorem drawsBad : DrawsBad := fun c a len cap ao cp L co nc cc go nh hc bad w hl hca hlc hr hn => l18DrawBad c a len cap ao cp L co nc cc go nh hc bad w hl hca hlc hr hn
theorem drawsRoom : DrawsRoom := fun c a len cap w hl hc => l18Draw' (l18DrawActs' drawsBad (l18DrawAct' drawsBad)) c a len cap w hl hc

end Rm
end Go.Proofs.Ytdcjjopeobnpgaa

namespace Go.Proofs.Ytdcjjopeobnpgaa.fnHandsOf
open Go.ChangeShapes Go.WideShapes Go.ChangeAt Go.RowKit
set_option linter.unusedVariables false
set_option maxRecDepth 100000

theorem own : ownKnob Try.prog.godebug = none := by kernel_rfl
theorem laidOut : laidOutB Try.prog = true := by kernel_rfl

/-- what is told of a slice of integers that came in: it is nil, or it leads to a row of cells that hold these -/
def IsRow (k : IntKind) (w : World) (a : Option Addr) (len cap : Nat) (zs : List Int) : Prop :=
  (a = none ∧ len = 0 ∧ cap = 0 ∧ zs = []) ∨
  ∃ x, a = some x ∧ len ≤ cap ∧ cap ≤ maxLen ∧ zs.length = cap ∧ (∀ i, i < zs.length → w.cell? (x.add i) = some (.int k (zs.getD i 0))) ∧ ∀ n ∈ zs, (Lit.int k n).wf = true

theorem code_of {w : World} {a : Option Addr} {len cap : Nat} {zs : List Int} (h : IsRow .u8 w a len cap zs) : Cur.Code w a len := by
  rcases h with ⟨_, h, _, _⟩ | ⟨x, rfl, hl, _, hz, hcell, hwz⟩
  · exact .inl h
  · by_cases h0 : len = 0
    · exact .inl h0
    · obtain ⟨b, off, spot⟩ := x
      have hc := hcell 0 (by omega)
      have hspot : spot = none := by simpa [Addr.add] using World.cell?_spot hc
      subst hspot
      refine .inr ⟨b, off, rfl, ?_, fun j hj => ?_⟩
      · have := block_lt_of_cell hc; simpa [Addr.add] using this
      · have hcj := hcell j (by omega)
        have hj' : j < zs.length := by omega
        have hw := hwz (zs.getD j 0) (by simp [List.getD, List.getElem?_eq_getElem hj'])
        refine ⟨zs.getD j 0, ?_, ?_⟩
        · by_cases hj0 : j = 0
          · subst hj0; simpa [Addr.add] using hcj
          · simpa [Addr.add, hj0] using hcj
        simpa [Lit.wf, IntKind.min, IntKind.max, IntKind.signed, IntKind.bits] using hw

theorem lifted (os : Os) (started : os.Started) (H : Type) (enc : TypeId × Value → H) :
    ReturnsInHanded {} Try.checked os 4 .any (Rows.fnHandsOfSpec.pre6 enc Try.prog Try.f4 Rows.fnHandsOfRow.domain false) (Rows.fnHandsOfSpec.post enc Try.prog Try.f4 false true false false) := by
  refine returnsInHanded_of_change (C := Try.checked) own started (by kernel_rfl) Try.func4
    (ChangeSpec.witness6 (enc := enc) (C := Try.checked) false ⟨#[], #[.slice none 0 0], []⟩ 8 (by kernel_rfl) (by kernel_rfl) (by kernel_rfl) (by kernel_rfl)) ?_
  intro W base args ds gs before hval0 hW hcnd _
  have hval : ∀ (j : Nat) t v, Try.f4.params[j]? = some t → args[j]? = some v → Value.okWide Try.prog W .any base t v := hval0
  have hW' := hW
  obtain ⟨p, q, hA0, hV, rfl, hfz, hnd⟩ := hW
  have hA : DataW.TrodAll enc Try.prog W 0 (fun _ => true) true Try.f4.params.toList args.toList ds p := hA0
  rw [Try.params4] at hA hval
  obtain ⟨v0, vs0, d0, ds0, p0, q0, hargs, rfl, rfl, h0, r0⟩ := trodAll_cons hA
  obtain ⟨rfl, rfl, rfl⟩ := trodAll_nil r0
  obtain rfl : args = #[v0] := by cases args; simp_all
  obtain ⟨rfl, rfl⟩ := trodVars_none hV
  obtain ⟨a0, len0, cap0, rfl⟩ := okWide_slice Try.underlying22 (hval 0 22 v0 rfl rfl)
  have k0 := h0
  have lt0 : ∀ x ∈ p0, x.block < W.heap.size := by obtain ⟨m, hm⟩ := k0; exact DataW.trod_lt m _ _ _ hm
  obtain ⟨z0, w0⟩ : ∃ zs, IsRow .u8 W a0 len0 cap0 zs := by
    obtain ⟨fuel, hf⟩ := h0
    rcases open_ints Try.underlying22 Try.underlying5 (by kernel_rfl) hf with ⟨hcs, _⟩ | ⟨x, l, c, zs, hcs, _, hl, hm, hz, _, hcell, hwz⟩
    · simp [Value.cells] at hcs
      obtain ⟨rfl, rfl, rfl⟩ := hcs
      exact ⟨[], .inl ⟨rfl, rfl, rfl, rfl⟩⟩
    · simp [Value.cells] at hcs
      obtain ⟨rfl, rfl, rfl⟩ := hcs
      exact ⟨zs, .inr ⟨_, rfl, hl, hm, by simpa using hz, hcell, hwz⟩⟩
  clear hA0 hval0
  simp only [List.append_nil] at hW'
  refine (Rm.handsWalk Rm.drawsRoom a0 len0 cap0 W (code_of w0)).mono fun e W' ⟨he, bel⟩ => ?_
  subst he
  exact ⟨_, rfl, _, _, _, [], _, [], hW', trodAll_mk1 (shut_bool Try.underlying4 _), (trodAll_cons_mk (Below.trod laidOut (by kernel_rfl) (of_decide_eq_true (by kernel_rfl)) k0 bel lt0) trodAll_mk0), rfl, bel.frame _, fun h => by cases h⟩

theorem over : Rows.fnHandsOfRow.holds Try.pinned (OpenSpec.ofChange Rows.fnHandsOfSpec) :=
  OpenClaim.holds_of_wide 4 Try.f4 rfl rfl rfl rfl rfl rfl rfl ⟨rfl, rfl, rfl, rfl, rfl⟩ rfl rfl rfl rfl rfl (by kernel_rfl) Try.func4 (by kernel_rfl)
    (of_decide_eq_true (by kernel_rfl)) (by unfold Func.isWrapper; first | (rw [if_pos (by decide +kernel)]; kernel_rfl) | (rw [if_neg (by decide +kernel)]; exact ⟨rfl, rfl⟩))
    (fun os started H enc _ => lifted os started H enc)

theorem proved : Rows.FnHandsOfSaid :=
  over
end Go.Proofs.Ytdcjjopeobnpgaa.fnHandsOf
