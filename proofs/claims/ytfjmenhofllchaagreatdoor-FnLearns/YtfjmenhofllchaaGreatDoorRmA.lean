/-
  A room that came in: where its lists lie; and the model's copy of a list of numbers that may be nil.
-/
import Derived.Test.YtfjmenhofllchaaGreatDoorRoomQ
import Derived.Test.YtfjmenhofllchaaGreatDoorRoomG
namespace Go.Proofs.YtfjmenhofllchaaGreatDoor
open Go.RowKit
set_option maxRecDepth 100000
set_option linter.unusedVariables false
namespace Rm
open Kn (K okK)
open Lc (at' RdK laceB WordsOk)

theorem lace_short {L : List K} (h : laceB L = true) : ∀ k ∈ L, k.word.size ≤ 13 := by
  intro k hk
  obtain ⟨i, hi, rfl⟩ := List.mem_iff_getElem.1 hk
  have := Lc.can_ok (Lc.lace_upTo h i hi)
  rw [Lc.at_get L i hi] at this
  simp only [okK, Bool.and_eq_true] at this
  have h5 := this.2.2.2.2
  simp only [Kn.okW, Bool.and_eq_true, decide_eq_true_eq] at h5
  omega
theorem lace_words {L : List K} (h : laceB L = true) : WordsOk L := fun k hk => by have := lace_short h k hk; omega

/-- a list of knots that came in, nil or not -/
structure LArg (w : World) (ao : Option Addr) (cap : Nat) (L : List K) : Prop where
  nil : ao = none → L = [] ∧ cap = 0
  cap : L.length ≤ cap
  words : WordsOk L
  rd : RdK w ao L
  spot : ∀ x, ao = some x → ∃ g off, x = ⟨g, off, none⟩
theorem LArg.below {w w' : World} {ao : Option Addr} {cap : Nat} {L : List K} (h : LArg w ao cap L) (hb : Below w.heap.size w w') : LArg w' ao cap L := ⟨h.nil, h.cap, h.words, h.rd.below hb, h.spot⟩
/-- a list of numbers that came in -/
structure CArg (w : World) (co : Option Addr) (cc : Nat) (C : List Int) : Prop where
  nil : co = none → cc = 0
  len : C.length ≤ 1048576
  rd : Lst.Rd w co C
  lt : ∀ g, co = some ⟨g, 0, none⟩ → g < w.heap.size
theorem rd_below {w w' : World} {ao : Option Addr} {l : List Int} (h : Lst.Rd w ao l) (hl : ∀ g, ao = some ⟨g, 0, none⟩ → g < w.heap.size) (hb : Below w.heap.size w w') : Lst.Rd w' ao l := by
  rcases h with h | ⟨g, hg, hc⟩
  · exact .inl h
  · exact .inr ⟨g, hg, fun j hj => (hb.cell (p := ⟨g, j, none⟩) (hl g hg)).trans (hc j hj)⟩
theorem CArg.below {w w' : World} {co : Option Addr} {cc : Nat} {C : List Int} (h : CArg w co cc C) (hb : Below w.heap.size w w') : CArg w' co cc C :=
  ⟨h.nil, h.len, rd_below h.rd h.lt hb, fun g hg => Nat.lt_of_lt_of_le (h.lt g hg) hb.size⟩
/-- a hand's four cells -/
structure H4 (w : World) (g o : Nat) (h : Hd) : Prop where
  c0 : w.cell? ⟨g, o, none⟩ = some (.int .i64 h.who)
  c1 : w.cell? ⟨g, o + 1, none⟩ = some (.int .i64 h.has)
  c2 : w.cell? ⟨g, o + 2, none⟩ = some (.int .i64 h.kept)
  c3 : w.cell? ⟨g, o + 3, none⟩ = some (.int .i64 h.last)
theorem H4.below {w w' : World} {g o : Nat} {h : Hd} (x : H4 w g o h) (hg : g < w.heap.size) (hb : Below w.heap.size w w') : H4 w' g o h :=
  ⟨(hb.cell (p := ⟨g, o, none⟩) hg).trans x.c0, (hb.cell (p := ⟨g, o + 1, none⟩) hg).trans x.c1, (hb.cell (p := ⟨g, o + 2, none⟩) hg).trans x.c2, (hb.cell (p := ⟨g, o + 3, none⟩) hg).trans x.c3⟩
def zeroH : Hd := ⟨0, 0, 0, 0⟩
/-- a list of hands that came in -/
structure HArg (w : World) (ho : Option Addr) (hc : Nat) (H : List Hd) : Prop where
  cap : H.length ≤ hc
  rd : H = [] ∨ ∃ g off, ho = some ⟨g, off, none⟩ ∧ g < w.heap.size ∧ ∀ i, i < H.length → H4 w g (off + i * 4) (H.getD i zeroH)
theorem HArg.below {w w' : World} {ho : Option Addr} {hc : Nat} {H : List Hd} (h : HArg w ho hc H) (hb : Below w.heap.size w w') : HArg w' ho hc H :=
  ⟨h.cap, h.rd.imp id fun ⟨g, off, e, hg, hx⟩ => ⟨g, off, e, Nat.lt_of_lt_of_le hg hb.size, fun i hi => (hx i hi).below hg hb⟩⟩
/-- a room that came in -/
structure RArg (w : World) (ao : Option Addr) (la : Nat) (L : List K) (co : Option Addr) (cc : Nat) (C : List Int) (ho : Option Addr) (hc : Nat) (H : List Hd) : Prop where
  l : LArg w ao la L
  c : CArg w co cc C
  h : HArg w ho hc H
theorem RArg.below {w w' : World} {ao : Option Addr} {la : Nat} {L : List K} {co : Option Addr} {cc : Nat} {C : List Int} {ho : Option Addr} {hc : Nat} {H : List Hd} (x : RArg w ao la L co cc C ho hc H) (hb : Below w.heap.size w w') : RArg w' ao la L co cc C ho hc H := ⟨x.l.below hb, x.c.below hb, x.h.below hb⟩

/-- a room of the call's own -/
structure RoOwn (B : Nat) (w : World) (R : Ro) (L : List K) (C : List Int) (hs : Nat → Hd) (bad : Int) : Prop where
  parts : Parts B w R
  l : R.L = L
  h : R.hs = hs
  b : R.bad = bad
  co : ∃ co cc, R.cv = .slice co C.length cc ∧ Memb.Own B w co cc C
  ng : R.cv.ownBlock ≠ some R.gh

/-- a hand of four, as a function -/
def handF (H : List Hd) : Nat → Hd := fun i => H.getD i zeroH
def hands4 (hs : Nat → Hd) : List Hd := [hs 0, hs 1, hs 2, hs 3]
theorem hands4_get (hs : Nat → Hd) (i : Nat) (hi : i < 4) : (hands4 hs).getD i zeroH = hs i := by
  match i, hi with
  | 0, _ => rfl
  | 1, _ => rfl
  | 2, _ => rfl
  | 3, _ => rfl

set_option maxHeartbeats 800000 in
theorem l1CopyE (ad : Addr) (cap : Nat) (w : World) : Calls Tryz.prog 152 #[.slice (some ad) 0 cap] w (Sg.NumsPost [] w) := by
  obtain ⟨i0, hi, hz0, hz1, hz2⟩ := info_parts Memb.info2
  go_enter Tryz.func152, Tryz.ntmps152
  go_wp2_with (at_builtin; refine wpList_append_own _ rfl _ _ 51 rfl w.heap.size 2 i0 (.int .i64 0) 1 8 Tryz.underlying51 hi hz0 hz1 hz2 rfl (by decide) _ 0 [] rfl (Memb.own_empty w) ad 0 cap [] rfl rfl (fun j u h => by simp at h) (fun u hu => by cases hu) ?c3 ?c4 ?c5 ?_)
  case c3 => unfold maxLen; omega
  case c4 => omega
  case c5 => simp
  intro v' w5 hown' hgrow _
  have HR : Hid (w5.ownsRow w.heap.size 2 1 v' ([] : List Int).length (([] : List Int).map (Value.int .i64)) ∧ Below w.heap.size w w5) :=
    ⟨by simpa using hown', ((Below.refl w.heap.size w).alloc (Nat.le_refl _) _).grown hgrow (by simp) (fun i hi => by simp [Value.ownBlock] at hi; omega)⟩
  clear hown' hgrow hi hz0 hz1 hz2
  obtain ⟨ao, ca, hv, ho⟩ := Memb.own_shape HR.out.1
  subst hv
  go_wp2
  go_ret
  exact ⟨ao, ca, rfl, ho, HR.out.2⟩
theorem l1CopyA (co : Option Addr) (cc : Nat) (C : List Int) (w : World) (h : CArg w co cc C) : Calls Tryz.prog 152 #[.slice co C.length cc] w (Sg.NumsPost C w) := by
  rcases h.rd with e | ⟨g, e, hc⟩
  · subst e
    cases co with
    | none => rw [h.nil rfl]; exact l1CopyN w
    | some ad => exact l1CopyE ad cc w
  · subst e
    exact l1Copy g cc C w h.len (h.lt g rfl) (.inr ⟨g, rfl, hc⟩)

end Rm
end Go.Proofs.YtfjmenhofllchaaGreatDoor
