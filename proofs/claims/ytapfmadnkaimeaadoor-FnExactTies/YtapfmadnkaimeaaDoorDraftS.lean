/-
  What the model's Draft answers: the knot that a hand would tie; for lists of knots whose words have at most 2^40 bytes, and such a word.
-/
import Derived.Test.YtapfmadnkaimeaaDoorHandU
import Derived.Test.YtapfmadnkaimeaaDoorRoomE
namespace Go.Proofs.YtapfmadnkaimeaaDoor
open Go.RowKit
set_option maxRecDepth 100000
set_option linter.unusedVariables false
namespace Rm
open Kn (K okK)
open Lc (at' RdK WordsOk laceB)
open Sg (belows)

def draftedB (L : List K) (h : Hd) (word : ByteArray) : Bool := handOkB L h && draftB L (belows L L.length) h.who h.has h.last word
def draftedK (L : List K) (h : Hd) (word : ByteArray) : K := if draftedB L h word then draftK L (belows L L.length) h.who h.has h.last word else ⟨0, 0, 0, ⟨#[]⟩⟩

/-- a hand that came in and a zero knot for the answer -/
structure DzO (w W : World) (h : Hd) : Prop where
  bel : Below w.heap.size w W
  hh : HAt W w.heap.size 0 h
  zz : Kn.Zero (w.heap.size + 1) W
theorem dzo_new (w : World) (h : Hd) (t u : TypeId) : DzO w ((w.alloc (.cells #[.int .i64 h.who, .int .i64 h.has, .int .i64 h.kept, .int .i64 h.last] t)).alloc (.cells #[.int .i64 0, .int .i64 0, .int .i64 0, .string ⟨#[]⟩] u)) h where
  bel := ((Below.refl _ _).alloc (Nat.le_refl _) _).alloc (by simp) _
  hh := hat_below (hat_new w h t) ((Below.refl _ _).alloc (Nat.le_refl _) _)
  zz := by have := Kn.zero_new (w.alloc (.cells #[.int .i64 h.who, .int .i64 h.has, .int .i64 h.kept, .int .i64 h.last] t)) u; simpa using this

theorem DzO.below {w W V : World} {h : Hd} (x : DzO w W h) (hb : Below W.heap.size W V) : DzO w V h := ⟨x.bel.trans (hb.mono x.bel.size), hat_below x.hh hb, x.zz.below hb⟩
theorem zcells {b : Nat} {w : World} (z : Kn.Zero b w) : w.cell? ⟨b, 0, none⟩ = some (.int .i64 0) ∧ w.cell? ⟨b, 1, none⟩ = some (.int .i64 0) ∧ w.cell? ⟨b, 2, none⟩ = some (.int .i64 0) ∧ w.cell? ⟨b, 3, none⟩ = some (.string ⟨#[]⟩) ∧ w.frozen? ⟨b, 0, none⟩ = false ∧ w.frozen? ⟨b, 1, none⟩ = false ∧ w.frozen? ⟨b, 2, none⟩ = false ∧ w.frozen? ⟨b, 3, none⟩ = false := ⟨z.r0, z.r1, z.r2, z.r3, z.f0, z.f1, z.f2, z.f3⟩
theorem zput {b n : Nat} {w V : World} (z : Kn.Zero b V) (hb : Below n w V) (hn : n ≤ b) (k0 k1 k2 : Int) (k3 : ByteArray) : ∃ W, W = ((((V.setCell ⟨b, 0, none⟩ (.int .i64 k0)).setCell ⟨b, 1, none⟩ (.int .i64 k1)).setCell ⟨b, 2, none⟩ (.int .i64 k2)).setCell ⟨b, 3, none⟩ (.string k3)) ∧
    W.cell? ⟨b, 0, none⟩ = some (.int .i64 k0) ∧ W.cell? ⟨b, 1, none⟩ = some (.int .i64 k1) ∧ W.cell? ⟨b, 2, none⟩ = some (.int .i64 k2) ∧ W.cell? ⟨b, 3, none⟩ = some (.string k3) ∧ Below n w W := by
  have q := z.put (.int .i64 k0) (.int .i64 k1) (.int .i64 k2) (.string k3)
  exact ⟨_, rfl, q.1, q.2.1, q.2.2.1, q.2.2.2, (((hb.setCell (p := ⟨b, 0, none⟩) hn _).setCell (p := ⟨b, 1, none⟩) hn _).setCell (p := ⟨b, 2, none⟩) hn _).setCell (p := ⟨b, 3, none⟩) hn _⟩
/-- the draft, or nothing -/
def dzK (L : List K) (l : List Int) (who has last : Int) (word : ByteArray) : K := if draftB L l who has last word then draftK L l who has last word else ⟨0, 0, 0, ⟨#[]⟩⟩
theorem draft_dz {L : List K} {l : List Int} {who has last : Int} {word : ByteArray} {w : World} {e : Ending} {w' : World} (h : DraftPost L l who has last word w e w') :
    e = .returned (.tuple #[.agg #[.int .i64 (dzK L l who has last word).hand, .int .i64 (dzK L l who has last word).round, .int .i64 (dzK L l who has last word).frm, .string (dzK L l who has last word).word], .bool (draftB L l who has last word)]) ∧ Below w.heap.size w w' := by
  obtain ⟨h1 | h1, hb⟩ := h
  · refine ⟨?_, hb⟩
    unfold dzK
    rw [h1.1, h1.2]; rfl
  · refine ⟨?_, hb⟩
    unfold dzK
    rw [h1.1, h1.2]; rfl

set_option maxHeartbeats 3200000 in
theorem specDraft (g off cap : Nat) (L : List K) (h : Hd) (word : ByteArray) (w : World) (hcap : L.length ≤ cap) (hw : WordsOk L) (hr : RdK w (some ⟨g, off, none⟩) L) (hk : H64 h) (hwd : word.size ≤ 1099511627776) :
    Calls Tryd.prog 19 #[.slice (some ⟨g, off, none⟩) L.length cap, .agg #[.int .i64 h.who, .int .i64 h.has, .int .i64 h.kept, .int .i64 h.last], .string word] w fun e w' => e = .returned (.tuple #[.agg #[.int .i64 (draftedK L h word).hand, .int .i64 (draftedK L h word).round, .int .i64 (draftedK L h word).frm, .string (draftedK L h word).word], .bool (draftedB L h word)]) ∧ Below w.heap.size w w' := by
  have P0 : Hid (DzO w ((w.alloc (.cells #[.int .i64 h.who, .int .i64 h.has, .int .i64 h.kept, .int .i64 h.last] 26)).alloc (.cells #[.int .i64 0, .int .i64 0, .int .i64 0, .string ⟨#[]⟩] 38)) h) := dzo_new w h _ _
  have HR : Hid (RdK w (some ⟨g, off, none⟩) L) := hr
  clear hr
  go_enter Tryd.func19, Tryd.ntmps19
  go_wp2_with fail
  generalize (w.alloc (.cells #[.int .i64 h.who, .int .i64 h.has, .int .i64 h.kept, .int .i64 h.last] 26)).alloc (.cells #[.int .i64 0, .int .i64 0, .int .i64 0, .string ⟨#[]⟩] 38) = W0 at P0 ⊢
  refine (specHandOk g off cap L h W0 hcap hw (HR.out.below P0.out.bel) hk).mono ?_
  rintro e w1 ⟨rfl, hb1⟩
  have P1 : Hid (DzO w w1 h) := P0.out.below hb1
  clear hb1 P0
  cases ho : handOkB L h
  · have HT : Hid (draftedK L h word = ⟨0, 0, 0, ⟨#[]⟩⟩ ∧ draftedB L h word = false) := by
      have q : draftedB L h word = false := by unfold draftedB; rw [ho]; rfl
      exact ⟨by unfold draftedK; rw [q]; rfl, q⟩
    obtain ⟨z0, z1, z2, z3, f0, f1, f2, f3⟩ := zcells P1.out.zz
    obtain ⟨W, hW, m0, m1, m2, m3, hB⟩ := zput P1.out.zz P1.out.bel (by omega) 0 0 0 ⟨#[]⟩
    have HW : Hid (W = _) := hW
    clear ho hW P1
    go_wp2
    rw [← HW.out]
    refine bodyPost_ret (v := .tuple #[.agg #[.int .i64 0, .int .i64 0, .int .i64 0, .string ⟨#[]⟩], .bool false]) (by simp [results, Tryd.f19, go_sem, m0, m1, m2, m3]) rfl ?_
    exact ⟨by rw [HT.out.1, HT.out.2], hB⟩
  · have hpt := ho
    unfold handOkB at hpt
    rw [Bool.and_eq_true] at hpt
    obtain ⟨hl, hok⟩ := hpt
    have hbd := hok_parts hk hl hok
    have hla := hok_last hok
    have h60 := ((Lc.lace_iff L).1 hl).1
    have HTB : Hid (draftedB L h word = draftB L (belows L L.length) h.who h.has h.last word) := by show _ = _; unfold draftedB; rw [ho]; rfl
    have HTK : Hid (draftedK L h word = dzK L (belows L L.length) h.who h.has h.last word) := by show _ = _; unfold draftedK dzK; rw [HTB.out]
    have hbl := Sg.belows_len L L.length
    have HALL : Hid (∀ X : World, DzO w X h → Calls Tryd.prog 29 #[.slice (some ⟨g, off, none⟩) L.length cap] X fun e Y => ∃ bo bc, e = .returned (.slice bo L.length bc) ∧ Lst.Rd Y bo (belows L L.length) ∧ (∀ c, bo = some ⟨c, 0, none⟩ → c < Y.heap.size) ∧ DzO w Y h) := fun X hX => by
      refine (Sg.l4All (some ⟨g, off, none⟩) cap L X h60 (Sg.frm_lace hl) (HR.out.below hX.bel)).mono ?_
      rintro e Y ⟨bo, bc, rfl, hown, hb⟩
      rw [hbl]
      exact ⟨bo, bc, rfl, Lst.own_rd hown, fun c e => by subst e; exact (World.ownsRow.lt hown c rfl).2, hX.below hb⟩
    have HDRF : Hid (∀ (X : World) (bo : Option Addr) (bc : Nat), Lst.Rd X bo (belows L L.length) → (∀ c, bo = some ⟨c, 0, none⟩ → c < X.heap.size) → DzO w X h → Calls Tryd.prog 39 #[.slice (some ⟨g, off, none⟩) L.length cap, .slice bo L.length bc, .agg #[.int .i64 h.who, .int .i64 h.has, .int .i64 h.kept, .int .i64 h.last], .string word] X fun e Y => e = .returned (.tuple #[.agg #[.int .i64 (dzK L (belows L L.length) h.who h.has h.last word).hand, .int .i64 (dzK L (belows L L.length) h.who h.has h.last word).round, .int .i64 (dzK L (belows L L.length) h.who h.has h.last word).frm, .string (dzK L (belows L L.length) h.who h.has h.last word).word], .bool (draftB L (belows L L.length) h.who h.has h.last word)]) ∧ DzO w Y h) := fun X bo bc h1 h2 hX => by
      have := l14Draft (some ⟨g, off, none⟩) cap L bo bc (belows L L.length) h.who h.has h.kept h.last word X h60 hbl (Lc.lace_hands hl) (HR.out.below hX.bel) h1 h2 hbd.1 hbd.2.1 hla hwd
      rw [hbl] at this
      refine this.mono ?_
      intro e Y q
      obtain ⟨q1, q2⟩ := draft_dz q
      exact ⟨q1, hX.below q2⟩
    generalize dzK L (belows L L.length) h.who h.has h.last word = kk at HTK HDRF
    generalize draftB L (belows L L.length) h.who h.has h.last word = db at HTB HDRF
    obtain ⟨k0, k1, k2, k3⟩ := kk
    dsimp only at HDRF
    obtain ⟨c0, c1, c2, c3⟩ := cellsH P1.out.hh
    have P1d : Hid (DzO w w1.drew h) := P1.out.below (Below.refl _ w1).drew
    clear ho hok hbl hbd hla hl P1
    go_wp2_with fail
    go_region_with (first
      | (go_at_call 29
         refine (HALL.out _ P1d.out).mono ?_
         rintro e w3 ⟨bo, bc, rfl, hrd3, hbo3, d3⟩
         have P3 : Hid (Lst.Rd w3 bo (belows L L.length) ∧ (∀ c, bo = some ⟨c, 0, none⟩ → c < w3.heap.size) ∧ DzO w w3 h) := ⟨hrd3, hbo3, d3⟩
         clear hrd3 hbo3 d3
         have e0 := (cellsH P3.out.2.2.hh).1
         have e1 := (cellsH P3.out.2.2.hh).2.1
         have e2 := (cellsH P3.out.2.2.hh).2.2.1
         have e3 := (cellsH P3.out.2.2.hh).2.2.2)
      | (go_at_call 39
         refine (HDRF.out _ _ _ P3.out.1 P3.out.2.1 P3.out.2.2).mono ?_
         rintro e w4 ⟨rfl, d4⟩
         have P4 : Hid (DzO w w4 h) := d4
         clear d4
         have z0 := (zcells P4.out.zz).1
         have z1 := (zcells P4.out.zz).2.1
         have z2 := (zcells P4.out.zz).2.2.1
         have z3 := (zcells P4.out.zz).2.2.2.1
         have f0 := (zcells P4.out.zz).2.2.2.2.1
         have f1 := (zcells P4.out.zz).2.2.2.2.2.1
         have f2 := (zcells P4.out.zz).2.2.2.2.2.2.1
         have f3 := (zcells P4.out.zz).2.2.2.2.2.2.2))
    all_goals (have HPU := zput P4.out.zz P4.out.bel (by omega) k0 k1 k2 k3)
    all_goals obtain ⟨W, hW, m0, m1, m2, m3, hB⟩ := HPU
    all_goals (have HW : Hid (W = _) := hW)
    all_goals clear hW
    all_goals go_wp2
    all_goals rw [← HW.out]
    all_goals refine bodyPost_ret (v := .tuple #[.agg #[.int .i64 k0, .int .i64 k1, .int .i64 k2, .string k3], .bool db]) (by simp [results, Tryd.f19, go_sem, m0, m1, m2, m3]) rfl ?_
    all_goals exact ⟨by rw [HTK.out, HTB.out], hB⟩

end Rm
end Go.Proofs.YtapfmadnkaimeaaDoor
