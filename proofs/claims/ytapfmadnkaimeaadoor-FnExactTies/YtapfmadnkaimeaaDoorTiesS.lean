/-
  What the model's Ties answers: the lace and the hand when the hand has tied; for lists of knots whose words have at most 2^40 bytes, and such a word.
-/
import Derived.Test.YtapfmadnkaimeaaDoorDraftS
import Derived.Test.YtapfmadnkaimeaaDoorRoomH
namespace Go.Proofs.YtapfmadnkaimeaaDoor
open Go.RowKit
set_option maxRecDepth 100000
set_option linter.unusedVariables false
namespace Rm
open Kn (K okK)
open Lc (at' RdK WordsOk laceB OwnK)
open Sg (belows orB)

def tiesB (L : List K) (h : Hd) (word : ByteArray) : Bool := handOkB L h && tieB L h word
def tiesL (L : List K) (h : Hd) (word : ByteArray) : List K := if handOkB L h then (if tieB L h word then L ++ [tieK L h word] else L) else []
def tiesH (L : List K) (h : Hd) (word : ByteArray) : Hd := if handOkB L h then (if tieB L h word then ⟨h.who, orB h.has (2 ^ L.length), orB h.has (2 ^ L.length), (L.length : Int)⟩ else h) else ⟨0, 0, 0, 0⟩

/-- how Ties ends -/
def TiesPost (L : List K) (h : Hd) (word : ByteArray) (w : World) (e : Ending) (w' : World) : Prop :=
  ∃ v, e = .returned (.tuple #[v, .agg #[.int .i64 (tiesH L h word).who, .int .i64 (tiesH L h word).has, .int .i64 (tiesH L h word).kept, .int .i64 (tiesH L h word).last], .bool (tiesB L h word)]) ∧ OwnK 38 w.heap.size w' v (tiesL L h word) ∧ Below w.heap.size w w'

/-- the tying, in one word -/
theorem tie_one (g off cap : Nat) (L : List K) (h : Hd) (word : ByteArray) (w : World) (hcap : L.length ≤ cap) (hl : laceB L = true) (hr : RdK w (some ⟨g, off, none⟩) L) (hok : HdOk L.length h) (hwd : word.size ≤ 1099511627776) :
    Calls Tryd.prog 44 #[.slice (some ⟨g, off, none⟩) L.length cap, .agg #[.int .i64 h.who, .int .i64 h.has, .int .i64 h.kept, .int .i64 h.last], .string word] w fun e w' => ∃ xo xc, e = .returned (.tuple #[.slice (some xo) (if tieB L h word then L ++ [tieK L h word] else L).length xc, .agg #[.int .i64 (if tieB L h word then (⟨h.who, orB h.has (2 ^ L.length), orB h.has (2 ^ L.length), (L.length : Int)⟩ : Hd) else h).who, .int .i64 (if tieB L h word then (⟨h.who, orB h.has (2 ^ L.length), orB h.has (2 ^ L.length), (L.length : Int)⟩ : Hd) else h).has, .int .i64 (if tieB L h word then (⟨h.who, orB h.has (2 ^ L.length), orB h.has (2 ^ L.length), (L.length : Int)⟩ : Hd) else h).kept, .int .i64 (if tieB L h word then (⟨h.who, orB h.has (2 ^ L.length), orB h.has (2 ^ L.length), (L.length : Int)⟩ : Hd) else h).last], .bool (tieB L h word)]) ∧ xo.spot = none ∧ RdK w' (some xo) (if tieB L h word then L ++ [tieK L h word] else L) ∧ Below w.heap.size w w' := by
  refine (l14Tie (some ⟨g, off, none⟩) cap L h word w (fun e => by cases e) (fun x e => by cases e; rfl) hcap hl hr hok hwd).mono ?_
  rintro e w' ⟨h1 | h1, hb⟩
  · obtain ⟨q, rfl⟩ := h1
    rw [q]
    exact ⟨⟨g, off, none⟩, cap, rfl, rfl, hr.below hb, hb⟩
  · obtain ⟨q, v, rfl, ho⟩ := h1
    obtain ⟨g', cp', rfl, _, _, _, _, hrd, _⟩ := Lc.ownK_shape ho
    rw [q]
    exact ⟨⟨g', 0, none⟩, cp', rfl, rfl, hrd, hb⟩

set_option maxHeartbeats 3200000 in
theorem specTies (g off cap : Nat) (L : List K) (h : Hd) (word : ByteArray) (w : World) (hcap : L.length ≤ cap) (hw : WordsOk L) (hr : RdK w (some ⟨g, off, none⟩) L) (hk : H64 h) (hwd : word.size ≤ 1099511627776) :
    Calls Tryd.prog 22 #[.slice (some ⟨g, off, none⟩) L.length cap, .agg #[.int .i64 h.who, .int .i64 h.has, .int .i64 h.kept, .int .i64 h.last], .string word] w (TiesPost L h word w) := by
  have P0 : Hid (HzO w ((w.alloc (.cells #[.int .i64 h.who, .int .i64 h.has, .int .i64 h.kept, .int .i64 h.last] 26)).alloc (.cells #[.int .i64 0, .int .i64 0, .int .i64 0, .int .i64 0] 26)) h ⟨0, 0, 0, 0⟩) := hzo_new w h _
  have HR : Hid (RdK w (some ⟨g, off, none⟩) L) := hr
  clear hr
  go_enter Tryd.func22, Tryd.ntmps22
  go_wp2_with fail
  generalize (w.alloc (.cells #[.int .i64 h.who, .int .i64 h.has, .int .i64 h.kept, .int .i64 h.last] 26)).alloc (.cells #[.int .i64 0, .int .i64 0, .int .i64 0, .int .i64 0] 26) = W0 at P0 ⊢
  refine (specHandOk g off cap L h W0 hcap hw (HR.out.below P0.out.bel) hk).mono ?_
  rintro e w1 ⟨rfl, hb1⟩
  have P1 : Hid (HzO w w1 h ⟨0, 0, 0, 0⟩) := P0.out.below hb1
  clear hb1 P0
  cases ho : handOkB L h
  · have HT : Hid (tiesH L h word = ⟨0, 0, 0, 0⟩ ∧ tiesB L h word = false ∧ tiesL L h word = []) := ⟨by unfold tiesH; rw [ho]; rfl, by unfold tiesB; rw [ho]; rfl, by unfold tiesL; rw [ho]; rfl⟩
    have P2 : Hid (HzO w (w1.alloc (.cells #[] 38)) h ⟨0, 0, 0, 0⟩) := P1.out.below ((Below.refl _ _).alloc (Nat.le_refl _) _)
    have HOE : Hid (OwnK 38 (w.heap.size + 2) (w1.alloc (.cells #[] 38)) (.slice (some ⟨w1.heap.size, 0, none⟩) 0 0) []) := by
      have hz := P1.out.zz.lt
      exact ⟨⟨rfl, .inr ⟨w1.heap.size, 0, #[], rfl, by omega, (by show (w1.heap.push _)[w1.heap.size]? = _; rw [Array.getElem?_push_size]), Nat.le_refl _, Nat.zero_le _, rfl, rfl⟩⟩, by simp⟩
    obtain ⟨V, hV, m0, m1, m2, m3, hB⟩ := P2.out.put ⟨0, 0, 0, 0⟩
    have hOV := ownK_put HOE.out (p := w.heap.size + 1) (by omega) (.int .i64 0) (.int .i64 0) (.int .i64 0) (.int .i64 0)
    dsimp only at hV m0 m1 m2 m3
    rw [← hV] at hOV
    have HF : Hid (TiesPost L h word w (.returned (.tuple #[.slice (some ⟨w1.heap.size, 0, none⟩) 0 0, .agg #[.int .i64 0, .int .i64 0, .int .i64 0, .int .i64 0], .bool false])) V) := by
      refine ⟨_, by rw [HT.out.1, HT.out.2.1], ?_, hB⟩
      rw [HT.out.2.2]
      exact Lc.ownK_base hOV (by omega)
    obtain ⟨z0, z1, z2, z3⟩ := cellsH P2.out.zz
    have f0 := P2.out.zz.f0
    have f1 := P2.out.zz.f1
    have f2 := P2.out.zz.f2
    have f3 := P2.out.zz.f3
    simp only [Nat.zero_add] at f1 f2 f3
    have HV : Hid (V = _) := hV
    clear ho hV hOV HOE P2 P1 hB
    go_wp2
    rw [← HV.out]
    refine bodyPost_ret (v := .tuple #[.slice (some ⟨w1.heap.size, 0, none⟩) 0 0, .agg #[.int .i64 0, .int .i64 0, .int .i64 0, .int .i64 0], .bool false]) (by simp [results, Tryd.f22, go_sem, m0, m1, m2, m3]) rfl ?_
    exact HF.out
  · have hpt := ho
    unfold handOkB at hpt
    rw [Bool.and_eq_true] at hpt
    obtain ⟨hl, hok⟩ := hpt
    have hbd := hok_parts hk hl hok
    have hla := hok_last hok
    have h60 := ((Lc.lace_iff L).1 hl).1
    have hT := tie_one g off cap L h word w1 hcap hl (HR.out.below P1.out.bel) ⟨hbd.1, hbd.2.1, hbd.2.2.1, hbd.2.2.2, hla⟩ hwd
    have HTB : Hid (tiesB L h word = tieB L h word) := by show _ = _; unfold tiesB; rw [ho]; rfl
    have HTL : Hid (tiesL L h word = if tieB L h word then L ++ [tieK L h word] else L) := by show _ = _; unfold tiesL; rw [if_pos ho]
    have HTH : Hid (tiesH L h word = if tieB L h word then (⟨h.who, orB h.has (2 ^ L.length), orB h.has (2 ^ L.length), (L.length : Int)⟩ : Hd) else h) := by show _ = _; unfold tiesH; rw [if_pos ho]
    have hM : (if tieB L h word then L ++ [tieK L h word] else L).length ≤ 2000000 := by
      split
      · rw [List.length_append]; simp; omega
      · omega
    generalize (if tieB L h word then L ++ [tieK L h word] else L) = M at hT HTL hM
    generalize (if tieB L h word then (⟨h.who, orB h.has (2 ^ L.length), orB h.has (2 ^ L.length), (L.length : Int)⟩ : Hd) else h) = y at hT HTH
    generalize tieB L h word = tb at hT HTB
    obtain ⟨y0, y1, y2, y3⟩ := y
    dsimp only at hT
    obtain ⟨c0, c1, c2, c3⟩ := cellsH P1.out.hh
    clear ho hok hbd hla hl
    go_wp2_with fail
    refine hT.mono ?_
    rintro e w3 ⟨xo, xc, rfl, hsp, hrd3, hb3⟩
    have P3 : Hid (HzO w w3 h ⟨0, 0, 0, 0⟩) := P1.out.below hb3
    have P4 : Hid (HzO w (w3.alloc (.cells #[.int .i64 y0, .int .i64 y1, .int .i64 y2, .int .i64 y3] 26)) h ⟨0, 0, 0, 0⟩ ∧ HAt (w3.alloc (.cells #[.int .i64 y0, .int .i64 y1, .int .i64 y2, .int .i64 y3] 26)) w3.heap.size 0 ⟨y0, y1, y2, y3⟩) := ⟨P3.out.below ((Below.refl _ _).alloc (Nat.le_refl _) _), hat_new w3 ⟨y0, y1, y2, y3⟩ _⟩
    have HCP : Hid (∀ X : World, Below (w3.alloc (.cells #[.int .i64 y0, .int .i64 y1, .int .i64 y2, .int .i64 y3] 26)).heap.size (w3.alloc (.cells #[.int .i64 y0, .int .i64 y1, .int .i64 y2, .int .i64 y3] 26)) X → Calls Tryd.prog 45 #[.slice (some xo) M.length xc] X (Lc.CopyPost M X)) := fun X hX =>
      l3CopyO (some xo) xc M X (fun e => by cases e) (fun x e => by cases e; exact hsp) hM ((hrd3.below ((Below.refl _ w3).alloc (Nat.le_refl _) _)).below hX)
    clear hT hb3 hrd3 hsp P3 P1 c0 c1 c2 c3
    go_upto_region 4 with fail
    generalize w3.alloc (.cells #[.int .i64 y0, .int .i64 y1, .int .i64 y2, .int .i64 y3] 26) = w4 at P4 HCP ⊢
    generalize w3.heap.size = yb at P4 ⊢
    obtain ⟨d0, d1, d2, d3⟩ := cellsH P4.out.2
    dsimp only at d0 d1 d2 d3
    go_region_with (
      go_at_call 45
      refine (HCP.out _ (Below.refl _ w4).drew).mono ?_
      rintro e w5 ⟨v, rfl, hO5, hb5⟩
      have P5 : Hid (HzO w w5 h ⟨0, 0, 0, 0⟩ ∧ HAt w5 yb 0 ⟨y0, y1, y2, y3⟩ ∧ OwnK 38 w4.heap.size w5 v M) := ⟨(P4.out.1.below (Below.refl _ w4).drew).below hb5, hat_below (hat_drew P4.out.2) hb5, hO5⟩
      have hw4 : w.heap.size + 1 < w4.heap.size := P4.out.1.zz.lt
      obtain ⟨vg, vc, hvs⟩ : ∃ vg vc, v = .slice (some ⟨vg, 0, none⟩) M.length vc := by obtain ⟨vg, vc, e, _⟩ := Lc.ownK_shape hO5; exact ⟨vg, vc, e⟩
      subst hvs
      clear hO5 hb5
      have e0 := (cellsH P5.out.2.1).1
      have e1 := (cellsH P5.out.2.1).2.1
      have e2 := (cellsH P5.out.2.1).2.2.1
      have e3 := (cellsH P5.out.2.1).2.2.2
      dsimp only at e0 e1 e2 e3
      have z0 := (cellsH P5.out.1.zz).1
      have z1 := (cellsH P5.out.1.zz).2.1
      have z2 := (cellsH P5.out.1.zz).2.2.1
      have z3 := (cellsH P5.out.1.zz).2.2.2
      have f0 := P5.out.1.zz.f0
      have f1 := P5.out.1.zz.f1
      have f2 := P5.out.1.zz.f2
      have f3 := P5.out.1.zz.f3
      simp only [Nat.zero_add] at f1 f2 f3)
    all_goals (have HPU := P5.out.1.put ⟨y0, y1, y2, y3⟩)
    all_goals obtain ⟨V, hV, m0, m1, m2, m3, hB⟩ := HPU
    all_goals (have hOV := ownK_put P5.out.2.2 (p := w.heap.size + 1) hw4 (.int .i64 y0) (.int .i64 y1) (.int .i64 y2) (.int .i64 y3))
    all_goals dsimp only at hV m0 m1 m2 m3
    all_goals rw [← hV] at hOV
    all_goals (have HV : Hid (V = _) := hV)
    all_goals clear hV
    all_goals go_wp2
    all_goals rw [← HV.out]
    all_goals refine bodyPost_ret (v := .tuple #[.slice (some ⟨vg, 0, none⟩) M.length vc, .agg #[.int .i64 y0, .int .i64 y1, .int .i64 y2, .int .i64 y3], .bool tb]) (by simp [results, Tryd.f22, go_sem, m0, m1, m2, m3]) rfl ?_
    all_goals exact ⟨_, by rw [HTH.out, HTB.out], by rw [HTL.out]; exact Lc.ownK_base hOV (by omega), hB⟩

end Rm
end Go.Proofs.YtapfmadnkaimeaaDoor
