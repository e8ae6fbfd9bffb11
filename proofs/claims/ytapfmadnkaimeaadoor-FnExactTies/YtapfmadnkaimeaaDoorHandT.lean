/-
  What the model's HandOk, NewHand, Learns, LearnsAll, Keeps and Forgets answer; for lists of knots whose words have at most 2^40 bytes.
-/
import Derived.Test.YtapfmadnkaimeaaDoorHandS
import Derived.Test.YtapfmadnkaimeaaDoorFam
import Derived.Deep.RegionHeld3
namespace Go.Proofs.YtapfmadnkaimeaaDoor
open Go.RowKit
set_option maxRecDepth 100000
set_option linter.unusedVariables false
namespace Rm
open Kn (K okK)
open Bit (bit withB)
open Lc (at' RdK laceB WordsOk)
open Sg (bel belows closedTo orB)

theorem cellsH {w : World} {b : Nat} {h : Hd} (x : HAt w b 0 h) : w.cell? ⟨b, 0, none⟩ = some (.int .i64 h.who) ∧ w.cell? ⟨b, 1, none⟩ = some (.int .i64 h.has) ∧ w.cell? ⟨b, 2, none⟩ = some (.int .i64 h.kept) ∧ w.cell? ⟨b, 3, none⟩ = some (.int .i64 h.last) := by
  obtain ⟨_, a0, a1, a2, a3, _, _, _, _⟩ := x
  simp only [Nat.zero_add] at a1 a2 a3
  exact ⟨a0, a1, a2, a3⟩

set_option maxHeartbeats 3200000 in
theorem specHandOk (g off cap : Nat) (L : List K) (h : Hd) (w : World) (hcap : L.length ≤ cap) (hw : WordsOk L) (hr : RdK w (some ⟨g, off, none⟩) L) (hk : H64 h) :
    Calls Tryd.prog 27 #[.slice (some ⟨g, off, none⟩) L.length cap, .agg #[.int .i64 h.who, .int .i64 h.has, .int .i64 h.kept, .int .i64 h.last]] w fun e w' => e = .returned (.bool (handOkB L h)) ∧ Below w.heap.size w w' := by
  have P0 : Hid (Below w.heap.size w (w.alloc (.cells #[.int .i64 h.who, .int .i64 h.has, .int .i64 h.kept, .int .i64 h.last] 26)) ∧ HAt (w.alloc (.cells #[.int .i64 h.who, .int .i64 h.has, .int .i64 h.kept, .int .i64 h.last] 26)) w.heap.size 0 h) := ⟨(Below.refl _ _).alloc (Nat.le_refl _) _, hat_new w h _⟩
  go_enter Tryd.func27, Tryd.ntmps27
  go_wp2_with fail
  generalize w.alloc (.cells #[.int .i64 h.who, .int .i64 h.has, .int .i64 h.kept, .int .i64 h.last] 26) = V at P0 ⊢
  have HB0 : Hid (Below w.heap.size w V) := P0.out.1
  have HH0 : Hid (HAt V w.heap.size 0 h) := P0.out.2
  have HR0 : Hid (RdK V (some ⟨g, off, none⟩) L) := hr.below P0.out.1
  have hbl : w.heap.size < V.heap.size := HH0.out.lt
  clear P0 hr
  generalize w.heap.size = hb at HH0 hbl ⊢
  have HLO : Hid (∀ W : World, Below V.heap.size V W → Calls Tryd.prog 53 #[.slice (some ⟨g, off, none⟩) L.length cap] W fun e w' => e = .returned (.bool (laceB L)) ∧ Below V.heap.size V w') := fun W hW => (Lc.specLaceOk g off cap L W hcap hw (HR0.out.below hW)).mono fun _ _ q => ⟨q.1, hW.trans (q.2.mono hW.size)⟩
  cases hl : laceB L
  · have HT : Hid (handOkB L h = false) := by show _ = _; unfold handOkB; rw [hl]; rfl
    rw [hl] at HLO
    clear hl
    obtain ⟨X, _, F, HF, HG⟩ := Fam.fam V
    refine Fam.region (F := F) (by kernel_rfl) (by kernel_rfl) (HG.out _ (Below.refl _ V).drew) ?_
    repeat (go_big_quiet_step (first
      | (go_at_call 53; exact (HLO.out _ (HF.out _)).mono fun _ _ q => ⟨q.1, HG.out _ q.2⟩)))
    refine wpQuiet_nil ?_
    intro w2 hw2
    obtain ⟨z, rfl⟩ := hw2
    have HB2 : Hid (Below V.heap.size V (F z)) := HF.out z
    go_wp2
    go_ret
    exact ⟨by rw [HT.out]; rfl, HB0.out.trans (HB2.out.mono HB0.out.size)⟩
  · have HT : Hid (handOkB L h = hokB L h) := by show _ = _; unfold handOkB; rw [hl]; rfl
    have h60 := ((Lc.lace_iff L).1 hl).1
    have HLC : Hid (laceB L = true) := hl
    rw [hl] at HLO
    have HAL : Hid (∀ W : World, Below V.heap.size V W → Calls Tryd.prog 29 #[.slice (some ⟨g, off, none⟩) L.length cap] W fun e w' => ∃ bo bc, e = .returned (.slice bo L.length bc) ∧ Lst.Rd w' bo (belows L L.length) ∧ (∀ c, bo = some ⟨c, 0, none⟩ → c < w'.heap.size) ∧ Below V.heap.size V w') := fun W hW => by
      refine (Sg.l4All (some ⟨g, off, none⟩) cap L W h60 (Sg.frm_lace HLC.out) (HR0.out.below hW)).mono ?_
      rintro e w1 ⟨bo, bc, rfl, hown, hb1⟩
      exact ⟨bo, bc, by rw [Sg.belows_len], Lst.own_rd hown, fun c e => by subst e; exact (World.ownsRow.lt hown c rfl).2, hW.trans (hb1.mono hW.size)⟩
    have HOK : Hid (∀ (W : World) (bo : Option Addr) (bc : Nat), Below V.heap.size V W → Lst.Rd W bo (belows L L.length) → (∀ c, bo = some ⟨c, 0, none⟩ → c < W.heap.size) → Calls Tryd.prog 54 #[.slice (some ⟨g, off, none⟩) L.length cap, .slice bo L.length bc, .agg #[.int .i64 h.who, .int .i64 h.has, .int .i64 h.kept, .int .i64 h.last]] W fun e w' => e = .returned (.bool (hokB L h)) ∧ Below V.heap.size V w') := fun W bo bc hW hR hB => (l13Ok (some ⟨g, off, none⟩) cap L bo bc h W HLC.out (HR0.out.below hW) hR hB hk).mono fun _ _ q => ⟨q.1, hW.trans (q.2.mono hW.size)⟩
    have HSB : Hid (∀ W : World, Below V.heap.size V W → W.cell? ⟨hb, 0, none⟩ = some (.int .i64 h.who) ∧ W.cell? ⟨hb, 1, none⟩ = some (.int .i64 h.has) ∧ W.cell? ⟨hb, 2, none⟩ = some (.int .i64 h.kept) ∧ W.cell? ⟨hb, 3, none⟩ = some (.int .i64 h.last)) := fun W hW => by
      have q := cellsH HH0.out
      exact ⟨(hW.cell (p := ⟨hb, 0, none⟩) hbl).trans q.1, (hW.cell (p := ⟨hb, 1, none⟩) hbl).trans q.2.1, (hW.cell (p := ⟨hb, 2, none⟩) hbl).trans q.2.2.1, (hW.cell (p := ⟨hb, 3, none⟩) hbl).trans q.2.2.2⟩
    clear hl
    generalize hokB L h = ok at HOK HT
    go_region_held3 (fun W => W.cell? ⟨hb, 0, none⟩ = some (.int .i64 h.who) ∧ W.cell? ⟨hb, 1, none⟩ = some (.int .i64 h.has) ∧ W.cell? ⟨hb, 2, none⟩ = some (.int .i64 h.kept) ∧ W.cell? ⟨hb, 3, none⟩ = some (.int .i64 h.last)) (first
      | exact HSB.out _ B3 | exact HSB.out _ B2 | exact HSB.out _ B1 | exact HSB.out _ (Below.refl _ _).drew | exact HSB.out _ (Below.refl _ _) | go_keep) (first
      | (go_at_call 54
         refine (HOK.out _ _ _ B2 R2 A2).mono ?_
         rintro e V3 ⟨rfl, B3⟩)
      | (go_at_call 29
         refine (HAL.out _ B1).mono ?_
         rintro e V2 ⟨bo, bc, rfl, R2, A2, B2⟩)
      | (go_at_call 53
         refine (HLO.out _ (by first | exact (Below.refl _ _).drew | exact Below.refl _ _)).mono ?_
         rintro e V1 ⟨rfl, B1⟩))
    all_goals go_wp2
    all_goals go_ret
    all_goals exact ⟨by rw [HT.out]; rfl, HB0.out.trans (B3.mono HB0.out.size)⟩

/-- the document's NewHand -/
def newHandH (who : Int) : Hd := if Kn.in3 who then ⟨who, 0, 0, -1⟩ else ⟨0, 0, 0, 0⟩

/-- a hand and room for one, both of the call's own -/
structure HzO (w W : World) (h z : Hd) : Prop where
  bel : Below w.heap.size w W
  hh : HAt W w.heap.size 0 h
  zz : HAt W (w.heap.size + 1) 0 z
theorem hzo_new (w : World) (h : Hd) (t : TypeId) : HzO w ((w.alloc (.cells #[.int .i64 h.who, .int .i64 h.has, .int .i64 h.kept, .int .i64 h.last] t)).alloc (.cells #[.int .i64 0, .int .i64 0, .int .i64 0, .int .i64 0] t)) h ⟨0, 0, 0, 0⟩ where
  bel := ((Below.refl _ w).alloc (Nat.le_refl _) _).alloc (by simp) _
  hh := hat_below (hat_new w h t) ((Below.refl _ _).alloc (Nat.le_refl _) _)
  zz := by
    have := hat_new (w.alloc (.cells #[.int .i64 h.who, .int .i64 h.has, .int .i64 h.kept, .int .i64 h.last] t)) ⟨0, 0, 0, 0⟩ t
    rw [World.size_alloc] at this
    exact this
theorem HzO.below {w W V : World} {h z : Hd} (x : HzO w W h z) (hb : Below W.heap.size W V) : HzO w V h z := ⟨x.bel.trans (hb.mono x.bel.size), hat_below x.hh hb, hat_below x.zz hb⟩
/-- the answer is written -/
theorem HzO.put {w W : World} {h z : Hd} (x : HzO w W h z) (y : Hd) : ∃ V, V = ((((W.setCell ⟨w.heap.size + 1, 0, none⟩ (.int .i64 y.who)).setCell ⟨w.heap.size + 1, 1, none⟩ (.int .i64 y.has)).setCell ⟨w.heap.size + 1, 2, none⟩ (.int .i64 y.kept)).setCell ⟨w.heap.size + 1, 3, none⟩ (.int .i64 y.last)) ∧
    V.cell? ⟨w.heap.size + 1, 0, none⟩ = some (.int .i64 y.who) ∧ V.cell? ⟨w.heap.size + 1, 1, none⟩ = some (.int .i64 y.has) ∧ V.cell? ⟨w.heap.size + 1, 2, none⟩ = some (.int .i64 y.kept) ∧ V.cell? ⟨w.heap.size + 1, 3, none⟩ = some (.int .i64 y.last) ∧ Below w.heap.size w V := by
  have q := hput x.zz (.int .i64 y.who) (.int .i64 y.has) (.int .i64 y.kept) (.int .i64 y.last)
  refine ⟨_, rfl, q.1, q.2.1, q.2.2.1, q.2.2.2, ?_⟩
  exact (((x.bel.setCell (p := ⟨w.heap.size + 1, 0, none⟩) (by simp) _).setCell (p := ⟨w.heap.size + 1, 1, none⟩) (by simp) _).setCell (p := ⟨w.heap.size + 1, 2, none⟩) (by simp) _).setCell (p := ⟨w.heap.size + 1, 3, none⟩) (by simp) _
theorem hok_parts {L : List K} {h : Hd} (hk : H64 h) (hl : laceB L = true) (x : hokB L h = true) : 0 ≤ h.has ∧ h.has < 1152921504606846976 ∧ 0 ≤ h.kept ∧ h.kept < 1152921504606846976 := by
  unfold hokB at x
  simp only [Bool.and_eq_true, decide_eq_true_eq] at x
  have h60 := ((Lc.lace_iff L).1 hl).1
  have hb := div_lt60 x.2.1 x.2.2.2.1 h60
  exact ⟨x.2.1, hb, x.2.2.1, and_sub x.2.2.1 x.2.1 hb hk.k1 x.2.2.2.2.1⟩

/-- what is learned of a lace -/
def learnedB (L : List K) (h : Hd) (k : Int) (al : Bool) : Bool := handOkB L h && learnB L (belows L L.length) h.who h.has k al
def learnedH (L : List K) (h : Hd) (k : Int) (al : Bool) : Hd := if handOkB L h then (if learnB L (belows L L.length) h.who h.has k al then { h with has := orB h.has ((belows L L.length).getD k.toNat 0) } else h) else ⟨0, 0, 0, 0⟩

set_option maxHeartbeats 3200000 in
theorem specLearns (g off cap : Nat) (L : List K) (h : Hd) (k : Int) (w : World) (hcap : L.length ≤ cap) (hw : WordsOk L) (hr : RdK w (some ⟨g, off, none⟩) L) (hk : H64 h) :
    Calls Tryd.prog 9 #[.slice (some ⟨g, off, none⟩) L.length cap, .agg #[.int .i64 h.who, .int .i64 h.has, .int .i64 h.kept, .int .i64 h.last], .int .i64 k] w fun e w' => e = .returned (.tuple #[.agg #[.int .i64 (learnedH L h k true).who, .int .i64 (learnedH L h k true).has, .int .i64 (learnedH L h k true).kept, .int .i64 (learnedH L h k true).last], .bool (learnedB L h k true)]) ∧ Below w.heap.size w w' := by
  have P0 : Hid (HzO w ((w.alloc (.cells #[.int .i64 h.who, .int .i64 h.has, .int .i64 h.kept, .int .i64 h.last] 26)).alloc (.cells #[.int .i64 0, .int .i64 0, .int .i64 0, .int .i64 0] 26)) h ⟨0, 0, 0, 0⟩) := hzo_new w h _
  have HR : Hid (RdK w (some ⟨g, off, none⟩) L) := hr
  clear hr
  go_enter Tryd.func9, Tryd.ntmps9
  go_upto_region 1 with fail
  generalize (w.alloc (.cells #[.int .i64 h.who, .int .i64 h.has, .int .i64 h.kept, .int .i64 h.last] 26)).alloc (.cells #[.int .i64 0, .int .i64 0, .int .i64 0, .int .i64 0] 26) = V at P0 ⊢
  obtain ⟨a0, a1, a2, a3⟩ := cellsH P0.out.hh
  have hho := specHandOk g off cap L h V hcap hw (HR.out.below P0.out.bel) hk
  go_wp2_with fail
  refine hho.mono ?_
  rintro e w1 ⟨rfl, hb1⟩
  have P1 : Hid (HzO w w1 h ⟨0, 0, 0, 0⟩) := P0.out.below hb1
  clear P0 hho hb1 a0 a1 a2 a3
  cases ho : handOkB L h
  · have HT : Hid (learnedH L h k true = ⟨0, 0, 0, 0⟩ ∧ learnedB L h k true = false) := by unfold learnedH learnedB; rw [ho]; exact ⟨rfl, rfl⟩
    obtain ⟨W, hW, b0, b1, b2, b3, hB⟩ := P1.out.put ⟨0, 0, 0, 0⟩
    have HW : Hid (W = _) := hW
    obtain ⟨z0, z1, z2, z3⟩ := cellsH P1.out.zz
    have f0 := P1.out.zz.f0
    have f1 := P1.out.zz.f1
    have f2 := P1.out.zz.f2
    have f3 := P1.out.zz.f3
    simp only [Nat.zero_add] at f1 f2 f3
    dsimp only at b0 b1 b2 b3 HW
    clear ho hW
    go_wp2
    rw [← HW.out]
    refine bodyPost_ret (v := .tuple #[.agg #[.int .i64 0, .int .i64 0, .int .i64 0, .int .i64 0], .bool false]) (by simp [results, Tryd.f9, go_sem, b0, b1, b2, b3]) rfl ?_
    exact ⟨by rw [HT.out.1, HT.out.2], hB⟩
  · have hpt := ho
    unfold handOkB at hpt
    rw [Bool.and_eq_true] at hpt
    obtain ⟨hl, hok⟩ := hpt
    have hbd := hok_parts hk hl hok
    have h60 := ((Lc.lace_iff L).1 hl).1
    have HTB : Hid (learnedB L h k true = learnB L (belows L L.length) h.who h.has k true) := by show _ = _; unfold learnedB; rw [ho]; rfl
    have HTH : Hid (learnedH L h k true = if learnB L (belows L L.length) h.who h.has k true then { h with has := orB h.has ((belows L L.length).getD k.toNat 0) } else h) := by show _ = _; unfold learnedH; rw [if_pos ho]
    have hall := Sg.l4All (some ⟨g, off, none⟩) cap L w1 h60 (Sg.frm_lace hl) (HR.out.below P1.out.bel)
    clear ho hok
    go_wp2_with fail
    refine hall.mono ?_
    rintro e w2 ⟨bo, bc, rfl, hown, hb2⟩
    have P2 : Hid (HzO w w2 h ⟨0, 0, 0, 0⟩) := P1.out.below hb2
    have hbl := Sg.belows_len L L.length
    have hlr := l13Learn (some ⟨g, off, none⟩) cap L bo bc (belows L L.length) w.heap.size 0 h.who h.has h.kept h.last k true w2 h60 hbl (Sg.belows_in L _ h60) (HR.out.below P2.out.bel) (Lst.own_rd hown) P2.out.hh hbd.1 hbd.2.1
    rw [hbl] at hlr ⊢
    unfold LearnPost at hlr
    clear hall hown hb2 P1 hbl
    generalize learnB L (belows L L.length) h.who h.has k true = lb at HTB HTH hlr
    go_wp2_with fail
    refine hlr.mono ?_
    rintro e w3 ⟨rfl, d, hw3⟩
    cases lb
    · have P3 : Hid (HzO w w3 h ⟨0, 0, 0, 0⟩) := by
        rw [hw3]
        exact P2.out.below ⟨rfl, rfl, rfl, Nat.le_refl _, fun _ _ => rfl⟩
      clear hw3 hlr P2
      obtain ⟨W, hW, b0, b1, b2, b3, hB⟩ := P3.out.put h
      have HW : Hid (W = _) := hW
      obtain ⟨c0, c1, c2, c3⟩ := cellsH P3.out.hh
      obtain ⟨z0, z1, z2, z3⟩ := cellsH P3.out.zz
      have f0 := P3.out.zz.f0
      have f1 := P3.out.zz.f1
      have f2 := P3.out.zz.f2
      have f3 := P3.out.zz.f3
      simp only [Nat.zero_add] at f1 f2 f3
      clear hW
      go_wp2
      rw [← HW.out]
      refine bodyPost_ret (v := .tuple #[.agg #[.int .i64 h.who, .int .i64 h.has, .int .i64 h.kept, .int .i64 h.last], .bool false]) (by simp [results, Tryd.f9, go_sem, b0, b1, b2, b3]) rfl ?_
      exact ⟨by rw [HTH.out, HTB.out]; rfl, hB⟩
    · generalize hnh : orB h.has ((belows L L.length).getD k.toNat 0) = nh at HTH hw3
      have P3 : Hid (HzO w w3 { h with has := nh } ⟨0, 0, 0, 0⟩) := by
        have e : w3 = { w2.setCell ⟨w.heap.size, 0 + 1, none⟩ (.int .i64 nh) with drawn := d } := hw3
        rw [e]
        have q : HzO w (w2.setCell ⟨w.heap.size, 0 + 1, none⟩ (.int .i64 nh)) { h with has := nh } ⟨0, 0, 0, 0⟩ := ⟨P2.out.bel.setCell (p := ⟨w.heap.size, 0 + 1, none⟩) (Nat.le_refl _) _, hat_has P2.out.hh nh, hat_other P2.out.zz (by omega) _⟩
        exact q.below ⟨rfl, rfl, rfl, Nat.le_refl _, fun _ _ => rfl⟩
      clear hw3 hlr P2 hnh
      obtain ⟨W, hW, b0, b1, b2, b3, hB⟩ := P3.out.put { h with has := nh }
      have HW : Hid (W = _) := hW
      obtain ⟨c0, c1, c2, c3⟩ := cellsH P3.out.hh
      obtain ⟨z0, z1, z2, z3⟩ := cellsH P3.out.zz
      have f0 := P3.out.zz.f0
      have f1 := P3.out.zz.f1
      have f2 := P3.out.zz.f2
      have f3 := P3.out.zz.f3
      simp only [Nat.zero_add] at f1 f2 f3
      dsimp only at b0 b1 b2 b3 c0 c1 c2 c3 HW
      clear hW
      go_wp2
      rw [← HW.out]
      refine bodyPost_ret (v := .tuple #[.agg #[.int .i64 h.who, .int .i64 nh, .int .i64 h.kept, .int .i64 h.last], .bool true]) (by simp [results, Tryd.f9, go_sem, b0, b1, b2, b3]) rfl ?_
      exact ⟨by rw [HTH.out, HTB.out]; rfl, hB⟩

set_option maxHeartbeats 3200000 in
theorem specLearnsAll (g off cap : Nat) (L : List K) (h : Hd) (k : Int) (w : World) (hcap : L.length ≤ cap) (hw : WordsOk L) (hr : RdK w (some ⟨g, off, none⟩) L) (hk : H64 h) :
    Calls Tryd.prog 15 #[.slice (some ⟨g, off, none⟩) L.length cap, .agg #[.int .i64 h.who, .int .i64 h.has, .int .i64 h.kept, .int .i64 h.last], .int .i64 k] w fun e w' => e = .returned (.tuple #[.agg #[.int .i64 (learnedH L h k false).who, .int .i64 (learnedH L h k false).has, .int .i64 (learnedH L h k false).kept, .int .i64 (learnedH L h k false).last], .bool (learnedB L h k false)]) ∧ Below w.heap.size w w' := by
  have P0 : Hid (HzO w ((w.alloc (.cells #[.int .i64 h.who, .int .i64 h.has, .int .i64 h.kept, .int .i64 h.last] 26)).alloc (.cells #[.int .i64 0, .int .i64 0, .int .i64 0, .int .i64 0] 26)) h ⟨0, 0, 0, 0⟩) := hzo_new w h _
  have HR : Hid (RdK w (some ⟨g, off, none⟩) L) := hr
  clear hr
  go_enter Tryd.func15, Tryd.ntmps15
  go_upto_region 1 with fail
  generalize (w.alloc (.cells #[.int .i64 h.who, .int .i64 h.has, .int .i64 h.kept, .int .i64 h.last] 26)).alloc (.cells #[.int .i64 0, .int .i64 0, .int .i64 0, .int .i64 0] 26) = V at P0 ⊢
  obtain ⟨a0, a1, a2, a3⟩ := cellsH P0.out.hh
  have hho := specHandOk g off cap L h V hcap hw (HR.out.below P0.out.bel) hk
  go_wp2_with fail
  refine hho.mono ?_
  rintro e w1 ⟨rfl, hb1⟩
  have P1 : Hid (HzO w w1 h ⟨0, 0, 0, 0⟩) := P0.out.below hb1
  clear P0 hho hb1 a0 a1 a2 a3
  cases ho : handOkB L h
  · have HT : Hid (learnedH L h k false = ⟨0, 0, 0, 0⟩ ∧ learnedB L h k false = false) := by unfold learnedH learnedB; rw [ho]; exact ⟨rfl, rfl⟩
    obtain ⟨W, hW, b0, b1, b2, b3, hB⟩ := P1.out.put ⟨0, 0, 0, 0⟩
    have HW : Hid (W = _) := hW
    obtain ⟨z0, z1, z2, z3⟩ := cellsH P1.out.zz
    have f0 := P1.out.zz.f0
    have f1 := P1.out.zz.f1
    have f2 := P1.out.zz.f2
    have f3 := P1.out.zz.f3
    simp only [Nat.zero_add] at f1 f2 f3
    dsimp only at b0 b1 b2 b3 HW
    clear ho hW
    go_wp2
    rw [← HW.out]
    refine bodyPost_ret (v := .tuple #[.agg #[.int .i64 0, .int .i64 0, .int .i64 0, .int .i64 0], .bool false]) (by simp [results, Tryd.f15, go_sem, b0, b1, b2, b3]) rfl ?_
    exact ⟨by rw [HT.out.1, HT.out.2], hB⟩
  · have hpt := ho
    unfold handOkB at hpt
    rw [Bool.and_eq_true] at hpt
    obtain ⟨hl, hok⟩ := hpt
    have hbd := hok_parts hk hl hok
    have h60 := ((Lc.lace_iff L).1 hl).1
    have HTB : Hid (learnedB L h k false = learnB L (belows L L.length) h.who h.has k false) := by show _ = _; unfold learnedB; rw [ho]; rfl
    have HTH : Hid (learnedH L h k false = if learnB L (belows L L.length) h.who h.has k false then { h with has := orB h.has ((belows L L.length).getD k.toNat 0) } else h) := by show _ = _; unfold learnedH; rw [if_pos ho]
    have hall := Sg.l4All (some ⟨g, off, none⟩) cap L w1 h60 (Sg.frm_lace hl) (HR.out.below P1.out.bel)
    clear ho hok
    go_wp2_with fail
    refine hall.mono ?_
    rintro e w2 ⟨bo, bc, rfl, hown, hb2⟩
    have P2 : Hid (HzO w w2 h ⟨0, 0, 0, 0⟩) := P1.out.below hb2
    have hbl := Sg.belows_len L L.length
    have hlr := l13Learn (some ⟨g, off, none⟩) cap L bo bc (belows L L.length) w.heap.size 0 h.who h.has h.kept h.last k false w2 h60 hbl (Sg.belows_in L _ h60) (HR.out.below P2.out.bel) (Lst.own_rd hown) P2.out.hh hbd.1 hbd.2.1
    rw [hbl] at hlr ⊢
    unfold LearnPost at hlr
    clear hall hown hb2 P1 hbl
    generalize learnB L (belows L L.length) h.who h.has k false = lb at HTB HTH hlr
    go_wp2_with fail
    refine hlr.mono ?_
    rintro e w3 ⟨rfl, d, hw3⟩
    cases lb
    · have P3 : Hid (HzO w w3 h ⟨0, 0, 0, 0⟩) := by
        rw [hw3]
        exact P2.out.below ⟨rfl, rfl, rfl, Nat.le_refl _, fun _ _ => rfl⟩
      clear hw3 hlr P2
      obtain ⟨W, hW, b0, b1, b2, b3, hB⟩ := P3.out.put h
      have HW : Hid (W = _) := hW
      obtain ⟨c0, c1, c2, c3⟩ := cellsH P3.out.hh
      obtain ⟨z0, z1, z2, z3⟩ := cellsH P3.out.zz
      have f0 := P3.out.zz.f0
      have f1 := P3.out.zz.f1
      have f2 := P3.out.zz.f2
      have f3 := P3.out.zz.f3
      simp only [Nat.zero_add] at f1 f2 f3
      clear hW
      go_wp2
      rw [← HW.out]
      refine bodyPost_ret (v := .tuple #[.agg #[.int .i64 h.who, .int .i64 h.has, .int .i64 h.kept, .int .i64 h.last], .bool false]) (by simp [results, Tryd.f15, go_sem, b0, b1, b2, b3]) rfl ?_
      exact ⟨by rw [HTH.out, HTB.out]; rfl, hB⟩
    · generalize hnh : orB h.has ((belows L L.length).getD k.toNat 0) = nh at HTH hw3
      have P3 : Hid (HzO w w3 { h with has := nh } ⟨0, 0, 0, 0⟩) := by
        have e : w3 = { w2.setCell ⟨w.heap.size, 0 + 1, none⟩ (.int .i64 nh) with drawn := d } := hw3
        rw [e]
        have q : HzO w (w2.setCell ⟨w.heap.size, 0 + 1, none⟩ (.int .i64 nh)) { h with has := nh } ⟨0, 0, 0, 0⟩ := ⟨P2.out.bel.setCell (p := ⟨w.heap.size, 0 + 1, none⟩) (Nat.le_refl _) _, hat_has P2.out.hh nh, hat_other P2.out.zz (by omega) _⟩
        exact q.below ⟨rfl, rfl, rfl, Nat.le_refl _, fun _ _ => rfl⟩
      clear hw3 hlr P2 hnh
      obtain ⟨W, hW, b0, b1, b2, b3, hB⟩ := P3.out.put { h with has := nh }
      have HW : Hid (W = _) := hW
      obtain ⟨c0, c1, c2, c3⟩ := cellsH P3.out.hh
      obtain ⟨z0, z1, z2, z3⟩ := cellsH P3.out.zz
      have f0 := P3.out.zz.f0
      have f1 := P3.out.zz.f1
      have f2 := P3.out.zz.f2
      have f3 := P3.out.zz.f3
      simp only [Nat.zero_add] at f1 f2 f3
      dsimp only at b0 b1 b2 b3 c0 c1 c2 c3 HW
      clear hW
      go_wp2
      rw [← HW.out]
      refine bodyPost_ret (v := .tuple #[.agg #[.int .i64 h.who, .int .i64 nh, .int .i64 h.kept, .int .i64 h.last], .bool true]) (by simp [results, Tryd.f15, go_sem, b0, b1, b2, b3]) rfl ?_
      exact ⟨by rw [HTH.out, HTB.out]; rfl, hB⟩
/-- the document's Keeps and Forgets -/
def keptH (L : List K) (h : Hd) : Hd := if handOkB L h then ⟨h.who, h.has, h.has, lastTo L h.who h.has L.length⟩ else ⟨0, 0, 0, 0⟩
def forgotH (L : List K) (h : Hd) : Hd := if handOkB L h then ⟨h.who, h.kept, h.kept, h.last⟩ else ⟨0, 0, 0, 0⟩

end Rm
end Go.Proofs.YtapfmadnkaimeaaDoor
