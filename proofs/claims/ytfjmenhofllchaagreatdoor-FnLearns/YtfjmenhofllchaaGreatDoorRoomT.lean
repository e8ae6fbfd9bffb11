/-
  The model's copy of a room: its parts lie in memory of their own.
-/
import Derived.Test.YtfjmenhofllchaaGreatDoorRoomR
import Derived.Test.YtfjmenhofllchaaGreatDoorRoomJ
import Derived.Test.YtfjmenhofllchaaGreatDoorRmA
import Derived.Deep.RegionLaw
import Derived.Deep.RegionHeld3
namespace Go.Proofs.YtfjmenhofllchaaGreatDoor
open Go.RowKit
set_option maxRecDepth 100000
namespace Rm
open Kn (K okK in3)
open Lc (at' RdK laceB takesB flat OwnK CellsK cellsOf)

theorem own_ne {w : World} {B B' : Nat} {t t' : TypeId} {s s' n n' : Nat} {v v' : Value} {xs xs' : List Value} (h : w.ownsRow B t s v n xs) (h' : w.ownsRow B' t' s' v' n' xs') (ht : t ≠ t') {g : Nat} (hg : v.ownBlock = some g) : v'.ownBlock ≠ some g := by
  intro hg'
  obtain ⟨_, ⟨hv, _⟩ | ⟨g1, cap, cur, hv, _, hc, _⟩⟩ := h
  · rw [hv] at hg; simp [Value.ownBlock] at hg
  · obtain ⟨_, ⟨hv', _⟩ | ⟨g2, cap', cur', hv', _, hc', _⟩⟩ := h'
    · rw [hv'] at hg'; simp [Value.ownBlock] at hg'
    · rw [hv] at hg; rw [hv'] at hg'
      simp [Value.ownBlock] at hg hg'
      subst hg hg'
      rw [hc] at hc'
      injection hc' with hc'
      injection hc' with _ h2 _
      exact ht h2

theorem own_below {w w' : World} {B : Nat} {t : TypeId} {s n : Nat} {v : Value} {xs : List Value} (h : w.ownsRow B t s v n xs) (hb : Below w.heap.size w w') : w'.ownsRow B t s v n xs := own_fr (S := fun _ => False) (Fr.of_below hb _) h (fun _ _ h => h)

theorem own_baseT {w : World} {b b' : Nat} {t : TypeId} {size n : Nat} {v : Value} {xs : List Value} (h : w.ownsRow b t size v n xs) (hb : b' ≤ b) : w.ownsRow b' t size v n xs := by
  obtain ⟨h1, h2⟩ := h
  refine ⟨h1, ?_⟩
  rcases h2 with h2 | ⟨g, cap', cur, hv, hB, rest⟩
  · exact .inl h2
  · exact .inr ⟨g, cap', cur, hv, by omega, rest⟩

theorem kA {W V : World} (h : Below W.drew.heap.size W.drew V) : Below W.heap.size W V := ⟨h.os, h.tape, h.output, h.size, h.block⟩
theorem kB {W V : World} {o : Obj} (h : Below (W.drew.alloc o).heap.size (W.drew.alloc o) V) : Below W.heap.size W V := kA (((Below.refl _ W.drew).alloc (Nat.le_refl _) o).trans (h.mono (by simp)))
theorem kC {W V : World} {o : Obj} (h : Below (W.alloc o).drew.heap.size (W.alloc o).drew V) : Below W.heap.size W V := ((Below.refl _ W).alloc (Nat.le_refl _) o).trans ((kA h).mono (by simp))
theorem kD {W V : World} {o : Obj} (h : Below (W.alloc o).heap.size (W.alloc o) V) : Below W.heap.size W V := ((Below.refl _ W).alloc (Nat.le_refl _) o).trans (h.mono (by simp))
theorem kE1 {W V : World} {t : TypeId} (h : Below (W.drew.alloc (.cells #[] t)).heap.size (W.drew.alloc (.cells #[] t)) V) : V.ownsRow W.heap.size t 4 (.slice (some ⟨W.heap.size, 0, none⟩) 0 0) 0 [] := own_below (Lc.own_nil W.drew t) h
theorem kE2 {W V : World} {t : TypeId} (h : Below (W.alloc (.cells #[] t)).drew.heap.size (W.alloc (.cells #[] t)).drew V) : V.ownsRow W.heap.size t 4 (.slice (some ⟨W.heap.size, 0, none⟩) 0 0) 0 [] := own_below (w := (W.alloc (.cells #[] t)).drew) (Lc.own_nil W t) h
theorem kE3 {W V : World} {t : TypeId} (h : Below (W.alloc (.cells #[] t)).heap.size (W.alloc (.cells #[] t)) V) : V.ownsRow W.heap.size t 4 (.slice (some ⟨W.heap.size, 0, none⟩) 0 0) 0 [] := own_below (Lc.own_nil W t) h

/-- how the copying of a room ends: its lists, anew -/
def RoCopyX (L : List K) (C : List Int) (H : List Hd) (bad : Int) (w : World) (e : Ending) (w' : World) : Prop := ∃ R', e = .returned (roV R') ∧ RoOwn w.heap.size w' R' L C (handF H) bad ∧ Below w.heap.size w w'

/-- the ends meet -/
theorem copy_fin {L : List K} {C : List Int} {H : List Hd} {bad : Int} {w W X V : World} {v3 : Value} {ao : Option Addr} {ca : Nat} {co : Option Addr} {cc : Nat} {ve : Value} (hl : laceB L = true) (hok : ∀ i, i < 4 → HdOk L.length (handF H i)) (hw : Below w.heap.size w W) (hlt : w.heap.size + 1 < W.heap.size) (hX : Below W.heap.size W X)
    (o1 : X.ownsRow W.heap.size 36 4 (.slice ao L.length ca) L.length (flat L)) (oc : X.ownsRow W.heap.size 2 1 (.slice co C.length cc) C.length (C.map (Value.int .i64))) (oe : X.ownsRow W.heap.size 26 4 ve 0 []) (o3 : V.ownsRow W.heap.size 26 4 v3 4 (flatH (handF H) 4)) (hg : X.grownBy V ve.ownBlock) (q : Q4 W (w.heap.size + 1) (.slice none 0 0) (.slice none 0 0) (.slice none 0 0) (.int .i64 0)) :
    ∃ g3 c3, v3 = .slice (some ⟨g3, 0, none⟩) 4 c3 ∧ Q4 V (w.heap.size + 1) (.slice none 0 0) (.slice none 0 0) (.slice none 0 0) (.int .i64 0) ∧ Below W.heap.size W V ∧
      Hid (RoCopyX L C H bad w (.returned (.agg #[.slice ao L.length ca, .slice co C.length cc, .slice (some ⟨g3, 0, none⟩) 4 c3, .int .i64 bad])) (qset V (w.heap.size + 1) (.slice ao L.length ca) (.slice co C.length cc) (.slice (some ⟨g3, 0, none⟩) 4 c3) (.int .i64 bad))) := by
  have hlte := World.ownsRow.lt oe
  have hlt1 := World.ownsRow.lt o1
  have hltc := World.ownsRow.lt oc
  have hf : Fr (fun x => ve.ownBlock = some x) X V := Fr.of_own hg
  have o1V : V.ownsRow W.heap.size 36 4 (.slice ao L.length ca) L.length (flat L) := own_fr hf o1 (fun g hg' => own_ne o1 oe (by decide) hg')
  have ocV : V.ownsRow W.heap.size 2 1 (.slice co C.length cc) C.length (C.map (Value.int .i64)) := own_fr hf oc (fun g hg' => own_ne oc oe (by decide) hg')
  have hBV : Below W.heap.size W V := hX.trans (hf.toBelow hX.size (fun x hx => (hlte x hx).1))
  obtain ⟨g3, c3, hv3, hg3, _, hc3⟩ := own_slice o3
  have hq := qset_fr V (w.heap.size + 1) (.slice ao L.length ca) (.slice co C.length cc) v3 (.int .i64 bad)
  have hqV := q4_below q hBV
  have hne : ∀ g, (Value.slice ao L.length ca).ownBlock = some g → ¬ g = w.heap.size + 1 := fun g hg' e => by have := (hlt1 g hg').1; omega
  have hnc : ∀ g, (Value.slice co C.length cc).ownBlock = some g → ¬ g = w.heap.size + 1 := fun g hg' e => by have := (hltc g hg').1; omega
  refine ⟨g3, c3, hv3, hqV, hBV, ⟨⟨L, .slice ao L.length ca, .slice co C.length cc, g3, c3, handF H, bad⟩, rfl, ⟨?_, rfl, rfl, rfl, ⟨co, cc, rfl, ?_⟩, ?_⟩, ?_⟩⟩
  · rw [← hv3]
    have o3' := o3
    rw [hv3] at o3'
    refine ⟨own_baseT (own_fr hq o1V hne) hw.size, hl, fun i hi => hat_fr (own_hands o3' i hi) hq (fun e => by have e' : g3 = w.heap.size + 1 := e; omega), hok, by have := hw.size; show w.heap.size ≤ g3; omega, by show 4 ≤ c3; omega, ?_⟩
    show (Value.slice ao L.length ca).ownBlock ≠ some g3
    intro e
    exact own_ne o1V o3 (by decide) e (by rw [hv3]; rfl)
  · rw [← hv3]
    exact own_baseT (own_fr hq ocV hnc) hw.size
  · show (Value.slice co C.length cc).ownBlock ≠ some g3
    intro e
    exact own_ne ocV o3 (by decide) e (by rw [hv3]; rfl)
  · rw [← hv3]
    exact (hw.trans (hBV.mono hw.size)).trans (hq.toBelow (Nat.le_trans hw.size hBV.size) (fun x hx => by omega))

theorem rd_hands {w : World} {g off : Nat} {hs : Nat → Hd} (h : ∀ i, i < 4 → H4 w g (off + i * 4) (hs i)) : ∀ (j : Nat) u, (flatH hs 4)[j]? = some u → w.cell? ((⟨g, off, none⟩ : Addr).add j) = some u := by
  intro j u hj
  have hlt : j < 4 * 4 := by
    have := (List.getElem?_eq_some_iff.1 hj).1
    rwa [flatH_len] at this
  have e : j = j / 4 * 4 + j % 4 := by omega
  have hh := h (j / 4) (by omega)
  rw [e, flatH_at hs 4 (j / 4) (j % 4) (by omega) (by omega)] at hj
  rw [WideShapes.add_plain, e, ← Nat.add_assoc]
  generalize j % 4 = c at hj
  generalize j / 4 = i at hj hh
  match c, hj with
  | 0, hj => simp [hcells] at hj; subst hj; exact hh.c0
  | 1, hj => simp [hcells] at hj; subst hj; exact hh.c1
  | 2, hj => simp [hcells] at hj; subst hj; exact hh.c2
  | 3, hj => simp [hcells] at hj; subst hj; exact hh.c3
  | c + 4, hj => simp [hcells] at hj

set_option maxHeartbeats 6400000 in
theorem l18CopyX (ao : Option Addr) (cap : Nat) (L : List K) (co : Option Addr) (cc : Nat) (C : List Int) (ho : Option Addr) (hc : Nat) (H : List Hd) (bad : Int) (w : World) (hx : RArg w ao cap L co cc C ho hc H) (hl : laceB L = true) (h4 : H.length = 4) (hok : ∀ i, i < 4 → HdOk L.length (handF H i)) :
    Calls Tryz.prog 140 #[.agg #[.slice ao L.length cap, .slice co C.length cc, .slice ho H.length hc, .int .i64 bad]] w (RoCopyX L C H bad w) := by
  obtain ⟨i0, hi, hz0, hz1, hz2⟩ := info_parts infoH
  obtain ⟨g, off, rfl, hg, hh⟩ := hx.h.rd.resolve_left (fun e => by rw [e] at h4; simp at h4)
  have h60 := ((Lc.lace_iff L).1 hl).1
  have P0 : Hid (Below w.heap.size w ((w.alloc (.cells #[.slice ao L.length cap, .slice co C.length cc, .slice (some ⟨g, off, none⟩) 4 hc, .int .i64 bad] 107)).alloc (.cells #[.slice none 0 0, .slice none 0 0, .slice none 0 0, .int .i64 0] 107)) ∧ Q4 ((w.alloc (.cells #[.slice ao L.length cap, .slice co C.length cc, .slice (some ⟨g, off, none⟩) 4 hc, .int .i64 bad] 107)).alloc (.cells #[.slice none 0 0, .slice none 0 0, .slice none 0 0, .int .i64 0] 107)) w.heap.size (.slice ao L.length cap) (.slice co C.length cc) (.slice (some ⟨g, off, none⟩) 4 hc) (.int .i64 bad) ∧ Q4 ((w.alloc (.cells #[.slice ao L.length cap, .slice co C.length cc, .slice (some ⟨g, off, none⟩) 4 hc, .int .i64 bad] 107)).alloc (.cells #[.slice none 0 0, .slice none 0 0, .slice none 0 0, .int .i64 0] 107)) (w.heap.size + 1) (.slice none 0 0) (.slice none 0 0) (.slice none 0 0) (.int .i64 0)) := by
    refine ⟨((Below.refl _ w).alloc (Nat.le_refl _) _).alloc (by simp) _, q4_below (q4_new w _ _ _ _ _) ((Below.refl _ _).alloc (Nat.le_refl _) _), ?_⟩
    have := q4_new (w.alloc (.cells #[.slice ao L.length cap, .slice co C.length cc, .slice (some ⟨g, off, none⟩) 4 hc, .int .i64 bad] 107)) (.slice none 0 0) (.slice none 0 0) (.slice none 0 0) (.int .i64 0) 107
    simpa using this
  have HLC : Hid (∀ X : World, Below w.heap.size w X → Calls Tryz.prog 69 #[.slice ao L.length cap] X (Lc.CopyPost L X)) := fun X hX => l3CopyO ao cap L X hx.l.nil (fun x e => by obtain ⟨_, _, rfl⟩ := hx.l.spot x e; rfl) (by omega) (hx.l.rd.below hX)
  have HCC : Hid (∀ X : World, Below w.heap.size w X → Calls Tryz.prog 152 #[.slice co C.length cc] X (Sg.NumsPost C X)) := fun X hX => l1CopyA co cc C X (hx.c.below hX)
  have HHH : Hid (∀ X : World, Below w.heap.size w X → ∀ i, i < 4 → H4 X g (off + i * 4) (handF H i)) := fun X hX i hi => (hh i (by omega)).below hg hX
  have HL : Hid (laceB L = true) := hl
  have HOK : Hid (∀ i, i < 4 → HdOk L.length (handF H i)) := hok
  rw [h4]
  clear hx hl hok hh
  go_enter Tryz.func140, Tryz.ntmps140
  go_wp2_with fail
  generalize (w.alloc (.cells #[.slice ao L.length cap, .slice co C.length cc, .slice (some ⟨g, off, none⟩) 4 hc, .int .i64 bad] 107)).alloc (.cells #[.slice none 0 0, .slice none 0 0, .slice none 0 0, .int .i64 0] 107) = W at P0 ⊢
  obtain ⟨hb0, a0, a1, a2, a3, _, _, _, _⟩ := P0.out.2.1
  have hW := P0.out.1
  have HSB : Hid (∀ X : World, Below W.heap.size W X → X.cell? ⟨w.heap.size, 0, none⟩ = some (.slice ao L.length cap) ∧ X.cell? ⟨w.heap.size, 1, none⟩ = some (.slice co C.length cc) ∧ X.cell? ⟨w.heap.size, 2, none⟩ = some (.slice (some ⟨g, off, none⟩) 4 hc) ∧ X.cell? ⟨w.heap.size, 3, none⟩ = some (.int .i64 bad)) := fun X hX =>
    ⟨(hX.cell (p := ⟨w.heap.size, 0, none⟩) hb0).trans a0, (hX.cell (p := ⟨w.heap.size, 1, none⟩) hb0).trans a1, (hX.cell (p := ⟨w.heap.size, 2, none⟩) hb0).trans a2, (hX.cell (p := ⟨w.heap.size, 3, none⟩) hb0).trans a3⟩
  go_region_held3 (fun X => X.cell? ⟨w.heap.size, 0, none⟩ = some (.slice ao L.length cap) ∧ X.cell? ⟨w.heap.size, 1, none⟩ = some (.slice co C.length cc) ∧ X.cell? ⟨w.heap.size, 2, none⟩ = some (.slice (some ⟨g, off, none⟩) 4 hc) ∧ X.cell? ⟨w.heap.size, 3, none⟩ = some (.int .i64 bad)) (first | exact HSB.out _ B3 | exact HSB.out _ B2 | exact HSB.out _ (B2.alloc B2.size _) | exact HSB.out _ B1 | exact HSB.out _ (B1.alloc B1.size _) | exact HSB.out _ (Below.refl _ _).drew | exact HSB.out _ ((Below.refl _ _).alloc (Nat.le_refl _) _).drew | exact HSB.out _ ((Below.refl _ _).drew.alloc (Nat.le_refl _) _) | go_keep) (first
    | (refine step_own_at rfl (.tmp 9) (.tmp 11) 105 rfl W.heap.size 26 i0 (.agg #[.int .i64 0, .int .i64 0, .int .i64 0, .int .i64 0]) 4 32 Tryz.underlying105 hi hz0 hz1 hz2 rfl (by decide) (.slice (some ⟨V2.heap.size, 0, none⟩) 0 0) 0 [] (by simp [Act.eval]) (own_baseT (Lc.own_nil V2 _) B2.size) ⟨g, off, none⟩ 4 hc (flatH (handF H) 4) (by simp [Act.eval]) (flatH_len _ _) (rd_hands (HHH.out _ (hBw2.alloc hBw2.size _))) (flatH_one _ _) (by unfold maxLen; omega) (by omega) (by have := B2.size; simp; omega) ?_
       intro v3 V3 hown3 hgrow3 _
       obtain ⟨g3, c3, rfl, q3, B3, HE⟩ := copy_fin (co := co2) (cc := cc2) (bad := bad) HL.out HOK.out hW P0.out.2.2.lt (B2.alloc B2.size _) (O2.alloc _) (OC2.alloc _) (own_baseT (Lc.own_nil V2 _) B2.size) (by simpa using hown3) hgrow3 P0.out.2.2
       have HQ : Hid _ := q4_put q3 (.slice ao1 L.length cap1) (.slice co2 C.length cc2) (.slice (some ⟨g3, 0, none⟩) 4 c3) (.int .i64 bad)
       have e33 := (B3.cell (p := ⟨w.heap.size, 3, none⟩) hb0).trans a3
       obtain ⟨_, r0, r1, r2, r3, f0, f1, f2, f3⟩ := q3
       clear hown3 hgrow3)
    | (refine step_own_at rfl (.tmp 9) (.tmp 11) 105 rfl W.heap.size 26 i0 (.agg #[.int .i64 0, .int .i64 0, .int .i64 0, .int .i64 0]) 4 32 Tryz.underlying105 hi hz0 hz1 hz2 rfl (by decide) _ 0 [] (by simp [Act.eval]) (own_baseT E2 (by first | exact Nat.le_refl _ | exact B1.size)) ⟨g, off, none⟩ 4 hc (flatH (handF H) 4) (by simp [Act.eval]) (flatH_len _ _) (rd_hands (HHH.out _ hBw2)) (flatH_one _ _) (by unfold maxLen; omega) (by omega) B2.size ?_
       intro v3 V3 hown3 hgrow3 _
       obtain ⟨g3, c3, rfl, q3, B3, HE⟩ := copy_fin (co := co2) (cc := cc2) (bad := bad) HL.out HOK.out hW P0.out.2.2.lt B2 O2 OC2 (own_baseT E2 (by first | exact Nat.le_refl _ | exact B1.size)) (by simpa using hown3) hgrow3 P0.out.2.2
       have HQ : Hid _ := q4_put q3 (.slice ao1 L.length cap1) (.slice co2 C.length cc2) (.slice (some ⟨g3, 0, none⟩) 4 c3) (.int .i64 bad)
       have e33 := (B3.cell (p := ⟨w.heap.size, 3, none⟩) hb0).trans a3
       obtain ⟨_, r0, r1, r2, r3, f0, f1, f2, f3⟩ := q3
       clear hown3 hgrow3)
    | (go_at_call 69
       refine (HLC.out _ (by first | exact hW.drew | exact (hW.alloc hW.size _).drew | exact hW.drew.alloc hW.size _)).mono ?_
       rintro e V1 ⟨v1, rfl, O1', b1⟩
       (first | have B1 : Below W.heap.size W V1 := kC b1 | have B1 : Below W.heap.size W V1 := kB b1 | have B1 : Below W.heap.size W V1 := kA b1)
       (first | have E := kE1 b1 | have E := kE2 b1 | skip)
       have O1 : V1.ownsRow W.heap.size 36 4 v1 L.length (flat L) := own_baseT O1'.1 (by simp)
       obtain ⟨ao1, cap1, hv1, _⟩ := own_lace O1
       subst hv1
       have hBw : Below w.heap.size w V1 := hW.trans (B1.mono hW.size)
       have hb1 : w.heap.size < V1.heap.size := Nat.lt_of_lt_of_le hb0 B1.size
       clear O1' b1)
    | (go_at_call 152
       refine (HCC.out _ (by first | exact hBw | exact hBw.alloc hBw.size _)).mono ?_
       rintro e V2 ⟨co2, cc2, rfl, hc2, b2⟩
       (first | have B2 : Below W.heap.size W V2 := B1.trans ((kD b2).mono B1.size) | have B2 : Below W.heap.size W V2 := B1.trans (b2.mono B1.size))
       (first | have E2 := kE3 b2 | have E2 := own_below E b2 | skip)
       (first | have O2 := own_below O1 b2 | have O2 := own_below (O1.alloc _) b2)
       have OC2 : V2.ownsRow W.heap.size 2 1 (.slice co2 C.length cc2) C.length (C.map (Value.int .i64)) := own_baseT hc2 (by first | exact B1.size | (rw [World.size_alloc]; exact Nat.le_trans B1.size (Nat.le_succ _)))
       have hBw2 : Below w.heap.size w V2 := hW.trans (B2.mono hW.size)
       have hb2 : w.heap.size < V2.heap.size := Nat.lt_of_lt_of_le hb0 B2.size
       clear b2)
    | fail)
  all_goals
    go_wp2
    obtain ⟨_, y0, y1, y2, y3, _, _, _, _⟩ := HQ.out
    unfold qset at y0 y1 y2 y3
    exact bodyPost_ret (v := .agg #[.slice ao1 L.length cap1, .slice co2 C.length cc2, .slice (some ⟨g3, 0, none⟩) 4 c3, .int .i64 bad]) (by simp [results, Tryz.results140, go_sem, y0, y1, y2, y3]) rfl HE.out

/-- how the copying of a room ends, for the drawings -/
def RoCopy (R : Ro) (w : World) (e : Ending) (w' : World) : Prop := ∃ R', e = .returned (roV R') ∧ Parts w.heap.size w' R' ∧ R'.bad = R.bad ∧ (∃ co n cc, R'.cv = .slice co n cc) ∧ (∃ ao n ca, R'.lv = .slice ao n ca) ∧ Below w.heap.size w w'
/-- a room of the walks' own came in -/
theorem rarg_of {B : Nat} {R : Ro} {w : World} {co : Option Addr} {cc : Nat} {C : List Int} (hp : Parts B w R) (hc : CArg w co cc C) (hcv : R.cv = .slice co C.length cc) : ∃ ao cap, R.lv = .slice ao R.L.length cap ∧ roV R = .agg #[.slice ao R.L.length cap, .slice co C.length cc, .slice (some ⟨R.gh, 0, none⟩) (hands4 R.hs).length R.hc, .int .i64 R.bad] ∧ RArg w ao cap R.L co cc C (some ⟨R.gh, 0, none⟩) R.hc (hands4 R.hs) := by
  obtain ⟨ao, cap, hlv, ho, hz, hcp, hrd, hlt⟩ := own_lace hp.own
  have hw := lace_words hp.lace
  refine ⟨ao, cap, hlv, by unfold roV; rw [hlv, hcv]; rfl, ⟨ho, hcp, hw, hrd, fun x e => ?_⟩, hc, hp.cap, .inr ⟨R.gh, 0, rfl, (hp.hands 0 (by omega)).lt, fun i hi => ?_⟩⟩
  · obtain ⟨b, off, sp⟩ := x
    obtain rfl := hz _ e
    exact ⟨b, off, rfl⟩
  · rw [hands4_get R.hs i hi, Nat.zero_add]
    have h := hp.hands i hi
    exact ⟨h.c0, h.c1, h.c2, h.c3⟩
theorem handF4 (hs : Nat → Hd) (i : Nat) (hi : i < 4) : handF (hands4 hs) i = hs i := hands4_get hs i hi
theorem l18Copy (B : Nat) (R : Ro) (w : World) (hp : Parts B w R) (hco : CoinsAt w R.cv) : Calls Tryz.prog 140 #[roV R] w (RoCopy R w) := by
  obtain ⟨co, cc, C, hcv, h1, h2, h3, h4⟩ := hco
  obtain ⟨ao, cap, _, hrv, hra⟩ := rarg_of hp ⟨fun e => (h1 e).2, by omega, h4, fun g e => by obtain ⟨g', e', hlt⟩ := h2 _ e; cases e'; exact hlt⟩ hcv
  rw [hrv]
  refine (l18CopyX ao cap R.L co cc C _ R.hc (hands4 R.hs) R.bad w hra hp.lace rfl (fun i hi => by rw [handF4 R.hs i hi]; exact hp.hok i hi)).mono ?_
  rintro e w' ⟨R', rfl, ⟨hp', _, _, hbd, ⟨co', cc', hcv', _⟩, _⟩, hb⟩
  obtain ⟨ao', cap', hlv', _⟩ := own_lace hp'.own
  exact ⟨R', rfl, hp', hbd, ⟨co', _, cc', hcv'⟩, ⟨ao', _, cap', hlv'⟩, hb⟩

end Rm
end Go.Proofs.YtfjmenhofllchaaGreatDoor
