/-
 The model's copy of a room: its parts lie in memory of their own.
-/
import Derived.Test.YtflhaiakhfmmmaaGreatORoomPR
import Derived.Test.YtflhaiakhfmmmaaGreatORoomJ
import Derived.Deep.RegionHeld3
namespace Go.Proofs.YtflhaiakhfmmmaaGreat
open Go.RowKit
set_option maxRecDepth 100000
namespace Rm
open Kn (K okK in3)
open Lc (at' RdK laceB takesB flat OwnK CellsK cellsOf)
theorem own_ne {w : World} {B B' : Nat} {t t' : TypeId} {s s' n n' : Nat} {v v' : Value} {xs xs' : List Value} (h : w.ownsRow B t s v n xs) (h' : w.ownsRow B' t' s' v' n' xs') (ht : t ≠ t') {g : Nat} (hg : v.ownBlock = some g) : v'.ownBlock ≠ some g := by
 intro hg'
 obtain ⟨_, ⟨hv, _⟩ | ⟨g1, cap, cur, hv, _, hc, _⟩⟩ := h
 · rw [hv] at hg; simp [Value.ownBlock] at hg
 · obtain ⟨_, ⟨hv', _⟩ | ⟨g2, cap', cur', hv', _, hc', _⟩⟩ := h'
   · rw [hv'] at hg'; simp [Value.ownBlock] at hg'
   · rw [hv] at hg; rw [hv'] at hg'
     simp [Value.ownBlock] at hg hg'
     subst hg hg'
     rw [hc] at hc'
     injection hc' with hc'
     injection hc' with _ h2 _
     exact ht h2
theorem own_below {w w' : World} {B : Nat} {t : TypeId} {s n : Nat} {v : Value} {xs : List Value} (h : w.ownsRow B t s v n xs) (hb : Below w.heap.size w w') : w'.ownsRow B t s v n xs := own_fr (S := fun _ => False) (Fr.of_below hb _) h (fun _ _ h => h)
theorem own_baseT {w : World} {b b' : Nat} {t : TypeId} {size n : Nat} {v : Value} {xs : List Value} (h : w.ownsRow b t size v n xs) (hb : b' ≤ b) : w.ownsRow b' t size v n xs := by
 obtain ⟨h1, h2⟩ := h
 refine ⟨h1, ?_⟩
 rcases h2 with h2 | ⟨g, cap', cur, hv, hB, rest⟩
 · exact .inl h2
 · exact .inr ⟨g, cap', cur, hv, by omega, rest⟩
theorem kA {W V : World} (h : Below W.drew.heap.size W.drew V) : Below W.heap.size W V := ⟨h.os, h.tape, h.output, h.size, h.block⟩
theorem kB {W V : World} {o : Obj} (h : Below (W.drew.alloc o).heap.size (W.drew.alloc o) V) : Below W.heap.size W V := kA (((Below.refl _ W.drew).alloc (Nat.le_refl _) o).trans (h.mono (by simp)))
theorem kC {W V : World} {o : Obj} (h : Below (W.alloc o).drew.heap.size (W.alloc o).drew V) : Below W.heap.size W V := ((Below.refl _ W).alloc (Nat.le_refl _) o).trans ((kA h).mono (by simp))
theorem kD {W V : World} {o : Obj} (h : Below (W.alloc o).heap.size (W.alloc o) V) : Below W.heap.size W V := ((Below.refl _ W).alloc (Nat.le_refl _) o).trans (h.mono (by simp))
theorem kE1 {W V : World} {t : TypeId} (h : Below (W.drew.alloc (.cells #[] t)).heap.size (W.drew.alloc (.cells #[] t)) V) : V.ownsRow W.heap.size t 4 (.slice (some ⟨W.heap.size, 0, none⟩) 0 0) 0 [] := own_below (Lc.own_nil W.drew t) h
theorem kE2 {W V : World} {t : TypeId} (h : Below (W.alloc (.cells #[] t)).drew.heap.size (W.alloc (.cells #[] t)).drew V) : V.ownsRow W.heap.size t 4 (.slice (some ⟨W.heap.size, 0, none⟩) 0 0) 0 [] := own_below (w := (W.alloc (.cells #[] t)).drew) (Lc.own_nil W t) h
theorem kE3 {W V : World} {t : TypeId} (h : Below (W.alloc (.cells #[] t)).heap.size (W.alloc (.cells #[] t)) V) : V.ownsRow W.heap.size t 4 (.slice (some ⟨W.heap.size, 0, none⟩) 0 0) 0 [] := own_below (Lc.own_nil W t) h
def RoCopy (R : Ro) (w : World) (e : Ending) (w' : World) : Prop := ∃ R', e = .returned (roV R') ∧ Parts w.heap.size w' R' ∧ R'.bad = R.bad ∧ (∃ co n cc, R'.cv = .slice co n cc) ∧ (∃ ao n ca, R'.lv = .slice ao n ca) ∧ Below w.heap.size w w'
theorem copy_fin {R : Ro} {w W X V : World} {v3 : Value} {ao : Option Addr} {ca : Nat} {co : Option Addr} {n cc : Nat} {ve : Value} (hl : laceB R.L = true) (hok : ∀ i, i < 4 → HdOk R.L.length (R.hs i)) (hw : Below w.heap.size w W) (hlt : w.heap.size + 1 < W.heap.size) (hX : Below W.heap.size W X)
   (o1 : X.ownsRow W.heap.size 42 4 (.slice ao R.L.length ca) R.L.length (flat R.L)) (oe : X.ownsRow W.heap.size 152 4 ve 0 []) (o3 : V.ownsRow W.heap.size 152 4 v3 4 (flatH R.hs 4)) (hg : X.grownBy V ve.ownBlock) (q : Q4 W (w.heap.size + 1) (.slice none 0 0) (.slice none 0 0) (.slice none 0 0) (.int .i64 0)) :
   ∃ g3 c3, v3 = .slice (some ⟨g3, 0, none⟩) 4 c3 ∧ Q4 V (w.heap.size + 1) (.slice none 0 0) (.slice none 0 0) (.slice none 0 0) (.int .i64 0) ∧ Below W.heap.size W V ∧
     Hid (RoCopy R w (.returned (.agg #[.slice ao R.L.length ca, .slice co n cc, .slice (some ⟨g3, 0, none⟩) 4 c3, .int .i64 R.bad])) (qset V (w.heap.size + 1) (.slice ao R.L.length ca) (.slice co n cc) (.slice (some ⟨g3, 0, none⟩) 4 c3) (.int .i64 R.bad))) := by
 have hlte := World.ownsRow.lt oe
 have hlt1 := World.ownsRow.lt o1
 have hf : Fr (fun x => ve.ownBlock = some x) X V := Fr.of_own hg
 have o1V : V.ownsRow W.heap.size 42 4 (.slice ao R.L.length ca) R.L.length (flat R.L) := own_fr hf o1 (fun g hg' => own_ne o1 oe (by decide) hg')
 have hBV : Below W.heap.size W V := hX.trans (hf.toBelow hX.size (fun x hx => (hlte x hx).1))
 obtain ⟨g3, c3, hv3, hg3, _, hc3⟩ := own_slice o3
 have hq := qset_fr V (w.heap.size + 1) (.slice ao R.L.length ca) (.slice co n cc) v3 (.int .i64 R.bad)
 have hqV := q4_below q hBV
 have hne : ∀ g, (Value.slice ao R.L.length ca).ownBlock = some g → ¬ g = w.heap.size + 1 := fun g hg' e => by have := (hlt1 g hg').1; omega
 refine ⟨g3, c3, hv3, hqV, hBV, ⟨⟨R.L, .slice ao R.L.length ca, .slice co n cc, g3, c3, R.hs, R.bad⟩, rfl, ?_, rfl, ⟨co, n, cc, rfl⟩, ⟨ao, R.L.length, ca, rfl⟩, ?_⟩⟩
 · rw [← hv3]
   have o3' := o3
   rw [hv3] at o3'
   refine ⟨own_baseT (own_fr hq o1V hne) hw.size, hl, fun i hi => hat_fr (own_hands o3' i hi) hq (fun e => by have e' : g3 = w.heap.size + 1 := e; omega), hok, by have := hw.size; show w.heap.size ≤ g3; omega, by show 4 ≤ c3; omega, ?_⟩
   show (Value.slice ao R.L.length ca).ownBlock ≠ some g3
   intro e
   exact own_ne o1V o3 (by decide) e (by rw [hv3]; rfl)
 · rw [← hv3]
   exact (hw.trans (hBV.mono hw.size)).trans (hq.toBelow (Nat.le_trans hw.size hBV.size) (fun x hx => by omega))
theorem rd_hands {w : World} {g : Nat} {hs : Nat → Hd} (h : ∀ i, i < 4 → HAt w g (i * 4) (hs i)) : ∀ (j : Nat) u, (flatH hs 4)[j]? = some u → w.cell? ((⟨g, 0, none⟩ : Addr).add j) = some u := by
 intro j u hj
 have hlt : j < 4 * 4 := by
   have := (List.getElem?_eq_some_iff.1 hj).1
   rwa [flatH_len] at this
 have e : j = j / 4 * 4 + j % 4 := by omega
 have hh := h (j / 4) (by omega)
 rw [e, flatH_at hs 4 (j / 4) (j % 4) (by omega) (by omega)] at hj
 rw [WideShapes.add_plain, Nat.zero_add, e]
 generalize j % 4 = c at hj
 generalize j / 4 = i at hj hh
 match c, hj with
 | 0, hj => simp [hcells] at hj; subst hj; exact hh.c0
 | 1, hj => simp [hcells] at hj; subst hj; exact hh.c1
 | 2, hj => simp [hcells] at hj; subst hj; exact hh.c2
 | 3, hj => simp [hcells] at hj; subst hj; exact hh.c3
 | c + 4, hj => simp [hcells] at hj
set_option maxHeartbeats 6400000 in
theorem l18Copy (B : Nat) (R : Ro) (w : World) (hp : Parts B w R) (hco : CoinsAt w R.cv) : Calls Tryz.prog 140 #[roV R] w (RoCopy R w) := by
 obtain ⟨i0, hi, hz0, hz1, hz2⟩ := info_parts infoH
 obtain ⟨ao, cap, hlv, ho, hz, hcp, hrd, _⟩ := own_lace hp.own
 have hcov := hco
 obtain ⟨co, cc, lc, hcv, _⟩ := hcov
 have h60 := ((Lc.lace_iff R.L).1 hp.lace).1
 have HRV : roV R = .agg #[.slice ao R.L.length cap, .slice co lc.length cc, .slice (some ⟨R.gh, 0, none⟩) 4 R.hc, .int .i64 R.bad] := by unfold roV; rw [hlv, hcv]
 have P0 : Hid (Below w.heap.size w ((w.alloc (.cells #[.slice ao R.L.length cap, .slice co lc.length cc, .slice (some ⟨R.gh, 0, none⟩) 4 R.hc, .int .i64 R.bad] 102)).alloc (.cells #[.slice none 0 0, .slice none 0 0, .slice none 0 0, .int .i64 0] 102)) ∧ Q4 ((w.alloc (.cells #[.slice ao R.L.length cap, .slice co lc.length cc, .slice (some ⟨R.gh, 0, none⟩) 4 R.hc, .int .i64 R.bad] 102)).alloc (.cells #[.slice none 0 0, .slice none 0 0, .slice none 0 0, .int .i64 0] 102)) w.heap.size (.slice ao R.L.length cap) (.slice co lc.length cc) (.slice (some ⟨R.gh, 0, none⟩) 4 R.hc) (.int .i64 R.bad) ∧ Q4 ((w.alloc (.cells #[.slice ao R.L.length cap, .slice co lc.length cc, .slice (some ⟨R.gh, 0, none⟩) 4 R.hc, .int .i64 R.bad] 102)).alloc (.cells #[.slice none 0 0, .slice none 0 0, .slice none 0 0, .int .i64 0] 102)) (w.heap.size + 1) (.slice none 0 0) (.slice none 0 0) (.slice none 0 0) (.int .i64 0)) := by
   refine ⟨((Below.refl _ w).alloc (Nat.le_refl _) _).alloc (by simp) _, q4_below (q4_new w _ _ _ _ _) ((Below.refl _ _).alloc (Nat.le_refl _) _), ?_⟩
   have := q4_new (w.alloc (.cells #[.slice ao R.L.length cap, .slice co lc.length cc, .slice (some ⟨R.gh, 0, none⟩) 4 R.hc, .int .i64 R.bad] 102)) (.slice none 0 0) (.slice none 0 0) (.slice none 0 0) (.int .i64 0) 102
   simpa using this
 have HLC : Hid (∀ X : World, Below w.heap.size w X → Calls Tryz.prog 88 #[.slice ao R.L.length cap] X (Lc.CopyPost R.L X)) := fun X hX => l3CopyO ao cap R.L X ho hz (by omega) (hrd.below hX)
 have HCC : Hid (∀ X : World, Below w.heap.size w X → Calls Tryz.prog 35 #[.slice co lc.length cc] X fun e w' => ∃ v', e = .returned v' ∧ CoinsAt w' v' ∧ Below X.heap.size X w') := fun X hX => by
   have := l1CopyC R.cv X (coinsAt_below hco hX)
   rwa [hcv] at this
 have HHH : Hid (∀ X : World, Below w.heap.size w X → ∀ i, i < 4 → HAt X R.gh (i * 4) (R.hs i)) := fun X hX i hi => hat_below (hp.hands i hi) hX
 have HL : Hid (laceB R.L = true) := hp.lace
 have HOK : Hid (∀ i, i < 4 → HdOk R.L.length (R.hs i)) := hp.hok
 rw [HRV]
 clear HRV hlv hcv ho hz hcp hrd hco hp
 go_enter Tryz.func140, Tryz.ntmps140
 go_wp2_with fail
 generalize (w.alloc (.cells #[.slice ao R.L.length cap, .slice co lc.length cc, .slice (some ⟨R.gh, 0, none⟩) 4 R.hc, .int .i64 R.bad] 102)).alloc (.cells #[.slice none 0 0, .slice none 0 0, .slice none 0 0, .int .i64 0] 102) = W at P0 ⊢
 obtain ⟨hb0, a0, a1, a2, a3, _, _, _, _⟩ := P0.out.2.1
 have hW := P0.out.1
 have HSB : Hid (∀ X : World, Below W.heap.size W X → X.cell? ⟨w.heap.size, 0, none⟩ = some (.slice ao R.L.length cap) ∧ X.cell? ⟨w.heap.size, 1, none⟩ = some (.slice co lc.length cc) ∧ X.cell? ⟨w.heap.size, 2, none⟩ = some (.slice (some ⟨R.gh, 0, none⟩) 4 R.hc) ∧ X.cell? ⟨w.heap.size, 3, none⟩ = some (.int .i64 R.bad)) := fun X hX =>
   ⟨(hX.cell (p := ⟨w.heap.size, 0, none⟩) hb0).trans a0, (hX.cell (p := ⟨w.heap.size, 1, none⟩) hb0).trans a1, (hX.cell (p := ⟨w.heap.size, 2, none⟩) hb0).trans a2, (hX.cell (p := ⟨w.heap.size, 3, none⟩) hb0).trans a3⟩
 go_region_held3 (fun X => X.cell? ⟨w.heap.size, 0, none⟩ = some (.slice ao R.L.length cap) ∧ X.cell? ⟨w.heap.size, 1, none⟩ = some (.slice co lc.length cc) ∧ X.cell? ⟨w.heap.size, 2, none⟩ = some (.slice (some ⟨R.gh, 0, none⟩) 4 R.hc) ∧ X.cell? ⟨w.heap.size, 3, none⟩ = some (.int .i64 R.bad)) (first | exact HSB.out _ B3 | exact HSB.out _ B2 | exact HSB.out _ (B2.alloc B2.size _) | exact HSB.out _ B1 | exact HSB.out _ (B1.alloc B1.size _) | exact HSB.out _ (Below.refl _ _).drew | exact HSB.out _ ((Below.refl _ _).alloc (Nat.le_refl _) _).drew | exact HSB.out _ ((Below.refl _ _).drew.alloc (Nat.le_refl _) _) | go_keep) (first
   | (refine step_own_at rfl (.tmp 9) (.tmp 11) 100 rfl W.heap.size 152 i0 (.agg #[.int .i64 0, .int .i64 0, .int .i64 0, .int .i64 0]) 4 32 Tryz.underlying100 hi hz0 hz1 hz2 rfl (by decide) (.slice (some ⟨V2.heap.size, 0, none⟩) 0 0) 0 [] (by simp [Act.eval]) (own_baseT (Lc.own_nil V2 _) B2.size) ⟨R.gh, 0, none⟩ 4 R.hc (flatH R.hs 4) (by simp [Act.eval]) (flatH_len _ _) (rd_hands (HHH.out _ (hBw2.alloc hBw2.size _))) (flatH_one _ _) (by unfold maxLen; omega) (by omega) (by have := B2.size; simp; omega) ?_
      intro v3 V3 hown3 hgrow3 _
      obtain ⟨g3, c3, rfl, q3, B3, HE⟩ := copy_fin (co := co2) (n := lc2.length) (cc := cc2) HL.out HOK.out hW P0.out.2.2.lt (B2.alloc B2.size _) (O2.alloc _) (own_baseT (Lc.own_nil V2 _) B2.size) (by simpa using hown3) hgrow3 P0.out.2.2
      have HQ : Hid _ := q4_put q3 (.slice ao1 R.L.length cap1) (.slice co2 lc2.length cc2) (.slice (some ⟨g3, 0, none⟩) 4 c3) (.int .i64 R.bad)
      have e33 := (B3.cell (p := ⟨w.heap.size, 3, none⟩) hb0).trans a3
      obtain ⟨_, r0, r1, r2, r3, f0, f1, f2, f3⟩ := q3
      clear hown3 hgrow3)
   | (refine step_own_at rfl (.tmp 9) (.tmp 11) 100 rfl W.heap.size 152 i0 (.agg #[.int .i64 0, .int .i64 0, .int .i64 0, .int .i64 0]) 4 32 Tryz.underlying100 hi hz0 hz1 hz2 rfl (by decide) _ 0 [] (by simp [Act.eval]) (own_baseT E2 (by first | exact Nat.le_refl _ | exact B1.size)) ⟨R.gh, 0, none⟩ 4 R.hc (flatH R.hs 4) (by simp [Act.eval]) (flatH_len _ _) (rd_hands (HHH.out _ hBw2)) (flatH_one _ _) (by unfold maxLen; omega) (by omega) B2.size ?_
      intro v3 V3 hown3 hgrow3 _
      obtain ⟨g3, c3, rfl, q3, B3, HE⟩ := copy_fin (co := co2) (n := lc2.length) (cc := cc2) HL.out HOK.out hW P0.out.2.2.lt B2 O2 (own_baseT E2 (by first | exact Nat.le_refl _ | exact B1.size)) (by simpa using hown3) hgrow3 P0.out.2.2
      have HQ : Hid _ := q4_put q3 (.slice ao1 R.L.length cap1) (.slice co2 lc2.length cc2) (.slice (some ⟨g3, 0, none⟩) 4 c3) (.int .i64 R.bad)
      have e33 := (B3.cell (p := ⟨w.heap.size, 3, none⟩) hb0).trans a3
      obtain ⟨_, r0, r1, r2, r3, f0, f1, f2, f3⟩ := q3
      clear hown3 hgrow3)
   | (go_at_call 88
      refine (HLC.out _ (by first | exact hW.drew | exact (hW.alloc hW.size _).drew | exact hW.drew.alloc hW.size _)).mono ?_
      rintro e V1 ⟨v1, rfl, O1', b1⟩
      (first | have B1 : Below W.heap.size W V1 := kC b1 | have B1 : Below W.heap.size W V1 := kB b1 | have B1 : Below W.heap.size W V1 := kA b1)
      (first | have E := kE1 b1 | have E := kE2 b1 | skip)
      have O1 : V1.ownsRow W.heap.size 42 4 v1 R.L.length (flat R.L) := own_baseT O1'.1 (by simp)
      obtain ⟨ao1, cap1, hv1, _⟩ := own_lace O1
      subst hv1
      have hBw : Below w.heap.size w V1 := hW.trans (B1.mono hW.size)
      have hb1 : w.heap.size < V1.heap.size := Nat.lt_of_lt_of_le hb0 B1.size
      clear O1' b1)
   | (go_at_call 35
      refine (HCC.out _ (by first | exact hBw | exact hBw.alloc hBw.size _)).mono ?_
      rintro e V2 ⟨v2, rfl, hc2, b2⟩
      (first | have B2 : Below W.heap.size W V2 := B1.trans ((kD b2).mono B1.size) | have B2 : Below W.heap.size W V2 := B1.trans (b2.mono B1.size))
      (first | have E2 := kE3 b2 | have E2 := own_below E b2 | skip)
      (first | have O2 := own_below O1 b2 | have O2 := own_below (O1.alloc _) b2)
      obtain ⟨co2, cc2, lc2, hv2, _⟩ := hc2
      subst hv2
      have hBw2 : Below w.heap.size w V2 := hW.trans (B2.mono hW.size)
      have hb2 : w.heap.size < V2.heap.size := Nat.lt_of_lt_of_le hb0 B2.size
      clear b2)
   | fail)
 all_goals
   go_wp2
   obtain ⟨_, y0, y1, y2, y3, _, _, _, _⟩ := HQ.out
   unfold qset at y0 y1 y2 y3
   exact bodyPost_ret (v := .agg #[.slice ao1 R.L.length cap1, .slice co2 lc2.length cc2, .slice (some ⟨g3, 0, none⟩) 4 c3, .int .i64 R.bad]) (by simp [results, Tryz.results140, go_sem, y0, y1, y2, y3]) rfl HE.out
end Rm
end Go.Proofs.YtflhaiakhfmmmaaGreat
