/-
  What the program's own Seals, Sealers and SealedOf answer, in the words of SealM; for lists of knots whose words have at most 2^40 bytes.
-/
import Derived.Test.YtbbejgabhoedeaaSealM
import Derived.Test.YtbbejgabhoedeaaNodX
import Derived.Deep.RegionHeld3
namespace Go.Proofs.Ytbbejgabhoedeaa
open Go.RowKit
set_option maxRecDepth 100000
set_option linter.unusedVariables false
namespace Sl
open Kn (K okK)
open Bit (bit withB memTo)
open Lc (at' RdK WordsOk laceB setB HandsOk handsN)
open Sg (isB bel belows seesB metI)
open Nd (nodF nodsB nodN nodS)
open Ak (onlyF)

/-- all that nod to b, as the program tells them -/
def ndI (L : List K) (b : Int) : Int := nodF L b (Memb.memI (2 ^ L.length - 1))

theorem ndI_bd (L : List K) (b : Int) : 0 ≤ ndI L b ∧ ndI L b < 1152921504606846976 := (Nd.nodF_bits L b _ (fun _ h => Nd.mem_memI h)).1
theorem bit_ndI {L : List K} (h60 : L.length ≤ 60) (b : Int) (j : Nat) : bit (ndI L b) j = nodsB L (j : Int) b := by
  have hp := Lc.pow60 L.length h60
  rw [Bool.eq_iff_iff]
  unfold ndI
  rw [(Nd.nodF_bits L b _ (fun _ h => Nd.mem_memI h)).2 j, Ak.mem_bit (by omega) (by omega), Ak.bit_all h60]
  refine ⟨fun h => h.2, fun h => ⟨?_, h⟩⟩
  unfold Nd.nodsB at h
  rw [Bool.and_eq_true] at h
  obtain ⟨_, p1, _⟩ := Sg.isB_parts h.1
  exact decide_eq_true (by omega)

/-- what the program's sealing asks -/
theorem seal_asks {L : List K} (hl : laceB L = true) (a b : Int) : decide (3 ≤ handsN L (bits .and .i64 (ndI L b) (metI L a))) = sealsB L a b := by
  have h60 := ((Lc.lace_iff L).1 hl).1
  have hn := ndI_bd L b
  have hm := Nd.met_bd h60 a
  have hbit := fun i => bit_and (ndI L b) (metI L a) hn.1 hn.2 hm.1 hm.2 i
  unfold sealsB
  cases ha : isB L a
  · have : handsN L (bits .and .i64 (ndI L b) (metI L a)) = 0 := hands_zero fun i hi => by
      rw [hbit i]
      have e : metI L a = 0 := by
        unfold Sg.metI
        rw [if_neg]
        intro h
        rw [Db.isB_lace hl, decide_eq_true h.1, decide_eq_true h.2] at ha
        exact Bool.noConfusion ha
      rw [e, Lc.bit_zero, Bool.and_false]
    rw [this]; rfl
  · obtain ⟨a0, a1, _⟩ := Sg.isB_parts ha
    cases hb : isB L b
    · have : handsN L (bits .and .i64 (ndI L b) (metI L a)) = 0 := hands_zero fun i hi => by
        rw [hbit i, bit_ndI h60]
        unfold Nd.nodsB
        rw [hb]; simp
      rw [this]; rfl
    · obtain ⟨b0, b1, _⟩ := Sg.isB_parts hb
      have hma : metI L a = bel L a.toNat := by unfold Sg.metI; rw [if_pos ⟨a0, a1⟩]
      have key : ∀ i, i < L.length → bit (bits .and .i64 (ndI L b) (metI L a)) i = bit (nodAt L a.toNat b.toNat) i := fun i hi => by
        rw [hbit i, bit_ndI h60, hma, bit_nodAt h60 (by omega), decide_eq_true hi]
        unfold Nd.nodsB
        rw [hb, Int.toNat_natCast, Db.isB_lace hl, decide_eq_true (by omega : (0 : Int) ≤ (i : Int)), decide_eq_true (by omega : (i : Int) < (L.length : Int))]
        simp only [Bool.true_and]
        exact Bool.and_comm _ _
      have e : handsN L (bits .and .i64 (ndI L b) (metI L a)) = handsN L (nodAt L a.toNat b.toNat) :=
        Int.le_antisymm (hands_mono fun i hi h => by rw [← key i hi]; exact h) (hands_mono fun i hi h => by rw [key i hi]; exact h)
      rw [e]
      rfl

set_option maxHeartbeats 1600000 in
theorem sealing1 (bl bn g off cap : Nat) (L : List K) (a b : Int) (w : World) (hlc : laceB L = true) (hg : g < w.heap.size) (hr : RdK w (some ⟨g, off, none⟩) L)
    (hbl : bl < w.heap.size) (hbn : bn < w.heap.size) (cl : w.cell? ⟨bl, 0, none⟩ = some (.slice (some ⟨g, off, none⟩) L.length cap)) (cn : w.cell? ⟨bn, 0, none⟩ = some (.int .i64 (ndI L b))) :
    Calls Try.prog 77 #[.int .i64 a, .pointer (some ⟨bl, 0, none⟩), .pointer (some ⟨bn, 0, none⟩)] w fun e w' => e = .returned (.bool (sealsB L a b)) ∧ Below w.heap.size w w' := by
  have h60 := ((Lc.lace_iff L).1 hlc).1
  have hn := ndI_bd L b
  have hm := Nd.met_bd h60 a
  have hA := and_bd _ _ hn.1 hn.2 hm.1 hm.2
  have hbit := fun i => bit_and (ndI L b) (metI L a) hn.1 hn.2 hm.1 hm.2 i
  have hd : bits .and .i64 (ndI L b) (metI L a) / 2 ^ L.length = 0 := Lc.div_of_bits _ _ hA.1 fun i hi => by
    rw [hbit i, Bool.and_eq_false_iff]
    right
    rw [Bool.eq_false_iff]
    intro h
    have := Nd.met_in hlc a i h
    omega
  have HT : Hid (decide (3 ≤ handsN L (bits .and .i64 (ndI L b) (metI L a))) = sealsB L a b) := seal_asks hlc a b
  have HB : Hid (∀ W : World, Below w.heap.size w W → Calls Try.prog 46 #[.slice (some ⟨g, off, none⟩) L.length cap, .int .i64 a] W fun e w' => e = .returned (.int .i64 (metI L a)) ∧ Below w.heap.size w w') := fun W hW =>
    (Sg.below g off cap L a W hlc (Nat.lt_of_lt_of_le hg hW.size) (hr.below hW)).mono fun _ _ h => ⟨h.1, hW.trans (h.2.mono hW.size)⟩
  have HH : Hid (∀ W : World, Below w.heap.size w W → Calls Try.prog 78 #[.slice (some ⟨g, off, none⟩) L.length cap, .int .i64 (bits .and .i64 (ndI L b) (metI L a))] W fun e w' => e = .returned (.int .i64 (handsN L (bits .and .i64 (ndI L b) (metI L a)))) ∧ Below w.heap.size w w') := fun W hW =>
    (Lc.hands g off cap L _ W h60 hA.1 hA.2 hd (Lc.lace_hands hlc) (hr.below hW)).mono fun _ _ h => ⟨h.1, hW.trans (h.2.mono hW.size)⟩
  clear hd hbit hA
  generalize ndI L b = nd at cn HT HH hn
  generalize metI L a = mt at HT HH HB hm
  generalize hbb : bits .and .i64 nd mt = bb at HT HH
  have HBB : Hid (bits .and .i64 nd mt = bb) := hbb
  clear hbb
  generalize handsN L bb = hh at HT HH
  go_enter Try.func77, Try.ntmps77
  go_wp2_with fail
  obtain ⟨X, _, F, HF, HG⟩ := Fam.fam w
  have hc1 : ∀ z, (F z).cell? ⟨bl, 0, none⟩ = some (.slice (some ⟨g, off, none⟩) L.length cap) := fun z => ((HF.out z).cell (p := ⟨bl, 0, none⟩) hbl).trans cl
  have hc2 : ∀ z, (F z).cell? ⟨bn, 0, none⟩ = some (.int .i64 nd) := fun z => ((HF.out z).cell (p := ⟨bn, 0, none⟩) hbn).trans cn
  clear cl cn
  refine Fam.region (F := F) (by kernel_rfl) (by kernel_rfl) (HG.out _ (Below.refl _ w).drew) ?_
  repeat (go_big_quiet_step (first
    | (go_at_call 46; exact (HB.out _ (HF.out _)).mono fun _ _ h => ⟨h.1, HG.out _ h.2⟩)
    | (go_at_call 78; rw [HBB.out]; exact (HH.out _ (HF.out _)).mono fun _ _ h => ⟨h.1, HG.out _ h.2⟩)))
  refine wpQuiet_nil ?_
  intro w2 hw2
  obtain ⟨z, rfl⟩ := hw2
  have HB2 : Hid (Below w.heap.size w (F z)) := HF.out z
  go_wp2
  go_ret
  exact ⟨by rw [← HT.out]; rfl, HB2.out⟩

/-- the closure that tells of whoever is asked whether it seals b -/
def SealFn (L : List K) (b : Int) (g off cap : Nat) (w : World) (e : Ending) (w' : World) : Prop :=
  ∃ bl bn, e = .returned (.func (.func 77) #[] #[.pointer (some ⟨bl, 0, none⟩), .pointer (some ⟨bn, 0, none⟩)]) ∧ bl < w'.heap.size ∧ bn < w'.heap.size ∧
    w'.cell? ⟨bl, 0, none⟩ = some (.slice (some ⟨g, off, none⟩) L.length cap) ∧ w'.cell? ⟨bn, 0, none⟩ = some (.int .i64 (ndI L b)) ∧ Below w.heap.size w w'

theorem kA {W V : World} (h : Below W.drew.heap.size W.drew V) : Below W.heap.size W V := ⟨h.os, h.tape, h.output, h.size, h.block⟩
theorem kB {W V : World} {o : Obj} (h : Below (W.drew.alloc o).heap.size (W.drew.alloc o) V) : Below W.heap.size W V := kA (((Below.refl _ W.drew).alloc (Nat.le_refl _) o).trans (h.mono (by simp)))
theorem kC {W V : World} {o : Obj} (h : Below (W.alloc o).drew.heap.size (W.alloc o).drew V) : Below W.heap.size W V := ((Below.refl _ W).alloc (Nat.le_refl _) o).trans ((kA h).mono (by simp))
theorem keepN {W V : World} {t : TypeId} {v : Value} (h : Below (W.drew.alloc (.cells #[v] t)).heap.size (W.drew.alloc (.cells #[v] t)) V) : V.cell? ⟨W.heap.size, 0, none⟩ = some v ∧ V.frozen? ⟨W.heap.size, 0, none⟩ = false ∧ W.heap.size < V.heap.size := by
  have c := Sg.boxNew W.drew v t
  have hs : W.heap.size < (W.drew.alloc (.cells #[v] t)).heap.size := by rw [World.size_alloc]; exact Nat.lt_succ_self _
  exact ⟨(h.cell (p := ⟨W.heap.size, 0, none⟩) hs).trans c.1, (h.frozen (p := ⟨W.heap.size, 0, none⟩) hs).trans c.2, Nat.lt_of_lt_of_le hs h.size⟩
theorem keepN' {W V : World} {t : TypeId} {v : Value} (h : Below (W.alloc (.cells #[v] t)).drew.heap.size (W.alloc (.cells #[v] t)).drew V) : V.cell? ⟨W.heap.size, 0, none⟩ = some v ∧ V.frozen? ⟨W.heap.size, 0, none⟩ = false ∧ W.heap.size < V.heap.size := by
  have c := Sg.boxNew W v t
  have hs : W.heap.size < (W.alloc (.cells #[v] t)).heap.size := by simp
  have h' := kA h
  exact ⟨(h'.cell (p := ⟨W.heap.size, 0, none⟩) hs).trans c.1, (h'.frozen (p := ⟨W.heap.size, 0, none⟩) hs).trans c.2, Nat.lt_of_lt_of_le hs h'.size⟩

theorem fn_new {L : List K} {b nd : Int} {g off cap bl : Nat} {w w0 V : World} {t : TypeId} (hb : w.heap.size = bl) (hn : ndI L b = nd) (B0 : Below bl w w0) (C0 : w0.cell? ⟨bl, 0, none⟩ = some (.slice (some ⟨g, off, none⟩) L.length cap)) (S0 : bl < w0.heap.size) (B1 : Below w0.heap.size w0 V) :
    SealFn L b g off cap w (.returned (.func (.func 77) #[] #[.pointer (some ⟨bl, 0, none⟩), .pointer (some ⟨V.heap.size, 0, none⟩)])) (V.alloc (.cells #[.int .i64 nd] t)) := by
  subst hb hn
  have hs := B1.size
  refine ⟨w.heap.size, V.heap.size, rfl, by simp; omega, by simp, Sg.boxCell _ ((B1.cell (p := ⟨w.heap.size, 0, none⟩) S0).trans C0), (Sg.boxNew V _ t).1, ?_⟩
  exact (B0.trans (B1.mono (Nat.le_of_lt S0))).alloc (by omega) _
theorem fn_put {L : List K} {b nd : Int} {g off cap bl : Nat} {w w0 V : World} {v : Value} (hb : w.heap.size = bl) (hn : ndI L b = nd) (B0 : Below bl w w0) (C0 : w0.cell? ⟨bl, 0, none⟩ = some (.slice (some ⟨g, off, none⟩) L.length cap)) (S0 : bl < w0.heap.size) (B1 : Below w0.heap.size w0 V) (hc : V.cell? ⟨w0.heap.size, 0, none⟩ = some v) (hv : w0.heap.size < V.heap.size) :
    SealFn L b g off cap w (.returned (.func (.func 77) #[] #[.pointer (some ⟨bl, 0, none⟩), .pointer (some ⟨w0.heap.size, 0, none⟩)])) (V.setCell ⟨w0.heap.size, 0, none⟩ (.int .i64 nd)) := by
  subst hb hn
  have hs := B1.size
  refine ⟨w.heap.size, w0.heap.size, rfl, by simp; omega, by simp; omega, (Sg.put_other V _ _ (by omega) _).trans ((B1.cell (p := ⟨w.heap.size, 0, none⟩) S0).trans C0), World.cell?_setCell_same' _ _ _ (by rw [hc]; rfl), ?_⟩
  exact (B0.trans (B1.mono (Nat.le_of_lt S0))).setCell (p := ⟨w0.heap.size, 0, none⟩) (show w.heap.size ≤ w0.heap.size by omega) _

set_option maxHeartbeats 3200000 in
theorem sealing (g off cap : Nat) (L : List K) (b : Int) (w : World) (hlc : laceB L = true) (hg : g < w.heap.size) (hr : RdK w (some ⟨g, off, none⟩) L) :
    Calls Try.prog 67 #[.slice (some ⟨g, off, none⟩) L.length cap, .int .i64 b] w (SealFn L b g off cap w) := by
  have h60 := ((Lc.lace_iff L).1 hlc).1
  have P0 : Hid (Below w.heap.size w (w.alloc (.cells #[.slice (some ⟨g, off, none⟩) L.length cap] 47)) ∧ (w.alloc (.cells #[.slice (some ⟨g, off, none⟩) L.length cap] 47)).cell? ⟨w.heap.size, 0, none⟩ = some (.slice (some ⟨g, off, none⟩) L.length cap) ∧ w.heap.size < (w.alloc (.cells #[.slice (some ⟨g, off, none⟩) L.length cap] 47)).heap.size) := ⟨(Below.refl _ _).alloc (Nat.le_refl _) _, by simp, by simp⟩
  go_enter Try.func67, Try.ntmps67
  go_wp2_with fail
  generalize w.alloc (.cells #[.slice (some ⟨g, off, none⟩) L.length cap] 47) = w0 at P0 ⊢
  obtain ⟨B0, C0, S0⟩ := P0
  have HB0 : Hid (Below w.heap.size w w0) := B0
  clear B0
  have HNC : Hid (∀ W : World, Below w0.heap.size w0 W → Calls Try.prog 76 #[.slice (some ⟨g, off, none⟩) L.length cap, .int .i64 (2 ^ L.length - 1), .int .i64 b] W fun e w' => e = .returned (.int .i64 (ndI L b)) ∧ Below W.heap.size W w') := fun W hW =>
    Nd.nodders g off cap L _ b W hlc (Nat.lt_of_lt_of_le (Nat.lt_of_lt_of_le hg HB0.out.size) hW.size) ((hr.below HB0.out).below hW)
  generalize hnd : ndI L b = nd at HNC
  have HND : Hid (ndI L b = nd) := hnd
  clear hnd
  generalize hb : w.heap.size = bl at *
  have HWB : Hid (w.heap.size = bl) := hb
  have HC0 : Hid (w0.cell? ⟨bl, 0, none⟩ = some (.slice (some ⟨g, off, none⟩) L.length cap)) := C0
  clear hb hr
  have HSB : Hid (∀ X : World, Below w0.heap.size w0 X → X.cell? ⟨bl, 0, none⟩ = some (.slice (some ⟨g, off, none⟩) L.length cap)) := fun X hX => (hX.cell (p := ⟨bl, 0, none⟩) S0).trans C0
  go_region_held3 (fun X => X.cell? ⟨bl, 0, none⟩ = some (.slice (some ⟨g, off, none⟩) L.length cap)) (first
      | exact HSB.out _ (B1.alloc B1.size _)
      | exact HSB.out _ B1
      | exact HSB.out _ (B1.setCell (p := ⟨w0.heap.size, 0, none⟩) (Nat.le_refl _) _)
      | exact HSB.out _ (Below.refl _ _).drew
      | exact HSB.out _ ((Below.refl _ _).alloc (Nat.le_refl _) _).drew
      | exact HSB.out _ ((Below.refl _ _).drew.alloc (Nat.le_refl _) _)
      | go_keep) (first
      | (go_at_call 30
         refine (Lc.all _ _ _ _ h60).mono ?_
         rintro e V0 ⟨rfl, rfl⟩)
      | (go_at_call 76
         refine (HNC.out _ (by first | exact (Below.refl _ _).drew | exact ((Below.refl _ _).alloc (Nat.le_refl _) _).drew | exact (Below.refl _ _).drew.alloc (Nat.le_refl _) _)).mono ?_
         rintro e V1 ⟨rfl, b1⟩
         (first | have HZ := keepN b1 | have HZ := keepN' b1 | skip)
         (first | (have z0 := HZ.1; have g0 := HZ.2.1; have s0 := HZ.2.2) | skip)
         (first | have B1 : Below w0.heap.size w0 V1 := kC b1 | have B1 : Below w0.heap.size w0 V1 := kB b1 | have B1 : Below w0.heap.size w0 V1 := kA b1)))
  all_goals (go_wp2)
  all_goals go_ret
  all_goals (first
    | exact fn_new HWB.out HND.out HB0.out HC0.out S0 B1
    | exact fn_put HWB.out HND.out HB0.out HC0.out S0 B1 z0 s0)

set_option maxHeartbeats 400000 in
theorem seals (g off cap : Nat) (L : List K) (a b : Int) (w : World) (hlc : laceB L = true) (hg : g < w.heap.size) (hr : RdK w (some ⟨g, off, none⟩) L) :
    Calls Try.prog 49 #[.slice (some ⟨g, off, none⟩) L.length cap, .int .i64 a, .int .i64 b] w fun e w' => e = .returned (.bool (sealsB L a b)) ∧ Below w.heap.size w w' := by
  have HLC : Hid (laceB L = true) := hlc
  clear hlc
  go_enter Try.func49, Try.ntmps49
  go_wp2_with fail
  refine (sealing g off cap L b _ HLC.out hg hr).mono ?_
  rintro e w1 ⟨bl, bn, rfl, hbl, hbn, cl, cn, hb1⟩
  have hcall := sealing1 bl bn g off cap L a b w1 HLC.out (Nat.lt_of_lt_of_le hg hb1.size) (hr.below hb1) hbl hbn cl cn
  clear cl cn hbl hbn
  go_wp2_with fail
  refine hcall.mono ?_
  rintro e w2 ⟨rfl, hb2⟩
  have B2 := hb1.trans (hb2.mono hb1.size)
  clear hcall hb1 hb2
  go_wp2
  go_ret
  exact ⟨rfl, B2⟩

theorem lace_box (w : World) (v : Value) (a : Int) (t u : TypeId) : Below w.heap.size w ((w.alloc (.cells #[v] t)).alloc (.cells #[.int .i64 a] u)) ∧ ((w.alloc (.cells #[v] t)).alloc (.cells #[.int .i64 a] u)).cell? ⟨w.heap.size, 0, none⟩ = some v ∧ ((w.alloc (.cells #[v] t)).alloc (.cells #[.int .i64 a] u)).cell? ⟨w.heap.size + 1, 0, none⟩ = some (.int .i64 a) ∧ w.heap.size + 1 < ((w.alloc (.cells #[v] t)).alloc (.cells #[.int .i64 a] u)).heap.size := by
  have c1 := Sg.boxNew (w.alloc (.cells #[v] t)) (.int .i64 a) u
  simp only [World.size_alloc] at c1
  exact ⟨((Below.refl _ _).alloc (Nat.le_refl _) _).alloc (by simp) _, Sg.boxCell _ (Sg.boxNew w v t).1, c1.1, by simp⟩

/-- of a set of the lace: the document's Sealers -/
theorem only_sealers {L : List K} {s b : Int} (hs : setB L s = true) (hb : isB L b = true) : onlyF (fun a => sealsB L a b) (Memb.memI s) = sealersI L s b := by
  obtain ⟨hl, q0, q1, qd, _, _⟩ := Lc.setB_parts hs
  have h60 := ((Lc.lace_iff L).1 hl).1
  have hF := Ak.onlyF_bits (fun a => sealsB L a b) (Memb.memI s) (fun _ h => Ak.mem_memI h)
  have hN := sealS_bd L b.toNat L.length h60
  have hA := and_bd s _ q0 q1 hN.1 hN.2
  unfold sealersI
  rw [hs, hb]
  simp only [Bool.and_self, if_true]
  refine Lc.eq_of_bits _ _ hF.1.1 hA.1 fun j => ?_
  rw [Bool.eq_iff_iff, hF.2 j, bit_and s _ q0 q1 hN.1 hN.2, bit_sealS L b.toNat L.length h60, Bool.and_eq_true, Bool.and_eq_true, decide_eq_true_eq, Ak.mem_bit q0 q1]
  constructor
  · rintro ⟨h1, h2⟩
    unfold sealsB at h2
    rw [Bool.and_eq_true, Bool.and_eq_true] at h2
    obtain ⟨_, p1, _⟩ := Sg.isB_parts h2.1
    exact ⟨h1, by omega, by have := h2.2.2; rwa [Int.toNat_natCast] at this⟩
  · rintro ⟨h1, h2, h3⟩
    refine ⟨h1, ?_⟩
    unfold sealsB
    rw [hb, Int.toNat_natCast, h3, Db.isB_lace hl]
    simp; omega
/-- of a knot: the document's SealedOf -/
theorem only_sealed {L : List K} {a : Int} (ha : isB L a = true) : onlyF (fun b => sealsB L a b) (Memb.memI (metI L a)) = sealedI L a := by
  obtain ⟨a0, a1, hl⟩ := Sg.isB_parts ha
  have h60 := ((Lc.lace_iff L).1 hl).1
  have hF := Ak.onlyF_bits (fun b => sealsB L a b) (Memb.memI (metI L a)) (fun _ h => Ak.mem_memI h)
  have hN := sealedS_bd L a.toNat L.length h60
  have hm := Nd.met_bd h60 a
  unfold sealedI
  rw [ha, if_pos rfl]
  refine Lc.eq_of_bits _ _ hF.1.1 hN.1 fun j => ?_
  rw [Bool.eq_iff_iff, hF.2 j, bit_sealedS L a.toNat L.length h60, Bool.and_eq_true, decide_eq_true_eq, Ak.mem_bit hm.1 hm.2]
  have hma : metI L a = bel L a.toNat := by unfold Sg.metI; rw [if_pos ⟨a0, a1⟩]
  constructor
  · rintro ⟨h1, h2⟩
    unfold sealsB at h2
    rw [Bool.and_eq_true, Bool.and_eq_true] at h2
    exact ⟨Nd.met_in hl a j h1, by have := h2.2.2; rwa [Int.toNat_natCast] at this⟩
  · rintro ⟨h2, h3⟩
    refine ⟨by rw [hma]; exact seal_sees hl (by omega) h3, ?_⟩
    unfold sealsB
    rw [ha, Int.toNat_natCast, h3, Db.isB_lace hl]
    simp; omega

end Sl
end Go.Proofs.Ytbbejgabhoedeaa
