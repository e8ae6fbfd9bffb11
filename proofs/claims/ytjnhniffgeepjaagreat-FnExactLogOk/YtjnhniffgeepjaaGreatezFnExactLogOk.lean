/-
 FnExactLogOk answers true at every argument, for LogOk answers as its model does; no condition.
-/
import Derived.Test.YtjnhniffgeepjaaGreatezg25
set_option linter.unusedVariables false
namespace Go.Proofs.YtjnhniffgeepjaaGreat.fnExactLogOk
open Go.ChangeShapes Go.WideShapes Go.ChangeAt Go.RowKit Go.Joins
open Rm (Fr)
open Lg (At RdL InL)
open Gx (CpI CpK CpL Rg)
open Kn (K)
open Lc (RdK)
set_option linter.unusedVariables false
set_option maxRecDepth 100000
theorem own : ownKnob Tryz.prog.godebug = none := by kernel_rfl
theorem laidOut : laidOutB Tryz.prog = true := by kernel_rfl
structure LGen (W : World) (so : Option Addr) (sc : Nat) (S : List Int) (qo : Option Addr) (tc : Nat) (T : List (List Int)) (f : At) : Prop where
 rd : RdL W so qo S T f
 sn : so = none → sc = 0
 tn : ∀ i, i < T.length → (f i).1 = none → (f i).2 = 0
 fit : S.length ≤ sc
 s20 : S.length ≤ 1048576
 t20 : T.length ≤ 1048576
 row : ∀ i, i < T.length → (T.getD i []).length ≤ 1048576
 sb : ∀ x ∈ S, -9223372036854775808 ≤ x ∧ x ≤ 9223372036854775807
theorem words {L : List K} (h : Lc.Small L) : Lc.WordsOk L := fun k hk => by have := h.2 k hk; omega
def ImplT : Prop := ∀ (L : List K) (C : List Int) (S : List Int) (T : List (List Int)), L.length ≤ 1048576 → Lc.WordsOk L → C.length ≤ 1048576 →
   ∀ (g c : Nat) (so : Option Addr) (sc : Nat) (qo : Option Addr) (tc : Nat) (f : At) (W : World), RdK W (some ⟨g, 0, none⟩) L → g < W.heap.size → Lst.Rd W (some ⟨c, 0, none⟩) C → c < W.heap.size → LGen W so sc S qo tc T f → Calls Tryz.prog 19 #[.slice (some ⟨g, 0, none⟩) L.length L.length, .slice (some ⟨c, 0, none⟩) C.length C.length, .agg #[.slice so S.length sc, .slice qo T.length tc]] W fun e w' => e = .returned (.bool (Lg.logB L C S T)) ∧ Below W.heap.size W w'
theorem specT (L : List K) (C : List Int) (S : List Int) (T : List (List Int)) (hl : L.length ≤ 1048576) (hw : Lc.WordsOk L) (hc : C.length ≤ 1048576) : ∀ (g c : Nat) (so : Option Addr) (sc : Nat) (qo : Option Addr) (tc : Nat) (f : At) (W : World), RdK W (some ⟨g, 0, none⟩) L → g < W.heap.size → Lst.Rd W (some ⟨c, 0, none⟩) C → c < W.heap.size → LGen W so sc S qo tc T f → Calls Tryz.prog 17 #[.slice (some ⟨g, 0, none⟩) L.length L.length, .slice (some ⟨c, 0, none⟩) C.length C.length, .agg #[.slice so S.length sc, .slice qo T.length tc]] W fun e w' => e = .returned (.bool (Lg.logB L C S T)) ∧ Below W.heap.size W w' :=
 fun g c so sc qo tc f W h1 h2 h3 h4 h5 => Lg.specLogOk g 0 _ L _ _ C so qo sc tc S T f W (Nat.le_refl _) hw h2 h1 hc h3 (fun x e => by injection e with e; injection e with e; subst e; exact h4) h5.rd h5.s20 h5.t20 h5.row
set_option maxHeartbeats 12800000 in
theorem walk (HI : ImplT) (a0 : Option Addr) (cap0 : Nat) (L : List K) (a1 : Option Addr) (cap1 : Nat) (C : List Int) (so : Option Addr) (sc : Nat) (S : List Int) (qo : Option Addr) (tc : Nat) (T : List (List Int)) (f : At) (w : World) (hl : L.length ≤ maxLen) (hws : ∀ k ∈ L, k.word.size ≤ maxLen) (hrd0 : RdK w a0 L) (hmC : C.length ≤ maxLen) (hrd1 : Nu.RdI w a1 C) (hS : S.length ≤ maxLen) (hT : T.length ≤ maxLen) (hTT : ∀ i, i < T.length → (T.getD i []).length ≤ maxLen) (hsb : ∀ x ∈ S, -9223372036854775808 ≤ x ∧ x ≤ 9223372036854775807) (hin : InL w so qo S T f) :
   Calls Tryz.prog 4 #[.slice a0 L.length cap0, .slice a1 C.length cap1, .agg #[.slice so S.length sc, .slice qo T.length tc]] w fun e w' => e = .returned (.bool true) ∧ Below w.heap.size w w' := by
 have HII : Hid ImplT := HI
 have HBSX : Hid (∀ x ∈ S, -9223372036854775808 ≤ x ∧ x ≤ 9223372036854775807) := hsb
 clear hsb
 have P0 : Hid (_) := Lg.box1 w (.slice so S.length sc) (.slice qo T.length tc) 36
 have HIN : Hid (InL w so qo S T f ∧ RdK w a0 L ∧ Nu.RdI w a1 C) := ⟨hin, hrd0, hrd1⟩
 clear HI hin hrd0 hrd1
 unfold maxLen at hmC
 by_cases hbig : 1048576 < C.length
 · have hbig' : (1048576 : Int) < (C.length : Int) := by omega
   have HE := P0.out.1
   go_enter Tryz.func4, Tryz.ntmps4
   go_wp2
   go_ret
   exact ⟨rfl, HE⟩
 have hbig' : ¬ (1048576 : Int) < (C.length : Int) := by omega
 have hC2 : C.length ≤ 1048576 := by omega
 clear hbig hmC
 go_enter Tryz.func4, Tryz.ntmps4
 go_upto_region 4 with fail
 generalize w.alloc (.cells #[.slice so S.length sc, .slice qo T.length tc] 36) = W0 at P0 ⊢
 have HB0 : Hid (Below w.heap.size w W0) := P0.out.1
 have HBX : Hid (∀ V : World, Below W0.heap.size W0 V → V.cell? ⟨w.heap.size, 0, none⟩ = some (.slice so S.length sc) ∧ V.cell? ⟨w.heap.size, 1, none⟩ = some (.slice qo T.length tc)) := fun V hV => ⟨(hV.cell (p := ⟨w.heap.size, 0, none⟩) P0.out.2.2.2).trans P0.out.2.1, (hV.cell (p := ⟨w.heap.size, 1, none⟩) P0.out.2.2.2).trans P0.out.2.2.1⟩
 have HIV : Hid (∀ V : World, Below W0.heap.size W0 V → InL V so qo S T f ∧ RdK V a0 L ∧ Nu.RdI V a1 C) := fun V hV => ⟨(HIN.out.1.below HB0.out).below hV, (HIN.out.2.1.below HB0.out).below hV, (HIN.out.2.2.below HB0.out).below hV⟩
 have HE : Hid (∀ V : World, Below W0.heap.size W0 V → Below w.heap.size w V) := fun V hV => HB0.out.trans (hV.mono HB0.out.size)
 have hbs : w.heap.size < W0.heap.size := P0.out.2.2.2
 clear P0 HIN HB0
 generalize w.heap.size = bb at HBX hbs ⊢
 go_wp2_with fail
 refine (Lc.szKnotS a0 cap0 L 1048576 _ hl hws (by omega) (by omega) (HIV.out _ (Below.refl _ _)).2.1).mono ?_
 rintro e w1 ⟨r0, rfl, hr0', hr1', hsm, hb1⟩
 have HSK : Hid (0 ≤ r0 → Lc.Small L) := hsm
 have B1 : Hid (Below W0.heap.size W0 w1) := hb1
 clear hsm hb1
 by_cases hneg0 : r0 < 0
 · go_wp2
   go_ret
   exact ⟨rfl, HE.out _ B1.out⟩
 have hSK := HSK.out (by omega)
 have HW : Hid (Lc.WordsOk L) := words hSK
 have hL2 : L.length ≤ 1048576 := hSK.1
 clear HSK hl hws hSK
 obtain ⟨c0, c1⟩ := HBX.out w1 B1.out
 go_wp2_with fail
 refine (Lg.szLog so qo sc tc S T f r0 _ hS hT hTT (by omega) (by omega) (HIV.out _ B1.out).1).mono ?_
 rintro e w2 ⟨⟨r, rfl, hr1, hr0, hsz⟩, hb1⟩
 have HSM : Hid (0 ≤ r → _) := hsz
 have B2 : Hid (Below W0.heap.size W0 w2) := B1.out.trans (hb1.mono B1.out.size)
 clear hsz hb1 c0 c1 B1
 by_cases hneg : r < 0
 · go_wp2
   go_ret
   exact ⟨rfl, HE.out _ B2.out⟩
 obtain ⟨hS2, hT2, hTT2⟩ := HSM.out (by omega)
 clear HSM hS hT hTT
 have HTT : Hid (∀ i, i < T.length → (T.getD i []).length ≤ 1048576) := hTT2
 clear hTT2
 have HCK : Hid (∀ X : World, Below W0.heap.size W0 X → Calls Tryz.prog 8 #[.slice a0 L.length cap0] X fun e w' => ∃ q, e = .returned (.slice (some ⟨q, 0, none⟩) L.length L.length) ∧ CpK X.heap.size w'.heap.size w' q L ∧ Below W0.heap.size W0 w' ∧ Below X.heap.size X w') := fun X hX => (Lc.toKnotS a0 cap0 L X hL2 (HIV.out X hX).2.1).mono fun e w' z => by
   obtain ⟨e1, e2, e3⟩ := z
   exact ⟨_, e1, Gx.cpK_to e2 e3, hX.trans (e3.mono hX.size), e3⟩
 have HCI : Hid (∀ X : World, Below W0.heap.size W0 X → Calls Tryz.prog 9 #[.slice a1 C.length cap1] X fun e w' => ∃ q, e = .returned (.slice (some ⟨q, 0, none⟩) C.length C.length) ∧ CpI X.heap.size w'.heap.size w' (some ⟨q, 0, none⟩) C ∧ Below W0.heap.size W0 w' ∧ Below X.heap.size X w') := fun X hX => (Nu.toInts a1 cap1 C X hC2 (HIV.out X hX).2.2).mono fun e w' z => by
   obtain ⟨e1, e2, e3⟩ := z
   exact ⟨_, e1, Gx.cpI_to e2 e3, hX.trans (e3.mono hX.size), e3⟩
 have HCL : Hid (∀ X : World, Below W0.heap.size W0 X → Calls Tryz.prog 18 #[.agg #[.slice so S.length sc, .slice qo T.length tc]] X fun e w' => ∃ s p q, e = .returned (.agg #[.slice (some ⟨s, 0, none⟩) S.length S.length, .slice (some ⟨p, 0, none⟩) T.length T.length]) ∧ CpL X.heap.size w'.heap.size w' (some ⟨s, 0, none⟩) S.length S (some ⟨p, 0, none⟩) T.length T q ∧ Below W0.heap.size W0 w' ∧ Below X.heap.size X w') := fun X hX => (Lg.toLog so qo sc tc S T f X hS2 hT2 HTT.out (HIV.out X hX).1).mono fun e w' z => by
   obtain ⟨s, p, q, e1, e2, e3⟩ := z
   exact ⟨s, p, _, e1, Gx.cpL_to e2, hX.trans (e3.mono hX.size), e3⟩
 have HLG : Hid (∀ (lo hi : Nat) (X : World) (so : Option Addr) (sc : Nat) (qo : Option Addr) (tc : Nat) (f : At), CpL lo hi X so sc S qo tc T f → LGen X so sc S qo tc T f) := fun lo hi X so sc qo tc f h => ⟨h.rd, h.sn, h.tn, h.fit, hS2, hT2, HTT.out, HBSX.out⟩
 have HSP : Hid (∀ (k0 k1 i0 i1 l0 l1 g c s p : Nat) (q : At) (X : World), CpK k0 k1 X g L → CpI i0 i1 X (some ⟨c, 0, none⟩) C → CpL l0 l1 X (some ⟨s, 0, none⟩) S.length S (some ⟨p, 0, none⟩) T.length T q → Calls Tryz.prog 17 #[.slice (some ⟨g, 0, none⟩) L.length L.length, .slice (some ⟨c, 0, none⟩) C.length C.length, .agg #[.slice (some ⟨s, 0, none⟩) S.length S.length, .slice (some ⟨p, 0, none⟩) T.length T.length]] X fun e w' => e = .returned (.bool (Lg.logB L C S T)) ∧ Below X.heap.size X w') := fun k0 k1 i0 i1 l0 l1 g c s p q X h1 h2 h3 => specT L C S T hL2 HW.out hC2 g c _ _ _ _ q X (Lc.made_rd h1.m) h1.lt h2.rd (h2.lt c rfl) (HLG.out _ _ _ _ _ _ _ _ h3)
 have HIM : Hid (∀ (k0 k1 i0 i1 l0 l1 g c s p : Nat) (q : At) (X : World), CpK k0 k1 X g L → CpI i0 i1 X (some ⟨c, 0, none⟩) C → CpL l0 l1 X (some ⟨s, 0, none⟩) S.length S (some ⟨p, 0, none⟩) T.length T q → Calls Tryz.prog 19 #[.slice (some ⟨g, 0, none⟩) L.length L.length, .slice (some ⟨c, 0, none⟩) C.length C.length, .agg #[.slice (some ⟨s, 0, none⟩) S.length S.length, .slice (some ⟨p, 0, none⟩) T.length T.length]] X fun e w' => e = .returned (.bool (Lg.logB L C S T)) ∧ Below X.heap.size X w') := fun k0 k1 i0 i1 l0 l1 g c s p q X h1 h2 h3 => HII.out L C S T hL2 HW.out hC2 g c _ _ _ _ q X (Lc.made_rd h1.m) h1.lt h2.rd (h2.lt c rfl) (HLG.out _ _ _ _ _ _ _ _ h3)
 have HEQ : Hid (∀ (X : World) (so1 so2 : Option Addr) (sc1 sc2 : Nat) (qo1 qo2 : Option Addr) (tc1 tc2 : Nat) (f1 f2 : At), RdL X so1 qo1 S T f1 → RdL X so2 qo2 S T f2 → Calls Tryz.prog 20 #[.agg #[.slice so1 S.length sc1, .slice qo1 T.length tc1], .agg #[.slice so2 S.length sc2, .slice qo2 T.length tc2]] X fun e w' => e = .returned (.bool true) ∧ Below X.heap.size X w') := fun X so1 so2 sc1 sc2 qo1 qo2 tc1 tc2 f1 f2 h1 h2 => Lg.eqLog S T so1 so2 qo1 qo2 sc1 sc2 tc1 tc2 f1 f2 X hS2 hT2 HTT.out h1 h2
 clear HII HW
 generalize Lg.logB L C S T = lo at HSP HIM
 go_upto_region 10 with fail
 have HSB : Hid (∀ V : World, Below w2.heap.size w2 V → V.cell? ⟨bb, 0, none⟩ = some (.slice so S.length sc) ∧ V.cell? ⟨bb, 1, none⟩ = some (.slice qo T.length tc)) := fun V hV => HBX.out V (B2.out.trans (hV.mono B2.out.size))
 have HK2 : Hid (∀ X : World, Below w2.heap.size w2 X → Calls Tryz.prog 8 #[.slice a0 L.length cap0] X fun e w' => ∃ q k0 k1, e = .returned (.slice (some ⟨q, 0, none⟩) L.length L.length) ∧ CpK k0 k1 w' q L ∧ Below w2.heap.size w2 w' ∧ Below X.heap.size X w') := fun X hX => (HCK.out X (B2.out.trans (hX.mono B2.out.size))).mono fun e w' z => by
   obtain ⟨q, e1, e2, _, e3⟩ := z
   exact ⟨q, _, _, e1, e2, hX.trans (e3.mono hX.size), e3⟩
 have HI2 : Hid (∀ X : World, Below w2.heap.size w2 X → Calls Tryz.prog 9 #[.slice a1 C.length cap1] X fun e w' => ∃ q k0 k1, e = .returned (.slice (some ⟨q, 0, none⟩) C.length C.length) ∧ CpI k0 k1 w' (some ⟨q, 0, none⟩) C ∧ Below w2.heap.size w2 w' ∧ Below X.heap.size X w') := fun X hX => (HCI.out X (B2.out.trans (hX.mono B2.out.size))).mono fun e w' z => by
   obtain ⟨q, e1, e2, _, e3⟩ := z
   exact ⟨q, _, _, e1, e2, hX.trans (e3.mono hX.size), e3⟩
 have HL2 : Hid (∀ X : World, Below w2.heap.size w2 X → Calls Tryz.prog 18 #[.agg #[.slice so S.length sc, .slice qo T.length tc]] X fun e w' => ∃ s p q k0 k1, e = .returned (.agg #[.slice (some ⟨s, 0, none⟩) S.length S.length, .slice (some ⟨p, 0, none⟩) T.length T.length]) ∧ CpL k0 k1 w' (some ⟨s, 0, none⟩) S.length S (some ⟨p, 0, none⟩) T.length T q ∧ Below w2.heap.size w2 w' ∧ Below X.heap.size X w') := fun X hX => (HCL.out X (B2.out.trans (hX.mono B2.out.size))).mono fun e w' z => by
   obtain ⟨s, p, q, e1, e2, _, e3⟩ := z
   exact ⟨s, p, q, _, _, e1, e2, hX.trans (e3.mono hX.size), e3⟩
 go_cut [8] from 26 to 32 (fun bv wx => bv = .bool lo ∧ Hid (Below w2.heap.size w2 wx))
 case first =>
   clear HIM HEQ HCK HCI HCL HBX HIV HE HLG
   go_region_held3 (fun V => V.cell? ⟨bb, 0, none⟩ = some (.slice so S.length sc) ∧ V.cell? ⟨bb, 1, none⟩ = some (.slice qo T.length tc)) (first
     | exact HSB.out _ BV | exact HSB.out _ BV.drew | exact HSB.out _ (Below.refl _ _) | exact HSB.out _ (Below.refl _ _).drew | go_keep) (first
     | (go_at_call 8
        refine (HK2.out _ (by first | exact BV | exact BV.drew | exact (Below.refl _ _).drew | exact Below.refl _ _)).mono ?_
        rintro e V ⟨gk, k0, k1, rfl, RK, BV, bv⟩
        (try have RI := RI.below bv)
        (try have RL := RL.below bv))
     | (go_at_call 9
        refine (HI2.out _ (by first | exact BV | exact BV.drew | exact (Below.refl _ _).drew | exact Below.refl _ _)).mono ?_
        rintro e V ⟨gi, i0, i1, rfl, RI, BV, bv⟩
        (try have RK := RK.below bv)
        (try have RL := RL.below bv))
     | (go_at_call 18
        refine (HL2.out _ (by first | exact BV | exact BV.drew | exact (Below.refl _ _).drew | exact Below.refl _ _)).mono ?_
        rintro e V ⟨gs, gp, gq, l0, l1, rfl, RL, BV, bv⟩
        (try have RK := RK.below bv)
        (try have RI := RI.below bv))
     | (go_at_call 17
        refine (HSP.out _ _ _ _ _ _ _ _ _ _ _ _ RK RI RL).mono ?_
        rintro e V ⟨rfl, bv⟩
        have BV := BV.trans (bv.mono BV.size)))
   all_goals go_wp2_with fail
   all_goals go_meet
   all_goals exact ⟨rfl, by first | exact BV | exact BV.drew⟩
 case rest =>
   obtain ⟨rfl, B3'⟩ := hcut
   have B3 : Hid (Below W0.heap.size W0 wc) := B2.out.trans (B3'.out.mono B2.out.size)
   clear HSP HSB HK2 HI2 HL2 B2 B3'
   go_wp2_with fail
   refine (HCK.out _ B3.out).mono ?_
   rintro e w4 ⟨gk, rfl, hc, hb2, hb⟩
   have HK4 : Hid (CpK wc.heap.size w4.heap.size w4 gk L) := hc
   have B4 : Hid (Below W0.heap.size W0 w4) := hb2
   clear hc hb hb2 B3
   generalize wc.heap.size = k0 at HK4
   obtain ⟨k1, hk1⟩ : ∃ k1, k1 = w4.heap.size := ⟨_, rfl⟩
   rw [← hk1] at HK4
   clear hk1
   go_wp2_with fail
   refine (HCI.out _ B4.out).mono ?_
   rintro e w5 ⟨gi, rfl, hc, hb2, hb⟩
   have HI5 : Hid (CpI w4.heap.size w5.heap.size w5 (some ⟨gi, 0, none⟩) C) := hc
   have HK5 : Hid (CpK k0 k1 w5 gk L) := HK4.out.below hb
   have B5 : Hid (Below W0.heap.size W0 w5) := hb2
   clear hc hb hb2 B4 HK4
   generalize w4.heap.size = i0 at HI5
   obtain ⟨i1, hi1⟩ : ∃ i1, i1 = w5.heap.size := ⟨_, rfl⟩
   rw [← hi1] at HI5
   clear hi1
   obtain ⟨c0, c1⟩ := HBX.out _ B5.out
   go_wp2_with fail
   refine (HCL.out _ B5.out).mono ?_
   rintro e w6 ⟨s2, p2, q2, rfl, hc, hb2, hb⟩
   have BXX : Below w6.heap.size w6 (w6.alloc (.cells #[.slice (some ⟨s2, 0, none⟩) S.length S.length, .slice (some ⟨p2, 0, none⟩) T.length T.length] 39)) := (Below.refl _ _).alloc (Nat.le_refl _) _
   have HX : Hid (CpL w5.heap.size w6.heap.size (w6.alloc (.cells #[.slice (some ⟨s2, 0, none⟩) S.length S.length, .slice (some ⟨p2, 0, none⟩) T.length T.length] 39)) (some ⟨s2, 0, none⟩) S.length S (some ⟨p2, 0, none⟩) T.length T q2 ∧ CpK k0 k1 (w6.alloc (.cells #[.slice (some ⟨s2, 0, none⟩) S.length S.length, .slice (some ⟨p2, 0, none⟩) T.length T.length] 39)) gk L ∧ CpI i0 i1 (w6.alloc (.cells #[.slice (some ⟨s2, 0, none⟩) S.length S.length, .slice (some ⟨p2, 0, none⟩) T.length T.length] 39)) (some ⟨gi, 0, none⟩) C ∧ Below W0.heap.size W0 (w6.alloc (.cells #[.slice (some ⟨s2, 0, none⟩) S.length S.length, .slice (some ⟨p2, 0, none⟩) T.length T.length] 39)) ∧ (w6.alloc (.cells #[.slice (some ⟨s2, 0, none⟩) S.length S.length, .slice (some ⟨p2, 0, none⟩) T.length T.length] 39)).cell? ⟨w6.heap.size, 0, none⟩ = some (.slice (some ⟨s2, 0, none⟩) S.length S.length) ∧ (w6.alloc (.cells #[.slice (some ⟨s2, 0, none⟩) S.length S.length, .slice (some ⟨p2, 0, none⟩) T.length T.length] 39)).cell? ⟨w6.heap.size, 1, none⟩ = some (.slice (some ⟨p2, 0, none⟩) T.length T.length) ∧ w6.heap.size < (w6.alloc (.cells #[.slice (some ⟨s2, 0, none⟩) S.length S.length, .slice (some ⟨p2, 0, none⟩) T.length T.length] 39)).heap.size) :=
     ⟨hc.below BXX, (HK5.out.below hb).below BXX, (HI5.out.below hb).below BXX, hb2.trans (BXX.mono hb2.size), by simp, by simp, by simp⟩
   clear hc hb hb2 BXX c0 c1 HK5 HI5 B5
   go_upto_region 14 with fail
   generalize w6.alloc (.cells #[.slice (some ⟨s2, 0, none⟩) S.length S.length, .slice (some ⟨p2, 0, none⟩) T.length T.length] 39) = W6 at HX ⊢
   generalize w6.heap.size = hx at HX ⊢
   generalize w5.heap.size = l0 at HX
   have HXB : Hid (∀ X : World, Below W6.heap.size W6 X → X.cell? ⟨hx, 0, none⟩ = some (.slice (some ⟨s2, 0, none⟩) S.length S.length) ∧ X.cell? ⟨hx, 1, none⟩ = some (.slice (some ⟨p2, 0, none⟩) T.length T.length)) := fun X hX => ⟨(hX.cell (p := ⟨hx, 0, none⟩) HX.out.2.2.2.2.2.2).trans HX.out.2.2.2.2.1, (hX.cell (p := ⟨hx, 1, none⟩) HX.out.2.2.2.2.2.2).trans HX.out.2.2.2.2.2.1⟩
   have BW : Hid (∀ X : World, Below W6.heap.size W6 X → Below W0.heap.size W0 X) := fun X hX => HX.out.2.2.2.1.trans (hX.mono HX.out.2.2.2.1.size)
   obtain ⟨d0, d1⟩ := HXB.out W6 (Below.refl _ _)
   go_wp2_with fail
   refine (HIM.out _ _ _ _ _ _ _ _ _ _ _ _ HX.out.2.1 HX.out.2.2.1 HX.out.1).mono ?_
   rintro e w7 ⟨rfl, hb⟩
   have B7 : Hid (Below W6.heap.size W6 w7) := hb
   clear hb d0 d1 HIM
   go_wp2_with fail
   refine (HCK.out _ (BW.out _ B7.out)).mono ?_
   rintro e w8 ⟨gk2, rfl, hc, _, hb⟩
   have B8 : Hid (Below W6.heap.size W6 w8) := B7.out.trans (hb.mono B7.out.size)
   have HK8 : Hid (RdK w8 (some ⟨gk2, 0, none⟩) L) := Lc.made_rd hc.m
   clear hc hb B7
   go_wp2_with fail
   refine (Lc.eqKnotS _ _ _ _ _ _ L _ hL2 (Lc.made_rd (HX.out.2.1.below B8.out).m) HK8.out).mono ?_
   rintro e w9 ⟨rfl, hb⟩
   have B9 : Hid (Below W6.heap.size W6 w9) := B8.out.trans (hb.mono B8.out.size)
   clear hb B8 HK8
   go_wp2_with fail
   refine (HCI.out _ (BW.out _ B9.out)).mono ?_
   rintro e w10 ⟨gi2, rfl, hc, _, hb⟩
   have B10 : Hid (Below W6.heap.size W6 w10) := B9.out.trans (hb.mono B9.out.size)
   have HI10 : Hid (Lst.Rd w10 (some ⟨gi2, 0, none⟩) C) := hc.rd
   clear hc hb B9
   go_wp2_with fail
   refine (Nu.alikeB C _ _ _ _ _ hC2 (HX.out.2.2.1.below B10.out).rd HI10.out).mono ?_
   rintro e w11 ⟨rfl, hb⟩
   have B11 : Hid (Below W6.heap.size W6 w11) := B10.out.trans (hb.mono B10.out.size)
   clear hb B10 HI10
   have HSB : Hid (∀ V : World, Below w11.heap.size w11 V → V.cell? ⟨bb, 0, none⟩ = some (.slice so S.length sc) ∧ V.cell? ⟨bb, 1, none⟩ = some (.slice qo T.length tc) ∧ V.cell? ⟨hx, 0, none⟩ = some (.slice (some ⟨s2, 0, none⟩) S.length S.length) ∧ V.cell? ⟨hx, 1, none⟩ = some (.slice (some ⟨p2, 0, none⟩) T.length T.length)) := fun V hV => by
     have k := B11.out.trans (hV.mono B11.out.size)
     have k1 := HBX.out V (BW.out V k)
     have k2 := HXB.out V k
     exact ⟨k1.1, k1.2, k2.1, k2.2⟩
   have HCR : Hid (∀ X : World, Below w11.heap.size w11 X → Calls Tryz.prog 18 #[.agg #[.slice so S.length sc, .slice qo T.length tc]] X fun e w' => ∃ s p q, e = .returned (.agg #[.slice (some ⟨s, 0, none⟩) S.length S.length, .slice (some ⟨p, 0, none⟩) T.length T.length]) ∧ RdL w' (some ⟨s, 0, none⟩) (some ⟨p, 0, none⟩) S T q ∧ Below w11.heap.size w11 w') := fun X hX => (HCL.out X (BW.out _ (B11.out.trans (hX.mono B11.out.size)))).mono fun e w' z => by
     obtain ⟨s, p, q, e1, e2, _, e3⟩ := z
     exact ⟨s, p, q, e1, e2.rd, hX.trans (e3.mono hX.size)⟩
   have HQR : Hid (∀ (X : World) (s p : Nat) (q : At), Below w11.heap.size w11 X → RdL X (some ⟨s, 0, none⟩) (some ⟨p, 0, none⟩) S T q → Calls Tryz.prog 20 #[.agg #[.slice (some ⟨s2, 0, none⟩) S.length S.length, .slice (some ⟨p2, 0, none⟩) T.length T.length], .agg #[.slice (some ⟨s, 0, none⟩) S.length S.length, .slice (some ⟨p, 0, none⟩) T.length T.length]] X fun e w' => e = .returned (.bool true) ∧ Below w11.heap.size w11 w') := fun X s p q hX h => (HEQ.out X _ _ _ _ _ _ _ _ _ _ (HX.out.1.below (B11.out.trans (hX.mono B11.out.size))).rd h).mono fun e w' z => ⟨z.1, hX.trans (z.2.mono hX.size)⟩
   have HEE : Hid (∀ X : World, Below w11.heap.size w11 X → Below w.heap.size w X) := fun X hX => HE.out _ (BW.out _ (B11.out.trans (hX.mono B11.out.size)))
   clear HEQ HLG HCK HCI HCL HXB HBX HIV HE B11 BW HX
   go_upto_region 21 with fail
   go_cut [60] from 56 to 59 (fun bv wx => bv = .bool false ∧ Hid (Below w11.heap.size w11 wx))
   case first =>
     go_region_held3 (fun V => V.cell? ⟨bb, 0, none⟩ = some (.slice so S.length sc) ∧ V.cell? ⟨bb, 1, none⟩ = some (.slice qo T.length tc) ∧ V.cell? ⟨hx, 0, none⟩ = some (.slice (some ⟨s2, 0, none⟩) S.length S.length) ∧ V.cell? ⟨hx, 1, none⟩ = some (.slice (some ⟨p2, 0, none⟩) T.length T.length)) (first
       | exact HSB.out _ BZ | exact HSB.out _ BZ.drew | exact HSB.out _ (Below.refl _ _) | exact HSB.out _ (Below.refl _ _).drew | go_keep) (first
       | (go_at_call 18
          refine (HCR.out _ (by first | exact (Below.refl _ _).drew | exact Below.refl _ _)).mono ?_
          rintro e X ⟨s3, p3, q3, rfl, R3, BZ⟩)
       | (go_at_call 20
          refine (HQR.out _ s3 p3 q3 (by first | exact BZ | exact BZ.drew) (by first | exact R3 | exact R3.below (Below.refl _ _).drew)).mono ?_
          rintro e X ⟨rfl, BZ⟩))
     all_goals go_wp2_with fail
     all_goals go_meet
     all_goals exact ⟨rfl, by first | exact BZ | exact BZ.drew⟩
   case rest =>
     obtain ⟨rfl, BY⟩ := hcut
     have HF : Hid (_) := HEE.out _ BY.out
     clear HEE BY HSB HCR HQR
     go_wp2
     go_ret
     exact ⟨rfl, HF.out⟩
theorem lifted (os : Os) (started : os.Started) (H : Type) (enc : TypeId × Value → H) :
   ReturnsInHanded {} Tryz.checked os 4 .any (Rows.fnExactLogOkSpec.pre6 enc Tryz.prog Tryz.f4 Rows.fnExactLogOkRow.domain false) (Rows.fnExactLogOkSpec.post enc Tryz.prog Tryz.f4 false true false false) := by
 refine returnsInHanded_of_change (C := Tryz.checked) own started (by kernel_rfl) Tryz.func4
   (ChangeSpec.witness6 (enc := enc) (C := Tryz.checked) false ⟨#[], #[.slice none 0 0, .slice none 0 0, .agg #[.slice none 0 0, .slice none 0 0]], []⟩ 8 (by kernel_rfl) (by kernel_rfl) (by kernel_rfl) (by kernel_rfl)) ?_
 intro W base args ds gs before hval0 hW hcnd _
 have hval : ∀ (j : Nat) t v, Tryz.f4.params[j]? = some t → args[j]? = some v → Value.okWide Tryz.prog W .any base t v := hval0
 have hW' := hW
 obtain ⟨p, q, hA0, hV, rfl, hfz, hnd⟩ := hW
 have hA : DataW.TrodAll enc Tryz.prog W 0 (fun _ => true) true Tryz.f4.params.toList args.toList ds p := hA0
 rw [Tryz.params4] at hA hval
 obtain ⟨v0, vs0, d0, ds0, p0, q0, hargs, rfl, rfl, h0, r0⟩ := trodAll_cons hA
 obtain ⟨v1, vs1, d1, ds1, p1, q1, rfl, rfl, rfl, h1, r1⟩ := trodAll_cons r0
 obtain ⟨v2, vs2, d2, ds2, p2, q2, rfl, rfl, rfl, h2, r2⟩ := trodAll_cons r1
 obtain ⟨rfl, rfl, rfl⟩ := trodAll_nil r2
 obtain rfl : args = #[v0, v1, v2] := by cases args; simp_all
 obtain ⟨rfl, rfl⟩ := trodVars_none hV
 have k0 := h0
 have lt0 : ∀ x ∈ p0, x.block < W.heap.size := by obtain ⟨m, hm⟩ := k0; exact DataW.trod_lt m _ _ _ hm
 obtain ⟨a0, len0, cap0, rfl⟩ := okWide_slice Tryz.underlying22 (hval 0 22 v0 rfl rfl)
 obtain ⟨fuel0, hf0⟩ := h0
 obtain ⟨L, rfl, hrd0, hws, hl⟩ := Lc.openK (a0 := a0) (len0 := len0) (cap0 := cap0) hf0
 have k1 := h1
 have lt1 : ∀ x ∈ p1, x.block < W.heap.size := by obtain ⟨m, hm⟩ := k1; exact DataW.trod_lt m _ _ _ hm
 obtain ⟨a1, len1, cap1, rfl⟩ := okWide_slice Tryz.underlying23 (hval 1 23 v1 rfl rfl)
 obtain ⟨fuel1, hf1⟩ := h1
 obtain ⟨C, rfl, hrd1, hzC, hmC⟩ := Nu.openI (a0 := a1) (len0 := len1) (cap0 := cap1) hf1
 have k2 := h2
 have lt2 : ∀ x ∈ p2, x.block < W.heap.size := by obtain ⟨m, hm⟩ := k2; exact DataW.trod_lt m _ _ _ hm
 obtain ⟨x2, y2, u2, z2, m2, rfl, _, _, hu2, hz2⟩ := open_agg2 Tryz.underlying36 (by kernel_rfl) Lg.cellsLog (hval 2 36 v2 rfl rfl) h2
 obtain ⟨so, qo, S, T, sc, tc, f, rfl, rfl, hin, hS, hT, hTT, hsb⟩ := Lg.openLog hu2 hz2
 clear hA0 hval0
 simp only [List.append_nil] at hW'
 refine (walk (fun L C S T hlL hwL hlC g c so sc qo tc f W h1 h2 h3 h4 h5 => Lo.implLogOk g 0 L.length L (some ⟨c, 0, none⟩) C.length C so qo sc tc S T f W (by omega) hwL h1 hlC h3 (fun x e => by injection e with e; injection e with e; subst e; exact h4) h5.rd h5.s20 h5.t20 (fun i hi => h5.sb (S.getD i 0) (by simp [List.getD, List.getElem?_eq_getElem hi]))) a0 cap0 L a1 cap1 C so sc S qo tc T f W hl hws hrd0 hmC hrd1 hS hT hTT hsb hin).mono fun e W' ⟨he, bel⟩ => ?_
 subst he
 exact ⟨_, rfl, _, _, _, [], _, [], hW', trodAll_mk1 (shut_bool Tryz.underlying4 _), (trodAll_cons_mk (Below.trod laidOut (by kernel_rfl) (of_decide_eq_true (by kernel_rfl)) k0 bel lt0) (trodAll_cons_mk (Below.trod laidOut (by kernel_rfl) (of_decide_eq_true (by kernel_rfl)) k1 bel lt1) (trodAll_cons_mk (Below.trod laidOut (by kernel_rfl) (of_decide_eq_true (by kernel_rfl)) k2 bel lt2) trodAll_mk0))), rfl, bel.frame _, fun h => by cases h⟩
theorem over : Rows.fnExactLogOkRow.holds Tryz.pinned (OpenSpec.ofChange Rows.fnExactLogOkSpec) :=
 OpenClaim.holds_of_wide 4 Tryz.f4 rfl rfl rfl rfl rfl rfl rfl ⟨rfl, rfl, rfl, rfl, rfl⟩ rfl rfl rfl rfl rfl (by kernel_rfl) Tryz.func4 (by kernel_rfl)
   (of_decide_eq_true (by kernel_rfl)) (by unfold Func.isWrapper; first | (rw [if_pos (by decide +kernel)]; kernel_rfl) | (rw [if_neg (by decide +kernel)]; exact ⟨rfl, rfl⟩))
   (fun os started H enc _ => lifted os started H enc)
theorem proved : Rows.FnExactLogOkSaid :=
 over
end Go.Proofs.YtjnhniffgeepjaaGreat.fnExactLogOk
