/-
 FnExactLastTold answers true at every argument, for LastTold answers as its model does, writes into no argument, and its answer owns its memory; no condition.
-/
import Derived.Test.Ytjnhniffgeepjaalzg2
set_option linter.unusedVariables false
namespace Go.Proofs.Ytjnhniffgeepjaa.fnExactLastTold
open Go.ChangeShapes Go.WideShapes Go.ChangeAt Go.RowKit Go.Joins
open Rm (Fr)
open Lg (At RdL InL)
open Gx (CpI CpL Rg)
set_option linter.unusedVariables false
set_option maxRecDepth 100000
theorem own : ownKnob Try.prog.godebug = none := by kernel_rfl
theorem laidOut : laidOutB Try.prog = true := by kernel_rfl
structure LGen (W : World) (so : Option Addr) (sc : Nat) (S : List Int) (qo : Option Addr) (tc : Nat) (T : List (List Int)) (f : At) : Prop where
 rd : RdL W so qo S T f
 sn : so = none → sc = 0
 tn : ∀ i, i < T.length → (f i).1 = none → (f i).2 = 0
 fit : S.length ≤ sc
 s20 : S.length ≤ 1048576
 t20 : T.length ≤ 1048576
 row : ∀ i, i < T.length → (T.getD i []).length ≤ 1048576
 sb : ∀ x ∈ S, -9223372036854775808 ≤ x ∧ x ≤ 9223372036854775807
def ImplT : Prop := ∀ (so : Option Addr) (sc : Nat) (S : List Int) (qo : Option Addr) (tc : Nat) (T : List (List Int)) (f : At) (W : World), LGen W so sc S qo tc T f → Calls Try.prog 7 #[.agg #[.slice so S.length sc, .slice qo T.length tc]] W (Sg.NumsPost (Lg.lastB T) W)
set_option maxHeartbeats 6400000 in
theorem walk (HI : ImplT) (so : Option Addr) (sc : Nat) (S : List Int) (qo : Option Addr) (tc : Nat) (T : List (List Int)) (f : At) (w : World) (hS : S.length ≤ maxLen) (hT : T.length ≤ maxLen) (hTT : ∀ i, i < T.length → (T.getD i []).length ≤ maxLen) (hsb : ∀ x ∈ S, -9223372036854775808 ≤ x ∧ x ≤ 9223372036854775807) (hin : InL w so qo S T f) :
   Calls Try.prog 3 #[.agg #[.slice so S.length sc, .slice qo T.length tc]] w fun e w' => e = .returned (.bool true) ∧ Below w.heap.size w w' := by
 have HII : Hid ImplT := HI
 have HBSX : Hid (∀ x ∈ S, -9223372036854775808 ≤ x ∧ x ≤ 9223372036854775807) := hsb
 clear hsb
 have P0 : Hid (_) := Lg.box1 w (.slice so S.length sc) (.slice qo T.length tc) 25
 have HIN : Hid (InL w so qo S T f) := hin
 clear HI hin
 go_enter Try.func3, Try.ntmps3
 go_upto_region 1 with fail
 generalize w.alloc (.cells #[.slice so S.length sc, .slice qo T.length tc] 25) = W0 at P0 ⊢
 have HB0 : Hid (Below w.heap.size w W0) := P0.out.1
 have HBX : Hid (∀ V : World, Below W0.heap.size W0 V → V.cell? ⟨w.heap.size, 0, none⟩ = some (.slice so S.length sc) ∧ V.cell? ⟨w.heap.size, 1, none⟩ = some (.slice qo T.length tc)) := fun V hV => ⟨(hV.cell (p := ⟨w.heap.size, 0, none⟩) P0.out.2.2.2).trans P0.out.2.1, (hV.cell (p := ⟨w.heap.size, 1, none⟩) P0.out.2.2.2).trans P0.out.2.2.1⟩
 have HIV : Hid (∀ V : World, Below W0.heap.size W0 V → InL V so qo S T f) := fun V hV => (HIN.out.below HB0.out).below hV
 have HE : Hid (∀ V : World, Below W0.heap.size W0 V → Below w.heap.size w V) := fun V hV => HB0.out.trans (hV.mono HB0.out.size)
 have hbs : w.heap.size < W0.heap.size := P0.out.2.2.2
 clear P0 HIN HB0
 generalize w.heap.size = bb at HBX hbs ⊢
 obtain ⟨c0, c1⟩ := HBX.out W0 (Below.refl _ _)
 go_wp2_with fail
 refine (Lg.szLog so qo sc tc S T f 1048576 _ hS hT hTT (by omega) (by omega) (HIV.out _ (Below.refl _ _))).mono ?_
 rintro e w1 ⟨⟨r, rfl, hr1, hr0, hsz⟩, hb1⟩
 have HSM : Hid (0 ≤ r → _) := hsz
 have B1 : Hid (Below W0.heap.size W0 w1) := hb1
 clear hsz hb1 c0 c1
 by_cases hneg : r < 0
 · go_wp2
   go_ret
   exact ⟨rfl, HE.out _ B1.out⟩
 obtain ⟨hS2, hT2, hTT2⟩ := HSM.out (by omega)
 clear HSM hS hT hTT
 have HTT : Hid (∀ i, i < T.length → (T.getD i []).length ≤ 1048576) := hTT2
 have HCP : Hid (∀ X : World, Below W0.heap.size W0 X → Calls Try.prog 6 #[.agg #[.slice so S.length sc, .slice qo T.length tc]] X fun e w' => ∃ s p q, e = .returned (.agg #[.slice (some ⟨s, 0, none⟩) S.length S.length, .slice (some ⟨p, 0, none⟩) T.length T.length]) ∧ CpL X.heap.size w'.heap.size w' (some ⟨s, 0, none⟩) S.length S (some ⟨p, 0, none⟩) T.length T q ∧ Below X.heap.size X w' ∧ Below W0.heap.size W0 w') := fun X hX => (Lg.toLog so qo sc tc S T f X hS2 hT2 HTT.out (HIV.out X hX)).mono fun e w' z => by
   obtain ⟨s, p, q, e1, e2, e3⟩ := z
   exact ⟨s, p, _, e1, Gx.cpL_to e2, e3, hX.trans (e3.mono hX.size)⟩
 have HSP : Hid (∀ (X : World) (so : Option Addr) (sc : Nat) (qo : Option Addr) (tc : Nat) (f : At), LGen X so sc S qo tc T f → Calls Try.prog 5 #[.agg #[.slice so S.length sc, .slice qo T.length tc]] X (Sg.NumsPost (Lg.lastB T) X)) := fun X so sc qo tc f h => Lg.specLastTold so qo sc tc S T f X h.rd h.tn h.t20 h.row
 have HIM : Hid (∀ (X : World) (so : Option Addr) (sc : Nat) (qo : Option Addr) (tc : Nat) (f : At), LGen X so sc S qo tc T f → Calls Try.prog 7 #[.agg #[.slice so S.length sc, .slice qo T.length tc]] X (Sg.NumsPost (Lg.lastB T) X)) := fun X so sc qo tc f h => HII.out so sc S qo tc T f X h
 have HLG : Hid (∀ (lo hi : Nat) (X : World) (so : Option Addr) (sc : Nat) (qo : Option Addr) (tc : Nat) (f : At), CpL lo hi X so sc S qo tc T f → LGen X so sc S qo tc T f) := fun lo hi X so sc qo tc f h => ⟨h.rd, h.sn, h.tn, h.fit, hS2, hT2, HTT.out, HBSX.out⟩
 have HEQ : Hid (∀ (X : World) (so1 so2 : Option Addr) (sc1 sc2 : Nat) (qo1 qo2 : Option Addr) (tc1 tc2 : Nat) (f1 f2 : At), RdL X so1 qo1 S T f1 → RdL X so2 qo2 S T f2 → Calls Try.prog 9 #[.agg #[.slice so1 S.length sc1, .slice qo1 T.length tc1], .agg #[.slice so2 S.length sc2, .slice qo2 T.length tc2]] X fun e w' => e = .returned (.bool true) ∧ Below X.heap.size X w') := fun X so1 so2 sc1 sc2 qo1 qo2 tc1 tc2 f1 f2 h1 h2 => Lg.eqLog S T so1 so2 qo1 qo2 sc1 sc2 tc1 tc2 f1 f2 X hS2 hT2 HTT.out h1 h2
 have hlen : (Lg.lastB T).length ≤ 1048576 := by
   unfold Lg.lastB
   by_cases e : T.length = 0
   · rw [List.length_eq_zero_iff.1 e]; simp
   · exact HTT.out _ (by omega)
 have HA : Hid (((Lg.ahead T T.length : Nat) : Int) ≤ 1099511627776) := by
   have := Lg.ahead_le T 1048576 HTT.out T.length (Nat.le_refl _)
   have h2 := Nat.mul_le_mul_right 1048576 hT2
   show _ ≤ _
   omega
 clear HII
 generalize Lg.lastB T = l at HSP HIM hlen
 obtain ⟨c0, c1⟩ := HBX.out w1 B1.out
 go_wp2_with fail
 refine (HCP.out w1 B1.out).mono ?_
 rintro e w2 ⟨s1, p1, q1, rfl, hc, hb, hb2⟩
 have B2 : Hid (Below W0.heap.size W0 w2) := hb2
 have HL2 : Hid (LGen w2 (some ⟨s1, 0, none⟩) S.length S (some ⟨p1, 0, none⟩) T.length T q1) := HLG.out _ _ _ _ _ _ _ _ hc
 clear hc hb hb2 c0 c1 B1
 go_wp2_with fail
 refine (HSP.out _ _ _ _ _ _ HL2.out).mono ?_
 rintro e V ⟨ao, ac, rfl, hown, hb⟩
 have B3 : Hid (Below W0.heap.size W0 V) := B2.out.trans (hb.mono B2.out.size)
 have HO : Hid (∀ X : World, Below V.heap.size V X → Lst.Rd X ao l) := fun X hX => Lst.own_rd (Lst.own_below hown hX)
 clear hown hb HL2 B2 HSP
 obtain ⟨c0, c1⟩ := HBX.out V B3.out
 go_wp2_with fail
 refine (HCP.out V B3.out).mono ?_
 rintro e w4 ⟨s2, p2, q2, rfl, hc, hb, hb2⟩
 obtain ⟨hx, hhx⟩ : ∃ hx, hx = w4.heap.size := ⟨_, rfl⟩
 rw [← hhx] at hc
 have hvx : V.heap.size ≤ hx := by have := hb.size; omega
 have BX : Below w4.heap.size w4 (w4.alloc (.cells #[.slice (some ⟨s2, 0, none⟩) S.length S.length, .slice (some ⟨p2, 0, none⟩) T.length T.length] 28)) := (Below.refl _ _).alloc (Nat.le_refl _) _
 have HX : Hid (CpL V.heap.size hx (w4.alloc (.cells #[.slice (some ⟨s2, 0, none⟩) S.length S.length, .slice (some ⟨p2, 0, none⟩) T.length T.length] 28)) (some ⟨s2, 0, none⟩) S.length S (some ⟨p2, 0, none⟩) T.length T q2 ∧ Below V.heap.size V (w4.alloc (.cells #[.slice (some ⟨s2, 0, none⟩) S.length S.length, .slice (some ⟨p2, 0, none⟩) T.length T.length] 28)) ∧ (w4.alloc (.cells #[.slice (some ⟨s2, 0, none⟩) S.length S.length, .slice (some ⟨p2, 0, none⟩) T.length T.length] 28)).cell? ⟨w4.heap.size, 0, none⟩ = some (.slice (some ⟨s2, 0, none⟩) S.length S.length) ∧ (w4.alloc (.cells #[.slice (some ⟨s2, 0, none⟩) S.length S.length, .slice (some ⟨p2, 0, none⟩) T.length T.length] 28)).cell? ⟨w4.heap.size, 1, none⟩ = some (.slice (some ⟨p2, 0, none⟩) T.length T.length) ∧ w4.heap.size < (w4.alloc (.cells #[.slice (some ⟨s2, 0, none⟩) S.length S.length, .slice (some ⟨p2, 0, none⟩) T.length T.length] 28)).heap.size) :=
   ⟨hc.below BX, hb.trans (BX.mono hb.size), by simp, by simp, by simp⟩
 clear hc hb hb2 BX c0 c1
 go_upto_region 7 with fail
 generalize w4.alloc (.cells #[.slice (some ⟨s2, 0, none⟩) S.length S.length, .slice (some ⟨p2, 0, none⟩) T.length T.length] 28) = W4 at HX ⊢
 generalize w4.heap.size = xb at HX hhx ⊢
 subst hhx
 have HXB : Hid (∀ X : World, Below W4.heap.size W4 X → X.cell? ⟨hx, 0, none⟩ = some (.slice (some ⟨s2, 0, none⟩) S.length S.length) ∧ X.cell? ⟨hx, 1, none⟩ = some (.slice (some ⟨p2, 0, none⟩) T.length T.length)) := fun X hX => ⟨(hX.cell (p := ⟨hx, 0, none⟩) HX.out.2.2.2.2).trans HX.out.2.2.1, (hX.cell (p := ⟨hx, 1, none⟩) HX.out.2.2.2.2).trans HX.out.2.2.2.1⟩
 obtain ⟨d0, d1⟩ := HXB.out W4 (Below.refl _ _)
 go_wp2_with fail
 refine (HIM.out _ _ _ _ _ _ (HLG.out _ _ _ _ _ _ _ _ HX.out.1)).mono ?_
 rintro e w5 ⟨go, gc, rfl, hown, hb⟩
 have HG : Hid (CpI W4.heap.size w5.heap.size w5 go l) := Gx.cpI_own hown
 have B5 : Hid (Below W4.heap.size W4 w5) := hb
 have hx4 : hx < W4.heap.size := HX.out.2.2.2.2
 clear hown hb d0 d1
 go_wp2_with fail
 refine (Nu.alikeB l go ao gc ac _ hlen HG.out.rd (HO.out _ (HX.out.2.1.trans (B5.out.mono HX.out.2.1.size)))).mono ?_
 rintro e w6 ⟨rfl, hb⟩
 have B6 : Hid (Below W4.heap.size W4 w6) := B5.out.trans (hb.mono B5.out.size)
 have HG6 : Hid (CpI W4.heap.size w5.heap.size w6 go l) := HG.out.below hb
 clear hb HG B5
 generalize w5.heap.size = gh at HG6
 have BV : Hid (∀ X : World, Below W4.heap.size W4 X → Below V.heap.size V X) := fun X hX => HX.out.2.1.trans (hX.mono HX.out.2.1.size)
 have BW : Hid (∀ X : World, Below V.heap.size V X → Below W0.heap.size W0 X) := fun X hX => B3.out.trans (hX.mono B3.out.size)
 have HSB : Hid (∀ V : World, Below w6.heap.size w6 V → V.cell? ⟨bb, 0, none⟩ = some (.slice so S.length sc) ∧ V.cell? ⟨bb, 1, none⟩ = some (.slice qo T.length tc) ∧ V.cell? ⟨hx, 0, none⟩ = some (.slice (some ⟨s2, 0, none⟩) S.length S.length) ∧ V.cell? ⟨hx, 1, none⟩ = some (.slice (some ⟨p2, 0, none⟩) T.length T.length)) := fun V hV => by
   have k := B6.out.trans (hV.mono B6.out.size)
   have k1 := HBX.out V (BW.out V (BV.out V k))
   have k2 := HXB.out V k
   exact ⟨k1.1, k1.2, k2.1, k2.2⟩
 have HCR : Hid (∀ X : World, Below w6.heap.size w6 X → Calls Try.prog 6 #[.agg #[.slice so S.length sc, .slice qo T.length tc]] X fun e w' => ∃ s p q, e = .returned (.agg #[.slice (some ⟨s, 0, none⟩) S.length S.length, .slice (some ⟨p, 0, none⟩) T.length T.length]) ∧ RdL w' (some ⟨s, 0, none⟩) (some ⟨p, 0, none⟩) S T q ∧ Below w6.heap.size w6 w') := fun X hX => (HCP.out X (BW.out _ (BV.out _ (B6.out.trans (hX.mono B6.out.size))))).mono fun e w' z => by
   obtain ⟨s, p, q, e1, e2, e3, _⟩ := z
   exact ⟨s, p, q, e1, e2.rd, hX.trans (e3.mono hX.size)⟩
 have HQR : Hid (∀ (X : World) (s p : Nat) (q : At), Below w6.heap.size w6 X → RdL X (some ⟨s, 0, none⟩) (some ⟨p, 0, none⟩) S T q → Calls Try.prog 9 #[.agg #[.slice (some ⟨s2, 0, none⟩) S.length S.length, .slice (some ⟨p2, 0, none⟩) T.length T.length], .agg #[.slice (some ⟨s, 0, none⟩) S.length S.length, .slice (some ⟨p, 0, none⟩) T.length T.length]] X fun e w' => e = .returned (.bool true) ∧ Below w6.heap.size w6 w') := fun X s p q hX h => (HEQ.out X _ _ _ _ _ _ _ _ _ _ (HX.out.1.below (B6.out.trans (hX.mono B6.out.size))).rd h).mono fun e w' z => ⟨z.1, hX.trans (z.2.mono hX.size)⟩
 go_upto_region 10 with fail
 go_cut [31] from 27 to 30 (fun bv wx => bv = .bool false ∧ Hid (Below w6.heap.size w6 wx))
 case first =>
   clear HEQ HIM HLG HO HCP HXB HBX HIV HE
   go_region_held3 (fun V => V.cell? ⟨bb, 0, none⟩ = some (.slice so S.length sc) ∧ V.cell? ⟨bb, 1, none⟩ = some (.slice qo T.length tc) ∧ V.cell? ⟨hx, 0, none⟩ = some (.slice (some ⟨s2, 0, none⟩) S.length S.length) ∧ V.cell? ⟨hx, 1, none⟩ = some (.slice (some ⟨p2, 0, none⟩) T.length T.length)) (first
     | exact HSB.out _ BZ | exact HSB.out _ BZ.drew | exact HSB.out _ (Below.refl _ _) | exact HSB.out _ (Below.refl _ _).drew | go_keep) (first
     | (go_at_call 6
        refine (HCR.out _ (by first | exact (Below.refl _ _).drew | exact Below.refl _ _)).mono ?_
        rintro e X ⟨s3, p3, q3, rfl, R3, BZ⟩)
     | (go_at_call 9
        refine (HQR.out _ s3 p3 q3 (by first | exact BZ | exact BZ.drew) (by first | exact R3 | exact R3.below (Below.refl _ _).drew)).mono ?_
        rintro e X ⟨rfl, BZ⟩))
   all_goals go_wp2_with fail
   all_goals go_meet
   all_goals exact ⟨rfl, by first | exact BZ | exact BZ.drew⟩
 case rest =>
   obtain ⟨rfl, B7⟩ := hcut
   clear HCR HQR HSB HEQ
   have B8 : Hid (Below W4.heap.size W4 wc) := B6.out.trans (B7.out.mono B6.out.size)
   have HG8 : Hid (CpI W4.heap.size gh wc go l) := HG6.out.below B7.out
   have HX8 : Hid (CpL V.heap.size hx wc (some ⟨s2, 0, none⟩) S.length S (some ⟨p2, 0, none⟩) T.length T q2) := HX.out.1.below B8.out
   have BV8 : Hid (Below V.heap.size V wc) := BV.out _ B8.out
   obtain ⟨d0, d1⟩ := HXB.out wc B8.out
   have hmk := Gx.markL _ _ S.length T.length S T _ 1 wc hS2 hT2 HTT.out (by omega) (by omega) HX8.out
   have hah : (0 : Int) ≤ ((Lg.ahead T T.length : Nat) : Int) := by omega
   have hah2 := HA.out
   clear HG6 B6 B7 HX8 HXB HX B8 HA
   generalize ((Lg.ahead T T.length : Nat) : Int) = ah at hmk hah hah2
   go_wp2_with fail
   refine hmk.mono ?_
   rintro e w9 ⟨rfl, _, hf⟩
   have BV9 : Hid (Below V.heap.size V w9) := BV8.out.trans (hf.toBelow BV8.out.size (fun x hx => hx.1))
   have HG9 : Hid (CpI W4.heap.size gh w9 go l) := HG8.out.fr hf (fun x hx => by unfold Rg at hx; omega)
   have hnn : ¬ 1 + (S.length : Int) + ah < 0 := by omega
   clear hf hmk d0 d1 HG8 BV8
   go_wp2_with fail
   refine (Nu.alikeB l go ao gc ac _ hlen HG9.out.rd (HO.out _ BV9.out)).mono ?_
   rintro e w10 ⟨rfl, hb⟩
   have BV10 : Hid (Below V.heap.size V w10) := BV9.out.trans (hb.mono BV9.out.size)
   have HG10 : Hid (CpI W4.heap.size gh w10 go l) := HG9.out.below hb
   clear hb BV9 HG9
   go_wp2_with fail
   refine (Gx.markI go gc l 1 _ hlen (by omega) (by omega) HG10.out).mono ?_
   rintro e w11 ⟨rfl, hm, hf⟩
   have BV11 : Hid (Below V.heap.size V w11) := BV10.out.trans (hf.toBelow BV10.out.size (fun x hx => by unfold Rg at hx; omega))
   have HM11 : Hid (Lg.Mk w11 go l.length (fun i => 1 + (i : Int))) := hm
   clear hm hf BV10 HG10
   have hnn2 : ¬ 1 + (l.length : Int) < 0 := by omega
   go_wp2_with fail
   refine (Lsx.held 1 l.length go gc _ (by omega) (by omega) hlen (Lg.mk_marks HM11.out)).mono ?_
   rintro e w12 ⟨rfl, rfl⟩
   obtain ⟨c0, c1⟩ := HBX.out _ (BW.out _ BV11.out)
   go_wp2_with fail
   refine (HCP.out _ (BW.out _ BV11.out)).mono ?_
   rintro e w13 ⟨s4, p4, q4, rfl, hc, hb, _⟩
   have HL13 : Hid (LGen w13 (some ⟨s4, 0, none⟩) S.length S (some ⟨p4, 0, none⟩) T.length T q4) := HLG.out _ _ _ _ _ _ _ _ hc
   have BV13 : Hid (Below V.heap.size V w13) := BV11.out.trans (hb.mono BV11.out.size)
   have HM13 : Hid (Lg.Mk w13 go l.length (fun i => 1 + (i : Int))) := HM11.out.below hb
   clear hc hb BV11 HM11 c0 c1
   go_wp2_with fail
   refine (HIM.out _ _ _ _ _ _ HL13.out).mono ?_
   rintro e w14 ⟨ho, hoc, rfl, hown, hb⟩
   have BV14 : Hid (Below V.heap.size V w14) := BV13.out.trans (hb.mono BV13.out.size)
   have HM14 : Hid (Lg.Mk w14 go l.length (fun i => 1 + (i : Int))) := HM13.out.below hb
   have HH : Hid (Lst.Rd w14 ho l) := Lst.own_rd hown
   clear hown hb BV13 HM13 HL13
   go_wp2_with fail
   refine (Nu.alikeB l ho ao hoc ac _ hlen HH.out (HO.out _ BV14.out)).mono ?_
   rintro e w15 ⟨rfl, hb⟩
   have BV15 : Hid (Below V.heap.size V w15) := BV14.out.trans (hb.mono BV14.out.size)
   have HM15 : Hid (Lg.Mk w15 go l.length (fun i => 1 + (i : Int))) := HM14.out.below hb
   clear hb BV14 HM14 HH
   go_wp2_with fail
   refine (Lsx.held 1 l.length go gc _ (by omega) (by omega) hlen (Lg.mk_marks HM15.out)).mono ?_
   rintro e w16 ⟨rfl, rfl⟩
   have HE16 : Hid (_) := HE.out _ (BW.out _ BV15.out)
   go_wp2
   go_ret
   exact ⟨rfl, HE16.out⟩
theorem lifted (os : Os) (started : os.Started) (H : Type) (enc : TypeId × Value → H) :
   ReturnsInHanded {} Try.checked os 3 .any (Rows.fnExactLastToldSpec.pre6 enc Try.prog Try.f3 Rows.fnExactLastToldRow.domain false) (Rows.fnExactLastToldSpec.post enc Try.prog Try.f3 false true false false) := by
 refine returnsInHanded_of_change (C := Try.checked) own started (by kernel_rfl) Try.func3
   (ChangeSpec.witness6 (enc := enc) (C := Try.checked) false ⟨#[], #[.agg #[.slice none 0 0, .slice none 0 0]], []⟩ 8 (by kernel_rfl) (by kernel_rfl) (by kernel_rfl) (by kernel_rfl)) ?_
 intro W base args ds gs before hval0 hW hcnd _
 have hval : ∀ (j : Nat) t v, Try.f3.params[j]? = some t → args[j]? = some v → Value.okWide Try.prog W .any base t v := hval0
 have hW' := hW
 obtain ⟨p, q, hA0, hV, rfl, hfz, hnd⟩ := hW
 have hA : DataW.TrodAll enc Try.prog W 0 (fun _ => true) true Try.f3.params.toList args.toList ds p := hA0
 rw [Try.params3] at hA hval
 obtain ⟨v0, vs0, d0, ds0, p0, q0, hargs, rfl, rfl, h0, r0⟩ := trodAll_cons hA
 obtain ⟨rfl, rfl, rfl⟩ := trodAll_nil r0
 obtain rfl : args = #[v0] := by cases args; simp_all
 obtain ⟨rfl, rfl⟩ := trodVars_none hV
 have k0 := h0
 have lt0 : ∀ x ∈ p0, x.block < W.heap.size := by obtain ⟨m, hm⟩ := k0; exact DataW.trod_lt m _ _ _ hm
 obtain ⟨x0, y0, u0, z0, m0, rfl, _, _, hu0, hz0⟩ := open_agg2 Try.underlying25 (by kernel_rfl) Lg.cellsLog (hval 0 25 v0 rfl rfl) h0
 obtain ⟨so, qo, S, T, sc, tc, f, rfl, rfl, hin, hS, hT, hTT, hsb⟩ := Lg.openLog hu0 hz0
 clear hA0 hval0
 simp only [List.append_nil] at hW'
 refine (walk (fun so sc S qo tc T f W h => Lo.implLastTold so qo sc tc S T f W h.rd h.tn h.t20 h.row) so sc S qo tc T f W hS hT hTT hsb hin).mono fun e W' ⟨he, bel⟩ => ?_
 subst he
 exact ⟨_, rfl, _, _, _, [], _, [], hW', trodAll_mk1 (shut_bool Try.underlying4 _), (trodAll_cons_mk (Below.trod laidOut (by kernel_rfl) (of_decide_eq_true (by kernel_rfl)) k0 bel lt0) trodAll_mk0), rfl, bel.frame _, fun h => by cases h⟩
theorem over : Rows.fnExactLastToldRow.holds Try.pinned (OpenSpec.ofChange Rows.fnExactLastToldSpec) :=
 OpenClaim.holds_of_wide 3 Try.f3 rfl rfl rfl rfl rfl rfl rfl ⟨rfl, rfl, rfl, rfl, rfl⟩ rfl rfl rfl rfl rfl (by kernel_rfl) Try.func3 (by kernel_rfl)
   (of_decide_eq_true (by kernel_rfl)) (by unfold Func.isWrapper; first | (rw [if_pos (by decide +kernel)]; kernel_rfl) | (rw [if_neg (by decide +kernel)]; exact ⟨rfl, rfl⟩))
   (fun os started H enc _ => lifted os started H enc)
theorem proved : Rows.FnExactLastToldSaid :=
 over
end Go.Proofs.Ytjnhniffgeepjaa.fnExactLastTold
