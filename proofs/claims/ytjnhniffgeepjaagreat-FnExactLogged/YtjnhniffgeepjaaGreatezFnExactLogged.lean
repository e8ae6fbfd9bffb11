/-
 FnExactLogged answers true at every argument, for Logged answers as its model does, writes into no argument, and its answer owns its memory; no condition.
-/
import Derived.Test.YtjnhniffgeepjaaGreatezGenB
import Derived.Test.YtjnhniffgeepjaaGreatezg26
import Derived.Test.YtjnhniffgeepjaaGreatezg25
set_option linter.unusedVariables false
namespace Go.Proofs.YtjnhniffgeepjaaGreat.fnExactLogged
open Go.ChangeShapes Go.WideShapes Go.ChangeAt Go.RowKit Go.Joins
open Rm (Fr)
open Lg (At RdL InL)
open Gx (CpI CpK CpL Rg ZL Bx)
open Kn (K)
open Lc (RdK)
set_option linter.unusedVariables false
set_option maxRecDepth 100000
theorem own : ownKnob Tryz.prog.godebug = none := by kernel_rfl
theorem laidOut : laidOutB Tryz.prog = true := by kernel_rfl
theorem int_bd {a : Int} (w : (Lit.int .i64 a).wf = true) : -9223372036854775808 ≤ a ∧ a ≤ 9223372036854775807 := by
 simpa [Lit.wf, IntKind.min, IntKind.max, IntKind.signed, IntKind.bits] using w
structure LGen (W : World) (so : Option Addr) (sc : Nat) (S : List Int) (qo : Option Addr) (tc : Nat) (T : List (List Int)) (f : At) : Prop where
 rd : RdL W so qo S T f
 sn : so = none → sc = 0
 tn : ∀ i, i < T.length → (f i).1 = none → (f i).2 = 0
 fit : S.length ≤ sc
 s20 : S.length ≤ 1048576
 t20 : T.length ≤ 1048576
 row : ∀ i, i < T.length → (T.getD i []).length ≤ 1048576
 sb : ∀ x ∈ S, -9223372036854775808 ≤ x ∧ x ≤ 9223372036854775807
theorem made_fill {w : World} {B n j : Nat} {L : List K} (h : Lc.Made w B n L j) (f : Nat → Value) : Lc.Fill w B n f 0 := ⟨h.lt, fun i hi => by omega, h.ex, h.fr⟩
theorem words {L : List K} (h : Lc.Small L) : Lc.WordsOk L := fun k hk => by have := h.2 k hk; omega
def ImplT : Prop := ∀ (L : List K) (C : List Int) (S : List Int) (T : List (List Int)) (s : Int), L.length ≤ 1048576 → Lc.WordsOk L → C.length ≤ 1048576 → -9223372036854775808 ≤ s → s ≤ 9223372036854775807 →
   ∀ (g c : Nat) (so : Option Addr) (sc : Nat) (qo : Option Addr) (tc : Nat) (f : At) (W : World), RdK W (some ⟨g, 0, none⟩) L → g < W.heap.size → Lst.Rd W (some ⟨c, 0, none⟩) C → c < W.heap.size → LGen W so sc S qo tc T f → Calls Tryz.prog 22 #[.slice (some ⟨g, 0, none⟩) L.length L.length, .slice (some ⟨c, 0, none⟩) C.length C.length, .agg #[.slice so S.length sc, .slice qo T.length tc], .int .i64 s] W (Lg.LoggedPost L C S T s W)
theorem specT (L : List K) (C : List Int) (S : List Int) (T : List (List Int)) (s : Int) (hl : L.length ≤ 1048576) (hw : Lc.WordsOk L) (hc : C.length ≤ 1048576) : ∀ (g c : Nat) (so : Option Addr) (sc : Nat) (qo : Option Addr) (tc : Nat) (f : At) (W : World), RdK W (some ⟨g, 0, none⟩) L → g < W.heap.size → Lst.Rd W (some ⟨c, 0, none⟩) C → c < W.heap.size → LGen W so sc S qo tc T f → Calls Tryz.prog 21 #[.slice (some ⟨g, 0, none⟩) L.length L.length, .slice (some ⟨c, 0, none⟩) C.length C.length, .agg #[.slice so S.length sc, .slice qo T.length tc], .int .i64 s] W (Lg.LoggedPost L C S T s W) :=
 fun g c so sc qo tc f W h1 h2 h3 h4 h5 => Lg.specLogged g 0 _ L _ _ C so qo sc tc S T f s W (Nat.le_refl _) hw h2 h1 hc h3 (fun x e => by injection e with e; injection e with e; subst e; exact h4) h5.rd h5.sn h5.tn h5.s20 h5.t20 h5.row
set_option maxHeartbeats 25600000 in
theorem walk (HI : ImplT) (a0 : Option Addr) (cap0 : Nat) (L : List K) (a1 : Option Addr) (cap1 : Nat) (C : List Int) (so : Option Addr) (sc : Nat) (S : List Int) (qo : Option Addr) (tc : Nat) (T : List (List Int)) (f : At) (s : Int) (w : World) (hl : L.length ≤ maxLen) (hws : ∀ k ∈ L, k.word.size ≤ maxLen) (hrd0 : RdK w a0 L) (hmC : C.length ≤ maxLen) (hrd1 : Nu.RdI w a1 C) (hS : S.length ≤ maxLen) (hT : T.length ≤ maxLen) (hTT : ∀ i, i < T.length → (T.getD i []).length ≤ maxLen) (hsb : ∀ x ∈ S, -9223372036854775808 ≤ x ∧ x ≤ 9223372036854775807) (hin : InL w so qo S T f) (hs : -9223372036854775808 ≤ s ∧ s ≤ 9223372036854775807) :
   Calls Tryz.prog 5 #[.slice a0 L.length cap0, .slice a1 C.length cap1, .agg #[.slice so S.length sc, .slice qo T.length tc], .int .i64 s] w fun e w' => e = .returned (.bool true) ∧ Below w.heap.size w w' := by
 have HII : Hid ImplT := HI
 have HBSX : Hid (∀ x ∈ S, -9223372036854775808 ≤ x ∧ x ≤ 9223372036854775807) := hsb
 clear hsb
 have P0 : Hid (_) := Lg.box1 w (.slice so S.length sc) (.slice qo T.length tc) 36
 have HIN : Hid (InL w so qo S T f ∧ RdK w a0 L ∧ Nu.RdI w a1 C) := ⟨hin, hrd0, hrd1⟩
 clear HI hin hrd0 hrd1
 unfold maxLen at hmC
 by_cases hbig : 1048576 < C.length
 · have hbig' : (1048576 : Int) < (C.length : Int) := by omega
   have HE := P0.out.1
   go_enter Tryz.func5, Tryz.ntmps5
   go_wp2
   go_ret
   exact ⟨rfl, HE⟩
 have hbig' : ¬ (1048576 : Int) < (C.length : Int) := by omega
 have hC2 : C.length ≤ 1048576 := by omega
 clear hbig hmC
 go_enter Tryz.func5, Tryz.ntmps5
 go_upto_region 4 with fail
 generalize w.alloc (.cells #[.slice so S.length sc, .slice qo T.length tc] 36) = W0 at P0 ⊢
 have HB0 : Hid (Below w.heap.size w W0) := P0.out.1
 have HBX : Hid (∀ V : World, Below W0.heap.size W0 V → V.cell? ⟨w.heap.size, 0, none⟩ = some (.slice so S.length sc) ∧ V.cell? ⟨w.heap.size, 1, none⟩ = some (.slice qo T.length tc)) := fun V hV => ⟨(hV.cell (p := ⟨w.heap.size, 0, none⟩) P0.out.2.2.2).trans P0.out.2.1, (hV.cell (p := ⟨w.heap.size, 1, none⟩) P0.out.2.2.2).trans P0.out.2.2.1⟩
 have HIV : Hid (∀ V : World, Below W0.heap.size W0 V → InL V so qo S T f ∧ RdK V a0 L ∧ Nu.RdI V a1 C) := fun V hV => ⟨(HIN.out.1.below HB0.out).below hV, (HIN.out.2.1.below HB0.out).below hV, (HIN.out.2.2.below HB0.out).below hV⟩
 have HE : Hid (∀ V : World, Below W0.heap.size W0 V → Below w.heap.size w V) := fun V hV => HB0.out.trans (hV.mono HB0.out.size)
 have hbs : w.heap.size < W0.heap.size := P0.out.2.2.2
 clear P0 HIN HB0
 generalize w.heap.size = bb at HBX hbs ⊢
 go_wp2_with fail
 refine (Lc.szKnotS a0 cap0 L 1048576 _ hl hws (by omega) (by omega) (HIV.out _ (Below.refl _ _)).2.1).mono ?_
 rintro e w1 ⟨r0, rfl, hr0', hr1', hsm, hb1⟩
 have HSK : Hid (0 ≤ r0 → Lc.Small L) := hsm
 have B1 : Hid (Below W0.heap.size W0 w1) := hb1
 clear hsm hb1
 by_cases hneg0 : r0 < 0
 · go_wp2
   go_ret
   exact ⟨rfl, HE.out _ B1.out⟩
 have hSK := HSK.out (by omega)
 have HW : Hid (Lc.WordsOk L) := words hSK
 have hL2 : L.length ≤ 1048576 := hSK.1
 clear HSK hl hws hSK
 obtain ⟨c0, c1⟩ := HBX.out w1 B1.out
 go_wp2_with fail
 refine (Lg.szLog so qo sc tc S T f r0 _ hS hT hTT (by omega) (by omega) (HIV.out _ B1.out).1).mono ?_
 rintro e w2 ⟨⟨r, rfl, hr1, hr0, hsz⟩, hb1⟩
 have HSM : Hid (0 ≤ r → _) := hsz
 have B2 : Hid (Below W0.heap.size W0 w2) := B1.out.trans (hb1.mono B1.out.size)
 clear hsz hb1 c0 c1 B1
 by_cases hneg : r < 0
 · go_wp2
   go_ret
   exact ⟨rfl, HE.out _ B2.out⟩
 obtain ⟨hS2, hT2, hTT2⟩ := HSM.out (by omega)
 clear HSM hS hT hTT
 have HTT : Hid (∀ i, i < T.length → (T.getD i []).length ≤ 1048576) := hTT2
 clear hTT2
 have HCK : Hid (∀ X : World, Below W0.heap.size W0 X → Calls Tryz.prog 8 #[.slice a0 L.length cap0] X fun e w' => ∃ q, e = .returned (.slice (some ⟨q, 0, none⟩) L.length L.length) ∧ CpK X.heap.size w'.heap.size w' q L ∧ Below W0.heap.size W0 w' ∧ Below X.heap.size X w') := fun X hX => (Lc.toKnotS a0 cap0 L X hL2 (HIV.out X hX).2.1).mono fun e w' z => by
   obtain ⟨e1, e2, e3⟩ := z
   exact ⟨_, e1, Gx.cpK_to e2 e3, hX.trans (e3.mono hX.size), e3⟩
 have HCI : Hid (∀ X : World, Below W0.heap.size W0 X → Calls Tryz.prog 9 #[.slice a1 C.length cap1] X fun e w' => ∃ q, e = .returned (.slice (some ⟨q, 0, none⟩) C.length C.length) ∧ CpI X.heap.size w'.heap.size w' (some ⟨q, 0, none⟩) C ∧ Below W0.heap.size W0 w' ∧ Below X.heap.size X w') := fun X hX => (Nu.toInts a1 cap1 C X hC2 (HIV.out X hX).2.2).mono fun e w' z => by
   obtain ⟨e1, e2, e3⟩ := z
   exact ⟨_, e1, Gx.cpI_to e2 e3, hX.trans (e3.mono hX.size), e3⟩
 have HCL : Hid (∀ X : World, Below W0.heap.size W0 X → Calls Tryz.prog 18 #[.agg #[.slice so S.length sc, .slice qo T.length tc]] X fun e w' => ∃ s p q, e = .returned (.agg #[.slice (some ⟨s, 0, none⟩) S.length S.length, .slice (some ⟨p, 0, none⟩) T.length T.length]) ∧ CpL X.heap.size w'.heap.size w' (some ⟨s, 0, none⟩) S.length S (some ⟨p, 0, none⟩) T.length T q ∧ Below W0.heap.size W0 w' ∧ Below X.heap.size X w') := fun X hX => (Lg.toLog so qo sc tc S T f X hS2 hT2 HTT.out (HIV.out X hX).1).mono fun e w' z => by
   obtain ⟨s, p, q, e1, e2, e3⟩ := z
   exact ⟨s, p, _, e1, Gx.cpL_to e2, hX.trans (e3.mono hX.size), e3⟩
 have HLG : Hid (∀ (lo hi : Nat) (X : World) (so : Option Addr) (sc : Nat) (qo : Option Addr) (tc : Nat) (f : At), CpL lo hi X so sc S qo tc T f → LGen X so sc S qo tc T f) := fun lo hi X so sc qo tc f h => ⟨h.rd, h.sn, h.tn, h.fit, hS2, hT2, HTT.out, HBSX.out⟩
 obtain ⟨S1, hS1⟩ : ∃ S1, S1 = Lg.seenL L C S T s := ⟨_, rfl⟩
 obtain ⟨T1, hT1⟩ : ∃ T1, T1 = Lg.toldL L C S T s := ⟨_, rfl⟩
 obtain ⟨b1, hb1⟩ : ∃ b1, b1 = Lg.goesB L C S T s := ⟨_, rfl⟩
 have HSP : Hid (∀ (k0 k1 i0 i1 l0 l1 g c q p : Nat) (qf : At) (X : World), CpK k0 k1 X g L → CpI i0 i1 X (some ⟨c, 0, none⟩) C → CpL l0 l1 X (some ⟨q, 0, none⟩) S.length S (some ⟨p, 0, none⟩) T.length T qf → Calls Tryz.prog 21 #[.slice (some ⟨g, 0, none⟩) L.length L.length, .slice (some ⟨c, 0, none⟩) C.length C.length, .agg #[.slice (some ⟨q, 0, none⟩) S.length S.length, .slice (some ⟨p, 0, none⟩) T.length T.length], .int .i64 s] X fun e w' => ∃ so sc vo vc f, e = .returned (.tuple #[.agg #[.slice so S1.length sc, .slice vo T1.length vc], .bool b1]) ∧ CpL X.heap.size w'.heap.size w' so sc S1 vo vc T1 f ∧ Below X.heap.size X w') := fun k0 k1 i0 i1 l0 l1 g c q p qf X h1 h2 h3 => by
   rw [hS1, hT1, hb1]
   exact (specT L C S T s hL2 HW.out hC2 g c _ _ _ _ qf X (Lc.made_rd h1.m) h1.lt h2.rd (h2.lt c rfl) (HLG.out _ _ _ _ _ _ _ _ h3)).mono fun e w' z => Gx.post_cp z
 have HIM : Hid (∀ (k0 k1 i0 i1 l0 l1 g c q p : Nat) (qf : At) (X : World), CpK k0 k1 X g L → CpI i0 i1 X (some ⟨c, 0, none⟩) C → CpL l0 l1 X (some ⟨q, 0, none⟩) S.length S (some ⟨p, 0, none⟩) T.length T qf → Calls Tryz.prog 22 #[.slice (some ⟨g, 0, none⟩) L.length L.length, .slice (some ⟨c, 0, none⟩) C.length C.length, .agg #[.slice (some ⟨q, 0, none⟩) S.length S.length, .slice (some ⟨p, 0, none⟩) T.length T.length], .int .i64 s] X fun e w' => ∃ so sc vo vc f, e = .returned (.tuple #[.agg #[.slice so S1.length sc, .slice vo T1.length vc], .bool b1]) ∧ CpL X.heap.size w'.heap.size w' so sc S1 vo vc T1 f ∧ Below X.heap.size X w') := fun k0 k1 i0 i1 l0 l1 g c q p qf X h1 h2 h3 => by
   rw [hS1, hT1, hb1]
   exact (HII.out L C S T s hL2 HW.out hC2 hs.1 hs.2 g c _ _ _ _ qf X (Lc.made_rd h1.m) h1.lt h2.rd (h2.lt c rfl) (HLG.out _ _ _ _ _ _ _ _ h3)).mono fun e w' z => Gx.post_cp z
 have HN : Hid (S1.length ≤ 40 ∧ T1.length ≤ 40 ∧ ∀ i, i < T1.length → (T1.getD i []).length ≤ 3660) := by
   show _ ∧ _
   rw [hS1, hT1]
   exact Gx.logged_len hS2 hT2 HTT.out
 have HEQ : Hid (∀ (X : World) (so1 so2 : Option Addr) (sc1 sc2 : Nat) (qo1 qo2 : Option Addr) (tc1 tc2 : Nat) (f1 f2 : At), RdL X so1 qo1 S T f1 → RdL X so2 qo2 S T f2 → Calls Tryz.prog 20 #[.agg #[.slice so1 S.length sc1, .slice qo1 T.length tc1], .agg #[.slice so2 S.length sc2, .slice qo2 T.length tc2]] X fun e w' => e = .returned (.bool true) ∧ Below X.heap.size X w') := fun X so1 so2 sc1 sc2 qo1 qo2 tc1 tc2 f1 f2 h1 h2 => Lg.eqLog S T so1 so2 qo1 qo2 sc1 sc2 tc1 tc2 f1 f2 X hS2 hT2 HTT.out h1 h2
 have HEG : Hid (∀ (X : World) (so1 so2 : Option Addr) (sc1 sc2 : Nat) (qo1 qo2 : Option Addr) (tc1 tc2 : Nat) (f1 f2 : At), RdL X so1 qo1 S1 T1 f1 → RdL X so2 qo2 S1 T1 f2 → Calls Tryz.prog 20 #[.agg #[.slice so1 S1.length sc1, .slice qo1 T1.length tc1], .agg #[.slice so2 S1.length sc2, .slice qo2 T1.length tc2]] X fun e w' => e = .returned (.bool true) ∧ Below X.heap.size X w') := fun X so1 so2 sc1 sc2 qo1 qo2 tc1 tc2 f1 f2 h1 h2 => Lg.eqLog S1 T1 so1 so2 qo1 qo2 sc1 sc2 tc1 tc2 f1 f2 X (by have := HN.out.1; omega) (by have := HN.out.2.1; omega) (fun i hi => by have := HN.out.2.2 i hi; omega) h1 h2
 clear HII HW hS1 hT1 hb1 hs
 go_upto_region 10 with fail
 have HSB : Hid (∀ V : World, Below w2.heap.size w2 V → V.cell? ⟨bb, 0, none⟩ = some (.slice so S.length sc) ∧ V.cell? ⟨bb, 1, none⟩ = some (.slice qo T.length tc)) := fun V hV => HBX.out V (B2.out.trans (hV.mono B2.out.size))
 have HK2 : Hid (∀ X : World, Below w2.heap.size w2 X → Calls Tryz.prog 8 #[.slice a0 L.length cap0] X fun e w' => ∃ q k0 k1, e = .returned (.slice (some ⟨q, 0, none⟩) L.length L.length) ∧ CpK k0 k1 w' q L ∧ Below w2.heap.size w2 w' ∧ Below X.heap.size X w') := fun X hX => (HCK.out X (B2.out.trans (hX.mono B2.out.size))).mono fun e w' z => by
   obtain ⟨q, e1, e2, _, e3⟩ := z
   exact ⟨q, _, _, e1, e2, hX.trans (e3.mono hX.size), e3⟩
 have HI2 : Hid (∀ X : World, Below w2.heap.size w2 X → Calls Tryz.prog 9 #[.slice a1 C.length cap1] X fun e w' => ∃ q k0 k1, e = .returned (.slice (some ⟨q, 0, none⟩) C.length C.length) ∧ CpI k0 k1 w' (some ⟨q, 0, none⟩) C ∧ Below w2.heap.size w2 w' ∧ Below X.heap.size X w') := fun X hX => (HCI.out X (B2.out.trans (hX.mono B2.out.size))).mono fun e w' z => by
   obtain ⟨q, e1, e2, _, e3⟩ := z
   exact ⟨q, _, _, e1, e2, hX.trans (e3.mono hX.size), e3⟩
 have HL2 : Hid (∀ X : World, Below w2.heap.size w2 X → Calls Tryz.prog 18 #[.agg #[.slice so S.length sc, .slice qo T.length tc]] X fun e w' => ∃ s p q k0 k1, e = .returned (.agg #[.slice (some ⟨s, 0, none⟩) S.length S.length, .slice (some ⟨p, 0, none⟩) T.length T.length]) ∧ CpL k0 k1 w' (some ⟨s, 0, none⟩) S.length S (some ⟨p, 0, none⟩) T.length T q ∧ Below w2.heap.size w2 w' ∧ Below X.heap.size X w') := fun X hX => (HCL.out X (B2.out.trans (hX.mono B2.out.size))).mono fun e w' z => by
   obtain ⟨s, p, q, e1, e2, _, e3⟩ := z
   exact ⟨s, p, q, _, _, e1, e2, hX.trans (e3.mono hX.size), e3⟩
 go_cut [10, 11] from 35 to 45 (fun pv bv wx => ∃ (rb : Nat) (so : Option Addr) (sc : Nat) (vo : Option Addr) (vc : Nat) (f : At) (lo hi : Nat), pv = .pointer (some ⟨rb, 0, none⟩) ∧ bv = .bool b1 ∧ Hid (CpL lo hi wx so sc S1 vo vc T1 f ∧ Bx wx rb so sc S1.length vo vc T1.length ∧ Below w2.heap.size w2 wx))
 case first =>
   clear HIM HEQ HEG HCK HCI HCL HBX HIV HE HLG HN HTT
   go_region_held3 (fun V => V.cell? ⟨bb, 0, none⟩ = some (.slice so S.length sc) ∧ V.cell? ⟨bb, 1, none⟩ = some (.slice qo T.length tc)) (first
     | exact HSB.out _ BV | exact HSB.out _ BV.drew | exact HSB.out _ (BV.alloc BV.size _) | exact HSB.out _ (Below.refl _ _) | exact HSB.out _ (Below.refl _ _).drew | exact HSB.out _ ((Below.refl _ _).alloc (Nat.le_refl _) _) | exact HSB.out _ ((Below.refl _ _).alloc (Nat.le_refl _) _).drew | exact HSB.out _ ((Below.refl _ _).drew.alloc (Nat.le_refl _) _) | exact HSB.out _ (BV.trans ((Gx.fr_put _ _ _ _).toBelow BV.size (fun x hx => by have e : x = _ := hx; omega))) | go_keep) (first
     | (go_at_call 8
        refine (HK2.out _ (by first | exact BV | exact BV.drew | exact BV.alloc BV.size _ | exact (BV.alloc BV.size _).drew | exact (Below.refl _ _).drew | exact Below.refl _ _ | exact (Below.refl _ _).drew.alloc (Nat.le_refl _) _ | exact ((Below.refl _ _).alloc (Nat.le_refl _) _).drew | exact (Below.refl _ _).alloc (Nat.le_refl _) _)).mono ?_
        rintro e V ⟨gk, k0, k1, rfl, RK, BV, bv⟩
        have hzK := BV.size
        (try have RI := (by first | exact RI.below bv | exact RI.below (Gx.unlaidL bv) | exact RI.below (Gx.unlaidD bv)))
        (try have RL := (by first | exact RL.below bv | exact RL.below (Gx.unlaidL bv) | exact RL.below (Gx.unlaidD bv)))
        (first | have ZB := Gx.keepL bv | have ZB := Gx.keepLd bv | have ZB := ZB.below bv | skip)
        (first | (have z0 := ZB.c0; have z1 := ZB.c1; have z2 := ZB.f0; have z3 := ZB.f1) | skip))
     | (go_at_call 9
        refine (HI2.out _ (by first | exact BV | exact BV.drew | exact BV.alloc BV.size _ | exact (BV.alloc BV.size _).drew | exact (Below.refl _ _).drew | exact Below.refl _ _ | exact (Below.refl _ _).drew.alloc (Nat.le_refl _) _ | exact ((Below.refl _ _).alloc (Nat.le_refl _) _).drew | exact (Below.refl _ _).alloc (Nat.le_refl _) _)).mono ?_
        rintro e V ⟨gi, i0, i1, rfl, RI, BV, bv⟩
        have hzI := BV.size
        (try have RK := (by first | exact RK.below bv | exact RK.below (Gx.unlaidL bv) | exact RK.below (Gx.unlaidD bv)))
        (try have RL := (by first | exact RL.below bv | exact RL.below (Gx.unlaidL bv) | exact RL.below (Gx.unlaidD bv)))
        (first | have ZB := Gx.keepL bv | have ZB := Gx.keepLd bv | have ZB := ZB.below bv | skip)
        (first | (have z0 := ZB.c0; have z1 := ZB.c1; have z2 := ZB.f0; have z3 := ZB.f1) | skip))
     | (go_at_call 18
        refine (HL2.out _ (by first | exact BV | exact BV.drew | exact BV.alloc BV.size _ | exact (BV.alloc BV.size _).drew | exact (Below.refl _ _).drew | exact Below.refl _ _ | exact (Below.refl _ _).drew.alloc (Nat.le_refl _) _ | exact ((Below.refl _ _).alloc (Nat.le_refl _) _).drew | exact (Below.refl _ _).alloc (Nat.le_refl _) _)).mono ?_
        rintro e V ⟨gs, gp, gq, l0, l1, rfl, RL, BV, bv⟩
        have hzL := BV.size
        (try have RK := (by first | exact RK.below bv | exact RK.below (Gx.unlaidL bv) | exact RK.below (Gx.unlaidD bv)))
        (try have RI := (by first | exact RI.below bv | exact RI.below (Gx.unlaidL bv) | exact RI.below (Gx.unlaidD bv)))
        (first | have ZB := Gx.keepL bv | have ZB := Gx.keepLd bv | have ZB := ZB.below bv | skip)
        (first | (have z0 := ZB.c0; have z1 := ZB.c1; have z2 := ZB.f0; have z3 := ZB.f1) | skip))
     | (go_at_call 21
        (try have hzl := ZB.lt)
        (try have hzb := ZB)
        refine (HSP.out _ _ _ _ _ _ _ _ _ _ _ _ (by first | exact RK | exact RK.below ((Below.refl _ _).alloc (Nat.le_refl _) _)) (by first | exact RI | exact RI.below ((Below.refl _ _).alloc (Nat.le_refl _) _)) (by first | exact RL | exact RL.below ((Below.refl _ _).alloc (Nat.le_refl _) _))).mono ?_
        rintro e V ⟨ro, rc, uo, uc, uf, rfl, RG, bv⟩
        have BV := (by first | exact BV.trans (bv.mono BV.size) | exact BV.trans ((Gx.unlaidL bv).mono BV.size) | exact BV.trans ((Gx.unlaidD bv).mono BV.size))
        (first | have ZB := Gx.keepL bv | have ZB := Gx.keepLd bv | have ZB := ZB.below bv | skip)
        (first | (have z0 := ZB.c0; have z1 := ZB.c1; have z2 := ZB.f0; have z3 := ZB.f1) | skip)))
   all_goals go_wp2_with fail
   all_goals go_meet
   all_goals (first
     | exact ⟨_, _, _, _, _, _, _, _, rfl, rfl, RG.below ((Below.refl _ _).alloc (Nat.le_refl _) _), Gx.bx_new _ _ _ _ _ _ _ _, BV.alloc BV.size _⟩
     | exact ⟨_, _, _, _, _, _, _, _, rfl, rfl, RG.fr (Gx.fr_put _ _ _ _) (fun x hx => .inl (by have e : x = _ := hx; first | (rw [e]; exact hzl) | (rw [e]; simp) | (simp; omega) | omega)), Gx.bx_put ZB _ _ _ _ _ _, BV.trans ((Gx.fr_put _ _ _ _).toBelow BV.size (fun x hx => by have e : x = _ := hx; omega))⟩)
 case rest =>
   obtain ⟨rb, uo1, uc1, vo1, vc1, f1, lo1, hi1, rfl, rfl, HR⟩ := hcut
   have B3 : Hid (Below W0.heap.size W0 wc) := B2.out.trans (HR.out.2.2.mono B2.out.size)
   have HO : Hid (∀ X : World, Below wc.heap.size wc X → RdL X uo1 vo1 S1 T1 f1 ∧ Bx X rb uo1 uc1 S1.length vo1 vc1 T1.length) := fun X hX => ⟨(HR.out.1.below hX).rd, HR.out.2.1.below hX⟩
   clear HSP HSB HK2 HI2 HL2 B2 HR
   go_wp2_with fail
   refine (HCK.out _ B3.out).mono ?_
   rintro e w4 ⟨gk, rfl, hc, hb2, hb⟩
   have HK4 : Hid (CpK wc.heap.size w4.heap.size w4 gk L) := hc
   have B4 : Hid (Below wc.heap.size wc w4) := hb
   clear hc hb hb2
   obtain ⟨k1, hk1⟩ : ∃ k1, k1 = w4.heap.size := ⟨_, rfl⟩
   rw [← hk1] at HK4
   go_wp2_with fail
   refine (HCI.out _ (B3.out.trans (B4.out.mono B3.out.size))).mono ?_
   rintro e w5 ⟨gi, rfl, hc, hb2, hb⟩
   have HI5 : Hid (CpI w4.heap.size w5.heap.size w5 (some ⟨gi, 0, none⟩) C) := hc
   have HK5 : Hid (CpK wc.heap.size k1 w5 gk L) := HK4.out.below hb
   have B5 : Hid (Below wc.heap.size wc w5) := B4.out.trans (hb.mono B4.out.size)
   clear hc hb hb2 HK4 B4
   rw [← hk1] at HI5
   clear hk1
   obtain ⟨i1, hi1'⟩ : ∃ i1, i1 = w5.heap.size := ⟨_, rfl⟩
   rw [← hi1'] at HI5
   obtain ⟨c0, c1⟩ := HBX.out _ (B3.out.trans (B5.out.mono B3.out.size))
   go_wp2_with fail
   refine (HCL.out _ (B3.out.trans (B5.out.mono B3.out.size))).mono ?_
   rintro e w6 ⟨s2, p2, q2, rfl, hc, hb2, hb⟩
   have BXX : Below w6.heap.size w6 (w6.alloc (.cells #[.slice (some ⟨s2, 0, none⟩) S.length S.length, .slice (some ⟨p2, 0, none⟩) T.length T.length] 39)) := (Below.refl _ _).alloc (Nat.le_refl _) _
   have hwk := HK5.out.bl
   have hwi := HI5.out.bl gi rfl
   have hwl := hc.b1 s2 rfl
   unfold Rg at hwk hwi hwl
   have HX : Hid (CpL i1 w6.heap.size (w6.alloc (.cells #[.slice (some ⟨s2, 0, none⟩) S.length S.length, .slice (some ⟨p2, 0, none⟩) T.length T.length] 39)) (some ⟨s2, 0, none⟩) S.length S (some ⟨p2, 0, none⟩) T.length T q2 ∧ CpK wc.heap.size k1 (w6.alloc (.cells #[.slice (some ⟨s2, 0, none⟩) S.length S.length, .slice (some ⟨p2, 0, none⟩) T.length T.length] 39)) gk L ∧ CpI k1 i1 (w6.alloc (.cells #[.slice (some ⟨s2, 0, none⟩) S.length S.length, .slice (some ⟨p2, 0, none⟩) T.length T.length] 39)) (some ⟨gi, 0, none⟩) C ∧ Below wc.heap.size wc (w6.alloc (.cells #[.slice (some ⟨s2, 0, none⟩) S.length S.length, .slice (some ⟨p2, 0, none⟩) T.length T.length] 39)) ∧ Bx (w6.alloc (.cells #[.slice (some ⟨s2, 0, none⟩) S.length S.length, .slice (some ⟨p2, 0, none⟩) T.length T.length] 39)) w6.heap.size (some ⟨s2, 0, none⟩) S.length S.length (some ⟨p2, 0, none⟩) T.length T.length) := by
     rw [hi1']
     exact ⟨hc.below BXX, (HK5.out.below hb).below BXX, by rw [← hi1']; exact (HI5.out.below hb).below BXX, (B5.out.trans (hb.mono B5.out.size)).trans (BXX.mono (Nat.le_trans B5.out.size hb.size)), Gx.bx_new _ _ _ _ _ _ _ _⟩
   have hk01 : wc.heap.size < k1 ∧ k1 < i1 ∧ i1 < w6.heap.size := ⟨by omega, by omega, by omega⟩
   clear hc hb hb2 BXX c0 c1 HK5 HI5 B5 hwk hwi hwl hi1'
   go_upto_region 14 with fail
   generalize w6.alloc (.cells #[.slice (some ⟨s2, 0, none⟩) S.length S.length, .slice (some ⟨p2, 0, none⟩) T.length T.length] 39) = W6 at HX ⊢
   generalize w6.heap.size = hx at HX hk01 ⊢
   have d0 := HX.out.2.2.2.2.c0
   have d1 := HX.out.2.2.2.2.c1
   go_wp2_with fail
   refine (HIM.out _ _ _ _ _ _ _ _ _ _ _ _ HX.out.2.1 HX.out.2.2.1 HX.out.1).mono ?_
   rintro e w7 ⟨go, gc, ho, hoc, gf, rfl, hg, hb⟩
   have hxg : hx < W6.heap.size := HX.out.2.2.2.2.lt
   have BXX : Below w7.heap.size w7 (w7.alloc (.cells #[.slice go S1.length gc, .slice ho T1.length hoc] 39)) := (Below.refl _ _).alloc (Nat.le_refl _) _
   obtain ⟨g1, hg1⟩ : ∃ g1, g1 = w7.heap.size := ⟨_, rfl⟩
   rw [← hg1] at hg
   have hgg : W6.heap.size ≤ g1 := by have := hb.size; omega
   have HY : Hid (CpL i1 hx (w7.alloc (.cells #[.slice go S1.length gc, .slice ho T1.length hoc] 39)) (some ⟨s2, 0, none⟩) S.length S (some ⟨p2, 0, none⟩) T.length T q2 ∧ CpK wc.heap.size k1 (w7.alloc (.cells #[.slice go S1.length gc, .slice ho T1.length hoc] 39)) gk L ∧ CpI k1 i1 (w7.alloc (.cells #[.slice go S1.length gc, .slice ho T1.length hoc] 39)) (some ⟨gi, 0, none⟩) C ∧ Below wc.heap.size wc (w7.alloc (.cells #[.slice go S1.length gc, .slice ho T1.length hoc] 39)) ∧ Bx (w7.alloc (.cells #[.slice go S1.length gc, .slice ho T1.length hoc] 39)) hx (some ⟨s2, 0, none⟩) S.length S.length (some ⟨p2, 0, none⟩) T.length T.length ∧ CpL W6.heap.size g1 (w7.alloc (.cells #[.slice go S1.length gc, .slice ho T1.length hoc] 39)) go gc S1 ho hoc T1 gf ∧ Bx (w7.alloc (.cells #[.slice go S1.length gc, .slice ho T1.length hoc] 39)) w7.heap.size go gc S1.length ho hoc T1.length) :=
     ⟨(HX.out.1.below hb).below BXX, (HX.out.2.1.below hb).below BXX, (HX.out.2.2.1.below hb).below BXX, (HX.out.2.2.2.1.trans (hb.mono HX.out.2.2.2.1.size)).trans (BXX.mono (Nat.le_trans HX.out.2.2.2.1.size hb.size)), (HX.out.2.2.2.2.below hb).below BXX, hg.below BXX, Gx.bx_new _ _ _ _ _ _ _ _⟩
   rw [← hg1] at HY
   clear hg hb BXX HX d0 d1
   go_upto_region 15 with fail
   rw [← hg1]
   generalize w7.alloc (.cells #[.slice go S1.length gc, .slice ho T1.length hoc] 39) = W7 at HY ⊢
   clear hg1
   generalize W6.heap.size = g0 at HY hxg hgg
   have BW : Hid (∀ X : World, Below wc.heap.size wc X → Below W0.heap.size W0 X) := fun X hX => B3.out.trans (hX.mono B3.out.size)
   have BC : Hid (∀ X : World, Below W7.heap.size W7 X → Below wc.heap.size wc X) := fun X hX => HY.out.2.2.2.1.trans (hX.mono HY.out.2.2.2.1.size)
   have y0 := HY.out.2.2.2.2.2.2.c0
   have y1 := HY.out.2.2.2.2.2.2.c1
   have v0 := (HO.out _ (BC.out _ (Below.refl _ _))).2.c0
   have v1 := (HO.out _ (BC.out _ (Below.refl _ _))).2.c1
   go_wp2_with fail
   refine (HEG.out _ _ _ _ _ _ _ _ _ _ _ HY.out.2.2.2.2.2.1.rd (HO.out _ (BC.out _ (Below.refl _ _))).1).mono ?_
   rintro e w8 ⟨rfl, hb⟩
   have B8 : Hid (Below W7.heap.size W7 w8) := hb
   clear hb y0 y1 v0 v1
   go_wp2_with fail
   refine (HCK.out _ (BW.out _ (BC.out _ B8.out))).mono ?_
   rintro e w9 ⟨gk2, rfl, hc, _, hb⟩
   have B9 : Hid (Below W7.heap.size W7 w9) := B8.out.trans (hb.mono B8.out.size)
   have HK9 : Hid (RdK w9 (some ⟨gk2, 0, none⟩) L) := Lc.made_rd hc.m
   clear hc hb B8
   go_wp2_with fail
   refine (Lc.eqKnotS _ _ _ _ _ _ L _ hL2 (Lc.made_rd (HY.out.2.1.below B9.out).m) HK9.out).mono ?_
   rintro e w10 ⟨rfl, hb⟩
   have B10 : Hid (Below W7.heap.size W7 w10) := B9.out.trans (hb.mono B9.out.size)
   clear hb B9 HK9
   go_wp2_with fail
   refine (HCI.out _ (BW.out _ (BC.out _ B10.out))).mono ?_
   rintro e w11 ⟨gi2, rfl, hc, _, hb⟩
   have B11 : Hid (Below W7.heap.size W7 w11) := B10.out.trans (hb.mono B10.out.size)
   have HI11 : Hid (Lst.Rd w11 (some ⟨gi2, 0, none⟩) C) := hc.rd
   clear hc hb B10
   go_wp2_with fail
   refine (Nu.alikeB C _ _ _ _ _ hC2 (HY.out.2.2.1.below B11.out).rd HI11.out).mono ?_
   rintro e w12 ⟨rfl, hb⟩
   have B12 : Hid (Below W7.heap.size W7 w12) := B11.out.trans (hb.mono B11.out.size)
   clear hb B11 HI11
   have HSB : Hid (∀ V : World, Below w12.heap.size w12 V → V.cell? ⟨bb, 0, none⟩ = some (.slice so S.length sc) ∧ V.cell? ⟨bb, 1, none⟩ = some (.slice qo T.length tc) ∧ V.cell? ⟨hx, 0, none⟩ = some (.slice (some ⟨s2, 0, none⟩) S.length S.length) ∧ V.cell? ⟨hx, 1, none⟩ = some (.slice (some ⟨p2, 0, none⟩) T.length T.length)) := fun V hV => by
     have k := B12.out.trans (hV.mono B12.out.size)
     have k1 := HBX.out V (BW.out V (BC.out V k))
     have k2 := HY.out.2.2.2.2.1.below k
     exact ⟨k1.1, k1.2, k2.c0, k2.c1⟩
   have HCR : Hid (∀ X : World, Below w12.heap.size w12 X → Calls Tryz.prog 18 #[.agg #[.slice so S.length sc, .slice qo T.length tc]] X fun e w' => ∃ s p q, e = .returned (.agg #[.slice (some ⟨s, 0, none⟩) S.length S.length, .slice (some ⟨p, 0, none⟩) T.length T.length]) ∧ RdL w' (some ⟨s, 0, none⟩) (some ⟨p, 0, none⟩) S T q ∧ Below w12.heap.size w12 w') := fun X hX => (HCL.out X (BW.out _ (BC.out _ (B12.out.trans (hX.mono B12.out.size))))).mono fun e w' z => by
     obtain ⟨s, p, q, e1, e2, _, e3⟩ := z
     exact ⟨s, p, q, e1, e2.rd, hX.trans (e3.mono hX.size)⟩
   have HQR : Hid (∀ (X : World) (s p : Nat) (q : At), Below w12.heap.size w12 X → RdL X (some ⟨s, 0, none⟩) (some ⟨p, 0, none⟩) S T q → Calls Tryz.prog 20 #[.agg #[.slice (some ⟨s2, 0, none⟩) S.length S.length, .slice (some ⟨p2, 0, none⟩) T.length T.length], .agg #[.slice (some ⟨s, 0, none⟩) S.length S.length, .slice (some ⟨p, 0, none⟩) T.length T.length]] X fun e w' => e = .returned (.bool true) ∧ Below w12.heap.size w12 w') := fun X s p q hX h => (HEQ.out X _ _ _ _ _ _ _ _ _ _ (HY.out.1.below (B12.out.trans (hX.mono B12.out.size))).rd h).mono fun e w' z => ⟨z.1, hX.trans (z.2.mono hX.size)⟩
   clear HEQ
   go_upto_region 21 with fail
   go_cut [83] from 79 to 82 (fun bv wx => bv = .bool false ∧ Hid (Below w12.heap.size w12 wx))
   case first =>
     clear HLG HCK HCI HCL HBX HIV HE B12 BW BC HY HO HIM HEG HN HTT B3
     go_region_held3 (fun V => V.cell? ⟨bb, 0, none⟩ = some (.slice so S.length sc) ∧ V.cell? ⟨bb, 1, none⟩ = some (.slice qo T.length tc) ∧ V.cell? ⟨hx, 0, none⟩ = some (.slice (some ⟨s2, 0, none⟩) S.length S.length) ∧ V.cell? ⟨hx, 1, none⟩ = some (.slice (some ⟨p2, 0, none⟩) T.length T.length)) (first
       | exact HSB.out _ BZ | exact HSB.out _ BZ.drew | exact HSB.out _ (Below.refl _ _) | exact HSB.out _ (Below.refl _ _).drew | go_keep) (first
       | (go_at_call 18
          refine (HCR.out _ (by first | exact (Below.refl _ _).drew | exact Below.refl _ _)).mono ?_
          rintro e X ⟨s3, p3, q3, rfl, R3, BZ⟩)
       | (go_at_call 20
          refine (HQR.out _ s3 p3 q3 (by first | exact BZ | exact BZ.drew) (by first | exact R3 | exact R3.below (Below.refl _ _).drew)).mono ?_
          rintro e X ⟨rfl, BZ⟩))
     all_goals go_wp2_with fail
     all_goals go_meet
     all_goals exact ⟨rfl, by first | exact BZ | exact BZ.drew⟩
   case rest =>
     obtain ⟨rfl, B13⟩ := hcut
     have BD : Hid (_) := B12.out.trans (B13.out.mono B12.out.size)
     have HXd : Hid (_) := HY.out.1.below BD.out
     have HKd : Hid (_) := HY.out.2.1.below BD.out
     have HId : Hid (_) := HY.out.2.2.1.below BD.out
     have BCd : Hid (_) := BC.out _ BD.out
     have Hhx : Hid (_) := HY.out.2.2.2.2.1.below BD.out
     have HGd : Hid (_) := HY.out.2.2.2.2.2.1.below BD.out
     have Hgb : Hid (_) := HY.out.2.2.2.2.2.2.below BD.out
     have hah : (0 : Int) ≤ ((Lg.ahead T T.length : Nat) : Int) := by omega
     have hah2 : ((Lg.ahead T1 T1.length : Nat) : Int) ≤ 146400 := by
       have h1 := Lg.ahead_le T1 3660 HN.out.2.2 T1.length (Nat.le_refl _)
       have h2 := Nat.mul_le_mul_right 3660 HN.out.2.1
       omega
     have hah1 : (0 : Int) ≤ ((Lg.ahead T1 T1.length : Nat) : Int) := by omega
     have hah3 : ((Lg.ahead T T.length : Nat) : Int) ≤ 1099511627776 := by
       have h1 := Lg.ahead_le T 1048576 HTT.out T.length (Nat.le_refl _)
       have h2 := Nat.mul_le_mul_right 1048576 hT2
       omega
     have hS1l := HN.out.1
     have hT1l := HN.out.2.1
     clear HSB HCR HQR B12 B13 BD HY BC
     go_wp2_with fail
     refine (Lc.markKnotS gk L.length L.length _ (by omega) (made_fill HKd.out.m _)).mono ?_
     rintro e we ⟨rfl, _, hg⟩
     have hf := Fr.of_grown hg
     have hgk := HKd.out.bl
     unfold Rg at hgk
     have HXe : Hid (_) := HXd.out.fr hf (fun x hx => .inl (by have e : x = gk := hx; omega))
     have HIe : Hid (_) := HId.out.fr hf (fun x hx => .inl (by have e : x = gk := hx; omega))
     have BCe : Hid (_) := BCd.out.trans (hf.toBelow BCd.out.size (fun x hx => by have e : x = gk := hx; omega))
     have Hhe : Hid (_) := Hhx.out.fr hf (fun q => by have e : hx = gk := q; omega)
     have HGe : Hid (_) := HGd.out.fr hf (fun x hx => .inl (by have e : x = gk := hx; omega))
     have Hge : Hid (_) := Hgb.out.fr hf (fun q => by have e : g1 = gk := q; omega)
     clear hg hf HXd HKd HId BCd Hhx HGd Hgb hgk
     go_wp2_with fail
     refine (Gx.markI (some ⟨gi, 0, none⟩) C.length C (1 + (L.length : Int) * 4) _ hC2 (by omega) (by omega) HIe.out).mono ?_
     rintro e wf ⟨rfl, _, hf⟩
     have HXf : Hid (_) := HXe.out.fr hf (fun x hx => .inl (by unfold Rg at hx; omega))
     have BCf : Hid (_) := BCe.out.trans (hf.toBelow BCe.out.size (fun x hx => by unfold Rg at hx; omega))
     have Hhf : Hid (_) := Hhe.out.fr hf (fun q => by unfold Rg at q; omega)
     have HGf : Hid (_) := HGe.out.fr hf (fun x hx => .inl (by unfold Rg at hx; omega))
     have Hgf : Hid (_) := Hge.out.fr hf (fun q => by unfold Rg at q; omega)
     clear hf HXe HIe BCe Hhe HGe Hge
     have d0 := Hhf.out.c0
     have d1 := Hhf.out.c1
     go_wp2_with fail
     refine (Gx.markL (some ⟨s2, 0, none⟩) (some ⟨p2, 0, none⟩) S.length T.length S T q2 (1 + (L.length : Int) * 4 + (C.length : Int)) _ hS2 hT2 HTT.out (by omega) (by omega) HXf.out).mono ?_
     rintro e wg ⟨rfl, _, hf⟩
     have BCg : Hid (_) := BCf.out.trans (hf.toBelow BCf.out.size (fun x hx => by unfold Rg at hx; omega))
     have HGg : Hid (_) := HGf.out.fr hf (fun x hx => .inl (by unfold Rg at hx; omega))
     have Hgg : Hid (_) := Hgf.out.fr hf (fun q => by unfold Rg at q; omega)
     clear hf HXf BCf Hhf HGf Hgf d0 d1
     generalize ((Lg.ahead T T.length : Nat) : Int) = ah at hah hah3 ⊢
     have hnn : ¬ 1 + (L.length : Int) * 4 + (C.length : Int) + (S.length : Int) + ah < 0 := by omega
     have y0 := Hgg.out.c0
     have y1 := Hgg.out.c1
     have v0 := (HO.out _ BCg.out).2.c0
     have v1 := (HO.out _ BCg.out).2.c1
     go_wp2_with fail
     refine (HEG.out _ _ _ _ _ _ _ _ _ _ _ HGg.out.rd (HO.out _ BCg.out).1).mono ?_
     rintro e wh ⟨rfl, hb⟩
     have BCh : Hid (_) := BCg.out.trans (hb.mono BCg.out.size)
     have HGh : Hid (_) := HGg.out.below hb
     have Hgh : Hid (_) := Hgg.out.below hb
     clear hb y0 y1 v0 v1 BCg HGg Hgg
     have y0 := Hgh.out.c0
     have y1 := Hgh.out.c1
     go_wp2_with fail
     refine (Gx.markL go ho gc hoc S1 T1 gf 1 _ (by omega) (by omega) (fun i hi => by have := HN.out.2.2 i hi; omega) (by omega) (by omega) HGh.out).mono ?_
     rintro e wi ⟨rfl, hm, hf⟩
     have HMi : Hid (_) := hm
     have BCi : Hid (_) := BCh.out.trans (hf.toBelow BCh.out.size (fun x hx => by unfold Rg at hx; omega))
     have Hgi : Hid (_) := Hgh.out.fr hf (fun q => by unfold Rg at q; omega)
     clear hm hf y0 y1 BCh HGh Hgh
     have hk1' : 1 + (S1.length : Int) + ((Lg.ahead T1 T1.length : Nat) : Int) ≤ 1048576 := by omega
     have HHD : Hid (∀ X : World, Lg.Ml X go ho S1.length T1 gf (fun i => 1 + (i : Int)) (fun i q => 1 + (S1.length : Int) + (Lg.ahead T1 i : Int) + (q : Int)) → Calls Tryz.prog 24 #[.agg #[.slice go S1.length gc, .slice ho T1.length hoc], .int .i64 1] X fun e w' => e = .returned (.int .i64 (1 + (S1.length : Int) + ((Lg.ahead T1 T1.length : Nat) : Int))) ∧ Below X.heap.size X w') := fun X q => Lg.heldLog go ho S1.length gc hoc T1 gf 1 X (by omega) (by omega) hk1' q
     generalize ((Lg.ahead T1 T1.length : Nat) : Int) = ah1 at hah1 hah2 hk1' HHD ⊢
     have hnn1 : ¬ 1 + (S1.length : Int) + ah1 < 0 := by omega
     have y0 := Hgi.out.c0
     have y1 := Hgi.out.c1
     go_wp2_with fail
     refine (HHD.out _ HMi.out).mono ?_
     rintro e wj ⟨rfl, hb⟩
     have BCj : Hid (_) := BCi.out.trans (hb.mono BCi.out.size)
     have HMj : Hid (_) := HMi.out.below hb
     have Hgj : Hid (_) := Hgi.out.below hb
     clear hb y0 y1 BCi HMi Hgi
     go_upto_region 37 with fail
     have BWj : Hid (_) := BW.out _ BCj.out
     have HSB : Hid (∀ V : World, Below wj.heap.size wj V → V.cell? ⟨bb, 0, none⟩ = some (.slice so S.length sc) ∧ V.cell? ⟨bb, 1, none⟩ = some (.slice qo T.length tc)) := fun V hV => HBX.out V (BWj.out.trans (hV.mono BWj.out.size))
     have HK2 : Hid (∀ X : World, Below wj.heap.size wj X → Calls Tryz.prog 8 #[.slice a0 L.length cap0] X fun e w' => ∃ q k0 k1, e = .returned (.slice (some ⟨q, 0, none⟩) L.length L.length) ∧ CpK k0 k1 w' q L ∧ Below wj.heap.size wj w' ∧ Below X.heap.size X w') := fun X hX => (HCK.out X (BWj.out.trans (hX.mono BWj.out.size))).mono fun e w' z => by
       obtain ⟨q, e1, e2, _, e3⟩ := z
       exact ⟨q, _, _, e1, e2, hX.trans (e3.mono hX.size), e3⟩
     have HI2 : Hid (∀ X : World, Below wj.heap.size wj X → Calls Tryz.prog 9 #[.slice a1 C.length cap1] X fun e w' => ∃ q k0 k1, e = .returned (.slice (some ⟨q, 0, none⟩) C.length C.length) ∧ CpI k0 k1 w' (some ⟨q, 0, none⟩) C ∧ Below wj.heap.size wj w' ∧ Below X.heap.size X w') := fun X hX => (HCI.out X (BWj.out.trans (hX.mono BWj.out.size))).mono fun e w' z => by
       obtain ⟨q, e1, e2, _, e3⟩ := z
       exact ⟨q, _, _, e1, e2, hX.trans (e3.mono hX.size), e3⟩
     have HL2 : Hid (∀ X : World, Below wj.heap.size wj X → Calls Tryz.prog 18 #[.agg #[.slice so S.length sc, .slice qo T.length tc]] X fun e w' => ∃ s p q k0 k1, e = .returned (.agg #[.slice (some ⟨s, 0, none⟩) S.length S.length, .slice (some ⟨p, 0, none⟩) T.length T.length]) ∧ CpL k0 k1 w' (some ⟨s, 0, none⟩) S.length S (some ⟨p, 0, none⟩) T.length T q ∧ Below wj.heap.size wj w' ∧ Below X.heap.size X w') := fun X hX => (HCL.out X (BWj.out.trans (hX.mono BWj.out.size))).mono fun e w' z => by
       obtain ⟨s, p, q, e1, e2, _, e3⟩ := z
       exact ⟨s, p, q, _, _, e1, e2, hX.trans (e3.mono hX.size), e3⟩
     go_cut [20, 21] from 103 to 112 (fun pv bv wx => ∃ (rb : Nat) (so : Option Addr) (sc : Nat) (vo : Option Addr) (vc : Nat) (f : At) (lo hi : Nat), pv = .pointer (some ⟨rb, 0, none⟩) ∧ bv = .bool b1 ∧ Hid (CpL lo hi wx so sc S1 vo vc T1 f ∧ Bx wx rb so sc S1.length vo vc T1.length ∧ Below wj.heap.size wj wx))
     case first =>
       clear HEG HCK HCI HCL HBX HIV HE HLG HN HTT HHD HMj Hgj BCj BW HO BWj
       go_region_held3 (fun V => V.cell? ⟨bb, 0, none⟩ = some (.slice so S.length sc) ∧ V.cell? ⟨bb, 1, none⟩ = some (.slice qo T.length tc)) (first
         | exact HSB.out _ BV | exact HSB.out _ BV.drew | exact HSB.out _ (BV.alloc BV.size _) | exact HSB.out _ (Below.refl _ _) | exact HSB.out _ (Below.refl _ _).drew | exact HSB.out _ ((Below.refl _ _).alloc (Nat.le_refl _) _) | exact HSB.out _ ((Below.refl _ _).alloc (Nat.le_refl _) _).drew | exact HSB.out _ ((Below.refl _ _).drew.alloc (Nat.le_refl _) _) | exact HSB.out _ (BV.trans ((Gx.fr_put _ _ _ _).toBelow BV.size (fun x hx => by have e : x = _ := hx; omega))) | go_keep) (first
         | (go_at_call 8
            refine (HK2.out _ (by first | exact BV | exact BV.drew | exact BV.alloc BV.size _ | exact (BV.alloc BV.size _).drew | exact (Below.refl _ _).drew | exact Below.refl _ _ | exact (Below.refl _ _).drew.alloc (Nat.le_refl _) _ | exact ((Below.refl _ _).alloc (Nat.le_refl _) _).drew | exact (Below.refl _ _).alloc (Nat.le_refl _) _)).mono ?_
            rintro e V ⟨gk, k0, k1, rfl, RK, BV, bv⟩
            have hzK := BV.size
            (try have RI := (by first | exact RI.below bv | exact RI.below (Gx.unlaidL bv) | exact RI.below (Gx.unlaidD bv)))
            (try have RL := (by first | exact RL.below bv | exact RL.below (Gx.unlaidL bv) | exact RL.below (Gx.unlaidD bv)))
            (first | have ZB := Gx.keepL bv | have ZB := Gx.keepLd bv | have ZB := ZB.below bv | skip)
            (first | (have z0 := ZB.c0; have z1 := ZB.c1; have z2 := ZB.f0; have z3 := ZB.f1) | skip))
         | (go_at_call 9
            refine (HI2.out _ (by first | exact BV | exact BV.drew | exact BV.alloc BV.size _ | exact (BV.alloc BV.size _).drew | exact (Below.refl _ _).drew | exact Below.refl _ _ | exact (Below.refl _ _).drew.alloc (Nat.le_refl _) _ | exact ((Below.refl _ _).alloc (Nat.le_refl _) _).drew | exact (Below.refl _ _).alloc (Nat.le_refl _) _)).mono ?_
            rintro e V ⟨gi, i0, i1, rfl, RI, BV, bv⟩
            have hzI := BV.size
            (try have RK := (by first | exact RK.below bv | exact RK.below (Gx.unlaidL bv) | exact RK.below (Gx.unlaidD bv)))
            (try have RL := (by first | exact RL.below bv | exact RL.below (Gx.unlaidL bv) | exact RL.below (Gx.unlaidD bv)))
            (first | have ZB := Gx.keepL bv | have ZB := Gx.keepLd bv | have ZB := ZB.below bv | skip)
            (first | (have z0 := ZB.c0; have z1 := ZB.c1; have z2 := ZB.f0; have z3 := ZB.f1) | skip))
         | (go_at_call 18
            refine (HL2.out _ (by first | exact BV | exact BV.drew | exact BV.alloc BV.size _ | exact (BV.alloc BV.size _).drew | exact (Below.refl _ _).drew | exact Below.refl _ _ | exact (Below.refl _ _).drew.alloc (Nat.le_refl _) _ | exact ((Below.refl _ _).alloc (Nat.le_refl _) _).drew | exact (Below.refl _ _).alloc (Nat.le_refl _) _)).mono ?_
            rintro e V ⟨gs, gp, gq, l0, l1, rfl, RL, BV, bv⟩
            have hzL := BV.size
            (try have RK := (by first | exact RK.below bv | exact RK.below (Gx.unlaidL bv) | exact RK.below (Gx.unlaidD bv)))
            (try have RI := (by first | exact RI.below bv | exact RI.below (Gx.unlaidL bv) | exact RI.below (Gx.unlaidD bv)))
            (first | have ZB := Gx.keepL bv | have ZB := Gx.keepLd bv | have ZB := ZB.below bv | skip)
            (first | (have z0 := ZB.c0; have z1 := ZB.c1; have z2 := ZB.f0; have z3 := ZB.f1) | skip))
         | (go_at_call 22
            (try have hzl := ZB.lt)
            (try have hzb := ZB)
            refine (HIM.out _ _ _ _ _ _ _ _ _ _ _ _ (by first | exact RK | exact RK.below ((Below.refl _ _).alloc (Nat.le_refl _) _)) (by first | exact RI | exact RI.below ((Below.refl _ _).alloc (Nat.le_refl _) _)) (by first | exact RL | exact RL.below ((Below.refl _ _).alloc (Nat.le_refl _) _))).mono ?_
            rintro e V ⟨ro, rc, uo, uc, uf, rfl, RG, bv⟩
            have BV := (by first | exact BV.trans (bv.mono BV.size) | exact BV.trans ((Gx.unlaidL bv).mono BV.size) | exact BV.trans ((Gx.unlaidD bv).mono BV.size))
            (first | have ZB := Gx.keepL bv | have ZB := Gx.keepLd bv | have ZB := ZB.below bv | skip)
            (first | (have z0 := ZB.c0; have z1 := ZB.c1; have z2 := ZB.f0; have z3 := ZB.f1) | skip)))
       all_goals go_wp2_with fail
       all_goals go_meet
       all_goals (first
         | exact ⟨_, _, _, _, _, _, _, _, rfl, rfl, RG.below ((Below.refl _ _).alloc (Nat.le_refl _) _), Gx.bx_new _ _ _ _ _ _ _ _, BV.alloc BV.size _⟩
         | exact ⟨_, _, _, _, _, _, _, _, rfl, rfl, RG.fr (Gx.fr_put _ _ _ _) (fun x hx => .inl (by have e : x = _ := hx; first | (rw [e]; exact hzl) | (rw [e]; simp) | (simp; omega) | omega)), Gx.bx_put ZB _ _ _ _ _ _, BV.trans ((Gx.fr_put _ _ _ _).toBelow BV.size (fun x hx => by have e : x = _ := hx; omega))⟩)
     case rest =>
       obtain ⟨rb2, uo2, uc2, vo2, vc2, f2, lo2, hi2, rfl, rfl, HR⟩ := hcut
       have BCk : Hid (_) := BCj.out.trans (HR.out.2.2.mono BCj.out.size)
       have HMk : Hid (_) := HMj.out.below HR.out.2.2
       have Hgk : Hid (_) := Hgj.out.below HR.out.2.2
       have x0 := HR.out.2.1.c0
       have x1 := HR.out.2.1.c1
       have v0 := (HO.out _ BCk.out).2.c0
       have v1 := (HO.out _ BCk.out).2.c1
       clear BCj HMj Hgj HSB HK2 HI2 HL2
       go_wp2_with fail
       refine (HEG.out _ _ _ _ _ _ _ _ _ _ _ HR.out.1.rd (HO.out _ BCk.out).1).mono ?_
       rintro e wl ⟨rfl, hb⟩
       have BCl : Hid (_) := BCk.out.trans (hb.mono BCk.out.size)
       have HMl : Hid (_) := HMk.out.below hb
       have Hgl : Hid (_) := Hgk.out.below hb
       clear hb x0 x1 v0 v1 BCk HMk Hgk HR
       have y0 := Hgl.out.c0
       have y1 := Hgl.out.c1
       go_wp2_with fail
       refine (HHD.out _ HMl.out).mono ?_
       rintro e wm ⟨rfl, hb⟩
       have HF : Hid (_) := HE.out _ (BW.out _ (BCl.out.trans (hb.mono BCl.out.size)))
       clear hb y0 y1 BCl HMl Hgl
       go_wp2
       go_ret
       exact ⟨rfl, HF.out⟩
theorem lifted (os : Os) (started : os.Started) (H : Type) (enc : TypeId × Value → H) :
   ReturnsInHanded {} Tryz.checked os 5 .any (Rows.fnExactLoggedSpec.pre6 enc Tryz.prog Tryz.f5 Rows.fnExactLoggedRow.domain false) (Rows.fnExactLoggedSpec.post enc Tryz.prog Tryz.f5 false true false false) := by
 refine returnsInHanded_of_change (C := Tryz.checked) own started (by kernel_rfl) Tryz.func5
   (ChangeSpec.witness6 (enc := enc) (C := Tryz.checked) false ⟨#[], #[.slice none 0 0, .slice none 0 0, .agg #[.slice none 0 0, .slice none 0 0], .int .i64 0], []⟩ 8 (by kernel_rfl) (by kernel_rfl) (by kernel_rfl) (by kernel_rfl)) ?_
 intro W base args ds gs before hval0 hW hcnd _
 have hval : ∀ (j : Nat) t v, Tryz.f5.params[j]? = some t → args[j]? = some v → Value.okWide Tryz.prog W .any base t v := hval0
 have hW' := hW
 obtain ⟨p, q, hA0, hV, rfl, hfz, hnd⟩ := hW
 have hA : DataW.TrodAll enc Tryz.prog W 0 (fun _ => true) true Tryz.f5.params.toList args.toList ds p := hA0
 rw [Tryz.params5] at hA hval
 obtain ⟨v0, vs0, d0, ds0, p0, q0, hargs, rfl, rfl, h0, r0⟩ := trodAll_cons hA
 obtain ⟨v1, vs1, d1, ds1, p1, q1, rfl, rfl, rfl, h1, r1⟩ := trodAll_cons r0
 obtain ⟨v2, vs2, d2, ds2, p2, q2, rfl, rfl, rfl, h2, r2⟩ := trodAll_cons r1
 obtain ⟨v3, vs3, d3, ds3, p3, q3, rfl, rfl, rfl, h3, r3⟩ := trodAll_cons r2
 obtain ⟨rfl, rfl, rfl⟩ := trodAll_nil r3
 obtain rfl : args = #[v0, v1, v2, v3] := by cases args; simp_all
 obtain ⟨rfl, rfl⟩ := trodVars_none hV
 have k0 := h0
 have lt0 : ∀ x ∈ p0, x.block < W.heap.size := by obtain ⟨m, hm⟩ := k0; exact DataW.trod_lt m _ _ _ hm
 obtain ⟨a0, len0, cap0, rfl⟩ := okWide_slice Tryz.underlying22 (hval 0 22 v0 rfl rfl)
 obtain ⟨fuel0, hf0⟩ := h0
 obtain ⟨L, rfl, hrd0, hws, hl⟩ := Lc.openK (a0 := a0) (len0 := len0) (cap0 := cap0) hf0
 have k1 := h1
 have lt1 : ∀ x ∈ p1, x.block < W.heap.size := by obtain ⟨m, hm⟩ := k1; exact DataW.trod_lt m _ _ _ hm
 obtain ⟨a1, len1, cap1, rfl⟩ := okWide_slice Tryz.underlying23 (hval 1 23 v1 rfl rfl)
 obtain ⟨fuel1, hf1⟩ := h1
 obtain ⟨C, rfl, hrd1, hzC, hmC⟩ := Nu.openI (a0 := a1) (len0 := len1) (cap0 := cap1) hf1
 have k2 := h2
 have lt2 : ∀ x ∈ p2, x.block < W.heap.size := by obtain ⟨m, hm⟩ := k2; exact DataW.trod_lt m _ _ _ hm
 obtain ⟨x2, y2, u2, z2, m2, rfl, _, _, hu2, hz2⟩ := open_agg2 Tryz.underlying36 (by kernel_rfl) Lg.cellsLog (hval 2 36 v2 rfl rfl) h2
 obtain ⟨so, qo, S, T, sc, tc, f, rfl, rfl, hin, hS, hT, hTT, hsb⟩ := Lg.openLog hu2 hz2
 obtain ⟨x3, rfl, rfl, rfl, w3⟩ := open_int Tryz.underlying2 (hval 3 2 v3 rfl rfl) h3
 clear hA0 hval0
 simp only [List.append_nil] at hW'
 refine (walk (fun L C S T s hlL hwL hlC h0 h1 g c so sc qo tc f W h2 h3 h4 h5 h6 => Lo.implLogged g 0 L.length L (some ⟨c, 0, none⟩) C.length C so qo sc tc S T f s W (by omega) hwL h2 hlC h4 (fun x e => by injection e with e; injection e with e; subst e; exact h5) h6.rd h6.s20 h6.t20 (fun i hi => h6.sb (S.getD i 0) (by simp [List.getD, List.getElem?_eq_getElem hi])) h0 h1) a0 cap0 L a1 cap1 C so sc S qo tc T f x3 W hl hws hrd0 hmC hrd1 hS hT hTT hsb hin (int_bd w3)).mono fun e W' ⟨he, bel⟩ => ?_
 subst he
 exact ⟨_, rfl, _, _, _, [], _, [], hW', trodAll_mk1 (shut_bool Tryz.underlying4 _), (trodAll_cons_mk (Below.trod laidOut (by kernel_rfl) (of_decide_eq_true (by kernel_rfl)) k0 bel lt0) (trodAll_cons_mk (Below.trod laidOut (by kernel_rfl) (of_decide_eq_true (by kernel_rfl)) k1 bel lt1) (trodAll_cons_mk (Below.trod laidOut (by kernel_rfl) (of_decide_eq_true (by kernel_rfl)) k2 bel lt2) (trodAll_cons_mk (shut_int Tryz.underlying2 w3) trodAll_mk0)))), rfl, bel.frame _, fun h => by cases h⟩
theorem over : Rows.fnExactLoggedRow.holds Tryz.pinned (OpenSpec.ofChange Rows.fnExactLoggedSpec) :=
 OpenClaim.holds_of_wide 5 Tryz.f5 rfl rfl rfl rfl rfl rfl rfl ⟨rfl, rfl, rfl, rfl, rfl⟩ rfl rfl rfl rfl rfl (by kernel_rfl) Tryz.func5 (by kernel_rfl)
   (of_decide_eq_true (by kernel_rfl)) (by unfold Func.isWrapper; first | (rw [if_pos (by decide +kernel)]; kernel_rfl) | (rw [if_neg (by decide +kernel)]; exact ⟨rfl, rfl⟩))
   (fun os started H enc _ => lifted os started H enc)
theorem proved : Rows.FnExactLoggedSaid :=
 over
end Go.Proofs.YtjnhniffgeepjaaGreat.fnExactLogged
