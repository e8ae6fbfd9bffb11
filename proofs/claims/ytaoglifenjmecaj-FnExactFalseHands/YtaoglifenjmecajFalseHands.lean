/-
  FnExactFalseHands answers true at every argument, for FalseHands answers as its model does, writes into no argument, and its answer owns its memory; no condition.
-/
import Derived.Test.YtaoglifenjmecajRows
import Derived.WalkKit
import Derived.ProofKit
import Derived.OpenShut
import Derived.ChangeOld
import Derived.Below
import Derived.Lib.SmallJoins
import Derived.Test.YtaoglifenjmecajLaceG
import Derived.Test.YtaoglifenjmecajDoubR
import Derived.Test.YtaoglifenjmecajMarkI
import Derived.Test.YtaoglifenjmecajTieA
namespace Go.Proofs.Ytaoglifenjmecaj.fnExactFalseHands
open Go.ChangeShapes Go.WideShapes Go.ChangeAt Go.RowKit Go.Joins
open Kn (K)
open Lc (RdK)
set_option linter.unusedVariables false
set_option maxRecDepth 100000

theorem own : ownKnob Try.prog.godebug = none := by kernel_rfl
theorem laidOut : laidOutB Try.prog = true := by kernel_rfl
theorem words {L : List K} (h : Lc.Small L) : Lc.WordsOk L := fun k hk => by have := h.2 k hk; omega

theorem trI {H : Type} {enc : TypeId × Value → H} {w : World} {base : Nat} {spare : Nat → Bool} {held : Bool} (a : Int) (wa : (Lit.int .i64 a).wf = true) : ∃ n, DataW.trod enc Try.prog w base spare held n 2 [.int .i64 a] = some (.lit (.int .i64 a), []) :=
  ⟨1, by simp [DataW.trod, Try.underlying2, wa]⟩
theorem trS {H : Type} {enc : TypeId × Value → H} {w : World} {base : Nat} {spare : Nat → Bool} {held : Bool} (a : ByteArray) (wa : a.size ≤ maxLen) : ∃ n, DataW.trod enc Try.prog w base spare held n 9 [.string a] = some (.lit (.string a.data.toList), []) :=
  ⟨1, by simp [DataW.trod, Try.underlying9, wa]⟩
theorem int_bd {a : Int} (w : (Lit.int .i64 a).wf = true) : -9223372036854775808 ≤ a ∧ a ≤ 9223372036854775807 := by
  simpa [Lit.wf, IntKind.min, IntKind.max, IntKind.signed, IntKind.bits] using w

theorem own_grown {B q : Nat} {w w' : World} {ao : Option Addr} {cap : Nat} {l : List Int} (h : Memb.Own B w ao cap l) (hg : w.grownBy w' (some q)) (hne : ∀ g, ao = some ⟨g, 0, none⟩ → g ≠ q) : Memb.Own B w' ao cap l := by
  have hlt := World.ownsRow.lt h
  unfold Memb.Own at *
  obtain ⟨h1, h2⟩ := h
  refine ⟨h1, ?_⟩
  rcases h2 with h2 | ⟨g, cap', cur, hv, hB, hc, rest⟩
  · exact .inl h2
  · refine .inr ⟨g, cap', cur, hv, hB, ?_, rest⟩
    simp only [Value.slice.injEq] at hv
    obtain ⟨rfl, _, _⟩ := hv
    rw [hg.block g (hlt g rfl).2 (fun e => hne g rfl (by cases e; rfl))]; exact hc
theorem own_far {B : Nat} {w : World} {ao : Option Addr} {cap : Nat} {l : List Int} (h : Memb.Own B w ao cap l) : ∀ g, ao = some ⟨g, 0, none⟩ → B ≤ g ∧ g < w.heap.size := fun g e => by
  subst e; exact World.ownsRow.lt h g rfl
theorem made_fill {w : World} {B n j : Nat} {L : List K} (h : Lc.Made w B n L j) (f : Nat → Value) : Lc.Fill w B n f 0 := ⟨h.lt, fun i hi => by omega, h.ex, h.fr⟩

/-- what lies where: the list handed in, the model's answer, the program's answer -/
structure St (b q q2 : Nat) (L : List K) (l : List Int) (ao go : Option Addr) (ac gc : Nat) (w0 w : World) : Prop where
  bel : Below b w0 w
  x : Lc.Made w q L.length L L.length
  s : Memb.Own b w ao ac l
  g : Memb.Own q2 w go gc l
theorem St.le {b q q2 : Nat} {L : List K} {l : List Int} {ao go : Option Addr} {ac gc : Nat} {w0 w : World} (h : St b q q2 L l ao go ac gc w0 w) (hbq : b ≤ q) : b ≤ w.heap.size := Nat.le_trans hbq (Nat.le_of_lt h.x.lt)
theorem St.below {b q q2 : Nat} {L : List K} {l : List Int} {ao go : Option Addr} {ac gc : Nat} {w0 w w' : World} (h : St b q q2 L l ao go ac gc w0 w) (hb : Below w.heap.size w w') (hbq : b ≤ q) : St b q q2 L l ao go ac gc w0 w' where
  bel := h.bel.trans (hb.mono (h.le hbq))
  x := h.x.below hb
  s := Lst.own_below h.s hb
  g := Lst.own_below h.g hb

theorem below_drewN {b : Nat} {a w : World} (h : Below b a w) (n : Nat) : Below b a (w.drewN n) := ⟨h.os, h.tape, h.output, h.size, h.block⟩
theorem rd_below {n : Nat} {w w' : World} {ao : Option Addr} {l : List Int} (h : Lst.Rd w ao l) (hf : ∀ g, ao = some ⟨g, 0, none⟩ → g < n) (hb : Below n w w') : Lst.Rd w' ao l := by
  rcases h with h | ⟨g, e, hc⟩
  · exact .inl h
  · exact .inr ⟨g, e, fun j hj => (hb.cell (p := ⟨g, j, none⟩) (hf g e)).trans (hc j hj)⟩

set_option maxHeartbeats 6400000 in
theorem walk (a0 : Option Addr) (cap0 : Nat) (L : List K) (s : Int) (hs : -9223372036854775808 ≤ s ∧ s ≤ 9223372036854775807) (w : World) (hl : L.length ≤ maxLen) (hws : ∀ k ∈ L, k.word.size ≤ maxLen) (hr : RdK w a0 L) :
    Calls Try.prog 5 #[.slice a0 L.length cap0, .int .i64 s] w fun e w' => e = .returned (.bool true) ∧ Below w.heap.size w w' := by
  have hle' := Db.falseI_le L s
  go_enter Try.func5, Try.ntmps5
  go_wp2_with fail
  refine (Lc.szKnotS a0 cap0 L 1048576 _ hl hws (by omega) (by omega) hr).mono ?_
  rintro e w1 ⟨r, rfl, hr0, hr1, hsm, hb1⟩
  have hr_1 := hr.below hb1
  have HSM : Hid (0 ≤ r → Lc.Small L) := hsm
  clear hsm
  by_cases hneg : r < 0
  · go_wp2
    go_ret
    exact ⟨rfl, hb1⟩
  · have hS := HSM.out (by omega)
    have HW : Hid (Lc.WordsOk L) := words hS
    have hlen := hS.1
    have HR : Hid (RdK w a0 L) := hr
    have HSPEC : Hid (∀ (W : World) (g off : Nat), RdK W (some ⟨g, off, none⟩) L → Calls Try.prog 16 #[.slice (some ⟨g, off, none⟩) L.length L.length, .int .i64 s] W (Sg.NumsPost (Db.falseI L s) W)) := fun W g off h => Db.specFalseHands g off L.length L s W (Nat.le_refl _) HW.out h
    have HIMPL : Hid (∀ (W : World) (g off : Nat), RdK W (some ⟨g, off, none⟩) L → Calls Try.prog 17 #[.slice (some ⟨g, off, none⟩) L.length L.length, .int .i64 s] W (Sg.NumsPost (Db.falseI L s) W)) := fun W g off h => Db.implFalseHands g off L.length L s W (by omega) HW.out hs.1 hs.2 h
    clear HSM hl hws hS hr
    generalize (Db.falseI L s) = l at HSPEC HIMPL hle'
    go_wp2_with fail
    refine (Lc.toKnotS a0 cap0 L _ hlen hr_1).mono ?_
    rintro e w2 ⟨rfl, hm2, hb2⟩
    have B2 := hb1.trans (hb2.mono hb1.size)
    have hrd2 := Lc.made_rd hm2
    clear hb1 hb2 hr_1 hm2
    generalize w1.heap.size = q1 at hrd2 ⊢
    go_wp2_with fail
    refine (HSPEC.out _ _ _ hrd2).mono ?_
    rintro e w3 ⟨ao, ac, rfl, hown3, hb3⟩
    have B3 := B2.trans (hb3.mono B2.size)
    have HO3 : Hid (Memb.Own w.heap.size w3 ao ac l) := Db.own_base hown3 B2.size
    have hfar : ∀ g, ao = some ⟨g, 0, none⟩ → g < w3.heap.size := fun g e => (own_far hown3 g e).2
    have HF : Hid (∀ g, ao = some ⟨g, 0, none⟩ → g < w3.heap.size) := hfar
    have HB3 : Hid (Below w.heap.size w w3) := B3
    clear B2 hb3 hrd2 hown3 hfar B3 HSPEC
    go_wp2_with fail
    refine (Lc.toKnotS a0 cap0 L _ hlen (HR.out.below HB3.out)).mono ?_
    rintro e w4 ⟨rfl, hm4, hb4⟩
    have HB4 : Hid (Below w.heap.size w w4) := HB3.out.trans (hb4.mono HB3.out.size)
    have HM4 : Hid (Lc.Made w4 w3.heap.size L.length L L.length) := hm4
    have HO4 : Hid (Memb.Own w.heap.size w4 ao ac l) := Lst.own_below HO3.out hb4
    have hbq : w.heap.size ≤ w3.heap.size := HB3.out.size
    clear hb4 hm4 HO3 HB3
    generalize w3.heap.size = q3 at HF HM4 hbq ⊢
    go_wp2_with fail
    refine (HIMPL.out _ _ _ (Lc.made_rd HM4.out)).mono ?_
    rintro e w5 ⟨go, gc, rfl, hown5, hb5⟩
    have HS5 : Hid (St w.heap.size q3 w4.heap.size L l ao go ac gc w w5) := ⟨HB4.out.trans (hb5.mono HB4.out.size), HM4.out.below hb5, Lst.own_below HO4.out hb5, hown5⟩
    have hq2 : q3 < w4.heap.size := HM4.out.lt
    have H5 : Hid (w4.heap.size ≤ w5.heap.size) := hb5.size
    clear HB4 HM4 HO4 hb5 hown5
    generalize w4.heap.size = q4 at HS5 hq2 H5
    go_wp2_with fail
    refine (Lsx.alike _ _ _ _ _ _ (by omega) (Lst.own_rd HS5.out.g) (Lst.own_rd HS5.out.s)).mono ?_
    rintro e w6 ⟨rfl, n6, rfl⟩
    have HS6 : Hid (St w.heap.size q3 q4 L l ao go ac gc w (w5.drewN n6)) := HS5.out.below (below_drewN (Below.refl _ _) n6) hbq
    have H6 : Hid (q4 ≤ (w5.drewN n6).heap.size) := H5.out
    clear HS5 H5
    generalize w5.drewN n6 = v6 at HS6 H6 ⊢
    go_wp2_with fail
    refine (Lc.toKnotS a0 cap0 L _ hlen (HR.out.below HS6.out.bel)).mono ?_
    rintro e w7 ⟨rfl, hm7, hb7⟩
    have HS7 : Hid (St w.heap.size q3 q4 L l ao go ac gc w w7) := HS6.out.below hb7 hbq
    have HM7 : Hid (Lc.Made w7 v6.heap.size L.length L L.length) := hm7
    have H7 : Hid (q4 ≤ w7.heap.size) := Nat.le_trans H6.out hb7.size
    clear hm7 hb7 HS6 H6
    generalize v6.heap.size = q6 at HM7 ⊢
    go_wp2_with fail
    refine (Lc.eqKnotS _ _ _ _ _ _ L _ hlen (Lc.made_rd HS7.out.x) (Lc.made_rd HM7.out)).mono ?_
    rintro e w8 ⟨rfl, hb8⟩
    have HS8 : Hid (St w.heap.size q3 q4 L l ao go ac gc w w8) := HS7.out.below hb8 hbq
    have H8 : Hid (q4 ≤ w8.heap.size) := Nat.le_trans H7.out hb8.size
    clear hb8 HS7 HM7 H7
    go_wp2_with fail
    refine (Lc.markKnotS q3 L.length L.length _ (by omega) (made_fill HS8.out.x _)).mono ?_
    rintro e w9 ⟨rfl, _, hg9⟩
    have HB9 : Hid (Below w.heap.size w w9) := HS8.out.bel.grown hg9 (HS8.out.le hbq) (fun j hj => by simp at hj; omega)
    have HO9 : Hid (Memb.Own w.heap.size w9 ao ac l) := own_grown HS8.out.s hg9 (fun g e => by have := HF.out g e; omega)
    have HG9 : Hid (Memb.Own q4 w9 go gc l) := own_grown HS8.out.g hg9 (fun g e => by have := (own_far HS8.out.g g e).1; omega)
    have h9 : q4 ≤ w9.heap.size := Nat.le_trans (show q4 ≤ w8.heap.size from H8.out) hg9.size
    have hnn : ¬ 1 + (L.length : Int) * 4 < 0 := by omega
    clear HS8 hg9
    go_wp2_with fail
    refine (Lsx.alike _ _ _ _ _ _ (by omega) (Lst.own_rd HG9.out) (Lst.own_rd HO9.out)).mono ?_
    rintro e w10 ⟨rfl, n10, rfl⟩
    have HB10 : Hid (Below w.heap.size w (w9.drewN n10)) := below_drewN HB9.out n10
    have HO10 : Hid (Memb.Own w.heap.size (w9.drewN n10) ao ac l) := Lst.own_drewN HO9.out n10
    have HG10 : Hid (Memb.Own q4 (w9.drewN n10) go gc l) := Lst.own_drewN HG9.out n10
    have h10 : q4 ≤ (w9.drewN n10).heap.size := h9
    clear HB9 HO9 HG9 h9
    generalize w9.drewN n10 = v10 at HB10 HO10 HG10 h10 ⊢
    go_wp2_with fail
    refine (Lsx.mark 1 _ _ _ _ _ (by omega) (by omega) (by omega) HG10.out).mono ?_
    rintro e w11 ⟨rfl, hown11, hb11⟩
    have HB11 : Hid (Below w.heap.size w w11) := HB10.out.trans (hb11.mono (by omega))
    have HO11 : Hid (Lst.Rd w11 ao l) := rd_below (Lst.own_rd HO10.out) (fun g e => by have := HF.out g e; omega) hb11
    have HG11 : Hid (Memb.Own q4 w11 go gc (Lsx.marks 1 l.length)) := hown11
    have h11 : q4 ≤ w11.heap.size := Nat.le_trans h10 hb11.size
    clear HB10 HO10 HG10 hown11 hb11 h10
    go_wp2_with fail
    refine (Lsx.held 1 _ _ _ _ (by omega) (by omega) (by omega) (Lst.own_rd HG11.out)).mono ?_
    rintro e w12 ⟨rfl, rfl⟩
    have hnn2 : ¬ 1 + (l.length : Int) < 0 := by omega
    go_wp2_with fail
    refine (Lc.toKnotS a0 cap0 L _ hlen (HR.out.below HB11.out)).mono ?_
    rintro e w13 ⟨rfl, hm13, hb13⟩
    have HB13 : Hid (Below w.heap.size w w13) := HB11.out.trans (hb13.mono HB11.out.size)
    have HO13 : Hid (Lst.Rd w13 ao l) := rd_below HO11.out (fun g e => by have := HF.out g e; omega) (hb13.mono h11)
    have HG13 : Hid (Lst.Rd w13 go (Lsx.marks 1 l.length)) := Lst.own_rd (Lst.own_below HG11.out hb13)
    have HF13 : Hid (∀ g, go = some ⟨g, 0, none⟩ → g < w11.heap.size) := fun g e => (own_far HG11.out g e).2
    have hle13 : w11.heap.size ≤ w13.heap.size := hb13.size
    have hrd13 := Lc.made_rd hm13
    clear HB11 HO11 HG11 hm13 hb13
    generalize w11.heap.size = q11 at HF13 hrd13 hle13 h11 ⊢
    go_wp2_with fail
    refine (HIMPL.out _ _ _ hrd13).mono ?_
    rintro e w14 ⟨ho, hc, rfl, hown14, hb14⟩
    have HB14 : Hid (Below w.heap.size w w14) := HB13.out.trans (hb14.mono HB13.out.size)
    have HO14 : Hid (Lst.Rd w14 ao l) := rd_below HO13.out (fun g e => by have := HF.out g e; omega) (hb14.mono (Nat.le_trans h11 hle13))
    have HG14 : Hid (Lst.Rd w14 go (Lsx.marks 1 l.length)) := rd_below HG13.out (fun g e => HF13.out g e) (hb14.mono hle13)
    have HH14 : Hid (Lst.Rd w14 ho l) := Lst.own_rd hown14
    clear HB13 HO13 HG13 hown14 hb14 hrd13
    go_wp2_with fail
    refine (Lsx.alike _ _ _ _ _ _ (by omega) HH14.out HO14.out).mono ?_
    rintro e w15 ⟨rfl, n15, rfl⟩
    have HG15 : Hid (Lst.Rd (w14.drewN n15) go (Lsx.marks 1 l.length)) := HG14.out
    have HB15 : Hid (Below w.heap.size w (w14.drewN n15)) := below_drewN HB14.out n15
    clear HG14 HB14 HH14 HO14
    generalize w14.drewN n15 = v15 at HG15 HB15 ⊢
    go_wp2_with fail
    refine (Lsx.held 1 _ _ _ _ (by omega) (by omega) (by omega) HG15.out).mono ?_
    rintro e w16 ⟨rfl, rfl⟩
    go_wp2
    go_ret
    exact ⟨rfl, HB15.out⟩

theorem lifted (os : Os) (started : os.Started) (H : Type) (enc : TypeId × Value → H) :
    ReturnsInHanded {} Try.checked os 5 .any (Rows.fnExactFalseHandsSpec.pre6 enc Try.prog Try.f5 Rows.fnExactFalseHandsRow.domain false) (Rows.fnExactFalseHandsSpec.post enc Try.prog Try.f5 false true false false) := by
  refine returnsInHanded_of_change (C := Try.checked) own started (by kernel_rfl) Try.func5
    (ChangeSpec.witness6 (enc := enc) (C := Try.checked) false ⟨#[], #[.slice none 0 0, .int .i64 0], []⟩ 8 (by kernel_rfl) (by kernel_rfl) (by kernel_rfl) (by kernel_rfl)) ?_
  intro W base args ds gs before hval0 hW hcnd _
  have hval : ∀ (j : Nat) t v, Try.f5.params[j]? = some t → args[j]? = some v → Value.okWide Try.prog W .any base t v := hval0
  have hW' := hW
  obtain ⟨p, q, hA0, hV, rfl, hfz, hnd⟩ := hW
  have hA : DataW.TrodAll enc Try.prog W 0 (fun _ => true) true Try.f5.params.toList args.toList ds p := hA0
  rw [Try.params5] at hA hval
  obtain ⟨v0, vs0, d0, ds0, p0, q0, hargs, rfl, rfl, h0, r0⟩ := trodAll_cons hA
  obtain ⟨v1, vs1, d1, ds1, p1, q1, rfl, rfl, rfl, h1, r1⟩ := trodAll_cons r0
  obtain ⟨rfl, rfl, rfl⟩ := trodAll_nil r1
  obtain rfl : args = #[v0, v1] := by cases args; simp_all
  obtain ⟨rfl, rfl⟩ := trodVars_none hV
  obtain ⟨a0, len0, cap0, rfl⟩ := okWide_slice Try.underlying22 (hval 0 22 v0 rfl rfl)
  have k0 := h0
  have lt0 : ∀ x ∈ p0, x.block < W.heap.size := by obtain ⟨m, hm⟩ := k0; exact DataW.trod_lt m _ _ _ hm
  obtain ⟨fuel, hf⟩ := h0
  obtain ⟨L, rfl, hrd, hws, hl⟩ := Lc.openK (a0 := a0) (len0 := len0) (cap0 := cap0) hf
  obtain ⟨x1, rfl, rfl, rfl, w1⟩ := open_int Try.underlying2 (hval 1 2 v1 rfl rfl) h1

  clear hA0 hval0
  simp only [List.append_nil] at hW'
  refine (walk a0 cap0 L x1 (int_bd w1) W hl hws hrd).mono fun e W' ⟨he, bel⟩ => ?_
  subst he
  exact ⟨_, rfl, _, _, _, [], _, [], hW', trodAll_mk1 (shut_bool Try.underlying4 _), (trodAll_cons_mk (Below.trod laidOut (by kernel_rfl) (of_decide_eq_true (by kernel_rfl)) k0 bel lt0) (trodAll_cons_mk (shut_int Try.underlying2 w1) trodAll_mk0)), rfl, bel.frame _, fun h => by cases h⟩

theorem over : Rows.fnExactFalseHandsRow.holds Try.pinned (OpenSpec.ofChange Rows.fnExactFalseHandsSpec) :=
  OpenClaim.holds_of_wide 5 Try.f5 rfl rfl rfl rfl rfl rfl rfl ⟨rfl, rfl, rfl, rfl, rfl⟩ rfl rfl rfl rfl rfl (by kernel_rfl) Try.func5 (by kernel_rfl)
    (of_decide_eq_true (by kernel_rfl)) (by unfold Func.isWrapper; first | (rw [if_pos (by decide +kernel)]; kernel_rfl) | (rw [if_neg (by decide +kernel)]; exact ⟨rfl, rfl⟩))
    (fun os started H enc _ => lifted os started H enc)

theorem proved : Rows.FnExactFalseHandsSaid :=
  over
end Go.Proofs.Ytaoglifenjmecaj.fnExactFalseHands
