/-
  FnExactCanTie answers true at every argument, for CanTie answers as its model does; no condition.
-/
import Derived.Test.YtaoglifenjmecahRows
import Derived.WalkKit
import Derived.ProofKit
import Derived.OpenShut
import Derived.ChangeOld
import Derived.Below
import Derived.Lib.SmallJoins
import Derived.Test.YtaoglifenjmecahLaceG
import Derived.Test.YtaoglifenjmecahLaceE
namespace Go.Proofs.Ytaoglifenjmecah.fnExactCanTie
open Go.ChangeShapes Go.WideShapes Go.ChangeAt Go.RowKit Go.Joins
open Kn (K)
open Lc (RdK)
set_option linter.unusedVariables false
set_option maxRecDepth 100000

theorem own : ownKnob Try.prog.godebug = none := by kernel_rfl
theorem laidOut : laidOutB Try.prog = true := by kernel_rfl
theorem words {L : List K} (h : Lc.Small L) : Lc.WordsOk L := fun k hk => by have := h.2 k hk; omega

theorem trI {H : Type} {enc : TypeId × Value → H} {w : World} {base : Nat} {spare : Nat → Bool} {held : Bool} (a : Int) (wa : (Lit.int .i64 a).wf = true) : ∃ n, DataW.trod enc Try.prog w base spare held n 2 [.int .i64 a] = some (.lit (.int .i64 a), []) :=
  ⟨1, by simp [DataW.trod, Try.underlying2, wa]⟩
theorem trS {H : Type} {enc : TypeId × Value → H} {w : World} {base : Nat} {spare : Nat → Bool} {held : Bool} (a : ByteArray) (wa : a.size ≤ maxLen) : ∃ n, DataW.trod enc Try.prog w base spare held n 9 [.string a] = some (.lit (.string a.data.toList), []) :=
  ⟨1, by simp [DataW.trod, Try.underlying9, wa]⟩
theorem int_bd {a : Int} (w : (Lit.int .i64 a).wf = true) : -9223372036854775808 ≤ a ∧ a ≤ 9223372036854775807 := by
  simpa [Lit.wf, IntKind.min, IntKind.max, IntKind.signed, IntKind.bits] using w

theorem undrew {w w' : World} (h : Below w.drew.heap.size w.drew w') : Below w.heap.size w w' := ⟨h.os, h.tape, h.output, h.size, h.block⟩
theorem chain3 {w x y z : World} (h1 : Below w.drew.heap.size w.drew x) (h2 : Below x.heap.size x y) (h3 : Below y.heap.size y z) : Below w.heap.size w z :=
  ((undrew h1).trans (h2.mono (undrew h1).size)).trans (h3.mono (Nat.le_trans (undrew h1).size h2.size))

set_option maxHeartbeats 3200000 in
theorem walk (a0 : Option Addr) (cap0 : Nat) (L : List K) (k : K) (hk : k.word.size ≤ maxLen) (w : World) (hl : L.length ≤ maxLen) (hws : ∀ k ∈ L, k.word.size ≤ maxLen) (hr : RdK w a0 L) :
    Calls Try.prog 5 #[.slice a0 L.length cap0, .agg #[.int .i64 k.hand, .int .i64 k.round, .int .i64 k.frm, .string k.word]] w fun e w' => e = .returned (.bool true) ∧ Below w.heap.size w w' := by
  have P0 : Hid (Below w.heap.size w (w.alloc (.cells #[.int .i64 k.hand, .int .i64 k.round, .int .i64 k.frm, .string k.word] 23)) ∧ Lc.CellsK (w.alloc (.cells #[.int .i64 k.hand, .int .i64 k.round, .int .i64 k.frm, .string k.word] 23)) w.heap.size 0 k ∧ w.heap.size < (w.alloc (.cells #[.int .i64 k.hand, .int .i64 k.round, .int .i64 k.frm, .string k.word] 23)).heap.size) :=
    ⟨(Below.refl _ _).alloc (Nat.le_refl _) _, ⟨by simp, by simp, by simp, by simp⟩, by simp⟩
  go_enter Try.func5, Try.ntmps5
  go_wp2_with fail
  generalize w.alloc (.cells #[.int .i64 k.hand, .int .i64 k.round, .int .i64 k.frm, .string k.word] 23) = w0 at P0 ⊢
  obtain ⟨B0, C0, S0⟩ := P0
  have hr_0 := hr.below B0
  generalize hb : w.heap.size = b at *
  refine (Lc.szKnotS a0 cap0 L 1048576 _ hl hws (by omega) (by omega) hr_0).mono ?_
  rintro e w1 ⟨r, rfl, hr0, hr1, hsm, hb1⟩
  have hr_1 := hr_0.below hb1
  have HSM : Hid (0 ≤ r → Lc.Small L) := hsm
  have B1 := B0.trans (hb1.mono (Nat.le_of_lt S0))
  have S1 : b < w1.heap.size := Nat.lt_of_lt_of_le S0 hb1.size
  have C1 := C0.below hb1 S0
  clear hsm hb1 B0 S0 C0 hr_0
  by_cases hneg : r < 0
  · clear C1
    go_wp2
    go_ret
    exact ⟨rfl, by first | exact B1 | (rw [hb]; exact B1)⟩
  · have hS := HSM.out (by omega)
    have HW : Hid (Lc.WordsOk L) := words hS
    have hlen := hS.1
    clear HSM hl hws hS
    have HC1 : Hid (Lc.CellsK w1 b 0 k) := C1
    obtain ⟨c0, c1, c2, c3⟩ := C1
    rw [Nat.zero_add] at c1 c2 c3
    go_wp2_with fail
    refine (Kn.szKnot _ _ _ _ r _ hk (by omega) (by omega)).mono ?_
    rintro e w2 ⟨rfl, hb2⟩
    have B2 := B1.trans (hb2.mono (Nat.le_of_lt S1))
    have S2 : b < w2.heap.size := Nat.lt_of_lt_of_le S1 hb2.size
    have hr_2 := hr_1.below hb2
    have HC2 : Hid (Lc.CellsK w2 b 0 k) := HC1.out.below hb2 S1
    clear B1 hb2 hr_1 HC1 c0 c1 c2 c3 S1
    by_cases hbig : r < (k.word.size : Int)
    · rw [Lc.szI_lo _ _ hbig]
      clear hbig
      go_wp2
      go_ret
      exact ⟨rfl, by first | exact B2 | (rw [hb]; exact B2)⟩
    · rw [Lc.szI_hi _ _ hbig]
      have hnn : ¬ r - (k.word.size : Int) < 0 := by omega
      have hk2 : k.word.size ≤ 1048576 := by omega
      clear hbig hk
      obtain ⟨c0, c1, c2, c3⟩ := HC2.out
      rw [Nat.zero_add] at c1 c2 c3
      have HR2 : Hid (RdK w2 a0 L) := hr_2
      have HB2 : Hid (Below b w w2) := B2
      clear hr_2 B2
      go_wp2_with fail
      go_region_with (first
        | (go_at_call 13; refine (Lc.toKnotS a0 cap0 L _ hlen (by first | exact HR2.out.drew | exact HR2.out.drew.below HbB.out)).mono ?_; rintro e wA ⟨rfl, hmA, hbA⟩; (try have cA0 := (hbA.cell (p := ⟨b, 0, none⟩) S2).trans c0); (try have cA1 := (hbA.cell (p := ⟨b, 1, none⟩) S2).trans c1); (try have cA2 := (hbA.cell (p := ⟨b, 2, none⟩) S2).trans c2); (try have cA3 := (hbA.cell (p := ⟨b, 3, none⟩) S2).trans c3); have HmA : Hid _ := hmA; have HbA : Hid _ := hbA; clear hmA hbA)
        | (go_at_call 9; refine (Kn.toKnot _ _ _ _ _).mono ?_; rintro e wB ⟨rfl, hbB⟩; have HbB : Hid _ := hbB; clear hbB)
        | (go_at_call 16; refine (Lc.specCanTie _ _ _ L k _ (Nat.le_refl _) HW.out (by omega) (by first | exact Lc.made_rd HmA.out | exact (Lc.made_rd HmA.out).below HbB.out)).mono ?_; rintro e wC ⟨rfl, hbC⟩))
      all_goals
        have B23 : Below w2.heap.size w2 wC := by first | exact chain3 HbA.out HbB.out hbC | exact chain3 HbB.out HbA.out hbC
        have hr_3 := HR2.out.below B23
        have B3 := HB2.out.trans (B23.mono (Nat.le_of_lt S2))
        have HC3 : Hid (Lc.CellsK wC b 0 k) := HC2.out.below B23 S2
        have S3 : b < wC.heap.size := Nat.lt_of_lt_of_le S2 B23.size
        clear B23 hbC HR2 HB2 HC2 HbA HbB HmA
        clear c0 c1 c2 c3
        try clear cA0 cA1 cA2 cA3
        go_wp2_with fail
        refine (Lc.toKnotS a0 cap0 L _ hlen hr_3).mono ?_
        rintro e w4 ⟨rfl, hm4, hb4⟩
        have B4 := B3.trans (hb4.mono (Nat.le_of_lt S3))
        have S4 : b < w4.heap.size := Nat.lt_of_lt_of_le S3 hb4.size
        have hr_4 := hr_3.below hb4
        have hrd4 := Lc.made_rd hm4
        have HC4 : Hid (Lc.CellsK w4 b 0 k) := HC3.out.below hb4 S3
        clear B3 hb4 hr_3 hm4 HC3 S3
        generalize wC.heap.size = q3 at hrd4 ⊢
        obtain ⟨c0, c1, c2, c3⟩ := HC4.out
        rw [Nat.zero_add] at c1 c2 c3
        go_wp2_with fail
        refine (Kn.toKnot _ _ _ _ _).mono ?_
        rintro e w4' ⟨rfl, hb4⟩
        replace B4 := B4.trans (hb4.mono (Nat.le_of_lt S4))
        replace hr_4 := hr_4.below hb4
        replace hrd4 := hrd4.below hb4
        replace S4 : b < w4'.heap.size := Nat.lt_of_lt_of_le S4 hb4.size
        clear hb4 c0 c1 c2 c3 HC4
        go_wp2_with fail
        refine (Lc.implCanTie _ _ _ L k _ (by omega) HW.out (by omega) hrd4).mono ?_
        rintro e w5 ⟨rfl, hb5⟩
        have B5 := B4.trans (hb5.mono (Nat.le_of_lt S4))
        have S5 : b < w5.heap.size := Nat.lt_of_lt_of_le S4 hb5.size
        have hr_5 := hr_4.below hb5
        have hrd5 := hrd4.below hb5
        clear B4 hb5 hr_4 hrd4 S4
        go_wp2_with fail
        refine (Lc.toKnotS a0 cap0 L _ hlen hr_5).mono ?_
        rintro e w6 ⟨rfl, hm6, hb6⟩
        have B6 := B5.trans (hb6.mono (Nat.le_of_lt S5))
        have S6 : b < w6.heap.size := Nat.lt_of_lt_of_le S5 hb6.size
        have hrd6 := hrd5.below hb6
        have hrd6' := Lc.made_rd hm6
        clear B5 hb6 hrd5 hm6 S5
        generalize w5.heap.size = q5 at hrd6' ⊢
        go_wp2_with fail
        refine (Lc.eqKnotS _ _ _ _ _ _ L _ hlen hrd6 hrd6').mono ?_
        rintro e w7 ⟨rfl, hb7⟩
        have B7 := B6.trans (hb7.mono (Nat.le_of_lt S6))
        clear B6 hb7 hrd6 hrd6'
        go_wp2
        go_ret
        exact ⟨rfl, by first | exact B7 | (rw [hb]; exact B7)⟩
theorem lifted (os : Os) (started : os.Started) (H : Type) (enc : TypeId × Value → H) :
    ReturnsInHanded {} Try.checked os 5 .any (Rows.fnExactCanTieSpec.pre6 enc Try.prog Try.f5 Rows.fnExactCanTieRow.domain false) (Rows.fnExactCanTieSpec.post enc Try.prog Try.f5 false true false false) := by
  refine returnsInHanded_of_change (C := Try.checked) own started (by kernel_rfl) Try.func5
    (ChangeSpec.witness6 (enc := enc) (C := Try.checked) false ⟨#[], #[.slice none 0 0, .agg #[.int .i64 0, .int .i64 0, .int .i64 0, .string ByteArray.empty]], []⟩ 8 (by kernel_rfl) (by kernel_rfl) (by kernel_rfl) (by kernel_rfl)) ?_
  intro W base args ds gs before hval0 hW hcnd _
  have hval : ∀ (j : Nat) t v, Try.f5.params[j]? = some t → args[j]? = some v → Value.okWide Try.prog W .any base t v := hval0
  have hW' := hW
  obtain ⟨p, q, hA0, hV, rfl, hfz, hnd⟩ := hW
  have hA : DataW.TrodAll enc Try.prog W 0 (fun _ => true) true Try.f5.params.toList args.toList ds p := hA0
  rw [Try.params5] at hA hval
  obtain ⟨v0, vs0, d0, ds0, p0, q0, hargs, rfl, rfl, h0, r0⟩ := trodAll_cons hA
  obtain ⟨v1, vs1, d1, ds1, p1, q1, rfl, rfl, rfl, h1, r1⟩ := trodAll_cons r0
  obtain ⟨rfl, rfl, rfl⟩ := trodAll_nil r1
  obtain rfl : args = #[v0, v1] := by cases args; simp_all
  obtain ⟨rfl, rfl⟩ := trodVars_none hV
  obtain ⟨a0, len0, cap0, rfl⟩ := okWide_slice Try.underlying29 (hval 0 29 v0 rfl rfl)
  have k0 := h0
  have lt0 : ∀ x ∈ p0, x.block < W.heap.size := by obtain ⟨m, hm⟩ := k0; exact DataW.trod_lt m _ _ _ hm
  obtain ⟨fuel, hf⟩ := h0
  obtain ⟨L, rfl, hrd, hws, hl⟩ := Lc.openK (a0 := a0) (len0 := len0) (cap0 := cap0) hf
  obtain ⟨x0, x1, x2, x3, y0, y1, y2, y3, m, rfl, rfl, rfl, hy0, hy1, hy2, hy3⟩ := open_agg4 Try.underlying23 (by kernel_rfl) Lc.cellsKn (hval 1 23 v1 rfl rfl) h1
  obtain ⟨b0, e0, rfl, w0⟩ := DataW.trod_int Try.underlying2 hy0
  obtain ⟨b1, e1, rfl, w1⟩ := DataW.trod_int Try.underlying2 hy1
  obtain ⟨b2, e2, rfl, w2⟩ := DataW.trod_int Try.underlying2 hy2
  obtain ⟨b3, e3, rfl, w3⟩ := DataW.trod_string Try.underlying9 hy3
  simp only [List.cons.injEq, and_true] at e0 e1 e2 e3
  subst e0 e1 e2 e3

  clear hA0 hval0
  simp only [List.append_nil] at hW'
  refine (walk a0 cap0 L ⟨b0, b1, b2, b3⟩ w3 W hl hws hrd).mono fun e W' ⟨he, bel⟩ => ?_
  subst he
  exact ⟨_, rfl, _, _, _, [], _, [], hW', trodAll_mk1 (shut_bool Try.underlying4 _), (trodAll_cons_mk (Below.trod laidOut (by kernel_rfl) (of_decide_eq_true (by kernel_rfl)) k0 bel lt0) (trodAll_cons_mk (shut_agg4 (y0 := (.lit (.int .i64 b0), [])) (y1 := (.lit (.int .i64 b1), [])) (y2 := (.lit (.int .i64 b2), [])) (y3 := (.lit (.string b3.data.toList), [])) Try.underlying23 (by kernel_rfl) Lc.cellsKn (trI b0 w0) (trI b1 w1) (trI b2 w2) (trS b3 w3)) trodAll_mk0)), rfl, bel.frame _, fun h => by cases h⟩

theorem over : Rows.fnExactCanTieRow.holds Try.pinned (OpenSpec.ofChange Rows.fnExactCanTieSpec) :=
  OpenClaim.holds_of_wide 5 Try.f5 rfl rfl rfl rfl rfl rfl rfl ⟨rfl, rfl, rfl, rfl, rfl⟩ rfl rfl rfl rfl rfl (by kernel_rfl) Try.func5 (by kernel_rfl)
    (of_decide_eq_true (by kernel_rfl)) (by unfold Func.isWrapper; first | (rw [if_pos (by decide +kernel)]; kernel_rfl) | (rw [if_neg (by decide +kernel)]; exact ⟨rfl, rfl⟩))
    (fun os started H enc _ => lifted os started H enc)

theorem proved : Rows.FnExactCanTieSaid :=
  over
end Go.Proofs.Ytaoglifenjmecah.fnExactCanTie
