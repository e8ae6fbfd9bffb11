/-
  FnExactTied answers true at every argument, for Tied answers as its model does, writes into no argument, and its answer owns its memory; no condition.
-/
import Derived.Test.YtaoglifenjmecahRows
import Derived.WalkKit
import Derived.ProofKit
import Derived.OpenShut
import Derived.ChangeOld
import Derived.Below
import Derived.Lib.SmallJoins
import Derived.Test.YtaoglifenjmecahLaceG
import Derived.Test.YtaoglifenjmecahTieC
import Derived.Test.YtaoglifenjmecahTieA
namespace Go.Proofs.Ytaoglifenjmecah.fnExactTied
open Go.ChangeShapes Go.WideShapes Go.ChangeAt Go.RowKit Go.Joins
open Kn (K)
open Lc (RdK)
set_option linter.unusedVariables false
set_option maxRecDepth 100000

theorem own : ownKnob Try.prog.godebug = none := by kernel_rfl
theorem laidOut : laidOutB Try.prog = true := by kernel_rfl
theorem words {L : List K} (h : Lc.Small L) : Lc.WordsOk L := fun k hk => by have := h.2 k hk; omega

theorem trI {H : Type} {enc : TypeId × Value → H} {w : World} {base : Nat} {spare : Nat → Bool} {held : Bool} (a : Int) (wa : (Lit.int .i64 a).wf = true) : ∃ n, DataW.trod enc Try.prog w base spare held n 2 [.int .i64 a] = some (.lit (.int .i64 a), []) :=
  ⟨1, by simp [DataW.trod, Try.underlying2, wa]⟩
theorem trS {H : Type} {enc : TypeId × Value → H} {w : World} {base : Nat} {spare : Nat → Bool} {held : Bool} (a : ByteArray) (wa : a.size ≤ maxLen) : ∃ n, DataW.trod enc Try.prog w base spare held n 9 [.string a] = some (.lit (.string a.data.toList), []) :=
  ⟨1, by simp [DataW.trod, Try.underlying9, wa]⟩
theorem int_bd {a : Int} (w : (Lit.int .i64 a).wf = true) : -9223372036854775808 ≤ a ∧ a ≤ 9223372036854775807 := by
  simpa [Lit.wf, IntKind.min, IntKind.max, IntKind.signed, IntKind.bits] using w

theorem tied61 (L : List K) (k : K) : (Lc.tiedL L k).length ≤ 61 := by
  unfold Lc.tiedL
  split
  · rename_i h
    have := ((Lc.lace_iff L).1 h).1
    split
    · simp; omega
    · omega
  · simp

/-- what lies where: the list handed in, the model's answer, the knot -/
structure St4 (b q g : Nat) (L T : List K) (k : K) (w0 w : World) : Prop where
  bel : Below b w0 w
  x : Lc.Made w q L.length L L.length
  s : RdK w (some ⟨g, 0, none⟩) T
  kc : Lc.CellsK w b 0 k

theorem St4.le {b q g : Nat} {L T : List K} {k : K} {w0 w : World} (h : St4 b q g L T k w0 w) (hbq : b < q) : b ≤ w.heap.size := Nat.le_of_lt (Nat.lt_trans hbq h.x.lt)
theorem St4.below {b q g : Nat} {L T : List K} {k : K} {w0 w w' : World} (h : St4 b q g L T k w0 w) (hb : Below w.heap.size w w') (hbq : b < q) : St4 b q g L T k w0 w' where
  bel := h.bel.trans (hb.mono (h.le hbq))
  x := h.x.below hb
  s := h.s.below hb
  kc := h.kc.below hb (Nat.lt_trans hbq h.x.lt)

theorem made_fill {w : World} {B n j : Nat} {L : List K} (h : Lc.Made w B n L j) (f : Nat → Value) : Lc.Fill w B n f 0 := ⟨h.lt, fun i hi => by omega, h.ex, h.fr⟩

theorem cell_grown {w w' : World} {q g i : Nat} {v : Value} (hg : w.grownBy w' (some q)) (hne : g ≠ q) (h : w.cell? ⟨g, i, none⟩ = some v) : w'.cell? ⟨g, i, none⟩ = some v :=
  (hg.cell_far ⟨g, i, none⟩ (block_lt_of_cell h) (by simpa using hne)).trans h
theorem cells_grown {w w' : World} {q g o : Nat} {k : K} (h : Lc.CellsK w g o k) (hg : w.grownBy w' (some q)) (hne : g ≠ q) : Lc.CellsK w' g o k :=
  ⟨cell_grown hg hne h.c0, cell_grown hg hne h.c1, cell_grown hg hne h.c2, cell_grown hg hne h.c3⟩
theorem rd_grown {w w' : World} {q g : Nat} {T : List K} (h : RdK w (some ⟨g, 0, none⟩) T) (hg : w.grownBy w' (some q)) (hne : g ≠ q) : RdK w' (some ⟨g, 0, none⟩) T := by
  rcases h with h | ⟨g', off, ha, hlt, hc⟩
  · exact .inl h
  · injection ha with ha
    injection ha with h1 h2
    subst h1 h2
    exact .inr ⟨g, 0, rfl, Nat.lt_of_lt_of_le hlt hg.size, fun i hi => cells_grown (hc i hi) hg hne⟩
theorem made_grown {w w' : World} {q g n j : Nat} {T : List K} (h : Lc.Made w g n T j) (hg : w.grownBy w' (some q)) (hne : g ≠ q) : Lc.Made w' g n T j :=
  ⟨Nat.lt_of_lt_of_le h.lt hg.size, fun i hi => cells_grown (h.rd i hi) hg hne, fun i hi => by obtain ⟨v, hv⟩ := h.ex i hi; exact ⟨v, cell_grown hg hne hv⟩,
    fun i hi => (hg.frozen_far ⟨g, i, none⟩ h.lt (by simpa using hne)).trans (h.fr i hi)⟩

theorem undrew {w w' : World} (h : Below w.drew.heap.size w.drew w') : Below w.heap.size w w' := ⟨h.os, h.tape, h.output, h.size, h.block⟩
theorem chain3 {w x y z : World} (h1 : Below w.drew.heap.size w.drew x) (h2 : Below x.heap.size x y) (h3 : Below y.heap.size y z) : Below w.heap.size w z :=
  ((undrew h1).trans (h2.mono (undrew h1).size)).trans (h3.mono (Nat.le_trans (undrew h1).size h2.size))

set_option maxHeartbeats 12800000 in
theorem walk (a0 : Option Addr) (cap0 : Nat) (L : List K) (k : K) (hk : k.word.size ≤ maxLen) (w : World) (hl : L.length ≤ maxLen) (hws : ∀ k ∈ L, k.word.size ≤ maxLen) (hr : RdK w a0 L) :
    Calls Try.prog 6 #[.slice a0 L.length cap0, .agg #[.int .i64 k.hand, .int .i64 k.round, .int .i64 k.frm, .string k.word]] w fun e w' => e = .returned (.bool true) ∧ Below w.heap.size w w' := by
  have P0 : Hid (Below w.heap.size w (w.alloc (.cells #[.int .i64 k.hand, .int .i64 k.round, .int .i64 k.frm, .string k.word] 23)) ∧ Lc.CellsK (w.alloc (.cells #[.int .i64 k.hand, .int .i64 k.round, .int .i64 k.frm, .string k.word] 23)) w.heap.size 0 k ∧ w.heap.size < (w.alloc (.cells #[.int .i64 k.hand, .int .i64 k.round, .int .i64 k.frm, .string k.word] 23)).heap.size) :=
    ⟨(Below.refl _ _).alloc (Nat.le_refl _) _, ⟨by simp, by simp, by simp, by simp⟩, by simp⟩
  go_enter Try.func6, Try.ntmps6
  go_wp2_with fail
  generalize w.alloc (.cells #[.int .i64 k.hand, .int .i64 k.round, .int .i64 k.frm, .string k.word] 23) = w0 at P0 ⊢
  obtain ⟨B0, C0, S0⟩ := P0
  have hr_0 := hr.below B0
  generalize hb : w.heap.size = b at *
  refine (Lc.szKnotS a0 cap0 L 1048576 _ hl hws (by omega) (by omega) hr_0).mono ?_
  rintro e w1 ⟨r, rfl, hr0, hr1, hsm, hb1⟩
  have hr_1 := hr_0.below hb1
  have HSM : Hid (0 ≤ r → Lc.Small L) := hsm
  have B1 := B0.trans (hb1.mono (Nat.le_of_lt S0))
  have S1 : b < w1.heap.size := Nat.lt_of_lt_of_le S0 hb1.size
  have C1 := C0.below hb1 S0
  clear hsm hb1 B0 S0 C0 hr_0
  by_cases hneg : r < 0
  · clear C1
    go_wp2
    go_ret
    exact ⟨rfl, by first | exact B1 | (rw [hb]; exact B1)⟩
  · have hS := HSM.out (by omega)
    have HW : Hid (Lc.WordsOk L) := words hS
    have hlen := hS.1
    clear HSM hl hws hS
    have HC1 : Hid (Lc.CellsK w1 b 0 k) := C1
    obtain ⟨c0, c1, c2, c3⟩ := C1
    rw [Nat.zero_add] at c1 c2 c3
    go_wp2_with fail
    refine (Kn.szKnot _ _ _ _ r _ hk (by omega) (by omega)).mono ?_
    rintro e w2 ⟨rfl, hb2⟩
    have B2 := B1.trans (hb2.mono (Nat.le_of_lt S1))
    have S2 : b < w2.heap.size := Nat.lt_of_lt_of_le S1 hb2.size
    have hr_2 := hr_1.below hb2
    have HC2 : Hid (Lc.CellsK w2 b 0 k) := HC1.out.below hb2 S1
    clear B1 hb2 hr_1 HC1 c0 c1 c2 c3 S1
    by_cases hbig : r < (k.word.size : Int)
    · rw [Lc.szI_lo _ _ hbig]
      clear hbig
      go_wp2
      go_ret
      exact ⟨rfl, by first | exact B2 | (rw [hb]; exact B2)⟩
    · rw [Lc.szI_hi _ _ hbig]
      have hnn : ¬ r - (k.word.size : Int) < 0 := by omega
      have hk2 : k.word.size ≤ 1048576 := by omega
      clear hbig hk
      obtain ⟨c0, c1, c2, c3⟩ := HC2.out
      rw [Nat.zero_add] at c1 c2 c3
      have HR2 : Hid (RdK w2 a0 L) := hr_2
      have HB2 : Hid (Below b w w2) := B2
      clear hr_2 B2
      go_wp2_with fail
      go_region_with (first
        | (go_at_call 13; refine (Lc.toKnotS a0 cap0 L _ hlen (by first | exact HR2.out.drew | exact HR2.out.drew.below HbB.out)).mono ?_; rintro e wA ⟨rfl, hmA, hbA⟩; (try have cA0 := (hbA.cell (p := ⟨b, 0, none⟩) S2).trans c0); (try have cA1 := (hbA.cell (p := ⟨b, 1, none⟩) S2).trans c1); (try have cA2 := (hbA.cell (p := ⟨b, 2, none⟩) S2).trans c2); (try have cA3 := (hbA.cell (p := ⟨b, 3, none⟩) S2).trans c3); have HmA : Hid _ := hmA; have HbA : Hid _ := hbA; clear hmA hbA)
        | (go_at_call 9; refine (Kn.toKnot _ _ _ _ _).mono ?_; rintro e wB ⟨rfl, hbB⟩; have HbB : Hid _ := hbB; clear hbB)
        | (go_at_call 18; refine (Lc.specTied _ _ _ L k _ hlen (Nat.le_refl _) HW.out (by omega) (by first | exact Lc.made_rd HmA.out | exact (Lc.made_rd HmA.out).below HbB.out)).mono ?_; rintro e wC ⟨gS, capS, rfl, hgS, hgSl, hrdS, hbC⟩))
      all_goals
        have B23 : Below w2.heap.size w2 wC := by first | exact chain3 HbA.out HbB.out hbC | exact chain3 HbB.out HbA.out hbC
        have hr_3 := HR2.out.below B23
        have B3 := HB2.out.trans (B23.mono (Nat.le_of_lt S2))
        have HC3 : Hid (Lc.CellsK wC b 0 k) := HC2.out.below B23 S2
        have S3 : b < wC.heap.size := Nat.lt_of_lt_of_le S2 B23.size
        clear B23 hbC HR2 HB2 HC2 HbA HbB HmA
        clear c0 c1 c2 c3
        try clear cA0 cA1 cA2 cA3
        have hTl : (Lc.tiedL L k).length ≤ 61 := tied61 L k
        have HrdS : Hid (RdK wC (some ⟨gS, 0, none⟩) (Lc.tiedL L k)) := hrdS
        have HB3 : Hid (Below b w wC) := B3
        clear hrdS B3 hgS hr_3
        go_wp2_with fail
        refine (Lc.toKnotS a0 cap0 L _ hlen (hr.below (by rw [hb]; exact HB3.out))).mono ?_
        rintro e w4 ⟨rfl, hm4, hb4⟩
        have hgq : gS < wC.heap.size := hgSl
        have HS4 : Hid (St4 b wC.heap.size gS L (Lc.tiedL L k) k w w4) := ⟨HB3.out.trans (hb4.mono (Nat.le_of_lt S3)), hm4, HrdS.out.below hb4, HC3.out.below hb4 S3⟩
        have hbq : b < wC.heap.size := S3
        clear hb4 hm4 HrdS HB3 HC3 S3 hgSl
        generalize wC.heap.size = q3 at HS4 hgq hbq ⊢
        obtain ⟨c0, c1, c2, c3⟩ := HS4.out.kc
        rw [Nat.zero_add] at c1 c2 c3
        go_wp2_with fail
        refine (Kn.toKnot _ _ _ _ _).mono ?_
        rintro e w4' ⟨rfl, hb4⟩
        have HS4' : Hid (St4 b q3 gS L (Lc.tiedL L k) k w w4') := HS4.out.below hb4 hbq
        clear hb4 c0 c1 c2 c3 HS4
        go_wp2_with fail
        refine (Lc.implTied _ _ _ L k _ hlen HW.out (by omega) (Lc.made_rd HS4'.out.x)).mono ?_
        rintro e w5 ⟨gI, capI, rfl, hgI, MI, hb5⟩
        have hqI : q3 < gI := Nat.lt_of_lt_of_le HS4'.out.x.lt hgI
        have HS5 : Hid (St4 b q3 gS L (Lc.tiedL L k) k w w5) := HS4'.out.below hb5 hbq
        have HM5 : Hid (Lc.Made w5 gI (Lc.tiedL L k).length (Lc.tiedL L k) (Lc.tiedL L k).length) := MI
        clear HS4' hgI MI hb5
        go_wp2_with fail
        refine (Lc.eqKnotS _ _ _ _ _ _ (Lc.tiedL L k) _ (by omega) (Lc.made_rd HM5.out) HS5.out.s).mono ?_
        rintro e w6 ⟨rfl, hb6⟩
        have HS6 : Hid (St4 b q3 gS L (Lc.tiedL L k) k w w6) := HS5.out.below hb6 hbq
        have HM6 : Hid (Lc.Made w6 gI (Lc.tiedL L k).length (Lc.tiedL L k) (Lc.tiedL L k).length) := HM5.out.below hb6
        clear HS5 HM5 hb6
        go_wp2_with fail
        refine (Lc.toKnotS a0 cap0 L _ hlen (hr.below (by rw [hb]; exact HS6.out.bel))).mono ?_
        rintro e w7 ⟨rfl, hm7, hb7⟩
        have HS7 : Hid (St4 b q3 gS L (Lc.tiedL L k) k w w7) := HS6.out.below hb7 hbq
        have HM7 : Hid (Lc.Made w7 gI (Lc.tiedL L k).length (Lc.tiedL L k) (Lc.tiedL L k).length) := HM6.out.below hb7
        have HX7 : Hid (RdK w7 (some ⟨w6.heap.size, 0, none⟩) L) := Lc.made_rd hm7
        clear HS6 HM6 hb7 hm7
        generalize w6.heap.size = q6 at HX7 ⊢
        go_wp2_with fail
        refine (Lc.eqKnotS _ _ _ _ _ _ L _ hlen (Lc.made_rd HS7.out.x) HX7.out).mono ?_
        rintro e w8 ⟨rfl, hb8⟩
        have HS8 : Hid (St4 b q3 gS L (Lc.tiedL L k) k w w8) := HS7.out.below hb8 hbq
        have HM8 : Hid (Lc.Made w8 gI (Lc.tiedL L k).length (Lc.tiedL L k) (Lc.tiedL L k).length) := HM7.out.below hb8
        clear HS7 HM7 hb8 HX7
        go_wp2_with fail
        refine (Lc.markKnotS q3 L.length L.length _ (by omega) (made_fill HS8.out.x _)).mono ?_
        rintro e w9 ⟨rfl, _, hg9⟩
        have HB9 : Hid (Below b w w9) := HS8.out.bel.grown hg9 (HS8.out.le hbq) (fun j hj => by simp at hj; omega)
        have HM9 : Hid (Lc.Made w9 gI (Lc.tiedL L k).length (Lc.tiedL L k) (Lc.tiedL L k).length) := made_grown HM8.out hg9 (by omega)
        have HR9 : Hid (RdK w9 (some ⟨gS, 0, none⟩) (Lc.tiedL L k)) := rd_grown HS8.out.s hg9 (by omega)
        have HC9 : Hid (Lc.CellsK w9 b 0 k) := cells_grown HS8.out.kc hg9 (by omega)
        clear HS8 HM8 hg9
        have hnn : ¬ 1 + (L.length : Int) * 4 < 0 := by omega
        go_wp2_with fail
        refine (Lc.eqKnotS _ _ _ _ _ _ (Lc.tiedL L k) _ (by omega) (Lc.made_rd HM9.out) HR9.out).mono ?_
        rintro e w10 ⟨rfl, hb10⟩
        have h9lt : b < w9.heap.size := Nat.lt_of_lt_of_le hbq (Nat.le_trans (Nat.le_of_lt hqI) (Nat.le_of_lt HM9.out.lt))
        have HB10 : Hid (Below b w w10) := HB9.out.trans (hb10.mono (Nat.le_of_lt h9lt))
        have HM10 : Hid (Lc.Made w10 gI (Lc.tiedL L k).length (Lc.tiedL L k) (Lc.tiedL L k).length) := HM9.out.below hb10
        have HR10 : Hid (RdK w10 (some ⟨gS, 0, none⟩) (Lc.tiedL L k)) := HR9.out.below hb10
        have HC10 : Hid (Lc.CellsK w10 b 0 k) := HC9.out.below hb10 h9lt
        clear HB9 HM9 HR9 HC9 hb10 h9lt
        go_wp2_with fail
        refine (Lc.markKnotS gI (Lc.tiedL L k).length capI _ (by omega) (made_fill HM10.out _)).mono ?_
        rintro e w11 ⟨rfl, hf11, hg11⟩
        have hbI : b < gI := by omega
        have HB11 : Hid (Below b w w11) := HB10.out.grown hg11 (Nat.le_trans (Nat.le_of_lt hbI) (Nat.le_of_lt HM10.out.lt)) (fun j hj => by simp at hj; omega)
        have HF11 : Hid (Lc.Fill w11 gI (Lc.tiedL L k).length (Lc.cellM 1) ((Lc.tiedL L k).length * 4)) := hf11
        have HR11 : Hid (RdK w11 (some ⟨gS, 0, none⟩) (Lc.tiedL L k)) := rd_grown HR10.out hg11 (by omega)
        have HC11 : Hid (Lc.CellsK w11 b 0 k) := cells_grown HC10.out hg11 (by omega)
        clear HB10 HM10 HR10 HC10 hf11 hg11
        have hnn2 : ¬ 1 + ((Lc.tiedL L k).length : Int) * 4 < 0 := by omega
        go_wp2_with fail
        refine (Lc.heldKnotS gI (Lc.tiedL L k).length capI _ (by omega) HF11.out).mono ?_
        rintro e w12 ⟨rfl, hb12⟩
        have h11lt : b < w11.heap.size := Nat.lt_trans hbI HF11.out.lt
        have HB12 : Hid (Below b w w12) := HB11.out.trans (hb12.mono (Nat.le_of_lt h11lt))
        have HF12 : Hid (Lc.Fill w12 gI (Lc.tiedL L k).length (Lc.cellM 1) ((Lc.tiedL L k).length * 4)) := HF11.out.below hb12
        have HR12 : Hid (RdK w12 (some ⟨gS, 0, none⟩) (Lc.tiedL L k)) := HR11.out.below hb12
        have HC12 : Hid (Lc.CellsK w12 b 0 k) := HC11.out.below hb12 h11lt
        have S12 : b < w12.heap.size := Nat.lt_trans hbI HF12.out.lt
        clear HB11 HF11 HR11 HC11 hb12 h11lt
        have HA12 : Hid (RdK w12 a0 L) := hr.below (by rw [hb]; exact HB12.out)
        obtain ⟨c0, c1, c2, c3⟩ := HC12.out
        rw [Nat.zero_add] at c1 c2 c3
        go_wp2_with fail
        go_region_with (first
          | (go_at_call 13; refine (Lc.toKnotS a0 cap0 L _ hlen (by first | exact HA12.out.drew | exact HA12.out.drew.below HbB2.out)).mono ?_; rintro e wA2 ⟨rfl, hmA2, hbA2⟩; (try have cA0 := (hbA2.cell (p := ⟨b, 0, none⟩) S12).trans c0); (try have cA1 := (hbA2.cell (p := ⟨b, 1, none⟩) S12).trans c1); (try have cA2 := (hbA2.cell (p := ⟨b, 2, none⟩) S12).trans c2); (try have cA3 := (hbA2.cell (p := ⟨b, 3, none⟩) S12).trans c3); have HmA2 : Hid _ := hmA2; have HbA2 : Hid _ := hbA2; clear hmA2 hbA2)
          | (go_at_call 9; refine (Kn.toKnot _ _ _ _ _).mono ?_; rintro e wB2 ⟨rfl, hbB2⟩; have HbB2 : Hid _ := hbB2; clear hbB2)
          | (go_at_call 19; refine (Lc.implTied _ _ _ L k _ hlen HW.out (by omega) (by first | exact Lc.made_rd HmA2.out | exact (Lc.made_rd HmA2.out).below HbB2.out)).mono ?_; rintro e wD ⟨gH, capH, rfl, hgH, hMH, hbD⟩; have HMH : Hid (Lc.Made wD gH (Lc.tiedL L k).length (Lc.tiedL L k) (Lc.tiedL L k).length) := hMH; clear hMH hgH))
        all_goals
          have B23 : Below w12.heap.size w12 wD := by first | exact chain3 HbA2.out HbB2.out hbD | exact chain3 HbB2.out HbA2.out hbD
          have HB13 : Hid (Below b w wD) := HB12.out.trans (B23.mono (Nat.le_of_lt S12))
          have HF13 : Hid (Lc.Fill wD gI (Lc.tiedL L k).length (Lc.cellM 1) ((Lc.tiedL L k).length * 4)) := HF12.out.below B23
          have HR13 : Hid (RdK wD (some ⟨gS, 0, none⟩) (Lc.tiedL L k)) := HR12.out.below B23
          clear B23 hbD HB12 HF12 HR12 HC12 HbA2 HbB2 HmA2 HA12
          clear c0 c1 c2 c3
          try clear cA0 cA1 cA2 cA3
          go_wp2_with fail
          refine (Lc.eqKnotS _ _ _ _ _ _ (Lc.tiedL L k) _ (by omega) (Lc.made_rd HMH.out) HR13.out).mono ?_
          rintro e w14 ⟨rfl, hb14⟩
          have h13lt : b ≤ wD.heap.size := Nat.le_of_lt (Nat.lt_trans hbI HF13.out.lt)
          have HB14 : Hid (Below b w w14) := HB13.out.trans (hb14.mono h13lt)
          have HF14 : Hid (Lc.Fill w14 gI (Lc.tiedL L k).length (Lc.cellM 1) ((Lc.tiedL L k).length * 4)) := HF13.out.below hb14
          clear HB13 HF13 HR13 HMH hb14 h13lt
          go_wp2_with fail
          refine (Lc.heldKnotS gI (Lc.tiedL L k).length capI _ (by omega) HF14.out).mono ?_
          rintro e w15 ⟨rfl, hb15⟩
          have B15 := HB14.out.trans (hb15.mono (Nat.le_of_lt (Nat.lt_trans hbI HF14.out.lt)))
          clear HB14 HF14 hb15
          go_wp2
          go_ret
          exact ⟨rfl, by first | exact B15 | (rw [hb]; exact B15)⟩
theorem lifted (os : Os) (started : os.Started) (H : Type) (enc : TypeId × Value → H) :
    ReturnsInHanded {} Try.checked os 6 .any (Rows.fnExactTiedSpec.pre6 enc Try.prog Try.f6 Rows.fnExactTiedRow.domain false) (Rows.fnExactTiedSpec.post enc Try.prog Try.f6 false true false false) := by
  refine returnsInHanded_of_change (C := Try.checked) own started (by kernel_rfl) Try.func6
    (ChangeSpec.witness6 (enc := enc) (C := Try.checked) false ⟨#[], #[.slice none 0 0, .agg #[.int .i64 0, .int .i64 0, .int .i64 0, .string ByteArray.empty]], []⟩ 8 (by kernel_rfl) (by kernel_rfl) (by kernel_rfl) (by kernel_rfl)) ?_
  intro W base args ds gs before hval0 hW hcnd _
  have hval : ∀ (j : Nat) t v, Try.f6.params[j]? = some t → args[j]? = some v → Value.okWide Try.prog W .any base t v := hval0
  have hW' := hW
  obtain ⟨p, q, hA0, hV, rfl, hfz, hnd⟩ := hW
  have hA : DataW.TrodAll enc Try.prog W 0 (fun _ => true) true Try.f6.params.toList args.toList ds p := hA0
  rw [Try.params6] at hA hval
  obtain ⟨v0, vs0, d0, ds0, p0, q0, hargs, rfl, rfl, h0, r0⟩ := trodAll_cons hA
  obtain ⟨v1, vs1, d1, ds1, p1, q1, rfl, rfl, rfl, h1, r1⟩ := trodAll_cons r0
  obtain ⟨rfl, rfl, rfl⟩ := trodAll_nil r1
  obtain rfl : args = #[v0, v1] := by cases args; simp_all
  obtain ⟨rfl, rfl⟩ := trodVars_none hV
  obtain ⟨a0, len0, cap0, rfl⟩ := okWide_slice Try.underlying29 (hval 0 29 v0 rfl rfl)
  have k0 := h0
  have lt0 : ∀ x ∈ p0, x.block < W.heap.size := by obtain ⟨m, hm⟩ := k0; exact DataW.trod_lt m _ _ _ hm
  obtain ⟨fuel, hf⟩ := h0
  obtain ⟨L, rfl, hrd, hws, hl⟩ := Lc.openK (a0 := a0) (len0 := len0) (cap0 := cap0) hf
  obtain ⟨x0, x1, x2, x3, y0, y1, y2, y3, m, rfl, rfl, rfl, hy0, hy1, hy2, hy3⟩ := open_agg4 Try.underlying23 (by kernel_rfl) Lc.cellsKn (hval 1 23 v1 rfl rfl) h1
  obtain ⟨b0, e0, rfl, w0⟩ := DataW.trod_int Try.underlying2 hy0
  obtain ⟨b1, e1, rfl, w1⟩ := DataW.trod_int Try.underlying2 hy1
  obtain ⟨b2, e2, rfl, w2⟩ := DataW.trod_int Try.underlying2 hy2
  obtain ⟨b3, e3, rfl, w3⟩ := DataW.trod_string Try.underlying9 hy3
  simp only [List.cons.injEq, and_true] at e0 e1 e2 e3
  subst e0 e1 e2 e3

  clear hA0 hval0
  simp only [List.append_nil] at hW'
  refine (walk a0 cap0 L ⟨b0, b1, b2, b3⟩ w3 W hl hws hrd).mono fun e W' ⟨he, bel⟩ => ?_
  subst he
  exact ⟨_, rfl, _, _, _, [], _, [], hW', trodAll_mk1 (shut_bool Try.underlying4 _), (trodAll_cons_mk (Below.trod laidOut (by kernel_rfl) (of_decide_eq_true (by kernel_rfl)) k0 bel lt0) (trodAll_cons_mk (shut_agg4 (y0 := (.lit (.int .i64 b0), [])) (y1 := (.lit (.int .i64 b1), [])) (y2 := (.lit (.int .i64 b2), [])) (y3 := (.lit (.string b3.data.toList), [])) Try.underlying23 (by kernel_rfl) Lc.cellsKn (trI b0 w0) (trI b1 w1) (trI b2 w2) (trS b3 w3)) trodAll_mk0)), rfl, bel.frame _, fun h => by cases h⟩

theorem over : Rows.fnExactTiedRow.holds Try.pinned (OpenSpec.ofChange Rows.fnExactTiedSpec) :=
  OpenClaim.holds_of_wide 6 Try.f6 rfl rfl rfl rfl rfl rfl rfl ⟨rfl, rfl, rfl, rfl, rfl⟩ rfl rfl rfl rfl rfl (by kernel_rfl) Try.func6 (by kernel_rfl)
    (of_decide_eq_true (by kernel_rfl)) (by unfold Func.isWrapper; first | (rw [if_pos (by decide +kernel)]; kernel_rfl) | (rw [if_neg (by decide +kernel)]; exact ⟨rfl, rfl⟩))
    (fun os started H enc _ => lifted os started H enc)

theorem proved : Rows.FnExactTiedSaid :=
  over
end Go.Proofs.Ytaoglifenjmecah.fnExactTied
