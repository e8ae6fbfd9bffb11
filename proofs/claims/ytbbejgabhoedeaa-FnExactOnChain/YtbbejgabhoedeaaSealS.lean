/-
  What the model answers for those that seal: for each knot of a lace the set of those below which three hands nodded to it; for lists of knots whose words have at most 2^40 bytes.
-/
import Derived.Test.YtbbejgabhoedeaaSealM
import Derived.Test.YtbbejgabhoedeaaNodS
namespace Go.Proofs.Ytbbejgabhoedeaa
open Go.RowKit
set_option maxRecDepth 100000
namespace Sl
open Kn (K okK)
open Bit (bit withB)
open Lc (at' RdK WordsOk laceB setB Four ofH handsN)
open Sg (isB bel belows)
open Db (RowI)
open Nd (nodS)

/-- the table when all below b have been done, and of b those below a -/
def tabS (L : List K) (N b a i : Nat) : Int := if i < b then sealS L i N else if i = b then sealS L i a else 0

theorem sealS_low {L : List K} (hl : laceB L = true) (b n : Nat) (hn : n ≤ L.length) (h : n ≤ b) : sealS L b n = 0 := by
  induction n with
  | zero => rfl
  | succ n ih =>
    have hf : sealN L n b = false := by
      rw [Bool.eq_false_iff]
      intro hs
      have := seal_le hl (by omega) hs
      omega
    unfold sealS
    rw [hf, if_neg (by simp)]
    exact ih (by omega) (by omega)
theorem tabS_zero (L : List K) (N : Nat) : tabS L N 0 0 = fun _ => 0 := by
  funext i
  unfold tabS
  rw [if_neg (by omega)]
  split
  · rfl
  · rfl
theorem tabS_next {L : List K} (hl : laceB L = true) (b : Nat) (hb : b < L.length) (i : Nat) : tabS L L.length b L.length i = tabS L L.length (b + 1) (b + 1) i := by
  unfold tabS
  by_cases h1 : i < b
  · rw [if_pos h1, if_pos (by omega)]
  · by_cases h2 : i = b
    · rw [if_neg h1, if_pos h2, if_pos (by omega)]
    · rw [if_neg h1, if_neg h2, if_neg (by omega)]
      by_cases h3 : i = b + 1
      · rw [if_pos h3, sealS_low hl _ _ (by omega) (by omega)]
      · rw [if_neg h3]
theorem tabS_skip (L : List K) (N b a : Nat) (hp : sealN L a b = false) : tabS L N b (a + 1) = tabS L N b a := by
  funext i
  unfold tabS
  by_cases h2 : i = b
  · subst h2
    rw [if_neg (by omega), if_pos rfl, if_neg (by omega), if_pos rfl]
    show sealS L i (a + 1) = _
    conv => lhs; unfold sealS
    rw [hp, if_neg (by simp)]
  · rw [if_neg h2, if_neg h2]
theorem tabS_put (L : List K) (N b a : Nat) (hp : sealN L a b = true) : (fun i => if i = b then withB (sealS L b a) a else tabS L N b a i) = tabS L N b (a + 1) := by
  funext i
  unfold tabS
  by_cases h2 : i = b
  · subst h2
    rw [if_pos rfl, if_neg (by omega), if_pos rfl]
    show _ = sealS L i (a + 1)
    conv => rhs; unfold sealS
    rw [hp, if_pos rfl]
  · rw [if_neg h2, if_neg h2, if_neg h2]
theorem tabS_at (L : List K) (N b a : Nat) : tabS L N b a b = sealS L b a := by
  unfold tabS; rw [if_neg (by omega), if_pos rfl]
theorem rowI_eq {w : World} {g n : Nat} {D E : Nat → Int} (h : RowI w g n D) (e : ∀ i, i < n → D i = E i) : RowI w g n E := ⟨h.lt, fun i hi => by rw [← e i hi]; exact h.rd i hi, h.fr⟩
theorem four_below {w w' : World} {g : Nat} {x0 x1 x2 x3 : Int} (h : Four w g x0 x1 x2 x3) (hb : Below w.heap.size w w') : Four w' g x0 x1 x2 x3 where
  lt := Nat.lt_of_lt_of_le h.lt hb.size
  c0 := (hb.cell (p := ⟨g, 0, none⟩) h.lt).trans h.c0
  c1 := (hb.cell (p := ⟨g, 1, none⟩) h.lt).trans h.c1
  c2 := (hb.cell (p := ⟨g, 2, none⟩) h.lt).trans h.c2
  c3 := (hb.cell (p := ⟨g, 3, none⟩) h.lt).trans h.c3
  f := fun j hj => (hb.frozen (p := ⟨g, j, none⟩) h.lt).trans (h.f j hj)

/-- the table of those that seal is handed back -/
def SealPost (L : List K) (w : World) (e : Ending) (w' : World) : Prop := ∃ h O, e = .returned (.slice (some ⟨h, 0, none⟩) L.length L.length) ∧ w.heap.size ≤ h ∧ RowI w' h L.length O ∧ (∀ i, i < L.length → O i = sealS L i L.length) ∧ Below w.heap.size w w'

set_option maxHeartbeats 6400000 in
theorem l7All (g off cap : Nat) (L : List K) (bo : Option Addr) (bc : Nat) (w : World) (hl : laceB L = true) (hr : RdK w (some ⟨g, off, none⟩) L) (hrd : Lst.Rd w bo (belows L L.length)) (hbo : ∀ c, bo = some ⟨c, 0, none⟩ → c < w.heap.size) :
    Calls Try.prog 24 #[.slice (some ⟨g, off, none⟩) L.length cap, .slice bo L.length bc] w (SealPost L w) := by
  have hL := ((Lc.lace_iff L).1 hl).1
  have hbl := Sg.belows_len L L.length
  have H6 : Hid (Calls Try.prog 40 #[.slice (some ⟨g, off, none⟩) L.length cap, .slice bo L.length bc] w fun e2 w2 => ∃ h O, e2 = .returned (.slice (some ⟨h, 0, none⟩) L.length L.length) ∧ RowI w2 h L.length O ∧ (∀ i, i < L.length → O i = nodS L i L.length) ∧ Below w.heap.size w w2) := by
    have h6 := Nd.l6All (some ⟨g, off, none⟩) cap L bo bc (belows L L.length) w hL hbl (Sg.belows_in L L.length hL) hr hrd hbo
    rw [hbl] at h6
    refine h6.mono ?_
    rintro e w2 ⟨h, D, O, rfl, _, hrow, hD, hO, hb2⟩
    exact ⟨h, O, rfl, hrow, fun i hi => by rw [hO i hi, Nd.nodR_eq hl hD hi _ (Nat.le_refl _)], hb2⟩
  have hmk : ∀ W : World, (Instr.makeSlice 23 (.int .i64 (L.length : Int)) (.int .i64 (L.length : Int))).run Try.prog W = .ok (.slice (some ⟨W.heap.size, 0, none⟩) L.length L.length) (W.alloc (.cells (madeCells #[.int .i64 0] L.length) 2)) :=
    fun W => run_make_row' (P := Try.prog) 23 2 (.int .i64 0) 8 Try.underlying23 Memb.info2 rfl .i64 .i64 L.length (by omega) (by omega) W
  have HL : Hid (laceB L = true) := hl
  have HBEL : Hid (∀ a, a < L.length → ∀ bb, bo = some ⟨bb, 0, none⟩ → bb < w.heap.size ∧ w.cell? ⟨bb, a, none⟩ = some (.int .i64 (bel L a))) := fun a ha bb hb => by
    rcases hrd with hrd | ⟨b2, e2, hcell⟩
    · rw [hrd] at hbl; simp at hbl; omega
    · rw [hb] at e2; injection e2 with e2; injection e2 with e2; subst e2
      refine ⟨hbo bb hb, ?_⟩
      have := hcell a (by rw [hbl]; exact ha)
      rwa [Sg.belows_get L L.length a ha] at this
  have HBN : Hid (∀ a, a < L.length → ∃ bb, bo = some ⟨bb, 0, none⟩) := fun a ha => by
    rcases hrd with hrd | ⟨b2, e2, hcell⟩
    · rw [hrd] at hbl; simp at hbl; omega
    · exact ⟨b2, e2⟩
  have HHO : Hid (Lc.HandsOk L) := Lc.lace_hands hl
  clear hl hrd hbo hbl
  go_enter Try.func24, Try.ntmps24
  go_wp2_with fail
  refine H6.out.mono ?_
  rintro e w1 ⟨h6, O6, rfl, hrow6, hO6, hb1⟩
  clear H6
  have HROW : Hid (∀ i, i < L.length → w1.cell? ⟨h6, i, none⟩ = some (.int .i64 (nodS L i L.length))) := fun i hi => by rw [← hO6 i hi]; exact hrow6.rd i hi
  have hlt6 : h6 < w1.heap.size := hrow6.lt
  have hr1 := hr.below hb1
  clear hrow6 hO6
  go_wp2_with fail
  refine (Lc.l3Of _ cap L _ hL hr1 HHO.out).mono ?_
  rintro e w2 ⟨oc, rfl, hfour, hb2⟩
  have HF2 : Hid (Four w2 w1.heap.size (ofH L 0 L.length) (ofH L 1 L.length) (ofH L 2 L.length) (ofH L 3 L.length)) := hfour
  have HB2 : Hid (Below w.heap.size w w2) := hb1.trans (hb2.mono hb1.size)
  have HROW2 : Hid (∀ i, i < L.length → w2.cell? ⟨h6, i, none⟩ = some (.int .i64 (nodS L i L.length))) := fun i hi => (hb2.cell (p := ⟨h6, i, none⟩) hlt6).trans (HROW.out i hi)
  have hlt62 : h6 < w2.heap.size := Nat.lt_of_lt_of_le hlt6 hb2.size
  have HW2 : Hid (w.heap.size ≤ w2.heap.size) := HB2.out.size
  generalize w1.heap.size = of at HF2 ⊢
  clear hb1 hb2 hr1 hr HROW hlt6 hfour
  have HP : Hid (RowI (w2.alloc (.cells (madeCells #[.int .i64 0] L.length) 2)) w2.heap.size L.length (fun _ => 0) ∧ Below w2.heap.size w2 (w2.alloc (.cells (madeCells #[.int .i64 0] L.length) 2))) := ⟨Db.rowI_made _ _ _, (Below.refl _ _).alloc (Nat.le_refl _) _⟩
  generalize madeCells #[Value.int .i64 0] L.length = mc at hmk HP
  go_wp2
  clear hmk
  go_loopw [8] (fun i wr => ∃ b : Nat, b ≤ L.length ∧ i = .int .i64 b ∧ Hid (RowI wr w2.heap.size L.length (tabS L L.length b b)) ∧ Hid (Below w2.heap.size w2 wr)) (fun i _ => L.length - (intOf i).toNat)
  case atStart => exact ⟨0, by omega, rfl, by show RowI _ _ _ _; rw [tabS_zero]; exact HP.out.1, HP.out.2⟩
  case round =>
    obtain ⟨b, hb, rfl, HR, HB⟩ := hrel
    clear HP
    by_cases hlt : b < L.length
    · have hbi : (b : Int) < (L.length : Int) := by omega
      go_wp2
      go_loopw [9] (fun i wr => ∃ a : Nat, b ≤ a ∧ a ≤ L.length ∧ i = .int .i64 a ∧ Hid (RowI wr w2.heap.size L.length (tabS L L.length b a)) ∧ Hid (Below w2.heap.size w2 wr)) (fun i _ => L.length - (intOf i).toNat)
      case atStart => exact ⟨b, by omega, by omega, rfl, HR, HB⟩
      case round =>
        obtain ⟨a, hba, ha, rfl, HR, HB⟩ := hrel
        by_cases hal : a < L.length
        · have hali : (a : Int) < (L.length : Int) := by omega
          obtain ⟨bb, rfl⟩ := HBN.out a hal
          obtain ⟨hbb, cy0⟩ := HBEL.out a hal bb rfl
          have cy := (HB.out.cell (p := ⟨bb, a, none⟩) (Nat.lt_of_lt_of_le hbb HW2.out)).trans ((HB2.out.cell (p := ⟨bb, a, none⟩) hbb).trans cy0)
          have cd := (HB.out.cell (p := ⟨h6, b, none⟩) hlt62).trans (HROW2.out b hlt)
          have HSN : Hid (sealN L a b = decide (3 ≤ handsN L (bits .and .i64 (bel L a) (nodS L b L.length)))) := rfl
          have hand := nodAt_bd (L := L) hL (a := a) (by omega) b
          unfold nodAt at hand
          have HZ : Hid (bits .and .i64 (bel L a) (nodS L b L.length) = 0 → sealN L a b = false) := fun hz => by
            rw [HSN.out, hz, hands_zero (fun i _ => Lc.bit_zero i)]; rfl
          clear cy0 hbb
          generalize bel L a = y at cy HSN hand HZ
          generalize nodS L b L.length = z at cd HSN hand HZ
          generalize hyz : bits .and .i64 y z = s at HSN hand HZ
          by_cases hs : s = 0
          · have hp := HZ.out hs
            have HT2 : Hid (tabS L L.length b (a + 1) = tabS L L.length b a) := tabS_skip L L.length b a hp
            subst hs
            have HYZ : Hid (bits .and .i64 y z = 0) := hyz
            clear hp HSN HZ hand hyz
            go_wp2_with fail
            go_quiet (fail)
            rw [HYZ.out]
            go_wp2
            go_roundw
            case rel => exact ⟨a + 1, by omega, by omega, by go_num, by show RowI _ _ _ _; rw [HT2.out]; exact HR.out.drewN nq, Db.below_drewN HB.out nq⟩
            case measure => simp [intOf]; omega
          · have hs1 : (s != 0) = true := by simpa using hs
            have HYZ : Hid (bits .and .i64 y z = s) := hyz
            have HCNT : Hid (∀ W : World, Below w2.heap.size w2 W → Calls Try.prog 42 #[.slice (some ⟨of, 0, none⟩) 4 oc, .int .i64 s] W fun e w' => e = .returned (.int .i64 (handsN L s)) ∧ W = w') := fun W hW => Lc.l3Count of oc L s W hL hand.1 (by omega) (four_below HF2.out hW)
            have hhb := Lc.handsN_bd L s
            clear hyz HZ hs
            generalize handsN L s = hn at HSN HCNT hhb
            go_wp2_with fail
            go_quiet (fail)
            rw [HYZ.out]
            clear cy cd HYZ
            have R1 := HR.out.drewN nq
            have HB1 : Hid (Below w2.heap.size w2 (wr.drewN nq)) := Db.below_drewN HB.out nq
            clear HR HB
            generalize wr.drewN nq = V at R1 HB1 ⊢
            have HR1 : Hid (RowI V w2.heap.size L.length (tabS L L.length b a)) := R1
            clear R1
            go_wp2_with fail
            refine (HCNT.out _ HB1.out).mono ?_
            rintro e V' ⟨rfl, rfl⟩
            clear HCNT
            by_cases h3 : 3 ≤ hn
            · have hp : sealN L a b = true := by rw [HSN.out]; exact decide_eq_true h3
              have HT2 : Hid ((fun i => if i = b then withB (sealS L b a) a else tabS L L.length b a i) = tabS L L.length b (a + 1)) := tabS_put L L.length b a hp
              have e1 := HR1.out.rd b hlt
              rw [tabS_at] at e1
              have f1 := HR1.out.fr b hlt
              have hda := sealS_bd L b a (by omega)
              have HO1 : Hid (bits .or .i64 (sealS L b a) (2 ^ a) = withB (sealS L b a) a) := Base.shl_or _ a hda.1 hda.2 (by omega)
              have HR2 : Hid (RowI (V.setCell ⟨w2.heap.size, b, none⟩ (.int .i64 (withB (sealS L b a) a))) w2.heap.size L.length (tabS L L.length b (a + 1))) := by
                show RowI _ _ _ _
                rw [← HT2.out]; exact HR1.out.put b hlt _
              have HB3 : Hid (Below w2.heap.size w2 (V.setCell ⟨w2.heap.size, b, none⟩ (.int .i64 (withB (sealS L b a) a)))) := HB1.out.setCell (p := ⟨w2.heap.size, b, none⟩) (Nat.le_refl _) _
              clear HR1 HB1 HT2 HSN hp
              generalize sealS L b a = x at e1 hda HO1 HR2 HB3
              go_wp2_with fail
              go_region_with (go_at_call 37; refine (Base.l1Bit _ _ (by omega) (by omega)).mono ?_; rintro e w' ⟨rfl, rfl⟩; rw [Int.toNat_natCast])
              all_goals
                rw [HO1.out]
                go_wp2
                go_roundw
                case rel => exact ⟨a + 1, by omega, by omega, by go_num, HR2.out.drew, HB3.out.drew⟩
                case measure => simp [intOf]; omega
            · have hp : sealN L a b = false := by rw [HSN.out]; exact decide_eq_false h3
              have HT2 : Hid (tabS L L.length b (a + 1) = tabS L L.length b a) := tabS_skip L L.length b a hp
              clear hp HSN
              go_wp2
              go_roundw
              case rel => exact ⟨a + 1, by omega, by omega, by go_num, by show RowI _ _ _ _; rw [HT2.out]; exact HR1.out, HB1⟩
              case measure => simp [intOf]; omega
        · obtain rfl : a = L.length := by omega
          go_wp2
          go_roundw
          case rel => exact ⟨b + 1, by omega, by go_num, rowI_eq HR.out fun i _ => tabS_next HL.out b hlt i, HB⟩
          case measure => simp [intOf]; omega
    · obtain rfl : b = L.length := by omega
      go_wp2
      go_ret
      exact ⟨_, _, rfl, HW2.out, HR.out, fun i hi => by unfold tabS; rw [if_pos hi], HB2.out.trans (HB.out.mono HB2.out.size)⟩

/-- the model's table of those that seal, with what it stands on -/
theorem table7 (g off cap : Nat) (L : List K) (w : World) (hl : laceB L = true) (hr : RdK w (some ⟨g, off, none⟩) L) :
    Calls Try.prog 22 #[.slice (some ⟨g, off, none⟩) L.length cap] w fun e w' => ∃ bo bc, e = .returned (.slice bo L.length bc) ∧ Below w.heap.size w w' ∧
      Calls Try.prog 24 #[.slice (some ⟨g, off, none⟩) L.length cap, .slice bo L.length bc] w' (SealPost L w') := by
  have h60 := ((Lc.lace_iff L).1 hl).1
  refine (Sg.l4All (some ⟨g, off, none⟩) cap L w h60 (Sg.frm_lace hl) hr).mono ?_
  rintro e w1 ⟨bo, bc, rfl, hown, hb1⟩
  have hbl := Sg.belows_len L L.length
  refine ⟨bo, bc, by rw [hbl], hb1, ?_⟩
  exact l7All g off cap L bo bc w1 hl (hr.below hb1) (Lst.own_rd hown) (fun g' e => by subst e; exact (World.ownsRow.lt hown g' rfl).2)

end Sl
end Go.Proofs.Ytbbejgabhoedeaa
