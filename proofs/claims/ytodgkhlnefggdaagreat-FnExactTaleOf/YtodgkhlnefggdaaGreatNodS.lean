/-
  What the model answers for those that nod: for each knot of a lace the set of those that see it and nothing that is doubled with it; for lists of knots whose words have at most 2^40 bytes.
-/
import Derived.Test.YtodgkhlnefggdaaGreatNodM
namespace Go.Proofs.YtodgkhlnefggdaaGreat
open Go.RowKit
set_option maxRecDepth 100000
namespace Nd
open Kn (K okK)
open Bit (bit withB)
open Lc (at' RdK WordsOk laceB setB)
open Sg (isB bel belows)
open Db (RowI Dbl dblS)

/-- the model's question, over its two tables -/
def nodT (l : List Int) (D : Nat → Int) (b a : Nat) : Bool := bit (l.getD a 0) b && (bits .and .i64 (l.getD a 0) (D b) == 0)
/-- those of the first that nod, over the two tables -/
def nodR (l : List Int) (D : Nat → Int) (b : Nat) : Nat → Int
  | 0 => 0
  | n + 1 => if decide (b ≤ n) && nodT l D b n then withB (nodR l D b n) n else nodR l D b n
/-- the table when all below b have been done, and of b those below a -/
def tabN (l : List Int) (D : Nat → Int) (N b a i : Nat) : Int := if i < b then nodR l D i N else if i = b then nodR l D i a else 0

theorem nodR_low (l : List Int) (D : Nat → Int) (b n : Nat) (h : n ≤ b) : nodR l D b n = 0 := by
  induction n with
  | zero => rfl
  | succ n ih =>
    unfold nodR
    rw [decide_eq_false (by omega), Bool.false_and, if_neg (by simp)]
    exact ih (by omega)
theorem nodR_bd (l : List Int) (D : Nat → Int) (b n : Nat) (hn : n ≤ 60) : 0 ≤ nodR l D b n ∧ nodR l D b n < 1152921504606846976 := by
  induction n with
  | zero => exact ⟨Int.le_refl 0, show (0 : Int) < 1152921504606846976 by decide⟩
  | succ n ih =>
    have h := ih (by omega)
    unfold nodR; split
    · exact Bit.withB_bd _ h.1 h.2 n (by omega)
    · exact h
theorem tab_zero (l : List Int) (D : Nat → Int) (N : Nat) : tabN l D N 0 0 = fun _ => 0 := by
  funext i
  unfold tabN
  rw [if_neg (by omega)]
  split
  · rfl
  · rfl
theorem tab_next (l : List Int) (D : Nat → Int) (N b : Nat) : tabN l D N b N = tabN l D N (b + 1) (b + 1) := by
  funext i
  unfold tabN
  by_cases h1 : i < b
  · rw [if_pos h1, if_pos (by omega)]
  · by_cases h2 : i = b
    · rw [if_neg h1, if_pos h2, if_pos (by omega)]
    · rw [if_neg h1, if_neg h2, if_neg (by omega)]
      by_cases h3 : i = b + 1
      · rw [if_pos h3, nodR_low _ _ _ _ (by omega)]
      · rw [if_neg h3]
theorem tab_skip (l : List Int) (D : Nat → Int) (N b a : Nat) (hp : nodT l D b a = false) : tabN l D N b (a + 1) = tabN l D N b a := by
  funext i
  unfold tabN
  by_cases h2 : i = b
  · subst h2
    rw [if_neg (by omega), if_pos rfl, if_neg (by omega), if_pos rfl]
    show nodR l D i (a + 1) = _
    conv => lhs; unfold nodR
    rw [hp, Bool.and_false, if_neg (by simp)]
  · rw [if_neg h2, if_neg h2]
theorem tab_put (l : List Int) (D : Nat → Int) (N b a : Nat) (hba : b ≤ a) (hp : nodT l D b a = true) : (fun i => if i = b then withB (nodR l D b a) a else tabN l D N b a i) = tabN l D N b (a + 1) := by
  funext i
  unfold tabN
  by_cases h2 : i = b
  · subst h2
    rw [if_pos rfl, if_neg (by omega), if_pos rfl]
    show _ = nodR l D i (a + 1)
    conv => rhs; unfold nodR
    rw [hp, decide_eq_true hba, Bool.true_and, if_pos rfl]
  · rw [if_neg h2, if_neg h2, if_neg h2]
theorem tab_at (l : List Int) (D : Nat → Int) (N b a : Nat) : tabN l D N b a b = nodR l D b a := by
  unfold tabN; rw [if_neg (by omega), if_pos rfl]

/-- the nodding ones are handed back -/
def NodPost (L : List K) (l : List Int) (w : World) (e : Ending) (w' : World) : Prop := ∃ h D O, e = .returned (.slice (some ⟨h, 0, none⟩) L.length L.length) ∧ w.heap.size ≤ h ∧ RowI w' h L.length O ∧ Dbl L l L.length 0 D ∧ (∀ i, i < L.length → O i = nodR l D i L.length) ∧ Below w.heap.size w w'

set_option maxHeartbeats 6400000 in
theorem l6All (ao : Option Addr) (cap : Nat) (L : List K) (bo : Option Addr) (bc : Nat) (l : List Int) (w : World) (hL : L.length ≤ 60) (hll : l.length = L.length) (hin : Sg.Within l) (hr : RdK w ao L) (hrd : Lst.Rd w bo l) (hbo : ∀ g, bo = some ⟨g, 0, none⟩ → g < w.heap.size) :
    Calls Tryz.prog 33 #[.slice ao L.length cap, .slice bo l.length bc] w (NodPost L l w) := by
  have hmk : ∀ W : World, (Instr.makeSlice 23 (.int .i64 (L.length : Int)) (.int .i64 (L.length : Int))).run Tryz.prog W = .ok (.slice (some ⟨W.heap.size, 0, none⟩) L.length L.length) (W.alloc (.cells (madeCells #[.int .i64 0] L.length) 2)) :=
    fun W => run_make_row' (P := Tryz.prog) 23 2 (.int .i64 0) 8 Tryz.underlying23 Memb.info2 rfl .i64 .i64 L.length (by omega) (by omega) W
  have H5 : Hid (Calls Tryz.prog 53 #[.slice ao L.length cap, .slice bo l.length bc] w (Db.DblPost L l w)) := Db.l5All ao cap L bo bc l w hL hll hin hr hrd hbo
  have HLL : Hid (l.length = L.length) := hll
  have hl60 : l.length ≤ 60 := by omega
  clear hll hr
  go_enter Tryz.func33, Tryz.ntmps33
  go_wp2_with fail
  refine H5.out.mono ?_
  rintro e w1 ⟨D, rfl, hrow, hDb, hb1⟩
  clear H5
  have HP : Hid (RowI (w1.alloc (.cells (madeCells #[.int .i64 0] L.length) 2)) w1.heap.size L.length (fun _ => 0) ∧ Below w1.heap.size w1 (w1.alloc (.cells (madeCells #[.int .i64 0] L.length) 2))) := ⟨Db.rowI_made _ _ _, (Below.refl _ _).alloc (Nat.le_refl _) _⟩
  generalize madeCells #[Value.int .i64 0] L.length = mc at hmk HP
  have HROW : Hid (RowI w1 w.heap.size L.length D) := hrow
  have HDB : Hid (Dbl L l L.length 0 D) := hDb
  have HB1 : Hid (Below w.heap.size w w1) := hb1
  have hw1 : w.heap.size < w1.heap.size := hrow.lt
  clear hrow hDb hb1
  go_wp2
  clear hmk
  go_loopw [7] (fun i wr => ∃ b : Nat, b ≤ L.length ∧ i = .int .i64 b ∧ Hid (RowI wr w1.heap.size L.length (tabN l D L.length b b)) ∧ Hid (Below w1.heap.size w1 wr)) (fun i _ => L.length - (intOf i).toNat)
  case atStart => exact ⟨0, by omega, rfl, by show RowI _ _ _ _; rw [tab_zero]; exact HP.out.1, HP.out.2⟩
  case round =>
    obtain ⟨b, hb, rfl, HR, HB⟩ := hrel
    clear HP
    by_cases hlt : b < L.length
    · have hbi : (b : Int) < (L.length : Int) := by omega
      go_wp2
      go_loopw [8] (fun i wr => ∃ a : Nat, b ≤ a ∧ a ≤ L.length ∧ i = .int .i64 a ∧ Hid (RowI wr w1.heap.size L.length (tabN l D L.length b a)) ∧ Hid (Below w1.heap.size w1 wr)) (fun i _ => L.length - (intOf i).toNat)
      case atStart => exact ⟨b, by omega, by omega, rfl, HR, HB⟩
      case round =>
        obtain ⟨a, hba, ha, rfl, HR, HB⟩ := hrel
        by_cases hal' : a < L.length
        · have hal : a < l.length := by rw [HLL.out]; exact hal'
          have hali : (a : Int) < (l.length : Int) := by omega
          have haLi : (a : Int) < (L.length : Int) := by omega
          have hya := Sg.within_get hin a
          rcases hrd with hrd | ⟨bb, rfl, hcell⟩
          · rw [hrd] at hal; simp at hal
          have hbb : bb < w1.heap.size := Nat.lt_trans (hbo bb rfl) hw1
          have cy := (HB.out.cell (p := ⟨bb, a, none⟩) hbb).trans ((HB1.out.cell (p := ⟨bb, a, none⟩) (hbo bb rfl)).trans (hcell a hal))
          have cd := (HB.out.cell (p := ⟨w.heap.size, b, none⟩) hw1).trans (HROW.out.rd b hlt)
          have HPB : Hid (nodT l D b a = (bit (l.getD a 0) b && (bits .and .i64 (l.getD a 0) (D b) == 0))) := rfl
          clear hcell hbo
          generalize l.getD a 0 = y at cy hya HPB
          cases hbit : bit y b
          · have hp : nodT l D b a = false := by rw [HPB.out, hbit]; rfl
            have hcall := Db.has_call y b false hya.1 hya.2 (by omega) hbit
            have HT2 : Hid (tabN l D L.length b (a + 1) = tabN l D L.length b a) := tab_skip l D L.length b a hp
            clear hbit HPB hp
            go_wp2_with fail
            go_quiet (first | (go_at_call 39; exact (hcall _).mono fun _ _ h => ⟨h.1, _, h.2⟩))
            go_wp2
            go_roundw
            case rel => exact ⟨a + 1, by omega, by omega, by go_num, by show RowI _ _ _ _; rw [HT2.out]; exact HR.out.drewN nq, Db.below_drewN HB.out nq⟩
            case measure => simp [intOf]; omega
          · have hcall := Db.has_call y b true hya.1 hya.2 (by omega) hbit
            cases hz : (bits .and .i64 y (D b) == 0)
            · have hp : nodT l D b a = false := by rw [HPB.out, hbit, hz]; rfl
              have HT2 : Hid (tabN l D L.length b (a + 1) = tabN l D L.length b a) := tab_skip l D L.length b a hp
              clear hbit HPB hp
              go_wp2_with fail
              go_quiet (first | (go_at_call 39; exact (hcall _).mono fun _ _ h => ⟨h.1, _, h.2⟩))
              go_wp2
              go_roundw
              case rel => exact ⟨a + 1, by omega, by omega, by go_num, by show RowI _ _ _ _; rw [HT2.out]; exact HR.out.drewN nq, Db.below_drewN HB.out nq⟩
              case measure => simp [intOf]; omega
            · have hp : nodT l D b a = true := by rw [HPB.out, hbit, hz]; rfl
              have HT2 : Hid ((fun i => if i = b then withB (nodR l D b a) a else tabN l D L.length b a i) = tabN l D L.length b (a + 1)) := tab_put l D L.length b a hba hp
              clear hbit HPB hp
              go_wp2_with fail
              go_quiet (first | (go_at_call 39; exact (hcall _).mono fun _ _ h => ⟨h.1, _, h.2⟩))
              go_wp2_with fail
              have R1 := HR.out.drewN nq
              have HB2 : Hid (Below w1.heap.size w1 (wr.drewN nq)) := Db.below_drewN HB.out nq
              clear cy cd HR HB hz hcall
              generalize wr.drewN nq = V at R1 HB2 ⊢
              have e1 := R1.rd b hlt
              rw [tab_at] at e1
              have f1 := R1.fr b hlt
              have hda := nodR_bd l D b a (by omega)
              have HO1 : Hid (bits .or .i64 (nodR l D b a) (2 ^ a) = withB (nodR l D b a) a) := Base.shl_or _ a hda.1 hda.2 (by omega)
              have HR2 : Hid (RowI (V.setCell ⟨w1.heap.size, b, none⟩ (.int .i64 (withB (nodR l D b a) a))) w1.heap.size L.length (tabN l D L.length b (a + 1))) := by
                show RowI _ _ _ _
                rw [← HT2.out]; exact R1.put b hlt _
              have HB3 : Hid (Below w1.heap.size w1 (V.setCell ⟨w1.heap.size, b, none⟩ (.int .i64 (withB (nodR l D b a) a)))) := HB2.out.setCell (p := ⟨w1.heap.size, b, none⟩) (Nat.le_refl _) _
              clear R1 HB2 HT2
              generalize nodR l D b a = x at e1 hda HO1 HR2 HB3
              go_region_with (go_at_call 38; refine (Base.l1Bit _ _ (by omega) (by omega)).mono ?_; rintro e w' ⟨rfl, rfl⟩; rw [Int.toNat_natCast])
              all_goals
                rw [HO1.out]
                go_wp2
                go_roundw
                case rel => exact ⟨a + 1, by omega, by omega, by go_num, HR2.out.drew, HB3.out.drew⟩
                case measure => simp [intOf]; omega
        · obtain rfl : a = L.length := by omega
          go_wp2
          go_roundw
          case rel => exact ⟨b + 1, by omega, by go_num, by show RowI _ _ _ _; rw [← tab_next]; exact HR.out, HB⟩
          case measure => simp [intOf]; omega
    · obtain rfl : b = L.length := by omega
      go_wp2
      go_ret
      exact ⟨_, D, _, rfl, HB1.out.size, HR.out, HDB.out, fun i hi => by unfold tabN; rw [if_pos hi], HB1.out.trans (HB.out.mono HB1.out.size)⟩

/-- over the lace's own tables: the document's word -/
theorem nodR_eq {L : List K} (hl : laceB L = true) {D : Nat → Int} (h : Dbl L (belows L L.length) L.length 0 D) {b : Nat} (hb : b < L.length) (n : Nat) (hn : n ≤ L.length) : nodR (belows L L.length) D b n = nodS L b n := by
  induction n with
  | zero => rfl
  | succ n ih =>
    have ih := ih (by omega)
    unfold nodR nodS
    have e : (decide (b ≤ n) && nodT (belows L L.length) D b n) = nodN L n b := by
      have e1 : nodT (belows L L.length) D b n = nodN L n b := by
        unfold nodT nodN
        rw [Sg.belows_get L L.length n (by omega), Db.dbl_eq hl h hb]
      rw [e1]
      by_cases hbn : b ≤ n
      · rw [decide_eq_true hbn, Bool.true_and]
      · rw [decide_eq_false hbn, Bool.false_and]
        symm
        rw [Bool.eq_false_iff]
        intro hq
        exact hbn (nod_le hl (by omega) hq)
    rw [e, ih]

/-- the model's table of the nodding ones, with what it stands on -/
theorem table6 (g off cap : Nat) (L : List K) (w : World) (hl : laceB L = true) (hr : RdK w (some ⟨g, off, none⟩) L) :
    Calls Tryz.prog 20 #[.slice (some ⟨g, off, none⟩) L.length cap] w fun e w' => ∃ bo bc, e = .returned (.slice bo L.length bc) ∧ Below w.heap.size w w' ∧
      Calls Tryz.prog 33 #[.slice (some ⟨g, off, none⟩) L.length cap, .slice bo L.length bc] w' fun e2 w2 => ∃ h O, e2 = .returned (.slice (some ⟨h, 0, none⟩) L.length L.length) ∧ RowI w2 h L.length O ∧ (∀ i, i < L.length → O i = nodS L i L.length) ∧ Below w'.heap.size w' w2 := by
  have h60 := ((Lc.lace_iff L).1 hl).1
  refine (Sg.l4All (some ⟨g, off, none⟩) cap L w h60 (Sg.frm_lace hl) hr).mono ?_
  rintro e w1 ⟨bo, bc, rfl, hown, hb1⟩
  have hbl := Sg.belows_len L L.length
  refine ⟨bo, bc, by rw [hbl], hb1, ?_⟩
  have h5 := l6All (some ⟨g, off, none⟩) cap L bo bc (belows L L.length) w1 h60 hbl (Sg.belows_in L L.length h60) (hr.below hb1) (Lst.own_rd hown) (fun g' e => by subst e; exact (World.ownsRow.lt hown g' rfl).2)
  rw [hbl] at h5
  refine h5.mono ?_
  rintro e w2 ⟨h, D, O, rfl, _, hrow, hD, hO, hb2⟩
  exact ⟨h, O, rfl, hrow, fun i hi => by rw [hO i hi, nodR_eq hl hD hi _ (Nat.le_refl _)], hb2⟩

end Nd
end Go.Proofs.YtodgkhlnefggdaaGreat
