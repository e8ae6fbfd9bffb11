/-
  What the model's Doubled and DoublesOf answer: two knots of one hand neither of which sees the other; for lists of knots whose words have at most 2^40 bytes.
-/
import Derived.Test.YtaoglifenjmecajDoubS
import Derived.Test.YtaoglifenjmecajSightT
namespace Go.Proofs.Ytaoglifenjmecaj
open Go.RowKit
set_option maxRecDepth 100000
namespace Db
open Kn (K okK)
open Bit (bit withB)
open Lc (at' RdK WordsOk laceB setB)
open Sg (isB bel belows)

/-- of one hand, and neither sees the other -/
def dblN (L : List K) (i j : Nat) : Bool := decide ((at' L i).hand = (at' L j).hand) && (!bit (bel L i) j && !bit (bel L j) i)
/-- the document's Doubled -/
def doubledB (L : List K) (a b : Int) : Bool := isB L a && (isB L b && dblN L a.toNat b.toNat)
/-- all that are doubled with one -/
def dblS (L : List K) (i : Nat) : Nat → Int
  | 0 => 0
  | n + 1 => if dblN L i n then withB (dblS L i n) n else dblS L i n
/-- the document's DoublesOf -/
def doublesI (L : List K) (a : Int) : Int := if isB L a then dblS L a.toNat L.length else -1

theorem dblS_bd (L : List K) (i n : Nat) (hn : n ≤ 60) : 0 ≤ dblS L i n ∧ dblS L i n < 1152921504606846976 := by
  induction n with
  | zero => exact ⟨Int.le_refl 0, show (0 : Int) < 1152921504606846976 by decide⟩
  | succ n ih =>
    have ih := ih (by omega)
    unfold dblS
    split
    · exact Bit.withB_bd _ ih.1 ih.2 n (by omega)
    · exact ih

theorem bit_dblS (L : List K) (i n : Nat) (hn : n ≤ 60) (j : Nat) : bit (dblS L i n) j = (decide (j < n) && dblN L i j) := by
  induction n with
  | zero => unfold dblS; rw [Lc.bit_zero]; simp
  | succ n ih =>
    have ih := ih (by omega)
    have hb := dblS_bd L i n (by omega)
    unfold dblS
    cases hd : dblN L i n
    · rw [if_neg (by simp), ih]
      by_cases e : j = n
      · subst e; simp [hd]
      · rw [show decide (j < n + 1) = decide (j < n) from by rw [Bool.eq_iff_iff]; simp; omega]
    · rw [if_pos rfl, Bit.bit_withB _ hb.1, ih]
      by_cases e : j = n
      · subst e; simp [hd]
      · rw [show decide (j < n + 1) = decide (j < n) from by rw [Bool.eq_iff_iff]; simp; omega]; simp [e]

theorem bel_hi {L : List K} (hl : laceB L = true) {i j : Nat} (hi : i < L.length) (hj : i < j) : bit (bel L i) j = false := by
  rw [Bool.eq_false_iff]
  intro h
  have := Sg.reach_le hl hi ((Sg.bel_reach hl i hi j).1 h)
  omega
theorem bel_self {L : List K} (hl : laceB L = true) {i : Nat} (hi : i < L.length) : bit (bel L i) i = true := (Sg.bel_reach hl i hi i).2 (.self _)

theorem dbl_n {L : List K} (hl : laceB L = true) {i j : Nat} (hi : i < L.length) (hj : j < L.length) : dblB L (belows L L.length) i j = dblN L i j := by
  unfold dblB dblN pairB
  rw [Sg.belows_get L L.length i hi, Sg.belows_get L L.length j hj]
  by_cases h1 : j < i
  · rw [if_pos h1, bel_hi hl hj h1]; simp
  · by_cases h2 : i < j
    · rw [if_neg h1, if_pos h2, bel_hi hl hi h2]
      rw [show decide ((at' L j).hand = (at' L i).hand) = decide ((at' L i).hand = (at' L j).hand) from by rw [Bool.eq_iff_iff]; simp [eq_comm]]
      simp
    · obtain rfl : i = j := by omega
      rw [if_neg h1, if_neg h2, bel_self hl hi]; simp

theorem dbl_bit {L : List K} (hl : laceB L = true) {D : Nat → Int} (h : Dbl L (belows L L.length) L.length 0 D) {i : Nat} (hi : i < L.length) (j : Nat) : bit (D i) j = (decide (j < L.length) && dblN L i j) := by
  rw [(h i hi).2 j]
  by_cases hj : j < L.length
  · rw [dbl_n hl hi hj]
    have : doneB L.length 0 i j = true := by unfold doneB; simp [hi, hj]
    rw [this]; simp [hj]
  · have : doneB L.length 0 i j = false := by unfold doneB; simp [hj]
    rw [this]; simp [hj]

theorem dbl_eq {L : List K} (hl : laceB L = true) {D : Nat → Int} (h : Dbl L (belows L L.length) L.length 0 D) {i : Nat} (hi : i < L.length) : D i = dblS L i L.length := by
  have h60 := ((Lc.lace_iff L).1 hl).1
  exact Lc.eq_of_bits _ _ (h i hi).1.1 (dblS_bd L i _ h60).1 fun j => by rw [dbl_bit hl h hi j, bit_dblS L i _ h60]

/-- the model's table of the doubled ones, with what it stands on -/
theorem table (g off cap : Nat) (L : List K) (w : World) (hl : laceB L = true) (hr : RdK w (some ⟨g, off, none⟩) L) :
    Calls Try.prog 32 #[.slice (some ⟨g, off, none⟩) L.length cap] w fun e w' => ∃ bo bc, e = .returned (.slice bo L.length bc) ∧ Below w.heap.size w w' ∧
      Calls Try.prog 31 #[.slice (some ⟨g, off, none⟩) L.length cap, .slice bo L.length bc] w' fun e2 w2 => ∃ D, e2 = .returned (.slice (some ⟨w'.heap.size, 0, none⟩) L.length L.length) ∧ RowI w2 w'.heap.size L.length D ∧ Dbl L (belows L L.length) L.length 0 D ∧ Below w'.heap.size w' w2 := by
  have h60 := ((Lc.lace_iff L).1 hl).1
  refine (Sg.l4All (some ⟨g, off, none⟩) cap L w h60 (Sg.frm_lace hl) hr).mono ?_
  rintro e w1 ⟨bo, bc, rfl, hown, hb1⟩
  have hbl := Sg.belows_len L L.length
  refine ⟨bo, bc, by rw [hbl], hb1, ?_⟩
  have h5 := l5All (some ⟨g, off, none⟩) cap L bo bc (belows L L.length) w1 h60 hbl (Sg.belows_in L L.length h60) (hr.below hb1) (Lst.own_rd hown) (fun g' e => by subst e; exact (World.ownsRow.lt hown g' rfl).2)
  rw [hbl] at h5
  exact h5

set_option maxHeartbeats 1600000 in
theorem specDoublesOf (g off cap : Nat) (L : List K) (a : Int) (w : World) (hcap : L.length ≤ cap) (hw : WordsOk L) (hr : RdK w (some ⟨g, off, none⟩) L) :
    Calls Try.prog 14 #[.slice (some ⟨g, off, none⟩) L.length cap, .int .i64 a] w fun e w' => e = .returned (.int .i64 (doublesI L a)) ∧ Below w.heap.size w w' := by
  go_enter Try.func14, Try.ntmps14
  go_wp2_with fail
  refine (Sg.l4Is g off cap L a _ hcap hw hr).mono ?_
  rintro e w1 ⟨rfl, hb1⟩
  have hr1 := hr.below hb1
  cases his : isB L a
  · have HT : Hid (doublesI L a = -1) := by show _ = _; unfold doublesI; rw [his]; rfl
    clear his
    go_wp2
    go_ret
    exact ⟨by rw [HT.out]; rfl, hb1⟩
  · have HT : Hid (doublesI L a = dblS L a.toNat L.length) := by show _ = _; unfold doublesI; rw [his]; rfl
    obtain ⟨h0, h1, hlc⟩ := Sg.isB_parts his
    clear his
    obtain ⟨p, rfl⟩ := Int.eq_ofNat_of_zero_le h0
    have hp : p < L.length := by omega
    rw [Int.toNat_natCast] at HT
    have HLC : Hid (laceB L = true) := hlc
    clear hlc
    go_wp2_with fail
    refine (table g off cap L _ HLC.out hr1).mono ?_
    rintro e w2 ⟨bo, bc, rfl, hb2, h5⟩
    have hB2 := hb1.trans (hb2.mono hb1.size)
    clear hb1 hb2 hr1 hr
    go_wp2_with fail
    refine h5.mono ?_
    rintro e w3 ⟨D, rfl, hrow, hD, hb3⟩
    have hB3 := hB2.trans (hb3.mono hB2.size)
    have cp := hrow.rd p hp
    rw [dbl_eq HLC.out hD hp] at cp
    clear hb3 hB2 hrow hD h5
    go_wp2
    go_ret
    exact ⟨by rw [HT.out]; rfl, hB3⟩

set_option maxHeartbeats 1600000 in
theorem specDoubled (g off cap : Nat) (L : List K) (a b : Int) (w : World) (hcap : L.length ≤ cap) (hw : WordsOk L) (hr : RdK w (some ⟨g, off, none⟩) L) :
    Calls Try.prog 10 #[.slice (some ⟨g, off, none⟩) L.length cap, .int .i64 a, .int .i64 b] w fun e w' => e = .returned (.bool (doubledB L a b)) ∧ Below w.heap.size w w' := by
  go_enter Try.func10, Try.ntmps10
  go_wp2_with fail
  refine (Sg.l4Is g off cap L a _ hcap hw hr).mono ?_
  rintro e w1 ⟨rfl, hb1⟩
  have hr1 := hr.below hb1
  cases his : isB L a
  · have HT : Hid (doubledB L a b = false) := by show _ = _; unfold doubledB; rw [his]; rfl
    clear his
    go_wp2
    go_ret
    exact ⟨by rw [HT.out]; rfl, hb1⟩
  · have HT1 : Hid (doubledB L a b = (isB L b && dblN L a.toNat b.toNat)) := by show _ = _; unfold doubledB; rw [his]; rfl
    obtain ⟨h0, h1, hlc⟩ := Sg.isB_parts his
    clear his
    go_wp2_with fail
    refine (Sg.l4Is g off cap L b _ hcap hw hr1).mono ?_
    rintro e w2 ⟨rfl, hb2⟩
    have hr2 := hr1.below hb2
    have hB2 := hb1.trans (hb2.mono hb1.size)
    clear hb1 hb2 hr1
    cases hib : isB L b
    · have HT : Hid (doubledB L a b = false) := by show _ = _; rw [HT1.out, hib]; rfl
      clear hib HT1
      go_wp2
      go_ret
      exact ⟨by rw [HT.out]; rfl, hB2⟩
    · have HT : Hid (doubledB L a b = dblN L a.toNat b.toNat) := by show _ = _; rw [HT1.out, hib]; rfl
      obtain ⟨q0, q1, _⟩ := Sg.isB_parts hib
      have h60 := ((Lc.lace_iff L).1 hlc).1
      have HLC : Hid (laceB L = true) := hlc
      clear hib hlc HT1
      obtain ⟨p, rfl⟩ := Int.eq_ofNat_of_zero_le h0
      obtain ⟨q, rfl⟩ := Int.eq_ofNat_of_zero_le q0
      have hp : p < L.length := by omega
      have hq : q < L.length := by omega
      rw [Int.toNat_natCast, Int.toNat_natCast] at HT
      go_wp2_with fail
      refine (table g off cap L _ HLC.out hr2).mono ?_
      rintro e w3 ⟨bo, bc, rfl, hb3, h5⟩
      have hB3 := hB2.trans (hb3.mono hB2.size)
      clear hB2 hb3 hr2 hr
      go_wp2_with fail
      refine h5.mono ?_
      rintro e w4 ⟨D, rfl, hrow, hD, hb4⟩
      have hB4 := hB3.trans (hb4.mono hB3.size)
      have cp := hrow.rd p hp
      have HC := has_call (D p) q (dblN L p q) (hD p hp).1.1 (hD p hp).1.2 (by omega) (by rw [dbl_bit HLC.out hD hp q]; simp [hq])
      clear hb4 hB3 hrow hD h5
      go_wp2_with (go_at_call 30; refine (HC _).mono ?_; rintro e w' ⟨rfl, rfl⟩)
      go_ret
      exact ⟨by rw [HT.out]; rfl, hB4⟩

end Db
end Go.Proofs.Ytaoglifenjmecaj
