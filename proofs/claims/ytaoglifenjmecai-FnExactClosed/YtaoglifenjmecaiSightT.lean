/-
  What the model's Below, Sees, Closed and Tips answer, in the words of SightM; for lists of knots whose words have at most 2^40 bytes.
-/
import Derived.Test.YtaoglifenjmecaiSightS
import Derived.Test.YtaoglifenjmecaiSightN
import Derived.Test.YtaoglifenjmecaiLaceU
namespace Go.Proofs.Ytaoglifenjmecai
open Go.RowKit
set_option maxRecDepth 100000
namespace Sg
open Kn (K okK)
open Bit (bit)
open Lc (at' RdK laceB WordsOk setB)

/-- is there such a knot, of a lace? -/
def isB (L : List K) (k : Int) : Bool := decide (0 ≤ k) && (decide (k < (L.length : Int)) && laceB L)
/-- what Below answers -/
def belowI (L : List K) (k : Int) : Int := if isB L k then bel L k.toNat else -1
/-- what Sees answers -/
def seesB (L : List K) (a b : Int) : Bool := isB L a && (isB L b && bit (bel L a.toNat) b.toNat)
/-- what Closed answers -/
def closedB (L : List K) (s : Int) : Bool := setB L s && closedTo (belows L L.length) s L.length
/-- what Tips answers -/
def tipsI (L : List K) (s : Int) : Int := if closedB L s then tipsTo (belows L L.length) s L.length else -1

theorem isB_parts {L : List K} {k : Int} (h : isB L k = true) : 0 ≤ k ∧ k < (L.length : Int) ∧ laceB L = true := by
  unfold isB at h
  simpa using h

set_option maxHeartbeats 800000 in
theorem l4Is (g off cap : Nat) (L : List K) (k : Int) (w : World) (hcap : L.length ≤ cap) (hw : WordsOk L) (hr : RdK w (some ⟨g, off, none⟩) L) :
    Calls Try.prog 34 #[.slice (some ⟨g, off, none⟩) L.length cap, .int .i64 k] w fun e w' => e = .returned (.bool (isB L k)) ∧ Below w.heap.size w w' := by
  by_cases h0 : 0 ≤ k
  · by_cases h1 : k < (L.length : Int)
    · have HT : Hid (isB L k = laceB L) := by show _ = _; unfold isB; rw [decide_eq_true h0, decide_eq_true h1]; rfl
      go_enter Try.func34, Try.ntmps34
      go_wp2_with fail
      refine (Lc.specLaceOk g off cap L _ hcap hw hr).mono ?_
      rintro e w1 ⟨rfl, hb1⟩
      go_wp2
      go_ret
      exact ⟨by rw [HT.out]; rfl, hb1⟩
    · have HT : Hid (isB L k = false) := by show _ = _; unfold isB; rw [decide_eq_false h1]; simp
      go_enter Try.func34, Try.ntmps34
      go_wp2
      go_ret
      exact ⟨by rw [HT.out]; rfl, Below.refl _ _⟩
  · have HT : Hid (isB L k = false) := by show _ = _; unfold isB; rw [decide_eq_false h0]; rfl
    go_enter Try.func34, Try.ntmps34
    go_wp2
    go_ret
    exact ⟨by rw [HT.out]; rfl, Below.refl _ _⟩

set_option maxHeartbeats 800000 in
theorem specBelow (g off cap : Nat) (L : List K) (k : Int) (w : World) (hcap : L.length ≤ cap) (hw : WordsOk L) (hr : RdK w (some ⟨g, off, none⟩) L) :
    Calls Try.prog 16 #[.slice (some ⟨g, off, none⟩) L.length cap, .int .i64 k] w fun e w' => e = .returned (.int .i64 (belowI L k)) ∧ Below w.heap.size w w' := by
  go_enter Try.func16, Try.ntmps16
  go_wp2_with fail
  refine (l4Is g off cap L k _ hcap hw hr).mono ?_
  rintro e w1 ⟨rfl, hb1⟩
  have hr1 := hr.below hb1
  cases his : isB L k
  · have HT : Hid (belowI L k = -1) := by show _ = _; unfold belowI; rw [his]; rfl
    clear his
    go_wp2
    go_ret
    exact ⟨by rw [HT.out]; rfl, hb1⟩
  · obtain ⟨h0, h1, hlc⟩ := isB_parts his
    have HT : Hid (belowI L k = bel L k.toNat) := by show _ = _; unfold belowI; rw [his]; rfl
    have h60 := ((Lc.lace_iff L).1 hlc).1
    have hf := frm_lace hlc
    clear his hlc
    obtain ⟨p, rfl⟩ := Int.eq_ofNat_of_zero_le h0
    have hp : p < L.length := by omega
    have HG : Hid ((belows L L.length).getD p 0 = bel L p) := belows_get L L.length p hp
    have HBL : Hid ((belows L L.length).length = L.length) := belows_len L L.length
    go_wp2_with fail
    refine (l4All (some ⟨g, off, none⟩) cap L _ h60 hf hr1).mono ?_
    rintro e w2 ⟨bo, bc, rfl, hown, hb2⟩
    have hB2 := hb1.trans (hb2.mono hb1.size)
    have hrd := Lst.own_rd hown
    clear hb1 hb2 hown hr1
    generalize belows L L.length = l at HG HBL hrd ⊢
    have hpl : p < l.length := by rw [HBL.out]; exact hp
    have hpi : (p : Int) < (l.length : Int) := by omega
    rcases hrd with hrd | ⟨b, rfl, hcell⟩
    · rw [hrd] at hpl; simp at hpl
    have cp := hcell p hpl
    rw [HG.out] at cp
    clear hcell HBL HG
    go_wp2
    go_ret
    exact ⟨by rw [HT.out]; rfl, hB2⟩

set_option maxHeartbeats 800000 in
theorem specClosed (g off cap : Nat) (L : List K) (s : Int) (w : World) (hcap : L.length ≤ cap) (hw : WordsOk L) (hr : RdK w (some ⟨g, off, none⟩) L) :
    Calls Try.prog 20 #[.slice (some ⟨g, off, none⟩) L.length cap, .int .i64 s] w fun e w' => e = .returned (.bool (closedB L s)) ∧ Below w.heap.size w w' := by
  go_enter Try.func20, Try.ntmps20
  go_wp2_with fail
  refine (Lc.l3Set g off cap L s _ hcap hw hr).mono ?_
  rintro e w1 ⟨rfl, hb1⟩
  have hr1 := hr.below hb1
  cases hs : setB L s
  · have HT : Hid (closedB L s = false) := by show _ = _; unfold closedB; rw [hs]; rfl
    clear hs
    go_wp2
    go_ret
    exact ⟨by rw [HT.out]; rfl, hb1⟩
  · obtain ⟨hlc, h0, h1, _, h60, _⟩ := Lc.setB_parts hs
    have HT : Hid (closedB L s = closedTo (belows L L.length) s L.length) := by show _ = _; unfold closedB; rw [hs]; rfl
    have hf := frm_lace hlc
    clear hs hlc
    have HBL : Hid ((belows L L.length).length = L.length) := belows_len L L.length
    go_wp2_with fail
    refine (l4All (some ⟨g, off, none⟩) cap L _ h60 hf hr1).mono ?_
    rintro e w2 ⟨bo, bc, rfl, hown, hb2⟩
    have hB2 := hb1.trans (hb2.mono hb1.size)
    have hrd := Lst.own_rd hown
    clear hb1 hb2 hown hr1
    generalize belows L L.length = l at HT HBL hrd ⊢
    rw [← HBL.out] at HT
    go_wp2_with fail
    refine (l4Closed bo bc l s _ (by rw [HBL.out]; exact h60) h0 h1 hrd).mono ?_
    rintro e w3 ⟨rfl, rfl⟩
    go_wp2
    go_ret
    exact ⟨by rw [HT.out]; rfl, hB2⟩

theorem below_drewN {b : Nat} {a w : World} (h : Below b a w) (n : Nat) : Below b a (w.drewN n) := ⟨h.os, h.tape, h.output, h.size, h.block⟩

set_option maxHeartbeats 800000 in
theorem specTips (g off cap : Nat) (L : List K) (s : Int) (w : World) (hcap : L.length ≤ cap) (hw : WordsOk L) (hr : RdK w (some ⟨g, off, none⟩) L) :
    Calls Try.prog 22 #[.slice (some ⟨g, off, none⟩) L.length cap, .int .i64 s] w fun e w' => e = .returned (.int .i64 (tipsI L s)) ∧ Below w.heap.size w w' := by
  go_enter Try.func22, Try.ntmps22
  go_wp2_with fail
  refine (specClosed g off cap L s _ hcap hw hr).mono ?_
  rintro e w1 ⟨rfl, hb1⟩
  have hr1 := hr.below hb1
  cases hs : closedB L s
  · have HT : Hid (tipsI L s = -1) := by show _ = _; unfold tipsI; rw [hs]; rfl
    clear hs
    go_wp2
    go_ret
    exact ⟨by rw [HT.out]; rfl, hb1⟩
  · have hset : setB L s = true := by
      unfold closedB at hs; rw [Bool.and_eq_true] at hs; exact hs.1
    obtain ⟨hlc, h0, h1, _, h60, _⟩ := Lc.setB_parts hset
    have HT : Hid (tipsI L s = tipsTo (belows L L.length) s L.length) := by show _ = _; unfold tipsI; rw [hs]; rfl
    have hf := frm_lace hlc
    clear hs hlc hset
    have HBL : Hid ((belows L L.length).length = L.length) := belows_len L L.length
    go_wp2_with fail
    refine (l4All (some ⟨g, off, none⟩) cap L _ h60 hf hr1).mono ?_
    rintro e w2 ⟨bo, bc, rfl, hown, hb2⟩
    have hB2 := hb1.trans (hb2.mono hb1.size)
    have hrd := Lst.own_rd hown
    clear hb1 hb2 hown hr1
    generalize belows L L.length = l at HT HBL hrd ⊢
    rw [← HBL.out] at HT
    go_wp2_with fail
    refine (l4Tips bo bc l s _ (by rw [HBL.out]; exact h60) h0 h1 hrd).mono ?_
    rintro e w3 ⟨rfl, n3, rfl⟩
    have hB3 := below_drewN hB2 n3
    go_wp2
    go_ret
    exact ⟨by rw [HT.out]; rfl, hB3⟩

set_option maxHeartbeats 1600000 in
theorem specSees (g off cap : Nat) (L : List K) (a b : Int) (w : World) (hcap : L.length ≤ cap) (hw : WordsOk L) (hr : RdK w (some ⟨g, off, none⟩) L) :
    Calls Try.prog 18 #[.slice (some ⟨g, off, none⟩) L.length cap, .int .i64 a, .int .i64 b] w fun e w' => e = .returned (.bool (seesB L a b)) ∧ Below w.heap.size w w' := by
  go_enter Try.func18, Try.ntmps18
  go_wp2_with fail
  refine (l4Is g off cap L a _ hcap hw hr).mono ?_
  rintro e w1 ⟨rfl, hb1⟩
  have hr1 := hr.below hb1
  cases his : isB L a
  · have HT : Hid (seesB L a b = false) := by show _ = _; unfold seesB; rw [his]; rfl
    clear his
    go_wp2
    go_ret
    exact ⟨by rw [HT.out]; rfl, hb1⟩
  · have HT1 : Hid (seesB L a b = (isB L b && bit (bel L a.toNat) b.toNat)) := by show _ = _; unfold seesB; rw [his]; rfl
    obtain ⟨h0, h1, hlc⟩ := isB_parts his
    clear his
    go_wp2_with fail
    refine (l4Is g off cap L b _ hcap hw hr1).mono ?_
    rintro e w2 ⟨rfl, hb2⟩
    have hr2 := hr1.below hb2
    have hB2 := hb1.trans (hb2.mono hb1.size)
    clear hb1 hb2 hr1
    cases hib : isB L b
    · have HT : Hid (seesB L a b = false) := by show _ = _; rw [HT1.out, hib]; rfl
      clear hib HT1
      go_wp2
      go_ret
      exact ⟨by rw [HT.out]; rfl, hB2⟩
    · have HT : Hid (seesB L a b = bit (bel L a.toNat) b.toNat) := by show _ = _; rw [HT1.out, hib]; rfl
      obtain ⟨q0, q1, _⟩ := isB_parts hib
      have h60 := ((Lc.lace_iff L).1 hlc).1
      have hf := frm_lace hlc
      clear hib hlc HT1
      obtain ⟨p, rfl⟩ := Int.eq_ofNat_of_zero_le h0
      have hp : p < L.length := by omega
      have HG : Hid ((belows L L.length).getD p 0 = bel L p) := belows_get L L.length p hp
      have HBL : Hid ((belows L L.length).length = L.length) := belows_len L L.length
      have hbb := bel_bd L p (by omega)
      rw [Int.toNat_natCast] at HT
      go_wp2_with fail
      refine (l4All (some ⟨g, off, none⟩) cap L _ h60 hf hr2).mono ?_
      rintro e w3 ⟨bo, bc, rfl, hown, hb3⟩
      have hB3 := hB2.trans (hb3.mono hB2.size)
      have hrd := Lst.own_rd hown
      clear hB2 hb3 hown hr2
      generalize belows L L.length = l at HG HBL hrd ⊢
      have hpl : p < l.length := by rw [HBL.out]; exact hp
      have hpi : (p : Int) < (l.length : Int) := by omega
      rcases hrd with hrd | ⟨bb, rfl, hcell⟩
      · rw [hrd] at hpl; simp at hpl
      have cp := hcell p hpl
      rw [HG.out] at cp
      clear hcell HBL HG
      generalize bel L p = y at cp HT hbb
      go_wp2_with (go_at_call 38; refine (Base.l1Has _ _ _ hbb.1 hbb.2 q0 (by omega)).mono ?_; rintro e w' ⟨rfl, rfl⟩)
      go_ret
      exact ⟨by rw [HT.out]; rfl, hB3⟩

end Sg
end Go.Proofs.Ytaoglifenjmecai
