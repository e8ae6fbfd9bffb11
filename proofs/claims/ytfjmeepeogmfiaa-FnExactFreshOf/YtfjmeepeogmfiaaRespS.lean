/-
  What the model answers for Respects: each one is a knot, none is told twice, none stands ahead of one that it sees.
-/
import Derived.Test.YtfjmeepeogmfiaaSightT
import Derived.Test.YtfjmeepeogmfiaaDoubS
namespace Go.Proofs.Ytfjmeepeogmfiaa
open Go.RowKit
set_option maxRecDepth 100000
set_option linter.unusedVariables false
namespace Tl
open Kn (K okK)
open Bit (bit withB memTo)
open Lc (at' RdK WordsOk laceB setB)
open Sg (isB bel belows)

/-- a number that there is a knot for -/
def inR (L : List K) (x : Int) : Bool := decide (0 ≤ x) && decide (x < (L.length : Int))
/-- of those behind the i-th, up to j, x sees none -/
def unB (L : List K) (C : List Int) (x : Int) (i j : Nat) : Bool := (List.range j).all fun q => decide (q ≤ i) || !(inR L (C.getD q 0) && bit (bel L x.toNat) (C.getD q 0).toNat)
/-- the i-th stands as it should -/
def okAt (L : List K) (C : List Int) (i : Nat) : Bool := inR L (C.getD i 0) && (!(C.take i).contains (C.getD i 0) && unB L C (C.getD i 0) i C.length)
/-- the document's Respects -/
def respB (L : List K) (C : List Int) : Bool := laceB L && (List.range C.length).all (okAt L C)

theorem resp_no {L : List K} {C : List Int} (i : Nat) (hi : i < C.length) (h : okAt L C i = false) : respB L C = false := by
  rw [Bool.eq_false_iff]
  intro hb
  unfold respB at hb
  rw [Bool.and_eq_true, List.all_eq_true] at hb
  have := hb.2 i (by simpa using hi)
  rw [h] at this; exact Bool.noConfusion this
theorem resp_yes {L : List K} {C : List Int} (hl : laceB L = true) (h : ∀ i, i < C.length → okAt L C i = true) : respB L C = true := by
  unfold respB
  rw [hl, Bool.true_and, List.all_eq_true]
  intro i hi
  exact h i (by simpa using hi)
theorem un_step (L : List K) (C : List Int) (x : Int) (i j : Nat) (hij : i < j) : unB L C x i (j + 1) = (unB L C x i j && !(inR L (C.getD j 0) && bit (bel L x.toNat) (C.getD j 0).toNat)) := by
  unfold unB
  rw [List.range_succ, List.all_append, List.all_cons, List.all_nil, Bool.and_true, decide_eq_false (by omega : ¬ j ≤ i), Bool.false_or]
theorem un_start (L : List K) (C : List Int) (x : Int) (i : Nat) : unB L C x i (i + 1) = true := by
  unfold unB
  rw [List.all_eq_true]
  intro q hq
  rw [decide_eq_true (by have := List.mem_range.1 hq; omega : q ≤ i)]; rfl
theorem un_no {L : List K} {C : List Int} {x : Int} {i j : Nat} (hij : i < j) (hj : j < C.length) (h : (inR L (C.getD j 0) && bit (bel L x.toNat) (C.getD j 0).toNat) = true) : unB L C x i C.length = false := by
  rw [Bool.eq_false_iff]
  intro hb
  unfold unB at hb
  rw [List.all_eq_true] at hb
  have := hb j (by simpa using hj)
  rw [decide_eq_false (by omega : ¬ j ≤ i), h] at this
  exact Bool.noConfusion this

/-- those of a list, as a set -/
def seenF (l : List Int) : Int := l.foldl (fun x a => withB x a.toNat) 0
theorem seenF_snoc (l : List Int) (a : Int) : seenF (l ++ [a]) = withB (seenF l) a.toNat := by
  unfold seenF; rw [List.foldl_append]; rfl
theorem seenF_bits (l : List Int) (hl : ∀ a ∈ l, 0 ≤ a ∧ a < 60) : (0 ≤ seenF l ∧ seenF l < 1152921504606846976) ∧ ∀ j : Nat, bit (seenF l) j = l.contains (j : Int) := by
  suffices H : ∀ (l : List Int) (x : Int), (∀ a ∈ l, 0 ≤ a ∧ a < 60) → (0 ≤ x ∧ x < 1152921504606846976) →
      (0 ≤ l.foldl (fun x a => withB x a.toNat) x ∧ l.foldl (fun x a => withB x a.toNat) x < 1152921504606846976) ∧
      ∀ j : Nat, bit (l.foldl (fun x a => withB x a.toNat) x) j = true ↔ (bit x j = true ∨ (j : Int) ∈ l) by
    have := H l 0 hl ⟨Int.le_refl 0, by decide⟩
    refine ⟨this.1, fun j => ?_⟩
    rw [Bool.eq_iff_iff, show seenF l = l.foldl (fun x a => withB x a.toNat) 0 from rfl, this.2 j, Lc.bit_zero]
    simp
  intro l
  induction l with
  | nil => intro x _ hx; exact ⟨hx, fun j => by simp⟩
  | cons a l ih =>
    intro x hl hx
    have ha := hl a (by simp)
    obtain ⟨p, rfl⟩ := Int.eq_ofNat_of_zero_le ha.1
    simp only [List.foldl_cons]
    rw [Int.toNat_natCast]
    have := ih (withB x p) (fun a h => hl a (by simp [h])) (Bit.withB_bd x hx.1 hx.2 p (by omega))
    refine ⟨this.1, fun j => ?_⟩
    rw [this.2 j, Bit.bit_withB x hx.1, Bool.or_eq_true, decide_eq_true_eq, List.mem_cons]
    constructor
    · rintro ((h | h) | h)
      · exact .inr (.inl (by omega))
      · exact .inl h
      · exact .inr (.inr h)
    · rintro (h | h | h)
      · exact .inl (.inr h)
      · exact .inl (.inl (by omega))
      · exact .inr h
theorem inR_iff (L : List K) (x : Int) : inR L x = true ↔ 0 ≤ x ∧ x < (L.length : Int) := by
  unfold inR; rw [Bool.and_eq_true, decide_eq_true_eq, decide_eq_true_eq]
theorem ok_in {L : List K} {C : List Int} {i : Nat} (h : okAt L C i = true) : inR L (C.getD i 0) = true := by
  unfold okAt at h; rw [Bool.and_eq_true] at h; exact h.1
theorem take_in {L : List K} {C : List Int} (h60 : L.length ≤ 60) {i : Nat} (hi : i ≤ C.length) (h : ∀ q, q < i → okAt L C q = true) : ∀ a ∈ C.take i, 0 ≤ a ∧ a < 60 := by
  intro a ha
  obtain ⟨q, hq, e⟩ := List.getElem_of_mem ha
  rw [List.length_take] at hq
  have h1 := (inR_iff L _).1 (ok_in (h q (by omega)))
  have e2 : C.getD q 0 = a := by
    rw [← e, List.getElem_take, List.getD, List.getElem?_eq_getElem (by omega)]; rfl
  rw [e2] at h1
  omega

set_option maxHeartbeats 6400000 in
theorem specRespects (g off cap : Nat) (L : List K) (ao : Option Addr) (cc : Nat) (C : List Int) (w : World) (hcap : L.length ≤ cap) (hw : WordsOk L) (hg : g < w.heap.size) (hr : RdK w (some ⟨g, off, none⟩) L) (hC : C.length ≤ 1048576) (hz : ∀ z ∈ C, -9223372036854775808 ≤ z ∧ z ≤ 9223372036854775807) (hrd : Lst.Rd w ao C) (hao : ∀ c, ao = some ⟨c, 0, none⟩ → c < w.heap.size) :
    Calls Try.prog 17 #[.slice (some ⟨g, off, none⟩) L.length cap, .slice ao C.length cc] w fun e w' => e = .returned (.bool (respB L C)) ∧ Below w.heap.size w w' := by
  have hlo := Lc.specLaceOk g off cap L w hcap hw hr
  have HRD : Hid (∀ W : World, Below w.heap.size w W → ∀ j, j < C.length → ∃ g', ao = some ⟨g', 0, none⟩ ∧ W.cell? ⟨g', j, none⟩ = some (.int .i64 (C.getD j 0))) := fun W hW j hj => by
    rcases hrd with h | ⟨g', e, hc⟩
    · rw [h] at hj; simp at hj
    · exact ⟨g', e, (hW.cell (p := ⟨g', j, none⟩) (hao g' e)).trans (hc j hj)⟩
  have HR : Hid (RdK w (some ⟨g, off, none⟩) L) := hr
  clear hrd hao hr hz hw hcap
  go_enter Try.func17, Try.ntmps17
  go_wp2_with fail
  refine hlo.mono ?_
  rintro e w1 ⟨rfl, hb1⟩
  clear hlo
  cases hl : laceB L
  · have HT : Hid (respB L C = false) := by show _ = _; unfold respB; rw [hl]; rfl
    clear hl
    go_wp2
    go_ret
    exact ⟨by rw [HT.out]; rfl, hb1⟩
  · have h60 := ((Lc.lace_iff L).1 hl).1
    have HLC : Hid (laceB L = true) := hl
    have h4 := Sg.l4All (some ⟨g, off, none⟩) cap L w1 h60 (Sg.frm_lace hl) (HR.out.below hb1)
    have hbl := Sg.belows_len L L.length
    clear hl
    go_wp2_with fail
    refine h4.mono ?_
    rintro e w2 ⟨bo, bc, rfl, hown, hb2⟩
    rw [hbl]
    have HB2 : Hid (Below w.heap.size w w2) := hb1.trans (hb2.mono hb1.size)
    have HBE : Hid (∀ p, p < L.length → ∃ b, bo = some ⟨b, 0, none⟩ ∧ w2.cell? ⟨b, p, none⟩ = some (.int .i64 (bel L p))) := fun p hp => by
      rcases Lst.own_rd hown with h | ⟨b, e, hc⟩
      · rw [h] at hbl; simp at hbl; omega
      · have := hc p (by rw [hbl]; exact hp)
        rw [Sg.belows_get L L.length p hp] at this
        exact ⟨b, e, this⟩
    have HCE : Hid (∀ j, j < C.length → ∃ g', ao = some ⟨g', 0, none⟩ ∧ w2.cell? ⟨g', j, none⟩ = some (.int .i64 (C.getD j 0))) := HRD.out w2 HB2.out
    clear h4 hown hb2 hb1 HRD hbl
    go_wp2
    go_loopw [6, 7] (fun sv iv wr => ∃ i n : Nat, i ≤ C.length ∧ iv = .int .i64 i ∧ sv = .int .i64 (seenF (C.take i)) ∧ wr = w2.drewN n ∧ Hid (∀ q, q < i → okAt L C q = true)) (fun _ iv _ => C.length - (intOf iv).toNat)
    case atStart => exact ⟨0, 0, by omega, rfl, rfl, rfl, fun q hq => absurd hq (by omega)⟩
    case round =>
      obtain ⟨i, n, hi, rfl, rfl, rfl, HOK⟩ := hrel
      by_cases hil : i < C.length
      · have hii : (i : Int) < (C.length : Int) := by omega
        obtain ⟨g', rfl, ci⟩ := HCE.out i hil
        have HTA : Hid (∀ a ∈ C.take i, 0 ≤ a ∧ a < 60) := take_in h60 hi HOK.out
        have hsb := (seenF_bits (C.take i) HTA.out).1
        have HSB : Hid (∀ j : Nat, bit (seenF (C.take i)) j = (C.take i).contains (j : Int)) := (seenF_bits (C.take i) HTA.out).2
        have HSN : Hid (seenF (C.take (i + 1)) = withB (seenF (C.take i)) (C.getD i 0).toNat) := by
          show _ = _
          rw [Lc.take_snocI C i hil, seenF_snoc]
        have HNO : Hid (okAt L C i = false → respB L C = false) := resp_no i hil
        have HOKI : Hid (okAt L C i = (inR L (C.getD i 0) && (!(C.take i).contains (C.getD i 0) && unB L C (C.getD i 0) i C.length))) := rfl
        have HUN : Hid (∀ x, x = C.getD i 0 → unB L C x i (i + 1) = true ∧ (∀ j, i < j → unB L C x i (j + 1) = (unB L C x i j && !(inR L (C.getD j 0) && bit (bel L x.toNat) (C.getD j 0).toNat))) ∧ ∀ j, i < j → j < C.length → (inR L (C.getD j 0) && bit (bel L x.toNat) (C.getD j 0).toNat) = true → unB L C x i C.length = false) := fun x _ => ⟨un_start L C x i, fun j hj => un_step L C x i j hj, fun j hj hj2 h => un_no hj hj2 h⟩
        clear HTA
        generalize hcx : C.getD i 0 = x at ci HSN HOKI HUN
        have HX : Hid (x = C.getD i 0) := hcx.symm
        clear hcx
        generalize hsf : seenF (C.take i) = sf at hsb HSB HSN ⊢
        clear hsf
        by_cases hx0 : x < 0
        · have HT : Hid (respB L C = false) := HNO.out (by rw [HOKI.out]; unfold inR; rw [decide_eq_false (by omega)]; rfl)
          clear HNO HOKI HSB HSN HUN HX HOK
          go_wp2
          go_ret
          exact ⟨by rw [HT.out]; rfl, Db.below_drewN HB2.out n⟩
        · obtain ⟨p, rfl⟩ := Int.eq_ofNat_of_zero_le (by omega : 0 ≤ x)
          by_cases hx1 : p < L.length
          · have hx1' : (p : Int) < (L.length : Int) := by omega
            have hx2 : ¬ (L.length : Int) ≤ (p : Int) := by omega
            have HIN : Hid (inR L (p : Int) = true) := (inR_iff L _).2 ⟨by omega, by omega⟩
            have hcall := Db.has_call sf p ((C.take i).contains (p : Int)) hsb.1 hsb.2 (by omega) (HSB.out p)
            cases hct : (C.take i).contains (p : Int)
            · rw [hct] at hcall
              obtain ⟨b, rfl, cb⟩ := HBE.out p hx1
              have HO : Hid (bits .or .i64 sf (2 ^ p) = withB sf p) := Base.shl_or _ p hsb.1 hsb.2 (by omega)
              rw [Int.toNat_natCast] at HSN
              have hub := Sg.bel_bd L p (by omega)
              have HU0 := HUN.out _ rfl
              have HUS : Hid (unB L C (p : Int) i (i + 1) = true) := HU0.1
              have HUT : Hid (∀ j, i < j → unB L C (p : Int) i (j + 1) = (unB L C (p : Int) i j && !(inR L (C.getD j 0) && bit (bel L p) (C.getD j 0).toNat))) := HU0.2.1
              have HUX : Hid (∀ j, i < j → j < C.length → (inR L (C.getD j 0) && bit (bel L p) (C.getD j 0).toNat) = true → unB L C (p : Int) i C.length = false) := HU0.2.2
              have HOK2 : Hid (okAt L C i = unB L C (p : Int) i C.length) := by show _ = _; rw [HOKI.out, HIN.out, hct]; simp
              have HBT : Hid (∀ q : Nat, q ≤ 60 → ∀ W : World, Calls Try.prog 37 #[.int .i64 (bel L p), .int .i64 (q : Int)] W fun e w' => e = .returned (.bool (bit (bel L p) q)) ∧ w' = W) := fun q hq W => Db.has_call _ q _ hub.1 hub.2 hq rfl W
              clear hct HU0 HUN HOKI HIN HX hub
              generalize hbe : bel L p = be at cb HUT HUX HBT
              clear hbe
              go_wp2_with (first | (go_at_call 37; refine (hcall _).mono ?_; rintro e w' ⟨rfl, rfl⟩) | (go_at_call 38; refine (Base.l1Bit _ _ (by omega) (by omega)).mono ?_; rintro e w' ⟨rfl, rfl⟩; rw [Int.toNat_natCast]))
              rw [HO.out]
              clear hcall
              go_loopw [9] (fun jv wr => ∃ j m : Nat, i < j ∧ j ≤ C.length ∧ jv = .int .i64 j ∧ wr = w2.drewN m ∧ Hid (unB L C (p : Int) i j = true)) (fun jv _ => C.length - (intOf jv).toNat)
              case atStart => exact ⟨i + 1, n, by omega, by omega, by go_num, rfl, HUS⟩
              case round =>
                obtain ⟨j, m, hij, hj, rfl, rfl, HU⟩ := hrel
                by_cases hjl : j < C.length
                · have hji : (j : Int) < (C.length : Int) := by omega
                  obtain ⟨g2, e2, cj⟩ := HCE.out j hjl
                  injection e2 with e2
                  injection e2 with e2
                  subst e2
                  have HUT1 : Hid (unB L C (p : Int) i (j + 1) = (unB L C (p : Int) i j && !(inR L (C.getD j 0) && bit be (C.getD j 0).toNat))) := HUT.out j hij
                  have HUX1 : Hid ((inR L (C.getD j 0) && bit be (C.getD j 0).toNat) = true → respB L C = false) := fun h => HNO.out (by rw [HOK2.out]; exact HUX.out j hij hjl h)
                  generalize C.getD j 0 = y at cj HUT1 HUX1
                  by_cases hy0 : y < 0
                  · have HU1 : Hid (unB L C (p : Int) i (j + 1) = true) := by show _ = _; rw [HUT1.out, HU.out]; unfold inR; rw [decide_eq_false (by omega)]; rfl
                    have hy0' : decide (0 ≤ y) = false := by simp; omega
                    clear HUT1 HUX1 HU
                    go_wp2_with fail
                    go_quiet (fail)
                    go_wp2
                    go_roundw
                    case rel => exact ⟨j + 1, _, by omega, by omega, by go_num, rfl, HU1⟩
                    case measure => simp [intOf]; omega
                  · have hy0' : decide (0 ≤ y) = true := by simp; omega
                    obtain ⟨q, rfl⟩ := Int.eq_ofNat_of_zero_le (by omega : 0 ≤ y)
                    by_cases hy1 : q < L.length
                    · have hy1' : decide ((q : Int) < (L.length : Int)) = true := by simp; omega
                      have hc2 := HBT.out q (by omega)
                      have HIQ : Hid (inR L (q : Int) = true) := (inR_iff L _).2 ⟨by omega, by omega⟩
                      rw [Int.toNat_natCast] at HUT1 HUX1
                      cases hbq : bit be q
                      · rw [hbq] at hc2
                        have HU1 : Hid (unB L C (p : Int) i (j + 1) = true) := by show _ = _; rw [HUT1.out, HU.out, hbq]; simp
                        clear HUT1 HUX1 HU hbq HIQ
                        go_wp2_with fail
                        go_quiet (first | (go_at_call 37; exact (hc2 _).mono fun _ _ h => ⟨h.1, _, h.2⟩) | fail)
                        go_wp2
                        go_roundw
                        case rel => exact ⟨j + 1, _, by omega, by omega, by go_num, rfl, HU1⟩
                        case measure => simp [intOf]; omega
                      · rw [hbq] at hc2
                        have HT : Hid (respB L C = false) := HUX1.out (by rw [HIQ.out, hbq]; rfl)
                        clear HUT1 HUX1 HU hbq HIQ
                        go_wp2_with fail
                        go_quiet (first | (go_at_call 37; exact (hc2 _).mono fun _ _ h => ⟨h.1, _, h.2⟩) | fail)
                        go_wp2
                        go_ret
                        exact ⟨by rw [HT.out]; rfl, by first | exact Db.below_drewN HB2.out _ | exact Db.below_drewN (Db.below_drewN HB2.out _) _⟩
                    · have hy1' : decide ((q : Int) < (L.length : Int)) = false := by simp; omega
                      have HU1 : Hid (unB L C (p : Int) i (j + 1) = true) := by show _ = _; rw [HUT1.out, HU.out]; unfold inR; rw [hy1']; simp
                      clear HUT1 HUX1 HU
                      go_wp2_with fail
                      go_quiet (fail)
                      go_wp2
                      go_roundw
                      case rel => exact ⟨j + 1, _, by omega, by omega, by go_num, rfl, HU1⟩
                      case measure => simp [intOf]; omega
                · obtain rfl : j = C.length := by omega
                  have HOK3 : Hid (∀ q, q < i + 1 → okAt L C q = true) := fun q hq => by
                    by_cases e : q = i
                    · subst e; rw [HOK2.out]; exact HU.out
                    · exact HOK.out q (by omega)
                  clear HU HUT HUX HUS HBT
                  go_wp2
                  go_roundw
                  case rel => exact ⟨i + 1, _, by omega, by go_num, by rw [HSN.out], rfl, HOK3⟩
                  case measure => simp [intOf]; omega
            · rw [hct] at hcall
              have HT : Hid (respB L C = false) := HNO.out (by rw [HOKI.out, HIN.out, hct]; rfl)
              clear HNO HOKI HSB HSN HUN HX HOK HIN hct
              go_wp2_with (go_at_call 37; refine (hcall _).mono ?_; rintro e w' ⟨rfl, rfl⟩)
              go_ret
              exact ⟨by rw [HT.out]; rfl, Db.below_drewN HB2.out n⟩
          · have hx1' : ¬ (p : Int) < (L.length : Int) := by omega
            have hx2 : (L.length : Int) ≤ (p : Int) := by omega
            have HT : Hid (respB L C = false) := HNO.out (by rw [HOKI.out]; unfold inR; rw [decide_eq_false hx1', Bool.and_false]; rfl)
            clear HNO HOKI HSB HSN HUN HX HOK
            go_wp2
            go_ret
            exact ⟨by rw [HT.out]; rfl, Db.below_drewN HB2.out n⟩
      · obtain rfl : i = C.length := by omega
        have HT : Hid (respB L C = true) := resp_yes HLC.out HOK.out
        clear HOK
        go_wp2
        go_ret
        exact ⟨by rw [HT.out]; rfl, Db.below_drewN HB2.out n⟩

end Tl
end Go.Proofs.Ytfjmeepeogmfiaa
