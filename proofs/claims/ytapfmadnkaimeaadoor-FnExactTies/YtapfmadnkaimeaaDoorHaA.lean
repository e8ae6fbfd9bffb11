/-
  What the program's own functions on a hand answer: which of a set are its own, the last one of what it keeps, whether it is right; for a lace in memory of the program's own.
-/
import Derived.Test.YtapfmadnkaimeaaDoorHandM
import Derived.Test.YtapfmadnkaimeaaDoorSightX
import Derived.Test.YtapfmadnkaimeaaDoorFam
namespace Go.Proofs.YtapfmadnkaimeaaDoor
open Go.RowKit
set_option maxRecDepth 100000
set_option linter.unusedVariables false
namespace Lc
open Kn (K okK)
open Bit (bit withB)

set_option maxHeartbeats 1600000 in
theorem amongOwn (g off cap : Nat) (L : List K) (s : Int) (kb : Nat) (r : Int) (w : World) (hL : L.length ≤ 60) (hs : Base.okB s = true) (hr : RdK w (some ⟨g, off, none⟩) L) (hkb : kb < w.heap.size) (hk : w.cell? ⟨kb, 1, none⟩ = some (.int .i64 r)) :
    Calls Tryd.prog 75 #[.slice (some ⟨g, off, none⟩) L.length cap, .int .i64 s, .func (.func 94) #[] #[.pointer (some ⟨kb, 0, none⟩)]] w fun e w' =>
      e = .returned (.int .i64 (amongI (fun y => decide (y.hand = r)) L s L.length)) ∧ Below w.heap.size w w' := by
  go_enter Tryd.func75, Tryd.ntmps75
  go_wp2
  go_loopw [7, 12] (fun o i wr => ∃ j : Nat, j ≤ L.length ∧ i = .int .i64 j ∧ o = .int .i64 (amongI (fun y => decide (y.hand = r)) L s j) ∧ Hid (Below w.heap.size w wr)) (fun _ i _ => L.length - (intOf i).toNat)
  case atStart => exact ⟨0, by omega, rfl, rfl, Below.refl _ _⟩
  case round =>
    obtain ⟨j, hj, rfl, rfl, HB⟩ := hrel
    by_cases hlt : j < L.length
    · obtain ⟨hg, hc⟩ := hr.on j hlt
      obtain ⟨c0, c1, c2, c3⟩ := hc.below HB.out hg
      have HO : Hid (Base.okB s = true) := hs
      have hin : Base.inB (j : Int) = true := (Base.inB_iff _).2 ⟨by omega, by omega⟩
      have HA : Hid (amongI (fun y => decide (y.hand = r)) L s (j + 1) = if bit s j && (fun y => decide (y.hand = r)) (at' L j) then withB (amongI (fun y => decide (y.hand = r)) L s j) j else amongI (fun y => decide (y.hand = r)) L s j) := rfl
      have hbd := among_bd (fun y => decide (y.hand = r)) L s j (by omega)
      have HW : Hid (Base.withI (amongI (fun y => decide (y.hand = r)) L s j) (j : Int) = withB (amongI (fun y => decide (y.hand = r)) L s j) j) := by
        show _ = _
        unfold Base.withI
        rw [(Base.okB_iff _).2 hbd, hin]; simp
      have HN : Hid (Below w.heap.size w (wr.alloc (.cells #[.int .i64 (at' L j).hand, .int .i64 (at' L j).round, .int .i64 (at' L j).frm, .string (at' L j).word] 69))) := HB.out.alloc HB.out.size _
      clear hbd
      generalize amongI (fun y => decide (y.hand = r)) L s j = x at HA HW ⊢
      cases hb : bit s j
      · have HH : Hid ((Base.okB s && (Base.inB (j : Int) && bit s j)) = false) := by show _ = _; simp [hb]
        have HD : Hid (amongI (fun y => decide (y.hand = r)) L s (j + 1) = x) := by show _ = _; rw [HA.out, hb]; simp
        clear hb HA HW hin
        go_wp2_with (go_at_call 62; refine (Base.has _ _ _).mono ?_; rintro e w' ⟨rfl, rfl⟩; rw [Int.toNat_natCast, HH.out])
        go_roundw
        case rel => exact ⟨j + 1, by omega, by go_num, by rw [HD.out], HN⟩
        case measure => simp [intOf]; omega
      · have HH : Hid ((Base.okB s && (Base.inB (j : Int) && bit s j)) = true) := by show _ = _; simp [hb, hin, HO.out]
        have d1 := (HB.out.cell (p := ⟨kb, 1, none⟩) hkb).trans hk
        have hkb2 : kb < wr.heap.size := Nat.lt_of_lt_of_le hkb HB.out.size
        have HM : Hid (∀ o : Obj, Below w.heap.size w ((wr.alloc (.cells #[.int .i64 (at' L j).hand, .int .i64 (at' L j).round, .int .i64 (at' L j).frm, .string (at' L j).word] 69)).alloc o)) := fun o => HN.out.alloc HN.out.size o
        by_cases hq : (at' L j).hand = r
        · have HD : Hid (amongI (fun y => decide (y.hand = r)) L s (j + 1) = withB x j) := by show _ = _; rw [HA.out, hb]; simp [hq]
          have hq1 : ((at' L j).hand == r) = true := by simpa using hq
          clear hq
          clear hb HA hin HN
          go_wp2_with (first | (go_at_call 62; refine (Base.has _ _ _).mono ?_; rintro e w' ⟨rfl, rfl⟩; rw [Int.toNat_natCast, HH.out]) | (go_at_call 63; refine (Base.withM _ _ _).mono ?_; rintro e w' ⟨rfl, rfl⟩; rw [HW.out]) | go_in)
          go_roundw
          case rel => exact ⟨j + 1, by omega, by go_num, by rw [HD.out], HM.out _⟩
          case measure => simp [intOf]; omega
        · have HD : Hid (amongI (fun y => decide (y.hand = r)) L s (j + 1) = x) := by show _ = _; rw [HA.out, hb]; simp [hq]
          have hq1 : ((at' L j).hand == r) = false := by simpa using hq
          clear hq
          clear hb HA hin HN
          go_wp2_with (first | (go_at_call 62; refine (Base.has _ _ _).mono ?_; rintro e w' ⟨rfl, rfl⟩; rw [Int.toNat_natCast, HH.out]) | go_in)
          go_roundw
          case rel => exact ⟨j + 1, by omega, by go_num, by rw [HD.out], HM.out _⟩
          case measure => simp [intOf]; omega
    · obtain rfl : j = L.length := by omega
      go_wp2
      go_ret
      exact ⟨rfl, HB.out⟩

end Lc
namespace Rm
open Kn (K okK)
open Bit (bit withB)
open Lc (at' RdK laceB WordsOk)
open Sg (bel belows closedTo orB)

/-- those of a set that are a hand's own -/
def ownI (L : List K) (who s : Int) : Int := Lc.amongI (fun y => decide (y.hand = who)) L s L.length
theorem own_bd (L : List K) (who s : Int) (hL : L.length ≤ 60) : 0 ≤ ownI L who s ∧ ownI L who s < 1152921504606846976 := Lc.among_bd _ _ _ _ hL
theorem bit_own (L : List K) (who s : Int) (hL : L.length ≤ 60) (i : Nat) : bit (ownI L who s) i = (decide (i < L.length) && (bit s i && decide ((at' L i).hand = who))) := Lc.bit_among _ _ _ _ hL i
theorem own_div (L : List K) (who s : Int) (hL : L.length ≤ 60) : ownI L who s / 2 ^ L.length = 0 :=
  Lc.div_of_bits _ _ (own_bd L who s hL).1 fun i hi => by rw [bit_own _ _ _ hL, decide_eq_false (by omega)]; rfl

set_option maxHeartbeats 400000 in
theorem own (g cap : Nat) (L : List K) (h : Hd) (s : Int) (w : World) (hL : L.length ≤ 60) (hs : Base.okB s = true) (hr : RdK w (some ⟨g, 0, none⟩) L) :
    Calls Tryd.prog 64 #[.agg #[.slice (some ⟨g, 0, none⟩) L.length cap, .int .i64 h.who, .int .i64 h.has, .int .i64 h.kept, .int .i64 h.last], .int .i64 s] w fun e w' => e = .returned (.int .i64 (ownI L h.who s)) ∧ Below w.heap.size w w' := by
  have B0 : Below w.heap.size w (w.alloc (.cells #[.slice (some ⟨g, 0, none⟩) L.length cap, .int .i64 h.who, .int .i64 h.has, .int .i64 h.kept, .int .i64 h.last] 62)) := (Below.refl _ _).alloc (Nat.le_refl _) _
  go_enter Tryd.func64, Tryd.ntmps64
  go_wp2_with fail
  refine (Lc.amongOwn g 0 cap L s w.heap.size h.who _ hL hs (hr.below B0) (by simp) (by simp)).mono ?_
  rintro e w1 ⟨rfl, hb1⟩
  have B1 := B0.trans (hb1.mono (by simp))
  clear hb1 B0
  go_wp2
  go_ret
  exact ⟨rfl, B1⟩

/-- one more is looked at: the last one, and its round -/
def lastP (L : List K) (p : Int × Int) (i : Int) : Int × Int := if p.2 < (at' L i.toNat).round then (i, (at' L i.toNat).round) else p
def lastF (L : List K) (l : List Int) : Int × Int := l.foldl (lastP L) (-1, -1)
theorem lastF_snoc (L : List K) (l : List Int) (i : Int) : lastF L (l ++ [i]) = lastP L (lastF L l) i := by unfold lastF; simp

theorem lastF_to (L : List K) (hlc : laceB L = true) (who s : Int) : ∀ n, n ≤ L.length → lastF L (Bit.memTo (ownI L who s) n) = (lastTo L who s n, if lastTo L who s n < 0 then -1 else (at' L (lastTo L who s n).toNat).round) := by
  have h60 := ((Lc.lace_iff L).1 hlc).1
  intro n
  induction n with
  | zero => intro _; rfl
  | succ n ih =>
    intro hn
    have ih := ih (by omega)
    have hst : lastTo L who s (n + 1) = if bit s n && (decide ((at' L n).hand = who) && (decide (lastTo L who s n < 0) || decide ((at' L (lastTo L who s n).toNat).round < (at' L n).round))) then (n : Int) else lastTo L who s n := rfl
    have hr0 : 0 ≤ (at' L n).round := (Lc.ok_round (Lc.can_ok (((Lc.lace_iff L).1 hlc).2 n (by omega)))).1
    rw [Bit.memTo_succ, bit_own _ _ _ h60, decide_eq_true (show n < L.length by omega), Bool.true_and]
    have hbd := lastTo_bd L who s n
    generalize hx : lastTo L who s n = x at *
    cases hb : bit s n && decide ((at' L n).hand = who)
    · have hf : lastTo L who s (n + 1) = x := by
        rw [hst, ← Bool.and_assoc, hb]; simp
      rw [hf]; simpa using ih
    · rw [if_pos rfl, lastF_snoc, ih]
      unfold lastP
      rw [hst, ← Bool.and_assoc, hb, Bool.true_and]
      simp only [Int.toNat_natCast]
      by_cases hneg : x < 0
      · rw [if_pos hneg, if_pos (by omega), decide_eq_true hneg]; simp; omega
      · rw [if_neg hneg, decide_eq_false hneg, Bool.false_or]
        by_cases hq : (at' L x.toNat).round < (at' L n).round
        · rw [if_pos hq, decide_eq_true hq]; simp; omega
        · rw [if_neg hq, decide_eq_false hq]; simp [hneg]

theorem lastF_all (L : List K) (hlc : laceB L = true) (who s : Int) : (lastF L (Bit.memTo (ownI L who s) 60)).1 = lastTo L who s L.length := by
  have h60 := ((Lc.lace_iff L).1 hlc).1
  have e : Bit.memTo (ownI L who s) 60 = Bit.memTo (ownI L who s) L.length := by
    have := Bit.memTo_up (ownI L who s) L.length (60 - L.length) (own_div L who s h60)
    rw [show L.length + (60 - L.length) = 60 by omega] at this
    exact this
  rw [e, lastF_to L hlc who s _ (Nat.le_refl _)]

/-- an owner lies there -/
structure OAt (w : World) (b g cap : Nat) (n : Nat) (h : Hd) : Prop where
  lt : b < w.heap.size
  c0 : w.cell? ⟨b, 0, none⟩ = some (.slice (some ⟨g, 0, none⟩) n cap)
  c1 : w.cell? ⟨b, 1, none⟩ = some (.int .i64 h.who)
  c2 : w.cell? ⟨b, 2, none⟩ = some (.int .i64 h.has)
  c3 : w.cell? ⟨b, 3, none⟩ = some (.int .i64 h.kept)
  c4 : w.cell? ⟨b, 4, none⟩ = some (.int .i64 h.last)
theorem OAt.below {w W : World} {b g cap n : Nat} {h : Hd} (x : OAt w b g cap n h) (hb : Below w.heap.size w W) : OAt W b g cap n h :=
  ⟨Nat.lt_of_lt_of_le x.lt hb.size, (hb.cell (p := ⟨b, 0, none⟩) x.lt).trans x.c0, (hb.cell (p := ⟨b, 1, none⟩) x.lt).trans x.c1, (hb.cell (p := ⟨b, 2, none⟩) x.lt).trans x.c2, (hb.cell (p := ⟨b, 3, none⟩) x.lt).trans x.c3, (hb.cell (p := ⟨b, 4, none⟩) x.lt).trans x.c4⟩
theorem oat_new (w : World) (g cap n : Nat) (h : Hd) (t : TypeId) : OAt (w.alloc (.cells #[.slice (some ⟨g, 0, none⟩) n cap, .int .i64 h.who, .int .i64 h.has, .int .i64 h.kept, .int .i64 h.last] t)) w.heap.size g cap n h := ⟨by simp, by simp, by simp, by simp, by simp, by simp⟩

set_option maxHeartbeats 1600000 in
theorem lastOwn (g cap : Nat) (L : List K) (h : Hd) (w : World) (hlc : laceB L = true) (hs : Base.okB h.kept = true) (hr : RdK w (some ⟨g, 0, none⟩) L) :
    Calls Tryd.prog 112 #[.agg #[.slice (some ⟨g, 0, none⟩) L.length cap, .int .i64 h.who, .int .i64 h.has, .int .i64 h.kept, .int .i64 h.last]] w fun e w' => e = .returned (.int .i64 (lastTo L h.who h.kept L.length)) ∧ Below w.heap.size w w' := by
  have h60 := ((Lc.lace_iff L).1 hlc).1
  have P0 : Hid (Below w.heap.size w (w.alloc (.cells #[.slice (some ⟨g, 0, none⟩) L.length cap, .int .i64 h.who, .int .i64 h.has, .int .i64 h.kept, .int .i64 h.last] 62)) ∧ OAt (w.alloc (.cells #[.slice (some ⟨g, 0, none⟩) L.length cap, .int .i64 h.who, .int .i64 h.has, .int .i64 h.kept, .int .i64 h.last] 62)) w.heap.size g cap L.length h) := ⟨(Below.refl _ _).alloc (Nat.le_refl _) _, oat_new w g cap L.length h _⟩
  have HT : Hid ((lastF L (Bit.memTo (ownI L h.who h.kept) 60)).1 = lastTo L h.who h.kept L.length) := lastF_all L hlc h.who h.kept
  have hob := own_bd L h.who h.kept h60
  have hmem : Memb.memI (ownI L h.who h.kept) = Bit.memTo (ownI L h.who h.kept) 60 := by unfold Memb.memI; rw [(Base.okB_iff _).2 hob]; rfl
  have hin := Lc.mem_in L (ownI L h.who h.kept) hob.1 (own_div L h.who h.kept h60)
  go_enter Tryd.func112, Tryd.ntmps112
  go_upto_region 2 with fail
  generalize w.alloc (.cells #[.slice (some ⟨g, 0, none⟩) L.length cap, .int .i64 h.who, .int .i64 h.has, .int .i64 h.kept, .int .i64 h.last] 62) = V at P0 ⊢
  have HB0 : Hid (Below w.heap.size w V) := P0.out.1
  have HO0 : Hid (OAt V w.heap.size g cap L.length h) := P0.out.2
  have hr0 := hr.below P0.out.1
  obtain ⟨ol, o0, o1, o2, o3, o4⟩ := P0.out.2
  clear P0 hr
  generalize hbe : w.heap.size = hb at HB0 HO0 ol o0 o1 o2 o3 o4 ⊢
  have HBE : Hid (w.heap.size = hb) := hbe
  have hbv : hb ≤ V.heap.size := by have := HB0.out.size; omega
  clear hbe
  go_wp2_with fail
  refine (own g cap L h h.kept _ h60 hs hr0).mono ?_
  rintro e w1 ⟨rfl, hb1⟩
  go_wp2_with fail
  refine (Memb.picked _ _).mono ?_
  rintro e w2 ⟨ao, ca, rfl, hown, hb2⟩
  rw [hmem] at hown ⊢
  have hr2 := (hr0.below hb1).below hb2
  obtain ⟨pl, p0, _, _, _, _⟩ := (HO0.out.below hb1).below hb2
  have HB2 : Hid (Below hb w w2) := (HB0.out.trans (hb1.mono hbv)).trans (hb2.mono (Nat.le_trans hbv hb1.size))
  have hrd := Lst.own_rd hown
  have hbl : ∀ c, ao = some ⟨c, 0, none⟩ → c < w2.heap.size := fun c e => by subst e; exact (World.ownsRow.lt hown c rfl).2
  have hle : (Bit.memTo (ownI L h.who h.kept) 60).length ≤ 60 := Bit.memTo_le _ 60
  have HI : Hid (∀ i ∈ Bit.memTo (ownI L h.who h.kept) 60, 0 ≤ i ∧ i < (L.length : Int)) := hin
  clear hown hmem hin hob hb1 hb2 hr0 HO0 HB0 hbv o0 o1 o2 o3 o4 ol
  generalize Bit.memTo (ownI L h.who h.kept) 60 = l at HT hrd hle HI ⊢
  go_wp2
  go_loopw [3, 4, 14] (fun a b i wr => ∃ j : Nat, j ≤ l.length ∧ i = .int .i64 j ∧ a = .int .i64 (lastF L (l.take j)).1 ∧ b = .int .i64 (lastF L (l.take j)).2 ∧ Hid (Below w2.heap.size w2 wr)) (fun _ _ i _ => l.length - (intOf i).toNat)
  case atStart => exact ⟨0, by omega, rfl, rfl, rfl, Below.refl _ _⟩
  case round =>
    obtain ⟨j, hj, rfl, rfl, rfl, HW⟩ := hrel
    by_cases hlt : j < l.length
    · rcases hrd with hrd | ⟨b, rfl, hcell⟩
      · rw [hrd] at hlt; simp at hlt
      have cj := (HW.out.cell (p := ⟨b, j, none⟩) (hbl b rfl)).trans (hcell j hlt)
      have hx := HI.out (l.getD j 0) (by simp [List.getD, List.getElem?_eq_getElem hlt])
      have HS : Hid (lastF L (l.take (j + 1)) = lastP L (lastF L (l.take j)) (l.getD j 0)) := by
        show _ = _
        rw [Lc.take_snocI l j hlt, lastF_snoc]
      generalize l.getD j 0 = x at cj hx HS
      obtain ⟨m, rfl⟩ := Int.eq_ofNat_of_zero_le hx.1
      have hm : m < L.length := by omega
      obtain ⟨hg2, _, c1, _, _⟩ := (hr2.below HW.out).on m hm
      rw [Nat.zero_add] at c1
      have p0' := (HW.out.cell (p := ⟨hb, 0, none⟩) pl).trans p0
      have pl' : hb < wr.heap.size := Nat.lt_of_lt_of_le pl HW.out.size
      clear p0
      clear hcell
      by_cases hq : (lastF L (l.take j)).2 < (at' L m).round
      · have HD : Hid (lastF L (l.take (j + 1)) = ((m : Int), (at' L m).round)) := by show _ = _; rw [HS.out]; unfold lastP; rw [Int.toNat_natCast, if_pos hq]
        generalize lastF L (l.take j) = pp at hq HS ⊢
        generalize (at' L m).round = rr at hq HD HS c1
        clear HS
        go_wp2
        go_region
        all_goals go_wp2
        all_goals go_round
        all_goals first | (refine ⟨j + 1, by omega, by go_num, by rw [HD.out], by rw [HD.out], ?_⟩; first | exact HW.out.drew | exact HW.out) | (simp [intOf]; omega)
      · have HD : Hid (lastF L (l.take (j + 1)) = lastF L (l.take j)) := by show _ = _; rw [HS.out]; unfold lastP; rw [Int.toNat_natCast, if_neg hq]
        generalize lastF L (l.take j) = pp at hq HS HD ⊢
        generalize (at' L m).round = rr at hq c1 HS
        clear HS
        go_wp2
        go_round
        all_goals first | (refine ⟨j + 1, by omega, by go_num, by rw [HD.out], by rw [HD.out], ?_⟩; first | exact HW.out.drew | exact HW.out) | (simp [intOf]; omega)
    · obtain rfl : j = l.length := by omega
      have e : l.take l.length = l := List.take_length
      rw [e]
      rw [HT.out]
      go_wp2
      go_ret
      exact ⟨rfl, by rw [HBE.out]; exact HB2.out.trans (HW.out.mono (Nat.le_of_lt pl))⟩

end Rm
end Go.Proofs.YtapfmadnkaimeaaDoor
