/-
  What the program's learnsAll and LearnsAll answer: as the model's; the five variables hold different errors of errors.New's make, errors.errorType the handle of the type error.
  What the program's own functions on a hand answer: which of a set are its own, the last one of what it keeps, whether it is right; for a lace in memory of the program's own.
  What the program's owner answers: whether it is right, just where the model's hand is.
  Small functions of the program's owner.
  What the program's asking for an owner answers, and HandOk, Keeps and Forgets: as the model's; the variable errNoHand holds an error of errors.New's make.
  What the program's HandOk, Keeps and Forgets answer: as the model's; the variable errNoHand holds an error of errors.New's make.
  What the library's errors.Is answers at the program's errors: nil, an error of errors.New's make, and one that wraps such an error; the target of errors.New's make.
  What the program's learning answers: as the model's, or an error that wraps its reason and tells what lacks; the five variables hold different errors of errors.New's make.
  Plain mathematics of learning: why a knot is not taken, in the program's words and in the model's. No program in it.
  What the program's taught and Learns answer: as the model's; the five variables hold different errors of errors.New's make.
  What the library's errors.As answers at the program's own error: it is of the target's type, so it is written there; the variable errors.errorType holds the handle of the type error.
-/
import Derived.Test.YtfjmenhofllchaaGreatDoorHdZb
import Derived.Test.YtfjmenhofllchaaGreatDoorHdZa
import Derived.Test.YtfjmenhofllchaaGreatDoorFam
import Derived.LaidEql
import Derived.Stop.Asserts
import Derived.RowKitTokens
namespace Go.Proofs.YtfjmenhofllchaaGreatDoor
open Go.RowKit
set_option maxRecDepth 100000
set_option linter.unusedVariables false
namespace Lc
open Kn (K okK)
open Bit (bit withB)

set_option maxHeartbeats 1600000 in
theorem amongOwn (g off cap : Nat) (L : List K) (s : Int) (kb : Nat) (r : Int) (w : World) (hL : L.length ≤ 60) (hs : Base.okB s = true) (hr : RdK w (some ⟨g, off, none⟩) L) (hkb : kb < w.heap.size) (hk : w.cell? ⟨kb, 1, none⟩ = some (.int .i64 r)) :
    Calls Tryz.prog 104 #[.slice (some ⟨g, off, none⟩) L.length cap, .int .i64 s, .func (.func 124) #[] #[.pointer (some ⟨kb, 0, none⟩)]] w fun e w' =>
      e = .returned (.int .i64 (amongI (fun y => decide (y.hand = r)) L s L.length)) ∧ Below w.heap.size w w' := by
  go_enter Tryz.func104, Tryz.ntmps104
  go_wp2
  go_loopw [7, 12] (fun o i wr => ∃ j : Nat, j ≤ L.length ∧ i = .int .i64 j ∧ o = .int .i64 (amongI (fun y => decide (y.hand = r)) L s j) ∧ Hid (Below w.heap.size w wr)) (fun _ i _ => L.length - (intOf i).toNat)
  case atStart => exact ⟨0, by omega, rfl, rfl, Below.refl _ _⟩
  case round =>
    obtain ⟨j, hj, rfl, rfl, HB⟩ := hrel
    by_cases hlt : j < L.length
    · obtain ⟨hg, hc⟩ := hr.on j hlt
      obtain ⟨c0, c1, c2, c3⟩ := hc.below HB.out hg
      have HO : Hid (Base.okB s = true) := hs
      have hin : Base.inB (j : Int) = true := (Base.inB_iff _).2 ⟨by omega, by omega⟩
      have HA : Hid (amongI (fun y => decide (y.hand = r)) L s (j + 1) = if bit s j && (fun y => decide (y.hand = r)) (at' L j) then withB (amongI (fun y => decide (y.hand = r)) L s j) j else amongI (fun y => decide (y.hand = r)) L s j) := rfl
      have hbd := among_bd (fun y => decide (y.hand = r)) L s j (by omega)
      have HW : Hid (Base.withI (amongI (fun y => decide (y.hand = r)) L s j) (j : Int) = withB (amongI (fun y => decide (y.hand = r)) L s j) j) := by
        show _ = _
        unfold Base.withI
        rw [(Base.okB_iff _).2 hbd, hin]; simp
      have HN : Hid (Below w.heap.size w (wr.alloc (.cells #[.int .i64 (at' L j).hand, .int .i64 (at' L j).round, .int .i64 (at' L j).frm, .string (at' L j).word] 92))) := HB.out.alloc HB.out.size _
      clear hbd
      generalize amongI (fun y => decide (y.hand = r)) L s j = x at HA HW ⊢
      cases hb : bit s j
      · have HH : Hid ((Base.okB s && (Base.inB (j : Int) && bit s j)) = false) := by show _ = _; simp [hb]
        have HD : Hid (amongI (fun y => decide (y.hand = r)) L s (j + 1) = x) := by show _ = _; rw [HA.out, hb]; simp
        clear hb HA HW hin
        go_wp2_with (go_at_call 86; refine (Base.has _ _ _).mono ?_; rintro e w' ⟨rfl, rfl⟩; rw [Int.toNat_natCast, HH.out])
        go_roundw
        case rel => exact ⟨j + 1, by omega, by go_num, by rw [HD.out], HN⟩
        case measure => simp [intOf]; omega
      · have HH : Hid ((Base.okB s && (Base.inB (j : Int) && bit s j)) = true) := by show _ = _; simp [hb, hin, HO.out]
        have d1 := (HB.out.cell (p := ⟨kb, 1, none⟩) hkb).trans hk
        have hkb2 : kb < wr.heap.size := Nat.lt_of_lt_of_le hkb HB.out.size
        have HM : Hid (∀ o : Obj, Below w.heap.size w ((wr.alloc (.cells #[.int .i64 (at' L j).hand, .int .i64 (at' L j).round, .int .i64 (at' L j).frm, .string (at' L j).word] 92)).alloc o)) := fun o => HN.out.alloc HN.out.size o
        by_cases hq : (at' L j).hand = r
        · have HD : Hid (amongI (fun y => decide (y.hand = r)) L s (j + 1) = withB x j) := by show _ = _; rw [HA.out, hb]; simp [hq]
          have hq1 : ((at' L j).hand == r) = true := by simpa using hq
          clear hq
          clear hb HA hin HN
          go_wp2_with (first | (go_at_call 86; refine (Base.has _ _ _).mono ?_; rintro e w' ⟨rfl, rfl⟩; rw [Int.toNat_natCast, HH.out]) | (go_at_call 87; refine (Base.withM _ _ _).mono ?_; rintro e w' ⟨rfl, rfl⟩; rw [HW.out]) | go_in)
          go_roundw
          case rel => exact ⟨j + 1, by omega, by go_num, by rw [HD.out], HM.out _⟩
          case measure => simp [intOf]; omega
        · have HD : Hid (amongI (fun y => decide (y.hand = r)) L s (j + 1) = x) := by show _ = _; rw [HA.out, hb]; simp [hq]
          have hq1 : ((at' L j).hand == r) = false := by simpa using hq
          clear hq
          clear hb HA hin HN
          go_wp2_with (first | (go_at_call 86; refine (Base.has _ _ _).mono ?_; rintro e w' ⟨rfl, rfl⟩; rw [Int.toNat_natCast, HH.out]) | go_in)
          go_roundw
          case rel => exact ⟨j + 1, by omega, by go_num, by rw [HD.out], HM.out _⟩
          case measure => simp [intOf]; omega
    · obtain rfl : j = L.length := by omega
      go_wp2
      go_ret
      exact ⟨rfl, HB.out⟩

end Lc
namespace Rm
open Kn (K okK)
open Bit (bit withB)
open Lc (at' RdK laceB WordsOk)
open Sg (bel belows closedTo orB)

/-- those of a set that are a hand's own -/
def ownI (L : List K) (who s : Int) : Int := Lc.amongI (fun y => decide (y.hand = who)) L s L.length
theorem own_bd (L : List K) (who s : Int) (hL : L.length ≤ 60) : 0 ≤ ownI L who s ∧ ownI L who s < 1152921504606846976 := Lc.among_bd _ _ _ _ hL
theorem bit_own (L : List K) (who s : Int) (hL : L.length ≤ 60) (i : Nat) : bit (ownI L who s) i = (decide (i < L.length) && (bit s i && decide ((at' L i).hand = who))) := Lc.bit_among _ _ _ _ hL i
theorem own_div (L : List K) (who s : Int) (hL : L.length ≤ 60) : ownI L who s / 2 ^ L.length = 0 :=
  Lc.div_of_bits _ _ (own_bd L who s hL).1 fun i hi => by rw [bit_own _ _ _ hL, decide_eq_false (by omega)]; rfl

set_option maxHeartbeats 400000 in
theorem own (g cap : Nat) (L : List K) (h : Hd) (s : Int) (w : World) (hL : L.length ≤ 60) (hs : Base.okB s = true) (hr : RdK w (some ⟨g, 0, none⟩) L) :
    Calls Tryz.prog 88 #[.agg #[.slice (some ⟨g, 0, none⟩) L.length cap, .int .i64 h.who, .int .i64 h.has, .int .i64 h.kept, .int .i64 h.last], .int .i64 s] w fun e w' => e = .returned (.int .i64 (ownI L h.who s)) ∧ Below w.heap.size w w' := by
  have B0 : Below w.heap.size w (w.alloc (.cells #[.slice (some ⟨g, 0, none⟩) L.length cap, .int .i64 h.who, .int .i64 h.has, .int .i64 h.kept, .int .i64 h.last] 66)) := (Below.refl _ _).alloc (Nat.le_refl _) _
  go_enter Tryz.func88, Tryz.ntmps88
  go_wp2_with fail
  refine (Lc.amongOwn g 0 cap L s w.heap.size h.who _ hL hs (hr.below B0) (by simp) (by simp)).mono ?_
  rintro e w1 ⟨rfl, hb1⟩
  have B1 := B0.trans (hb1.mono (by simp))
  clear hb1 B0
  go_wp2
  go_ret
  exact ⟨rfl, B1⟩

/-- one more is looked at: the last one, and its round -/
def lastP (L : List K) (p : Int × Int) (i : Int) : Int × Int := if p.2 < (at' L i.toNat).round then (i, (at' L i.toNat).round) else p
def lastF (L : List K) (l : List Int) : Int × Int := l.foldl (lastP L) (-1, -1)
theorem lastF_snoc (L : List K) (l : List Int) (i : Int) : lastF L (l ++ [i]) = lastP L (lastF L l) i := by unfold lastF; simp

theorem lastF_to (L : List K) (hlc : laceB L = true) (who s : Int) : ∀ n, n ≤ L.length → lastF L (Bit.memTo (ownI L who s) n) = (lastTo L who s n, if lastTo L who s n < 0 then -1 else (at' L (lastTo L who s n).toNat).round) := by
  have h60 := ((Lc.lace_iff L).1 hlc).1
  intro n
  induction n with
  | zero => intro _; rfl
  | succ n ih =>
    intro hn
    have ih := ih (by omega)
    have hst : lastTo L who s (n + 1) = if bit s n && (decide ((at' L n).hand = who) && (decide (lastTo L who s n < 0) || decide ((at' L (lastTo L who s n).toNat).round < (at' L n).round))) then (n : Int) else lastTo L who s n := rfl
    have hr0 : 0 ≤ (at' L n).round := (Lc.ok_round (Lc.can_ok (((Lc.lace_iff L).1 hlc).2 n (by omega)))).1
    rw [Bit.memTo_succ, bit_own _ _ _ h60, decide_eq_true (show n < L.length by omega), Bool.true_and]
    have hbd := lastTo_bd L who s n
    generalize hx : lastTo L who s n = x at *
    cases hb : bit s n && decide ((at' L n).hand = who)
    · have hf : lastTo L who s (n + 1) = x := by
        rw [hst, ← Bool.and_assoc, hb]; simp
      rw [hf]; simpa using ih
    · rw [if_pos rfl, lastF_snoc, ih]
      unfold lastP
      rw [hst, ← Bool.and_assoc, hb, Bool.true_and]
      simp only [Int.toNat_natCast]
      by_cases hneg : x < 0
      · rw [if_pos hneg, if_pos (by omega), decide_eq_true hneg]; simp; omega
      · rw [if_neg hneg, decide_eq_false hneg, Bool.false_or]
        by_cases hq : (at' L x.toNat).round < (at' L n).round
        · rw [if_pos hq, decide_eq_true hq]; simp; omega
        · rw [if_neg hq, decide_eq_false hq]; simp [hneg]

theorem lastF_all (L : List K) (hlc : laceB L = true) (who s : Int) : (lastF L (Bit.memTo (ownI L who s) 60)).1 = lastTo L who s L.length := by
  have h60 := ((Lc.lace_iff L).1 hlc).1
  have e : Bit.memTo (ownI L who s) 60 = Bit.memTo (ownI L who s) L.length := by
    have := Bit.memTo_up (ownI L who s) L.length (60 - L.length) (own_div L who s h60)
    rw [show L.length + (60 - L.length) = 60 by omega] at this
    exact this
  rw [e, lastF_to L hlc who s _ (Nat.le_refl _)]

/-- an owner lies there -/
structure OAt (w : World) (b g cap : Nat) (n : Nat) (h : Hd) : Prop where
  lt : b < w.heap.size
  c0 : w.cell? ⟨b, 0, none⟩ = some (.slice (some ⟨g, 0, none⟩) n cap)
  c1 : w.cell? ⟨b, 1, none⟩ = some (.int .i64 h.who)
  c2 : w.cell? ⟨b, 2, none⟩ = some (.int .i64 h.has)
  c3 : w.cell? ⟨b, 3, none⟩ = some (.int .i64 h.kept)
  c4 : w.cell? ⟨b, 4, none⟩ = some (.int .i64 h.last)
theorem OAt.below {w W : World} {b g cap n : Nat} {h : Hd} (x : OAt w b g cap n h) (hb : Below w.heap.size w W) : OAt W b g cap n h :=
  ⟨Nat.lt_of_lt_of_le x.lt hb.size, (hb.cell (p := ⟨b, 0, none⟩) x.lt).trans x.c0, (hb.cell (p := ⟨b, 1, none⟩) x.lt).trans x.c1, (hb.cell (p := ⟨b, 2, none⟩) x.lt).trans x.c2, (hb.cell (p := ⟨b, 3, none⟩) x.lt).trans x.c3, (hb.cell (p := ⟨b, 4, none⟩) x.lt).trans x.c4⟩
theorem oat_new (w : World) (g cap n : Nat) (h : Hd) (t : TypeId) : OAt (w.alloc (.cells #[.slice (some ⟨g, 0, none⟩) n cap, .int .i64 h.who, .int .i64 h.has, .int .i64 h.kept, .int .i64 h.last] t)) w.heap.size g cap n h := ⟨by simp, by simp, by simp, by simp, by simp, by simp⟩

set_option maxHeartbeats 1600000 in
theorem lastOwn (g cap : Nat) (L : List K) (h : Hd) (w : World) (hlc : laceB L = true) (hs : Base.okB h.kept = true) (hr : RdK w (some ⟨g, 0, none⟩) L) :
    Calls Tryz.prog 132 #[.agg #[.slice (some ⟨g, 0, none⟩) L.length cap, .int .i64 h.who, .int .i64 h.has, .int .i64 h.kept, .int .i64 h.last]] w fun e w' => e = .returned (.int .i64 (lastTo L h.who h.kept L.length)) ∧ Below w.heap.size w w' := by
  have h60 := ((Lc.lace_iff L).1 hlc).1
  have P0 : Hid (Below w.heap.size w (w.alloc (.cells #[.slice (some ⟨g, 0, none⟩) L.length cap, .int .i64 h.who, .int .i64 h.has, .int .i64 h.kept, .int .i64 h.last] 66)) ∧ OAt (w.alloc (.cells #[.slice (some ⟨g, 0, none⟩) L.length cap, .int .i64 h.who, .int .i64 h.has, .int .i64 h.kept, .int .i64 h.last] 66)) w.heap.size g cap L.length h) := ⟨(Below.refl _ _).alloc (Nat.le_refl _) _, oat_new w g cap L.length h _⟩
  have HT : Hid ((lastF L (Bit.memTo (ownI L h.who h.kept) 60)).1 = lastTo L h.who h.kept L.length) := lastF_all L hlc h.who h.kept
  have hob := own_bd L h.who h.kept h60
  have hmem : Memb.memI (ownI L h.who h.kept) = Bit.memTo (ownI L h.who h.kept) 60 := by unfold Memb.memI; rw [(Base.okB_iff _).2 hob]; rfl
  have hin := Lc.mem_in L (ownI L h.who h.kept) hob.1 (own_div L h.who h.kept h60)
  go_enter Tryz.func132, Tryz.ntmps132
  go_upto_region 2 with fail
  generalize w.alloc (.cells #[.slice (some ⟨g, 0, none⟩) L.length cap, .int .i64 h.who, .int .i64 h.has, .int .i64 h.kept, .int .i64 h.last] 66) = V at P0 ⊢
  have HB0 : Hid (Below w.heap.size w V) := P0.out.1
  have HO0 : Hid (OAt V w.heap.size g cap L.length h) := P0.out.2
  have hr0 := hr.below P0.out.1
  obtain ⟨ol, o0, o1, o2, o3, o4⟩ := P0.out.2
  clear P0 hr
  generalize hbe : w.heap.size = hb at HB0 HO0 ol o0 o1 o2 o3 o4 ⊢
  have HBE : Hid (w.heap.size = hb) := hbe
  have hbv : hb ≤ V.heap.size := by have := HB0.out.size; omega
  clear hbe
  go_wp2_with fail
  refine (own g cap L h h.kept _ h60 hs hr0).mono ?_
  rintro e w1 ⟨rfl, hb1⟩
  go_wp2_with fail
  refine (Memb.picked _ _).mono ?_
  rintro e w2 ⟨ao, ca, rfl, hown, hb2⟩
  rw [hmem] at hown ⊢
  have hr2 := (hr0.below hb1).below hb2
  obtain ⟨pl, p0, _, _, _, _⟩ := (HO0.out.below hb1).below hb2
  have HB2 : Hid (Below hb w w2) := (HB0.out.trans (hb1.mono hbv)).trans (hb2.mono (Nat.le_trans hbv hb1.size))
  have hrd := Lst.own_rd hown
  have hbl : ∀ c, ao = some ⟨c, 0, none⟩ → c < w2.heap.size := fun c e => by subst e; exact (World.ownsRow.lt hown c rfl).2
  have hle : (Bit.memTo (ownI L h.who h.kept) 60).length ≤ 60 := Bit.memTo_le _ 60
  have HI : Hid (∀ i ∈ Bit.memTo (ownI L h.who h.kept) 60, 0 ≤ i ∧ i < (L.length : Int)) := hin
  clear hown hmem hin hob hb1 hb2 hr0 HO0 HB0 hbv o0 o1 o2 o3 o4 ol
  generalize Bit.memTo (ownI L h.who h.kept) 60 = l at HT hrd hle HI ⊢
  go_wp2
  go_loopw [3, 4, 14] (fun a b i wr => ∃ j : Nat, j ≤ l.length ∧ i = .int .i64 j ∧ a = .int .i64 (lastF L (l.take j)).1 ∧ b = .int .i64 (lastF L (l.take j)).2 ∧ Hid (Below w2.heap.size w2 wr)) (fun _ _ i _ => l.length - (intOf i).toNat)
  case atStart => exact ⟨0, by omega, rfl, rfl, rfl, Below.refl _ _⟩
  case round =>
    obtain ⟨j, hj, rfl, rfl, rfl, HW⟩ := hrel
    by_cases hlt : j < l.length
    · rcases hrd with hrd | ⟨b, rfl, hcell⟩
      · rw [hrd] at hlt; simp at hlt
      have cj := (HW.out.cell (p := ⟨b, j, none⟩) (hbl b rfl)).trans (hcell j hlt)
      have hx := HI.out (l.getD j 0) (by simp [List.getD, List.getElem?_eq_getElem hlt])
      have HS : Hid (lastF L (l.take (j + 1)) = lastP L (lastF L (l.take j)) (l.getD j 0)) := by
        show _ = _
        rw [Lc.take_snocI l j hlt, lastF_snoc]
      generalize l.getD j 0 = x at cj hx HS
      obtain ⟨m, rfl⟩ := Int.eq_ofNat_of_zero_le hx.1
      have hm : m < L.length := by omega
      obtain ⟨hg2, _, c1, _, _⟩ := (hr2.below HW.out).on m hm
      rw [Nat.zero_add] at c1
      have p0' := (HW.out.cell (p := ⟨hb, 0, none⟩) pl).trans p0
      have pl' : hb < wr.heap.size := Nat.lt_of_lt_of_le pl HW.out.size
      clear p0
      clear hcell
      by_cases hq : (lastF L (l.take j)).2 < (at' L m).round
      · have HD : Hid (lastF L (l.take (j + 1)) = ((m : Int), (at' L m).round)) := by show _ = _; rw [HS.out]; unfold lastP; rw [Int.toNat_natCast, if_pos hq]
        generalize lastF L (l.take j) = pp at hq HS ⊢
        generalize (at' L m).round = rr at hq HD HS c1
        clear HS
        go_wp2
        go_region
        all_goals go_wp2
        all_goals go_round
        all_goals first | (refine ⟨j + 1, by omega, by go_num, by rw [HD.out], by rw [HD.out], ?_⟩; first | exact HW.out.drew | exact HW.out) | (simp [intOf]; omega)
      · have HD : Hid (lastF L (l.take (j + 1)) = lastF L (l.take j)) := by show _ = _; rw [HS.out]; unfold lastP; rw [Int.toNat_natCast, if_neg hq]
        generalize lastF L (l.take j) = pp at hq HS HD ⊢
        generalize (at' L m).round = rr at hq c1 HS
        clear HS
        go_wp2
        go_round
        all_goals first | (refine ⟨j + 1, by omega, by go_num, by rw [HD.out], by rw [HD.out], ?_⟩; first | exact HW.out.drew | exact HW.out) | (simp [intOf]; omega)
    · obtain rfl : j = l.length := by omega
      have e : l.take l.length = l := List.take_length
      rw [e]
      rw [HT.out]
      go_wp2
      go_ret
      exact ⟨rfl, by rw [HBE.out]; exact HB2.out.trans (HW.out.mono (Nat.le_of_lt pl))⟩

end Rm
end Go.Proofs.YtfjmenhofllchaaGreatDoor

namespace Go.Proofs.YtfjmenhofllchaaGreatDoor
open Go.RowKit
set_option maxRecDepth 100000
set_option linter.unusedVariables false
namespace Rm
open Kn (K okK)
open Bit (bit withB)
open Lc (at' RdK laceB WordsOk)
open Sg (bel belows closedTo orB)

/-- is it right, in the program's words? -/
def clsB (L : List K) (s : Int) : Bool := Lc.inL L.length s && closedTo (belows L L.length) s L.length
def ownOkB (L : List K) (who has kept : Int) : Bool := bits .andNot .i64 (ownI L who has) kept == 0
def rightB (L : List K) (h : Hd) : Bool := Kn.in3 h.who && (clsB L h.has && (clsB L h.kept && ((bits .andNot .i64 h.kept h.has == 0) && (ownOkB L h.who h.has h.kept && (h.last == lastTo L h.who h.kept L.length)))))

theorem cls_iff (L : List K) (s : Int) : clsB L s = true ↔ 0 ≤ s ∧ s / 2 ^ L.length = 0 ∧ closedTo (belows L L.length) s L.length = true := by
  unfold clsB Lc.inL; simp [and_assoc]
theorem right_hok (L : List K) (hlc : laceB L = true) (h : Hd) (hk : H64 h) : rightB L h = hokB L h := by
  have h60 := ((Lc.lace_iff L).1 hlc).1
  rw [Bool.eq_iff_iff]
  unfold rightB hokB
  simp only [Bool.and_eq_true, cls_iff, decide_eq_true_eq]
  constructor
  · rintro ⟨a, ⟨b0, b1, b2⟩, ⟨c0, c1, c2⟩, d, e, f⟩
    refine ⟨a, b0, c0, b1, d, ?_, b2, c2, f⟩
    have hs1 := div_lt60 b0 b1 h60
    have hs2 := div_lt60 c0 c1 h60
    have ob := own_bd L h.who h.has h60
    have e2 := (Sg.andNot_sub _ _ ob.1 (by omega) c0 (by omega)).1 e
    rw [last_neg]
    intro i hi hb hw
    have hbb := Sg.bit_andNot h.has h.kept b0 hs1 c0 hs2 i
    rw [hbb, Bool.and_eq_true] at hb
    have := e2 i (by rw [bit_own _ _ _ h60, decide_eq_true hi, hb.1, decide_eq_true hw]; rfl)
    rw [this] at hb
    exact absurd hb.2 (by simp)
  · rintro ⟨a, b0, c0, b1, d, e, b2, c2, f⟩
    have hs1 := div_lt60 b0 b1 h60
    have hs2 := and_sub c0 b0 hs1 hk.k1 d
    have d2 := (Sg.andNot_sub _ _ c0 (by omega) b0 (by omega)).1 d
    have c1 : h.kept / 2 ^ L.length = 0 := Lc.div_of_bits _ _ c0 fun i hi => by
      rw [Bool.eq_false_iff]
      intro q
      have := d2 i q
      rw [Lc.bit_hi _ _ b0 b1 i hi] at this
      exact Bool.noConfusion this
    refine ⟨a, ⟨b0, b1, b2⟩, ⟨c0, c1, c2⟩, d, ?_, f⟩
    have ob := own_bd L h.who h.has h60
    refine (Sg.andNot_sub _ _ ob.1 (by omega) c0 (by omega)).2 fun i hi => ?_
    rw [bit_own _ _ _ h60] at hi
    simp only [Bool.and_eq_true, decide_eq_true_eq] at hi
    cases hb : bit h.kept i
    · have hbb := Sg.bit_andNot h.has h.kept b0 hs1 c0 hs2 i
      rw [hi.2.1, hb] at hbb
      exact absurd hi.2.2 ((last_neg L h.who _ _).1 e i hi.1 hbb)
    · rfl

set_option maxHeartbeats 6400000 in
theorem right (g cap : Nat) (L : List K) (h : Hd) (w : World) (hlc : laceB L = true) (hk : H64 h) (hg : g < w.heap.size) (hr : RdK w (some ⟨g, 0, none⟩) L) :
    Calls Tryz.prog 93 #[.agg #[.slice (some ⟨g, 0, none⟩) L.length cap, .int .i64 h.who, .int .i64 h.has, .int .i64 h.kept, .int .i64 h.last]] w fun e w' => e = .returned (.bool (hokB L h)) ∧ Below w.heap.size w w' := by
  rw [← right_hok L hlc h hk]
  obtain ⟨hk0, hk1, hk2, hk3⟩ := hk
  obtain ⟨who, has, kept, last⟩ := h
  dsimp only at hk0 hk1 hk2 hk3 ⊢
  have h60 := ((Lc.lace_iff L).1 hlc).1
  have HD : Hid (rightB L ⟨who, has, kept, last⟩ = (Kn.in3 who && (clsB L has && (clsB L kept && ((bits .andNot .i64 kept has == 0) && (ownOkB L who has kept && (last == lastTo L who kept L.length))))))) := rfl
  have P0 : Hid (Below w.heap.size w (w.alloc (.cells #[.slice (some ⟨g, 0, none⟩) L.length cap, .int .i64 who, .int .i64 has, .int .i64 kept, .int .i64 last] 66)) ∧ OAt (w.alloc (.cells #[.slice (some ⟨g, 0, none⟩) L.length cap, .int .i64 who, .int .i64 has, .int .i64 kept, .int .i64 last] 66)) w.heap.size g cap L.length ⟨who, has, kept, last⟩) := ⟨(Below.refl _ _).alloc (Nat.le_refl _) _, oat_new w g cap L.length ⟨who, has, kept, last⟩ _⟩
  go_enter Tryz.func93, Tryz.ntmps93
  go_upto_region 1 with fail
  generalize w.alloc (.cells #[.slice (some ⟨g, 0, none⟩) L.length cap, .int .i64 who, .int .i64 has, .int .i64 kept, .int .i64 last] 66) = V at P0 ⊢
  have HB0 : Hid (Below w.heap.size w V) := P0.out.1
  have HO : Hid (OAt V w.heap.size g cap L.length ⟨who, has, kept, last⟩) := P0.out.2
  have HR : Hid (RdK V (some ⟨g, 0, none⟩) L) := hr.below P0.out.1
  have hgV : g < V.heap.size := Nat.lt_of_lt_of_le hg P0.out.1.size
  have hbV : w.heap.size < V.heap.size := P0.out.2.lt
  clear P0 hr
  generalize hbe : w.heap.size = hb at HB0 HO hbV ⊢
  have HBE : Hid (w.heap.size = hb) := hbe
  clear hbe hg
  have HKN : Hid (∀ W : World, Below V.heap.size V W → Calls Tryz.prog 130 #[.int .i64 who] W fun e w' => e = .returned (.bool (Kn.in3 who)) ∧ Below V.heap.size V w') := fun W hW => (Kn.known who W).mono fun _ _ q => ⟨q.1, by rw [← q.2]; exact hW⟩
  have HCL : Hid (∀ (W : World) (s : Int) (b : Bool), Below V.heap.size V W → (s = has ∧ b = clsB L has ∨ s = kept ∧ b = clsB L kept) → Calls Tryz.prog 131 #[.slice (some ⟨g, 0, none⟩) L.length cap, .int .i64 s] W fun e w' => e = .returned (.bool b) ∧ Below V.heap.size V w') := fun W s b hW hs => by
    rcases hs with ⟨rfl, rfl⟩ | ⟨rfl, rfl⟩
    · exact (Sg.closed g 0 cap L _ W hlc hk0 hk1 (Nat.lt_of_lt_of_le hgV hW.size) (HR.out.below hW)).mono fun _ _ q => ⟨q.1, hW.trans (q.2.mono hW.size)⟩
    · exact (Sg.closed g 0 cap L _ W hlc hk2 hk3 (Nat.lt_of_lt_of_le hgV hW.size) (HR.out.below hW)).mono fun _ _ q => ⟨q.1, hW.trans (q.2.mono hW.size)⟩
  have HOW : Hid (Base.okB has = true → ∀ W : World, Below V.heap.size V W → Calls Tryz.prog 88 #[.agg #[.slice (some ⟨g, 0, none⟩) L.length cap, .int .i64 who, .int .i64 has, .int .i64 kept, .int .i64 last], .int .i64 has] W fun e w' => e = .returned (.int .i64 (ownI L who has)) ∧ Below V.heap.size V w') := fun ho W hW => (own g cap L ⟨who, has, kept, last⟩ has W h60 ho (HR.out.below hW)).mono fun _ _ q => ⟨q.1, hW.trans (q.2.mono hW.size)⟩
  have HLO : Hid (Base.okB kept = true → ∀ W : World, Below V.heap.size V W → Calls Tryz.prog 132 #[.agg #[.slice (some ⟨g, 0, none⟩) L.length cap, .int .i64 who, .int .i64 has, .int .i64 kept, .int .i64 last]] W fun e w' => e = .returned (.int .i64 (lastTo L who kept L.length)) ∧ Below V.heap.size V w') := fun ho W hW => (lastOwn g cap L ⟨who, has, kept, last⟩ W hlc ho (HR.out.below hW)).mono fun _ _ q => ⟨q.1, hW.trans (q.2.mono hW.size)⟩
  have HCO : Hid (∀ s, clsB L s = true → Base.okB s = true) := fun s hs => by
    have q := (cls_iff L s).1 hs
    exact (Base.okB_iff s).2 ⟨q.1, div_lt60 q.1 q.2.1 h60⟩
  have HLC : Hid (laceB L = true) := hlc
  clear hlc hk0 hk1 hk2 hk3
  have HUN : Hid (ownOkB L who has kept = (bits .andNot .i64 (ownI L who has) kept == 0)) := rfl
  obtain ⟨X, _, F, HF, HG⟩ := Fam.fam V
  have HC : Hid (∀ z, OAt (F z) hb g cap L.length ⟨who, has, kept, last⟩) := fun z => HO.out.below (HF.out z)
  have d0 : ∀ z, (F z).cell? ⟨hb, 0, none⟩ = some (.slice (some ⟨g, 0, none⟩) L.length cap) := fun z => (HC.out z).c0
  have d1 : ∀ z, (F z).cell? ⟨hb, 1, none⟩ = some (.int .i64 who) := fun z => (HC.out z).c1
  have d2 : ∀ z, (F z).cell? ⟨hb, 2, none⟩ = some (.int .i64 has) := fun z => (HC.out z).c2
  have d3 : ∀ z, (F z).cell? ⟨hb, 3, none⟩ = some (.int .i64 kept) := fun z => (HC.out z).c3
  have d4 : ∀ z, (F z).cell? ⟨hb, 4, none⟩ = some (.int .i64 last) := fun z => (HC.out z).c4
  cases h0 : Kn.in3 who
  · have HT : Hid (rightB L ⟨who, has, kept, last⟩ = false) := by show _ = _; rw [HD.out]; simp [h0]
    rw [h0] at HKN
    clear HD HC HO HR HLC HUN HLO HOW HCO HCL
    clear h0
    refine Fam.region (F := F) (by kernel_rfl) (by kernel_rfl) (HG.out _ (Below.refl _ V).drew) ?_
    repeat (go_big_quiet_step (first
      | (go_at_call 130; exact (HKN.out _ (HF.out _)).mono fun _ _ q => ⟨q.1, HG.out _ q.2⟩)))
    refine wpQuiet_nil ?_
    intro w2 hw2
    obtain ⟨z, rfl⟩ := hw2
    have HB2 : Hid (Below V.heap.size V (F z)) := HF.out z
    go_wp2
    go_ret
    exact ⟨by rw [HT.out]; rfl, by rw [HBE.out]; exact HB0.out.trans (HB2.out.mono (Nat.le_of_lt hbV))⟩
  cases h1 : clsB L has
  · have HT : Hid (rightB L ⟨who, has, kept, last⟩ = false) := by show _ = _; rw [HD.out]; simp [h0, h1]
    rw [h0] at HKN
    rw [h1] at HCL
    generalize clsB L kept = x3 at HCL
    clear HD HC HO HR HLC HUN HLO HOW HCO
    clear h0 h1
    refine Fam.region (F := F) (by kernel_rfl) (by kernel_rfl) (HG.out _ (Below.refl _ V).drew) ?_
    repeat (go_big_quiet_step (first
      | (go_at_call 130; exact (HKN.out _ (HF.out _)).mono fun _ _ q => ⟨q.1, HG.out _ q.2⟩)
      | (go_at_call 131; exact (HCL.out _ _ _ (HF.out _) (by first | exact .inl ⟨rfl, rfl⟩ | exact .inr ⟨rfl, rfl⟩)).mono fun _ _ q => ⟨q.1, HG.out _ q.2⟩)))
    refine wpQuiet_nil ?_
    intro w2 hw2
    obtain ⟨z, rfl⟩ := hw2
    have HB2 : Hid (Below V.heap.size V (F z)) := HF.out z
    go_wp2
    go_ret
    exact ⟨by rw [HT.out]; rfl, by rw [HBE.out]; exact HB0.out.trans (HB2.out.mono (Nat.le_of_lt hbV))⟩
  cases h2 : clsB L kept
  · have HT : Hid (rightB L ⟨who, has, kept, last⟩ = false) := by show _ = _; rw [HD.out]; simp [h0, h1, h2]
    rw [h0] at HKN
    rw [h1, h2] at HCL
    clear HD HC HO HR HLC HUN HLO HOW HCO
    clear h0 h1 h2
    refine Fam.region (F := F) (by kernel_rfl) (by kernel_rfl) (HG.out _ (Below.refl _ V).drew) ?_
    repeat (go_big_quiet_step (first
      | (go_at_call 130; exact (HKN.out _ (HF.out _)).mono fun _ _ q => ⟨q.1, HG.out _ q.2⟩)
      | (go_at_call 131; exact (HCL.out _ _ _ (HF.out _) (by first | exact .inl ⟨rfl, rfl⟩ | exact .inr ⟨rfl, rfl⟩)).mono fun _ _ q => ⟨q.1, HG.out _ q.2⟩)))
    refine wpQuiet_nil ?_
    intro w2 hw2
    obtain ⟨z, rfl⟩ := hw2
    have HB2 : Hid (Below V.heap.size V (F z)) := HF.out z
    go_wp2
    go_ret
    exact ⟨by rw [HT.out]; rfl, by rw [HBE.out]; exact HB0.out.trans (HB2.out.mono (Nat.le_of_lt hbV))⟩
  cases h3 : (bits .andNot .i64 kept has == 0)
  · have HT : Hid (rightB L ⟨who, has, kept, last⟩ = false) := by show _ = _; rw [HD.out]; simp [h0, h1, h2, h3]
    rw [h0] at HKN
    rw [h1, h2] at HCL
    clear HD HC HO HR HLC HUN HLO HOW HCO
    clear h0 h1 h2
    refine Fam.region (F := F) (by kernel_rfl) (by kernel_rfl) (HG.out _ (Below.refl _ V).drew) ?_
    repeat (go_big_quiet_step (first
      | (go_at_call 130; exact (HKN.out _ (HF.out _)).mono fun _ _ q => ⟨q.1, HG.out _ q.2⟩)
      | (go_at_call 131; exact (HCL.out _ _ _ (HF.out _) (by first | exact .inl ⟨rfl, rfl⟩ | exact .inr ⟨rfl, rfl⟩)).mono fun _ _ q => ⟨q.1, HG.out _ q.2⟩)))
    refine wpQuiet_nil ?_
    intro w2 hw2
    obtain ⟨z, rfl⟩ := hw2
    have HB2 : Hid (Below V.heap.size V (F z)) := HF.out z
    go_wp2
    go_ret
    exact ⟨by rw [HT.out]; rfl, by rw [HBE.out]; exact HB0.out.trans (HB2.out.mono (Nat.le_of_lt hbV))⟩
  cases h4 : ownOkB L who has kept
  · have HT : Hid (rightB L ⟨who, has, kept, last⟩ = false) := by show _ = _; rw [HD.out]; simp [h0, h1, h2, h3, h4]
    rw [h0] at HKN
    rw [h1, h2] at HCL
    have HOW2 : Hid (∀ W : World, Below V.heap.size V W → Calls Tryz.prog 88 #[.agg #[.slice (some ⟨g, 0, none⟩) L.length cap, .int .i64 who, .int .i64 has, .int .i64 kept, .int .i64 last], .int .i64 has] W fun e w' => e = .returned (.int .i64 (ownI L who has)) ∧ Below V.heap.size V w') := HOW.out (HCO.out _ h1)
    rw [HUN.out] at h4
    generalize ownI L who has = ow at HOW2 h4
    clear HD HC HO HR HLC HUN HLO HOW HCO
    clear h0 h1 h2
    refine Fam.region (F := F) (by kernel_rfl) (by kernel_rfl) (HG.out _ (Below.refl _ V).drew) ?_
    repeat (go_big_quiet_step (first
      | (go_at_call 130; exact (HKN.out _ (HF.out _)).mono fun _ _ q => ⟨q.1, HG.out _ q.2⟩)
      | (go_at_call 131; exact (HCL.out _ _ _ (HF.out _) (by first | exact .inl ⟨rfl, rfl⟩ | exact .inr ⟨rfl, rfl⟩)).mono fun _ _ q => ⟨q.1, HG.out _ q.2⟩)
      | (go_at_call 88; exact (HOW2.out _ (HF.out _)).mono fun _ _ q => ⟨q.1, HG.out _ q.2⟩)))
    refine wpQuiet_nil ?_
    intro w2 hw2
    obtain ⟨z, rfl⟩ := hw2
    have HB2 : Hid (Below V.heap.size V (F z)) := HF.out z
    go_wp2
    go_ret
    exact ⟨by rw [HT.out]; rfl, by rw [HBE.out]; exact HB0.out.trans (HB2.out.mono (Nat.le_of_lt hbV))⟩
  have HT : Hid (rightB L ⟨who, has, kept, last⟩ = (last == lastTo L who kept L.length)) := by show _ = _; rw [HD.out]; simp [h0, h1, h2, h3, h4]
  rw [h0] at HKN
  rw [h1, h2] at HCL
  have HOW2 : Hid (∀ W : World, Below V.heap.size V W → Calls Tryz.prog 88 #[.agg #[.slice (some ⟨g, 0, none⟩) L.length cap, .int .i64 who, .int .i64 has, .int .i64 kept, .int .i64 last], .int .i64 has] W fun e w' => e = .returned (.int .i64 (ownI L who has)) ∧ Below V.heap.size V w') := HOW.out (HCO.out _ h1)
  have HLO2 : Hid (∀ W : World, Below V.heap.size V W → Calls Tryz.prog 132 #[.agg #[.slice (some ⟨g, 0, none⟩) L.length cap, .int .i64 who, .int .i64 has, .int .i64 kept, .int .i64 last]] W fun e w' => e = .returned (.int .i64 (lastTo L who kept L.length)) ∧ Below V.heap.size V w') := HLO.out (HCO.out _ h2)
  rw [HUN.out] at h4
  generalize ownI L who has = ow at HOW2 h4
  generalize lastTo L who kept L.length = lt at HLO2 HT
  clear HD HC HO HR HLC HUN HLO HOW HCO h0 h1 h2
  refine Fam.region (F := F) (by kernel_rfl) (by kernel_rfl) (HG.out _ (Below.refl _ V).drew) ?_
  repeat (go_big_quiet_step (first
    | (go_at_call 130; exact (HKN.out _ (HF.out _)).mono fun _ _ q => ⟨q.1, HG.out _ q.2⟩)
    | (go_at_call 131; exact (HCL.out _ _ _ (HF.out _) (by first | exact .inl ⟨rfl, rfl⟩ | exact .inr ⟨rfl, rfl⟩)).mono fun _ _ q => ⟨q.1, HG.out _ q.2⟩)
    | (go_at_call 88; exact (HOW2.out _ (HF.out _)).mono fun _ _ q => ⟨q.1, HG.out _ q.2⟩)
    | (go_at_call 132; exact (HLO2.out _ (HF.out _)).mono fun _ _ q => ⟨q.1, HG.out _ q.2⟩)))
  refine wpQuiet_nil ?_
  intro w2 hw2
  obtain ⟨z, rfl⟩ := hw2
  have HB2 : Hid (Below V.heap.size V (F z)) := HF.out z
  go_wp2
  go_ret
  exact ⟨by rw [HT.out]; rfl, by rw [HBE.out]; exact HB0.out.trans (HB2.out.mono (Nat.le_of_lt hbV))⟩

end Rm
end Go.Proofs.YtfjmenhofllchaaGreatDoor

namespace Go.Proofs.YtfjmenhofllchaaGreatDoor
open Go.RowKit
set_option maxRecDepth 100000
set_option linter.unusedVariables false
namespace Rm
open Kn (K okK)
open Bit (bit withB)
open Lc (at' RdK laceB WordsOk)
open Sg (bel belows closedTo orB)

theorem handedOut (x : Value) (h : Hd) (w : World) :
    Calls Tryz.prog 57 #[.agg #[x, .int .i64 h.who, .int .i64 h.has, .int .i64 h.kept, .int .i64 h.last]] w fun e w' => e = .returned (.agg #[.int .i64 h.who, .int .i64 h.has, .int .i64 h.kept, .int .i64 h.last]) ∧ Below w.heap.size w w' := by
  go_enter Tryz.func57, Tryz.ntmps57
  go_wp2
  exact bodyPost_ret (v := .agg #[.int .i64 h.who, .int .i64 h.has, .int .i64 h.kept, .int .i64 h.last]) (by simp [results, Tryz.results57, go_sem]) rfl ⟨rfl, (((Below.refl _ _).alloc (Nat.le_refl _) _).alloc (by simp) _)⟩

theorem keeps (g n cap : Nat) (h : Hd) (w : World) :
    Calls Tryz.prog 98 #[.agg #[.slice (some ⟨g, 0, none⟩) n cap, .int .i64 h.who, .int .i64 h.has, .int .i64 h.kept, .int .i64 h.last]] w fun e w' => e = .returned (.agg #[.slice (some ⟨g, 0, none⟩) n cap, .int .i64 h.who, .int .i64 h.has, .int .i64 h.has, .int .i64 h.last]) ∧ Below w.heap.size w w' := by
  go_enter Tryz.func98, Tryz.ntmps98
  go_wp2
  exact bodyPost_ret (v := .agg #[.slice (some ⟨g, 0, none⟩) n cap, .int .i64 h.who, .int .i64 h.has, .int .i64 h.has, .int .i64 h.last]) (by simp [results, Tryz.results98, go_sem]) rfl ⟨rfl, (((Below.refl _ _).alloc (Nat.le_refl _) _).alloc (by simp) _)⟩

theorem taking (g n cap : Nat) (h : Hd) (s : Int) (w : World) :
    Calls Tryz.prog 89 #[.agg #[.slice (some ⟨g, 0, none⟩) n cap, .int .i64 h.who, .int .i64 h.has, .int .i64 h.kept, .int .i64 h.last], .int .i64 s] w fun e w' => e = .returned (.agg #[.slice (some ⟨g, 0, none⟩) n cap, .int .i64 h.who, .int .i64 (bits .or .i64 h.has s), .int .i64 h.kept, .int .i64 h.last]) ∧ Below w.heap.size w w' := by
  go_enter Tryz.func89, Tryz.ntmps89
  go_wp2
  exact bodyPost_ret (v := .agg #[.slice (some ⟨g, 0, none⟩) n cap, .int .i64 h.who, .int .i64 (bits .or .i64 h.has s), .int .i64 h.kept, .int .i64 h.last]) (by simp [results, Tryz.results89, go_sem]) rfl ⟨rfl, (((Below.refl _ _).alloc (Nat.le_refl _) _).alloc (by simp) _)⟩

/-- the variable that says that it is no right hand -/
def NoH (W : World) (a : Addr) : Prop := W.cell? ⟨0, 0, none⟩ = some (.iface 189 (.pointer (some a)))
theorem cell_lt {W : World} {p : Addr} {v : Value} (h : W.cell? p = some v) : p.block < W.heap.size := by
  rcases Nat.lt_or_ge p.block W.heap.size with q | q
  · exact q
  · simp [World.cell?, Array.getElem?_eq_none q] at h
theorem NoH.below {W V : World} {a : Addr} (h : NoH W a) (hb : Below W.heap.size W V) : NoH V a := (hb.cell (p := ⟨0, 0, none⟩) (cell_lt h)).trans h

/-- the error that says so is there -/
def NoHs (W : World) : Prop := ∃ a, NoH W a
theorem NoHs.below {W V : World} (h : NoHs W) (hb : Below W.heap.size W V) : NoHs V := h.elim fun a q => ⟨a, q.below hb⟩

/-- how the asking for an owner ends -/
def OwnerPost (L : List K) (h : Hd) (a : Addr) (w : World) (e : Ending) (w' : World) : Prop :=
  (handOkB L h = true ∧ ∃ g, e = .returned (.tuple #[.agg #[.slice (some ⟨g, 0, none⟩) L.length L.length, .int .i64 h.who, .int .i64 h.has, .int .i64 h.kept, .int .i64 h.last], .nilIface]) ∧ g < w'.heap.size ∧ RdK w' (some ⟨g, 0, none⟩) L ∧ Below w.heap.size w w') ∨
  (handOkB L h = false ∧ e = .returned (.tuple #[.agg #[.slice none 0 0, .int .i64 0, .int .i64 0, .int .i64 0, .int .i64 0], .iface 189 (.pointer (some a))]) ∧ Below w.heap.size w w')

end Rm
end Go.Proofs.YtfjmenhofllchaaGreatDoor

namespace Go.Proofs.YtfjmenhofllchaaGreatDoor
open Go.RowKit
set_option maxRecDepth 100000
set_option linter.unusedVariables false
namespace Rm
open Kn (K okK)
open Bit (bit withB)
open Lc (at' RdK laceB WordsOk)
open Sg (bel belows closedTo orB)

/-- five cells of one block, that may be written -/
structure Ow (W : World) (b : Nat) (v0 v1 v2 v3 v4 : Value) : Prop where
  lt : b < W.heap.size
  c0 : W.cell? ⟨b, 0, none⟩ = some v0
  c1 : W.cell? ⟨b, 1, none⟩ = some v1
  c2 : W.cell? ⟨b, 2, none⟩ = some v2
  c3 : W.cell? ⟨b, 3, none⟩ = some v3
  c4 : W.cell? ⟨b, 4, none⟩ = some v4
  f0 : W.frozen? ⟨b, 0, none⟩ = false
  f1 : W.frozen? ⟨b, 1, none⟩ = false
  f2 : W.frozen? ⟨b, 2, none⟩ = false
  f3 : W.frozen? ⟨b, 3, none⟩ = false
  f4 : W.frozen? ⟨b, 4, none⟩ = false
theorem ow_new (W : World) (v0 v1 v2 v3 v4 : Value) (t : TypeId) : Ow (W.alloc (.cells #[v0, v1, v2, v3, v4] t)) W.heap.size v0 v1 v2 v3 v4 := ⟨by simp, by simp, by simp, by simp, by simp, by simp, by simp, by simp, by simp, by simp, by simp⟩
theorem fro_below {W V : World} {p : Addr} (hb : Below W.heap.size W V) (hl : p.block < W.heap.size) : V.frozen? p = W.frozen? p := hb.frozen hl
theorem Ow.below {W V : World} {b : Nat} {v0 v1 v2 v3 v4 : Value} (x : Ow W b v0 v1 v2 v3 v4) (hb : Below W.heap.size W V) : Ow V b v0 v1 v2 v3 v4 :=
  ⟨Nat.lt_of_lt_of_le x.lt hb.size, (hb.cell (p := ⟨b, 0, none⟩) x.lt).trans x.c0, (hb.cell (p := ⟨b, 1, none⟩) x.lt).trans x.c1, (hb.cell (p := ⟨b, 2, none⟩) x.lt).trans x.c2, (hb.cell (p := ⟨b, 3, none⟩) x.lt).trans x.c3, (hb.cell (p := ⟨b, 4, none⟩) x.lt).trans x.c4,
   (fro_below (p := ⟨b, 0, none⟩) hb x.lt).trans x.f0, (fro_below (p := ⟨b, 1, none⟩) hb x.lt).trans x.f1, (fro_below (p := ⟨b, 2, none⟩) hb x.lt).trans x.f2, (fro_below (p := ⟨b, 3, none⟩) hb x.lt).trans x.f3, (fro_below (p := ⟨b, 4, none⟩) hb x.lt).trans x.f4⟩
theorem Ow.drew {W : World} {b : Nat} {v0 v1 v2 v3 v4 : Value} (x : Ow W b v0 v1 v2 v3 v4) : Ow W.drew b v0 v1 v2 v3 v4 := ⟨x.lt, x.c0, x.c1, x.c2, x.c3, x.c4, x.f0, x.f1, x.f2, x.f3, x.f4⟩
theorem Ow.put {W : World} {b : Nat} {v0 v1 v2 v3 v4 : Value} (x : Ow W b v0 v1 v2 v3 v4) (u0 u1 u2 u3 u4 : Value) : ∃ V, V = (((((W.setCell ⟨b, 0, none⟩ u0).setCell ⟨b, 1, none⟩ u1).setCell ⟨b, 2, none⟩ u2).setCell ⟨b, 3, none⟩ u3).setCell ⟨b, 4, none⟩ u4) ∧
    Ow V b u0 u1 u2 u3 u4 ∧ (∀ (n : Nat) (w : World), Below n w W → n ≤ b → Below n w V) ∧ V.heap.size = W.heap.size ∧ (∀ p : Addr, p.block ≠ b → V.cell? p = W.cell? p) := by
  refine ⟨_, rfl, ?_, ?_, by simp, ?_⟩
  · refine ⟨by simp; exact x.lt, ?_, ?_, ?_, ?_, ?_, ?_, ?_, ?_, ?_, ?_⟩
    · rw [World.cell?_setCell_other _ _ _ _ (by simp), World.cell?_setCell_other _ _ _ _ (by simp), World.cell?_setCell_other _ _ _ _ (by simp), World.cell?_setCell_other _ _ _ _ (by simp)]
      exact World.cell?_setCell_same _ _ _ x.c0
    · rw [World.cell?_setCell_other _ _ _ _ (by simp), World.cell?_setCell_other _ _ _ _ (by simp), World.cell?_setCell_other _ _ _ _ (by simp)]
      exact World.cell?_setCell_same _ _ _ ((World.cell?_setCell_other _ _ _ _ (by simp)).trans x.c1)
    · rw [World.cell?_setCell_other _ _ _ _ (by simp), World.cell?_setCell_other _ _ _ _ (by simp)]
      exact World.cell?_setCell_same _ _ _ ((World.cell?_setCell_other _ _ _ _ (by simp)).trans ((World.cell?_setCell_other _ _ _ _ (by simp)).trans x.c2))
    · rw [World.cell?_setCell_other _ _ _ _ (by simp)]
      exact World.cell?_setCell_same _ _ _ ((World.cell?_setCell_other _ _ _ _ (by simp)).trans ((World.cell?_setCell_other _ _ _ _ (by simp)).trans ((World.cell?_setCell_other _ _ _ _ (by simp)).trans x.c3)))
    · exact World.cell?_setCell_same _ _ _ ((World.cell?_setCell_other _ _ _ _ (by simp)).trans ((World.cell?_setCell_other _ _ _ _ (by simp)).trans ((World.cell?_setCell_other _ _ _ _ (by simp)).trans ((World.cell?_setCell_other _ _ _ _ (by simp)).trans x.c4))))
    all_goals simp only [World.frozen?_setCell]
    · exact x.f0
    · exact x.f1
    · exact x.f2
    · exact x.f3
    · exact x.f4
  · intro n w hb hn
    exact ((((hb.setCell (p := ⟨b, 0, none⟩) hn _).setCell (p := ⟨b, 1, none⟩) hn _).setCell (p := ⟨b, 2, none⟩) hn _).setCell (p := ⟨b, 3, none⟩) hn _).setCell (p := ⟨b, 4, none⟩) hn _
  · intro p hp
    have hne : ∀ i : Nat, (⟨b, i, none⟩ : Addr) ≠ p := fun i e => hp (by rw [← e])
    rw [World.cell?_setCell_other _ _ _ _ (hne 4), World.cell?_setCell_other _ _ _ _ (hne 3), World.cell?_setCell_other _ _ _ _ (hne 2), World.cell?_setCell_other _ _ _ _ (hne 1), World.cell?_setCell_other _ _ _ _ (hne 0)]

theorem rdk_other {W V : World} {g b : Nat} {L : List K} {x : Option Addr} {n m : Nat} (h : RdK W (some ⟨g, 0, none⟩) L) (hc : ∀ p : Addr, p.block ≠ b → V.cell? p = W.cell? p) (hs : V.heap.size = W.heap.size) (hx : W.cell? ⟨b, 0, none⟩ = some (.slice x n m)) : RdK V (some ⟨g, 0, none⟩) L := by
  rcases h with h | ⟨g', off, ha, hg, hk⟩
  · exact .inl h
  · by_cases hl : L.length = 0
    · exact .inl (List.length_eq_zero_iff.1 hl)
    injection ha with ha
    injection ha with h1 h2
    subst h1 h2
    have hgb : g ≠ b := by
      rintro rfl
      have q := (hk 0 (by omega)).c0
      rw [show 0 + 0 * 4 = 0 from rfl, hx] at q
      cases q
    exact .inr ⟨g, 0, rfl, by rw [hs]; exact hg, fun i hi => ⟨(hc _ hgb).trans (hk i hi).c0, (hc _ hgb).trans (hk i hi).c1, (hc _ hgb).trans (hk i hi).c2, (hc _ hgb).trans (hk i hi).c3⟩⟩

set_option maxHeartbeats 3200000 in
theorem ownerOfA (ao : Option Addr) (cap : Nat) (L : List K) (h : Hd) (a : Addr) (w : World) (hla0 : ∀ V : World, Below w.heap.size w V → Calls Tryz.prog 92 #[.slice ao L.length cap] V (Lc.LacePost L V)) (hk : H64 h) (hn : NoH w a) :
    Calls Tryz.prog 44 #[.slice ao L.length cap, .agg #[.int .i64 h.who, .int .i64 h.has, .int .i64 h.kept, .int .i64 h.last]] w (OwnerPost L h a w) := by
  have P0 : Hid (Below w.heap.size w ((w.alloc (.cells #[.int .i64 h.who, .int .i64 h.has, .int .i64 h.kept, .int .i64 h.last] 26)).alloc (.cells #[.slice none 0 0, .int .i64 0, .int .i64 0, .int .i64 0, .int .i64 0] 66)) ∧ HAt ((w.alloc (.cells #[.int .i64 h.who, .int .i64 h.has, .int .i64 h.kept, .int .i64 h.last] 26)).alloc (.cells #[.slice none 0 0, .int .i64 0, .int .i64 0, .int .i64 0, .int .i64 0] 66)) w.heap.size 0 h ∧ Ow ((w.alloc (.cells #[.int .i64 h.who, .int .i64 h.has, .int .i64 h.kept, .int .i64 h.last] 26)).alloc (.cells #[.slice none 0 0, .int .i64 0, .int .i64 0, .int .i64 0, .int .i64 0] 66)) (w.heap.size + 1) (.slice none 0 0) (.int .i64 0) (.int .i64 0) (.int .i64 0) (.int .i64 0)) :=
    ⟨((Below.refl _ w).alloc (Nat.le_refl _) _).alloc (by simp) _, hat_below (hat_new w h _) ((Below.refl _ _).alloc (Nat.le_refl _) _), by
      have q := ow_new (w.alloc (.cells #[.int .i64 h.who, .int .i64 h.has, .int .i64 h.kept, .int .i64 h.last] 26)) (.slice none 0 0) (.int .i64 0) (.int .i64 0) (.int .i64 0) (.int .i64 0) 66
      rw [World.size_alloc] at q
      exact q⟩
  have hgl : 0 < w.heap.size := cell_lt hn
  have HN : Hid (NoH w a) := hn
  clear hn
  go_enter Tryz.func44, Tryz.ntmps44
  go_upto_region 1 with fail
  generalize (w.alloc (.cells #[.int .i64 h.who, .int .i64 h.has, .int .i64 h.kept, .int .i64 h.last] 26)).alloc (.cells #[.slice none 0 0, .int .i64 0, .int .i64 0, .int .i64 0, .int .i64 0] 66) = V at P0 ⊢
  obtain ⟨hB0, hH0, hO0⟩ := P0
  have HB0 : Hid (Below w.heap.size w V) := hB0
  have HH0 : Hid (HAt V w.heap.size 0 h) := hH0
  have HO0 : Hid (Ow V (w.heap.size + 1) (.slice none 0 0) (.int .i64 0) (.int .i64 0) (.int .i64 0) (.int .i64 0)) := hO0
  have hla := hla0 V hB0
  clear hla0
  clear hB0 hH0 hO0
  go_wp2_with fail
  refine hla.mono ?_
  clear hla
  intro e V1 hp
  have HEQ : Hid (handOkB L h = (laceB L && hokB L h)) := rfl
  rcases hp with ⟨hl, g1, rfl, hg1, hr1, hb1⟩ | ⟨hl, rfl, hb1⟩
  · have HB1 : Hid (Below w.heap.size w V1) := HB0.out.trans (hb1.mono HB0.out.size)
    have HH1 : Hid (HAt V1 w.heap.size 0 h) := hat_below HH0.out hb1
    have HO1 : Hid (Ow V1 (w.heap.size + 1) (.slice none 0 0) (.int .i64 0) (.int .i64 0) (.int .i64 0) (.int .i64 0)) := HO0.out.below hb1
    clear hb1 HB0 HH0 HO0
    have HQ : Hid (Below w.heap.size w (V1.alloc (.cells #[.slice (some ⟨g1, 0, none⟩) L.length L.length, .int .i64 h.who, .int .i64 h.has, .int .i64 h.kept, .int .i64 h.last] 66)) ∧ Ow (V1.alloc (.cells #[.slice (some ⟨g1, 0, none⟩) L.length L.length, .int .i64 h.who, .int .i64 h.has, .int .i64 h.kept, .int .i64 h.last] 66)) V1.heap.size (.slice (some ⟨g1, 0, none⟩) L.length L.length) (.int .i64 h.who) (.int .i64 h.has) (.int .i64 h.kept) (.int .i64 h.last) ∧ Ow (V1.alloc (.cells #[.slice (some ⟨g1, 0, none⟩) L.length L.length, .int .i64 h.who, .int .i64 h.has, .int .i64 h.kept, .int .i64 h.last] 66)) (w.heap.size + 1) (.slice none 0 0) (.int .i64 0) (.int .i64 0) (.int .i64 0) (.int .i64 0) ∧ RdK (V1.alloc (.cells #[.slice (some ⟨g1, 0, none⟩) L.length L.length, .int .i64 h.who, .int .i64 h.has, .int .i64 h.kept, .int .i64 h.last] 66)) (some ⟨g1, 0, none⟩) L ∧ g1 < (V1.alloc (.cells #[.slice (some ⟨g1, 0, none⟩) L.length L.length, .int .i64 h.who, .int .i64 h.has, .int .i64 h.kept, .int .i64 h.last] 66)).heap.size) :=
      ⟨HB1.out.alloc HB1.out.size _, ow_new V1 _ _ _ _ _ _, HO1.out.below ((Below.refl _ _).alloc (Nat.le_refl _) _), hr1.below ((Below.refl _ _).alloc (Nat.le_refl _) _), by simp; omega⟩
    have hbs : w.heap.size + 1 < V1.heap.size := HO1.out.lt
    obtain ⟨a0, a1, a2, a3⟩ := cellsH HH1.out
    clear HO1 HB1 HH1 hr1
    go_upto_region 3 with fail
    generalize V1.alloc (.cells #[.slice (some ⟨g1, 0, none⟩) L.length L.length, .int .i64 h.who, .int .i64 h.has, .int .i64 h.kept, .int .i64 h.last] 66) = V2 at HQ ⊢
    clear a0 a1 a2 a3
    obtain ⟨hB2, hX2, hO2, hR2, hg2⟩ := HQ
    have HB2 : Hid (Below w.heap.size w V2) := hB2
    have HX2 : Hid (Ow V2 V1.heap.size (.slice (some ⟨g1, 0, none⟩) L.length L.length) (.int .i64 h.who) (.int .i64 h.has) (.int .i64 h.kept) (.int .i64 h.last)) := hX2
    have HO2 : Hid (Ow V2 (w.heap.size + 1) (.slice none 0 0) (.int .i64 0) (.int .i64 0) (.int .i64 0) (.int .i64 0)) := hO2
    have HR2 : Hid (RdK V2 (some ⟨g1, 0, none⟩) L) := hR2
    obtain ⟨_, x0, x1, x2, x3, x4, _, _, _, _, _⟩ := hX2
    have hrt := right g1 L.length L h V2 hl hk hg2 hR2
    clear hB2 hO2 hR2
    generalize V1.heap.size = xb at HX2 x0 x1 x2 x3 x4 hbs ⊢
    go_wp2_with fail
    refine hrt.mono ?_
    clear hrt
    rintro e V3 ⟨rfl, hb3⟩
    have HB3 : Hid (Below w.heap.size w V3) := HB2.out.trans (hb3.mono HB2.out.size)
    have HX3 : Hid (Ow V3 xb (.slice (some ⟨g1, 0, none⟩) L.length L.length) (.int .i64 h.who) (.int .i64 h.has) (.int .i64 h.kept) (.int .i64 h.last)) := HX2.out.below hb3
    have HO3 : Hid (Ow V3 (w.heap.size + 1) (.slice none 0 0) (.int .i64 0) (.int .i64 0) (.int .i64 0) (.int .i64 0)) := HO2.out.below hb3
    have HR3 : Hid (RdK V3 (some ⟨g1, 0, none⟩) L) := HR2.out.below hb3
    have hg3 : g1 < V3.heap.size := Nat.lt_of_lt_of_le hg2 hb3.size
    clear hb3 HB2 HX2 HO2 HR2 x0 x1 x2 x3 x4
    cases hok : hokB L h
    · have HT : Hid (handOkB L h = false) := by show _ = _; rw [HEQ.out, hl, hok]; rfl
      clear hok HX3 HR3
      have hnw : V3.cell? ⟨0, 0, none⟩ = some (.iface 189 (.pointer (some a))) := (HB3.out.cell (p := ⟨0, 0, none⟩) hgl).trans HN.out
      obtain ⟨W, hW, hOW, hBW, hsW, hcW⟩ := HO3.out.put (.slice none 0 0) (.int .i64 0) (.int .i64 0) (.int .i64 0) (.int .i64 0)
      have HW : Hid (W = _) := hW
      have HBW : Hid (Below w.heap.size w W.drew) := (hBW _ _ HB3.out (by omega)).drew
      obtain ⟨_, z0, z1, z2, z3, z4, f0, f1, f2, f3, f4⟩ := HO3.out
      have YD : Hid (Ow W.drew (w.heap.size + 1) (.slice none 0 0) (.int .i64 0) (.int .i64 0) (.int .i64 0) (.int .i64 0)) := hOW.drew
      obtain ⟨_, y0, y1, y2, y3, y4, _, _, _, _, _⟩ := YD.out
      have hne : ¬ w.heap.size + 1 = 0 := by omega
      clear hW hBW hsW hcW
      generalize w.heap.size + 1 = zb at YD HW z0 z1 z2 z3 z4 f0 f1 f2 f3 f4 y0 y1 y2 y3 y4 hne ⊢
      go_upto_region 4 with fail
      go_region
      all_goals go_wp2
      all_goals rw [← HW.out]
      all_goals refine bodyPost_ret (v := .tuple #[.agg #[.slice none 0 0, .int .i64 0, .int .i64 0, .int .i64 0, .int .i64 0], .iface 189 (.pointer (some a))]) (by simp [results, Tryz.f44, go_sem, y0, y1, y2, y3, y4]) rfl ?_
      all_goals exact .inr ⟨HT.out, rfl, HBW.out⟩
    · have HT : Hid (handOkB L h = true) := by show _ = _; rw [HEQ.out, hl, hok]; rfl
      obtain ⟨W, hW, hOW, hBW, hsW, hcW⟩ := HO3.out.put (.slice (some ⟨g1, 0, none⟩) L.length L.length) (.int .i64 h.who) (.int .i64 h.has) (.int .i64 h.kept) (.int .i64 h.last)
      have HW : Hid (W = _) := hW
      have HBW : Hid (Below w.heap.size w W) := hBW _ _ HB3.out (by omega)
      have HRW : Hid (RdK W (some ⟨g1, 0, none⟩) L ∧ g1 < W.heap.size) := by
        refine ⟨?_, by rw [hsW]; exact hg3⟩
        exact rdk_other HR3.out hcW hsW HO3.out.c0
      obtain ⟨_, x0, x1, x2, x3, x4, _, _, _, _, _⟩ := HX3.out
      obtain ⟨_, z0, z1, z2, z3, z4, f0, f1, f2, f3, f4⟩ := HO3.out
      obtain ⟨_, y0, y1, y2, y3, y4, _, _, _, _, _⟩ := hOW
      clear hok hW hBW hsW hcW
      go_wp2
      rw [← HW.out]
      refine bodyPost_ret (v := .tuple #[.agg #[.slice (some ⟨g1, 0, none⟩) L.length L.length, .int .i64 h.who, .int .i64 h.has, .int .i64 h.kept, .int .i64 h.last], .nilIface]) (by simp [results, Tryz.f44, go_sem, y0, y1, y2, y3, y4]) rfl ?_
      exact .inl ⟨HT.out, g1, rfl, HRW.out.2, HRW.out.1, HBW.out⟩
  · have HB3 : Hid (Below w.heap.size w V1) := HB0.out.trans (hb1.mono HB0.out.size)
    have HH1 : Hid (HAt V1 w.heap.size 0 h) := hat_below HH0.out hb1
    have HO1 : Hid (Ow V1 (w.heap.size + 1) (.slice none 0 0) (.int .i64 0) (.int .i64 0) (.int .i64 0) (.int .i64 0)) := HO0.out.below hb1
    have HT : Hid (handOkB L h = false) := by show _ = _; rw [HEQ.out, hl]; rfl
    clear hb1 HB0 HH0 HO0
    have HQ : Hid (Below w.heap.size w (V1.alloc (.cells #[.slice none 0 0, .int .i64 h.who, .int .i64 h.has, .int .i64 h.kept, .int .i64 h.last] 66)) ∧ Ow (V1.alloc (.cells #[.slice none 0 0, .int .i64 h.who, .int .i64 h.has, .int .i64 h.kept, .int .i64 h.last] 66)) (w.heap.size + 1) (.slice none 0 0) (.int .i64 0) (.int .i64 0) (.int .i64 0) (.int .i64 0)) :=
      ⟨HB3.out.alloc HB3.out.size _, HO1.out.below ((Below.refl _ _).alloc (Nat.le_refl _) _)⟩
    obtain ⟨a0, a1, a2, a3⟩ := cellsH HH1.out
    clear HO1 HB3 HH1
    go_upto_region 3 with fail
    generalize V1.alloc (.cells #[.slice none 0 0, .int .i64 h.who, .int .i64 h.has, .int .i64 h.kept, .int .i64 h.last] 66) = V3 at HQ ⊢
    clear a0 a1 a2 a3
    have HB3 : Hid (Below w.heap.size w V3) := HQ.out.1
    have HO3 : Hid (Ow V3 (w.heap.size + 1) (.slice none 0 0) (.int .i64 0) (.int .i64 0) (.int .i64 0) (.int .i64 0)) := HQ.out.2
    clear HQ
    have hnw : V3.cell? ⟨0, 0, none⟩ = some (.iface 189 (.pointer (some a))) := (HB3.out.cell (p := ⟨0, 0, none⟩) hgl).trans HN.out
    obtain ⟨W, hW, hOW, hBW, hsW, hcW⟩ := HO3.out.put (.slice none 0 0) (.int .i64 0) (.int .i64 0) (.int .i64 0) (.int .i64 0)
    have HW : Hid (W = _) := hW
    have HBW : Hid (Below w.heap.size w W.drew) := (hBW _ _ HB3.out (by omega)).drew
    obtain ⟨_, z0, z1, z2, z3, z4, f0, f1, f2, f3, f4⟩ := HO3.out
    have YD : Hid (Ow W.drew (w.heap.size + 1) (.slice none 0 0) (.int .i64 0) (.int .i64 0) (.int .i64 0) (.int .i64 0)) := hOW.drew
    obtain ⟨_, y0, y1, y2, y3, y4, _, _, _, _, _⟩ := YD.out
    have hne : ¬ w.heap.size + 1 = 0 := by omega
    clear hW hBW hsW hcW
    generalize w.heap.size + 1 = zb at YD HW z0 z1 z2 z3 z4 f0 f1 f2 f3 f4 y0 y1 y2 y3 y4 hne ⊢
    go_upto_region 4 with fail
    go_region
    all_goals go_wp2
    all_goals rw [← HW.out]
    all_goals refine bodyPost_ret (v := .tuple #[.agg #[.slice none 0 0, .int .i64 0, .int .i64 0, .int .i64 0, .int .i64 0], .iface 189 (.pointer (some a))]) (by simp [results, Tryz.f44, go_sem, y0, y1, y2, y3, y4]) rfl ?_
    all_goals exact .inr ⟨HT.out, rfl, HBW.out⟩

theorem ownerOf (g off cap : Nat) (L : List K) (h : Hd) (a : Addr) (w : World) (hlen : L.length ≤ 1099511627776) (hw : WordsOk L) (hk : H64 h) (hr : RdK w (some ⟨g, off, none⟩) L) (hn : NoH w a) :
    Calls Tryz.prog 44 #[.slice (some ⟨g, off, none⟩) L.length cap, .agg #[.int .i64 h.who, .int .i64 h.has, .int .i64 h.kept, .int .i64 h.last]] w (OwnerPost L h a w) :=
  ownerOfA (some ⟨g, off, none⟩) cap L h a w (fun V hV => Lc.laceOf g off cap L V hlen hw (hr.below hV)) hk hn

/-- of the nil list -/
theorem laceOfN (w : World) : Calls Tryz.prog 92 #[.slice none 0 0] w (Lc.LacePost [] w) := by
  obtain ⟨i0, hi, hz0, hz1, hz2⟩ := info_parts Lc.infoK
  have hmk : ∀ W : World, (Instr.makeSlice 62 (.int .i64 0) (.int .i64 60)).run Tryz.prog W = .ok (.slice (some ⟨W.heap.size, 0, none⟩) 0 60) (W.alloc (.cells (madeCells (Value.agg #[.int .i64 0, .int .i64 0, .int .i64 0, .string ⟨#[]⟩]).cells (60 * 4)) 92)) := by
    intro W
    have := run_make (P := Tryz.prog) W 62 92 i0 _ Tryz.underlying62 hi hz0 .i64 .i64 0 60 (by omega) (by omega) (by rw [hz2]; omega) (by omega)
    rw [hz1] at this
    exact this
  generalize (Value.agg #[.int .i64 0, .int .i64 0, .int .i64 0, .string ⟨#[]⟩]).cells = zc at hmk
  generalize madeCells zc (60 * 4) = mc at hmk
  go_enter Tryz.func92, Tryz.ntmps92
  go_wp2
  refine wp_loop_rounds 1 ?_
  rw [rounds_succ]
  go_wp2
  go_ret2
  exact .inl ⟨rfl, w.heap.size, rfl, by simp, .inl rfl, (Below.refl _ _).alloc (Nat.le_refl _) _⟩

end Rm
end Go.Proofs.YtfjmenhofllchaaGreatDoor

namespace Go.Proofs.YtfjmenhofllchaaGreatDoor
open Go.RowKit
set_option maxRecDepth 100000
set_option linter.unusedVariables false
namespace Rm
open Kn (K okK)
open Bit (bit withB)
open Lc (at' RdK laceB WordsOk)
open Sg (bel belows closedTo orB)

set_option maxHeartbeats 1600000 in
theorem implHandOkA (ao : Option Addr) (cap : Nat) (L : List K) (h : Hd) (a : Addr) (w : World) (hla0 : ∀ V : World, Below w.heap.size w V → Calls Tryz.prog 92 #[.slice ao L.length cap] V (Lc.LacePost L V)) (hk : H64 h) (hn : NoH w a) :
    Calls Tryz.prog 13 #[.slice ao L.length cap, .agg #[.int .i64 h.who, .int .i64 h.has, .int .i64 h.kept, .int .i64 h.last]] w fun e w' => e = .returned (.bool (handOkB L h)) ∧ Below w.heap.size w w' := by
  have P0 : Hid (Below w.heap.size w (w.alloc (.cells #[.int .i64 h.who, .int .i64 h.has, .int .i64 h.kept, .int .i64 h.last] 26)) ∧ HAt (w.alloc (.cells #[.int .i64 h.who, .int .i64 h.has, .int .i64 h.kept, .int .i64 h.last] 26)) w.heap.size 0 h) := ⟨(Below.refl _ _).alloc (Nat.le_refl _) _, hat_new w h _⟩
  go_enter Tryz.func13, Tryz.ntmps13
  go_upto_region 1 with fail
  generalize w.alloc (.cells #[.int .i64 h.who, .int .i64 h.has, .int .i64 h.kept, .int .i64 h.last] 26) = V at P0 ⊢
  have HB0 : Hid (Below w.heap.size w V) := P0.out.1
  obtain ⟨a0, a1, a2, a3⟩ := cellsH P0.out.2
  have ho := ownerOfA ao cap L h a V (fun X hX => hla0 X (HB0.out.trans (hX.mono HB0.out.size))) hk (hn.below HB0.out)
  clear P0 hla0 hn
  go_wp2_with fail
  refine ho.mono ?_
  clear ho
  intro e w1 hp
  rcases hp with ⟨hl, g1, rfl, hg1, hr1, hb1⟩ | ⟨hl, rfl, hb1⟩
  all_goals
    have HT : Hid (handOkB L h = _) := hl
    have HB1 : Hid (Below w.heap.size w w1) := HB0.out.trans (hb1.mono HB0.out.size)
    clear hl hb1 HB0
    go_wp2
    go_ret
    exact ⟨by rw [HT.out]; rfl, HB1.out.alloc HB1.out.size _⟩

theorem implHandOk (g off cap : Nat) (L : List K) (h : Hd) (a : Addr) (w : World) (hlen : L.length ≤ 1099511627776) (hw : WordsOk L) (hk : H64 h) (hr : RdK w (some ⟨g, off, none⟩) L) (hn : NoH w a) :
    Calls Tryz.prog 13 #[.slice (some ⟨g, off, none⟩) L.length cap, .agg #[.int .i64 h.who, .int .i64 h.has, .int .i64 h.kept, .int .i64 h.last]] w fun e w' => e = .returned (.bool (handOkB L h)) ∧ Below w.heap.size w w' :=
  implHandOkA (some ⟨g, off, none⟩) cap L h a w (fun V hV => Lc.laceOf g off cap L V hlen hw (hr.below hV)) hk hn
theorem implHandOkN (h : Hd) (a : Addr) (w : World) (hk : H64 h) (hn : NoH w a) :
    Calls Tryz.prog 13 #[.slice none 0 0, .agg #[.int .i64 h.who, .int .i64 h.has, .int .i64 h.kept, .int .i64 h.last]] w fun e w' => e = .returned (.bool (handOkB [] h)) ∧ Below w.heap.size w w' :=
  implHandOkA none 0 [] h a w (fun V _ => laceOfN V) hk hn

theorem last_same {L : List K} {who s t : Int} (hs : ∀ i, (at' L i).hand = who → bit s i = bit t i) : ∀ n, lastTo L who s n = lastTo L who t n := by
  intro n
  induction n with
  | zero => rfl
  | succ n ih =>
    have e1 : lastTo L who s (n + 1) = if bit s n && (decide ((at' L n).hand = who) && (decide (lastTo L who s n < 0) || decide ((at' L (lastTo L who s n).toNat).round < (at' L n).round))) then (n : Int) else lastTo L who s n := rfl
    have e2 : lastTo L who t (n + 1) = if bit t n && (decide ((at' L n).hand = who) && (decide (lastTo L who t n < 0) || decide ((at' L (lastTo L who t n).toNat).round < (at' L n).round))) then (n : Int) else lastTo L who t n := rfl
    rw [e1, e2, ih]
    by_cases hq : (at' L n).hand = who
    · rw [hs n hq]
    · rw [decide_eq_false hq]; simp
theorem last_own {L : List K} {h : Hd} (hk : H64 h) (ok : handOkB L h = true) : lastTo L h.who h.has L.length = h.last := by
  have x := hand_is hk ok
  rw [x.last]
  refine last_same (fun i hi => ?_) L.length
  rw [Bool.eq_iff_iff]
  exact ⟨fun hb => x.own i hb hi, fun hb => x.sub i hb⟩

end Rm
end Go.Proofs.YtfjmenhofllchaaGreatDoor

namespace Go.Proofs.YtfjmenhofllchaaGreatDoor
open Go.RowKit Go.Extern.Stop Go.Stop Go.Extern
set_option maxRecDepth 100000
set_option linter.unusedVariables false
namespace Er

theorem isTypeOf (v : Value) (w : World) : (callFunc 119 #[.iface 189 v]).run Tryz.prog w = .ok (.value (.iface 167 (.agg #[.pointer (some ⟨9, 189, none⟩)]))) w := by kernel_rfl
theorem isComparable (w : World) : (callFunc 184 #[.agg #[.pointer (some ⟨9, 189, none⟩)]]).run Tryz.prog w = .ok (.value (.bool true)) w := by kernel_rfl
theorem isMethodComparable (v : Value) (w : World) : (Go.method 324 167 v "Comparable").run Tryz.prog w = .ok (184, v) w := by kernel_rfl
theorem isComp : (Tryz.prog.info? 189).map (·.comparable) = some true := by kernel_rfl
theorem isSize : (Tryz.prog.info? 212).map (·.size) = some 1 := by kernel_rfl
theorem noIsE (v : Value) (xT : TypeId) (w : World) : (Instr.typeAssert (.iface 189 v) xT 169 true).run Tryz.prog w = .ok (.tuple #[.nilIface, .bool false]) w := run_typeAssert_lacksB Tryz.underlying169 (by kernel_rfl) (by kernel_rfl) v xT w
theorem noUnwrapE (v : Value) (xT : TypeId) (w : World) : (Instr.typeAssert (.iface 189 v) xT 172 true).run Tryz.prog w = .ok (.tuple #[.nilIface, .bool false]) w := run_typeAssert_lacksB Tryz.underlying172 (by kernel_rfl) (by kernel_rfl) v xT w
theorem noUnwrapsE (v : Value) (xT : TypeId) (w : World) : (Instr.typeAssert (.iface 189 v) xT 174 true).run Tryz.prog w = .ok (.tuple #[.nilIface, .bool false]) w := run_typeAssert_lacksB Tryz.underlying174 (by kernel_rfl) (by kernel_rfl) v xT w
theorem noIsR (v : Value) (xT : TypeId) (w : World) : (Instr.typeAssert (.iface 116 v) xT 169 true).run Tryz.prog w = .ok (.tuple #[.nilIface, .bool false]) w := run_typeAssert_lacksB Tryz.underlying169 (by kernel_rfl) (by kernel_rfl) v xT w
theorem hasUnwrapR (v : Value) (xT : TypeId) (w : World) : (Instr.typeAssert (.iface 116 v) xT 172 true).run Tryz.prog w = .ok (.tuple #[.iface 116 v, .bool true]) w := run_typeAssert_hasB Tryz.underlying172 (by kernel_rfl) v xT w
theorem methodUnwrap (v : Value) (w : World) : (Go.method 324 116 v "Unwrap").run Tryz.prog w = .ok (178, v) w := by kernel_rfl

/-- errors.Is of nil -/
theorem is_nil (b : Addr) (w : World) : Calls Tryz.prog 83 #[.nilIface, .iface 189 (.pointer (some b))] w fun e w' => e = .returned (.bool false) ∧ w = w' := by
  have hn := run_eql_iface_nil_left (P := Tryz.prog) w 189 (.pointer (some b)) Tryz.underlying71
  go_enter Tryz.func83, Tryz.ntmps83
  go_wp2
  go_ret
  exact ⟨rfl, rfl⟩

/-- errors.Is of the error itself -/
theorem is_same (b : Addr) (w : World) : Calls Tryz.prog 83 #[.iface 189 (.pointer (some b)), .iface 189 (.pointer (some b))] w fun e w' => e = .returned (.bool true) ∧ w = w' := by
  obtain ⟨i, hi, hcmp⟩ := Option.map_eq_some_iff.1 isComp
  obtain ⟨j, hj, hjs⟩ := Option.map_eq_some_iff.1 isSize
  have tT := isTypeOf
  have cT := isComparable
  have mR := isMethodComparable
  have nE := noIsE
  have uE := noUnwrapE
  have vE := noUnwrapsE
  have nW := noIsR
  have uW := hasUnwrapR
  have mU := methodUnwrap
  have heq := run_eql_iface_ptr_same (P := Tryz.prog) w b Tryz.underlying71 Tryz.underlying189 hi hcmp hj
  go_enter Tryz.func83, Tryz.ntmps83
  go_wp2
  refine wp_loop_rounds 1 ?_
  rw [rounds_succ]
  go_wp2
  go_ret
  exact ⟨rfl, rfl⟩

set_option maxHeartbeats 1600000 in
/-- errors.Is of an error that wraps the target -/
theorem is_wrap (k l : Int) (b : Addr) (w : World) : Calls Tryz.prog 83 #[.iface 116 (.agg #[.int .i64 k, .int .i64 l, .iface 189 (.pointer (some b))]), .iface 189 (.pointer (some b))] w fun e w' => e = .returned (.bool true) ∧ Below w.heap.size w w' := by
  obtain ⟨i, hi, hcmp⟩ := Option.map_eq_some_iff.1 isComp
  obtain ⟨j, hj, hjs⟩ := Option.map_eq_some_iff.1 isSize
  have tT := isTypeOf
  have cT := isComparable
  have mR := isMethodComparable
  have nE := noIsE
  have uE := noUnwrapE
  have vE := noUnwrapsE
  have nW := noIsR
  have uW := hasUnwrapR
  have mU := methodUnwrap
  have heq := run_eql_iface_ptr_same (P := Tryz.prog) (w.alloc (.cells #[.int .i64 k, .int .i64 l, .iface 189 (.pointer (some b))] 116)) b Tryz.underlying71 Tryz.underlying189 hi hcmp hj
  have hty := run_eql_iface_types (P := Tryz.prog) 116 189 (.agg #[.int .i64 k, .int .i64 l, .iface 189 (.pointer (some b))]) (.pointer (some b)) Tryz.underlying71 (by decide) w
  go_enter Tryz.func83, Tryz.ntmps83
  go_wp2
  refine wp_loop_rounds 2 ?_
  rw [rounds_succ]
  go_wp2
  rw [rounds_succ]
  go_wp2
  go_ret
  exact ⟨rfl, (Below.refl _ _).alloc (Nat.le_refl _) _⟩

set_option maxHeartbeats 1600000 in
/-- errors.Is of an error that wraps another one -/
theorem is_other (k l : Int) (a b : Addr) (ca cb : Array Value) (ta tb : TypeId) (w : World) (hne : a ≠ b) (ha : w.heap[a.block]? = some (.cells ca ta (0, 0))) (hb : w.heap[b.block]? = some (.cells cb tb (0, 0))) : Calls Tryz.prog 83 #[.iface 116 (.agg #[.int .i64 k, .int .i64 l, .iface 189 (.pointer (some a))]), .iface 189 (.pointer (some b))] w fun e w' => e = .returned (.bool false) ∧ Below w.heap.size w w' := by
  obtain ⟨i, hi, hcmp⟩ := Option.map_eq_some_iff.1 isComp
  obtain ⟨j, hj, hjs⟩ := Option.map_eq_some_iff.1 isSize
  have tT := isTypeOf
  have cT := isComparable
  have mR := isMethodComparable
  have nE := noIsE
  have uE := noUnwrapE
  have vE := noUnwrapsE
  have nW := noIsR
  have uW := hasUnwrapR
  have mU := methodUnwrap
  have hup : ∀ {c : Nat} {x : Obj} (o : Obj), w.heap[c]? = some x → (w.alloc o).heap[c]? = some x := fun {c x} o h => by
    have hlt : c < w.heap.size := by
      rcases Nat.lt_or_ge c w.heap.size with q | q
      · exact q
      · rw [Array.getElem?_eq_none q] at h; cases h
    rw [Below.heap_alloc w o c hlt]; exact h
  have heq := run_eql_iface_ptr_other (P := Tryz.prog) (w.alloc (.cells #[.int .i64 k, .int .i64 l, .iface 189 (.pointer (some a))] 116)) Tryz.underlying71 Tryz.underlying189 hi hcmp hj (by rw [hjs]; decide) hne (hup _ ha) (hup _ hb)
  have hty := run_eql_iface_types (P := Tryz.prog) 116 189 (.agg #[.int .i64 k, .int .i64 l, .iface 189 (.pointer (some a))]) (.pointer (some b)) Tryz.underlying71 (by decide) w
  clear hup ha hb
  go_enter Tryz.func83, Tryz.ntmps83
  go_wp2
  refine wp_loop_rounds 2 ?_
  rw [rounds_succ]
  go_wp2
  rw [rounds_succ]
  go_wp2
  go_ret
  exact ⟨rfl, (Below.refl _ _).alloc (Nat.le_refl _) _⟩

end Er
end Go.Proofs.YtfjmenhofllchaaGreatDoor

namespace Go.Proofs.YtfjmenhofllchaaGreatDoor
open Go.RowKit
set_option maxRecDepth 100000
set_option linter.unusedVariables false
namespace Rm
open Kn (K okK)
open Bit (bit withB)
open Lc (at' RdK laceB WordsOk)
open Sg (bel belows closedTo orB)

/-- where the five errors lie -/
structure Ad where
  hand : Addr
  knot : Addr
  there : Addr
  own : Addr
  loose : Addr
def RowE (W : World) (a : Addr) : Prop := ∃ c t, W.heap[a.block]? = some (.cells c t (0, 0))
theorem RowE.below {W V : World} {a : Addr} (h : RowE W a) (hb : Below W.heap.size W V) : RowE V a := by
  obtain ⟨c, t, h⟩ := h
  have hlt : a.block < W.heap.size := by
    rcases Nat.lt_or_ge a.block W.heap.size with q | q
    · exact q
    · rw [Array.getElem?_eq_none q] at h; cases h
  exact ⟨c, t, (hb.block _ hlt).trans h⟩
structure Sen (W : World) (x : Ad) : Prop where
  c0 : W.cell? ⟨0, 0, none⟩ = some (.iface 189 (.pointer (some x.hand)))
  c1 : W.cell? ⟨1, 0, none⟩ = some (.iface 189 (.pointer (some x.knot)))
  c2 : W.cell? ⟨2, 0, none⟩ = some (.iface 189 (.pointer (some x.there)))
  c3 : W.cell? ⟨4, 0, none⟩ = some (.iface 189 (.pointer (some x.own)))
  c4 : W.cell? ⟨3, 0, none⟩ = some (.iface 189 (.pointer (some x.loose)))
  r0 : RowE W x.hand
  r1 : RowE W x.knot
  r2 : RowE W x.there
  r3 : RowE W x.own
  r4 : RowE W x.loose
  n1 : x.knot ≠ x.hand
  n2 : x.there ≠ x.hand
  n3 : x.own ≠ x.hand
  n4 : x.loose ≠ x.hand
  m1 : x.knot ≠ x.loose
  m2 : x.there ≠ x.loose
  m3 : x.own ≠ x.loose
theorem Sen.below {W V : World} {x : Ad} (h : Sen W x) (hb : Below W.heap.size W V) : Sen V x :=
  ⟨(hb.cell (p := ⟨0, 0, none⟩) (cell_lt h.c0)).trans h.c0, (hb.cell (p := ⟨1, 0, none⟩) (cell_lt h.c1)).trans h.c1, (hb.cell (p := ⟨2, 0, none⟩) (cell_lt h.c2)).trans h.c2, (hb.cell (p := ⟨4, 0, none⟩) (cell_lt h.c3)).trans h.c3, (hb.cell (p := ⟨3, 0, none⟩) (cell_lt h.c4)).trans h.c4,
   h.r0.below hb, h.r1.below hb, h.r2.below hb, h.r3.below hb, h.r4.below hb, h.n1, h.n2, h.n3, h.n4, h.m1, h.m2, h.m3⟩
def Sens (W : World) : Prop := ∃ x, Sen W x
theorem Sens.below {W V : World} (h : Sens W) (hb : Below W.heap.size W V) : Sens V := h.elim fun a q => ⟨a, q.below hb⟩
theorem Sen.noh {W : World} {x : Ad} (h : Sen W x) : NoH W x.hand := h.c0

/-- what a knot lacks -/
def lackB (L : List K) (has k : Int) : Int := bits .andNot .i64 (Sg.metI L k) has
/-- why it is not taken; none: it is taken -/
inductive Why where
  | taken
  | knot
  | there
  | loose
  | own
def whyB (L : List K) (h : Hd) (k : Int) : Why :=
  if !(decide (0 ≤ k) && decide (k < (L.length : Int))) then .knot else if Base.inB k && bit h.has k.toNat then .there else if lackB L h.has k != Sg.oneI k then .loose else if ownI L h.who (lackB L h.has k) != 0 then .own else .taken
/-- how learning ends -/
def whyA (x : Ad) : Why → Addr
  | .taken => x.hand
  | .knot => x.knot
  | .there => x.there
  | .loose => x.loose
  | .own => x.own
def LearnsPost (g cap : Nat) (L : List K) (h : Hd) (k : Int) (x : Ad) (y : Why) (w : World) (e : Ending) (w' : World) : Prop :=
  Below w.heap.size w w' ∧ match y with
  | .taken => e = .returned (.tuple #[.agg #[.slice (some ⟨g, 0, none⟩) L.length cap, .int .i64 h.who, .int .i64 (bits .or .i64 h.has (lackB L h.has k)), .int .i64 h.kept, .int .i64 h.last], .nilIface])
  | y => e = .returned (.tuple #[.agg #[.slice (some ⟨g, 0, none⟩) L.length cap, .int .i64 h.who, .int .i64 h.has, .int .i64 h.kept, .int .i64 h.last], .iface 116 (.agg #[.int .i64 k, .int .i64 (lackB L h.has k), .iface 189 (.pointer (some (whyA x y)))])])

theorem met_bd {L : List K} (hl : laceB L = true) (k : Int) : 0 ≤ Sg.metI L k ∧ Sg.metI L k < 1152921504606846976 := by
  have h60 := ((Lc.lace_iff L).1 hl).1
  unfold Sg.metI
  split
  · exact Sg.bel_bd L _ (by omega)
  · omega

set_option maxHeartbeats 6400000 in
theorem learns (g cap : Nat) (L : List K) (h : Hd) (k : Int) (x : Ad) (w : World) (hlc : laceB L = true) (hh0 : 0 ≤ h.has) (hh1 : h.has < 1152921504606846976) (hg : g < w.heap.size) (hr : RdK w (some ⟨g, 0, none⟩) L) (hs : Sen w x) :
    Calls Tryz.prog 40 #[.agg #[.slice (some ⟨g, 0, none⟩) L.length cap, .int .i64 h.who, .int .i64 h.has, .int .i64 h.kept, .int .i64 h.last], .int .i64 k] w (LearnsPost g cap L h k x (whyB L h k) w) := by
  have h60 := ((Lc.lace_iff L).1 hlc).1
  have P0 : Hid (Below w.heap.size w ((w.alloc (.cells #[.slice (some ⟨g, 0, none⟩) L.length cap, .int .i64 h.who, .int .i64 h.has, .int .i64 h.kept, .int .i64 h.last] 66)).alloc (.cells #[.slice none 0 0, .int .i64 0, .int .i64 0, .int .i64 0, .int .i64 0] 66)) ∧ Ow ((w.alloc (.cells #[.slice (some ⟨g, 0, none⟩) L.length cap, .int .i64 h.who, .int .i64 h.has, .int .i64 h.kept, .int .i64 h.last] 66)).alloc (.cells #[.slice none 0 0, .int .i64 0, .int .i64 0, .int .i64 0, .int .i64 0] 66)) w.heap.size (.slice (some ⟨g, 0, none⟩) L.length cap) (.int .i64 h.who) (.int .i64 h.has) (.int .i64 h.kept) (.int .i64 h.last) ∧ Ow ((w.alloc (.cells #[.slice (some ⟨g, 0, none⟩) L.length cap, .int .i64 h.who, .int .i64 h.has, .int .i64 h.kept, .int .i64 h.last] 66)).alloc (.cells #[.slice none 0 0, .int .i64 0, .int .i64 0, .int .i64 0, .int .i64 0] 66)) (w.heap.size + 1) (.slice none 0 0) (.int .i64 0) (.int .i64 0) (.int .i64 0) (.int .i64 0)) :=
    ⟨((Below.refl _ w).alloc (Nat.le_refl _) _).alloc (by simp) _, (ow_new w _ _ _ _ _ _).below ((Below.refl _ _).alloc (Nat.le_refl _) _), by
      have q := ow_new (w.alloc (.cells #[.slice (some ⟨g, 0, none⟩) L.length cap, .int .i64 h.who, .int .i64 h.has, .int .i64 h.kept, .int .i64 h.last] 66)) (.slice none 0 0) (.int .i64 0) (.int .i64 0) (.int .i64 0) (.int .i64 0) 66
      rw [World.size_alloc] at q
      exact q⟩
  have HR : Hid (RdK w (some ⟨g, 0, none⟩) L) := hr
  have HS : Hid (Sen w x) := hs
  clear hr hs
  go_enter Tryz.func40, Tryz.ntmps40
  go_upto_region 1 with fail
  generalize (w.alloc (.cells #[.slice (some ⟨g, 0, none⟩) L.length cap, .int .i64 h.who, .int .i64 h.has, .int .i64 h.kept, .int .i64 h.last] 66)).alloc (.cells #[.slice none 0 0, .int .i64 0, .int .i64 0, .int .i64 0, .int .i64 0] 66) = V at P0 ⊢
  have HB0 : Hid (Below w.heap.size w V) := P0.out.1
  have HO0 : Hid (Ow V w.heap.size (.slice (some ⟨g, 0, none⟩) L.length cap) (.int .i64 h.who) (.int .i64 h.has) (.int .i64 h.kept) (.int .i64 h.last)) := P0.out.2.1
  have HZ0 : Hid (Ow V (w.heap.size + 1) (.slice none 0 0) (.int .i64 0) (.int .i64 0) (.int .i64 0) (.int .i64 0)) := P0.out.2.2
  have hgV : g < V.heap.size := Nat.lt_of_lt_of_le hg P0.out.1.size
  have HRV : Hid (RdK V (some ⟨g, 0, none⟩) L) := HR.out.below P0.out.1
  have hbV : w.heap.size < V.heap.size := P0.out.2.1.lt
  clear P0
  have HBW : Hid (∀ W : World, Below V.heap.size V W → Calls Tryz.prog 84 #[.slice (some ⟨g, 0, none⟩) L.length cap, .int .i64 k] W fun e w' => e = .returned (.int .i64 (Sg.metI L k)) ∧ Below V.heap.size V w') := fun W hW => (Sg.below g 0 cap L k W hlc (Nat.lt_of_lt_of_le hgV hW.size) (HRV.out.below hW)).mono fun _ _ q => ⟨q.1, hW.trans (q.2.mono hW.size)⟩
  have hmb := met_bd hlc k
  have hlb := Rm.andNot_bd (Sg.metI L k) h.has hmb.1 hmb.2
  have HLK : Hid (lackB L h.has k = bits .andNot .i64 (Sg.metI L k) h.has) := rfl
  obtain ⟨X, _, F, HF, HG⟩ := Fam.fam V
  have HC : Hid (∀ z, Ow (F z) w.heap.size (.slice (some ⟨g, 0, none⟩) L.length cap) (.int .i64 h.who) (.int .i64 h.has) (.int .i64 h.kept) (.int .i64 h.last)) := fun z => HO0.out.below (HF.out z)
  have d0 : ∀ z, (F z).cell? ⟨w.heap.size, 0, none⟩ = some (.slice (some ⟨g, 0, none⟩) L.length cap) := fun z => (HC.out z).c0
  have d2 : ∀ z, (F z).cell? ⟨w.heap.size, 2, none⟩ = some (.int .i64 h.has) := fun z => (HC.out z).c2
  clear HC
  refine Fam.region (F := F) (by kernel_rfl) (by kernel_rfl) (HG.out _ (Below.refl _ V).drew) ?_
  repeat (go_big_quiet_step (first
    | (go_at_call 84; exact (HBW.out _ (HF.out _)).mono fun _ _ q => ⟨q.1, HG.out _ q.2⟩)))
  refine wpQuiet_nil ?_
  intro w2 hw2
  obtain ⟨z, rfl⟩ := hw2
  have HB1 : Hid (Below w.heap.size w (F z)) := HB0.out.trans ((HF.out z).mono HB0.out.size)
  have HO1 : Hid (Ow (F z) w.heap.size (.slice (some ⟨g, 0, none⟩) L.length cap) (.int .i64 h.who) (.int .i64 h.has) (.int .i64 h.kept) (.int .i64 h.last)) := HO0.out.below (HF.out z)
  have HZ1 : Hid (Ow (F z) (w.heap.size + 1) (.slice none 0 0) (.int .i64 0) (.int .i64 0) (.int .i64 0) (.int .i64 0)) := HZ0.out.below (HF.out z)
  have HR1 : Hid (RdK (F z) (some ⟨g, 0, none⟩) L) := HRV.out.below (HF.out z)
  clear d0 d2 HBW HB0 HO0 HZ0 HRV hbV hgV
  generalize F z = W1 at HB1 HO1 HZ1 HR1 ⊢
  clear HF HG
  rw [← HLK.out] at hlb ⊢
  have hlok : Base.okB (lackB L h.has k) = true := (Base.okB_iff _).2 hlb
  have HHK : Hid (Base.okB h.has = true) := (Base.okB_iff _).2 ⟨hh0, hh1⟩
  have HAL : Hid ((Base.okB (2 ^ L.length - 1) && (Base.inB k && bit (2 ^ L.length - 1) k.toNat)) = (decide (0 ≤ k) && decide (k < (L.length : Int)))) := Sg.all_has h60 k
  clear HLK hmb
  have HOW : Hid (∀ W : World, RdK W (some ⟨g, 0, none⟩) L → Calls Tryz.prog 88 #[.agg #[.slice (some ⟨g, 0, none⟩) L.length cap, .int .i64 h.who, .int .i64 h.has, .int .i64 h.kept, .int .i64 h.last], .int .i64 (lackB L h.has k)] W fun e w' => e = .returned (.int .i64 (ownI L h.who (lackB L h.has k))) ∧ Below W.heap.size W w') := fun W hW => own g cap L h _ W h60 hlok hW
  have HTK : Hid (∀ W : World, Calls Tryz.prog 89 #[.agg #[.slice (some ⟨g, 0, none⟩) L.length cap, .int .i64 h.who, .int .i64 h.has, .int .i64 h.kept, .int .i64 h.last], .int .i64 (lackB L h.has k)] W fun e w' => e = .returned (.agg #[.slice (some ⟨g, 0, none⟩) L.length cap, .int .i64 h.who, .int .i64 (bits .or .i64 h.has (lackB L h.has k)), .int .i64 h.kept, .int .i64 h.last]) ∧ Below W.heap.size W w') := fun W => taking g L.length cap h _ W
  have HWY : Hid (whyB L h k = if !(decide (0 ≤ k) && decide (k < (L.length : Int))) then .knot else if Base.inB k && bit h.has k.toNat then .there else if lackB L h.has k != Sg.oneI k then .loose else if ownI L h.who (lackB L h.has k) != 0 then .own else .taken) := rfl
  clear hlok hlb
  cases hk1 : (decide (0 ≤ k) && decide (k < (L.length : Int)))
  · have HT : Hid (whyB L h k = .knot) := by show _ = _; rw [HWY.out, hk1]; rfl
    rw [hk1] at HAL
    obtain ⟨_, x0, _, _, _, _, _, _, _, _, _⟩ := HO1.out
    clear HWY hk1 HOW HTK HHK
    go_upto_region 3 with (first | (go_at_call 85; refine (Lc.all _ _ _ _ h60).mono ?_; rintro e w' ⟨rfl, rfl⟩) | (go_at_call 86; refine (Base.has _ _ _).mono ?_; rintro e w' ⟨rfl, rfl⟩; rw [HAL.out]))
    clear x0
    -- not taken
    have HSW := HS.out.below HB1.out
    obtain ⟨_, x0, x1, x2, x3, x4, _, _, _, _, _⟩ := HO1.out
    obtain ⟨_, z0, z1, z2, z3, z4, f0, f1, f2, f3, f4⟩ := HZ1.out
    have hgc := HSW.c1
    have hgn : 1 < w.heap.size := cell_lt HS.out.c1
    obtain ⟨WW, hW, hOW, hBW, hsW, hcW⟩ := HZ1.out.put (.slice (some ⟨g, 0, none⟩) L.length cap) (.int .i64 h.who) (.int .i64 h.has) (.int .i64 h.kept) (.int .i64 h.last)
    have HW : Hid (WW = _) := hW
    have HBE : Hid (Below w.heap.size w WW.drew) := (hBW _ _ HB1.out (by omega)).drew
    obtain ⟨_, y0, y1, y2, y3, y4, _, _, _, _, _⟩ := hOW.drew
    have hne : ¬ w.heap.size + 1 = 1 := by omega
    have hnb : ¬ w.heap.size + 1 = w.heap.size := by omega
    clear hW hBW hsW hcW hgn
    generalize w.heap.size + 1 = zb at HW z0 z1 z2 z3 z4 f0 f1 f2 f3 f4 y0 y1 y2 y3 y4 hne hnb ⊢
    go_region
    all_goals go_wp2
    all_goals rw [← HW.out]
    all_goals refine bodyPost_ret (v := .tuple #[.agg #[.slice (some ⟨g, 0, none⟩) L.length cap, .int .i64 h.who, .int .i64 h.has, .int .i64 h.kept, .int .i64 h.last], .iface 116 (.agg #[.int .i64 k, .int .i64 (lackB L h.has k), .iface 189 (.pointer (some x.knot))])]) (by simp [results, Tryz.f40, go_sem, y0, y1, y2, y3, y4]) rfl ?_
    all_goals exact ⟨HBE.out, by rw [HT.out]; rfl⟩
  rw [hk1] at HAL HWY
  cases hk2 : (Base.inB k && bit h.has k.toNat)
  rotate_left
  · have HT : Hid (whyB L h k = .there) := by show _ = _; rw [HWY.out, hk2]; rfl
    have HHS : Hid ((Base.okB h.has && (Base.inB k && bit h.has k.toNat)) = true) := by show _ = _; rw [HHK.out, hk2]; rfl
    obtain ⟨_, x0, _, x2, _, _, _, _, _, _, _⟩ := HO1.out
    clear HWY hk1 hk2 HOW HTK HHK
    go_upto_region 5 with (first | (go_at_call 85; refine (Lc.all _ _ _ _ h60).mono ?_; rintro e w' ⟨rfl, rfl⟩) | (go_at_call 86; refine (Base.has _ _ _).mono ?_; rintro e w' ⟨rfl, rfl⟩; first | rw [HAL.out] | rw [HHS.out]))
    clear x0 x2
    -- not taken
    have HSW := HS.out.below HB1.out
    obtain ⟨_, x0, x1, x2, x3, x4, _, _, _, _, _⟩ := HO1.out
    obtain ⟨_, z0, z1, z2, z3, z4, f0, f1, f2, f3, f4⟩ := HZ1.out
    have hgc := HSW.c2
    have hgn : 2 < w.heap.size := cell_lt HS.out.c2
    obtain ⟨WW, hW, hOW, hBW, hsW, hcW⟩ := HZ1.out.put (.slice (some ⟨g, 0, none⟩) L.length cap) (.int .i64 h.who) (.int .i64 h.has) (.int .i64 h.kept) (.int .i64 h.last)
    have HW : Hid (WW = _) := hW
    have HBE : Hid (Below w.heap.size w WW.drew) := (hBW _ _ HB1.out (by omega)).drew
    obtain ⟨_, y0, y1, y2, y3, y4, _, _, _, _, _⟩ := hOW.drew
    have hne : ¬ w.heap.size + 1 = 2 := by omega
    have hnb : ¬ w.heap.size + 1 = w.heap.size := by omega
    clear hW hBW hsW hcW hgn
    generalize w.heap.size + 1 = zb at HW z0 z1 z2 z3 z4 f0 f1 f2 f3 f4 y0 y1 y2 y3 y4 hne hnb ⊢
    go_region
    all_goals go_wp2
    all_goals rw [← HW.out]
    all_goals refine bodyPost_ret (v := .tuple #[.agg #[.slice (some ⟨g, 0, none⟩) L.length cap, .int .i64 h.who, .int .i64 h.has, .int .i64 h.kept, .int .i64 h.last], .iface 116 (.agg #[.int .i64 k, .int .i64 (lackB L h.has k), .iface 189 (.pointer (some x.there))])]) (by simp [results, Tryz.f40, go_sem, y0, y1, y2, y3, y4]) rfl ?_
    all_goals exact ⟨HBE.out, by rw [HT.out]; rfl⟩
  have HHS : Hid ((Base.okB h.has && (Base.inB k && bit h.has k.toNat)) = false) := by show _ = _; rw [HHK.out, hk2]; rfl
  rw [hk2] at HWY
  clear HHK hk1 hk2
  have HWO : Hid (Base.withI 0 k = Sg.oneI k) := Sg.with_one k
  cases hk3 : (lackB L h.has k != Sg.oneI k)
  rotate_left
  · have HT : Hid (whyB L h k = .loose) := by show _ = _; rw [HWY.out, hk3]; rfl
    obtain ⟨_, x0, _, x2, _, _, _, _, _, _, _⟩ := HO1.out
    clear HWY HOW HTK
    generalize hlk : lackB L h.has k = lk at hk3 ⊢
    have HLK2 : Hid (lackB L h.has k = lk) := hlk
    clear hlk
    generalize Sg.oneI k = ok at hk3 HWO
    go_upto_region 7 with (first | (go_at_call 85; refine (Lc.all _ _ _ _ h60).mono ?_; rintro e w' ⟨rfl, rfl⟩) | (go_at_call 86; refine (Base.has _ _ _).mono ?_; rintro e w' ⟨rfl, rfl⟩; first | rw [HAL.out] | rw [HHS.out]) | (go_at_call 87; refine (Base.withM _ _ _).mono ?_; rintro e w' ⟨rfl, rfl⟩; rw [HWO.out]))
    clear x0 x2 hk3
    -- not taken
    have HSW := HS.out.below HB1.out
    obtain ⟨_, x0, x1, x2, x3, x4, _, _, _, _, _⟩ := HO1.out
    obtain ⟨_, z0, z1, z2, z3, z4, f0, f1, f2, f3, f4⟩ := HZ1.out
    have hgc := HSW.c4
    have hgn : 3 < w.heap.size := cell_lt HS.out.c4
    obtain ⟨WW, hW, hOW, hBW, hsW, hcW⟩ := HZ1.out.put (.slice (some ⟨g, 0, none⟩) L.length cap) (.int .i64 h.who) (.int .i64 h.has) (.int .i64 h.kept) (.int .i64 h.last)
    have HW : Hid (WW = _) := hW
    have HBE : Hid (Below w.heap.size w WW.drew) := (hBW _ _ HB1.out (by omega)).drew
    obtain ⟨_, y0, y1, y2, y3, y4, _, _, _, _, _⟩ := hOW.drew
    have hne : ¬ w.heap.size + 1 = 3 := by omega
    have hnb : ¬ w.heap.size + 1 = w.heap.size := by omega
    clear hW hBW hsW hcW hgn
    generalize w.heap.size + 1 = zb at HW z0 z1 z2 z3 z4 f0 f1 f2 f3 f4 y0 y1 y2 y3 y4 hne hnb ⊢
    go_region
    all_goals go_wp2
    all_goals rw [← HW.out]
    all_goals refine bodyPost_ret (v := .tuple #[.agg #[.slice (some ⟨g, 0, none⟩) L.length cap, .int .i64 h.who, .int .i64 h.has, .int .i64 h.kept, .int .i64 h.last], .iface 116 (.agg #[.int .i64 k, .int .i64 lk, .iface 189 (.pointer (some x.loose))])]) (by simp [results, Tryz.f40, go_sem, y0, y1, y2, y3, y4]) rfl ?_
    all_goals exact ⟨HBE.out, by rw [HT.out]; show _ = _; rw [HLK2.out]; rfl⟩
  rw [hk3] at HWY
  generalize hlk : lackB L h.has k = lk at hk3 HOW HTK HWY ⊢
  have HLK2 : Hid (lackB L h.has k = lk) := hlk
  clear hlk
  generalize hwi : ownI L h.who lk = ow at HOW HWY
  clear hwi
  generalize Sg.oneI k = ok at hk3 HWO
  obtain ⟨_, x0, x1, x2, x3, x4, _, _, _, _, _⟩ := HO1.out
  go_upto_region 8 with (first | (go_at_call 85; refine (Lc.all _ _ _ _ h60).mono ?_; rintro e w' ⟨rfl, rfl⟩) | (go_at_call 86; refine (Base.has _ _ _).mono ?_; rintro e w' ⟨rfl, rfl⟩; first | rw [HAL.out] | rw [HHS.out]) | (go_at_call 87; refine (Base.withM _ _ _).mono ?_; rintro e w' ⟨rfl, rfl⟩; rw [HWO.out]))
  go_wp2_with fail
  refine (HOW.out _ HR1.out).mono ?_
  rintro e W2 ⟨rfl, hb2⟩
  have HB2 : Hid (Below w.heap.size w W2) := HB1.out.trans (hb2.mono HB1.out.size)
  have HO2 : Hid (Ow W2 w.heap.size (.slice (some ⟨g, 0, none⟩) L.length cap) (.int .i64 h.who) (.int .i64 h.has) (.int .i64 h.kept) (.int .i64 h.last)) := HO1.out.below hb2
  have HZ2 : Hid (Ow W2 (w.heap.size + 1) (.slice none 0 0) (.int .i64 0) (.int .i64 0) (.int .i64 0) (.int .i64 0)) := HZ1.out.below hb2
  clear hb2 HB1 HO1 HZ1 HR1 HOW x0 x1 x2 x3 x4 HAL HHS HWO hk3
  cases hk4 : (ow != 0)
  rotate_left
  · have HT : Hid (whyB L h k = .own) := by show _ = _; rw [HWY.out, hk4]; rfl
    clear HWY HTK
    go_upto_region 9 with fail
    clear hk4
    -- not taken
    have HSW := HS.out.below HB2.out
    obtain ⟨_, x0, x1, x2, x3, x4, _, _, _, _, _⟩ := HO2.out
    obtain ⟨_, z0, z1, z2, z3, z4, f0, f1, f2, f3, f4⟩ := HZ2.out
    have hgc := HSW.c3
    have hgn : 4 < w.heap.size := cell_lt HS.out.c3
    obtain ⟨WW, hW, hOW, hBW, hsW, hcW⟩ := HZ2.out.put (.slice (some ⟨g, 0, none⟩) L.length cap) (.int .i64 h.who) (.int .i64 h.has) (.int .i64 h.kept) (.int .i64 h.last)
    have HW : Hid (WW = _) := hW
    have HBE : Hid (Below w.heap.size w WW.drew) := (hBW _ _ HB2.out (by omega)).drew
    obtain ⟨_, y0, y1, y2, y3, y4, _, _, _, _, _⟩ := hOW.drew
    have hne : ¬ w.heap.size + 1 = 4 := by omega
    have hnb : ¬ w.heap.size + 1 = w.heap.size := by omega
    clear hW hBW hsW hcW hgn
    generalize w.heap.size + 1 = zb at HW z0 z1 z2 z3 z4 f0 f1 f2 f3 f4 y0 y1 y2 y3 y4 hne hnb ⊢
    go_region
    all_goals go_wp2
    all_goals rw [← HW.out]
    all_goals refine bodyPost_ret (v := .tuple #[.agg #[.slice (some ⟨g, 0, none⟩) L.length cap, .int .i64 h.who, .int .i64 h.has, .int .i64 h.kept, .int .i64 h.last], .iface 116 (.agg #[.int .i64 k, .int .i64 lk, .iface 189 (.pointer (some x.own))])]) (by simp [results, Tryz.f40, go_sem, y0, y1, y2, y3, y4]) rfl ?_
    all_goals exact ⟨HBE.out, by rw [HT.out]; show _ = _; rw [HLK2.out]; rfl⟩
  · have HT : Hid (whyB L h k = .taken) := by show _ = _; rw [HWY.out, hk4]; rfl
    clear HWY
    obtain ⟨_, x0, x1, x2, x3, x4, _, _, _, _, _⟩ := HO2.out
    go_wp2_with fail
    refine (HTK.out _).mono ?_
    rintro e W3 ⟨rfl, hb3⟩
    have HB3 : Hid (Below w.heap.size w W3) := HB2.out.trans (hb3.mono HB2.out.size)
    have HZ3 : Hid (Ow W3 (w.heap.size + 1) (.slice none 0 0) (.int .i64 0) (.int .i64 0) (.int .i64 0) (.int .i64 0)) := HZ2.out.below hb3
    clear hb3 HB2 HO2 HZ2 x0 x1 x2 x3 x4 hk4
    obtain ⟨_, z0, z1, z2, z3, z4, f0, f1, f2, f3, f4⟩ := HZ3.out
    obtain ⟨WW, hW, hOW, hBW, hsW, hcW⟩ := HZ3.out.put (.slice (some ⟨g, 0, none⟩) L.length cap) (.int .i64 h.who) (.int .i64 (bits .or .i64 h.has lk)) (.int .i64 h.kept) (.int .i64 h.last)
    have HW : Hid (WW = _) := hW
    have HBE : Hid (Below w.heap.size w WW) := hBW _ _ HB3.out (by omega)
    obtain ⟨_, y0, y1, y2, y3, y4, _, _, _, _, _⟩ := hOW
    clear hW hBW hsW hcW
    generalize w.heap.size + 1 = zb at HW z0 z1 z2 z3 z4 f0 f1 f2 f3 f4 y0 y1 y2 y3 y4 ⊢
    go_wp2
    rw [← HW.out]
    refine bodyPost_ret (v := .tuple #[.agg #[.slice (some ⟨g, 0, none⟩) L.length cap, .int .i64 h.who, .int .i64 (bits .or .i64 h.has lk), .int .i64 h.kept, .int .i64 h.last], .nilIface]) (by simp [results, Tryz.f40, go_sem, y0, y1, y2, y3, y4]) rfl ?_
    exact ⟨HBE.out, by rw [HT.out]; show _ = _; rw [HLK2.out]⟩

end Rm
end Go.Proofs.YtfjmenhofllchaaGreatDoor

namespace Go.Proofs.YtfjmenhofllchaaGreatDoor
open Go.RowKit
set_option maxRecDepth 100000
set_option linter.unusedVariables false
namespace Rm
open Kn (K okK)
open Bit (bit withB)
open Lc (at' RdK laceB WordsOk)
open Sg (bel belows closedTo orB)

theorem own_zero {L : List K} (h60 : L.length ≤ 60) (who s : Int) : (ownI L who s != 0) = !decide (lastTo L who s L.length < 0) := by
  have hb := own_bd L who s h60
  by_cases hn : lastTo L who s L.length < 0
  · rw [decide_eq_true hn]
    have : ownI L who s = 0 := Lc.eq_of_bits _ _ hb.1 (by omega) fun i => by
      rw [bit_own _ _ _ h60, Lc.bit_zero]
      by_cases hi : i < L.length
      · cases hbi : bit s i
        · simp
        · have := (last_neg L who s _).1 hn i hi hbi
          simp [this]
      · simp [hi]
    rw [this]; rfl
  · rw [decide_eq_false hn]
    have : ownI L who s ≠ 0 := fun e => by
      apply hn
      rw [last_neg]
      intro i hi hbi hw
      have q := bit_own L who s h60 i
      rw [e, Lc.bit_zero, decide_eq_true hi, hbi, decide_eq_true hw] at q
      cases q
    simpa using this

theorem lack_at {L : List K} (has : Int) (p : Nat) (hp : p < L.length) : lackB L has (p : Int) = bits .andNot .i64 (bel L p) has ∧ lackI (belows L L.length) has p = bits .andNot .i64 (bel L p) has := by
  constructor
  · unfold lackB Sg.metI
    rw [if_pos ⟨by omega, by omega⟩, Int.toNat_natCast]
  · unfold lackI
    rw [Sg.belows_get L L.length p hp]

theorem or_lack {L : List K} {h : Hd} (x : HandIs L h) (p : Nat) (hp : p < L.length) : orB h.has ((belows L L.length).getD (p : Int).toNat 0) = bits .or .i64 h.has (lackB L h.has (p : Int)) := by
  have h60 := ((Lc.lace_iff L).1 x.lace).1
  have hb := Sg.bel_bd L p (by omega)
  have ha := andNot_bd (bel L p) h.has hb.1 hb.2
  have h0 := x.h0
  have h1 := x.h1
  rw [Int.toNat_natCast, Sg.belows_get L L.length p hp, (lack_at h.has p hp).1]
  have e : bits .or .i64 h.has (bits .andNot .i64 (bel L p) h.has) = orB h.has (bits .andNot .i64 (bel L p) h.has) := Bit.i64_or _ _ h0 (by omega) ha.1 (by omega)
  rw [e]
  refine Lc.eq_of_bits _ _ (Sg.orB_bd _ _ h0 h1 hb.1 hb.2).1 (Sg.orB_bd _ _ h0 h1 ha.1 ha.2).1 fun i => ?_
  rw [Sg.bit_orB _ _ h0 hb.1, Sg.bit_orB _ _ h0 ha.1, Sg.bit_andNot _ _ hb.1 hb.2 h0 h1]
  cases bit h.has i <;> simp

/-- is it learned, by the reason? -/
def tookB (L : List K) (h : Hd) (k : Int) : Why → Bool → Bool
  | .taken, _ => true
  | .loose, false => !(ownI L h.who (lackB L h.has k) != 0)
  | _, _ => false
theorem learn_why {L : List K} {h : Hd} (x : HandIs L h) (k : Int) (al : Bool) : learnB L (belows L L.length) h.who h.has k al = tookB L h k (whyB L h k) al := by
  have h60 := ((Lc.lace_iff L).1 x.lace).1
  unfold learnB whyB
  by_cases h0 : 0 ≤ k
  rotate_left
  · rw [decide_eq_false h0]; cases al <;> rfl
  by_cases h1 : k < (L.length : Int)
  rotate_left
  · rw [decide_eq_false h1, decide_eq_true h0]; cases al <;> rfl
  rw [decide_eq_true h0, decide_eq_true h1]
  obtain ⟨p, rfl⟩ := Int.eq_ofNat_of_zero_le h0
  have hp : p < L.length := by omega
  have hin : Base.inB (p : Int) = true := (Base.inB_iff _).2 ⟨by omega, by omega⟩
  have hone : Sg.oneI (p : Int) = 2 ^ p := by unfold Sg.oneI; rw [if_pos ⟨by omega, by omega⟩, Int.toNat_natCast]
  rw [hin, hone, Int.toNat_natCast, (lack_at h.has p hp).2, own_zero h60, (lack_at h.has p hp).1]
  unfold tookB
  rw [own_zero h60, (lack_at h.has p hp).1]
  generalize bits .andNot .i64 (bel L p) h.has = lk
  generalize lastTo L h.who lk L.length = lt
  cases bit h.has p <;> cases al <;> by_cases hl : lk = 2 ^ p <;> by_cases ht : lt < 0 <;> simp [hl, ht]
theorem learn_or {L : List K} {h : Hd} (x : HandIs L h) (k : Int) (al : Bool) (hq : learnB L (belows L L.length) h.who h.has k al = true) : orB h.has ((belows L L.length).getD k.toNat 0) = bits .or .i64 h.has (lackB L h.has k) := by
  obtain ⟨p, rfl, hp, _⟩ := learn_parts x hq
  exact or_lack x p hp

end Rm
end Go.Proofs.YtfjmenhofllchaaGreatDoor

namespace Go.Proofs.YtfjmenhofllchaaGreatDoor
open Go.RowKit
set_option maxRecDepth 100000
set_option linter.unusedVariables false
namespace Rm
open Kn (K okK)
open Bit (bit withB)
open Lc (at' RdK laceB WordsOk)
open Sg (bel belows closedTo orB)

/-- what learning hands back: the new set, the error, whether it was learned -/
structure LearnAns (L : List K) (h : Hd) (k : Int) (x : Ad) (al : Bool) (nh : Int) (E : Value) (b : Bool) : Prop where
  hd : learnedH L h k al = ⟨h.who, nh, h.kept, h.last⟩
  bo : learnedB L h k al = b
  er : (E = .nilIface ∧ b = true) ∨ (b = false ∧ ∃ y : Why, y ≠ .taken ∧ ∃ lk : Int, E = .iface 116 (.agg #[.int .i64 k, .int .i64 lk, .iface 189 (.pointer (some (whyA x y)))]))
def LearnEnds (g cap : Nat) (L : List K) (h : Hd) (k : Int) (x : Ad) (al : Bool) (w : World) (e : Ending) (w' : World) : Prop :=
  Below w.heap.size w w' ∧ ∃ nh E b, e = .returned (.tuple #[.agg #[.slice (some ⟨g, 0, none⟩) L.length cap, .int .i64 h.who, .int .i64 nh, .int .i64 h.kept, .int .i64 h.last], E]) ∧ LearnAns L h k x al nh E b
theorem LearnAns.isHand {L : List K} {h : Hd} {k : Int} {x : Ad} {al : Bool} {nh : Int} {E : Value} {b : Bool} (q : LearnAns L h k x al nh E b) (W : World) (hs : Sen W x) : Calls Tryz.prog 83 #[E, .iface 189 (.pointer (some x.hand))] W fun e w' => e = .returned (.bool false) ∧ Below W.heap.size W w' := by
  rcases q.er with ⟨rfl, _⟩ | ⟨_, y, hy, lk, rfl⟩
  · exact (Er.is_nil _ W).mono fun e w' z => ⟨z.1, z.2 ▸ Below.refl _ _⟩
  · obtain ⟨ch, th, hh⟩ := hs.r0
    cases y
    · exact absurd rfl hy
    · obtain ⟨c, t, hc⟩ := hs.r1; exact Er.is_other k lk _ _ _ _ _ _ W hs.n1 hc hh
    · obtain ⟨c, t, hc⟩ := hs.r2; exact Er.is_other k lk _ _ _ _ _ _ W hs.n2 hc hh
    · obtain ⟨c, t, hc⟩ := hs.r4; exact Er.is_other k lk _ _ _ _ _ _ W hs.n4 hc hh
    · obtain ⟨c, t, hc⟩ := hs.r3; exact Er.is_other k lk _ _ _ _ _ _ W hs.n3 hc hh
theorem hat_put5 {W : World} {b c : Nat} {h : Hd} (x : HAt W b 0 h) (hne : b ≠ c) (u0 u1 u2 u3 u4 : Value) : HAt (((((W.setCell ⟨c, 0, none⟩ u0).setCell ⟨c, 1, none⟩ u1).setCell ⟨c, 2, none⟩ u2).setCell ⟨c, 3, none⟩ u3).setCell ⟨c, 4, none⟩ u4) b 0 h := by
  have hn : ∀ i j : Nat, (⟨c, i, none⟩ : Addr) ≠ ⟨b, j, none⟩ := fun i j e => hne (by injection e with e; exact e.symm)
  have hc : ∀ j : Nat, (((((W.setCell ⟨c, 0, none⟩ u0).setCell ⟨c, 1, none⟩ u1).setCell ⟨c, 2, none⟩ u2).setCell ⟨c, 3, none⟩ u3).setCell ⟨c, 4, none⟩ u4).cell? ⟨b, j, none⟩ = W.cell? ⟨b, j, none⟩ := fun j => by
    rw [World.cell?_setCell_other _ _ _ _ (hn 4 j), World.cell?_setCell_other _ _ _ _ (hn 3 j), World.cell?_setCell_other _ _ _ _ (hn 2 j), World.cell?_setCell_other _ _ _ _ (hn 1 j), World.cell?_setCell_other _ _ _ _ (hn 0 j)]
  obtain ⟨lt, c0, c1, c2, c3, f0, f1, f2, f3⟩ := x
  refine ⟨by simpa using lt, (hc _).trans c0, (hc _).trans c1, (hc _).trans c2, (hc _).trans c3, ?_, ?_, ?_, ?_⟩
  all_goals (simp only [World.frozen?_setCell]; assumption)

set_option maxHeartbeats 3200000 in
theorem taught (fid : Nat) (eg : ∀ (args : Array Value) (w : World), (callFunc fid args).run Tryz.prog w = .ok (.enter fid args) w) (al : Bool) (S : World → Prop) (g off cap : Nat) (L : List K) (h : Hd) (k : Int) (x : Ad) (w : World) (hSb : ∀ {W V : World}, S W → Below W.heap.size W V → S V) (hS : ∀ {W : World}, S W → Sen W x) (hlen : L.length ≤ 1099511627776) (hw : WordsOk L) (hk : H64 h) (hr : RdK w (some ⟨g, off, none⟩) L) (hn : S w)
    (hlc : handOkB L h = true → ∀ (g1 : Nat) (V : World), g1 < V.heap.size → RdK V (some ⟨g1, 0, none⟩) L → S V → Calls Tryz.prog fid #[.agg #[.slice (some ⟨g1, 0, none⟩) L.length L.length, .int .i64 h.who, .int .i64 h.has, .int .i64 h.kept, .int .i64 h.last], .int .i64 k] V (LearnEnds g1 L.length L h k x al V)) :
    Calls Tryz.prog 39 #[.slice (some ⟨g, off, none⟩) L.length cap, .agg #[.int .i64 h.who, .int .i64 h.has, .int .i64 h.kept, .int .i64 h.last], .int .i64 k, .func (.func fid) #[] #[]] w fun e w' => e = .returned (.tuple #[.agg #[.int .i64 (learnedH L h k al).who, .int .i64 (learnedH L h k al).has, .int .i64 (learnedH L h k al).kept, .int .i64 (learnedH L h k al).last], .bool (learnedB L h k al)]) ∧ Below w.heap.size w w' := by
  have P0 : Hid (HzO w ((w.alloc (.cells #[.int .i64 h.who, .int .i64 h.has, .int .i64 h.kept, .int .i64 h.last] 26)).alloc (.cells #[.int .i64 0, .int .i64 0, .int .i64 0, .int .i64 0] 26)) h ⟨0, 0, 0, 0⟩) := hzo_new w h _
  have HS : Hid (S w) := hn
  have HLC : Hid (handOkB L h = true → ∀ (g1 : Nat) (V : World), g1 < V.heap.size → RdK V (some ⟨g1, 0, none⟩) L → S V → Calls Tryz.prog fid #[.agg #[.slice (some ⟨g1, 0, none⟩) L.length L.length, .int .i64 h.who, .int .i64 h.has, .int .i64 h.kept, .int .i64 h.last], .int .i64 k] V (LearnEnds g1 L.length L h k x al V)) := hlc
  clear hn hlc
  go_enter Tryz.func39, Tryz.ntmps39
  go_upto_region 1 with fail
  generalize (w.alloc (.cells #[.int .i64 h.who, .int .i64 h.has, .int .i64 h.kept, .int .i64 h.last] 26)).alloc (.cells #[.int .i64 0, .int .i64 0, .int .i64 0, .int .i64 0] 26) = V at P0 ⊢
  obtain ⟨a0, a1, a2, a3⟩ := cellsH P0.out.hh
  have ho := ownerOf g off cap L h x.hand V hlen hw hk (hr.below P0.out.bel) (hS (hSb HS.out P0.out.bel)).noh
  clear hr
  go_wp2_with fail
  refine ho.mono ?_
  clear ho a0 a1 a2 a3
  intro e w1 hp
  rcases hp with ⟨hl, g1, rfl, hg1, hr1, hb1⟩ | ⟨hl, rfl, hb1⟩
  · have hle := HLC.out hl g1
    have P1 : Hid (HzO w w1 h ⟨0, 0, 0, 0⟩) := P0.out.below hb1
    have HQ : Hid (HzO w (w1.alloc (.cells #[.slice (some ⟨g1, 0, none⟩) L.length L.length, .int .i64 h.who, .int .i64 h.has, .int .i64 h.kept, .int .i64 h.last] 66)) h ⟨0, 0, 0, 0⟩ ∧ Ow (w1.alloc (.cells #[.slice (some ⟨g1, 0, none⟩) L.length L.length, .int .i64 h.who, .int .i64 h.has, .int .i64 h.kept, .int .i64 h.last] 66)) w1.heap.size (.slice (some ⟨g1, 0, none⟩) L.length L.length) (.int .i64 h.who) (.int .i64 h.has) (.int .i64 h.kept) (.int .i64 h.last) ∧ RdK (w1.alloc (.cells #[.slice (some ⟨g1, 0, none⟩) L.length L.length, .int .i64 h.who, .int .i64 h.has, .int .i64 h.kept, .int .i64 h.last] 66)) (some ⟨g1, 0, none⟩) L ∧ g1 < (w1.alloc (.cells #[.slice (some ⟨g1, 0, none⟩) L.length L.length, .int .i64 h.who, .int .i64 h.has, .int .i64 h.kept, .int .i64 h.last] 66)).heap.size) := ⟨P1.out.below ((Below.refl _ _).alloc (Nat.le_refl _) _), ow_new w1 _ _ _ _ _ _, hr1.below ((Below.refl _ _).alloc (Nat.le_refl _) _), by simp; omega⟩
    have hzb : w.heap.size + 1 < w1.heap.size := P1.out.zz.lt
    clear hb1 P0 P1 hr1 hl HLC
    go_upto_region 2 with fail
    generalize w1.alloc (.cells #[.slice (some ⟨g1, 0, none⟩) L.length L.length, .int .i64 h.who, .int .i64 h.has, .int .i64 h.kept, .int .i64 h.last] 66) = V2 at HQ ⊢
    have P2 : Hid (HzO w V2 h ⟨0, 0, 0, 0⟩) := HQ.out.1
    have HX2 : Hid (Ow V2 w1.heap.size (.slice (some ⟨g1, 0, none⟩) L.length L.length) (.int .i64 h.who) (.int .i64 h.has) (.int .i64 h.kept) (.int .i64 h.last)) := HQ.out.2.1
    obtain ⟨_, x0, x1, x2, x3, x4, _, _, _, _, _⟩ := HQ.out.2.1
    have hle := hle V2 HQ.out.2.2.2 HQ.out.2.2.1 (hSb HS.out P2.out.bel)
    clear HQ hg1
    generalize w1.heap.size = xb at HX2 x0 x1 x2 x3 x4 hzb ⊢
    go_wp2_with fail
    refine hle.mono ?_
    clear hle x0 x1 x2 x3 x4
    intro e w3 hp3
    obtain ⟨hb3, nh, E, b, rfl, hans⟩ := hp3
    have HA : Hid (LearnAns L h k x al nh E b) := hans
    have HIS : Hid (∀ W : World, Sen W x → Calls Tryz.prog 83 #[E, .iface 189 (.pointer (some x.hand))] W fun e w' => e = .returned (.bool false) ∧ Below W.heap.size W w') := hans.isHand
    have HX3 : Hid (Ow w3 xb (.slice (some ⟨g1, 0, none⟩) L.length L.length) (.int .i64 h.who) (.int .i64 h.has) (.int .i64 h.kept) (.int .i64 h.last)) := HX2.out.below hb3
    have HB3 : Hid (Below w.heap.size w w3) := P2.out.bel.trans (hb3.mono P2.out.bel.size)
    obtain ⟨WW, hW, hOW, hBW, hsW, hcW⟩ := HX3.out.put (.slice (some ⟨g1, 0, none⟩) L.length L.length) (.int .i64 h.who) (.int .i64 nh) (.int .i64 h.kept) (.int .i64 h.last)
    have HW : Hid (WW = _) := hW
    have HB4 : Hid (Below w.heap.size w WW) := hBW _ _ HB3.out (by omega)
    have HZ4 : Hid (HAt WW (w.heap.size + 1) 0 ⟨0, 0, 0, 0⟩) := by show HAt _ _ _ _; rw [hW]; exact hat_put5 (hat_below P2.out.zz hb3) (by omega) _ _ _ _ _
    have HO4 : Hid (Ow WW xb (.slice (some ⟨g1, 0, none⟩) L.length L.length) (.int .i64 h.who) (.int .i64 nh) (.int .i64 h.kept) (.int .i64 h.last)) := hOW
    obtain ⟨_, x0, x1, x2, x3, x4, f0, f1, f2, f3, f4⟩ := HX3.out
    clear hW hBW hsW hcW hOW hans hb3 P2 HX2 HX3 HB3
    go_upto_region 4 with fail
    rw [← HW.out]
    clear HW x0 x1 x2 x3 x4 f0 f1 f2 f3 f4
    have HSN : Hid (Sen WW x) := hS (hSb HS.out HB4.out)
    have hc0 := HSN.out.c0
    go_upto_region 6 with (go_at_call 83; refine (HIS.out _ HSN.out).mono ?_; rintro e w5 ⟨rfl, hb5⟩)
    have HB5 : Hid (Below w.heap.size w w5) := HB4.out.trans (hb5.mono HB4.out.size)
    have HZ5 : Hid (HAt w5 (w.heap.size + 1) 0 ⟨0, 0, 0, 0⟩) := hat_below HZ4.out hb5
    have HO5 : Hid (Ow w5 xb (.slice (some ⟨g1, 0, none⟩) L.length L.length) (.int .i64 h.who) (.int .i64 nh) (.int .i64 h.kept) (.int .i64 h.last)) := HO4.out.below hb5
    clear HB4 HZ4 HO4 hb5 HSN hc0 HIS
    obtain ⟨_, x0, x1, x2, x3, x4, _, _, _, _, _⟩ := HO5.out
    clear HO5
    have HFIN : Hid (∀ X : World, Below w5.heap.size w5 X → Below w.heap.size w X ∧ HAt X (w.heap.size + 1) 0 ⟨0, 0, 0, 0⟩) := fun X hX => ⟨HB5.out.trans (hX.mono HB5.out.size), hat_below HZ5.out hX⟩
    clear HB5 HZ5
    have HD : Hid (learnedH L h k al = ⟨h.who, nh, h.kept, h.last⟩ ∧ learnedB L h k al = b) := ⟨HA.out.hd, HA.out.bo⟩
    have er := HA.out.er
    clear HA
    obtain ⟨rv, her⟩ : ∃ rv : Value, (E = .nilIface ∧ b = true) ∨ (b = false ∧ E = .iface 116 rv) := by
      rcases er with q | ⟨q, y, _, lk, r⟩
      · exact ⟨.nilIface, .inl q⟩
      · exact ⟨_, .inr ⟨q, r⟩⟩
    clear er
    rcases her with ⟨rfl, rfl⟩ | ⟨rfl, rfl⟩
    all_goals
      go_region_law (first
        | (rw [if_pos (by simp [Region.wanted])]
           go_simp
           refine (handedOut _ ⟨h.who, nh, h.kept, h.last⟩ _).mono ?_
           rintro e w6 ⟨rfl, hb6⟩
           have HB6 := HFIN.out w6 (by first | exact hb6 | exact (Below.refl _ w5).drew.trans hb6)
           have HZ6 : Hid (HAt w6 (w.heap.size + 1) 0 ⟨0, 0, 0, 0⟩) := HB6.2
           obtain ⟨z0, z1, z2, z3⟩ := cellsH HB6.2
           have f0 := HB6.2.f0
           have f1 := HB6.2.f1
           have f2 := HB6.2.f2
           have f3 := HB6.2.f3
           simp only [Nat.zero_add] at f1 f2 f3
           have HB6 : Hid (Below w.heap.size w w6) := HB6.1))
    all_goals
      obtain ⟨b0, b1, b2, b3⟩ := hput HZ6.out (.int .i64 h.who) (.int .i64 nh) (.int .i64 h.kept) (.int .i64 h.last)
      have HE : Hid _ := (((HB6.out.setCell (p := ⟨w.heap.size + 1, 0, none⟩) (by simp) (.int .i64 h.who)).setCell (p := ⟨w.heap.size + 1, 1, none⟩) (by simp) (.int .i64 nh)).setCell (p := ⟨w.heap.size + 1, 2, none⟩) (by simp) (.int .i64 h.kept)).setCell (p := ⟨w.heap.size + 1, 3, none⟩) (by simp) (.int .i64 h.last)
      go_wp2
    · refine bodyPost_ret (v := .tuple #[.agg #[.int .i64 h.who, .int .i64 nh, .int .i64 h.kept, .int .i64 h.last], .bool true]) (by simp [results, Tryz.f39, go_sem, b0, b1, b2, b3]) rfl ?_
      exact ⟨by rw [HD.out.1, HD.out.2], HE.out⟩
    · refine bodyPost_ret (v := .tuple #[.agg #[.int .i64 h.who, .int .i64 nh, .int .i64 h.kept, .int .i64 h.last], .bool false]) (by simp [results, Tryz.f39, go_sem, b0, b1, b2, b3]) rfl ?_
      exact ⟨by rw [HD.out.1, HD.out.2], HE.out⟩
  · have HT : Hid (learnedH L h k al = ⟨0, 0, 0, 0⟩ ∧ learnedB L h k al = false) := by
      constructor
      · unfold learnedH; rw [hl]; rfl
      · unfold learnedB; rw [hl]; rfl
    have P1 : Hid (HzO w w1 h ⟨0, 0, 0, 0⟩) := P0.out.below hb1
    have HQ : Hid (HzO w (w1.alloc (.cells #[.slice none 0 0, .int .i64 0, .int .i64 0, .int .i64 0, .int .i64 0] 66)) h ⟨0, 0, 0, 0⟩) := P1.out.below ((Below.refl _ _).alloc (Nat.le_refl _) _)
    clear hl hb1 P0 P1 HLC
    go_upto_region 2 with fail
    generalize w1.alloc (.cells #[.slice none 0 0, .int .i64 0, .int .i64 0, .int .i64 0, .int .i64 0] 66) = V2 at HQ ⊢
    obtain ⟨W, hW, b0, b1, b2, b3, hB⟩ := HQ.out.put ⟨0, 0, 0, 0⟩
    have HW : Hid (W = _) := hW
    obtain ⟨z0, z1, z2, z3⟩ := cellsH HQ.out.zz
    have f0 := HQ.out.zz.f0
    have f1 := HQ.out.zz.f1
    have f2 := HQ.out.zz.f2
    have f3 := HQ.out.zz.f3
    simp only [Nat.zero_add] at f1 f2 f3
    dsimp only at b0 b1 b2 b3 HW
    have hc0 := (hS (hSb HS.out HQ.out.bel)).c0
    clear hW
    go_wp2_with (go_at_call 83; refine (Er.is_same _ _).mono ?_; rintro e w' ⟨rfl, rfl⟩)
    rw [← HW.out]
    refine bodyPost_ret (v := .tuple #[.agg #[.int .i64 0, .int .i64 0, .int .i64 0, .int .i64 0], .bool false]) (by simp [results, Tryz.f39, go_sem, b0, b1, b2, b3]) rfl ?_
    exact ⟨by rw [HT.out.1, HT.out.2], hB⟩

theorem learn_ends {g cap : Nat} {L : List K} {h : Hd} {k : Int} {x : Ad} {w w' : World} {e : Ending} (hok : handOkB L h = true) (hk : H64 h) (q : LearnsPost g cap L h k x (whyB L h k) w e w') : LearnEnds g cap L h k x true w e w' := by
  have hi := hand_is hk hok
  have hb : learnedB L h k true = tookB L h k (whyB L h k) true := by unfold learnedB; rw [hok, Bool.true_and, learn_why hi]
  have hh : learnedH L h k true = if tookB L h k (whyB L h k) true then { h with has := orB h.has ((belows L L.length).getD k.toNat 0) } else h := by unfold learnedH; rw [if_pos hok, learn_why hi]
  have ho := learn_or hi k true
  rw [learn_why hi] at ho
  refine ⟨q.1, ?_⟩
  have q2 := q.2
  generalize whyB L h k = y at hb hh ho q2
  cases y
  · exact ⟨_, _, true, q2, by rw [hh, ← ho rfl]; rfl, hb, .inl ⟨rfl, rfl⟩⟩
  · exact ⟨_, _, false, q2, hh, hb, .inr ⟨rfl, .knot, by simp, _, rfl⟩⟩
  · exact ⟨_, _, false, q2, hh, hb, .inr ⟨rfl, .there, by simp, _, rfl⟩⟩
  · exact ⟨_, _, false, q2, hh, hb, .inr ⟨rfl, .loose, by simp, _, rfl⟩⟩
  · exact ⟨_, _, false, q2, hh, hb, .inr ⟨rfl, .own, by simp, _, rfl⟩⟩

set_option maxHeartbeats 1600000 in
theorem implLearns (g off cap : Nat) (L : List K) (h : Hd) (k : Int) (x : Ad) (w : World) (hlen : L.length ≤ 1099511627776) (hw : WordsOk L) (hk : H64 h) (hr : RdK w (some ⟨g, off, none⟩) L) (hn : Sen w x) :
    Calls Tryz.prog 8 #[.slice (some ⟨g, off, none⟩) L.length cap, .agg #[.int .i64 h.who, .int .i64 h.has, .int .i64 h.kept, .int .i64 h.last], .int .i64 k] w fun e w' => e = .returned (.tuple #[.agg #[.int .i64 (learnedH L h k true).who, .int .i64 (learnedH L h k true).has, .int .i64 (learnedH L h k true).kept, .int .i64 (learnedH L h k true).last], .bool (learnedB L h k true)]) ∧ Below w.heap.size w w' := by
  have P0 : Hid (HzO w ((w.alloc (.cells #[.int .i64 h.who, .int .i64 h.has, .int .i64 h.kept, .int .i64 h.last] 26)).alloc (.cells #[.int .i64 0, .int .i64 0, .int .i64 0, .int .i64 0] 26)) h ⟨0, 0, 0, 0⟩) := hzo_new w h _
  go_enter Tryz.func8, Tryz.ntmps8
  go_upto_region 1 with fail
  generalize (w.alloc (.cells #[.int .i64 h.who, .int .i64 h.has, .int .i64 h.kept, .int .i64 h.last] 26)).alloc (.cells #[.int .i64 0, .int .i64 0, .int .i64 0, .int .i64 0] 26) = V at P0 ⊢
  obtain ⟨a0, a1, a2, a3⟩ := cellsH P0.out.hh
  have ho := taught 40 (enters_of Tryz.func40 (by kernel_rfl) rfl) true (fun W => Sen W x) g off cap L h k x V (fun q b => q.below b) (fun q => q) hlen hw hk (hr.below P0.out.bel) (hn.below P0.out.bel) (fun hok g1 V1 hg hr1 hs => by
    have hpt := hok
    unfold handOkB at hpt
    rw [Bool.and_eq_true] at hpt
    have hbd := hok_parts hk hpt.1 hpt.2
    exact (learns g1 L.length L h k x V1 hpt.1 hbd.1 hbd.2.1 hg hr1 hs).mono fun _ _ q => learn_ends hok hk q)
  clear hr hn
  generalize hxe : learnedH L h k true = hx at ho
  generalize hbe : learnedB L h k true = bx at ho
  have HXE : Hid (learnedH L h k true = hx ∧ learnedB L h k true = bx) := ⟨hxe, hbe⟩
  clear hxe hbe
  go_wp2_with fail
  refine ho.mono ?_
  clear ho a0 a1 a2 a3
  rintro e w1 ⟨rfl, hb1⟩
  have P1 : Hid (HzO w w1 h ⟨0, 0, 0, 0⟩) := P0.out.below hb1
  obtain ⟨W, hW, b0, b1, b2, b3, hB⟩ := P1.out.put hx
  have HW : Hid (W = _) := hW
  obtain ⟨z0, z1, z2, z3⟩ := cellsH P1.out.zz
  have f0 := P1.out.zz.f0
  have f1 := P1.out.zz.f1
  have f2 := P1.out.zz.f2
  have f3 := P1.out.zz.f3
  simp only [Nat.zero_add] at f1 f2 f3
  clear hW P0 hb1
  go_wp2
  rw [← HW.out]
  refine bodyPost_ret (v := .tuple #[.agg #[.int .i64 hx.who, .int .i64 hx.has, .int .i64 hx.kept, .int .i64 hx.last], .bool bx]) (by simp [results, Tryz.f8, go_sem, b0, b1, b2, b3]) rfl ?_
  exact ⟨by rw [HXE.out.1, HXE.out.2], hB⟩

end Rm
end Go.Proofs.YtfjmenhofllchaaGreatDoor

namespace Go.Proofs.YtfjmenhofllchaaGreatDoor
open Go.RowKit Go.Extern.Stop Go.Stop Go.Extern
set_option maxRecDepth 100000
set_option linter.unusedVariables false
namespace Er

/-- the handle of the type error -/
def HandleE (W : World) : Prop := W.cell? ⟨8, 0, none⟩ = some (.iface 167 (.agg #[.pointer (some ⟨9, 71, none⟩)]))
theorem HandleE.below {W V : World} (h : HandleE W) (hb : Below W.heap.size W V) : HandleE V := (hb.cell (p := ⟨8, 0, none⟩) (Rm.cell_lt h)).trans h

theorem asValueOfP (t : Addr) (w : World) : (callFunc 125 #[.iface 120 (.pointer (some t))]).run Tryz.prog w = .ok (.value (.agg #[.pointer (some ⟨9, 120, none⟩), .pointer (some ⟨w.heap.size, 0, none⟩), .int .u64 150])) (w.alloc (.cells #[.pointer (some t)] 120)) := by kernel_rfl
theorem asType (a : Addr) (w : World) : (callFunc 126 #[.agg #[.pointer (some ⟨9, 120, none⟩), .pointer (some a), .int .u64 150]]).run Tryz.prog w = .ok (.value (.iface 167 (.agg #[.pointer (some ⟨9, 120, none⟩)]))) w := by kernel_rfl
theorem asMethodKind (h : Value) (w : World) : (Go.method 324 167 (.agg #[h]) "Kind").run Tryz.prog w = .ok (173, h) w := by kernel_rfl
theorem asKindP (w : World) : (callFunc 173 #[.pointer (some ⟨9, 120, none⟩)]).run Tryz.prog w = .ok (.value (.int .u8 22)) w := by kernel_rfl
theorem asKindR (w : World) : (callFunc 173 #[.pointer (some ⟨9, 116, none⟩)]).run Tryz.prog w = .ok (.value (.int .u8 25)) w := by kernel_rfl
theorem asMethodElem (h : Value) (w : World) : (Go.method 324 167 (.agg #[h]) "Elem").run Tryz.prog w = .ok (185, .agg #[h]) w := by kernel_rfl
theorem asMethodImplements (h : Value) (w : World) : (Go.method 324 167 (.agg #[h]) "Implements").run Tryz.prog w = .ok (186, .agg #[h]) w := by kernel_rfl
theorem asMethodAssignableTo (h : Value) (w : World) : (Go.method 324 167 (.agg #[h]) "AssignableTo").run Tryz.prog w = .ok (183, .agg #[h]) w := by kernel_rfl
theorem asElemT (w : World) : (callFunc 185 #[.agg #[.pointer (some ⟨9, 120, none⟩)]]).run Tryz.prog w = .ok (.value (.iface 167 (.agg #[.pointer (some ⟨9, 116, none⟩)]))) w := by kernel_rfl
theorem asImplements (w : World) : (callFunc 186 #[.agg #[.pointer (some ⟨9, 116, none⟩)], .iface 167 (.agg #[.pointer (some ⟨9, 71, none⟩)])]).run Tryz.prog w = .ok (.value (.bool true)) w := by kernel_rfl
theorem asTypeOf (v : Value) (w : World) : (callFunc 119 #[.iface 116 v]).run Tryz.prog w = .ok (.value (.iface 167 (.agg #[.pointer (some ⟨9, 116, none⟩)]))) w := by kernel_rfl
theorem asAssignable (w : World) : (callFunc 183 #[.agg #[.pointer (some ⟨9, 116, none⟩)], .iface 167 (.agg #[.pointer (some ⟨9, 116, none⟩)])]).run Tryz.prog w = .ok (.value (.bool true)) w := by kernel_rfl
theorem asValueOfR (v0 v1 v2 : Value) (w : World) : (callFunc 125 #[.iface 116 (.agg #[v0, v1, v2])]).run Tryz.prog w = .ok (.value (.agg #[.pointer (some ⟨9, 116, none⟩), .pointer (some ⟨w.heap.size, 0, none⟩), .int .u64 153])) (w.alloc (.cells #[v0, v1, v2] 116)) := by kernel_rfl

theorem rlm (z : Sem Value) (f : TypeId → Addr → Nat → Nat → Sem Value) (v : Value) :
    ReflectliteValue.method z f #[v] = (do match ← ReflectliteValue.parts v with | none => z | some (t, a, fl) => f t a fl (fl % 32)) := rfl
theorem asPartsP (a : Addr) (w : World) : (ReflectliteValue.parts (.agg #[.pointer (some ⟨9, 120, none⟩), .pointer (some a), .int .u64 150])).run Tryz.prog w = .ok (some (120, a, 150)) w := by kernel_rfl
theorem asIsNilP (a p : Addr) (W : World) (ha : W.cell? a = some (.pointer (some p))) :
    (ReflectliteValue.method (ReflectliteValue.valueError "reflectlite.Value.IsNil" 0) ReflectliteValue.isNil #[.agg #[.pointer (some ⟨9, 120, none⟩), .pointer (some a), .int .u64 150]]).run Tryz.prog W = .ok (.bool false) W := by
  rw [rlm]
  simp only [Sem.run_bind, asPartsP, Result.andThen]
  simp [ReflectliteValue.isNil, loadVar, isAgg, underlying, Tryz.underlying120, ha, Result.andThen]
theorem asElemOfP (w : World) : (Rtype.elem? 120).run Tryz.prog w = .ok (some 116) w := by kernel_rfl
theorem asMk (p : Addr) (w : World) : (ReflectliteValue.mk 116 p ReflectliteValue.flagAddr).run Tryz.prog w = .ok (.agg #[.pointer (some ⟨9, 116, none⟩), .pointer (some p), .int .u64 409]) w := by kernel_rfl
theorem asElemP (a p : Addr) (W : World) (ha : W.cell? a = some (.pointer (some p))) :
    (ReflectliteValue.method (ReflectliteValue.valueError "reflectlite.Value.Elem" 0) ReflectliteValue.elem #[.agg #[.pointer (some ⟨9, 120, none⟩), .pointer (some a), .int .u64 150]]).run Tryz.prog W
      = .ok (.agg #[.pointer (some ⟨9, 116, none⟩), .pointer (some p), .int .u64 409]) W := by
  rw [rlm]
  simp only [Sem.run_bind, asPartsP, Result.andThen]
  simp [ReflectliteValue.elem, loadVar, isAgg, underlying, Tryz.underlying120, ha, Result.andThen, asElemOfP, asMk]
theorem rls (v x : Value) : ReflectliteValue.set #[v, x] = (do
    let (some (dst, a, fl), some (src, b, _)) := (← ReflectliteValue.parts v, ← ReflectliteValue.parts x)
      | unsupported (.noEntry "extern/(internal/reflectlite.Value).Set.zeroValue")
    if fl / ReflectliteValue.flagAddr % 2 == 0 then unsupported (.noEntry "extern/(internal/reflectlite.Value).Set.unaddressable")
    let val ← loadVar src b
    if ← Rtype.directlyAssignable dst src then storeVar dst a val
    else if ← Rtype.implements dst src then
      if (← Rtype.kind src) == 20 then
        match val with
        | .nilIface => unsupported (.noEntry "extern/reflectlite: a nil value of one interface type handed on as a value of another")
        | _ => storeVar dst a val
      else storeVar dst a (.iface src val)
    else panicString ("reflectlite.Set: value of type " ++ (← Rtype.spelt src) ++ " is not assignable to type " ++ (← Rtype.spelt dst))
    pure (.tuple #[])) := rfl
theorem asPartsA (a : Addr) (w : World) : (ReflectliteValue.parts (.agg #[.pointer (some ⟨9, 116, none⟩), .pointer (some a), .int .u64 409])).run Tryz.prog w = .ok (some (116, a, 409)) w := by kernel_rfl
theorem asPartsR (a : Addr) (w : World) : (ReflectliteValue.parts (.agg #[.pointer (some ⟨9, 116, none⟩), .pointer (some a), .int .u64 153])).run Tryz.prog w = .ok (some (116, a, 153)) w := by kernel_rfl
theorem asDirect (w : World) : (Rtype.directlyAssignable 116 116).run Tryz.prog w = .ok true w := by kernel_rfl
theorem asSizeR (w : World) : (sizeOf 116).run Tryz.prog w = .ok 3 w := by kernel_rfl
theorem asAggR (w : World) : (isAgg 116).run Tryz.prog w = .ok true w := by kernel_rfl
theorem asLoadR (b : Nat) (v0 v1 v2 : Value) (W : World) (h0 : W.cell? ⟨b, 0, none⟩ = some v0) (h1 : W.cell? ⟨b, 1, none⟩ = some v1) (h2 : W.cell? ⟨b, 2, none⟩ = some v2) : (loadVar 116 ⟨b, 0, none⟩).run Tryz.prog W = .ok (.agg #[v0, v1, v2]) W := by
  simp [loadVar, Result.andThen, loadCells, loadCellsFrom, Addr.add, h0, h1, h2]
theorem asStoreR (b : Nat) (v0 v1 v2 o0 o1 o2 : Value) (W : World) (h0 : W.cell? ⟨b, 0, none⟩ = some o0) (h1 : W.cell? ⟨b, 1, none⟩ = some o1) (h2 : W.cell? ⟨b, 2, none⟩ = some o2) (f0 : W.frozen? ⟨b, 0, none⟩ = false) (f1 : W.frozen? ⟨b, 1, none⟩ = false) (f2 : W.frozen? ⟨b, 2, none⟩ = false) (q0 : v0.oneCell' = true) (q1 : v1.oneCell' = true) (q2 : v2.oneCell' = true) :
    (storeVar 116 ⟨b, 0, none⟩ (.agg #[v0, v1, v2])).run Tryz.prog W = .ok () (((W.setCell ⟨b, 0, none⟩ v0).setCell ⟨b, 1, none⟩ v1).setCell ⟨b, 2, none⟩ v2) := by
  have s0 := run_store Tryz.prog W ⟨b, 0, none⟩ v0 .plain q0
  have s1 := run_store Tryz.prog (W.setCell ⟨b, 0, none⟩ v0) ⟨b, 1, none⟩ v1 .plain q1
  have s2 := run_store Tryz.prog ((W.setCell ⟨b, 0, none⟩ v0).setCell ⟨b, 1, none⟩ v1) ⟨b, 2, none⟩ v2 .plain q2
  rw [World.cell?_setCell_other _ _ _ _ (by simp)] at s1
  rw [World.cell?_setCell_other _ _ _ _ (by simp), World.cell?_setCell_other _ _ _ _ (by simp)] at s2
  simp only [h0, f0] at s0
  simp only [h1, f1, World.frozen?_setCell] at s1
  simp only [h2, f2, World.frozen?_setCell] at s2
  simp [storeVar, Result.andThen, storeCells, Addr.add, Value.cells, s0, s1, s2]
theorem asSetR (t b : Nat) (v0 v1 v2 o0 o1 o2 : Value) (W : World) (h0 : W.cell? ⟨b, 0, none⟩ = some v0) (h1 : W.cell? ⟨b, 1, none⟩ = some v1) (h2 : W.cell? ⟨b, 2, none⟩ = some v2) (t0 : W.cell? ⟨t, 0, none⟩ = some o0) (t1 : W.cell? ⟨t, 1, none⟩ = some o1) (t2 : W.cell? ⟨t, 2, none⟩ = some o2) (f0 : W.frozen? ⟨t, 0, none⟩ = false) (f1 : W.frozen? ⟨t, 1, none⟩ = false) (f2 : W.frozen? ⟨t, 2, none⟩ = false) (q0 : v0.oneCell' = true) (q1 : v1.oneCell' = true) (q2 : v2.oneCell' = true) :
    (ReflectliteValue.set #[.agg #[.pointer (some ⟨9, 116, none⟩), .pointer (some ⟨t, 0, none⟩), .int .u64 409], .agg #[.pointer (some ⟨9, 116, none⟩), .pointer (some ⟨b, 0, none⟩), .int .u64 153]]).run Tryz.prog W
      = .ok (.tuple #[]) (((W.setCell ⟨t, 0, none⟩ v0).setCell ⟨t, 1, none⟩ v1).setCell ⟨t, 2, none⟩ v2) := by
  rw [rls]
  simp only [Sem.run_bind, asPartsA, asPartsR, Result.andThen]
  simp [ReflectliteValue.flagAddr, asLoadR b v0 v1 v2 W h0 h1 h2, Result.andThen, asDirect, asStoreR t v0 v1 v2 o0 o1 o2 W t0 t1 t2 f0 f1 f2 q0 q1 q2]

set_option maxHeartbeats 4000000 in
theorem as_hit (t : Nat) (v0 v1 v2 o0 o1 o2 : Value) (w : World) (hg : HandleE w) (t0 : w.cell? ⟨t, 0, none⟩ = some o0) (t1 : w.cell? ⟨t, 1, none⟩ = some o1) (t2 : w.cell? ⟨t, 2, none⟩ = some o2) (f0 : w.frozen? ⟨t, 0, none⟩ = false) (f1 : w.frozen? ⟨t, 1, none⟩ = false) (f2 : w.frozen? ⟨t, 2, none⟩ = false) (q0 : v0.oneCell' = true) (q1 : v1.oneCell' = true) (q2 : v2.oneCell' = true) :
    Calls Tryz.prog 90 #[.iface 116 (.agg #[v0, v1, v2]), .iface 120 (.pointer (some ⟨t, 0, none⟩))] w fun e w' => e = .returned (.bool true) ∧ w' = (((((((w.alloc (.cells #[.pointer (some ⟨t, 0, none⟩)] 120)).alloc (.cells #[.pointer (some ⟨9, 120, none⟩), .pointer (some ⟨w.heap.size, 0, none⟩), .int .u64 150] 150)).alloc (.cells #[.pointer (some ⟨9, 120, none⟩), .pointer (some ⟨w.heap.size, 0, none⟩), .int .u64 150] 150)).alloc (.cells #[v0, v1, v2] 116)).setCell ⟨t, 0, none⟩ v0).setCell ⟨t, 1, none⟩ v1).setCell ⟨t, 2, none⟩ v2) := by
  have tlt : t < w.heap.size := Rm.cell_lt t0
  have glt : 8 < w.heap.size := Rm.cell_lt hg
  have h1 := @run_callFunc_extern Tryz.prog 127 _ (ReflectliteValue.method (ReflectliteValue.valueError "reflectlite.Value.IsNil" 0) ReflectliteValue.isNil) Tryz.func127 (by kernel_rfl) (by kernel_rfl) (by kernel_rfl) (by kernel_rfl)
  have h2 := @run_callFunc_extern Tryz.prog 144 _ (ReflectliteValue.method (ReflectliteValue.valueError "reflectlite.Value.Elem" 0) ReflectliteValue.elem) Tryz.func144 (by kernel_rfl) (by kernel_rfl) (by kernel_rfl) (by kernel_rfl)
  have h3 := @run_callFunc_extern Tryz.prog 145 _ ReflectliteValue.set Tryz.func145 (by kernel_rfl) (by kernel_rfl) (by kernel_rfl) (by kernel_rfl)
  have a1 := asValueOfP
  have a2 := asType
  have a3 := asMethodKind
  have a4 := asKindP
  have a5 := asKindR
  have a6 := asMethodElem
  have a7 := asMethodImplements
  have a8 := asMethodAssignableTo
  have a9 := asElemT
  have a10 := asImplements
  have a11 := asTypeOf
  have a12 := asAssignable
  have a13 := asValueOfR
  have n1 := asIsNilP ⟨w.heap.size, 0, none⟩ ⟨t, 0, none⟩ ((w.alloc (.cells #[.pointer (some ⟨t, 0, none⟩)] 120)).alloc (.cells #[.pointer (some ⟨9, 120, none⟩), .pointer (some ⟨w.heap.size, 0, none⟩), .int .u64 150] 150)) (by simp)
  have hg2 : ((w.alloc (.cells #[.pointer (some ⟨t, 0, none⟩)] 120)).alloc (.cells #[.pointer (some ⟨9, 120, none⟩), .pointer (some ⟨w.heap.size, 0, none⟩), .int .u64 150] 150)).cell? ⟨8, 0, none⟩ = some (.iface 167 (.agg #[.pointer (some ⟨9, 71, none⟩)])) := by
    rw [World.cell?_alloc_lt _ _ ⟨8, 0, none⟩ (by simp; omega), World.cell?_alloc_lt _ _ ⟨8, 0, none⟩ glt]; exact hg
  have el := asElemP ⟨w.heap.size, 0, none⟩ ⟨t, 0, none⟩ (((w.alloc (.cells #[.pointer (some ⟨t, 0, none⟩)] 120)).alloc (.cells #[.pointer (some ⟨9, 120, none⟩), .pointer (some ⟨w.heap.size, 0, none⟩), .int .u64 150] 150)).alloc (.cells #[.pointer (some ⟨9, 120, none⟩), .pointer (some ⟨w.heap.size, 0, none⟩), .int .u64 150] 150)) (by rw [World.cell?_alloc_lt _ _ ⟨w.heap.size, 0, none⟩ (by simp; omega)]; simp)
  have up : ∀ i : Nat, ((((w.alloc (.cells #[.pointer (some ⟨t, 0, none⟩)] 120)).alloc (.cells #[.pointer (some ⟨9, 120, none⟩), .pointer (some ⟨w.heap.size, 0, none⟩), .int .u64 150] 150)).alloc (.cells #[.pointer (some ⟨9, 120, none⟩), .pointer (some ⟨w.heap.size, 0, none⟩), .int .u64 150] 150)).alloc (.cells #[v0, v1, v2] 116)).cell? ⟨t, i, none⟩ = w.cell? ⟨t, i, none⟩ := fun i => by rw [World.cell?_alloc_lt _ _ ⟨t, i, none⟩ (by simp; omega), World.cell?_alloc_lt _ _ ⟨t, i, none⟩ (by simp; omega), World.cell?_alloc_lt _ _ ⟨t, i, none⟩ (by simp; omega), World.cell?_alloc_lt _ _ ⟨t, i, none⟩ tlt]
  have uf : ∀ i : Nat, ((((w.alloc (.cells #[.pointer (some ⟨t, 0, none⟩)] 120)).alloc (.cells #[.pointer (some ⟨9, 120, none⟩), .pointer (some ⟨w.heap.size, 0, none⟩), .int .u64 150] 150)).alloc (.cells #[.pointer (some ⟨9, 120, none⟩), .pointer (some ⟨w.heap.size, 0, none⟩), .int .u64 150] 150)).alloc (.cells #[v0, v1, v2] 116)).frozen? ⟨t, i, none⟩ = w.frozen? ⟨t, i, none⟩ := fun i => by rw [World.frozen?_alloc_old _ _ ⟨t, i, none⟩ (by simp; omega), World.frozen?_alloc_old _ _ ⟨t, i, none⟩ (by simp; omega), World.frozen?_alloc_old _ _ ⟨t, i, none⟩ (by simp; omega), World.frozen?_alloc_old _ _ ⟨t, i, none⟩ (Nat.ne_of_lt tlt)]
  have st := asSetR t (w.heap.size + 1 + 1 + 1) v0 v1 v2 o0 o1 o2 ((((w.alloc (.cells #[.pointer (some ⟨t, 0, none⟩)] 120)).alloc (.cells #[.pointer (some ⟨9, 120, none⟩), .pointer (some ⟨w.heap.size, 0, none⟩), .int .u64 150] 150)).alloc (.cells #[.pointer (some ⟨9, 120, none⟩), .pointer (some ⟨w.heap.size, 0, none⟩), .int .u64 150] 150)).alloc (.cells #[v0, v1, v2] 116))
    (by rw [World.cell?_alloc_at _ _ _ _ (by simp)]; rfl) (by rw [World.cell?_alloc_at _ _ _ _ (by simp)]; rfl) (by rw [World.cell?_alloc_at _ _ _ _ (by simp)]; rfl)
    ((up 0).trans t0) ((up 1).trans t1) ((up 2).trans t2) ((uf 0).trans f0) ((uf 1).trans f1) ((uf 2).trans f2) q0 q1 q2
  clear up uf hg t0 t1 t2 f0 f1 f2
  go_enter Tryz.func90, Tryz.ntmps90
  go_wp2
  refine wp_loop_rounds 1 ?_
  rw [rounds_succ]
  go_wp2
  go_ret
  exact ⟨rfl, rfl⟩

end Er
end Go.Proofs.YtfjmenhofllchaaGreatDoor

namespace Go.Proofs.YtfjmenhofllchaaGreatDoor
open Go.RowKit
set_option maxRecDepth 100000
set_option linter.unusedVariables false
namespace Rm
open Kn (K okK)
open Bit (bit withB)
open Lc (at' RdK laceB WordsOk)
open Sg (bel belows closedTo orB)

/-- the five errors, and the handle -/
def SenA (W : World) (x : Ad) : Prop := Sen W x ∧ Er.HandleE W
theorem SenA.below {W V : World} {x : Ad} (h : SenA W x) (hb : Below W.heap.size W V) : SenA V x := ⟨h.1.below hb, h.2.below hb⟩
def SensA (W : World) : Prop := ∃ x, SenA W x
theorem SensA.below {W V : World} (h : SensA W) (hb : Below W.heap.size W V) : SensA V := h.elim fun a q => ⟨a, q.below hb⟩

/-- what errors.As leaves, as far as it is asked -/
theorem as_refusal (t : Nat) (k l : Int) (b : Addr) (w V : World) (hg : Er.HandleE w) (ht : t = V.heap.size) (hw : w = V.alloc (.cells #[.int .i64 0, .int .i64 0, .nilIface] 116)) :
    Calls Tryz.prog 90 #[.iface 116 (.agg #[.int .i64 k, .int .i64 l, .iface 189 (.pointer (some b))]), .iface 120 (.pointer (some ⟨t, 0, none⟩))] w fun e w' => e = .returned (.bool true) ∧ Below V.heap.size V w' ∧ w'.cell? ⟨t, 1, none⟩ = some (.int .i64 l) := by
  subst ht hw
  refine (Er.as_hit _ _ _ _ (.int .i64 0) (.int .i64 0) .nilIface _ hg (by simp) (by simp) (by simp) (by simp) (by simp) (by simp) rfl rfl rfl).mono ?_
  rintro e w' ⟨rfl, rfl⟩
  refine ⟨rfl, ?_, ?_⟩
  · have B0 : Below V.heap.size V (V.alloc (.cells #[.int .i64 0, .int .i64 0, .nilIface] 116)) := (Below.refl _ V).alloc (Nat.le_refl _) _
    exact (((((((B0.alloc B0.size _).alloc (by simp; omega) _).alloc (by simp; omega) _).alloc (by simp; omega) _).setCell (p := ⟨V.heap.size, 0, none⟩) (Nat.le_refl _) _).setCell (p := ⟨V.heap.size, 1, none⟩) (Nat.le_refl _) _).setCell (p := ⟨V.heap.size, 2, none⟩) (Nat.le_refl _) _)
  · rw [World.cell?_setCell_other _ _ _ _ (by simp)]
    refine World.cell?_setCell_same _ _ _ (u := .int .i64 0) ?_
    rw [World.cell?_setCell_other _ _ _ _ (by simp), World.cell?_alloc_lt _ _ ⟨V.heap.size, 1, none⟩ (by simp; omega), World.cell?_alloc_lt _ _ ⟨V.heap.size, 1, none⟩ (by simp; omega), World.cell?_alloc_lt _ _ ⟨V.heap.size, 1, none⟩ (by simp; omega), World.cell?_alloc_lt _ _ ⟨V.heap.size, 1, none⟩ (by simp)]
    simp

/-- where it is not loose, it ends as Learns; else it is asked what lacks -/
theorem learn_split {g cap : Nat} {L : List K} {h : Hd} {k : Int} {x : Ad} {w w' : World} {e : Ending} (hok : handOkB L h = true) (hk : H64 h) (q : LearnsPost g cap L h k x (whyB L h k) w e w') : Below w.heap.size w w' ∧
    ((∃ nh E b, e = .returned (.tuple #[.agg #[.slice (some ⟨g, 0, none⟩) L.length cap, .int .i64 h.who, .int .i64 nh, .int .i64 h.kept, .int .i64 h.last], E]) ∧ LearnAns L h k x false nh E b ∧ ∀ W : World, Sen W x → Calls Tryz.prog 83 #[E, .iface 189 (.pointer (some x.loose))] W fun e w' => e = .returned (.bool false) ∧ Below W.heap.size W w') ∨
     (e = .returned (.tuple #[.agg #[.slice (some ⟨g, 0, none⟩) L.length cap, .int .i64 h.who, .int .i64 h.has, .int .i64 h.kept, .int .i64 h.last], .iface 116 (.agg #[.int .i64 k, .int .i64 (lackB L h.has k), .iface 189 (.pointer (some x.loose))])]) ∧
       (ownI L h.who (lackB L h.has k) = 0 → LearnAns L h k x false (bits .or .i64 h.has (lackB L h.has k)) .nilIface true) ∧
       (¬ ownI L h.who (lackB L h.has k) = 0 → LearnAns L h k x false h.has (.iface 116 (.agg #[.int .i64 k, .int .i64 (lackB L h.has k), .iface 189 (.pointer (some x.loose))])) false))) := by
  have hi := hand_is hk hok
  have hb : learnedB L h k false = tookB L h k (whyB L h k) false := by unfold learnedB; rw [hok, Bool.true_and, learn_why hi]
  have hh : learnedH L h k false = if tookB L h k (whyB L h k) false then { h with has := orB h.has ((belows L L.length).getD k.toNat 0) } else h := by unfold learnedH; rw [if_pos hok, learn_why hi]
  have ho := learn_or hi k false
  rw [learn_why hi] at ho
  refine ⟨q.1, ?_⟩
  have q2 := q.2
  generalize whyB L h k = y at hb hh ho q2
  cases y
  · exact .inl ⟨_, _, true, q2, ⟨by rw [hh, ← ho rfl]; rfl, hb, .inl ⟨rfl, rfl⟩⟩, fun W hs => (Er.is_nil _ W).mono fun e w' z => ⟨z.1, z.2 ▸ Below.refl _ _⟩⟩
  · refine .inl ⟨_, _, false, q2, ⟨hh, hb, .inr ⟨rfl, .knot, by simp, _, rfl⟩⟩, fun W hs => ?_⟩
    obtain ⟨ch, th, hl⟩ := hs.r4
    obtain ⟨c, t, hc⟩ := hs.r1
    exact Er.is_other k _ _ _ _ _ _ _ W hs.m1 hc hl
  · refine .inl ⟨_, _, false, q2, ⟨hh, hb, .inr ⟨rfl, .there, by simp, _, rfl⟩⟩, fun W hs => ?_⟩
    obtain ⟨ch, th, hl⟩ := hs.r4
    obtain ⟨c, t, hc⟩ := hs.r2
    exact Er.is_other k _ _ _ _ _ _ _ W hs.m2 hc hl
  · refine .inr ⟨q2, fun e0 => ?_, fun e0 => ?_⟩
    · have ht : tookB L h k .loose false = true := by unfold tookB; rw [e0]; rfl
      exact ⟨by rw [hh, ht, ← ho ht]; rfl, by rw [hb, ht], .inl ⟨rfl, rfl⟩⟩
    · have ht : tookB L h k .loose false = false := by unfold tookB; rw [bne_iff_ne.2 e0]; rfl
      exact ⟨by rw [hh, ht]; rfl, by rw [hb, ht], .inr ⟨rfl, .loose, by simp, _, rfl⟩⟩
  · refine .inl ⟨_, _, false, q2, ⟨hh, hb, .inr ⟨rfl, .own, by simp, _, rfl⟩⟩, fun W hs => ?_⟩
    obtain ⟨ch, th, hl⟩ := hs.r4
    obtain ⟨c, t, hc⟩ := hs.r3
    exact Er.is_other k _ _ _ _ _ _ _ W hs.m3 hc hl

set_option maxHeartbeats 6400000 in
theorem learnsAll (g cap : Nat) (L : List K) (h : Hd) (k : Int) (x : Ad) (w : World) (hlc : laceB L = true) (hok : handOkB L h = true) (hk : H64 h) (hh0 : 0 ≤ h.has) (hh1 : h.has < 1152921504606846976) (hg : g < w.heap.size) (hr : RdK w (some ⟨g, 0, none⟩) L) (hs : SenA w x) :
    Calls Tryz.prog 41 #[.agg #[.slice (some ⟨g, 0, none⟩) L.length cap, .int .i64 h.who, .int .i64 h.has, .int .i64 h.kept, .int .i64 h.last], .int .i64 k] w (LearnEnds g cap L h k x false w) := by
  have h60 := ((Lc.lace_iff L).1 hlc).1
  have P0 : Hid (Below w.heap.size w ((w.alloc (.cells #[.slice (some ⟨g, 0, none⟩) L.length cap, .int .i64 h.who, .int .i64 h.has, .int .i64 h.kept, .int .i64 h.last] 66)).alloc (.cells #[.slice none 0 0, .int .i64 0, .int .i64 0, .int .i64 0, .int .i64 0] 66)) ∧ Ow ((w.alloc (.cells #[.slice (some ⟨g, 0, none⟩) L.length cap, .int .i64 h.who, .int .i64 h.has, .int .i64 h.kept, .int .i64 h.last] 66)).alloc (.cells #[.slice none 0 0, .int .i64 0, .int .i64 0, .int .i64 0, .int .i64 0] 66)) w.heap.size (.slice (some ⟨g, 0, none⟩) L.length cap) (.int .i64 h.who) (.int .i64 h.has) (.int .i64 h.kept) (.int .i64 h.last) ∧ Ow ((w.alloc (.cells #[.slice (some ⟨g, 0, none⟩) L.length cap, .int .i64 h.who, .int .i64 h.has, .int .i64 h.kept, .int .i64 h.last] 66)).alloc (.cells #[.slice none 0 0, .int .i64 0, .int .i64 0, .int .i64 0, .int .i64 0] 66)) (w.heap.size + 1) (.slice none 0 0) (.int .i64 0) (.int .i64 0) (.int .i64 0) (.int .i64 0)) :=
    ⟨((Below.refl _ w).alloc (Nat.le_refl _) _).alloc (by simp) _, (ow_new w _ _ _ _ _ _).below ((Below.refl _ _).alloc (Nat.le_refl _) _), by
      have q := ow_new (w.alloc (.cells #[.slice (some ⟨g, 0, none⟩) L.length cap, .int .i64 h.who, .int .i64 h.has, .int .i64 h.kept, .int .i64 h.last] 66)) (.slice none 0 0) (.int .i64 0) (.int .i64 0) (.int .i64 0) (.int .i64 0) 66
      rw [World.size_alloc] at q
      exact q⟩
  have HR : Hid (RdK w (some ⟨g, 0, none⟩) L) := hr
  have HS : Hid (SenA w x) := hs
  clear hr hs
  go_enter Tryz.func41, Tryz.ntmps41
  go_upto_region 1 with fail
  generalize (w.alloc (.cells #[.slice (some ⟨g, 0, none⟩) L.length cap, .int .i64 h.who, .int .i64 h.has, .int .i64 h.kept, .int .i64 h.last] 66)).alloc (.cells #[.slice none 0 0, .int .i64 0, .int .i64 0, .int .i64 0, .int .i64 0] 66) = V at P0 ⊢
  have HB0 : Hid (Below w.heap.size w V) := P0.out.1
  have HO0 : Hid (Ow V w.heap.size (.slice (some ⟨g, 0, none⟩) L.length cap) (.int .i64 h.who) (.int .i64 h.has) (.int .i64 h.kept) (.int .i64 h.last)) := P0.out.2.1
  have HZ0 : Hid (Ow V (w.heap.size + 1) (.slice none 0 0) (.int .i64 0) (.int .i64 0) (.int .i64 0) (.int .i64 0)) := P0.out.2.2
  clear P0
  obtain ⟨_, x0, x1, x2, x3, x4, _, _, _, _, _⟩ := HO0.out
  have hle := learns g cap L h k x V hlc hh0 hh1 (Nat.lt_of_lt_of_le hg HB0.out.size) (HR.out.below HB0.out) (HS.out.below HB0.out).1
  go_wp2_with fail
  refine hle.mono ?_
  clear hle x0 x1 x2 x3 x4
  intro e w1 hp
  obtain ⟨hb1, hp⟩ := learn_split hok hk hp
  have HB1 : Hid (Below w.heap.size w w1) := HB0.out.trans (hb1.mono HB0.out.size)
  have HO1 : Hid (Ow w1 w.heap.size (.slice (some ⟨g, 0, none⟩) L.length cap) (.int .i64 h.who) (.int .i64 h.has) (.int .i64 h.kept) (.int .i64 h.last)) := HO0.out.below hb1
  have HZ1 : Hid (Ow w1 (w.heap.size + 1) (.slice none 0 0) (.int .i64 0) (.int .i64 0) (.int .i64 0) (.int .i64 0)) := HZ0.out.below hb1
  clear HB0 HO0 HZ0 hb1 hk hok
  have hzb : w.heap.size + 1 < w1.heap.size := HZ1.out.lt
  rcases hp with ⟨nh, E, b, rfl, hans, his⟩ | ⟨rfl, hq0, hq1⟩
  · have HAN : Hid (LearnAns L h k x false nh E b) := hans
    have HIS : Hid (∀ W : World, Sen W x → Calls Tryz.prog 83 #[E, .iface 189 (.pointer (some x.loose))] W fun e w' => e = .returned (.bool false) ∧ Below W.heap.size W w') := his
    have HQ : Hid (Below w.heap.size w (w1.alloc (.cells #[.slice (some ⟨g, 0, none⟩) L.length cap, .int .i64 h.who, .int .i64 nh, .int .i64 h.kept, .int .i64 h.last] 66)) ∧ Ow (w1.alloc (.cells #[.slice (some ⟨g, 0, none⟩) L.length cap, .int .i64 h.who, .int .i64 nh, .int .i64 h.kept, .int .i64 h.last] 66)) w1.heap.size (.slice (some ⟨g, 0, none⟩) L.length cap) (.int .i64 h.who) (.int .i64 nh) (.int .i64 h.kept) (.int .i64 h.last) ∧ Ow (w1.alloc (.cells #[.slice (some ⟨g, 0, none⟩) L.length cap, .int .i64 h.who, .int .i64 nh, .int .i64 h.kept, .int .i64 h.last] 66)) (w.heap.size + 1) (.slice none 0 0) (.int .i64 0) (.int .i64 0) (.int .i64 0) (.int .i64 0)) :=
      ⟨HB1.out.alloc HB1.out.size _, ow_new w1 _ _ _ _ _ _, HZ1.out.below ((Below.refl _ _).alloc (Nat.le_refl _) _)⟩
    clear hans his HO1 HZ1 HB1
    go_upto_region 2 with fail
    generalize w1.alloc (.cells #[.slice (some ⟨g, 0, none⟩) L.length cap, .int .i64 h.who, .int .i64 nh, .int .i64 h.kept, .int .i64 h.last] 66) = V2 at HQ ⊢
    have HB2 : Hid (Below w.heap.size w V2) := HQ.out.1
    have HM2 : Hid (Ow V2 w1.heap.size (.slice (some ⟨g, 0, none⟩) L.length cap) (.int .i64 h.who) (.int .i64 nh) (.int .i64 h.kept) (.int .i64 h.last)) := HQ.out.2.1
    have HZ2 : Hid (Ow V2 (w.heap.size + 1) (.slice none 0 0) (.int .i64 0) (.int .i64 0) (.int .i64 0) (.int .i64 0)) := HQ.out.2.2
    clear HQ
    generalize w1.heap.size = mb at HM2 hzb ⊢
    have HSN : Hid (Sen V2 x) := (HS.out.below HB2.out).1
    have hc4 := HSN.out.c4
    go_upto_region 3 with (go_at_call 83; refine (HIS.out _ HSN.out).mono ?_; rintro e w3 ⟨rfl, hb3⟩)
    have HB3 : Hid (Below w.heap.size w w3) := HB2.out.trans (hb3.mono HB2.out.size)
    have HM3 : Hid (Ow w3 mb (.slice (some ⟨g, 0, none⟩) L.length cap) (.int .i64 h.who) (.int .i64 nh) (.int .i64 h.kept) (.int .i64 h.last)) := HM2.out.below hb3
    have HZ3 : Hid (Ow w3 (w.heap.size + 1) (.slice none 0 0) (.int .i64 0) (.int .i64 0) (.int .i64 0) (.int .i64 0)) := HZ2.out.below hb3
    clear HSN hc4 HB2 HM2 HZ2 hb3 HIS
    obtain ⟨_, x0, x1, x2, x3, x4, _, _, _, _, _⟩ := HM3.out
    obtain ⟨_, z0, z1, z2, z3, z4, f0, f1, f2, f3, f4⟩ := HZ3.out
    obtain ⟨WW, hW, hOW, hBW, hsW, hcW⟩ := HZ3.out.put (.slice (some ⟨g, 0, none⟩) L.length cap) (.int .i64 h.who) (.int .i64 nh) (.int .i64 h.kept) (.int .i64 h.last)
    have HW : Hid (WW = _) := hW
    have HBE : Hid (Below w.heap.size w WW) := hBW _ _ HB3.out (by omega)
    obtain ⟨_, y0, y1, y2, y3, y4, _, _, _, _, _⟩ := hOW
    clear hW hBW hsW hcW
    go_wp2
    rw [← HW.out]
    refine bodyPost_ret (v := .tuple #[.agg #[.slice (some ⟨g, 0, none⟩) L.length cap, .int .i64 h.who, .int .i64 nh, .int .i64 h.kept, .int .i64 h.last], E]) (by simp [results, Tryz.f41, go_sem, y0, y1, y2, y3, y4]) rfl ?_
    exact ⟨HBE.out, nh, E, b, rfl, HAN.out⟩
  · have hmb := met_bd hlc k
    have hlb := Rm.andNot_bd (Sg.metI L k) h.has hmb.1 hmb.2
    have hlok : Base.okB (lackB L h.has k) = true := (Base.okB_iff _).2 hlb
    have HOW : Hid (∀ W : World, RdK W (some ⟨g, 0, none⟩) L → Calls Tryz.prog 88 #[.agg #[.slice (some ⟨g, 0, none⟩) L.length cap, .int .i64 h.who, .int .i64 h.has, .int .i64 h.kept, .int .i64 h.last], .int .i64 (lackB L h.has k)] W fun e w' => e = .returned (.int .i64 (ownI L h.who (lackB L h.has k))) ∧ Below W.heap.size W w') := fun W hW => own g cap L h _ W h60 hlok hW
    have HTK : Hid (∀ W : World, Calls Tryz.prog 89 #[.agg #[.slice (some ⟨g, 0, none⟩) L.length cap, .int .i64 h.who, .int .i64 h.has, .int .i64 h.kept, .int .i64 h.last], .int .i64 (lackB L h.has k)] W fun e w' => e = .returned (.agg #[.slice (some ⟨g, 0, none⟩) L.length cap, .int .i64 h.who, .int .i64 (bits .or .i64 h.has (lackB L h.has k)), .int .i64 h.kept, .int .i64 h.last]) ∧ Below W.heap.size W w') := fun W => taking g L.length cap h _ W
    clear hmb hlb hlok
    generalize lackB L h.has k = lk at HOW HTK hq0 hq1 ⊢
    generalize ownI L h.who lk = ow at HOW hq0 hq1
    have HQ0 : Hid (ow = 0 → LearnAns L h k x false (bits .or .i64 h.has lk) .nilIface true) := hq0
    have HQ1 : Hid (¬ ow = 0 → LearnAns L h k x false h.has (.iface 116 (.agg #[.int .i64 k, .int .i64 lk, .iface 189 (.pointer (some x.loose))])) false) := hq1
    have HQ : Hid (Below w.heap.size w (w1.alloc (.cells #[.slice (some ⟨g, 0, none⟩) L.length cap, .int .i64 h.who, .int .i64 h.has, .int .i64 h.kept, .int .i64 h.last] 66)) ∧ Ow (w1.alloc (.cells #[.slice (some ⟨g, 0, none⟩) L.length cap, .int .i64 h.who, .int .i64 h.has, .int .i64 h.kept, .int .i64 h.last] 66)) w.heap.size (.slice (some ⟨g, 0, none⟩) L.length cap) (.int .i64 h.who) (.int .i64 h.has) (.int .i64 h.kept) (.int .i64 h.last) ∧ Ow (w1.alloc (.cells #[.slice (some ⟨g, 0, none⟩) L.length cap, .int .i64 h.who, .int .i64 h.has, .int .i64 h.kept, .int .i64 h.last] 66)) (w.heap.size + 1) (.slice none 0 0) (.int .i64 0) (.int .i64 0) (.int .i64 0) (.int .i64 0)) :=
      ⟨HB1.out.alloc HB1.out.size _, HO1.out.below ((Below.refl _ _).alloc (Nat.le_refl _) _), HZ1.out.below ((Below.refl _ _).alloc (Nat.le_refl _) _)⟩
    clear hq0 hq1 HO1 HZ1 HB1
    go_upto_region 2 with fail
    generalize w1.alloc (.cells #[.slice (some ⟨g, 0, none⟩) L.length cap, .int .i64 h.who, .int .i64 h.has, .int .i64 h.kept, .int .i64 h.last] 66) = V2 at HQ ⊢
    have HB2 : Hid (Below w.heap.size w V2) := HQ.out.1
    have HO2 : Hid (Ow V2 w.heap.size (.slice (some ⟨g, 0, none⟩) L.length cap) (.int .i64 h.who) (.int .i64 h.has) (.int .i64 h.kept) (.int .i64 h.last)) := HQ.out.2.1
    have HZ2 : Hid (Ow V2 (w.heap.size + 1) (.slice none 0 0) (.int .i64 0) (.int .i64 0) (.int .i64 0) (.int .i64 0)) := HQ.out.2.2
    clear HQ
    generalize w1.heap.size = mb at hzb ⊢
    have hc4 := (HS.out.below HB2.out).1.c4
    go_upto_region 4 with (go_at_call 83; refine (Er.is_wrap _ _ _ _).mono ?_; rintro e w3 ⟨rfl, hb3⟩)
    have HB3 : Hid (Below w.heap.size w w3) := HB2.out.trans (hb3.mono HB2.out.size)
    have HO3 : Hid (Ow w3 w.heap.size (.slice (some ⟨g, 0, none⟩) L.length cap) (.int .i64 h.who) (.int .i64 h.has) (.int .i64 h.kept) (.int .i64 h.last)) := HO2.out.below hb3
    have HZ3 : Hid (Ow w3 (w.heap.size + 1) (.slice none 0 0) (.int .i64 0) (.int .i64 0) (.int .i64 0) (.int .i64 0)) := HZ2.out.below hb3
    clear hc4 HB2 HO2 HZ2 hb3
    have HSA : Hid (SenA w3 x) := HS.out.below HB3.out
    have HAS : Hid (Calls Tryz.prog 90 #[.iface 116 (.agg #[.int .i64 k, .int .i64 lk, .iface 189 (.pointer (some x.loose))]), .iface 120 (.pointer (some ⟨w3.heap.size, 0, none⟩))] (w3.alloc (.cells #[.int .i64 0, .int .i64 0, .nilIface] 116)) fun e w' => e = .returned (.bool true) ∧ Below w3.heap.size w3 w' ∧ w'.cell? ⟨w3.heap.size, 1, none⟩ = some (.int .i64 lk)) := as_refusal _ k lk x.loose _ w3 (HSA.out.2.below ((Below.refl _ _).alloc (Nat.le_refl _) _)) rfl rfl
    go_upto_region 5 with fail
    have hzl : w.heap.size + 1 < w3.heap.size := HZ3.out.lt
    generalize w3.alloc (.cells #[.int .i64 0, .int .i64 0, .nilIface] 116) = V4 at HAS ⊢
    clear HSA
    have HAS2 : Hid (Calls Tryz.prog 90 #[.iface 116 (.agg #[.int .i64 k, .int .i64 lk, .iface 189 (.pointer (some x.loose))]), .iface 120 (.pointer (some ⟨w3.heap.size, 0, none⟩))] V4 fun e w' => e = .returned (.bool true) ∧ Hid (Below w.heap.size w w') ∧ Hid (Ow w' (w.heap.size + 1) (.slice none 0 0) (.int .i64 0) (.int .i64 0) (.int .i64 0) (.int .i64 0)) ∧ Ow w' w.heap.size (.slice (some ⟨g, 0, none⟩) L.length cap) (.int .i64 h.who) (.int .i64 h.has) (.int .i64 h.kept) (.int .i64 h.last) ∧ w'.cell? ⟨w3.heap.size, 1, none⟩ = some (.int .i64 lk) ∧ RdK w' (some ⟨g, 0, none⟩) L) := HAS.out.mono fun e w' q => ⟨q.1, HB3.out.trans (q.2.1.mono HB3.out.size), HZ3.out.below q.2.1, HO3.out.below q.2.1, q.2.2, (HR.out.below HB3.out).below q.2.1⟩
    clear HAS HB3 HO3 HZ3 HR HS
    generalize w3.heap.size = lb at HAS2 hzl ⊢
    have HFO : Hid (∀ X Y : World, Below X.heap.size X Y → Ow X w.heap.size (.slice (some ⟨g, 0, none⟩) L.length cap) (.int .i64 h.who) (.int .i64 h.has) (.int .i64 h.kept) (.int .i64 h.last) → X.cell? ⟨lb, 1, none⟩ = some (.int .i64 lk) → Ow Y w.heap.size (.slice (some ⟨g, 0, none⟩) L.length cap) (.int .i64 h.who) (.int .i64 h.has) (.int .i64 h.kept) (.int .i64 h.last) ∧ Y.cell? ⟨lb, 1, none⟩ = some (.int .i64 lk)) := fun X Y hb o c => ⟨o.below hb, (hb.cell (p := ⟨lb, 1, none⟩) (cell_lt c)).trans c⟩
    by_cases how : ow = 0
    · go_upto_region 6 with (first
        | (go_at_call 90; refine HAS2.out.mono ?_; rintro e w5 ⟨rfl, HB5, HZ5, ho5, hl5, hr5⟩; have HO5 : Hid (Ow w5 w.heap.size (.slice (some ⟨g, 0, none⟩) L.length cap) (.int .i64 h.who) (.int .i64 h.has) (.int .i64 h.kept) (.int .i64 h.last)) := ho5; obtain ⟨_, x0, x1, x2, x3, x4, _, _, _, _, _⟩ := ho5)
        | (go_at_call 88; refine (HOW.out _ hr5).mono ?_; rintro e w6 ⟨rfl, hb6⟩))
      have HB6 : Hid (Below w.heap.size w w6) := HB5.out.trans (hb6.mono HB5.out.size)
      have HO6 : Hid (Ow w6 w.heap.size (.slice (some ⟨g, 0, none⟩) L.length cap) (.int .i64 h.who) (.int .i64 h.has) (.int .i64 h.kept) (.int .i64 h.last)) := HO5.out.below hb6
      have HZ6 : Hid (Ow w6 (w.heap.size + 1) (.slice none 0 0) (.int .i64 0) (.int .i64 0) (.int .i64 0) (.int .i64 0)) := HZ5.out.below hb6
      have hl6 : w6.cell? ⟨lb, 1, none⟩ = some (.int .i64 lk) := (hb6.cell (p := ⟨lb, 1, none⟩) (cell_lt hl5)).trans hl5
      clear x0 x1 x2 x3 x4 HB5 HO5 HZ5 hl5 hr5 hb6 HFO
      obtain ⟨_, x0, x1, x2, x3, x4, _, _, _, _, _⟩ := HO6.out
      have HFZ : Hid (∀ X : World, Below w6.heap.size w6 X → Below w.heap.size w X ∧ Ow X (w.heap.size + 1) (.slice none 0 0) (.int .i64 0) (.int .i64 0) (.int .i64 0) (.int .i64 0)) := fun X hX => ⟨HB6.out.trans (hX.mono HB6.out.size), HZ6.out.below hX⟩
      clear HB6 HO6 HZ6
      go_wp2_with fail
      refine (HTK.out _).mono ?_
      rintro e w7 ⟨rfl, hb7⟩
      have HB7 : Hid (Below w.heap.size w w7) := (HFZ.out w7 hb7).1
      have HZ7 : Hid (Ow w7 (w.heap.size + 1) (.slice none 0 0) (.int .i64 0) (.int .i64 0) (.int .i64 0) (.int .i64 0)) := (HFZ.out w7 hb7).2
      clear x0 x1 x2 x3 x4 hl6 hb7 HFZ
      obtain ⟨_, z0, z1, z2, z3, z4, f0, f1, f2, f3, f4⟩ := HZ7.out
      obtain ⟨WW, hW, hOW, hBW, hsW, hcW⟩ := HZ7.out.put (.slice (some ⟨g, 0, none⟩) L.length cap) (.int .i64 h.who) (.int .i64 (bits .or .i64 h.has lk)) (.int .i64 h.kept) (.int .i64 h.last)
      have HW : Hid (WW = _) := hW
      have HBE : Hid (Below w.heap.size w WW) := hBW _ _ HB7.out (by omega)
      obtain ⟨_, y0, y1, y2, y3, y4, _, _, _, _, _⟩ := hOW
      clear hW hBW hsW hcW
      go_wp2
      rw [← HW.out]
      refine bodyPost_ret (v := .tuple #[.agg #[.slice (some ⟨g, 0, none⟩) L.length cap, .int .i64 h.who, .int .i64 (bits .or .i64 h.has lk), .int .i64 h.kept, .int .i64 h.last], .nilIface]) (by simp [results, Tryz.f41, go_sem, y0, y1, y2, y3, y4]) rfl ?_
      exact ⟨HBE.out, _, _, true, rfl, HQ0.out how⟩
    · go_upto_region 7 with (first
        | (go_at_call 90; refine HAS2.out.mono ?_; rintro e w5 ⟨rfl, HB5, HZ5, ho5, hl5, hr5⟩; have HO5 : Hid (Ow w5 w.heap.size (.slice (some ⟨g, 0, none⟩) L.length cap) (.int .i64 h.who) (.int .i64 h.has) (.int .i64 h.kept) (.int .i64 h.last)) := ho5; obtain ⟨_, x0, x1, x2, x3, x4, _, _, _, _, _⟩ := ho5)
        | (go_at_call 88; refine (HOW.out _ hr5).mono ?_; rintro e w6 ⟨rfl, hb6⟩))
      have HB6 : Hid (Below w.heap.size w w6) := HB5.out.trans (hb6.mono HB5.out.size)
      have HO6 : Hid (Ow w6 w.heap.size (.slice (some ⟨g, 0, none⟩) L.length cap) (.int .i64 h.who) (.int .i64 h.has) (.int .i64 h.kept) (.int .i64 h.last)) := HO5.out.below hb6
      have HZ6 : Hid (Ow w6 (w.heap.size + 1) (.slice none 0 0) (.int .i64 0) (.int .i64 0) (.int .i64 0) (.int .i64 0)) := HZ5.out.below hb6
      clear x0 x1 x2 x3 x4 HB5 HO5 HZ5 hl5 hr5 hb6 HFO
      obtain ⟨_, x0, x1, x2, x3, x4, _, _, _, _, _⟩ := HO6.out
      obtain ⟨_, z0, z1, z2, z3, z4, f0, f1, f2, f3, f4⟩ := HZ6.out
      obtain ⟨WW, hW, hOW, hBW, hsW, hcW⟩ := HZ6.out.put (.slice (some ⟨g, 0, none⟩) L.length cap) (.int .i64 h.who) (.int .i64 h.has) (.int .i64 h.kept) (.int .i64 h.last)
      have HW : Hid (WW = _) := hW
      have HBE : Hid (Below w.heap.size w WW) := hBW _ _ HB6.out (by omega)
      obtain ⟨_, y0, y1, y2, y3, y4, _, _, _, _, _⟩ := hOW
      clear hW hBW hsW hcW
      go_wp2
      rw [← HW.out]
      refine bodyPost_ret (v := .tuple #[.agg #[.slice (some ⟨g, 0, none⟩) L.length cap, .int .i64 h.who, .int .i64 h.has, .int .i64 h.kept, .int .i64 h.last], .iface 116 (.agg #[.int .i64 k, .int .i64 lk, .iface 189 (.pointer (some x.loose))])]) (by simp [results, Tryz.f41, go_sem, y0, y1, y2, y3, y4]) rfl ?_
      exact ⟨HBE.out, _, _, false, rfl, HQ1.out how⟩


set_option maxHeartbeats 1600000 in
theorem implLearnsAll (g off cap : Nat) (L : List K) (h : Hd) (k : Int) (x : Ad) (w : World) (hlen : L.length ≤ 1099511627776) (hw : WordsOk L) (hk : H64 h) (hr : RdK w (some ⟨g, off, none⟩) L) (hn : SenA w x) :
    Calls Tryz.prog 10 #[.slice (some ⟨g, off, none⟩) L.length cap, .agg #[.int .i64 h.who, .int .i64 h.has, .int .i64 h.kept, .int .i64 h.last], .int .i64 k] w fun e w' => e = .returned (.tuple #[.agg #[.int .i64 (learnedH L h k false).who, .int .i64 (learnedH L h k false).has, .int .i64 (learnedH L h k false).kept, .int .i64 (learnedH L h k false).last], .bool (learnedB L h k false)]) ∧ Below w.heap.size w w' := by
  have P0 : Hid (HzO w ((w.alloc (.cells #[.int .i64 h.who, .int .i64 h.has, .int .i64 h.kept, .int .i64 h.last] 26)).alloc (.cells #[.int .i64 0, .int .i64 0, .int .i64 0, .int .i64 0] 26)) h ⟨0, 0, 0, 0⟩) := hzo_new w h _
  go_enter Tryz.func10, Tryz.ntmps10
  go_upto_region 1 with fail
  generalize (w.alloc (.cells #[.int .i64 h.who, .int .i64 h.has, .int .i64 h.kept, .int .i64 h.last] 26)).alloc (.cells #[.int .i64 0, .int .i64 0, .int .i64 0, .int .i64 0] 26) = V at P0 ⊢
  obtain ⟨a0, a1, a2, a3⟩ := cellsH P0.out.hh
  have ho := taught 41 (enters_of Tryz.func41 (by kernel_rfl) rfl) false (fun W => SenA W x) g off cap L h k x V (fun q b => q.below b) (fun q => q.1) hlen hw hk (hr.below P0.out.bel) (hn.below P0.out.bel) (fun hok g1 V1 hg hr1 hs => by
    have hpt := hok
    unfold handOkB at hpt
    rw [Bool.and_eq_true] at hpt
    have hbd := hok_parts hk hpt.1 hpt.2
    exact learnsAll g1 L.length L h k x V1 hpt.1 hok hk hbd.1 hbd.2.1 hg hr1 hs)
  clear hr hn
  generalize hxe : learnedH L h k false = hx at ho
  generalize hbe : learnedB L h k false = bx at ho
  have HXE : Hid (learnedH L h k false = hx ∧ learnedB L h k false = bx) := ⟨hxe, hbe⟩
  clear hxe hbe
  go_wp2_with fail
  refine ho.mono ?_
  clear ho a0 a1 a2 a3
  rintro e w1 ⟨rfl, hb1⟩
  have P1 : Hid (HzO w w1 h ⟨0, 0, 0, 0⟩) := P0.out.below hb1
  obtain ⟨W, hW, b0, b1, b2, b3, hB⟩ := P1.out.put hx
  have HW : Hid (W = _) := hW
  obtain ⟨z0, z1, z2, z3⟩ := cellsH P1.out.zz
  have f0 := P1.out.zz.f0
  have f1 := P1.out.zz.f1
  have f2 := P1.out.zz.f2
  have f3 := P1.out.zz.f3
  simp only [Nat.zero_add] at f1 f2 f3
  clear hW P0 hb1
  go_wp2
  rw [← HW.out]
  refine bodyPost_ret (v := .tuple #[.agg #[.int .i64 hx.who, .int .i64 hx.has, .int .i64 hx.kept, .int .i64 hx.last], .bool bx]) (by simp [results, Tryz.f10, go_sem, b0, b1, b2, b3]) rfl ?_
  exact ⟨by rw [HXE.out.1, HXE.out.2], hB⟩

end Rm
end Go.Proofs.YtfjmenhofllchaaGreatDoor
