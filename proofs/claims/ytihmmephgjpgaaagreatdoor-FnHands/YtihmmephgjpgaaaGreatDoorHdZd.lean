/-
  FnHands answers true at every code: a hand's own lace stays closed, what it keeps is of what it has, and what it forgot it may learn again; no condition but that the listed error is laid as its initialiser lays it.
  What the program's own functions on a hand answer: which of a set are its own, the last one of what it keeps, whether it is right; for a lace in memory of the program's own.
  What the program's owner answers: whether it is right, just where the model's hand is.
  Small functions of the program's owner.
  What the program's asking for an owner answers, and HandOk, Keeps and Forgets: as the model's; the variable errNoHand holds an error of errors.New's make.
  What the program's HandOk, Keeps and Forgets answer: as the model's; the variable errNoHand holds an error of errors.New's make.
  What the program's NewHand answers: as the model's.
  FnHands, over what the program's Keeps, Forgets, NewHand and HandOk must answer: what a hand keeps is of what it has, and what it forgot it may learn again.
  The drawing of a room keeps its word.
  The drawing of a room keeps its word, with its coins.
  From a row's condition on the listed errors to what the walks ask: the variable errNoHand holds an error of errors.New's make; and a row's wrap that hands on the condition and the world's shape.
-/
import Derived.Test.YtihmmephgjpgaaaGreatDoorHdZb
import Derived.Test.YtihmmephgjpgaaaGreatDoorHdZa
import Derived.Test.YtihmmephgjpgaaaGreatDoorFam
import Derived.Test.YtihmmephgjpgaaaGreatDoorKnotI
import Derived.ChangeKeysEq
import Derived.Test.YtihmmephgjpgaaaGreatDoorRoomXm
import Derived.Test.YtihmmephgjpgaaaGreatDoorRows
import Derived.LaidMore
import Derived.HandedShaped
import Derived.Stop.LaidTwo
import Derived.ProofKit
import Derived.WalkSmall
import Derived.WalkKit
import Derived.OpenShut
import Derived.ChangeOld
import Derived.Below
import Derived.Stop.Joined
import Derived.SevenTiedAt
import Derived.Test.YtihmmephgjpgaaaGreatDoorCards
import Derived.Test.YtihmmephgjpgaaaGreatDoorTie
namespace Go.Proofs.YtihmmephgjpgaaaGreatDoor
open Go.RowKit
set_option maxRecDepth 100000
set_option linter.unusedVariables false
namespace Lc
open Kn (K okK)
open Bit (bit withB)

set_option maxHeartbeats 1600000 in
theorem amongOwn (g off cap : Nat) (L : List K) (s : Int) (kb : Nat) (r : Int) (w : World) (hL : L.length ≤ 60) (hs : Base.okB s = true) (hr : RdK w (some ⟨g, off, none⟩) L) (hkb : kb < w.heap.size) (hk : w.cell? ⟨kb, 1, none⟩ = some (.int .i64 r)) :
    Calls Tryz.prog 87 #[.slice (some ⟨g, off, none⟩) L.length cap, .int .i64 s, .func (.func 88) #[] #[.pointer (some ⟨kb, 0, none⟩)]] w fun e w' =>
      e = .returned (.int .i64 (amongI (fun y => decide (y.hand = r)) L s L.length)) ∧ Below w.heap.size w w' := by
  go_enter Tryz.func87, Tryz.ntmps87
  go_wp2
  go_loopw [7, 12] (fun o i wr => ∃ j : Nat, j ≤ L.length ∧ i = .int .i64 j ∧ o = .int .i64 (amongI (fun y => decide (y.hand = r)) L s j) ∧ Hid (Below w.heap.size w wr)) (fun _ i _ => L.length - (intOf i).toNat)
  case atStart => exact ⟨0, by omega, rfl, rfl, Below.refl _ _⟩
  case round =>
    obtain ⟨j, hj, rfl, rfl, HB⟩ := hrel
    by_cases hlt : j < L.length
    · obtain ⟨hg, hc⟩ := hr.on j hlt
      obtain ⟨c0, c1, c2, c3⟩ := hc.below HB.out hg
      have HO : Hid (Base.okB s = true) := hs
      have hin : Base.inB (j : Int) = true := (Base.inB_iff _).2 ⟨by omega, by omega⟩
      have HA : Hid (amongI (fun y => decide (y.hand = r)) L s (j + 1) = if bit s j && (fun y => decide (y.hand = r)) (at' L j) then withB (amongI (fun y => decide (y.hand = r)) L s j) j else amongI (fun y => decide (y.hand = r)) L s j) := rfl
      have hbd := among_bd (fun y => decide (y.hand = r)) L s j (by omega)
      have HW : Hid (Base.withI (amongI (fun y => decide (y.hand = r)) L s j) (j : Int) = withB (amongI (fun y => decide (y.hand = r)) L s j) j) := by
        show _ = _
        unfold Base.withI
        rw [(Base.okB_iff _).2 hbd, hin]; simp
      have HN : Hid (Below w.heap.size w (wr.alloc (.cells #[.int .i64 (at' L j).hand, .int .i64 (at' L j).round, .int .i64 (at' L j).frm, .string (at' L j).word] 103))) := HB.out.alloc HB.out.size _
      clear hbd
      generalize amongI (fun y => decide (y.hand = r)) L s j = x at HA HW ⊢
      cases hb : bit s j
      · have HH : Hid ((Base.okB s && (Base.inB (j : Int) && bit s j)) = false) := by show _ = _; simp [hb]
        have HD : Hid (amongI (fun y => decide (y.hand = r)) L s (j + 1) = x) := by show _ = _; rw [HA.out, hb]; simp
        clear hb HA HW hin
        go_wp2_with (go_at_call 62; refine (Base.has _ _ _).mono ?_; rintro e w' ⟨rfl, rfl⟩; rw [Int.toNat_natCast, HH.out])
        go_roundw
        case rel => exact ⟨j + 1, by omega, by go_num, by rw [HD.out], HN⟩
        case measure => simp [intOf]; omega
      · have HH : Hid ((Base.okB s && (Base.inB (j : Int) && bit s j)) = true) := by show _ = _; simp [hb, hin, HO.out]
        have d1 := (HB.out.cell (p := ⟨kb, 1, none⟩) hkb).trans hk
        have hkb2 : kb < wr.heap.size := Nat.lt_of_lt_of_le hkb HB.out.size
        have HM : Hid (∀ o : Obj, Below w.heap.size w ((wr.alloc (.cells #[.int .i64 (at' L j).hand, .int .i64 (at' L j).round, .int .i64 (at' L j).frm, .string (at' L j).word] 103)).alloc o)) := fun o => HN.out.alloc HN.out.size o
        by_cases hq : (at' L j).hand = r
        · have HD : Hid (amongI (fun y => decide (y.hand = r)) L s (j + 1) = withB x j) := by show _ = _; rw [HA.out, hb]; simp [hq]
          have hq1 : ((at' L j).hand == r) = true := by simpa using hq
          clear hq
          clear hb HA hin HN
          go_wp2_with (first | (go_at_call 62; refine (Base.has _ _ _).mono ?_; rintro e w' ⟨rfl, rfl⟩; rw [Int.toNat_natCast, HH.out]) | (go_at_call 63; refine (Base.withM _ _ _).mono ?_; rintro e w' ⟨rfl, rfl⟩; rw [HW.out]) | go_in)
          go_roundw
          case rel => exact ⟨j + 1, by omega, by go_num, by rw [HD.out], HM.out _⟩
          case measure => simp [intOf]; omega
        · have HD : Hid (amongI (fun y => decide (y.hand = r)) L s (j + 1) = x) := by show _ = _; rw [HA.out, hb]; simp [hq]
          have hq1 : ((at' L j).hand == r) = false := by simpa using hq
          clear hq
          clear hb HA hin HN
          go_wp2_with (first | (go_at_call 62; refine (Base.has _ _ _).mono ?_; rintro e w' ⟨rfl, rfl⟩; rw [Int.toNat_natCast, HH.out]) | go_in)
          go_roundw
          case rel => exact ⟨j + 1, by omega, by go_num, by rw [HD.out], HM.out _⟩
          case measure => simp [intOf]; omega
    · obtain rfl : j = L.length := by omega
      go_wp2
      go_ret
      exact ⟨rfl, HB.out⟩

end Lc
namespace Rm
open Kn (K okK)
open Bit (bit withB)
open Lc (at' RdK laceB WordsOk)
open Sg (bel belows closedTo orB)

/-- those of a set that are a hand's own -/
def ownI (L : List K) (who s : Int) : Int := Lc.amongI (fun y => decide (y.hand = who)) L s L.length
theorem own_bd (L : List K) (who s : Int) (hL : L.length ≤ 60) : 0 ≤ ownI L who s ∧ ownI L who s < 1152921504606846976 := Lc.among_bd _ _ _ _ hL
theorem bit_own (L : List K) (who s : Int) (hL : L.length ≤ 60) (i : Nat) : bit (ownI L who s) i = (decide (i < L.length) && (bit s i && decide ((at' L i).hand = who))) := Lc.bit_among _ _ _ _ hL i
theorem own_div (L : List K) (who s : Int) (hL : L.length ≤ 60) : ownI L who s / 2 ^ L.length = 0 :=
  Lc.div_of_bits _ _ (own_bd L who s hL).1 fun i hi => by rw [bit_own _ _ _ hL, decide_eq_false (by omega)]; rfl

set_option maxHeartbeats 400000 in
theorem own (g cap : Nat) (L : List K) (h : Hd) (s : Int) (w : World) (hL : L.length ≤ 60) (hs : Base.okB s = true) (hr : RdK w (some ⟨g, 0, none⟩) L) :
    Calls Tryz.prog 64 #[.agg #[.slice (some ⟨g, 0, none⟩) L.length cap, .int .i64 h.who, .int .i64 h.has, .int .i64 h.kept, .int .i64 h.last], .int .i64 s] w fun e w' => e = .returned (.int .i64 (ownI L h.who s)) ∧ Below w.heap.size w w' := by
  have B0 : Below w.heap.size w (w.alloc (.cells #[.slice (some ⟨g, 0, none⟩) L.length cap, .int .i64 h.who, .int .i64 h.has, .int .i64 h.kept, .int .i64 h.last] 50)) := (Below.refl _ _).alloc (Nat.le_refl _) _
  go_enter Tryz.func64, Tryz.ntmps64
  go_wp2_with fail
  refine (Lc.amongOwn g 0 cap L s w.heap.size h.who _ hL hs (hr.below B0) (by simp) (by simp)).mono ?_
  rintro e w1 ⟨rfl, hb1⟩
  have B1 := B0.trans (hb1.mono (by simp))
  clear hb1 B0
  go_wp2
  go_ret
  exact ⟨rfl, B1⟩

/-- one more is looked at: the last one, and its round -/
def lastP (L : List K) (p : Int × Int) (i : Int) : Int × Int := if p.2 < (at' L i.toNat).round then (i, (at' L i.toNat).round) else p
def lastF (L : List K) (l : List Int) : Int × Int := l.foldl (lastP L) (-1, -1)
theorem lastF_snoc (L : List K) (l : List Int) (i : Int) : lastF L (l ++ [i]) = lastP L (lastF L l) i := by unfold lastF; simp

theorem lastF_to (L : List K) (hlc : laceB L = true) (who s : Int) : ∀ n, n ≤ L.length → lastF L (Bit.memTo (ownI L who s) n) = (lastTo L who s n, if lastTo L who s n < 0 then -1 else (at' L (lastTo L who s n).toNat).round) := by
  have h60 := ((Lc.lace_iff L).1 hlc).1
  intro n
  induction n with
  | zero => intro _; rfl
  | succ n ih =>
    intro hn
    have ih := ih (by omega)
    have hst : lastTo L who s (n + 1) = if bit s n && (decide ((at' L n).hand = who) && (decide (lastTo L who s n < 0) || decide ((at' L (lastTo L who s n).toNat).round < (at' L n).round))) then (n : Int) else lastTo L who s n := rfl
    have hr0 : 0 ≤ (at' L n).round := (Lc.ok_round (Lc.can_ok (((Lc.lace_iff L).1 hlc).2 n (by omega)))).1
    rw [Bit.memTo_succ, bit_own _ _ _ h60, decide_eq_true (show n < L.length by omega), Bool.true_and]
    have hbd := lastTo_bd L who s n
    generalize hx : lastTo L who s n = x at *
    cases hb : bit s n && decide ((at' L n).hand = who)
    · have hf : lastTo L who s (n + 1) = x := by
        rw [hst, ← Bool.and_assoc, hb]; simp
      rw [hf]; simpa using ih
    · rw [if_pos rfl, lastF_snoc, ih]
      unfold lastP
      rw [hst, ← Bool.and_assoc, hb, Bool.true_and]
      simp only [Int.toNat_natCast]
      by_cases hneg : x < 0
      · rw [if_pos hneg, if_pos (by omega), decide_eq_true hneg]; simp; omega
      · rw [if_neg hneg, decide_eq_false hneg, Bool.false_or]
        by_cases hq : (at' L x.toNat).round < (at' L n).round
        · rw [if_pos hq, decide_eq_true hq]; simp; omega
        · rw [if_neg hq, decide_eq_false hq]; simp [hneg]

theorem lastF_all (L : List K) (hlc : laceB L = true) (who s : Int) : (lastF L (Bit.memTo (ownI L who s) 60)).1 = lastTo L who s L.length := by
  have h60 := ((Lc.lace_iff L).1 hlc).1
  have e : Bit.memTo (ownI L who s) 60 = Bit.memTo (ownI L who s) L.length := by
    have := Bit.memTo_up (ownI L who s) L.length (60 - L.length) (own_div L who s h60)
    rw [show L.length + (60 - L.length) = 60 by omega] at this
    exact this
  rw [e, lastF_to L hlc who s _ (Nat.le_refl _)]

/-- an owner lies there -/
structure OAt (w : World) (b g cap : Nat) (n : Nat) (h : Hd) : Prop where
  lt : b < w.heap.size
  c0 : w.cell? ⟨b, 0, none⟩ = some (.slice (some ⟨g, 0, none⟩) n cap)
  c1 : w.cell? ⟨b, 1, none⟩ = some (.int .i64 h.who)
  c2 : w.cell? ⟨b, 2, none⟩ = some (.int .i64 h.has)
  c3 : w.cell? ⟨b, 3, none⟩ = some (.int .i64 h.kept)
  c4 : w.cell? ⟨b, 4, none⟩ = some (.int .i64 h.last)
theorem OAt.below {w W : World} {b g cap n : Nat} {h : Hd} (x : OAt w b g cap n h) (hb : Below w.heap.size w W) : OAt W b g cap n h :=
  ⟨Nat.lt_of_lt_of_le x.lt hb.size, (hb.cell (p := ⟨b, 0, none⟩) x.lt).trans x.c0, (hb.cell (p := ⟨b, 1, none⟩) x.lt).trans x.c1, (hb.cell (p := ⟨b, 2, none⟩) x.lt).trans x.c2, (hb.cell (p := ⟨b, 3, none⟩) x.lt).trans x.c3, (hb.cell (p := ⟨b, 4, none⟩) x.lt).trans x.c4⟩
theorem oat_new (w : World) (g cap n : Nat) (h : Hd) (t : TypeId) : OAt (w.alloc (.cells #[.slice (some ⟨g, 0, none⟩) n cap, .int .i64 h.who, .int .i64 h.has, .int .i64 h.kept, .int .i64 h.last] t)) w.heap.size g cap n h := ⟨by simp, by simp, by simp, by simp, by simp, by simp⟩

set_option maxHeartbeats 1600000 in
theorem lastOwn (g cap : Nat) (L : List K) (h : Hd) (w : World) (hlc : laceB L = true) (hs : Base.okB h.kept = true) (hr : RdK w (some ⟨g, 0, none⟩) L) :
    Calls Tryz.prog 71 #[.agg #[.slice (some ⟨g, 0, none⟩) L.length cap, .int .i64 h.who, .int .i64 h.has, .int .i64 h.kept, .int .i64 h.last]] w fun e w' => e = .returned (.int .i64 (lastTo L h.who h.kept L.length)) ∧ Below w.heap.size w w' := by
  have h60 := ((Lc.lace_iff L).1 hlc).1
  have P0 : Hid (Below w.heap.size w (w.alloc (.cells #[.slice (some ⟨g, 0, none⟩) L.length cap, .int .i64 h.who, .int .i64 h.has, .int .i64 h.kept, .int .i64 h.last] 50)) ∧ OAt (w.alloc (.cells #[.slice (some ⟨g, 0, none⟩) L.length cap, .int .i64 h.who, .int .i64 h.has, .int .i64 h.kept, .int .i64 h.last] 50)) w.heap.size g cap L.length h) := ⟨(Below.refl _ _).alloc (Nat.le_refl _) _, oat_new w g cap L.length h _⟩
  have HT : Hid ((lastF L (Bit.memTo (ownI L h.who h.kept) 60)).1 = lastTo L h.who h.kept L.length) := lastF_all L hlc h.who h.kept
  have hob := own_bd L h.who h.kept h60
  have hmem : Memb.memI (ownI L h.who h.kept) = Bit.memTo (ownI L h.who h.kept) 60 := by unfold Memb.memI; rw [(Base.okB_iff _).2 hob]; rfl
  have hin := Lc.mem_in L (ownI L h.who h.kept) hob.1 (own_div L h.who h.kept h60)
  go_enter Tryz.func71, Tryz.ntmps71
  go_upto_region 2 with fail
  generalize w.alloc (.cells #[.slice (some ⟨g, 0, none⟩) L.length cap, .int .i64 h.who, .int .i64 h.has, .int .i64 h.kept, .int .i64 h.last] 50) = V at P0 ⊢
  have HB0 : Hid (Below w.heap.size w V) := P0.out.1
  have HO0 : Hid (OAt V w.heap.size g cap L.length h) := P0.out.2
  have hr0 := hr.below P0.out.1
  obtain ⟨ol, o0, o1, o2, o3, o4⟩ := P0.out.2
  clear P0 hr
  generalize hbe : w.heap.size = hb at HB0 HO0 ol o0 o1 o2 o3 o4 ⊢
  have HBE : Hid (w.heap.size = hb) := hbe
  have hbv : hb ≤ V.heap.size := by have := HB0.out.size; omega
  clear hbe
  go_wp2_with fail
  refine (own g cap L h h.kept _ h60 hs hr0).mono ?_
  rintro e w1 ⟨rfl, hb1⟩
  go_wp2_with fail
  refine (Memb.picked _ _).mono ?_
  rintro e w2 ⟨ao, ca, rfl, hown, hb2⟩
  rw [hmem] at hown ⊢
  have hr2 := (hr0.below hb1).below hb2
  obtain ⟨pl, p0, _, _, _, _⟩ := (HO0.out.below hb1).below hb2
  have HB2 : Hid (Below hb w w2) := (HB0.out.trans (hb1.mono hbv)).trans (hb2.mono (Nat.le_trans hbv hb1.size))
  have hrd := Lst.own_rd hown
  have hbl : ∀ c, ao = some ⟨c, 0, none⟩ → c < w2.heap.size := fun c e => by subst e; exact (World.ownsRow.lt hown c rfl).2
  have hle : (Bit.memTo (ownI L h.who h.kept) 60).length ≤ 60 := Bit.memTo_le _ 60
  have HI : Hid (∀ i ∈ Bit.memTo (ownI L h.who h.kept) 60, 0 ≤ i ∧ i < (L.length : Int)) := hin
  clear hown hmem hin hob hb1 hb2 hr0 HO0 HB0 hbv o0 o1 o2 o3 o4 ol
  generalize Bit.memTo (ownI L h.who h.kept) 60 = l at HT hrd hle HI ⊢
  go_wp2
  go_loopw [3, 4, 14] (fun a b i wr => ∃ j : Nat, j ≤ l.length ∧ i = .int .i64 j ∧ a = .int .i64 (lastF L (l.take j)).1 ∧ b = .int .i64 (lastF L (l.take j)).2 ∧ Hid (Below w2.heap.size w2 wr)) (fun _ _ i _ => l.length - (intOf i).toNat)
  case atStart => exact ⟨0, by omega, rfl, rfl, rfl, Below.refl _ _⟩
  case round =>
    obtain ⟨j, hj, rfl, rfl, rfl, HW⟩ := hrel
    by_cases hlt : j < l.length
    · rcases hrd with hrd | ⟨b, rfl, hcell⟩
      · rw [hrd] at hlt; simp at hlt
      have cj := (HW.out.cell (p := ⟨b, j, none⟩) (hbl b rfl)).trans (hcell j hlt)
      have hx := HI.out (l.getD j 0) (by simp [List.getD, List.getElem?_eq_getElem hlt])
      have HS : Hid (lastF L (l.take (j + 1)) = lastP L (lastF L (l.take j)) (l.getD j 0)) := by
        show _ = _
        rw [Lc.take_snocI l j hlt, lastF_snoc]
      generalize l.getD j 0 = x at cj hx HS
      obtain ⟨m, rfl⟩ := Int.eq_ofNat_of_zero_le hx.1
      have hm : m < L.length := by omega
      obtain ⟨hg2, _, c1, _, _⟩ := (hr2.below HW.out).on m hm
      rw [Nat.zero_add] at c1
      have p0' := (HW.out.cell (p := ⟨hb, 0, none⟩) pl).trans p0
      have pl' : hb < wr.heap.size := Nat.lt_of_lt_of_le pl HW.out.size
      clear p0
      clear hcell
      by_cases hq : (lastF L (l.take j)).2 < (at' L m).round
      · have HD : Hid (lastF L (l.take (j + 1)) = ((m : Int), (at' L m).round)) := by show _ = _; rw [HS.out]; unfold lastP; rw [Int.toNat_natCast, if_pos hq]
        generalize lastF L (l.take j) = pp at hq HS ⊢
        generalize (at' L m).round = rr at hq HD HS c1
        clear HS
        go_wp2
        go_region
        all_goals go_wp2
        all_goals go_round
        all_goals first | (refine ⟨j + 1, by omega, by go_num, by rw [HD.out], by rw [HD.out], ?_⟩; first | exact HW.out.drew | exact HW.out) | (simp [intOf]; omega)
      · have HD : Hid (lastF L (l.take (j + 1)) = lastF L (l.take j)) := by show _ = _; rw [HS.out]; unfold lastP; rw [Int.toNat_natCast, if_neg hq]
        generalize lastF L (l.take j) = pp at hq HS HD ⊢
        generalize (at' L m).round = rr at hq c1 HS
        clear HS
        go_wp2
        go_round
        all_goals first | (refine ⟨j + 1, by omega, by go_num, by rw [HD.out], by rw [HD.out], ?_⟩; first | exact HW.out.drew | exact HW.out) | (simp [intOf]; omega)
    · obtain rfl : j = l.length := by omega
      have e : l.take l.length = l := List.take_length
      rw [e]
      rw [HT.out]
      go_wp2
      go_ret
      exact ⟨rfl, by rw [HBE.out]; exact HB2.out.trans (HW.out.mono (Nat.le_of_lt pl))⟩

end Rm
end Go.Proofs.YtihmmephgjpgaaaGreatDoor

namespace Go.Proofs.YtihmmephgjpgaaaGreatDoor
open Go.RowKit
set_option maxRecDepth 100000
set_option linter.unusedVariables false
namespace Rm
open Kn (K okK)
open Bit (bit withB)
open Lc (at' RdK laceB WordsOk)
open Sg (bel belows closedTo orB)

/-- is it right, in the program's words? -/
def clsB (L : List K) (s : Int) : Bool := Lc.inL L.length s && closedTo (belows L L.length) s L.length
def ownOkB (L : List K) (who has kept : Int) : Bool := bits .andNot .i64 (ownI L who has) kept == 0
def rightB (L : List K) (h : Hd) : Bool := Kn.in3 h.who && (clsB L h.has && (clsB L h.kept && ((bits .andNot .i64 h.kept h.has == 0) && (ownOkB L h.who h.has h.kept && (h.last == lastTo L h.who h.kept L.length)))))

theorem cls_iff (L : List K) (s : Int) : clsB L s = true ↔ 0 ≤ s ∧ s / 2 ^ L.length = 0 ∧ closedTo (belows L L.length) s L.length = true := by
  unfold clsB Lc.inL; simp [and_assoc]
theorem right_hok (L : List K) (hlc : laceB L = true) (h : Hd) (hk : H64 h) : rightB L h = hokB L h := by
  have h60 := ((Lc.lace_iff L).1 hlc).1
  rw [Bool.eq_iff_iff]
  unfold rightB hokB
  simp only [Bool.and_eq_true, cls_iff, decide_eq_true_eq]
  constructor
  · rintro ⟨a, ⟨b0, b1, b2⟩, ⟨c0, c1, c2⟩, d, e, f⟩
    refine ⟨a, b0, c0, b1, d, ?_, b2, c2, f⟩
    have hs1 := div_lt60 b0 b1 h60
    have hs2 := div_lt60 c0 c1 h60
    have ob := own_bd L h.who h.has h60
    have e2 := (Sg.andNot_sub _ _ ob.1 (by omega) c0 (by omega)).1 e
    rw [last_neg]
    intro i hi hb hw
    have hbb := Sg.bit_andNot h.has h.kept b0 hs1 c0 hs2 i
    rw [hbb, Bool.and_eq_true] at hb
    have := e2 i (by rw [bit_own _ _ _ h60, decide_eq_true hi, hb.1, decide_eq_true hw]; rfl)
    rw [this] at hb
    exact absurd hb.2 (by simp)
  · rintro ⟨a, b0, c0, b1, d, e, b2, c2, f⟩
    have hs1 := div_lt60 b0 b1 h60
    have hs2 := and_sub c0 b0 hs1 hk.k1 d
    have d2 := (Sg.andNot_sub _ _ c0 (by omega) b0 (by omega)).1 d
    have c1 : h.kept / 2 ^ L.length = 0 := Lc.div_of_bits _ _ c0 fun i hi => by
      rw [Bool.eq_false_iff]
      intro q
      have := d2 i q
      rw [Lc.bit_hi _ _ b0 b1 i hi] at this
      exact Bool.noConfusion this
    refine ⟨a, ⟨b0, b1, b2⟩, ⟨c0, c1, c2⟩, d, ?_, f⟩
    have ob := own_bd L h.who h.has h60
    refine (Sg.andNot_sub _ _ ob.1 (by omega) c0 (by omega)).2 fun i hi => ?_
    rw [bit_own _ _ _ h60] at hi
    simp only [Bool.and_eq_true, decide_eq_true_eq] at hi
    cases hb : bit h.kept i
    · have hbb := Sg.bit_andNot h.has h.kept b0 hs1 c0 hs2 i
      rw [hi.2.1, hb] at hbb
      exact absurd hi.2.2 ((last_neg L h.who _ _).1 e i hi.1 hbb)
    · rfl

set_option maxHeartbeats 6400000 in
theorem right (g cap : Nat) (L : List K) (h : Hd) (w : World) (hlc : laceB L = true) (hk : H64 h) (hg : g < w.heap.size) (hr : RdK w (some ⟨g, 0, none⟩) L) :
    Calls Tryz.prog 52 #[.agg #[.slice (some ⟨g, 0, none⟩) L.length cap, .int .i64 h.who, .int .i64 h.has, .int .i64 h.kept, .int .i64 h.last]] w fun e w' => e = .returned (.bool (hokB L h)) ∧ Below w.heap.size w w' := by
  rw [← right_hok L hlc h hk]
  obtain ⟨hk0, hk1, hk2, hk3⟩ := hk
  obtain ⟨who, has, kept, last⟩ := h
  dsimp only at hk0 hk1 hk2 hk3 ⊢
  have h60 := ((Lc.lace_iff L).1 hlc).1
  have HD : Hid (rightB L ⟨who, has, kept, last⟩ = (Kn.in3 who && (clsB L has && (clsB L kept && ((bits .andNot .i64 kept has == 0) && (ownOkB L who has kept && (last == lastTo L who kept L.length))))))) := rfl
  have P0 : Hid (Below w.heap.size w (w.alloc (.cells #[.slice (some ⟨g, 0, none⟩) L.length cap, .int .i64 who, .int .i64 has, .int .i64 kept, .int .i64 last] 50)) ∧ OAt (w.alloc (.cells #[.slice (some ⟨g, 0, none⟩) L.length cap, .int .i64 who, .int .i64 has, .int .i64 kept, .int .i64 last] 50)) w.heap.size g cap L.length ⟨who, has, kept, last⟩) := ⟨(Below.refl _ _).alloc (Nat.le_refl _) _, oat_new w g cap L.length ⟨who, has, kept, last⟩ _⟩
  go_enter Tryz.func52, Tryz.ntmps52
  go_upto_region 1 with fail
  generalize w.alloc (.cells #[.slice (some ⟨g, 0, none⟩) L.length cap, .int .i64 who, .int .i64 has, .int .i64 kept, .int .i64 last] 50) = V at P0 ⊢
  have HB0 : Hid (Below w.heap.size w V) := P0.out.1
  have HO : Hid (OAt V w.heap.size g cap L.length ⟨who, has, kept, last⟩) := P0.out.2
  have HR : Hid (RdK V (some ⟨g, 0, none⟩) L) := hr.below P0.out.1
  have hgV : g < V.heap.size := Nat.lt_of_lt_of_le hg P0.out.1.size
  have hbV : w.heap.size < V.heap.size := P0.out.2.lt
  clear P0 hr
  generalize hbe : w.heap.size = hb at HB0 HO hbV ⊢
  have HBE : Hid (w.heap.size = hb) := hbe
  clear hbe hg
  have HKN : Hid (∀ W : World, Below V.heap.size V W → Calls Tryz.prog 31 #[.int .i64 who] W fun e w' => e = .returned (.bool (Kn.in3 who)) ∧ Below V.heap.size V w') := fun W hW => (Kn.known who W).mono fun _ _ q => ⟨q.1, by rw [← q.2]; exact hW⟩
  have HCL : Hid (∀ (W : World) (s : Int) (b : Bool), Below V.heap.size V W → (s = has ∧ b = clsB L has ∨ s = kept ∧ b = clsB L kept) → Calls Tryz.prog 70 #[.slice (some ⟨g, 0, none⟩) L.length cap, .int .i64 s] W fun e w' => e = .returned (.bool b) ∧ Below V.heap.size V w') := fun W s b hW hs => by
    rcases hs with ⟨rfl, rfl⟩ | ⟨rfl, rfl⟩
    · exact (Sg.closed g 0 cap L _ W hlc hk0 hk1 (Nat.lt_of_lt_of_le hgV hW.size) (HR.out.below hW)).mono fun _ _ q => ⟨q.1, hW.trans (q.2.mono hW.size)⟩
    · exact (Sg.closed g 0 cap L _ W hlc hk2 hk3 (Nat.lt_of_lt_of_le hgV hW.size) (HR.out.below hW)).mono fun _ _ q => ⟨q.1, hW.trans (q.2.mono hW.size)⟩
  have HOW : Hid (Base.okB has = true → ∀ W : World, Below V.heap.size V W → Calls Tryz.prog 64 #[.agg #[.slice (some ⟨g, 0, none⟩) L.length cap, .int .i64 who, .int .i64 has, .int .i64 kept, .int .i64 last], .int .i64 has] W fun e w' => e = .returned (.int .i64 (ownI L who has)) ∧ Below V.heap.size V w') := fun ho W hW => (own g cap L ⟨who, has, kept, last⟩ has W h60 ho (HR.out.below hW)).mono fun _ _ q => ⟨q.1, hW.trans (q.2.mono hW.size)⟩
  have HLO : Hid (Base.okB kept = true → ∀ W : World, Below V.heap.size V W → Calls Tryz.prog 71 #[.agg #[.slice (some ⟨g, 0, none⟩) L.length cap, .int .i64 who, .int .i64 has, .int .i64 kept, .int .i64 last]] W fun e w' => e = .returned (.int .i64 (lastTo L who kept L.length)) ∧ Below V.heap.size V w') := fun ho W hW => (lastOwn g cap L ⟨who, has, kept, last⟩ W hlc ho (HR.out.below hW)).mono fun _ _ q => ⟨q.1, hW.trans (q.2.mono hW.size)⟩
  have HCO : Hid (∀ s, clsB L s = true → Base.okB s = true) := fun s hs => by
    have q := (cls_iff L s).1 hs
    exact (Base.okB_iff s).2 ⟨q.1, div_lt60 q.1 q.2.1 h60⟩
  have HLC : Hid (laceB L = true) := hlc
  clear hlc hk0 hk1 hk2 hk3
  have HUN : Hid (ownOkB L who has kept = (bits .andNot .i64 (ownI L who has) kept == 0)) := rfl
  obtain ⟨X, _, F, HF, HG⟩ := Fam.fam V
  have HC : Hid (∀ z, OAt (F z) hb g cap L.length ⟨who, has, kept, last⟩) := fun z => HO.out.below (HF.out z)
  have d0 : ∀ z, (F z).cell? ⟨hb, 0, none⟩ = some (.slice (some ⟨g, 0, none⟩) L.length cap) := fun z => (HC.out z).c0
  have d1 : ∀ z, (F z).cell? ⟨hb, 1, none⟩ = some (.int .i64 who) := fun z => (HC.out z).c1
  have d2 : ∀ z, (F z).cell? ⟨hb, 2, none⟩ = some (.int .i64 has) := fun z => (HC.out z).c2
  have d3 : ∀ z, (F z).cell? ⟨hb, 3, none⟩ = some (.int .i64 kept) := fun z => (HC.out z).c3
  have d4 : ∀ z, (F z).cell? ⟨hb, 4, none⟩ = some (.int .i64 last) := fun z => (HC.out z).c4
  cases h0 : Kn.in3 who
  · have HT : Hid (rightB L ⟨who, has, kept, last⟩ = false) := by show _ = _; rw [HD.out]; simp [h0]
    rw [h0] at HKN
    clear HD HC HO HR HLC HUN HLO HOW HCO HCL
    clear h0
    refine Fam.region (F := F) (by kernel_rfl) (by kernel_rfl) (HG.out _ (Below.refl _ V).drew) ?_
    repeat (go_big_quiet_step (first
      | (go_at_call 31; exact (HKN.out _ (HF.out _)).mono fun _ _ q => ⟨q.1, HG.out _ q.2⟩)))
    refine wpQuiet_nil ?_
    intro w2 hw2
    obtain ⟨z, rfl⟩ := hw2
    have HB2 : Hid (Below V.heap.size V (F z)) := HF.out z
    go_wp2
    go_ret
    exact ⟨by rw [HT.out]; rfl, by rw [HBE.out]; exact HB0.out.trans (HB2.out.mono (Nat.le_of_lt hbV))⟩
  cases h1 : clsB L has
  · have HT : Hid (rightB L ⟨who, has, kept, last⟩ = false) := by show _ = _; rw [HD.out]; simp [h0, h1]
    rw [h0] at HKN
    rw [h1] at HCL
    generalize clsB L kept = x3 at HCL
    clear HD HC HO HR HLC HUN HLO HOW HCO
    clear h0 h1
    refine Fam.region (F := F) (by kernel_rfl) (by kernel_rfl) (HG.out _ (Below.refl _ V).drew) ?_
    repeat (go_big_quiet_step (first
      | (go_at_call 31; exact (HKN.out _ (HF.out _)).mono fun _ _ q => ⟨q.1, HG.out _ q.2⟩)
      | (go_at_call 70; exact (HCL.out _ _ _ (HF.out _) (by first | exact .inl ⟨rfl, rfl⟩ | exact .inr ⟨rfl, rfl⟩)).mono fun _ _ q => ⟨q.1, HG.out _ q.2⟩)))
    refine wpQuiet_nil ?_
    intro w2 hw2
    obtain ⟨z, rfl⟩ := hw2
    have HB2 : Hid (Below V.heap.size V (F z)) := HF.out z
    go_wp2
    go_ret
    exact ⟨by rw [HT.out]; rfl, by rw [HBE.out]; exact HB0.out.trans (HB2.out.mono (Nat.le_of_lt hbV))⟩
  cases h2 : clsB L kept
  · have HT : Hid (rightB L ⟨who, has, kept, last⟩ = false) := by show _ = _; rw [HD.out]; simp [h0, h1, h2]
    rw [h0] at HKN
    rw [h1, h2] at HCL
    clear HD HC HO HR HLC HUN HLO HOW HCO
    clear h0 h1 h2
    refine Fam.region (F := F) (by kernel_rfl) (by kernel_rfl) (HG.out _ (Below.refl _ V).drew) ?_
    repeat (go_big_quiet_step (first
      | (go_at_call 31; exact (HKN.out _ (HF.out _)).mono fun _ _ q => ⟨q.1, HG.out _ q.2⟩)
      | (go_at_call 70; exact (HCL.out _ _ _ (HF.out _) (by first | exact .inl ⟨rfl, rfl⟩ | exact .inr ⟨rfl, rfl⟩)).mono fun _ _ q => ⟨q.1, HG.out _ q.2⟩)))
    refine wpQuiet_nil ?_
    intro w2 hw2
    obtain ⟨z, rfl⟩ := hw2
    have HB2 : Hid (Below V.heap.size V (F z)) := HF.out z
    go_wp2
    go_ret
    exact ⟨by rw [HT.out]; rfl, by rw [HBE.out]; exact HB0.out.trans (HB2.out.mono (Nat.le_of_lt hbV))⟩
  cases h3 : (bits .andNot .i64 kept has == 0)
  · have HT : Hid (rightB L ⟨who, has, kept, last⟩ = false) := by show _ = _; rw [HD.out]; simp [h0, h1, h2, h3]
    rw [h0] at HKN
    rw [h1, h2] at HCL
    clear HD HC HO HR HLC HUN HLO HOW HCO
    clear h0 h1 h2
    refine Fam.region (F := F) (by kernel_rfl) (by kernel_rfl) (HG.out _ (Below.refl _ V).drew) ?_
    repeat (go_big_quiet_step (first
      | (go_at_call 31; exact (HKN.out _ (HF.out _)).mono fun _ _ q => ⟨q.1, HG.out _ q.2⟩)
      | (go_at_call 70; exact (HCL.out _ _ _ (HF.out _) (by first | exact .inl ⟨rfl, rfl⟩ | exact .inr ⟨rfl, rfl⟩)).mono fun _ _ q => ⟨q.1, HG.out _ q.2⟩)))
    refine wpQuiet_nil ?_
    intro w2 hw2
    obtain ⟨z, rfl⟩ := hw2
    have HB2 : Hid (Below V.heap.size V (F z)) := HF.out z
    go_wp2
    go_ret
    exact ⟨by rw [HT.out]; rfl, by rw [HBE.out]; exact HB0.out.trans (HB2.out.mono (Nat.le_of_lt hbV))⟩
  cases h4 : ownOkB L who has kept
  · have HT : Hid (rightB L ⟨who, has, kept, last⟩ = false) := by show _ = _; rw [HD.out]; simp [h0, h1, h2, h3, h4]
    rw [h0] at HKN
    rw [h1, h2] at HCL
    have HOW2 : Hid (∀ W : World, Below V.heap.size V W → Calls Tryz.prog 64 #[.agg #[.slice (some ⟨g, 0, none⟩) L.length cap, .int .i64 who, .int .i64 has, .int .i64 kept, .int .i64 last], .int .i64 has] W fun e w' => e = .returned (.int .i64 (ownI L who has)) ∧ Below V.heap.size V w') := HOW.out (HCO.out _ h1)
    rw [HUN.out] at h4
    generalize ownI L who has = ow at HOW2 h4
    clear HD HC HO HR HLC HUN HLO HOW HCO
    clear h0 h1 h2
    refine Fam.region (F := F) (by kernel_rfl) (by kernel_rfl) (HG.out _ (Below.refl _ V).drew) ?_
    repeat (go_big_quiet_step (first
      | (go_at_call 31; exact (HKN.out _ (HF.out _)).mono fun _ _ q => ⟨q.1, HG.out _ q.2⟩)
      | (go_at_call 70; exact (HCL.out _ _ _ (HF.out _) (by first | exact .inl ⟨rfl, rfl⟩ | exact .inr ⟨rfl, rfl⟩)).mono fun _ _ q => ⟨q.1, HG.out _ q.2⟩)
      | (go_at_call 64; exact (HOW2.out _ (HF.out _)).mono fun _ _ q => ⟨q.1, HG.out _ q.2⟩)))
    refine wpQuiet_nil ?_
    intro w2 hw2
    obtain ⟨z, rfl⟩ := hw2
    have HB2 : Hid (Below V.heap.size V (F z)) := HF.out z
    go_wp2
    go_ret
    exact ⟨by rw [HT.out]; rfl, by rw [HBE.out]; exact HB0.out.trans (HB2.out.mono (Nat.le_of_lt hbV))⟩
  have HT : Hid (rightB L ⟨who, has, kept, last⟩ = (last == lastTo L who kept L.length)) := by show _ = _; rw [HD.out]; simp [h0, h1, h2, h3, h4]
  rw [h0] at HKN
  rw [h1, h2] at HCL
  have HOW2 : Hid (∀ W : World, Below V.heap.size V W → Calls Tryz.prog 64 #[.agg #[.slice (some ⟨g, 0, none⟩) L.length cap, .int .i64 who, .int .i64 has, .int .i64 kept, .int .i64 last], .int .i64 has] W fun e w' => e = .returned (.int .i64 (ownI L who has)) ∧ Below V.heap.size V w') := HOW.out (HCO.out _ h1)
  have HLO2 : Hid (∀ W : World, Below V.heap.size V W → Calls Tryz.prog 71 #[.agg #[.slice (some ⟨g, 0, none⟩) L.length cap, .int .i64 who, .int .i64 has, .int .i64 kept, .int .i64 last]] W fun e w' => e = .returned (.int .i64 (lastTo L who kept L.length)) ∧ Below V.heap.size V w') := HLO.out (HCO.out _ h2)
  rw [HUN.out] at h4
  generalize ownI L who has = ow at HOW2 h4
  generalize lastTo L who kept L.length = lt at HLO2 HT
  clear HD HC HO HR HLC HUN HLO HOW HCO h0 h1 h2
  refine Fam.region (F := F) (by kernel_rfl) (by kernel_rfl) (HG.out _ (Below.refl _ V).drew) ?_
  repeat (go_big_quiet_step (first
    | (go_at_call 31; exact (HKN.out _ (HF.out _)).mono fun _ _ q => ⟨q.1, HG.out _ q.2⟩)
    | (go_at_call 70; exact (HCL.out _ _ _ (HF.out _) (by first | exact .inl ⟨rfl, rfl⟩ | exact .inr ⟨rfl, rfl⟩)).mono fun _ _ q => ⟨q.1, HG.out _ q.2⟩)
    | (go_at_call 64; exact (HOW2.out _ (HF.out _)).mono fun _ _ q => ⟨q.1, HG.out _ q.2⟩)
    | (go_at_call 71; exact (HLO2.out _ (HF.out _)).mono fun _ _ q => ⟨q.1, HG.out _ q.2⟩)))
  refine wpQuiet_nil ?_
  intro w2 hw2
  obtain ⟨z, rfl⟩ := hw2
  have HB2 : Hid (Below V.heap.size V (F z)) := HF.out z
  go_wp2
  go_ret
  exact ⟨by rw [HT.out]; rfl, by rw [HBE.out]; exact HB0.out.trans (HB2.out.mono (Nat.le_of_lt hbV))⟩

end Rm
end Go.Proofs.YtihmmephgjpgaaaGreatDoor

namespace Go.Proofs.YtihmmephgjpgaaaGreatDoor
open Go.RowKit
set_option maxRecDepth 100000
set_option linter.unusedVariables false
namespace Rm
open Kn (K okK)
open Bit (bit withB)
open Lc (at' RdK laceB WordsOk)
open Sg (bel belows closedTo orB)

theorem handedOut (x : Value) (h : Hd) (w : World) :
    Calls Tryz.prog 49 #[.agg #[x, .int .i64 h.who, .int .i64 h.has, .int .i64 h.kept, .int .i64 h.last]] w fun e w' => e = .returned (.agg #[.int .i64 h.who, .int .i64 h.has, .int .i64 h.kept, .int .i64 h.last]) ∧ Below w.heap.size w w' := by
  go_enter Tryz.func49, Tryz.ntmps49
  go_wp2
  exact bodyPost_ret (v := .agg #[.int .i64 h.who, .int .i64 h.has, .int .i64 h.kept, .int .i64 h.last]) (by simp [results, Tryz.results49, go_sem]) rfl ⟨rfl, (((Below.refl _ _).alloc (Nat.le_refl _) _).alloc (by simp) _)⟩

theorem keeps (g n cap : Nat) (h : Hd) (w : World) :
    Calls Tryz.prog 27 #[.agg #[.slice (some ⟨g, 0, none⟩) n cap, .int .i64 h.who, .int .i64 h.has, .int .i64 h.kept, .int .i64 h.last]] w fun e w' => e = .returned (.agg #[.slice (some ⟨g, 0, none⟩) n cap, .int .i64 h.who, .int .i64 h.has, .int .i64 h.has, .int .i64 h.last]) ∧ Below w.heap.size w w' := by
  go_enter Tryz.func27, Tryz.ntmps27
  go_wp2
  exact bodyPost_ret (v := .agg #[.slice (some ⟨g, 0, none⟩) n cap, .int .i64 h.who, .int .i64 h.has, .int .i64 h.has, .int .i64 h.last]) (by simp [results, Tryz.results27, go_sem]) rfl ⟨rfl, (((Below.refl _ _).alloc (Nat.le_refl _) _).alloc (by simp) _)⟩

theorem forgets (g n cap : Nat) (h : Hd) (w : World) :
    Calls Tryz.prog 28 #[.agg #[.slice (some ⟨g, 0, none⟩) n cap, .int .i64 h.who, .int .i64 h.has, .int .i64 h.kept, .int .i64 h.last]] w fun e w' => e = .returned (.agg #[.slice (some ⟨g, 0, none⟩) n cap, .int .i64 h.who, .int .i64 h.kept, .int .i64 h.kept, .int .i64 h.last]) ∧ Below w.heap.size w w' := by
  go_enter Tryz.func28, Tryz.ntmps28
  go_wp2
  exact bodyPost_ret (v := .agg #[.slice (some ⟨g, 0, none⟩) n cap, .int .i64 h.who, .int .i64 h.kept, .int .i64 h.kept, .int .i64 h.last]) (by simp [results, Tryz.results28, go_sem]) rfl ⟨rfl, (((Below.refl _ _).alloc (Nat.le_refl _) _).alloc (by simp) _)⟩

theorem taking (g n cap : Nat) (h : Hd) (s : Int) (w : World) :
    Calls Tryz.prog 65 #[.agg #[.slice (some ⟨g, 0, none⟩) n cap, .int .i64 h.who, .int .i64 h.has, .int .i64 h.kept, .int .i64 h.last], .int .i64 s] w fun e w' => e = .returned (.agg #[.slice (some ⟨g, 0, none⟩) n cap, .int .i64 h.who, .int .i64 (bits .or .i64 h.has s), .int .i64 h.kept, .int .i64 h.last]) ∧ Below w.heap.size w w' := by
  go_enter Tryz.func65, Tryz.ntmps65
  go_wp2
  exact bodyPost_ret (v := .agg #[.slice (some ⟨g, 0, none⟩) n cap, .int .i64 h.who, .int .i64 (bits .or .i64 h.has s), .int .i64 h.kept, .int .i64 h.last]) (by simp [results, Tryz.results65, go_sem]) rfl ⟨rfl, (((Below.refl _ _).alloc (Nat.le_refl _) _).alloc (by simp) _)⟩

/-- the variable that says that it is no right hand -/
def NoH (W : World) (a : Addr) : Prop := W.cell? ⟨0, 0, none⟩ = some (.iface 175 (.pointer (some a)))
theorem cell_lt {W : World} {p : Addr} {v : Value} (h : W.cell? p = some v) : p.block < W.heap.size := by
  rcases Nat.lt_or_ge p.block W.heap.size with q | q
  · exact q
  · simp [World.cell?, Array.getElem?_eq_none q] at h
theorem NoH.below {W V : World} {a : Addr} (h : NoH W a) (hb : Below W.heap.size W V) : NoH V a := (hb.cell (p := ⟨0, 0, none⟩) (cell_lt h)).trans h

/-- the error that says so is there -/
def NoHs (W : World) : Prop := ∃ a, NoH W a
theorem NoHs.below {W V : World} (h : NoHs W) (hb : Below W.heap.size W V) : NoHs V := h.elim fun a q => ⟨a, q.below hb⟩

/-- how the asking for an owner ends -/
def OwnerPost (L : List K) (h : Hd) (a : Addr) (w : World) (e : Ending) (w' : World) : Prop :=
  (handOkB L h = true ∧ ∃ g, e = .returned (.tuple #[.agg #[.slice (some ⟨g, 0, none⟩) L.length L.length, .int .i64 h.who, .int .i64 h.has, .int .i64 h.kept, .int .i64 h.last], .nilIface]) ∧ g < w'.heap.size ∧ RdK w' (some ⟨g, 0, none⟩) L ∧ Below w.heap.size w w') ∨
  (handOkB L h = false ∧ e = .returned (.tuple #[.agg #[.slice none 0 0, .int .i64 0, .int .i64 0, .int .i64 0, .int .i64 0], .iface 175 (.pointer (some a))]) ∧ Below w.heap.size w w')

end Rm
end Go.Proofs.YtihmmephgjpgaaaGreatDoor

namespace Go.Proofs.YtihmmephgjpgaaaGreatDoor
open Go.RowKit
set_option maxRecDepth 100000
set_option linter.unusedVariables false
namespace Rm
open Kn (K okK)
open Bit (bit withB)
open Lc (at' RdK laceB WordsOk)
open Sg (bel belows closedTo orB)

/-- five cells of one block, that may be written -/
structure Ow (W : World) (b : Nat) (v0 v1 v2 v3 v4 : Value) : Prop where
  lt : b < W.heap.size
  c0 : W.cell? ⟨b, 0, none⟩ = some v0
  c1 : W.cell? ⟨b, 1, none⟩ = some v1
  c2 : W.cell? ⟨b, 2, none⟩ = some v2
  c3 : W.cell? ⟨b, 3, none⟩ = some v3
  c4 : W.cell? ⟨b, 4, none⟩ = some v4
  f0 : W.frozen? ⟨b, 0, none⟩ = false
  f1 : W.frozen? ⟨b, 1, none⟩ = false
  f2 : W.frozen? ⟨b, 2, none⟩ = false
  f3 : W.frozen? ⟨b, 3, none⟩ = false
  f4 : W.frozen? ⟨b, 4, none⟩ = false
theorem ow_new (W : World) (v0 v1 v2 v3 v4 : Value) (t : TypeId) : Ow (W.alloc (.cells #[v0, v1, v2, v3, v4] t)) W.heap.size v0 v1 v2 v3 v4 := ⟨by simp, by simp, by simp, by simp, by simp, by simp, by simp, by simp, by simp, by simp, by simp⟩
theorem fro_below {W V : World} {p : Addr} (hb : Below W.heap.size W V) (hl : p.block < W.heap.size) : V.frozen? p = W.frozen? p := hb.frozen hl
theorem Ow.below {W V : World} {b : Nat} {v0 v1 v2 v3 v4 : Value} (x : Ow W b v0 v1 v2 v3 v4) (hb : Below W.heap.size W V) : Ow V b v0 v1 v2 v3 v4 :=
  ⟨Nat.lt_of_lt_of_le x.lt hb.size, (hb.cell (p := ⟨b, 0, none⟩) x.lt).trans x.c0, (hb.cell (p := ⟨b, 1, none⟩) x.lt).trans x.c1, (hb.cell (p := ⟨b, 2, none⟩) x.lt).trans x.c2, (hb.cell (p := ⟨b, 3, none⟩) x.lt).trans x.c3, (hb.cell (p := ⟨b, 4, none⟩) x.lt).trans x.c4,
   (fro_below (p := ⟨b, 0, none⟩) hb x.lt).trans x.f0, (fro_below (p := ⟨b, 1, none⟩) hb x.lt).trans x.f1, (fro_below (p := ⟨b, 2, none⟩) hb x.lt).trans x.f2, (fro_below (p := ⟨b, 3, none⟩) hb x.lt).trans x.f3, (fro_below (p := ⟨b, 4, none⟩) hb x.lt).trans x.f4⟩
theorem Ow.drew {W : World} {b : Nat} {v0 v1 v2 v3 v4 : Value} (x : Ow W b v0 v1 v2 v3 v4) : Ow W.drew b v0 v1 v2 v3 v4 := ⟨x.lt, x.c0, x.c1, x.c2, x.c3, x.c4, x.f0, x.f1, x.f2, x.f3, x.f4⟩
theorem Ow.put {W : World} {b : Nat} {v0 v1 v2 v3 v4 : Value} (x : Ow W b v0 v1 v2 v3 v4) (u0 u1 u2 u3 u4 : Value) : ∃ V, V = (((((W.setCell ⟨b, 0, none⟩ u0).setCell ⟨b, 1, none⟩ u1).setCell ⟨b, 2, none⟩ u2).setCell ⟨b, 3, none⟩ u3).setCell ⟨b, 4, none⟩ u4) ∧
    Ow V b u0 u1 u2 u3 u4 ∧ (∀ (n : Nat) (w : World), Below n w W → n ≤ b → Below n w V) ∧ V.heap.size = W.heap.size ∧ (∀ p : Addr, p.block ≠ b → V.cell? p = W.cell? p) := by
  refine ⟨_, rfl, ?_, ?_, by simp, ?_⟩
  · refine ⟨by simp; exact x.lt, ?_, ?_, ?_, ?_, ?_, ?_, ?_, ?_, ?_, ?_⟩
    · rw [World.cell?_setCell_other _ _ _ _ (by simp), World.cell?_setCell_other _ _ _ _ (by simp), World.cell?_setCell_other _ _ _ _ (by simp), World.cell?_setCell_other _ _ _ _ (by simp)]
      exact World.cell?_setCell_same _ _ _ x.c0
    · rw [World.cell?_setCell_other _ _ _ _ (by simp), World.cell?_setCell_other _ _ _ _ (by simp), World.cell?_setCell_other _ _ _ _ (by simp)]
      exact World.cell?_setCell_same _ _ _ ((World.cell?_setCell_other _ _ _ _ (by simp)).trans x.c1)
    · rw [World.cell?_setCell_other _ _ _ _ (by simp), World.cell?_setCell_other _ _ _ _ (by simp)]
      exact World.cell?_setCell_same _ _ _ ((World.cell?_setCell_other _ _ _ _ (by simp)).trans ((World.cell?_setCell_other _ _ _ _ (by simp)).trans x.c2))
    · rw [World.cell?_setCell_other _ _ _ _ (by simp)]
      exact World.cell?_setCell_same _ _ _ ((World.cell?_setCell_other _ _ _ _ (by simp)).trans ((World.cell?_setCell_other _ _ _ _ (by simp)).trans ((World.cell?_setCell_other _ _ _ _ (by simp)).trans x.c3)))
    · exact World.cell?_setCell_same _ _ _ ((World.cell?_setCell_other _ _ _ _ (by simp)).trans ((World.cell?_setCell_other _ _ _ _ (by simp)).trans ((World.cell?_setCell_other _ _ _ _ (by simp)).trans ((World.cell?_setCell_other _ _ _ _ (by simp)).trans x.c4))))
    all_goals simp only [World.frozen?_setCell]
    · exact x.f0
    · exact x.f1
    · exact x.f2
    · exact x.f3
    · exact x.f4
  · intro n w hb hn
    exact ((((hb.setCell (p := ⟨b, 0, none⟩) hn _).setCell (p := ⟨b, 1, none⟩) hn _).setCell (p := ⟨b, 2, none⟩) hn _).setCell (p := ⟨b, 3, none⟩) hn _).setCell (p := ⟨b, 4, none⟩) hn _
  · intro p hp
    have hne : ∀ i : Nat, (⟨b, i, none⟩ : Addr) ≠ p := fun i e => hp (by rw [← e])
    rw [World.cell?_setCell_other _ _ _ _ (hne 4), World.cell?_setCell_other _ _ _ _ (hne 3), World.cell?_setCell_other _ _ _ _ (hne 2), World.cell?_setCell_other _ _ _ _ (hne 1), World.cell?_setCell_other _ _ _ _ (hne 0)]

theorem rdk_other {W V : World} {g b : Nat} {L : List K} {x : Option Addr} {n m : Nat} (h : RdK W (some ⟨g, 0, none⟩) L) (hc : ∀ p : Addr, p.block ≠ b → V.cell? p = W.cell? p) (hs : V.heap.size = W.heap.size) (hx : W.cell? ⟨b, 0, none⟩ = some (.slice x n m)) : RdK V (some ⟨g, 0, none⟩) L := by
  rcases h with h | ⟨g', off, ha, hg, hk⟩
  · exact .inl h
  · by_cases hl : L.length = 0
    · exact .inl (List.length_eq_zero_iff.1 hl)
    injection ha with ha
    injection ha with h1 h2
    subst h1 h2
    have hgb : g ≠ b := by
      rintro rfl
      have q := (hk 0 (by omega)).c0
      rw [show 0 + 0 * 4 = 0 from rfl, hx] at q
      cases q
    exact .inr ⟨g, 0, rfl, by rw [hs]; exact hg, fun i hi => ⟨(hc _ hgb).trans (hk i hi).c0, (hc _ hgb).trans (hk i hi).c1, (hc _ hgb).trans (hk i hi).c2, (hc _ hgb).trans (hk i hi).c3⟩⟩

set_option maxHeartbeats 3200000 in
theorem ownerOfA (ao : Option Addr) (cap : Nat) (L : List K) (h : Hd) (a : Addr) (w : World) (hla0 : ∀ V : World, Below w.heap.size w V → Calls Tryz.prog 51 #[.slice ao L.length cap] V (Lc.LacePost L V)) (hk : H64 h) (hn : NoH w a) :
    Calls Tryz.prog 33 #[.slice ao L.length cap, .agg #[.int .i64 h.who, .int .i64 h.has, .int .i64 h.kept, .int .i64 h.last]] w (OwnerPost L h a w) := by
  have P0 : Hid (Below w.heap.size w ((w.alloc (.cells #[.int .i64 h.who, .int .i64 h.has, .int .i64 h.kept, .int .i64 h.last] 26)).alloc (.cells #[.slice none 0 0, .int .i64 0, .int .i64 0, .int .i64 0, .int .i64 0] 50)) ∧ HAt ((w.alloc (.cells #[.int .i64 h.who, .int .i64 h.has, .int .i64 h.kept, .int .i64 h.last] 26)).alloc (.cells #[.slice none 0 0, .int .i64 0, .int .i64 0, .int .i64 0, .int .i64 0] 50)) w.heap.size 0 h ∧ Ow ((w.alloc (.cells #[.int .i64 h.who, .int .i64 h.has, .int .i64 h.kept, .int .i64 h.last] 26)).alloc (.cells #[.slice none 0 0, .int .i64 0, .int .i64 0, .int .i64 0, .int .i64 0] 50)) (w.heap.size + 1) (.slice none 0 0) (.int .i64 0) (.int .i64 0) (.int .i64 0) (.int .i64 0)) :=
    ⟨((Below.refl _ w).alloc (Nat.le_refl _) _).alloc (by simp) _, hat_below (hat_new w h _) ((Below.refl _ _).alloc (Nat.le_refl _) _), by
      have q := ow_new (w.alloc (.cells #[.int .i64 h.who, .int .i64 h.has, .int .i64 h.kept, .int .i64 h.last] 26)) (.slice none 0 0) (.int .i64 0) (.int .i64 0) (.int .i64 0) (.int .i64 0) 50
      rw [World.size_alloc] at q
      exact q⟩
  have hgl : 0 < w.heap.size := cell_lt hn
  have HN : Hid (NoH w a) := hn
  clear hn
  go_enter Tryz.func33, Tryz.ntmps33
  go_upto_region 1 with fail
  generalize (w.alloc (.cells #[.int .i64 h.who, .int .i64 h.has, .int .i64 h.kept, .int .i64 h.last] 26)).alloc (.cells #[.slice none 0 0, .int .i64 0, .int .i64 0, .int .i64 0, .int .i64 0] 50) = V at P0 ⊢
  obtain ⟨hB0, hH0, hO0⟩ := P0
  have HB0 : Hid (Below w.heap.size w V) := hB0
  have HH0 : Hid (HAt V w.heap.size 0 h) := hH0
  have HO0 : Hid (Ow V (w.heap.size + 1) (.slice none 0 0) (.int .i64 0) (.int .i64 0) (.int .i64 0) (.int .i64 0)) := hO0
  have hla := hla0 V hB0
  clear hla0
  clear hB0 hH0 hO0
  go_wp2_with fail
  refine hla.mono ?_
  clear hla
  intro e V1 hp
  have HEQ : Hid (handOkB L h = (laceB L && hokB L h)) := rfl
  rcases hp with ⟨hl, g1, rfl, hg1, hr1, hb1⟩ | ⟨hl, rfl, hb1⟩
  · have HB1 : Hid (Below w.heap.size w V1) := HB0.out.trans (hb1.mono HB0.out.size)
    have HH1 : Hid (HAt V1 w.heap.size 0 h) := hat_below HH0.out hb1
    have HO1 : Hid (Ow V1 (w.heap.size + 1) (.slice none 0 0) (.int .i64 0) (.int .i64 0) (.int .i64 0) (.int .i64 0)) := HO0.out.below hb1
    clear hb1 HB0 HH0 HO0
    have HQ : Hid (Below w.heap.size w (V1.alloc (.cells #[.slice (some ⟨g1, 0, none⟩) L.length L.length, .int .i64 h.who, .int .i64 h.has, .int .i64 h.kept, .int .i64 h.last] 50)) ∧ Ow (V1.alloc (.cells #[.slice (some ⟨g1, 0, none⟩) L.length L.length, .int .i64 h.who, .int .i64 h.has, .int .i64 h.kept, .int .i64 h.last] 50)) V1.heap.size (.slice (some ⟨g1, 0, none⟩) L.length L.length) (.int .i64 h.who) (.int .i64 h.has) (.int .i64 h.kept) (.int .i64 h.last) ∧ Ow (V1.alloc (.cells #[.slice (some ⟨g1, 0, none⟩) L.length L.length, .int .i64 h.who, .int .i64 h.has, .int .i64 h.kept, .int .i64 h.last] 50)) (w.heap.size + 1) (.slice none 0 0) (.int .i64 0) (.int .i64 0) (.int .i64 0) (.int .i64 0) ∧ RdK (V1.alloc (.cells #[.slice (some ⟨g1, 0, none⟩) L.length L.length, .int .i64 h.who, .int .i64 h.has, .int .i64 h.kept, .int .i64 h.last] 50)) (some ⟨g1, 0, none⟩) L ∧ g1 < (V1.alloc (.cells #[.slice (some ⟨g1, 0, none⟩) L.length L.length, .int .i64 h.who, .int .i64 h.has, .int .i64 h.kept, .int .i64 h.last] 50)).heap.size) :=
      ⟨HB1.out.alloc HB1.out.size _, ow_new V1 _ _ _ _ _ _, HO1.out.below ((Below.refl _ _).alloc (Nat.le_refl _) _), hr1.below ((Below.refl _ _).alloc (Nat.le_refl _) _), by simp; omega⟩
    have hbs : w.heap.size + 1 < V1.heap.size := HO1.out.lt
    obtain ⟨a0, a1, a2, a3⟩ := cellsH HH1.out
    clear HO1 HB1 HH1 hr1
    go_upto_region 3 with fail
    generalize V1.alloc (.cells #[.slice (some ⟨g1, 0, none⟩) L.length L.length, .int .i64 h.who, .int .i64 h.has, .int .i64 h.kept, .int .i64 h.last] 50) = V2 at HQ ⊢
    clear a0 a1 a2 a3
    obtain ⟨hB2, hX2, hO2, hR2, hg2⟩ := HQ
    have HB2 : Hid (Below w.heap.size w V2) := hB2
    have HX2 : Hid (Ow V2 V1.heap.size (.slice (some ⟨g1, 0, none⟩) L.length L.length) (.int .i64 h.who) (.int .i64 h.has) (.int .i64 h.kept) (.int .i64 h.last)) := hX2
    have HO2 : Hid (Ow V2 (w.heap.size + 1) (.slice none 0 0) (.int .i64 0) (.int .i64 0) (.int .i64 0) (.int .i64 0)) := hO2
    have HR2 : Hid (RdK V2 (some ⟨g1, 0, none⟩) L) := hR2
    obtain ⟨_, x0, x1, x2, x3, x4, _, _, _, _, _⟩ := hX2
    have hrt := right g1 L.length L h V2 hl hk hg2 hR2
    clear hB2 hO2 hR2
    generalize V1.heap.size = xb at HX2 x0 x1 x2 x3 x4 hbs ⊢
    go_wp2_with fail
    refine hrt.mono ?_
    clear hrt
    rintro e V3 ⟨rfl, hb3⟩
    have HB3 : Hid (Below w.heap.size w V3) := HB2.out.trans (hb3.mono HB2.out.size)
    have HX3 : Hid (Ow V3 xb (.slice (some ⟨g1, 0, none⟩) L.length L.length) (.int .i64 h.who) (.int .i64 h.has) (.int .i64 h.kept) (.int .i64 h.last)) := HX2.out.below hb3
    have HO3 : Hid (Ow V3 (w.heap.size + 1) (.slice none 0 0) (.int .i64 0) (.int .i64 0) (.int .i64 0) (.int .i64 0)) := HO2.out.below hb3
    have HR3 : Hid (RdK V3 (some ⟨g1, 0, none⟩) L) := HR2.out.below hb3
    have hg3 : g1 < V3.heap.size := Nat.lt_of_lt_of_le hg2 hb3.size
    clear hb3 HB2 HX2 HO2 HR2 x0 x1 x2 x3 x4
    cases hok : hokB L h
    · have HT : Hid (handOkB L h = false) := by show _ = _; rw [HEQ.out, hl, hok]; rfl
      clear hok HX3 HR3
      have hnw : V3.cell? ⟨0, 0, none⟩ = some (.iface 175 (.pointer (some a))) := (HB3.out.cell (p := ⟨0, 0, none⟩) hgl).trans HN.out
      obtain ⟨W, hW, hOW, hBW, hsW, hcW⟩ := HO3.out.put (.slice none 0 0) (.int .i64 0) (.int .i64 0) (.int .i64 0) (.int .i64 0)
      have HW : Hid (W = _) := hW
      have HBW : Hid (Below w.heap.size w W.drew) := (hBW _ _ HB3.out (by omega)).drew
      obtain ⟨_, z0, z1, z2, z3, z4, f0, f1, f2, f3, f4⟩ := HO3.out
      have YD : Hid (Ow W.drew (w.heap.size + 1) (.slice none 0 0) (.int .i64 0) (.int .i64 0) (.int .i64 0) (.int .i64 0)) := hOW.drew
      obtain ⟨_, y0, y1, y2, y3, y4, _, _, _, _, _⟩ := YD.out
      have hne : ¬ w.heap.size + 1 = 0 := by omega
      clear hW hBW hsW hcW
      generalize w.heap.size + 1 = zb at YD HW z0 z1 z2 z3 z4 f0 f1 f2 f3 f4 y0 y1 y2 y3 y4 hne ⊢
      go_upto_region 4 with fail
      go_region
      all_goals go_wp2
      all_goals rw [← HW.out]
      all_goals refine bodyPost_ret (v := .tuple #[.agg #[.slice none 0 0, .int .i64 0, .int .i64 0, .int .i64 0, .int .i64 0], .iface 175 (.pointer (some a))]) (by simp [results, Tryz.f33, go_sem, y0, y1, y2, y3, y4]) rfl ?_
      all_goals exact .inr ⟨HT.out, rfl, HBW.out⟩
    · have HT : Hid (handOkB L h = true) := by show _ = _; rw [HEQ.out, hl, hok]; rfl
      obtain ⟨W, hW, hOW, hBW, hsW, hcW⟩ := HO3.out.put (.slice (some ⟨g1, 0, none⟩) L.length L.length) (.int .i64 h.who) (.int .i64 h.has) (.int .i64 h.kept) (.int .i64 h.last)
      have HW : Hid (W = _) := hW
      have HBW : Hid (Below w.heap.size w W) := hBW _ _ HB3.out (by omega)
      have HRW : Hid (RdK W (some ⟨g1, 0, none⟩) L ∧ g1 < W.heap.size) := by
        refine ⟨?_, by rw [hsW]; exact hg3⟩
        exact rdk_other HR3.out hcW hsW HO3.out.c0
      obtain ⟨_, x0, x1, x2, x3, x4, _, _, _, _, _⟩ := HX3.out
      obtain ⟨_, z0, z1, z2, z3, z4, f0, f1, f2, f3, f4⟩ := HO3.out
      obtain ⟨_, y0, y1, y2, y3, y4, _, _, _, _, _⟩ := hOW
      clear hok hW hBW hsW hcW
      go_wp2
      rw [← HW.out]
      refine bodyPost_ret (v := .tuple #[.agg #[.slice (some ⟨g1, 0, none⟩) L.length L.length, .int .i64 h.who, .int .i64 h.has, .int .i64 h.kept, .int .i64 h.last], .nilIface]) (by simp [results, Tryz.f33, go_sem, y0, y1, y2, y3, y4]) rfl ?_
      exact .inl ⟨HT.out, g1, rfl, HRW.out.2, HRW.out.1, HBW.out⟩
  · have HB3 : Hid (Below w.heap.size w V1) := HB0.out.trans (hb1.mono HB0.out.size)
    have HH1 : Hid (HAt V1 w.heap.size 0 h) := hat_below HH0.out hb1
    have HO1 : Hid (Ow V1 (w.heap.size + 1) (.slice none 0 0) (.int .i64 0) (.int .i64 0) (.int .i64 0) (.int .i64 0)) := HO0.out.below hb1
    have HT : Hid (handOkB L h = false) := by show _ = _; rw [HEQ.out, hl]; rfl
    clear hb1 HB0 HH0 HO0
    have HQ : Hid (Below w.heap.size w (V1.alloc (.cells #[.slice none 0 0, .int .i64 h.who, .int .i64 h.has, .int .i64 h.kept, .int .i64 h.last] 50)) ∧ Ow (V1.alloc (.cells #[.slice none 0 0, .int .i64 h.who, .int .i64 h.has, .int .i64 h.kept, .int .i64 h.last] 50)) (w.heap.size + 1) (.slice none 0 0) (.int .i64 0) (.int .i64 0) (.int .i64 0) (.int .i64 0)) :=
      ⟨HB3.out.alloc HB3.out.size _, HO1.out.below ((Below.refl _ _).alloc (Nat.le_refl _) _)⟩
    obtain ⟨a0, a1, a2, a3⟩ := cellsH HH1.out
    clear HO1 HB3 HH1
    go_upto_region 3 with fail
    generalize V1.alloc (.cells #[.slice none 0 0, .int .i64 h.who, .int .i64 h.has, .int .i64 h.kept, .int .i64 h.last] 50) = V3 at HQ ⊢
    clear a0 a1 a2 a3
    have HB3 : Hid (Below w.heap.size w V3) := HQ.out.1
    have HO3 : Hid (Ow V3 (w.heap.size + 1) (.slice none 0 0) (.int .i64 0) (.int .i64 0) (.int .i64 0) (.int .i64 0)) := HQ.out.2
    clear HQ
    have hnw : V3.cell? ⟨0, 0, none⟩ = some (.iface 175 (.pointer (some a))) := (HB3.out.cell (p := ⟨0, 0, none⟩) hgl).trans HN.out
    obtain ⟨W, hW, hOW, hBW, hsW, hcW⟩ := HO3.out.put (.slice none 0 0) (.int .i64 0) (.int .i64 0) (.int .i64 0) (.int .i64 0)
    have HW : Hid (W = _) := hW
    have HBW : Hid (Below w.heap.size w W.drew) := (hBW _ _ HB3.out (by omega)).drew
    obtain ⟨_, z0, z1, z2, z3, z4, f0, f1, f2, f3, f4⟩ := HO3.out
    have YD : Hid (Ow W.drew (w.heap.size + 1) (.slice none 0 0) (.int .i64 0) (.int .i64 0) (.int .i64 0) (.int .i64 0)) := hOW.drew
    obtain ⟨_, y0, y1, y2, y3, y4, _, _, _, _, _⟩ := YD.out
    have hne : ¬ w.heap.size + 1 = 0 := by omega
    clear hW hBW hsW hcW
    generalize w.heap.size + 1 = zb at YD HW z0 z1 z2 z3 z4 f0 f1 f2 f3 f4 y0 y1 y2 y3 y4 hne ⊢
    go_upto_region 4 with fail
    go_region
    all_goals go_wp2
    all_goals rw [← HW.out]
    all_goals refine bodyPost_ret (v := .tuple #[.agg #[.slice none 0 0, .int .i64 0, .int .i64 0, .int .i64 0, .int .i64 0], .iface 175 (.pointer (some a))]) (by simp [results, Tryz.f33, go_sem, y0, y1, y2, y3, y4]) rfl ?_
    all_goals exact .inr ⟨HT.out, rfl, HBW.out⟩

theorem ownerOf (g off cap : Nat) (L : List K) (h : Hd) (a : Addr) (w : World) (hlen : L.length ≤ 1099511627776) (hw : WordsOk L) (hk : H64 h) (hr : RdK w (some ⟨g, off, none⟩) L) (hn : NoH w a) :
    Calls Tryz.prog 33 #[.slice (some ⟨g, off, none⟩) L.length cap, .agg #[.int .i64 h.who, .int .i64 h.has, .int .i64 h.kept, .int .i64 h.last]] w (OwnerPost L h a w) :=
  ownerOfA (some ⟨g, off, none⟩) cap L h a w (fun V hV => Lc.laceOf g off cap L V hlen hw (hr.below hV)) hk hn

/-- of the nil list -/
theorem laceOfN (w : World) : Calls Tryz.prog 51 #[.slice none 0 0] w (Lc.LacePost [] w) := by
  obtain ⟨i0, hi, hz0, hz1, hz2⟩ := info_parts Lc.infoK
  have hmk : ∀ W : World, (Instr.makeSlice 46 (.int .i64 0) (.int .i64 60)).run Tryz.prog W = .ok (.slice (some ⟨W.heap.size, 0, none⟩) 0 60) (W.alloc (.cells (madeCells (Value.agg #[.int .i64 0, .int .i64 0, .int .i64 0, .string ⟨#[]⟩]).cells (60 * 4)) 103)) := by
    intro W
    have := run_make (P := Tryz.prog) W 46 103 i0 _ Tryz.underlying46 hi hz0 .i64 .i64 0 60 (by omega) (by omega) (by rw [hz2]; omega) (by omega)
    rw [hz1] at this
    exact this
  generalize (Value.agg #[.int .i64 0, .int .i64 0, .int .i64 0, .string ⟨#[]⟩]).cells = zc at hmk
  generalize madeCells zc (60 * 4) = mc at hmk
  go_enter Tryz.func51, Tryz.ntmps51
  go_wp2
  refine wp_loop_rounds 1 ?_
  rw [rounds_succ]
  go_wp2
  go_ret2
  exact .inl ⟨rfl, w.heap.size, rfl, by simp, .inl rfl, (Below.refl _ _).alloc (Nat.le_refl _) _⟩

end Rm
end Go.Proofs.YtihmmephgjpgaaaGreatDoor

namespace Go.Proofs.YtihmmephgjpgaaaGreatDoor
open Go.RowKit
set_option maxRecDepth 100000
set_option linter.unusedVariables false
namespace Rm
open Kn (K okK)
open Bit (bit withB)
open Lc (at' RdK laceB WordsOk)
open Sg (bel belows closedTo orB)

set_option maxHeartbeats 1600000 in
theorem implHandOkA (ao : Option Addr) (cap : Nat) (L : List K) (h : Hd) (a : Addr) (w : World) (hla0 : ∀ V : World, Below w.heap.size w V → Calls Tryz.prog 51 #[.slice ao L.length cap] V (Lc.LacePost L V)) (hk : H64 h) (hn : NoH w a) :
    Calls Tryz.prog 13 #[.slice ao L.length cap, .agg #[.int .i64 h.who, .int .i64 h.has, .int .i64 h.kept, .int .i64 h.last]] w fun e w' => e = .returned (.bool (handOkB L h)) ∧ Below w.heap.size w w' := by
  have P0 : Hid (Below w.heap.size w (w.alloc (.cells #[.int .i64 h.who, .int .i64 h.has, .int .i64 h.kept, .int .i64 h.last] 26)) ∧ HAt (w.alloc (.cells #[.int .i64 h.who, .int .i64 h.has, .int .i64 h.kept, .int .i64 h.last] 26)) w.heap.size 0 h) := ⟨(Below.refl _ _).alloc (Nat.le_refl _) _, hat_new w h _⟩
  go_enter Tryz.func13, Tryz.ntmps13
  go_upto_region 1 with fail
  generalize w.alloc (.cells #[.int .i64 h.who, .int .i64 h.has, .int .i64 h.kept, .int .i64 h.last] 26) = V at P0 ⊢
  have HB0 : Hid (Below w.heap.size w V) := P0.out.1
  obtain ⟨a0, a1, a2, a3⟩ := cellsH P0.out.2
  have ho := ownerOfA ao cap L h a V (fun X hX => hla0 X (HB0.out.trans (hX.mono HB0.out.size))) hk (hn.below HB0.out)
  clear P0 hla0 hn
  go_wp2_with fail
  refine ho.mono ?_
  clear ho
  intro e w1 hp
  rcases hp with ⟨hl, g1, rfl, hg1, hr1, hb1⟩ | ⟨hl, rfl, hb1⟩
  all_goals
    have HT : Hid (handOkB L h = _) := hl
    have HB1 : Hid (Below w.heap.size w w1) := HB0.out.trans (hb1.mono HB0.out.size)
    clear hl hb1 HB0
    go_wp2
    go_ret
    exact ⟨by rw [HT.out]; rfl, HB1.out.alloc HB1.out.size _⟩

theorem implHandOk (g off cap : Nat) (L : List K) (h : Hd) (a : Addr) (w : World) (hlen : L.length ≤ 1099511627776) (hw : WordsOk L) (hk : H64 h) (hr : RdK w (some ⟨g, off, none⟩) L) (hn : NoH w a) :
    Calls Tryz.prog 13 #[.slice (some ⟨g, off, none⟩) L.length cap, .agg #[.int .i64 h.who, .int .i64 h.has, .int .i64 h.kept, .int .i64 h.last]] w fun e w' => e = .returned (.bool (handOkB L h)) ∧ Below w.heap.size w w' :=
  implHandOkA (some ⟨g, off, none⟩) cap L h a w (fun V hV => Lc.laceOf g off cap L V hlen hw (hr.below hV)) hk hn
theorem implHandOkN (h : Hd) (a : Addr) (w : World) (hk : H64 h) (hn : NoH w a) :
    Calls Tryz.prog 13 #[.slice none 0 0, .agg #[.int .i64 h.who, .int .i64 h.has, .int .i64 h.kept, .int .i64 h.last]] w fun e w' => e = .returned (.bool (handOkB [] h)) ∧ Below w.heap.size w w' :=
  implHandOkA none 0 [] h a w (fun V _ => laceOfN V) hk hn

theorem last_same {L : List K} {who s t : Int} (hs : ∀ i, (at' L i).hand = who → bit s i = bit t i) : ∀ n, lastTo L who s n = lastTo L who t n := by
  intro n
  induction n with
  | zero => rfl
  | succ n ih =>
    have e1 : lastTo L who s (n + 1) = if bit s n && (decide ((at' L n).hand = who) && (decide (lastTo L who s n < 0) || decide ((at' L (lastTo L who s n).toNat).round < (at' L n).round))) then (n : Int) else lastTo L who s n := rfl
    have e2 : lastTo L who t (n + 1) = if bit t n && (decide ((at' L n).hand = who) && (decide (lastTo L who t n < 0) || decide ((at' L (lastTo L who t n).toNat).round < (at' L n).round))) then (n : Int) else lastTo L who t n := rfl
    rw [e1, e2, ih]
    by_cases hq : (at' L n).hand = who
    · rw [hs n hq]
    · rw [decide_eq_false hq]; simp
theorem last_own {L : List K} {h : Hd} (hk : H64 h) (ok : handOkB L h = true) : lastTo L h.who h.has L.length = h.last := by
  have x := hand_is hk ok
  rw [x.last]
  refine last_same (fun i hi => ?_) L.length
  rw [Bool.eq_iff_iff]
  exact ⟨fun hb => x.own i hb hi, fun hb => x.sub i hb⟩

set_option maxHeartbeats 3200000 in
theorem settledKeeps (g off cap : Nat) (L : List K) (h : Hd) (a : Addr) (w : World) (hlen : L.length ≤ 1099511627776) (hw : WordsOk L) (hk : H64 h) (hr : RdK w (some ⟨g, off, none⟩) L) (hn : NoH w a) :
    Calls Tryz.prog 26 #[.slice (some ⟨g, off, none⟩) L.length cap, .agg #[.int .i64 h.who, .int .i64 h.has, .int .i64 h.kept, .int .i64 h.last], .func (.func 27) #[] #[]] w fun e w' => e = .returned (.agg #[.int .i64 (keptH L h).who, .int .i64 (keptH L h).has, .int .i64 (keptH L h).kept, .int .i64 (keptH L h).last]) ∧ Below w.heap.size w w' := by
  have P0 : Hid (HzO w ((w.alloc (.cells #[.int .i64 h.who, .int .i64 h.has, .int .i64 h.kept, .int .i64 h.last] 26)).alloc (.cells #[.int .i64 0, .int .i64 0, .int .i64 0, .int .i64 0] 26)) h ⟨0, 0, 0, 0⟩) := hzo_new w h _
  go_enter Tryz.func26, Tryz.ntmps26
  go_upto_region 1 with fail
  generalize (w.alloc (.cells #[.int .i64 h.who, .int .i64 h.has, .int .i64 h.kept, .int .i64 h.last] 26)).alloc (.cells #[.int .i64 0, .int .i64 0, .int .i64 0, .int .i64 0] 26) = V at P0 ⊢
  obtain ⟨a0, a1, a2, a3⟩ := cellsH P0.out.hh
  have ho := ownerOf g off cap L h a V hlen hw hk (hr.below P0.out.bel) (hn.below P0.out.bel)
  clear hr hn
  go_wp2_with fail
  refine ho.mono ?_
  clear ho a0 a1 a2 a3
  intro e w1 hp
  rcases hp with ⟨hl, g1, rfl, hg1, hr1, hb1⟩ | ⟨hl, rfl, hb1⟩
  · have HT : Hid (keptH L h = ⟨h.who, h.has, h.has, h.last⟩) := by
      show _ = _
      unfold keptH
      rw [if_pos hl]; rw [last_own hk hl]
    have P1 : Hid (HzO w w1 h ⟨0, 0, 0, 0⟩) := P0.out.below hb1
    have HQ : Hid (HzO w (w1.alloc (.cells #[.slice (some ⟨g1, 0, none⟩) L.length L.length, .int .i64 h.who, .int .i64 h.has, .int .i64 h.kept, .int .i64 h.last] 50)) h ⟨0, 0, 0, 0⟩ ∧ Ow (w1.alloc (.cells #[.slice (some ⟨g1, 0, none⟩) L.length L.length, .int .i64 h.who, .int .i64 h.has, .int .i64 h.kept, .int .i64 h.last] 50)) w1.heap.size (.slice (some ⟨g1, 0, none⟩) L.length L.length) (.int .i64 h.who) (.int .i64 h.has) (.int .i64 h.kept) (.int .i64 h.last)) := ⟨P1.out.below ((Below.refl _ _).alloc (Nat.le_refl _) _), ow_new w1 _ _ _ _ _ _⟩
    clear hl hb1 P0 P1
    go_upto_region 2 with fail
    generalize w1.alloc (.cells #[.slice (some ⟨g1, 0, none⟩) L.length L.length, .int .i64 h.who, .int .i64 h.has, .int .i64 h.kept, .int .i64 h.last] 50) = V2 at HQ ⊢
    have P2 : Hid (HzO w V2 h ⟨0, 0, 0, 0⟩) := HQ.out.1
    obtain ⟨_, x0, x1, x2, x3, x4, _, _, _, _, _⟩ := HQ.out.2
    clear HQ
    generalize w1.heap.size = xb at x0 x1 x2 x3 x4 ⊢
    go_wp2_with fail
    refine (keeps g1 L.length L.length h _).mono ?_
    rintro e w3 ⟨rfl, hb3⟩
    have P3 : Hid (HzO w w3 h ⟨0, 0, 0, 0⟩) := P2.out.below hb3
    clear P2 hb3 x0 x1 x2 x3 x4
    go_wp2_with fail
    refine (handedOut _ ⟨h.who, h.has, h.has, h.last⟩ _).mono ?_
    rintro e w4 ⟨rfl, hb4⟩
    have P4 : Hid (HzO w w4 h ⟨0, 0, 0, 0⟩) := P3.out.below hb4
    clear P3 hb4
    obtain ⟨W, hW, b0, b1, b2, b3, hB⟩ := P4.out.put ⟨h.who, h.has, h.has, h.last⟩
    have HW : Hid (W = _) := hW
    obtain ⟨z0, z1, z2, z3⟩ := cellsH P4.out.zz
    have f0 := P4.out.zz.f0
    have f1 := P4.out.zz.f1
    have f2 := P4.out.zz.f2
    have f3 := P4.out.zz.f3
    simp only [Nat.zero_add] at f1 f2 f3
    dsimp only at b0 b1 b2 b3 HW
    clear hW
    go_wp2
    rw [← HW.out]
    refine bodyPost_ret (v := .agg #[.int .i64 h.who, .int .i64 h.has, .int .i64 h.has, .int .i64 h.last]) (by simp [results, Tryz.f26, go_sem, b0, b1, b2, b3]) rfl ?_
    exact ⟨by rw [HT.out], hB⟩
  · have HT : Hid (keptH L h = ⟨0, 0, 0, 0⟩) := by
      show _ = _
      unfold keptH
      rw [hl]; rfl
    have P1 : Hid (HzO w w1 h ⟨0, 0, 0, 0⟩) := P0.out.below hb1
    have HQ : Hid (HzO w (w1.alloc (.cells #[.slice none 0 0, .int .i64 0, .int .i64 0, .int .i64 0, .int .i64 0] 50)) h ⟨0, 0, 0, 0⟩) := P1.out.below ((Below.refl _ _).alloc (Nat.le_refl _) _)
    clear hl hb1 P0 P1
    go_upto_region 2 with fail
    generalize w1.alloc (.cells #[.slice none 0 0, .int .i64 0, .int .i64 0, .int .i64 0, .int .i64 0] 50) = V2 at HQ ⊢
    obtain ⟨W, hW, b0, b1, b2, b3, hB⟩ := HQ.out.put ⟨0, 0, 0, 0⟩
    have HW : Hid (W = _) := hW
    obtain ⟨z0, z1, z2, z3⟩ := cellsH HQ.out.zz
    have f0 := HQ.out.zz.f0
    have f1 := HQ.out.zz.f1
    have f2 := HQ.out.zz.f2
    have f3 := HQ.out.zz.f3
    simp only [Nat.zero_add] at f1 f2 f3
    dsimp only at b0 b1 b2 b3 HW
    clear hW
    go_wp2
    rw [← HW.out]
    refine bodyPost_ret (v := .agg #[.int .i64 0, .int .i64 0, .int .i64 0, .int .i64 0]) (by simp [results, Tryz.f26, go_sem, b0, b1, b2, b3]) rfl ?_
    exact ⟨by rw [HT.out], hB⟩

set_option maxHeartbeats 1600000 in
theorem implKeeps (g off cap : Nat) (L : List K) (h : Hd) (a : Addr) (w : World) (hlen : L.length ≤ 1099511627776) (hw : WordsOk L) (hk : H64 h) (hr : RdK w (some ⟨g, off, none⟩) L) (hn : NoH w a) :
    Calls Tryz.prog 7 #[.slice (some ⟨g, off, none⟩) L.length cap, .agg #[.int .i64 h.who, .int .i64 h.has, .int .i64 h.kept, .int .i64 h.last]] w fun e w' => e = .returned (.agg #[.int .i64 (keptH L h).who, .int .i64 (keptH L h).has, .int .i64 (keptH L h).kept, .int .i64 (keptH L h).last]) ∧ Below w.heap.size w w' := by
  have P0 : Hid (HzO w ((w.alloc (.cells #[.int .i64 h.who, .int .i64 h.has, .int .i64 h.kept, .int .i64 h.last] 26)).alloc (.cells #[.int .i64 0, .int .i64 0, .int .i64 0, .int .i64 0] 26)) h ⟨0, 0, 0, 0⟩) := hzo_new w h _
  go_enter Tryz.func7, Tryz.ntmps7
  go_upto_region 1 with fail
  generalize (w.alloc (.cells #[.int .i64 h.who, .int .i64 h.has, .int .i64 h.kept, .int .i64 h.last] 26)).alloc (.cells #[.int .i64 0, .int .i64 0, .int .i64 0, .int .i64 0] 26) = V at P0 ⊢
  obtain ⟨a0, a1, a2, a3⟩ := cellsH P0.out.hh
  have ho := settledKeeps g off cap L h a V hlen hw hk (hr.below P0.out.bel) (hn.below P0.out.bel)
  clear hr hn
  generalize hxe : keptH L h = hx at ho
  have HXE : Hid (keptH L h = hx) := hxe
  clear hxe
  go_wp2_with fail
  refine ho.mono ?_
  clear ho a0 a1 a2 a3
  rintro e w1 ⟨rfl, hb1⟩
  have P1 : Hid (HzO w w1 h ⟨0, 0, 0, 0⟩) := P0.out.below hb1
  obtain ⟨W, hW, b0, b1, b2, b3, hB⟩ := P1.out.put hx
  have HW : Hid (W = _) := hW
  obtain ⟨z0, z1, z2, z3⟩ := cellsH P1.out.zz
  have f0 := P1.out.zz.f0
  have f1 := P1.out.zz.f1
  have f2 := P1.out.zz.f2
  have f3 := P1.out.zz.f3
  simp only [Nat.zero_add] at f1 f2 f3
  clear hW P0 hb1
  go_wp2
  rw [← HW.out]
  refine bodyPost_ret (v := .agg #[.int .i64 hx.who, .int .i64 hx.has, .int .i64 hx.kept, .int .i64 hx.last]) (by simp [results, Tryz.f7, go_sem, b0, b1, b2, b3]) rfl ?_
  exact ⟨by rw [HXE.out], hB⟩

set_option maxHeartbeats 3200000 in
theorem settledForgets (g off cap : Nat) (L : List K) (h : Hd) (a : Addr) (w : World) (hlen : L.length ≤ 1099511627776) (hw : WordsOk L) (hk : H64 h) (hr : RdK w (some ⟨g, off, none⟩) L) (hn : NoH w a) :
    Calls Tryz.prog 26 #[.slice (some ⟨g, off, none⟩) L.length cap, .agg #[.int .i64 h.who, .int .i64 h.has, .int .i64 h.kept, .int .i64 h.last], .func (.func 28) #[] #[]] w fun e w' => e = .returned (.agg #[.int .i64 (forgotH L h).who, .int .i64 (forgotH L h).has, .int .i64 (forgotH L h).kept, .int .i64 (forgotH L h).last]) ∧ Below w.heap.size w w' := by
  have P0 : Hid (HzO w ((w.alloc (.cells #[.int .i64 h.who, .int .i64 h.has, .int .i64 h.kept, .int .i64 h.last] 26)).alloc (.cells #[.int .i64 0, .int .i64 0, .int .i64 0, .int .i64 0] 26)) h ⟨0, 0, 0, 0⟩) := hzo_new w h _
  go_enter Tryz.func26, Tryz.ntmps26
  go_upto_region 1 with fail
  generalize (w.alloc (.cells #[.int .i64 h.who, .int .i64 h.has, .int .i64 h.kept, .int .i64 h.last] 26)).alloc (.cells #[.int .i64 0, .int .i64 0, .int .i64 0, .int .i64 0] 26) = V at P0 ⊢
  obtain ⟨a0, a1, a2, a3⟩ := cellsH P0.out.hh
  have ho := ownerOf g off cap L h a V hlen hw hk (hr.below P0.out.bel) (hn.below P0.out.bel)
  clear hr hn
  go_wp2_with fail
  refine ho.mono ?_
  clear ho a0 a1 a2 a3
  intro e w1 hp
  rcases hp with ⟨hl, g1, rfl, hg1, hr1, hb1⟩ | ⟨hl, rfl, hb1⟩
  · have HT : Hid (forgotH L h = ⟨h.who, h.kept, h.kept, h.last⟩) := by
      show _ = _
      unfold forgotH
      rw [if_pos hl]
    have P1 : Hid (HzO w w1 h ⟨0, 0, 0, 0⟩) := P0.out.below hb1
    have HQ : Hid (HzO w (w1.alloc (.cells #[.slice (some ⟨g1, 0, none⟩) L.length L.length, .int .i64 h.who, .int .i64 h.has, .int .i64 h.kept, .int .i64 h.last] 50)) h ⟨0, 0, 0, 0⟩ ∧ Ow (w1.alloc (.cells #[.slice (some ⟨g1, 0, none⟩) L.length L.length, .int .i64 h.who, .int .i64 h.has, .int .i64 h.kept, .int .i64 h.last] 50)) w1.heap.size (.slice (some ⟨g1, 0, none⟩) L.length L.length) (.int .i64 h.who) (.int .i64 h.has) (.int .i64 h.kept) (.int .i64 h.last)) := ⟨P1.out.below ((Below.refl _ _).alloc (Nat.le_refl _) _), ow_new w1 _ _ _ _ _ _⟩
    clear hl hb1 P0 P1
    go_upto_region 2 with fail
    generalize w1.alloc (.cells #[.slice (some ⟨g1, 0, none⟩) L.length L.length, .int .i64 h.who, .int .i64 h.has, .int .i64 h.kept, .int .i64 h.last] 50) = V2 at HQ ⊢
    have P2 : Hid (HzO w V2 h ⟨0, 0, 0, 0⟩) := HQ.out.1
    obtain ⟨_, x0, x1, x2, x3, x4, _, _, _, _, _⟩ := HQ.out.2
    clear HQ
    generalize w1.heap.size = xb at x0 x1 x2 x3 x4 ⊢
    go_wp2_with fail
    refine (forgets g1 L.length L.length h _).mono ?_
    rintro e w3 ⟨rfl, hb3⟩
    have P3 : Hid (HzO w w3 h ⟨0, 0, 0, 0⟩) := P2.out.below hb3
    clear P2 hb3 x0 x1 x2 x3 x4
    go_wp2_with fail
    refine (handedOut _ ⟨h.who, h.kept, h.kept, h.last⟩ _).mono ?_
    rintro e w4 ⟨rfl, hb4⟩
    have P4 : Hid (HzO w w4 h ⟨0, 0, 0, 0⟩) := P3.out.below hb4
    clear P3 hb4
    obtain ⟨W, hW, b0, b1, b2, b3, hB⟩ := P4.out.put ⟨h.who, h.kept, h.kept, h.last⟩
    have HW : Hid (W = _) := hW
    obtain ⟨z0, z1, z2, z3⟩ := cellsH P4.out.zz
    have f0 := P4.out.zz.f0
    have f1 := P4.out.zz.f1
    have f2 := P4.out.zz.f2
    have f3 := P4.out.zz.f3
    simp only [Nat.zero_add] at f1 f2 f3
    dsimp only at b0 b1 b2 b3 HW
    clear hW
    go_wp2
    rw [← HW.out]
    refine bodyPost_ret (v := .agg #[.int .i64 h.who, .int .i64 h.kept, .int .i64 h.kept, .int .i64 h.last]) (by simp [results, Tryz.f26, go_sem, b0, b1, b2, b3]) rfl ?_
    exact ⟨by rw [HT.out], hB⟩
  · have HT : Hid (forgotH L h = ⟨0, 0, 0, 0⟩) := by
      show _ = _
      unfold forgotH
      rw [hl]; rfl
    have P1 : Hid (HzO w w1 h ⟨0, 0, 0, 0⟩) := P0.out.below hb1
    have HQ : Hid (HzO w (w1.alloc (.cells #[.slice none 0 0, .int .i64 0, .int .i64 0, .int .i64 0, .int .i64 0] 50)) h ⟨0, 0, 0, 0⟩) := P1.out.below ((Below.refl _ _).alloc (Nat.le_refl _) _)
    clear hl hb1 P0 P1
    go_upto_region 2 with fail
    generalize w1.alloc (.cells #[.slice none 0 0, .int .i64 0, .int .i64 0, .int .i64 0, .int .i64 0] 50) = V2 at HQ ⊢
    obtain ⟨W, hW, b0, b1, b2, b3, hB⟩ := HQ.out.put ⟨0, 0, 0, 0⟩
    have HW : Hid (W = _) := hW
    obtain ⟨z0, z1, z2, z3⟩ := cellsH HQ.out.zz
    have f0 := HQ.out.zz.f0
    have f1 := HQ.out.zz.f1
    have f2 := HQ.out.zz.f2
    have f3 := HQ.out.zz.f3
    simp only [Nat.zero_add] at f1 f2 f3
    dsimp only at b0 b1 b2 b3 HW
    clear hW
    go_wp2
    rw [← HW.out]
    refine bodyPost_ret (v := .agg #[.int .i64 0, .int .i64 0, .int .i64 0, .int .i64 0]) (by simp [results, Tryz.f26, go_sem, b0, b1, b2, b3]) rfl ?_
    exact ⟨by rw [HT.out], hB⟩

set_option maxHeartbeats 1600000 in
theorem implForgets (g off cap : Nat) (L : List K) (h : Hd) (a : Addr) (w : World) (hlen : L.length ≤ 1099511627776) (hw : WordsOk L) (hk : H64 h) (hr : RdK w (some ⟨g, off, none⟩) L) (hn : NoH w a) :
    Calls Tryz.prog 8 #[.slice (some ⟨g, off, none⟩) L.length cap, .agg #[.int .i64 h.who, .int .i64 h.has, .int .i64 h.kept, .int .i64 h.last]] w fun e w' => e = .returned (.agg #[.int .i64 (forgotH L h).who, .int .i64 (forgotH L h).has, .int .i64 (forgotH L h).kept, .int .i64 (forgotH L h).last]) ∧ Below w.heap.size w w' := by
  have P0 : Hid (HzO w ((w.alloc (.cells #[.int .i64 h.who, .int .i64 h.has, .int .i64 h.kept, .int .i64 h.last] 26)).alloc (.cells #[.int .i64 0, .int .i64 0, .int .i64 0, .int .i64 0] 26)) h ⟨0, 0, 0, 0⟩) := hzo_new w h _
  go_enter Tryz.func8, Tryz.ntmps8
  go_upto_region 1 with fail
  generalize (w.alloc (.cells #[.int .i64 h.who, .int .i64 h.has, .int .i64 h.kept, .int .i64 h.last] 26)).alloc (.cells #[.int .i64 0, .int .i64 0, .int .i64 0, .int .i64 0] 26) = V at P0 ⊢
  obtain ⟨a0, a1, a2, a3⟩ := cellsH P0.out.hh
  have ho := settledForgets g off cap L h a V hlen hw hk (hr.below P0.out.bel) (hn.below P0.out.bel)
  clear hr hn
  generalize hxe : forgotH L h = hx at ho
  have HXE : Hid (forgotH L h = hx) := hxe
  clear hxe
  go_wp2_with fail
  refine ho.mono ?_
  clear ho a0 a1 a2 a3
  rintro e w1 ⟨rfl, hb1⟩
  have P1 : Hid (HzO w w1 h ⟨0, 0, 0, 0⟩) := P0.out.below hb1
  obtain ⟨W, hW, b0, b1, b2, b3, hB⟩ := P1.out.put hx
  have HW : Hid (W = _) := hW
  obtain ⟨z0, z1, z2, z3⟩ := cellsH P1.out.zz
  have f0 := P1.out.zz.f0
  have f1 := P1.out.zz.f1
  have f2 := P1.out.zz.f2
  have f3 := P1.out.zz.f3
  simp only [Nat.zero_add] at f1 f2 f3
  clear hW P0 hb1
  go_wp2
  rw [← HW.out]
  refine bodyPost_ret (v := .agg #[.int .i64 hx.who, .int .i64 hx.has, .int .i64 hx.kept, .int .i64 hx.last]) (by simp [results, Tryz.f8, go_sem, b0, b1, b2, b3]) rfl ?_
  exact ⟨by rw [HXE.out], hB⟩

end Rm
end Go.Proofs.YtihmmephgjpgaaaGreatDoor

namespace Go.Proofs.YtihmmephgjpgaaaGreatDoor
open Go.RowKit
set_option maxRecDepth 100000
namespace Rm

set_option maxHeartbeats 800000 in
theorem implNewHand (who : Int) (w : World) : Calls Tryz.prog 10 #[.int .i64 who] w fun e w' => e = .returned (.tuple #[.agg #[.int .i64 (newHandH who).who, .int .i64 (newHandH who).has, .int .i64 (newHandH who).kept, .int .i64 (newHandH who).last], .bool (Kn.in3 who)]) ∧ Below w.heap.size w w' := by
  cases hq : Kn.in3 who
  · have HT : Hid (newHandH who = ⟨0, 0, 0, 0⟩) := by show _ = _; unfold newHandH; rw [hq]; rfl
    have HQ : Hid (Kn.in3 who = false) := hq
    clear hq
    go_enter Tryz.func10, Tryz.ntmps10
    go_wp2_with (go_at_call 31; refine (Kn.known _ _).mono ?_; rintro e w' ⟨rfl, rfl⟩; rw [HQ.out])
    refine bodyPost_ret (v := .tuple #[.agg #[.int .i64 0, .int .i64 0, .int .i64 0, .int .i64 0], .bool false]) (by simp [results, Tryz.f10, go_sem]) rfl ?_
    exact ⟨by rw [HT.out], (Below.refl _ _).alloc (Nat.le_refl _) _⟩
  · have HT : Hid (newHandH who = ⟨who, 0, 0, -1⟩) := by show _ = _; unfold newHandH; rw [hq]; rfl
    have HQ : Hid (Kn.in3 who = true) := hq
    clear hq
    go_enter Tryz.func10, Tryz.ntmps10
    go_wp2_with (go_at_call 31; refine (Kn.known _ _).mono ?_; rintro e w' ⟨rfl, rfl⟩; rw [HQ.out])
    refine bodyPost_ret (v := .tuple #[.agg #[.int .i64 who, .int .i64 0, .int .i64 0, .int .i64 (-1)], .bool true]) (by simp [results, Tryz.f10, go_sem]) rfl ?_
    exact ⟨by rw [HT.out], (Below.refl _ _).alloc (Nat.le_refl _) _⟩


end Rm
end Go.Proofs.YtihmmephgjpgaaaGreatDoor

namespace Go.Proofs.YtihmmephgjpgaaaGreatDoor
open Go.RowKit
set_option maxRecDepth 100000
set_option linter.unusedVariables false
namespace Rm
open Kn (K okK)
open Lc (at' RdK laceB)

theorem hnS : Tryz.prog.stoodInHeld 26 = false := by kernel_rfl
theorem hnF : Tryz.prog.underlying 26 = some (.struct (Tryz.prog.fieldsOf 26)) := by kernel_rfl
theorem hand_ne (a b c d : Int) (W : World) : (binOp .neq 26 (.agg #[.int .i64 a, .int .i64 b, .int .i64 c, .int .i64 d]) (.agg #[.int .i64 a, .int .i64 b, .int .i64 c, .int .i64 d])).run Tryz.prog W = .ok (.bool false) W := by
  rw [run_neq_struct, run_equalIn_agg W 9999 26 _ _ hnF hnS]
  simp only [Program.fieldsOf, Tryz.underlying26]
  simp [go_sem, Op.eqFields, Tryz.underlying2]
theorem hand_eq (a b c d : Int) (W : World) : (binOp .eql 26 (.agg #[.int .i64 a, .int .i64 b, .int .i64 c, .int .i64 d]) (.agg #[.int .i64 a, .int .i64 b, .int .i64 c, .int .i64 d])).run Tryz.prog W = .ok (.bool true) W := by
  rw [run_eql_struct, run_equalIn_agg W 9999 26 _ _ hnF hnS]
  simp only [Program.fieldsOf, Tryz.underlying26]
  simp [go_sem, Op.eqFields, Tryz.underlying2]

/-- a list that lies there, and the error that says that it is no right hand -/
structure LiesN (w : World) (g : Nat) (L : List K) : Prop where
  ls : LiesS w g L
  no : NoHs w
theorem LiesN.below {w w' : World} {g : Nat} {L : List K} (h : LiesN w g L) (hb : Below w.heap.size w w') : LiesN w' g L := ⟨h.ls.below hb, h.no.below hb⟩
theorem LiesN.words {w : World} {g : Nat} {L : List K} (h : LiesN w g L) : Lc.WordsOk L := h.ls.words
theorem LiesN.rd {w : World} {g : Nat} {L : List K} (h : LiesN w g L) : RdK w (some ⟨g, 0, none⟩) L := h.ls.rd

def ImplKeeps : Prop := ∀ (g cap : Nat) (L : List K) (h : Hd) (w : World), LiesN w g L → L.length ≤ cap → H64 h → Calls Tryz.prog 7 #[.slice (some ⟨g, 0, none⟩) L.length cap, .agg #[.int .i64 h.who, .int .i64 h.has, .int .i64 h.kept, .int .i64 h.last]] w fun e w' => e = .returned (.agg #[.int .i64 (keptH L h).who, .int .i64 (keptH L h).has, .int .i64 (keptH L h).kept, .int .i64 (keptH L h).last]) ∧ Below w.heap.size w w'
def ImplForgets : Prop := ∀ (g cap : Nat) (L : List K) (h : Hd) (w : World), LiesN w g L → L.length ≤ cap → H64 h → Calls Tryz.prog 8 #[.slice (some ⟨g, 0, none⟩) L.length cap, .agg #[.int .i64 h.who, .int .i64 h.has, .int .i64 h.kept, .int .i64 h.last]] w fun e w' => e = .returned (.agg #[.int .i64 (forgotH L h).who, .int .i64 (forgotH L h).has, .int .i64 (forgotH L h).kept, .int .i64 (forgotH L h).last]) ∧ Below w.heap.size w w'
def ImplNewHand : Prop := ∀ (k : Int) (w : World), Calls Tryz.prog 10 #[.int .i64 k] w fun e w' => e = .returned (.tuple #[.agg #[.int .i64 (newHandH k).who, .int .i64 (newHandH k).has, .int .i64 (newHandH k).kept, .int .i64 (newHandH k).last], .bool (Kn.in3 k)]) ∧ Below w.heap.size w w'
def ImplHandOk : Prop := ∀ (g cap : Nat) (L : List K) (h : Hd) (w : World), LiesN w g L → L.length ≤ cap → H64 h → Calls Tryz.prog 13 #[.slice (some ⟨g, 0, none⟩) L.length cap, .agg #[.int .i64 h.who, .int .i64 h.has, .int .i64 h.kept, .int .i64 h.last]] w fun e w' => e = .returned (.bool (handOkB L h)) ∧ Below w.heap.size w w'
def ImplHandOkN : Prop := ∀ (h : Hd) (w : World), NoHs w → H64 h → Calls Tryz.prog 13 #[.slice none 0 0, .agg #[.int .i64 h.who, .int .i64 h.has, .int .i64 h.kept, .int .i64 h.last]] w fun e w' => e = .returned (.bool (handOkB [] h)) ∧ Below w.heap.size w w'

theorem new_64 (k : Int) : H64 (newHandH k) := by
  unfold newHandH
  split
  · exact ⟨by simp, by simp, by simp, by simp⟩
  · exact ⟨by simp, by simp, by simp, by simp⟩
theorem new_ok {k : Int} (h : Kn.in3 k = true) : handOkB [] (newHandH k) = true := by
  unfold newHandH handOkB hokB
  rw [if_pos h]
  simp only [h]
  rfl

set_option maxHeartbeats 12800000 in
theorem handsWalk (HI1 : ImplKeeps) (HI2 : ImplForgets) (HI3 : ImplNewHand) (HI4 : ImplHandOk) (HI5 : ImplHandOkN) (HD : DrawsRoom) (HDC : DrawsRoomC) (a0 : Option Addr) (len0 cap0 : Nat) (w : World) (hcode : Cur.Code w a0 len0) (hno : NoHs w) :
    Calls Tryz.prog 3 #[.slice a0 len0 cap0] w fun e w' => e = .returned (.bool true) ∧ Below w.heap.size w w' := by
  by_cases hbig : 4096 < len0
  · have hb' : (4096 : Int) < (len0 : Int) := by omega
    go_enter Tryz.func3, Tryz.ntmps3
    go_wp2
    go_ret
    exact ⟨rfl, Below.refl _ _⟩
  · have hb' : ¬ (4096 : Int) < (len0 : Int) := by omega
    have hle0 : len0 ≤ 4096 := by omega
    have HDD : Hid DrawsRoom := HD
    have HDX : Hid DrawsRoomC := HDC
    have H1 : Hid ImplKeeps := HI1
    have H2 : Hid ImplForgets := HI2
    have H3 : Hid ImplNewHand := HI3
    have H4 : Hid ImplHandOk := HI4
    have H5 : Hid ImplHandOkN := HI5
    have HCode : Hid (Cur.Code w a0 len0) := hcode
    have HNO : Hid (NoHs w) := hno
    clear hno
    clear hbig HD HDC hcode HI1 HI2 HI3 HI4 HI5
    go_enter Tryz.func3, Tryz.ntmps3
    go_wp2_with (first | (go_at_call 5; go_in) | fail)
    refine (drawKeeps HDD.out HDX.out a0 len0 cap0 _ hle0 HCode.out).mono ?_
    rintro e w1 ⟨v, L, h, rfl, hD⟩
    obtain ⟨g, cp, rfl, hcp, hL1⟩ := drawn_liesS hD.dr
    have HB_0 : Hid (Below w.heap.size w w1) := hD.dr.bel
    have HL_0 : Hid (LiesN w1 g L) := ⟨hL1, HNO.out.below HB_0.out⟩
    have h64 := hD.h64
    clear hD hL1
    have SK0 : Hid (∀ W : World, LiesN W g L → _) := fun W hW => specKeeps g 0 cp L h W hcp hW.words hW.rd h64
    have SF0 : Hid (∀ W : World, LiesN W g L → _) := fun W hW => specForgets g 0 cp L h W hcp hW.words hW.rd h64
    have SO : Hid (∀ W : World, LiesN W g L → _) := fun W hW => specHandOk g 0 cp L h W hcp hW.words hW.rd h64
    have HK0 : Hid (∀ W : World, LiesN W g L → _) := fun W hW => H1.out g cp L h W hW hcp h64
    have HF0 : Hid (∀ W : World, LiesN W g L → _) := fun W hW => H2.out g cp L h W hW hcp h64
    have HO : Hid (∀ W : World, LiesN W g L → _) := fun W hW => H4.out g cp L h W hW hcp h64
    cases hok : handOkB L h
    · have e1 : keptH L h = ⟨0, 0, 0, 0⟩ := by unfold keptH; rw [hok]; rfl
      have e2 : forgotH L h = ⟨0, 0, 0, 0⟩ := by unfold forgotH; rw [hok]; rfl
      have SK := SK0
      have SF := SF0
      have HK := HK0
      have HF := HF0
      rw [e1] at SK HK
      rw [e2] at SF HF
      rw [hok] at SO HO
      clear SK0 SF0 HK0 HF0 e1 e2
      obtain ⟨who, has, kept, last⟩ := h
      dsimp only at SK SF SO HK HF HO
      have HL_1 : Hid (LiesN (w1.alloc (.cells #[.int .i64 who, .int .i64 has, .int .i64 kept, .int .i64 last] 26)) g L) := HL_0.out.below ((Below.refl _ w1).alloc (Nat.le_refl _) _)
      have HB_1 : Hid (Below w.heap.size w (w1.alloc (.cells #[.int .i64 who, .int .i64 has, .int .i64 kept, .int .i64 last] 26))) := HB_0.out.trans (((Below.refl _ w1).alloc (Nat.le_refl _) _).mono HB_0.out.size)
      have HH_1 : Hid (HAt (w1.alloc (.cells #[.int .i64 who, .int .i64 has, .int .i64 kept, .int .i64 last] 26)) (w1.heap.size) 0 ⟨who, has, kept, last⟩) := hat_new w1 ⟨who, has, kept, last⟩ _
      clear HL_0 HB_0 
      go_wp2_with fail
      refine (HK.out _ HL_1.out).mono ?_
      rintro e w2 ⟨rfl, hb⟩
      have HH_2 : Hid (HAt (w2) (w1.heap.size) 0 ⟨who, has, kept, last⟩) := hat_below HH_1.out hb
      have HL_2 : Hid (LiesN (w2) g L) := HL_1.out.below (hb)
      have HB_2 : Hid (Below w.heap.size w (w2)) := HB_1.out.trans ((hb).mono HB_1.out.size)
      clear HL_1 HB_1 HH_1
      clear hb
      have HH_3 : Hid (HAt (w2.alloc (.cells #[.int .i64 0, .int .i64 0, .int .i64 0, .int .i64 0] 26)) (w1.heap.size) 0 ⟨who, has, kept, last⟩) := hat_below HH_2.out ((Below.refl _ w2).alloc (Nat.le_refl _) _)
      have HL_3 : Hid (LiesN (w2.alloc (.cells #[.int .i64 0, .int .i64 0, .int .i64 0, .int .i64 0] 26)) g L) := HL_2.out.below ((Below.refl _ w2).alloc (Nat.le_refl _) _)
      have HB_3 : Hid (Below w.heap.size w (w2.alloc (.cells #[.int .i64 0, .int .i64 0, .int .i64 0, .int .i64 0] 26))) := HB_2.out.trans (((Below.refl _ w2).alloc (Nat.le_refl _) _).mono HB_2.out.size)
      have HKK_3 : Hid (HAt (w2.alloc (.cells #[.int .i64 0, .int .i64 0, .int .i64 0, .int .i64 0] 26)) (w2.heap.size) 0 ⟨0, 0, 0, 0⟩) := hat_new w2 ⟨0, 0, 0, 0⟩ _
      clear HL_2 HB_2 HH_2
      obtain ⟨c1a, c1b, c1c, c1d⟩ := cellsH HH_3.out
      dsimp only at c1a c1b c1c c1d
      go_wp2_with fail
      refine (HF.out _ HL_3.out).mono ?_
      rintro e w3 ⟨rfl, hb⟩
      have HH_4 : Hid (HAt (w3) (w1.heap.size) 0 ⟨who, has, kept, last⟩) := hat_below HH_3.out hb
      have HKK_4 : Hid (HAt (w3) (w2.heap.size) 0 ⟨0, 0, 0, 0⟩) := hat_below HKK_3.out hb
      have HL_4 : Hid (LiesN (w3) g L) := HL_3.out.below (hb)
      have HB_4 : Hid (Below w.heap.size w (w3)) := HB_3.out.trans ((hb).mono HB_3.out.size)
      clear HL_3 HB_3 HH_3 HKK_3
      clear hb
      have HH_5 : Hid (HAt (w3.alloc (.cells #[.int .i64 0, .int .i64 0, .int .i64 0, .int .i64 0] 26)) (w1.heap.size) 0 ⟨who, has, kept, last⟩) := hat_below HH_4.out ((Below.refl _ w3).alloc (Nat.le_refl _) _)
      have HKK_5 : Hid (HAt (w3.alloc (.cells #[.int .i64 0, .int .i64 0, .int .i64 0, .int .i64 0] 26)) (w2.heap.size) 0 ⟨0, 0, 0, 0⟩) := hat_below HKK_4.out ((Below.refl _ w3).alloc (Nat.le_refl _) _)
      have HL_5 : Hid (LiesN (w3.alloc (.cells #[.int .i64 0, .int .i64 0, .int .i64 0, .int .i64 0] 26)) g L) := HL_4.out.below ((Below.refl _ w3).alloc (Nat.le_refl _) _)
      have HB_5 : Hid (Below w.heap.size w (w3.alloc (.cells #[.int .i64 0, .int .i64 0, .int .i64 0, .int .i64 0] 26))) := HB_4.out.trans (((Below.refl _ w3).alloc (Nat.le_refl _) _).mono HB_4.out.size)
      have HFF_5 : Hid (HAt (w3.alloc (.cells #[.int .i64 0, .int .i64 0, .int .i64 0, .int .i64 0] 26)) (w3.heap.size) 0 ⟨0, 0, 0, 0⟩) := hat_new w3 ⟨0, 0, 0, 0⟩ _
      clear HL_4 HB_4 HH_4 HKK_4
      go_wp2_with fail
      refine (drawNewHand a0 len0 cap0 _ hle0 (code_below2 HCode.out HB_5.out)).mono ?_
      rintro e w4 ⟨nw, rfl, hnw, hb⟩
      have HH_6 : Hid (HAt (w4) (w1.heap.size) 0 ⟨who, has, kept, last⟩) := hat_below HH_5.out hb
      have HKK_6 : Hid (HAt (w4) (w2.heap.size) 0 ⟨0, 0, 0, 0⟩) := hat_below HKK_5.out hb
      have HFF_6 : Hid (HAt (w4) (w3.heap.size) 0 ⟨0, 0, 0, 0⟩) := hat_below HFF_5.out hb
      have HL_6 : Hid (LiesN (w4) g L) := HL_5.out.below (hb)
      have HB_6 : Hid (Below w.heap.size w (w4)) := HB_5.out.trans ((hb).mono HB_5.out.size)
      clear HL_5 HB_5 HH_5 HKK_5 HFF_5
      clear hb
      have HN1 : Hid (∀ W : World, Calls Tryz.prog 10 #[.int .i64 nw] W fun e w' => e = .returned (.tuple #[.agg #[.int .i64 (newHandH nw).who, .int .i64 (newHandH nw).has, .int .i64 (newHandH nw).kept, .int .i64 (newHandH nw).last], .bool (Kn.in3 nw)]) ∧ Below W.heap.size W w') := fun W => H3.out nw W
      have HN2 : Hid (∀ W : World, Calls Tryz.prog 15 #[.int .i64 nw] W fun e w' => e = .returned (.tuple #[.agg #[.int .i64 (newHandH nw).who, .int .i64 (newHandH nw).has, .int .i64 (newHandH nw).kept, .int .i64 (newHandH nw).last], .bool (Kn.in3 nw)]) ∧ Below W.heap.size W w') := fun W => specNewHand nw W
      have HN3 : Hid (Kn.in3 nw = true → ∀ W : World, NoHs W → Calls Tryz.prog 13 #[.slice none 0 0, .agg #[.int .i64 (newHandH nw).who, .int .i64 (newHandH nw).has, .int .i64 (newHandH nw).kept, .int .i64 (newHandH nw).last]] W fun e w' => e = .returned (.bool true) ∧ Below W.heap.size W w') := fun q W hnw => by have := H5.out (newHandH nw) W hnw (new_64 nw); rw [new_ok q] at this; exact this
      generalize Kn.in3 nw = md at HN1 HN2 HN3
      generalize newHandH nw = nh at HN1 HN2 HN3
      obtain ⟨n1, n2, n3, n4⟩ := nh
      dsimp only at HN1 HN2 HN3
      go_wp2_with fail
      refine (HN1.out _).mono ?_
      rintro e w5 ⟨rfl, hb⟩
      have HH_7 : Hid (HAt (w5) (w1.heap.size) 0 ⟨who, has, kept, last⟩) := hat_below HH_6.out hb
      have HKK_7 : Hid (HAt (w5) (w2.heap.size) 0 ⟨0, 0, 0, 0⟩) := hat_below HKK_6.out hb
      have HFF_7 : Hid (HAt (w5) (w3.heap.size) 0 ⟨0, 0, 0, 0⟩) := hat_below HFF_6.out hb
      have HL_7 : Hid (LiesN (w5) g L) := HL_6.out.below (hb)
      have HB_7 : Hid (Below w.heap.size w (w5)) := HB_6.out.trans ((hb).mono HB_6.out.size)
      clear HL_6 HB_6 HH_6 HKK_6 HFF_6
      clear hb
      have HH_8 : Hid (HAt (w5.alloc (.cells #[.int .i64 n1, .int .i64 n2, .int .i64 n3, .int .i64 n4] 26)) (w1.heap.size) 0 ⟨who, has, kept, last⟩) := hat_below HH_7.out ((Below.refl _ w5).alloc (Nat.le_refl _) _)
      have HKK_8 : Hid (HAt (w5.alloc (.cells #[.int .i64 n1, .int .i64 n2, .int .i64 n3, .int .i64 n4] 26)) (w2.heap.size) 0 ⟨0, 0, 0, 0⟩) := hat_below HKK_7.out ((Below.refl _ w5).alloc (Nat.le_refl _) _)
      have HFF_8 : Hid (HAt (w5.alloc (.cells #[.int .i64 n1, .int .i64 n2, .int .i64 n3, .int .i64 n4] 26)) (w3.heap.size) 0 ⟨0, 0, 0, 0⟩) := hat_below HFF_7.out ((Below.refl _ w5).alloc (Nat.le_refl _) _)
      have HL_8 : Hid (LiesN (w5.alloc (.cells #[.int .i64 n1, .int .i64 n2, .int .i64 n3, .int .i64 n4] 26)) g L) := HL_7.out.below ((Below.refl _ w5).alloc (Nat.le_refl _) _)
      have HB_8 : Hid (Below w.heap.size w (w5.alloc (.cells #[.int .i64 n1, .int .i64 n2, .int .i64 n3, .int .i64 n4] 26))) := HB_7.out.trans (((Below.refl _ w5).alloc (Nat.le_refl _) _).mono HB_7.out.size)
      have HNN_8 : Hid (HAt (w5.alloc (.cells #[.int .i64 n1, .int .i64 n2, .int .i64 n3, .int .i64 n4] 26)) (w5.heap.size) 0 ⟨n1, n2, n3, n4⟩) := hat_new w5 ⟨n1, n2, n3, n4⟩ _
      clear HL_7 HB_7 HH_7 HKK_7 HFF_7
      obtain ⟨X, _, F, HFz, HG⟩ := Fam.fam ((w5.alloc (.cells #[.int .i64 n1, .int .i64 n2, .int .i64 n3, .int .i64 n4] 26)))
      have y00 : ∀ z, (F z).cell? ⟨w1.heap.size, 0, none⟩ = some (.int .i64 who) := fun z => (cellsH (hat_below HH_8.out (HFz.out z))).1
      have y01 : ∀ z, (F z).cell? ⟨w1.heap.size, 1, none⟩ = some (.int .i64 has) := fun z => (cellsH (hat_below HH_8.out (HFz.out z))).2.1
      have y02 : ∀ z, (F z).cell? ⟨w1.heap.size, 2, none⟩ = some (.int .i64 kept) := fun z => (cellsH (hat_below HH_8.out (HFz.out z))).2.2.1
      have y03 : ∀ z, (F z).cell? ⟨w1.heap.size, 3, none⟩ = some (.int .i64 last) := fun z => (cellsH (hat_below HH_8.out (HFz.out z))).2.2.2
      have y10 : ∀ z, (F z).cell? ⟨w2.heap.size, 0, none⟩ = some (.int .i64 0) := fun z => (cellsH (hat_below HKK_8.out (HFz.out z))).1
      have y11 : ∀ z, (F z).cell? ⟨w2.heap.size, 1, none⟩ = some (.int .i64 0) := fun z => (cellsH (hat_below HKK_8.out (HFz.out z))).2.1
      have y12 : ∀ z, (F z).cell? ⟨w2.heap.size, 2, none⟩ = some (.int .i64 0) := fun z => (cellsH (hat_below HKK_8.out (HFz.out z))).2.2.1
      have y13 : ∀ z, (F z).cell? ⟨w2.heap.size, 3, none⟩ = some (.int .i64 0) := fun z => (cellsH (hat_below HKK_8.out (HFz.out z))).2.2.2
      have y20 : ∀ z, (F z).cell? ⟨w3.heap.size, 0, none⟩ = some (.int .i64 0) := fun z => (cellsH (hat_below HFF_8.out (HFz.out z))).1
      have y21 : ∀ z, (F z).cell? ⟨w3.heap.size, 1, none⟩ = some (.int .i64 0) := fun z => (cellsH (hat_below HFF_8.out (HFz.out z))).2.1
      have y22 : ∀ z, (F z).cell? ⟨w3.heap.size, 2, none⟩ = some (.int .i64 0) := fun z => (cellsH (hat_below HFF_8.out (HFz.out z))).2.2.1
      have y23 : ∀ z, (F z).cell? ⟨w3.heap.size, 3, none⟩ = some (.int .i64 0) := fun z => (cellsH (hat_below HFF_8.out (HFz.out z))).2.2.2
      have HLz : Hid (∀ z, LiesN (F z) g L) := fun z => HL_8.out.below (HFz.out z)
      have ek := hand_ne 0 0 0 0
      have ef := hand_ne 0 0 0 0
      go_wp2_with fail
      refine Fam.region (F := F) (by kernel_rfl) (by kernel_rfl) (HG.out _ (Below.refl _ _).drew) ?_
      repeat (go_big_quiet_step (first
        | (go_at_call 11; exact (SK.out _ (HLz.out _)).mono fun _ _ h => ⟨h.1, HG.out _ ((HFz.out _).trans (h.2.mono (HFz.out _).size))⟩)
        | (go_at_call 12; exact (SF.out _ (HLz.out _)).mono fun _ _ h => ⟨h.1, HG.out _ ((HFz.out _).trans (h.2.mono (HFz.out _).size))⟩)
        | (go_at_call 13; exact (HO.out _ (HLz.out _)).mono fun _ _ h => ⟨h.1, HG.out _ ((HFz.out _).trans (h.2.mono (HFz.out _).size))⟩)
        | (go_at_call 14; exact (SO.out _ (HLz.out _)).mono fun _ _ h => ⟨h.1, HG.out _ ((HFz.out _).trans (h.2.mono (HFz.out _).size))⟩)))
      refine wpQuiet_nil ?_
      intro wz hwz
      obtain ⟨z, rfl⟩ := hwz
      have HH_9 : Hid (HAt (F z) (w1.heap.size) 0 ⟨who, has, kept, last⟩) := hat_below HH_8.out (HFz.out z)
      have HKK_9 : Hid (HAt (F z) (w2.heap.size) 0 ⟨0, 0, 0, 0⟩) := hat_below HKK_8.out (HFz.out z)
      have HFF_9 : Hid (HAt (F z) (w3.heap.size) 0 ⟨0, 0, 0, 0⟩) := hat_below HFF_8.out (HFz.out z)
      have HNN_9 : Hid (HAt (F z) (w5.heap.size) 0 ⟨n1, n2, n3, n4⟩) := hat_below HNN_8.out (HFz.out z)
      have HL_9 : Hid (LiesN (F z) g L) := HL_8.out.below (HFz.out z)
      have HB_9 : Hid (Below w.heap.size w (F z)) := HB_8.out.trans ((HFz.out z).mono HB_8.out.size)
      clear HL_8 HB_8 HH_8 HKK_8 HFF_8 HNN_8
      clear y00 y01 y02 y03 y10 y11 y12 y13 y20 y21 y22 y23 HLz ek ef
      generalize F z = wv at HH_9 HKK_9 HFF_9 HNN_9 HL_9 HB_9 ⊢
      clear HFz HG
      have en := hand_ne n1 n2 n3 n4
      cases md
      · go_wp2_with fail
        refine (HN2.out _).mono ?_
        rintro e w6 ⟨rfl, hb⟩
        have HH_10 : Hid (HAt (w6) (w1.heap.size) 0 ⟨who, has, kept, last⟩) := hat_below HH_9.out hb
        have HKK_10 : Hid (HAt (w6) (w2.heap.size) 0 ⟨0, 0, 0, 0⟩) := hat_below HKK_9.out hb
        have HFF_10 : Hid (HAt (w6) (w3.heap.size) 0 ⟨0, 0, 0, 0⟩) := hat_below HFF_9.out hb
        have HNN_10 : Hid (HAt (w6) (w5.heap.size) 0 ⟨n1, n2, n3, n4⟩) := hat_below HNN_9.out hb
        have HL_10 : Hid (LiesN (w6) g L) := HL_9.out.below (hb)
        have HB_10 : Hid (Below w.heap.size w (w6)) := HB_9.out.trans ((hb).mono HB_9.out.size)
        clear HL_9 HB_9 HH_9 HKK_9 HFF_9 HNN_9
        clear hb
        have HH_11 : Hid (HAt (w6.alloc (.cells #[.int .i64 n1, .int .i64 n2, .int .i64 n3, .int .i64 n4] 26)) (w1.heap.size) 0 ⟨who, has, kept, last⟩) := hat_below HH_10.out ((Below.refl _ w6).alloc (Nat.le_refl _) _)
        have HKK_11 : Hid (HAt (w6.alloc (.cells #[.int .i64 n1, .int .i64 n2, .int .i64 n3, .int .i64 n4] 26)) (w2.heap.size) 0 ⟨0, 0, 0, 0⟩) := hat_below HKK_10.out ((Below.refl _ w6).alloc (Nat.le_refl _) _)
        have HFF_11 : Hid (HAt (w6.alloc (.cells #[.int .i64 n1, .int .i64 n2, .int .i64 n3, .int .i64 n4] 26)) (w3.heap.size) 0 ⟨0, 0, 0, 0⟩) := hat_below HFF_10.out ((Below.refl _ w6).alloc (Nat.le_refl _) _)
        have HNN_11 : Hid (HAt (w6.alloc (.cells #[.int .i64 n1, .int .i64 n2, .int .i64 n3, .int .i64 n4] 26)) (w5.heap.size) 0 ⟨n1, n2, n3, n4⟩) := hat_below HNN_10.out ((Below.refl _ w6).alloc (Nat.le_refl _) _)
        have HL_11 : Hid (LiesN (w6.alloc (.cells #[.int .i64 n1, .int .i64 n2, .int .i64 n3, .int .i64 n4] 26)) g L) := HL_10.out.below ((Below.refl _ w6).alloc (Nat.le_refl _) _)
        have HB_11 : Hid (Below w.heap.size w (w6.alloc (.cells #[.int .i64 n1, .int .i64 n2, .int .i64 n3, .int .i64 n4] 26))) := HB_10.out.trans (((Below.refl _ w6).alloc (Nat.le_refl _) _).mono HB_10.out.size)
        have HNM_11 : Hid (HAt (w6.alloc (.cells #[.int .i64 n1, .int .i64 n2, .int .i64 n3, .int .i64 n4] 26)) (w6.heap.size) 0 ⟨n1, n2, n3, n4⟩) := hat_new w6 ⟨n1, n2, n3, n4⟩ _
        clear HL_10 HB_10 HH_10 HKK_10 HFF_10 HNN_10
        obtain ⟨c2a, c2b, c2c, c2d⟩ := cellsH HNN_11.out
        dsimp only at c2a c2b c2c c2d
        obtain ⟨c3a, c3b, c3c, c3d⟩ := cellsH HNM_11.out
        dsimp only at c3a c3b c3c c3d
        obtain ⟨c4a, c4b, c4c, c4d⟩ := cellsH HH_11.out
        dsimp only at c4a c4b c4c c4d
        go_wp2_with fail
        refine (SO.out _ HL_11.out).mono ?_
        rintro e w7 ⟨rfl, hb⟩
        have HH_12 : Hid (HAt (w7) (w1.heap.size) 0 ⟨who, has, kept, last⟩) := hat_below HH_11.out hb
        have HKK_12 : Hid (HAt (w7) (w2.heap.size) 0 ⟨0, 0, 0, 0⟩) := hat_below HKK_11.out hb
        have HFF_12 : Hid (HAt (w7) (w3.heap.size) 0 ⟨0, 0, 0, 0⟩) := hat_below HFF_11.out hb
        have HNN_12 : Hid (HAt (w7) (w5.heap.size) 0 ⟨n1, n2, n3, n4⟩) := hat_below HNN_11.out hb
        have HNM_12 : Hid (HAt (w7) (w6.heap.size) 0 ⟨n1, n2, n3, n4⟩) := hat_below HNM_11.out hb
        have HL_12 : Hid (LiesN (w7) g L) := HL_11.out.below (hb)
        have HB_12 : Hid (Below w.heap.size w (w7)) := HB_11.out.trans ((hb).mono HB_11.out.size)
        clear HL_11 HB_11 HH_11 HKK_11 HFF_11 HNN_11 HNM_11
        clear hb
        obtain ⟨c5a, c5b, c5c, c5d⟩ := cellsH HKK_12.out
        dsimp only at c5a c5b c5c c5d
        obtain ⟨c6a, c6b, c6c, c6d⟩ := cellsH HFF_12.out
        dsimp only at c6a c6b c6c c6d
        have ez := hand_eq 0 0 0 0
        have HE : Hid (Below w.heap.size w w7) := HB_12.out
        clear HL_12 HB_12 HH_12 HKK_12 HFF_12 HNN_12 HNM_12
        go_wp2
        go_ret
        exact ⟨rfl, HE.out⟩
      · go_wp2_with fail
        refine (HN2.out _).mono ?_
        rintro e w6 ⟨rfl, hb⟩
        have HH_10 : Hid (HAt (w6) (w1.heap.size) 0 ⟨who, has, kept, last⟩) := hat_below HH_9.out hb
        have HKK_10 : Hid (HAt (w6) (w2.heap.size) 0 ⟨0, 0, 0, 0⟩) := hat_below HKK_9.out hb
        have HFF_10 : Hid (HAt (w6) (w3.heap.size) 0 ⟨0, 0, 0, 0⟩) := hat_below HFF_9.out hb
        have HNN_10 : Hid (HAt (w6) (w5.heap.size) 0 ⟨n1, n2, n3, n4⟩) := hat_below HNN_9.out hb
        have HL_10 : Hid (LiesN (w6) g L) := HL_9.out.below (hb)
        have HB_10 : Hid (Below w.heap.size w (w6)) := HB_9.out.trans ((hb).mono HB_9.out.size)
        clear HL_9 HB_9 HH_9 HKK_9 HFF_9 HNN_9
        clear hb
        have HH_11 : Hid (HAt (w6.alloc (.cells #[.int .i64 n1, .int .i64 n2, .int .i64 n3, .int .i64 n4] 26)) (w1.heap.size) 0 ⟨who, has, kept, last⟩) := hat_below HH_10.out ((Below.refl _ w6).alloc (Nat.le_refl _) _)
        have HKK_11 : Hid (HAt (w6.alloc (.cells #[.int .i64 n1, .int .i64 n2, .int .i64 n3, .int .i64 n4] 26)) (w2.heap.size) 0 ⟨0, 0, 0, 0⟩) := hat_below HKK_10.out ((Below.refl _ w6).alloc (Nat.le_refl _) _)
        have HFF_11 : Hid (HAt (w6.alloc (.cells #[.int .i64 n1, .int .i64 n2, .int .i64 n3, .int .i64 n4] 26)) (w3.heap.size) 0 ⟨0, 0, 0, 0⟩) := hat_below HFF_10.out ((Below.refl _ w6).alloc (Nat.le_refl _) _)
        have HNN_11 : Hid (HAt (w6.alloc (.cells #[.int .i64 n1, .int .i64 n2, .int .i64 n3, .int .i64 n4] 26)) (w5.heap.size) 0 ⟨n1, n2, n3, n4⟩) := hat_below HNN_10.out ((Below.refl _ w6).alloc (Nat.le_refl _) _)
        have HL_11 : Hid (LiesN (w6.alloc (.cells #[.int .i64 n1, .int .i64 n2, .int .i64 n3, .int .i64 n4] 26)) g L) := HL_10.out.below ((Below.refl _ w6).alloc (Nat.le_refl _) _)
        have HB_11 : Hid (Below w.heap.size w (w6.alloc (.cells #[.int .i64 n1, .int .i64 n2, .int .i64 n3, .int .i64 n4] 26))) := HB_10.out.trans (((Below.refl _ w6).alloc (Nat.le_refl _) _).mono HB_10.out.size)
        have HNM_11 : Hid (HAt (w6.alloc (.cells #[.int .i64 n1, .int .i64 n2, .int .i64 n3, .int .i64 n4] 26)) (w6.heap.size) 0 ⟨n1, n2, n3, n4⟩) := hat_new w6 ⟨n1, n2, n3, n4⟩ _
        clear HL_10 HB_10 HH_10 HKK_10 HFF_10 HNN_10
        obtain ⟨c2a, c2b, c2c, c2d⟩ := cellsH HNN_11.out
        dsimp only at c2a c2b c2c c2d
        obtain ⟨c3a, c3b, c3c, c3d⟩ := cellsH HNM_11.out
        dsimp only at c3a c3b c3c c3d
        obtain ⟨c4a, c4b, c4c, c4d⟩ := cellsH HH_11.out
        dsimp only at c4a c4b c4c c4d
        go_wp2_with fail
        refine (HN3.out (by first | rfl | trivial) _ HL_11.out.no).mono ?_
        rintro e w7 ⟨rfl, hb⟩
        have HH_12 : Hid (HAt (w7) (w1.heap.size) 0 ⟨who, has, kept, last⟩) := hat_below HH_11.out hb
        have HKK_12 : Hid (HAt (w7) (w2.heap.size) 0 ⟨0, 0, 0, 0⟩) := hat_below HKK_11.out hb
        have HFF_12 : Hid (HAt (w7) (w3.heap.size) 0 ⟨0, 0, 0, 0⟩) := hat_below HFF_11.out hb
        have HNN_12 : Hid (HAt (w7) (w5.heap.size) 0 ⟨n1, n2, n3, n4⟩) := hat_below HNN_11.out hb
        have HNM_12 : Hid (HAt (w7) (w6.heap.size) 0 ⟨n1, n2, n3, n4⟩) := hat_below HNM_11.out hb
        have HL_12 : Hid (LiesN (w7) g L) := HL_11.out.below (hb)
        have HB_12 : Hid (Below w.heap.size w (w7)) := HB_11.out.trans ((hb).mono HB_11.out.size)
        clear HL_11 HB_11 HH_11 HKK_11 HFF_11 HNN_11 HNM_11
        clear hb
        obtain ⟨c5a, c5b, c5c, c5d⟩ := cellsH HH_12.out
        dsimp only at c5a c5b c5c c5d
        go_wp2_with fail
        refine (SO.out _ HL_12.out).mono ?_
        rintro e w8 ⟨rfl, hb⟩
        have HH_13 : Hid (HAt (w8) (w1.heap.size) 0 ⟨who, has, kept, last⟩) := hat_below HH_12.out hb
        have HKK_13 : Hid (HAt (w8) (w2.heap.size) 0 ⟨0, 0, 0, 0⟩) := hat_below HKK_12.out hb
        have HFF_13 : Hid (HAt (w8) (w3.heap.size) 0 ⟨0, 0, 0, 0⟩) := hat_below HFF_12.out hb
        have HNN_13 : Hid (HAt (w8) (w5.heap.size) 0 ⟨n1, n2, n3, n4⟩) := hat_below HNN_12.out hb
        have HNM_13 : Hid (HAt (w8) (w6.heap.size) 0 ⟨n1, n2, n3, n4⟩) := hat_below HNM_12.out hb
        have HL_13 : Hid (LiesN (w8) g L) := HL_12.out.below (hb)
        have HB_13 : Hid (Below w.heap.size w (w8)) := HB_12.out.trans ((hb).mono HB_12.out.size)
        clear HL_12 HB_12 HH_12 HKK_12 HFF_12 HNN_12 HNM_12
        clear hb
        obtain ⟨c6a, c6b, c6c, c6d⟩ := cellsH HKK_13.out
        dsimp only at c6a c6b c6c c6d
        obtain ⟨c7a, c7b, c7c, c7d⟩ := cellsH HFF_13.out
        dsimp only at c7a c7b c7c c7d
        have ez := hand_eq 0 0 0 0
        have HE : Hid (Below w.heap.size w w8) := HB_13.out
        clear HL_13 HB_13 HH_13 HKK_13 HFF_13 HNN_13 HNM_13
        go_wp2
        go_ret
        exact ⟨rfl, HE.out⟩
    · have e1 : keptH L h = ⟨h.who, h.has, h.has, lastTo L h.who h.has L.length⟩ := by unfold keptH; rw [hok]; rfl
      have e2 : forgotH L h = ⟨h.who, h.kept, h.kept, h.last⟩ := by unfold forgotH; rw [hok]; rfl
      have hIs := hand_is h64 hok
      have k64 : H64 ⟨h.who, h.has, h.has, lastTo L h.who h.has L.length⟩ := ⟨h64.h0, h64.h1, h64.h0, h64.h1⟩
      have f64 : H64 ⟨h.who, h.kept, h.kept, h.last⟩ := ⟨h64.k0, h64.k1, h64.k0, h64.k1⟩
      have OK1 : Hid (∀ W : World, LiesN W g L → _) := fun W hW => by
        have := H4.out g cp L ⟨h.who, h.has, h.has, lastTo L h.who h.has L.length⟩ W hW hcp k64
        rw [is_hand (kept_is hIs)] at this
        exact this
      have OK2 : Hid (∀ W : World, LiesN W g L → _) := fun W hW => by
        have := H4.out g cp L ⟨h.who, h.kept, h.kept, h.last⟩ W hW hcp f64
        rw [is_hand (forgot_is hIs)] at this
        exact this
      have FK : Hid (∀ W : World, LiesN W g L → _) := fun W hW => by
        have := H2.out g cp L ⟨h.who, h.has, h.has, lastTo L h.who h.has L.length⟩ W hW hcp k64
        have q : forgotH L ⟨h.who, h.has, h.has, lastTo L h.who h.has L.length⟩ = ⟨h.who, h.has, h.has, lastTo L h.who h.has L.length⟩ := by unfold forgotH; rw [is_hand (kept_is hIs)]; rfl
        rw [q] at this
        exact this
      have SK := SK0
      have SF := SF0
      have HK := HK0
      have HF := HF0
      rw [e1] at SK HK
      rw [e2] at SF HF
      rw [hok] at SO HO
      clear SK0 SF0 HK0 HF0 e1 e2 hIs k64 f64
      obtain ⟨who, has, kept, last⟩ := h
      dsimp only at SK SF SO HK HF HO OK1 OK2 FK
      generalize lastTo L who has L.length = la at SK HK OK1 FK
      have OKH : Hid (∀ W : World, LiesN W g L → ∀ x1 x2 x3 : Int, (x1 = has ∧ x2 = has ∧ x3 = la ∨ x1 = kept ∧ x2 = kept ∧ x3 = last) → Calls Tryz.prog 13 #[.slice (some ⟨g, 0, none⟩) L.length cp, .agg #[.int .i64 who, .int .i64 x1, .int .i64 x2, .int .i64 x3]] W fun e w' => e = .returned (.bool true) ∧ Below W.heap.size W w') := fun W hW x1 x2 x3 hx => by
        rcases hx with ⟨rfl, rfl, rfl⟩ | ⟨rfl, rfl, rfl⟩
        · exact OK1.out W hW
        · exact OK2.out W hW
      clear OK1 OK2
      have HL_1 : Hid (LiesN (w1.alloc (.cells #[.int .i64 who, .int .i64 has, .int .i64 kept, .int .i64 last] 26)) g L) := HL_0.out.below ((Below.refl _ w1).alloc (Nat.le_refl _) _)
      have HB_1 : Hid (Below w.heap.size w (w1.alloc (.cells #[.int .i64 who, .int .i64 has, .int .i64 kept, .int .i64 last] 26))) := HB_0.out.trans (((Below.refl _ w1).alloc (Nat.le_refl _) _).mono HB_0.out.size)
      have HH_1 : Hid (HAt (w1.alloc (.cells #[.int .i64 who, .int .i64 has, .int .i64 kept, .int .i64 last] 26)) (w1.heap.size) 0 ⟨who, has, kept, last⟩) := hat_new w1 ⟨who, has, kept, last⟩ _
      clear HL_0 HB_0 
      go_wp2_with fail
      refine (HK.out _ HL_1.out).mono ?_
      rintro e w2 ⟨rfl, hb⟩
      have HH_2 : Hid (HAt (w2) (w1.heap.size) 0 ⟨who, has, kept, last⟩) := hat_below HH_1.out hb
      have HL_2 : Hid (LiesN (w2) g L) := HL_1.out.below (hb)
      have HB_2 : Hid (Below w.heap.size w (w2)) := HB_1.out.trans ((hb).mono HB_1.out.size)
      clear HL_1 HB_1 HH_1
      clear hb
      have HH_3 : Hid (HAt (w2.alloc (.cells #[.int .i64 who, .int .i64 has, .int .i64 has, .int .i64 la] 26)) (w1.heap.size) 0 ⟨who, has, kept, last⟩) := hat_below HH_2.out ((Below.refl _ w2).alloc (Nat.le_refl _) _)
      have HL_3 : Hid (LiesN (w2.alloc (.cells #[.int .i64 who, .int .i64 has, .int .i64 has, .int .i64 la] 26)) g L) := HL_2.out.below ((Below.refl _ w2).alloc (Nat.le_refl _) _)
      have HB_3 : Hid (Below w.heap.size w (w2.alloc (.cells #[.int .i64 who, .int .i64 has, .int .i64 has, .int .i64 la] 26))) := HB_2.out.trans (((Below.refl _ w2).alloc (Nat.le_refl _) _).mono HB_2.out.size)
      have HKK_3 : Hid (HAt (w2.alloc (.cells #[.int .i64 who, .int .i64 has, .int .i64 has, .int .i64 la] 26)) (w2.heap.size) 0 ⟨who, has, has, la⟩) := hat_new w2 ⟨who, has, has, la⟩ _
      clear HL_2 HB_2 HH_2
      obtain ⟨c1a, c1b, c1c, c1d⟩ := cellsH HH_3.out
      dsimp only at c1a c1b c1c c1d
      go_wp2_with fail
      refine (HF.out _ HL_3.out).mono ?_
      rintro e w3 ⟨rfl, hb⟩
      have HH_4 : Hid (HAt (w3) (w1.heap.size) 0 ⟨who, has, kept, last⟩) := hat_below HH_3.out hb
      have HKK_4 : Hid (HAt (w3) (w2.heap.size) 0 ⟨who, has, has, la⟩) := hat_below HKK_3.out hb
      have HL_4 : Hid (LiesN (w3) g L) := HL_3.out.below (hb)
      have HB_4 : Hid (Below w.heap.size w (w3)) := HB_3.out.trans ((hb).mono HB_3.out.size)
      clear HL_3 HB_3 HH_3 HKK_3
      clear hb
      have HH_5 : Hid (HAt (w3.alloc (.cells #[.int .i64 who, .int .i64 kept, .int .i64 kept, .int .i64 last] 26)) (w1.heap.size) 0 ⟨who, has, kept, last⟩) := hat_below HH_4.out ((Below.refl _ w3).alloc (Nat.le_refl _) _)
      have HKK_5 : Hid (HAt (w3.alloc (.cells #[.int .i64 who, .int .i64 kept, .int .i64 kept, .int .i64 last] 26)) (w2.heap.size) 0 ⟨who, has, has, la⟩) := hat_below HKK_4.out ((Below.refl _ w3).alloc (Nat.le_refl _) _)
      have HL_5 : Hid (LiesN (w3.alloc (.cells #[.int .i64 who, .int .i64 kept, .int .i64 kept, .int .i64 last] 26)) g L) := HL_4.out.below ((Below.refl _ w3).alloc (Nat.le_refl _) _)
      have HB_5 : Hid (Below w.heap.size w (w3.alloc (.cells #[.int .i64 who, .int .i64 kept, .int .i64 kept, .int .i64 last] 26))) := HB_4.out.trans (((Below.refl _ w3).alloc (Nat.le_refl _) _).mono HB_4.out.size)
      have HFF_5 : Hid (HAt (w3.alloc (.cells #[.int .i64 who, .int .i64 kept, .int .i64 kept, .int .i64 last] 26)) (w3.heap.size) 0 ⟨who, kept, kept, last⟩) := hat_new w3 ⟨who, kept, kept, last⟩ _
      clear HL_4 HB_4 HH_4 HKK_4
      go_wp2_with fail
      refine (drawNewHand a0 len0 cap0 _ hle0 (code_below2 HCode.out HB_5.out)).mono ?_
      rintro e w4 ⟨nw, rfl, hnw, hb⟩
      have HH_6 : Hid (HAt (w4) (w1.heap.size) 0 ⟨who, has, kept, last⟩) := hat_below HH_5.out hb
      have HKK_6 : Hid (HAt (w4) (w2.heap.size) 0 ⟨who, has, has, la⟩) := hat_below HKK_5.out hb
      have HFF_6 : Hid (HAt (w4) (w3.heap.size) 0 ⟨who, kept, kept, last⟩) := hat_below HFF_5.out hb
      have HL_6 : Hid (LiesN (w4) g L) := HL_5.out.below (hb)
      have HB_6 : Hid (Below w.heap.size w (w4)) := HB_5.out.trans ((hb).mono HB_5.out.size)
      clear HL_5 HB_5 HH_5 HKK_5 HFF_5
      clear hb
      have HN1 : Hid (∀ W : World, Calls Tryz.prog 10 #[.int .i64 nw] W fun e w' => e = .returned (.tuple #[.agg #[.int .i64 (newHandH nw).who, .int .i64 (newHandH nw).has, .int .i64 (newHandH nw).kept, .int .i64 (newHandH nw).last], .bool (Kn.in3 nw)]) ∧ Below W.heap.size W w') := fun W => H3.out nw W
      have HN2 : Hid (∀ W : World, Calls Tryz.prog 15 #[.int .i64 nw] W fun e w' => e = .returned (.tuple #[.agg #[.int .i64 (newHandH nw).who, .int .i64 (newHandH nw).has, .int .i64 (newHandH nw).kept, .int .i64 (newHandH nw).last], .bool (Kn.in3 nw)]) ∧ Below W.heap.size W w') := fun W => specNewHand nw W
      have HN3 : Hid (Kn.in3 nw = true → ∀ W : World, NoHs W → Calls Tryz.prog 13 #[.slice none 0 0, .agg #[.int .i64 (newHandH nw).who, .int .i64 (newHandH nw).has, .int .i64 (newHandH nw).kept, .int .i64 (newHandH nw).last]] W fun e w' => e = .returned (.bool true) ∧ Below W.heap.size W w') := fun q W hnw => by have := H5.out (newHandH nw) W hnw (new_64 nw); rw [new_ok q] at this; exact this
      generalize Kn.in3 nw = md at HN1 HN2 HN3
      generalize newHandH nw = nh at HN1 HN2 HN3
      obtain ⟨n1, n2, n3, n4⟩ := nh
      dsimp only at HN1 HN2 HN3
      go_wp2_with fail
      refine (HN1.out _).mono ?_
      rintro e w5 ⟨rfl, hb⟩
      have HH_7 : Hid (HAt (w5) (w1.heap.size) 0 ⟨who, has, kept, last⟩) := hat_below HH_6.out hb
      have HKK_7 : Hid (HAt (w5) (w2.heap.size) 0 ⟨who, has, has, la⟩) := hat_below HKK_6.out hb
      have HFF_7 : Hid (HAt (w5) (w3.heap.size) 0 ⟨who, kept, kept, last⟩) := hat_below HFF_6.out hb
      have HL_7 : Hid (LiesN (w5) g L) := HL_6.out.below (hb)
      have HB_7 : Hid (Below w.heap.size w (w5)) := HB_6.out.trans ((hb).mono HB_6.out.size)
      clear HL_6 HB_6 HH_6 HKK_6 HFF_6
      clear hb
      have HH_8 : Hid (HAt (w5.alloc (.cells #[.int .i64 n1, .int .i64 n2, .int .i64 n3, .int .i64 n4] 26)) (w1.heap.size) 0 ⟨who, has, kept, last⟩) := hat_below HH_7.out ((Below.refl _ w5).alloc (Nat.le_refl _) _)
      have HKK_8 : Hid (HAt (w5.alloc (.cells #[.int .i64 n1, .int .i64 n2, .int .i64 n3, .int .i64 n4] 26)) (w2.heap.size) 0 ⟨who, has, has, la⟩) := hat_below HKK_7.out ((Below.refl _ w5).alloc (Nat.le_refl _) _)
      have HFF_8 : Hid (HAt (w5.alloc (.cells #[.int .i64 n1, .int .i64 n2, .int .i64 n3, .int .i64 n4] 26)) (w3.heap.size) 0 ⟨who, kept, kept, last⟩) := hat_below HFF_7.out ((Below.refl _ w5).alloc (Nat.le_refl _) _)
      have HL_8 : Hid (LiesN (w5.alloc (.cells #[.int .i64 n1, .int .i64 n2, .int .i64 n3, .int .i64 n4] 26)) g L) := HL_7.out.below ((Below.refl _ w5).alloc (Nat.le_refl _) _)
      have HB_8 : Hid (Below w.heap.size w (w5.alloc (.cells #[.int .i64 n1, .int .i64 n2, .int .i64 n3, .int .i64 n4] 26))) := HB_7.out.trans (((Below.refl _ w5).alloc (Nat.le_refl _) _).mono HB_7.out.size)
      have HNN_8 : Hid (HAt (w5.alloc (.cells #[.int .i64 n1, .int .i64 n2, .int .i64 n3, .int .i64 n4] 26)) (w5.heap.size) 0 ⟨n1, n2, n3, n4⟩) := hat_new w5 ⟨n1, n2, n3, n4⟩ _
      clear HL_7 HB_7 HH_7 HKK_7 HFF_7
      obtain ⟨X, _, F, HFz, HG⟩ := Fam.fam ((w5.alloc (.cells #[.int .i64 n1, .int .i64 n2, .int .i64 n3, .int .i64 n4] 26)))
      have y00 : ∀ z, (F z).cell? ⟨w1.heap.size, 0, none⟩ = some (.int .i64 who) := fun z => (cellsH (hat_below HH_8.out (HFz.out z))).1
      have y01 : ∀ z, (F z).cell? ⟨w1.heap.size, 1, none⟩ = some (.int .i64 has) := fun z => (cellsH (hat_below HH_8.out (HFz.out z))).2.1
      have y02 : ∀ z, (F z).cell? ⟨w1.heap.size, 2, none⟩ = some (.int .i64 kept) := fun z => (cellsH (hat_below HH_8.out (HFz.out z))).2.2.1
      have y03 : ∀ z, (F z).cell? ⟨w1.heap.size, 3, none⟩ = some (.int .i64 last) := fun z => (cellsH (hat_below HH_8.out (HFz.out z))).2.2.2
      have y10 : ∀ z, (F z).cell? ⟨w2.heap.size, 0, none⟩ = some (.int .i64 who) := fun z => (cellsH (hat_below HKK_8.out (HFz.out z))).1
      have y11 : ∀ z, (F z).cell? ⟨w2.heap.size, 1, none⟩ = some (.int .i64 has) := fun z => (cellsH (hat_below HKK_8.out (HFz.out z))).2.1
      have y12 : ∀ z, (F z).cell? ⟨w2.heap.size, 2, none⟩ = some (.int .i64 has) := fun z => (cellsH (hat_below HKK_8.out (HFz.out z))).2.2.1
      have y13 : ∀ z, (F z).cell? ⟨w2.heap.size, 3, none⟩ = some (.int .i64 la) := fun z => (cellsH (hat_below HKK_8.out (HFz.out z))).2.2.2
      have y20 : ∀ z, (F z).cell? ⟨w3.heap.size, 0, none⟩ = some (.int .i64 who) := fun z => (cellsH (hat_below HFF_8.out (HFz.out z))).1
      have y21 : ∀ z, (F z).cell? ⟨w3.heap.size, 1, none⟩ = some (.int .i64 kept) := fun z => (cellsH (hat_below HFF_8.out (HFz.out z))).2.1
      have y22 : ∀ z, (F z).cell? ⟨w3.heap.size, 2, none⟩ = some (.int .i64 kept) := fun z => (cellsH (hat_below HFF_8.out (HFz.out z))).2.2.1
      have y23 : ∀ z, (F z).cell? ⟨w3.heap.size, 3, none⟩ = some (.int .i64 last) := fun z => (cellsH (hat_below HFF_8.out (HFz.out z))).2.2.2
      have HLz : Hid (∀ z, LiesN (F z) g L) := fun z => HL_8.out.below (HFz.out z)
      have ek := hand_ne who has has la
      have ef := hand_ne who kept kept last
      go_wp2_with fail
      refine Fam.region (F := F) (by kernel_rfl) (by kernel_rfl) (HG.out _ (Below.refl _ _).drew) ?_
      repeat (go_big_quiet_step (first
        | (go_at_call 11; exact (SK.out _ (HLz.out _)).mono fun _ _ h => ⟨h.1, HG.out _ ((HFz.out _).trans (h.2.mono (HFz.out _).size))⟩)
        | (go_at_call 12; exact (SF.out _ (HLz.out _)).mono fun _ _ h => ⟨h.1, HG.out _ ((HFz.out _).trans (h.2.mono (HFz.out _).size))⟩)
        | (go_at_call 13; exact (HO.out _ (HLz.out _)).mono fun _ _ h => ⟨h.1, HG.out _ ((HFz.out _).trans (h.2.mono (HFz.out _).size))⟩)
        | (go_at_call 14; exact (SO.out _ (HLz.out _)).mono fun _ _ h => ⟨h.1, HG.out _ ((HFz.out _).trans (h.2.mono (HFz.out _).size))⟩)))
      refine wpQuiet_nil ?_
      intro wz hwz
      obtain ⟨z, rfl⟩ := hwz
      have HH_9 : Hid (HAt (F z) (w1.heap.size) 0 ⟨who, has, kept, last⟩) := hat_below HH_8.out (HFz.out z)
      have HKK_9 : Hid (HAt (F z) (w2.heap.size) 0 ⟨who, has, has, la⟩) := hat_below HKK_8.out (HFz.out z)
      have HFF_9 : Hid (HAt (F z) (w3.heap.size) 0 ⟨who, kept, kept, last⟩) := hat_below HFF_8.out (HFz.out z)
      have HNN_9 : Hid (HAt (F z) (w5.heap.size) 0 ⟨n1, n2, n3, n4⟩) := hat_below HNN_8.out (HFz.out z)
      have HL_9 : Hid (LiesN (F z) g L) := HL_8.out.below (HFz.out z)
      have HB_9 : Hid (Below w.heap.size w (F z)) := HB_8.out.trans ((HFz.out z).mono HB_8.out.size)
      clear HL_8 HB_8 HH_8 HKK_8 HFF_8 HNN_8
      clear y00 y01 y02 y03 y10 y11 y12 y13 y20 y21 y22 y23 HLz ek ef
      generalize F z = wv at HH_9 HKK_9 HFF_9 HNN_9 HL_9 HB_9 ⊢
      clear HFz HG
      have en := hand_ne n1 n2 n3 n4
      cases md
      · go_wp2_with fail
        refine (HN2.out _).mono ?_
        rintro e w6 ⟨rfl, hb⟩
        have HH_10 : Hid (HAt (w6) (w1.heap.size) 0 ⟨who, has, kept, last⟩) := hat_below HH_9.out hb
        have HKK_10 : Hid (HAt (w6) (w2.heap.size) 0 ⟨who, has, has, la⟩) := hat_below HKK_9.out hb
        have HFF_10 : Hid (HAt (w6) (w3.heap.size) 0 ⟨who, kept, kept, last⟩) := hat_below HFF_9.out hb
        have HNN_10 : Hid (HAt (w6) (w5.heap.size) 0 ⟨n1, n2, n3, n4⟩) := hat_below HNN_9.out hb
        have HL_10 : Hid (LiesN (w6) g L) := HL_9.out.below (hb)
        have HB_10 : Hid (Below w.heap.size w (w6)) := HB_9.out.trans ((hb).mono HB_9.out.size)
        clear HL_9 HB_9 HH_9 HKK_9 HFF_9 HNN_9
        clear hb
        have HH_11 : Hid (HAt (w6.alloc (.cells #[.int .i64 n1, .int .i64 n2, .int .i64 n3, .int .i64 n4] 26)) (w1.heap.size) 0 ⟨who, has, kept, last⟩) := hat_below HH_10.out ((Below.refl _ w6).alloc (Nat.le_refl _) _)
        have HKK_11 : Hid (HAt (w6.alloc (.cells #[.int .i64 n1, .int .i64 n2, .int .i64 n3, .int .i64 n4] 26)) (w2.heap.size) 0 ⟨who, has, has, la⟩) := hat_below HKK_10.out ((Below.refl _ w6).alloc (Nat.le_refl _) _)
        have HFF_11 : Hid (HAt (w6.alloc (.cells #[.int .i64 n1, .int .i64 n2, .int .i64 n3, .int .i64 n4] 26)) (w3.heap.size) 0 ⟨who, kept, kept, last⟩) := hat_below HFF_10.out ((Below.refl _ w6).alloc (Nat.le_refl _) _)
        have HNN_11 : Hid (HAt (w6.alloc (.cells #[.int .i64 n1, .int .i64 n2, .int .i64 n3, .int .i64 n4] 26)) (w5.heap.size) 0 ⟨n1, n2, n3, n4⟩) := hat_below HNN_10.out ((Below.refl _ w6).alloc (Nat.le_refl _) _)
        have HL_11 : Hid (LiesN (w6.alloc (.cells #[.int .i64 n1, .int .i64 n2, .int .i64 n3, .int .i64 n4] 26)) g L) := HL_10.out.below ((Below.refl _ w6).alloc (Nat.le_refl _) _)
        have HB_11 : Hid (Below w.heap.size w (w6.alloc (.cells #[.int .i64 n1, .int .i64 n2, .int .i64 n3, .int .i64 n4] 26))) := HB_10.out.trans (((Below.refl _ w6).alloc (Nat.le_refl _) _).mono HB_10.out.size)
        have HNM_11 : Hid (HAt (w6.alloc (.cells #[.int .i64 n1, .int .i64 n2, .int .i64 n3, .int .i64 n4] 26)) (w6.heap.size) 0 ⟨n1, n2, n3, n4⟩) := hat_new w6 ⟨n1, n2, n3, n4⟩ _
        clear HL_10 HB_10 HH_10 HKK_10 HFF_10 HNN_10
        obtain ⟨c2a, c2b, c2c, c2d⟩ := cellsH HNN_11.out
        dsimp only at c2a c2b c2c c2d
        obtain ⟨c3a, c3b, c3c, c3d⟩ := cellsH HNM_11.out
        dsimp only at c3a c3b c3c c3d
        obtain ⟨c4a, c4b, c4c, c4d⟩ := cellsH HH_11.out
        dsimp only at c4a c4b c4c c4d
        go_wp2_with fail
        refine (SO.out _ HL_11.out).mono ?_
        rintro e w7 ⟨rfl, hb⟩
        have HH_12 : Hid (HAt (w7) (w1.heap.size) 0 ⟨who, has, kept, last⟩) := hat_below HH_11.out hb
        have HKK_12 : Hid (HAt (w7) (w2.heap.size) 0 ⟨who, has, has, la⟩) := hat_below HKK_11.out hb
        have HFF_12 : Hid (HAt (w7) (w3.heap.size) 0 ⟨who, kept, kept, last⟩) := hat_below HFF_11.out hb
        have HNN_12 : Hid (HAt (w7) (w5.heap.size) 0 ⟨n1, n2, n3, n4⟩) := hat_below HNN_11.out hb
        have HNM_12 : Hid (HAt (w7) (w6.heap.size) 0 ⟨n1, n2, n3, n4⟩) := hat_below HNM_11.out hb
        have HL_12 : Hid (LiesN (w7) g L) := HL_11.out.below (hb)
        have HB_12 : Hid (Below w.heap.size w (w7)) := HB_11.out.trans ((hb).mono HB_11.out.size)
        clear HL_11 HB_11 HH_11 HKK_11 HFF_11 HNN_11 HNM_11
        clear hb
        have HE : Hid (Below w.heap.size w w7) := HB_12.out
        obtain ⟨X2, _, F2, HFz2, HG2⟩ := Fam.fam (w7)
        have y00 : ∀ z, (F2 z).cell? ⟨w1.heap.size, 0, none⟩ = some (.int .i64 who) := fun z => (cellsH (hat_below HH_12.out (HFz2.out z))).1
        have y01 : ∀ z, (F2 z).cell? ⟨w1.heap.size, 1, none⟩ = some (.int .i64 has) := fun z => (cellsH (hat_below HH_12.out (HFz2.out z))).2.1
        have y02 : ∀ z, (F2 z).cell? ⟨w1.heap.size, 2, none⟩ = some (.int .i64 kept) := fun z => (cellsH (hat_below HH_12.out (HFz2.out z))).2.2.1
        have y03 : ∀ z, (F2 z).cell? ⟨w1.heap.size, 3, none⟩ = some (.int .i64 last) := fun z => (cellsH (hat_below HH_12.out (HFz2.out z))).2.2.2
        have y10 : ∀ z, (F2 z).cell? ⟨w2.heap.size, 0, none⟩ = some (.int .i64 who) := fun z => (cellsH (hat_below HKK_12.out (HFz2.out z))).1
        have y11 : ∀ z, (F2 z).cell? ⟨w2.heap.size, 1, none⟩ = some (.int .i64 has) := fun z => (cellsH (hat_below HKK_12.out (HFz2.out z))).2.1
        have y12 : ∀ z, (F2 z).cell? ⟨w2.heap.size, 2, none⟩ = some (.int .i64 has) := fun z => (cellsH (hat_below HKK_12.out (HFz2.out z))).2.2.1
        have y13 : ∀ z, (F2 z).cell? ⟨w2.heap.size, 3, none⟩ = some (.int .i64 la) := fun z => (cellsH (hat_below HKK_12.out (HFz2.out z))).2.2.2
        have y20 : ∀ z, (F2 z).cell? ⟨w3.heap.size, 0, none⟩ = some (.int .i64 who) := fun z => (cellsH (hat_below HFF_12.out (HFz2.out z))).1
        have y21 : ∀ z, (F2 z).cell? ⟨w3.heap.size, 1, none⟩ = some (.int .i64 kept) := fun z => (cellsH (hat_below HFF_12.out (HFz2.out z))).2.1
        have y22 : ∀ z, (F2 z).cell? ⟨w3.heap.size, 2, none⟩ = some (.int .i64 kept) := fun z => (cellsH (hat_below HFF_12.out (HFz2.out z))).2.2.1
        have y23 : ∀ z, (F2 z).cell? ⟨w3.heap.size, 3, none⟩ = some (.int .i64 last) := fun z => (cellsH (hat_below HFF_12.out (HFz2.out z))).2.2.2
        have HLz : Hid (∀ z, LiesN (F2 z) g L) := fun z => HL_12.out.below (HFz2.out z)
        have eq1 := hand_eq who has has la
        clear HL_12 HB_12 HH_12 HKK_12 HFF_12 HNN_12 HNM_12
        go_wp2_with fail
        refine Fam.region (F := F2) (by kernel_rfl) (by kernel_rfl) (HG2.out _ (Below.refl _ _).drew) ?_
        repeat (go_big_quiet_step (first
          | (go_at_call 13; exact (OKH.out _ (HLz.out _) _ _ _ (by first | exact .inl ⟨rfl, rfl, rfl⟩ | exact .inr ⟨rfl, rfl, rfl⟩)).mono fun _ _ h => ⟨h.1, HG2.out _ ((HFz2.out _).trans (h.2.mono (HFz2.out _).size))⟩)
          | (go_at_call 8; exact (FK.out _ (HLz.out _)).mono fun _ _ h => ⟨h.1, HG2.out _ ((HFz2.out _).trans (h.2.mono (HFz2.out _).size))⟩)))
        refine wpQuiet_nil ?_
        intro wz hwz
        obtain ⟨z2, rfl⟩ := hwz
        have HE2 : Hid (Below w.heap.size w (F2 z2)) := HE.out.trans ((HFz2.out z2).mono HE.out.size)
        go_wp2
        go_ret
        exact ⟨rfl, HE2.out⟩
      · go_wp2_with fail
        refine (HN2.out _).mono ?_
        rintro e w6 ⟨rfl, hb⟩
        have HH_10 : Hid (HAt (w6) (w1.heap.size) 0 ⟨who, has, kept, last⟩) := hat_below HH_9.out hb
        have HKK_10 : Hid (HAt (w6) (w2.heap.size) 0 ⟨who, has, has, la⟩) := hat_below HKK_9.out hb
        have HFF_10 : Hid (HAt (w6) (w3.heap.size) 0 ⟨who, kept, kept, last⟩) := hat_below HFF_9.out hb
        have HNN_10 : Hid (HAt (w6) (w5.heap.size) 0 ⟨n1, n2, n3, n4⟩) := hat_below HNN_9.out hb
        have HL_10 : Hid (LiesN (w6) g L) := HL_9.out.below (hb)
        have HB_10 : Hid (Below w.heap.size w (w6)) := HB_9.out.trans ((hb).mono HB_9.out.size)
        clear HL_9 HB_9 HH_9 HKK_9 HFF_9 HNN_9
        clear hb
        have HH_11 : Hid (HAt (w6.alloc (.cells #[.int .i64 n1, .int .i64 n2, .int .i64 n3, .int .i64 n4] 26)) (w1.heap.size) 0 ⟨who, has, kept, last⟩) := hat_below HH_10.out ((Below.refl _ w6).alloc (Nat.le_refl _) _)
        have HKK_11 : Hid (HAt (w6.alloc (.cells #[.int .i64 n1, .int .i64 n2, .int .i64 n3, .int .i64 n4] 26)) (w2.heap.size) 0 ⟨who, has, has, la⟩) := hat_below HKK_10.out ((Below.refl _ w6).alloc (Nat.le_refl _) _)
        have HFF_11 : Hid (HAt (w6.alloc (.cells #[.int .i64 n1, .int .i64 n2, .int .i64 n3, .int .i64 n4] 26)) (w3.heap.size) 0 ⟨who, kept, kept, last⟩) := hat_below HFF_10.out ((Below.refl _ w6).alloc (Nat.le_refl _) _)
        have HNN_11 : Hid (HAt (w6.alloc (.cells #[.int .i64 n1, .int .i64 n2, .int .i64 n3, .int .i64 n4] 26)) (w5.heap.size) 0 ⟨n1, n2, n3, n4⟩) := hat_below HNN_10.out ((Below.refl _ w6).alloc (Nat.le_refl _) _)
        have HL_11 : Hid (LiesN (w6.alloc (.cells #[.int .i64 n1, .int .i64 n2, .int .i64 n3, .int .i64 n4] 26)) g L) := HL_10.out.below ((Below.refl _ w6).alloc (Nat.le_refl _) _)
        have HB_11 : Hid (Below w.heap.size w (w6.alloc (.cells #[.int .i64 n1, .int .i64 n2, .int .i64 n3, .int .i64 n4] 26))) := HB_10.out.trans (((Below.refl _ w6).alloc (Nat.le_refl _) _).mono HB_10.out.size)
        have HNM_11 : Hid (HAt (w6.alloc (.cells #[.int .i64 n1, .int .i64 n2, .int .i64 n3, .int .i64 n4] 26)) (w6.heap.size) 0 ⟨n1, n2, n3, n4⟩) := hat_new w6 ⟨n1, n2, n3, n4⟩ _
        clear HL_10 HB_10 HH_10 HKK_10 HFF_10 HNN_10
        obtain ⟨c2a, c2b, c2c, c2d⟩ := cellsH HNN_11.out
        dsimp only at c2a c2b c2c c2d
        obtain ⟨c3a, c3b, c3c, c3d⟩ := cellsH HNM_11.out
        dsimp only at c3a c3b c3c c3d
        obtain ⟨c4a, c4b, c4c, c4d⟩ := cellsH HH_11.out
        dsimp only at c4a c4b c4c c4d
        go_wp2_with fail
        refine (HN3.out (by first | rfl | trivial) _ HL_11.out.no).mono ?_
        rintro e w7 ⟨rfl, hb⟩
        have HH_12 : Hid (HAt (w7) (w1.heap.size) 0 ⟨who, has, kept, last⟩) := hat_below HH_11.out hb
        have HKK_12 : Hid (HAt (w7) (w2.heap.size) 0 ⟨who, has, has, la⟩) := hat_below HKK_11.out hb
        have HFF_12 : Hid (HAt (w7) (w3.heap.size) 0 ⟨who, kept, kept, last⟩) := hat_below HFF_11.out hb
        have HNN_12 : Hid (HAt (w7) (w5.heap.size) 0 ⟨n1, n2, n3, n4⟩) := hat_below HNN_11.out hb
        have HNM_12 : Hid (HAt (w7) (w6.heap.size) 0 ⟨n1, n2, n3, n4⟩) := hat_below HNM_11.out hb
        have HL_12 : Hid (LiesN (w7) g L) := HL_11.out.below (hb)
        have HB_12 : Hid (Below w.heap.size w (w7)) := HB_11.out.trans ((hb).mono HB_11.out.size)
        clear HL_11 HB_11 HH_11 HKK_11 HFF_11 HNN_11 HNM_11
        clear hb
        obtain ⟨c5a, c5b, c5c, c5d⟩ := cellsH HH_12.out
        dsimp only at c5a c5b c5c c5d
        go_wp2_with fail
        refine (SO.out _ HL_12.out).mono ?_
        rintro e w8 ⟨rfl, hb⟩
        have HH_13 : Hid (HAt (w8) (w1.heap.size) 0 ⟨who, has, kept, last⟩) := hat_below HH_12.out hb
        have HKK_13 : Hid (HAt (w8) (w2.heap.size) 0 ⟨who, has, has, la⟩) := hat_below HKK_12.out hb
        have HFF_13 : Hid (HAt (w8) (w3.heap.size) 0 ⟨who, kept, kept, last⟩) := hat_below HFF_12.out hb
        have HNN_13 : Hid (HAt (w8) (w5.heap.size) 0 ⟨n1, n2, n3, n4⟩) := hat_below HNN_12.out hb
        have HNM_13 : Hid (HAt (w8) (w6.heap.size) 0 ⟨n1, n2, n3, n4⟩) := hat_below HNM_12.out hb
        have HL_13 : Hid (LiesN (w8) g L) := HL_12.out.below (hb)
        have HB_13 : Hid (Below w.heap.size w (w8)) := HB_12.out.trans ((hb).mono HB_12.out.size)
        clear HL_12 HB_12 HH_12 HKK_12 HFF_12 HNN_12 HNM_12
        clear hb
        have HE : Hid (Below w.heap.size w w8) := HB_13.out
        obtain ⟨X2, _, F2, HFz2, HG2⟩ := Fam.fam (w8)
        have y00 : ∀ z, (F2 z).cell? ⟨w1.heap.size, 0, none⟩ = some (.int .i64 who) := fun z => (cellsH (hat_below HH_13.out (HFz2.out z))).1
        have y01 : ∀ z, (F2 z).cell? ⟨w1.heap.size, 1, none⟩ = some (.int .i64 has) := fun z => (cellsH (hat_below HH_13.out (HFz2.out z))).2.1
        have y02 : ∀ z, (F2 z).cell? ⟨w1.heap.size, 2, none⟩ = some (.int .i64 kept) := fun z => (cellsH (hat_below HH_13.out (HFz2.out z))).2.2.1
        have y03 : ∀ z, (F2 z).cell? ⟨w1.heap.size, 3, none⟩ = some (.int .i64 last) := fun z => (cellsH (hat_below HH_13.out (HFz2.out z))).2.2.2
        have y10 : ∀ z, (F2 z).cell? ⟨w2.heap.size, 0, none⟩ = some (.int .i64 who) := fun z => (cellsH (hat_below HKK_13.out (HFz2.out z))).1
        have y11 : ∀ z, (F2 z).cell? ⟨w2.heap.size, 1, none⟩ = some (.int .i64 has) := fun z => (cellsH (hat_below HKK_13.out (HFz2.out z))).2.1
        have y12 : ∀ z, (F2 z).cell? ⟨w2.heap.size, 2, none⟩ = some (.int .i64 has) := fun z => (cellsH (hat_below HKK_13.out (HFz2.out z))).2.2.1
        have y13 : ∀ z, (F2 z).cell? ⟨w2.heap.size, 3, none⟩ = some (.int .i64 la) := fun z => (cellsH (hat_below HKK_13.out (HFz2.out z))).2.2.2
        have y20 : ∀ z, (F2 z).cell? ⟨w3.heap.size, 0, none⟩ = some (.int .i64 who) := fun z => (cellsH (hat_below HFF_13.out (HFz2.out z))).1
        have y21 : ∀ z, (F2 z).cell? ⟨w3.heap.size, 1, none⟩ = some (.int .i64 kept) := fun z => (cellsH (hat_below HFF_13.out (HFz2.out z))).2.1
        have y22 : ∀ z, (F2 z).cell? ⟨w3.heap.size, 2, none⟩ = some (.int .i64 kept) := fun z => (cellsH (hat_below HFF_13.out (HFz2.out z))).2.2.1
        have y23 : ∀ z, (F2 z).cell? ⟨w3.heap.size, 3, none⟩ = some (.int .i64 last) := fun z => (cellsH (hat_below HFF_13.out (HFz2.out z))).2.2.2
        have HLz : Hid (∀ z, LiesN (F2 z) g L) := fun z => HL_13.out.below (HFz2.out z)
        have eq1 := hand_eq who has has la
        clear HL_13 HB_13 HH_13 HKK_13 HFF_13 HNN_13 HNM_13
        go_wp2_with fail
        refine Fam.region (F := F2) (by kernel_rfl) (by kernel_rfl) (HG2.out _ (Below.refl _ _).drew) ?_
        repeat (go_big_quiet_step (first
          | (go_at_call 13; exact (OKH.out _ (HLz.out _) _ _ _ (by first | exact .inl ⟨rfl, rfl, rfl⟩ | exact .inr ⟨rfl, rfl, rfl⟩)).mono fun _ _ h => ⟨h.1, HG2.out _ ((HFz2.out _).trans (h.2.mono (HFz2.out _).size))⟩)
          | (go_at_call 8; exact (FK.out _ (HLz.out _)).mono fun _ _ h => ⟨h.1, HG2.out _ ((HFz2.out _).trans (h.2.mono (HFz2.out _).size))⟩)))
        refine wpQuiet_nil ?_
        intro wz hwz
        obtain ⟨z2, rfl⟩ := hwz
        have HE2 : Hid (Below w.heap.size w (F2 z2)) := HE.out.trans ((HFz2.out z2).mono HE.out.size)
        go_wp2
        go_ret
        exact ⟨rfl, HE2.out⟩

end Rm
end Go.Proofs.YtihmmephgjpgaaaGreatDoor

namespace Go.Proofs.YtihmmephgjpgaaaGreatDoor
open Go.RowKit
namespace Rm

theorem drawsBad : DrawsBad := fun c a len cap ao cp L co nc cc go nh hc bad w hl hca hlc hr hn => l18DrawBad c a len cap ao cp L co nc cc go nh hc bad w hl hca hlc hr hn
theorem drawsRoom : DrawsRoom := fun c a len cap w hl hc => l18Draw' (l18DrawActs' drawsBad (l18DrawAct' drawsBad)) c a len cap w hl hc

end Rm
end Go.Proofs.YtihmmephgjpgaaaGreatDoor

namespace Go.Proofs.YtihmmephgjpgaaaGreatDoor
open Go.RowKit
namespace Rm

theorem drawsRoomC : DrawsRoomC := fun c a len cap w hl hc => l18DrawC (l18DrawActs' drawsBad (l18DrawAct' drawsBad)) c a len cap w hl hc

end Rm
end Go.Proofs.YtihmmephgjpgaaaGreatDoor

namespace Go.Proofs.YtihmmephgjpgaaaGreatDoor
open Go.RowKit Go.ChangeShapes Go.WideShapes Go.ChangeAt
set_option maxRecDepth 100000
namespace Ld

theorem star : "*" ++ "errors.errorString" = "*errors.errorString" := by decide
theorem rowE (u : TypeId) (h : Tryz.prog.typeName? 3 u = some "*errors.errorString") : u = 175 :=
  typeName_ptr_named (nm := "errors.errorString") (by rw [star]; kernel_rfl) (by kernel_rfl) (by decide) u (by rw [star]; exact h)
theorem gNoHand : Tryz.prog.globalNamed "loop.example/g00418/impl.errNoHand" = some 0 := by kernel_rfl
theorem tNoHand : (Tryz.prog.globals[0]?).map (·.type) = some 57 := by kernel_rfl
theorem cellsE : Tryz.prog.cellsOf 198 = 1 := by kernel_rfl
theorem cellsS : Tryz.prog.cellsOf 9 = 1 := by kernel_rfl

theorem one {W : World} {text : List UInt8} {r : List (String × DataW Unit)} (h : laidMet Tryz.prog (("loop.example/g00418/impl.errNoHand", .iface "*errors.errorString" (.ptr (.agg [.lit (.string text)]))) :: r) W) :
    ∃ a, W.var? Tryz.prog "loop.example/g00418/impl.errNoHand" = some #[.iface 175 (.pointer (some a))] := by
  obtain ⟨a, s, hv, _⟩ := laid_sentinel h gNoHand tNoHand Tryz.underlying57 rowE Tryz.underlying175 Tryz.underlying198 rfl rfl Tryz.underlying9 cellsE cellsS
  exact ⟨a, hv⟩
theorem noh {W : World} {a : Addr} (h : W.var? Tryz.prog "loop.example/g00418/impl.errNoHand" = some #[.iface 175 (.pointer (some a))]) : Rm.NoH W a := by
  unfold Rm.NoH
  simpa using World.var?_cell gNoHand h 0
theorem var_below {n : String} {g : Nat} {W V : World} {cs : Array Value} (hg : Tryz.prog.globalNamed n = some g) (hb : Below W.heap.size W V) (h : W.var? Tryz.prog n = some cs) : V.var? Tryz.prog n = some cs := by
  refine var?_below hb hg ?_ h
  rcases Nat.lt_or_ge g W.heap.size with q | q
  · exact q
  · unfold World.var? at h
    rw [hg] at h
    simp [Array.getElem?_eq_none q] at h

/-- a row's wrap: a condition on the heap and the world's shape are both handed on -/
theorem wrap {H : Type} {enc : TypeId × Value → H} {a : Assume} {C : Checked} {os : Os} {f : FuncId} {fn : Func} {s : ChangeSpec} {apart fresh handsOn again : Bool} {X : World → Prop}
    (hX : ∀ w w' : World, w.heap = w'.heap → X w → X w') (own : ownKnob C.prog.godebug = none) (started : os.Started) (noInit : C.prog.inits.idxOf? f = none) (hfn : C.prog.funcs[f]? = some fn)
    (witness : ∃ (w : World) (tape : Tape) (i : Input), w.os = os ∧ (w.forCall tape i).Shaped C.prog ∧ i.vars = [] ∧ Input.okWide C.prog (w.forCall tape i) .any w.heap.size f i ∧
      ((s.pre enc C.prog fn [] apart (w.forCall tape i).memory i.args ∧ X (w.forCall tape i).memory) ∧ sizedMet enc C.prog fn (OpenSpec.ofChange s) apart (w.forCall tape i).memory i.args) ∧ a.holds C.prog (lone (Frame.enter C.prog f i.args .normal) [] (w.forCall tape i)))
    (contract : ∀ (W : World) (base : Nat) (args : Array Value) (ds gs : List (DataW H)) (before : List MemPlace),
      (∀ (j : Nat) t v, fn.params[j]? = some t → args[j]? = some v → Value.okWide C.prog W .any base t v) → DataW.Whole enc C.prog fn.params.toList s.vars apart W args.toList ds gs before →
      X W → W.ShapedOpen C.prog → Calls C.prog f args W fun e W' => ∃ v, e = .returned v ∧ s.post enc C.prog fn apart fresh handsOn again W args v W') :
    ReturnsInHanded a C os f .any (fun w args => (s.pre enc C.prog fn [] apart w args ∧ X w) ∧ sizedMet enc C.prog fn (OpenSpec.ofChange s) apart w args) (s.post enc C.prog fn apart fresh handsOn again) := by
  refine returnsInHanded_of_calls own started noInit witness ?_
  intro w tape i _ hsh _ hok hpre _
  obtain ⟨_, _, _, fn', hfn', _, _, _, _, hval⟩ := hok
  obtain rfl : fn' = fn := Option.some.inj (hfn'.symm.trans hfn)
  obtain ⟨⟨⟨ds, gs, before, hw, _⟩, hx⟩, _⟩ := hpre
  refine (contract (w.forCall tape i) w.heap.size i.args ds gs before hval (DataW.Whole.of_heap (w' := w.forCall tape i) (by rfl) hw) (hX _ _ (by rfl) hx) hsh).mono fun e W' ⟨v, he, hp⟩ => ?_
  subst he
  exact ChangeSpec.post_blind hp

end Ld
end Go.Proofs.YtihmmephgjpgaaaGreatDoor

namespace Go.Proofs.YtihmmephgjpgaaaGreatDoor.fnHands
open Go.ChangeShapes Go.WideShapes Go.ChangeAt Go.RowKit
set_option linter.unusedVariables false
set_option maxRecDepth 100000

theorem own : ownKnob Tryz.prog.godebug = none := by kernel_rfl
theorem laidOut : laidOutB Tryz.prog = true := by kernel_rfl

/-- what is told of a slice of integers that came in: it is nil, or it leads to a row of cells that hold these -/
def IsRow (k : IntKind) (w : World) (a : Option Addr) (len cap : Nat) (zs : List Int) : Prop :=
  (a = none ∧ len = 0 ∧ cap = 0 ∧ zs = []) ∨
  ∃ x, a = some x ∧ len ≤ cap ∧ cap ≤ maxLen ∧ zs.length = cap ∧ (∀ i, i < zs.length → w.cell? (x.add i) = some (.int k (zs.getD i 0))) ∧ ∀ n ∈ zs, (Lit.int k n).wf = true

theorem code_of {w : World} {a : Option Addr} {len cap : Nat} {zs : List Int} (h : IsRow .u8 w a len cap zs) : Cur.Code w a len := by
  rcases h with ⟨_, h, _, _⟩ | ⟨x, rfl, hl, _, hz, hcell, hwz⟩
  · exact .inl h
  · by_cases h0 : len = 0
    · exact .inl h0
    · obtain ⟨b, off, spot⟩ := x
      have hc := hcell 0 (by omega)
      have hspot : spot = none := by simpa [Addr.add] using World.cell?_spot hc
      subst hspot
      refine .inr ⟨b, off, rfl, ?_, fun j hj => ?_⟩
      · have := block_lt_of_cell hc; simpa [Addr.add] using this
      · have hcj := hcell j (by omega)
        have hj' : j < zs.length := by omega
        have hw := hwz (zs.getD j 0) (by simp [List.getD, List.getElem?_eq_getElem hj'])
        refine ⟨zs.getD j 0, ?_, ?_⟩
        · by_cases hj0 : j = 0
          · subst hj0; simpa [Addr.add] using hcj
          · simpa [Addr.add, hj0] using hcj
        simpa [Lit.wf, IntKind.min, IntKind.max, IntKind.signed, IntKind.bits] using hw

/-- the heap that the program's own initialisers leave meets the condition -/
theorem door_met (os : Os) (args : Array Value) : laidMetH Tryz.prog Rows.fnHandsRow.laid ((World.doorLaid Tryz.prog 400 os).forCall (fun _ _ => 0) ⟨#[], args, []⟩).memory :=
  laidMetH_of_parts3 (fuel := 8) (laidMet_of_run' 8 (by kernel_rfl) (by kernel_rfl)) (by kernel_rfl) (by kernel_rfl)

theorem lifted (os : Os) (started : os.Started) (H : Type) (enc : TypeId × Value → H) :
    ReturnsInHanded {} Tryz.checked os 3 .any (fun w args => (Rows.fnHandsSpec.pre enc Tryz.prog Tryz.f3 [] false w args ∧ laidMetH Tryz.prog Rows.fnHandsRow.laid w) ∧ sizedMet enc Tryz.prog Tryz.f3 (OpenSpec.ofChange Rows.fnHandsSpec) false w args) (Rows.fnHandsSpec.post enc Tryz.prog Tryz.f3 false true false false) := by
  refine Ld.wrap (C := Tryz.checked) (X := fun w => laidMetH Tryz.prog Rows.fnHandsRow.laid w) (fun _ _ hh h => h.of_heap hh) own started (by kernel_rfl) Tryz.func3
    (ChangeSpec.witness_shaped (enc := enc) (C := Tryz.checked) (os := os) (X := fun w _ => laidMetH Tryz.prog Rows.fnHandsRow.laid w) false (World.doorLaid Tryz.prog 400 os) #[.slice none 0 0] 8 rfl (World.shaped_of_RefB (by kernel_rfl) (by kernel_rfl)) (by kernel_rfl) (by kernel_rfl) (by kernel_rfl) (door_met os _)) ?_
  intro W base args ds gs before hval0 hW hL hsh
  have hval : ∀ (j : Nat) t v, Tryz.f3.params[j]? = some t → args[j]? = some v → Value.okWide Tryz.prog W .any base t v := hval0
  have hW' := hW
  obtain ⟨p, q, hA0, hV0, rfl, hfz, hnd⟩ := hW
  have hA : DataW.TrodAll enc Tryz.prog W 0 (fun _ => true) true Tryz.f3.params.toList args.toList ds p := hA0
  have hV : DataW.TrodVars enc Tryz.prog W (fun _ => true) ["loop.example/g00418/impl.errNoHand"] gs q := hV0
  rw [Tryz.params3] at hA hval
  obtain ⟨v0, vs0, d0, ds0, p0, q0, hargs, rfl, rfl, h0, r0⟩ := trodAll_cons hA
  obtain ⟨rfl, rfl, rfl⟩ := trodAll_nil r0
  obtain rfl : args = #[v0] := by cases args; simp_all
  have hLm : laidMet Tryz.prog Rows.fnHandsRow.laid W := by rw [← MakeChecks.laidMetH_plain _ _ _ (by kernel_rfl)]; exact hL
  obtain ⟨aerrNoHand, verrNoHand⟩ := Ld.one hLm
  have hnn : Rm.NoHs W := ⟨_, Ld.noh verrNoHand⟩
  have vr : ∀ {X : World}, X.var? Tryz.prog "loop.example/g00418/impl.errNoHand" = some #[.iface 175 (.pointer (some aerrNoHand))] → ∀ sp : Nat → Bool, DataW.TrodVars enc Tryz.prog X sp ["loop.example/g00418/impl.errNoHand"] [tok enc (.iface 175 (.pointer (some aerrNoHand)))] [.cell 0 0] :=
    fun {X} xerrNoHand sp => vars_read1 enc Ld.gNoHand Ld.tNoHand Tryz.underlying57 xerrNoHand trivial sp
  obtain ⟨rfl, rfl⟩ := hV.unique (vr verrNoHand _)
  obtain ⟨a0, len0, cap0, rfl⟩ := okWide_slice Tryz.underlying22 (hval 0 22 v0 rfl rfl)
  have k0 := h0
  have lt0 : ∀ x ∈ p0, x.block < W.heap.size := by obtain ⟨m, hm⟩ := k0; exact DataW.trod_lt m _ _ _ hm
  obtain ⟨z0, w0⟩ : ∃ zs, IsRow .u8 W a0 len0 cap0 zs := by
    obtain ⟨fuel, hf⟩ := h0
    rcases open_ints Tryz.underlying22 Tryz.underlying5 (by kernel_rfl) hf with ⟨hcs, _⟩ | ⟨x, l, c, zs, hcs, _, hl, hm, hz, _, hcell, hwz⟩
    · simp [Value.cells] at hcs
      obtain ⟨rfl, rfl, rfl⟩ := hcs
      exact ⟨[], .inl ⟨rfl, rfl, rfl, rfl⟩⟩
    · simp [Value.cells] at hcs
      obtain ⟨rfl, rfl, rfl⟩ := hcs
      exact ⟨zs, .inr ⟨_, rfl, hl, hm, by simpa using hz, hcell, hwz⟩⟩
  clear hA0 hV0 hval0
  refine (Rm.handsWalk (fun g cap L h w hL hc hk => by obtain ⟨a, hn⟩ := hL.no; exact Rm.implKeeps g 0 cap L h a w (by have := hL.ls.len; omega) hL.words hk hL.rd hn) (fun g cap L h w hL hc hk => by obtain ⟨a, hn⟩ := hL.no; exact Rm.implForgets g 0 cap L h a w (by have := hL.ls.len; omega) hL.words hk hL.rd hn) (fun k w => Rm.implNewHand k w) (fun g cap L h w hL hc hk => by obtain ⟨a, hn⟩ := hL.no; exact Rm.implHandOk g 0 cap L h a w (by have := hL.ls.len; omega) hL.words hk hL.rd hn) (fun h w hn hk => by obtain ⟨a, hn⟩ := hn; exact Rm.implHandOkN h a w hk hn) Rm.drawsRoom Rm.drawsRoomC a0 len0 cap0 W (code_of w0) hnn).mono fun e W' ⟨he, bel⟩ => ?_
  subst he
  exact ⟨_, rfl, _, _, _, [], _, [.cell 0 0], hW', trodAll_mk1 (shut_bool Tryz.underlying4 _), (trodAll_cons_mk (Below.trod laidOut (by kernel_rfl) (of_decide_eq_true (by kernel_rfl)) k0 bel lt0) trodAll_mk0), vr (Ld.var_below Ld.gNoHand bel verrNoHand) _, bel.frame _, fun h => by cases h⟩

theorem over : Rows.fnHandsRow.holds Tryz.pinned (OpenSpec.ofChange Rows.fnHandsSpec) :=
  OpenClaim.holds_of_wide 3 Tryz.f3 rfl rfl rfl rfl rfl rfl rfl ⟨rfl, rfl, rfl, rfl, rfl⟩ rfl rfl rfl rfl rfl (by kernel_rfl) Tryz.func3 (by kernel_rfl)
    (of_decide_eq_true (by kernel_rfl)) (by unfold Func.isWrapper; first | (rw [if_pos (by decide +kernel)]; kernel_rfl) | (rw [if_neg (by decide +kernel)]; exact ⟨rfl, rfl⟩))
    (fun os started H enc _ => lifted os started H enc)

theorem proved : Rows.FnHandsCardSaid :=
  Claim7.holds_tied_plain_at .later [] [.sentinel] true (true, "76f874409b777713cdd45c377890eeb00fd7c75b68df2b4b1662247dd57511a4") true
    over (fun _ h => by cases h) (by kernel_rfl) (fun _ h => by cases h) fnHands_row_tie rfl ⟨rfl, rfl⟩ (by kernel_rfl) rfl
    (fun f fn hf hfn => by
      obtain rfl : f = 3 := Option.some.inj ((show Tryz.prog.funcNamed "loop.example/g00418/laws.FnHands" = some 3 by kernel_rfl).symm.trans hf) |>.symm
      obtain rfl : fn = Tryz.f3 := (Option.some.inj (Tryz.func3.symm.trans hfn)).symm
      exact ⟨by kernel_rfl, fun j t ht => by
        rw [Tryz.params3] at ht
        have hm : t ∈ [22] := by simpa using Array.mem_of_getElem? ht
        have hall : ([22].all fun u => !Tryz.prog.wantsStandIn u) = true := by kernel_rfl
        exact (show Tryz.prog.wantsStandIn t = false by simpa using List.all_eq_true.1 hall t hm)⟩)
    (by kernel_rfl)
end Go.Proofs.YtihmmephgjpgaaaGreatDoor.fnHands
