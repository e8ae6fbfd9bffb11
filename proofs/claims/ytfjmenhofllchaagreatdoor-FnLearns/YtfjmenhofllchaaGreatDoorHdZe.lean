/-
  FnLearns answers true at every code: what is learned hangs on what was there, is nothing of its own, and nothing else changes; no condition but that the listed variables are laid as their initialisers lay them.
  FnHands, over what the program's Keeps, Forgets, NewHand and HandOk must answer: what a hand keeps is of what it has, and what it forgot it may learn again.
  FnLearns, over what the program's Learns, LearnsAll and HandOk must answer: what is learned hangs on what was there, is nothing of its own, and nothing else changes.
  The drawing of a room keeps its word.
  The drawing of a room keeps its word, with its coins.
  From a row's condition on the listed errors to what the walks ask: the variable errNoHand holds an error of errors.New's make; and a row's wrap that hands on the condition and the world's shape.
  From a row's condition on the five listed errors, and on the handle of the type error, to what the walks ask.
  From a row's condition on the handle of the type error to what the walks ask.
-/
import Derived.Test.YtfjmenhofllchaaGreatDoorHdZb
import Derived.Test.YtfjmenhofllchaaGreatDoorHdZd
import Derived.Test.YtfjmenhofllchaaGreatDoorFam
import Derived.ChangeKeysEq
import Derived.Test.YtfjmenhofllchaaGreatDoorHdZa
import Derived.Test.YtfjmenhofllchaaGreatDoorRoomXm
import Derived.Test.YtfjmenhofllchaaGreatDoorRows
import Derived.LaidMore
import Derived.HandedShaped
import Derived.Stop.LaidTwo
import Derived.ProofKit
import Derived.WalkSmall
import Derived.LaidHandle
import Derived.WalkKit
import Derived.OpenShut
import Derived.ChangeOld
import Derived.Below
import Derived.Stop.Joined
import Derived.SevenTiedAt
import Derived.Test.YtfjmenhofllchaaGreatDoorCards
import Derived.Test.YtfjmenhofllchaaGreatDoorTie
namespace Go.Proofs.YtfjmenhofllchaaGreatDoor
open Go.RowKit
set_option maxRecDepth 100000
set_option linter.unusedVariables false
namespace Rm
open Kn (K okK)
open Lc (at' RdK laceB)

theorem hnS : Tryz.prog.stoodInHeld 26 = false := by kernel_rfl
theorem hnF : Tryz.prog.underlying 26 = some (.struct (Tryz.prog.fieldsOf 26)) := by kernel_rfl
theorem hand_ne (a b c d : Int) (W : World) : (binOp .neq 26 (.agg #[.int .i64 a, .int .i64 b, .int .i64 c, .int .i64 d]) (.agg #[.int .i64 a, .int .i64 b, .int .i64 c, .int .i64 d])).run Tryz.prog W = .ok (.bool false) W := by
  rw [run_neq_struct, run_equalIn_agg W 9999 26 _ _ hnF hnS]
  simp only [Program.fieldsOf, Tryz.underlying26]
  simp [go_sem, Op.eqFields, Tryz.underlying2]
theorem hand_eq (a b c d : Int) (W : World) : (binOp .eql 26 (.agg #[.int .i64 a, .int .i64 b, .int .i64 c, .int .i64 d]) (.agg #[.int .i64 a, .int .i64 b, .int .i64 c, .int .i64 d])).run Tryz.prog W = .ok (.bool true) W := by
  rw [run_eql_struct, run_equalIn_agg W 9999 26 _ _ hnF hnS]
  simp only [Program.fieldsOf, Tryz.underlying26]
  simp [go_sem, Op.eqFields, Tryz.underlying2]

/-- a list that lies there, and the error that says that it is no right hand -/
structure LiesN (w : World) (g : Nat) (L : List K) : Prop where
  ls : LiesS w g L
  no : NoHs w
theorem LiesN.below {w w' : World} {g : Nat} {L : List K} (h : LiesN w g L) (hb : Below w.heap.size w w') : LiesN w' g L := ⟨h.ls.below hb, h.no.below hb⟩
theorem LiesN.words {w : World} {g : Nat} {L : List K} (h : LiesN w g L) : Lc.WordsOk L := h.ls.words
theorem LiesN.rd {w : World} {g : Nat} {L : List K} (h : LiesN w g L) : RdK w (some ⟨g, 0, none⟩) L := h.ls.rd

def ImplHandOk : Prop := ∀ (g cap : Nat) (L : List K) (h : Hd) (w : World), LiesN w g L → L.length ≤ cap → H64 h → Calls Tryz.prog 13 #[.slice (some ⟨g, 0, none⟩) L.length cap, .agg #[.int .i64 h.who, .int .i64 h.has, .int .i64 h.kept, .int .i64 h.last]] w fun e w' => e = .returned (.bool (handOkB L h)) ∧ Below w.heap.size w w'
def ImplHandOkN : Prop := ∀ (h : Hd) (w : World), NoHs w → H64 h → Calls Tryz.prog 13 #[.slice none 0 0, .agg #[.int .i64 h.who, .int .i64 h.has, .int .i64 h.kept, .int .i64 h.last]] w fun e w' => e = .returned (.bool (handOkB [] h)) ∧ Below w.heap.size w w'

theorem new_64 (k : Int) : H64 (newHandH k) := by
  unfold newHandH
  split
  · exact ⟨by simp, by simp, by simp, by simp⟩
  · exact ⟨by simp, by simp, by simp, by simp⟩
theorem new_ok {k : Int} (h : Kn.in3 k = true) : handOkB [] (newHandH k) = true := by
  unfold newHandH handOkB hokB
  rw [if_pos h]
  simp only [h]
  rfl

end Rm
end Go.Proofs.YtfjmenhofllchaaGreatDoor

namespace Go.Proofs.YtfjmenhofllchaaGreatDoor
open Go.RowKit
set_option maxRecDepth 100000
set_option linter.unusedVariables false
namespace Rm
open Kn (K okK)
open Bit (bit withB)
open Lc (at' RdK laceB)
open Sg (belows orB)

set_option maxHeartbeats 800000 in
theorem drawLearnsAll (HD : DrawsRoom) (HDC : DrawsRoomC) (a : Option Addr) (len cap : Nat) (w : World) (hl : len ≤ 4096) (hc : Cur.Code w a len) :
    Calls Tryz.prog 9 #[.slice a len cap] w fun e w' => ∃ v L h k, e = .returned (.tuple #[v, .agg #[.int .i64 (h : Hd).who, .int .i64 h.has, .int .i64 h.kept, .int .i64 h.last], .int .i64 k]) ∧ DrawnH w w' v L h ∧ (-9223372036854775808 ≤ k ∧ k ≤ 9223372036854775807) := by
  have HZ : Hid (HAt (w.alloc (.cells #[.int .i64 0, .int .i64 0, .int .i64 0, .int .i64 0] 26)) w.heap.size 0 ⟨0, 0, 0, 0⟩ ∧ Below w.heap.size w (w.alloc (.cells #[.int .i64 0, .int .i64 0, .int .i64 0, .int .i64 0] 26))) := ⟨hat_zero w _, (Below.refl _ _).alloc (Nat.le_refl _) _⟩
  have hc0 := code_below2 hc HZ.out.2
  go_enter Tryz.func9, Tryz.ntmps9
  go_wp2_with fail
  generalize w.alloc (.cells #[.int .i64 0, .int .i64 0, .int .i64 0, .int .i64 0] 26) = w0 at HZ hc0 ⊢
  have hw0 : w.heap.size < w0.heap.size := HZ.out.1.lt
  refine (drawLearns HD HDC a len cap _ hl hc0).mono ?_
  rintro e w2 ⟨v, L, h, k, rfl, hD, hk⟩
  have hz2 := hat_below HZ.out.1 hD.dr.bel
  have hb2 : Below w.heap.size w w2 := HZ.out.2.trans (hD.dr.bel.mono HZ.out.2.size)
  obtain ⟨X, hX, hH, hbX, hOX⟩ := put_hand (w1 := w0) (h := h) hz2 hb2 v L (ownK_base hD.dr.own (by omega))
  have HF : Hid (DrawnH w X v L h) := ⟨⟨hOX, hD.dr.len, hD.dr.word, hbX⟩, hD.h64⟩
  obtain ⟨z0, z1, z2, z3⟩ := cellsH hz2
  obtain ⟨m0, m1, m2, m3⟩ := cellsH hH
  have f0 := hz2.f0
  have f1 := hz2.f1
  have f2 := hz2.f2
  have f3 := hz2.f3
  simp only [Nat.zero_add] at f1 f2 f3
  have HX : Hid (X = _) := hX
  clear hX hH hbX hOX hz2 hb2 hD HZ hc0
  go_wp2
  rw [← HX.out]
  refine bodyPost_ret (v := .tuple #[v, .agg #[.int .i64 h.who, .int .i64 h.has, .int .i64 h.kept, .int .i64 h.last], .int .i64 k]) (by simp [results, Tryz.f9, go_sem, m0, m1, m2, m3]) rfl ?_
  exact ⟨v, L, h, k, rfl, HF.out, hk⟩

/-- a list that lies there, the five errors, and the handle -/
structure LiesA (w : World) (g : Nat) (L : List K) : Prop where
  ls : LiesS w g L
  no : SensA w
theorem LiesA.below {w w' : World} {g : Nat} {L : List K} (h : LiesA w g L) (hb : Below w.heap.size w w') : LiesA w' g L := ⟨h.ls.below hb, h.no.below hb⟩
theorem LiesA.words {w : World} {g : Nat} {L : List K} (h : LiesA w g L) : Lc.WordsOk L := h.ls.words
theorem LiesA.rd {w : World} {g : Nat} {L : List K} (h : LiesA w g L) : RdK w (some ⟨g, 0, none⟩) L := h.ls.rd
theorem LiesA.toN {w : World} {g : Nat} {L : List K} (h : LiesA w g L) : LiesN w g L := ⟨h.ls, h.no.elim fun x q => ⟨_, q.1.noh⟩⟩

def ImplLearns : Prop := ∀ (g cap : Nat) (L : List K) (h : Hd) (k : Int) (w : World), LiesA w g L → L.length ≤ cap → H64 h → Calls Tryz.prog 8 #[.slice (some ⟨g, 0, none⟩) L.length cap, .agg #[.int .i64 h.who, .int .i64 h.has, .int .i64 h.kept, .int .i64 h.last], .int .i64 k] w fun e w' => e = .returned (.tuple #[.agg #[.int .i64 (learnedH L h k true).who, .int .i64 (learnedH L h k true).has, .int .i64 (learnedH L h k true).kept, .int .i64 (learnedH L h k true).last], .bool (learnedB L h k true)]) ∧ Below w.heap.size w w'
def ImplLearnsAll : Prop := ∀ (g cap : Nat) (L : List K) (h : Hd) (k : Int) (w : World), LiesA w g L → L.length ≤ cap → H64 h → Calls Tryz.prog 10 #[.slice (some ⟨g, 0, none⟩) L.length cap, .agg #[.int .i64 h.who, .int .i64 h.has, .int .i64 h.kept, .int .i64 h.last], .int .i64 k] w fun e w' => e = .returned (.tuple #[.agg #[.int .i64 (learnedH L h k false).who, .int .i64 (learnedH L h k false).has, .int .i64 (learnedH L h k false).kept, .int .i64 (learnedH L h k false).last], .bool (learnedB L h k false)]) ∧ Below w.heap.size w w'

theorem learned_yes {L : List K} {h : Hd} {k : Int} {al : Bool} (q : learnedB L h k al = true) : handOkB L h = true ∧ learnB L (belows L L.length) h.who h.has k al = true := by
  unfold learnedB at q
  rw [Bool.and_eq_true] at q
  exact q
theorem is_64 {L : List K} {h : Hd} (x : HandIs L h) : H64 h := ⟨by have := x.h0; omega, by have := x.h1; omega, by have := x.k0; omega, by have := x.k1; omega⟩
theorem below_bel {L : List K} (hl : laceB L = true) {p : Nat} (hp : p < L.length) : Sg.belowI L (p : Int) = Sg.bel L p := by
  unfold Sg.belowI
  rw [if_pos (by unfold Sg.isB; rw [hl]; simp; omega), Int.toNat_natCast]
/-- where all it hangs on is there, what is below it is it alone, besides -/
theorem with_bel {L : List K} {h : Hd} (x : HandIs L h) {p : Nat} (hp : p < L.length) (hb : bit h.has p = false) (ha : bits .andNot .i64 (Sg.bel L p) h.has = 2 ^ p) : Base.withI h.has (p : Int) = orB h.has (Sg.bel L p) := by
  have h60 := ((Lc.lace_iff L).1 x.lace).1
  have hbb := Sg.bel_bd L p (by omega)
  have hob := Sg.orB_bd h.has (Sg.bel L p) x.h0 x.h1 hbb.1 hbb.2
  have hwb := Bit.withB_bd h.has x.h0 x.h1 p (by omega)
  unfold Base.withI
  rw [(Base.okB_iff _).2 ⟨x.h0, x.h1⟩, (Base.inB_iff _).2 ⟨by omega, by omega⟩]
  simp only [Bool.and_self, if_true, Int.toNat_natCast]
  refine Lc.eq_of_bits _ _ hwb.1 hob.1 fun j => ?_
  rw [Bit.bit_withB h.has x.h0, Sg.bit_orB h.has (Sg.bel L p) x.h0 hbb.1]
  have e : bit (bits .andNot .i64 (Sg.bel L p) h.has) j = bit (2 ^ p) j := by rw [ha]
  rw [Sg.bit_andNot _ _ hbb.1 hbb.2 x.h0 x.h1, Sg.bit_pow] at e
  rw [← e]
  cases bit h.has j <;> cases bit (Sg.bel L p) j <;> rfl

set_option maxHeartbeats 12800000 in
theorem learnsWalk (HI1 : ImplLearns) (HI2 : ImplLearnsAll) (HI4 : ImplHandOk) (HD : DrawsRoom) (HDC : DrawsRoomC) (a0 : Option Addr) (len0 cap0 : Nat) (w : World) (hcode : Cur.Code w a0 len0) (hno : SensA w) :
    Calls Tryz.prog 3 #[.slice a0 len0 cap0] w fun e w' => e = .returned (.bool true) ∧ Below w.heap.size w w' := by
  by_cases hbig : 4096 < len0
  · have hb' : (4096 : Int) < (len0 : Int) := by omega
    go_enter Tryz.func3, Tryz.ntmps3
    go_wp2
    go_ret
    exact ⟨rfl, Below.refl _ _⟩
  · have hb' : ¬ (4096 : Int) < (len0 : Int) := by omega
    have hle0 : len0 ≤ 4096 := by omega
    have HDD : Hid DrawsRoom := HD
    have HDX : Hid DrawsRoomC := HDC
    have H1 : Hid ImplLearns := HI1
    have H2 : Hid ImplLearnsAll := HI2
    have H4 : Hid ImplHandOk := HI4
    have HCode : Hid (Cur.Code w a0 len0) := hcode
    have HNO : Hid (SensA w) := hno
    clear hno
    clear hbig HD HDC hcode HI1 HI2 HI4
    go_enter Tryz.func3, Tryz.ntmps3
    go_wp2_with (first | (go_at_call 6; go_in) | fail)
    refine (drawLearns HDD.out HDX.out a0 len0 cap0 _ hle0 HCode.out).mono ?_
    rintro e w1 ⟨v, L, h, k, rfl, hD, hkb0⟩
    obtain ⟨g, cp, rfl, hcp, hL1⟩ := drawn_liesS hD.dr
    have HL_0 : Hid (LiesA w1 g L) := ⟨hL1, HNO.out.below hD.dr.bel⟩
    have HB_0 : Hid (Below w.heap.size w w1) := hD.dr.bel
    have h64 := hD.h64
    clear hD hL1
    have SX0 : Hid (∀ W : World, LiesA W g L → _) := fun W hW => specLearns g 0 cp L h k W hcp hW.words hW.rd h64
    have SO : Hid (∀ W : World, LiesA W g L → _) := fun W hW => specHandOk g 0 cp L h W hcp hW.words hW.rd h64
    have HX0 : Hid (∀ W : World, LiesA W g L → _) := fun W hW => H1.out g cp L h k W hW hcp h64
    cases hok : handOkB L h
    · have e1 : learnedH L h k true = ⟨0, 0, 0, 0⟩ := by unfold learnedH; rw [hok]; rfl
      have e2 : learnedB L h k true = false := by unfold learnedB; rw [hok]; rfl
      have SX := SX0
      have HX := HX0
      rw [e1, e2] at SX HX
      rw [hok] at SO
      clear SX0 HX0 e1 e2 h64
      obtain ⟨who, has, kept, last⟩ := h
      dsimp only at SX SO HX
      have HL_1 : Hid (LiesA (w1.alloc (.cells #[.int .i64 who, .int .i64 has, .int .i64 kept, .int .i64 last] 26)) g L) := HL_0.out.below ((Below.refl _ w1).alloc (Nat.le_refl _) _)
      have HB_1 : Hid (Below w.heap.size w (w1.alloc (.cells #[.int .i64 who, .int .i64 has, .int .i64 kept, .int .i64 last] 26))) := HB_0.out.trans (((Below.refl _ w1).alloc (Nat.le_refl _) _).mono HB_0.out.size)
      have HH_1 : Hid (HAt (w1.alloc (.cells #[.int .i64 who, .int .i64 has, .int .i64 kept, .int .i64 last] 26)) (w1.heap.size) 0 ⟨who, has, kept, last⟩) := hat_new w1 ⟨who, has, kept, last⟩ _
      clear HL_0 HB_0 
      go_wp2_with fail
      refine (HX.out _ HL_1.out).mono ?_
      rintro e w2 ⟨rfl, hb⟩
      have HH_2 : Hid (HAt (w2) (w1.heap.size) 0 ⟨who, has, kept, last⟩) := hat_below HH_1.out hb
      have HL_2 : Hid (LiesA (w2) g L) := HL_1.out.below (hb)
      have HB_2 : Hid (Below w.heap.size w (w2)) := HB_1.out.trans ((hb).mono HB_1.out.size)
      clear HL_1 HB_1 HH_1
      have HH_3 : Hid (HAt (w2.alloc (.cells #[.int .i64 0, .int .i64 0, .int .i64 0, .int .i64 0] 26)) (w1.heap.size) 0 ⟨who, has, kept, last⟩) := hat_below HH_2.out ((Below.refl _ w2).alloc (Nat.le_refl _) _)
      have HL_3 : Hid (LiesA (w2.alloc (.cells #[.int .i64 0, .int .i64 0, .int .i64 0, .int .i64 0] 26)) g L) := HL_2.out.below ((Below.refl _ w2).alloc (Nat.le_refl _) _)
      have HB_3 : Hid (Below w.heap.size w (w2.alloc (.cells #[.int .i64 0, .int .i64 0, .int .i64 0, .int .i64 0] 26))) := HB_2.out.trans (((Below.refl _ w2).alloc (Nat.le_refl _) _).mono HB_2.out.size)
      have HXX_3 : Hid (HAt (w2.alloc (.cells #[.int .i64 0, .int .i64 0, .int .i64 0, .int .i64 0] 26)) (w2.heap.size) 0 ⟨0, 0, 0, 0⟩) := hat_new w2 ⟨0, 0, 0, 0⟩ _
      clear HL_2 HB_2 HH_2
      go_wp2_with fail
      refine (drawLearnsAll HDD.out HDX.out a0 len0 cap0 _ hle0 (code_below2 HCode.out HB_3.out)).mono ?_
      rintro e w3 ⟨v2, Q2, gq, m, rfl, hD2, hm2⟩
      have HH_4 : Hid (HAt (w3) (w1.heap.size) 0 ⟨who, has, kept, last⟩) := hat_below HH_3.out hD2.dr.bel
      have HXX_4 : Hid (HAt (w3) (w2.heap.size) 0 ⟨0, 0, 0, 0⟩) := hat_below HXX_3.out hD2.dr.bel
      have HL_4 : Hid (LiesA (w3) g L) := HL_3.out.below (hD2.dr.bel)
      have HB_4 : Hid (Below w.heap.size w (w3)) := HB_3.out.trans ((hD2.dr.bel).mono HB_3.out.size)
      clear HL_3 HB_3 HH_3 HXX_3
      obtain ⟨g2, cp2, rfl, hcp2, hM⟩ := drawn_liesS hD2.dr
      have HM_4 : Hid (LiesA w3 g2 Q2) := ⟨hM, HNO.out.below HB_4.out⟩
      have g64 := hD2.h64
      clear hD2 hM
      have HY0 : Hid (∀ W : World, LiesA W g2 Q2 → _) := fun W hW => H2.out g2 cp2 Q2 gq m W hW hcp2 g64
      have SY0 : Hid (∀ W : World, LiesA W g2 Q2 → _) := fun W hW => specLearnsAll g2 0 cp2 Q2 gq m W hcp2 hW.words hW.rd g64
      cases hal : learnedB Q2 gq m false
      · have HY := HY0
        have SY := SY0
        rw [hal] at HY SY
        clear HY0 SY0
        obtain ⟨gw, gh, gk, gl⟩ := gq
        generalize hlh : learnedH Q2 ⟨gw, gh, gk, gl⟩ m false = yy at HY SY
        clear hlh
        obtain ⟨y1, y2, y3, y4⟩ := yy
        dsimp only at HY SY
        have HH_5 : Hid (HAt (w3.alloc (.cells #[.int .i64 gw, .int .i64 gh, .int .i64 gk, .int .i64 gl] 26)) (w1.heap.size) 0 ⟨who, has, kept, last⟩) := hat_below HH_4.out ((Below.refl _ w3).alloc (Nat.le_refl _) _)
        have HXX_5 : Hid (HAt (w3.alloc (.cells #[.int .i64 gw, .int .i64 gh, .int .i64 gk, .int .i64 gl] 26)) (w2.heap.size) 0 ⟨0, 0, 0, 0⟩) := hat_below HXX_4.out ((Below.refl _ w3).alloc (Nat.le_refl _) _)
        have HL_5 : Hid (LiesA (w3.alloc (.cells #[.int .i64 gw, .int .i64 gh, .int .i64 gk, .int .i64 gl] 26)) g L) := HL_4.out.below ((Below.refl _ w3).alloc (Nat.le_refl _) _)
        have HM_5 : Hid (LiesA (w3.alloc (.cells #[.int .i64 gw, .int .i64 gh, .int .i64 gk, .int .i64 gl] 26)) g2 Q2) := HM_4.out.below ((Below.refl _ w3).alloc (Nat.le_refl _) _)
        have HB_5 : Hid (Below w.heap.size w (w3.alloc (.cells #[.int .i64 gw, .int .i64 gh, .int .i64 gk, .int .i64 gl] 26))) := HB_4.out.trans (((Below.refl _ w3).alloc (Nat.le_refl _) _).mono HB_4.out.size)
        have HGG_5 : Hid (HAt (w3.alloc (.cells #[.int .i64 gw, .int .i64 gh, .int .i64 gk, .int .i64 gl] 26)) (w3.heap.size) 0 ⟨gw, gh, gk, gl⟩) := hat_new w3 ⟨gw, gh, gk, gl⟩ _
        clear HL_4 HM_4 HB_4 HH_4 HXX_4
        go_wp2_with fail
        refine (HY.out _ HM_5.out).mono ?_
        rintro e w4 ⟨rfl, hb⟩
        have HH_6 : Hid (HAt (w4) (w1.heap.size) 0 ⟨who, has, kept, last⟩) := hat_below HH_5.out hb
        have HXX_6 : Hid (HAt (w4) (w2.heap.size) 0 ⟨0, 0, 0, 0⟩) := hat_below HXX_5.out hb
        have HGG_6 : Hid (HAt (w4) (w3.heap.size) 0 ⟨gw, gh, gk, gl⟩) := hat_below HGG_5.out hb
        have HL_6 : Hid (LiesA (w4) g L) := HL_5.out.below (hb)
        have HM_6 : Hid (LiesA (w4) g2 Q2) := HM_5.out.below (hb)
        have HB_6 : Hid (Below w.heap.size w (w4)) := HB_5.out.trans ((hb).mono HB_5.out.size)
        clear HL_5 HM_5 HB_5 HH_5 HXX_5 HGG_5
        have HH_7 : Hid (HAt (w4.alloc (.cells #[.int .i64 y1, .int .i64 y2, .int .i64 y3, .int .i64 y4] 26)) (w1.heap.size) 0 ⟨who, has, kept, last⟩) := hat_below HH_6.out ((Below.refl _ w4).alloc (Nat.le_refl _) _)
        have HXX_7 : Hid (HAt (w4.alloc (.cells #[.int .i64 y1, .int .i64 y2, .int .i64 y3, .int .i64 y4] 26)) (w2.heap.size) 0 ⟨0, 0, 0, 0⟩) := hat_below HXX_6.out ((Below.refl _ w4).alloc (Nat.le_refl _) _)
        have HGG_7 : Hid (HAt (w4.alloc (.cells #[.int .i64 y1, .int .i64 y2, .int .i64 y3, .int .i64 y4] 26)) (w3.heap.size) 0 ⟨gw, gh, gk, gl⟩) := hat_below HGG_6.out ((Below.refl _ w4).alloc (Nat.le_refl _) _)
        have HL_7 : Hid (LiesA (w4.alloc (.cells #[.int .i64 y1, .int .i64 y2, .int .i64 y3, .int .i64 y4] 26)) g L) := HL_6.out.below ((Below.refl _ w4).alloc (Nat.le_refl _) _)
        have HM_7 : Hid (LiesA (w4.alloc (.cells #[.int .i64 y1, .int .i64 y2, .int .i64 y3, .int .i64 y4] 26)) g2 Q2) := HM_6.out.below ((Below.refl _ w4).alloc (Nat.le_refl _) _)
        have HB_7 : Hid (Below w.heap.size w (w4.alloc (.cells #[.int .i64 y1, .int .i64 y2, .int .i64 y3, .int .i64 y4] 26))) := HB_6.out.trans (((Below.refl _ w4).alloc (Nat.le_refl _) _).mono HB_6.out.size)
        have HYY_7 : Hid (HAt (w4.alloc (.cells #[.int .i64 y1, .int .i64 y2, .int .i64 y3, .int .i64 y4] 26)) (w4.heap.size) 0 ⟨y1, y2, y3, y4⟩) := hat_new w4 ⟨y1, y2, y3, y4⟩ _
        clear HL_6 HM_6 HB_6 HH_6 HXX_6 HGG_6
        obtain ⟨c1a, c1b, c1c, c1d⟩ := cellsH HH_7.out
        dsimp only at c1a c1b c1c c1d
        go_wp2_with fail
        refine (SX.out _ HL_7.out).mono ?_
        rintro e w5 ⟨rfl, hb⟩
        have HH_8 : Hid (HAt (w5) (w1.heap.size) 0 ⟨who, has, kept, last⟩) := hat_below HH_7.out hb
        have HXX_8 : Hid (HAt (w5) (w2.heap.size) 0 ⟨0, 0, 0, 0⟩) := hat_below HXX_7.out hb
        have HGG_8 : Hid (HAt (w5) (w3.heap.size) 0 ⟨gw, gh, gk, gl⟩) := hat_below HGG_7.out hb
        have HYY_8 : Hid (HAt (w5) (w4.heap.size) 0 ⟨y1, y2, y3, y4⟩) := hat_below HYY_7.out hb
        have HL_8 : Hid (LiesA (w5) g L) := HL_7.out.below (hb)
        have HM_8 : Hid (LiesA (w5) g2 Q2) := HM_7.out.below (hb)
        have HB_8 : Hid (Below w.heap.size w (w5)) := HB_7.out.trans ((hb).mono HB_7.out.size)
        clear HL_7 HM_7 HB_7 HH_7 HXX_7 HGG_7 HYY_7
        have HH_9 : Hid (HAt (w5.alloc (.cells #[.int .i64 0, .int .i64 0, .int .i64 0, .int .i64 0] 26)) (w1.heap.size) 0 ⟨who, has, kept, last⟩) := hat_below HH_8.out ((Below.refl _ w5).alloc (Nat.le_refl _) _)
        have HXX_9 : Hid (HAt (w5.alloc (.cells #[.int .i64 0, .int .i64 0, .int .i64 0, .int .i64 0] 26)) (w2.heap.size) 0 ⟨0, 0, 0, 0⟩) := hat_below HXX_8.out ((Below.refl _ w5).alloc (Nat.le_refl _) _)
        have HGG_9 : Hid (HAt (w5.alloc (.cells #[.int .i64 0, .int .i64 0, .int .i64 0, .int .i64 0] 26)) (w3.heap.size) 0 ⟨gw, gh, gk, gl⟩) := hat_below HGG_8.out ((Below.refl _ w5).alloc (Nat.le_refl _) _)
        have HYY_9 : Hid (HAt (w5.alloc (.cells #[.int .i64 0, .int .i64 0, .int .i64 0, .int .i64 0] 26)) (w4.heap.size) 0 ⟨y1, y2, y3, y4⟩) := hat_below HYY_8.out ((Below.refl _ w5).alloc (Nat.le_refl _) _)
        have HL_9 : Hid (LiesA (w5.alloc (.cells #[.int .i64 0, .int .i64 0, .int .i64 0, .int .i64 0] 26)) g L) := HL_8.out.below ((Below.refl _ w5).alloc (Nat.le_refl _) _)
        have HM_9 : Hid (LiesA (w5.alloc (.cells #[.int .i64 0, .int .i64 0, .int .i64 0, .int .i64 0] 26)) g2 Q2) := HM_8.out.below ((Below.refl _ w5).alloc (Nat.le_refl _) _)
        have HB_9 : Hid (Below w.heap.size w (w5.alloc (.cells #[.int .i64 0, .int .i64 0, .int .i64 0, .int .i64 0] 26))) := HB_8.out.trans (((Below.refl _ w5).alloc (Nat.le_refl _) _).mono HB_8.out.size)
        have HZX_9 : Hid (HAt (w5.alloc (.cells #[.int .i64 0, .int .i64 0, .int .i64 0, .int .i64 0] 26)) (w5.heap.size) 0 ⟨0, 0, 0, 0⟩) := hat_new w5 ⟨0, 0, 0, 0⟩ _
        clear HL_8 HM_8 HB_8 HH_8 HXX_8 HGG_8 HYY_8
        have ex := hand_ne 0 0 0 0
        obtain ⟨c2a, c2b, c2c, c2d⟩ := cellsH HXX_9.out
        dsimp only at c2a c2b c2c c2d
        obtain ⟨c3a, c3b, c3c, c3d⟩ := cellsH HZX_9.out
        dsimp only at c3a c3b c3c c3d
        obtain ⟨c4a, c4b, c4c, c4d⟩ := cellsH HGG_9.out
        dsimp only at c4a c4b c4c c4d
        go_wp2_with fail
        refine (SY.out _ HM_9.out).mono ?_
        rintro e w6 ⟨rfl, hb⟩
        have HH_10 : Hid (HAt (w6) (w1.heap.size) 0 ⟨who, has, kept, last⟩) := hat_below HH_9.out hb
        have HXX_10 : Hid (HAt (w6) (w2.heap.size) 0 ⟨0, 0, 0, 0⟩) := hat_below HXX_9.out hb
        have HGG_10 : Hid (HAt (w6) (w3.heap.size) 0 ⟨gw, gh, gk, gl⟩) := hat_below HGG_9.out hb
        have HYY_10 : Hid (HAt (w6) (w4.heap.size) 0 ⟨y1, y2, y3, y4⟩) := hat_below HYY_9.out hb
        have HZX_10 : Hid (HAt (w6) (w5.heap.size) 0 ⟨0, 0, 0, 0⟩) := hat_below HZX_9.out hb
        have HL_10 : Hid (LiesA (w6) g L) := HL_9.out.below (hb)
        have HM_10 : Hid (LiesA (w6) g2 Q2) := HM_9.out.below (hb)
        have HB_10 : Hid (Below w.heap.size w (w6)) := HB_9.out.trans ((hb).mono HB_9.out.size)
        clear HL_9 HM_9 HB_9 HH_9 HXX_9 HGG_9 HYY_9 HZX_9
        have HH_11 : Hid (HAt (w6.alloc (.cells #[.int .i64 y1, .int .i64 y2, .int .i64 y3, .int .i64 y4] 26)) (w1.heap.size) 0 ⟨who, has, kept, last⟩) := hat_below HH_10.out ((Below.refl _ w6).alloc (Nat.le_refl _) _)
        have HXX_11 : Hid (HAt (w6.alloc (.cells #[.int .i64 y1, .int .i64 y2, .int .i64 y3, .int .i64 y4] 26)) (w2.heap.size) 0 ⟨0, 0, 0, 0⟩) := hat_below HXX_10.out ((Below.refl _ w6).alloc (Nat.le_refl _) _)
        have HGG_11 : Hid (HAt (w6.alloc (.cells #[.int .i64 y1, .int .i64 y2, .int .i64 y3, .int .i64 y4] 26)) (w3.heap.size) 0 ⟨gw, gh, gk, gl⟩) := hat_below HGG_10.out ((Below.refl _ w6).alloc (Nat.le_refl _) _)
        have HYY_11 : Hid (HAt (w6.alloc (.cells #[.int .i64 y1, .int .i64 y2, .int .i64 y3, .int .i64 y4] 26)) (w4.heap.size) 0 ⟨y1, y2, y3, y4⟩) := hat_below HYY_10.out ((Below.refl _ w6).alloc (Nat.le_refl _) _)
        have HZX_11 : Hid (HAt (w6.alloc (.cells #[.int .i64 y1, .int .i64 y2, .int .i64 y3, .int .i64 y4] 26)) (w5.heap.size) 0 ⟨0, 0, 0, 0⟩) := hat_below HZX_10.out ((Below.refl _ w6).alloc (Nat.le_refl _) _)
        have HL_11 : Hid (LiesA (w6.alloc (.cells #[.int .i64 y1, .int .i64 y2, .int .i64 y3, .int .i64 y4] 26)) g L) := HL_10.out.below ((Below.refl _ w6).alloc (Nat.le_refl _) _)
        have HM_11 : Hid (LiesA (w6.alloc (.cells #[.int .i64 y1, .int .i64 y2, .int .i64 y3, .int .i64 y4] 26)) g2 Q2) := HM_10.out.below ((Below.refl _ w6).alloc (Nat.le_refl _) _)
        have HB_11 : Hid (Below w.heap.size w (w6.alloc (.cells #[.int .i64 y1, .int .i64 y2, .int .i64 y3, .int .i64 y4] 26))) := HB_10.out.trans (((Below.refl _ w6).alloc (Nat.le_refl _) _).mono HB_10.out.size)
        have HZY_11 : Hid (HAt (w6.alloc (.cells #[.int .i64 y1, .int .i64 y2, .int .i64 y3, .int .i64 y4] 26)) (w6.heap.size) 0 ⟨y1, y2, y3, y4⟩) := hat_new w6 ⟨y1, y2, y3, y4⟩ _
        clear HL_10 HM_10 HB_10 HH_10 HXX_10 HGG_10 HYY_10 HZX_10
        have ey := hand_ne y1 y2 y3 y4
        obtain ⟨c5a, c5b, c5c, c5d⟩ := cellsH HYY_11.out
        dsimp only at c5a c5b c5c c5d
        obtain ⟨c6a, c6b, c6c, c6d⟩ := cellsH HZY_11.out
        dsimp only at c6a c6b c6c c6d
        obtain ⟨X1, _, F1, HFz1, HG1⟩ := Fam.fam ((w6.alloc (.cells #[.int .i64 y1, .int .i64 y2, .int .i64 y3, .int .i64 y4] 26)))
        have y00 : ∀ z, (F1 z).cell? ⟨w3.heap.size, 0, none⟩ = some (.int .i64 gw) := fun z => (cellsH (hat_below HGG_11.out (HFz1.out z))).1
        have y01 : ∀ z, (F1 z).cell? ⟨w3.heap.size, 1, none⟩ = some (.int .i64 gh) := fun z => (cellsH (hat_below HGG_11.out (HFz1.out z))).2.1
        have y02 : ∀ z, (F1 z).cell? ⟨w3.heap.size, 2, none⟩ = some (.int .i64 gk) := fun z => (cellsH (hat_below HGG_11.out (HFz1.out z))).2.2.1
        have y03 : ∀ z, (F1 z).cell? ⟨w3.heap.size, 3, none⟩ = some (.int .i64 gl) := fun z => (cellsH (hat_below HGG_11.out (HFz1.out z))).2.2.2
        have y10 : ∀ z, (F1 z).cell? ⟨w4.heap.size, 0, none⟩ = some (.int .i64 y1) := fun z => (cellsH (hat_below HYY_11.out (HFz1.out z))).1
        have y11 : ∀ z, (F1 z).cell? ⟨w4.heap.size, 1, none⟩ = some (.int .i64 y2) := fun z => (cellsH (hat_below HYY_11.out (HFz1.out z))).2.1
        have y12 : ∀ z, (F1 z).cell? ⟨w4.heap.size, 2, none⟩ = some (.int .i64 y3) := fun z => (cellsH (hat_below HYY_11.out (HFz1.out z))).2.2.1
        have y13 : ∀ z, (F1 z).cell? ⟨w4.heap.size, 3, none⟩ = some (.int .i64 y4) := fun z => (cellsH (hat_below HYY_11.out (HFz1.out z))).2.2.2
        have HLz : Hid (∀ z, LiesA (F1 z) g L) := fun z => HL_11.out.below (HFz1.out z)
        have HMz : Hid (∀ z, LiesA (F1 z) g2 Q2) := fun z => HM_11.out.below (HFz1.out z)
        go_wp2_with fail
        refine Fam.region (F := F1) (by kernel_rfl) (by kernel_rfl) (HG1.out _ (Below.refl _ _).drew) ?_
        repeat (go_big_quiet_step (first
          | fail))
        refine wpQuiet_nil ?_
        intro wz hwz
        obtain ⟨z1, rfl⟩ := hwz
        have HH_12 : Hid (HAt (F1 z1) (w1.heap.size) 0 ⟨who, has, kept, last⟩) := hat_below HH_11.out (HFz1.out z1)
        have HXX_12 : Hid (HAt (F1 z1) (w2.heap.size) 0 ⟨0, 0, 0, 0⟩) := hat_below HXX_11.out (HFz1.out z1)
        have HGG_12 : Hid (HAt (F1 z1) (w3.heap.size) 0 ⟨gw, gh, gk, gl⟩) := hat_below HGG_11.out (HFz1.out z1)
        have HYY_12 : Hid (HAt (F1 z1) (w4.heap.size) 0 ⟨y1, y2, y3, y4⟩) := hat_below HYY_11.out (HFz1.out z1)
        have HZX_12 : Hid (HAt (F1 z1) (w5.heap.size) 0 ⟨0, 0, 0, 0⟩) := hat_below HZX_11.out (HFz1.out z1)
        have HZY_12 : Hid (HAt (F1 z1) (w6.heap.size) 0 ⟨y1, y2, y3, y4⟩) := hat_below HZY_11.out (HFz1.out z1)
        have HL_12 : Hid (LiesA (F1 z1) g L) := HL_11.out.below (HFz1.out z1)
        have HM_12 : Hid (LiesA (F1 z1) g2 Q2) := HM_11.out.below (HFz1.out z1)
        have HB_12 : Hid (Below w.heap.size w (F1 z1)) := HB_11.out.trans ((HFz1.out z1).mono HB_11.out.size)
        clear HL_11 HM_11 HB_11 HH_11 HXX_11 HGG_11 HYY_11 HZX_11 HZY_11
        generalize F1 z1 = wv at HH_12 HXX_12 HGG_12 HYY_12 HZX_12 HZY_12 HL_12 HM_12 HB_12 ⊢
        clear HFz1 HG1 HLz HMz y00 y01 y02 y03 y10 y11 y12 y13
        obtain ⟨c7a, c7b, c7c, c7d⟩ := cellsH HH_12.out
        dsimp only at c7a c7b c7c c7d
        go_wp2_with fail
        refine (SO.out _ HL_12.out).mono ?_
        rintro e w7 ⟨rfl, hb⟩
        have HH_13 : Hid (HAt (w7) (w1.heap.size) 0 ⟨who, has, kept, last⟩) := hat_below HH_12.out hb
        have HXX_13 : Hid (HAt (w7) (w2.heap.size) 0 ⟨0, 0, 0, 0⟩) := hat_below HXX_12.out hb
        have HGG_13 : Hid (HAt (w7) (w3.heap.size) 0 ⟨gw, gh, gk, gl⟩) := hat_below HGG_12.out hb
        have HYY_13 : Hid (HAt (w7) (w4.heap.size) 0 ⟨y1, y2, y3, y4⟩) := hat_below HYY_12.out hb
        have HZX_13 : Hid (HAt (w7) (w5.heap.size) 0 ⟨0, 0, 0, 0⟩) := hat_below HZX_12.out hb
        have HZY_13 : Hid (HAt (w7) (w6.heap.size) 0 ⟨y1, y2, y3, y4⟩) := hat_below HZY_12.out hb
        have HL_13 : Hid (LiesA (w7) g L) := HL_12.out.below (hb)
        have HM_13 : Hid (LiesA (w7) g2 Q2) := HM_12.out.below (hb)
        have HB_13 : Hid (Below w.heap.size w (w7)) := HB_12.out.trans ((hb).mono HB_12.out.size)
        clear HL_12 HM_12 HB_12 HH_12 HXX_12 HGG_12 HYY_12 HZX_12 HZY_12
        obtain ⟨c8a, c8b, c8c, c8d⟩ := cellsH HXX_13.out
        dsimp only at c8a c8b c8c c8d
        have ez := hand_eq 0 0 0 0
        have HE : Hid (Below w.heap.size w w7) := HB_13.out
        go_wp2
        go_ret
        exact ⟨rfl, HE.out⟩
      · have HY := HY0
        have SY := SY0
        rw [hal] at HY SY
        clear HY0 SY0
        obtain ⟨hq1, hq2⟩ := learned_yes hal
        have hIs2 := hand_is g64 hq1
        obtain ⟨pm, rfl, hpm, hbm, hgm, _, _⟩ := learn_parts hIs2 hq2
        have hli := learned_is hIs2 hq2
        have e3 : learnedH Q2 gq (pm : Int) false = { gq with has := orB gq.has ((belows Q2 Q2.length).getD (pm : Int).toNat 0) } := by unfold learnedH; rw [if_pos hq1, if_pos hq2]
        rw [hgm] at hli e3
        rw [e3] at HY SY
        have h60q := ((Lc.lace_iff Q2).1 hIs2.lace).1
        have hbb := Sg.bel_bd Q2 pm (by omega)
        have hor : bits .or .i64 gq.has (Sg.bel Q2 pm) = orB gq.has (Sg.bel Q2 pm) := Sg.or_eq _ _ hIs2.h0 hIs2.h1 hbb.1 hbb.2
        have YOK : Hid (∀ W : World, LiesA W g2 Q2 → _) := fun W hW => by
          have := H4.out g2 cp2 Q2 { gq with has := orB gq.has (Sg.bel Q2 pm) } W hW.toN hcp2 (is_64 hli)
          rw [is_hand hli] at this
          exact this
        have YBE : Hid (∀ W : World, LiesA W g2 Q2 → Calls Tryz.prog 14 #[.slice (some ⟨g2, 0, none⟩) Q2.length cp2, .int .i64 (pm : Int)] W fun e w' => e = .returned (.int .i64 (Sg.bel Q2 pm)) ∧ Below W.heap.size W w') := fun W hW => by
          have := Sg.specBelow g2 0 cp2 Q2 (pm : Int) W hcp2 hW.words hW.rd
          rw [below_bel hIs2.lace hpm] at this
          exact this
        have YIN : Hid (∀ W : World, Calls Tryz.prog 15 #[.int .i64 gq.has, .int .i64 (pm : Int)] W fun e w' => e = .returned (.bool false) ∧ Below W.heap.size W w') := fun W => (Base.specIn gq.has (pm : Int) W).mono fun e w' h => ⟨by rw [h.1, Int.toNat_natCast, hbm]; simp, h.2 ▸ Below.refl _ _⟩
        clear hli e3 hIs2 hbm hgm hq1 hq2 hbb h60q hal
        obtain ⟨gw, gh, gk, gl⟩ := gq
        dsimp only at HY SY YOK YIN hor
        generalize orB gh (Sg.bel Q2 pm) = nn at HY SY YOK hor
        generalize Sg.bel Q2 pm = bq at YBE hor
        generalize (pm : Int) = m at HY SY YBE YIN hm2 ⊢
        have HH_5 : Hid (HAt (w3.alloc (.cells #[.int .i64 gw, .int .i64 gh, .int .i64 gk, .int .i64 gl] 26)) (w1.heap.size) 0 ⟨who, has, kept, last⟩) := hat_below HH_4.out ((Below.refl _ w3).alloc (Nat.le_refl _) _)
        have HXX_5 : Hid (HAt (w3.alloc (.cells #[.int .i64 gw, .int .i64 gh, .int .i64 gk, .int .i64 gl] 26)) (w2.heap.size) 0 ⟨0, 0, 0, 0⟩) := hat_below HXX_4.out ((Below.refl _ w3).alloc (Nat.le_refl _) _)
        have HL_5 : Hid (LiesA (w3.alloc (.cells #[.int .i64 gw, .int .i64 gh, .int .i64 gk, .int .i64 gl] 26)) g L) := HL_4.out.below ((Below.refl _ w3).alloc (Nat.le_refl _) _)
        have HM_5 : Hid (LiesA (w3.alloc (.cells #[.int .i64 gw, .int .i64 gh, .int .i64 gk, .int .i64 gl] 26)) g2 Q2) := HM_4.out.below ((Below.refl _ w3).alloc (Nat.le_refl _) _)
        have HB_5 : Hid (Below w.heap.size w (w3.alloc (.cells #[.int .i64 gw, .int .i64 gh, .int .i64 gk, .int .i64 gl] 26))) := HB_4.out.trans (((Below.refl _ w3).alloc (Nat.le_refl _) _).mono HB_4.out.size)
        have HGG_5 : Hid (HAt (w3.alloc (.cells #[.int .i64 gw, .int .i64 gh, .int .i64 gk, .int .i64 gl] 26)) (w3.heap.size) 0 ⟨gw, gh, gk, gl⟩) := hat_new w3 ⟨gw, gh, gk, gl⟩ _
        clear HL_4 HM_4 HB_4 HH_4 HXX_4
        go_wp2_with fail
        refine (HY.out _ HM_5.out).mono ?_
        rintro e w4 ⟨rfl, hb⟩
        have HH_6 : Hid (HAt (w4) (w1.heap.size) 0 ⟨who, has, kept, last⟩) := hat_below HH_5.out hb
        have HXX_6 : Hid (HAt (w4) (w2.heap.size) 0 ⟨0, 0, 0, 0⟩) := hat_below HXX_5.out hb
        have HGG_6 : Hid (HAt (w4) (w3.heap.size) 0 ⟨gw, gh, gk, gl⟩) := hat_below HGG_5.out hb
        have HL_6 : Hid (LiesA (w4) g L) := HL_5.out.below (hb)
        have HM_6 : Hid (LiesA (w4) g2 Q2) := HM_5.out.below (hb)
        have HB_6 : Hid (Below w.heap.size w (w4)) := HB_5.out.trans ((hb).mono HB_5.out.size)
        clear HL_5 HM_5 HB_5 HH_5 HXX_5 HGG_5
        have HH_7 : Hid (HAt (w4.alloc (.cells #[.int .i64 gw, .int .i64 nn, .int .i64 gk, .int .i64 gl] 26)) (w1.heap.size) 0 ⟨who, has, kept, last⟩) := hat_below HH_6.out ((Below.refl _ w4).alloc (Nat.le_refl _) _)
        have HXX_7 : Hid (HAt (w4.alloc (.cells #[.int .i64 gw, .int .i64 nn, .int .i64 gk, .int .i64 gl] 26)) (w2.heap.size) 0 ⟨0, 0, 0, 0⟩) := hat_below HXX_6.out ((Below.refl _ w4).alloc (Nat.le_refl _) _)
        have HGG_7 : Hid (HAt (w4.alloc (.cells #[.int .i64 gw, .int .i64 nn, .int .i64 gk, .int .i64 gl] 26)) (w3.heap.size) 0 ⟨gw, gh, gk, gl⟩) := hat_below HGG_6.out ((Below.refl _ w4).alloc (Nat.le_refl _) _)
        have HL_7 : Hid (LiesA (w4.alloc (.cells #[.int .i64 gw, .int .i64 nn, .int .i64 gk, .int .i64 gl] 26)) g L) := HL_6.out.below ((Below.refl _ w4).alloc (Nat.le_refl _) _)
        have HM_7 : Hid (LiesA (w4.alloc (.cells #[.int .i64 gw, .int .i64 nn, .int .i64 gk, .int .i64 gl] 26)) g2 Q2) := HM_6.out.below ((Below.refl _ w4).alloc (Nat.le_refl _) _)
        have HB_7 : Hid (Below w.heap.size w (w4.alloc (.cells #[.int .i64 gw, .int .i64 nn, .int .i64 gk, .int .i64 gl] 26))) := HB_6.out.trans (((Below.refl _ w4).alloc (Nat.le_refl _) _).mono HB_6.out.size)
        have HYY_7 : Hid (HAt (w4.alloc (.cells #[.int .i64 gw, .int .i64 nn, .int .i64 gk, .int .i64 gl] 26)) (w4.heap.size) 0 ⟨gw, nn, gk, gl⟩) := hat_new w4 ⟨gw, nn, gk, gl⟩ _
        clear HL_6 HM_6 HB_6 HH_6 HXX_6 HGG_6
        obtain ⟨c1a, c1b, c1c, c1d⟩ := cellsH HH_7.out
        dsimp only at c1a c1b c1c c1d
        go_wp2_with fail
        refine (SX.out _ HL_7.out).mono ?_
        rintro e w5 ⟨rfl, hb⟩
        have HH_8 : Hid (HAt (w5) (w1.heap.size) 0 ⟨who, has, kept, last⟩) := hat_below HH_7.out hb
        have HXX_8 : Hid (HAt (w5) (w2.heap.size) 0 ⟨0, 0, 0, 0⟩) := hat_below HXX_7.out hb
        have HGG_8 : Hid (HAt (w5) (w3.heap.size) 0 ⟨gw, gh, gk, gl⟩) := hat_below HGG_7.out hb
        have HYY_8 : Hid (HAt (w5) (w4.heap.size) 0 ⟨gw, nn, gk, gl⟩) := hat_below HYY_7.out hb
        have HL_8 : Hid (LiesA (w5) g L) := HL_7.out.below (hb)
        have HM_8 : Hid (LiesA (w5) g2 Q2) := HM_7.out.below (hb)
        have HB_8 : Hid (Below w.heap.size w (w5)) := HB_7.out.trans ((hb).mono HB_7.out.size)
        clear HL_7 HM_7 HB_7 HH_7 HXX_7 HGG_7 HYY_7
        have HH_9 : Hid (HAt (w5.alloc (.cells #[.int .i64 0, .int .i64 0, .int .i64 0, .int .i64 0] 26)) (w1.heap.size) 0 ⟨who, has, kept, last⟩) := hat_below HH_8.out ((Below.refl _ w5).alloc (Nat.le_refl _) _)
        have HXX_9 : Hid (HAt (w5.alloc (.cells #[.int .i64 0, .int .i64 0, .int .i64 0, .int .i64 0] 26)) (w2.heap.size) 0 ⟨0, 0, 0, 0⟩) := hat_below HXX_8.out ((Below.refl _ w5).alloc (Nat.le_refl _) _)
        have HGG_9 : Hid (HAt (w5.alloc (.cells #[.int .i64 0, .int .i64 0, .int .i64 0, .int .i64 0] 26)) (w3.heap.size) 0 ⟨gw, gh, gk, gl⟩) := hat_below HGG_8.out ((Below.refl _ w5).alloc (Nat.le_refl _) _)
        have HYY_9 : Hid (HAt (w5.alloc (.cells #[.int .i64 0, .int .i64 0, .int .i64 0, .int .i64 0] 26)) (w4.heap.size) 0 ⟨gw, nn, gk, gl⟩) := hat_below HYY_8.out ((Below.refl _ w5).alloc (Nat.le_refl _) _)
        have HL_9 : Hid (LiesA (w5.alloc (.cells #[.int .i64 0, .int .i64 0, .int .i64 0, .int .i64 0] 26)) g L) := HL_8.out.below ((Below.refl _ w5).alloc (Nat.le_refl _) _)
        have HM_9 : Hid (LiesA (w5.alloc (.cells #[.int .i64 0, .int .i64 0, .int .i64 0, .int .i64 0] 26)) g2 Q2) := HM_8.out.below ((Below.refl _ w5).alloc (Nat.le_refl _) _)
        have HB_9 : Hid (Below w.heap.size w (w5.alloc (.cells #[.int .i64 0, .int .i64 0, .int .i64 0, .int .i64 0] 26))) := HB_8.out.trans (((Below.refl _ w5).alloc (Nat.le_refl _) _).mono HB_8.out.size)
        have HZX_9 : Hid (HAt (w5.alloc (.cells #[.int .i64 0, .int .i64 0, .int .i64 0, .int .i64 0] 26)) (w5.heap.size) 0 ⟨0, 0, 0, 0⟩) := hat_new w5 ⟨0, 0, 0, 0⟩ _
        clear HL_8 HM_8 HB_8 HH_8 HXX_8 HGG_8 HYY_8
        have ex := hand_ne 0 0 0 0
        obtain ⟨c2a, c2b, c2c, c2d⟩ := cellsH HXX_9.out
        dsimp only at c2a c2b c2c c2d
        obtain ⟨c3a, c3b, c3c, c3d⟩ := cellsH HZX_9.out
        dsimp only at c3a c3b c3c c3d
        obtain ⟨c4a, c4b, c4c, c4d⟩ := cellsH HGG_9.out
        dsimp only at c4a c4b c4c c4d
        go_wp2_with fail
        refine (SY.out _ HM_9.out).mono ?_
        rintro e w6 ⟨rfl, hb⟩
        have HH_10 : Hid (HAt (w6) (w1.heap.size) 0 ⟨who, has, kept, last⟩) := hat_below HH_9.out hb
        have HXX_10 : Hid (HAt (w6) (w2.heap.size) 0 ⟨0, 0, 0, 0⟩) := hat_below HXX_9.out hb
        have HGG_10 : Hid (HAt (w6) (w3.heap.size) 0 ⟨gw, gh, gk, gl⟩) := hat_below HGG_9.out hb
        have HYY_10 : Hid (HAt (w6) (w4.heap.size) 0 ⟨gw, nn, gk, gl⟩) := hat_below HYY_9.out hb
        have HZX_10 : Hid (HAt (w6) (w5.heap.size) 0 ⟨0, 0, 0, 0⟩) := hat_below HZX_9.out hb
        have HL_10 : Hid (LiesA (w6) g L) := HL_9.out.below (hb)
        have HM_10 : Hid (LiesA (w6) g2 Q2) := HM_9.out.below (hb)
        have HB_10 : Hid (Below w.heap.size w (w6)) := HB_9.out.trans ((hb).mono HB_9.out.size)
        clear HL_9 HM_9 HB_9 HH_9 HXX_9 HGG_9 HYY_9 HZX_9
        have HH_11 : Hid (HAt (w6.alloc (.cells #[.int .i64 gw, .int .i64 nn, .int .i64 gk, .int .i64 gl] 26)) (w1.heap.size) 0 ⟨who, has, kept, last⟩) := hat_below HH_10.out ((Below.refl _ w6).alloc (Nat.le_refl _) _)
        have HXX_11 : Hid (HAt (w6.alloc (.cells #[.int .i64 gw, .int .i64 nn, .int .i64 gk, .int .i64 gl] 26)) (w2.heap.size) 0 ⟨0, 0, 0, 0⟩) := hat_below HXX_10.out ((Below.refl _ w6).alloc (Nat.le_refl _) _)
        have HGG_11 : Hid (HAt (w6.alloc (.cells #[.int .i64 gw, .int .i64 nn, .int .i64 gk, .int .i64 gl] 26)) (w3.heap.size) 0 ⟨gw, gh, gk, gl⟩) := hat_below HGG_10.out ((Below.refl _ w6).alloc (Nat.le_refl _) _)
        have HYY_11 : Hid (HAt (w6.alloc (.cells #[.int .i64 gw, .int .i64 nn, .int .i64 gk, .int .i64 gl] 26)) (w4.heap.size) 0 ⟨gw, nn, gk, gl⟩) := hat_below HYY_10.out ((Below.refl _ w6).alloc (Nat.le_refl _) _)
        have HZX_11 : Hid (HAt (w6.alloc (.cells #[.int .i64 gw, .int .i64 nn, .int .i64 gk, .int .i64 gl] 26)) (w5.heap.size) 0 ⟨0, 0, 0, 0⟩) := hat_below HZX_10.out ((Below.refl _ w6).alloc (Nat.le_refl _) _)
        have HL_11 : Hid (LiesA (w6.alloc (.cells #[.int .i64 gw, .int .i64 nn, .int .i64 gk, .int .i64 gl] 26)) g L) := HL_10.out.below ((Below.refl _ w6).alloc (Nat.le_refl _) _)
        have HM_11 : Hid (LiesA (w6.alloc (.cells #[.int .i64 gw, .int .i64 nn, .int .i64 gk, .int .i64 gl] 26)) g2 Q2) := HM_10.out.below ((Below.refl _ w6).alloc (Nat.le_refl _) _)
        have HB_11 : Hid (Below w.heap.size w (w6.alloc (.cells #[.int .i64 gw, .int .i64 nn, .int .i64 gk, .int .i64 gl] 26))) := HB_10.out.trans (((Below.refl _ w6).alloc (Nat.le_refl _) _).mono HB_10.out.size)
        have HZY_11 : Hid (HAt (w6.alloc (.cells #[.int .i64 gw, .int .i64 nn, .int .i64 gk, .int .i64 gl] 26)) (w6.heap.size) 0 ⟨gw, nn, gk, gl⟩) := hat_new w6 ⟨gw, nn, gk, gl⟩ _
        clear HL_10 HM_10 HB_10 HH_10 HXX_10 HGG_10 HYY_10 HZX_10
        have ey := hand_ne gw nn gk gl
        obtain ⟨c5a, c5b, c5c, c5d⟩ := cellsH HYY_11.out
        dsimp only at c5a c5b c5c c5d
        obtain ⟨c6a, c6b, c6c, c6d⟩ := cellsH HZY_11.out
        dsimp only at c6a c6b c6c c6d
        obtain ⟨X1, _, F1, HFz1, HG1⟩ := Fam.fam ((w6.alloc (.cells #[.int .i64 gw, .int .i64 nn, .int .i64 gk, .int .i64 gl] 26)))
        have y00 : ∀ z, (F1 z).cell? ⟨w3.heap.size, 0, none⟩ = some (.int .i64 gw) := fun z => (cellsH (hat_below HGG_11.out (HFz1.out z))).1
        have y01 : ∀ z, (F1 z).cell? ⟨w3.heap.size, 1, none⟩ = some (.int .i64 gh) := fun z => (cellsH (hat_below HGG_11.out (HFz1.out z))).2.1
        have y02 : ∀ z, (F1 z).cell? ⟨w3.heap.size, 2, none⟩ = some (.int .i64 gk) := fun z => (cellsH (hat_below HGG_11.out (HFz1.out z))).2.2.1
        have y03 : ∀ z, (F1 z).cell? ⟨w3.heap.size, 3, none⟩ = some (.int .i64 gl) := fun z => (cellsH (hat_below HGG_11.out (HFz1.out z))).2.2.2
        have y10 : ∀ z, (F1 z).cell? ⟨w4.heap.size, 0, none⟩ = some (.int .i64 gw) := fun z => (cellsH (hat_below HYY_11.out (HFz1.out z))).1
        have y11 : ∀ z, (F1 z).cell? ⟨w4.heap.size, 1, none⟩ = some (.int .i64 nn) := fun z => (cellsH (hat_below HYY_11.out (HFz1.out z))).2.1
        have y12 : ∀ z, (F1 z).cell? ⟨w4.heap.size, 2, none⟩ = some (.int .i64 gk) := fun z => (cellsH (hat_below HYY_11.out (HFz1.out z))).2.2.1
        have y13 : ∀ z, (F1 z).cell? ⟨w4.heap.size, 3, none⟩ = some (.int .i64 gl) := fun z => (cellsH (hat_below HYY_11.out (HFz1.out z))).2.2.2
        have HLz : Hid (∀ z, LiesA (F1 z) g L) := fun z => HL_11.out.below (HFz1.out z)
        have HMz : Hid (∀ z, LiesA (F1 z) g2 Q2) := fun z => HM_11.out.below (HFz1.out z)
        go_wp2_with fail
        refine Fam.region (F := F1) (by kernel_rfl) (by kernel_rfl) (HG1.out _ (Below.refl _ _).drew) ?_
        repeat (go_big_quiet_step (first
          | (go_at_call 13; exact (YOK.out _ (HMz.out _)).mono fun _ _ h => ⟨h.1, HG1.out _ ((HFz1.out _).trans (h.2.mono (HFz1.out _).size))⟩)
          | (go_at_call 14; exact (YBE.out _ (HMz.out _)).mono fun _ _ h => ⟨h.1, HG1.out _ ((HFz1.out _).trans (h.2.mono (HFz1.out _).size))⟩)
          | (go_at_call 15; exact (YIN.out _).mono fun _ _ h => ⟨h.1, HG1.out _ ((HFz1.out _).trans (h.2.mono (HFz1.out _).size))⟩)))
        refine wpQuiet_nil ?_
        intro wz hwz
        obtain ⟨z1, rfl⟩ := hwz
        have HH_12 : Hid (HAt (F1 z1) (w1.heap.size) 0 ⟨who, has, kept, last⟩) := hat_below HH_11.out (HFz1.out z1)
        have HXX_12 : Hid (HAt (F1 z1) (w2.heap.size) 0 ⟨0, 0, 0, 0⟩) := hat_below HXX_11.out (HFz1.out z1)
        have HGG_12 : Hid (HAt (F1 z1) (w3.heap.size) 0 ⟨gw, gh, gk, gl⟩) := hat_below HGG_11.out (HFz1.out z1)
        have HYY_12 : Hid (HAt (F1 z1) (w4.heap.size) 0 ⟨gw, nn, gk, gl⟩) := hat_below HYY_11.out (HFz1.out z1)
        have HZX_12 : Hid (HAt (F1 z1) (w5.heap.size) 0 ⟨0, 0, 0, 0⟩) := hat_below HZX_11.out (HFz1.out z1)
        have HZY_12 : Hid (HAt (F1 z1) (w6.heap.size) 0 ⟨gw, nn, gk, gl⟩) := hat_below HZY_11.out (HFz1.out z1)
        have HL_12 : Hid (LiesA (F1 z1) g L) := HL_11.out.below (HFz1.out z1)
        have HM_12 : Hid (LiesA (F1 z1) g2 Q2) := HM_11.out.below (HFz1.out z1)
        have HB_12 : Hid (Below w.heap.size w (F1 z1)) := HB_11.out.trans ((HFz1.out z1).mono HB_11.out.size)
        clear HL_11 HM_11 HB_11 HH_11 HXX_11 HGG_11 HYY_11 HZX_11 HZY_11
        generalize F1 z1 = wv at HH_12 HXX_12 HGG_12 HYY_12 HZX_12 HZY_12 HL_12 HM_12 HB_12 ⊢
        clear HFz1 HG1 HLz HMz y00 y01 y02 y03 y10 y11 y12 y13
        obtain ⟨c7a, c7b, c7c, c7d⟩ := cellsH HH_12.out
        dsimp only at c7a c7b c7c c7d
        go_wp2_with fail
        refine (SO.out _ HL_12.out).mono ?_
        rintro e w7 ⟨rfl, hb⟩
        have HH_13 : Hid (HAt (w7) (w1.heap.size) 0 ⟨who, has, kept, last⟩) := hat_below HH_12.out hb
        have HXX_13 : Hid (HAt (w7) (w2.heap.size) 0 ⟨0, 0, 0, 0⟩) := hat_below HXX_12.out hb
        have HGG_13 : Hid (HAt (w7) (w3.heap.size) 0 ⟨gw, gh, gk, gl⟩) := hat_below HGG_12.out hb
        have HYY_13 : Hid (HAt (w7) (w4.heap.size) 0 ⟨gw, nn, gk, gl⟩) := hat_below HYY_12.out hb
        have HZX_13 : Hid (HAt (w7) (w5.heap.size) 0 ⟨0, 0, 0, 0⟩) := hat_below HZX_12.out hb
        have HZY_13 : Hid (HAt (w7) (w6.heap.size) 0 ⟨gw, nn, gk, gl⟩) := hat_below HZY_12.out hb
        have HL_13 : Hid (LiesA (w7) g L) := HL_12.out.below (hb)
        have HM_13 : Hid (LiesA (w7) g2 Q2) := HM_12.out.below (hb)
        have HB_13 : Hid (Below w.heap.size w (w7)) := HB_12.out.trans ((hb).mono HB_12.out.size)
        clear HL_12 HM_12 HB_12 HH_12 HXX_12 HGG_12 HYY_12 HZX_12 HZY_12
        obtain ⟨c8a, c8b, c8c, c8d⟩ := cellsH HXX_13.out
        dsimp only at c8a c8b c8c c8d
        have ez := hand_eq 0 0 0 0
        have HE : Hid (Below w.heap.size w w7) := HB_13.out
        go_wp2
        go_ret
        exact ⟨rfl, HE.out⟩
    · cases hlb : learnB L (belows L L.length) h.who h.has k true
      · have e1 : learnedH L h k true = h := by unfold learnedH; rw [hok, hlb]; rfl
        have e2 : learnedB L h k true = false := by unfold learnedB; rw [hok, hlb]; rfl
        have SX := SX0
        have HX := HX0
        rw [e1, e2] at SX HX
        rw [hok] at SO
        clear SX0 HX0 e1 e2 h64 hlb
        obtain ⟨who, has, kept, last⟩ := h
        dsimp only at SX SO HX
        have HL_1 : Hid (LiesA (w1.alloc (.cells #[.int .i64 who, .int .i64 has, .int .i64 kept, .int .i64 last] 26)) g L) := HL_0.out.below ((Below.refl _ w1).alloc (Nat.le_refl _) _)
        have HB_1 : Hid (Below w.heap.size w (w1.alloc (.cells #[.int .i64 who, .int .i64 has, .int .i64 kept, .int .i64 last] 26))) := HB_0.out.trans (((Below.refl _ w1).alloc (Nat.le_refl _) _).mono HB_0.out.size)
        have HH_1 : Hid (HAt (w1.alloc (.cells #[.int .i64 who, .int .i64 has, .int .i64 kept, .int .i64 last] 26)) (w1.heap.size) 0 ⟨who, has, kept, last⟩) := hat_new w1 ⟨who, has, kept, last⟩ _
        clear HL_0 HB_0 
        go_wp2_with fail
        refine (HX.out _ HL_1.out).mono ?_
        rintro e w2 ⟨rfl, hb⟩
        have HH_2 : Hid (HAt (w2) (w1.heap.size) 0 ⟨who, has, kept, last⟩) := hat_below HH_1.out hb
        have HL_2 : Hid (LiesA (w2) g L) := HL_1.out.below (hb)
        have HB_2 : Hid (Below w.heap.size w (w2)) := HB_1.out.trans ((hb).mono HB_1.out.size)
        clear HL_1 HB_1 HH_1
        have HH_3 : Hid (HAt (w2.alloc (.cells #[.int .i64 who, .int .i64 has, .int .i64 kept, .int .i64 last] 26)) (w1.heap.size) 0 ⟨who, has, kept, last⟩) := hat_below HH_2.out ((Below.refl _ w2).alloc (Nat.le_refl _) _)
        have HL_3 : Hid (LiesA (w2.alloc (.cells #[.int .i64 who, .int .i64 has, .int .i64 kept, .int .i64 last] 26)) g L) := HL_2.out.below ((Below.refl _ w2).alloc (Nat.le_refl _) _)
        have HB_3 : Hid (Below w.heap.size w (w2.alloc (.cells #[.int .i64 who, .int .i64 has, .int .i64 kept, .int .i64 last] 26))) := HB_2.out.trans (((Below.refl _ w2).alloc (Nat.le_refl _) _).mono HB_2.out.size)
        have HXX_3 : Hid (HAt (w2.alloc (.cells #[.int .i64 who, .int .i64 has, .int .i64 kept, .int .i64 last] 26)) (w2.heap.size) 0 ⟨who, has, kept, last⟩) := hat_new w2 ⟨who, has, kept, last⟩ _
        clear HL_2 HB_2 HH_2
        go_wp2_with fail
        refine (drawLearnsAll HDD.out HDX.out a0 len0 cap0 _ hle0 (code_below2 HCode.out HB_3.out)).mono ?_
        rintro e w3 ⟨v2, Q2, gq, m, rfl, hD2, hm2⟩
        have HH_4 : Hid (HAt (w3) (w1.heap.size) 0 ⟨who, has, kept, last⟩) := hat_below HH_3.out hD2.dr.bel
        have HXX_4 : Hid (HAt (w3) (w2.heap.size) 0 ⟨who, has, kept, last⟩) := hat_below HXX_3.out hD2.dr.bel
        have HL_4 : Hid (LiesA (w3) g L) := HL_3.out.below (hD2.dr.bel)
        have HB_4 : Hid (Below w.heap.size w (w3)) := HB_3.out.trans ((hD2.dr.bel).mono HB_3.out.size)
        clear HL_3 HB_3 HH_3 HXX_3
        obtain ⟨g2, cp2, rfl, hcp2, hM⟩ := drawn_liesS hD2.dr
        have HM_4 : Hid (LiesA w3 g2 Q2) := ⟨hM, HNO.out.below HB_4.out⟩
        have g64 := hD2.h64
        clear hD2 hM
        have HY0 : Hid (∀ W : World, LiesA W g2 Q2 → _) := fun W hW => H2.out g2 cp2 Q2 gq m W hW hcp2 g64
        have SY0 : Hid (∀ W : World, LiesA W g2 Q2 → _) := fun W hW => specLearnsAll g2 0 cp2 Q2 gq m W hcp2 hW.words hW.rd g64
        cases hal : learnedB Q2 gq m false
        · have HY := HY0
          have SY := SY0
          rw [hal] at HY SY
          clear HY0 SY0
          obtain ⟨gw, gh, gk, gl⟩ := gq
          generalize hlh : learnedH Q2 ⟨gw, gh, gk, gl⟩ m false = yy at HY SY
          clear hlh
          obtain ⟨y1, y2, y3, y4⟩ := yy
          dsimp only at HY SY
          have HH_5 : Hid (HAt (w3.alloc (.cells #[.int .i64 gw, .int .i64 gh, .int .i64 gk, .int .i64 gl] 26)) (w1.heap.size) 0 ⟨who, has, kept, last⟩) := hat_below HH_4.out ((Below.refl _ w3).alloc (Nat.le_refl _) _)
          have HXX_5 : Hid (HAt (w3.alloc (.cells #[.int .i64 gw, .int .i64 gh, .int .i64 gk, .int .i64 gl] 26)) (w2.heap.size) 0 ⟨who, has, kept, last⟩) := hat_below HXX_4.out ((Below.refl _ w3).alloc (Nat.le_refl _) _)
          have HL_5 : Hid (LiesA (w3.alloc (.cells #[.int .i64 gw, .int .i64 gh, .int .i64 gk, .int .i64 gl] 26)) g L) := HL_4.out.below ((Below.refl _ w3).alloc (Nat.le_refl _) _)
          have HM_5 : Hid (LiesA (w3.alloc (.cells #[.int .i64 gw, .int .i64 gh, .int .i64 gk, .int .i64 gl] 26)) g2 Q2) := HM_4.out.below ((Below.refl _ w3).alloc (Nat.le_refl _) _)
          have HB_5 : Hid (Below w.heap.size w (w3.alloc (.cells #[.int .i64 gw, .int .i64 gh, .int .i64 gk, .int .i64 gl] 26))) := HB_4.out.trans (((Below.refl _ w3).alloc (Nat.le_refl _) _).mono HB_4.out.size)
          have HGG_5 : Hid (HAt (w3.alloc (.cells #[.int .i64 gw, .int .i64 gh, .int .i64 gk, .int .i64 gl] 26)) (w3.heap.size) 0 ⟨gw, gh, gk, gl⟩) := hat_new w3 ⟨gw, gh, gk, gl⟩ _
          clear HL_4 HM_4 HB_4 HH_4 HXX_4
          go_wp2_with fail
          refine (HY.out _ HM_5.out).mono ?_
          rintro e w4 ⟨rfl, hb⟩
          have HH_6 : Hid (HAt (w4) (w1.heap.size) 0 ⟨who, has, kept, last⟩) := hat_below HH_5.out hb
          have HXX_6 : Hid (HAt (w4) (w2.heap.size) 0 ⟨who, has, kept, last⟩) := hat_below HXX_5.out hb
          have HGG_6 : Hid (HAt (w4) (w3.heap.size) 0 ⟨gw, gh, gk, gl⟩) := hat_below HGG_5.out hb
          have HL_6 : Hid (LiesA (w4) g L) := HL_5.out.below (hb)
          have HM_6 : Hid (LiesA (w4) g2 Q2) := HM_5.out.below (hb)
          have HB_6 : Hid (Below w.heap.size w (w4)) := HB_5.out.trans ((hb).mono HB_5.out.size)
          clear HL_5 HM_5 HB_5 HH_5 HXX_5 HGG_5
          have HH_7 : Hid (HAt (w4.alloc (.cells #[.int .i64 y1, .int .i64 y2, .int .i64 y3, .int .i64 y4] 26)) (w1.heap.size) 0 ⟨who, has, kept, last⟩) := hat_below HH_6.out ((Below.refl _ w4).alloc (Nat.le_refl _) _)
          have HXX_7 : Hid (HAt (w4.alloc (.cells #[.int .i64 y1, .int .i64 y2, .int .i64 y3, .int .i64 y4] 26)) (w2.heap.size) 0 ⟨who, has, kept, last⟩) := hat_below HXX_6.out ((Below.refl _ w4).alloc (Nat.le_refl _) _)
          have HGG_7 : Hid (HAt (w4.alloc (.cells #[.int .i64 y1, .int .i64 y2, .int .i64 y3, .int .i64 y4] 26)) (w3.heap.size) 0 ⟨gw, gh, gk, gl⟩) := hat_below HGG_6.out ((Below.refl _ w4).alloc (Nat.le_refl _) _)
          have HL_7 : Hid (LiesA (w4.alloc (.cells #[.int .i64 y1, .int .i64 y2, .int .i64 y3, .int .i64 y4] 26)) g L) := HL_6.out.below ((Below.refl _ w4).alloc (Nat.le_refl _) _)
          have HM_7 : Hid (LiesA (w4.alloc (.cells #[.int .i64 y1, .int .i64 y2, .int .i64 y3, .int .i64 y4] 26)) g2 Q2) := HM_6.out.below ((Below.refl _ w4).alloc (Nat.le_refl _) _)
          have HB_7 : Hid (Below w.heap.size w (w4.alloc (.cells #[.int .i64 y1, .int .i64 y2, .int .i64 y3, .int .i64 y4] 26))) := HB_6.out.trans (((Below.refl _ w4).alloc (Nat.le_refl _) _).mono HB_6.out.size)
          have HYY_7 : Hid (HAt (w4.alloc (.cells #[.int .i64 y1, .int .i64 y2, .int .i64 y3, .int .i64 y4] 26)) (w4.heap.size) 0 ⟨y1, y2, y3, y4⟩) := hat_new w4 ⟨y1, y2, y3, y4⟩ _
          clear HL_6 HM_6 HB_6 HH_6 HXX_6 HGG_6
          obtain ⟨c1a, c1b, c1c, c1d⟩ := cellsH HH_7.out
          dsimp only at c1a c1b c1c c1d
          go_wp2_with fail
          refine (SX.out _ HL_7.out).mono ?_
          rintro e w5 ⟨rfl, hb⟩
          have HH_8 : Hid (HAt (w5) (w1.heap.size) 0 ⟨who, has, kept, last⟩) := hat_below HH_7.out hb
          have HXX_8 : Hid (HAt (w5) (w2.heap.size) 0 ⟨who, has, kept, last⟩) := hat_below HXX_7.out hb
          have HGG_8 : Hid (HAt (w5) (w3.heap.size) 0 ⟨gw, gh, gk, gl⟩) := hat_below HGG_7.out hb
          have HYY_8 : Hid (HAt (w5) (w4.heap.size) 0 ⟨y1, y2, y3, y4⟩) := hat_below HYY_7.out hb
          have HL_8 : Hid (LiesA (w5) g L) := HL_7.out.below (hb)
          have HM_8 : Hid (LiesA (w5) g2 Q2) := HM_7.out.below (hb)
          have HB_8 : Hid (Below w.heap.size w (w5)) := HB_7.out.trans ((hb).mono HB_7.out.size)
          clear HL_7 HM_7 HB_7 HH_7 HXX_7 HGG_7 HYY_7
          have HH_9 : Hid (HAt (w5.alloc (.cells #[.int .i64 who, .int .i64 has, .int .i64 kept, .int .i64 last] 26)) (w1.heap.size) 0 ⟨who, has, kept, last⟩) := hat_below HH_8.out ((Below.refl _ w5).alloc (Nat.le_refl _) _)
          have HXX_9 : Hid (HAt (w5.alloc (.cells #[.int .i64 who, .int .i64 has, .int .i64 kept, .int .i64 last] 26)) (w2.heap.size) 0 ⟨who, has, kept, last⟩) := hat_below HXX_8.out ((Below.refl _ w5).alloc (Nat.le_refl _) _)
          have HGG_9 : Hid (HAt (w5.alloc (.cells #[.int .i64 who, .int .i64 has, .int .i64 kept, .int .i64 last] 26)) (w3.heap.size) 0 ⟨gw, gh, gk, gl⟩) := hat_below HGG_8.out ((Below.refl _ w5).alloc (Nat.le_refl _) _)
          have HYY_9 : Hid (HAt (w5.alloc (.cells #[.int .i64 who, .int .i64 has, .int .i64 kept, .int .i64 last] 26)) (w4.heap.size) 0 ⟨y1, y2, y3, y4⟩) := hat_below HYY_8.out ((Below.refl _ w5).alloc (Nat.le_refl _) _)
          have HL_9 : Hid (LiesA (w5.alloc (.cells #[.int .i64 who, .int .i64 has, .int .i64 kept, .int .i64 last] 26)) g L) := HL_8.out.below ((Below.refl _ w5).alloc (Nat.le_refl _) _)
          have HM_9 : Hid (LiesA (w5.alloc (.cells #[.int .i64 who, .int .i64 has, .int .i64 kept, .int .i64 last] 26)) g2 Q2) := HM_8.out.below ((Below.refl _ w5).alloc (Nat.le_refl _) _)
          have HB_9 : Hid (Below w.heap.size w (w5.alloc (.cells #[.int .i64 who, .int .i64 has, .int .i64 kept, .int .i64 last] 26))) := HB_8.out.trans (((Below.refl _ w5).alloc (Nat.le_refl _) _).mono HB_8.out.size)
          have HZX_9 : Hid (HAt (w5.alloc (.cells #[.int .i64 who, .int .i64 has, .int .i64 kept, .int .i64 last] 26)) (w5.heap.size) 0 ⟨who, has, kept, last⟩) := hat_new w5 ⟨who, has, kept, last⟩ _
          clear HL_8 HM_8 HB_8 HH_8 HXX_8 HGG_8 HYY_8
          have ex := hand_ne who has kept last
          obtain ⟨c2a, c2b, c2c, c2d⟩ := cellsH HXX_9.out
          dsimp only at c2a c2b c2c c2d
          obtain ⟨c3a, c3b, c3c, c3d⟩ := cellsH HZX_9.out
          dsimp only at c3a c3b c3c c3d
          obtain ⟨c4a, c4b, c4c, c4d⟩ := cellsH HGG_9.out
          dsimp only at c4a c4b c4c c4d
          go_wp2_with fail
          refine (SY.out _ HM_9.out).mono ?_
          rintro e w6 ⟨rfl, hb⟩
          have HH_10 : Hid (HAt (w6) (w1.heap.size) 0 ⟨who, has, kept, last⟩) := hat_below HH_9.out hb
          have HXX_10 : Hid (HAt (w6) (w2.heap.size) 0 ⟨who, has, kept, last⟩) := hat_below HXX_9.out hb
          have HGG_10 : Hid (HAt (w6) (w3.heap.size) 0 ⟨gw, gh, gk, gl⟩) := hat_below HGG_9.out hb
          have HYY_10 : Hid (HAt (w6) (w4.heap.size) 0 ⟨y1, y2, y3, y4⟩) := hat_below HYY_9.out hb
          have HZX_10 : Hid (HAt (w6) (w5.heap.size) 0 ⟨who, has, kept, last⟩) := hat_below HZX_9.out hb
          have HL_10 : Hid (LiesA (w6) g L) := HL_9.out.below (hb)
          have HM_10 : Hid (LiesA (w6) g2 Q2) := HM_9.out.below (hb)
          have HB_10 : Hid (Below w.heap.size w (w6)) := HB_9.out.trans ((hb).mono HB_9.out.size)
          clear HL_9 HM_9 HB_9 HH_9 HXX_9 HGG_9 HYY_9 HZX_9
          have HH_11 : Hid (HAt (w6.alloc (.cells #[.int .i64 y1, .int .i64 y2, .int .i64 y3, .int .i64 y4] 26)) (w1.heap.size) 0 ⟨who, has, kept, last⟩) := hat_below HH_10.out ((Below.refl _ w6).alloc (Nat.le_refl _) _)
          have HXX_11 : Hid (HAt (w6.alloc (.cells #[.int .i64 y1, .int .i64 y2, .int .i64 y3, .int .i64 y4] 26)) (w2.heap.size) 0 ⟨who, has, kept, last⟩) := hat_below HXX_10.out ((Below.refl _ w6).alloc (Nat.le_refl _) _)
          have HGG_11 : Hid (HAt (w6.alloc (.cells #[.int .i64 y1, .int .i64 y2, .int .i64 y3, .int .i64 y4] 26)) (w3.heap.size) 0 ⟨gw, gh, gk, gl⟩) := hat_below HGG_10.out ((Below.refl _ w6).alloc (Nat.le_refl _) _)
          have HYY_11 : Hid (HAt (w6.alloc (.cells #[.int .i64 y1, .int .i64 y2, .int .i64 y3, .int .i64 y4] 26)) (w4.heap.size) 0 ⟨y1, y2, y3, y4⟩) := hat_below HYY_10.out ((Below.refl _ w6).alloc (Nat.le_refl _) _)
          have HZX_11 : Hid (HAt (w6.alloc (.cells #[.int .i64 y1, .int .i64 y2, .int .i64 y3, .int .i64 y4] 26)) (w5.heap.size) 0 ⟨who, has, kept, last⟩) := hat_below HZX_10.out ((Below.refl _ w6).alloc (Nat.le_refl _) _)
          have HL_11 : Hid (LiesA (w6.alloc (.cells #[.int .i64 y1, .int .i64 y2, .int .i64 y3, .int .i64 y4] 26)) g L) := HL_10.out.below ((Below.refl _ w6).alloc (Nat.le_refl _) _)
          have HM_11 : Hid (LiesA (w6.alloc (.cells #[.int .i64 y1, .int .i64 y2, .int .i64 y3, .int .i64 y4] 26)) g2 Q2) := HM_10.out.below ((Below.refl _ w6).alloc (Nat.le_refl _) _)
          have HB_11 : Hid (Below w.heap.size w (w6.alloc (.cells #[.int .i64 y1, .int .i64 y2, .int .i64 y3, .int .i64 y4] 26))) := HB_10.out.trans (((Below.refl _ w6).alloc (Nat.le_refl _) _).mono HB_10.out.size)
          have HZY_11 : Hid (HAt (w6.alloc (.cells #[.int .i64 y1, .int .i64 y2, .int .i64 y3, .int .i64 y4] 26)) (w6.heap.size) 0 ⟨y1, y2, y3, y4⟩) := hat_new w6 ⟨y1, y2, y3, y4⟩ _
          clear HL_10 HM_10 HB_10 HH_10 HXX_10 HGG_10 HYY_10 HZX_10
          have ey := hand_ne y1 y2 y3 y4
          obtain ⟨c5a, c5b, c5c, c5d⟩ := cellsH HYY_11.out
          dsimp only at c5a c5b c5c c5d
          obtain ⟨c6a, c6b, c6c, c6d⟩ := cellsH HZY_11.out
          dsimp only at c6a c6b c6c c6d
          obtain ⟨X1, _, F1, HFz1, HG1⟩ := Fam.fam ((w6.alloc (.cells #[.int .i64 y1, .int .i64 y2, .int .i64 y3, .int .i64 y4] 26)))
          have y00 : ∀ z, (F1 z).cell? ⟨w3.heap.size, 0, none⟩ = some (.int .i64 gw) := fun z => (cellsH (hat_below HGG_11.out (HFz1.out z))).1
          have y01 : ∀ z, (F1 z).cell? ⟨w3.heap.size, 1, none⟩ = some (.int .i64 gh) := fun z => (cellsH (hat_below HGG_11.out (HFz1.out z))).2.1
          have y02 : ∀ z, (F1 z).cell? ⟨w3.heap.size, 2, none⟩ = some (.int .i64 gk) := fun z => (cellsH (hat_below HGG_11.out (HFz1.out z))).2.2.1
          have y03 : ∀ z, (F1 z).cell? ⟨w3.heap.size, 3, none⟩ = some (.int .i64 gl) := fun z => (cellsH (hat_below HGG_11.out (HFz1.out z))).2.2.2
          have y10 : ∀ z, (F1 z).cell? ⟨w4.heap.size, 0, none⟩ = some (.int .i64 y1) := fun z => (cellsH (hat_below HYY_11.out (HFz1.out z))).1
          have y11 : ∀ z, (F1 z).cell? ⟨w4.heap.size, 1, none⟩ = some (.int .i64 y2) := fun z => (cellsH (hat_below HYY_11.out (HFz1.out z))).2.1
          have y12 : ∀ z, (F1 z).cell? ⟨w4.heap.size, 2, none⟩ = some (.int .i64 y3) := fun z => (cellsH (hat_below HYY_11.out (HFz1.out z))).2.2.1
          have y13 : ∀ z, (F1 z).cell? ⟨w4.heap.size, 3, none⟩ = some (.int .i64 y4) := fun z => (cellsH (hat_below HYY_11.out (HFz1.out z))).2.2.2
          have HLz : Hid (∀ z, LiesA (F1 z) g L) := fun z => HL_11.out.below (HFz1.out z)
          have HMz : Hid (∀ z, LiesA (F1 z) g2 Q2) := fun z => HM_11.out.below (HFz1.out z)
          go_wp2_with fail
          refine Fam.region (F := F1) (by kernel_rfl) (by kernel_rfl) (HG1.out _ (Below.refl _ _).drew) ?_
          repeat (go_big_quiet_step (first
            | fail))
          refine wpQuiet_nil ?_
          intro wz hwz
          obtain ⟨z1, rfl⟩ := hwz
          have HH_12 : Hid (HAt (F1 z1) (w1.heap.size) 0 ⟨who, has, kept, last⟩) := hat_below HH_11.out (HFz1.out z1)
          have HXX_12 : Hid (HAt (F1 z1) (w2.heap.size) 0 ⟨who, has, kept, last⟩) := hat_below HXX_11.out (HFz1.out z1)
          have HGG_12 : Hid (HAt (F1 z1) (w3.heap.size) 0 ⟨gw, gh, gk, gl⟩) := hat_below HGG_11.out (HFz1.out z1)
          have HYY_12 : Hid (HAt (F1 z1) (w4.heap.size) 0 ⟨y1, y2, y3, y4⟩) := hat_below HYY_11.out (HFz1.out z1)
          have HZX_12 : Hid (HAt (F1 z1) (w5.heap.size) 0 ⟨who, has, kept, last⟩) := hat_below HZX_11.out (HFz1.out z1)
          have HZY_12 : Hid (HAt (F1 z1) (w6.heap.size) 0 ⟨y1, y2, y3, y4⟩) := hat_below HZY_11.out (HFz1.out z1)
          have HL_12 : Hid (LiesA (F1 z1) g L) := HL_11.out.below (HFz1.out z1)
          have HM_12 : Hid (LiesA (F1 z1) g2 Q2) := HM_11.out.below (HFz1.out z1)
          have HB_12 : Hid (Below w.heap.size w (F1 z1)) := HB_11.out.trans ((HFz1.out z1).mono HB_11.out.size)
          clear HL_11 HM_11 HB_11 HH_11 HXX_11 HGG_11 HYY_11 HZX_11 HZY_11
          generalize F1 z1 = wv at HH_12 HXX_12 HGG_12 HYY_12 HZX_12 HZY_12 HL_12 HM_12 HB_12 ⊢
          clear HFz1 HG1 HLz HMz y00 y01 y02 y03 y10 y11 y12 y13
          obtain ⟨c7a, c7b, c7c, c7d⟩ := cellsH HH_12.out
          dsimp only at c7a c7b c7c c7d
          go_wp2_with fail
          refine (SO.out _ HL_12.out).mono ?_
          rintro e w7 ⟨rfl, hb⟩
          have HH_13 : Hid (HAt (w7) (w1.heap.size) 0 ⟨who, has, kept, last⟩) := hat_below HH_12.out hb
          have HXX_13 : Hid (HAt (w7) (w2.heap.size) 0 ⟨who, has, kept, last⟩) := hat_below HXX_12.out hb
          have HGG_13 : Hid (HAt (w7) (w3.heap.size) 0 ⟨gw, gh, gk, gl⟩) := hat_below HGG_12.out hb
          have HYY_13 : Hid (HAt (w7) (w4.heap.size) 0 ⟨y1, y2, y3, y4⟩) := hat_below HYY_12.out hb
          have HZX_13 : Hid (HAt (w7) (w5.heap.size) 0 ⟨who, has, kept, last⟩) := hat_below HZX_12.out hb
          have HZY_13 : Hid (HAt (w7) (w6.heap.size) 0 ⟨y1, y2, y3, y4⟩) := hat_below HZY_12.out hb
          have HL_13 : Hid (LiesA (w7) g L) := HL_12.out.below (hb)
          have HM_13 : Hid (LiesA (w7) g2 Q2) := HM_12.out.below (hb)
          have HB_13 : Hid (Below w.heap.size w (w7)) := HB_12.out.trans ((hb).mono HB_12.out.size)
          clear HL_12 HM_12 HB_12 HH_12 HXX_12 HGG_12 HYY_12 HZX_12 HZY_12
          obtain ⟨c8a, c8b, c8c, c8d⟩ := cellsH HXX_13.out
          dsimp only at c8a c8b c8c c8d
          obtain ⟨c9a, c9b, c9c, c9d⟩ := cellsH HH_13.out
          dsimp only at c9a c9b c9c c9d
          have ez := hand_eq who has kept last
          have HE : Hid (Below w.heap.size w w7) := HB_13.out
          go_wp2
          go_ret
          exact ⟨rfl, HE.out⟩
        · have HY := HY0
          have SY := SY0
          rw [hal] at HY SY
          clear HY0 SY0
          obtain ⟨hq1, hq2⟩ := learned_yes hal
          have hIs2 := hand_is g64 hq1
          obtain ⟨pm, rfl, hpm, hbm, hgm, _, _⟩ := learn_parts hIs2 hq2
          have hli := learned_is hIs2 hq2
          have e3 : learnedH Q2 gq (pm : Int) false = { gq with has := orB gq.has ((belows Q2 Q2.length).getD (pm : Int).toNat 0) } := by unfold learnedH; rw [if_pos hq1, if_pos hq2]
          rw [hgm] at hli e3
          rw [e3] at HY SY
          have h60q := ((Lc.lace_iff Q2).1 hIs2.lace).1
          have hbb := Sg.bel_bd Q2 pm (by omega)
          have hor : bits .or .i64 gq.has (Sg.bel Q2 pm) = orB gq.has (Sg.bel Q2 pm) := Sg.or_eq _ _ hIs2.h0 hIs2.h1 hbb.1 hbb.2
          have YOK : Hid (∀ W : World, LiesA W g2 Q2 → _) := fun W hW => by
            have := H4.out g2 cp2 Q2 { gq with has := orB gq.has (Sg.bel Q2 pm) } W hW.toN hcp2 (is_64 hli)
            rw [is_hand hli] at this
            exact this
          have YBE : Hid (∀ W : World, LiesA W g2 Q2 → Calls Tryz.prog 14 #[.slice (some ⟨g2, 0, none⟩) Q2.length cp2, .int .i64 (pm : Int)] W fun e w' => e = .returned (.int .i64 (Sg.bel Q2 pm)) ∧ Below W.heap.size W w') := fun W hW => by
            have := Sg.specBelow g2 0 cp2 Q2 (pm : Int) W hcp2 hW.words hW.rd
            rw [below_bel hIs2.lace hpm] at this
            exact this
          have YIN : Hid (∀ W : World, Calls Tryz.prog 15 #[.int .i64 gq.has, .int .i64 (pm : Int)] W fun e w' => e = .returned (.bool false) ∧ Below W.heap.size W w') := fun W => (Base.specIn gq.has (pm : Int) W).mono fun e w' h => ⟨by rw [h.1, Int.toNat_natCast, hbm]; simp, h.2 ▸ Below.refl _ _⟩
          clear hli e3 hIs2 hbm hgm hq1 hq2 hbb h60q hal
          obtain ⟨gw, gh, gk, gl⟩ := gq
          dsimp only at HY SY YOK YIN hor
          generalize orB gh (Sg.bel Q2 pm) = nn at HY SY YOK hor
          generalize Sg.bel Q2 pm = bq at YBE hor
          generalize (pm : Int) = m at HY SY YBE YIN hm2 ⊢
          have HH_5 : Hid (HAt (w3.alloc (.cells #[.int .i64 gw, .int .i64 gh, .int .i64 gk, .int .i64 gl] 26)) (w1.heap.size) 0 ⟨who, has, kept, last⟩) := hat_below HH_4.out ((Below.refl _ w3).alloc (Nat.le_refl _) _)
          have HXX_5 : Hid (HAt (w3.alloc (.cells #[.int .i64 gw, .int .i64 gh, .int .i64 gk, .int .i64 gl] 26)) (w2.heap.size) 0 ⟨who, has, kept, last⟩) := hat_below HXX_4.out ((Below.refl _ w3).alloc (Nat.le_refl _) _)
          have HL_5 : Hid (LiesA (w3.alloc (.cells #[.int .i64 gw, .int .i64 gh, .int .i64 gk, .int .i64 gl] 26)) g L) := HL_4.out.below ((Below.refl _ w3).alloc (Nat.le_refl _) _)
          have HM_5 : Hid (LiesA (w3.alloc (.cells #[.int .i64 gw, .int .i64 gh, .int .i64 gk, .int .i64 gl] 26)) g2 Q2) := HM_4.out.below ((Below.refl _ w3).alloc (Nat.le_refl _) _)
          have HB_5 : Hid (Below w.heap.size w (w3.alloc (.cells #[.int .i64 gw, .int .i64 gh, .int .i64 gk, .int .i64 gl] 26))) := HB_4.out.trans (((Below.refl _ w3).alloc (Nat.le_refl _) _).mono HB_4.out.size)
          have HGG_5 : Hid (HAt (w3.alloc (.cells #[.int .i64 gw, .int .i64 gh, .int .i64 gk, .int .i64 gl] 26)) (w3.heap.size) 0 ⟨gw, gh, gk, gl⟩) := hat_new w3 ⟨gw, gh, gk, gl⟩ _
          clear HL_4 HM_4 HB_4 HH_4 HXX_4
          go_wp2_with fail
          refine (HY.out _ HM_5.out).mono ?_
          rintro e w4 ⟨rfl, hb⟩
          have HH_6 : Hid (HAt (w4) (w1.heap.size) 0 ⟨who, has, kept, last⟩) := hat_below HH_5.out hb
          have HXX_6 : Hid (HAt (w4) (w2.heap.size) 0 ⟨who, has, kept, last⟩) := hat_below HXX_5.out hb
          have HGG_6 : Hid (HAt (w4) (w3.heap.size) 0 ⟨gw, gh, gk, gl⟩) := hat_below HGG_5.out hb
          have HL_6 : Hid (LiesA (w4) g L) := HL_5.out.below (hb)
          have HM_6 : Hid (LiesA (w4) g2 Q2) := HM_5.out.below (hb)
          have HB_6 : Hid (Below w.heap.size w (w4)) := HB_5.out.trans ((hb).mono HB_5.out.size)
          clear HL_5 HM_5 HB_5 HH_5 HXX_5 HGG_5
          have HH_7 : Hid (HAt (w4.alloc (.cells #[.int .i64 gw, .int .i64 nn, .int .i64 gk, .int .i64 gl] 26)) (w1.heap.size) 0 ⟨who, has, kept, last⟩) := hat_below HH_6.out ((Below.refl _ w4).alloc (Nat.le_refl _) _)
          have HXX_7 : Hid (HAt (w4.alloc (.cells #[.int .i64 gw, .int .i64 nn, .int .i64 gk, .int .i64 gl] 26)) (w2.heap.size) 0 ⟨who, has, kept, last⟩) := hat_below HXX_6.out ((Below.refl _ w4).alloc (Nat.le_refl _) _)
          have HGG_7 : Hid (HAt (w4.alloc (.cells #[.int .i64 gw, .int .i64 nn, .int .i64 gk, .int .i64 gl] 26)) (w3.heap.size) 0 ⟨gw, gh, gk, gl⟩) := hat_below HGG_6.out ((Below.refl _ w4).alloc (Nat.le_refl _) _)
          have HL_7 : Hid (LiesA (w4.alloc (.cells #[.int .i64 gw, .int .i64 nn, .int .i64 gk, .int .i64 gl] 26)) g L) := HL_6.out.below ((Below.refl _ w4).alloc (Nat.le_refl _) _)
          have HM_7 : Hid (LiesA (w4.alloc (.cells #[.int .i64 gw, .int .i64 nn, .int .i64 gk, .int .i64 gl] 26)) g2 Q2) := HM_6.out.below ((Below.refl _ w4).alloc (Nat.le_refl _) _)
          have HB_7 : Hid (Below w.heap.size w (w4.alloc (.cells #[.int .i64 gw, .int .i64 nn, .int .i64 gk, .int .i64 gl] 26))) := HB_6.out.trans (((Below.refl _ w4).alloc (Nat.le_refl _) _).mono HB_6.out.size)
          have HYY_7 : Hid (HAt (w4.alloc (.cells #[.int .i64 gw, .int .i64 nn, .int .i64 gk, .int .i64 gl] 26)) (w4.heap.size) 0 ⟨gw, nn, gk, gl⟩) := hat_new w4 ⟨gw, nn, gk, gl⟩ _
          clear HL_6 HM_6 HB_6 HH_6 HXX_6 HGG_6
          obtain ⟨c1a, c1b, c1c, c1d⟩ := cellsH HH_7.out
          dsimp only at c1a c1b c1c c1d
          go_wp2_with fail
          refine (SX.out _ HL_7.out).mono ?_
          rintro e w5 ⟨rfl, hb⟩
          have HH_8 : Hid (HAt (w5) (w1.heap.size) 0 ⟨who, has, kept, last⟩) := hat_below HH_7.out hb
          have HXX_8 : Hid (HAt (w5) (w2.heap.size) 0 ⟨who, has, kept, last⟩) := hat_below HXX_7.out hb
          have HGG_8 : Hid (HAt (w5) (w3.heap.size) 0 ⟨gw, gh, gk, gl⟩) := hat_below HGG_7.out hb
          have HYY_8 : Hid (HAt (w5) (w4.heap.size) 0 ⟨gw, nn, gk, gl⟩) := hat_below HYY_7.out hb
          have HL_8 : Hid (LiesA (w5) g L) := HL_7.out.below (hb)
          have HM_8 : Hid (LiesA (w5) g2 Q2) := HM_7.out.below (hb)
          have HB_8 : Hid (Below w.heap.size w (w5)) := HB_7.out.trans ((hb).mono HB_7.out.size)
          clear HL_7 HM_7 HB_7 HH_7 HXX_7 HGG_7 HYY_7
          have HH_9 : Hid (HAt (w5.alloc (.cells #[.int .i64 who, .int .i64 has, .int .i64 kept, .int .i64 last] 26)) (w1.heap.size) 0 ⟨who, has, kept, last⟩) := hat_below HH_8.out ((Below.refl _ w5).alloc (Nat.le_refl _) _)
          have HXX_9 : Hid (HAt (w5.alloc (.cells #[.int .i64 who, .int .i64 has, .int .i64 kept, .int .i64 last] 26)) (w2.heap.size) 0 ⟨who, has, kept, last⟩) := hat_below HXX_8.out ((Below.refl _ w5).alloc (Nat.le_refl _) _)
          have HGG_9 : Hid (HAt (w5.alloc (.cells #[.int .i64 who, .int .i64 has, .int .i64 kept, .int .i64 last] 26)) (w3.heap.size) 0 ⟨gw, gh, gk, gl⟩) := hat_below HGG_8.out ((Below.refl _ w5).alloc (Nat.le_refl _) _)
          have HYY_9 : Hid (HAt (w5.alloc (.cells #[.int .i64 who, .int .i64 has, .int .i64 kept, .int .i64 last] 26)) (w4.heap.size) 0 ⟨gw, nn, gk, gl⟩) := hat_below HYY_8.out ((Below.refl _ w5).alloc (Nat.le_refl _) _)
          have HL_9 : Hid (LiesA (w5.alloc (.cells #[.int .i64 who, .int .i64 has, .int .i64 kept, .int .i64 last] 26)) g L) := HL_8.out.below ((Below.refl _ w5).alloc (Nat.le_refl _) _)
          have HM_9 : Hid (LiesA (w5.alloc (.cells #[.int .i64 who, .int .i64 has, .int .i64 kept, .int .i64 last] 26)) g2 Q2) := HM_8.out.below ((Below.refl _ w5).alloc (Nat.le_refl _) _)
          have HB_9 : Hid (Below w.heap.size w (w5.alloc (.cells #[.int .i64 who, .int .i64 has, .int .i64 kept, .int .i64 last] 26))) := HB_8.out.trans (((Below.refl _ w5).alloc (Nat.le_refl _) _).mono HB_8.out.size)
          have HZX_9 : Hid (HAt (w5.alloc (.cells #[.int .i64 who, .int .i64 has, .int .i64 kept, .int .i64 last] 26)) (w5.heap.size) 0 ⟨who, has, kept, last⟩) := hat_new w5 ⟨who, has, kept, last⟩ _
          clear HL_8 HM_8 HB_8 HH_8 HXX_8 HGG_8 HYY_8
          have ex := hand_ne who has kept last
          obtain ⟨c2a, c2b, c2c, c2d⟩ := cellsH HXX_9.out
          dsimp only at c2a c2b c2c c2d
          obtain ⟨c3a, c3b, c3c, c3d⟩ := cellsH HZX_9.out
          dsimp only at c3a c3b c3c c3d
          obtain ⟨c4a, c4b, c4c, c4d⟩ := cellsH HGG_9.out
          dsimp only at c4a c4b c4c c4d
          go_wp2_with fail
          refine (SY.out _ HM_9.out).mono ?_
          rintro e w6 ⟨rfl, hb⟩
          have HH_10 : Hid (HAt (w6) (w1.heap.size) 0 ⟨who, has, kept, last⟩) := hat_below HH_9.out hb
          have HXX_10 : Hid (HAt (w6) (w2.heap.size) 0 ⟨who, has, kept, last⟩) := hat_below HXX_9.out hb
          have HGG_10 : Hid (HAt (w6) (w3.heap.size) 0 ⟨gw, gh, gk, gl⟩) := hat_below HGG_9.out hb
          have HYY_10 : Hid (HAt (w6) (w4.heap.size) 0 ⟨gw, nn, gk, gl⟩) := hat_below HYY_9.out hb
          have HZX_10 : Hid (HAt (w6) (w5.heap.size) 0 ⟨who, has, kept, last⟩) := hat_below HZX_9.out hb
          have HL_10 : Hid (LiesA (w6) g L) := HL_9.out.below (hb)
          have HM_10 : Hid (LiesA (w6) g2 Q2) := HM_9.out.below (hb)
          have HB_10 : Hid (Below w.heap.size w (w6)) := HB_9.out.trans ((hb).mono HB_9.out.size)
          clear HL_9 HM_9 HB_9 HH_9 HXX_9 HGG_9 HYY_9 HZX_9
          have HH_11 : Hid (HAt (w6.alloc (.cells #[.int .i64 gw, .int .i64 nn, .int .i64 gk, .int .i64 gl] 26)) (w1.heap.size) 0 ⟨who, has, kept, last⟩) := hat_below HH_10.out ((Below.refl _ w6).alloc (Nat.le_refl _) _)
          have HXX_11 : Hid (HAt (w6.alloc (.cells #[.int .i64 gw, .int .i64 nn, .int .i64 gk, .int .i64 gl] 26)) (w2.heap.size) 0 ⟨who, has, kept, last⟩) := hat_below HXX_10.out ((Below.refl _ w6).alloc (Nat.le_refl _) _)
          have HGG_11 : Hid (HAt (w6.alloc (.cells #[.int .i64 gw, .int .i64 nn, .int .i64 gk, .int .i64 gl] 26)) (w3.heap.size) 0 ⟨gw, gh, gk, gl⟩) := hat_below HGG_10.out ((Below.refl _ w6).alloc (Nat.le_refl _) _)
          have HYY_11 : Hid (HAt (w6.alloc (.cells #[.int .i64 gw, .int .i64 nn, .int .i64 gk, .int .i64 gl] 26)) (w4.heap.size) 0 ⟨gw, nn, gk, gl⟩) := hat_below HYY_10.out ((Below.refl _ w6).alloc (Nat.le_refl _) _)
          have HZX_11 : Hid (HAt (w6.alloc (.cells #[.int .i64 gw, .int .i64 nn, .int .i64 gk, .int .i64 gl] 26)) (w5.heap.size) 0 ⟨who, has, kept, last⟩) := hat_below HZX_10.out ((Below.refl _ w6).alloc (Nat.le_refl _) _)
          have HL_11 : Hid (LiesA (w6.alloc (.cells #[.int .i64 gw, .int .i64 nn, .int .i64 gk, .int .i64 gl] 26)) g L) := HL_10.out.below ((Below.refl _ w6).alloc (Nat.le_refl _) _)
          have HM_11 : Hid (LiesA (w6.alloc (.cells #[.int .i64 gw, .int .i64 nn, .int .i64 gk, .int .i64 gl] 26)) g2 Q2) := HM_10.out.below ((Below.refl _ w6).alloc (Nat.le_refl _) _)
          have HB_11 : Hid (Below w.heap.size w (w6.alloc (.cells #[.int .i64 gw, .int .i64 nn, .int .i64 gk, .int .i64 gl] 26))) := HB_10.out.trans (((Below.refl _ w6).alloc (Nat.le_refl _) _).mono HB_10.out.size)
          have HZY_11 : Hid (HAt (w6.alloc (.cells #[.int .i64 gw, .int .i64 nn, .int .i64 gk, .int .i64 gl] 26)) (w6.heap.size) 0 ⟨gw, nn, gk, gl⟩) := hat_new w6 ⟨gw, nn, gk, gl⟩ _
          clear HL_10 HM_10 HB_10 HH_10 HXX_10 HGG_10 HYY_10 HZX_10
          have ey := hand_ne gw nn gk gl
          obtain ⟨c5a, c5b, c5c, c5d⟩ := cellsH HYY_11.out
          dsimp only at c5a c5b c5c c5d
          obtain ⟨c6a, c6b, c6c, c6d⟩ := cellsH HZY_11.out
          dsimp only at c6a c6b c6c c6d
          obtain ⟨X1, _, F1, HFz1, HG1⟩ := Fam.fam ((w6.alloc (.cells #[.int .i64 gw, .int .i64 nn, .int .i64 gk, .int .i64 gl] 26)))
          have y00 : ∀ z, (F1 z).cell? ⟨w3.heap.size, 0, none⟩ = some (.int .i64 gw) := fun z => (cellsH (hat_below HGG_11.out (HFz1.out z))).1
          have y01 : ∀ z, (F1 z).cell? ⟨w3.heap.size, 1, none⟩ = some (.int .i64 gh) := fun z => (cellsH (hat_below HGG_11.out (HFz1.out z))).2.1
          have y02 : ∀ z, (F1 z).cell? ⟨w3.heap.size, 2, none⟩ = some (.int .i64 gk) := fun z => (cellsH (hat_below HGG_11.out (HFz1.out z))).2.2.1
          have y03 : ∀ z, (F1 z).cell? ⟨w3.heap.size, 3, none⟩ = some (.int .i64 gl) := fun z => (cellsH (hat_below HGG_11.out (HFz1.out z))).2.2.2
          have y10 : ∀ z, (F1 z).cell? ⟨w4.heap.size, 0, none⟩ = some (.int .i64 gw) := fun z => (cellsH (hat_below HYY_11.out (HFz1.out z))).1
          have y11 : ∀ z, (F1 z).cell? ⟨w4.heap.size, 1, none⟩ = some (.int .i64 nn) := fun z => (cellsH (hat_below HYY_11.out (HFz1.out z))).2.1
          have y12 : ∀ z, (F1 z).cell? ⟨w4.heap.size, 2, none⟩ = some (.int .i64 gk) := fun z => (cellsH (hat_below HYY_11.out (HFz1.out z))).2.2.1
          have y13 : ∀ z, (F1 z).cell? ⟨w4.heap.size, 3, none⟩ = some (.int .i64 gl) := fun z => (cellsH (hat_below HYY_11.out (HFz1.out z))).2.2.2
          have HLz : Hid (∀ z, LiesA (F1 z) g L) := fun z => HL_11.out.below (HFz1.out z)
          have HMz : Hid (∀ z, LiesA (F1 z) g2 Q2) := fun z => HM_11.out.below (HFz1.out z)
          go_wp2_with fail
          refine Fam.region (F := F1) (by kernel_rfl) (by kernel_rfl) (HG1.out _ (Below.refl _ _).drew) ?_
          repeat (go_big_quiet_step (first
            | (go_at_call 13; exact (YOK.out _ (HMz.out _)).mono fun _ _ h => ⟨h.1, HG1.out _ ((HFz1.out _).trans (h.2.mono (HFz1.out _).size))⟩)
            | (go_at_call 14; exact (YBE.out _ (HMz.out _)).mono fun _ _ h => ⟨h.1, HG1.out _ ((HFz1.out _).trans (h.2.mono (HFz1.out _).size))⟩)
            | (go_at_call 15; exact (YIN.out _).mono fun _ _ h => ⟨h.1, HG1.out _ ((HFz1.out _).trans (h.2.mono (HFz1.out _).size))⟩)))
          refine wpQuiet_nil ?_
          intro wz hwz
          obtain ⟨z1, rfl⟩ := hwz
          have HH_12 : Hid (HAt (F1 z1) (w1.heap.size) 0 ⟨who, has, kept, last⟩) := hat_below HH_11.out (HFz1.out z1)
          have HXX_12 : Hid (HAt (F1 z1) (w2.heap.size) 0 ⟨who, has, kept, last⟩) := hat_below HXX_11.out (HFz1.out z1)
          have HGG_12 : Hid (HAt (F1 z1) (w3.heap.size) 0 ⟨gw, gh, gk, gl⟩) := hat_below HGG_11.out (HFz1.out z1)
          have HYY_12 : Hid (HAt (F1 z1) (w4.heap.size) 0 ⟨gw, nn, gk, gl⟩) := hat_below HYY_11.out (HFz1.out z1)
          have HZX_12 : Hid (HAt (F1 z1) (w5.heap.size) 0 ⟨who, has, kept, last⟩) := hat_below HZX_11.out (HFz1.out z1)
          have HZY_12 : Hid (HAt (F1 z1) (w6.heap.size) 0 ⟨gw, nn, gk, gl⟩) := hat_below HZY_11.out (HFz1.out z1)
          have HL_12 : Hid (LiesA (F1 z1) g L) := HL_11.out.below (HFz1.out z1)
          have HM_12 : Hid (LiesA (F1 z1) g2 Q2) := HM_11.out.below (HFz1.out z1)
          have HB_12 : Hid (Below w.heap.size w (F1 z1)) := HB_11.out.trans ((HFz1.out z1).mono HB_11.out.size)
          clear HL_11 HM_11 HB_11 HH_11 HXX_11 HGG_11 HYY_11 HZX_11 HZY_11
          generalize F1 z1 = wv at HH_12 HXX_12 HGG_12 HYY_12 HZX_12 HZY_12 HL_12 HM_12 HB_12 ⊢
          clear HFz1 HG1 HLz HMz y00 y01 y02 y03 y10 y11 y12 y13
          obtain ⟨c7a, c7b, c7c, c7d⟩ := cellsH HH_12.out
          dsimp only at c7a c7b c7c c7d
          go_wp2_with fail
          refine (SO.out _ HL_12.out).mono ?_
          rintro e w7 ⟨rfl, hb⟩
          have HH_13 : Hid (HAt (w7) (w1.heap.size) 0 ⟨who, has, kept, last⟩) := hat_below HH_12.out hb
          have HXX_13 : Hid (HAt (w7) (w2.heap.size) 0 ⟨who, has, kept, last⟩) := hat_below HXX_12.out hb
          have HGG_13 : Hid (HAt (w7) (w3.heap.size) 0 ⟨gw, gh, gk, gl⟩) := hat_below HGG_12.out hb
          have HYY_13 : Hid (HAt (w7) (w4.heap.size) 0 ⟨gw, nn, gk, gl⟩) := hat_below HYY_12.out hb
          have HZX_13 : Hid (HAt (w7) (w5.heap.size) 0 ⟨who, has, kept, last⟩) := hat_below HZX_12.out hb
          have HZY_13 : Hid (HAt (w7) (w6.heap.size) 0 ⟨gw, nn, gk, gl⟩) := hat_below HZY_12.out hb
          have HL_13 : Hid (LiesA (w7) g L) := HL_12.out.below (hb)
          have HM_13 : Hid (LiesA (w7) g2 Q2) := HM_12.out.below (hb)
          have HB_13 : Hid (Below w.heap.size w (w7)) := HB_12.out.trans ((hb).mono HB_12.out.size)
          clear HL_12 HM_12 HB_12 HH_12 HXX_12 HGG_12 HYY_12 HZX_12 HZY_12
          obtain ⟨c8a, c8b, c8c, c8d⟩ := cellsH HXX_13.out
          dsimp only at c8a c8b c8c c8d
          obtain ⟨c9a, c9b, c9c, c9d⟩ := cellsH HH_13.out
          dsimp only at c9a c9b c9c c9d
          have ez := hand_eq who has kept last
          have HE : Hid (Below w.heap.size w w7) := HB_13.out
          go_wp2
          go_ret
          exact ⟨rfl, HE.out⟩
      · have hIs := hand_is h64 hok
        obtain ⟨p, rfl, hpl, hbp, hgp, hap, hop⟩ := learn_parts hIs hlb
        have hli := learned_is hIs hlb
        have e1 : learnedH L h (p : Int) true = { h with has := orB h.has ((belows L L.length).getD (p : Int).toNat 0) } := by unfold learnedH; rw [if_pos hok, if_pos hlb]
        have e2 : learnedB L h (p : Int) true = true := by unfold learnedB; rw [hok, hlb]; rfl
        rw [hgp] at hli e1
        have hwb := with_bel hIs hpl hbp (hap rfl)
        have hkw : (at' L p).hand ≠ h.who := hop p ((Sg.bel_reach hIs.lace p hpl p).2 (.self _)) hbp
        have XOK : Hid (∀ W : World, LiesA W g L → _) := fun W hW => by
          have := H4.out g cp L { h with has := orB h.has (Sg.bel L p) } W hW.toN hcp (is_64 hli)
          rw [is_hand hli] at this
          exact this
        have XWI : Hid (∀ W : World, Calls Tryz.prog 17 #[.int .i64 h.has, .int .i64 (p : Int)] W fun e w' => e = .returned (.int .i64 (orB h.has (Sg.bel L p))) ∧ Below W.heap.size W w') := fun W => (Base.specWith h.has (p : Int) W).mono fun e w' q => ⟨by rw [q.1, hwb], q.2 ▸ Below.refl _ _⟩
        have XIN : Hid (∀ W : World, Calls Tryz.prog 15 #[.int .i64 h.has, .int .i64 (p : Int)] W fun e w' => e = .returned (.bool false) ∧ Below W.heap.size W w') := fun W => (Base.specIn h.has (p : Int) W).mono fun e w' q => ⟨by rw [q.1, Int.toNat_natCast, hbp]; simp, q.2 ▸ Below.refl _ _⟩
        have SX := SX0
        have HX := HX0
        rw [e1, e2] at SX HX
        rw [hok] at SO
        have hpi : (p : Int) < (L.length : Int) := by omega
        clear SX0 HX0 e1 e2 h64 hlb hIs hli hwb hbp hgp hap hop
        obtain ⟨who, has, kept, last⟩ := h
        dsimp only at SX SO HX XOK XWI XIN hkw
        generalize orB has (Sg.bel L p) = nh at SX HX XOK XWI
        have HL_1 : Hid (LiesA (w1.alloc (.cells #[.int .i64 who, .int .i64 has, .int .i64 kept, .int .i64 last] 26)) g L) := HL_0.out.below ((Below.refl _ w1).alloc (Nat.le_refl _) _)
        have HB_1 : Hid (Below w.heap.size w (w1.alloc (.cells #[.int .i64 who, .int .i64 has, .int .i64 kept, .int .i64 last] 26))) := HB_0.out.trans (((Below.refl _ w1).alloc (Nat.le_refl _) _).mono HB_0.out.size)
        have HH_1 : Hid (HAt (w1.alloc (.cells #[.int .i64 who, .int .i64 has, .int .i64 kept, .int .i64 last] 26)) (w1.heap.size) 0 ⟨who, has, kept, last⟩) := hat_new w1 ⟨who, has, kept, last⟩ _
        clear HL_0 HB_0 
        go_wp2_with fail
        refine (HX.out _ HL_1.out).mono ?_
        rintro e w2 ⟨rfl, hb⟩
        have HH_2 : Hid (HAt (w2) (w1.heap.size) 0 ⟨who, has, kept, last⟩) := hat_below HH_1.out hb
        have HL_2 : Hid (LiesA (w2) g L) := HL_1.out.below (hb)
        have HB_2 : Hid (Below w.heap.size w (w2)) := HB_1.out.trans ((hb).mono HB_1.out.size)
        clear HL_1 HB_1 HH_1
        have HH_3 : Hid (HAt (w2.alloc (.cells #[.int .i64 who, .int .i64 nh, .int .i64 kept, .int .i64 last] 26)) (w1.heap.size) 0 ⟨who, has, kept, last⟩) := hat_below HH_2.out ((Below.refl _ w2).alloc (Nat.le_refl _) _)
        have HL_3 : Hid (LiesA (w2.alloc (.cells #[.int .i64 who, .int .i64 nh, .int .i64 kept, .int .i64 last] 26)) g L) := HL_2.out.below ((Below.refl _ w2).alloc (Nat.le_refl _) _)
        have HB_3 : Hid (Below w.heap.size w (w2.alloc (.cells #[.int .i64 who, .int .i64 nh, .int .i64 kept, .int .i64 last] 26))) := HB_2.out.trans (((Below.refl _ w2).alloc (Nat.le_refl _) _).mono HB_2.out.size)
        have HXX_3 : Hid (HAt (w2.alloc (.cells #[.int .i64 who, .int .i64 nh, .int .i64 kept, .int .i64 last] 26)) (w2.heap.size) 0 ⟨who, nh, kept, last⟩) := hat_new w2 ⟨who, nh, kept, last⟩ _
        clear HL_2 HB_2 HH_2
        go_wp2_with fail
        refine (drawLearnsAll HDD.out HDX.out a0 len0 cap0 _ hle0 (code_below2 HCode.out HB_3.out)).mono ?_
        rintro e w3 ⟨v2, Q2, gq, m, rfl, hD2, hm2⟩
        have HH_4 : Hid (HAt (w3) (w1.heap.size) 0 ⟨who, has, kept, last⟩) := hat_below HH_3.out hD2.dr.bel
        have HXX_4 : Hid (HAt (w3) (w2.heap.size) 0 ⟨who, nh, kept, last⟩) := hat_below HXX_3.out hD2.dr.bel
        have HL_4 : Hid (LiesA (w3) g L) := HL_3.out.below (hD2.dr.bel)
        have HB_4 : Hid (Below w.heap.size w (w3)) := HB_3.out.trans ((hD2.dr.bel).mono HB_3.out.size)
        clear HL_3 HB_3 HH_3 HXX_3
        obtain ⟨g2, cp2, rfl, hcp2, hM⟩ := drawn_liesS hD2.dr
        have HM_4 : Hid (LiesA w3 g2 Q2) := ⟨hM, HNO.out.below HB_4.out⟩
        have g64 := hD2.h64
        clear hD2 hM
        have HY0 : Hid (∀ W : World, LiesA W g2 Q2 → _) := fun W hW => H2.out g2 cp2 Q2 gq m W hW hcp2 g64
        have SY0 : Hid (∀ W : World, LiesA W g2 Q2 → _) := fun W hW => specLearnsAll g2 0 cp2 Q2 gq m W hcp2 hW.words hW.rd g64
        cases hal : learnedB Q2 gq m false
        · have HY := HY0
          have SY := SY0
          rw [hal] at HY SY
          clear HY0 SY0
          obtain ⟨gw, gh, gk, gl⟩ := gq
          generalize hlh : learnedH Q2 ⟨gw, gh, gk, gl⟩ m false = yy at HY SY
          clear hlh
          obtain ⟨y1, y2, y3, y4⟩ := yy
          dsimp only at HY SY
          have HH_5 : Hid (HAt (w3.alloc (.cells #[.int .i64 gw, .int .i64 gh, .int .i64 gk, .int .i64 gl] 26)) (w1.heap.size) 0 ⟨who, has, kept, last⟩) := hat_below HH_4.out ((Below.refl _ w3).alloc (Nat.le_refl _) _)
          have HXX_5 : Hid (HAt (w3.alloc (.cells #[.int .i64 gw, .int .i64 gh, .int .i64 gk, .int .i64 gl] 26)) (w2.heap.size) 0 ⟨who, nh, kept, last⟩) := hat_below HXX_4.out ((Below.refl _ w3).alloc (Nat.le_refl _) _)
          have HL_5 : Hid (LiesA (w3.alloc (.cells #[.int .i64 gw, .int .i64 gh, .int .i64 gk, .int .i64 gl] 26)) g L) := HL_4.out.below ((Below.refl _ w3).alloc (Nat.le_refl _) _)
          have HM_5 : Hid (LiesA (w3.alloc (.cells #[.int .i64 gw, .int .i64 gh, .int .i64 gk, .int .i64 gl] 26)) g2 Q2) := HM_4.out.below ((Below.refl _ w3).alloc (Nat.le_refl _) _)
          have HB_5 : Hid (Below w.heap.size w (w3.alloc (.cells #[.int .i64 gw, .int .i64 gh, .int .i64 gk, .int .i64 gl] 26))) := HB_4.out.trans (((Below.refl _ w3).alloc (Nat.le_refl _) _).mono HB_4.out.size)
          have HGG_5 : Hid (HAt (w3.alloc (.cells #[.int .i64 gw, .int .i64 gh, .int .i64 gk, .int .i64 gl] 26)) (w3.heap.size) 0 ⟨gw, gh, gk, gl⟩) := hat_new w3 ⟨gw, gh, gk, gl⟩ _
          clear HL_4 HM_4 HB_4 HH_4 HXX_4
          go_wp2_with fail
          refine (HY.out _ HM_5.out).mono ?_
          rintro e w4 ⟨rfl, hb⟩
          have HH_6 : Hid (HAt (w4) (w1.heap.size) 0 ⟨who, has, kept, last⟩) := hat_below HH_5.out hb
          have HXX_6 : Hid (HAt (w4) (w2.heap.size) 0 ⟨who, nh, kept, last⟩) := hat_below HXX_5.out hb
          have HGG_6 : Hid (HAt (w4) (w3.heap.size) 0 ⟨gw, gh, gk, gl⟩) := hat_below HGG_5.out hb
          have HL_6 : Hid (LiesA (w4) g L) := HL_5.out.below (hb)
          have HM_6 : Hid (LiesA (w4) g2 Q2) := HM_5.out.below (hb)
          have HB_6 : Hid (Below w.heap.size w (w4)) := HB_5.out.trans ((hb).mono HB_5.out.size)
          clear HL_5 HM_5 HB_5 HH_5 HXX_5 HGG_5
          have HH_7 : Hid (HAt (w4.alloc (.cells #[.int .i64 y1, .int .i64 y2, .int .i64 y3, .int .i64 y4] 26)) (w1.heap.size) 0 ⟨who, has, kept, last⟩) := hat_below HH_6.out ((Below.refl _ w4).alloc (Nat.le_refl _) _)
          have HXX_7 : Hid (HAt (w4.alloc (.cells #[.int .i64 y1, .int .i64 y2, .int .i64 y3, .int .i64 y4] 26)) (w2.heap.size) 0 ⟨who, nh, kept, last⟩) := hat_below HXX_6.out ((Below.refl _ w4).alloc (Nat.le_refl _) _)
          have HGG_7 : Hid (HAt (w4.alloc (.cells #[.int .i64 y1, .int .i64 y2, .int .i64 y3, .int .i64 y4] 26)) (w3.heap.size) 0 ⟨gw, gh, gk, gl⟩) := hat_below HGG_6.out ((Below.refl _ w4).alloc (Nat.le_refl _) _)
          have HL_7 : Hid (LiesA (w4.alloc (.cells #[.int .i64 y1, .int .i64 y2, .int .i64 y3, .int .i64 y4] 26)) g L) := HL_6.out.below ((Below.refl _ w4).alloc (Nat.le_refl _) _)
          have HM_7 : Hid (LiesA (w4.alloc (.cells #[.int .i64 y1, .int .i64 y2, .int .i64 y3, .int .i64 y4] 26)) g2 Q2) := HM_6.out.below ((Below.refl _ w4).alloc (Nat.le_refl _) _)
          have HB_7 : Hid (Below w.heap.size w (w4.alloc (.cells #[.int .i64 y1, .int .i64 y2, .int .i64 y3, .int .i64 y4] 26))) := HB_6.out.trans (((Below.refl _ w4).alloc (Nat.le_refl _) _).mono HB_6.out.size)
          have HYY_7 : Hid (HAt (w4.alloc (.cells #[.int .i64 y1, .int .i64 y2, .int .i64 y3, .int .i64 y4] 26)) (w4.heap.size) 0 ⟨y1, y2, y3, y4⟩) := hat_new w4 ⟨y1, y2, y3, y4⟩ _
          clear HL_6 HM_6 HB_6 HH_6 HXX_6 HGG_6
          obtain ⟨c1a, c1b, c1c, c1d⟩ := cellsH HH_7.out
          dsimp only at c1a c1b c1c c1d
          go_wp2_with fail
          refine (SX.out _ HL_7.out).mono ?_
          rintro e w5 ⟨rfl, hb⟩
          have HH_8 : Hid (HAt (w5) (w1.heap.size) 0 ⟨who, has, kept, last⟩) := hat_below HH_7.out hb
          have HXX_8 : Hid (HAt (w5) (w2.heap.size) 0 ⟨who, nh, kept, last⟩) := hat_below HXX_7.out hb
          have HGG_8 : Hid (HAt (w5) (w3.heap.size) 0 ⟨gw, gh, gk, gl⟩) := hat_below HGG_7.out hb
          have HYY_8 : Hid (HAt (w5) (w4.heap.size) 0 ⟨y1, y2, y3, y4⟩) := hat_below HYY_7.out hb
          have HL_8 : Hid (LiesA (w5) g L) := HL_7.out.below (hb)
          have HM_8 : Hid (LiesA (w5) g2 Q2) := HM_7.out.below (hb)
          have HB_8 : Hid (Below w.heap.size w (w5)) := HB_7.out.trans ((hb).mono HB_7.out.size)
          clear HL_7 HM_7 HB_7 HH_7 HXX_7 HGG_7 HYY_7
          have HH_9 : Hid (HAt (w5.alloc (.cells #[.int .i64 who, .int .i64 nh, .int .i64 kept, .int .i64 last] 26)) (w1.heap.size) 0 ⟨who, has, kept, last⟩) := hat_below HH_8.out ((Below.refl _ w5).alloc (Nat.le_refl _) _)
          have HXX_9 : Hid (HAt (w5.alloc (.cells #[.int .i64 who, .int .i64 nh, .int .i64 kept, .int .i64 last] 26)) (w2.heap.size) 0 ⟨who, nh, kept, last⟩) := hat_below HXX_8.out ((Below.refl _ w5).alloc (Nat.le_refl _) _)
          have HGG_9 : Hid (HAt (w5.alloc (.cells #[.int .i64 who, .int .i64 nh, .int .i64 kept, .int .i64 last] 26)) (w3.heap.size) 0 ⟨gw, gh, gk, gl⟩) := hat_below HGG_8.out ((Below.refl _ w5).alloc (Nat.le_refl _) _)
          have HYY_9 : Hid (HAt (w5.alloc (.cells #[.int .i64 who, .int .i64 nh, .int .i64 kept, .int .i64 last] 26)) (w4.heap.size) 0 ⟨y1, y2, y3, y4⟩) := hat_below HYY_8.out ((Below.refl _ w5).alloc (Nat.le_refl _) _)
          have HL_9 : Hid (LiesA (w5.alloc (.cells #[.int .i64 who, .int .i64 nh, .int .i64 kept, .int .i64 last] 26)) g L) := HL_8.out.below ((Below.refl _ w5).alloc (Nat.le_refl _) _)
          have HM_9 : Hid (LiesA (w5.alloc (.cells #[.int .i64 who, .int .i64 nh, .int .i64 kept, .int .i64 last] 26)) g2 Q2) := HM_8.out.below ((Below.refl _ w5).alloc (Nat.le_refl _) _)
          have HB_9 : Hid (Below w.heap.size w (w5.alloc (.cells #[.int .i64 who, .int .i64 nh, .int .i64 kept, .int .i64 last] 26))) := HB_8.out.trans (((Below.refl _ w5).alloc (Nat.le_refl _) _).mono HB_8.out.size)
          have HZX_9 : Hid (HAt (w5.alloc (.cells #[.int .i64 who, .int .i64 nh, .int .i64 kept, .int .i64 last] 26)) (w5.heap.size) 0 ⟨who, nh, kept, last⟩) := hat_new w5 ⟨who, nh, kept, last⟩ _
          clear HL_8 HM_8 HB_8 HH_8 HXX_8 HGG_8 HYY_8
          have ex := hand_ne who nh kept last
          obtain ⟨c2a, c2b, c2c, c2d⟩ := cellsH HXX_9.out
          dsimp only at c2a c2b c2c c2d
          obtain ⟨c3a, c3b, c3c, c3d⟩ := cellsH HZX_9.out
          dsimp only at c3a c3b c3c c3d
          obtain ⟨c4a, c4b, c4c, c4d⟩ := cellsH HGG_9.out
          dsimp only at c4a c4b c4c c4d
          go_wp2_with fail
          refine (SY.out _ HM_9.out).mono ?_
          rintro e w6 ⟨rfl, hb⟩
          have HH_10 : Hid (HAt (w6) (w1.heap.size) 0 ⟨who, has, kept, last⟩) := hat_below HH_9.out hb
          have HXX_10 : Hid (HAt (w6) (w2.heap.size) 0 ⟨who, nh, kept, last⟩) := hat_below HXX_9.out hb
          have HGG_10 : Hid (HAt (w6) (w3.heap.size) 0 ⟨gw, gh, gk, gl⟩) := hat_below HGG_9.out hb
          have HYY_10 : Hid (HAt (w6) (w4.heap.size) 0 ⟨y1, y2, y3, y4⟩) := hat_below HYY_9.out hb
          have HZX_10 : Hid (HAt (w6) (w5.heap.size) 0 ⟨who, nh, kept, last⟩) := hat_below HZX_9.out hb
          have HL_10 : Hid (LiesA (w6) g L) := HL_9.out.below (hb)
          have HM_10 : Hid (LiesA (w6) g2 Q2) := HM_9.out.below (hb)
          have HB_10 : Hid (Below w.heap.size w (w6)) := HB_9.out.trans ((hb).mono HB_9.out.size)
          clear HL_9 HM_9 HB_9 HH_9 HXX_9 HGG_9 HYY_9 HZX_9
          have HH_11 : Hid (HAt (w6.alloc (.cells #[.int .i64 y1, .int .i64 y2, .int .i64 y3, .int .i64 y4] 26)) (w1.heap.size) 0 ⟨who, has, kept, last⟩) := hat_below HH_10.out ((Below.refl _ w6).alloc (Nat.le_refl _) _)
          have HXX_11 : Hid (HAt (w6.alloc (.cells #[.int .i64 y1, .int .i64 y2, .int .i64 y3, .int .i64 y4] 26)) (w2.heap.size) 0 ⟨who, nh, kept, last⟩) := hat_below HXX_10.out ((Below.refl _ w6).alloc (Nat.le_refl _) _)
          have HGG_11 : Hid (HAt (w6.alloc (.cells #[.int .i64 y1, .int .i64 y2, .int .i64 y3, .int .i64 y4] 26)) (w3.heap.size) 0 ⟨gw, gh, gk, gl⟩) := hat_below HGG_10.out ((Below.refl _ w6).alloc (Nat.le_refl _) _)
          have HYY_11 : Hid (HAt (w6.alloc (.cells #[.int .i64 y1, .int .i64 y2, .int .i64 y3, .int .i64 y4] 26)) (w4.heap.size) 0 ⟨y1, y2, y3, y4⟩) := hat_below HYY_10.out ((Below.refl _ w6).alloc (Nat.le_refl _) _)
          have HZX_11 : Hid (HAt (w6.alloc (.cells #[.int .i64 y1, .int .i64 y2, .int .i64 y3, .int .i64 y4] 26)) (w5.heap.size) 0 ⟨who, nh, kept, last⟩) := hat_below HZX_10.out ((Below.refl _ w6).alloc (Nat.le_refl _) _)
          have HL_11 : Hid (LiesA (w6.alloc (.cells #[.int .i64 y1, .int .i64 y2, .int .i64 y3, .int .i64 y4] 26)) g L) := HL_10.out.below ((Below.refl _ w6).alloc (Nat.le_refl _) _)
          have HM_11 : Hid (LiesA (w6.alloc (.cells #[.int .i64 y1, .int .i64 y2, .int .i64 y3, .int .i64 y4] 26)) g2 Q2) := HM_10.out.below ((Below.refl _ w6).alloc (Nat.le_refl _) _)
          have HB_11 : Hid (Below w.heap.size w (w6.alloc (.cells #[.int .i64 y1, .int .i64 y2, .int .i64 y3, .int .i64 y4] 26))) := HB_10.out.trans (((Below.refl _ w6).alloc (Nat.le_refl _) _).mono HB_10.out.size)
          have HZY_11 : Hid (HAt (w6.alloc (.cells #[.int .i64 y1, .int .i64 y2, .int .i64 y3, .int .i64 y4] 26)) (w6.heap.size) 0 ⟨y1, y2, y3, y4⟩) := hat_new w6 ⟨y1, y2, y3, y4⟩ _
          clear HL_10 HM_10 HB_10 HH_10 HXX_10 HGG_10 HYY_10 HZX_10
          have ey := hand_ne y1 y2 y3 y4
          obtain ⟨c5a, c5b, c5c, c5d⟩ := cellsH HYY_11.out
          dsimp only at c5a c5b c5c c5d
          obtain ⟨c6a, c6b, c6c, c6d⟩ := cellsH HZY_11.out
          dsimp only at c6a c6b c6c c6d
          obtain ⟨X1, _, F1, HFz1, HG1⟩ := Fam.fam ((w6.alloc (.cells #[.int .i64 y1, .int .i64 y2, .int .i64 y3, .int .i64 y4] 26)))
          have y00 : ∀ z, (F1 z).cell? ⟨w3.heap.size, 0, none⟩ = some (.int .i64 gw) := fun z => (cellsH (hat_below HGG_11.out (HFz1.out z))).1
          have y01 : ∀ z, (F1 z).cell? ⟨w3.heap.size, 1, none⟩ = some (.int .i64 gh) := fun z => (cellsH (hat_below HGG_11.out (HFz1.out z))).2.1
          have y02 : ∀ z, (F1 z).cell? ⟨w3.heap.size, 2, none⟩ = some (.int .i64 gk) := fun z => (cellsH (hat_below HGG_11.out (HFz1.out z))).2.2.1
          have y03 : ∀ z, (F1 z).cell? ⟨w3.heap.size, 3, none⟩ = some (.int .i64 gl) := fun z => (cellsH (hat_below HGG_11.out (HFz1.out z))).2.2.2
          have y10 : ∀ z, (F1 z).cell? ⟨w4.heap.size, 0, none⟩ = some (.int .i64 y1) := fun z => (cellsH (hat_below HYY_11.out (HFz1.out z))).1
          have y11 : ∀ z, (F1 z).cell? ⟨w4.heap.size, 1, none⟩ = some (.int .i64 y2) := fun z => (cellsH (hat_below HYY_11.out (HFz1.out z))).2.1
          have y12 : ∀ z, (F1 z).cell? ⟨w4.heap.size, 2, none⟩ = some (.int .i64 y3) := fun z => (cellsH (hat_below HYY_11.out (HFz1.out z))).2.2.1
          have y13 : ∀ z, (F1 z).cell? ⟨w4.heap.size, 3, none⟩ = some (.int .i64 y4) := fun z => (cellsH (hat_below HYY_11.out (HFz1.out z))).2.2.2
          have HLz : Hid (∀ z, LiesA (F1 z) g L) := fun z => HL_11.out.below (HFz1.out z)
          have HMz : Hid (∀ z, LiesA (F1 z) g2 Q2) := fun z => HM_11.out.below (HFz1.out z)
          go_wp2_with fail
          refine Fam.region (F := F1) (by kernel_rfl) (by kernel_rfl) (HG1.out _ (Below.refl _ _).drew) ?_
          repeat (go_big_quiet_step (first
            | fail))
          refine wpQuiet_nil ?_
          intro wz hwz
          obtain ⟨z1, rfl⟩ := hwz
          have HH_12 : Hid (HAt (F1 z1) (w1.heap.size) 0 ⟨who, has, kept, last⟩) := hat_below HH_11.out (HFz1.out z1)
          have HXX_12 : Hid (HAt (F1 z1) (w2.heap.size) 0 ⟨who, nh, kept, last⟩) := hat_below HXX_11.out (HFz1.out z1)
          have HGG_12 : Hid (HAt (F1 z1) (w3.heap.size) 0 ⟨gw, gh, gk, gl⟩) := hat_below HGG_11.out (HFz1.out z1)
          have HYY_12 : Hid (HAt (F1 z1) (w4.heap.size) 0 ⟨y1, y2, y3, y4⟩) := hat_below HYY_11.out (HFz1.out z1)
          have HZX_12 : Hid (HAt (F1 z1) (w5.heap.size) 0 ⟨who, nh, kept, last⟩) := hat_below HZX_11.out (HFz1.out z1)
          have HZY_12 : Hid (HAt (F1 z1) (w6.heap.size) 0 ⟨y1, y2, y3, y4⟩) := hat_below HZY_11.out (HFz1.out z1)
          have HL_12 : Hid (LiesA (F1 z1) g L) := HL_11.out.below (HFz1.out z1)
          have HM_12 : Hid (LiesA (F1 z1) g2 Q2) := HM_11.out.below (HFz1.out z1)
          have HB_12 : Hid (Below w.heap.size w (F1 z1)) := HB_11.out.trans ((HFz1.out z1).mono HB_11.out.size)
          clear HL_11 HM_11 HB_11 HH_11 HXX_11 HGG_11 HYY_11 HZX_11 HZY_11
          generalize F1 z1 = wv at HH_12 HXX_12 HGG_12 HYY_12 HZX_12 HZY_12 HL_12 HM_12 HB_12 ⊢
          clear HFz1 HG1 HLz HMz y00 y01 y02 y03 y10 y11 y12 y13
          obtain ⟨c7a, c7b, c7c, c7d⟩ := cellsH HH_12.out
          dsimp only at c7a c7b c7c c7d
          go_wp2_with fail
          refine (SO.out _ HL_12.out).mono ?_
          rintro e w7 ⟨rfl, hb⟩
          have HH_13 : Hid (HAt (w7) (w1.heap.size) 0 ⟨who, has, kept, last⟩) := hat_below HH_12.out hb
          have HXX_13 : Hid (HAt (w7) (w2.heap.size) 0 ⟨who, nh, kept, last⟩) := hat_below HXX_12.out hb
          have HGG_13 : Hid (HAt (w7) (w3.heap.size) 0 ⟨gw, gh, gk, gl⟩) := hat_below HGG_12.out hb
          have HYY_13 : Hid (HAt (w7) (w4.heap.size) 0 ⟨y1, y2, y3, y4⟩) := hat_below HYY_12.out hb
          have HZX_13 : Hid (HAt (w7) (w5.heap.size) 0 ⟨who, nh, kept, last⟩) := hat_below HZX_12.out hb
          have HZY_13 : Hid (HAt (w7) (w6.heap.size) 0 ⟨y1, y2, y3, y4⟩) := hat_below HZY_12.out hb
          have HL_13 : Hid (LiesA (w7) g L) := HL_12.out.below (hb)
          have HM_13 : Hid (LiesA (w7) g2 Q2) := HM_12.out.below (hb)
          have HB_13 : Hid (Below w.heap.size w (w7)) := HB_12.out.trans ((hb).mono HB_12.out.size)
          clear HL_12 HM_12 HB_12 HH_12 HXX_12 HGG_12 HYY_12 HZX_12 HZY_12
          have HE : Hid (Below w.heap.size w w7) := HB_13.out
          obtain ⟨X2, _, F2, HFz2, HG2⟩ := Fam.fam (w7)
          have y00 : ∀ z, (F2 z).cell? ⟨w1.heap.size, 0, none⟩ = some (.int .i64 who) := fun z => (cellsH (hat_below HH_13.out (HFz2.out z))).1
          have y01 : ∀ z, (F2 z).cell? ⟨w1.heap.size, 1, none⟩ = some (.int .i64 has) := fun z => (cellsH (hat_below HH_13.out (HFz2.out z))).2.1
          have y02 : ∀ z, (F2 z).cell? ⟨w1.heap.size, 2, none⟩ = some (.int .i64 kept) := fun z => (cellsH (hat_below HH_13.out (HFz2.out z))).2.2.1
          have y03 : ∀ z, (F2 z).cell? ⟨w1.heap.size, 3, none⟩ = some (.int .i64 last) := fun z => (cellsH (hat_below HH_13.out (HFz2.out z))).2.2.2
          have y10 : ∀ z, (F2 z).cell? ⟨w2.heap.size, 0, none⟩ = some (.int .i64 who) := fun z => (cellsH (hat_below HXX_13.out (HFz2.out z))).1
          have y11 : ∀ z, (F2 z).cell? ⟨w2.heap.size, 1, none⟩ = some (.int .i64 nh) := fun z => (cellsH (hat_below HXX_13.out (HFz2.out z))).2.1
          have y12 : ∀ z, (F2 z).cell? ⟨w2.heap.size, 2, none⟩ = some (.int .i64 kept) := fun z => (cellsH (hat_below HXX_13.out (HFz2.out z))).2.2.1
          have y13 : ∀ z, (F2 z).cell? ⟨w2.heap.size, 3, none⟩ = some (.int .i64 last) := fun z => (cellsH (hat_below HXX_13.out (HFz2.out z))).2.2.2
          have HLz : Hid (∀ z, LiesA (F2 z) g L) := fun z => HL_13.out.below (HFz2.out z)
          have HMz : Hid (∀ z, LiesA (F2 z) g2 Q2) := fun z => HM_13.out.below (HFz2.out z)
          have ykh : ∀ z, (F2 z).cell? ⟨g, p * 4, none⟩ = some (.int .i64 (at' L p).hand) := fun z => by have q := ((HLz.out z).rd.on p hpl).2.c0; rw [Nat.zero_add] at q; exact q
          generalize (at' L p).hand = kh at ykh hkw
          have hkb : (kh == who) = false := by rw [Bool.eq_false_iff]; intro q; rw [beq_iff_eq] at q; exact hkw q
          have hkc : (kh != who) = true := by unfold bne; rw [hkb]; rfl
          have hkd : decide (kh = who) = false := decide_eq_false hkw
          have hke : (!decide (kh = who)) = true := by rw [hkd]; rfl
          have hkf : (!kh == who) = true := by rw [hkb]; rfl
          go_wp2_with fail
          refine Fam.region (F := F2) (by kernel_rfl) (by kernel_rfl) (HG2.out _ (Below.refl _ _).drew) ?_
          repeat (go_big_quiet_step (first
            | (go_at_call 13; exact (XOK.out _ (HLz.out _)).mono fun _ _ h => ⟨h.1, HG2.out _ ((HFz2.out _).trans (h.2.mono (HFz2.out _).size))⟩)
            | (go_at_call 17; exact (XWI.out _).mono fun _ _ h => ⟨h.1, HG2.out _ ((HFz2.out _).trans (h.2.mono (HFz2.out _).size))⟩)
            | (go_at_call 15; exact (XIN.out _).mono fun _ _ h => ⟨h.1, HG2.out _ ((HFz2.out _).trans (h.2.mono (HFz2.out _).size))⟩)))
          refine wpQuiet_nil ?_
          intro wz hwz
          obtain ⟨z2, rfl⟩ := hwz
          have HE2 : Hid (Below w.heap.size w (F2 z2)) := HE.out.trans ((HFz2.out z2).mono HE.out.size)
          go_wp2
          go_ret
          exact ⟨rfl, HE2.out⟩
        · have HY := HY0
          have SY := SY0
          rw [hal] at HY SY
          clear HY0 SY0
          obtain ⟨hq1, hq2⟩ := learned_yes hal
          have hIs2 := hand_is g64 hq1
          obtain ⟨pm, rfl, hpm, hbm, hgm, _, _⟩ := learn_parts hIs2 hq2
          have hli := learned_is hIs2 hq2
          have e3 : learnedH Q2 gq (pm : Int) false = { gq with has := orB gq.has ((belows Q2 Q2.length).getD (pm : Int).toNat 0) } := by unfold learnedH; rw [if_pos hq1, if_pos hq2]
          rw [hgm] at hli e3
          rw [e3] at HY SY
          have h60q := ((Lc.lace_iff Q2).1 hIs2.lace).1
          have hbb := Sg.bel_bd Q2 pm (by omega)
          have hor : bits .or .i64 gq.has (Sg.bel Q2 pm) = orB gq.has (Sg.bel Q2 pm) := Sg.or_eq _ _ hIs2.h0 hIs2.h1 hbb.1 hbb.2
          have YOK : Hid (∀ W : World, LiesA W g2 Q2 → _) := fun W hW => by
            have := H4.out g2 cp2 Q2 { gq with has := orB gq.has (Sg.bel Q2 pm) } W hW.toN hcp2 (is_64 hli)
            rw [is_hand hli] at this
            exact this
          have YBE : Hid (∀ W : World, LiesA W g2 Q2 → Calls Tryz.prog 14 #[.slice (some ⟨g2, 0, none⟩) Q2.length cp2, .int .i64 (pm : Int)] W fun e w' => e = .returned (.int .i64 (Sg.bel Q2 pm)) ∧ Below W.heap.size W w') := fun W hW => by
            have := Sg.specBelow g2 0 cp2 Q2 (pm : Int) W hcp2 hW.words hW.rd
            rw [below_bel hIs2.lace hpm] at this
            exact this
          have YIN : Hid (∀ W : World, Calls Tryz.prog 15 #[.int .i64 gq.has, .int .i64 (pm : Int)] W fun e w' => e = .returned (.bool false) ∧ Below W.heap.size W w') := fun W => (Base.specIn gq.has (pm : Int) W).mono fun e w' h => ⟨by rw [h.1, Int.toNat_natCast, hbm]; simp, h.2 ▸ Below.refl _ _⟩
          clear hli e3 hIs2 hbm hgm hq1 hq2 hbb h60q hal
          obtain ⟨gw, gh, gk, gl⟩ := gq
          dsimp only at HY SY YOK YIN hor
          generalize orB gh (Sg.bel Q2 pm) = nn at HY SY YOK hor
          generalize Sg.bel Q2 pm = bq at YBE hor
          generalize (pm : Int) = m at HY SY YBE YIN hm2 ⊢
          have HH_5 : Hid (HAt (w3.alloc (.cells #[.int .i64 gw, .int .i64 gh, .int .i64 gk, .int .i64 gl] 26)) (w1.heap.size) 0 ⟨who, has, kept, last⟩) := hat_below HH_4.out ((Below.refl _ w3).alloc (Nat.le_refl _) _)
          have HXX_5 : Hid (HAt (w3.alloc (.cells #[.int .i64 gw, .int .i64 gh, .int .i64 gk, .int .i64 gl] 26)) (w2.heap.size) 0 ⟨who, nh, kept, last⟩) := hat_below HXX_4.out ((Below.refl _ w3).alloc (Nat.le_refl _) _)
          have HL_5 : Hid (LiesA (w3.alloc (.cells #[.int .i64 gw, .int .i64 gh, .int .i64 gk, .int .i64 gl] 26)) g L) := HL_4.out.below ((Below.refl _ w3).alloc (Nat.le_refl _) _)
          have HM_5 : Hid (LiesA (w3.alloc (.cells #[.int .i64 gw, .int .i64 gh, .int .i64 gk, .int .i64 gl] 26)) g2 Q2) := HM_4.out.below ((Below.refl _ w3).alloc (Nat.le_refl _) _)
          have HB_5 : Hid (Below w.heap.size w (w3.alloc (.cells #[.int .i64 gw, .int .i64 gh, .int .i64 gk, .int .i64 gl] 26))) := HB_4.out.trans (((Below.refl _ w3).alloc (Nat.le_refl _) _).mono HB_4.out.size)
          have HGG_5 : Hid (HAt (w3.alloc (.cells #[.int .i64 gw, .int .i64 gh, .int .i64 gk, .int .i64 gl] 26)) (w3.heap.size) 0 ⟨gw, gh, gk, gl⟩) := hat_new w3 ⟨gw, gh, gk, gl⟩ _
          clear HL_4 HM_4 HB_4 HH_4 HXX_4
          go_wp2_with fail
          refine (HY.out _ HM_5.out).mono ?_
          rintro e w4 ⟨rfl, hb⟩
          have HH_6 : Hid (HAt (w4) (w1.heap.size) 0 ⟨who, has, kept, last⟩) := hat_below HH_5.out hb
          have HXX_6 : Hid (HAt (w4) (w2.heap.size) 0 ⟨who, nh, kept, last⟩) := hat_below HXX_5.out hb
          have HGG_6 : Hid (HAt (w4) (w3.heap.size) 0 ⟨gw, gh, gk, gl⟩) := hat_below HGG_5.out hb
          have HL_6 : Hid (LiesA (w4) g L) := HL_5.out.below (hb)
          have HM_6 : Hid (LiesA (w4) g2 Q2) := HM_5.out.below (hb)
          have HB_6 : Hid (Below w.heap.size w (w4)) := HB_5.out.trans ((hb).mono HB_5.out.size)
          clear HL_5 HM_5 HB_5 HH_5 HXX_5 HGG_5
          have HH_7 : Hid (HAt (w4.alloc (.cells #[.int .i64 gw, .int .i64 nn, .int .i64 gk, .int .i64 gl] 26)) (w1.heap.size) 0 ⟨who, has, kept, last⟩) := hat_below HH_6.out ((Below.refl _ w4).alloc (Nat.le_refl _) _)
          have HXX_7 : Hid (HAt (w4.alloc (.cells #[.int .i64 gw, .int .i64 nn, .int .i64 gk, .int .i64 gl] 26)) (w2.heap.size) 0 ⟨who, nh, kept, last⟩) := hat_below HXX_6.out ((Below.refl _ w4).alloc (Nat.le_refl _) _)
          have HGG_7 : Hid (HAt (w4.alloc (.cells #[.int .i64 gw, .int .i64 nn, .int .i64 gk, .int .i64 gl] 26)) (w3.heap.size) 0 ⟨gw, gh, gk, gl⟩) := hat_below HGG_6.out ((Below.refl _ w4).alloc (Nat.le_refl _) _)
          have HL_7 : Hid (LiesA (w4.alloc (.cells #[.int .i64 gw, .int .i64 nn, .int .i64 gk, .int .i64 gl] 26)) g L) := HL_6.out.below ((Below.refl _ w4).alloc (Nat.le_refl _) _)
          have HM_7 : Hid (LiesA (w4.alloc (.cells #[.int .i64 gw, .int .i64 nn, .int .i64 gk, .int .i64 gl] 26)) g2 Q2) := HM_6.out.below ((Below.refl _ w4).alloc (Nat.le_refl _) _)
          have HB_7 : Hid (Below w.heap.size w (w4.alloc (.cells #[.int .i64 gw, .int .i64 nn, .int .i64 gk, .int .i64 gl] 26))) := HB_6.out.trans (((Below.refl _ w4).alloc (Nat.le_refl _) _).mono HB_6.out.size)
          have HYY_7 : Hid (HAt (w4.alloc (.cells #[.int .i64 gw, .int .i64 nn, .int .i64 gk, .int .i64 gl] 26)) (w4.heap.size) 0 ⟨gw, nn, gk, gl⟩) := hat_new w4 ⟨gw, nn, gk, gl⟩ _
          clear HL_6 HM_6 HB_6 HH_6 HXX_6 HGG_6
          obtain ⟨c1a, c1b, c1c, c1d⟩ := cellsH HH_7.out
          dsimp only at c1a c1b c1c c1d
          go_wp2_with fail
          refine (SX.out _ HL_7.out).mono ?_
          rintro e w5 ⟨rfl, hb⟩
          have HH_8 : Hid (HAt (w5) (w1.heap.size) 0 ⟨who, has, kept, last⟩) := hat_below HH_7.out hb
          have HXX_8 : Hid (HAt (w5) (w2.heap.size) 0 ⟨who, nh, kept, last⟩) := hat_below HXX_7.out hb
          have HGG_8 : Hid (HAt (w5) (w3.heap.size) 0 ⟨gw, gh, gk, gl⟩) := hat_below HGG_7.out hb
          have HYY_8 : Hid (HAt (w5) (w4.heap.size) 0 ⟨gw, nn, gk, gl⟩) := hat_below HYY_7.out hb
          have HL_8 : Hid (LiesA (w5) g L) := HL_7.out.below (hb)
          have HM_8 : Hid (LiesA (w5) g2 Q2) := HM_7.out.below (hb)
          have HB_8 : Hid (Below w.heap.size w (w5)) := HB_7.out.trans ((hb).mono HB_7.out.size)
          clear HL_7 HM_7 HB_7 HH_7 HXX_7 HGG_7 HYY_7
          have HH_9 : Hid (HAt (w5.alloc (.cells #[.int .i64 who, .int .i64 nh, .int .i64 kept, .int .i64 last] 26)) (w1.heap.size) 0 ⟨who, has, kept, last⟩) := hat_below HH_8.out ((Below.refl _ w5).alloc (Nat.le_refl _) _)
          have HXX_9 : Hid (HAt (w5.alloc (.cells #[.int .i64 who, .int .i64 nh, .int .i64 kept, .int .i64 last] 26)) (w2.heap.size) 0 ⟨who, nh, kept, last⟩) := hat_below HXX_8.out ((Below.refl _ w5).alloc (Nat.le_refl _) _)
          have HGG_9 : Hid (HAt (w5.alloc (.cells #[.int .i64 who, .int .i64 nh, .int .i64 kept, .int .i64 last] 26)) (w3.heap.size) 0 ⟨gw, gh, gk, gl⟩) := hat_below HGG_8.out ((Below.refl _ w5).alloc (Nat.le_refl _) _)
          have HYY_9 : Hid (HAt (w5.alloc (.cells #[.int .i64 who, .int .i64 nh, .int .i64 kept, .int .i64 last] 26)) (w4.heap.size) 0 ⟨gw, nn, gk, gl⟩) := hat_below HYY_8.out ((Below.refl _ w5).alloc (Nat.le_refl _) _)
          have HL_9 : Hid (LiesA (w5.alloc (.cells #[.int .i64 who, .int .i64 nh, .int .i64 kept, .int .i64 last] 26)) g L) := HL_8.out.below ((Below.refl _ w5).alloc (Nat.le_refl _) _)
          have HM_9 : Hid (LiesA (w5.alloc (.cells #[.int .i64 who, .int .i64 nh, .int .i64 kept, .int .i64 last] 26)) g2 Q2) := HM_8.out.below ((Below.refl _ w5).alloc (Nat.le_refl _) _)
          have HB_9 : Hid (Below w.heap.size w (w5.alloc (.cells #[.int .i64 who, .int .i64 nh, .int .i64 kept, .int .i64 last] 26))) := HB_8.out.trans (((Below.refl _ w5).alloc (Nat.le_refl _) _).mono HB_8.out.size)
          have HZX_9 : Hid (HAt (w5.alloc (.cells #[.int .i64 who, .int .i64 nh, .int .i64 kept, .int .i64 last] 26)) (w5.heap.size) 0 ⟨who, nh, kept, last⟩) := hat_new w5 ⟨who, nh, kept, last⟩ _
          clear HL_8 HM_8 HB_8 HH_8 HXX_8 HGG_8 HYY_8
          have ex := hand_ne who nh kept last
          obtain ⟨c2a, c2b, c2c, c2d⟩ := cellsH HXX_9.out
          dsimp only at c2a c2b c2c c2d
          obtain ⟨c3a, c3b, c3c, c3d⟩ := cellsH HZX_9.out
          dsimp only at c3a c3b c3c c3d
          obtain ⟨c4a, c4b, c4c, c4d⟩ := cellsH HGG_9.out
          dsimp only at c4a c4b c4c c4d
          go_wp2_with fail
          refine (SY.out _ HM_9.out).mono ?_
          rintro e w6 ⟨rfl, hb⟩
          have HH_10 : Hid (HAt (w6) (w1.heap.size) 0 ⟨who, has, kept, last⟩) := hat_below HH_9.out hb
          have HXX_10 : Hid (HAt (w6) (w2.heap.size) 0 ⟨who, nh, kept, last⟩) := hat_below HXX_9.out hb
          have HGG_10 : Hid (HAt (w6) (w3.heap.size) 0 ⟨gw, gh, gk, gl⟩) := hat_below HGG_9.out hb
          have HYY_10 : Hid (HAt (w6) (w4.heap.size) 0 ⟨gw, nn, gk, gl⟩) := hat_below HYY_9.out hb
          have HZX_10 : Hid (HAt (w6) (w5.heap.size) 0 ⟨who, nh, kept, last⟩) := hat_below HZX_9.out hb
          have HL_10 : Hid (LiesA (w6) g L) := HL_9.out.below (hb)
          have HM_10 : Hid (LiesA (w6) g2 Q2) := HM_9.out.below (hb)
          have HB_10 : Hid (Below w.heap.size w (w6)) := HB_9.out.trans ((hb).mono HB_9.out.size)
          clear HL_9 HM_9 HB_9 HH_9 HXX_9 HGG_9 HYY_9 HZX_9
          have HH_11 : Hid (HAt (w6.alloc (.cells #[.int .i64 gw, .int .i64 nn, .int .i64 gk, .int .i64 gl] 26)) (w1.heap.size) 0 ⟨who, has, kept, last⟩) := hat_below HH_10.out ((Below.refl _ w6).alloc (Nat.le_refl _) _)
          have HXX_11 : Hid (HAt (w6.alloc (.cells #[.int .i64 gw, .int .i64 nn, .int .i64 gk, .int .i64 gl] 26)) (w2.heap.size) 0 ⟨who, nh, kept, last⟩) := hat_below HXX_10.out ((Below.refl _ w6).alloc (Nat.le_refl _) _)
          have HGG_11 : Hid (HAt (w6.alloc (.cells #[.int .i64 gw, .int .i64 nn, .int .i64 gk, .int .i64 gl] 26)) (w3.heap.size) 0 ⟨gw, gh, gk, gl⟩) := hat_below HGG_10.out ((Below.refl _ w6).alloc (Nat.le_refl _) _)
          have HYY_11 : Hid (HAt (w6.alloc (.cells #[.int .i64 gw, .int .i64 nn, .int .i64 gk, .int .i64 gl] 26)) (w4.heap.size) 0 ⟨gw, nn, gk, gl⟩) := hat_below HYY_10.out ((Below.refl _ w6).alloc (Nat.le_refl _) _)
          have HZX_11 : Hid (HAt (w6.alloc (.cells #[.int .i64 gw, .int .i64 nn, .int .i64 gk, .int .i64 gl] 26)) (w5.heap.size) 0 ⟨who, nh, kept, last⟩) := hat_below HZX_10.out ((Below.refl _ w6).alloc (Nat.le_refl _) _)
          have HL_11 : Hid (LiesA (w6.alloc (.cells #[.int .i64 gw, .int .i64 nn, .int .i64 gk, .int .i64 gl] 26)) g L) := HL_10.out.below ((Below.refl _ w6).alloc (Nat.le_refl _) _)
          have HM_11 : Hid (LiesA (w6.alloc (.cells #[.int .i64 gw, .int .i64 nn, .int .i64 gk, .int .i64 gl] 26)) g2 Q2) := HM_10.out.below ((Below.refl _ w6).alloc (Nat.le_refl _) _)
          have HB_11 : Hid (Below w.heap.size w (w6.alloc (.cells #[.int .i64 gw, .int .i64 nn, .int .i64 gk, .int .i64 gl] 26))) := HB_10.out.trans (((Below.refl _ w6).alloc (Nat.le_refl _) _).mono HB_10.out.size)
          have HZY_11 : Hid (HAt (w6.alloc (.cells #[.int .i64 gw, .int .i64 nn, .int .i64 gk, .int .i64 gl] 26)) (w6.heap.size) 0 ⟨gw, nn, gk, gl⟩) := hat_new w6 ⟨gw, nn, gk, gl⟩ _
          clear HL_10 HM_10 HB_10 HH_10 HXX_10 HGG_10 HYY_10 HZX_10
          have ey := hand_ne gw nn gk gl
          obtain ⟨c5a, c5b, c5c, c5d⟩ := cellsH HYY_11.out
          dsimp only at c5a c5b c5c c5d
          obtain ⟨c6a, c6b, c6c, c6d⟩ := cellsH HZY_11.out
          dsimp only at c6a c6b c6c c6d
          obtain ⟨X1, _, F1, HFz1, HG1⟩ := Fam.fam ((w6.alloc (.cells #[.int .i64 gw, .int .i64 nn, .int .i64 gk, .int .i64 gl] 26)))
          have y00 : ∀ z, (F1 z).cell? ⟨w3.heap.size, 0, none⟩ = some (.int .i64 gw) := fun z => (cellsH (hat_below HGG_11.out (HFz1.out z))).1
          have y01 : ∀ z, (F1 z).cell? ⟨w3.heap.size, 1, none⟩ = some (.int .i64 gh) := fun z => (cellsH (hat_below HGG_11.out (HFz1.out z))).2.1
          have y02 : ∀ z, (F1 z).cell? ⟨w3.heap.size, 2, none⟩ = some (.int .i64 gk) := fun z => (cellsH (hat_below HGG_11.out (HFz1.out z))).2.2.1
          have y03 : ∀ z, (F1 z).cell? ⟨w3.heap.size, 3, none⟩ = some (.int .i64 gl) := fun z => (cellsH (hat_below HGG_11.out (HFz1.out z))).2.2.2
          have y10 : ∀ z, (F1 z).cell? ⟨w4.heap.size, 0, none⟩ = some (.int .i64 gw) := fun z => (cellsH (hat_below HYY_11.out (HFz1.out z))).1
          have y11 : ∀ z, (F1 z).cell? ⟨w4.heap.size, 1, none⟩ = some (.int .i64 nn) := fun z => (cellsH (hat_below HYY_11.out (HFz1.out z))).2.1
          have y12 : ∀ z, (F1 z).cell? ⟨w4.heap.size, 2, none⟩ = some (.int .i64 gk) := fun z => (cellsH (hat_below HYY_11.out (HFz1.out z))).2.2.1
          have y13 : ∀ z, (F1 z).cell? ⟨w4.heap.size, 3, none⟩ = some (.int .i64 gl) := fun z => (cellsH (hat_below HYY_11.out (HFz1.out z))).2.2.2
          have HLz : Hid (∀ z, LiesA (F1 z) g L) := fun z => HL_11.out.below (HFz1.out z)
          have HMz : Hid (∀ z, LiesA (F1 z) g2 Q2) := fun z => HM_11.out.below (HFz1.out z)
          go_wp2_with fail
          refine Fam.region (F := F1) (by kernel_rfl) (by kernel_rfl) (HG1.out _ (Below.refl _ _).drew) ?_
          repeat (go_big_quiet_step (first
            | (go_at_call 13; exact (YOK.out _ (HMz.out _)).mono fun _ _ h => ⟨h.1, HG1.out _ ((HFz1.out _).trans (h.2.mono (HFz1.out _).size))⟩)
            | (go_at_call 14; exact (YBE.out _ (HMz.out _)).mono fun _ _ h => ⟨h.1, HG1.out _ ((HFz1.out _).trans (h.2.mono (HFz1.out _).size))⟩)
            | (go_at_call 15; exact (YIN.out _).mono fun _ _ h => ⟨h.1, HG1.out _ ((HFz1.out _).trans (h.2.mono (HFz1.out _).size))⟩)))
          refine wpQuiet_nil ?_
          intro wz hwz
          obtain ⟨z1, rfl⟩ := hwz
          have HH_12 : Hid (HAt (F1 z1) (w1.heap.size) 0 ⟨who, has, kept, last⟩) := hat_below HH_11.out (HFz1.out z1)
          have HXX_12 : Hid (HAt (F1 z1) (w2.heap.size) 0 ⟨who, nh, kept, last⟩) := hat_below HXX_11.out (HFz1.out z1)
          have HGG_12 : Hid (HAt (F1 z1) (w3.heap.size) 0 ⟨gw, gh, gk, gl⟩) := hat_below HGG_11.out (HFz1.out z1)
          have HYY_12 : Hid (HAt (F1 z1) (w4.heap.size) 0 ⟨gw, nn, gk, gl⟩) := hat_below HYY_11.out (HFz1.out z1)
          have HZX_12 : Hid (HAt (F1 z1) (w5.heap.size) 0 ⟨who, nh, kept, last⟩) := hat_below HZX_11.out (HFz1.out z1)
          have HZY_12 : Hid (HAt (F1 z1) (w6.heap.size) 0 ⟨gw, nn, gk, gl⟩) := hat_below HZY_11.out (HFz1.out z1)
          have HL_12 : Hid (LiesA (F1 z1) g L) := HL_11.out.below (HFz1.out z1)
          have HM_12 : Hid (LiesA (F1 z1) g2 Q2) := HM_11.out.below (HFz1.out z1)
          have HB_12 : Hid (Below w.heap.size w (F1 z1)) := HB_11.out.trans ((HFz1.out z1).mono HB_11.out.size)
          clear HL_11 HM_11 HB_11 HH_11 HXX_11 HGG_11 HYY_11 HZX_11 HZY_11
          generalize F1 z1 = wv at HH_12 HXX_12 HGG_12 HYY_12 HZX_12 HZY_12 HL_12 HM_12 HB_12 ⊢
          clear HFz1 HG1 HLz HMz y00 y01 y02 y03 y10 y11 y12 y13
          obtain ⟨c7a, c7b, c7c, c7d⟩ := cellsH HH_12.out
          dsimp only at c7a c7b c7c c7d
          go_wp2_with fail
          refine (SO.out _ HL_12.out).mono ?_
          rintro e w7 ⟨rfl, hb⟩
          have HH_13 : Hid (HAt (w7) (w1.heap.size) 0 ⟨who, has, kept, last⟩) := hat_below HH_12.out hb
          have HXX_13 : Hid (HAt (w7) (w2.heap.size) 0 ⟨who, nh, kept, last⟩) := hat_below HXX_12.out hb
          have HGG_13 : Hid (HAt (w7) (w3.heap.size) 0 ⟨gw, gh, gk, gl⟩) := hat_below HGG_12.out hb
          have HYY_13 : Hid (HAt (w7) (w4.heap.size) 0 ⟨gw, nn, gk, gl⟩) := hat_below HYY_12.out hb
          have HZX_13 : Hid (HAt (w7) (w5.heap.size) 0 ⟨who, nh, kept, last⟩) := hat_below HZX_12.out hb
          have HZY_13 : Hid (HAt (w7) (w6.heap.size) 0 ⟨gw, nn, gk, gl⟩) := hat_below HZY_12.out hb
          have HL_13 : Hid (LiesA (w7) g L) := HL_12.out.below (hb)
          have HM_13 : Hid (LiesA (w7) g2 Q2) := HM_12.out.below (hb)
          have HB_13 : Hid (Below w.heap.size w (w7)) := HB_12.out.trans ((hb).mono HB_12.out.size)
          clear HL_12 HM_12 HB_12 HH_12 HXX_12 HGG_12 HYY_12 HZX_12 HZY_12
          have HE : Hid (Below w.heap.size w w7) := HB_13.out
          obtain ⟨X2, _, F2, HFz2, HG2⟩ := Fam.fam (w7)
          have y00 : ∀ z, (F2 z).cell? ⟨w1.heap.size, 0, none⟩ = some (.int .i64 who) := fun z => (cellsH (hat_below HH_13.out (HFz2.out z))).1
          have y01 : ∀ z, (F2 z).cell? ⟨w1.heap.size, 1, none⟩ = some (.int .i64 has) := fun z => (cellsH (hat_below HH_13.out (HFz2.out z))).2.1
          have y02 : ∀ z, (F2 z).cell? ⟨w1.heap.size, 2, none⟩ = some (.int .i64 kept) := fun z => (cellsH (hat_below HH_13.out (HFz2.out z))).2.2.1
          have y03 : ∀ z, (F2 z).cell? ⟨w1.heap.size, 3, none⟩ = some (.int .i64 last) := fun z => (cellsH (hat_below HH_13.out (HFz2.out z))).2.2.2
          have y10 : ∀ z, (F2 z).cell? ⟨w2.heap.size, 0, none⟩ = some (.int .i64 who) := fun z => (cellsH (hat_below HXX_13.out (HFz2.out z))).1
          have y11 : ∀ z, (F2 z).cell? ⟨w2.heap.size, 1, none⟩ = some (.int .i64 nh) := fun z => (cellsH (hat_below HXX_13.out (HFz2.out z))).2.1
          have y12 : ∀ z, (F2 z).cell? ⟨w2.heap.size, 2, none⟩ = some (.int .i64 kept) := fun z => (cellsH (hat_below HXX_13.out (HFz2.out z))).2.2.1
          have y13 : ∀ z, (F2 z).cell? ⟨w2.heap.size, 3, none⟩ = some (.int .i64 last) := fun z => (cellsH (hat_below HXX_13.out (HFz2.out z))).2.2.2
          have HLz : Hid (∀ z, LiesA (F2 z) g L) := fun z => HL_13.out.below (HFz2.out z)
          have HMz : Hid (∀ z, LiesA (F2 z) g2 Q2) := fun z => HM_13.out.below (HFz2.out z)
          have ykh : ∀ z, (F2 z).cell? ⟨g, p * 4, none⟩ = some (.int .i64 (at' L p).hand) := fun z => by have q := ((HLz.out z).rd.on p hpl).2.c0; rw [Nat.zero_add] at q; exact q
          generalize (at' L p).hand = kh at ykh hkw
          have hkb : (kh == who) = false := by rw [Bool.eq_false_iff]; intro q; rw [beq_iff_eq] at q; exact hkw q
          have hkc : (kh != who) = true := by unfold bne; rw [hkb]; rfl
          have hkd : decide (kh = who) = false := decide_eq_false hkw
          have hke : (!decide (kh = who)) = true := by rw [hkd]; rfl
          have hkf : (!kh == who) = true := by rw [hkb]; rfl
          go_wp2_with fail
          refine Fam.region (F := F2) (by kernel_rfl) (by kernel_rfl) (HG2.out _ (Below.refl _ _).drew) ?_
          repeat (go_big_quiet_step (first
            | (go_at_call 13; exact (XOK.out _ (HLz.out _)).mono fun _ _ h => ⟨h.1, HG2.out _ ((HFz2.out _).trans (h.2.mono (HFz2.out _).size))⟩)
            | (go_at_call 17; exact (XWI.out _).mono fun _ _ h => ⟨h.1, HG2.out _ ((HFz2.out _).trans (h.2.mono (HFz2.out _).size))⟩)
            | (go_at_call 15; exact (XIN.out _).mono fun _ _ h => ⟨h.1, HG2.out _ ((HFz2.out _).trans (h.2.mono (HFz2.out _).size))⟩)))
          refine wpQuiet_nil ?_
          intro wz hwz
          obtain ⟨z2, rfl⟩ := hwz
          have HE2 : Hid (Below w.heap.size w (F2 z2)) := HE.out.trans ((HFz2.out z2).mono HE.out.size)
          go_wp2
          go_ret
          exact ⟨rfl, HE2.out⟩

end Rm
end Go.Proofs.YtfjmenhofllchaaGreatDoor

namespace Go.Proofs.YtfjmenhofllchaaGreatDoor
open Go.RowKit
namespace Rm

theorem drawsBad : DrawsBad := fun c a len cap ao cp L co nc cc go nh hc bad w hl hca hlc hr hn => l18DrawBad c a len cap ao cp L co nc cc go nh hc bad w hl hca hlc hr hn
theorem drawsRoom : DrawsRoom := fun c a len cap w hl hc => l18Draw' (l18DrawActs' drawsBad (l18DrawAct' drawsBad)) c a len cap w hl hc

end Rm
end Go.Proofs.YtfjmenhofllchaaGreatDoor

namespace Go.Proofs.YtfjmenhofllchaaGreatDoor
open Go.RowKit
namespace Rm

theorem drawsRoomC : DrawsRoomC := fun c a len cap w hl hc => l18DrawC (l18DrawActs' drawsBad (l18DrawAct' drawsBad)) c a len cap w hl hc

end Rm
end Go.Proofs.YtfjmenhofllchaaGreatDoor

namespace Go.Proofs.YtfjmenhofllchaaGreatDoor
open Go.RowKit Go.ChangeShapes Go.WideShapes Go.ChangeAt
set_option maxRecDepth 100000
namespace Ld

theorem star : "*" ++ "errors.errorString" = "*errors.errorString" := by decide
theorem rowE (u : TypeId) (h : Tryz.prog.typeName? 3 u = some "*errors.errorString") : u = 189 :=
  typeName_ptr_named (nm := "errors.errorString") (by rw [star]; kernel_rfl) (by kernel_rfl) (by decide) u (by rw [star]; exact h)
theorem gNoHand : Tryz.prog.globalNamed "loop.example/g00418/impl.errNoHand" = some 0 := by kernel_rfl
theorem tNoHand : (Tryz.prog.globals[0]?).map (·.type) = some 71 := by kernel_rfl
theorem cellsE : Tryz.prog.cellsOf 212 = 1 := by kernel_rfl
theorem cellsS : Tryz.prog.cellsOf 9 = 1 := by kernel_rfl

theorem one {W : World} {text : List UInt8} {r : List (String × DataW Unit)} (h : laidMet Tryz.prog (("loop.example/g00418/impl.errNoHand", .iface "*errors.errorString" (.ptr (.agg [.lit (.string text)]))) :: r) W) :
    ∃ a, W.var? Tryz.prog "loop.example/g00418/impl.errNoHand" = some #[.iface 189 (.pointer (some a))] := by
  obtain ⟨a, s, hv, _⟩ := laid_sentinel h gNoHand tNoHand Tryz.underlying71 rowE Tryz.underlying189 Tryz.underlying212 rfl rfl Tryz.underlying9 cellsE cellsS
  exact ⟨a, hv⟩
theorem noh {W : World} {a : Addr} (h : W.var? Tryz.prog "loop.example/g00418/impl.errNoHand" = some #[.iface 189 (.pointer (some a))]) : Rm.NoH W a := by
  unfold Rm.NoH
  simpa using World.var?_cell gNoHand h 0
theorem var_below {n : String} {g : Nat} {W V : World} {cs : Array Value} (hg : Tryz.prog.globalNamed n = some g) (hb : Below W.heap.size W V) (h : W.var? Tryz.prog n = some cs) : V.var? Tryz.prog n = some cs := by
  refine var?_below hb hg ?_ h
  rcases Nat.lt_or_ge g W.heap.size with q | q
  · exact q
  · unfold World.var? at h
    rw [hg] at h
    simp [Array.getElem?_eq_none q] at h

/-- a row's wrap: a condition on the heap and the world's shape are both handed on -/
theorem wrap {H : Type} {enc : TypeId × Value → H} {a : Assume} {C : Checked} {os : Os} {f : FuncId} {fn : Func} {s : ChangeSpec} {apart fresh handsOn again : Bool} {X : World → Prop}
    (hX : ∀ w w' : World, w.heap = w'.heap → X w → X w') (own : ownKnob C.prog.godebug = none) (started : os.Started) (noInit : C.prog.inits.idxOf? f = none) (hfn : C.prog.funcs[f]? = some fn)
    (witness : ∃ (w : World) (tape : Tape) (i : Input), w.os = os ∧ (w.forCall tape i).Shaped C.prog ∧ i.vars = [] ∧ Input.okWide C.prog (w.forCall tape i) .any w.heap.size f i ∧
      ((s.pre enc C.prog fn [] apart (w.forCall tape i).memory i.args ∧ X (w.forCall tape i).memory) ∧ sizedMet enc C.prog fn (OpenSpec.ofChange s) apart (w.forCall tape i).memory i.args) ∧ a.holds C.prog (lone (Frame.enter C.prog f i.args .normal) [] (w.forCall tape i)))
    (contract : ∀ (W : World) (base : Nat) (args : Array Value) (ds gs : List (DataW H)) (before : List MemPlace),
      (∀ (j : Nat) t v, fn.params[j]? = some t → args[j]? = some v → Value.okWide C.prog W .any base t v) → DataW.Whole enc C.prog fn.params.toList s.vars apart W args.toList ds gs before →
      X W → W.ShapedOpen C.prog → Calls C.prog f args W fun e W' => ∃ v, e = .returned v ∧ s.post enc C.prog fn apart fresh handsOn again W args v W') :
    ReturnsInHanded a C os f .any (fun w args => (s.pre enc C.prog fn [] apart w args ∧ X w) ∧ sizedMet enc C.prog fn (OpenSpec.ofChange s) apart w args) (s.post enc C.prog fn apart fresh handsOn again) := by
  refine returnsInHanded_of_calls own started noInit witness ?_
  intro w tape i _ hsh _ hok hpre _
  obtain ⟨_, _, _, fn', hfn', _, _, _, _, hval⟩ := hok
  obtain rfl : fn' = fn := Option.some.inj (hfn'.symm.trans hfn)
  obtain ⟨⟨⟨ds, gs, before, hw, _⟩, hx⟩, _⟩ := hpre
  refine (contract (w.forCall tape i) w.heap.size i.args ds gs before hval (DataW.Whole.of_heap (w' := w.forCall tape i) (by rfl) hw) (hX _ _ (by rfl) hx) hsh).mono fun e W' ⟨v, he, hp⟩ => ?_
  subst he
  exact ChangeSpec.post_blind hp

end Ld
end Go.Proofs.YtfjmenhofllchaaGreatDoor

namespace Go.Proofs.YtfjmenhofllchaaGreatDoor
open Go.RowKit Go.ChangeShapes Go.WideShapes Go.ChangeAt
set_option maxRecDepth 100000
namespace Ld

theorem gNoKnot : Tryz.prog.globalNamed "loop.example/g00418/impl.errNoKnot" = some 1 := by kernel_rfl
theorem tNoKnot : (Tryz.prog.globals[1]?).map (·.type) = some 71 := by kernel_rfl
theorem gThere : Tryz.prog.globalNamed "loop.example/g00418/impl.errThere" = some 2 := by kernel_rfl
theorem tThere : (Tryz.prog.globals[2]?).map (·.type) = some 71 := by kernel_rfl
theorem gOwn : Tryz.prog.globalNamed "loop.example/g00418/impl.errOwn" = some 4 := by kernel_rfl
theorem tOwn : (Tryz.prog.globals[4]?).map (·.type) = some 71 := by kernel_rfl
theorem gLoose : Tryz.prog.globalNamed "loop.example/g00418/impl.errLoose" = some 3 := by kernel_rfl
theorem tLoose : (Tryz.prog.globals[3]?).map (·.type) = some 71 := by kernel_rfl

/-- of two that lie in the list one behind the other, wherever -/
theorem two {W : World} {n0 n1 : String} {text0 text1 : List UInt8} {m r : List (String × DataW Unit)} {g0 g1 : Nat}
    (h : laidMet Tryz.prog ((n0, .iface "*errors.errorString" (.ptr (.agg [.lit (.string text0)]))) :: m ++ (n1, .iface "*errors.errorString" (.ptr (.agg [.lit (.string text1)]))) :: r) W)
    (hg0 : Tryz.prog.globalNamed n0 = some g0) (ht0 : (Tryz.prog.globals[g0]?).map (·.type) = some 71) (hg1 : Tryz.prog.globalNamed n1 = some g1) (ht1 : (Tryz.prog.globals[g1]?).map (·.type) = some 71) :
    ∃ a0 a1, W.var? Tryz.prog n0 = some #[.iface 189 (.pointer (some a0))] ∧ W.var? Tryz.prog n1 = some #[.iface 189 (.pointer (some a1))] ∧ a0 ≠ a1 ∧ Rm.RowE W a0 ∧ Rm.RowE W a1 := by
  induction m with
  | nil =>
    obtain ⟨a0, a1, s0, s1, c0, c1, t0, t1, hv0, hv1, hc0, hs0, hz0, hc1, hs1, hz1, hne, hb0, hb1⟩ := laid_sentinels2 h hg0 ht0 hg1 ht1 Tryz.underlying71 rowE Tryz.underlying189 Tryz.underlying212 rfl rfl Tryz.underlying9 cellsE cellsS
    exact ⟨a0, a1, hv0, hv1, hne, ⟨c0, t0, hb0⟩, ⟨c1, t1, hb1⟩⟩
  | cons x m ih =>
    apply ih
    obtain ⟨nx, dx⟩ := x
    obtain ⟨ps, ⟨ga, ta, cs, fa, p, q, e1, e2, e3, e4, ⟨gb, tb, cb, fb, pb, qb, e5, e6, e7, e8, hq, rfl⟩, rfl⟩, hnd, hrows⟩ := h
    refine ⟨_, ⟨ga, ta, cs, fa, p, qb, e1, e2, e3, e4, hq, rfl⟩, ?_, ?_⟩
    · refine List.Nodup.sublist ?_ hnd
      exact List.Sublist.append (List.Sublist.refl _) (List.sublist_append_right _ _)
    · intro b off hm
      apply hrows b off
      rcases List.mem_append.1 hm with q | q
      · exact List.mem_append_left _ q
      · exact List.mem_append_right _ (List.mem_append_right _ q)

theorem five {W : World} {t0 t1 t2 t3 t4 : List UInt8} {r : List (String × DataW Unit)}
    (h : laidMet Tryz.prog (("loop.example/g00418/impl.errNoHand", .iface "*errors.errorString" (.ptr (.agg [.lit (.string t0)]))) :: ("loop.example/g00418/impl.errNoKnot", .iface "*errors.errorString" (.ptr (.agg [.lit (.string t1)]))) :: ("loop.example/g00418/impl.errThere", .iface "*errors.errorString" (.ptr (.agg [.lit (.string t2)]))) :: ("loop.example/g00418/impl.errOwn", .iface "*errors.errorString" (.ptr (.agg [.lit (.string t3)]))) :: ("loop.example/g00418/impl.errLoose", .iface "*errors.errorString" (.ptr (.agg [.lit (.string t4)]))) :: r) W) :
    ∃ a0 a1 a2 a3 a4, W.var? Tryz.prog "loop.example/g00418/impl.errNoHand" = some #[.iface 189 (.pointer (some a0))] ∧ W.var? Tryz.prog "loop.example/g00418/impl.errNoKnot" = some #[.iface 189 (.pointer (some a1))] ∧ W.var? Tryz.prog "loop.example/g00418/impl.errThere" = some #[.iface 189 (.pointer (some a2))] ∧ W.var? Tryz.prog "loop.example/g00418/impl.errOwn" = some #[.iface 189 (.pointer (some a3))] ∧ W.var? Tryz.prog "loop.example/g00418/impl.errLoose" = some #[.iface 189 (.pointer (some a4))] ∧ Rm.Sen W ⟨a0, a1, a2, a3, a4⟩ := by
  obtain ⟨a0, a1, v0, v1, n01, r0, r1⟩ := two (m := []) h gNoHand tNoHand gNoKnot tNoKnot
  obtain ⟨b0, a2, u0, v2, n02, _, r2⟩ := two (m := [_]) h gNoHand tNoHand gThere tThere
  obtain ⟨b0', a3, u0', v3, n03, _, r3⟩ := two (m := [_, _]) h gNoHand tNoHand gOwn tOwn
  obtain ⟨b0'', a4, u0'', v4, n04, _, r4⟩ := two (m := [_, _, _]) h gNoHand tNoHand gLoose tLoose
  obtain ⟨c1, c4, x1, x4, m1, _, _⟩ := two (m := [_, _]) h.tail gNoKnot tNoKnot gLoose tLoose
  obtain ⟨c2, c4', x2, x4', m2, _, _⟩ := two (m := [_]) h.tail.tail gThere tThere gLoose tLoose
  obtain ⟨c3, c4'', x3, x4'', m3, _, _⟩ := two (m := []) h.tail.tail.tail gOwn tOwn gLoose tLoose
  have inj : ∀ {n : String} {p q : Addr}, W.var? Tryz.prog n = some #[.iface 189 (.pointer (some p))] → W.var? Tryz.prog n = some #[.iface 189 (.pointer (some q))] → p = q := fun {n p q} e f => by
    rw [e] at f; simpa using f
  obtain rfl := inj v0 u0
  obtain rfl := inj v0 u0'
  obtain rfl := inj v0 u0''
  obtain rfl := inj v1 x1
  obtain rfl := inj v2 x2
  obtain rfl := inj v3 x3
  obtain rfl := inj v4 x4
  obtain rfl := inj v4 x4'
  obtain rfl := inj v4 x4''
  refine ⟨a0, a1, a2, a3, a4, v0, v1, v2, v3, v4, ⟨?_, ?_, ?_, ?_, ?_, r0, r1, r2, r3, r4, Ne.symm n01, Ne.symm n02, Ne.symm n03, Ne.symm n04, m1, m2, m3⟩⟩
  · simpa using World.var?_cell gNoHand v0 0
  · simpa using World.var?_cell gNoKnot v1 0
  · simpa using World.var?_cell gThere v2 0
  · simpa using World.var?_cell gOwn v3 0
  · simpa using World.var?_cell gLoose v4 0

/-- five named variables of an interface type, read as tokens -/
theorem read5 {H : Type} (enc : TypeId × Value → H) {P : Program} {W : World} {n0 n1 n2 n3 n4 : String} {g0 g1 g2 g3 g4 : Nat} {t0 t1 t2 t3 t4 : TypeId} {ms0 ms1 ms2 ms3 ms4 : Array (String × TypeId)} {x0 x1 x2 x3 x4 : Value}
    (hg0 : P.globalNamed n0 = some g0) (ht0 : (P.globals[g0]?).map (·.type) = some t0) (hi0 : P.underlying t0 = some (.interface ms0)) (h0 : W.var? P n0 = some #[x0]) (i0 : IsIface x0)
    (hg1 : P.globalNamed n1 = some g1) (ht1 : (P.globals[g1]?).map (·.type) = some t1) (hi1 : P.underlying t1 = some (.interface ms1)) (h1 : W.var? P n1 = some #[x1]) (i1 : IsIface x1)
    (hg2 : P.globalNamed n2 = some g2) (ht2 : (P.globals[g2]?).map (·.type) = some t2) (hi2 : P.underlying t2 = some (.interface ms2)) (h2 : W.var? P n2 = some #[x2]) (i2 : IsIface x2)
    (hg3 : P.globalNamed n3 = some g3) (ht3 : (P.globals[g3]?).map (·.type) = some t3) (hi3 : P.underlying t3 = some (.interface ms3)) (h3 : W.var? P n3 = some #[x3]) (i3 : IsIface x3)
    (hg4 : P.globalNamed n4 = some g4) (ht4 : (P.globals[g4]?).map (·.type) = some t4) (hi4 : P.underlying t4 = some (.interface ms4)) (h4 : W.var? P n4 = some #[x4]) (i4 : IsIface x4) (sp : Nat → Bool) :
    DataW.TrodVars enc P W sp [n0, n1, n2, n3, n4] [tok enc x0, tok enc x1, tok enc x2, tok enc x3, tok enc x4] [.cell g0 0, .cell g1 0, .cell g2 0, .cell g3 0, .cell g4 0] :=
  ⟨g0, t0, #[x0], 1, [], _, hg0, ht0, h0, trod_held hi0 i0 0, ⟨g1, t1, #[x1], 1, [], _, hg1, ht1, h1, trod_held hi1 i1 0, ⟨g2, t2, #[x2], 1, [], _, hg2, ht2, h2, trod_held hi2 i2 0, ⟨g3, t3, #[x3], 1, [], _, hg3, ht3, h3, trod_held hi3 i3 0, ⟨g4, t4, #[x4], 1, [], [], hg4, ht4, h4, trod_held hi4 i4 0, rfl, rfl⟩, rfl⟩, rfl⟩, rfl⟩, rfl⟩

end Ld
end Go.Proofs.YtfjmenhofllchaaGreatDoor

namespace Go.Proofs.YtfjmenhofllchaaGreatDoor
open Go.RowKit Go.ChangeShapes Go.WideShapes Go.ChangeAt
set_option maxRecDepth 100000
namespace Ld

theorem etG : Tryz.prog.globalNamed "errors.errorType" = some 8 := by kernel_rfl
theorem rtT : (Tryz.prog.cutTypes.find? (·.1 == "internal/reflectlite.rtype")).map (·.2) = some 167 := by kernel_rfl
theorem oneRow : ((List.range 224).filter fun t => Tryz.prog.rowNamed t [101, 114, 114, 111, 114]) = [71] := by kernel_rfl
theorem sizeT : Tryz.prog.types.size = 224 := by kernel_rfl
theorem handle {W : World} (h : handlesMet Tryz.prog [("errors.errorType", Rows.laid_errors_errorType)] W) : Er.HandleE W := by
  obtain ⟨name, u, ty, e1, e2, e3, e4, e5⟩ := h _ (List.mem_singleton.2 rfl)
  have en : name = [101, 114, 114, 111, 114] := (Option.some.inj e1).symm
  subst en
  obtain rfl := Option.some.inj (rtT.symm.trans e2)
  have hm : ty ∈ (List.range 224).filter fun t => Tryz.prog.rowNamed t [101, 114, 114, 111, 114] := List.mem_filter.2 ⟨List.mem_range.2 (by rw [← sizeT]; exact e3), e4⟩
  rw [oneRow] at hm
  obtain rfl := List.mem_singleton.1 hm
  have hh : typeHandle Tryz.prog 71 = .pointer (some ⟨9, 71, none⟩) := by kernel_rfl
  rw [hh] at e5
  have q := World.var?_cell etG e5 0
  unfold Er.HandleE
  simpa using q

end Ld
end Go.Proofs.YtfjmenhofllchaaGreatDoor

namespace Go.Proofs.YtfjmenhofllchaaGreatDoor.fnLearns
open Go.ChangeShapes Go.WideShapes Go.ChangeAt Go.RowKit
set_option linter.unusedVariables false
set_option maxRecDepth 100000

theorem own : ownKnob Tryz.prog.godebug = none := by kernel_rfl
theorem laidOut : laidOutB Tryz.prog = true := by kernel_rfl

/-- what is told of a slice of integers that came in: it is nil, or it leads to a row of cells that hold these -/
def IsRow (k : IntKind) (w : World) (a : Option Addr) (len cap : Nat) (zs : List Int) : Prop :=
  (a = none ∧ len = 0 ∧ cap = 0 ∧ zs = []) ∨
  ∃ x, a = some x ∧ len ≤ cap ∧ cap ≤ maxLen ∧ zs.length = cap ∧ (∀ i, i < zs.length → w.cell? (x.add i) = some (.int k (zs.getD i 0))) ∧ ∀ n ∈ zs, (Lit.int k n).wf = true

theorem code_of {w : World} {a : Option Addr} {len cap : Nat} {zs : List Int} (h : IsRow .u8 w a len cap zs) : Cur.Code w a len := by
  rcases h with ⟨_, h, _, _⟩ | ⟨x, rfl, hl, _, hz, hcell, hwz⟩
  · exact .inl h
  · by_cases h0 : len = 0
    · exact .inl h0
    · obtain ⟨b, off, spot⟩ := x
      have hc := hcell 0 (by omega)
      have hspot : spot = none := by simpa [Addr.add] using World.cell?_spot hc
      subst hspot
      refine .inr ⟨b, off, rfl, ?_, fun j hj => ?_⟩
      · have := block_lt_of_cell hc; simpa [Addr.add] using this
      · have hcj := hcell j (by omega)
        have hj' : j < zs.length := by omega
        have hw := hwz (zs.getD j 0) (by simp [List.getD, List.getElem?_eq_getElem hj'])
        refine ⟨zs.getD j 0, ?_, ?_⟩
        · by_cases hj0 : j = 0
          · subst hj0; simpa [Addr.add] using hcj
          · simpa [Addr.add, hj0] using hcj
        simpa [Lit.wf, IntKind.min, IntKind.max, IntKind.signed, IntKind.bits] using hw

/-- the heap that the program's own initialisers leave meets the condition -/
theorem door_met (os : Os) (args : Array Value) : laidMetH Tryz.prog Rows.fnLearnsRow.laid ((World.doorLaid Tryz.prog 400 os).forCall (fun _ _ => 0) ⟨#[], args, []⟩).memory :=
  laidMetH_of_parts3 (fuel := 8) (laidMet_of_run' 8 (by kernel_rfl) (by kernel_rfl)) (by kernel_rfl) (by kernel_rfl)

theorem lifted (os : Os) (started : os.Started) (H : Type) (enc : TypeId × Value → H) :
    ReturnsInHanded {} Tryz.checked os 3 .any (fun w args => (Rows.fnLearnsSpec.pre enc Tryz.prog Tryz.f3 [] false w args ∧ laidMetH Tryz.prog Rows.fnLearnsRow.laid w) ∧ sizedMet enc Tryz.prog Tryz.f3 (OpenSpec.ofChange Rows.fnLearnsSpec) false w args) (Rows.fnLearnsSpec.post enc Tryz.prog Tryz.f3 false true false false) := by
  refine Ld.wrap (C := Tryz.checked) (X := fun w => laidMetH Tryz.prog Rows.fnLearnsRow.laid w) (fun _ _ hh h => h.of_heap hh) own started (by kernel_rfl) Tryz.func3
    (ChangeSpec.witness_shaped (enc := enc) (C := Tryz.checked) (os := os) (X := fun w _ => laidMetH Tryz.prog Rows.fnLearnsRow.laid w) false (World.doorLaid Tryz.prog 400 os) #[.slice none 0 0] 8 rfl (World.shaped_of_RefB (by kernel_rfl) (by kernel_rfl)) (by kernel_rfl) (by kernel_rfl) (by kernel_rfl) (door_met os _)) ?_
  intro W base args ds gs before hval0 hW hL hsh
  have hval : ∀ (j : Nat) t v, Tryz.f3.params[j]? = some t → args[j]? = some v → Value.okWide Tryz.prog W .any base t v := hval0
  have hW' := hW
  obtain ⟨p, q, hA0, hV0, rfl, hfz, hnd⟩ := hW
  have hA : DataW.TrodAll enc Tryz.prog W 0 (fun _ => true) true Tryz.f3.params.toList args.toList ds p := hA0
  have hV : DataW.TrodVars enc Tryz.prog W (fun _ => true) ["loop.example/g00418/impl.errNoHand", "loop.example/g00418/impl.errNoKnot", "loop.example/g00418/impl.errThere", "loop.example/g00418/impl.errLoose", "loop.example/g00418/impl.errOwn"] gs q := hV0
  rw [Tryz.params3] at hA hval
  obtain ⟨v0, vs0, d0, ds0, p0, q0, hargs, rfl, rfl, h0, r0⟩ := trodAll_cons hA
  obtain ⟨rfl, rfl, rfl⟩ := trodAll_nil r0
  obtain rfl : args = #[v0] := by cases args; simp_all
  have hLm : laidMet Tryz.prog [("loop.example/g00418/impl.errNoHand", Rows.laid_loop_example_g00418_impl_errNoHand), ("loop.example/g00418/impl.errNoKnot", Rows.laid_loop_example_g00418_impl_errNoKnot), ("loop.example/g00418/impl.errThere", Rows.laid_loop_example_g00418_impl_errThere), ("loop.example/g00418/impl.errOwn", Rows.laid_loop_example_g00418_impl_errOwn), ("loop.example/g00418/impl.errLoose", Rows.laid_loop_example_g00418_impl_errLoose)] W ∧ handlesMet Tryz.prog [("errors.errorType", Rows.laid_errors_errorType)] W := hL
  obtain ⟨aerrNoHand, aerrNoKnot, aerrThere, aerrOwn, aerrLoose, verrNoHand, verrNoKnot, verrThere, verrOwn, verrLoose, hsn⟩ := Ld.five hLm.1
  have hnn : Rm.SensA W := ⟨_, hsn, Ld.handle hLm.2⟩
  have vr : ∀ {X : World}, X.var? Tryz.prog "loop.example/g00418/impl.errNoHand" = some #[.iface 189 (.pointer (some aerrNoHand))] → X.var? Tryz.prog "loop.example/g00418/impl.errNoKnot" = some #[.iface 189 (.pointer (some aerrNoKnot))] → X.var? Tryz.prog "loop.example/g00418/impl.errThere" = some #[.iface 189 (.pointer (some aerrThere))] → X.var? Tryz.prog "loop.example/g00418/impl.errLoose" = some #[.iface 189 (.pointer (some aerrLoose))] → X.var? Tryz.prog "loop.example/g00418/impl.errOwn" = some #[.iface 189 (.pointer (some aerrOwn))] → ∀ sp : Nat → Bool, DataW.TrodVars enc Tryz.prog X sp ["loop.example/g00418/impl.errNoHand", "loop.example/g00418/impl.errNoKnot", "loop.example/g00418/impl.errThere", "loop.example/g00418/impl.errLoose", "loop.example/g00418/impl.errOwn"] [tok enc (.iface 189 (.pointer (some aerrNoHand))), tok enc (.iface 189 (.pointer (some aerrNoKnot))), tok enc (.iface 189 (.pointer (some aerrThere))), tok enc (.iface 189 (.pointer (some aerrLoose))), tok enc (.iface 189 (.pointer (some aerrOwn)))] [.cell 0 0, .cell 1 0, .cell 2 0, .cell 3 0, .cell 4 0] :=
    fun {X} xerrNoHand xerrNoKnot xerrThere xerrLoose xerrOwn sp => Ld.read5 enc Ld.gNoHand Ld.tNoHand Tryz.underlying71 xerrNoHand trivial Ld.gNoKnot Ld.tNoKnot Tryz.underlying71 xerrNoKnot trivial Ld.gThere Ld.tThere Tryz.underlying71 xerrThere trivial Ld.gLoose Ld.tLoose Tryz.underlying71 xerrLoose trivial Ld.gOwn Ld.tOwn Tryz.underlying71 xerrOwn trivial sp
  obtain ⟨rfl, rfl⟩ := hV.unique (vr verrNoHand verrNoKnot verrThere verrLoose verrOwn _)
  obtain ⟨a0, len0, cap0, rfl⟩ := okWide_slice Tryz.underlying22 (hval 0 22 v0 rfl rfl)
  have k0 := h0
  have lt0 : ∀ x ∈ p0, x.block < W.heap.size := by obtain ⟨m, hm⟩ := k0; exact DataW.trod_lt m _ _ _ hm
  obtain ⟨z0, w0⟩ : ∃ zs, IsRow .u8 W a0 len0 cap0 zs := by
    obtain ⟨fuel, hf⟩ := h0
    rcases open_ints Tryz.underlying22 Tryz.underlying5 (by kernel_rfl) hf with ⟨hcs, _⟩ | ⟨x, l, c, zs, hcs, _, hl, hm, hz, _, hcell, hwz⟩
    · simp [Value.cells] at hcs
      obtain ⟨rfl, rfl, rfl⟩ := hcs
      exact ⟨[], .inl ⟨rfl, rfl, rfl, rfl⟩⟩
    · simp [Value.cells] at hcs
      obtain ⟨rfl, rfl, rfl⟩ := hcs
      exact ⟨zs, .inr ⟨_, rfl, hl, hm, by simpa using hz, hcell, hwz⟩⟩
  clear hA0 hV0 hval0
  refine (Rm.learnsWalk (fun g cap L h k w hL hc hk => by obtain ⟨a, hn⟩ := hL.no; exact Rm.implLearns g 0 cap L h k a w (by have := hL.ls.len; omega) hL.words hk hL.rd hn.1) (fun g cap L h k w hL hc hk => by obtain ⟨a, hn⟩ := hL.no; exact Rm.implLearnsAll g 0 cap L h k a w (by have := hL.ls.len; omega) hL.words hk hL.rd hn) (fun g cap L h w hL hc hk => by obtain ⟨a, hn⟩ := hL.no; exact Rm.implHandOk g 0 cap L h a w (by have := hL.ls.len; omega) hL.words hk hL.rd hn) Rm.drawsRoom Rm.drawsRoomC a0 len0 cap0 W (code_of w0) hnn).mono fun e W' ⟨he, bel⟩ => ?_
  subst he
  exact ⟨_, rfl, _, _, _, [], _, [.cell 0 0, .cell 1 0, .cell 2 0, .cell 3 0, .cell 4 0], hW', trodAll_mk1 (shut_bool Tryz.underlying4 _), (trodAll_cons_mk (Below.trod laidOut (by kernel_rfl) (of_decide_eq_true (by kernel_rfl)) k0 bel lt0) trodAll_mk0), vr (Ld.var_below Ld.gNoHand bel verrNoHand) (Ld.var_below Ld.gNoKnot bel verrNoKnot) (Ld.var_below Ld.gThere bel verrThere) (Ld.var_below Ld.gLoose bel verrLoose) (Ld.var_below Ld.gOwn bel verrOwn) _, bel.frame _, fun h => by cases h⟩

theorem over : Rows.fnLearnsRow.holds Tryz.pinned (OpenSpec.ofChange Rows.fnLearnsSpec) :=
  OpenClaim.holds_of_wide 3 Tryz.f3 rfl rfl rfl rfl rfl rfl rfl ⟨rfl, rfl, rfl, rfl, rfl⟩ rfl rfl rfl rfl rfl (by kernel_rfl) Tryz.func3 (by kernel_rfl)
    (of_decide_eq_true (by kernel_rfl)) (by unfold Func.isWrapper; first | (rw [if_pos (by decide +kernel)]; kernel_rfl) | (rw [if_neg (by decide +kernel)]; exact ⟨rfl, rfl⟩))
    (fun os started H enc _ => lifted os started H enc)

theorem proved : Rows.FnLearnsCardSaid :=
  Claim7.holds_tied_plain_at .later [] [.handle, .sentinel, .sentinel, .sentinel, .sentinel, .sentinel] true (true, "7cf24c4e7b817c2e8046c94fa8618beadb49cdb2469f18f92eb9246087272fce") true
    over (fun _ h => by cases h) (by kernel_rfl) (fun _ h => by cases h) fnLearns_row_tie rfl ⟨rfl, rfl⟩ (by kernel_rfl) rfl
    (fun f fn hf hfn => by
      obtain rfl : f = 3 := Option.some.inj ((show Tryz.prog.funcNamed "loop.example/g00418/laws.FnLearns" = some 3 by kernel_rfl).symm.trans hf) |>.symm
      obtain rfl : fn = Tryz.f3 := (Option.some.inj (Tryz.func3.symm.trans hfn)).symm
      exact ⟨by kernel_rfl, fun j t ht => by
        rw [Tryz.params3] at ht
        have hm : t ∈ [22] := by simpa using Array.mem_of_getElem? ht
        have hall : ([22].all fun u => !Tryz.prog.wantsStandIn u) = true := by kernel_rfl
        exact (show Tryz.prog.wantsStandIn t = false by simpa using List.all_eq_true.1 hall t hm)⟩)
    (by kernel_rfl)
end Go.Proofs.YtfjmenhofllchaaGreatDoor.fnLearns
