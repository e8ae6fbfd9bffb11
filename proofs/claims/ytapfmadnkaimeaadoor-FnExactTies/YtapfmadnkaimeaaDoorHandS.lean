/-
  What the model's HandOk, NewHand, Learns, LearnsAll, Keeps and Forgets answer; for lists of knots whose words have at most 2^40 bytes.
-/
import Derived.Test.YtapfmadnkaimeaaDoorRoomB
import Derived.Test.YtapfmadnkaimeaaDoorRoomF
import Derived.Test.YtapfmadnkaimeaaDoorSightT
import Derived.Test.YtapfmadnkaimeaaDoorDoubS
namespace Go.Proofs.YtapfmadnkaimeaaDoor
open Go.RowKit
set_option maxRecDepth 100000
set_option linter.unusedVariables false
namespace Rm
open Kn (K okK)
open Bit (bit withB)
open Lc (at' RdK laceB WordsOk)
open Sg (bel belows closedTo)

/-- is it a hand of the lace? -/
def hokB (L : List K) (h : Hd) : Bool :=
  Kn.in3 h.who && (decide (0 ≤ h.has) && (decide (0 ≤ h.kept) && (decide (h.has / 2 ^ L.length = 0) && ((bits .andNot .i64 h.kept h.has == 0) && (decide (lastTo L h.who (bits .andNot .i64 h.has h.kept) L.length < 0) &&
    (closedTo (belows L L.length) h.has L.length && (closedTo (belows L L.length) h.kept L.length && (h.last == lastTo L h.who h.kept L.length))))))))
/-- the document's HandOk -/
def handOkB (L : List K) (h : Hd) : Bool := laceB L && hokB L h
/-- a hand of numbers that fit -/
structure H64 (h : Hd) : Prop where
  h0 : -9223372036854775808 ≤ h.has
  h1 : h.has ≤ 9223372036854775807
  k0 : -9223372036854775808 ≤ h.kept
  k1 : h.kept ≤ 9223372036854775807

theorem and_sub {a b : Int} (ha : 0 ≤ a) (hb0 : 0 ≤ b) (hb1 : b < 1152921504606846976) (ha1 : a ≤ 9223372036854775807) (h : (bits .andNot .i64 a b == 0) = true) : a < 1152921504606846976 := by
  have hs := (Sg.andNot_sub a b ha (by omega) hb0 (by omega)).1 h
  have hd : a / 2 ^ 60 = 0 := Lc.div_of_bits a 60 ha fun i hi => by
    rw [Bool.eq_false_iff]
    intro hbit
    have h2 := hs i hbit
    have hd2 : b / 2 ^ 60 = 0 := Int.ediv_eq_zero_of_lt hb0 (by simpa using hb1)
    have := Bit.bit_up b 60 (i - 60) hd2
    rw [show 60 + (i - 60) = i by omega, h2] at this
    exact Bool.noConfusion this
  have h3 := Int.emod_lt_of_pos a (show (0 : Int) < 2 ^ 60 by decide)
  have h4 := Int.emod_add_mul_ediv a (2 ^ 60)
  rw [hd, Int.mul_zero, Int.add_zero] at h4
  rw [h4] at h3
  simpa using h3
theorem div_lt60 {s : Int} {n : Nat} (h0 : 0 ≤ s) (hd : s / 2 ^ n = 0) (hn : n ≤ 60) : s < 1152921504606846976 := by
  have := Bit.div_zero_up s n (60 - n) hd
  rw [show n + (60 - n) = 60 by omega] at this
  omega

theorem hat_drewN2 {w : World} {g o : Nat} {h : Hd} (x : HAt w g o h) (n : Nat) : HAt (w.drewN n) g o h := ⟨x.lt, x.c0, x.c1, x.c2, x.c3, x.f0, x.f1, x.f2, x.f3⟩

theorem l4ClosedB (bo : Option Addr) (bc : Nat) (L : List K) (s : Int) (w : World) (hl : L.length ≤ 60) (h0 : 0 ≤ s) (h1 : s < 1152921504606846976) (hrd : Lst.Rd w bo (belows L L.length)) :
    Calls Tryd.prog 86 #[.slice bo L.length bc, .int .i64 s] w fun e w' => e = .returned (.bool (closedTo (belows L L.length) s L.length)) ∧ w = w' := by
  have := Sg.l4Closed bo bc (belows L L.length) s w (by rw [Sg.belows_len]; exact hl) h0 h1 hrd
  rw [Sg.belows_len] at this
  exact this

set_option maxHeartbeats 3200000 in
theorem l13Ok (ao : Option Addr) (cap : Nat) (L : List K) (bo : Option Addr) (bc : Nat) (h : Hd) (w : World) (hl : laceB L = true) (hr : RdK w ao L) (hrd : Lst.Rd w bo (belows L L.length)) (hbo : ∀ c, bo = some ⟨c, 0, none⟩ → c < w.heap.size) (hk : H64 h) :
    Calls Tryd.prog 54 #[.slice ao L.length cap, .slice bo L.length bc, .agg #[.int .i64 h.who, .int .i64 h.has, .int .i64 h.kept, .int .i64 h.last]] w fun e w' => e = .returned (.bool (hokB L h)) ∧ Below w.heap.size w w' := by
  have h60 := ((Lc.lace_iff L).1 hl).1
  obtain ⟨_, _, hk0, hk1⟩ := hk
  obtain ⟨who, has, kept, last⟩ := h
  dsimp only at hk0 hk1 ⊢
  have HD : Hid (hokB L ⟨who, has, kept, last⟩ = (Kn.in3 who && (decide (0 ≤ has) && (decide (0 ≤ kept) && (decide (has / 2 ^ L.length = 0) && ((bits .andNot .i64 kept has == 0) && (decide (lastTo L who (bits .andNot .i64 has kept) L.length < 0) &&
    (closedTo (belows L L.length) has L.length && (closedTo (belows L L.length) kept L.length && (last == lastTo L who kept L.length)))))))))) := rfl
  have HR : Hid (∀ W : World, Below w.heap.size w W → RdK W ao L ∧ Lst.Rd W bo (belows L L.length)) := fun W hW => ⟨hr.below hW, by
    rcases hrd with e | ⟨g, e, hc⟩
    · exact .inl e
    · exact .inr ⟨g, e, fun j hj => (hW.cell (p := ⟨g, j, none⟩) (hbo g e)).trans (hc j hj)⟩⟩
  have P0 : Hid (Below w.heap.size w (w.alloc (.cells #[.int .i64 who, .int .i64 has, .int .i64 kept, .int .i64 last] 26)) ∧ HAt (w.alloc (.cells #[.int .i64 who, .int .i64 has, .int .i64 kept, .int .i64 last] 26)) w.heap.size 0 ⟨who, has, kept, last⟩) := ⟨(Below.refl _ _).alloc (Nat.le_refl _) _, hat_new w ⟨who, has, kept, last⟩ _⟩
  clear hr hrd hbo hl
  cases h1 : Kn.in3 who
  · have H1 : Hid (Kn.in3 who = false) := h1
    have HT : Hid (hokB L ⟨who, has, kept, last⟩ = false) := by show _ = _; rw [HD.out]; rw [h1]; rfl
    clear HD HR h1
    go_enter Tryd.func54, Tryd.ntmps54
    go_wp2_with (first | (go_at_call 85; refine (Kn.l1In3 _ _).mono ?_; rintro e w' ⟨rfl, rfl⟩; rw [H1.out]) | fail)
    go_ret
    exact ⟨by rw [HT.out]; rfl, P0.out.1⟩
  have H1 : Hid (Kn.in3 who = true) := h1
  by_cases h2 : 0 ≤ has
  rotate_left
  · have h2' : has < 0 := by omega
    have HT : Hid (hokB L ⟨who, has, kept, last⟩ = false) := by show _ = _; rw [HD.out]; rw [decide_eq_false h2]; simp
    clear HD HR h1 h2
    go_enter Tryd.func54, Tryd.ntmps54
    go_wp2_with (first | (go_at_call 85; refine (Kn.l1In3 _ _).mono ?_; rintro e w' ⟨rfl, rfl⟩; rw [H1.out]) | fail)
    go_ret
    exact ⟨by rw [HT.out]; rfl, P0.out.1⟩
  by_cases h3 : 0 ≤ kept
  rotate_left
  · have h2' : ¬ has < 0 := by omega
    have h3' : kept < 0 := by omega
    have HT : Hid (hokB L ⟨who, has, kept, last⟩ = false) := by show _ = _; rw [HD.out]; rw [decide_eq_false h3]; simp
    clear HD HR h1 h2 h3
    go_enter Tryd.func54, Tryd.ntmps54
    go_wp2_with (first | (go_at_call 85; refine (Kn.l1In3 _ _).mono ?_; rintro e w' ⟨rfl, rfl⟩; rw [H1.out]) | fail)
    go_ret
    exact ⟨by rw [HT.out]; rfl, P0.out.1⟩
  by_cases h4 : has / 2 ^ L.length = 0
  rotate_left
  · have h2' : ¬ has < 0 := by omega
    have h3' : ¬ kept < 0 := by omega
    have h4' : (has / 2 ^ L.length == 0) = false := by simpa using h4
    have h4n : (has / 2 ^ L.length != 0) = true := by simpa using h4
    have HT : Hid (hokB L ⟨who, has, kept, last⟩ = false) := by show _ = _; rw [HD.out]; rw [decide_eq_false h4]; simp
    clear HD HR h1 h3 h4
    go_enter Tryd.func54, Tryd.ntmps54
    go_wp2_with (first | (go_at_call 85; refine (Kn.l1In3 _ _).mono ?_; rintro e w' ⟨rfl, rfl⟩; rw [H1.out]) | fail)
    go_ret
    exact ⟨by rw [HT.out]; rfl, P0.out.1⟩
  have hb := div_lt60 h2 h4 h60
  have h4' : (has / 2 ^ L.length != 0) = false := by simpa using h4
  cases h5 : (bits .andNot .i64 kept has == 0)
  · have h2' : ¬ has < 0 := by omega
    have h3' : ¬ kept < 0 := by omega
    have h5' : (bits .andNot .i64 kept has != 0) = true := by unfold bne; rw [h5]; rfl
    have HT : Hid (hokB L ⟨who, has, kept, last⟩ = false) := by show _ = _; rw [HD.out]; rw [h5]; simp
    clear HD HR h1 h3 h4 h5
    go_enter Tryd.func54, Tryd.ntmps54
    go_wp2_with (first | (go_at_call 85; refine (Kn.l1In3 _ _).mono ?_; rintro e w' ⟨rfl, rfl⟩; rw [H1.out]) | fail)
    go_ret
    exact ⟨by rw [HT.out]; rfl, P0.out.1⟩
  have hkb := and_sub h3 h2 hb hk1 h5
  have hab := andNot_bd has kept h2 hb
  have h5' : (bits .andNot .i64 kept has != 0) = false := by unfold bne; rw [h5]; rfl
  have HL6 : Hid (∀ W : World, Below w.heap.size w W → Calls Tryd.prog 57 #[.slice ao L.length cap, .int .i64 who, .int .i64 (bits .andNot .i64 has kept)] W fun e w' => e = .returned (.int .i64 (lastTo L who (bits .andNot .i64 has kept) L.length)) ∧ ∃ n, w' = W.drewN n) := fun W hW => l13Last ao cap L who _ W h60 (HR.out W hW).1 hab.1 hab.2
  have HL7 : Hid (∀ W : World, Below w.heap.size w W → Calls Tryd.prog 57 #[.slice ao L.length cap, .int .i64 who, .int .i64 kept] W fun e w' => e = .returned (.int .i64 (lastTo L who kept L.length)) ∧ ∃ n, w' = W.drewN n) := fun W hW => l13Last ao cap L who _ W h60 (HR.out W hW).1 h3 hkb
  have HC1 : Hid (∀ W : World, Below w.heap.size w W → Calls Tryd.prog 86 #[.slice bo L.length bc, .int .i64 has] W fun e w' => e = .returned (.bool (closedTo (belows L L.length) has L.length)) ∧ W = w') := fun W hW => l4ClosedB bo bc L has W h60 h2 hb (HR.out W hW).2
  have HC2 : Hid (∀ W : World, Below w.heap.size w W → Calls Tryd.prog 86 #[.slice bo L.length bc, .int .i64 kept] W fun e w' => e = .returned (.bool (closedTo (belows L L.length) kept L.length)) ∧ W = w') := fun W hW => l4ClosedB bo bc L kept W h60 h3 hkb (HR.out W hW).2
  have HD2 : Hid (hokB L ⟨who, has, kept, last⟩ = (decide (lastTo L who (bits .andNot .i64 has kept) L.length < 0) && (closedTo (belows L L.length) has L.length && (closedTo (belows L L.length) kept L.length && (last == lastTo L who kept L.length))))) := by
    show _ = _
    rw [HD.out, h1, h5, decide_eq_true h2, decide_eq_true h3, decide_eq_true h4]; rfl
  have h2' : ¬ has < 0 := by omega
  have h3' : ¬ kept < 0 := by omega
  clear HD HR h1 h3 h4 h5 hab
  generalize lastTo L who (bits .andNot .i64 has kept) L.length = la at HL6 HD2
  generalize lastTo L who kept L.length = lk at HL7 HD2
  generalize closedTo (belows L L.length) has L.length = c1 at HC1 HD2
  generalize closedTo (belows L L.length) kept L.length = c2 at HC2 HD2
  go_enter Tryd.func54, Tryd.ntmps54
  go_wp2_with (first | (go_at_call 85; refine (Kn.l1In3 _ _).mono ?_; rintro e w' ⟨rfl, rfl⟩; rw [H1.out]) | fail)
  refine (HL6.out _ P0.out.1).mono ?_
  rintro e W6 ⟨rfl, n6, hW6⟩
  have P6 : Hid (Below w.heap.size w W6 ∧ HAt W6 w.heap.size 0 ⟨who, has, kept, last⟩) := hW6 ▸ ⟨Lc.below_drewN' P0.out.1 _, hat_drewN2 P0.out.2 _⟩
  clear hW6 P0 HL6
  by_cases h6 : la < 0
  rotate_left
  · have h6' : 0 ≤ la := by omega
    have HT : Hid (hokB L ⟨who, has, kept, last⟩ = false) := by show _ = _; rw [HD2.out, decide_eq_false h6]; rfl
    clear HD2 HC1 HC2 HL7
    go_wp2
    go_ret
    exact ⟨by rw [HT.out]; rfl, P6.out.1⟩
  have h6' : ¬ 0 ≤ la := by omega
  have HD3 : Hid (hokB L ⟨who, has, kept, last⟩ = (c1 && (c2 && (last == lk)))) := by show _ = _; rw [HD2.out, decide_eq_true h6]; rfl
  clear HD2
  go_wp2_with fail
  obtain ⟨_, a0, a1, a2, a3, _, _, _, _⟩ := P6.out.2
  dsimp only at a0 a1 a2 a3
  simp only [Nat.zero_add] at a1 a2 a3
  cases c1
  · go_quiet (first
      | (go_at_call 86; exact (HC1.out _ (Lc.below_drewN' P6.out.1 _)).mono fun _ _ h => ⟨h.1, _, h.2.symm⟩))
    go_wp2
    go_ret
    exact ⟨by rw [HD3.out]; rfl, Lc.below_drewN' P6.out.1 _⟩
  · have HCC : Hid (∀ (W : World) (s : Int) (b : Bool), Below w.heap.size w W → ((s = has ∧ b = true) ∨ (s = kept ∧ b = c2)) → Calls Tryd.prog 86 #[.slice bo L.length bc, .int .i64 s] W fun e w' => e = .returned (.bool b) ∧ W = w') := fun W s b hW h => by
      rcases h with ⟨rfl, rfl⟩ | ⟨rfl, rfl⟩
      · exact HC1.out W hW
      · exact HC2.out W hW
    clear HC1 HC2
    cases c2
    · go_quiet (first
        | (go_at_call 86; exact (HCC.out _ _ _ (Lc.below_drewN' P6.out.1 _) (by first | exact .inl ⟨rfl, rfl⟩ | exact .inr ⟨rfl, rfl⟩)).mono fun _ _ h => ⟨h.1, _, h.2.symm⟩))
      go_wp2
      go_ret
      exact ⟨by rw [HD3.out]; rfl, Lc.below_drewN' P6.out.1 _⟩
    · go_quiet (first
        | (go_at_call 86; exact (HCC.out _ _ _ (Lc.below_drewN' P6.out.1 _) (by first | exact .inl ⟨rfl, rfl⟩ | exact .inr ⟨rfl, rfl⟩)).mono fun _ _ h => ⟨h.1, _, h.2.symm⟩)
        | (go_at_call 57; exact (HL7.out _ (Lc.below_drewN' P6.out.1 _)).mono fun _ _ h => ⟨h.1, h.2.elim fun _ hm => ⟨_, hm.trans (World.drewN_drewN ..)⟩⟩))
      go_wp2
      go_ret
      exact ⟨by rw [HD3.out]; rfl, Lc.below_drewN' P6.out.1 _⟩

end Rm
end Go.Proofs.YtapfmadnkaimeaaDoor
