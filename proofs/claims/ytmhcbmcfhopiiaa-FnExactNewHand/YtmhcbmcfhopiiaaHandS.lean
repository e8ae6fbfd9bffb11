/-
  What the model's HandOk, NewHand, Learns, LearnsAll, Keeps and Forgets answer; for lists of knots whose words have at most 2^40 bytes.
-/
import Derived.Test.YtmhcbmcfhopiiaaRoomB
import Derived.Test.YtmhcbmcfhopiiaaRoomF
import Derived.Test.YtmhcbmcfhopiiaaSightT
import Derived.Test.YtmhcbmcfhopiiaaDoubS
namespace Go.Proofs.Ytmhcbmcfhopiiaa
open Go.RowKit
set_option maxRecDepth 100000
set_option linter.unusedVariables false
namespace Rm
open Kn (K okK)
open Bit (bit withB)
open Lc (at' RdK laceB WordsOk)
open Sg (bel belows closedTo)

/-- is it a hand of the lace? -/
def hokB (L : List K) (h : Hd) : Bool :=
  Kn.in3 h.who && (decide (0 ≤ h.has) && (decide (0 ≤ h.kept) && (decide (h.has / 2 ^ L.length = 0) && ((bits .andNot .i64 h.kept h.has == 0) && (decide (lastTo L h.who (bits .andNot .i64 h.has h.kept) L.length < 0) &&
    (closedTo (belows L L.length) h.has L.length && (closedTo (belows L L.length) h.kept L.length && (h.last == lastTo L h.who h.kept L.length))))))))
/-- the document's HandOk -/
def handOkB (L : List K) (h : Hd) : Bool := laceB L && hokB L h
/-- a hand of numbers that fit -/
structure H64 (h : Hd) : Prop where
  h0 : -9223372036854775808 ≤ h.has
  h1 : h.has ≤ 9223372036854775807
  k0 : -9223372036854775808 ≤ h.kept
  k1 : h.kept ≤ 9223372036854775807

theorem and_sub {a b : Int} (ha : 0 ≤ a) (hb0 : 0 ≤ b) (hb1 : b < 1152921504606846976) (ha1 : a ≤ 9223372036854775807) (h : (bits .andNot .i64 a b == 0) = true) : a < 1152921504606846976 := by
  have hs := (Sg.andNot_sub a b ha (by omega) hb0 (by omega)).1 h
  have hd : a / 2 ^ 60 = 0 := Lc.div_of_bits a 60 ha fun i hi => by
    rw [Bool.eq_false_iff]
    intro hbit
    have h2 := hs i hbit
    have hd2 : b / 2 ^ 60 = 0 := Int.ediv_eq_zero_of_lt hb0 (by simpa using hb1)
    have := Bit.bit_up b 60 (i - 60) hd2
    rw [show 60 + (i - 60) = i by omega, h2] at this
    exact Bool.noConfusion this
  have h3 := Int.emod_lt_of_pos a (show (0 : Int) < 2 ^ 60 by decide)
  have h4 := Int.emod_add_mul_ediv a (2 ^ 60)
  rw [hd, Int.mul_zero, Int.add_zero] at h4
  rw [h4] at h3
  simpa using h3
theorem div_lt60 {s : Int} {n : Nat} (h0 : 0 ≤ s) (hd : s / 2 ^ n = 0) (hn : n ≤ 60) : s < 1152921504606846976 := by
  have := Bit.div_zero_up s n (60 - n) hd
  rw [show n + (60 - n) = 60 by omega] at this
  omega

theorem hat_drewN2 {w : World} {g o : Nat} {h : Hd} (x : HAt w g o h) (n : Nat) : HAt (w.drewN n) g o h := ⟨x.lt, x.c0, x.c1, x.c2, x.c3, x.f0, x.f1, x.f2, x.f3⟩

end Rm
end Go.Proofs.Ytmhcbmcfhopiiaa
