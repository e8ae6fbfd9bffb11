/-
  Plain mathematics of hands: what is kept, forgotten or learned leaves a right hand right. No program in it.
  What the model's FirmOnes answers: those of a closed set that are firm; for coins of at most a million numbers and lists of knots whose words have at most 2^40 bytes.
  What the model's Earlier, ChainOf and OnChain answer: from leader to leader; for coins of at most a million numbers and lists of knots whose words have at most 2^40 bytes.
  What the model's drawings for the laws on the firm ones and on chains hand back, where the drawing of a room keeps its word.
  What the model's HandOk, NewHand, Learns, LearnsAll, Keeps and Forgets answer; for lists of knots whose words have at most 2^40 bytes.
  What the model's HandOk, NewHand, Learns, LearnsAll, Keeps and Forgets answer; for lists of knots whose words have at most 2^40 bytes.
  What the model's Forgets and NextRound answer; for lists of knots whose words have at most 2^40 bytes.
  What the model's drawing of a hand's own lace hands back, where the drawing of a room keeps its word.
  What the model's drawings for the laws on hands hand back, where the drawing of a room keeps its word.
  What the model's drawing for the law on learning hands back, where the drawing of a room keeps its word.
-/
import Derived.Test.YtfjmenhofllchaaGreatDoorHdZa
import Derived.Test.YtfjmenhofllchaaGreatDoorFam
import Derived.Test.YtfjmenhofllchaaGreatDoorRoomXm
import Derived.Test.YtfjmenhofllchaaGreatDoorRoomB
import Derived.Test.YtfjmenhofllchaaGreatDoorRoomF
import Derived.Test.YtfjmenhofllchaaGreatDoorDoubS
import Derived.Deep.RegionHeld3
namespace Go.Proofs.YtfjmenhofllchaaGreatDoor
open Go.RowKit
set_option maxRecDepth 100000
namespace Fm
open Kn (K okK)
open Bit (bit withB)
open Lc (at' RdK WordsOk laceB setB handsN roundS)
open Sg (isB bel belows closedB NumsPost)
open Db (RowI)
open Sl (sealS sealN)
open Ch (leadK firmN sealAt)
open Rm (coinsB)
open Tl (firmL)

theorem row_below {base : Nat} {e : TypeId} {size : Nat} {w w' : World} {v : Value} {n : Nat} {xs : List Value} (h : w.ownsRow base e size v n xs) (hb : Below w.heap.size w w') : w'.ownsRow base e size v n xs := by
  have hlt := World.ownsRow.lt h
  obtain ⟨h1, h2⟩ := h
  refine ⟨h1, ?_⟩
  rcases h2 with h2 | ⟨g, cap, cur, rfl, hB, hg, rest⟩
  · exact .inl h2
  · exact .inr ⟨g, cap, cur, rfl, hB, (hb.block g (hlt g rfl).2).trans hg, rest⟩

/-- what the document's FirmOnes answers -/
def firmI (L : List K) (C : List Int) (s : Int) : List Int := if closedB L s && coinsB C then firmL L C s L.length else []

theorem firmL_len (L : List K) (C : List Int) (s : Int) (n : Nat) : (firmL L C s n).length ≤ n := by
  induction n with
  | zero => exact Nat.le_refl 0
  | succ n ih =>
    show (if firmN L C s n then firmL L C s n ++ [(n : Int)] else firmL L C s n).length ≤ n + 1
    split
    · simp; omega
    · omega
theorem firmL_step (L : List K) (C : List Int) (s : Int) (n : Nat) : firmL L C s (n + 1) = if firmN L C s n then firmL L C s n ++ [(n : Int)] else firmL L C s n := rfl

/-- a set that is closed, and coins -/
def rightB (L : List K) (C : List Int) (s : Int) : Bool := closedB L s && coinsB C

theorem closed_set {L : List K} {s : Int} (h : closedB L s = true) : laceB L = true ∧ 0 ≤ s ∧ s < 1152921504606846976 := by
  unfold Sg.closedB at h
  rw [Bool.and_eq_true] at h
  obtain ⟨hl, q0, q1, _⟩ := Lc.setB_parts h.1
  exact ⟨hl, q0, q1⟩

/-- the document's Firm -/
def firmB (L : List K) (C : List Int) (s k : Int) : Bool := (firmI L C s).contains k
theorem has_step (l : List Int) (k : Int) (j : Nat) (hj : j < l.length) : (l.take (j + 1)).contains k = ((l.take j).contains k || (l.getD j 0 == k)) := by
  rw [Lc.take_snocI l j hj]
  generalize l.getD j 0 = y
  generalize l.take j = t
  rw [Bool.eq_iff_iff]
  simp only [List.contains_iff_mem, List.mem_append, List.mem_singleton, Bool.or_eq_true, beq_iff_eq]
  exact or_congr Iff.rfl eq_comm

theorem firmI_len (L : List K) (C : List Int) (s : Int) : (firmI L C s).length ≤ L.length := by
  unfold firmI; split
  · exact firmL_len L C s _
  · simp

theorem last_mem (L : List K) (l : List Int) : Tl.lastT L l = -1 ∨ Tl.lastT L l ∈ l := by
  suffices H : ∀ n, n ≤ l.length → Tl.lastT L (l.take n) = -1 ∨ Tl.lastT L (l.take n) ∈ l.take n by
    have := H l.length (Nat.le_refl _)
    rwa [List.take_length] at this
  intro n
  induction n with
  | zero => intro _; exact .inl rfl
  | succ n ih =>
    intro hn
    rw [Lc.take_snocI l n (by omega), Tl.lastT_snoc]
    split
    · exact .inr (by simp)
    · rcases ih (by omega) with e | e
      · rename_i hc
        exact absurd (.inl (by rw [e]; omega)) hc
      · exact .inr (by simp only [List.mem_append]; exact .inl e)

theorem firmI_in {L : List K} {C : List Int} {s : Int} : ∀ x ∈ firmI L C s, 0 ≤ x ∧ x < (L.length : Int) := by
  intro x hx
  unfold firmI at hx
  split at hx
  · obtain ⟨k, rfl, hk, _⟩ := (Tl.mem_firm L C s L.length x).1 hx
    omega
  · exact absurd hx (by simp)
/-- the document's LastFirm -/
def lastI (L : List K) (C : List Int) (s : Int) : Int := Tl.lastT L (firmI L C s)

end Fm
end Go.Proofs.YtfjmenhofllchaaGreatDoor

namespace Go.Proofs.YtfjmenhofllchaaGreatDoor
open Go.RowKit
set_option maxRecDepth 100000
namespace Ch
open Kn (K okK)
open Bit (bit withB)
open Lc (at' RdK WordsOk laceB)
open Sg (isB bel belows NumsPost)
open Db (RowI)
open Sl (sealS sealN)
open Rm (coinsB)

/-- the two tables of a lace: what is below, and who seals -/
structure TabsL (w : World) (L : List K) (bb h : Nat) : Prop where
  bel : ∀ i, i < L.length → w.cell? ⟨bb, i, none⟩ = some (.int .i64 (Sg.bel L i))
  sl : ∀ i, i < L.length → w.cell? ⟨h, i, none⟩ = some (.int .i64 (sealS L i L.length))
  lb : bb < w.heap.size
  lh : h < w.heap.size
theorem TabsL.below {w w' : World} {L : List K} {bb h : Nat} (t : TabsL w L bb h) (hb : Below w.heap.size w w') : TabsL w' L bb h :=
  ⟨fun i hi => (hb.cell (p := ⟨bb, i, none⟩) t.lb).trans (t.bel i hi), fun i hi => (hb.cell (p := ⟨h, i, none⟩) t.lh).trans (t.sl i hi), Nat.lt_of_lt_of_le t.lb hb.size, Nat.lt_of_lt_of_le t.lh hb.size⟩

theorem earI_step (L : List K) (C : List Int) (k n : Nat) : earI L C k (n + 1) = if earN L C k n && (decide (earI L C k n < 0) || decide ((at' L (earI L C k n).toNat).round < (at' L n).round)) then (n : Int) else earI L C k n := rfl
theorem earI_bd (L : List K) (C : List Int) (k n : Nat) : earI L C k n = -1 ∨ ∃ e : Nat, earI L C k n = (e : Int) ∧ e < n := by
  rcases ear_spec L C k n with ⟨h, _⟩ | ⟨e, h, he, _⟩
  · exact .inl h
  · exact .inr ⟨e, h, he⟩

/-- the chain so far, in memory of the call's own -/
structure ChSt (w wr : World) (v : Value) (l : List Int) : Prop where
  shape : ∃ gg cp, v = .slice (some ⟨gg, 0, none⟩) l.length cp ∧ Memb.Own w.heap.size wr (some ⟨gg, 0, none⟩) cp l
  bel : Below w.heap.size w wr
theorem chSt_start (w : World) : ChSt w (w.alloc (.cells #[] 2)) (.slice (some ⟨w.heap.size, 0, none⟩) 0 0) [] := ⟨⟨_, _, rfl, Memb.own_empty w⟩, (Below.refl _ _).alloc (Nat.le_refl _) _⟩
theorem chSt_put {w wr w3 : World} {v' : Value} {l : List Int} {x : Int} {o : Obj} (hB : Below w.heap.size w wr) (ho : w3.ownsRow w.heap.size 2 1 v' (1 + l.length) ([.int .i64 x] ++ l.map (Value.int .i64))) (hg : (wr.alloc o).grownBy w3 (some wr.heap.size)) (hn : ¬ v' = .slice none 0 0) : ChSt w w3 v' (x :: l) := by
  refine ⟨?_, (hB.alloc hB.size o).grown hg (by simp; have := hB.size; omega) (fun j hj => by cases hj; exact hB.size)⟩
  have ho' : w3.ownsRow w.heap.size 2 1 v' (x :: l).length ((x :: l).map (Value.int .i64)) := by
    rw [show (x :: l).length = 1 + l.length by simp; omega]; exact ho
  obtain ⟨ao, cap, hv, hown⟩ := Memb.own_shape ho'
  rcases ao with _ | a
  · obtain ⟨_, ⟨hx, _⟩ | ⟨gg, cp, cur, hx, _⟩⟩ := ho'
    · exact absurd hx hn
    · rw [hv] at hx; injection hx with hx _; exact absurd hx (by simp)
  · obtain ⟨_, ⟨hx, _⟩ | ⟨gg, cp, cur, hx, _⟩⟩ := ho'
    · exact absurd hx hn
    · rw [hv] at hx
      injection hx with hx _ hc
      injection hx with hx
      subst hx hc
      exact ⟨gg, cap, hv, hown⟩

/-- a knot, and coins -/
def onB (L : List K) (C : List Int) (k : Int) : Bool := isB L k && coinsB C
/-- the document's Earlier -/
def earlierI (L : List K) (C : List Int) (k : Int) : Int := if onB L C k then earlierN L C k.toNat else -1
/-- the document's ChainOf -/
def chainI (L : List K) (C : List Int) (k : Int) : List Int := if onB L C k then chainL L C k else []

theorem own_base {B B' : Nat} {w : World} {ao : Option Addr} {cap : Nat} {l : List Int} (h : Memb.Own B w ao cap l) (hb : B' ≤ B) : Memb.Own B' w ao cap l := by
  obtain ⟨a1, a2⟩ := h
  refine ⟨a1, ?_⟩
  rcases a2 with a2 | ⟨g2, c2, cur, e1, e2, rest⟩
  · exact .inl a2
  · exact .inr ⟨g2, c2, cur, e1, Nat.le_trans hb e2, rest⟩
/-- an empty list of the call's own -/
theorem nums_nil {w w1 : World} (hb1 : Below w.heap.size w w1) : Memb.Own w.heap.size (w1.alloc (.cells #[] 2)) (some ⟨w1.heap.size, 0, none⟩) 0 [] ∧ Below w.heap.size w (w1.alloc (.cells #[] 2)) := ⟨own_base (Memb.own_empty w1) hb1.size, hb1.alloc hb1.size _⟩

/-- the document's OnChain -/
def onChainB (L : List K) (C : List Int) (k x : Int) : Bool := (chainI L C k).contains x
theorem chainI_len {L : List K} {C : List Int} {k : Int} : (chainI L C k).length ≤ 61 := by
  unfold chainI
  split
  · rename_i h
    unfold onB at h
    rw [Bool.and_eq_true] at h
    obtain ⟨k0, k1, hlc⟩ := Sg.isB_parts h.1
    have h60 := ((Lc.lace_iff L).1 hlc).1
    have := chain_len L C k
    omega
  · simp

end Ch
end Go.Proofs.YtfjmenhofllchaaGreatDoor

namespace Go.Proofs.YtfjmenhofllchaaGreatDoor
open Go.RowKit
set_option maxRecDepth 100000
namespace Rm
open Kn (K okK)
open Bit (bit memTo)
open Lc (at' RdK laceB flat OwnK cellsOf)
open Cur (At)

theorem l1CopyD (v : Value) (w : World) (h : CoinsAt w v) : Calls Tryz.prog 152 #[v] w fun e w' => ∃ ao cc C, e = .returned (.slice ao C.length cc) ∧ C.length ≤ 7 ∧ Memb.Own w.heap.size w' ao cc C ∧ Below w.heap.size w w' := by
  obtain ⟨ao, cap, l, rfl, h1, h2, h3, hrd⟩ := h
  cases ao with
  | none =>
    obtain ⟨rfl, rfl⟩ := h1 rfl
    refine (l1CopyN w).mono ?_
    rintro e w' ⟨bo, bc, rfl, ho, hb⟩
    exact ⟨bo, bc, [], rfl, by simp, ho, hb⟩
  | some x =>
    obtain ⟨g, rfl, hg⟩ := h2 x rfl
    refine (l1Copy g cap l w (by omega) hg hrd).mono ?_
    rintro e w' ⟨bo, bc, rfl, ho, hb⟩
    exact ⟨bo, bc, l, rfl, by omega, ho, hb⟩

/-- a list and coins, drawn so far -/
structure LcSt (c : Nat) (a : Option Addr) (len cap : Nat) (w wr : World) (v : Value) (L : List K) (ao : Option Addr) (cc : Nat) (C : List Int) : Prop where
  at' : At c a len cap wr
  gr : w.grownBy wr (some c)
  lo : OwnK 36 w.heap.size wr v L
  l61 : L.length ≤ 61
  wd : ∀ k ∈ L, k.word.size ≤ 13
  co : Memb.Own w.heap.size wr ao cc C
  c7 : C.length ≤ 7
theorem LcSt.grown {c : Nat} {a : Option Addr} {len cap : Nat} {w wr w1 : World} {v : Value} {L : List K} {ao : Option Addr} {cc : Nat} {C : List Int} (s : LcSt c a len cap w wr v L ao cc C) (hc : c < w.heap.size) (hA : At c a len cap w1) (hG : wr.grownBy w1 (some c)) : LcSt c a len cap w w1 v L ao cc C :=
  ⟨hA, Cur.grownBy_trans s.gr hG, ownK_grown s.lo hG hc, s.l61, s.wd, Draw.own_grown s.co hG hc, s.c7⟩
theorem LcSt.below {c : Nat} {a : Option Addr} {len cap : Nat} {w wr w1 : World} {v : Value} {L : List K} {ao : Option Addr} {cc : Nat} {C : List Int} (s : LcSt c a len cap w wr v L ao cc C) (hb : Below wr.heap.size wr w1) : LcSt c a len cap w w1 v L ao cc C :=
  ⟨s.at'.below hb, Cur.grownBy_trans s.gr ⟨hb.os, hb.tape, hb.output, hb.size, fun i hi _ => hb.block i hi⟩, Lc.ownK_below s.lo hb, s.l61, s.wd, Lst.own_below s.co hb, s.c7⟩

/-- how the drawing of a list and coins ends -/
def LcPost (c : Nat) (a : Option Addr) (len cap : Nat) (w : World) (e : Ending) (w' : World) : Prop := ∃ v L ao cc C, e = .returned (.tuple #[v, .slice ao C.length cc]) ∧ LcSt c a len cap w w' v L ao cc C

/-- a list and coins that a drawing handed back -/
structure DrawnC (w w' : World) (v : Value) (L : List K) (ao : Option Addr) (cc : Nat) (C : List Int) : Prop where
  dr : Drawn w.heap.size w w' v L
  co : Memb.Own w.heap.size w' ao cc C
  c7 : C.length ≤ 7
theorem drawnC_of {a : Option Addr} {len cap : Nat} {w w1 w' : World} {v : Value} {L : List K} {ao : Option Addr} {cc : Nat} {C : List Int} (hb1 : Below w.heap.size w w1) (s : LcSt w.heap.size a len cap w1 w' v L ao cc C) : DrawnC w w' v L ao cc C :=
  ⟨⟨ownK_base s.lo hb1.size, s.l61, s.wd, Draw.below_of_grown hb1 (Nat.le_refl _) s.gr⟩, Ch.own_base s.co hb1.size, s.c7⟩

theorem own_at {B : Nat} {w : World} {ao : Option Addr} {cap : Nat} {l : List Int} (h : Memb.Own B w ao cap l) : ∀ c, ao = some ⟨c, 0, none⟩ → c < w.heap.size := fun c e => by subst e; exact (World.ownsRow.lt h c rfl).2

theorem ownK_at {B : Nat} {w : World} {g cp : Nat} {L : List K} (h : OwnK 36 B w (.slice (some ⟨g, 0, none⟩) L.length cp) L) : g < w.heap.size ∧ RdK w (some ⟨g, 0, none⟩) L := by
  obtain ⟨g', cp', e, _, _, _, hlt, hrd, _⟩ := Lc.ownK_shape h
  injection e with e _ _
  injection e with e
  injection e with e
  subst e
  exact ⟨hlt, hrd⟩

end Rm
end Go.Proofs.YtfjmenhofllchaaGreatDoor

namespace Go.Proofs.YtfjmenhofllchaaGreatDoor
open Go.RowKit
set_option maxRecDepth 100000
set_option linter.unusedVariables false
namespace Rm
open Kn (K okK)
open Bit (bit withB)
open Lc (at' RdK laceB WordsOk)
open Sg (bel belows closedTo)

/-- is it a hand of the lace? -/
def hokB (L : List K) (h : Hd) : Bool :=
  Kn.in3 h.who && (decide (0 ≤ h.has) && (decide (0 ≤ h.kept) && (decide (h.has / 2 ^ L.length = 0) && ((bits .andNot .i64 h.kept h.has == 0) && (decide (lastTo L h.who (bits .andNot .i64 h.has h.kept) L.length < 0) &&
    (closedTo (belows L L.length) h.has L.length && (closedTo (belows L L.length) h.kept L.length && (h.last == lastTo L h.who h.kept L.length))))))))
/-- the document's HandOk -/
def handOkB (L : List K) (h : Hd) : Bool := laceB L && hokB L h
/-- a hand of numbers that fit -/
structure H64 (h : Hd) : Prop where
  h0 : -9223372036854775808 ≤ h.has
  h1 : h.has ≤ 9223372036854775807
  k0 : -9223372036854775808 ≤ h.kept
  k1 : h.kept ≤ 9223372036854775807

theorem and_sub {a b : Int} (ha : 0 ≤ a) (hb0 : 0 ≤ b) (hb1 : b < 1152921504606846976) (ha1 : a ≤ 9223372036854775807) (h : (bits .andNot .i64 a b == 0) = true) : a < 1152921504606846976 := by
  have hs := (Sg.andNot_sub a b ha (by omega) hb0 (by omega)).1 h
  have hd : a / 2 ^ 60 = 0 := Lc.div_of_bits a 60 ha fun i hi => by
    rw [Bool.eq_false_iff]
    intro hbit
    have h2 := hs i hbit
    have hd2 : b / 2 ^ 60 = 0 := Int.ediv_eq_zero_of_lt hb0 (by simpa using hb1)
    have := Bit.bit_up b 60 (i - 60) hd2
    rw [show 60 + (i - 60) = i by omega, h2] at this
    exact Bool.noConfusion this
  have h3 := Int.emod_lt_of_pos a (show (0 : Int) < 2 ^ 60 by decide)
  have h4 := Int.emod_add_mul_ediv a (2 ^ 60)
  rw [hd, Int.mul_zero, Int.add_zero] at h4
  rw [h4] at h3
  simpa using h3
theorem div_lt60 {s : Int} {n : Nat} (h0 : 0 ≤ s) (hd : s / 2 ^ n = 0) (hn : n ≤ 60) : s < 1152921504606846976 := by
  have := Bit.div_zero_up s n (60 - n) hd
  rw [show n + (60 - n) = 60 by omega] at this
  omega

theorem hat_drewN2 {w : World} {g o : Nat} {h : Hd} (x : HAt w g o h) (n : Nat) : HAt (w.drewN n) g o h := ⟨x.lt, x.c0, x.c1, x.c2, x.c3, x.f0, x.f1, x.f2, x.f3⟩

theorem l4ClosedB (bo : Option Addr) (bc : Nat) (L : List K) (s : Int) (w : World) (hl : L.length ≤ 60) (h0 : 0 ≤ s) (h1 : s < 1152921504606846976) (hrd : Lst.Rd w bo (belows L L.length)) :
    Calls Tryz.prog 94 #[.slice bo L.length bc, .int .i64 s] w fun e w' => e = .returned (.bool (closedTo (belows L L.length) s L.length)) ∧ w = w' := by
  have := Sg.l4Closed bo bc (belows L L.length) s w (by rw [Sg.belows_len]; exact hl) h0 h1 hrd
  rw [Sg.belows_len] at this
  exact this

set_option maxHeartbeats 3200000 in
theorem l13Ok (ao : Option Addr) (cap : Nat) (L : List K) (bo : Option Addr) (bc : Nat) (h : Hd) (w : World) (hl : laceB L = true) (hr : RdK w ao L) (hrd : Lst.Rd w bo (belows L L.length)) (hbo : ∀ c, bo = some ⟨c, 0, none⟩ → c < w.heap.size) (hk : H64 h) :
    Calls Tryz.prog 49 #[.slice ao L.length cap, .slice bo L.length bc, .agg #[.int .i64 h.who, .int .i64 h.has, .int .i64 h.kept, .int .i64 h.last]] w fun e w' => e = .returned (.bool (hokB L h)) ∧ Below w.heap.size w w' := by
  have h60 := ((Lc.lace_iff L).1 hl).1
  obtain ⟨_, _, hk0, hk1⟩ := hk
  obtain ⟨who, has, kept, last⟩ := h
  dsimp only at hk0 hk1 ⊢
  have HD : Hid (hokB L ⟨who, has, kept, last⟩ = (Kn.in3 who && (decide (0 ≤ has) && (decide (0 ≤ kept) && (decide (has / 2 ^ L.length = 0) && ((bits .andNot .i64 kept has == 0) && (decide (lastTo L who (bits .andNot .i64 has kept) L.length < 0) &&
    (closedTo (belows L L.length) has L.length && (closedTo (belows L L.length) kept L.length && (last == lastTo L who kept L.length)))))))))) := rfl
  have HR : Hid (∀ W : World, Below w.heap.size w W → RdK W ao L ∧ Lst.Rd W bo (belows L L.length)) := fun W hW => ⟨hr.below hW, by
    rcases hrd with e | ⟨g, e, hc⟩
    · exact .inl e
    · exact .inr ⟨g, e, fun j hj => (hW.cell (p := ⟨g, j, none⟩) (hbo g e)).trans (hc j hj)⟩⟩
  have P0 : Hid (Below w.heap.size w (w.alloc (.cells #[.int .i64 who, .int .i64 has, .int .i64 kept, .int .i64 last] 26)) ∧ HAt (w.alloc (.cells #[.int .i64 who, .int .i64 has, .int .i64 kept, .int .i64 last] 26)) w.heap.size 0 ⟨who, has, kept, last⟩) := ⟨(Below.refl _ _).alloc (Nat.le_refl _) _, hat_new w ⟨who, has, kept, last⟩ _⟩
  clear hr hrd hbo hl
  cases h1 : Kn.in3 who
  · have H1 : Hid (Kn.in3 who = false) := h1
    have HT : Hid (hokB L ⟨who, has, kept, last⟩ = false) := by show _ = _; rw [HD.out]; rw [h1]; rfl
    clear HD HR h1
    go_enter Tryz.func49, Tryz.ntmps49
    go_wp2_with (first | (go_at_call 47; refine (Kn.l1In3 _ _).mono ?_; rintro e w' ⟨rfl, rfl⟩; rw [H1.out]) | fail)
    go_ret
    exact ⟨by rw [HT.out]; rfl, P0.out.1⟩
  have H1 : Hid (Kn.in3 who = true) := h1
  by_cases h2 : 0 ≤ has
  rotate_left
  · have h2' : has < 0 := by omega
    have HT : Hid (hokB L ⟨who, has, kept, last⟩ = false) := by show _ = _; rw [HD.out]; rw [decide_eq_false h2]; simp
    clear HD HR h1 h2
    go_enter Tryz.func49, Tryz.ntmps49
    go_wp2_with (first | (go_at_call 47; refine (Kn.l1In3 _ _).mono ?_; rintro e w' ⟨rfl, rfl⟩; rw [H1.out]) | fail)
    go_ret
    exact ⟨by rw [HT.out]; rfl, P0.out.1⟩
  by_cases h3 : 0 ≤ kept
  rotate_left
  · have h2' : ¬ has < 0 := by omega
    have h3' : kept < 0 := by omega
    have HT : Hid (hokB L ⟨who, has, kept, last⟩ = false) := by show _ = _; rw [HD.out]; rw [decide_eq_false h3]; simp
    clear HD HR h1 h2 h3
    go_enter Tryz.func49, Tryz.ntmps49
    go_wp2_with (first | (go_at_call 47; refine (Kn.l1In3 _ _).mono ?_; rintro e w' ⟨rfl, rfl⟩; rw [H1.out]) | fail)
    go_ret
    exact ⟨by rw [HT.out]; rfl, P0.out.1⟩
  by_cases h4 : has / 2 ^ L.length = 0
  rotate_left
  · have h2' : ¬ has < 0 := by omega
    have h3' : ¬ kept < 0 := by omega
    have h4' : (has / 2 ^ L.length == 0) = false := by simpa using h4
    have h4n : (has / 2 ^ L.length != 0) = true := by simpa using h4
    have HT : Hid (hokB L ⟨who, has, kept, last⟩ = false) := by show _ = _; rw [HD.out]; rw [decide_eq_false h4]; simp
    clear HD HR h1 h3 h4
    go_enter Tryz.func49, Tryz.ntmps49
    go_wp2_with (first | (go_at_call 47; refine (Kn.l1In3 _ _).mono ?_; rintro e w' ⟨rfl, rfl⟩; rw [H1.out]) | fail)
    go_ret
    exact ⟨by rw [HT.out]; rfl, P0.out.1⟩
  have hb := div_lt60 h2 h4 h60
  have h4' : (has / 2 ^ L.length != 0) = false := by simpa using h4
  cases h5 : (bits .andNot .i64 kept has == 0)
  · have h2' : ¬ has < 0 := by omega
    have h3' : ¬ kept < 0 := by omega
    have h5' : (bits .andNot .i64 kept has != 0) = true := by unfold bne; rw [h5]; rfl
    have HT : Hid (hokB L ⟨who, has, kept, last⟩ = false) := by show _ = _; rw [HD.out]; rw [h5]; simp
    clear HD HR h1 h3 h4 h5
    go_enter Tryz.func49, Tryz.ntmps49
    go_wp2_with (first | (go_at_call 47; refine (Kn.l1In3 _ _).mono ?_; rintro e w' ⟨rfl, rfl⟩; rw [H1.out]) | fail)
    go_ret
    exact ⟨by rw [HT.out]; rfl, P0.out.1⟩
  have hkb := and_sub h3 h2 hb hk1 h5
  have hab := andNot_bd has kept h2 hb
  have h5' : (bits .andNot .i64 kept has != 0) = false := by unfold bne; rw [h5]; rfl
  have HL6 : Hid (∀ W : World, Below w.heap.size w W → Calls Tryz.prog 91 #[.slice ao L.length cap, .int .i64 who, .int .i64 (bits .andNot .i64 has kept)] W fun e w' => e = .returned (.int .i64 (lastTo L who (bits .andNot .i64 has kept) L.length)) ∧ ∃ n, w' = W.drewN n) := fun W hW => l13Last ao cap L who _ W h60 (HR.out W hW).1 hab.1 hab.2
  have HL7 : Hid (∀ W : World, Below w.heap.size w W → Calls Tryz.prog 91 #[.slice ao L.length cap, .int .i64 who, .int .i64 kept] W fun e w' => e = .returned (.int .i64 (lastTo L who kept L.length)) ∧ ∃ n, w' = W.drewN n) := fun W hW => l13Last ao cap L who _ W h60 (HR.out W hW).1 h3 hkb
  have HC1 : Hid (∀ W : World, Below w.heap.size w W → Calls Tryz.prog 94 #[.slice bo L.length bc, .int .i64 has] W fun e w' => e = .returned (.bool (closedTo (belows L L.length) has L.length)) ∧ W = w') := fun W hW => l4ClosedB bo bc L has W h60 h2 hb (HR.out W hW).2
  have HC2 : Hid (∀ W : World, Below w.heap.size w W → Calls Tryz.prog 94 #[.slice bo L.length bc, .int .i64 kept] W fun e w' => e = .returned (.bool (closedTo (belows L L.length) kept L.length)) ∧ W = w') := fun W hW => l4ClosedB bo bc L kept W h60 h3 hkb (HR.out W hW).2
  have HD2 : Hid (hokB L ⟨who, has, kept, last⟩ = (decide (lastTo L who (bits .andNot .i64 has kept) L.length < 0) && (closedTo (belows L L.length) has L.length && (closedTo (belows L L.length) kept L.length && (last == lastTo L who kept L.length))))) := by
    show _ = _
    rw [HD.out, h1, h5, decide_eq_true h2, decide_eq_true h3, decide_eq_true h4]; rfl
  have h2' : ¬ has < 0 := by omega
  have h3' : ¬ kept < 0 := by omega
  clear HD HR h1 h3 h4 h5 hab
  generalize lastTo L who (bits .andNot .i64 has kept) L.length = la at HL6 HD2
  generalize lastTo L who kept L.length = lk at HL7 HD2
  generalize closedTo (belows L L.length) has L.length = c1 at HC1 HD2
  generalize closedTo (belows L L.length) kept L.length = c2 at HC2 HD2
  go_enter Tryz.func49, Tryz.ntmps49
  go_wp2_with (first | (go_at_call 47; refine (Kn.l1In3 _ _).mono ?_; rintro e w' ⟨rfl, rfl⟩; rw [H1.out]) | fail)
  refine (HL6.out _ P0.out.1).mono ?_
  rintro e W6 ⟨rfl, n6, hW6⟩
  have P6 : Hid (Below w.heap.size w W6 ∧ HAt W6 w.heap.size 0 ⟨who, has, kept, last⟩) := hW6 ▸ ⟨Lc.below_drewN' P0.out.1 _, hat_drewN2 P0.out.2 _⟩
  clear hW6 P0 HL6
  by_cases h6 : la < 0
  rotate_left
  · have h6' : 0 ≤ la := by omega
    have HT : Hid (hokB L ⟨who, has, kept, last⟩ = false) := by show _ = _; rw [HD2.out, decide_eq_false h6]; rfl
    clear HD2 HC1 HC2 HL7
    go_wp2
    go_ret
    exact ⟨by rw [HT.out]; rfl, P6.out.1⟩
  have h6' : ¬ 0 ≤ la := by omega
  have HD3 : Hid (hokB L ⟨who, has, kept, last⟩ = (c1 && (c2 && (last == lk)))) := by show _ = _; rw [HD2.out, decide_eq_true h6]; rfl
  clear HD2
  go_wp2_with fail
  obtain ⟨_, a0, a1, a2, a3, _, _, _, _⟩ := P6.out.2
  dsimp only at a0 a1 a2 a3
  simp only [Nat.zero_add] at a1 a2 a3
  cases c1
  · go_quiet (first
      | (go_at_call 94; exact (HC1.out _ (Lc.below_drewN' P6.out.1 _)).mono fun _ _ h => ⟨h.1, _, h.2.symm⟩))
    go_wp2
    go_ret
    exact ⟨by rw [HD3.out]; rfl, Lc.below_drewN' P6.out.1 _⟩
  · have HCC : Hid (∀ (W : World) (s : Int) (b : Bool), Below w.heap.size w W → ((s = has ∧ b = true) ∨ (s = kept ∧ b = c2)) → Calls Tryz.prog 94 #[.slice bo L.length bc, .int .i64 s] W fun e w' => e = .returned (.bool b) ∧ W = w') := fun W s b hW h => by
      rcases h with ⟨rfl, rfl⟩ | ⟨rfl, rfl⟩
      · exact HC1.out W hW
      · exact HC2.out W hW
    clear HC1 HC2
    cases c2
    · go_quiet (first
        | (go_at_call 94; exact (HCC.out _ _ _ (Lc.below_drewN' P6.out.1 _) (by first | exact .inl ⟨rfl, rfl⟩ | exact .inr ⟨rfl, rfl⟩)).mono fun _ _ h => ⟨h.1, _, h.2.symm⟩))
      go_wp2
      go_ret
      exact ⟨by rw [HD3.out]; rfl, Lc.below_drewN' P6.out.1 _⟩
    · go_quiet (first
        | (go_at_call 94; exact (HCC.out _ _ _ (Lc.below_drewN' P6.out.1 _) (by first | exact .inl ⟨rfl, rfl⟩ | exact .inr ⟨rfl, rfl⟩)).mono fun _ _ h => ⟨h.1, _, h.2.symm⟩)
        | (go_at_call 91; exact (HL7.out _ (Lc.below_drewN' P6.out.1 _)).mono fun _ _ h => ⟨h.1, h.2.elim fun _ hm => ⟨_, hm.trans (World.drewN_drewN ..)⟩⟩))
      go_wp2
      go_ret
      exact ⟨by rw [HD3.out]; rfl, Lc.below_drewN' P6.out.1 _⟩

end Rm
end Go.Proofs.YtfjmenhofllchaaGreatDoor

namespace Go.Proofs.YtfjmenhofllchaaGreatDoor
open Go.RowKit
set_option maxRecDepth 100000
set_option linter.unusedVariables false
namespace Rm
open Kn (K okK)
open Bit (bit withB)
open Lc (at' RdK laceB WordsOk)
open Sg (bel belows closedTo orB)

theorem cellsH {w : World} {b : Nat} {h : Hd} (x : HAt w b 0 h) : w.cell? ⟨b, 0, none⟩ = some (.int .i64 h.who) ∧ w.cell? ⟨b, 1, none⟩ = some (.int .i64 h.has) ∧ w.cell? ⟨b, 2, none⟩ = some (.int .i64 h.kept) ∧ w.cell? ⟨b, 3, none⟩ = some (.int .i64 h.last) := by
  obtain ⟨_, a0, a1, a2, a3, _, _, _, _⟩ := x
  simp only [Nat.zero_add] at a1 a2 a3
  exact ⟨a0, a1, a2, a3⟩

set_option maxHeartbeats 3200000 in
theorem specHandOk (g off cap : Nat) (L : List K) (h : Hd) (w : World) (hcap : L.length ≤ cap) (hw : WordsOk L) (hr : RdK w (some ⟨g, off, none⟩) L) (hk : H64 h) :
    Calls Tryz.prog 16 #[.slice (some ⟨g, off, none⟩) L.length cap, .agg #[.int .i64 h.who, .int .i64 h.has, .int .i64 h.kept, .int .i64 h.last]] w fun e w' => e = .returned (.bool (handOkB L h)) ∧ Below w.heap.size w w' := by
  have P0 : Hid (Below w.heap.size w (w.alloc (.cells #[.int .i64 h.who, .int .i64 h.has, .int .i64 h.kept, .int .i64 h.last] 26)) ∧ HAt (w.alloc (.cells #[.int .i64 h.who, .int .i64 h.has, .int .i64 h.kept, .int .i64 h.last] 26)) w.heap.size 0 h) := ⟨(Below.refl _ _).alloc (Nat.le_refl _) _, hat_new w h _⟩
  go_enter Tryz.func16, Tryz.ntmps16
  go_wp2_with fail
  generalize w.alloc (.cells #[.int .i64 h.who, .int .i64 h.has, .int .i64 h.kept, .int .i64 h.last] 26) = V at P0 ⊢
  have HB0 : Hid (Below w.heap.size w V) := P0.out.1
  have HH0 : Hid (HAt V w.heap.size 0 h) := P0.out.2
  have HR0 : Hid (RdK V (some ⟨g, off, none⟩) L) := hr.below P0.out.1
  have hbl : w.heap.size < V.heap.size := HH0.out.lt
  clear P0 hr
  generalize w.heap.size = hb at HH0 hbl ⊢
  have HLO : Hid (∀ W : World, Below V.heap.size V W → Calls Tryz.prog 29 #[.slice (some ⟨g, off, none⟩) L.length cap] W fun e w' => e = .returned (.bool (laceB L)) ∧ Below V.heap.size V w') := fun W hW => (Lc.specLaceOk g off cap L W hcap hw (HR0.out.below hW)).mono fun _ _ q => ⟨q.1, hW.trans (q.2.mono hW.size)⟩
  cases hl : laceB L
  · have HT : Hid (handOkB L h = false) := by show _ = _; unfold handOkB; rw [hl]; rfl
    rw [hl] at HLO
    clear hl
    obtain ⟨X, _, F, HF, HG⟩ := Fam.fam V
    refine Fam.region (F := F) (by kernel_rfl) (by kernel_rfl) (HG.out _ (Below.refl _ V).drew) ?_
    repeat (go_big_quiet_step (first
      | (go_at_call 29; exact (HLO.out _ (HF.out _)).mono fun _ _ q => ⟨q.1, HG.out _ q.2⟩)))
    refine wpQuiet_nil ?_
    intro w2 hw2
    obtain ⟨z, rfl⟩ := hw2
    have HB2 : Hid (Below V.heap.size V (F z)) := HF.out z
    go_wp2
    go_ret
    exact ⟨by rw [HT.out]; rfl, HB0.out.trans (HB2.out.mono HB0.out.size)⟩
  · have HT : Hid (handOkB L h = hokB L h) := by show _ = _; unfold handOkB; rw [hl]; rfl
    have h60 := ((Lc.lace_iff L).1 hl).1
    have HLC : Hid (laceB L = true) := hl
    rw [hl] at HLO
    have HAL : Hid (∀ W : World, Below V.heap.size V W → Calls Tryz.prog 43 #[.slice (some ⟨g, off, none⟩) L.length cap] W fun e w' => ∃ bo bc, e = .returned (.slice bo L.length bc) ∧ Lst.Rd w' bo (belows L L.length) ∧ (∀ c, bo = some ⟨c, 0, none⟩ → c < w'.heap.size) ∧ Below V.heap.size V w') := fun W hW => by
      refine (Sg.l4All (some ⟨g, off, none⟩) cap L W h60 (Sg.frm_lace HLC.out) (HR0.out.below hW)).mono ?_
      rintro e w1 ⟨bo, bc, rfl, hown, hb1⟩
      exact ⟨bo, bc, by rw [Sg.belows_len], Lst.own_rd hown, fun c e => by subst e; exact (World.ownsRow.lt hown c rfl).2, hW.trans (hb1.mono hW.size)⟩
    have HOK : Hid (∀ (W : World) (bo : Option Addr) (bc : Nat), Below V.heap.size V W → Lst.Rd W bo (belows L L.length) → (∀ c, bo = some ⟨c, 0, none⟩ → c < W.heap.size) → Calls Tryz.prog 49 #[.slice (some ⟨g, off, none⟩) L.length cap, .slice bo L.length bc, .agg #[.int .i64 h.who, .int .i64 h.has, .int .i64 h.kept, .int .i64 h.last]] W fun e w' => e = .returned (.bool (hokB L h)) ∧ Below V.heap.size V w') := fun W bo bc hW hR hB => (l13Ok (some ⟨g, off, none⟩) cap L bo bc h W HLC.out (HR0.out.below hW) hR hB hk).mono fun _ _ q => ⟨q.1, hW.trans (q.2.mono hW.size)⟩
    have HSB : Hid (∀ W : World, Below V.heap.size V W → W.cell? ⟨hb, 0, none⟩ = some (.int .i64 h.who) ∧ W.cell? ⟨hb, 1, none⟩ = some (.int .i64 h.has) ∧ W.cell? ⟨hb, 2, none⟩ = some (.int .i64 h.kept) ∧ W.cell? ⟨hb, 3, none⟩ = some (.int .i64 h.last)) := fun W hW => by
      have q := cellsH HH0.out
      exact ⟨(hW.cell (p := ⟨hb, 0, none⟩) hbl).trans q.1, (hW.cell (p := ⟨hb, 1, none⟩) hbl).trans q.2.1, (hW.cell (p := ⟨hb, 2, none⟩) hbl).trans q.2.2.1, (hW.cell (p := ⟨hb, 3, none⟩) hbl).trans q.2.2.2⟩
    clear hl
    generalize hokB L h = ok at HOK HT
    go_region_held3 (fun W => W.cell? ⟨hb, 0, none⟩ = some (.int .i64 h.who) ∧ W.cell? ⟨hb, 1, none⟩ = some (.int .i64 h.has) ∧ W.cell? ⟨hb, 2, none⟩ = some (.int .i64 h.kept) ∧ W.cell? ⟨hb, 3, none⟩ = some (.int .i64 h.last)) (first
      | exact HSB.out _ B3 | exact HSB.out _ B2 | exact HSB.out _ B1 | exact HSB.out _ (Below.refl _ _).drew | exact HSB.out _ (Below.refl _ _) | go_keep) (first
      | (go_at_call 49
         refine (HOK.out _ _ _ B2 R2 A2).mono ?_
         rintro e V3 ⟨rfl, B3⟩)
      | (go_at_call 43
         refine (HAL.out _ B1).mono ?_
         rintro e V2 ⟨bo, bc, rfl, R2, A2, B2⟩)
      | (go_at_call 29
         refine (HLO.out _ (by first | exact (Below.refl _ _).drew | exact Below.refl _ _)).mono ?_
         rintro e V1 ⟨rfl, B1⟩))
    all_goals go_wp2
    all_goals go_ret
    all_goals exact ⟨by rw [HT.out]; rfl, HB0.out.trans (B3.mono HB0.out.size)⟩

/-- the document's NewHand -/
def newHandH (who : Int) : Hd := if Kn.in3 who then ⟨who, 0, 0, -1⟩ else ⟨0, 0, 0, 0⟩

/-- a hand and room for one, both of the call's own -/
structure HzO (w W : World) (h z : Hd) : Prop where
  bel : Below w.heap.size w W
  hh : HAt W w.heap.size 0 h
  zz : HAt W (w.heap.size + 1) 0 z
theorem hzo_new (w : World) (h : Hd) (t : TypeId) : HzO w ((w.alloc (.cells #[.int .i64 h.who, .int .i64 h.has, .int .i64 h.kept, .int .i64 h.last] t)).alloc (.cells #[.int .i64 0, .int .i64 0, .int .i64 0, .int .i64 0] t)) h ⟨0, 0, 0, 0⟩ where
  bel := ((Below.refl _ w).alloc (Nat.le_refl _) _).alloc (by simp) _
  hh := hat_below (hat_new w h t) ((Below.refl _ _).alloc (Nat.le_refl _) _)
  zz := by
    have := hat_new (w.alloc (.cells #[.int .i64 h.who, .int .i64 h.has, .int .i64 h.kept, .int .i64 h.last] t)) ⟨0, 0, 0, 0⟩ t
    rw [World.size_alloc] at this
    exact this
theorem HzO.below {w W V : World} {h z : Hd} (x : HzO w W h z) (hb : Below W.heap.size W V) : HzO w V h z := ⟨x.bel.trans (hb.mono x.bel.size), hat_below x.hh hb, hat_below x.zz hb⟩
/-- the answer is written -/
theorem HzO.put {w W : World} {h z : Hd} (x : HzO w W h z) (y : Hd) : ∃ V, V = ((((W.setCell ⟨w.heap.size + 1, 0, none⟩ (.int .i64 y.who)).setCell ⟨w.heap.size + 1, 1, none⟩ (.int .i64 y.has)).setCell ⟨w.heap.size + 1, 2, none⟩ (.int .i64 y.kept)).setCell ⟨w.heap.size + 1, 3, none⟩ (.int .i64 y.last)) ∧
    V.cell? ⟨w.heap.size + 1, 0, none⟩ = some (.int .i64 y.who) ∧ V.cell? ⟨w.heap.size + 1, 1, none⟩ = some (.int .i64 y.has) ∧ V.cell? ⟨w.heap.size + 1, 2, none⟩ = some (.int .i64 y.kept) ∧ V.cell? ⟨w.heap.size + 1, 3, none⟩ = some (.int .i64 y.last) ∧ Below w.heap.size w V := by
  have q := hput x.zz (.int .i64 y.who) (.int .i64 y.has) (.int .i64 y.kept) (.int .i64 y.last)
  refine ⟨_, rfl, q.1, q.2.1, q.2.2.1, q.2.2.2, ?_⟩
  exact (((x.bel.setCell (p := ⟨w.heap.size + 1, 0, none⟩) (by simp) _).setCell (p := ⟨w.heap.size + 1, 1, none⟩) (by simp) _).setCell (p := ⟨w.heap.size + 1, 2, none⟩) (by simp) _).setCell (p := ⟨w.heap.size + 1, 3, none⟩) (by simp) _
theorem hok_parts {L : List K} {h : Hd} (hk : H64 h) (hl : laceB L = true) (x : hokB L h = true) : 0 ≤ h.has ∧ h.has < 1152921504606846976 ∧ 0 ≤ h.kept ∧ h.kept < 1152921504606846976 := by
  unfold hokB at x
  simp only [Bool.and_eq_true, decide_eq_true_eq] at x
  have h60 := ((Lc.lace_iff L).1 hl).1
  have hb := div_lt60 x.2.1 x.2.2.2.1 h60
  exact ⟨x.2.1, hb, x.2.2.1, and_sub x.2.2.1 x.2.1 hb hk.k1 x.2.2.2.2.1⟩

/-- what is learned of a lace -/
def learnedB (L : List K) (h : Hd) (k : Int) (al : Bool) : Bool := handOkB L h && learnB L (belows L L.length) h.who h.has k al
def learnedH (L : List K) (h : Hd) (k : Int) (al : Bool) : Hd := if handOkB L h then (if learnB L (belows L L.length) h.who h.has k al then { h with has := orB h.has ((belows L L.length).getD k.toNat 0) } else h) else ⟨0, 0, 0, 0⟩

set_option maxHeartbeats 3200000 in
theorem specLearns (g off cap : Nat) (L : List K) (h : Hd) (k : Int) (w : World) (hcap : L.length ≤ cap) (hw : WordsOk L) (hr : RdK w (some ⟨g, off, none⟩) L) (hk : H64 h) :
    Calls Tryz.prog 11 #[.slice (some ⟨g, off, none⟩) L.length cap, .agg #[.int .i64 h.who, .int .i64 h.has, .int .i64 h.kept, .int .i64 h.last], .int .i64 k] w fun e w' => e = .returned (.tuple #[.agg #[.int .i64 (learnedH L h k true).who, .int .i64 (learnedH L h k true).has, .int .i64 (learnedH L h k true).kept, .int .i64 (learnedH L h k true).last], .bool (learnedB L h k true)]) ∧ Below w.heap.size w w' := by
  have P0 : Hid (HzO w ((w.alloc (.cells #[.int .i64 h.who, .int .i64 h.has, .int .i64 h.kept, .int .i64 h.last] 26)).alloc (.cells #[.int .i64 0, .int .i64 0, .int .i64 0, .int .i64 0] 26)) h ⟨0, 0, 0, 0⟩) := hzo_new w h _
  have HR : Hid (RdK w (some ⟨g, off, none⟩) L) := hr
  clear hr
  go_enter Tryz.func11, Tryz.ntmps11
  go_upto_region 1 with fail
  generalize (w.alloc (.cells #[.int .i64 h.who, .int .i64 h.has, .int .i64 h.kept, .int .i64 h.last] 26)).alloc (.cells #[.int .i64 0, .int .i64 0, .int .i64 0, .int .i64 0] 26) = V at P0 ⊢
  obtain ⟨a0, a1, a2, a3⟩ := cellsH P0.out.hh
  have hho := specHandOk g off cap L h V hcap hw (HR.out.below P0.out.bel) hk
  go_wp2_with fail
  refine hho.mono ?_
  rintro e w1 ⟨rfl, hb1⟩
  have P1 : Hid (HzO w w1 h ⟨0, 0, 0, 0⟩) := P0.out.below hb1
  clear P0 hho hb1 a0 a1 a2 a3
  cases ho : handOkB L h
  · have HT : Hid (learnedH L h k true = ⟨0, 0, 0, 0⟩ ∧ learnedB L h k true = false) := by unfold learnedH learnedB; rw [ho]; exact ⟨rfl, rfl⟩
    obtain ⟨W, hW, b0, b1, b2, b3, hB⟩ := P1.out.put ⟨0, 0, 0, 0⟩
    have HW : Hid (W = _) := hW
    obtain ⟨z0, z1, z2, z3⟩ := cellsH P1.out.zz
    have f0 := P1.out.zz.f0
    have f1 := P1.out.zz.f1
    have f2 := P1.out.zz.f2
    have f3 := P1.out.zz.f3
    simp only [Nat.zero_add] at f1 f2 f3
    dsimp only at b0 b1 b2 b3 HW
    clear ho hW
    go_wp2
    rw [← HW.out]
    refine bodyPost_ret (v := .tuple #[.agg #[.int .i64 0, .int .i64 0, .int .i64 0, .int .i64 0], .bool false]) (by simp [results, Tryz.f11, go_sem, b0, b1, b2, b3]) rfl ?_
    exact ⟨by rw [HT.out.1, HT.out.2], hB⟩
  · have hpt := ho
    unfold handOkB at hpt
    rw [Bool.and_eq_true] at hpt
    obtain ⟨hl, hok⟩ := hpt
    have hbd := hok_parts hk hl hok
    have h60 := ((Lc.lace_iff L).1 hl).1
    have HTB : Hid (learnedB L h k true = learnB L (belows L L.length) h.who h.has k true) := by show _ = _; unfold learnedB; rw [ho]; rfl
    have HTH : Hid (learnedH L h k true = if learnB L (belows L L.length) h.who h.has k true then { h with has := orB h.has ((belows L L.length).getD k.toNat 0) } else h) := by show _ = _; unfold learnedH; rw [if_pos ho]
    have hall := Sg.l4All (some ⟨g, off, none⟩) cap L w1 h60 (Sg.frm_lace hl) (HR.out.below P1.out.bel)
    clear ho hok
    go_wp2_with fail
    refine hall.mono ?_
    rintro e w2 ⟨bo, bc, rfl, hown, hb2⟩
    have P2 : Hid (HzO w w2 h ⟨0, 0, 0, 0⟩) := P1.out.below hb2
    have hbl := Sg.belows_len L L.length
    have hlr := l13Learn (some ⟨g, off, none⟩) cap L bo bc (belows L L.length) w.heap.size 0 h.who h.has h.kept h.last k true w2 h60 hbl (Sg.belows_in L _ h60) (HR.out.below P2.out.bel) (Lst.own_rd hown) P2.out.hh hbd.1 hbd.2.1
    rw [hbl] at hlr ⊢
    unfold LearnPost at hlr
    clear hall hown hb2 P1 hbl
    generalize learnB L (belows L L.length) h.who h.has k true = lb at HTB HTH hlr
    go_wp2_with fail
    refine hlr.mono ?_
    rintro e w3 ⟨rfl, d, hw3⟩
    cases lb
    · have P3 : Hid (HzO w w3 h ⟨0, 0, 0, 0⟩) := by
        rw [hw3]
        exact P2.out.below ⟨rfl, rfl, rfl, Nat.le_refl _, fun _ _ => rfl⟩
      clear hw3 hlr P2
      obtain ⟨W, hW, b0, b1, b2, b3, hB⟩ := P3.out.put h
      have HW : Hid (W = _) := hW
      obtain ⟨c0, c1, c2, c3⟩ := cellsH P3.out.hh
      obtain ⟨z0, z1, z2, z3⟩ := cellsH P3.out.zz
      have f0 := P3.out.zz.f0
      have f1 := P3.out.zz.f1
      have f2 := P3.out.zz.f2
      have f3 := P3.out.zz.f3
      simp only [Nat.zero_add] at f1 f2 f3
      clear hW
      go_wp2
      rw [← HW.out]
      refine bodyPost_ret (v := .tuple #[.agg #[.int .i64 h.who, .int .i64 h.has, .int .i64 h.kept, .int .i64 h.last], .bool false]) (by simp [results, Tryz.f11, go_sem, b0, b1, b2, b3]) rfl ?_
      exact ⟨by rw [HTH.out, HTB.out]; rfl, hB⟩
    · generalize hnh : orB h.has ((belows L L.length).getD k.toNat 0) = nh at HTH hw3
      have P3 : Hid (HzO w w3 { h with has := nh } ⟨0, 0, 0, 0⟩) := by
        have e : w3 = { w2.setCell ⟨w.heap.size, 0 + 1, none⟩ (.int .i64 nh) with drawn := d } := hw3
        rw [e]
        have q : HzO w (w2.setCell ⟨w.heap.size, 0 + 1, none⟩ (.int .i64 nh)) { h with has := nh } ⟨0, 0, 0, 0⟩ := ⟨P2.out.bel.setCell (p := ⟨w.heap.size, 0 + 1, none⟩) (Nat.le_refl _) _, hat_has P2.out.hh nh, hat_other P2.out.zz (by omega) _⟩
        exact q.below ⟨rfl, rfl, rfl, Nat.le_refl _, fun _ _ => rfl⟩
      clear hw3 hlr P2 hnh
      obtain ⟨W, hW, b0, b1, b2, b3, hB⟩ := P3.out.put { h with has := nh }
      have HW : Hid (W = _) := hW
      obtain ⟨c0, c1, c2, c3⟩ := cellsH P3.out.hh
      obtain ⟨z0, z1, z2, z3⟩ := cellsH P3.out.zz
      have f0 := P3.out.zz.f0
      have f1 := P3.out.zz.f1
      have f2 := P3.out.zz.f2
      have f3 := P3.out.zz.f3
      simp only [Nat.zero_add] at f1 f2 f3
      dsimp only at b0 b1 b2 b3 c0 c1 c2 c3 HW
      clear hW
      go_wp2
      rw [← HW.out]
      refine bodyPost_ret (v := .tuple #[.agg #[.int .i64 h.who, .int .i64 nh, .int .i64 h.kept, .int .i64 h.last], .bool true]) (by simp [results, Tryz.f11, go_sem, b0, b1, b2, b3]) rfl ?_
      exact ⟨by rw [HTH.out, HTB.out]; rfl, hB⟩

set_option maxHeartbeats 3200000 in
theorem specLearnsAll (g off cap : Nat) (L : List K) (h : Hd) (k : Int) (w : World) (hcap : L.length ≤ cap) (hw : WordsOk L) (hr : RdK w (some ⟨g, off, none⟩) L) (hk : H64 h) :
    Calls Tryz.prog 12 #[.slice (some ⟨g, off, none⟩) L.length cap, .agg #[.int .i64 h.who, .int .i64 h.has, .int .i64 h.kept, .int .i64 h.last], .int .i64 k] w fun e w' => e = .returned (.tuple #[.agg #[.int .i64 (learnedH L h k false).who, .int .i64 (learnedH L h k false).has, .int .i64 (learnedH L h k false).kept, .int .i64 (learnedH L h k false).last], .bool (learnedB L h k false)]) ∧ Below w.heap.size w w' := by
  have P0 : Hid (HzO w ((w.alloc (.cells #[.int .i64 h.who, .int .i64 h.has, .int .i64 h.kept, .int .i64 h.last] 26)).alloc (.cells #[.int .i64 0, .int .i64 0, .int .i64 0, .int .i64 0] 26)) h ⟨0, 0, 0, 0⟩) := hzo_new w h _
  have HR : Hid (RdK w (some ⟨g, off, none⟩) L) := hr
  clear hr
  go_enter Tryz.func12, Tryz.ntmps12
  go_upto_region 1 with fail
  generalize (w.alloc (.cells #[.int .i64 h.who, .int .i64 h.has, .int .i64 h.kept, .int .i64 h.last] 26)).alloc (.cells #[.int .i64 0, .int .i64 0, .int .i64 0, .int .i64 0] 26) = V at P0 ⊢
  obtain ⟨a0, a1, a2, a3⟩ := cellsH P0.out.hh
  have hho := specHandOk g off cap L h V hcap hw (HR.out.below P0.out.bel) hk
  go_wp2_with fail
  refine hho.mono ?_
  rintro e w1 ⟨rfl, hb1⟩
  have P1 : Hid (HzO w w1 h ⟨0, 0, 0, 0⟩) := P0.out.below hb1
  clear P0 hho hb1 a0 a1 a2 a3
  cases ho : handOkB L h
  · have HT : Hid (learnedH L h k false = ⟨0, 0, 0, 0⟩ ∧ learnedB L h k false = false) := by unfold learnedH learnedB; rw [ho]; exact ⟨rfl, rfl⟩
    obtain ⟨W, hW, b0, b1, b2, b3, hB⟩ := P1.out.put ⟨0, 0, 0, 0⟩
    have HW : Hid (W = _) := hW
    obtain ⟨z0, z1, z2, z3⟩ := cellsH P1.out.zz
    have f0 := P1.out.zz.f0
    have f1 := P1.out.zz.f1
    have f2 := P1.out.zz.f2
    have f3 := P1.out.zz.f3
    simp only [Nat.zero_add] at f1 f2 f3
    dsimp only at b0 b1 b2 b3 HW
    clear ho hW
    go_wp2
    rw [← HW.out]
    refine bodyPost_ret (v := .tuple #[.agg #[.int .i64 0, .int .i64 0, .int .i64 0, .int .i64 0], .bool false]) (by simp [results, Tryz.f12, go_sem, b0, b1, b2, b3]) rfl ?_
    exact ⟨by rw [HT.out.1, HT.out.2], hB⟩
  · have hpt := ho
    unfold handOkB at hpt
    rw [Bool.and_eq_true] at hpt
    obtain ⟨hl, hok⟩ := hpt
    have hbd := hok_parts hk hl hok
    have h60 := ((Lc.lace_iff L).1 hl).1
    have HTB : Hid (learnedB L h k false = learnB L (belows L L.length) h.who h.has k false) := by show _ = _; unfold learnedB; rw [ho]; rfl
    have HTH : Hid (learnedH L h k false = if learnB L (belows L L.length) h.who h.has k false then { h with has := orB h.has ((belows L L.length).getD k.toNat 0) } else h) := by show _ = _; unfold learnedH; rw [if_pos ho]
    have hall := Sg.l4All (some ⟨g, off, none⟩) cap L w1 h60 (Sg.frm_lace hl) (HR.out.below P1.out.bel)
    clear ho hok
    go_wp2_with fail
    refine hall.mono ?_
    rintro e w2 ⟨bo, bc, rfl, hown, hb2⟩
    have P2 : Hid (HzO w w2 h ⟨0, 0, 0, 0⟩) := P1.out.below hb2
    have hbl := Sg.belows_len L L.length
    have hlr := l13Learn (some ⟨g, off, none⟩) cap L bo bc (belows L L.length) w.heap.size 0 h.who h.has h.kept h.last k false w2 h60 hbl (Sg.belows_in L _ h60) (HR.out.below P2.out.bel) (Lst.own_rd hown) P2.out.hh hbd.1 hbd.2.1
    rw [hbl] at hlr ⊢
    unfold LearnPost at hlr
    clear hall hown hb2 P1 hbl
    generalize learnB L (belows L L.length) h.who h.has k false = lb at HTB HTH hlr
    go_wp2_with fail
    refine hlr.mono ?_
    rintro e w3 ⟨rfl, d, hw3⟩
    cases lb
    · have P3 : Hid (HzO w w3 h ⟨0, 0, 0, 0⟩) := by
        rw [hw3]
        exact P2.out.below ⟨rfl, rfl, rfl, Nat.le_refl _, fun _ _ => rfl⟩
      clear hw3 hlr P2
      obtain ⟨W, hW, b0, b1, b2, b3, hB⟩ := P3.out.put h
      have HW : Hid (W = _) := hW
      obtain ⟨c0, c1, c2, c3⟩ := cellsH P3.out.hh
      obtain ⟨z0, z1, z2, z3⟩ := cellsH P3.out.zz
      have f0 := P3.out.zz.f0
      have f1 := P3.out.zz.f1
      have f2 := P3.out.zz.f2
      have f3 := P3.out.zz.f3
      simp only [Nat.zero_add] at f1 f2 f3
      clear hW
      go_wp2
      rw [← HW.out]
      refine bodyPost_ret (v := .tuple #[.agg #[.int .i64 h.who, .int .i64 h.has, .int .i64 h.kept, .int .i64 h.last], .bool false]) (by simp [results, Tryz.f12, go_sem, b0, b1, b2, b3]) rfl ?_
      exact ⟨by rw [HTH.out, HTB.out]; rfl, hB⟩
    · generalize hnh : orB h.has ((belows L L.length).getD k.toNat 0) = nh at HTH hw3
      have P3 : Hid (HzO w w3 { h with has := nh } ⟨0, 0, 0, 0⟩) := by
        have e : w3 = { w2.setCell ⟨w.heap.size, 0 + 1, none⟩ (.int .i64 nh) with drawn := d } := hw3
        rw [e]
        have q : HzO w (w2.setCell ⟨w.heap.size, 0 + 1, none⟩ (.int .i64 nh)) { h with has := nh } ⟨0, 0, 0, 0⟩ := ⟨P2.out.bel.setCell (p := ⟨w.heap.size, 0 + 1, none⟩) (Nat.le_refl _) _, hat_has P2.out.hh nh, hat_other P2.out.zz (by omega) _⟩
        exact q.below ⟨rfl, rfl, rfl, Nat.le_refl _, fun _ _ => rfl⟩
      clear hw3 hlr P2 hnh
      obtain ⟨W, hW, b0, b1, b2, b3, hB⟩ := P3.out.put { h with has := nh }
      have HW : Hid (W = _) := hW
      obtain ⟨c0, c1, c2, c3⟩ := cellsH P3.out.hh
      obtain ⟨z0, z1, z2, z3⟩ := cellsH P3.out.zz
      have f0 := P3.out.zz.f0
      have f1 := P3.out.zz.f1
      have f2 := P3.out.zz.f2
      have f3 := P3.out.zz.f3
      simp only [Nat.zero_add] at f1 f2 f3
      dsimp only at b0 b1 b2 b3 c0 c1 c2 c3 HW
      clear hW
      go_wp2
      rw [← HW.out]
      refine bodyPost_ret (v := .tuple #[.agg #[.int .i64 h.who, .int .i64 nh, .int .i64 h.kept, .int .i64 h.last], .bool true]) (by simp [results, Tryz.f12, go_sem, b0, b1, b2, b3]) rfl ?_
      exact ⟨by rw [HTH.out, HTB.out]; rfl, hB⟩
/-- the document's Keeps and Forgets -/
def keptH (L : List K) (h : Hd) : Hd := if handOkB L h then ⟨h.who, h.has, h.has, lastTo L h.who h.has L.length⟩ else ⟨0, 0, 0, 0⟩
def forgotH (L : List K) (h : Hd) : Hd := if handOkB L h then ⟨h.who, h.kept, h.kept, h.last⟩ else ⟨0, 0, 0, 0⟩

end Rm
end Go.Proofs.YtfjmenhofllchaaGreatDoor

namespace Go.Proofs.YtfjmenhofllchaaGreatDoor
open Go.RowKit
set_option maxRecDepth 100000
set_option linter.unusedVariables false
namespace Rm
open Kn (K okK)
open Bit (bit withB)
open Lc (at' RdK laceB WordsOk)
open Sg (bel belows closedTo orB)

/-- the document's NextRound -/
def nextRI (L : List K) (h : Hd) : Int := if handOkB L h then nextI L h.has h.last else -1
theorem hok_last {L : List K} {h : Hd} (x : hokB L h = true) : h.last < (L.length : Int) := by
  unfold hokB at x
  simp only [Bool.and_eq_true, beq_iff_eq] at x
  have := lastTo_bd L h.who h.kept L.length
  rw [← x.2.2.2.2.2.2.2.2] at this
  exact this.2

set_option maxHeartbeats 1600000 in
theorem specNextRound (g off cap : Nat) (L : List K) (h : Hd) (w : World) (hcap : L.length ≤ cap) (hw : WordsOk L) (hr : RdK w (some ⟨g, off, none⟩) L) (hk : H64 h) :
    Calls Tryz.prog 26 #[.slice (some ⟨g, off, none⟩) L.length cap, .agg #[.int .i64 h.who, .int .i64 h.has, .int .i64 h.kept, .int .i64 h.last]] w fun e w' => e = .returned (.int .i64 (nextRI L h)) ∧ Below w.heap.size w w' := by
  have P0 : Hid (Below w.heap.size w (w.alloc (.cells #[.int .i64 h.who, .int .i64 h.has, .int .i64 h.kept, .int .i64 h.last] 26)) ∧ HAt (w.alloc (.cells #[.int .i64 h.who, .int .i64 h.has, .int .i64 h.kept, .int .i64 h.last] 26)) w.heap.size 0 h) := ⟨(Below.refl _ _).alloc (Nat.le_refl _) _, hat_new w h _⟩
  have HR : Hid (RdK w (some ⟨g, off, none⟩) L) := hr
  clear hr
  go_enter Tryz.func26, Tryz.ntmps26
  go_upto_region 1 with fail
  generalize w.alloc (.cells #[.int .i64 h.who, .int .i64 h.has, .int .i64 h.kept, .int .i64 h.last] 26) = V at P0 ⊢
  obtain ⟨a0, a1, a2, a3⟩ := cellsH P0.out.2
  have hho := specHandOk g off cap L h V hcap hw (HR.out.below P0.out.1) hk
  go_wp2_with fail
  refine hho.mono ?_
  rintro e w1 ⟨rfl, hb1⟩
  have P1 : Hid (Below w.heap.size w w1 ∧ HAt w1 w.heap.size 0 h) := ⟨P0.out.1.trans (hb1.mono P0.out.1.size), hat_below P0.out.2 hb1⟩
  clear P0 hho hb1 a0 a1 a2 a3
  cases ho : handOkB L h
  · have HT : Hid (nextRI L h = -1) := by show _ = _; unfold nextRI; rw [ho]; rfl
    clear ho
    go_wp2
    go_ret
    exact ⟨by rw [HT.out]; rfl, P1.out.1⟩
  · have hpt := ho
    unfold handOkB at hpt
    rw [Bool.and_eq_true] at hpt
    obtain ⟨hl, hok⟩ := hpt
    have hbd := hok_parts hk hl hok
    have h60 := ((Lc.lace_iff L).1 hl).1
    have HT : Hid (nextRI L h = nextI L h.has h.last) := by show _ = _; unfold nextRI; rw [if_pos ho]
    have hnx := l14Next (some ⟨g, off, none⟩) cap L h.who h.has h.kept h.last w1 h60 (Lc.lace_hands hl) (HR.out.below P1.out.1) hbd.1 hbd.2.1 (hok_last hok)
    obtain ⟨a0, a1, a2, a3⟩ := cellsH P1.out.2
    generalize nextI L h.has h.last = nr at HT hnx
    clear ho hok
    go_wp2_with fail
    refine hnx.mono ?_
    rintro e w2 ⟨rfl, hb2⟩
    have B2 : Below w.heap.size w w2 := P1.out.1.trans (hb2.mono P1.out.1.size)
    clear hnx hb2
    go_wp2
    go_ret
    exact ⟨by rw [HT.out]; rfl, B2⟩

end Rm
end Go.Proofs.YtfjmenhofllchaaGreatDoor

namespace Go.Proofs.YtfjmenhofllchaaGreatDoor
open Go.RowKit
set_option maxRecDepth 100000
set_option linter.unusedVariables false
namespace Rm
open Kn (K okK)
open Lc (at' RdK laceB flat OwnK cellsOf)
open Cur (At)

theorem hat_put4d {W : World} {b : Nat} {z : Hd} (x : HAt W b 0 z) (y : Hd) : HAt ((((W.setCell ⟨b, 0, none⟩ (.int .i64 y.who)).setCell ⟨b, 1, none⟩ (.int .i64 y.has)).setCell ⟨b, 2, none⟩ (.int .i64 y.kept)).setCell ⟨b, 3, none⟩ (.int .i64 y.last)) b 0 y := by
  have q := hput x (.int .i64 y.who) (.int .i64 y.has) (.int .i64 y.kept) (.int .i64 y.last)
  have f1 := x.f1
  have f2 := x.f2
  have f3 := x.f3
  exact ⟨by simpa using x.lt, q.1, by simpa using q.2.1, by simpa using q.2.2.1, by simpa using q.2.2.2, by simpa using x.f0, by simpa using f1, by simpa using f2, by simpa using f3⟩
theorem hat_grown {w w' : World} {c b o : Nat} {h : Hd} (x : HAt w b o h) (hg : w.grownBy w' (some c)) (hb : b ≠ c) : HAt w' b o h := by
  have e := hg.block b x.lt (by simp; omega)
  exact ⟨Nat.lt_of_lt_of_le x.lt hg.size, (World.cell?_of_block (a := ⟨b, o, none⟩) e).trans x.c0, (World.cell?_of_block (a := ⟨b, o + 1, none⟩) e).trans x.c1, (World.cell?_of_block (a := ⟨b, o + 2, none⟩) e).trans x.c2, (World.cell?_of_block (a := ⟨b, o + 3, none⟩) e).trans x.c3,
    (World.frozen?_of_block (a := ⟨b, o, none⟩) e).trans x.f0, (World.frozen?_of_block (a := ⟨b, o + 1, none⟩) e).trans x.f1, (World.frozen?_of_block (a := ⟨b, o + 2, none⟩) e).trans x.f2, (World.frozen?_of_block (a := ⟨b, o + 3, none⟩) e).trans x.f3⟩

/-- a list and a hand, drawn so far: the answer's own block is w's next one, the hand lies in block b -/
structure HlSt (c : Nat) (a : Option Addr) (len cap : Nat) (w wr : World) (v : Value) (L : List K) (b : Nat) (h : Hd) : Prop where
  at' : At c a len cap wr
  gr : w.grownBy wr (some c)
  lo : OwnK 36 (b + 1) wr v L
  l61 : L.length ≤ 61
  wd : ∀ k ∈ L, k.word.size ≤ 13
  ha : HAt wr b 0 h
  ze : HAt wr w.heap.size 0 ⟨0, 0, 0, 0⟩
  bw : w.heap.size < b
  h64 : H64 h
theorem HlSt.grown {c : Nat} {a : Option Addr} {len cap : Nat} {w wr w1 : World} {v : Value} {L : List K} {b : Nat} {h : Hd} (s : HlSt c a len cap w wr v L b h) (hc : c < w.heap.size) (hA : At c a len cap w1) (hG : wr.grownBy w1 (some c)) : HlSt c a len cap w w1 v L b h :=
  ⟨hA, Cur.grownBy_trans s.gr hG, ownK_grown s.lo hG (by have := s.bw; omega), s.l61, s.wd, hat_grown s.ha hG (by have := s.bw; omega), hat_grown s.ze hG (by omega), s.bw, s.h64⟩
theorem HlSt.below {c : Nat} {a : Option Addr} {len cap : Nat} {w wr w1 : World} {v : Value} {L : List K} {b : Nat} {h : Hd} (s : HlSt c a len cap w wr v L b h) (hb : Below wr.heap.size wr w1) : HlSt c a len cap w w1 v L b h :=
  ⟨s.at'.below hb, Cur.grownBy_trans s.gr ⟨hb.os, hb.tape, hb.output, hb.size, fun i hi _ => hb.block i hi⟩, Lc.ownK_below s.lo hb, s.l61, s.wd, hat_below s.ha hb, hat_below s.ze hb, s.bw, s.h64⟩
/-- a store into the hand -/
theorem HlSt.store {c : Nat} {a : Option Addr} {len cap : Nat} {w wr : World} {v : Value} {L : List K} {b : Nat} {h h' : Hd} (s : HlSt c a len cap w wr v L b h) (hc : c < w.heap.size) (hcb : len = 0 ∨ ∃ b off, a = some ⟨b, off, none⟩ ∧ b < w.heap.size) (j : Nat) (u : Value) (hh : HAt (wr.setCell ⟨b, j, none⟩ u) b 0 h') (h64 : H64 h') : HlSt c a len cap w (wr.setCell ⟨b, j, none⟩ u) v L b h' where
  at' := Kn.At.put s.at' (by have := s.bw; omega) hcb (by have := s.bw; omega) j u
  gr := by
    refine ⟨s.gr.os, s.gr.tape, s.gr.output, by simpa using s.gr.size, fun k hk hne => ?_⟩
    rw [Below.heap_setCell wr ⟨b, j, none⟩ u k (by have := s.bw; simp; omega)]
    exact s.gr.block k hk hne
  lo := by
    obtain ⟨h1, h2⟩ := s.lo
    refine ⟨?_, h2⟩
    obtain ⟨q1, q2⟩ := h1
    refine ⟨q1, ?_⟩
    rcases q2 with q2 | ⟨g, cp, cur, e, hB, hg, rest⟩
    · exact .inl q2
    · exact .inr ⟨g, cp, cur, e, hB, (Below.heap_setCell wr ⟨b, j, none⟩ u g (by simp; omega)).trans hg, rest⟩
  l61 := s.l61
  wd := s.wd
  ha := hh
  ze := hat_other s.ze (by have := s.bw; omega) u
  bw := s.bw
  h64 := h64

/-- how the drawing of a list and a hand ends -/
def HlPost (c : Nat) (a : Option Addr) (len cap : Nat) (w : World) (e : Ending) (w' : World) : Prop := ∃ v L h, e = .returned (.tuple #[v, .agg #[.int .i64 (h : Hd).who, .int .i64 h.has, .int .i64 h.kept, .int .i64 h.last]]) ∧ At c a len cap w' ∧ w.grownBy w' (some c) ∧ OwnK 36 w.heap.size w' v L ∧ L.length ≤ 61 ∧ (∀ k ∈ L, k.word.size ≤ 13) ∧ H64 h

/-- what lies there while a hand of the room is drawn: V is where that began -/
structure RgPre (c : Nat) (a : Option Addr) (len cap : Nat) (w : World) (R : Ro) (rb B : Nat) (X : World) : Prop where
  at' : At c a len cap X
  gr : w.grownBy X (some c)
  ze : HAt X w.heap.size 0 ⟨0, 0, 0, 0⟩
  own : X.ownsRow B 36 4 R.lv R.L.length (flat R.L)
  c0 : X.cell? ⟨rb, 0, none⟩ = some R.lv
  c2 : X.cell? ⟨rb, 2, none⟩ = some (.slice (some ⟨R.gh, 0, none⟩) 4 R.hc)
  ha : ∀ i, i < 4 → HAt X R.gh (i * 4) (R.hs i)
  rl : rb < X.heap.size
theorem RgPre.grown {c : Nat} {a : Option Addr} {len cap : Nat} {w : World} {R : Ro} {rb B : Nat} {X Y : World} (s : RgPre c a len cap w R rb B X) (hc : c < w.heap.size) (hB : w.heap.size ≤ B) (hrb : w.heap.size ≤ rb) (hgh : w.heap.size ≤ R.gh) (hA : At c a len cap Y) (hG : X.grownBy Y (some c)) : RgPre c a len cap w R rb B Y where
  at' := hA
  gr := Cur.grownBy_trans s.gr hG
  ze := hat_grown s.ze hG (by omega)
  own := s.own.kept hG (by
    by_cases h : R.lv.ownBlock = none
    · exact .inl h
    · refine .inr (fun e => ?_)
      have := (World.ownsRow.lt s.own c e).1
      omega)
  c0 := hG.cell s.c0 (by simp; omega)
  c2 := hG.cell s.c2 (by simp; omega)
  ha := fun i hi => hat_grown (s.ha i hi) hG (by omega)
  rl := Nat.lt_of_lt_of_le s.rl hG.size
theorem RgPre.below {c : Nat} {a : Option Addr} {len cap : Nat} {w : World} {R : Ro} {rb B : Nat} {X Y : World} (s : RgPre c a len cap w R rb B X) (hb : Below X.heap.size X Y) : RgPre c a len cap w R rb B Y where
  at' := s.at'.below hb
  gr := Cur.grownBy_trans s.gr ⟨hb.os, hb.tape, hb.output, hb.size, fun i hi _ => hb.block i hi⟩
  ze := hat_below s.ze hb
  own := Fm.row_below s.own hb
  c0 := (hb.cell (p := ⟨rb, 0, none⟩) s.rl).trans s.c0
  c2 := (hb.cell (p := ⟨rb, 2, none⟩) s.rl).trans s.c2
  ha := fun i hi => hat_below (s.ha i hi) hb
  rl := Nat.lt_of_lt_of_le s.rl hb.size
/-- what the loads read -/
def RgS (R : Ro) (rb : Nat) (X : World) : Prop := X.cell? ⟨rb, 2, none⟩ = some (.slice (some ⟨R.gh, 0, none⟩) 4 R.hc) ∧ ∀ i, i < 4 → X.cell? ⟨R.gh, i * 4, none⟩ = some (.int .i64 (R.hs i).who) ∧ X.cell? ⟨R.gh, i * 4 + 1, none⟩ = some (.int .i64 (R.hs i).has) ∧ X.cell? ⟨R.gh, i * 4 + 2, none⟩ = some (.int .i64 (R.hs i).kept) ∧ X.cell? ⟨R.gh, i * 4 + 3, none⟩ = some (.int .i64 (R.hs i).last)
theorem RgPre.s {c : Nat} {a : Option Addr} {len cap : Nat} {w : World} {R : Ro} {rb B : Nat} {X : World} (x : RgPre c a len cap w R rb B X) : RgS R rb X := ⟨x.c2, fun i hi => ⟨(x.ha i hi).c0, (x.ha i hi).c1, (x.ha i hi).c2, (x.ha i hi).c3⟩⟩
/-- the hand is drawn: it lies in block b -/
def RgSt (c : Nat) (a : Option Addr) (len cap : Nat) (w : World) (R : Ro) (rb B : Nat) (W : World) (b : Nat) (h : Hd) : Prop := RgPre c a len cap w R rb B W ∧ HAt W b 0 h ∧ w.heap.size < b ∧ b ≠ rb ∧ H64 h
theorem rg_late {c : Nat} {a : Option Addr} {len cap : Nat} {w : World} {R : Ro} {rb B : Nat} {Y : World} (s : RgPre c a len cap w R rb B Y) (h : Hd) (h64 : H64 h) (t : TypeId) : RgSt c a len cap w R rb B (Y.alloc (.cells #[.int .i64 h.who, .int .i64 h.has, .int .i64 h.kept, .int .i64 h.last] t)) Y.heap.size h :=
  ⟨s.below ((Below.refl _ _).alloc (Nat.le_refl _) _), hat_new Y h t, s.ze.lt, by have := s.rl; omega, h64⟩
theorem rg_early {c : Nat} {a : Option Addr} {len cap : Nat} {w : World} {R : Ro} {rb B : Nat} {Y : World} {b : Nat} (s : RgPre c a len cap w R rb B Y) (hcb : len = 0 ∨ ∃ b off, a = some ⟨b, off, none⟩ ∧ b < w.heap.size) (hc : c < w.heap.size) (hz : HAt Y b 0 ⟨0, 0, 0, 0⟩) (hw : w.heap.size < b) (hrb : b ≠ rb) (hgh : b ≠ R.gh) (hrow : R.lv.ownBlock ≠ some b) (h : Hd) (h64 : H64 h) :
    RgSt c a len cap w R rb B ((((Y.setCell ⟨b, 0, none⟩ (.int .i64 h.who)).setCell ⟨b, 1, none⟩ (.int .i64 h.has)).setCell ⟨b, 2, none⟩ (.int .i64 h.kept)).setCell ⟨b, 3, none⟩ (.int .i64 h.last)) b h := by
  have one : ∀ (X : World) (j : Nat) (u : Value), RgPre c a len cap w R rb B X → RgPre c a len cap w R rb B (X.setCell ⟨b, j, none⟩ u) := fun X j u x => {
    at' := Kn.At.put x.at' (by omega) hcb (by omega) j u
    gr := ⟨x.gr.os, x.gr.tape, x.gr.output, by simpa using x.gr.size, fun k hk hne => by rw [Below.heap_setCell X ⟨b, j, none⟩ u k (by simp; omega)]; exact x.gr.block k hk hne⟩
    ze := hat_other x.ze (by omega) u
    own := by
      obtain ⟨q1, q2⟩ := x.own
      refine ⟨q1, ?_⟩
      rcases q2 with q2 | ⟨g, cp, cur, e, hB, hg, rest⟩
      · exact .inl q2
      · refine .inr ⟨g, cp, cur, e, hB, (Below.heap_setCell X ⟨b, j, none⟩ u g ?_).trans hg, rest⟩
        intro eg
        simp only at eg
        exact hrow (by rw [e, ← eg]; rfl)
    c0 := (World.cell?_of_block (a := ⟨rb, 0, none⟩) (Below.heap_setCell X ⟨b, j, none⟩ u rb (Ne.symm hrb))).trans x.c0
    c2 := (World.cell?_of_block (a := ⟨rb, 2, none⟩) (Below.heap_setCell X ⟨b, j, none⟩ u rb (Ne.symm hrb))).trans x.c2
    ha := fun i hi => hat_other (x.ha i hi) (Ne.symm hgh) u
    rl := by simpa using x.rl }
  exact ⟨one _ _ _ (one _ _ _ (one _ _ _ (one _ _ _ s))), hat_put4d hz h, hw, hrb, h64⟩

/-- the hand laid into the answer's block -/
theorem HlSt.fin {c : Nat} {a : Option Addr} {len cap : Nat} {w wr : World} {v : Value} {L : List K} {b : Nat} {h : Hd} (s : HlSt c a len cap w wr v L b h) (hc : c < w.heap.size) (hcb : len = 0 ∨ ∃ b off, a = some ⟨b, off, none⟩ ∧ b < w.heap.size) (d : Nat) :
    ∃ W, W = ((((wr.setCell ⟨w.heap.size, 0, none⟩ (.int .i64 h.who)).setCell ⟨w.heap.size, 1, none⟩ (.int .i64 h.has)).setCell ⟨w.heap.size, 2, none⟩ (.int .i64 h.kept)).setCell ⟨w.heap.size, 3, none⟩ (.int .i64 h.last)) ∧ HAt W w.heap.size 0 h ∧ HlPost c a len cap w (.returned (.tuple #[v, .agg #[.int .i64 h.who, .int .i64 h.has, .int .i64 h.kept, .int .i64 h.last]])) (W.drewN d) := by
  refine ⟨_, rfl, hat_put4d s.ze h, v, L, h, rfl, ?_, ?_, ?_, s.l61, s.wd, s.h64⟩
  · have := Kn.At.put (Kn.At.put (Kn.At.put (Kn.At.put s.at' (kb := w.heap.size) (by omega) hcb (Nat.le_refl _) 0 (.int .i64 h.who)) (by omega) hcb (Nat.le_refl _) 1 (.int .i64 h.has)) (by omega) hcb (Nat.le_refl _) 2 (.int .i64 h.kept)) (by omega) hcb (Nat.le_refl _) 3 (.int .i64 h.last)
    exact this.below ⟨rfl, rfl, rfl, Nat.le_refl _, fun _ _ => rfl⟩
  · refine ⟨s.gr.os, s.gr.tape, s.gr.output, by simpa using s.gr.size, fun k hk hne => ?_⟩
    show ((((wr.setCell ⟨w.heap.size, 0, none⟩ (.int .i64 h.who)).setCell ⟨w.heap.size, 1, none⟩ (.int .i64 h.has)).setCell ⟨w.heap.size, 2, none⟩ (.int .i64 h.kept)).setCell ⟨w.heap.size, 3, none⟩ (.int .i64 h.last)).heap[k]? = _
    have q : k ≠ w.heap.size := by omega
    rw [Below.heap_setCell _ ⟨w.heap.size, 3, none⟩ _ k q, Below.heap_setCell _ ⟨w.heap.size, 2, none⟩ _ k q, Below.heap_setCell _ ⟨w.heap.size, 1, none⟩ _ k q, Below.heap_setCell _ ⟨w.heap.size, 0, none⟩ _ k q]
    exact s.gr.block k hk hne
  · obtain ⟨h1, h2⟩ := s.lo
    refine ⟨?_, h2⟩
    obtain ⟨q1, q2⟩ := h1
    refine ⟨q1, ?_⟩
    rcases q2 with q2 | ⟨g, cp, cur, e, hB, hg, rest⟩
    · exact .inl q2
    · have hbw := s.bw
      refine .inr ⟨g, cp, cur, e, by omega, ?_, rest⟩
      show ((((wr.setCell ⟨w.heap.size, 0, none⟩ (.int .i64 h.who)).setCell ⟨w.heap.size, 1, none⟩ (.int .i64 h.has)).setCell ⟨w.heap.size, 2, none⟩ (.int .i64 h.kept)).setCell ⟨w.heap.size, 3, none⟩ (.int .i64 h.last)).heap[g]? = _
      have q : g ≠ w.heap.size := by omega
      rw [Below.heap_setCell _ ⟨w.heap.size, 3, none⟩ _ g q, Below.heap_setCell _ ⟨w.heap.size, 2, none⟩ _ g q, Below.heap_setCell _ ⟨w.heap.size, 1, none⟩ _ g q, Below.heap_setCell _ ⟨w.heap.size, 0, none⟩ _ g q]
      exact hg

theorem hat_zero (w : World) (t : TypeId) : HAt (w.alloc (.cells #[.int .i64 0, .int .i64 0, .int .i64 0, .int .i64 0] t)) w.heap.size 0 ⟨0, 0, 0, 0⟩ := hat_new w ⟨0, 0, 0, 0⟩ t

set_option maxHeartbeats 6400000 in
theorem l13Draw (HD : DrawsRoom) (HDC : DrawsRoomC) (c : Nat) (a : Option Addr) (len cap : Nat) (w : World) (hl : len ≤ 4096) (hc : At c a len cap w) :
    Calls Tryz.prog 36 #[.pointer (some ⟨c, 0, none⟩)] w (HlPost c a len cap w) := by
  have hcw : c < w.heap.size := hc.lt
  have HDD : Hid DrawsRoom := HD
  have HDX : Hid DrawsRoomC := HDC
  have HZ0 : Hid (HAt (w.alloc (.cells #[.int .i64 0, .int .i64 0, .int .i64 0, .int .i64 0] 26)) w.heap.size 0 ⟨0, 0, 0, 0⟩ ∧ At c a len cap (w.alloc (.cells #[.int .i64 0, .int .i64 0, .int .i64 0, .int .i64 0] 26)) ∧ w.grownBy (w.alloc (.cells #[.int .i64 0, .int .i64 0, .int .i64 0, .int .i64 0] 26)) (some c)) :=
    ⟨hat_zero w _, hc.below ((Below.refl _ _).alloc (Nat.le_refl _) _), World.grownBy_alloc _ _ _⟩
  clear HD HDC
  go_enter Tryz.func36, Tryz.ntmps36
  go_wp2_with fail
  generalize hw0 : w.alloc (.cells #[.int .i64 0, .int .i64 0, .int .i64 0, .int .i64 0] 26) = w0 at HZ0 ⊢
  refine (HDX.out c a len cap _ hl HZ0.out.2.1).mono ?_
  rintro e w1 ⟨R, rfl, hP, hA1, hF1, ⟨hCo1, _⟩, hCB1⟩
  obtain ⟨ro, cp, hlv, ho, hz, _, hrd, _⟩ := own_lace hP.own
  have h60 := ((Lc.lace_iff R.L).1 hP.lace).1
  have HWD : Hid (∀ k ∈ R.L, k.word.size ≤ 13) := word_lace hP.lace
  obtain ⟨co, n, cc, hcv⟩ : ∃ co n cc, R.cv = .slice co n cc := by obtain ⟨co, cc, l, e, _⟩ := hCo1; exact ⟨co, l.length, cc, e⟩
  have HV : Hid (roV R = .agg #[.slice ro R.L.length cp, .slice co n cc, .slice (some ⟨R.gh, 0, none⟩) 4 R.hc, .int .i64 R.bad]) := by show _ = _; unfold roV; rw [hlv, hcv]
  rw [HV.out]
  have hs0 : w0.heap.size = w.heap.size + 1 := by rw [← hw0]; simp
  have HG1 : Hid (w.grownBy w1 (some c)) := Cur.grownBy_trans HZ0.out.2.2 hF1.grown
  have HZ1 : Hid (HAt w1 w.heap.size 0 ⟨0, 0, 0, 0⟩) := hat_grown HZ0.out.1 hF1.grown (by omega)
  have HP2 : Hid (Q4 (w1.alloc (.cells #[.slice ro R.L.length cp, .slice co n cc, .slice (some ⟨R.gh, 0, none⟩) 4 R.hc, .int .i64 R.bad] 107)) w1.heap.size (.slice ro R.L.length cp) (.slice co n cc) (.slice (some ⟨R.gh, 0, none⟩) 4 R.hc) (.int .i64 R.bad) ∧ Below w1.heap.size w1 (w1.alloc (.cells #[.slice ro R.L.length cp, .slice co n cc, .slice (some ⟨R.gh, 0, none⟩) 4 R.hc, .int .i64 R.bad] 107))) := ⟨q4_new _ _ _ _ _ _, (Below.refl _ _).alloc (Nat.le_refl _) _⟩
  go_upto_region 2 with fail
  generalize w1.alloc (.cells #[.slice ro R.L.length cp, .slice co n cc, .slice (some ⟨R.gh, 0, none⟩) 4 R.hc, .int .i64 R.bad] 107) = V at HP2 ⊢
  have hbV : Below w1.heap.size w1 V := HP2.out.2
  have hrl : w1.heap.size < V.heap.size := HP2.out.1.lt
  have HPV : Hid (RgPre c a len cap w R w1.heap.size w0.heap.size V) := ⟨hA1.below hbV, Cur.grownBy_trans HG1.out ⟨hbV.os, hbV.tape, hbV.output, hbV.size, fun i hi _ => hbV.block i hi⟩, hat_below HZ1.out hbV, Fm.row_below hP.own hbV, by rw [hlv]; exact HP2.out.1.c0, HP2.out.1.c2, fun i hi => hat_below (hP.hands i hi) hbV, hrl⟩
  have HOK : Hid (∀ i, i < 4 → H64 (R.hs i)) := fun i hi => by
    have q := hP.hok i hi
    have := q.h0
    have := q.h1
    have := q.k0
    have := q.k1
    exact ⟨by omega, by omega, by omega, by omega⟩
  have hghB : w.heap.size ≤ R.gh := by have := hP.gB; omega
  have hrbB : w.heap.size ≤ w1.heap.size := HG1.out.size
  have HCB : Hid (len = 0 ∨ ∃ b off, a = some ⟨b, off, none⟩ ∧ b < w.heap.size) := by
    rcases hc.bytes with h0 | ⟨b, off, ha, _, hb, _⟩
    · exact .inl h0
    · exact .inr ⟨b, off, ha, hb⟩
  have HFAR : Hid (V.heap.size ≠ w1.heap.size ∧ V.heap.size ≠ R.gh ∧ R.lv.ownBlock ≠ some V.heap.size ∧ w.heap.size < V.heap.size) := by
    refine ⟨by omega, by have := (HPV.out.ha 0 (by omega)).lt; omega, fun e => ?_, HPV.out.ze.lt⟩
    have := (World.ownsRow.lt HPV.out.own _ e).2
    omega
  have hlv0 : R.lv = .slice ro R.L.length cp := hlv
  generalize w1.heap.size = rb at HPV hrl hrbB HFAR ⊢
  clear hP hlv hA1 hF1 hCo1 hCB1 ho hz hrd HV HP2 HG1 hbV hcv HZ0 HZ1
  have HCALL : Hid (∀ X : World, RgPre c a len cap w R rb w0.heap.size X → Calls Tryz.prog 63 #[.pointer (some ⟨c, 0, none⟩), .int .i64 4] X fun e Y => ∃ x : Nat, e = .returned (.int .i64 (x : Int)) ∧ x < 4 ∧ RgPre c a len cap w R rb w0.heap.size Y ∧ X.grownBy Y (some c)) := fun X hX => by
    refine (Cur.below c a len cap 4 X hl (by omega) hX.at').mono ?_
    rintro e Y ⟨x, rfl, hx0, hx1, hAY, hGY⟩
    obtain ⟨p, rfl⟩ := Int.eq_ofNat_of_zero_le hx0
    exact ⟨p, rfl, by have := hx1 (by omega); omega, hX.grown hcw (by omega) hrbB hghB hAY hGY, hGY⟩
  have HVd : Hid (RgPre c a len cap w R rb w0.heap.size V.drew) := HPV.out.below (Below.refl _ V).drew
  have HVe : Hid (RgPre c a len cap w R rb w0.heap.size (V.drew.alloc (.cells #[.int .i64 0, .int .i64 0, .int .i64 0, .int .i64 0] 26)) ∧ HAt (V.drew.alloc (.cells #[.int .i64 0, .int .i64 0, .int .i64 0, .int .i64 0] 26)) V.heap.size 0 ⟨0, 0, 0, 0⟩) := ⟨HPV.out.below ((Below.refl _ V).drew.alloc (Nat.le_refl _) _), hat_zero V.drew _⟩
  have HVf : Hid (RgPre c a len cap w R rb w0.heap.size (V.alloc (.cells #[.int .i64 0, .int .i64 0, .int .i64 0, .int .i64 0] 26)).drew ∧ HAt (V.alloc (.cells #[.int .i64 0, .int .i64 0, .int .i64 0, .int .i64 0] 26)).drew V.heap.size 0 ⟨0, 0, 0, 0⟩) := ⟨HPV.out.below ((Below.refl _ V).alloc (Nat.le_refl _) _).drew, hat_drew (hat_zero V _)⟩
  have HAL : Hid (∀ Y : World, RgPre c a len cap w R rb w0.heap.size Y → RgPre c a len cap w R rb w0.heap.size (Y.alloc (.cells #[.int .i64 0, .int .i64 0, .int .i64 0, .int .i64 0] 26))) := fun Y h => h.below ((Below.refl _ Y).alloc (Nat.le_refl _) _)
  have HLA : Hid (∀ (Y : World) (x : Nat), RgPre c a len cap w R rb w0.heap.size Y → x < 4 → RgSt c a len cap w R rb w0.heap.size (Y.alloc (.cells #[.int .i64 (R.hs x).who, .int .i64 (R.hs x).has, .int .i64 (R.hs x).kept, .int .i64 (R.hs x).last] 26)) Y.heap.size (R.hs x)) := fun Y x pY hx => rg_late pY (R.hs x) (HOK.out x hx) _
  have HEA : Hid (∀ (Y : World) (x : Nat), RgPre c a len cap w R rb w0.heap.size Y → x < 4 → HAt Y V.heap.size 0 ⟨0, 0, 0, 0⟩ → RgSt c a len cap w R rb w0.heap.size ((((Y.setCell ⟨V.heap.size, 0, none⟩ (.int .i64 (R.hs x).who)).setCell ⟨V.heap.size, 1, none⟩ (.int .i64 (R.hs x).has)).setCell ⟨V.heap.size, 2, none⟩ (.int .i64 (R.hs x).kept)).setCell ⟨V.heap.size, 3, none⟩ (.int .i64 (R.hs x).last)) V.heap.size (R.hs x)) := fun Y x pY hx gz =>
    rg_early pY HCB.out hcw gz HFAR.out.2.2.2 HFAR.out.1 HFAR.out.2.1 HFAR.out.2.2.1 (R.hs x) (HOK.out x hx)
  go_cut [5] from 9 to 14 (fun p wx => ∃ b h, p = .pointer (some ⟨b, 0, none⟩) ∧ Hid (RgSt c a len cap w R rb w0.heap.size wx b h))
  case first =>
    go_region_held3 (fun X => X.cell? ⟨rb, 2, none⟩ = some (.slice (some ⟨R.gh, 0, none⟩) 4 R.hc) ∧ ∀ i, i < 4 → X.cell? ⟨R.gh, i * 4, none⟩ = some (.int .i64 (R.hs i).who) ∧ X.cell? ⟨R.gh, i * 4 + 1, none⟩ = some (.int .i64 (R.hs i).has) ∧ X.cell? ⟨R.gh, i * 4 + 2, none⟩ = some (.int .i64 (R.hs i).kept) ∧ X.cell? ⟨R.gh, i * 4 + 3, none⟩ = some (.int .i64 (R.hs i).last)) (first
        | exact HVd.out.s
        | exact HVe.out.1.s
        | exact HVf.out.1.s
        | exact PY.out.s
        | exact (HAL.out _ PY.out).s
        | exact (HLA.out _ _ PY.out hx4).1.s
        | exact (HEA.out _ _ PY.out hx4 GZ).1.s
        | go_keep) (first
        | (go_at_call 63
           (first
             | (refine (HCALL.out _ HVd.out).mono ?_; rintro e Y ⟨x, rfl, hx4, pY, gY⟩)
             | (refine (HCALL.out _ HVe.out.1).mono ?_; rintro e Y ⟨x, rfl, hx4, pY, gY⟩)
             | (refine (HCALL.out _ HVf.out.1).mono ?_; rintro e Y ⟨x, rfl, hx4, pY, gY⟩))
           have PY : Hid (RgPre c a len cap w R rb w0.heap.size Y) := pY
           have hx4i : (x : Int) < 4 := Int.ofNat_lt.2 hx4
           have z0 := (PY.out.ha x hx4).c0
           have z1 := (PY.out.ha x hx4).c1
           have z2 := (PY.out.ha x hx4).c2
           have z3 := (PY.out.ha x hx4).c3
           have y0 := ((HAL.out _ PY.out).ha x hx4).c0
           have y1 := ((HAL.out _ PY.out).ha x hx4).c1
           have y2 := ((HAL.out _ PY.out).ha x hx4).c2
           have y3 := ((HAL.out _ PY.out).ha x hx4).c3
           (first | (have GZ := hat_grown HVe.out.2 gY (by have := HFAR.out.2.2.2; omega)) | (have GZ := hat_grown HVf.out.2 gY (by have := HFAR.out.2.2.2; omega)) | skip)
           (first | (have g0 := GZ.c0; have g1 := GZ.c1; have g2 := GZ.c2; have g3 := GZ.c3; have f0 := GZ.f0; have f1 := GZ.f1; have f2 := GZ.f2; have f3 := GZ.f3; simp only [Nat.zero_add] at g1 g2 g3 f1 f2 f3) | skip)
           clear pY))
    all_goals go_wp2_with fail
    all_goals go_meet
    all_goals (first | exact ⟨_, _, rfl, HLA.out _ _ PY.out hx4⟩ | exact ⟨_, _, rfl, HEA.out _ _ PY.out hx4 GZ⟩)
  case rest =>
    obtain ⟨b, h, rfl, HR⟩ := hcut
    clear HVd HVe HVf HAL HLA HEA HCALL HPV
    have hle := hlv0
    obtain ⟨ro2, cp2, hlv2, ho2, hz2, _, hrd2, _⟩ := own_lace HR.out.1.own
    obtain ⟨hq1, hq2⟩ : ro2 = ro ∧ cp2 = cp := by
      rw [hlv0] at hlv2
      injection hlv2 with e1 _ e3
      exact ⟨e1.symm, e3.symm⟩
    subst hq1 hq2
    have c0 := HR.out.1.c0
    rw [hlv0] at c0
    have hcopy := l3CopyO ro2 cp2 R.L _ ho2 hz2 (by omega) hrd2
    have HRL : Hid (R.lv = .slice ro2 R.L.length cp2) := hlv0
    clear hlv2 ho2 hz2 hrd2 hle hlv0
    go_wp2_with fail
    refine hcopy.mono ?_
    rintro e w2 ⟨v, rfl, hO2, hb2⟩
    have HS2 : Hid (HlSt c a len cap w w2 v R.L b h) := ⟨HR.out.1.at'.below hb2, Cur.grownBy_trans HR.out.1.gr ⟨hb2.os, hb2.tape, hb2.output, hb2.size, fun i hi _ => hb2.block i hi⟩, ownK_base hO2 HR.out.2.1.lt, by omega, HWD.out, hat_below HR.out.2.1 hb2, hat_below HR.out.1.ze hb2, HR.out.2.2.1, HR.out.2.2.2.2⟩
    generalize R.L = L0 at HS2 HWD
    clear hcopy hO2 hb2 HR c0 HWD HRL HOK HFAR h60
    go_wp2_with fail
    refine (Cur.once c a len cap 10 _ hl (by omega) HS2.out.at').mono ?_
    rintro e w4 ⟨b4, rfl, hA4, hG4⟩
    have HS4 : Hid (HlSt c a len cap w w4 v L0 b h) := HS2.out.grown hcw hA4 hG4
    clear hA4 hG4 HS2
    go_upto_if 19 with fail
    go_cut [6] from 20 to 49 (fun lv wx => ∃ v L h, lv = v ∧ Hid (HlSt c a len cap w wx v L b h))
    case first =>
      cases b4
      · go_wp2_with fail
        go_meet
        exact ⟨v, L0, h, rfl, HS4⟩
      · go_wp2_with fail
        refine (Cur.below c a len cap 5 _ hl (by omega) HS4.out.at').mono ?_
        rintro e w5 ⟨x, rfl, hx0, hx5, hA5, hG5⟩
        have hx5 := hx5 (by omega)
        have HS5 : Hid (HlSt c a len cap w w5 v L0 b h) := HS4.out.grown hcw hA5 hG5
        clear hA5 hG5 HS4
        obtain ⟨g, cp3, rfl, hcp3, _, hgB, _, hrd3, _⟩ := Lc.ownK_shape HS5.out.lo
        have HWW : Hid (Lc.WordsOk L0) := fun k hk => by have := HS5.out.wd k hk; omega
        rcases (show x = 0 ∨ x = 1 ∨ x = 2 ∨ x = 3 ∨ x = 4 by omega) with hx00 | hx1 | hx2 | hx3 | hx4
        · subst hx00
          clear hx0 hx5
          go_wp2_with fail
          refine (l1From c a len cap (-1) 4 _ hl (by omega) (by omega) (by omega) HS5.out.at').mono ?_
          rintro e w7 ⟨y, rfl, hy, hA7, hG7⟩
          have HS6 : Hid (HlSt c a len cap w w7 (.slice (some ⟨g, 0, none⟩) L0.length cp3) L0 b h) := HS5.out.grown hcw hA7 hG7
          have HS7 : Hid (HlSt c a len cap w (w7.setCell ⟨b, 0, none⟩ (.int .i64 y)) (.slice (some ⟨g, 0, none⟩) L0.length cp3) L0 b { h with who := y }) := HS6.out.store hcw HCB.out 0 (.int .i64 y) (hat_who HS6.out.ha y) ⟨HS6.out.h64.h0, HS6.out.h64.h1, HS6.out.h64.k0, HS6.out.h64.k1⟩
          have d0 := HS6.out.ha.c0
          have f0 := HS6.out.ha.f0
          clear HS5 HS6 hA7 hG7
          go_wp2_with fail
          go_meet
          exact ⟨_, L0, _, rfl, HS7⟩
        · subst hx1
          clear hx0 hx5
          have hset := l4DrawSet c a len cap g cp3 L0 w5 hl HS5.out.at' (by have := HS5.out.bw; omega) HS5.out.l61 hcp3 HWW.out hrd3
          go_wp2_with fail
          refine (hset).mono ?_
          rintro e w7 ⟨y, rfl, hy, hA7, hG7⟩
          have HS6 : Hid (HlSt c a len cap w w7 (.slice (some ⟨g, 0, none⟩) L0.length cp3) L0 b h) := HS5.out.grown hcw hA7 hG7
          have HS7 : Hid (HlSt c a len cap w (w7.setCell ⟨b, 1, none⟩ (.int .i64 y)) (.slice (some ⟨g, 0, none⟩) L0.length cp3) L0 b { h with has := y }) := HS6.out.store hcw HCB.out 1 (.int .i64 y) (hat_has HS6.out.ha y) ⟨hy.1, hy.2, HS6.out.h64.k0, HS6.out.h64.k1⟩
          have d0 := HS6.out.ha.c1
          have f0 := HS6.out.ha.f1
          simp only [Nat.zero_add] at d0 f0
          clear HS5 HS6 hA7 hG7
          go_wp2_with fail
          go_meet
          exact ⟨_, L0, _, rfl, HS7⟩
        · subst hx2
          clear hx0 hx5
          have hset := l4DrawSet c a len cap g cp3 L0 w5 hl HS5.out.at' (by have := HS5.out.bw; omega) HS5.out.l61 hcp3 HWW.out hrd3
          go_wp2_with fail
          refine (hset).mono ?_
          rintro e w7 ⟨y, rfl, hy, hA7, hG7⟩
          have HS6 : Hid (HlSt c a len cap w w7 (.slice (some ⟨g, 0, none⟩) L0.length cp3) L0 b h) := HS5.out.grown hcw hA7 hG7
          have HS7 : Hid (HlSt c a len cap w (w7.setCell ⟨b, 2, none⟩ (.int .i64 y)) (.slice (some ⟨g, 0, none⟩) L0.length cp3) L0 b { h with kept := y }) := HS6.out.store hcw HCB.out 2 (.int .i64 y) (hat_kept HS6.out.ha y) ⟨HS6.out.h64.h0, HS6.out.h64.h1, hy.1, hy.2⟩
          have d0 := HS6.out.ha.c2
          have f0 := HS6.out.ha.f2
          simp only [Nat.zero_add] at d0 f0
          clear HS5 HS6 hA7 hG7
          go_wp2_with fail
          go_meet
          exact ⟨_, L0, _, rfl, HS7⟩
        · subst hx3
          clear hx0 hx5
          go_wp2_with fail
          refine (l3DrawAt c a len cap L0.length _ hl HS5.out.l61 HS5.out.at').mono ?_
          rintro e w7 ⟨y, rfl, hy, hA7, hG7⟩
          have HS6 : Hid (HlSt c a len cap w w7 (.slice (some ⟨g, 0, none⟩) L0.length cp3) L0 b h) := HS5.out.grown hcw hA7 hG7
          have HS7 : Hid (HlSt c a len cap w (w7.setCell ⟨b, 3, none⟩ (.int .i64 y)) (.slice (some ⟨g, 0, none⟩) L0.length cp3) L0 b { h with last := y }) := HS6.out.store hcw HCB.out 3 (.int .i64 y) (hat_last HS6.out.ha y) ⟨HS6.out.h64.h0, HS6.out.h64.h1, HS6.out.h64.k0, HS6.out.h64.k1⟩
          have d0 := HS6.out.ha.c3
          have f0 := HS6.out.ha.f3
          simp only [Nat.zero_add] at d0 f0
          clear HS5 HS6 hA7 hG7
          go_wp2_with fail
          go_meet
          exact ⟨_, L0, _, rfl, HS7⟩
        · subst hx4
          clear hx0 hx5
          go_wp2_with fail
          refine (l3DrawAny HDD.out c a len cap _ hl HS5.out.at').mono ?_
          rintro e w8 ⟨v8, L8, rfl, hO8, h61, hwd8, hA8, hG8⟩
          have HS8 : Hid (HlSt c a len cap w w8 v8 L8 b h) := ⟨hA8, Cur.grownBy_trans HS5.out.gr hG8, ownK_base hO8 HS5.out.ha.lt, h61, hwd8, hat_grown HS5.out.ha hG8 (by have := HS5.out.bw; omega), hat_grown HS5.out.ze hG8 (by omega), HS5.out.bw, HS5.out.h64⟩
          clear hO8 hA8 hG8 hwd8 HS5
          go_wp2_with fail
          go_meet
          exact ⟨v8, L8, h, rfl, HS8⟩
    case rest =>
      obtain ⟨v9, L9, h9, rfl, HS9⟩ := hcut
      clear HS4
      obtain ⟨W, hW, hH, hPo⟩ := HS9.out.fin hcw HCB.out 1
      obtain ⟨c0, c1, c2, c3⟩ := cellsH HS9.out.ha
      obtain ⟨z0, z1, z2, z3⟩ := cellsH HS9.out.ze
      obtain ⟨m0, m1, m2, m3⟩ := cellsH hH
      have f0 := HS9.out.ze.f0
      have f1 := HS9.out.ze.f1
      have f2 := HS9.out.ze.f2
      have f3 := HS9.out.ze.f3
      simp only [Nat.zero_add] at f1 f2 f3
      have HW : Hid (W = _) := hW
      have HPO : Hid _ := hPo
      clear hW hPo hH HS9 HDD HDX
      generalize w.heap.size = qb at c0 c1 c2 c3 z0 z1 z2 z3 m0 m1 m2 m3 f0 f1 f2 f3 HW ⊢
      go_wp2_with fail
      go_region
      all_goals go_wp2
      all_goals rw [← HW.out]
      all_goals refine bodyPost_ret (v := .tuple #[u6, .agg #[.int .i64 h9.who, .int .i64 h9.has, .int .i64 h9.kept, .int .i64 h9.last]]) (by simp [results, Tryz.f36, go_sem, m0, m1, m2, m3]) rfl ?_
      all_goals exact HPO.out

end Rm
end Go.Proofs.YtfjmenhofllchaaGreatDoor

namespace Go.Proofs.YtfjmenhofllchaaGreatDoor
open Go.RowKit
set_option maxRecDepth 100000
set_option linter.unusedVariables false
namespace Rm
open Kn (K okK)
open Lc (at' RdK laceB flat OwnK cellsOf)
open Cur (At)

/-- a list and a hand that a drawing handed back -/
structure DrawnH (w w' : World) (v : Value) (L : List K) (h : Hd) : Prop where
  dr : Drawn w.heap.size w w' v L
  h64 : H64 h

/-- four numbers laid into a new block that was there -/
theorem put_hand {w w1 W : World} {h : Hd} (hz : HAt W w.heap.size 0 ⟨0, 0, 0, 0⟩) (hb : Below w.heap.size w W) (v : Value) (L : List K) (hO : OwnK 36 (w.heap.size + 1) W v L) :
    ∃ X, X = ((((W.setCell ⟨w.heap.size, 0, none⟩ (.int .i64 h.who)).setCell ⟨w.heap.size, 1, none⟩ (.int .i64 h.has)).setCell ⟨w.heap.size, 2, none⟩ (.int .i64 h.kept)).setCell ⟨w.heap.size, 3, none⟩ (.int .i64 h.last)) ∧ HAt X w.heap.size 0 h ∧ Below w.heap.size w X ∧ OwnK 36 w.heap.size X v L := by
  refine ⟨_, rfl, hat_put4d hz h, (((hb.setCell (p := ⟨w.heap.size, 0, none⟩) (Nat.le_refl _) _).setCell (p := ⟨w.heap.size, 1, none⟩) (Nat.le_refl _) _).setCell (p := ⟨w.heap.size, 2, none⟩) (Nat.le_refl _) _).setCell (p := ⟨w.heap.size, 3, none⟩) (Nat.le_refl _) _, ?_⟩
  obtain ⟨h1, h2⟩ := hO
  refine ⟨?_, h2⟩
  obtain ⟨q1, q2⟩ := h1
  refine ⟨q1, ?_⟩
  rcases q2 with q2 | ⟨g, cp, cur, e, hB, hg, rest⟩
  · exact .inl q2
  · refine .inr ⟨g, cp, cur, e, by omega, ?_, rest⟩
    have q : g ≠ w.heap.size := by omega
    rw [Below.heap_setCell _ ⟨w.heap.size, 3, none⟩ _ g q, Below.heap_setCell _ ⟨w.heap.size, 2, none⟩ _ g q, Below.heap_setCell _ ⟨w.heap.size, 1, none⟩ _ g q, Below.heap_setCell _ ⟨w.heap.size, 0, none⟩ _ g q]
    exact hg

set_option maxHeartbeats 1600000 in
theorem drawHandOk (HD : DrawsRoom) (HDC : DrawsRoomC) (a : Option Addr) (len cap : Nat) (w : World) (hl : len ≤ 4096) (hc : Cur.Code w a len) :
    Calls Tryz.prog 58 #[.slice a len cap] w fun e w' => ∃ v L h, e = .returned (.tuple #[v, .agg #[.int .i64 (h : Hd).who, .int .i64 h.has, .int .i64 h.kept, .int .i64 h.last]]) ∧ DrawnH w w' v L h := by
  have HDD : Hid DrawsRoom := HD
  have HDX : Hid DrawsRoomC := HDC
  have HZ : Hid (HAt (w.alloc (.cells #[.int .i64 0, .int .i64 0, .int .i64 0, .int .i64 0] 26)) w.heap.size 0 ⟨0, 0, 0, 0⟩ ∧ Below w.heap.size w (w.alloc (.cells #[.int .i64 0, .int .i64 0, .int .i64 0, .int .i64 0] 26))) := ⟨hat_zero w _, (Below.refl _ _).alloc (Nat.le_refl _) _⟩
  have hc0 := code_below2 hc HZ.out.2
  clear HD HDC
  go_enter Tryz.func58, Tryz.ntmps58
  go_wp2_with fail
  generalize w.alloc (.cells #[.int .i64 0, .int .i64 0, .int .i64 0, .int .i64 0] 26) = w0 at HZ hc0 ⊢
  refine (Cur.new a len cap _ hl hc0).mono ?_
  rintro e w1 ⟨rfl, hA1, hb1⟩
  have HZ1 : Hid (HAt w1 w.heap.size 0 ⟨0, 0, 0, 0⟩ ∧ Below w.heap.size w w1) := ⟨hat_below HZ.out.1 hb1, HZ.out.2.trans (hb1.mono HZ.out.2.size)⟩
  have hw0 : w.heap.size < w0.heap.size := HZ.out.1.lt
  have hlt1 := hA1.lt
  clear HZ hb1
  go_wp2_with fail
  refine (l13Draw HDD.out HDX.out _ a len cap _ hl hA1).mono ?_
  rintro e w2 ⟨v, L, h, rfl, hA2, hG2, hO2, h61, hwd, h64⟩
  have hz2 := hat_grown HZ1.out.1 hG2 (by omega)
  have hb2 : Below w.heap.size w w2 := Draw.below_of_grown HZ1.out.2 (by omega) hG2
  obtain ⟨X, hX, hH, hbX, hOX⟩ := put_hand (w1 := w1) (h := h) hz2 hb2 v L (ownK_base hO2 (by omega))
  have HF : Hid (DrawnH w X v L h) := ⟨⟨hOX, h61, hwd, hbX⟩, h64⟩
  obtain ⟨z0, z1, z2, z3⟩ := cellsH hz2
  obtain ⟨m0, m1, m2, m3⟩ := cellsH hH
  have f0 := hz2.f0
  have f1 := hz2.f1
  have f2 := hz2.f2
  have f3 := hz2.f3
  simp only [Nat.zero_add] at f1 f2 f3
  have HX : Hid (X = _) := hX
  clear hX hH hbX hOX hz2 hb2 hO2 hG2 hA2 hwd h64 HZ1 hA1 hlt1
  go_wp2
  rw [← HX.out]
  refine bodyPost_ret (v := .tuple #[v, .agg #[.int .i64 h.who, .int .i64 h.has, .int .i64 h.kept, .int .i64 h.last]]) (by simp [results, Tryz.f58, go_sem, m0, m1, m2, m3]) rfl ?_
  exact ⟨v, L, h, rfl, HF.out⟩

end Rm
end Go.Proofs.YtfjmenhofllchaaGreatDoor

namespace Go.Proofs.YtfjmenhofllchaaGreatDoor
open Go.RowKit
set_option maxRecDepth 100000
set_option linter.unusedVariables false
namespace Rm
open Kn (K okK)
open Lc (at' RdK laceB flat OwnK cellsOf)
open Cur (At)

/-- a list and a hand, drawn: the answer's block is w's next one, then the cursor, the hand in block b -/
structure LnSt (c : Nat) (a : Option Addr) (len cap : Nat) (w : World) (B b : Nat) (v : Value) (L : List K) (h : Hd) (wr : World) : Prop where
  at' : At c a len cap wr
  wc : w.heap.size < c
  cB : c < B
  bB : B ≤ b
  bel : Below w.heap.size w wr
  lo : OwnK 36 B wr v L
  l61 : L.length ≤ 61
  wd : ∀ k ∈ L, k.word.size ≤ 13
  ha : HAt wr b 0 h
  ze : HAt wr w.heap.size 0 ⟨0, 0, 0, 0⟩
  h64 : H64 h
theorem LnSt.grown {c : Nat} {a : Option Addr} {len cap : Nat} {w : World} {B b : Nat} {v : Value} {L : List K} {h : Hd} {wr w1 : World} (s : LnSt c a len cap w B b v L h wr) (hA : At c a len cap w1) (hG : wr.grownBy w1 (some c)) : LnSt c a len cap w B b v L h w1 :=
  ⟨hA, s.wc, s.cB, s.bB, s.bel.grown hG s.bel.size (fun k e => by cases e; have := s.wc; omega), ownK_grown s.lo hG s.cB, s.l61, s.wd, hat_grown s.ha hG (by have := s.cB; have := s.bB; omega), hat_grown s.ze hG (by have := s.wc; omega), s.h64⟩
theorem LnSt.below {c : Nat} {a : Option Addr} {len cap : Nat} {w : World} {B b : Nat} {v : Value} {L : List K} {h : Hd} {wr w1 : World} (s : LnSt c a len cap w B b v L h wr) (hb : Below wr.heap.size wr w1) : LnSt c a len cap w B b v L h w1 :=
  ⟨s.at'.below hb, s.wc, s.cB, s.bB, s.bel.trans (hb.mono s.bel.size), Lc.ownK_below s.lo hb, s.l61, s.wd, hat_below s.ha hb, hat_below s.ze hb, s.h64⟩
theorem LnSt.fin {c : Nat} {a : Option Addr} {len cap : Nat} {w : World} {B b : Nat} {v : Value} {L : List K} {h : Hd} {wr : World} (s : LnSt c a len cap w B b v L h wr) (d : Nat) :
    ∃ X, X = ((((wr.setCell ⟨w.heap.size, 0, none⟩ (.int .i64 h.who)).setCell ⟨w.heap.size, 1, none⟩ (.int .i64 h.has)).setCell ⟨w.heap.size, 2, none⟩ (.int .i64 h.kept)).setCell ⟨w.heap.size, 3, none⟩ (.int .i64 h.last)) ∧ HAt X w.heap.size 0 h ∧ DrawnH w (X.drewN d) v L h := by
  obtain ⟨X, hX, hH, hbX, hOX⟩ := put_hand (w1 := w) (h := h) s.ze s.bel v L (ownK_base s.lo (by have := s.wc; have := s.cB; omega))
  refine ⟨X, hX, hH, ⟨⟨⟨hOX.1, hOX.2⟩, s.l61, s.wd, ⟨hbX.os, hbX.tape, hbX.output, hbX.size, hbX.block⟩⟩, s.h64⟩⟩

set_option maxHeartbeats 6400000 in
theorem drawLearns (HD : DrawsRoom) (HDC : DrawsRoomC) (a : Option Addr) (len cap : Nat) (w : World) (hl : len ≤ 4096) (hc : Cur.Code w a len) :
    Calls Tryz.prog 7 #[.slice a len cap] w fun e w' => ∃ v L h k, e = .returned (.tuple #[v, .agg #[.int .i64 (h : Hd).who, .int .i64 h.has, .int .i64 h.kept, .int .i64 h.last], .int .i64 k]) ∧ DrawnH w w' v L h ∧ (-9223372036854775808 ≤ k ∧ k ≤ 9223372036854775807) := by
  have HDD : Hid DrawsRoom := HD
  have HDX : Hid DrawsRoomC := HDC
  have HZ : Hid (HAt (w.alloc (.cells #[.int .i64 0, .int .i64 0, .int .i64 0, .int .i64 0] 26)) w.heap.size 0 ⟨0, 0, 0, 0⟩ ∧ Below w.heap.size w (w.alloc (.cells #[.int .i64 0, .int .i64 0, .int .i64 0, .int .i64 0] 26))) := ⟨hat_zero w _, (Below.refl _ _).alloc (Nat.le_refl _) _⟩
  have hc0 := code_below2 hc HZ.out.2
  clear HD HDC
  go_enter Tryz.func7, Tryz.ntmps7
  go_wp2_with fail
  generalize w.alloc (.cells #[.int .i64 0, .int .i64 0, .int .i64 0, .int .i64 0] 26) = w0 at HZ hc0 ⊢
  refine (Cur.new a len cap _ hl hc0).mono ?_
  rintro e w1 ⟨rfl, hA1, hb1⟩
  have HZ1 : Hid (HAt w1 w.heap.size 0 ⟨0, 0, 0, 0⟩ ∧ Below w.heap.size w w1) := ⟨hat_below HZ.out.1 hb1, HZ.out.2.trans (hb1.mono HZ.out.2.size)⟩
  have hw0 : w.heap.size < w0.heap.size := HZ.out.1.lt
  have hlt1 := hA1.lt
  clear HZ hb1
  go_wp2_with fail
  refine (l13Draw HDD.out HDX.out _ a len cap _ hl hA1).mono ?_
  rintro e w2 ⟨v, L, h, rfl, hA2, hG2, hO2, h61, hwd, h64⟩
  have HS3 : Hid (LnSt w0.heap.size a len cap w w1.heap.size w2.heap.size v L h (w2.alloc (.cells #[.int .i64 h.who, .int .i64 h.has, .int .i64 h.kept, .int .i64 h.last] 26))) := by
    have hbb : Below w2.heap.size w2 (w2.alloc (.cells #[.int .i64 h.who, .int .i64 h.has, .int .i64 h.kept, .int .i64 h.last] 26)) := (Below.refl _ _).alloc (Nat.le_refl _) _
    have hb2 : Below w.heap.size w w2 := Draw.below_of_grown HZ1.out.2 (by omega) hG2
    exact ⟨hA2.below hbb, hw0, hlt1, hG2.size, hb2.trans (hbb.mono hb2.size), Lc.ownK_below hO2 hbb, h61, hwd, hat_new w2 h _, hat_below (hat_grown HZ1.out.1 hG2 (by omega)) hbb, h64⟩
  obtain ⟨g, cp, rfl, hcp, _, hgB, _, _, _⟩ := Lc.ownK_shape hO2
  clear hA2 hG2 hO2 hwd h64 HZ1 hA1 hlt1
  go_wp2_with fail
  generalize w2.alloc (.cells #[.int .i64 h.who, .int .i64 h.has, .int .i64 h.kept, .int .i64 h.last] 26) = w3 at HS3 ⊢
  generalize w2.heap.size = b at HS3 ⊢
  generalize w0.heap.size = c at HS3 hw0 ⊢
  go_loopw [8] (fun i wr => ∃ j : Nat, j ≤ L.length ∧ i = .int .i64 j ∧ Hid (LnSt c a len cap w w1.heap.size b (.slice (some ⟨g, 0, none⟩) L.length cp) L h wr)) (fun i _ => L.length - (intOf i).toNat)
  case atStart => exact ⟨0, by omega, rfl, HS3⟩
  case round =>
    obtain ⟨j, hj, rfl, HS⟩ := hrel
    clear HS3
    by_cases hlt : j < L.length
    · have hji : (j : Int) < (L.length : Int) := by omega
      have dh := (cellsH HS.out.ha).2.1
      have h61 := HS.out.l61
      obtain ⟨bb, hbb⟩ : ∃ bb : Bool, Calls Tryz.prog 15 #[.int .i64 h.has, .int .i64 (j : Int)] wr fun e w' => e = .returned (.bool bb) ∧ wr = w' := ⟨_, Base.specIn h.has (j : Int) wr⟩
      cases bb
      · go_wp2_with fail
        refine hbb.mono ?_
        rintro e w' ⟨rfl, rfl⟩
        go_wp2_with fail
        refine (Cur.once c a len cap 2 _ hl (by omega) HS.out.at').mono ?_
        rintro e w6 ⟨b6, rfl, hA6, hG6⟩
        have HS6 : Hid (LnSt c a len cap w w1.heap.size b (.slice (some ⟨g, 0, none⟩) L.length cp) L h w6) := HS.out.grown hA6 hG6
        clear hA6 hG6 HS hbb dh
        cases b6
        · go_wp2
          go_roundw
          case rel => exact ⟨j + 1, by omega, by go_num, HS6⟩
          case measure => simp [intOf]; omega
        · obtain ⟨X, hX, hH, hPo⟩ := HS6.out.fin 1
          obtain ⟨c0, c1, c2, c3⟩ := cellsH HS6.out.ha
          obtain ⟨z0, z1, z2, z3⟩ := cellsH HS6.out.ze
          obtain ⟨m0, m1, m2, m3⟩ := cellsH hH
          have f0 := HS6.out.ze.f0
          have f1 := HS6.out.ze.f1
          have f2 := HS6.out.ze.f2
          have f3 := HS6.out.ze.f3
          simp only [Nat.zero_add] at f1 f2 f3
          have HX : Hid (X = _) := hX
          have HPO : Hid _ := hPo
          clear hX hPo hH HS6
          generalize w.heap.size = qb at c0 c1 c2 c3 z0 z1 z2 z3 m0 m1 m2 m3 f0 f1 f2 f3 HX hw0 ⊢
          go_wp2_with fail
          go_region
          all_goals go_wp2
          all_goals rw [← HX.out]
          all_goals refine bodyPost_ret (v := .tuple #[.slice (some ⟨g, 0, none⟩) L.length cp, .agg #[.int .i64 h.who, .int .i64 h.has, .int .i64 h.kept, .int .i64 h.last], .int .i64 (j : Int)]) (by simp [results, Tryz.f7, go_sem, m0, m1, m2, m3]) rfl ?_
          all_goals exact ⟨_, L, h, _, rfl, HPO.out, by omega⟩
      · go_wp2_with fail
        refine hbb.mono ?_
        rintro e w' ⟨rfl, rfl⟩
        clear hbb dh
        go_wp2
        go_roundw
        case rel => exact ⟨j + 1, by omega, by go_num, HS⟩
        case measure => simp [intOf]; omega
    · obtain rfl : j = L.length := by omega
      have hji : ¬ (L.length : Int) < (L.length : Int) := by omega
      have HSD : Hid (LnSt c a len cap w w1.heap.size b (.slice (some ⟨g, 0, none⟩) L.length cp) L h wr.drew) := HS.out.below (Below.refl _ wr).drew
      have h61 := HS.out.l61
      have HCALL : Hid (∀ X : World, LnSt c a len cap w w1.heap.size b (.slice (some ⟨g, 0, none⟩) L.length cp) L h X → Calls Tryz.prog 38 #[.pointer (some ⟨c, 0, none⟩), .int .i64 (L.length : Int)] X fun e Y => ∃ r : Int, e = .returned (.int .i64 r) ∧ (-9223372036854775808 ≤ r ∧ r ≤ 9223372036854775807) ∧ LnSt c a len cap w w1.heap.size b (.slice (some ⟨g, 0, none⟩) L.length cp) L h Y) := fun X hX => by
        refine (l3DrawAt c a len cap L.length X hl h61 hX.at').mono ?_
        rintro e Y ⟨r, rfl, hr, hA, hG⟩
        exact ⟨r, rfl, hr, hX.grown hA hG⟩
      obtain ⟨c0, c1, c2, c3⟩ := cellsH HS.out.ha
      have HFIN : Hid (∀ Y : World, LnSt c a len cap w w1.heap.size b (.slice (some ⟨g, 0, none⟩) L.length cp) L h Y → ∃ X, X = ((((Y.setCell ⟨w.heap.size, 0, none⟩ (.int .i64 h.who)).setCell ⟨w.heap.size, 1, none⟩ (.int .i64 h.has)).setCell ⟨w.heap.size, 2, none⟩ (.int .i64 h.kept)).setCell ⟨w.heap.size, 3, none⟩ (.int .i64 h.last)) ∧ HAt X w.heap.size 0 h ∧ DrawnH w X (.slice (some ⟨g, 0, none⟩) L.length cp) L h) := fun Y hY => hY.fin 0
      have HZE : Hid (∀ Y : World, LnSt c a len cap w w1.heap.size b (.slice (some ⟨g, 0, none⟩) L.length cp) L h Y → HAt Y w.heap.size 0 ⟨0, 0, 0, 0⟩ ∧ HAt Y b 0 h) := fun Y hY => ⟨hY.ze, hY.ha⟩
      clear HS
      generalize hqb : w.heap.size = qb at HFIN HZE hw0 ⊢
      clear hqb
      go_wp2_with fail
      go_region_with (
        go_at_call 38
        refine (HCALL.out _ HSD.out).mono ?_
        rintro e Y ⟨r, rfl, hr, hY⟩
        have HYY : Hid (LnSt c a len cap w w1.heap.size b (.slice (some ⟨g, 0, none⟩) L.length cp) L h Y) := hY
        clear hY
        have e0 := (cellsH (HZE.out Y HYY.out).2).1
        have e1 := (cellsH (HZE.out Y HYY.out).2).2.1
        have e2 := (cellsH (HZE.out Y HYY.out).2).2.2.1
        have e3 := (cellsH (HZE.out Y HYY.out).2).2.2.2
        have z0 := (cellsH (HZE.out Y HYY.out).1).1
        have z1 := (cellsH (HZE.out Y HYY.out).1).2.1
        have z2 := (cellsH (HZE.out Y HYY.out).1).2.2.1
        have z3 := (cellsH (HZE.out Y HYY.out).1).2.2.2
        have f0 := (HZE.out Y HYY.out).1.f0
        have f1 := (HZE.out Y HYY.out).1.f1
        have f2 := (HZE.out Y HYY.out).1.f2
        have f3 := (HZE.out Y HYY.out).1.f3
        simp only [Nat.zero_add] at f1 f2 f3)
      all_goals (have HFY := HFIN.out Y HYY.out)
      all_goals obtain ⟨X, hX, hH, hPo⟩ := HFY
      all_goals obtain ⟨m0, m1, m2, m3⟩ := cellsH hH
      all_goals (have HXX : Hid (X = _) := hX)
      all_goals clear hX
      all_goals go_wp2
      all_goals rw [← HXX.out]
      all_goals refine bodyPost_ret (v := .tuple #[.slice (some ⟨g, 0, none⟩) L.length cp, .agg #[.int .i64 h.who, .int .i64 h.has, .int .i64 h.kept, .int .i64 h.last], .int .i64 r]) (by simp [results, Tryz.f7, go_sem, m0, m1, m2, m3]) rfl ?_
      all_goals exact ⟨_, L, h, _, rfl, hPo, hr⟩

end Rm
end Go.Proofs.YtfjmenhofllchaaGreatDoor

namespace Go.Proofs.YtfjmenhofllchaaGreatDoor
open Go.RowKit
set_option maxRecDepth 100000
set_option linter.unusedVariables false
namespace Rm
open Kn (K okK)
open Bit (bit withB)
open Lc (at' laceB)
open Sg (bel belows closedTo orB)

/-- there is none of a hand's -/
theorem last_neg (L : List K) (who s : Int) : ∀ n, lastTo L who s n < 0 ↔ ∀ i, i < n → bit s i = true → (at' L i).hand ≠ who := by
  intro n
  induction n with
  | zero => exact ⟨fun _ i hi => by omega, fun _ => by show (-1 : Int) < 0; omega⟩
  | succ n ih =>
    have hbd := lastTo_bd L who s n
    have hst : lastTo L who s (n + 1) = if bit s n && (decide ((at' L n).hand = who) && (decide (lastTo L who s n < 0) || decide ((at' L (lastTo L who s n).toNat).round < (at' L n).round))) then (n : Int) else lastTo L who s n := rfl
    rw [hst]
    by_cases hc : bit s n = true ∧ (at' L n).hand = who
    · rw [hc.1, decide_eq_true hc.2]
      constructor
      · intro h
        exfalso
        by_cases hn : lastTo L who s n < 0
        · rw [decide_eq_true hn] at h; simp at h; omega
        · rw [decide_eq_false hn] at h
          simp only [Bool.true_and, Bool.false_or] at h
          split at h <;> omega
      · intro h
        exact absurd hc.2 (h n (by omega) hc.1)
    · have hf : (bit s n && (decide ((at' L n).hand = who) && (decide (lastTo L who s n < 0) || decide ((at' L (lastTo L who s n).toNat).round < (at' L n).round)))) = false := by
        rw [Bool.eq_false_iff]
        intro q
        simp only [Bool.and_eq_true, decide_eq_true_eq] at q
        exact hc ⟨q.1, q.2.1⟩
      rw [hf, if_neg (by simp), ih]
      constructor
      · intro h i hi hb
        by_cases e : i = n
        · subst e; exact fun q => hc ⟨hb, q⟩
        · exact h i (by omega) hb
      · intro h i hi hb
        exact h i (by omega) hb

/-- a right hand, in plain words -/
structure HandIs (L : List K) (h : Hd) : Prop where
  lace : laceB L = true
  who : Kn.in3 h.who = true
  h0 : 0 ≤ h.has
  h1 : h.has < 1152921504606846976
  k0 : 0 ≤ h.kept
  k1 : h.kept < 1152921504606846976
  inn : ∀ i, bit h.has i = true → i < L.length
  sub : ∀ i, bit h.kept i = true → bit h.has i = true
  own : ∀ i, bit h.has i = true → (at' L i).hand = h.who → bit h.kept i = true
  chas : ∀ i, bit h.has i = true → ∀ j, bit (bel L i) j = true → bit h.has j = true
  ckep : ∀ i, bit h.kept i = true → ∀ j, bit (bel L i) j = true → bit h.kept j = true
  last : h.last = lastTo L h.who h.kept L.length

theorem hand_is {L : List K} {h : Hd} (hk : H64 h) (x : handOkB L h = true) : HandIs L h := by
  unfold handOkB at x
  rw [Bool.and_eq_true] at x
  obtain ⟨hl, hok⟩ := x
  have hbd := hok_parts hk hl hok
  have h60 := ((Lc.lace_iff L).1 hl).1
  unfold hokB at hok
  simp only [Bool.and_eq_true, decide_eq_true_eq] at hok
  obtain ⟨a1, a2, a3, a4, a5, a6, a7, a8, a9⟩ := hok
  have hin : ∀ i, bit h.has i = true → i < L.length := fun i hi => by
    apply Classical.byContradiction
    intro hge
    have := Bit.bit_up h.has L.length (i - L.length) a4
    rw [show L.length + (i - L.length) = i by omega, hi] at this
    exact Bool.noConfusion this
  have hsub : ∀ i, bit h.kept i = true → bit h.has i = true := (Sg.andNot_sub h.kept h.has a3 (by omega) a2 (by omega)).1 a5
  refine ⟨hl, a1, a2, hbd.2.1, a3, hbd.2.2.2, hin, hsub, fun i hi ho => ?_, fun i hi => (Sg.closed_iff L h.has L.length h60 a2 hbd.2.1).1 a7 i (hin i hi) hi, fun i hi => (Sg.closed_iff L h.kept L.length h60 a3 hbd.2.2.2).1 a8 i (hin i (hsub i hi)) hi, by rw [beq_iff_eq] at a9; exact a9⟩
  cases hb : bit h.kept i
  · have hz : bit (bits .andNot .i64 h.has h.kept) i = true := by rw [Sg.bit_andNot h.has h.kept a2 hbd.2.1 a3 hbd.2.2.2, hi, hb]; rfl
    exact absurd ho ((last_neg L h.who _ L.length).1 a6 i (hin i hi) hz)
  · rfl
theorem is_hand {L : List K} {h : Hd} (x : HandIs L h) : handOkB L h = true := by
  have h60 := ((Lc.lace_iff L).1 x.lace).1
  have hd : h.has / 2 ^ L.length = 0 := Lc.div_of_bits _ _ x.h0 fun i hi => by
    rw [Bool.eq_false_iff]; intro q; have := x.inn i q; omega
  have e5 : (bits .andNot .i64 h.kept h.has == 0) = true := (Sg.andNot_sub h.kept h.has x.k0 (by have := x.k1; omega) x.h0 (by have := x.h1; omega)).2 x.sub
  have e6 : lastTo L h.who (bits .andNot .i64 h.has h.kept) L.length < 0 := (last_neg L h.who _ L.length).2 fun i hi hb => by
    rw [Sg.bit_andNot h.has h.kept x.h0 x.h1 x.k0 x.k1, Bool.and_eq_true] at hb
    intro ho
    rw [x.own i hb.1 ho] at hb
    exact Bool.noConfusion hb.2
  have e7 : closedTo (belows L L.length) h.has L.length = true := (Sg.closed_iff L h.has L.length h60 x.h0 x.h1).2 fun i hi hb => x.chas i hb
  have e8 : closedTo (belows L L.length) h.kept L.length = true := (Sg.closed_iff L h.kept L.length h60 x.k0 x.k1).2 fun i hi hb => x.ckep i hb
  unfold handOkB hokB
  rw [x.lace, x.who, decide_eq_true x.h0, decide_eq_true x.k0, decide_eq_true hd, e5, decide_eq_true e6, e7, e8, x.last]
  simp

/-! ### kept, forgotten -/
theorem kept_is {L : List K} {h : Hd} (x : HandIs L h) : HandIs L ⟨h.who, h.has, h.has, lastTo L h.who h.has L.length⟩ :=
  ⟨x.lace, x.who, x.h0, x.h1, x.h0, x.h1, x.inn, fun _ q => q, fun _ q _ => q, x.chas, x.chas, rfl⟩
theorem forgot_is {L : List K} {h : Hd} (x : HandIs L h) : HandIs L ⟨h.who, h.kept, h.kept, h.last⟩ :=
  ⟨x.lace, x.who, x.k0, x.k1, x.k0, x.k1, fun i q => x.inn i (x.sub i q), fun _ q => q, fun _ q _ => q, x.ckep, x.ckep, x.last⟩
/-! ### learned -/
theorem learn_parts {L : List K} {h : Hd} {k : Int} {al : Bool} (x : HandIs L h) (q : learnB L (belows L L.length) h.who h.has k al = true) :
    ∃ p : Nat, k = (p : Int) ∧ p < L.length ∧ bit h.has p = false ∧ (belows L L.length).getD k.toNat 0 = bel L p ∧ (al = true → bits .andNot .i64 (bel L p) h.has = 2 ^ p) ∧ ∀ i, bit (bel L p) i = true → bit h.has i = false → (at' L i).hand ≠ h.who := by
  have h60 := ((Lc.lace_iff L).1 x.lace).1
  unfold learnB at q
  simp only [Bool.and_eq_true, decide_eq_true_eq, Bool.not_eq_true'] at q
  obtain ⟨k0, k1, hh, ha, hl⟩ := q
  obtain ⟨p, rfl⟩ := Int.eq_ofNat_of_zero_le k0
  have hp : p < L.length := by omega
  rw [Int.toNat_natCast] at *
  have hg : (belows L L.length).getD p 0 = bel L p := Sg.belows_get L L.length p hp
  unfold lackI at ha hl
  rw [hg] at ha hl
  have hb := Sg.bel_bd L p (by omega)
  refine ⟨p, rfl, hp, hh, hg, fun e => ?_, fun i hi hni => ?_⟩
  · rw [e, Bool.true_and] at ha
    unfold bne at ha
    simpa using ha
  · refine (last_neg L h.who _ L.length).1 hl i ?_ ?_
    · have := Sg.reach_le x.lace hp ((Sg.bel_reach x.lace p hp i).1 hi)
      omega
    · rw [Sg.bit_andNot _ _ hb.1 hb.2 x.h0 x.h1, hi, hni]; rfl
theorem learned_is {L : List K} {h : Hd} {k : Int} {al : Bool} (x : HandIs L h) (q : learnB L (belows L L.length) h.who h.has k al = true) : HandIs L { h with has := orB h.has ((belows L L.length).getD k.toNat 0) } := by
  have h60 := ((Lc.lace_iff L).1 x.lace).1
  obtain ⟨p, rfl, hp, hh, hg, _, ho⟩ := learn_parts x q
  have hb := Sg.bel_bd L p (by omega)
  rw [hg]
  have hbit := fun i => Sg.bit_orB h.has (bel L p) x.h0 hb.1 i
  have hor := Sg.orB_bd h.has (bel L p) x.h0 x.h1 hb.1 hb.2
  have hin : ∀ i, bit (bel L p) i = true → i ≤ p := fun i hi => Sg.reach_le x.lace hp ((Sg.bel_reach x.lace p hp i).1 hi)
  refine ⟨x.lace, x.who, hor.1, hor.2, x.k0, x.k1, fun i hi => ?_, fun i hi => ?_, fun i hi hw => ?_, fun i hi j hj => ?_, x.ckep, x.last⟩
  · rw [hbit i, Bool.or_eq_true] at hi
    rcases hi with hi | hi
    · exact x.inn i hi
    · have := hin i hi; omega
  · rw [hbit i, x.sub i hi]; rfl
  · rw [hbit i, Bool.or_eq_true] at hi
    cases hhi : bit h.has i
    · rw [hhi] at hi
      rcases hi with hi | hi
      · exact Bool.noConfusion hi
      · exact absurd hw (ho i hi hhi)
    · exact x.own i hhi hw
  · rw [hbit i, Bool.or_eq_true] at hi
    rw [hbit j, Bool.or_eq_true]
    rcases hi with hi | hi
    · exact .inl (x.chas i hi j hj)
    · exact .inr (Sg.bel_trans x.lace hp hi hj)

end Rm
end Go.Proofs.YtfjmenhofllchaaGreatDoor
