/-
  Towards the model's draft of a knot: the words for it, and where its parts lie.
-/
import Derived.Test.YtapfmadnkaimeaaDoorRoomA
import Derived.Test.YtapfmadnkaimeaaDoorZero
import Derived.BigRegion
namespace Go.Proofs.YtapfmadnkaimeaaDoor
open Go.RowKit
set_option maxRecDepth 100000
namespace Rm
open Kn (K okK Zero)
open Bit (bit withB)
open Lc (at' RdK HandsOk amongI)

/-- what the hand has of lesser rounds -/
def draftS (L : List K) (has r : Int) : Int := amongI (fun y => decide (y.round < r)) L has L.length
/-- the knot -/
def draftK (L : List K) (l : List Int) (who has last : Int) (word : ByteArray) : K := ⟨who, nextI L has last, Sg.tipsTo l (draftS L has (nextI L has last)) l.length, word⟩
def draftB (L : List K) (l : List Int) (who has last : Int) (word : ByteArray) : Bool := decide (0 ≤ nextI L has last) && okK (draftK L l who has last word)

def DraftPost (L : List K) (l : List Int) (who has last : Int) (word : ByteArray) (w : World) (e : Ending) (w' : World) : Prop :=
  ((draftB L l who has last word = true ∧ e = .returned (.tuple #[.agg #[.int .i64 (draftK L l who has last word).hand, .int .i64 (draftK L l who has last word).round, .int .i64 (draftK L l who has last word).frm, .string (draftK L l who has last word).word], .bool true])) ∨
   (draftB L l who has last word = false ∧ e = .returned (.tuple #[.agg #[.int .i64 0, .int .i64 0, .int .i64 0, .string ⟨#[]⟩], .bool false]))) ∧ Below w.heap.size w w'

/-- the draft so far: the hand's set, the answer that begins as zero, the knot -/
structure DrSt (w V : World) (kb : Nat) (who has r f : Int) (word : ByteArray) : Prop where
  bel : Below w.heap.size w V
  z : Zero (w.heap.size + 1) V
  h1 : V.cell? ⟨w.heap.size, 1, none⟩ = some (.int .i64 has)
  k0 : V.cell? ⟨kb, 0, none⟩ = some (.int .i64 who)
  k1 : V.cell? ⟨kb, 1, none⟩ = some (.int .i64 r)
  k2 : V.cell? ⟨kb, 2, none⟩ = some (.int .i64 f)
  k3 : V.cell? ⟨kb, 3, none⟩ = some (.string word)
  f2 : V.frozen? ⟨kb, 2, none⟩ = false
  lt : kb < V.heap.size
  gt : w.heap.size + 1 < kb

theorem zero_put' {b kb : Nat} {w : World} (z : Zero b w) (hn : kb ≠ b) (j : Nat) (v : Value) : Zero b (w.setCell ⟨kb, j, none⟩ v) where
  lt := by simpa using z.lt
  r0 := (World.cell?_setCell_other _ _ _ _ (by intro e; injection e with e _; exact hn e)).trans z.r0
  r1 := (World.cell?_setCell_other _ _ _ _ (by intro e; injection e with e _; exact hn e)).trans z.r1
  r2 := (World.cell?_setCell_other _ _ _ _ (by intro e; injection e with e _; exact hn e)).trans z.r2
  r3 := (World.cell?_setCell_other _ _ _ _ (by intro e; injection e with e _; exact hn e)).trans z.r3
  f0 := by simpa using z.f0
  f1 := by simpa using z.f1
  f2 := by simpa using z.f2
  f3 := by simpa using z.f3

theorem drA {w w0 wN : World} (HB : Below w.heap.size w w0) (HZ : Zero (w.heap.size + 1) w0) (BN : Below w0.heap.size w0 wN) {has : Int} (d1 : w0.cell? ⟨w.heap.size, 1, none⟩ = some (.int .i64 has)) (who r : Int) (word : ByteArray) (t : TypeId) :
    DrSt w (wN.alloc (.cells #[.int .i64 who, .int .i64 r, .int .i64 0, .string word] t)) wN.heap.size who has r 0 word where
  bel := (HB.trans (BN.mono HB.size)).alloc (Nat.le_trans HB.size BN.size) _
  z := (HZ.below BN).below ((Below.refl _ _).alloc (Nat.le_refl _) _)
  h1 := by
    have hlt : w.heap.size < wN.heap.size := Nat.lt_of_lt_of_le (Nat.lt_trans (Nat.lt_succ_self _) HZ.lt) BN.size
    exact (World.cell?_alloc_lt wN _ ⟨w.heap.size, 1, none⟩ hlt).trans ((BN.cell (p := ⟨w.heap.size, 1, none⟩) (Nat.lt_trans (Nat.lt_succ_self _) HZ.lt)).trans d1)
  k0 := by simp
  k1 := by simp
  k2 := by simp
  k3 := by simp
  f2 := by simp
  lt := by simp
  gt := Nat.lt_of_lt_of_le HZ.lt BN.size

theorem drB {w w0 wN : World} (HB : Below w.heap.size w w0) (HZ : Zero (w.heap.size + 1) w0) (BN : Below w0.heap.size w0 wN) {has : Int} (d1 : w0.cell? ⟨w.heap.size, 1, none⟩ = some (.int .i64 has)) (ZN : Zero w0.heap.size wN) (who r : Int) (word : ByteArray) :
    DrSt w ((((wN.setCell ⟨w0.heap.size, 0, none⟩ (.int .i64 who)).setCell ⟨w0.heap.size, 1, none⟩ (.int .i64 r)).setCell ⟨w0.heap.size, 2, none⟩ (.int .i64 0)).setCell ⟨w0.heap.size, 3, none⟩ (.string word)) w0.heap.size who has r 0 word where
  bel := ((((HB.trans (BN.mono HB.size)).setCell (p := ⟨w0.heap.size, 0, none⟩) HB.size _).setCell (p := ⟨w0.heap.size, 1, none⟩) HB.size _).setCell (p := ⟨w0.heap.size, 2, none⟩) HB.size _).setCell (p := ⟨w0.heap.size, 3, none⟩) HB.size _
  z := by
    have hn : w0.heap.size ≠ w.heap.size + 1 := by have := HZ.lt; omega
    exact zero_put' (zero_put' (zero_put' (zero_put' (HZ.below BN) hn _ _) hn _ _) hn _ _) hn _ _
  h1 := by
    have hlt : w.heap.size < w0.heap.size := Nat.lt_trans (Nat.lt_succ_self _) HZ.lt
    have hn : ∀ j, (⟨w0.heap.size, j, none⟩ : Addr) ≠ ⟨w.heap.size, 1, none⟩ := fun j e => by injection e with e _; omega
    rw [World.cell?_setCell_other _ _ _ _ (hn 3), World.cell?_setCell_other _ _ _ _ (hn 2), World.cell?_setCell_other _ _ _ _ (hn 1), World.cell?_setCell_other _ _ _ _ (hn 0)]
    exact (BN.cell (p := ⟨w.heap.size, 1, none⟩) hlt).trans d1
  k0 := (ZN.put _ _ _ _).1
  k1 := (ZN.put _ _ _ _).2.1
  k2 := (ZN.put _ _ _ _).2.2.1
  k3 := (ZN.put _ _ _ _).2.2.2
  f2 := by simpa using ZN.f2
  lt := by simpa using ZN.lt
  gt := HZ.lt

theorem below_rb {w V : World} (h : Below w.heap.size w V) (v0 v1 v2 v3 : Value) : Below w.heap.size w ((((V.setCell ⟨w.heap.size + 1, 0, none⟩ v0).setCell ⟨w.heap.size + 1, 1, none⟩ v1).setCell ⟨w.heap.size + 1, 2, none⟩ v2).setCell ⟨w.heap.size + 1, 3, none⟩ v3) :=
  (((h.setCell (p := ⟨w.heap.size + 1, 0, none⟩) (Nat.le_succ _) v0).setCell (p := ⟨w.heap.size + 1, 1, none⟩) (Nat.le_succ _) v1).setCell (p := ⟨w.heap.size + 1, 2, none⟩) (Nat.le_succ _) v2).setCell (p := ⟨w.heap.size + 1, 3, none⟩) (Nat.le_succ _) v3

theorem Lst_drewN {w : World} {bo : Option Addr} {l : List Int} (h : Lst.Rd w bo l) (n : Nat) : Lst.Rd (w.drewN n) bo l := h

theorem keepA {W V : World} (h : Below W.drew.heap.size W.drew V) : Below W.heap.size W V := ⟨h.os, h.tape, h.output, h.size, h.block⟩
theorem keepB {W V : World} {o : Obj} (h : Below (W.drew.alloc o).heap.size (W.drew.alloc o) V) : Below W.heap.size W V :=
  keepA (((Below.refl _ W.drew).alloc (Nat.le_refl _) o).trans (h.mono (by simp)))
theorem keepC {W V : World} {o : Obj} (h : Below (W.alloc o).drew.heap.size (W.alloc o).drew V) : Below W.heap.size W V :=
  ((Below.refl _ W).alloc (Nat.le_refl _) o).trans ((keepA h).mono (by simp))
theorem keepZ {W V : World} {t : TypeId} (h : Below (W.drew.alloc (.cells #[.int .i64 0, .int .i64 0, .int .i64 0, .string ⟨#[]⟩] t)).heap.size (W.drew.alloc (.cells #[.int .i64 0, .int .i64 0, .int .i64 0, .string ⟨#[]⟩] t)) V) : Zero W.heap.size V := (Kn.zero_new W.drew t).below h
theorem keepZ' {W V : World} {t : TypeId} (h : Below (W.alloc (.cells #[.int .i64 0, .int .i64 0, .int .i64 0, .string ⟨#[]⟩] t)).drew.heap.size (W.alloc (.cells #[.int .i64 0, .int .i64 0, .int .i64 0, .string ⟨#[]⟩] t)).drew V) : Zero W.heap.size V := (Kn.zero_new W t).below (keepA h)

end Rm
end Go.Proofs.YtapfmadnkaimeaaDoor
