/-
  What the model's Earlier, ChainOf and OnChain answer: from leader to leader; for coins of at most a million numbers and lists of knots whose words have at most 2^40 bytes.
-/
import Derived.Test.YtodgkhlnefggdaaFirmS
namespace Go.Proofs.Ytodgkhlnefggdaa
open Go.RowKit
set_option maxRecDepth 100000
namespace Ch
open Kn (K okK)
open Bit (bit withB)
open Lc (at' RdK WordsOk laceB)
open Sg (isB bel belows NumsPost)
open Db (RowI)
open Sl (sealS sealN)
open Rm (coinsB)

/-- the two tables of a lace: what is below, and who seals -/
structure TabsL (w : World) (L : List K) (bb h : Nat) : Prop where
  bel : ∀ i, i < L.length → w.cell? ⟨bb, i, none⟩ = some (.int .i64 (Sg.bel L i))
  sl : ∀ i, i < L.length → w.cell? ⟨h, i, none⟩ = some (.int .i64 (sealS L i L.length))
  lb : bb < w.heap.size
  lh : h < w.heap.size
theorem TabsL.below {w w' : World} {L : List K} {bb h : Nat} (t : TabsL w L bb h) (hb : Below w.heap.size w w') : TabsL w' L bb h :=
  ⟨fun i hi => (hb.cell (p := ⟨bb, i, none⟩) t.lb).trans (t.bel i hi), fun i hi => (hb.cell (p := ⟨h, i, none⟩) t.lh).trans (t.sl i hi), Nat.lt_of_lt_of_le t.lb hb.size, Nat.lt_of_lt_of_le t.lh hb.size⟩

theorem earI_step (L : List K) (C : List Int) (k n : Nat) : earI L C k (n + 1) = if earN L C k n && (decide (earI L C k n < 0) || decide ((at' L (earI L C k n).toNat).round < (at' L n).round)) then (n : Int) else earI L C k n := rfl
theorem earI_bd (L : List K) (C : List Int) (k n : Nat) : earI L C k n = -1 ∨ ∃ e : Nat, earI L C k n = (e : Int) ∧ e < n := by
  rcases ear_spec L C k n with ⟨h, _⟩ | ⟨e, h, he, _⟩
  · exact .inl h
  · exact .inr ⟨e, h, he⟩

/-- the chain so far, in memory of the call's own -/
structure ChSt (w wr : World) (v : Value) (l : List Int) : Prop where
  shape : ∃ gg cp, v = .slice (some ⟨gg, 0, none⟩) l.length cp ∧ Memb.Own w.heap.size wr (some ⟨gg, 0, none⟩) cp l
  bel : Below w.heap.size w wr
theorem chSt_start (w : World) : ChSt w (w.alloc (.cells #[] 2)) (.slice (some ⟨w.heap.size, 0, none⟩) 0 0) [] := ⟨⟨_, _, rfl, Memb.own_empty w⟩, (Below.refl _ _).alloc (Nat.le_refl _) _⟩
theorem chSt_put {w wr w3 : World} {v' : Value} {l : List Int} {x : Int} {o : Obj} (hB : Below w.heap.size w wr) (ho : w3.ownsRow w.heap.size 2 1 v' (1 + l.length) ([.int .i64 x] ++ l.map (Value.int .i64))) (hg : (wr.alloc o).grownBy w3 (some wr.heap.size)) (hn : ¬ v' = .slice none 0 0) : ChSt w w3 v' (x :: l) := by
  refine ⟨?_, (hB.alloc hB.size o).grown hg (by simp; have := hB.size; omega) (fun j hj => by cases hj; exact hB.size)⟩
  have ho' : w3.ownsRow w.heap.size 2 1 v' (x :: l).length ((x :: l).map (Value.int .i64)) := by
    rw [show (x :: l).length = 1 + l.length by simp; omega]; exact ho
  obtain ⟨ao, cap, hv, hown⟩ := Memb.own_shape ho'
  rcases ao with _ | a
  · obtain ⟨_, ⟨hx, _⟩ | ⟨gg, cp, cur, hx, _⟩⟩ := ho'
    · exact absurd hx hn
    · rw [hv] at hx; injection hx with hx _; exact absurd hx (by simp)
  · obtain ⟨_, ⟨hx, _⟩ | ⟨gg, cp, cur, hx, _⟩⟩ := ho'
    · exact absurd hx hn
    · rw [hv] at hx
      injection hx with hx _ hc
      injection hx with hx
      subst hx hc
      exact ⟨gg, cap, hv, hown⟩

/-- a knot, and coins -/
def onB (L : List K) (C : List Int) (k : Int) : Bool := isB L k && coinsB C
/-- the document's Earlier -/
def earlierI (L : List K) (C : List Int) (k : Int) : Int := if onB L C k then earlierN L C k.toNat else -1
/-- the document's ChainOf -/
def chainI (L : List K) (C : List Int) (k : Int) : List Int := if onB L C k then chainL L C k else []

theorem own_base {B B' : Nat} {w : World} {ao : Option Addr} {cap : Nat} {l : List Int} (h : Memb.Own B w ao cap l) (hb : B' ≤ B) : Memb.Own B' w ao cap l := by
  obtain ⟨a1, a2⟩ := h
  refine ⟨a1, ?_⟩
  rcases a2 with a2 | ⟨g2, c2, cur, e1, e2, rest⟩
  · exact .inl a2
  · exact .inr ⟨g2, c2, cur, e1, Nat.le_trans hb e2, rest⟩
/-- an empty list of the call's own -/
theorem nums_nil {w w1 : World} (hb1 : Below w.heap.size w w1) : Memb.Own w.heap.size (w1.alloc (.cells #[] 2)) (some ⟨w1.heap.size, 0, none⟩) 0 [] ∧ Below w.heap.size w (w1.alloc (.cells #[] 2)) := ⟨own_base (Memb.own_empty w1) hb1.size, hb1.alloc hb1.size _⟩

/-- the document's OnChain -/
def onChainB (L : List K) (C : List Int) (k x : Int) : Bool := (chainI L C k).contains x
theorem chainI_len {L : List K} {C : List Int} {k : Int} : (chainI L C k).length ≤ 61 := by
  unfold chainI
  split
  · rename_i h
    unfold onB at h
    rw [Bool.and_eq_true] at h
    obtain ⟨k0, k1, hlc⟩ := Sg.isB_parts h.1
    have h60 := ((Lc.lace_iff L).1 hlc).1
    have := chain_len L C k
    omega
  · simp

end Ch
end Go.Proofs.Ytodgkhlnefggdaa
