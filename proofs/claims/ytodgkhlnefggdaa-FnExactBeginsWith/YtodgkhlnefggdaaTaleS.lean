/-
  What the model's FreshOf, Ordered, TaleOf and OutOf answer; for coins of at most a million numbers and lists of knots whose words have at most 2^40 bytes.
-/
import Derived.Test.YtodgkhlnefggdaaOrderS
import Derived.Test.YtodgkhlnefggdaaSightV
import Derived.Laws.AppendOwnNone
namespace Go.Proofs.Ytodgkhlnefggdaa
open Go.RowKit
set_option maxRecDepth 100000
namespace Tl
open Kn (K okK)
open Bit (bit withB memTo)
open Lc (at' RdK WordsOk laceB setB)
open Sg (isB bel belows NumsPost)
open Nd (nodN nodS)

/-- below k and not below the earlier one -/
def baseS (L : List K) (k : Nat) (e : Int) : Int := if 0 ≤ e then bits .andNot .i64 (bel L k) (bel L e.toNat) else bel L k
/-- the model's set, when all below b have been looked at -/
def frP (L : List K) (k : Nat) (e : Int) : Nat → Int
  | 0 => baseS L k e
  | b + 1 => if bit (frP L k e b) b && !nodN L k b then bits .andNot .i64 (frP L k e b) (2 ^ b) else frP L k e b

theorem base_bd {L : List K} {k : Nat} (hk : k < 60) {e : Int} : 0 ≤ baseS L k e ∧ baseS L k e < 1152921504606846976 := by
  have h1 := Sg.bel_bd L k hk
  unfold baseS
  split
  · exact Sg.andNot_bd' _ _ h1.1 h1.2
  · exact h1
theorem bit_base {L : List K} {k : Nat} (hk : k < 60) {e : Int} (he : e < 60) (j : Nat) : bit (baseS L k e) j = (bit (bel L k) j && !(decide (0 ≤ e) && bit (bel L e.toNat) j)) := by
  have h1 := Sg.bel_bd L k hk
  unfold baseS
  by_cases h0 : 0 ≤ e
  · have h2 := Sg.bel_bd L e.toNat (by omega)
    rw [if_pos h0, Sg.bit_andNot _ _ h1.1 h1.2 h2.1 h2.2, decide_eq_true h0, Bool.true_and]
  · rw [if_neg h0, decide_eq_false h0]; simp
theorem pow_bd {b : Nat} (hb : b < 60) : (0 : Int) ≤ 2 ^ b ∧ (2 : Int) ^ b < 1152921504606846976 := by
  have h1 := Bit.pow_pos' b
  have h2 : (2 : Nat) ^ b < 2 ^ 60 := Nat.pow_lt_pow_right (by decide) hb
  have h3 : ((2 ^ b : Nat) : Int) = (2 : Int) ^ b := by simp
  omega
theorem frP_bits {L : List K} {k : Nat} (hk : k < 60) {e : Int} (b : Nat) (hb : b ≤ 60) : (0 ≤ frP L k e b ∧ frP L k e b < 1152921504606846976) ∧ ∀ j, bit (frP L k e b) j = (bit (baseS L k e) j && (!decide (j < b) || nodN L k j)) := by
  induction b with
  | zero => exact ⟨base_bd hk, fun j => by simp [frP]⟩
  | succ b ih =>
    have ih := ih (by omega)
    have pb := pow_bd (b := b) (by omega)
    unfold frP
    cases hq : (bit (frP L k e b) b && !nodN L k b)
    · rw [if_neg (by simp)]
      refine ⟨ih.1, fun j => ?_⟩
      rw [ih.2 j]
      by_cases ej : j = b
      · subst ej
        rw [ih.2 j] at hq
        cases h1 : bit (baseS L k e) j
        · rfl
        · rw [h1] at hq
          cases h2 : nodN L k j
          · rw [h2] at hq; simp at hq
          · simp
      · have : decide (j < b + 1) = decide (j < b) := by simp; omega
        rw [this]
    · rw [if_pos rfl]
      refine ⟨Sg.andNot_bd' _ _ ih.1.1 ih.1.2, fun j => ?_⟩
      rw [Sg.bit_andNot _ _ ih.1.1 ih.1.2 pb.1 pb.2, Sg.bit_pow, ih.2 j]
      rw [Bool.and_eq_true, Bool.not_eq_true'] at hq
      by_cases ej : j = b
      · subst ej
        rw [hq.2]; simp
      · have : decide (j < b + 1) = decide (j < b) := by simp; omega
        rw [this, decide_eq_false ej]; simp
theorem frP_end {L : List K} (hl : laceB L = true) {k : Nat} (hk : k < L.length) {e : Int} (he : e < (L.length : Int)) : frP L k e L.length = frS L k e L.length := by
  have h60 := ((Lc.lace_iff L).1 hl).1
  have h1 := frP_bits (L := L) (show k < 60 by omega) (e := e) L.length h60
  refine Lc.eq_of_bits _ _ h1.1.1 (frS_bd L k e _ h60).1 fun j => ?_
  rw [h1.2 j, bit_frS L k e _ h60, bit_base (by omega) (by omega)]
  unfold fresN
  by_cases hj : j < L.length
  · rw [decide_eq_true hj]; simp [Bool.and_assoc]
  · have hb : bit (bel L k) j = false := by
      rw [Bool.eq_false_iff]; intro q
      have := Ag.sees_le hl hk q
      omega
    rw [hb]; simp

/-- what is fresh is within the lace -/
theorem frS_in {L : List K} (h60 : L.length ≤ 60) (k : Nat) (e : Int) : ∀ i, bit (frS L k e L.length) i = true → i < L.length := fun i hi => by
  rw [bit_frS L k e _ h60, Bool.and_eq_true, decide_eq_true_eq] at hi
  exact hi.1
/-- the document's Ordered -/
def orderedI (L : List K) (s : Int) : List Int := if setB L s then ordL L (memTo s 60) else []
/-- the document's FreshOf -/
def freshI (L : List K) (k e : Int) : List Int := if isB L k && (decide (e = -1) || isB L e) then freshL L k e else []

/-- the two tables: what is below, and who nods -/
structure TabsN (w : World) (L : List K) (bb nb : Nat) : Prop where
  bel : ∀ i, i < L.length → w.cell? ⟨bb, i, none⟩ = some (.int .i64 (Sg.bel L i))
  nod : ∀ i, i < L.length → w.cell? ⟨nb, i, none⟩ = some (.int .i64 (nodS L i L.length))
  lb : bb < w.heap.size
  ln : nb < w.heap.size
theorem TabsN.below {w w' : World} {L : List K} {bb nb : Nat} (t : TabsN w L bb nb) (hb : Below w.heap.size w w') : TabsN w' L bb nb :=
  ⟨fun i hi => (hb.cell (p := ⟨bb, i, none⟩) t.lb).trans (t.bel i hi), fun i hi => (hb.cell (p := ⟨nb, i, none⟩) t.ln).trans (t.nod i hi), Nat.lt_of_lt_of_le t.lb hb.size, Nat.lt_of_lt_of_le t.ln hb.size⟩
/-- what is below, in memory of the call's own -/
structure TabB (w : World) (L : List K) (bb : Nat) : Prop where
  bel : ∀ i, i < L.length → w.cell? ⟨bb, i, none⟩ = some (.int .i64 (Sg.bel L i))
  lb : bb < w.heap.size
theorem TabB.below {w w' : World} {L : List K} {bb : Nat} (t : TabB w L bb) (hb : Below w.heap.size w w') : TabB w' L bb := ⟨fun i hi => (hb.cell (p := ⟨bb, i, none⟩) t.lb).trans (t.bel i hi), Nat.lt_of_lt_of_le t.lb hb.size⟩
theorem TabB.rd {w : World} {L : List K} {bb : Nat} (t : TabB w L bb) : Lst.Rd w (some ⟨bb, 0, none⟩) (belows L L.length) := .inr ⟨bb, rfl, fun j hj => by
  rw [Sg.belows_len] at hj
  rw [Sg.belows_get L L.length j hj]; exact t.bel j hj⟩

/-- the tables of a lace, the second one not yet fixed -/
structure TabsF (w : World) (L : List K) (bb h : Nat) : Prop extends Ch.TabsL w L bb h where
  fr : ∀ i, i < L.length → w.frozen? ⟨h, i, none⟩ = false
theorem chF_mem (L : List K) (C : List Int) : ∀ (f : Nat) (k x : Int), x ∈ Ch.chF L C f k → 0 ≤ x ∧ x ≤ k := by
  intro f
  induction f with
  | zero => intro k x h; simp [Ch.chF] at h
  | succ f ih =>
    intro k x h
    unfold Ch.chF at h
    by_cases hk : k < 0
    · rw [if_pos hk] at h; simp at h
    · rw [if_neg hk, List.mem_append] at h
      have hlt := Ch.earlier_lt L C k.toNat
      rcases h with h | h
      · have := ih _ _ h; omega
      · have : x = k := by simpa using h
        omega
theorem taleF_snoc (L : List K) : ∀ (l : List Int) (c e : Int), taleF L e (l ++ [c]) = taleF L e l ++ freshL L c (l.getLastD e) := by
  intro l
  induction l with
  | nil => intro c e; simp [taleF]
  | cons x l ih =>
    intro c e
    show freshL L x e ++ taleF L x (l ++ [c]) = (freshL L x e ++ taleF L x l) ++ freshL L c ((x :: l).getLastD e)
    rw [ih c x, List.getLastD_cons, List.append_assoc]
theorem fresh_len (L : List K) (k e : Int) : (freshL L k e).length ≤ 60 := by
  unfold freshL
  rw [ord_len]; exact Bit.memTo_le _ 60

/-- the tale so far, in a row of the call's own that lies apart from all that is read -/
structure TlSt (w w3 wr : World) (og0 og cp : Nat) (l : List Int) : Prop where
  own : wr.ownsRow w.heap.size 2 1 (.slice (some ⟨og, 0, none⟩) l.length cp) l.length (l.map (Value.int .i64))
  bel : Below w.heap.size w wr
  gr : w3.grownBy wr (some og0)
  at' : og = og0 ∨ w3.heap.size ≤ og
theorem TlSt.below {w w3 wr w' : World} {og0 og cp : Nat} {l : List Int} (s : TlSt w w3 wr og0 og cp l) (hb : Below wr.heap.size wr w') : TlSt w w3 w' og0 og cp l :=
  ⟨Fm.row_below s.own hb, s.bel.trans (hb.mono s.bel.size), World.grownBy.trans s.gr ⟨hb.os, hb.tape, hb.output, hb.size, fun i hi _ => hb.block i hi⟩, s.at'⟩
theorem TlSt.app {w w3 wr w1 : World} {og0 og cp : Nat} {l ns : List Int} {v' : Value} (s : TlSt w w3 wr og0 og cp l) (ho : w1.ownsRow w.heap.size 2 1 v' (l.length + ns.length) (l.map (Value.int .i64) ++ ns.map (Value.int .i64))) (hg : wr.grownBy w1 (some og)) (hn : ¬ v' = .slice none 0 0) (ha : v'.ownBlock = some og ∨ v'.ownBlock = some wr.heap.size) : ∃ g2 c2, v' = .slice (some ⟨g2, 0, none⟩) (l.length + ns.length) c2 ∧ TlSt w w3 w1 og0 g2 c2 (l ++ ns) := by
  have ho' := ho
  obtain ⟨_, ⟨hx, _⟩ | ⟨g2, c2, cur, hx, _⟩⟩ := ho'
  · exact absurd hx hn
  · subst hx
    have hlt := World.ownsRow.lt s.own og rfl
    refine ⟨g2, c2, rfl, by simpa using ho, s.bel.grown hg s.bel.size (fun k hk => by cases hk; exact hlt.1), ⟨hg.os.trans s.gr.os, hg.tape.trans s.gr.tape, hg.output.trans s.gr.output, Nat.le_trans s.gr.size hg.size, fun j hj hne => ?_⟩, ?_⟩
    · have h1 := s.gr.block j hj hne
      refine (hg.block j (Nat.lt_of_lt_of_le hj s.gr.size) (fun e => ?_)).trans h1
      injection e with e
      subst e
      rcases s.at' with q | q
      · exact hne (by rw [q])
      · omega
    · simp [Value.ownBlock] at ha
      rcases ha with e | e
      · subst e; exact s.at'
      · exact .inr (by have := s.gr.size; omega)

/-- the document's TaleOf -/
def taleI (L : List K) (C : List Int) (k : Int) : List Int := if Ch.onB L C k then taleL L C k else []
/-- the document's OutOf -/
def outI (L : List K) (C : List Int) (s : Int) : List Int := if Fm.rightB L C s then outL L C s else []

theorem out_none {L : List K} {C : List Int} {s : Int} (h : lastT L (firmL L C s L.length) < 0) : outL L C s = [] := by unfold outL; rw [if_pos h]
theorem out_some {L : List K} {C : List Int} {s : Int} (h : ¬ lastT L (firmL L C s L.length) < 0) : outL L C s = taleL L C (lastT L (firmL L C s L.length)) := by unfold outL; rw [if_neg h]

end Tl
end Go.Proofs.Ytodgkhlnefggdaa
