/-
  What the model's drawings for the laws on order and on what is fresh hand back, where the drawing of a room keeps its word.
  What the model's FirmOnes answers: those of a closed set that are firm; for coins of at most a million numbers and lists of knots whose words have at most 2^40 bytes.
  What the model's Earlier, ChainOf and OnChain answer: from leader to leader; for coins of at most a million numbers and lists of knots whose words have at most 2^40 bytes.
  What the model's order answers: by rounds, then by hands, then by numbers; for laces.
  What the model's FreshOf, Ordered, TaleOf and OutOf answer; for coins of at most a million numbers and lists of knots whose words have at most 2^40 bytes.
  What the model answers for Respects: each one is a knot, none is told twice, none stands ahead of one that it sees.
  Plain mathematics of chains, link by link: each is the leader before the next, and its chain is what the chain has up to it. No program in it.
  Plain mathematics of the laws on order, on what is fresh and on tales. No program in it.
  What the laws' own small functions over lists of numbers answer: two that hold the same are alike, what is marked is held; for lists of at most a million numbers that the call itself made.
  What the small functions of the exact statements on lists of numbers answer: a list handed on into new memory, and a list marked; for lists of at most 2^20 numbers.
  How long the lists of chapters 11 and 12 are at most; what the model answers for OutOf and BeginsWith.
-/
import Derived.Test.YtmnkankjblnjaaaGreatOrZa
import Derived.Test.YtmnkankjblnjaaaGreatFam
import Derived.Maps.AppendAt
import Derived.Laws.AppendOwnNone
import Derived.Test.YtmnkankjblnjaaaGreatDoubS
import Derived.Test.YtmnkankjblnjaaaGreatLike
import Derived.Test.YtmnkankjblnjaaaGreatCur
namespace Go.Proofs.YtmnkankjblnjaaaGreat
open Go.RowKit
set_option maxRecDepth 100000
namespace Fm
open Kn (K okK)
open Bit (bit withB)
open Lc (at' RdK WordsOk laceB setB handsN roundS)
open Sg (isB bel belows closedB NumsPost)
open Db (RowI)
open Sl (sealS sealN)
open Ch (leadK firmN sealAt)
open Rm (coinsB)
open Tl (firmL)

theorem row_below {base : Nat} {e : TypeId} {size : Nat} {w w' : World} {v : Value} {n : Nat} {xs : List Value} (h : w.ownsRow base e size v n xs) (hb : Below w.heap.size w w') : w'.ownsRow base e size v n xs := by
  have hlt := World.ownsRow.lt h
  obtain ⟨h1, h2⟩ := h
  refine ⟨h1, ?_⟩
  rcases h2 with h2 | ⟨g, cap, cur, rfl, hB, hg, rest⟩
  · exact .inl h2
  · exact .inr ⟨g, cap, cur, rfl, hB, (hb.block g (hlt g rfl).2).trans hg, rest⟩

/-- what the document's FirmOnes answers -/
def firmI (L : List K) (C : List Int) (s : Int) : List Int := if closedB L s && coinsB C then firmL L C s L.length else []

theorem firmL_len (L : List K) (C : List Int) (s : Int) (n : Nat) : (firmL L C s n).length ≤ n := by
  induction n with
  | zero => exact Nat.le_refl 0
  | succ n ih =>
    show (if firmN L C s n then firmL L C s n ++ [(n : Int)] else firmL L C s n).length ≤ n + 1
    split
    · simp; omega
    · omega
theorem firmL_step (L : List K) (C : List Int) (s : Int) (n : Nat) : firmL L C s (n + 1) = if firmN L C s n then firmL L C s n ++ [(n : Int)] else firmL L C s n := rfl

/-- a set that is closed, and coins -/
def rightB (L : List K) (C : List Int) (s : Int) : Bool := closedB L s && coinsB C

theorem closed_set {L : List K} {s : Int} (h : closedB L s = true) : laceB L = true ∧ 0 ≤ s ∧ s < 1152921504606846976 := by
  unfold Sg.closedB at h
  rw [Bool.and_eq_true] at h
  obtain ⟨hl, q0, q1, _⟩ := Lc.setB_parts h.1
  exact ⟨hl, q0, q1⟩

/-- the document's Firm -/
def firmB (L : List K) (C : List Int) (s k : Int) : Bool := (firmI L C s).contains k
theorem has_step (l : List Int) (k : Int) (j : Nat) (hj : j < l.length) : (l.take (j + 1)).contains k = ((l.take j).contains k || (l.getD j 0 == k)) := by
  rw [Lc.take_snocI l j hj]
  generalize l.getD j 0 = y
  generalize l.take j = t
  rw [Bool.eq_iff_iff]
  simp only [List.contains_iff_mem, List.mem_append, List.mem_singleton, Bool.or_eq_true, beq_iff_eq]
  exact or_congr Iff.rfl eq_comm

theorem firmI_len (L : List K) (C : List Int) (s : Int) : (firmI L C s).length ≤ L.length := by
  unfold firmI; split
  · exact firmL_len L C s _
  · simp

theorem last_mem (L : List K) (l : List Int) : Tl.lastT L l = -1 ∨ Tl.lastT L l ∈ l := by
  suffices H : ∀ n, n ≤ l.length → Tl.lastT L (l.take n) = -1 ∨ Tl.lastT L (l.take n) ∈ l.take n by
    have := H l.length (Nat.le_refl _)
    rwa [List.take_length] at this
  intro n
  induction n with
  | zero => intro _; exact .inl rfl
  | succ n ih =>
    intro hn
    rw [Lc.take_snocI l n (by omega), Tl.lastT_snoc]
    split
    · exact .inr (by simp)
    · rcases ih (by omega) with e | e
      · rename_i hc
        exact absurd (.inl (by rw [e]; omega)) hc
      · exact .inr (by simp only [List.mem_append]; exact .inl e)

theorem firmI_in {L : List K} {C : List Int} {s : Int} : ∀ x ∈ firmI L C s, 0 ≤ x ∧ x < (L.length : Int) := by
  intro x hx
  unfold firmI at hx
  split at hx
  · obtain ⟨k, rfl, hk, _⟩ := (Tl.mem_firm L C s L.length x).1 hx
    omega
  · exact absurd hx (by simp)
/-- the document's LastFirm -/
def lastI (L : List K) (C : List Int) (s : Int) : Int := Tl.lastT L (firmI L C s)

end Fm
end Go.Proofs.YtmnkankjblnjaaaGreat

namespace Go.Proofs.YtmnkankjblnjaaaGreat
open Go.RowKit
set_option maxRecDepth 100000
namespace Ch
open Kn (K okK)
open Bit (bit withB)
open Lc (at' RdK WordsOk laceB)
open Sg (isB bel belows NumsPost)
open Db (RowI)
open Sl (sealS sealN)
open Rm (coinsB)

/-- the two tables of a lace: what is below, and who seals -/
structure TabsL (w : World) (L : List K) (bb h : Nat) : Prop where
  bel : ∀ i, i < L.length → w.cell? ⟨bb, i, none⟩ = some (.int .i64 (Sg.bel L i))
  sl : ∀ i, i < L.length → w.cell? ⟨h, i, none⟩ = some (.int .i64 (sealS L i L.length))
  lb : bb < w.heap.size
  lh : h < w.heap.size
theorem TabsL.below {w w' : World} {L : List K} {bb h : Nat} (t : TabsL w L bb h) (hb : Below w.heap.size w w') : TabsL w' L bb h :=
  ⟨fun i hi => (hb.cell (p := ⟨bb, i, none⟩) t.lb).trans (t.bel i hi), fun i hi => (hb.cell (p := ⟨h, i, none⟩) t.lh).trans (t.sl i hi), Nat.lt_of_lt_of_le t.lb hb.size, Nat.lt_of_lt_of_le t.lh hb.size⟩

theorem earI_step (L : List K) (C : List Int) (k n : Nat) : earI L C k (n + 1) = if earN L C k n && (decide (earI L C k n < 0) || decide ((at' L (earI L C k n).toNat).round < (at' L n).round)) then (n : Int) else earI L C k n := rfl
theorem earI_bd (L : List K) (C : List Int) (k n : Nat) : earI L C k n = -1 ∨ ∃ e : Nat, earI L C k n = (e : Int) ∧ e < n := by
  rcases ear_spec L C k n with ⟨h, _⟩ | ⟨e, h, he, _⟩
  · exact .inl h
  · exact .inr ⟨e, h, he⟩

/-- the chain so far, in memory of the call's own -/
structure ChSt (w wr : World) (v : Value) (l : List Int) : Prop where
  shape : ∃ gg cp, v = .slice (some ⟨gg, 0, none⟩) l.length cp ∧ Memb.Own w.heap.size wr (some ⟨gg, 0, none⟩) cp l
  bel : Below w.heap.size w wr
theorem chSt_start (w : World) : ChSt w (w.alloc (.cells #[] 2)) (.slice (some ⟨w.heap.size, 0, none⟩) 0 0) [] := ⟨⟨_, _, rfl, Memb.own_empty w⟩, (Below.refl _ _).alloc (Nat.le_refl _) _⟩
theorem chSt_put {w wr w3 : World} {v' : Value} {l : List Int} {x : Int} {o : Obj} (hB : Below w.heap.size w wr) (ho : w3.ownsRow w.heap.size 2 1 v' (1 + l.length) ([.int .i64 x] ++ l.map (Value.int .i64))) (hg : (wr.alloc o).grownBy w3 (some wr.heap.size)) (hn : ¬ v' = .slice none 0 0) : ChSt w w3 v' (x :: l) := by
  refine ⟨?_, (hB.alloc hB.size o).grown hg (by simp; have := hB.size; omega) (fun j hj => by cases hj; exact hB.size)⟩
  have ho' : w3.ownsRow w.heap.size 2 1 v' (x :: l).length ((x :: l).map (Value.int .i64)) := by
    rw [show (x :: l).length = 1 + l.length by simp; omega]; exact ho
  obtain ⟨ao, cap, hv, hown⟩ := Memb.own_shape ho'
  rcases ao with _ | a
  · obtain ⟨_, ⟨hx, _⟩ | ⟨gg, cp, cur, hx, _⟩⟩ := ho'
    · exact absurd hx hn
    · rw [hv] at hx; injection hx with hx _; exact absurd hx (by simp)
  · obtain ⟨_, ⟨hx, _⟩ | ⟨gg, cp, cur, hx, _⟩⟩ := ho'
    · exact absurd hx hn
    · rw [hv] at hx
      injection hx with hx _ hc
      injection hx with hx
      subst hx hc
      exact ⟨gg, cap, hv, hown⟩

/-- a knot, and coins -/
def onB (L : List K) (C : List Int) (k : Int) : Bool := isB L k && coinsB C
/-- the document's Earlier -/
def earlierI (L : List K) (C : List Int) (k : Int) : Int := if onB L C k then earlierN L C k.toNat else -1
/-- the document's ChainOf -/
def chainI (L : List K) (C : List Int) (k : Int) : List Int := if onB L C k then chainL L C k else []

theorem own_base {B B' : Nat} {w : World} {ao : Option Addr} {cap : Nat} {l : List Int} (h : Memb.Own B w ao cap l) (hb : B' ≤ B) : Memb.Own B' w ao cap l := by
  obtain ⟨a1, a2⟩ := h
  refine ⟨a1, ?_⟩
  rcases a2 with a2 | ⟨g2, c2, cur, e1, e2, rest⟩
  · exact .inl a2
  · exact .inr ⟨g2, c2, cur, e1, Nat.le_trans hb e2, rest⟩
/-- an empty list of the call's own -/
theorem nums_nil {w w1 : World} (hb1 : Below w.heap.size w w1) : Memb.Own w.heap.size (w1.alloc (.cells #[] 2)) (some ⟨w1.heap.size, 0, none⟩) 0 [] ∧ Below w.heap.size w (w1.alloc (.cells #[] 2)) := ⟨own_base (Memb.own_empty w1) hb1.size, hb1.alloc hb1.size _⟩

/-- the document's OnChain -/
def onChainB (L : List K) (C : List Int) (k x : Int) : Bool := (chainI L C k).contains x
theorem chainI_len {L : List K} {C : List Int} {k : Int} : (chainI L C k).length ≤ 61 := by
  unfold chainI
  split
  · rename_i h
    unfold onB at h
    rw [Bool.and_eq_true] at h
    obtain ⟨k0, k1, hlc⟩ := Sg.isB_parts h.1
    have h60 := ((Lc.lace_iff L).1 hlc).1
    have := chain_len L C k
    omega
  · simp

end Ch
end Go.Proofs.YtmnkankjblnjaaaGreat

namespace Go.Proofs.YtmnkankjblnjaaaGreat
open Go.RowKit
set_option maxRecDepth 100000
namespace Tl
open Kn (K okK)
open Bit (bit withB memTo)
open Lc (at' RdK WordsOk laceB setB)
open Sg (isB bel belows NumsPost)

/-- those that stand behind are passed over -/
theorem insR_pass (L : List K) (x : Int) : ∀ (a b : List Int), (∀ y ∈ a, gtB L y x = true) → insR L x (a ++ b) = a ++ insR L x b := by
  intro a
  induction a with
  | nil => intro b _; rfl
  | cons y a ih =>
    intro b h
    show insR L x (y :: (a ++ b)) = y :: (a ++ insR L x b)
    conv => lhs; unfold insR
    rw [h y (by simp), if_pos rfl, ih b (fun z hz => h z (by simp [hz]))]
theorem insB_at (L : List K) (out : List Int) (x : Int) (k : Nat) (hk : k ≤ out.length) (h1 : ∀ j, k ≤ j → j < out.length → gtB L (out.getD j 0) x = true) (h2 : k = 0 ∨ gtB L (out.getD (k - 1) 0) x = false) : insB L out x = out.take k ++ ([x] ++ out.drop k) := by
  unfold insB
  have e : out.reverse = (out.drop k).reverse ++ (out.take k).reverse := by rw [← List.reverse_append, List.take_append_drop]
  rw [e, insR_pass]
  · have : insR L x (out.take k).reverse = x :: (out.take k).reverse := by
      rcases h2 with h2 | h2
      · subst h2; simp [insR]
      · by_cases hk0 : k = 0
        · subst hk0; simp [insR]
        · have hk1 : k - 1 < out.length := by omega
          have e2 : out.take k = out.take (k - 1) ++ [out.getD (k - 1) 0] := by
            have := Lc.take_snocI out (k - 1) hk1
            rwa [show k - 1 + 1 = k by omega] at this
          rw [e2, List.reverse_append]
          show insR L x (out.getD (k - 1) 0 :: (out.take (k - 1)).reverse) = _
          unfold insR
          rw [h2, if_neg (by simp)]
          rfl
    rw [this, List.reverse_append, List.reverse_reverse, List.reverse_cons, List.reverse_reverse, List.append_assoc]
  · intro y hy
    rw [List.mem_reverse] at hy
    obtain ⟨j, hj, rfl⟩ := List.mem_iff_getElem.1 hy
    have hj' : k + j < out.length := by simp at hj; omega
    have := h1 (k + j) (by omega) hj'
    rw [List.getElem_drop]
    simpa [List.getD, List.getElem?_eq_getElem hj'] using this
theorem ord_step (L : List K) (m : List Int) (i : Nat) (hi : i < m.length) : ordL L (m.take (i + 1)) = insB L (ordL L (m.take i)) (m.getD i 0) := by
  rw [Lc.take_snocI m i hi]
  unfold ordL
  rw [List.foldl_append]; rfl
theorem ord_len (L : List K) (m : List Int) : (ordL L m).length = m.length := (ord_perm L m).length_eq

/-- a number is stored into a row of the call's own -/
theorem own_put {B : Nat} {w : World} {g n cap : Nat} {a : List Int} (h : w.ownsRow B 2 1 (.slice (some ⟨g, 0, none⟩) n cap) n (a.map (Value.int .i64))) (j : Nat) (y : Int) : (w.setCell ⟨g, j, none⟩ (.int .i64 y)).ownsRow B 2 1 (.slice (some ⟨g, 0, none⟩) n cap) n ((a.set j y).map (Value.int .i64)) := by
  obtain ⟨h1, h2⟩ := h
  refine ⟨by simpa using h1, ?_⟩
  rcases h2 with ⟨h2, _⟩ | ⟨g2, c2, cur, e1, hB, hg, hn, hm, hs, ht⟩
  · injection h2 with h2 _; exact absurd h2 (by simp)
  · injection e1 with e1 _ e3
    injection e1 with e1
    injection e1 with e1
    subst e1 e3
    refine .inr ⟨g, cap, cur.setIfInBounds j (.int .i64 y), rfl, hB, heap_setCell_same w g j cur _ _ hg, hn, hm, by simpa using hs, ?_⟩
    rw [Array.toList_setIfInBounds, List.take_set, ht, List.map_set]
theorem own_frozen {B : Nat} {w : World} {g n cap : Nat} {xs : List Value} {t : TypeId} (h : w.ownsRow B t 1 (.slice (some ⟨g, 0, none⟩) n cap) n xs) (j : Nat) : w.frozen? ⟨g, j, none⟩ = false := by
  obtain ⟨_, ⟨h2, _⟩ | ⟨g2, c2, cur, e1, hB, hg, _⟩⟩ := h
  · injection h2 with h2 _; exact absurd h2 (by simp)
  · injection e1 with e1 _ _
    injection e1 with e1
    injection e1 with e1
    subst e1
    simp [World.frozen?, hg]

theorem shift_set (out : List Int) (k : Nat) (y : Int) (hk : k + 1 ≤ out.length) : (out.take (k + 1) ++ ([y] ++ out.drop (k + 1))).set (k + 1) (out.getD k 0) = out.take k ++ ([out.getD k 0] ++ out.drop k) := by
  have e1 : out.take (k + 1) = out.take k ++ [out.getD k 0] := Lc.take_snocI out k (by omega)
  have e2 : out.drop k = out.getD k 0 :: out.drop (k + 1) := by
    rw [List.drop_eq_getElem_cons (by omega : k < out.length)]
    simp [List.getD, List.getElem?_eq_getElem (by omega : k < out.length)]
  rw [e2, e1]
  have hl : (out.take k ++ [out.getD k 0]).length = k + 1 := by simp; omega
  rw [List.set_append_right _ _ (by rw [hl]; omega), hl]
  simp
theorem last_set (out : List Int) (k : Nat) (x y : Int) (hk : k ≤ out.length) : (out.take k ++ ([y] ++ out.drop k)).set k x = out.take k ++ ([x] ++ out.drop k) := by
  have hl : (out.take k).length = k := by simp; omega
  rw [List.set_append_right _ _ (by rw [hl]; omega), hl]
  simp

theorem shift_get (out : List Int) (k j : Nat) (rest : List Int) (hj : j < k) (hk : k ≤ out.length) : (out.take k ++ rest).getD j 0 = out.getD j 0 := by
  have h1 : j < (out.take k).length := by simp <;> omega
  simp [List.getD, List.getElem?_append_left h1, hj]

/-- the order so far, and the members that are put into it -/
structure OrSt (w wr : World) (mb : Nat) (m : List Int) (og cp : Nat) (o : List Int) : Prop where
  own : wr.ownsRow w.heap.size 2 1 (.slice (some ⟨og, 0, none⟩) o.length cp) o.length (o.map (Value.int .i64))
  bel : Below w.heap.size w wr
  mc : ∀ j, j < m.length → wr.cell? ⟨mb, j, none⟩ = some (.int .i64 (m.getD j 0))
  ne : 0 < m.length → og ≠ mb
  ml : 0 < m.length → mb < wr.heap.size
theorem OrSt.cell {w wr : World} {mb : Nat} {m : List Int} {og cp : Nat} {o : List Int} (s : OrSt w wr mb m og cp o) {j : Nat} (hj : j < o.length) : wr.cell? ⟨og, j, none⟩ = some (.int .i64 (o.getD j 0)) := by
  have : Memb.Own w.heap.size wr (some ⟨og, 0, none⟩) cp o := s.own
  rcases Lst.own_rd this with e | ⟨g, e, hc⟩
  · rw [e] at hj; simp at hj
  · injection e with e; injection e with e; subst e; exact hc j hj
theorem OrSt.lt {w wr : World} {mb : Nat} {m : List Int} {og cp : Nat} {o : List Int} (s : OrSt w wr mb m og cp o) : w.heap.size ≤ og ∧ og < wr.heap.size := World.ownsRow.lt s.own og rfl
theorem OrSt.put {w wr : World} {mb : Nat} {m : List Int} {og cp : Nat} {o : List Int} (s : OrSt w wr mb m og cp o) (j : Nat) (y : Int) : OrSt w (wr.setCell ⟨og, j, none⟩ (.int .i64 y)) mb m og cp (o.set j y) where
  own := by have := own_put s.own j y; simpa using this
  bel := s.bel.setCell (p := ⟨og, j, none⟩) s.lt.1 _
  mc := fun i hi => (World.cell?_of_block (w := wr) (Below.heap_setCell wr ⟨og, j, none⟩ _ mb (fun e => s.ne (by omega) e.symm))).trans (s.mc i hi)
  ne := s.ne
  ml := fun h => by simpa using s.ml h
theorem OrSt.drewN {w wr : World} {mb : Nat} {m : List Int} {og cp : Nat} {o : List Int} (s : OrSt w wr mb m og cp o) (n : Nat) : OrSt w (wr.drewN n) mb m og cp o := ⟨s.own, Db.below_drewN s.bel n, s.mc, s.ne, s.ml⟩
theorem OrSt.app {w wr w1 : World} {mb : Nat} {m : List Int} {og cp : Nat} {o : List Int} {x : Int} {v' : Value} {ob : Obj} (s : OrSt w wr mb m og cp o) (ho : w1.ownsRow w.heap.size 2 1 v' (o.length + 1) (o.map (Value.int .i64) ++ [.int .i64 x])) (hg : (wr.alloc ob).grownBy w1 (some og)) (hn : ¬ v' = .slice none 0 0) (ha : v'.ownBlock = some og ∨ v'.ownBlock = some (wr.alloc ob).heap.size) : ∃ g2 c2, v' = .slice (some ⟨g2, 0, none⟩) (o.length + 1) c2 ∧ OrSt w w1 mb m g2 c2 (o ++ [x]) := by
  have ho' := ho
  obtain ⟨_, ⟨hx, _⟩ | ⟨g2, c2, cur, hx, _⟩⟩ := ho'
  · exact absurd hx hn
  · subst hx
    have hb : Below w.heap.size w w1 := (s.bel.alloc s.bel.size ob).grown hg (by simp; have := s.bel.size; omega) (fun k hk => by cases hk; exact s.lt.1)
    refine ⟨g2, c2, rfl, by simpa using ho, hb, fun j hj => ?_, fun hm => ?_, fun hm => ?_⟩
    · have h1 : (wr.alloc ob).cell? ⟨mb, j, none⟩ = some (.int .i64 (m.getD j 0)) := by rw [World.cell?_alloc_lt _ _ _ (s.ml (by omega))]; exact s.mc j hj
      exact World.grownBy.cell hg h1 (by intro e; injection e with e; exact s.ne (by omega) e.symm)
    · have hml := s.ml hm
      have hne := s.ne hm
      simp [Value.ownBlock] at ha
      rcases ha with e | e
      · subst e; exact hne
      · omega
    · have h1 := hg.size
      have h2 := s.ml hm
      simp at h1; omega

set_option maxHeartbeats 6400000 in
theorem l11Order (g off cap : Nat) (L : List K) (s : Int) (w : World) (hl : laceB L = true) (hr : RdK w (some ⟨g, off, none⟩) L) (h0 : 0 ≤ s) (h1 : s < 1152921504606846976) (hin : ∀ i, bit s i = true → i < L.length) :
    Calls Tryz.prog 34 #[.slice (some ⟨g, off, none⟩) L.length cap, .int .i64 s] w (NumsPost (ordL L (memTo s 60)) w) := by
  obtain ⟨i0, hi, hz0, hz1, hz2⟩ := info_parts Memb.info2
  have hL := ((Lc.lace_iff L).1 hl).1
  have HMEM : Hid (∀ x ∈ memTo s 60, ∃ p : Nat, x = (p : Int) ∧ p < L.length) := fun x hx => by
    obtain ⟨j, _, rfl, hb⟩ := (Bit.mem_memTo _ _ _).1 hx
    exact ⟨j, rfl, hin j hb⟩
  have HKN : Hid (∀ (W : World) (p : Nat), Below w.heap.size w W → p < L.length → W.cell? ⟨g, off + p * 4, none⟩ = some (.int .i64 (at' L p).hand) ∧ W.cell? ⟨g, off + p * 4 + 1, none⟩ = some (.int .i64 (at' L p).round)) := fun W p hW hp => by
    obtain ⟨_, q0, q1, _, _⟩ := (hr.below hW).on p hp
    exact ⟨q0, q1⟩
  have hml : (memTo s 60).length ≤ 60 := Bit.memTo_le s 60
  clear hl hr hin
  have HB0 : Hid (Below w.heap.size w (w.alloc (.cells #[] 2))) := (Below.refl _ _).alloc (Nat.le_refl _) _
  have HE0 : Hid ((w.alloc (.cells #[] 2)).ownsRow w.heap.size 2 1 (.slice (some ⟨w.heap.size, 0, none⟩) 0 0) 0 []) := Memb.own_empty w
  have hsz0 : w.heap.size < (w.alloc (.cells #[] 2)).heap.size := by simp
  go_enter Tryz.func34, Tryz.ntmps34
  go_wp2_with fail
  generalize w.alloc (.cells #[] 2) = w0 at HB0 HE0 hsz0 ⊢
  refine (Memb.l1Members' s _ h0 h1).mono ?_
  rintro e w1 ⟨mo, mc, rfl, hown, hb1⟩
  obtain ⟨mb, HMO, HS1⟩ : ∃ mb, Hid (0 < (memTo s 60).length → mo = some ⟨mb, 0, none⟩) ∧ Hid (OrSt w w1 mb (memTo s 60) w.heap.size 0 []) := by
    have hE1 : w1.ownsRow w.heap.size 2 1 (.slice (some ⟨w.heap.size, 0, none⟩) 0 0) 0 [] := Fm.row_below HE0.out hb1
    have hB1 : Below w.heap.size w w1 := HB0.out.trans (hb1.mono HB0.out.size)
    rcases Lst.own_rd hown with e | ⟨mb, e, hc⟩
    · have hz : (memTo s 60).length = 0 := by rw [e]; rfl
      exact ⟨0, fun hh => by omega, ⟨hE1, hB1, fun j hj => by omega, fun hh => by omega, fun hh => by omega⟩⟩
    · subst e
      have := World.ownsRow.lt hown mb rfl
      exact ⟨mb, fun _ => rfl, ⟨hE1, hB1, hc, fun _ => by omega, fun _ => this.2⟩⟩
  clear hb1 hown HB0 HE0 hsz0
  generalize hmm : memTo s 60 = m at HMEM hml HMO HS1 ⊢
  have HMM : Hid (memTo s 60 = m) := hmm
  clear hmm
  go_wp2
  go_loopw [5, 7] (fun v iv wr => ∃ (i : Nat) (og ocp : Nat), i ≤ m.length ∧ iv = .int .i64 (i : Int) ∧ v = .slice (some ⟨og, 0, none⟩) (ordL L (m.take i)).length ocp ∧ Hid (OrSt w wr mb m og ocp (ordL L (m.take i)))) (fun _ iv _ => m.length - (intOf iv).toNat)
  case atStart => exact ⟨0, w.heap.size, 0, by omega, rfl, rfl, HS1⟩
  case round =>
    obtain ⟨i, og, ocp, hil, rfl, hv, HS⟩ := hrel
    clear HS1
    by_cases hlt : i < m.length
    · subst hv
      have hii : (i : Int) < (m.length : Int) := by omega
      have hmo := HMO.out (by omega)
      have HST : Hid (ordL L (m.take (i + 1)) = insB L (ordL L (m.take i)) (m.getD i 0)) := ord_step L m i hlt
      have hol : (ordL L (m.take i)).length = i := by rw [ord_len]; simp; omega
      have HIN : Hid (∀ j, j < i → ∃ r : Nat, (ordL L (m.take i)).getD j 0 = (r : Int) ∧ r < L.length) := fun j hj => by
        have hmem : (ordL L (m.take i)).getD j 0 ∈ ordL L (m.take i) := by simp [List.getD, List.getElem?_eq_getElem (show j < (ordL L (m.take i)).length by omega)]
        exact HMEM.out _ (List.mem_of_mem_take ((mem_ord L _ _).1 hmem))
      obtain ⟨p, hxp, hp⟩ := HMEM.out (m.getD i 0) (by simp [List.getD, List.getElem?_eq_getElem hlt])
      rw [hxp] at HST
      generalize ordL L (m.take i) = o at HST hol HIN HS ⊢
      have cm := HS.out.mc i hlt
      rw [hxp] at cm
      subst hmo
      have HOL : Hid (o.length = i) := hol
      have hol1 : o.length ≤ 60 := by omega
      have HXP : Hid (m.getD i 0 = (p : Int)) := hxp
      clear hol hxp
      have HOA : Hid (∀ ob : Obj, (wr.alloc ob).ownsRow w.heap.size 2 1 (.slice (some ⟨og, 0, none⟩) o.length ocp) o.length (o.map (Value.int .i64))) := fun ob => HS.out.own.alloc ob
      have hwsz := HS.out.bel.size
      go_wp2_with (first | (at_builtin; refine wpList_append_own_at _ rfl _ _ 27 rfl w.heap.size 2 i0 (.int .i64 0) 1 8 Tryz.underlying27 hi hz0 hz1 hz2 rfl (by decide) (.slice (some ⟨og, 0, none⟩) o.length ocp) o.length (o.map (Value.int .i64)) (by first | rfl | simp [Act.eval]) (HOA.out _) ⟨wr.heap.size, 0, none⟩ 1 1 [.int .i64 (p : Int)] (by first | rfl | simp [Act.eval]) rfl (Sg.one_new wr (p : Int) _) (Sg.one_one (p : Int)) ?c3 ?c4 ?c5 ?_) | fail)
      case c3 => unfold maxLen; omega
      case c4 => omega
      case c5 => first | omega | (simp; omega)
      intro v' w3 hown' hgrow hnil hat
      obtain ⟨g2, c2, rfl, hS3⟩ := HS.out.app hown' hgrow (by first | exact hnil | exact fun e => by have := hnil.1 e; simp at this) (by simpa [Value.ownBlock] using hat)
      have HS3 : Hid (OrSt w w3 mb m g2 c2 (o.take o.length ++ ([(p : Int)] ++ o.drop o.length))) := by
        show OrSt _ _ _ _ _ _ _
        rw [List.take_length, List.drop_length]; exact hS3
      clear hown' hgrow hnil hat HS HOA hS3 cm
      go_wp2_with fail
      go_loopw [8] (fun kv wk => ∃ (k : Nat) (y : Int), k ≤ o.length ∧ kv = .int .i64 (k : Int) ∧ Hid (OrSt w wk mb m g2 c2 (o.take k ++ ([y] ++ o.drop k))) ∧ Hid (∀ j, k ≤ j → j < o.length → gtB L (o.getD j 0) (p : Int) = true)) (fun kv _ => (intOf kv).toNat)
      case atStart => exact ⟨o.length, (p : Int), Nat.le_refl _, rfl, HS3, fun j h1 h2 => by omega⟩
      case round =>
        obtain ⟨k, y, hk, rfl, HSk, HG⟩ := hrel
        clear HS3
        have hpi : (p : Int) < (L.length : Int) := by omega
        by_cases hk0 : k = 0
        · subst hk0
          go_wp2_with fail
          go_quiet (fail)
          have HNEW : Hid (ordL L (m.take (i + 1)) = o.take 0 ++ ([(p : Int)] ++ o.drop 0)) := HST.out.trans (insB_at L o (p : Int) 0 (by omega) HG.out (.inl rfl))
          have HP : Hid (OrSt w ((wr.drewN nq).setCell ⟨g2, 0, none⟩ (.int .i64 (p : Int))) mb m g2 c2 (ordL L (m.take (i + 1)))) := by
            show OrSt _ _ _ _ _ _ _
            rw [HNEW.out, ← last_set o 0 (p : Int) y (by omega)]
            exact (HSk.out.drewN nq).put 0 (p : Int)
          have HLN : Hid ((ordL L (m.take (i + 1))).length = o.length + 1) := by show _ = _; rw [HNEW.out]; simp <;> omega
          have cm : (wr.drewN nq).cell? ⟨mb, i, none⟩ = some (.int .i64 (p : Int)) := by have := HSk.out.mc i hlt; rw [HXP.out] at this; exact this
          have fz : (wr.drewN nq).frozen? ⟨g2, 0, none⟩ = false := own_frozen HSk.out.own 0
          have hkl : 0 < (o.take 0 ++ ([y] ++ o.drop 0)).length := by simp <;> omega
          have ck : (wr.drewN nq).cell? ⟨g2, 0, none⟩ = some (.int .i64 ((o.take 0 ++ ([y] ++ o.drop 0)).getD 0 0)) := HSk.out.cell hkl
          generalize (o.take 0 ++ ([y] ++ o.drop 0)).getD 0 0 = yk at ck
          clear hkl HNEW
          generalize wr.drewN nq = V at HP cm fz ck ⊢
          go_wp2
          go_roundw
          case rel => exact ⟨i + 1, g2, c2, by omega, by go_num, by rw [HLN.out], HP⟩
          case measure => simp [intOf]; omega
        · obtain ⟨q, rfl⟩ : ∃ q, k = q + 1 := ⟨k - 1, by omega⟩
          have hq : q < o.length := by omega
          obtain ⟨r, hor, hrl⟩ := HIN.out q (by rw [← HOL.out]; exact hq)
          have co : wr.cell? ⟨g2, q, none⟩ = some (.int .i64 (r : Int)) := by
            have := HSk.out.cell (j := q) (by simp; omega)
            rwa [shift_get o (q + 1) q _ (by omega) hk, hor] at this
          have cm0 : wr.cell? ⟨mb, i, none⟩ = some (.int .i64 (p : Int)) := by have := HSk.out.mc i hlt; rw [HXP.out] at this; exact this
          obtain ⟨ph, pr⟩ := HKN.out wr p HSk.out.bel hp
          obtain ⟨rh, rr⟩ := HKN.out wr r HSk.out.bel hrl
          have HGT : Hid (gtB L (r : Int) (p : Int) = (decide ((at' L p).round < (at' L r).round) || (decide ((at' L r).round = (at' L p).round) && decide ((at' L p).hand < (at' L r).hand)))) := rfl
          have HOR : Hid (o.getD q 0 = (r : Int)) := hor
          have hri : (r : Int) < (L.length : Int) := by omega
          have hk1 : ((q + 1 : Nat) : Int) - 1 = (q : Int) := by omega
          have hq1 : (q : Int) < (o.length : Int) + 1 := by omega
          clear hor hk0
          generalize (at' L p).hand = hp0 at ph HGT
          generalize (at' L p).round = hp1 at pr HGT
          generalize (at' L r).hand = hr0 at rh HGT
          generalize (at' L r).round = hr1 at rr HGT
          by_cases g1 : hp1 < hr1
          · have HGQ : Hid (gtB L (r : Int) (p : Int) = true) := by show _ = _; rw [HGT.out, decide_eq_true g1]; rfl
            have g1b : decide (hp1 < hr1) = true := decide_eq_true g1
            clear HGT
            have HQP : Hid (∀ nq : Nat, OrSt w ((wr.drewN nq).setCell ⟨g2, q + 1, none⟩ (.int .i64 (r : Int))) mb m g2 c2 (o.take q ++ ([(r : Int)] ++ o.drop q))) := fun nq => by
              have := (HSk.out.drewN nq).put (q + 1) (r : Int)
              rwa [← HOR.out, shift_set o q y hk, HOR.out] at this
            have HGP : Hid (∀ j, q ≤ j → j < o.length → gtB L (o.getD j 0) (p : Int) = true) := fun j j1 j2 => by
              by_cases e : j = q
              · subst e; rw [HOR.out]; exact HGQ.out
              · exact HG.out j (by omega) j2
            have fz : wr.frozen? ⟨g2, q + 1, none⟩ = false := own_frozen HSk.out.own (q + 1)
            have hkl : q + 1 < (o.take (q + 1) ++ ([y] ++ o.drop (q + 1))).length := by simp <;> omega
            have ck : wr.cell? ⟨g2, q + 1, none⟩ = some (.int .i64 ((o.take (q + 1) ++ ([y] ++ o.drop (q + 1))).getD (q + 1) 0)) := HSk.out.cell hkl
            generalize (o.take (q + 1) ++ ([y] ++ o.drop (q + 1))).getD (q + 1) 0 = yk at ck
            clear hkl
            go_wp2_with fail
            go_quiet (fail)
            go_wp2
            go_roundw
            case rel => exact ⟨q, (r : Int), by omega, by go_num, HQP.out nq, HGP⟩
            case measure => simp [intOf]
          · have g1b : decide (hp1 < hr1) = false := decide_eq_false g1
            by_cases g2' : hr1 = hp1
            · have g2b : (hr1 == hp1) = true := by simpa using g2'
              by_cases g3 : hp0 < hr0
              · have HGQ : Hid (gtB L (r : Int) (p : Int) = true) := by show _ = _; rw [HGT.out, decide_eq_true g2', decide_eq_true g3]; simp
                have g3b : decide (hp0 < hr0) = true := decide_eq_true g3
                clear HGT g1 g2' g3
                have HQP : Hid (∀ nq : Nat, OrSt w ((wr.drewN nq).setCell ⟨g2, q + 1, none⟩ (.int .i64 (r : Int))) mb m g2 c2 (o.take q ++ ([(r : Int)] ++ o.drop q))) := fun nq => by
                  have := (HSk.out.drewN nq).put (q + 1) (r : Int)
                  rwa [← HOR.out, shift_set o q y hk, HOR.out] at this
                have HGP : Hid (∀ j, q ≤ j → j < o.length → gtB L (o.getD j 0) (p : Int) = true) := fun j j1 j2 => by
                  by_cases e : j = q
                  · subst e; rw [HOR.out]; exact HGQ.out
                  · exact HG.out j (by omega) j2
                have fz : wr.frozen? ⟨g2, q + 1, none⟩ = false := own_frozen HSk.out.own (q + 1)
                have hkl : q + 1 < (o.take (q + 1) ++ ([y] ++ o.drop (q + 1))).length := by simp <;> omega
                have ck : wr.cell? ⟨g2, q + 1, none⟩ = some (.int .i64 ((o.take (q + 1) ++ ([y] ++ o.drop (q + 1))).getD (q + 1) 0)) := HSk.out.cell hkl
                generalize (o.take (q + 1) ++ ([y] ++ o.drop (q + 1))).getD (q + 1) 0 = yk at ck
                clear hkl
                go_wp2_with fail
                go_quiet (fail)
                go_wp2
                go_roundw
                case rel => exact ⟨q, (r : Int), by omega, by go_num, HQP.out nq, HGP⟩
                case measure => simp [intOf]
              · have HGQ : Hid (gtB L (r : Int) (p : Int) = false) := by show _ = _; rw [HGT.out, decide_eq_false g1, decide_eq_false g3]; simp
                have g3b : decide (hp0 < hr0) = false := decide_eq_false g3
                clear HGT g1 g2' g3
                go_wp2_with fail
                go_quiet (fail)
                have HNEW : Hid (ordL L (m.take (i + 1)) = o.take (q + 1) ++ ([(p : Int)] ++ o.drop (q + 1))) := HST.out.trans (insB_at L o (p : Int) (q + 1) (by omega) HG.out (.inr (by show gtB L (o.getD q 0) (p : Int) = false; rw [HOR.out]; exact HGQ.out)))
                have HP : Hid (OrSt w ((wr.drewN nq).setCell ⟨g2, q + 1, none⟩ (.int .i64 (p : Int))) mb m g2 c2 (ordL L (m.take (i + 1)))) := by
                  show OrSt _ _ _ _ _ _ _
                  rw [HNEW.out, ← last_set o (q + 1) (p : Int) y (by omega)]
                  exact (HSk.out.drewN nq).put (q + 1) (p : Int)
                have HLN : Hid ((ordL L (m.take (i + 1))).length = o.length + 1) := by show _ = _; rw [HNEW.out]; simp <;> omega
                have cm : (wr.drewN nq).cell? ⟨mb, i, none⟩ = some (.int .i64 (p : Int)) := by have := HSk.out.mc i hlt; rw [HXP.out] at this; exact this
                have fz : (wr.drewN nq).frozen? ⟨g2, q + 1, none⟩ = false := own_frozen HSk.out.own (q + 1)
                have hkl : q + 1 < (o.take (q + 1) ++ ([y] ++ o.drop (q + 1))).length := by simp <;> omega
                have ck : (wr.drewN nq).cell? ⟨g2, q + 1, none⟩ = some (.int .i64 ((o.take (q + 1) ++ ([y] ++ o.drop (q + 1))).getD (q + 1) 0)) := HSk.out.cell hkl
                generalize (o.take (q + 1) ++ ([y] ++ o.drop (q + 1))).getD (q + 1) 0 = yk at ck
                clear hkl HNEW
                generalize wr.drewN nq = V at HP cm fz ck ⊢
                go_wp2
                go_roundw
                case rel => exact ⟨i + 1, g2, c2, by omega, by go_num, by rw [HLN.out], HP⟩
                case measure => simp [intOf]; omega
            · have g2b : (hr1 == hp1) = false := by simpa using g2'
              have HGQ : Hid (gtB L (r : Int) (p : Int) = false) := by show _ = _; rw [HGT.out, decide_eq_false g1, decide_eq_false g2']; simp
              clear HGT g1 g2'
              go_wp2_with fail
              go_quiet (fail)
              have HNEW : Hid (ordL L (m.take (i + 1)) = o.take (q + 1) ++ ([(p : Int)] ++ o.drop (q + 1))) := HST.out.trans (insB_at L o (p : Int) (q + 1) (by omega) HG.out (.inr (by show gtB L (o.getD q 0) (p : Int) = false; rw [HOR.out]; exact HGQ.out)))
              have HP : Hid (OrSt w ((wr.drewN nq).setCell ⟨g2, q + 1, none⟩ (.int .i64 (p : Int))) mb m g2 c2 (ordL L (m.take (i + 1)))) := by
                show OrSt _ _ _ _ _ _ _
                rw [HNEW.out, ← last_set o (q + 1) (p : Int) y (by omega)]
                exact (HSk.out.drewN nq).put (q + 1) (p : Int)
              have HLN : Hid ((ordL L (m.take (i + 1))).length = o.length + 1) := by show _ = _; rw [HNEW.out]; simp <;> omega
              have cm : (wr.drewN nq).cell? ⟨mb, i, none⟩ = some (.int .i64 (p : Int)) := by have := HSk.out.mc i hlt; rw [HXP.out] at this; exact this
              have fz : (wr.drewN nq).frozen? ⟨g2, q + 1, none⟩ = false := own_frozen HSk.out.own (q + 1)
              have hkl : q + 1 < (o.take (q + 1) ++ ([y] ++ o.drop (q + 1))).length := by simp <;> omega
              have ck : (wr.drewN nq).cell? ⟨g2, q + 1, none⟩ = some (.int .i64 ((o.take (q + 1) ++ ([y] ++ o.drop (q + 1))).getD (q + 1) 0)) := HSk.out.cell hkl
              generalize (o.take (q + 1) ++ ([y] ++ o.drop (q + 1))).getD (q + 1) 0 = yk at ck
              clear hkl HNEW
              generalize wr.drewN nq = V at HP cm fz ck ⊢
              go_wp2
              go_roundw
              case rel => exact ⟨i + 1, g2, c2, by omega, by go_num, by rw [HLN.out], HP⟩
              case measure => simp [intOf]; omega
    · obtain rfl : i = m.length := by omega
      have e : m.take m.length = m := List.take_length
      rw [e] at HS hv
      have HV : Hid (u5 = .slice (some ⟨og, 0, none⟩) (ordL L m).length ocp) := hv
      have HF : Hid (Memb.Own w.heap.size wr (some ⟨og, 0, none⟩) ocp (ordL L m) ∧ Below w.heap.size w wr) := ⟨HS.out.own, HS.out.bel⟩
      clear hv HS e
      go_wp2
      go_ret
      exact ⟨some ⟨og, 0, none⟩, ocp, by rw [HMM.out, ← HV.out]; rfl, by rw [HMM.out]; exact HF.out.1, HF.out.2⟩

end Tl
end Go.Proofs.YtmnkankjblnjaaaGreat

namespace Go.Proofs.YtmnkankjblnjaaaGreat
open Go.RowKit
set_option maxRecDepth 100000
namespace Tl
open Kn (K okK)
open Bit (bit withB memTo)
open Lc (at' RdK WordsOk laceB setB)
open Sg (isB bel belows NumsPost)
open Nd (nodN nodS)

/-- below k and not below the earlier one -/
def baseS (L : List K) (k : Nat) (e : Int) : Int := if 0 ≤ e then bits .andNot .i64 (bel L k) (bel L e.toNat) else bel L k
/-- the model's set, when all below b have been looked at -/
def frP (L : List K) (k : Nat) (e : Int) : Nat → Int
  | 0 => baseS L k e
  | b + 1 => if bit (frP L k e b) b && !nodN L k b then bits .andNot .i64 (frP L k e b) (2 ^ b) else frP L k e b

theorem base_bd {L : List K} {k : Nat} (hk : k < 60) {e : Int} : 0 ≤ baseS L k e ∧ baseS L k e < 1152921504606846976 := by
  have h1 := Sg.bel_bd L k hk
  unfold baseS
  split
  · exact Sg.andNot_bd' _ _ h1.1 h1.2
  · exact h1
theorem bit_base {L : List K} {k : Nat} (hk : k < 60) {e : Int} (he : e < 60) (j : Nat) : bit (baseS L k e) j = (bit (bel L k) j && !(decide (0 ≤ e) && bit (bel L e.toNat) j)) := by
  have h1 := Sg.bel_bd L k hk
  unfold baseS
  by_cases h0 : 0 ≤ e
  · have h2 := Sg.bel_bd L e.toNat (by omega)
    rw [if_pos h0, Sg.bit_andNot _ _ h1.1 h1.2 h2.1 h2.2, decide_eq_true h0, Bool.true_and]
  · rw [if_neg h0, decide_eq_false h0]; simp
theorem pow_bd {b : Nat} (hb : b < 60) : (0 : Int) ≤ 2 ^ b ∧ (2 : Int) ^ b < 1152921504606846976 := by
  have h1 := Bit.pow_pos' b
  have h2 : (2 : Nat) ^ b < 2 ^ 60 := Nat.pow_lt_pow_right (by decide) hb
  have h3 : ((2 ^ b : Nat) : Int) = (2 : Int) ^ b := by simp
  omega
theorem frP_bits {L : List K} {k : Nat} (hk : k < 60) {e : Int} (b : Nat) (hb : b ≤ 60) : (0 ≤ frP L k e b ∧ frP L k e b < 1152921504606846976) ∧ ∀ j, bit (frP L k e b) j = (bit (baseS L k e) j && (!decide (j < b) || nodN L k j)) := by
  induction b with
  | zero => exact ⟨base_bd hk, fun j => by simp [frP]⟩
  | succ b ih =>
    have ih := ih (by omega)
    have pb := pow_bd (b := b) (by omega)
    unfold frP
    cases hq : (bit (frP L k e b) b && !nodN L k b)
    · rw [if_neg (by simp)]
      refine ⟨ih.1, fun j => ?_⟩
      rw [ih.2 j]
      by_cases ej : j = b
      · subst ej
        rw [ih.2 j] at hq
        cases h1 : bit (baseS L k e) j
        · rfl
        · rw [h1] at hq
          cases h2 : nodN L k j
          · rw [h2] at hq; simp at hq
          · simp
      · have : decide (j < b + 1) = decide (j < b) := by simp; omega
        rw [this]
    · rw [if_pos rfl]
      refine ⟨Sg.andNot_bd' _ _ ih.1.1 ih.1.2, fun j => ?_⟩
      rw [Sg.bit_andNot _ _ ih.1.1 ih.1.2 pb.1 pb.2, Sg.bit_pow, ih.2 j]
      rw [Bool.and_eq_true, Bool.not_eq_true'] at hq
      by_cases ej : j = b
      · subst ej
        rw [hq.2]; simp
      · have : decide (j < b + 1) = decide (j < b) := by simp; omega
        rw [this, decide_eq_false ej]; simp
theorem frP_end {L : List K} (hl : laceB L = true) {k : Nat} (hk : k < L.length) {e : Int} (he : e < (L.length : Int)) : frP L k e L.length = frS L k e L.length := by
  have h60 := ((Lc.lace_iff L).1 hl).1
  have h1 := frP_bits (L := L) (show k < 60 by omega) (e := e) L.length h60
  refine Lc.eq_of_bits _ _ h1.1.1 (frS_bd L k e _ h60).1 fun j => ?_
  rw [h1.2 j, bit_frS L k e _ h60, bit_base (by omega) (by omega)]
  unfold fresN
  by_cases hj : j < L.length
  · rw [decide_eq_true hj]; simp [Bool.and_assoc]
  · have hb : bit (bel L k) j = false := by
      rw [Bool.eq_false_iff]; intro q
      have := Ag.sees_le hl hk q
      omega
    rw [hb]; simp

set_option maxHeartbeats 1600000 in
theorem l11Fresh (bb bc nb nc : Nat) (L : List K) (k : Nat) (e : Int) (w : World) (hl : laceB L = true) (hk : k < L.length) (he0 : -1 ≤ e) (he : e < (L.length : Int)) (hbel : ∀ i, i < L.length → w.cell? ⟨bb, i, none⟩ = some (.int .i64 (bel L i))) (hnod : ∀ i, i < L.length → w.cell? ⟨nb, i, none⟩ = some (.int .i64 (nodS L i L.length))) :
    Calls Tryz.prog 47 #[.slice (some ⟨bb, 0, none⟩) L.length bc, .slice (some ⟨nb, 0, none⟩) L.length nc, .int .i64 (k : Int), .int .i64 e] w fun en w' => en = .returned (.int .i64 (frS L k e L.length)) ∧ w = w' := by
  have h60 := ((Lc.lace_iff L).1 hl).1
  have hki : (k : Int) < (L.length : Int) := by omega
  have ck := hbel k hk
  have HE : Hid (frP L k e L.length = frS L k e L.length) := frP_end hl hk he
  have HNOD : Hid (∀ i, i < L.length → w.cell? ⟨nb, i, none⟩ = some (.int .i64 (nodS L i L.length))) := hnod
  have HFB : Hid (∀ b, b ≤ 60 → 0 ≤ frP L k e b ∧ frP L k e b < 1152921504606846976) := fun b hb => (frP_bits (by omega) b hb).1
  have HST : Hid (∀ b, frP L k e (b + 1) = if bit (frP L k e b) b && !nodN L k b then bits .andNot .i64 (frP L k e b) (2 ^ b) else frP L k e b) := fun b => rfl
  have HB0 : Hid (frP L k e 0 = baseS L k e) := rfl
  clear hnod hl
  by_cases h0 : 0 ≤ e
  · obtain ⟨q, rfl⟩ := Int.eq_ofNat_of_zero_le h0
    have ce := hbel q (by omega)
    have HBQ : Hid (baseS L k (q : Int) = bits .andNot .i64 (bel L k) (bel L q)) := by show _ = _; unfold baseS; rw [if_pos h0, Int.toNat_natCast]
    clear hbel
    generalize bel L k = yk at ck HBQ
    generalize bel L q = yq at ce HBQ
    go_enter Tryz.func47, Tryz.ntmps47
    go_wp2
    go_loop [9, 10] (fun sv iv => ∃ b : Nat, b ≤ L.length ∧ iv = .int .i64 (b : Int) ∧ sv = .int .i64 (frP L k (q : Int) b)) (fun _ iv => L.length - (intOf iv).toNat)
    case atStart => exact ⟨0, by omega, rfl, by rw [HB0.out]; rw [HBQ.out]⟩
    case round =>
      obtain ⟨b, hb, rfl, rfl⟩ := hrel
      by_cases hlt : b < L.length
      · have hbi : (b : Int) < (L.length : Int) := by omega
        have hfb := HFB.out b (by omega)
        have HS := HST.out b
        have cn := HNOD.out b hlt
        have hnb := Nd.nodS_bd L b L.length h60
        have hc1 : ∀ W : World, Calls Tryz.prog 38 #[.int .i64 (frP L k (q : Int) b), .int .i64 (b : Int)] W fun en w' => en = .returned (.bool (bit (frP L k (q : Int) b) b)) ∧ W = w' := fun W => (Db.has_call _ b _ hfb.1 hfb.2 (by omega) rfl W).mono fun _ _ q => ⟨q.1, q.2.symm⟩
        have hc2 : ∀ W : World, Calls Tryz.prog 38 #[.int .i64 (nodS L b L.length), .int .i64 (k : Int)] W fun en w' => en = .returned (.bool (nodN L k b)) ∧ W = w' := fun W => (Db.has_call _ k _ hnb.1 hnb.2 (by omega) (by rw [Nd.bit_nodS L b _ h60, decide_eq_true hk]; rfl) W).mono fun _ _ q => ⟨q.1, q.2.symm⟩
        have HSS : Hid (frP L k (q : Int) (b + 1) = if bit (frP L k (q : Int) b) b && !nodN L k b then bits .andNot .i64 (frP L k (q : Int) b) (2 ^ b) else frP L k (q : Int) b) := HS
        clear HS hnb
        generalize bit (frP L k (q : Int) b) b = b1 at hc1 HSS
        generalize nodN L k b = b2 at hc2 HSS
        generalize frP L k (q : Int) b = fp at hc1 HSS hfb ⊢
        generalize nodS L b L.length = nv at cn hc2
        cases b1
        · have HD : Hid (frP L k (q : Int) (b + 1) = fp) := by show _ = _; rw [HSS.out]; rfl
          clear HSS hc2
          go_wp2_with (go_at_call 38; refine (hc1 _).mono ?_; rintro e' w' ⟨rfl, rfl⟩)
          go_round
          case rel => exact ⟨b + 1, by omega, by go_num, by rw [HD.out]⟩
          case measure => simp [intOf]; omega
        · go_wp2_with fail
          refine (hc1 _).mono ?_
          rintro e' w' ⟨rfl, rfl⟩
          go_wp2_with fail
          refine (hc2 _).mono ?_
          rintro e' w' ⟨rfl, rfl⟩
          cases b2
          · have HD : Hid (frP L k (q : Int) (b + 1) = bits .andNot .i64 fp (2 ^ b)) := by show _ = _; rw [HSS.out]; rfl
            clear HSS hc1 hc2
            go_wp2_with (go_at_call 39; refine (Base.l1Bit _ _ (by omega) (by omega)).mono ?_; rintro e' w' ⟨rfl, rfl⟩; rw [Int.toNat_natCast])
            go_round
            case rel => exact ⟨b + 1, by omega, by go_num, by rw [HD.out]⟩
            case measure => simp [intOf]; omega
          · have HD : Hid (frP L k (q : Int) (b + 1) = fp) := by show _ = _; rw [HSS.out]; rfl
            clear HSS hc1 hc2
            go_wp2
            go_round
            case rel => exact ⟨b + 1, by omega, by go_num, by rw [HD.out]⟩
            case measure => simp [intOf]; omega
      · obtain rfl : b = L.length := by omega
        rw [HE.out]
        go_wp2
        go_ret
        exact ⟨rfl, rfl⟩
  · have h0' : ¬ (0 : Int) ≤ e := h0
    have HBQ : Hid (baseS L k e = bel L k) := by show _ = _; unfold baseS; rw [if_neg h0]
    clear hbel h0
    generalize bel L k = yk at ck HBQ
    go_enter Tryz.func47, Tryz.ntmps47
    go_wp2
    go_loop [9, 10] (fun sv iv => ∃ b : Nat, b ≤ L.length ∧ iv = .int .i64 (b : Int) ∧ sv = .int .i64 (frP L k e b)) (fun _ iv => L.length - (intOf iv).toNat)
    case atStart => exact ⟨0, by omega, rfl, by rw [HB0.out]; rw [HBQ.out]⟩
    case round =>
      obtain ⟨b, hb, rfl, rfl⟩ := hrel
      by_cases hlt : b < L.length
      · have hbi : (b : Int) < (L.length : Int) := by omega
        have hfb := HFB.out b (by omega)
        have HS := HST.out b
        have cn := HNOD.out b hlt
        have hnb := Nd.nodS_bd L b L.length h60
        have hc1 : ∀ W : World, Calls Tryz.prog 38 #[.int .i64 (frP L k e b), .int .i64 (b : Int)] W fun en w' => en = .returned (.bool (bit (frP L k e b) b)) ∧ W = w' := fun W => (Db.has_call _ b _ hfb.1 hfb.2 (by omega) rfl W).mono fun _ _ q => ⟨q.1, q.2.symm⟩
        have hc2 : ∀ W : World, Calls Tryz.prog 38 #[.int .i64 (nodS L b L.length), .int .i64 (k : Int)] W fun en w' => en = .returned (.bool (nodN L k b)) ∧ W = w' := fun W => (Db.has_call _ k _ hnb.1 hnb.2 (by omega) (by rw [Nd.bit_nodS L b _ h60, decide_eq_true hk]; rfl) W).mono fun _ _ q => ⟨q.1, q.2.symm⟩
        have HSS : Hid (frP L k e (b + 1) = if bit (frP L k e b) b && !nodN L k b then bits .andNot .i64 (frP L k e b) (2 ^ b) else frP L k e b) := HS
        clear HS hnb
        generalize bit (frP L k e b) b = b1 at hc1 HSS
        generalize nodN L k b = b2 at hc2 HSS
        generalize frP L k e b = fp at hc1 HSS hfb ⊢
        generalize nodS L b L.length = nv at cn hc2
        cases b1
        · have HD : Hid (frP L k e (b + 1) = fp) := by show _ = _; rw [HSS.out]; rfl
          clear HSS hc2
          go_wp2_with (go_at_call 38; refine (hc1 _).mono ?_; rintro e' w' ⟨rfl, rfl⟩)
          go_round
          case rel => exact ⟨b + 1, by omega, by go_num, by rw [HD.out]⟩
          case measure => simp [intOf]; omega
        · go_wp2_with fail
          refine (hc1 _).mono ?_
          rintro e' w' ⟨rfl, rfl⟩
          go_wp2_with fail
          refine (hc2 _).mono ?_
          rintro e' w' ⟨rfl, rfl⟩
          cases b2
          · have HD : Hid (frP L k e (b + 1) = bits .andNot .i64 fp (2 ^ b)) := by show _ = _; rw [HSS.out]; rfl
            clear HSS hc1 hc2
            go_wp2_with (go_at_call 39; refine (Base.l1Bit _ _ (by omega) (by omega)).mono ?_; rintro e' w' ⟨rfl, rfl⟩; rw [Int.toNat_natCast])
            go_round
            case rel => exact ⟨b + 1, by omega, by go_num, by rw [HD.out]⟩
            case measure => simp [intOf]; omega
          · have HD : Hid (frP L k e (b + 1) = fp) := by show _ = _; rw [HSS.out]; rfl
            clear HSS hc1 hc2
            go_wp2
            go_round
            case rel => exact ⟨b + 1, by omega, by go_num, by rw [HD.out]⟩
            case measure => simp [intOf]; omega
      · obtain rfl : b = L.length := by omega
        rw [HE.out]
        go_wp2
        go_ret
        exact ⟨rfl, rfl⟩

/-- what is fresh is within the lace -/
theorem frS_in {L : List K} (h60 : L.length ≤ 60) (k : Nat) (e : Int) : ∀ i, bit (frS L k e L.length) i = true → i < L.length := fun i hi => by
  rw [bit_frS L k e _ h60, Bool.and_eq_true, decide_eq_true_eq] at hi
  exact hi.1
/-- the document's Ordered -/
def orderedI (L : List K) (s : Int) : List Int := if setB L s then ordL L (memTo s 60) else []
/-- the document's FreshOf -/
def freshI (L : List K) (k e : Int) : List Int := if isB L k && (decide (e = -1) || isB L e) then freshL L k e else []

set_option maxHeartbeats 1600000 in
theorem specOrdered (g off cap : Nat) (L : List K) (s : Int) (w : World) (hcap : L.length ≤ cap) (hw : WordsOk L) (hr : RdK w (some ⟨g, off, none⟩) L) :
    Calls Tryz.prog 10 #[.slice (some ⟨g, off, none⟩) L.length cap, .int .i64 s] w (NumsPost (orderedI L s) w) := by
  go_enter Tryz.func10, Tryz.ntmps10
  go_wp2_with fail
  refine (Lc.l3Set g off cap L s _ hcap hw hr).mono ?_
  rintro e w1 ⟨rfl, hb1⟩
  cases his : setB L s
  · have HT : Hid (orderedI L s = []) := by show _ = _; unfold orderedI; rw [his]; rfl
    have HP : Hid _ := Ch.nums_nil hb1
    clear his
    go_wp2
    go_ret
    rw [HT.out]
    exact ⟨some ⟨w1.heap.size, 0, none⟩, 0, rfl, HP.out.1, HP.out.2⟩
  · have HT : Hid (orderedI L s = ordL L (memTo s 60)) := by show _ = _; unfold orderedI; rw [his]; rfl
    obtain ⟨hl, q0, q1, qd, _, _⟩ := Lc.setB_parts his
    have ho := l11Order g off cap L s w1 hl (hr.below hb1) q0 q1 (fun i hi => by
      apply Classical.byContradiction
      intro hn
      rw [Lc.bit_hi s L.length q0 qd i (by omega)] at hi
      exact Bool.noConfusion hi)
    clear his hl qd hr
    go_wp2_with fail
    refine ho.mono ?_
    rintro e w2 ⟨ro, rc, rfl, hown, hb2⟩
    have HP : Hid (Memb.Own w.heap.size w2 ro rc (ordL L (memTo s 60)) ∧ Below w.heap.size w w2) := ⟨Ch.own_base hown hb1.size, hb1.trans (hb2.mono hb1.size)⟩
    clear ho hown hb2 hb1
    go_wp2
    go_ret
    rw [HT.out]
    exact ⟨ro, rc, rfl, HP.out.1, HP.out.2⟩

/-- the two tables: what is below, and who nods -/
structure TabsN (w : World) (L : List K) (bb nb : Nat) : Prop where
  bel : ∀ i, i < L.length → w.cell? ⟨bb, i, none⟩ = some (.int .i64 (Sg.bel L i))
  nod : ∀ i, i < L.length → w.cell? ⟨nb, i, none⟩ = some (.int .i64 (nodS L i L.length))
  lb : bb < w.heap.size
  ln : nb < w.heap.size
theorem TabsN.below {w w' : World} {L : List K} {bb nb : Nat} (t : TabsN w L bb nb) (hb : Below w.heap.size w w') : TabsN w' L bb nb :=
  ⟨fun i hi => (hb.cell (p := ⟨bb, i, none⟩) t.lb).trans (t.bel i hi), fun i hi => (hb.cell (p := ⟨nb, i, none⟩) t.ln).trans (t.nod i hi), Nat.lt_of_lt_of_le t.lb hb.size, Nat.lt_of_lt_of_le t.ln hb.size⟩
/-- what is below, in memory of the call's own -/
structure TabB (w : World) (L : List K) (bb : Nat) : Prop where
  bel : ∀ i, i < L.length → w.cell? ⟨bb, i, none⟩ = some (.int .i64 (Sg.bel L i))
  lb : bb < w.heap.size
theorem TabB.below {w w' : World} {L : List K} {bb : Nat} (t : TabB w L bb) (hb : Below w.heap.size w w') : TabB w' L bb := ⟨fun i hi => (hb.cell (p := ⟨bb, i, none⟩) t.lb).trans (t.bel i hi), Nat.lt_of_lt_of_le t.lb hb.size⟩
theorem TabB.rd {w : World} {L : List K} {bb : Nat} (t : TabB w L bb) : Lst.Rd w (some ⟨bb, 0, none⟩) (belows L L.length) := .inr ⟨bb, rfl, fun j hj => by
  rw [Sg.belows_len] at hj
  rw [Sg.belows_get L L.length j hj]; exact t.bel j hj⟩

theorem allB (g off cap : Nat) (L : List K) (w : World) (hl : laceB L = true) (hN : 0 < L.length) (hr : RdK w (some ⟨g, off, none⟩) L) :
    Calls Tryz.prog 37 #[.slice (some ⟨g, off, none⟩) L.length cap] w fun e w' => ∃ bb bc, e = .returned (.slice (some ⟨bb, 0, none⟩) L.length bc) ∧ TabB w' L bb ∧ Below w.heap.size w w' := by
  have h60 := ((Lc.lace_iff L).1 hl).1
  refine (Sg.l4All (some ⟨g, off, none⟩) cap L w h60 (Sg.frm_lace hl) hr).mono ?_
  rintro e w1 ⟨bo, bc, rfl, hown, hb1⟩
  have hbl := Sg.belows_len L L.length
  rcases Lst.own_rd hown with e | ⟨bb, e, hcell⟩
  · rw [e] at hbl; simp at hbl; omega
  · subst e
    refine ⟨bb, bc, by rw [hbl], ⟨fun i hi => ?_, (World.ownsRow.lt hown bb rfl).2⟩, hb1⟩
    have := hcell i (by rw [hbl]; exact hi)
    rwa [Sg.belows_get L L.length i hi] at this
theorem allN (g off cap : Nat) (L : List K) (bb bc : Nat) (w : World) (hl : laceB L = true) (hr : RdK w (some ⟨g, off, none⟩) L) (ht : TabB w L bb) :
    Calls Tryz.prog 48 #[.slice (some ⟨g, off, none⟩) L.length cap, .slice (some ⟨bb, 0, none⟩) L.length bc] w fun e w' => ∃ nb, e = .returned (.slice (some ⟨nb, 0, none⟩) L.length L.length) ∧ w.heap.size ≤ nb ∧ TabsN w' L bb nb ∧ Below w.heap.size w w' := by
  have h60 := ((Lc.lace_iff L).1 hl).1
  have hbl := Sg.belows_len L L.length
  have h6 := Nd.l6All (some ⟨g, off, none⟩) cap L (some ⟨bb, 0, none⟩) bc (belows L L.length) w h60 hbl (Sg.belows_in L L.length h60) hr ht.rd (fun c e => by injection e with e; injection e with e; subst e; exact ht.lb)
  rw [hbl] at h6
  refine h6.mono ?_
  rintro e w2 ⟨h, D, O, rfl, hge, hrow, hD, hO, hb2⟩
  exact ⟨h, rfl, hge, ⟨(ht.below hb2).bel, fun i hi => by rw [← Nd.nodR_eq hl hD hi _ (Nat.le_refl _), ← hO i hi]; exact hrow.rd i hi, (ht.below hb2).lb, hrow.lt⟩, hb2⟩
/-- the tables of a lace, the second one not yet fixed -/
structure TabsF (w : World) (L : List K) (bb h : Nat) : Prop extends Ch.TabsL w L bb h where
  fr : ∀ i, i < L.length → w.frozen? ⟨h, i, none⟩ = false
set_option maxHeartbeats 3200000 in
theorem specFreshOf (g off cap : Nat) (L : List K) (k e : Int) (w : World) (hcap : L.length ≤ cap) (hw : WordsOk L) (hr : RdK w (some ⟨g, off, none⟩) L) :
    Calls Tryz.prog 17 #[.slice (some ⟨g, off, none⟩) L.length cap, .int .i64 k, .int .i64 e] w (NumsPost (freshI L k e) w) := by
  have HR : Hid (RdK w (some ⟨g, off, none⟩) L) := hr
  go_enter Tryz.func17, Tryz.ntmps17
  go_wp2_with fail
  refine (Sg.l4Is g off cap L k _ hcap hw hr).mono ?_
  rintro en w1 ⟨rfl, hb1⟩
  clear hr
  cases hik : isB L k
  · have HT : Hid (freshI L k e = []) := by show _ = _; unfold freshI; rw [hik]; rfl
    have HP : Hid _ := Ch.nums_nil hb1
    clear hik
    go_wp2
    go_ret
    rw [HT.out]
    exact ⟨some ⟨w1.heap.size, 0, none⟩, 0, rfl, HP.out.1, HP.out.2⟩
  · obtain ⟨k0, k1, hlc⟩ := Sg.isB_parts hik
    have h60 := ((Lc.lace_iff L).1 hlc).1
    have HLC : Hid (laceB L = true) := hlc
    have HIK : Hid (isB L k = true) := hik
    clear hik hlc
    obtain ⟨p, rfl⟩ := Int.eq_ofNat_of_zero_le k0
    have hp : p < L.length := by omega
    by_cases hme : e = -1
    · subst hme
      have HTT : freshI L (p : Int) (-1) = ordL L (memTo (frS L p (-1) L.length) 60) := by unfold freshI freshL; rw [HIK.out, Int.toNat_natCast]; rfl
      have HBW : Hid (Below w.heap.size w w1) := hb1
      clear hb1 HIK
      go_wp2_with fail
      refine (allB g off cap L _ HLC.out (by omega) (HR.out.below HBW.out)).mono ?_
      rintro en w3 ⟨bb, bc, rfl, hT3, hb3⟩
      have HB3 : Hid (Below w.heap.size w w3) := HBW.out.trans (hb3.mono HBW.out.size)
      clear hb3 HBW
      go_wp2_with fail
      refine (allN g off cap L bb bc _ HLC.out (HR.out.below HB3.out) hT3).mono ?_
      rintro en w4 ⟨nb, rfl, _, hT4, hb4⟩
      have HB4 : Hid (Below w.heap.size w w4) := HB3.out.trans (hb4.mono HB3.out.size)
      clear hb4 HB3 hT3
      have hfr := l11Fresh bb bc nb L.length L p (-1) w4 HLC.out hp (by omega) (by omega) hT4.bel hT4.nod
      have hfb := frS_bd L p (-1) L.length h60
      have hfi := frS_in h60 p (-1)
      have hor := l11Order g off cap L (frS L p (-1) L.length) w4 HLC.out (HR.out.below HB4.out) hfb.1 hfb.2 hfi
      have HT : Hid (freshI L (p : Int) (-1) = ordL L (memTo (frS L p (-1) L.length) 60)) := HTT
      clear hT4 hfb hfi
      generalize frS L p (-1) L.length = fr at hfr hor HT
      go_wp2_with fail
      refine hfr.mono ?_
      rintro en w5 ⟨rfl, rfl⟩
      clear hfr
      go_wp2_with fail
      refine hor.mono ?_
      rintro en w6 ⟨ro, rc, rfl, hown, hb6⟩
      have HP : Hid (Memb.Own w.heap.size w6 ro rc (ordL L (memTo fr 60)) ∧ Below w.heap.size w w6) := ⟨Ch.own_base hown HB4.out.size, HB4.out.trans (hb6.mono HB4.out.size)⟩
      clear hor hown hb6 HB4
      go_wp2
      go_ret
      rw [HT.out]
      exact ⟨ro, rc, rfl, HP.out.1, HP.out.2⟩
    · have hme' : (e != -1) = true := by simpa using hme
      go_wp2_with fail
      refine (Sg.l4Is g off cap L e _ hcap hw (HR.out.below hb1)).mono ?_
      rintro en w2 ⟨rfl, hb2⟩
      have hB2 := hb1.trans (hb2.mono hb1.size)
      clear hb1 hb2
      cases hie : isB L e
      · have HT : Hid (freshI L (p : Int) e = []) := by show _ = _; unfold freshI; rw [HIK.out, hie, decide_eq_false hme]; rfl
        have HP : Hid _ := Ch.nums_nil hB2
        clear hie hme
        go_wp2
        go_ret
        rw [HT.out]
        exact ⟨some ⟨w2.heap.size, 0, none⟩, 0, rfl, HP.out.1, HP.out.2⟩
      · obtain ⟨e0, e1, _⟩ := Sg.isB_parts hie
        have HTT : freshI L (p : Int) e = ordL L (memTo (frS L p e L.length) 60) := by unfold freshI freshL; rw [HIK.out, hie, Int.toNat_natCast]; simp
        have HBW : Hid (Below w.heap.size w w2) := hB2
        clear hB2 HIK hie hme
        go_wp2_with fail
        refine (allB g off cap L _ HLC.out (by omega) (HR.out.below HBW.out)).mono ?_
        rintro en w3 ⟨bb, bc, rfl, hT3, hb3⟩
        have HB3 : Hid (Below w.heap.size w w3) := HBW.out.trans (hb3.mono HBW.out.size)
        clear hb3 HBW
        go_wp2_with fail
        refine (allN g off cap L bb bc _ HLC.out (HR.out.below HB3.out) hT3).mono ?_
        rintro en w4 ⟨nb, rfl, _, hT4, hb4⟩
        have HB4 : Hid (Below w.heap.size w w4) := HB3.out.trans (hb4.mono HB3.out.size)
        clear hb4 HB3 hT3
        have hfr := l11Fresh bb bc nb L.length L p e w4 HLC.out hp (by omega) (by omega) hT4.bel hT4.nod
        have hfb := frS_bd L p e L.length h60
        have hfi := frS_in h60 p e
        have hor := l11Order g off cap L (frS L p e L.length) w4 HLC.out (HR.out.below HB4.out) hfb.1 hfb.2 hfi
        have HT : Hid (freshI L (p : Int) e = ordL L (memTo (frS L p e L.length) 60)) := HTT
        clear hT4 hfb hfi
        generalize frS L p e L.length = fr at hfr hor HT
        go_wp2_with fail
        refine hfr.mono ?_
        rintro en w5 ⟨rfl, rfl⟩
        clear hfr
        go_wp2_with fail
        refine hor.mono ?_
        rintro en w6 ⟨ro, rc, rfl, hown, hb6⟩
        have HP : Hid (Memb.Own w.heap.size w6 ro rc (ordL L (memTo fr 60)) ∧ Below w.heap.size w w6) := ⟨Ch.own_base hown HB4.out.size, HB4.out.trans (hb6.mono HB4.out.size)⟩
        clear hor hown hb6 HB4
        go_wp2
        go_ret
        rw [HT.out]
        exact ⟨ro, rc, rfl, HP.out.1, HP.out.2⟩

theorem chF_mem (L : List K) (C : List Int) : ∀ (f : Nat) (k x : Int), x ∈ Ch.chF L C f k → 0 ≤ x ∧ x ≤ k := by
  intro f
  induction f with
  | zero => intro k x h; simp [Ch.chF] at h
  | succ f ih =>
    intro k x h
    unfold Ch.chF at h
    by_cases hk : k < 0
    · rw [if_pos hk] at h; simp at h
    · rw [if_neg hk, List.mem_append] at h
      have hlt := Ch.earlier_lt L C k.toNat
      rcases h with h | h
      · have := ih _ _ h; omega
      · have : x = k := by simpa using h
        omega
theorem taleF_snoc (L : List K) : ∀ (l : List Int) (c e : Int), taleF L e (l ++ [c]) = taleF L e l ++ freshL L c (l.getLastD e) := by
  intro l
  induction l with
  | nil => intro c e; simp [taleF]
  | cons x l ih =>
    intro c e
    show freshL L x e ++ taleF L x (l ++ [c]) = (freshL L x e ++ taleF L x l) ++ freshL L c ((x :: l).getLastD e)
    rw [ih c x, List.getLastD_cons, List.append_assoc]
theorem fresh_len (L : List K) (k e : Int) : (freshL L k e).length ≤ 60 := by
  unfold freshL
  rw [ord_len]; exact Bit.memTo_le _ 60

/-- the tale so far, in a row of the call's own that lies apart from all that is read -/
structure TlSt (w w3 wr : World) (og0 og cp : Nat) (l : List Int) : Prop where
  own : wr.ownsRow w.heap.size 2 1 (.slice (some ⟨og, 0, none⟩) l.length cp) l.length (l.map (Value.int .i64))
  bel : Below w.heap.size w wr
  gr : w3.grownBy wr (some og0)
  at' : og = og0 ∨ w3.heap.size ≤ og
theorem TlSt.below {w w3 wr w' : World} {og0 og cp : Nat} {l : List Int} (s : TlSt w w3 wr og0 og cp l) (hb : Below wr.heap.size wr w') : TlSt w w3 w' og0 og cp l :=
  ⟨Fm.row_below s.own hb, s.bel.trans (hb.mono s.bel.size), World.grownBy.trans s.gr ⟨hb.os, hb.tape, hb.output, hb.size, fun i hi _ => hb.block i hi⟩, s.at'⟩
theorem TlSt.app {w w3 wr w1 : World} {og0 og cp : Nat} {l ns : List Int} {v' : Value} (s : TlSt w w3 wr og0 og cp l) (ho : w1.ownsRow w.heap.size 2 1 v' (l.length + ns.length) (l.map (Value.int .i64) ++ ns.map (Value.int .i64))) (hg : wr.grownBy w1 (some og)) (hn : ¬ v' = .slice none 0 0) (ha : v'.ownBlock = some og ∨ v'.ownBlock = some wr.heap.size) : ∃ g2 c2, v' = .slice (some ⟨g2, 0, none⟩) (l.length + ns.length) c2 ∧ TlSt w w3 w1 og0 g2 c2 (l ++ ns) := by
  have ho' := ho
  obtain ⟨_, ⟨hx, _⟩ | ⟨g2, c2, cur, hx, _⟩⟩ := ho'
  · exact absurd hx hn
  · subst hx
    have hlt := World.ownsRow.lt s.own og rfl
    refine ⟨g2, c2, rfl, by simpa using ho, s.bel.grown hg s.bel.size (fun k hk => by cases hk; exact hlt.1), ⟨hg.os.trans s.gr.os, hg.tape.trans s.gr.tape, hg.output.trans s.gr.output, Nat.le_trans s.gr.size hg.size, fun j hj hne => ?_⟩, ?_⟩
    · have h1 := s.gr.block j hj hne
      refine (hg.block j (Nat.lt_of_lt_of_le hj s.gr.size) (fun e => ?_)).trans h1
      injection e with e
      subst e
      rcases s.at' with q | q
      · exact hne (by rw [q])
      · omega
    · simp [Value.ownBlock] at ha
      rcases ha with e | e
      · subst e; exact s.at'
      · exact .inr (by have := s.gr.size; omega)

/-- the document's TaleOf -/
def taleI (L : List K) (C : List Int) (k : Int) : List Int := if Ch.onB L C k then taleL L C k else []
/-- the document's OutOf -/
def outI (L : List K) (C : List Int) (s : Int) : List Int := if Fm.rightB L C s then outL L C s else []

theorem out_none {L : List K} {C : List Int} {s : Int} (h : lastT L (firmL L C s L.length) < 0) : outL L C s = [] := by unfold outL; rw [if_pos h]
theorem out_some {L : List K} {C : List Int} {s : Int} (h : ¬ lastT L (firmL L C s L.length) < 0) : outL L C s = taleL L C (lastT L (firmL L C s L.length)) := by unfold outL; rw [if_neg h]

end Tl
end Go.Proofs.YtmnkankjblnjaaaGreat

namespace Go.Proofs.YtmnkankjblnjaaaGreat
open Go.RowKit
set_option maxRecDepth 100000
set_option linter.unusedVariables false
namespace Tl
open Kn (K okK)
open Bit (bit withB memTo)
open Lc (at' RdK WordsOk laceB setB)
open Sg (isB bel belows)

/-- a number that there is a knot for -/
def inR (L : List K) (x : Int) : Bool := decide (0 ≤ x) && decide (x < (L.length : Int))
/-- of those behind the i-th, up to j, x sees none -/
def unB (L : List K) (C : List Int) (x : Int) (i j : Nat) : Bool := (List.range j).all fun q => decide (q ≤ i) || !(inR L (C.getD q 0) && bit (bel L x.toNat) (C.getD q 0).toNat)
/-- the i-th stands as it should -/
def okAt (L : List K) (C : List Int) (i : Nat) : Bool := inR L (C.getD i 0) && (!(C.take i).contains (C.getD i 0) && unB L C (C.getD i 0) i C.length)
/-- the document's Respects -/
def respB (L : List K) (C : List Int) : Bool := laceB L && (List.range C.length).all (okAt L C)

theorem resp_no {L : List K} {C : List Int} (i : Nat) (hi : i < C.length) (h : okAt L C i = false) : respB L C = false := by
  rw [Bool.eq_false_iff]
  intro hb
  unfold respB at hb
  rw [Bool.and_eq_true, List.all_eq_true] at hb
  have := hb.2 i (by simpa using hi)
  rw [h] at this; exact Bool.noConfusion this
theorem resp_yes {L : List K} {C : List Int} (hl : laceB L = true) (h : ∀ i, i < C.length → okAt L C i = true) : respB L C = true := by
  unfold respB
  rw [hl, Bool.true_and, List.all_eq_true]
  intro i hi
  exact h i (by simpa using hi)
theorem un_step (L : List K) (C : List Int) (x : Int) (i j : Nat) (hij : i < j) : unB L C x i (j + 1) = (unB L C x i j && !(inR L (C.getD j 0) && bit (bel L x.toNat) (C.getD j 0).toNat)) := by
  unfold unB
  rw [List.range_succ, List.all_append, List.all_cons, List.all_nil, Bool.and_true, decide_eq_false (by omega : ¬ j ≤ i), Bool.false_or]
theorem un_start (L : List K) (C : List Int) (x : Int) (i : Nat) : unB L C x i (i + 1) = true := by
  unfold unB
  rw [List.all_eq_true]
  intro q hq
  rw [decide_eq_true (by have := List.mem_range.1 hq; omega : q ≤ i)]; rfl
theorem un_no {L : List K} {C : List Int} {x : Int} {i j : Nat} (hij : i < j) (hj : j < C.length) (h : (inR L (C.getD j 0) && bit (bel L x.toNat) (C.getD j 0).toNat) = true) : unB L C x i C.length = false := by
  rw [Bool.eq_false_iff]
  intro hb
  unfold unB at hb
  rw [List.all_eq_true] at hb
  have := hb j (by simpa using hj)
  rw [decide_eq_false (by omega : ¬ j ≤ i), h] at this
  exact Bool.noConfusion this

/-- those of a list, as a set -/
def seenF (l : List Int) : Int := l.foldl (fun x a => withB x a.toNat) 0
theorem seenF_snoc (l : List Int) (a : Int) : seenF (l ++ [a]) = withB (seenF l) a.toNat := by
  unfold seenF; rw [List.foldl_append]; rfl
theorem seenF_bits (l : List Int) (hl : ∀ a ∈ l, 0 ≤ a ∧ a < 60) : (0 ≤ seenF l ∧ seenF l < 1152921504606846976) ∧ ∀ j : Nat, bit (seenF l) j = l.contains (j : Int) := by
  suffices H : ∀ (l : List Int) (x : Int), (∀ a ∈ l, 0 ≤ a ∧ a < 60) → (0 ≤ x ∧ x < 1152921504606846976) →
      (0 ≤ l.foldl (fun x a => withB x a.toNat) x ∧ l.foldl (fun x a => withB x a.toNat) x < 1152921504606846976) ∧
      ∀ j : Nat, bit (l.foldl (fun x a => withB x a.toNat) x) j = true ↔ (bit x j = true ∨ (j : Int) ∈ l) by
    have := H l 0 hl ⟨Int.le_refl 0, by decide⟩
    refine ⟨this.1, fun j => ?_⟩
    rw [Bool.eq_iff_iff, show seenF l = l.foldl (fun x a => withB x a.toNat) 0 from rfl, this.2 j, Lc.bit_zero]
    simp
  intro l
  induction l with
  | nil => intro x _ hx; exact ⟨hx, fun j => by simp⟩
  | cons a l ih =>
    intro x hl hx
    have ha := hl a (by simp)
    obtain ⟨p, rfl⟩ := Int.eq_ofNat_of_zero_le ha.1
    simp only [List.foldl_cons]
    rw [Int.toNat_natCast]
    have := ih (withB x p) (fun a h => hl a (by simp [h])) (Bit.withB_bd x hx.1 hx.2 p (by omega))
    refine ⟨this.1, fun j => ?_⟩
    rw [this.2 j, Bit.bit_withB x hx.1, Bool.or_eq_true, decide_eq_true_eq, List.mem_cons]
    constructor
    · rintro ((h | h) | h)
      · exact .inr (.inl (by omega))
      · exact .inl h
      · exact .inr (.inr h)
    · rintro (h | h | h)
      · exact .inl (.inr h)
      · exact .inl (.inl (by omega))
      · exact .inr h
theorem inR_iff (L : List K) (x : Int) : inR L x = true ↔ 0 ≤ x ∧ x < (L.length : Int) := by
  unfold inR; rw [Bool.and_eq_true, decide_eq_true_eq, decide_eq_true_eq]
theorem ok_in {L : List K} {C : List Int} {i : Nat} (h : okAt L C i = true) : inR L (C.getD i 0) = true := by
  unfold okAt at h; rw [Bool.and_eq_true] at h; exact h.1
theorem take_in {L : List K} {C : List Int} (h60 : L.length ≤ 60) {i : Nat} (hi : i ≤ C.length) (h : ∀ q, q < i → okAt L C q = true) : ∀ a ∈ C.take i, 0 ≤ a ∧ a < 60 := by
  intro a ha
  obtain ⟨q, hq, e⟩ := List.getElem_of_mem ha
  rw [List.length_take] at hq
  have h1 := (inR_iff L _).1 (ok_in (h q (by omega)))
  have e2 : C.getD q 0 = a := by
    rw [← e, List.getElem_take, List.getD, List.getElem?_eq_getElem (by omega)]; rfl
  rw [e2] at h1
  omega

set_option maxHeartbeats 6400000 in
theorem specRespects (g off cap : Nat) (L : List K) (ao : Option Addr) (cc : Nat) (C : List Int) (w : World) (hcap : L.length ≤ cap) (hw : WordsOk L) (hg : g < w.heap.size) (hr : RdK w (some ⟨g, off, none⟩) L) (hC : C.length ≤ 1048576) (hz : ∀ z ∈ C, -9223372036854775808 ≤ z ∧ z ≤ 9223372036854775807) (hrd : Lst.Rd w ao C) (hao : ∀ c, ao = some ⟨c, 0, none⟩ → c < w.heap.size) :
    Calls Tryz.prog 12 #[.slice (some ⟨g, off, none⟩) L.length cap, .slice ao C.length cc] w fun e w' => e = .returned (.bool (respB L C)) ∧ Below w.heap.size w w' := by
  have hlo := Lc.specLaceOk g off cap L w hcap hw hr
  have HRD : Hid (∀ W : World, Below w.heap.size w W → ∀ j, j < C.length → ∃ g', ao = some ⟨g', 0, none⟩ ∧ W.cell? ⟨g', j, none⟩ = some (.int .i64 (C.getD j 0))) := fun W hW j hj => by
    rcases hrd with h | ⟨g', e, hc⟩
    · rw [h] at hj; simp at hj
    · exact ⟨g', e, (hW.cell (p := ⟨g', j, none⟩) (hao g' e)).trans (hc j hj)⟩
  have HR : Hid (RdK w (some ⟨g, off, none⟩) L) := hr
  clear hrd hao hr hz hw hcap
  go_enter Tryz.func12, Tryz.ntmps12
  go_wp2_with fail
  refine hlo.mono ?_
  rintro e w1 ⟨rfl, hb1⟩
  clear hlo
  cases hl : laceB L
  · have HT : Hid (respB L C = false) := by show _ = _; unfold respB; rw [hl]; rfl
    clear hl
    go_wp2
    go_ret
    exact ⟨by rw [HT.out]; rfl, hb1⟩
  · have h60 := ((Lc.lace_iff L).1 hl).1
    have HLC : Hid (laceB L = true) := hl
    have h4 := Sg.l4All (some ⟨g, off, none⟩) cap L w1 h60 (Sg.frm_lace hl) (HR.out.below hb1)
    have hbl := Sg.belows_len L L.length
    clear hl
    go_wp2_with fail
    refine h4.mono ?_
    rintro e w2 ⟨bo, bc, rfl, hown, hb2⟩
    rw [hbl]
    have HB2 : Hid (Below w.heap.size w w2) := hb1.trans (hb2.mono hb1.size)
    have HBE : Hid (∀ p, p < L.length → ∃ b, bo = some ⟨b, 0, none⟩ ∧ w2.cell? ⟨b, p, none⟩ = some (.int .i64 (bel L p))) := fun p hp => by
      rcases Lst.own_rd hown with h | ⟨b, e, hc⟩
      · rw [h] at hbl; simp at hbl; omega
      · have := hc p (by rw [hbl]; exact hp)
        rw [Sg.belows_get L L.length p hp] at this
        exact ⟨b, e, this⟩
    have HCE : Hid (∀ j, j < C.length → ∃ g', ao = some ⟨g', 0, none⟩ ∧ w2.cell? ⟨g', j, none⟩ = some (.int .i64 (C.getD j 0))) := HRD.out w2 HB2.out
    clear h4 hown hb2 hb1 HRD hbl
    go_wp2
    go_loopw [6, 7] (fun sv iv wr => ∃ i n : Nat, i ≤ C.length ∧ iv = .int .i64 i ∧ sv = .int .i64 (seenF (C.take i)) ∧ wr = w2.drewN n ∧ Hid (∀ q, q < i → okAt L C q = true)) (fun _ iv _ => C.length - (intOf iv).toNat)
    case atStart => exact ⟨0, 0, by omega, rfl, rfl, rfl, fun q hq => absurd hq (by omega)⟩
    case round =>
      obtain ⟨i, n, hi, rfl, rfl, rfl, HOK⟩ := hrel
      by_cases hil : i < C.length
      · have hii : (i : Int) < (C.length : Int) := by omega
        obtain ⟨g', rfl, ci⟩ := HCE.out i hil
        have HTA : Hid (∀ a ∈ C.take i, 0 ≤ a ∧ a < 60) := take_in h60 hi HOK.out
        have hsb := (seenF_bits (C.take i) HTA.out).1
        have HSB : Hid (∀ j : Nat, bit (seenF (C.take i)) j = (C.take i).contains (j : Int)) := (seenF_bits (C.take i) HTA.out).2
        have HSN : Hid (seenF (C.take (i + 1)) = withB (seenF (C.take i)) (C.getD i 0).toNat) := by
          show _ = _
          rw [Lc.take_snocI C i hil, seenF_snoc]
        have HNO : Hid (okAt L C i = false → respB L C = false) := resp_no i hil
        have HOKI : Hid (okAt L C i = (inR L (C.getD i 0) && (!(C.take i).contains (C.getD i 0) && unB L C (C.getD i 0) i C.length))) := rfl
        have HUN : Hid (∀ x, x = C.getD i 0 → unB L C x i (i + 1) = true ∧ (∀ j, i < j → unB L C x i (j + 1) = (unB L C x i j && !(inR L (C.getD j 0) && bit (bel L x.toNat) (C.getD j 0).toNat))) ∧ ∀ j, i < j → j < C.length → (inR L (C.getD j 0) && bit (bel L x.toNat) (C.getD j 0).toNat) = true → unB L C x i C.length = false) := fun x _ => ⟨un_start L C x i, fun j hj => un_step L C x i j hj, fun j hj hj2 h => un_no hj hj2 h⟩
        clear HTA
        generalize hcx : C.getD i 0 = x at ci HSN HOKI HUN
        have HX : Hid (x = C.getD i 0) := hcx.symm
        clear hcx
        generalize hsf : seenF (C.take i) = sf at hsb HSB HSN ⊢
        clear hsf
        by_cases hx0 : x < 0
        · have HT : Hid (respB L C = false) := HNO.out (by rw [HOKI.out]; unfold inR; rw [decide_eq_false (by omega)]; rfl)
          clear HNO HOKI HSB HSN HUN HX HOK
          go_wp2
          go_ret
          exact ⟨by rw [HT.out]; rfl, Db.below_drewN HB2.out n⟩
        · obtain ⟨p, rfl⟩ := Int.eq_ofNat_of_zero_le (by omega : 0 ≤ x)
          by_cases hx1 : p < L.length
          · have hx1' : (p : Int) < (L.length : Int) := by omega
            have hx2 : ¬ (L.length : Int) ≤ (p : Int) := by omega
            have HIN : Hid (inR L (p : Int) = true) := (inR_iff L _).2 ⟨by omega, by omega⟩
            have hcall := Db.has_call sf p ((C.take i).contains (p : Int)) hsb.1 hsb.2 (by omega) (HSB.out p)
            cases hct : (C.take i).contains (p : Int)
            · rw [hct] at hcall
              obtain ⟨b, rfl, cb⟩ := HBE.out p hx1
              have HO : Hid (bits .or .i64 sf (2 ^ p) = withB sf p) := Base.shl_or _ p hsb.1 hsb.2 (by omega)
              rw [Int.toNat_natCast] at HSN
              have hub := Sg.bel_bd L p (by omega)
              have HU0 := HUN.out _ rfl
              have HUS : Hid (unB L C (p : Int) i (i + 1) = true) := HU0.1
              have HUT : Hid (∀ j, i < j → unB L C (p : Int) i (j + 1) = (unB L C (p : Int) i j && !(inR L (C.getD j 0) && bit (bel L p) (C.getD j 0).toNat))) := HU0.2.1
              have HUX : Hid (∀ j, i < j → j < C.length → (inR L (C.getD j 0) && bit (bel L p) (C.getD j 0).toNat) = true → unB L C (p : Int) i C.length = false) := HU0.2.2
              have HOK2 : Hid (okAt L C i = unB L C (p : Int) i C.length) := by show _ = _; rw [HOKI.out, HIN.out, hct]; simp
              have HBT : Hid (∀ q : Nat, q ≤ 60 → ∀ W : World, Calls Tryz.prog 38 #[.int .i64 (bel L p), .int .i64 (q : Int)] W fun e w' => e = .returned (.bool (bit (bel L p) q)) ∧ w' = W) := fun q hq W => Db.has_call _ q _ hub.1 hub.2 hq rfl W
              clear hct HU0 HUN HOKI HIN HX hub
              generalize hbe : bel L p = be at cb HUT HUX HBT
              clear hbe
              go_wp2_with (first | (go_at_call 38; refine (hcall _).mono ?_; rintro e w' ⟨rfl, rfl⟩) | (go_at_call 39; refine (Base.l1Bit _ _ (by omega) (by omega)).mono ?_; rintro e w' ⟨rfl, rfl⟩; rw [Int.toNat_natCast]))
              rw [HO.out]
              clear hcall
              go_loopw [9] (fun jv wr => ∃ j m : Nat, i < j ∧ j ≤ C.length ∧ jv = .int .i64 j ∧ wr = w2.drewN m ∧ Hid (unB L C (p : Int) i j = true)) (fun jv _ => C.length - (intOf jv).toNat)
              case atStart => exact ⟨i + 1, n, by omega, by omega, by go_num, rfl, HUS⟩
              case round =>
                obtain ⟨j, m, hij, hj, rfl, rfl, HU⟩ := hrel
                by_cases hjl : j < C.length
                · have hji : (j : Int) < (C.length : Int) := by omega
                  obtain ⟨g2, e2, cj⟩ := HCE.out j hjl
                  injection e2 with e2
                  injection e2 with e2
                  subst e2
                  have HUT1 : Hid (unB L C (p : Int) i (j + 1) = (unB L C (p : Int) i j && !(inR L (C.getD j 0) && bit be (C.getD j 0).toNat))) := HUT.out j hij
                  have HUX1 : Hid ((inR L (C.getD j 0) && bit be (C.getD j 0).toNat) = true → respB L C = false) := fun h => HNO.out (by rw [HOK2.out]; exact HUX.out j hij hjl h)
                  generalize C.getD j 0 = y at cj HUT1 HUX1
                  by_cases hy0 : y < 0
                  · have HU1 : Hid (unB L C (p : Int) i (j + 1) = true) := by show _ = _; rw [HUT1.out, HU.out]; unfold inR; rw [decide_eq_false (by omega)]; rfl
                    have hy0' : decide (0 ≤ y) = false := by simp; omega
                    clear HUT1 HUX1 HU
                    go_wp2_with fail
                    go_quiet (fail)
                    go_wp2
                    go_roundw
                    case rel => exact ⟨j + 1, _, by omega, by omega, by go_num, rfl, HU1⟩
                    case measure => simp [intOf]; omega
                  · have hy0' : decide (0 ≤ y) = true := by simp; omega
                    obtain ⟨q, rfl⟩ := Int.eq_ofNat_of_zero_le (by omega : 0 ≤ y)
                    by_cases hy1 : q < L.length
                    · have hy1' : decide ((q : Int) < (L.length : Int)) = true := by simp; omega
                      have hc2 := HBT.out q (by omega)
                      have HIQ : Hid (inR L (q : Int) = true) := (inR_iff L _).2 ⟨by omega, by omega⟩
                      rw [Int.toNat_natCast] at HUT1 HUX1
                      cases hbq : bit be q
                      · rw [hbq] at hc2
                        have HU1 : Hid (unB L C (p : Int) i (j + 1) = true) := by show _ = _; rw [HUT1.out, HU.out, hbq]; simp
                        clear HUT1 HUX1 HU hbq HIQ
                        go_wp2_with fail
                        go_quiet (first | (go_at_call 38; exact (hc2 _).mono fun _ _ h => ⟨h.1, _, h.2⟩) | fail)
                        go_wp2
                        go_roundw
                        case rel => exact ⟨j + 1, _, by omega, by omega, by go_num, rfl, HU1⟩
                        case measure => simp [intOf]; omega
                      · rw [hbq] at hc2
                        have HT : Hid (respB L C = false) := HUX1.out (by rw [HIQ.out, hbq]; rfl)
                        clear HUT1 HUX1 HU hbq HIQ
                        go_wp2_with fail
                        go_quiet (first | (go_at_call 38; exact (hc2 _).mono fun _ _ h => ⟨h.1, _, h.2⟩) | fail)
                        go_wp2
                        go_ret
                        exact ⟨by rw [HT.out]; rfl, by first | exact Db.below_drewN HB2.out _ | exact Db.below_drewN (Db.below_drewN HB2.out _) _⟩
                    · have hy1' : decide ((q : Int) < (L.length : Int)) = false := by simp; omega
                      have HU1 : Hid (unB L C (p : Int) i (j + 1) = true) := by show _ = _; rw [HUT1.out, HU.out]; unfold inR; rw [hy1']; simp
                      clear HUT1 HUX1 HU
                      go_wp2_with fail
                      go_quiet (fail)
                      go_wp2
                      go_roundw
                      case rel => exact ⟨j + 1, _, by omega, by omega, by go_num, rfl, HU1⟩
                      case measure => simp [intOf]; omega
                · obtain rfl : j = C.length := by omega
                  have HOK3 : Hid (∀ q, q < i + 1 → okAt L C q = true) := fun q hq => by
                    by_cases e : q = i
                    · subst e; rw [HOK2.out]; exact HU.out
                    · exact HOK.out q (by omega)
                  clear HU HUT HUX HUS HBT
                  go_wp2
                  go_roundw
                  case rel => exact ⟨i + 1, _, by omega, by go_num, by rw [HSN.out], rfl, HOK3⟩
                  case measure => simp [intOf]; omega
            · rw [hct] at hcall
              have HT : Hid (respB L C = false) := HNO.out (by rw [HOKI.out, HIN.out, hct]; rfl)
              clear HNO HOKI HSB HSN HUN HX HOK HIN hct
              go_wp2_with (go_at_call 38; refine (hcall _).mono ?_; rintro e w' ⟨rfl, rfl⟩)
              go_ret
              exact ⟨by rw [HT.out]; rfl, Db.below_drewN HB2.out n⟩
          · have hx1' : ¬ (p : Int) < (L.length : Int) := by omega
            have hx2 : (L.length : Int) ≤ (p : Int) := by omega
            have HT : Hid (respB L C = false) := HNO.out (by rw [HOKI.out]; unfold inR; rw [decide_eq_false hx1', Bool.and_false]; rfl)
            clear HNO HOKI HSB HSN HUN HX HOK
            go_wp2
            go_ret
            exact ⟨by rw [HT.out]; rfl, Db.below_drewN HB2.out n⟩
      · obtain rfl : i = C.length := by omega
        have HT : Hid (respB L C = true) := resp_yes HLC.out HOK.out
        clear HOK
        go_wp2
        go_ret
        exact ⟨by rw [HT.out]; rfl, Db.below_drewN HB2.out n⟩

end Tl
end Go.Proofs.YtmnkankjblnjaaaGreat

namespace Go.Proofs.YtmnkankjblnjaaaGreat
open Go.RowKit
set_option maxRecDepth 100000
namespace Ch
open Kn (K okK)
open Bit (bit)
open Lc (at' laceB)
open Sg (isB bel)
open Sl (sealN sealsB)

theorem chF_in (L : List K) (C : List Int) : ∀ (f : Nat) (k x : Int), x ∈ chF L C f k → 0 ≤ x ∧ x ≤ k := by
  intro f
  induction f with
  | zero => intro k x h; simp [chF] at h
  | succ f ih =>
    intro k x h
    unfold chF at h
    by_cases hk : k < 0
    · rw [if_pos hk] at h; simp at h
    · rw [if_neg hk] at h
      rcases List.mem_append.1 h with h | h
      · have h1 := ih _ _ h
        have h2 := earlier_lt L C k.toNat
        omega
      · simp at h; omega
theorem chain_in {L : List K} {C : List Int} {k x : Int} (h : x ∈ chainL L C k) : 0 ≤ x ∧ x ≤ k := chF_in L C _ _ _ h

/-- the leader before: none, or one that there is -/
theorem earlier_cases (L : List K) (C : List Int) (k : Nat) : (earlierN L C k = -1 ∧ ∀ x, x < k → earN L C k x = false) ∨ ∃ e : Nat, earlierN L C k = (e : Int) ∧ e < k ∧ earN L C k e = true ∧ ∀ x, x < k → earN L C k x = true → (at' L x).round ≤ (at' L e).round := by
  rcases ear_spec L C k k with h | ⟨e, h1, h2, h3, h4⟩
  · exact .inl h
  · exact .inr ⟨e, h1, h2, h3, fun x hx hc => (h4 x hx hc).1⟩

theorem chain_ne (L : List K) (C : List Int) (k : Nat) : 0 < (chainL L C (k : Int)).length := by
  rw [chain_step]; simp
theorem chain_last (L : List K) (C : List Int) (k : Nat) : (chainL L C (k : Int)).getD ((chainL L C (k : Int)).length - 1) 0 = (k : Int) := by
  rw [chain_step]; simp [List.getD]
/-- the one before the last is the leader before; if there is none, the chain has one link -/
theorem chain_before (L : List K) (C : List Int) (k : Nat) : ((chainL L C (k : Int)).length = 1 ∧ earlierN L C k = -1) ∨ (1 < (chainL L C (k : Int)).length ∧ (chainL L C (k : Int)).getD ((chainL L C (k : Int)).length - 2) 0 = earlierN L C k) := by
  rcases earlier_cases L C k with ⟨h, _⟩ | ⟨e, h, _⟩
  · left
    rw [chain_step, h, chain_neg L C (by omega)]
    exact ⟨rfl, rfl⟩
  · right
    have h1 := chain_ne L C e
    have h2 := chain_last L C e
    rw [chain_step, h]
    generalize chainL L C (e : Int) = c at h1 h2
    refine ⟨by simp; omega, ?_⟩
    have : (c ++ [(k : Int)]).length - 2 = c.length - 1 := by simp
    rw [this]
    unfold List.getD at h2 ⊢
    rw [List.getElem?_append_left (by omega)]
    exact h2

/-- a link of a chain -/
structure Link (L : List K) (C : List Int) (c : List Int) (i x y : Nat) : Prop where
  hx : c.getD (i - 1) 0 = (x : Int)
  hy : c.getD i 0 = (y : Int)
  lx : x < L.length
  ly : y < L.length
  rd : (at' L x).round < (at' L y).round
  sl : sealN L y x = true
  ld : leadK C (at' L x) = true
  tk : chainL L C (x : Int) = c.take i

theorem chain_links {L : List K} (hl : laceB L = true) (C : List Int) : ∀ k, k < L.length → ∀ i, 0 < i → i < (chainL L C (k : Int)).length → ∃ x y, Link L C (chainL L C (k : Int)) i x y := by
  intro k
  induction k using Nat.strongRecOn with
  | _ k ih =>
    intro hk i h0 hi
    rcases earlier_cases L C k with ⟨h, _⟩ | ⟨e, h, hek, hec, _⟩
    · rw [chain_step, h, chain_neg L C (by omega)] at hi
      simp at hi
      omega
    · have hel : e < L.length := by omega
      have h1 := chain_ne L C e
      have h2 := chain_last L C e
      have hstep : chainL L C (k : Int) = chainL L C (e : Int) ++ [(k : Int)] := by rw [chain_step, h]
      rw [hstep] at hi ⊢
      by_cases hlt : i < (chainL L C (e : Int)).length
      · obtain ⟨x, y, q⟩ := ih e hek hel i h0 hlt
        refine ⟨x, y, ?_, ?_, q.lx, q.ly, q.rd, q.sl, q.ld, ?_⟩
        · have := q.hx
          unfold List.getD at this ⊢
          rw [List.getElem?_append_left (by omega)]
          exact this
        · have := q.hy
          unfold List.getD at this ⊢
          rw [List.getElem?_append_left (by omega)]
          exact this
        · rw [List.take_append_of_le_length (by omega)]
          exact q.tk
      · have hie : i = (chainL L C (e : Int)).length := by simp at hi; omega
        unfold earN at hec
        simp only [Bool.and_eq_true] at hec
        refine ⟨e, k, ?_, ?_, hel, hk, Ag.sees_round hl hk hec.1 (by omega), hec.2.2, hec.2.1, ?_⟩
        · rw [hie]
          unfold List.getD at h2 ⊢
          rw [List.getElem?_append_left (by omega)]
          exact h2
        · rw [hie]; simp [List.getD]
        · rw [hie, List.take_append_of_le_length (Nat.le_refl _), List.take_length]

/-- no leader that k seals comes after the leader before -/
theorem chain_best {L : List K} (hl : laceB L = true) {C : List Int} {k y : Nat} (hk : k < L.length) (hne : y ≠ k) (hld : leadK C (at' L y) = true) (hsl : sealN L k y = true) : 0 ≤ earlierN L C k ∧ (at' L y).round ≤ (at' L (earlierN L C k).toNat).round := by
  have hse := Sl.seal_sees hl hk hsl
  have hle := Ag.sees_le hl hk hse
  have hc : earN L C k y = true := by unfold earN; rw [hse, hld, hsl]; rfl
  rcases earlier_cases L C k with ⟨_, hno⟩ | ⟨e, h, hek, hec, hb⟩
  · rw [hno y (by omega)] at hc; exact Bool.noConfusion hc
  · rw [h, Int.toNat_natCast]
    exact ⟨by omega, hb y (by omega) hc⟩

end Ch
end Go.Proofs.YtmnkankjblnjaaaGreat

namespace Go.Proofs.YtmnkankjblnjaaaGreat
open Go.RowKit
set_option maxRecDepth 100000
set_option linter.unusedVariables false
namespace Tl
open Kn (K okK)
open Bit (bit withB memTo)
open Lc (at' laceB setB)
open Sg (isB bel seesB)
open Db (dblN doubledB)
open Nd (nodN nodsB)
open Ch (chainL earlierN earN leadK)

theorem getD_mem (l : List Int) (i : Nat) (h : i < l.length) : l.getD i 0 ∈ l := by
  unfold List.getD; rw [List.getElem?_eq_getElem h]; exact List.getElem_mem h
theorem getD_get (l : List Int) (i : Nat) (h : i < l.length) : l.getD i 0 = l[i] := by
  unfold List.getD; rw [List.getElem?_eq_getElem h]; rfl

/-! ### what respects -/
theorem resp_pair {L : List K} {C : List Int} (hl : laceB L = true) (hin : ∀ x ∈ C, 0 ≤ x ∧ x < (L.length : Int)) (hp : C.Pairwise fun x y => x ≠ y ∧ bit (bel L x.toNat) y.toNat = false) : respB L C = true := by
  rw [List.pairwise_iff_getElem] at hp
  refine resp_yes hl fun i hi => ?_
  unfold okAt
  have h1 : inR L (C.getD i 0) = true := (inR_iff L _).2 (hin _ (getD_mem C i hi))
  have h2 : (C.take i).contains (C.getD i 0) = false := by
    rw [Bool.eq_false_iff]
    intro h
    have h := List.contains_iff_mem.1 h
    obtain ⟨q, hq, e⟩ := List.getElem_of_mem h
    rw [List.getElem_take] at e
    have hqi : q < i := by simp at hq; omega
    rw [getD_get C i hi] at e
    exact (hp q i (by omega) hi hqi).1 e
  have h3 : unB L C (C.getD i 0) i C.length = true := by
    unfold unB
    rw [List.all_eq_true]
    intro q hq
    have hq := List.mem_range.1 hq
    by_cases hqi : q ≤ i
    · rw [decide_eq_true hqi]; rfl
    · rw [decide_eq_false hqi, getD_get C i hi, getD_get C q hq, (hp i q hi hq (by omega)).2]; simp
  rw [h1, h2, h3]; rfl
/-- a list that is put in order respects -/
theorem ord_pair {L : List K} (hl : laceB L = true) (m : List Int) (hm : m.Nodup) (hin : ∀ x ∈ m, 0 ≤ x ∧ x < (L.length : Int)) : (ordL L m).Pairwise fun x y => x ≠ y ∧ bit (bel L x.toNat) y.toNat = false := by
  rw [List.pairwise_iff_getElem]
  intro i j hi hj hij
  have hnd := ord_nodup L hm
  have hne : (ordL L m)[i] ≠ (ordL L m)[j] := fun e => by
    have := (List.nodup_iff_pairwise_ne.1 hnd)
    rw [List.pairwise_iff_getElem] at this
    exact this i j hi hj hij e
  refine ⟨hne, ?_⟩
  have hg := ord_get L m hij hj
  rw [getD_get _ i hi, getD_get _ j hj] at hg
  have hxi := hin _ ((mem_ord L m _).1 (List.getElem_mem hi))
  have hxj := hin _ ((mem_ord L m _).1 (List.getElem_mem hj))
  generalize (ordL L m)[i] = x at hne hg hxi
  generalize (ordL L m)[j] = y at hne hg hxj
  rw [Bool.eq_false_iff]
  intro hb
  have := Rm.below_round hl (i := x.toNat) (j := y.toNat) (by omega) hb (by omega)
  unfold gtB at hg
  rw [decide_eq_true this] at hg
  exact Bool.noConfusion hg
theorem mem_range60 {L : List K} {s : Int} (h : ∀ i, bit s i = true → i < L.length) : ∀ x ∈ memTo s 60, 0 ≤ x ∧ x < (L.length : Int) := fun x hx => by
  obtain ⟨j, _, rfl, hb⟩ := (Bit.mem_memTo s 60 x).1 hx
  have := h j hb
  omega
theorem memTo_pair (s : Int) (n : Nat) : (memTo s n).Pairwise (· < ·) := by
  induction n with
  | zero => exact List.Pairwise.nil
  | succ n ih =>
    rw [Bit.memTo_succ]
    split
    · rw [List.pairwise_append]
      refine ⟨ih, List.pairwise_singleton _ _, fun a ha b hb => ?_⟩
      obtain ⟨j, hj, rfl, _⟩ := (Bit.mem_memTo s n a).1 ha
      rw [List.mem_singleton.1 hb]
      omega
    · rw [List.append_nil]; exact ih
theorem memTo_nodup (s : Int) (n : Nat) : (memTo s n).Nodup := List.nodup_iff_pairwise_ne.2 ((memTo_pair s n).imp fun h => by omega)

/-! ### in order, by number where all else is alike -/
/-- x stands ahead of y -/
def Lt3 (L : List K) (x y : Int) : Prop := gtB L x y = false ∧ (gtB L y x = false → x < y)
def Falls3 (L : List K) : List Int → Prop
  | [] => True
  | y :: r => (∀ z ∈ r, Lt3 L z y) ∧ Falls3 L r
theorem insR_falls3 (L : List K) (x : Int) : ∀ l : List Int, (∀ z ∈ l, z < x) → Falls3 L l → Falls3 L (insR L x l) := by
  intro l
  induction l with
  | nil => intro _ _; exact ⟨fun z hz => by simp at hz, trivial⟩
  | cons y r ih =>
    rintro hlt ⟨h1, h2⟩
    unfold insR
    cases hg : gtB L y x
    · rw [if_neg (by simp)]
      refine ⟨fun z hz => ?_, h1, h2⟩
      refine ⟨?_, fun _ => hlt z hz⟩
      rcases List.mem_cons.1 hz with e | e
      · subst e; exact hg
      · exact gt_trans L hg (h1 z e).1
    · rw [if_pos rfl]
      refine ⟨fun z hz => ?_, ih (fun z hz => hlt z (List.mem_cons_of_mem _ hz)) h2⟩
      rcases (insR_mem L x r z).1 hz with e | e
      · subst e
        exact ⟨gt_total L hg, fun h => by rw [hg] at h; exact Bool.noConfusion h⟩
      · exact h1 z e
theorem ord_falls3 (L : List K) : ∀ (m out : List Int), m.Pairwise (· < ·) → (∀ a ∈ out, ∀ b ∈ m, a < b) → Falls3 L out.reverse → Falls3 L (m.foldl (insB L) out).reverse := by
  intro m
  induction m with
  | nil => intro out _ _ h; exact h
  | cons x m ih =>
    intro out hp hlt h
    rw [List.pairwise_cons] at hp
    rw [List.foldl_cons]
    refine ih _ hp.2 ?_ ?_
    · intro a ha b hb
      rcases List.mem_cons.1 ((insB_perm L out x).mem_iff.1 ha) with e | e
      · subst e; exact hp.1 b hb
      · exact hlt a e b (List.mem_cons_of_mem _ hb)
    · unfold insB
      rw [List.reverse_reverse]
      exact insR_falls3 L x _ (fun z hz => hlt z (List.mem_reverse.1 hz) x (List.mem_cons_self ..)) h
theorem falls3_pair (L : List K) : ∀ r : List Int, Falls3 L r → r.Pairwise fun y z => Lt3 L z y := by
  intro r
  induction r with
  | nil => intro _; exact List.Pairwise.nil
  | cons y r ih => rintro ⟨h1, h2⟩; exact List.pairwise_cons.2 ⟨h1, ih h2⟩
theorem ord_pair3 (L : List K) (m : List Int) (hm : m.Pairwise (· < ·)) : (ordL L m).Pairwise (Lt3 L) := by
  have h := falls3_pair L _ (ord_falls3 L m [] hm (fun a ha => by simp at ha) trivial)
  rw [List.pairwise_reverse] at h
  exact h
/-- what the law asks of two that stand one behind the other -/
theorem ord_next (L : List K) (s : Int) {i : Nat} (h0 : 0 < i) (hi : i < (ordL L (memTo s 60)).length) :
    ∃ a b : Nat, (ordL L (memTo s 60)).getD (i - 1) 0 = (a : Int) ∧ (ordL L (memTo s 60)).getD i 0 = (b : Int) ∧ bit s a = true ∧ bit s b = true ∧
      ((at' L a).round < (at' L b).round ∨ ((at' L a).round = (at' L b).round ∧ ((at' L a).hand < (at' L b).hand ∨ ((at' L a).hand = (at' L b).hand ∧ a < b)))) := by
  have hp := ord_pair3 L (memTo s 60) (memTo_pair s 60)
  rw [List.pairwise_iff_getElem] at hp
  have h := hp (i - 1) i (by omega) hi (by omega)
  have ha := (mem_ord L (memTo s 60) _).1 (List.getElem_mem (show i - 1 < _ by omega))
  have hb := (mem_ord L (memTo s 60) _).1 (List.getElem_mem hi)
  rw [← getD_get _ (i - 1) (by omega)] at h ha
  rw [← getD_get _ i hi] at h hb
  obtain ⟨a, _, ea, ba⟩ := (Bit.mem_memTo s 60 _).1 ha
  obtain ⟨b, _, eb, bb⟩ := (Bit.mem_memTo s 60 _).1 hb
  refine ⟨a, b, ea, eb, ba, bb, ?_⟩
  rw [ea, eb] at h
  unfold Lt3 gtB at h
  rw [Int.toNat_natCast, Int.toNat_natCast] at h
  obtain ⟨h1, h2⟩ := h
  rw [Bool.eq_false_iff] at h1
  simp only [ne_eq, Bool.or_eq_true, Bool.and_eq_true, decide_eq_true_eq] at h1
  by_cases hr : (at' L a).round < (at' L b).round
  · exact .inl hr
  · right
    refine ⟨by omega, ?_⟩
    by_cases hh : (at' L a).hand < (at' L b).hand
    · exact .inl hh
    · right
      refine ⟨by omega, ?_⟩
      have := h2 (by
        rw [Bool.eq_false_iff]
        simp only [ne_eq, Bool.or_eq_true, Bool.and_eq_true, decide_eq_true_eq]
        omega)
      omega
/-- all of the set are there -/
theorem ord_all (L : List K) {s : Int} (h0 : 0 ≤ s) (h1 : s < 1152921504606846976) : seenF (ordL L (memTo s 60)) = s := by
  have hin : ∀ a ∈ ordL L (memTo s 60), 0 ≤ a ∧ a < 60 := fun a ha => by
    obtain ⟨j, hj, rfl, _⟩ := (Bit.mem_memTo s 60 a).1 ((mem_ord L _ _).1 ha)
    omega
  obtain ⟨hb, hbits⟩ := seenF_bits _ hin
  refine Lc.eq_of_bits _ _ hb.1 h0 fun j => ?_
  rw [hbits j, Bool.eq_iff_iff, List.contains_iff_mem, mem_ord, Bit.mem_memTo]
  constructor
  · rintro ⟨q, _, e, hq⟩
    obtain rfl : j = q := by omega
    exact hq
  · intro hj
    refine ⟨j, ?_, rfl, hj⟩
    apply Classical.byContradiction
    intro hge
    have hd : s / 2 ^ 60 = 0 := Int.ediv_eq_zero_of_lt h0 (by simpa using h1)
    have := Bit.bit_up s 60 (j - 60) hd
    rw [show 60 + (j - 60) = j by omega, hj] at this
    exact Bool.noConfusion this

/-! ### what is fresh -/
theorem fresh_nodup (L : List K) (k e : Int) : (freshL L k e).Nodup := ord_nodup L (memTo_nodup _ _)
theorem fresh_pair {L : List K} (hl : laceB L = true) (k e : Int) : (freshL L k e).Pairwise fun x y => x ≠ y ∧ bit (bel L x.toNat) y.toNat = false :=
  ord_pair hl _ (memTo_nodup _ _) (mem_range60 (frS_in ((Lc.lace_iff L).1 hl).1 _ _))
theorem fresh_in {L : List K} (hl : laceB L = true) (k e : Int) : ∀ x ∈ freshL L k e, 0 ≤ x ∧ x < (L.length : Int) := fun x hx => by
  obtain ⟨j, rfl, hj, _⟩ := (mem_fresh ((Lc.lace_iff L).1 hl).1 k e x).1 hx
  omega
theorem fresh_has {L : List K} (hl : laceB L = true) {k : Nat} (hk : k < L.length) {e : Int} (he : e = -1 ∨ (0 ≤ e ∧ e < (L.length : Int))) {i : Nat} (hi : i < L.length) :
    (freshL L (k : Int) e).contains (i : Int) = (seesB L (k : Int) (i : Int) && (!seesB L e (i : Int) && nodsB L (k : Int) (i : Int))) := by
  have h60 := ((Lc.lace_iff L).1 hl).1
  have hk1 : isB L (k : Int) = true := (Rm.isB_iff hl _).2 ⟨by omega, by omega⟩
  have hi1 : isB L (i : Int) = true := (Rm.isB_iff hl _).2 ⟨by omega, by omega⟩
  have e1 : seesB L (k : Int) (i : Int) = bit (bel L k) i := by unfold Sg.seesB; rw [hk1, hi1, Int.toNat_natCast, Int.toNat_natCast]; rfl
  have e2 : nodsB L (k : Int) (i : Int) = nodN L k i := by unfold Nd.nodsB; rw [hk1, hi1, Int.toNat_natCast, Int.toNat_natCast]; rfl
  have e3 : seesB L e (i : Int) = (decide (0 ≤ e) && bit (bel L e.toNat) i) := by
    unfold Sg.seesB
    rw [hi1, Int.toNat_natCast]
    rcases he with he | he
    · subst he
      have : isB L (-1) = false := by unfold Sg.isB; rfl
      rw [this]; rfl
    · rw [(Rm.isB_iff hl e).2 he, decide_eq_true he.1]; rfl
  rw [e1, e2, e3]
  have hm := mem_fresh h60 (k : Int) e (i : Int)
  rw [Int.toNat_natCast] at hm
  rw [Bool.eq_iff_iff, List.contains_iff_mem, hm]
  constructor
  · rintro ⟨j, hj, _, hf⟩
    obtain rfl : i = j := by omega
    exact hf
  · intro h
    exact ⟨i, rfl, hi, h⟩
theorem fresh_apart {L : List K} (hl : laceB L = true) {k : Nat} (hk : k < L.length) {e x y : Int} (hx : x ∈ freshL L (k : Int) e) (hy : y ∈ freshL L (k : Int) e) : doubledB L x y = false := by
  have h60 := ((Lc.lace_iff L).1 hl).1
  obtain ⟨a, rfl, ha, fa⟩ := (mem_fresh h60 _ _ _).1 hx
  obtain ⟨b, rfl, hb, fb⟩ := (mem_fresh h60 _ _ _).1 hy
  rw [Int.toNat_natCast] at fa fb
  unfold fresN at fa fb
  simp only [Bool.and_eq_true] at fa fb
  unfold Db.doubledB
  rw [Int.toNat_natCast, Int.toNat_natCast]
  cases hd : dblN L a b
  · simp
  · have := Nd.nod_one h60 (by omega : k < 60) hb fa.2.2 hd
    rw [fb.2.2] at this
    exact Bool.noConfusion this

/-! ### tales -/
theorem chain_lastD (L : List K) (C : List Int) (e : Int) (he : -1 ≤ e) : (chainL L C e).getLastD (-1) = e := by
  by_cases h : e < 0
  · obtain rfl : e = -1 := by omega
    rw [Ch.chain_neg L C (by omega)]; rfl
  · obtain ⟨q, rfl⟩ := Int.eq_ofNat_of_zero_le (by omega : 0 ≤ e)
    rw [Ch.chain_step]; simp
theorem earlier_ge (L : List K) (C : List Int) (k : Nat) : -1 ≤ earlierN L C k := by
  rcases Ch.earlier_cases L C k with ⟨h, _⟩ | ⟨e, h, _⟩ <;> rw [h] <;> omega
theorem tale_step (L : List K) (C : List Int) (k : Nat) : taleL L C (k : Int) = taleL L C (earlierN L C k) ++ freshL L (k : Int) (earlierN L C k) := by
  unfold taleL
  rw [Ch.chain_step, taleF_snoc, chain_lastD L C _ (earlier_ge L C k)]
theorem tale_neg (L : List K) (C : List Int) {k : Int} (h : k < 0) : taleL L C k = [] := by unfold taleL; rw [Ch.chain_neg L C h]; rfl
/-- all that is told is below -/
theorem tale_below {L : List K} (hl : laceB L = true) (C : List Int) : ∀ k, k < L.length → ∀ x ∈ taleL L C (k : Int), ∃ j : Nat, x = (j : Int) ∧ j < L.length ∧ bit (bel L k) j = true := by
  have h60 := ((Lc.lace_iff L).1 hl).1
  intro k
  induction k using Nat.strongRecOn with
  | _ k ih =>
    intro hk x hx
    rw [tale_step, List.mem_append] at hx
    rcases hx with hx | hx
    · rcases Ch.earlier_cases L C k with ⟨h, _⟩ | ⟨e, h, hek, hec, _⟩
      · rw [h, tale_neg L C (by omega)] at hx; simp at hx
      · rw [h] at hx
        obtain ⟨j, rfl, hj, hb⟩ := ih e hek (by omega) x hx
        refine ⟨j, rfl, hj, ?_⟩
        unfold Ch.earN at hec
        rw [Bool.and_eq_true] at hec
        exact Ag.sees_trans hl hk hec.1 hb
    · obtain ⟨j, rfl, hj, hf⟩ := (mem_fresh h60 _ _ _).1 hx
      rw [Int.toNat_natCast] at hf
      unfold fresN at hf
      rw [Bool.and_eq_true] at hf
      exact ⟨j, rfl, hj, hf.1⟩
theorem tale_pair {L : List K} (hl : laceB L = true) (C : List Int) : ∀ k, k < L.length → (taleL L C (k : Int)).Pairwise fun x y => x ≠ y ∧ bit (bel L x.toNat) y.toNat = false := by
  have h60 := ((Lc.lace_iff L).1 hl).1
  intro k
  induction k using Nat.strongRecOn with
  | _ k ih =>
    intro hk
    rw [tale_step]
    rcases Ch.earlier_cases L C k with ⟨h, _⟩ | ⟨e, h, hek, hec, _⟩
    · rw [h, tale_neg L C (by omega), List.nil_append]
      exact fresh_pair hl _ _
    · rw [h, List.pairwise_append]
      refine ⟨ih e hek (by omega), fresh_pair hl _ _, fun x hx y hy => ?_⟩
      obtain ⟨a, rfl, ha, ba⟩ := tale_below hl C e (by omega) x hx
      obtain ⟨b, rfl, hb, hf⟩ := (mem_fresh h60 _ _ _).1 hy
      rw [Int.toNat_natCast] at hf
      unfold fresN at hf
      simp only [Bool.and_eq_true, Bool.not_eq_true'] at hf
      have hnot : bit (bel L e) b = false := by
        have := hf.2.1
        rw [Int.toNat_natCast, decide_eq_true (by omega : (0 : Int) ≤ (e : Int)), Bool.true_and] at this
        exact this
      refine ⟨fun q => ?_, ?_⟩
      · obtain rfl : a = b := by omega
        rw [ba] at hnot; exact Bool.noConfusion hnot
      · rw [Int.toNat_natCast, Int.toNat_natCast, Bool.eq_false_iff]
        intro q
        rw [Ag.sees_trans hl (by omega : e < L.length) ba q] at hnot
        exact Bool.noConfusion hnot
theorem tale_resp {L : List K} (hl : laceB L = true) (C : List Int) {k : Nat} (hk : k < L.length) : respB L (taleL L C (k : Int)) = true :=
  resp_pair hl (fun x hx => by obtain ⟨j, rfl, hj, _⟩ := tale_below hl C k hk x hx; omega) (tale_pair hl C k hk)
/-- the one itself is told just where it nods to itself -/
theorem tale_self {L : List K} (hl : laceB L = true) (C : List Int) {k : Nat} (hk : k < L.length) : (taleL L C (k : Int)).contains (k : Int) = nodN L k k := by
  have h60 := ((Lc.lace_iff L).1 hl).1
  rw [Bool.eq_iff_iff, List.contains_iff_mem, tale_step, List.mem_append]
  have hm := mem_fresh h60 (k : Int) (earlierN L C k) (k : Int)
  rw [Int.toNat_natCast] at hm
  constructor
  · rintro (h | h)
    · rcases Ch.earlier_cases L C k with ⟨q, _⟩ | ⟨e, q, hek, _⟩
      · rw [q, tale_neg L C (by omega)] at h; simp at h
      · rw [q] at h
        obtain ⟨j, ej, hj, hb⟩ := tale_below hl C e (by omega) _ h
        have := Ag.sees_le hl (by omega : e < L.length) hb
        omega
    · obtain ⟨j, ej, _, hf⟩ := hm.1 h
      obtain rfl : k = j := by omega
      unfold fresN at hf
      simp only [Bool.and_eq_true] at hf
      exact hf.2.2
  · intro hn
    right
    refine hm.2 ⟨k, rfl, hk, ?_⟩
    unfold fresN
    rw [Db.bel_self hl hk, hn]
    rcases Ch.earlier_cases L C k with ⟨q, _⟩ | ⟨e, q, hek, _⟩
    · rw [q]; rfl
    · rw [q, Int.toNat_natCast, Db.bel_hi hl (by omega : e < L.length) hek]; simp
/-- the tale of one on the chain begins the tale -/
theorem tale_begins {L : List K} (hl : laceB L = true) (C : List Int) : ∀ k, k < L.length → ∀ x ∈ chainL L C (k : Int), ∃ rest, taleL L C (k : Int) = taleL L C x ++ rest := by
  intro k
  induction k using Nat.strongRecOn with
  | _ k ih =>
    intro hk x hx
    rw [Ch.chain_step, List.mem_append] at hx
    rcases hx with hx | hx
    · rcases Ch.earlier_cases L C k with ⟨h, _⟩ | ⟨e, h, hek, _⟩
      · rw [h, Ch.chain_neg L C (by omega)] at hx; simp at hx
      · rw [h] at hx
        obtain ⟨r, hr⟩ := ih e hek (by omega) x hx
        exact ⟨r ++ freshL L (k : Int) (e : Int), by rw [tale_step, h, hr, List.append_assoc]⟩
    · rw [List.mem_singleton.1 hx]
      exact ⟨[], by simp⟩

end Tl
end Go.Proofs.YtmnkankjblnjaaaGreat

namespace Go.Proofs.YtmnkankjblnjaaaGreat
open Go.RowKit
set_option maxRecDepth 100000
namespace Lsx
open Memb (Own)
open Lst (Rd own_block own_rd own_below own_drewN)

/-- k, k + 1, .. -/
def marks (k : Int) (n : Nat) : List Int := (List.range n).map fun i : Nat => k + (i : Int)
theorem marks_length (k : Int) (n : Nat) : (marks k n).length = n := by simp [marks]
theorem marks_get (k : Int) (n j : Nat) (h : j < n) : (marks k n).getD j 0 = k + (j : Int) := by simp [marks, h]

/-- marked up to k -/
def part (k0 : Int) (l : List Int) (k : Nat) : List Int := marks k0 k ++ l.drop k
theorem part_length (k0 : Int) (l : List Int) (k : Nat) (h : k ≤ l.length) : (part k0 l k).length = l.length := by simp [part, marks_length]; omega
theorem part_zero (k0 : Int) (l : List Int) : part k0 l 0 = l := by simp [part, marks]
theorem part_all (k0 : Int) (l : List Int) : part k0 l l.length = marks k0 l.length := by simp [part]
theorem part_get (k0 : Int) (l : List Int) (k : Nat) (h : k < l.length) : (part k0 l k)[k]? = some (l.getD k 0) := by
  unfold part
  rw [List.getElem?_append_right (by rw [marks_length]; omega), marks_length]
  simp [h]
theorem marks_succ (k0 : Int) (k : Nat) : marks k0 (k + 1) = marks k0 k ++ [k0 + (k : Int)] := by simp [marks, List.range_succ]
theorem part_set (k0 : Int) (l : List Int) (k : Nat) (h : k < l.length) : (part k0 l k).set k (k0 + (k : Int)) = part k0 l (k + 1) := by
  unfold part
  rw [List.set_append, if_neg (by rw [marks_length]; omega), marks_length, Nat.sub_self, List.drop_eq_getElem_cons h, List.set_cons_zero, marks_succ, List.append_assoc]
  rfl

theorem stored {B g cap n : Nat} {k0 : Int} {l : List Int} {k : Nat} {w wr : World} (hk : k < l.length) (hg : B ≤ g)
    (hown : wr.ownsRow B 2 1 (.slice (some ⟨g, 0, none⟩) n cap) n ((part k0 l k).map (Value.int .i64))) (hb : Below B w wr) :
    (wr.setCell ⟨g, k, none⟩ (.int .i64 (k0 + (k : Int)))).ownsRow B 2 1 (.slice (some ⟨g, 0, none⟩) n cap) n ((part k0 l (k + 1)).map (Value.int .i64)) ∧ Below B w (wr.setCell ⟨g, k, none⟩ (.int .i64 (k0 + (k : Int)))) := by
  refine ⟨?_, hb.setCell hg _⟩
  have := (World.ownsRow.stored hown k (.int .i64 (k0 + (k : Int)))).1
  rw [← List.map_set, part_set k0 l k hk] at this
  exact this

end Lsx
end Go.Proofs.YtmnkankjblnjaaaGreat

namespace Go.Proofs.YtmnkankjblnjaaaGreat
open Go.RowKit
set_option maxRecDepth 100000
namespace Nu
open Kn (K)
open Db (RowI)

/-- a list of numbers lies there, wherever it begins -/
def RdI (w : World) (ao : Option Addr) (C : List Int) : Prop := C = [] ∨ ∃ g off, ao = some ⟨g, off, none⟩ ∧ g < w.heap.size ∧ ∀ j, j < C.length → w.cell? ⟨g, off + j, none⟩ = some (.int .i64 (C.getD j 0))
theorem RdI.below {w w' : World} {ao : Option Addr} {C : List Int} (h : RdI w ao C) (hb : Below w.heap.size w w') : RdI w' ao C := by
  rcases h with h | ⟨g, off, e, hg, hc⟩
  · exact .inl h
  · exact .inr ⟨g, off, e, Nat.lt_of_lt_of_le hg hb.size, fun j hj => (hb.cell (p := ⟨g, off + j, none⟩) hg).trans (hc j hj)⟩

theorem row_below {w w' : World} {b n : Nat} {D : Nat → Int} (h : RowI w b n D) (hb : Below w.heap.size w w') : RowI w' b n D :=
  ⟨Nat.lt_of_lt_of_le h.lt hb.size, fun i hi => (hb.cell (p := ⟨b, i, none⟩) h.lt).trans (h.rd i hi), fun i hi => (hb.frozen (p := ⟨b, i, none⟩) h.lt).trans (h.fr i hi)⟩
theorem row_grown {w w' : World} {b q n : Nat} {D : Nat → Int} (h : RowI w b n D) (hg : w.grownBy w' (some q)) (hne : b ≠ q) : RowI w' b n D := by
  have hk := hg.block b h.lt (fun e => hne (by cases e; rfl))
  exact ⟨Nat.lt_of_lt_of_le h.lt hg.size, fun i hi => (World.cell?_of_block (a := ⟨b, i, none⟩) hk).trans (h.rd i hi), fun i hi => (World.frozen?_of_block (a := ⟨b, i, none⟩) hk).trans (h.fr i hi)⟩
theorem row_rd {w : World} {b : Nat} {C : List Int} (h : RowI w b C.length (fun i => C.getD i 0)) : Lst.Rd w (some ⟨b, 0, none⟩) C := .inr ⟨b, rfl, h.rd⟩
theorem row_eq {w : World} {b n : Nat} {D E : Nat → Int} (h : RowI w b n D) (e : ∀ i, i < n → D i = E i) : RowI w b n E := ⟨h.lt, fun i hi => by rw [← e i hi]; exact h.rd i hi, h.fr⟩

/-- the list is handed on -/
def ToPost (C : List Int) (w : World) (e : Ending) (w' : World) : Prop := e = .returned (.slice (some ⟨w.heap.size, 0, none⟩) C.length C.length) ∧ RowI w' w.heap.size C.length (fun i => C.getD i 0) ∧ Below w.heap.size w w'
/-- what has been handed on so far -/
def soFar (C : List Int) (j i : Nat) : Int := if i < j then C.getD i 0 else 0

theorem below_drewN {b : Nat} {a w : World} (h : Below b a w) (n : Nat) : Below b a (w.drewN n) := ⟨h.os, h.tape, h.output, h.size, h.block⟩
theorem own_rd {B : Nat} {w : World} {ao : Option Addr} {cap : Nat} {l : List Int} (h : Memb.Own B w ao cap l) : Lst.Rd w ao l := Lst.own_rd h
theorem own_below {B : Nat} {w w' : World} {ao : Option Addr} {cap : Nat} {l : List Int} (h : Memb.Own B w ao cap l) (hb : Below w.heap.size w w') : Memb.Own B w' ao cap l := Lst.own_below h hb
theorem own_grown {B q : Nat} {w w' : World} {ao : Option Addr} {cap : Nat} {l : List Int} (h : Memb.Own B w ao cap l) (hg : w.grownBy w' (some q)) (hne : ∀ g, ao = some ⟨g, 0, none⟩ → g ≠ q) : Memb.Own B w' ao cap l := by
  have hlt := World.ownsRow.lt h
  unfold Memb.Own at *
  obtain ⟨h1, h2⟩ := h
  refine ⟨h1, ?_⟩
  rcases h2 with h2 | ⟨g, cap', cur, hv, hB, hc, rest⟩
  · exact .inl h2
  · refine .inr ⟨g, cap', cur, hv, hB, ?_, rest⟩
    simp only [Value.slice.injEq] at hv
    obtain ⟨rfl, _, _⟩ := hv
    rw [hg.block g (hlt g rfl).2 (fun e => hne g rfl (by cases e; rfl))]; exact hc
theorem own_far {B : Nat} {w : World} {ao : Option Addr} {cap : Nat} {l : List Int} (h : Memb.Own B w ao cap l) : ∀ g, ao = some ⟨g, 0, none⟩ → B ≤ g ∧ g < w.heap.size := fun g e => by
  subst e; exact World.ownsRow.lt h g rfl
/-- what lies lower than all that may have changed -/
theorem own_low {B n : Nat} {w w' : World} {ao : Option Addr} {cap : Nat} {l : List Int} (h : Memb.Own B w ao cap l) (hf : ∀ g, ao = some ⟨g, 0, none⟩ → g < n) (hb : Below n w w') : Memb.Own B w' ao cap l := by
  have hlt := World.ownsRow.lt h
  unfold Memb.Own at *
  obtain ⟨h1, h2⟩ := h
  refine ⟨h1, ?_⟩
  rcases h2 with h2 | ⟨g, cap', cur, hv, hB, hc, rest⟩
  · exact .inl h2
  · refine .inr ⟨g, cap', cur, hv, hB, ?_, rest⟩
    simp only [Value.slice.injEq] at hv
    obtain ⟨rfl, _, _⟩ := hv
    rw [hb.block g (hf g rfl)]; exact hc
theorem own_base {B B' : Nat} {w : World} {ao : Option Addr} {cap : Nat} {l : List Int} (h : Memb.Own B w ao cap l) (hB : B' ≤ B) : Memb.Own B' w ao cap l := by
  obtain ⟨h1, h2 | ⟨g, cp, cur, e, hg, r⟩⟩ := h
  · exact ⟨h1, .inl h2⟩
  · exact ⟨h1, .inr ⟨g, cp, cur, e, Nat.le_trans hB hg, r⟩⟩
theorem at_block {q : Nat} {w : World} (h : q < w.heap.size) : ∀ c, some (⟨q, 0, none⟩ : Addr) = some ⟨c, 0, none⟩ → c < w.heap.size := fun c e => by injection e with e; injection e with e; subst e; exact h

/-- marked -/
def MarkPost (b n : Nat) (k0 : Int) (w : World) (e : Ending) (w' : World) : Prop := e = .returned (.int .i64 (k0 + (n : Int))) ∧ RowI w' b n (fun i => k0 + (i : Int)) ∧ w.grownBy w' (some b)
/-- marked so far -/
def markD (D : Nat → Int) (k0 : Int) (j i : Nat) : Int := if i < j then k0 + (i : Int) else D i

end Nu
end Go.Proofs.YtmnkankjblnjaaaGreat

namespace Go.Proofs.YtmnkankjblnjaaaGreat
open Go.RowKit
set_option maxRecDepth 100000
namespace Tl
open Kn (K okK)
open Bit (bit withB memTo)
open Lc (at' RdK WordsOk laceB setB)
open Sg (isB bel belows NumsPost)
open Ch (chainL)

theorem orderedI_len (L : List K) (s : Int) : (orderedI L s).length ≤ 60 := by
  unfold orderedI
  split
  · rw [ord_len]; exact Bit.memTo_le _ 60
  · simp
theorem freshI_len (L : List K) (k e : Int) : (freshI L k e).length ≤ 60 := by
  unfold freshI
  split
  · exact fresh_len L k e
  · simp
theorem taleF_len (L : List K) : ∀ (l : List Int) (e : Int), (taleF L e l).length ≤ 60 * l.length := by
  intro l
  induction l with
  | nil => intro e; exact Nat.le_refl _
  | cons c r ih =>
    intro e
    show (freshL L c e ++ taleF L c r).length ≤ _
    have h1 := fresh_len L c e
    have h2 := ih c
    rw [List.length_append, List.length_cons]; omega
theorem taleI_len (L : List K) (C : List Int) (k : Int) : (taleI L C k).length ≤ 3660 := by
  have hc := @Ch.chainI_len L C k
  unfold taleI
  split
  · rename_i h
    have e : Ch.chainI L C k = chainL L C k := by unfold Ch.chainI; rw [if_pos h]
    rw [e] at hc
    have := taleF_len L (chainL L C k) (-1)
    unfold taleL
    omega
  · simp
theorem outI_len (L : List K) (C : List Int) (s : Int) : (outI L C s).length ≤ 3660 := by
  unfold outI
  split
  · rename_i h
    unfold Fm.rightB at h
    rw [Bool.and_eq_true] at h
    rcases last_spec L C s L.length with ⟨q, _⟩ | ⟨f, q, hf, _⟩
    · rw [out_none (by rw [q]; omega)]; simp
    · rw [out_some (by rw [q]; omega), q]
      have hl := (Fm.closed_set h.1).1
      have hon : Ch.onB L C (f : Int) = true := by
        unfold Ch.onB
        rw [h.2]
        unfold Sg.isB
        rw [hl]
        simp; omega
      have := taleI_len L C (f : Int)
      unfold taleI at this
      rw [if_pos hon] at this
      exact this
  · simp

set_option maxHeartbeats 1600000 in
/-- the document's BeginsWith -/
def beginsB (a b : List Int) : Bool := decide (b.length ≤ a.length) && (List.range b.length).all fun i => a.getD i 0 == b.getD i 0

theorem begins_long {a b : List Int} (h : a.length < b.length) : beginsB a b = false := by
  unfold beginsB; rw [decide_eq_false (by omega)]; rfl
theorem begins_no {a b : List Int} (j : Nat) (hj : j < b.length) (h : (a.getD j 0 == b.getD j 0) = false) : beginsB a b = false := by
  rw [Bool.eq_false_iff]
  intro hb
  unfold beginsB at hb
  rw [Bool.and_eq_true, List.all_eq_true] at hb
  have := hb.2 j (by simpa using hj)
  rw [h] at this; exact Bool.noConfusion this
theorem begins_yes {a b : List Int} (hl : b.length ≤ a.length) (h : ∀ j, j < b.length → (a.getD j 0 == b.getD j 0) = true) : beginsB a b = true := by
  unfold beginsB
  rw [decide_eq_true hl, Bool.true_and, List.all_eq_true]
  intro j hj
  exact h j (by simpa using hj)

end Tl
end Go.Proofs.YtmnkankjblnjaaaGreat

namespace Go.Proofs.YtmnkankjblnjaaaGreat
open Go.RowKit
set_option maxRecDepth 100000
set_option linter.unusedVariables false
namespace Rm
open Kn (K okK)
open Bit (bit memTo)
open Lc (at' RdK laceB flat OwnK cellsOf)
open Cur (At)

set_option maxHeartbeats 800000 in
theorem drawOrdered (HD : DrawsRoom) (a : Option Addr) (len cap : Nat) (w : World) (hl : len ≤ 4096) (hc : Cur.Code w a len) :
    Calls Tryz.prog 6 #[.slice a len cap] w fun e w' => ∃ v L s, e = .returned (.tuple #[v, .int .i64 s]) ∧ Drawn w.heap.size w w' v L ∧ (-9223372036854775808 ≤ s ∧ s ≤ 9223372036854775807) := by
  go_enter Tryz.func6, Tryz.ntmps6
  go_wp2_with fail
  refine (drawHandsOf HD a len cap _ hl hc).mono ?_
  rintro e w1 ⟨v, L, s, rfl, hD, hs⟩
  go_wp2
  refine bodyPost_ret (v := .tuple #[v, .int .i64 s]) (by simp [results, Tryz.f6, go_sem]) rfl ?_
  exact ⟨_, L, s, rfl, hD, hs⟩

set_option maxHeartbeats 1600000 in
theorem drawFreshOf (HD : DrawsRoom) (a : Option Addr) (len cap : Nat) (w : World) (hl : len ≤ 4096) (hc : Cur.Code w a len) :
    Calls Tryz.prog 15 #[.slice a len cap] w fun e w' => ∃ v L k x, e = .returned (.tuple #[v, .int .i64 k, .int .i64 x]) ∧ Drawn w.heap.size w w' v L ∧ (-9223372036854775808 ≤ k ∧ k ≤ 9223372036854775807) ∧ (-9223372036854775808 ≤ x ∧ x ≤ 9223372036854775807) := by
  have HDD : Hid DrawsRoom := HD
  clear HD
  go_enter Tryz.func15, Tryz.ntmps15
  go_wp2_with fail
  refine (Cur.new a len cap _ hl hc).mono ?_
  rintro e w1 ⟨rfl, hA1, hb1⟩
  go_wp2_with fail
  refine (l3DrawAny HDD.out _ a len cap _ hl hA1).mono ?_
  rintro e w2 ⟨v, L, rfl, hO, h61, hwd, hA2, hG2⟩
  obtain ⟨g, cp, rfl, _, _, _, _, _, _⟩ := Lc.ownK_shape hO
  have hB2 := Draw.below_of_grown hb1 (Nat.le_refl _) hG2
  have hs1 := hb1.size
  have hlt1 := hA1.lt
  have HO : Hid (OwnK 36 w1.heap.size w2 (.slice (some ⟨g, 0, none⟩) L.length cp) L) := hO
  have HWD : Hid (∀ k ∈ L, k.word.size ≤ 13) := hwd
  clear hO hwd hG2 hb1 hA1
  go_wp2_with fail
  refine (l3DrawAt _ a len cap L.length _ hl h61 hA2).mono ?_
  rintro e w3 ⟨k, rfl, hk, hA3, hG3⟩
  have hB3 := Draw.below_of_grown hB2 (Nat.le_refl _) hG3
  have HO3 : Hid (OwnK 36 w1.heap.size w3 (.slice (some ⟨g, 0, none⟩) L.length cp) L) := ownK_grown HO.out hG3 hlt1
  clear HO hB2 hG3 hA2
  go_wp2_with fail
  refine (Cur.once _ a len cap 3 _ hl (by omega) hA3).mono ?_
  rintro e w4 ⟨b, rfl, hA4, hG4⟩
  have hB4 := Draw.below_of_grown hB3 (Nat.le_refl _) hG4
  have HO4 : Hid (OwnK 36 w1.heap.size w4 (.slice (some ⟨g, 0, none⟩) L.length cp) L) := ownK_grown HO3.out hG4 hlt1
  clear HO3 hB3 hG4 hA3
  cases b
  · go_wp2_with fail
    refine (l3DrawAt _ a len cap L.length _ hl h61 hA4).mono ?_
    rintro e w5 ⟨x, rfl, hx, hA5, hG5⟩
    have HF : Hid (Drawn w.heap.size w w5 (.slice (some ⟨g, 0, none⟩) L.length cp) L) := ⟨ownK_base (ownK_grown HO4.out hG5 hlt1) hs1, h61, HWD.out, Draw.below_of_grown hB4 (Nat.le_refl _) hG5⟩
    clear HO4 hB4 hG5 hA4 hA5
    go_wp2
    refine bodyPost_ret (v := .tuple #[.slice (some ⟨g, 0, none⟩) L.length cp, .int .i64 k, .int .i64 x]) (by simp [results, Tryz.f15, go_sem]) rfl ?_
    exact ⟨_, L, k, x, rfl, HF.out, hk, hx⟩
  · have HF : Hid (Drawn w.heap.size w w4 (.slice (some ⟨g, 0, none⟩) L.length cp) L) := ⟨ownK_base HO4.out hs1, h61, HWD.out, hB4⟩
    clear HO4 hB4 hA4
    go_wp2
    refine bodyPost_ret (v := .tuple #[.slice (some ⟨g, 0, none⟩) L.length cp, .int .i64 k, .int .i64 (-1)]) (by simp [results, Tryz.f15, go_sem]) rfl ?_
    exact ⟨_, L, k, -1, rfl, HF.out, hk, by omega, by omega⟩

/-- a list of knots and a list of numbers, drawn so far -/
structure LoSt (c : Nat) (a : Option Addr) (len cap : Nat) (w wr : World) (v : Value) (L : List K) (o : Value) (X : List Int) : Prop where
  at' : At c a len cap wr
  gr : w.grownBy wr (some c)
  lo : OwnK 36 w.heap.size wr v L
  ow : wr.ownsRow w.heap.size 2 1 o X.length (X.map (Value.int .i64))
  zb : ∀ z ∈ X, -9223372036854775808 ≤ z ∧ z ≤ 9223372036854775807
  x61 : X.length ≤ 61
theorem LoSt.grown {c : Nat} {a : Option Addr} {len cap : Nat} {w wr w1 : World} {v : Value} {L : List K} {o : Value} {X : List Int} (s : LoSt c a len cap w wr v L o X) (hc : c < w.heap.size) (hA : At c a len cap w1) (hG : wr.grownBy w1 (some c)) : LoSt c a len cap w w1 v L o X :=
  ⟨hA, Cur.grownBy_trans s.gr hG, ownK_grown s.lo hG hc, own_fr (Fr.of_grown hG) s.ow (fun g hg e => by have := (World.ownsRow.lt s.ow g hg).1; omega), s.zb, s.x61⟩

theorem orderedI_in {L : List K} {s : Int} : ∀ z ∈ Tl.orderedI L s, -9223372036854775808 ≤ z ∧ z ≤ 9223372036854775807 := fun z hz => by
  unfold Tl.orderedI at hz
  split at hz
  · obtain ⟨j, hj, rfl, _⟩ := (Bit.mem_memTo s 60 z).1 ((Tl.mem_ord L _ _).1 hz)
    omega
  · simp at hz

theorem LoSt.put {c : Nat} {a : Option Addr} {len cap : Nat} {w wr : World} {v : Value} {L : List K} {g oc : Nat} {X : List Int} (s : LoSt c a len cap w wr v L (.slice (some ⟨g, 0, none⟩) X.length oc) X) (hcb : CurB c a len w.heap.size) (j : Nat) (y : Int) (hy : -9223372036854775808 ≤ y ∧ y ≤ 9223372036854775807) :
    LoSt c a len cap w (wr.setCell ⟨g, j, none⟩ (.int .i64 y)) v L (.slice (some ⟨g, 0, none⟩) (X.set j y).length oc) (X.set j y) := by
  have hgB := (World.ownsRow.lt s.ow g rfl).1
  have hl : (X.set j y).length = X.length := by simp
  have hfr : Fr (fun x => x = g) wr (wr.setCell ⟨g, j, none⟩ (.int .i64 y)) := Fr.set wr ⟨g, j, none⟩ _
  refine ⟨at_belowB s.at' hcb (hfr.toBelow s.gr.size (fun x e => by omega)), ?_, ⟨own_fr hfr s.lo.1 (fun q hq e => ?_), s.lo.2⟩, by rw [hl]; exact Tl.own_put s.ow j y, fun z hz => ?_, by rw [hl]; exact s.x61⟩
  · exact ((Fr.of_grown s.gr).trans hfr (fun x hx hl => by omega)).grown
  · subst e
    exact own_ne s.lo.1 s.ow (by decide) hq rfl
  · rcases List.mem_or_eq_of_mem_set hz with h | h
    · exact s.zb z h
    · rw [h]; exact hy
theorem LoSt.app {c : Nat} {a : Option Addr} {len cap : Nat} {w w1 w2 : World} {v o v' : Value} {L : List K} {X : List Int} {x : Int} {ob : Obj} (s : LoSt c a len cap w w1 v L o X) (hcb : CurB c a len w.heap.size) (ho : w2.ownsRow w.heap.size 2 1 v' (X.length + 1) (X.map (Value.int .i64) ++ [.int .i64 x])) (hg : (w1.alloc ob).grownBy w2 o.ownBlock) :
    At c a len cap w2 ∧ w.grownBy w2 (some c) ∧ OwnK 36 w.heap.size w2 v L ∧ w2.ownsRow w.heap.size 2 1 v' (X ++ [x]).length ((X ++ [x]).map (Value.int .i64)) := by
  have hlt := World.ownsRow.lt s.ow
  have hf1 : Fr (fun y => o.ownBlock = some y) w1 w2 := (Fr.alloc _ w1 ob).trans (Fr.of_own hg) (fun _ hx _ => hx)
  refine ⟨at_belowB s.at' hcb (hf1.toBelow s.gr.size (fun y hy => (hlt y hy).1)), ?_, ⟨own_fr hf1 s.lo.1 (fun q hq e => own_ne s.lo.1 s.ow (by decide) hq e), s.lo.2⟩, by simpa using ho⟩
  exact ((Fr.of_grown s.gr).trans hf1 (fun y hy hl => by have := (hlt y hy).1; omega)).grown

/-- how the drawing of a list of knots and a list of numbers ends -/
def TwoPost (w : World) (e : Ending) (w' : World) : Prop := ∃ v L ao cc X, e = .returned (.tuple #[v, .slice ao (X : List Int).length cc]) ∧ Drawn w.heap.size w w' v L ∧ Memb.Own w.heap.size w' ao cc X ∧ (∀ z ∈ X, -9223372036854775808 ≤ z ∧ z ≤ 9223372036854775807) ∧ X.length ≤ 62

theorem two_post {c : Nat} {a : Option Addr} {len cap : Nat} {w w1 wr : World} {v o : Value} {L : List K} {X : List Int} (hs : w.heap.size ≤ w1.heap.size) (hb : Below w.heap.size w wr) (hl : L.length ≤ 61) (hw : ∀ k ∈ L, k.word.size ≤ 13) (lo : OwnK 36 w1.heap.size wr v L) (ow : wr.ownsRow w1.heap.size 2 1 o X.length (X.map (Value.int .i64))) (hz : ∀ z ∈ X, -9223372036854775808 ≤ z ∧ z ≤ 9223372036854775807) (hx : X.length ≤ 62) :
    TwoPost w (.returned (.tuple #[v, o])) wr := by
  obtain ⟨ao, cc, rfl, hown⟩ := Memb.own_shape ow
  exact ⟨v, L, ao, cc, X, rfl, ⟨ownK_base lo hs, hl, hw, hb⟩, Nu.own_base hown hs, hz, hx⟩

set_option maxHeartbeats 3200000 in
theorem drawRespects (HD : DrawsRoom) (a : Option Addr) (len cap : Nat) (w : World) (hl : len ≤ 4096) (hc : Cur.Code w a len) :
    Calls Tryz.prog 8 #[.slice a len cap] w (TwoPost w) := by
  obtain ⟨i0, hi, hz0, hz1, hz2⟩ := info_parts Memb.info2
  have HDD : Hid DrawsRoom := HD
  clear HD
  go_enter Tryz.func8, Tryz.ntmps8
  go_wp2_with fail
  refine (Cur.new a len cap _ hl hc).mono ?_
  rintro e w1 ⟨rfl, hA1, hb1⟩
  have HCB : Hid (CurB w.heap.size a len w1.heap.size) := curB_of hA1
  go_wp2_with fail
  refine (l3DrawAny HDD.out _ a len cap _ hl hA1).mono ?_
  rintro e w2 ⟨v, L, rfl, hO, h61, hwd, hA2, hG2⟩
  obtain ⟨g, cp, rfl, hcp, _, hgB, _, hrd, _⟩ := Lc.ownK_shape hO
  have hB2 := Draw.below_of_grown hb1 (Nat.le_refl _) hG2
  have hs1 := hb1.size
  have hlt1 := hA1.lt
  have HWD : Hid (∀ k ∈ L, k.word.size ≤ 13) := hwd
  have hne : g ≠ w.heap.size := by omega
  have hww : Lc.WordsOk L := fun k hk => by have := hwd k hk; omega
  have HWW : Hid (Lc.WordsOk L) := hww
  have hset := l4DrawSet w.heap.size a len cap g cp L w2 hl hA2 hne h61 hcp hww hrd
  have HO : Hid (OwnK 36 w1.heap.size w2 (.slice (some ⟨g, 0, none⟩) L.length cp) L) := hO
  have HG2 : Hid (w1.grownBy w2 (some w.heap.size)) := hG2
  clear hO hwd hG2 hb1 hA1 hww hrd
  go_wp2_with fail
  refine hset.mono ?_
  rintro e w3 ⟨s, rfl, hs, hA3, hG3⟩
  have hO3 := ownK_grown HO.out hG3 hlt1
  have hB3 := Draw.below_of_grown hB2 (Nat.le_refl _) hG3
  have HG3 : Hid (w1.grownBy w3 (some w.heap.size)) := Cur.grownBy_trans HG2.out hG3
  have hrd3 : RdK w3 (some ⟨g, 0, none⟩) L := by
    obtain ⟨g', cp', hge, _, _, _, _, h, _⟩ := Lc.ownK_shape hO3
    injection hge with hge
    injection hge with hge
    injection hge with hge
    subst hge
    exact h
  have hord := Tl.specOrdered g 0 cp L s w3 hcp HWW.out hrd3
  clear HO hB2 hG3 hA2 hset HG2 hrd3
  have hlen := Tl.orderedI_len L s
  have hzb := orderedI_in (L := L) (s := s)
  generalize Tl.orderedI L s = X at hord hlen hzb
  go_wp2_with fail
  refine hord.mono ?_
  rintro e w4 ⟨ao, ac, rfl, hown, hb4⟩
  have HS4 : Hid (LoSt w.heap.size a len cap w1 w4 (.slice (some ⟨g, 0, none⟩) L.length cp) L (.slice ao X.length ac) X) :=
    ⟨hA3.below hb4, Cur.grownBy_trans HG3.out ⟨hb4.os, hb4.tape, hb4.output, hb4.size, fun i hi _ => hb4.block i hi⟩, Lc.ownK_below hO3 hb4, Nu.own_base hown HG3.out.size, hzb, by omega⟩
  have HB4 : Hid (Below w.heap.size w w4) := hB3.trans (hb4.mono hB3.size)
  clear hord hown hb4 hA3 hO3 hB3 HG3 hzb
  go_upto_region 5 with fail
  go_cut [26] (fun bv wx => ∃ b : Bool, bv = .bool b ∧ (b = true → 1 < X.length) ∧ Hid (LoSt w.heap.size a len cap w1 wx (.slice (some ⟨g, 0, none⟩) L.length cp) L (.slice ao X.length ac) X) ∧ Hid (Below w.heap.size w wx))
  case first =>
    by_cases h1 : 1 < X.length
    · have h1' : (1 : Int) < (X.length : Int) := by omega
      go_wp2_with fail
      refine (Cur.once _ a len cap 2 _ hl (by omega) HS4.out.at').mono ?_
      rintro e w5 ⟨b, rfl, hA5, hG5⟩
      have HS5 : Hid (LoSt w.heap.size a len cap w1 w5 (.slice (some ⟨g, 0, none⟩) L.length cp) L (.slice ao X.length ac) X) := HS4.out.grown hlt1 hA5 hG5
      have HB5 : Hid (Below w.heap.size w w5) := Draw.below_of_grown HB4.out (Nat.le_refl _) hG5
      clear hA5 hG5 HS4 HB4
      go_wp2_with fail
      go_meet
      exact ⟨b, rfl, fun _ => h1, HS5, HB5⟩
    · have h1' : ¬ (1 : Int) < (X.length : Int) := by omega
      go_wp2_with fail
      go_meet
      exact ⟨false, rfl, fun h => Bool.noConfusion h, HS4, HB4⟩
  case rest =>
    clear HS4 HB4
    obtain ⟨b, rfl, hb1, HS5, HB5⟩ := hcut
    go_upto_if 26 with fail
    go_cut [6] (fun o wx => ∃ X : List Int, Hid (LoSt w.heap.size a len cap w1 wx (.slice (some ⟨g, 0, none⟩) L.length cp) L o X) ∧ Hid (Below w.heap.size w wx))
    case first =>
      cases b
      · go_wp2_with fail
        go_meet
        exact ⟨X, HS5, HB5⟩
      · have h1 := hb1 rfl
        obtain ⟨og, rfl⟩ : ∃ og, ao = some ⟨og, 0, none⟩ := by
          rcases Lst.own_rd HS5.out.ow with e | ⟨b, e, _⟩
          · rw [e] at h1; simp at h1
          · exact ⟨b, e⟩
        go_wp2_with fail
        refine (Cur.below _ a len cap (X.length : Int) _ hl (by omega) HS5.out.at').mono ?_
        rintro e w6 ⟨x, rfl, hx0, hx1, hA6, hG6⟩
        have hx2 := hx1 (by omega)
        have HS6 : Hid (LoSt w.heap.size a len cap w1 w6 (.slice (some ⟨g, 0, none⟩) L.length cp) L (.slice (some ⟨og, 0, none⟩) X.length ac) X) := HS5.out.grown hlt1 hA6 hG6
        have HB6 : Hid (Below w.heap.size w w6) := Draw.below_of_grown HB5.out (Nat.le_refl _) hG6
        clear hA6 hG6 HS5 HB5 hx1
        obtain ⟨q, rfl⟩ := Int.eq_ofNat_of_zero_le hx0
        have hq : q < X.length := by omega
        have hrow : ∀ j, j < X.length → w6.cell? ⟨og, j, none⟩ = some (.int .i64 (X.getD j 0)) := by
          rcases Lst.own_rd HS6.out.ow with e | ⟨b, e, h⟩
          · rw [e] at h1; simp at h1
          · injection e with e; injection e with e; subst e; exact h
        have c0 := hrow 0 (by omega)
        have cq := hrow q hq
        have f0 := Tl.own_frozen HS6.out.ow 0
        have fq := Tl.own_frozen HS6.out.ow q
        have cq2 : (w6.setCell ⟨og, 0, none⟩ (.int .i64 (X.getD q 0))).cell? ⟨og, q, none⟩ = some (.int .i64 (X.getD q 0)) := by
          by_cases h : q = 0
          · rw [h]; exact World.cell?_setCell_same' _ _ _ (by rw [c0]; rfl)
          · exact (World.cell?_setCell_other w6 ⟨og, 0, none⟩ ⟨og, q, none⟩ _ (fun e => h (by injection e with _ e2 _; omega))).trans cq
        have hy := HS6.out.zb (X.getD q 0) (Tl.getD_mem X q hq)
        have hy0 := HS6.out.zb (X.getD 0 0) (Tl.getD_mem X 0 (by omega))
        have HS7 : Hid (LoSt w.heap.size a len cap w1 (w6.setCell ⟨og, 0, none⟩ (.int .i64 (X.getD q 0))) (.slice (some ⟨g, 0, none⟩) L.length cp) L (.slice (some ⟨og, 0, none⟩) (X.set 0 (X.getD q 0)).length ac) (X.set 0 (X.getD q 0))) := HS6.out.put HCB.out 0 _ hy
        have HS8 : Hid (LoSt w.heap.size a len cap w1 ((w6.setCell ⟨og, 0, none⟩ (.int .i64 (X.getD q 0))).setCell ⟨og, q, none⟩ (.int .i64 (X.getD 0 0))) (.slice (some ⟨g, 0, none⟩) L.length cp) L (.slice (some ⟨og, 0, none⟩) ((X.set 0 (X.getD q 0)).set q (X.getD 0 0)).length ac) ((X.set 0 (X.getD q 0)).set q (X.getD 0 0))) := HS7.out.put HCB.out q _ hy0
        have HB8 : Hid (Below w.heap.size w ((w6.setCell ⟨og, 0, none⟩ (.int .i64 (X.getD q 0))).setCell ⟨og, q, none⟩ (.int .i64 (X.getD 0 0)))) := by
          have hgB := (World.ownsRow.lt HS6.out.ow og rfl).1
          exact (HB6.out.setCell (p := ⟨og, 0, none⟩) (show w.heap.size ≤ og by omega) _).setCell (p := ⟨og, q, none⟩) (show w.heap.size ≤ og by omega) _
        have hqi : (q : Int) < (X.length : Int) := by omega
        have h0i : (0 : Int) < (X.length : Int) := by omega
        have hll : ((X.set 0 (X.getD q 0)).set q (X.getD 0 0)).length = X.length := by simp
        rw [hll] at HS8
        clear HS6 HS7 HB6 hrow hy hy0 hll
        generalize (X.set 0 (X.getD q 0)).set q (X.getD 0 0) = X2 at HS8
        generalize X.getD q 0 = yq at cq cq2 HS8 HB8
        generalize X.getD 0 0 = y0 at c0 HS8 HB8
        go_wp2_with fail
        go_meet
        exact ⟨X2, HS8, HB8⟩
    case rest =>
      clear HS5 HB5 hb1
      obtain ⟨X2, HS6, HB6⟩ := hcut
      have hx61 := HS6.out.x61
      go_wp2_with fail
      refine (Cur.once _ a len cap 10 _ hl (by omega) HS6.out.at').mono ?_
      rintro e w7 ⟨b7, rfl, hA7, hG7⟩
      have HS7 : Hid (LoSt w.heap.size a len cap w1 w7 (.slice (some ⟨g, 0, none⟩) L.length cp) L u6 X2) := HS6.out.grown hlt1 hA7 hG7
      have HB7 : Hid (Below w.heap.size w w7) := Draw.below_of_grown HB6.out (Nat.le_refl _) hG7
      clear hA7 hG7 HS6 HB6
      cases b7
      · have HT : Hid (TwoPost w (.returned (.tuple #[.slice (some ⟨g, 0, none⟩) L.length cp, u6])) w7) := two_post (c := w.heap.size) (a := a) (len := len) (cap := cap) hs1 HB7.out h61 HWD.out HS7.out.lo HS7.out.ow HS7.out.zb (by omega)
        clear HS7 HB7
        go_wp2
        refine bodyPost_ret (v := .tuple #[.slice (some ⟨g, 0, none⟩) L.length cp, u6]) (by simp [results, Tryz.f8, go_sem]) rfl ?_
        exact HT.out
      · go_wp2_with fail
        refine (l3DrawAt _ a len cap L.length _ hl h61 HS7.out.at').mono ?_
        rintro e w8 ⟨y, rfl, hy, hA8, hG8⟩
        have HS8 : Hid (LoSt w.heap.size a len cap w1 w8 (.slice (some ⟨g, 0, none⟩) L.length cp) L u6 X2) := HS7.out.grown hlt1 hA8 hG8
        have HB8 : Hid (Below w.heap.size w w8) := Draw.below_of_grown HB7.out (Nat.le_refl _) hG8
        clear hA8 hG8 HS7 HB7
        have own8 := HS8.out.ow
        have hW8 := HS8.out.gr.size
        go_wp2_with (at_builtin; refine wpList_append_own _ rfl _ _ 27 rfl w1.heap.size 2 i0 (.int .i64 0) 1 8 Tryz.underlying27 hi hz0 hz1 hz2 rfl (by decide) u6 X2.length (X2.map (Value.int .i64)) (by first | rfl | simp [Act.eval]) (own8.alloc _) ⟨w8.heap.size, 0, none⟩ 1 1 [.int .i64 y] (by first | rfl | simp [Act.eval]) rfl (Sg.one_new w8 y _) (Sg.one_one y) ?c3 ?c4 ?c5 ?_)
        case c3 => unfold maxLen; omega
        case c4 => omega
        case c5 => simp; omega
        intro v' w9 hown' hgrow hnil
        have HA := HS8.out.app HCB.out hown' hgrow
        have HB9 : Hid (Below w.heap.size w w9) := by
          have hlt := World.ownsRow.lt HS8.out.ow
          have hf1 : Fr (fun y => u6.ownBlock = some y) w8 w9 := (Fr.alloc _ w8 _).trans (Fr.of_own hgrow) (fun _ hx _ => hx)
          exact HB8.out.trans (hf1.toBelow HB8.out.size (fun q hq => by have := (hlt q hq).1; omega))
        have HT : Hid (TwoPost w (.returned (.tuple #[.slice (some ⟨g, 0, none⟩) L.length cp, v'])) w9) := two_post (c := w.heap.size) (a := a) (len := len) (cap := cap) hs1 HB9.out h61 HWD.out HA.2.2.1 HA.2.2.2 (fun z hz => by
          rcases List.mem_append.1 hz with h | h
          · exact HS8.out.zb z h
          · rw [List.mem_singleton.1 h]; exact hy) (by simp; omega)
        clear hown' hgrow hnil own8 HS8 HB8 HA HB9
        go_wp2
        refine bodyPost_ret (v := .tuple #[.slice (some ⟨g, 0, none⟩) L.length cp, v']) (by simp [results, Tryz.f8, go_sem]) rfl ?_
        exact HT.out

end Rm
end Go.Proofs.YtmnkankjblnjaaaGreat
