/-
  What the model's FreshOf, Ordered, TaleOf and OutOf answer; for coins of at most a million numbers and lists of knots whose words have at most 2^40 bytes.
  What the model's FirmOnes answers: those of a closed set that are firm; for coins of at most a million numbers and lists of knots whose words have at most 2^40 bytes.
  What the model's Earlier, ChainOf and OnChain answer: from leader to leader; for coins of at most a million numbers and lists of knots whose words have at most 2^40 bytes.
  What the model's order answers: by rounds, then by hands, then by numbers; for laces.
-/
import Derived.Test.YtfjmeepeogmfiaaZTa
import Derived.Test.YtfjmeepeogmfiaaFam
import Derived.Maps.AppendAt
import Derived.Test.YtfjmeepeogmfiaaSightV
import Derived.Laws.AppendOwnNone
namespace Go.Proofs.Ytfjmeepeogmfiaa
open Go.RowKit
set_option maxRecDepth 100000
namespace Fm
open Kn (K okK)
open Bit (bit withB)
open Lc (at' RdK WordsOk laceB setB handsN roundS)
open Sg (isB bel belows closedB NumsPost)
open Db (RowI)
open Sl (sealS sealN)
open Ch (leadK firmN sealAt)
open Rm (coinsB)
open Tl (firmL)

theorem row_below {base : Nat} {e : TypeId} {size : Nat} {w w' : World} {v : Value} {n : Nat} {xs : List Value} (h : w.ownsRow base e size v n xs) (hb : Below w.heap.size w w') : w'.ownsRow base e size v n xs := by
  have hlt := World.ownsRow.lt h
  obtain ⟨h1, h2⟩ := h
  refine ⟨h1, ?_⟩
  rcases h2 with h2 | ⟨g, cap, cur, rfl, hB, hg, rest⟩
  · exact .inl h2
  · exact .inr ⟨g, cap, cur, rfl, hB, (hb.block g (hlt g rfl).2).trans hg, rest⟩

/-- what the document's FirmOnes answers -/
def firmI (L : List K) (C : List Int) (s : Int) : List Int := if closedB L s && coinsB C then firmL L C s L.length else []

theorem firmL_len (L : List K) (C : List Int) (s : Int) (n : Nat) : (firmL L C s n).length ≤ n := by
  induction n with
  | zero => exact Nat.le_refl 0
  | succ n ih =>
    show (if firmN L C s n then firmL L C s n ++ [(n : Int)] else firmL L C s n).length ≤ n + 1
    split
    · simp; omega
    · omega
theorem firmL_step (L : List K) (C : List Int) (s : Int) (n : Nat) : firmL L C s (n + 1) = if firmN L C s n then firmL L C s n ++ [(n : Int)] else firmL L C s n := rfl

/-- a set that is closed, and coins -/
def rightB (L : List K) (C : List Int) (s : Int) : Bool := closedB L s && coinsB C

theorem closed_set {L : List K} {s : Int} (h : closedB L s = true) : laceB L = true ∧ 0 ≤ s ∧ s < 1152921504606846976 := by
  unfold Sg.closedB at h
  rw [Bool.and_eq_true] at h
  obtain ⟨hl, q0, q1, _⟩ := Lc.setB_parts h.1
  exact ⟨hl, q0, q1⟩

/-- the document's Firm -/
def firmB (L : List K) (C : List Int) (s k : Int) : Bool := (firmI L C s).contains k
theorem has_step (l : List Int) (k : Int) (j : Nat) (hj : j < l.length) : (l.take (j + 1)).contains k = ((l.take j).contains k || (l.getD j 0 == k)) := by
  rw [Lc.take_snocI l j hj]
  generalize l.getD j 0 = y
  generalize l.take j = t
  rw [Bool.eq_iff_iff]
  simp only [List.contains_iff_mem, List.mem_append, List.mem_singleton, Bool.or_eq_true, beq_iff_eq]
  exact or_congr Iff.rfl eq_comm

theorem firmI_len (L : List K) (C : List Int) (s : Int) : (firmI L C s).length ≤ L.length := by
  unfold firmI; split
  · exact firmL_len L C s _
  · simp

theorem last_mem (L : List K) (l : List Int) : Tl.lastT L l = -1 ∨ Tl.lastT L l ∈ l := by
  suffices H : ∀ n, n ≤ l.length → Tl.lastT L (l.take n) = -1 ∨ Tl.lastT L (l.take n) ∈ l.take n by
    have := H l.length (Nat.le_refl _)
    rwa [List.take_length] at this
  intro n
  induction n with
  | zero => intro _; exact .inl rfl
  | succ n ih =>
    intro hn
    rw [Lc.take_snocI l n (by omega), Tl.lastT_snoc]
    split
    · exact .inr (by simp)
    · rcases ih (by omega) with e | e
      · rename_i hc
        exact absurd (.inl (by rw [e]; omega)) hc
      · exact .inr (by simp only [List.mem_append]; exact .inl e)

theorem firmI_in {L : List K} {C : List Int} {s : Int} : ∀ x ∈ firmI L C s, 0 ≤ x ∧ x < (L.length : Int) := by
  intro x hx
  unfold firmI at hx
  split at hx
  · obtain ⟨k, rfl, hk, _⟩ := (Tl.mem_firm L C s L.length x).1 hx
    omega
  · exact absurd hx (by simp)
/-- the document's LastFirm -/
def lastI (L : List K) (C : List Int) (s : Int) : Int := Tl.lastT L (firmI L C s)

end Fm
end Go.Proofs.Ytfjmeepeogmfiaa

namespace Go.Proofs.Ytfjmeepeogmfiaa
open Go.RowKit
set_option maxRecDepth 100000
namespace Ch
open Kn (K okK)
open Bit (bit withB)
open Lc (at' RdK WordsOk laceB)
open Sg (isB bel belows NumsPost)
open Db (RowI)
open Sl (sealS sealN)
open Rm (coinsB)

/-- the two tables of a lace: what is below, and who seals -/
structure TabsL (w : World) (L : List K) (bb h : Nat) : Prop where
  bel : ∀ i, i < L.length → w.cell? ⟨bb, i, none⟩ = some (.int .i64 (Sg.bel L i))
  sl : ∀ i, i < L.length → w.cell? ⟨h, i, none⟩ = some (.int .i64 (sealS L i L.length))
  lb : bb < w.heap.size
  lh : h < w.heap.size
theorem TabsL.below {w w' : World} {L : List K} {bb h : Nat} (t : TabsL w L bb h) (hb : Below w.heap.size w w') : TabsL w' L bb h :=
  ⟨fun i hi => (hb.cell (p := ⟨bb, i, none⟩) t.lb).trans (t.bel i hi), fun i hi => (hb.cell (p := ⟨h, i, none⟩) t.lh).trans (t.sl i hi), Nat.lt_of_lt_of_le t.lb hb.size, Nat.lt_of_lt_of_le t.lh hb.size⟩

theorem earI_step (L : List K) (C : List Int) (k n : Nat) : earI L C k (n + 1) = if earN L C k n && (decide (earI L C k n < 0) || decide ((at' L (earI L C k n).toNat).round < (at' L n).round)) then (n : Int) else earI L C k n := rfl
theorem earI_bd (L : List K) (C : List Int) (k n : Nat) : earI L C k n = -1 ∨ ∃ e : Nat, earI L C k n = (e : Int) ∧ e < n := by
  rcases ear_spec L C k n with ⟨h, _⟩ | ⟨e, h, he, _⟩
  · exact .inl h
  · exact .inr ⟨e, h, he⟩

/-- the chain so far, in memory of the call's own -/
structure ChSt (w wr : World) (v : Value) (l : List Int) : Prop where
  shape : ∃ gg cp, v = .slice (some ⟨gg, 0, none⟩) l.length cp ∧ Memb.Own w.heap.size wr (some ⟨gg, 0, none⟩) cp l
  bel : Below w.heap.size w wr
theorem chSt_start (w : World) : ChSt w (w.alloc (.cells #[] 2)) (.slice (some ⟨w.heap.size, 0, none⟩) 0 0) [] := ⟨⟨_, _, rfl, Memb.own_empty w⟩, (Below.refl _ _).alloc (Nat.le_refl _) _⟩
theorem chSt_put {w wr w3 : World} {v' : Value} {l : List Int} {x : Int} {o : Obj} (hB : Below w.heap.size w wr) (ho : w3.ownsRow w.heap.size 2 1 v' (1 + l.length) ([.int .i64 x] ++ l.map (Value.int .i64))) (hg : (wr.alloc o).grownBy w3 (some wr.heap.size)) (hn : ¬ v' = .slice none 0 0) : ChSt w w3 v' (x :: l) := by
  refine ⟨?_, (hB.alloc hB.size o).grown hg (by simp; have := hB.size; omega) (fun j hj => by cases hj; exact hB.size)⟩
  have ho' : w3.ownsRow w.heap.size 2 1 v' (x :: l).length ((x :: l).map (Value.int .i64)) := by
    rw [show (x :: l).length = 1 + l.length by simp; omega]; exact ho
  obtain ⟨ao, cap, hv, hown⟩ := Memb.own_shape ho'
  rcases ao with _ | a
  · obtain ⟨_, ⟨hx, _⟩ | ⟨gg, cp, cur, hx, _⟩⟩ := ho'
    · exact absurd hx hn
    · rw [hv] at hx; injection hx with hx _; exact absurd hx (by simp)
  · obtain ⟨_, ⟨hx, _⟩ | ⟨gg, cp, cur, hx, _⟩⟩ := ho'
    · exact absurd hx hn
    · rw [hv] at hx
      injection hx with hx _ hc
      injection hx with hx
      subst hx hc
      exact ⟨gg, cap, hv, hown⟩

/-- a knot, and coins -/
def onB (L : List K) (C : List Int) (k : Int) : Bool := isB L k && coinsB C
/-- the document's Earlier -/
def earlierI (L : List K) (C : List Int) (k : Int) : Int := if onB L C k then earlierN L C k.toNat else -1
/-- the document's ChainOf -/
def chainI (L : List K) (C : List Int) (k : Int) : List Int := if onB L C k then chainL L C k else []

theorem own_base {B B' : Nat} {w : World} {ao : Option Addr} {cap : Nat} {l : List Int} (h : Memb.Own B w ao cap l) (hb : B' ≤ B) : Memb.Own B' w ao cap l := by
  obtain ⟨a1, a2⟩ := h
  refine ⟨a1, ?_⟩
  rcases a2 with a2 | ⟨g2, c2, cur, e1, e2, rest⟩
  · exact .inl a2
  · exact .inr ⟨g2, c2, cur, e1, Nat.le_trans hb e2, rest⟩
/-- an empty list of the call's own -/
theorem nums_nil {w w1 : World} (hb1 : Below w.heap.size w w1) : Memb.Own w.heap.size (w1.alloc (.cells #[] 2)) (some ⟨w1.heap.size, 0, none⟩) 0 [] ∧ Below w.heap.size w (w1.alloc (.cells #[] 2)) := ⟨own_base (Memb.own_empty w1) hb1.size, hb1.alloc hb1.size _⟩

/-- the document's OnChain -/
def onChainB (L : List K) (C : List Int) (k x : Int) : Bool := (chainI L C k).contains x
theorem chainI_len {L : List K} {C : List Int} {k : Int} : (chainI L C k).length ≤ 61 := by
  unfold chainI
  split
  · rename_i h
    unfold onB at h
    rw [Bool.and_eq_true] at h
    obtain ⟨k0, k1, hlc⟩ := Sg.isB_parts h.1
    have h60 := ((Lc.lace_iff L).1 hlc).1
    have := chain_len L C k
    omega
  · simp

end Ch
end Go.Proofs.Ytfjmeepeogmfiaa

namespace Go.Proofs.Ytfjmeepeogmfiaa
open Go.RowKit
set_option maxRecDepth 100000
namespace Tl
open Kn (K okK)
open Bit (bit withB memTo)
open Lc (at' RdK WordsOk laceB setB)
open Sg (isB bel belows NumsPost)

/-- those that stand behind are passed over -/
theorem insR_pass (L : List K) (x : Int) : ∀ (a b : List Int), (∀ y ∈ a, gtB L y x = true) → insR L x (a ++ b) = a ++ insR L x b := by
  intro a
  induction a with
  | nil => intro b _; rfl
  | cons y a ih =>
    intro b h
    show insR L x (y :: (a ++ b)) = y :: (a ++ insR L x b)
    conv => lhs; unfold insR
    rw [h y (by simp), if_pos rfl, ih b (fun z hz => h z (by simp [hz]))]
theorem insB_at (L : List K) (out : List Int) (x : Int) (k : Nat) (hk : k ≤ out.length) (h1 : ∀ j, k ≤ j → j < out.length → gtB L (out.getD j 0) x = true) (h2 : k = 0 ∨ gtB L (out.getD (k - 1) 0) x = false) : insB L out x = out.take k ++ ([x] ++ out.drop k) := by
  unfold insB
  have e : out.reverse = (out.drop k).reverse ++ (out.take k).reverse := by rw [← List.reverse_append, List.take_append_drop]
  rw [e, insR_pass]
  · have : insR L x (out.take k).reverse = x :: (out.take k).reverse := by
      rcases h2 with h2 | h2
      · subst h2; simp [insR]
      · by_cases hk0 : k = 0
        · subst hk0; simp [insR]
        · have hk1 : k - 1 < out.length := by omega
          have e2 : out.take k = out.take (k - 1) ++ [out.getD (k - 1) 0] := by
            have := Lc.take_snocI out (k - 1) hk1
            rwa [show k - 1 + 1 = k by omega] at this
          rw [e2, List.reverse_append]
          show insR L x (out.getD (k - 1) 0 :: (out.take (k - 1)).reverse) = _
          unfold insR
          rw [h2, if_neg (by simp)]
          rfl
    rw [this, List.reverse_append, List.reverse_reverse, List.reverse_cons, List.reverse_reverse, List.append_assoc]
  · intro y hy
    rw [List.mem_reverse] at hy
    obtain ⟨j, hj, rfl⟩ := List.mem_iff_getElem.1 hy
    have hj' : k + j < out.length := by simp at hj; omega
    have := h1 (k + j) (by omega) hj'
    rw [List.getElem_drop]
    simpa [List.getD, List.getElem?_eq_getElem hj'] using this
theorem ord_step (L : List K) (m : List Int) (i : Nat) (hi : i < m.length) : ordL L (m.take (i + 1)) = insB L (ordL L (m.take i)) (m.getD i 0) := by
  rw [Lc.take_snocI m i hi]
  unfold ordL
  rw [List.foldl_append]; rfl
theorem ord_len (L : List K) (m : List Int) : (ordL L m).length = m.length := (ord_perm L m).length_eq

/-- a number is stored into a row of the call's own -/
theorem own_put {B : Nat} {w : World} {g n cap : Nat} {a : List Int} (h : w.ownsRow B 2 1 (.slice (some ⟨g, 0, none⟩) n cap) n (a.map (Value.int .i64))) (j : Nat) (y : Int) : (w.setCell ⟨g, j, none⟩ (.int .i64 y)).ownsRow B 2 1 (.slice (some ⟨g, 0, none⟩) n cap) n ((a.set j y).map (Value.int .i64)) := by
  obtain ⟨h1, h2⟩ := h
  refine ⟨by simpa using h1, ?_⟩
  rcases h2 with ⟨h2, _⟩ | ⟨g2, c2, cur, e1, hB, hg, hn, hm, hs, ht⟩
  · injection h2 with h2 _; exact absurd h2 (by simp)
  · injection e1 with e1 _ e3
    injection e1 with e1
    injection e1 with e1
    subst e1 e3
    refine .inr ⟨g, cap, cur.setIfInBounds j (.int .i64 y), rfl, hB, heap_setCell_same w g j cur _ _ hg, hn, hm, by simpa using hs, ?_⟩
    rw [Array.toList_setIfInBounds, List.take_set, ht, List.map_set]
theorem own_frozen {B : Nat} {w : World} {g n cap : Nat} {xs : List Value} {t : TypeId} (h : w.ownsRow B t 1 (.slice (some ⟨g, 0, none⟩) n cap) n xs) (j : Nat) : w.frozen? ⟨g, j, none⟩ = false := by
  obtain ⟨_, ⟨h2, _⟩ | ⟨g2, c2, cur, e1, hB, hg, _⟩⟩ := h
  · injection h2 with h2 _; exact absurd h2 (by simp)
  · injection e1 with e1 _ _
    injection e1 with e1
    injection e1 with e1
    subst e1
    simp [World.frozen?, hg]

theorem shift_set (out : List Int) (k : Nat) (y : Int) (hk : k + 1 ≤ out.length) : (out.take (k + 1) ++ ([y] ++ out.drop (k + 1))).set (k + 1) (out.getD k 0) = out.take k ++ ([out.getD k 0] ++ out.drop k) := by
  have e1 : out.take (k + 1) = out.take k ++ [out.getD k 0] := Lc.take_snocI out k (by omega)
  have e2 : out.drop k = out.getD k 0 :: out.drop (k + 1) := by
    rw [List.drop_eq_getElem_cons (by omega : k < out.length)]
    simp [List.getD, List.getElem?_eq_getElem (by omega : k < out.length)]
  rw [e2, e1]
  have hl : (out.take k ++ [out.getD k 0]).length = k + 1 := by simp; omega
  rw [List.set_append_right _ _ (by rw [hl]; omega), hl]
  simp
theorem last_set (out : List Int) (k : Nat) (x y : Int) (hk : k ≤ out.length) : (out.take k ++ ([y] ++ out.drop k)).set k x = out.take k ++ ([x] ++ out.drop k) := by
  have hl : (out.take k).length = k := by simp; omega
  rw [List.set_append_right _ _ (by rw [hl]; omega), hl]
  simp

theorem shift_get (out : List Int) (k j : Nat) (rest : List Int) (hj : j < k) (hk : k ≤ out.length) : (out.take k ++ rest).getD j 0 = out.getD j 0 := by
  have h1 : j < (out.take k).length := by simp <;> omega
  simp [List.getD, List.getElem?_append_left h1, hj]

/-- the order so far, and the members that are put into it -/
structure OrSt (w wr : World) (mb : Nat) (m : List Int) (og cp : Nat) (o : List Int) : Prop where
  own : wr.ownsRow w.heap.size 2 1 (.slice (some ⟨og, 0, none⟩) o.length cp) o.length (o.map (Value.int .i64))
  bel : Below w.heap.size w wr
  mc : ∀ j, j < m.length → wr.cell? ⟨mb, j, none⟩ = some (.int .i64 (m.getD j 0))
  ne : 0 < m.length → og ≠ mb
  ml : 0 < m.length → mb < wr.heap.size
theorem OrSt.cell {w wr : World} {mb : Nat} {m : List Int} {og cp : Nat} {o : List Int} (s : OrSt w wr mb m og cp o) {j : Nat} (hj : j < o.length) : wr.cell? ⟨og, j, none⟩ = some (.int .i64 (o.getD j 0)) := by
  have : Memb.Own w.heap.size wr (some ⟨og, 0, none⟩) cp o := s.own
  rcases Lst.own_rd this with e | ⟨g, e, hc⟩
  · rw [e] at hj; simp at hj
  · injection e with e; injection e with e; subst e; exact hc j hj
theorem OrSt.lt {w wr : World} {mb : Nat} {m : List Int} {og cp : Nat} {o : List Int} (s : OrSt w wr mb m og cp o) : w.heap.size ≤ og ∧ og < wr.heap.size := World.ownsRow.lt s.own og rfl
theorem OrSt.put {w wr : World} {mb : Nat} {m : List Int} {og cp : Nat} {o : List Int} (s : OrSt w wr mb m og cp o) (j : Nat) (y : Int) : OrSt w (wr.setCell ⟨og, j, none⟩ (.int .i64 y)) mb m og cp (o.set j y) where
  own := by have := own_put s.own j y; simpa using this
  bel := s.bel.setCell (p := ⟨og, j, none⟩) s.lt.1 _
  mc := fun i hi => (World.cell?_of_block (w := wr) (Below.heap_setCell wr ⟨og, j, none⟩ _ mb (fun e => s.ne (by omega) e.symm))).trans (s.mc i hi)
  ne := s.ne
  ml := fun h => by simpa using s.ml h
theorem OrSt.drewN {w wr : World} {mb : Nat} {m : List Int} {og cp : Nat} {o : List Int} (s : OrSt w wr mb m og cp o) (n : Nat) : OrSt w (wr.drewN n) mb m og cp o := ⟨s.own, Db.below_drewN s.bel n, s.mc, s.ne, s.ml⟩
theorem OrSt.app {w wr w1 : World} {mb : Nat} {m : List Int} {og cp : Nat} {o : List Int} {x : Int} {v' : Value} {ob : Obj} (s : OrSt w wr mb m og cp o) (ho : w1.ownsRow w.heap.size 2 1 v' (o.length + 1) (o.map (Value.int .i64) ++ [.int .i64 x])) (hg : (wr.alloc ob).grownBy w1 (some og)) (hn : ¬ v' = .slice none 0 0) (ha : v'.ownBlock = some og ∨ v'.ownBlock = some (wr.alloc ob).heap.size) : ∃ g2 c2, v' = .slice (some ⟨g2, 0, none⟩) (o.length + 1) c2 ∧ OrSt w w1 mb m g2 c2 (o ++ [x]) := by
  have ho' := ho
  obtain ⟨_, ⟨hx, _⟩ | ⟨g2, c2, cur, hx, _⟩⟩ := ho'
  · exact absurd hx hn
  · subst hx
    have hb : Below w.heap.size w w1 := (s.bel.alloc s.bel.size ob).grown hg (by simp; have := s.bel.size; omega) (fun k hk => by cases hk; exact s.lt.1)
    refine ⟨g2, c2, rfl, by simpa using ho, hb, fun j hj => ?_, fun hm => ?_, fun hm => ?_⟩
    · have h1 : (wr.alloc ob).cell? ⟨mb, j, none⟩ = some (.int .i64 (m.getD j 0)) := by rw [World.cell?_alloc_lt _ _ _ (s.ml (by omega))]; exact s.mc j hj
      exact World.grownBy.cell hg h1 (by intro e; injection e with e; exact s.ne (by omega) e.symm)
    · have hml := s.ml hm
      have hne := s.ne hm
      simp [Value.ownBlock] at ha
      rcases ha with e | e
      · subst e; exact hne
      · omega
    · have h1 := hg.size
      have h2 := s.ml hm
      simp at h1; omega

set_option maxHeartbeats 6400000 in
theorem l11Order (g off cap : Nat) (L : List K) (s : Int) (w : World) (hl : laceB L = true) (hr : RdK w (some ⟨g, off, none⟩) L) (h0 : 0 ≤ s) (h1 : s < 1152921504606846976) (hin : ∀ i, bit s i = true → i < L.length) :
    Calls Try.prog 22 #[.slice (some ⟨g, off, none⟩) L.length cap, .int .i64 s] w (NumsPost (ordL L (memTo s 60)) w) := by
  obtain ⟨i0, hi, hz0, hz1, hz2⟩ := info_parts Memb.info2
  have hL := ((Lc.lace_iff L).1 hl).1
  have HMEM : Hid (∀ x ∈ memTo s 60, ∃ p : Nat, x = (p : Int) ∧ p < L.length) := fun x hx => by
    obtain ⟨j, _, rfl, hb⟩ := (Bit.mem_memTo _ _ _).1 hx
    exact ⟨j, rfl, hin j hb⟩
  have HKN : Hid (∀ (W : World) (p : Nat), Below w.heap.size w W → p < L.length → W.cell? ⟨g, off + p * 4, none⟩ = some (.int .i64 (at' L p).hand) ∧ W.cell? ⟨g, off + p * 4 + 1, none⟩ = some (.int .i64 (at' L p).round)) := fun W p hW hp => by
    obtain ⟨_, q0, q1, _, _⟩ := (hr.below hW).on p hp
    exact ⟨q0, q1⟩
  have hml : (memTo s 60).length ≤ 60 := Bit.memTo_le s 60
  clear hl hr hin
  have HB0 : Hid (Below w.heap.size w (w.alloc (.cells #[] 2))) := (Below.refl _ _).alloc (Nat.le_refl _) _
  have HE0 : Hid ((w.alloc (.cells #[] 2)).ownsRow w.heap.size 2 1 (.slice (some ⟨w.heap.size, 0, none⟩) 0 0) 0 []) := Memb.own_empty w
  have hsz0 : w.heap.size < (w.alloc (.cells #[] 2)).heap.size := by simp
  go_enter Try.func22, Try.ntmps22
  go_wp2_with fail
  generalize w.alloc (.cells #[] 2) = w0 at HB0 HE0 hsz0 ⊢
  refine (Memb.l1Members' s _ h0 h1).mono ?_
  rintro e w1 ⟨mo, mc, rfl, hown, hb1⟩
  obtain ⟨mb, HMO, HS1⟩ : ∃ mb, Hid (0 < (memTo s 60).length → mo = some ⟨mb, 0, none⟩) ∧ Hid (OrSt w w1 mb (memTo s 60) w.heap.size 0 []) := by
    have hE1 : w1.ownsRow w.heap.size 2 1 (.slice (some ⟨w.heap.size, 0, none⟩) 0 0) 0 [] := Fm.row_below HE0.out hb1
    have hB1 : Below w.heap.size w w1 := HB0.out.trans (hb1.mono HB0.out.size)
    rcases Lst.own_rd hown with e | ⟨mb, e, hc⟩
    · have hz : (memTo s 60).length = 0 := by rw [e]; rfl
      exact ⟨0, fun hh => by omega, ⟨hE1, hB1, fun j hj => by omega, fun hh => by omega, fun hh => by omega⟩⟩
    · subst e
      have := World.ownsRow.lt hown mb rfl
      exact ⟨mb, fun _ => rfl, ⟨hE1, hB1, hc, fun _ => by omega, fun _ => this.2⟩⟩
  clear hb1 hown HB0 HE0 hsz0
  generalize hmm : memTo s 60 = m at HMEM hml HMO HS1 ⊢
  have HMM : Hid (memTo s 60 = m) := hmm
  clear hmm
  go_wp2
  go_loopw [5, 7] (fun v iv wr => ∃ (i : Nat) (og ocp : Nat), i ≤ m.length ∧ iv = .int .i64 (i : Int) ∧ v = .slice (some ⟨og, 0, none⟩) (ordL L (m.take i)).length ocp ∧ Hid (OrSt w wr mb m og ocp (ordL L (m.take i)))) (fun _ iv _ => m.length - (intOf iv).toNat)
  case atStart => exact ⟨0, w.heap.size, 0, by omega, rfl, rfl, HS1⟩
  case round =>
    obtain ⟨i, og, ocp, hil, rfl, hv, HS⟩ := hrel
    clear HS1
    by_cases hlt : i < m.length
    · subst hv
      have hii : (i : Int) < (m.length : Int) := by omega
      have hmo := HMO.out (by omega)
      have HST : Hid (ordL L (m.take (i + 1)) = insB L (ordL L (m.take i)) (m.getD i 0)) := ord_step L m i hlt
      have hol : (ordL L (m.take i)).length = i := by rw [ord_len]; simp; omega
      have HIN : Hid (∀ j, j < i → ∃ r : Nat, (ordL L (m.take i)).getD j 0 = (r : Int) ∧ r < L.length) := fun j hj => by
        have hmem : (ordL L (m.take i)).getD j 0 ∈ ordL L (m.take i) := by simp [List.getD, List.getElem?_eq_getElem (show j < (ordL L (m.take i)).length by omega)]
        exact HMEM.out _ (List.mem_of_mem_take ((mem_ord L _ _).1 hmem))
      obtain ⟨p, hxp, hp⟩ := HMEM.out (m.getD i 0) (by simp [List.getD, List.getElem?_eq_getElem hlt])
      rw [hxp] at HST
      generalize ordL L (m.take i) = o at HST hol HIN HS ⊢
      have cm := HS.out.mc i hlt
      rw [hxp] at cm
      subst hmo
      have HOL : Hid (o.length = i) := hol
      have hol1 : o.length ≤ 60 := by omega
      have HXP : Hid (m.getD i 0 = (p : Int)) := hxp
      clear hol hxp
      have HOA : Hid (∀ ob : Obj, (wr.alloc ob).ownsRow w.heap.size 2 1 (.slice (some ⟨og, 0, none⟩) o.length ocp) o.length (o.map (Value.int .i64))) := fun ob => HS.out.own.alloc ob
      have hwsz := HS.out.bel.size
      go_wp2_with (first | (at_builtin; refine wpList_append_own_at _ rfl _ _ 24 rfl w.heap.size 2 i0 (.int .i64 0) 1 8 Try.underlying24 hi hz0 hz1 hz2 rfl (by decide) (.slice (some ⟨og, 0, none⟩) o.length ocp) o.length (o.map (Value.int .i64)) (by first | rfl | simp [Act.eval]) (HOA.out _) ⟨wr.heap.size, 0, none⟩ 1 1 [.int .i64 (p : Int)] (by first | rfl | simp [Act.eval]) rfl (Sg.one_new wr (p : Int) _) (Sg.one_one (p : Int)) ?c3 ?c4 ?c5 ?_) | fail)
      case c3 => unfold maxLen; omega
      case c4 => omega
      case c5 => first | omega | (simp; omega)
      intro v' w3 hown' hgrow hnil hat
      obtain ⟨g2, c2, rfl, hS3⟩ := HS.out.app hown' hgrow (by first | exact hnil | exact fun e => by have := hnil.1 e; simp at this) (by simpa [Value.ownBlock] using hat)
      have HS3 : Hid (OrSt w w3 mb m g2 c2 (o.take o.length ++ ([(p : Int)] ++ o.drop o.length))) := by
        show OrSt _ _ _ _ _ _ _
        rw [List.take_length, List.drop_length]; exact hS3
      clear hown' hgrow hnil hat HS HOA hS3 cm
      go_wp2_with fail
      go_loopw [8] (fun kv wk => ∃ (k : Nat) (y : Int), k ≤ o.length ∧ kv = .int .i64 (k : Int) ∧ Hid (OrSt w wk mb m g2 c2 (o.take k ++ ([y] ++ o.drop k))) ∧ Hid (∀ j, k ≤ j → j < o.length → gtB L (o.getD j 0) (p : Int) = true)) (fun kv _ => (intOf kv).toNat)
      case atStart => exact ⟨o.length, (p : Int), Nat.le_refl _, rfl, HS3, fun j h1 h2 => by omega⟩
      case round =>
        obtain ⟨k, y, hk, rfl, HSk, HG⟩ := hrel
        clear HS3
        have hpi : (p : Int) < (L.length : Int) := by omega
        by_cases hk0 : k = 0
        · subst hk0
          go_wp2_with fail
          go_quiet (fail)
          have HNEW : Hid (ordL L (m.take (i + 1)) = o.take 0 ++ ([(p : Int)] ++ o.drop 0)) := HST.out.trans (insB_at L o (p : Int) 0 (by omega) HG.out (.inl rfl))
          have HP : Hid (OrSt w ((wr.drewN nq).setCell ⟨g2, 0, none⟩ (.int .i64 (p : Int))) mb m g2 c2 (ordL L (m.take (i + 1)))) := by
            show OrSt _ _ _ _ _ _ _
            rw [HNEW.out, ← last_set o 0 (p : Int) y (by omega)]
            exact (HSk.out.drewN nq).put 0 (p : Int)
          have HLN : Hid ((ordL L (m.take (i + 1))).length = o.length + 1) := by show _ = _; rw [HNEW.out]; simp <;> omega
          have cm : (wr.drewN nq).cell? ⟨mb, i, none⟩ = some (.int .i64 (p : Int)) := by have := HSk.out.mc i hlt; rw [HXP.out] at this; exact this
          have fz : (wr.drewN nq).frozen? ⟨g2, 0, none⟩ = false := own_frozen HSk.out.own 0
          have hkl : 0 < (o.take 0 ++ ([y] ++ o.drop 0)).length := by simp <;> omega
          have ck : (wr.drewN nq).cell? ⟨g2, 0, none⟩ = some (.int .i64 ((o.take 0 ++ ([y] ++ o.drop 0)).getD 0 0)) := HSk.out.cell hkl
          generalize (o.take 0 ++ ([y] ++ o.drop 0)).getD 0 0 = yk at ck
          clear hkl HNEW
          generalize wr.drewN nq = V at HP cm fz ck ⊢
          go_wp2
          go_roundw
          case rel => exact ⟨i + 1, g2, c2, by omega, by go_num, by rw [HLN.out], HP⟩
          case measure => simp [intOf]; omega
        · obtain ⟨q, rfl⟩ : ∃ q, k = q + 1 := ⟨k - 1, by omega⟩
          have hq : q < o.length := by omega
          obtain ⟨r, hor, hrl⟩ := HIN.out q (by rw [← HOL.out]; exact hq)
          have co : wr.cell? ⟨g2, q, none⟩ = some (.int .i64 (r : Int)) := by
            have := HSk.out.cell (j := q) (by simp; omega)
            rwa [shift_get o (q + 1) q _ (by omega) hk, hor] at this
          have cm0 : wr.cell? ⟨mb, i, none⟩ = some (.int .i64 (p : Int)) := by have := HSk.out.mc i hlt; rw [HXP.out] at this; exact this
          obtain ⟨ph, pr⟩ := HKN.out wr p HSk.out.bel hp
          obtain ⟨rh, rr⟩ := HKN.out wr r HSk.out.bel hrl
          have HGT : Hid (gtB L (r : Int) (p : Int) = (decide ((at' L p).round < (at' L r).round) || (decide ((at' L r).round = (at' L p).round) && decide ((at' L p).hand < (at' L r).hand)))) := rfl
          have HOR : Hid (o.getD q 0 = (r : Int)) := hor
          have hri : (r : Int) < (L.length : Int) := by omega
          have hk1 : ((q + 1 : Nat) : Int) - 1 = (q : Int) := by omega
          have hq1 : (q : Int) < (o.length : Int) + 1 := by omega
          clear hor hk0
          generalize (at' L p).hand = hp0 at ph HGT
          generalize (at' L p).round = hp1 at pr HGT
          generalize (at' L r).hand = hr0 at rh HGT
          generalize (at' L r).round = hr1 at rr HGT
          by_cases g1 : hp1 < hr1
          · have HGQ : Hid (gtB L (r : Int) (p : Int) = true) := by show _ = _; rw [HGT.out, decide_eq_true g1]; rfl
            have g1b : decide (hp1 < hr1) = true := decide_eq_true g1
            clear HGT
            have HQP : Hid (∀ nq : Nat, OrSt w ((wr.drewN nq).setCell ⟨g2, q + 1, none⟩ (.int .i64 (r : Int))) mb m g2 c2 (o.take q ++ ([(r : Int)] ++ o.drop q))) := fun nq => by
              have := (HSk.out.drewN nq).put (q + 1) (r : Int)
              rwa [← HOR.out, shift_set o q y hk, HOR.out] at this
            have HGP : Hid (∀ j, q ≤ j → j < o.length → gtB L (o.getD j 0) (p : Int) = true) := fun j j1 j2 => by
              by_cases e : j = q
              · subst e; rw [HOR.out]; exact HGQ.out
              · exact HG.out j (by omega) j2
            have fz : wr.frozen? ⟨g2, q + 1, none⟩ = false := own_frozen HSk.out.own (q + 1)
            have hkl : q + 1 < (o.take (q + 1) ++ ([y] ++ o.drop (q + 1))).length := by simp <;> omega
            have ck : wr.cell? ⟨g2, q + 1, none⟩ = some (.int .i64 ((o.take (q + 1) ++ ([y] ++ o.drop (q + 1))).getD (q + 1) 0)) := HSk.out.cell hkl
            generalize (o.take (q + 1) ++ ([y] ++ o.drop (q + 1))).getD (q + 1) 0 = yk at ck
            clear hkl
            go_wp2_with fail
            go_quiet (fail)
            go_wp2
            go_roundw
            case rel => exact ⟨q, (r : Int), by omega, by go_num, HQP.out nq, HGP⟩
            case measure => simp [intOf]
          · have g1b : decide (hp1 < hr1) = false := decide_eq_false g1
            by_cases g2' : hr1 = hp1
            · have g2b : (hr1 == hp1) = true := by simpa using g2'
              by_cases g3 : hp0 < hr0
              · have HGQ : Hid (gtB L (r : Int) (p : Int) = true) := by show _ = _; rw [HGT.out, decide_eq_true g2', decide_eq_true g3]; simp
                have g3b : decide (hp0 < hr0) = true := decide_eq_true g3
                clear HGT g1 g2' g3
                have HQP : Hid (∀ nq : Nat, OrSt w ((wr.drewN nq).setCell ⟨g2, q + 1, none⟩ (.int .i64 (r : Int))) mb m g2 c2 (o.take q ++ ([(r : Int)] ++ o.drop q))) := fun nq => by
                  have := (HSk.out.drewN nq).put (q + 1) (r : Int)
                  rwa [← HOR.out, shift_set o q y hk, HOR.out] at this
                have HGP : Hid (∀ j, q ≤ j → j < o.length → gtB L (o.getD j 0) (p : Int) = true) := fun j j1 j2 => by
                  by_cases e : j = q
                  · subst e; rw [HOR.out]; exact HGQ.out
                  · exact HG.out j (by omega) j2
                have fz : wr.frozen? ⟨g2, q + 1, none⟩ = false := own_frozen HSk.out.own (q + 1)
                have hkl : q + 1 < (o.take (q + 1) ++ ([y] ++ o.drop (q + 1))).length := by simp <;> omega
                have ck : wr.cell? ⟨g2, q + 1, none⟩ = some (.int .i64 ((o.take (q + 1) ++ ([y] ++ o.drop (q + 1))).getD (q + 1) 0)) := HSk.out.cell hkl
                generalize (o.take (q + 1) ++ ([y] ++ o.drop (q + 1))).getD (q + 1) 0 = yk at ck
                clear hkl
                go_wp2_with fail
                go_quiet (fail)
                go_wp2
                go_roundw
                case rel => exact ⟨q, (r : Int), by omega, by go_num, HQP.out nq, HGP⟩
                case measure => simp [intOf]
              · have HGQ : Hid (gtB L (r : Int) (p : Int) = false) := by show _ = _; rw [HGT.out, decide_eq_false g1, decide_eq_false g3]; simp
                have g3b : decide (hp0 < hr0) = false := decide_eq_false g3
                clear HGT g1 g2' g3
                go_wp2_with fail
                go_quiet (fail)
                have HNEW : Hid (ordL L (m.take (i + 1)) = o.take (q + 1) ++ ([(p : Int)] ++ o.drop (q + 1))) := HST.out.trans (insB_at L o (p : Int) (q + 1) (by omega) HG.out (.inr (by show gtB L (o.getD q 0) (p : Int) = false; rw [HOR.out]; exact HGQ.out)))
                have HP : Hid (OrSt w ((wr.drewN nq).setCell ⟨g2, q + 1, none⟩ (.int .i64 (p : Int))) mb m g2 c2 (ordL L (m.take (i + 1)))) := by
                  show OrSt _ _ _ _ _ _ _
                  rw [HNEW.out, ← last_set o (q + 1) (p : Int) y (by omega)]
                  exact (HSk.out.drewN nq).put (q + 1) (p : Int)
                have HLN : Hid ((ordL L (m.take (i + 1))).length = o.length + 1) := by show _ = _; rw [HNEW.out]; simp <;> omega
                have cm : (wr.drewN nq).cell? ⟨mb, i, none⟩ = some (.int .i64 (p : Int)) := by have := HSk.out.mc i hlt; rw [HXP.out] at this; exact this
                have fz : (wr.drewN nq).frozen? ⟨g2, q + 1, none⟩ = false := own_frozen HSk.out.own (q + 1)
                have hkl : q + 1 < (o.take (q + 1) ++ ([y] ++ o.drop (q + 1))).length := by simp <;> omega
                have ck : (wr.drewN nq).cell? ⟨g2, q + 1, none⟩ = some (.int .i64 ((o.take (q + 1) ++ ([y] ++ o.drop (q + 1))).getD (q + 1) 0)) := HSk.out.cell hkl
                generalize (o.take (q + 1) ++ ([y] ++ o.drop (q + 1))).getD (q + 1) 0 = yk at ck
                clear hkl HNEW
                generalize wr.drewN nq = V at HP cm fz ck ⊢
                go_wp2
                go_roundw
                case rel => exact ⟨i + 1, g2, c2, by omega, by go_num, by rw [HLN.out], HP⟩
                case measure => simp [intOf]; omega
            · have g2b : (hr1 == hp1) = false := by simpa using g2'
              have HGQ : Hid (gtB L (r : Int) (p : Int) = false) := by show _ = _; rw [HGT.out, decide_eq_false g1, decide_eq_false g2']; simp
              clear HGT g1 g2'
              go_wp2_with fail
              go_quiet (fail)
              have HNEW : Hid (ordL L (m.take (i + 1)) = o.take (q + 1) ++ ([(p : Int)] ++ o.drop (q + 1))) := HST.out.trans (insB_at L o (p : Int) (q + 1) (by omega) HG.out (.inr (by show gtB L (o.getD q 0) (p : Int) = false; rw [HOR.out]; exact HGQ.out)))
              have HP : Hid (OrSt w ((wr.drewN nq).setCell ⟨g2, q + 1, none⟩ (.int .i64 (p : Int))) mb m g2 c2 (ordL L (m.take (i + 1)))) := by
                show OrSt _ _ _ _ _ _ _
                rw [HNEW.out, ← last_set o (q + 1) (p : Int) y (by omega)]
                exact (HSk.out.drewN nq).put (q + 1) (p : Int)
              have HLN : Hid ((ordL L (m.take (i + 1))).length = o.length + 1) := by show _ = _; rw [HNEW.out]; simp <;> omega
              have cm : (wr.drewN nq).cell? ⟨mb, i, none⟩ = some (.int .i64 (p : Int)) := by have := HSk.out.mc i hlt; rw [HXP.out] at this; exact this
              have fz : (wr.drewN nq).frozen? ⟨g2, q + 1, none⟩ = false := own_frozen HSk.out.own (q + 1)
              have hkl : q + 1 < (o.take (q + 1) ++ ([y] ++ o.drop (q + 1))).length := by simp <;> omega
              have ck : (wr.drewN nq).cell? ⟨g2, q + 1, none⟩ = some (.int .i64 ((o.take (q + 1) ++ ([y] ++ o.drop (q + 1))).getD (q + 1) 0)) := HSk.out.cell hkl
              generalize (o.take (q + 1) ++ ([y] ++ o.drop (q + 1))).getD (q + 1) 0 = yk at ck
              clear hkl HNEW
              generalize wr.drewN nq = V at HP cm fz ck ⊢
              go_wp2
              go_roundw
              case rel => exact ⟨i + 1, g2, c2, by omega, by go_num, by rw [HLN.out], HP⟩
              case measure => simp [intOf]; omega
    · obtain rfl : i = m.length := by omega
      have e : m.take m.length = m := List.take_length
      rw [e] at HS hv
      have HV : Hid (u5 = .slice (some ⟨og, 0, none⟩) (ordL L m).length ocp) := hv
      have HF : Hid (Memb.Own w.heap.size wr (some ⟨og, 0, none⟩) ocp (ordL L m) ∧ Below w.heap.size w wr) := ⟨HS.out.own, HS.out.bel⟩
      clear hv HS e
      go_wp2
      go_ret
      exact ⟨some ⟨og, 0, none⟩, ocp, by rw [HMM.out, ← HV.out]; rfl, by rw [HMM.out]; exact HF.out.1, HF.out.2⟩

end Tl
end Go.Proofs.Ytfjmeepeogmfiaa

namespace Go.Proofs.Ytfjmeepeogmfiaa
open Go.RowKit
set_option maxRecDepth 100000
namespace Tl
open Kn (K okK)
open Bit (bit withB memTo)
open Lc (at' RdK WordsOk laceB setB)
open Sg (isB bel belows NumsPost)
open Nd (nodN nodS)

/-- below k and not below the earlier one -/
def baseS (L : List K) (k : Nat) (e : Int) : Int := if 0 ≤ e then bits .andNot .i64 (bel L k) (bel L e.toNat) else bel L k
/-- the model's set, when all below b have been looked at -/
def frP (L : List K) (k : Nat) (e : Int) : Nat → Int
  | 0 => baseS L k e
  | b + 1 => if bit (frP L k e b) b && !nodN L k b then bits .andNot .i64 (frP L k e b) (2 ^ b) else frP L k e b

theorem base_bd {L : List K} {k : Nat} (hk : k < 60) {e : Int} : 0 ≤ baseS L k e ∧ baseS L k e < 1152921504606846976 := by
  have h1 := Sg.bel_bd L k hk
  unfold baseS
  split
  · exact Sg.andNot_bd' _ _ h1.1 h1.2
  · exact h1
theorem bit_base {L : List K} {k : Nat} (hk : k < 60) {e : Int} (he : e < 60) (j : Nat) : bit (baseS L k e) j = (bit (bel L k) j && !(decide (0 ≤ e) && bit (bel L e.toNat) j)) := by
  have h1 := Sg.bel_bd L k hk
  unfold baseS
  by_cases h0 : 0 ≤ e
  · have h2 := Sg.bel_bd L e.toNat (by omega)
    rw [if_pos h0, Sg.bit_andNot _ _ h1.1 h1.2 h2.1 h2.2, decide_eq_true h0, Bool.true_and]
  · rw [if_neg h0, decide_eq_false h0]; simp
theorem pow_bd {b : Nat} (hb : b < 60) : (0 : Int) ≤ 2 ^ b ∧ (2 : Int) ^ b < 1152921504606846976 := by
  have h1 := Bit.pow_pos' b
  have h2 : (2 : Nat) ^ b < 2 ^ 60 := Nat.pow_lt_pow_right (by decide) hb
  have h3 : ((2 ^ b : Nat) : Int) = (2 : Int) ^ b := by simp
  omega
theorem frP_bits {L : List K} {k : Nat} (hk : k < 60) {e : Int} (b : Nat) (hb : b ≤ 60) : (0 ≤ frP L k e b ∧ frP L k e b < 1152921504606846976) ∧ ∀ j, bit (frP L k e b) j = (bit (baseS L k e) j && (!decide (j < b) || nodN L k j)) := by
  induction b with
  | zero => exact ⟨base_bd hk, fun j => by simp [frP]⟩
  | succ b ih =>
    have ih := ih (by omega)
    have pb := pow_bd (b := b) (by omega)
    unfold frP
    cases hq : (bit (frP L k e b) b && !nodN L k b)
    · rw [if_neg (by simp)]
      refine ⟨ih.1, fun j => ?_⟩
      rw [ih.2 j]
      by_cases ej : j = b
      · subst ej
        rw [ih.2 j] at hq
        cases h1 : bit (baseS L k e) j
        · rfl
        · rw [h1] at hq
          cases h2 : nodN L k j
          · rw [h2] at hq; simp at hq
          · simp
      · have : decide (j < b + 1) = decide (j < b) := by simp; omega
        rw [this]
    · rw [if_pos rfl]
      refine ⟨Sg.andNot_bd' _ _ ih.1.1 ih.1.2, fun j => ?_⟩
      rw [Sg.bit_andNot _ _ ih.1.1 ih.1.2 pb.1 pb.2, Sg.bit_pow, ih.2 j]
      rw [Bool.and_eq_true, Bool.not_eq_true'] at hq
      by_cases ej : j = b
      · subst ej
        rw [hq.2]; simp
      · have : decide (j < b + 1) = decide (j < b) := by simp; omega
        rw [this, decide_eq_false ej]; simp
theorem frP_end {L : List K} (hl : laceB L = true) {k : Nat} (hk : k < L.length) {e : Int} (he : e < (L.length : Int)) : frP L k e L.length = frS L k e L.length := by
  have h60 := ((Lc.lace_iff L).1 hl).1
  have h1 := frP_bits (L := L) (show k < 60 by omega) (e := e) L.length h60
  refine Lc.eq_of_bits _ _ h1.1.1 (frS_bd L k e _ h60).1 fun j => ?_
  rw [h1.2 j, bit_frS L k e _ h60, bit_base (by omega) (by omega)]
  unfold fresN
  by_cases hj : j < L.length
  · rw [decide_eq_true hj]; simp [Bool.and_assoc]
  · have hb : bit (bel L k) j = false := by
      rw [Bool.eq_false_iff]; intro q
      have := Ag.sees_le hl hk q
      omega
    rw [hb]; simp

set_option maxHeartbeats 1600000 in
theorem l11Fresh (bb bc nb nc : Nat) (L : List K) (k : Nat) (e : Int) (w : World) (hl : laceB L = true) (hk : k < L.length) (he0 : -1 ≤ e) (he : e < (L.length : Int)) (hbel : ∀ i, i < L.length → w.cell? ⟨bb, i, none⟩ = some (.int .i64 (bel L i))) (hnod : ∀ i, i < L.length → w.cell? ⟨nb, i, none⟩ = some (.int .i64 (nodS L i L.length))) :
    Calls Try.prog 31 #[.slice (some ⟨bb, 0, none⟩) L.length bc, .slice (some ⟨nb, 0, none⟩) L.length nc, .int .i64 (k : Int), .int .i64 e] w fun en w' => en = .returned (.int .i64 (frS L k e L.length)) ∧ w = w' := by
  have h60 := ((Lc.lace_iff L).1 hl).1
  have hki : (k : Int) < (L.length : Int) := by omega
  have ck := hbel k hk
  have HE : Hid (frP L k e L.length = frS L k e L.length) := frP_end hl hk he
  have HNOD : Hid (∀ i, i < L.length → w.cell? ⟨nb, i, none⟩ = some (.int .i64 (nodS L i L.length))) := hnod
  have HFB : Hid (∀ b, b ≤ 60 → 0 ≤ frP L k e b ∧ frP L k e b < 1152921504606846976) := fun b hb => (frP_bits (by omega) b hb).1
  have HST : Hid (∀ b, frP L k e (b + 1) = if bit (frP L k e b) b && !nodN L k b then bits .andNot .i64 (frP L k e b) (2 ^ b) else frP L k e b) := fun b => rfl
  have HB0 : Hid (frP L k e 0 = baseS L k e) := rfl
  clear hnod hl
  by_cases h0 : 0 ≤ e
  · obtain ⟨q, rfl⟩ := Int.eq_ofNat_of_zero_le h0
    have ce := hbel q (by omega)
    have HBQ : Hid (baseS L k (q : Int) = bits .andNot .i64 (bel L k) (bel L q)) := by show _ = _; unfold baseS; rw [if_pos h0, Int.toNat_natCast]
    clear hbel
    generalize bel L k = yk at ck HBQ
    generalize bel L q = yq at ce HBQ
    go_enter Try.func31, Try.ntmps31
    go_wp2
    go_loop [9, 10] (fun sv iv => ∃ b : Nat, b ≤ L.length ∧ iv = .int .i64 (b : Int) ∧ sv = .int .i64 (frP L k (q : Int) b)) (fun _ iv => L.length - (intOf iv).toNat)
    case atStart => exact ⟨0, by omega, rfl, by rw [HB0.out]; rw [HBQ.out]⟩
    case round =>
      obtain ⟨b, hb, rfl, rfl⟩ := hrel
      by_cases hlt : b < L.length
      · have hbi : (b : Int) < (L.length : Int) := by omega
        have hfb := HFB.out b (by omega)
        have HS := HST.out b
        have cn := HNOD.out b hlt
        have hnb := Nd.nodS_bd L b L.length h60
        have hc1 : ∀ W : World, Calls Try.prog 37 #[.int .i64 (frP L k (q : Int) b), .int .i64 (b : Int)] W fun en w' => en = .returned (.bool (bit (frP L k (q : Int) b) b)) ∧ W = w' := fun W => (Db.has_call _ b _ hfb.1 hfb.2 (by omega) rfl W).mono fun _ _ q => ⟨q.1, q.2.symm⟩
        have hc2 : ∀ W : World, Calls Try.prog 37 #[.int .i64 (nodS L b L.length), .int .i64 (k : Int)] W fun en w' => en = .returned (.bool (nodN L k b)) ∧ W = w' := fun W => (Db.has_call _ k _ hnb.1 hnb.2 (by omega) (by rw [Nd.bit_nodS L b _ h60, decide_eq_true hk]; rfl) W).mono fun _ _ q => ⟨q.1, q.2.symm⟩
        have HSS : Hid (frP L k (q : Int) (b + 1) = if bit (frP L k (q : Int) b) b && !nodN L k b then bits .andNot .i64 (frP L k (q : Int) b) (2 ^ b) else frP L k (q : Int) b) := HS
        clear HS hnb
        generalize bit (frP L k (q : Int) b) b = b1 at hc1 HSS
        generalize nodN L k b = b2 at hc2 HSS
        generalize frP L k (q : Int) b = fp at hc1 HSS hfb ⊢
        generalize nodS L b L.length = nv at cn hc2
        cases b1
        · have HD : Hid (frP L k (q : Int) (b + 1) = fp) := by show _ = _; rw [HSS.out]; rfl
          clear HSS hc2
          go_wp2_with (go_at_call 37; refine (hc1 _).mono ?_; rintro e' w' ⟨rfl, rfl⟩)
          go_round
          case rel => exact ⟨b + 1, by omega, by go_num, by rw [HD.out]⟩
          case measure => simp [intOf]; omega
        · go_wp2_with fail
          refine (hc1 _).mono ?_
          rintro e' w' ⟨rfl, rfl⟩
          go_wp2_with fail
          refine (hc2 _).mono ?_
          rintro e' w' ⟨rfl, rfl⟩
          cases b2
          · have HD : Hid (frP L k (q : Int) (b + 1) = bits .andNot .i64 fp (2 ^ b)) := by show _ = _; rw [HSS.out]; rfl
            clear HSS hc1 hc2
            go_wp2_with (go_at_call 38; refine (Base.l1Bit _ _ (by omega) (by omega)).mono ?_; rintro e' w' ⟨rfl, rfl⟩; rw [Int.toNat_natCast])
            go_round
            case rel => exact ⟨b + 1, by omega, by go_num, by rw [HD.out]⟩
            case measure => simp [intOf]; omega
          · have HD : Hid (frP L k (q : Int) (b + 1) = fp) := by show _ = _; rw [HSS.out]; rfl
            clear HSS hc1 hc2
            go_wp2
            go_round
            case rel => exact ⟨b + 1, by omega, by go_num, by rw [HD.out]⟩
            case measure => simp [intOf]; omega
      · obtain rfl : b = L.length := by omega
        rw [HE.out]
        go_wp2
        go_ret
        exact ⟨rfl, rfl⟩
  · have h0' : ¬ (0 : Int) ≤ e := h0
    have HBQ : Hid (baseS L k e = bel L k) := by show _ = _; unfold baseS; rw [if_neg h0]
    clear hbel h0
    generalize bel L k = yk at ck HBQ
    go_enter Try.func31, Try.ntmps31
    go_wp2
    go_loop [9, 10] (fun sv iv => ∃ b : Nat, b ≤ L.length ∧ iv = .int .i64 (b : Int) ∧ sv = .int .i64 (frP L k e b)) (fun _ iv => L.length - (intOf iv).toNat)
    case atStart => exact ⟨0, by omega, rfl, by rw [HB0.out]; rw [HBQ.out]⟩
    case round =>
      obtain ⟨b, hb, rfl, rfl⟩ := hrel
      by_cases hlt : b < L.length
      · have hbi : (b : Int) < (L.length : Int) := by omega
        have hfb := HFB.out b (by omega)
        have HS := HST.out b
        have cn := HNOD.out b hlt
        have hnb := Nd.nodS_bd L b L.length h60
        have hc1 : ∀ W : World, Calls Try.prog 37 #[.int .i64 (frP L k e b), .int .i64 (b : Int)] W fun en w' => en = .returned (.bool (bit (frP L k e b) b)) ∧ W = w' := fun W => (Db.has_call _ b _ hfb.1 hfb.2 (by omega) rfl W).mono fun _ _ q => ⟨q.1, q.2.symm⟩
        have hc2 : ∀ W : World, Calls Try.prog 37 #[.int .i64 (nodS L b L.length), .int .i64 (k : Int)] W fun en w' => en = .returned (.bool (nodN L k b)) ∧ W = w' := fun W => (Db.has_call _ k _ hnb.1 hnb.2 (by omega) (by rw [Nd.bit_nodS L b _ h60, decide_eq_true hk]; rfl) W).mono fun _ _ q => ⟨q.1, q.2.symm⟩
        have HSS : Hid (frP L k e (b + 1) = if bit (frP L k e b) b && !nodN L k b then bits .andNot .i64 (frP L k e b) (2 ^ b) else frP L k e b) := HS
        clear HS hnb
        generalize bit (frP L k e b) b = b1 at hc1 HSS
        generalize nodN L k b = b2 at hc2 HSS
        generalize frP L k e b = fp at hc1 HSS hfb ⊢
        generalize nodS L b L.length = nv at cn hc2
        cases b1
        · have HD : Hid (frP L k e (b + 1) = fp) := by show _ = _; rw [HSS.out]; rfl
          clear HSS hc2
          go_wp2_with (go_at_call 37; refine (hc1 _).mono ?_; rintro e' w' ⟨rfl, rfl⟩)
          go_round
          case rel => exact ⟨b + 1, by omega, by go_num, by rw [HD.out]⟩
          case measure => simp [intOf]; omega
        · go_wp2_with fail
          refine (hc1 _).mono ?_
          rintro e' w' ⟨rfl, rfl⟩
          go_wp2_with fail
          refine (hc2 _).mono ?_
          rintro e' w' ⟨rfl, rfl⟩
          cases b2
          · have HD : Hid (frP L k e (b + 1) = bits .andNot .i64 fp (2 ^ b)) := by show _ = _; rw [HSS.out]; rfl
            clear HSS hc1 hc2
            go_wp2_with (go_at_call 38; refine (Base.l1Bit _ _ (by omega) (by omega)).mono ?_; rintro e' w' ⟨rfl, rfl⟩; rw [Int.toNat_natCast])
            go_round
            case rel => exact ⟨b + 1, by omega, by go_num, by rw [HD.out]⟩
            case measure => simp [intOf]; omega
          · have HD : Hid (frP L k e (b + 1) = fp) := by show _ = _; rw [HSS.out]; rfl
            clear HSS hc1 hc2
            go_wp2
            go_round
            case rel => exact ⟨b + 1, by omega, by go_num, by rw [HD.out]⟩
            case measure => simp [intOf]; omega
      · obtain rfl : b = L.length := by omega
        rw [HE.out]
        go_wp2
        go_ret
        exact ⟨rfl, rfl⟩

/-- what is fresh is within the lace -/
theorem frS_in {L : List K} (h60 : L.length ≤ 60) (k : Nat) (e : Int) : ∀ i, bit (frS L k e L.length) i = true → i < L.length := fun i hi => by
  rw [bit_frS L k e _ h60, Bool.and_eq_true, decide_eq_true_eq] at hi
  exact hi.1
/-- the document's Ordered -/
def orderedI (L : List K) (s : Int) : List Int := if setB L s then ordL L (memTo s 60) else []
/-- the document's FreshOf -/
def freshI (L : List K) (k e : Int) : List Int := if isB L k && (decide (e = -1) || isB L e) then freshL L k e else []

set_option maxHeartbeats 1600000 in
theorem specOrdered (g off cap : Nat) (L : List K) (s : Int) (w : World) (hcap : L.length ≤ cap) (hw : WordsOk L) (hr : RdK w (some ⟨g, off, none⟩) L) :
    Calls Try.prog 7 #[.slice (some ⟨g, off, none⟩) L.length cap, .int .i64 s] w (NumsPost (orderedI L s) w) := by
  go_enter Try.func7, Try.ntmps7
  go_wp2_with fail
  refine (Lc.l3Set g off cap L s _ hcap hw hr).mono ?_
  rintro e w1 ⟨rfl, hb1⟩
  cases his : setB L s
  · have HT : Hid (orderedI L s = []) := by show _ = _; unfold orderedI; rw [his]; rfl
    have HP : Hid _ := Ch.nums_nil hb1
    clear his
    go_wp2
    go_ret
    rw [HT.out]
    exact ⟨some ⟨w1.heap.size, 0, none⟩, 0, rfl, HP.out.1, HP.out.2⟩
  · have HT : Hid (orderedI L s = ordL L (memTo s 60)) := by show _ = _; unfold orderedI; rw [his]; rfl
    obtain ⟨hl, q0, q1, qd, _, _⟩ := Lc.setB_parts his
    have ho := l11Order g off cap L s w1 hl (hr.below hb1) q0 q1 (fun i hi => by
      apply Classical.byContradiction
      intro hn
      rw [Lc.bit_hi s L.length q0 qd i (by omega)] at hi
      exact Bool.noConfusion hi)
    clear his hl qd hr
    go_wp2_with fail
    refine ho.mono ?_
    rintro e w2 ⟨ro, rc, rfl, hown, hb2⟩
    have HP : Hid (Memb.Own w.heap.size w2 ro rc (ordL L (memTo s 60)) ∧ Below w.heap.size w w2) := ⟨Ch.own_base hown hb1.size, hb1.trans (hb2.mono hb1.size)⟩
    clear ho hown hb2 hb1
    go_wp2
    go_ret
    rw [HT.out]
    exact ⟨ro, rc, rfl, HP.out.1, HP.out.2⟩

/-- the two tables: what is below, and who nods -/
structure TabsN (w : World) (L : List K) (bb nb : Nat) : Prop where
  bel : ∀ i, i < L.length → w.cell? ⟨bb, i, none⟩ = some (.int .i64 (Sg.bel L i))
  nod : ∀ i, i < L.length → w.cell? ⟨nb, i, none⟩ = some (.int .i64 (nodS L i L.length))
  lb : bb < w.heap.size
  ln : nb < w.heap.size
theorem TabsN.below {w w' : World} {L : List K} {bb nb : Nat} (t : TabsN w L bb nb) (hb : Below w.heap.size w w') : TabsN w' L bb nb :=
  ⟨fun i hi => (hb.cell (p := ⟨bb, i, none⟩) t.lb).trans (t.bel i hi), fun i hi => (hb.cell (p := ⟨nb, i, none⟩) t.ln).trans (t.nod i hi), Nat.lt_of_lt_of_le t.lb hb.size, Nat.lt_of_lt_of_le t.ln hb.size⟩
/-- what is below, in memory of the call's own -/
structure TabB (w : World) (L : List K) (bb : Nat) : Prop where
  bel : ∀ i, i < L.length → w.cell? ⟨bb, i, none⟩ = some (.int .i64 (Sg.bel L i))
  lb : bb < w.heap.size
theorem TabB.below {w w' : World} {L : List K} {bb : Nat} (t : TabB w L bb) (hb : Below w.heap.size w w') : TabB w' L bb := ⟨fun i hi => (hb.cell (p := ⟨bb, i, none⟩) t.lb).trans (t.bel i hi), Nat.lt_of_lt_of_le t.lb hb.size⟩
theorem TabB.rd {w : World} {L : List K} {bb : Nat} (t : TabB w L bb) : Lst.Rd w (some ⟨bb, 0, none⟩) (belows L L.length) := .inr ⟨bb, rfl, fun j hj => by
  rw [Sg.belows_len] at hj
  rw [Sg.belows_get L L.length j hj]; exact t.bel j hj⟩

theorem allB (g off cap : Nat) (L : List K) (w : World) (hl : laceB L = true) (hN : 0 < L.length) (hr : RdK w (some ⟨g, off, none⟩) L) :
    Calls Try.prog 30 #[.slice (some ⟨g, off, none⟩) L.length cap] w fun e w' => ∃ bb bc, e = .returned (.slice (some ⟨bb, 0, none⟩) L.length bc) ∧ TabB w' L bb ∧ Below w.heap.size w w' := by
  have h60 := ((Lc.lace_iff L).1 hl).1
  refine (Sg.l4All (some ⟨g, off, none⟩) cap L w h60 (Sg.frm_lace hl) hr).mono ?_
  rintro e w1 ⟨bo, bc, rfl, hown, hb1⟩
  have hbl := Sg.belows_len L L.length
  rcases Lst.own_rd hown with e | ⟨bb, e, hcell⟩
  · rw [e] at hbl; simp at hbl; omega
  · subst e
    refine ⟨bb, bc, by rw [hbl], ⟨fun i hi => ?_, (World.ownsRow.lt hown bb rfl).2⟩, hb1⟩
    have := hcell i (by rw [hbl]; exact hi)
    rwa [Sg.belows_get L L.length i hi] at this
theorem allN (g off cap : Nat) (L : List K) (bb bc : Nat) (w : World) (hl : laceB L = true) (hr : RdK w (some ⟨g, off, none⟩) L) (ht : TabB w L bb) :
    Calls Try.prog 32 #[.slice (some ⟨g, off, none⟩) L.length cap, .slice (some ⟨bb, 0, none⟩) L.length bc] w fun e w' => ∃ nb, e = .returned (.slice (some ⟨nb, 0, none⟩) L.length L.length) ∧ w.heap.size ≤ nb ∧ TabsN w' L bb nb ∧ Below w.heap.size w w' := by
  have h60 := ((Lc.lace_iff L).1 hl).1
  have hbl := Sg.belows_len L L.length
  have h6 := Nd.l6All (some ⟨g, off, none⟩) cap L (some ⟨bb, 0, none⟩) bc (belows L L.length) w h60 hbl (Sg.belows_in L L.length h60) hr ht.rd (fun c e => by injection e with e; injection e with e; subst e; exact ht.lb)
  rw [hbl] at h6
  refine h6.mono ?_
  rintro e w2 ⟨h, D, O, rfl, hge, hrow, hD, hO, hb2⟩
  exact ⟨h, rfl, hge, ⟨(ht.below hb2).bel, fun i hi => by rw [← Nd.nodR_eq hl hD hi _ (Nat.le_refl _), ← hO i hi]; exact hrow.rd i hi, (ht.below hb2).lb, hrow.lt⟩, hb2⟩
/-- the tables of a lace, the second one not yet fixed -/
structure TabsF (w : World) (L : List K) (bb h : Nat) : Prop extends Ch.TabsL w L bb h where
  fr : ∀ i, i < L.length → w.frozen? ⟨h, i, none⟩ = false
set_option maxHeartbeats 3200000 in
theorem specFreshOf (g off cap : Nat) (L : List K) (k e : Int) (w : World) (hcap : L.length ≤ cap) (hw : WordsOk L) (hr : RdK w (some ⟨g, off, none⟩) L) :
    Calls Try.prog 15 #[.slice (some ⟨g, off, none⟩) L.length cap, .int .i64 k, .int .i64 e] w (NumsPost (freshI L k e) w) := by
  have HR : Hid (RdK w (some ⟨g, off, none⟩) L) := hr
  go_enter Try.func15, Try.ntmps15
  go_wp2_with fail
  refine (Sg.l4Is g off cap L k _ hcap hw hr).mono ?_
  rintro en w1 ⟨rfl, hb1⟩
  clear hr
  cases hik : isB L k
  · have HT : Hid (freshI L k e = []) := by show _ = _; unfold freshI; rw [hik]; rfl
    have HP : Hid _ := Ch.nums_nil hb1
    clear hik
    go_wp2
    go_ret
    rw [HT.out]
    exact ⟨some ⟨w1.heap.size, 0, none⟩, 0, rfl, HP.out.1, HP.out.2⟩
  · obtain ⟨k0, k1, hlc⟩ := Sg.isB_parts hik
    have h60 := ((Lc.lace_iff L).1 hlc).1
    have HLC : Hid (laceB L = true) := hlc
    have HIK : Hid (isB L k = true) := hik
    clear hik hlc
    obtain ⟨p, rfl⟩ := Int.eq_ofNat_of_zero_le k0
    have hp : p < L.length := by omega
    by_cases hme : e = -1
    · subst hme
      have HTT : freshI L (p : Int) (-1) = ordL L (memTo (frS L p (-1) L.length) 60) := by unfold freshI freshL; rw [HIK.out, Int.toNat_natCast]; rfl
      have HBW : Hid (Below w.heap.size w w1) := hb1
      clear hb1 HIK
      go_wp2_with fail
      refine (allB g off cap L _ HLC.out (by omega) (HR.out.below HBW.out)).mono ?_
      rintro en w3 ⟨bb, bc, rfl, hT3, hb3⟩
      have HB3 : Hid (Below w.heap.size w w3) := HBW.out.trans (hb3.mono HBW.out.size)
      clear hb3 HBW
      go_wp2_with fail
      refine (allN g off cap L bb bc _ HLC.out (HR.out.below HB3.out) hT3).mono ?_
      rintro en w4 ⟨nb, rfl, _, hT4, hb4⟩
      have HB4 : Hid (Below w.heap.size w w4) := HB3.out.trans (hb4.mono HB3.out.size)
      clear hb4 HB3 hT3
      have hfr := l11Fresh bb bc nb L.length L p (-1) w4 HLC.out hp (by omega) (by omega) hT4.bel hT4.nod
      have hfb := frS_bd L p (-1) L.length h60
      have hfi := frS_in h60 p (-1)
      have hor := l11Order g off cap L (frS L p (-1) L.length) w4 HLC.out (HR.out.below HB4.out) hfb.1 hfb.2 hfi
      have HT : Hid (freshI L (p : Int) (-1) = ordL L (memTo (frS L p (-1) L.length) 60)) := HTT
      clear hT4 hfb hfi
      generalize frS L p (-1) L.length = fr at hfr hor HT
      go_wp2_with fail
      refine hfr.mono ?_
      rintro en w5 ⟨rfl, rfl⟩
      clear hfr
      go_wp2_with fail
      refine hor.mono ?_
      rintro en w6 ⟨ro, rc, rfl, hown, hb6⟩
      have HP : Hid (Memb.Own w.heap.size w6 ro rc (ordL L (memTo fr 60)) ∧ Below w.heap.size w w6) := ⟨Ch.own_base hown HB4.out.size, HB4.out.trans (hb6.mono HB4.out.size)⟩
      clear hor hown hb6 HB4
      go_wp2
      go_ret
      rw [HT.out]
      exact ⟨ro, rc, rfl, HP.out.1, HP.out.2⟩
    · have hme' : (e != -1) = true := by simpa using hme
      go_wp2_with fail
      refine (Sg.l4Is g off cap L e _ hcap hw (HR.out.below hb1)).mono ?_
      rintro en w2 ⟨rfl, hb2⟩
      have hB2 := hb1.trans (hb2.mono hb1.size)
      clear hb1 hb2
      cases hie : isB L e
      · have HT : Hid (freshI L (p : Int) e = []) := by show _ = _; unfold freshI; rw [HIK.out, hie, decide_eq_false hme]; rfl
        have HP : Hid _ := Ch.nums_nil hB2
        clear hie hme
        go_wp2
        go_ret
        rw [HT.out]
        exact ⟨some ⟨w2.heap.size, 0, none⟩, 0, rfl, HP.out.1, HP.out.2⟩
      · obtain ⟨e0, e1, _⟩ := Sg.isB_parts hie
        have HTT : freshI L (p : Int) e = ordL L (memTo (frS L p e L.length) 60) := by unfold freshI freshL; rw [HIK.out, hie, Int.toNat_natCast]; simp
        have HBW : Hid (Below w.heap.size w w2) := hB2
        clear hB2 HIK hie hme
        go_wp2_with fail
        refine (allB g off cap L _ HLC.out (by omega) (HR.out.below HBW.out)).mono ?_
        rintro en w3 ⟨bb, bc, rfl, hT3, hb3⟩
        have HB3 : Hid (Below w.heap.size w w3) := HBW.out.trans (hb3.mono HBW.out.size)
        clear hb3 HBW
        go_wp2_with fail
        refine (allN g off cap L bb bc _ HLC.out (HR.out.below HB3.out) hT3).mono ?_
        rintro en w4 ⟨nb, rfl, _, hT4, hb4⟩
        have HB4 : Hid (Below w.heap.size w w4) := HB3.out.trans (hb4.mono HB3.out.size)
        clear hb4 HB3 hT3
        have hfr := l11Fresh bb bc nb L.length L p e w4 HLC.out hp (by omega) (by omega) hT4.bel hT4.nod
        have hfb := frS_bd L p e L.length h60
        have hfi := frS_in h60 p e
        have hor := l11Order g off cap L (frS L p e L.length) w4 HLC.out (HR.out.below HB4.out) hfb.1 hfb.2 hfi
        have HT : Hid (freshI L (p : Int) e = ordL L (memTo (frS L p e L.length) 60)) := HTT
        clear hT4 hfb hfi
        generalize frS L p e L.length = fr at hfr hor HT
        go_wp2_with fail
        refine hfr.mono ?_
        rintro en w5 ⟨rfl, rfl⟩
        clear hfr
        go_wp2_with fail
        refine hor.mono ?_
        rintro en w6 ⟨ro, rc, rfl, hown, hb6⟩
        have HP : Hid (Memb.Own w.heap.size w6 ro rc (ordL L (memTo fr 60)) ∧ Below w.heap.size w w6) := ⟨Ch.own_base hown HB4.out.size, HB4.out.trans (hb6.mono HB4.out.size)⟩
        clear hor hown hb6 HB4
        go_wp2
        go_ret
        rw [HT.out]
        exact ⟨ro, rc, rfl, HP.out.1, HP.out.2⟩

theorem chF_mem (L : List K) (C : List Int) : ∀ (f : Nat) (k x : Int), x ∈ Ch.chF L C f k → 0 ≤ x ∧ x ≤ k := by
  intro f
  induction f with
  | zero => intro k x h; simp [Ch.chF] at h
  | succ f ih =>
    intro k x h
    unfold Ch.chF at h
    by_cases hk : k < 0
    · rw [if_pos hk] at h; simp at h
    · rw [if_neg hk, List.mem_append] at h
      have hlt := Ch.earlier_lt L C k.toNat
      rcases h with h | h
      · have := ih _ _ h; omega
      · have : x = k := by simpa using h
        omega
theorem taleF_snoc (L : List K) : ∀ (l : List Int) (c e : Int), taleF L e (l ++ [c]) = taleF L e l ++ freshL L c (l.getLastD e) := by
  intro l
  induction l with
  | nil => intro c e; simp [taleF]
  | cons x l ih =>
    intro c e
    show freshL L x e ++ taleF L x (l ++ [c]) = (freshL L x e ++ taleF L x l) ++ freshL L c ((x :: l).getLastD e)
    rw [ih c x, List.getLastD_cons, List.append_assoc]
theorem fresh_len (L : List K) (k e : Int) : (freshL L k e).length ≤ 60 := by
  unfold freshL
  rw [ord_len]; exact Bit.memTo_le _ 60

/-- the tale so far, in a row of the call's own that lies apart from all that is read -/
structure TlSt (w w3 wr : World) (og0 og cp : Nat) (l : List Int) : Prop where
  own : wr.ownsRow w.heap.size 2 1 (.slice (some ⟨og, 0, none⟩) l.length cp) l.length (l.map (Value.int .i64))
  bel : Below w.heap.size w wr
  gr : w3.grownBy wr (some og0)
  at' : og = og0 ∨ w3.heap.size ≤ og
theorem TlSt.below {w w3 wr w' : World} {og0 og cp : Nat} {l : List Int} (s : TlSt w w3 wr og0 og cp l) (hb : Below wr.heap.size wr w') : TlSt w w3 w' og0 og cp l :=
  ⟨Fm.row_below s.own hb, s.bel.trans (hb.mono s.bel.size), World.grownBy.trans s.gr ⟨hb.os, hb.tape, hb.output, hb.size, fun i hi _ => hb.block i hi⟩, s.at'⟩
theorem TlSt.app {w w3 wr w1 : World} {og0 og cp : Nat} {l ns : List Int} {v' : Value} (s : TlSt w w3 wr og0 og cp l) (ho : w1.ownsRow w.heap.size 2 1 v' (l.length + ns.length) (l.map (Value.int .i64) ++ ns.map (Value.int .i64))) (hg : wr.grownBy w1 (some og)) (hn : ¬ v' = .slice none 0 0) (ha : v'.ownBlock = some og ∨ v'.ownBlock = some wr.heap.size) : ∃ g2 c2, v' = .slice (some ⟨g2, 0, none⟩) (l.length + ns.length) c2 ∧ TlSt w w3 w1 og0 g2 c2 (l ++ ns) := by
  have ho' := ho
  obtain ⟨_, ⟨hx, _⟩ | ⟨g2, c2, cur, hx, _⟩⟩ := ho'
  · exact absurd hx hn
  · subst hx
    have hlt := World.ownsRow.lt s.own og rfl
    refine ⟨g2, c2, rfl, by simpa using ho, s.bel.grown hg s.bel.size (fun k hk => by cases hk; exact hlt.1), ⟨hg.os.trans s.gr.os, hg.tape.trans s.gr.tape, hg.output.trans s.gr.output, Nat.le_trans s.gr.size hg.size, fun j hj hne => ?_⟩, ?_⟩
    · have h1 := s.gr.block j hj hne
      refine (hg.block j (Nat.lt_of_lt_of_le hj s.gr.size) (fun e => ?_)).trans h1
      injection e with e
      subst e
      rcases s.at' with q | q
      · exact hne (by rw [q])
      · omega
    · simp [Value.ownBlock] at ha
      rcases ha with e | e
      · subst e; exact s.at'
      · exact .inr (by have := s.gr.size; omega)

/-- the document's TaleOf -/
def taleI (L : List K) (C : List Int) (k : Int) : List Int := if Ch.onB L C k then taleL L C k else []
/-- the document's OutOf -/
def outI (L : List K) (C : List Int) (s : Int) : List Int := if Fm.rightB L C s then outL L C s else []

theorem out_none {L : List K} {C : List Int} {s : Int} (h : lastT L (firmL L C s L.length) < 0) : outL L C s = [] := by unfold outL; rw [if_pos h]
theorem out_some {L : List K} {C : List Int} {s : Int} (h : ¬ lastT L (firmL L C s L.length) < 0) : outL L C s = taleL L C (lastT L (firmL L C s L.length)) := by unfold outL; rw [if_neg h]

end Tl
end Go.Proofs.Ytfjmeepeogmfiaa
