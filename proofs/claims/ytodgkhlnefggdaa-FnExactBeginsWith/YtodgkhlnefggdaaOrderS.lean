/-
  What the model's order answers: by rounds, then by hands, then by numbers; for laces.
-/
import Derived.Test.YtodgkhlnefggdaaTaleM
import Derived.Test.YtodgkhlnefggdaaChainS
import Derived.Maps.AppendAt
namespace Go.Proofs.Ytodgkhlnefggdaa
open Go.RowKit
set_option maxRecDepth 100000
namespace Tl
open Kn (K okK)
open Bit (bit withB memTo)
open Lc (at' RdK WordsOk laceB setB)
open Sg (isB bel belows NumsPost)

/-- those that stand behind are passed over -/
theorem insR_pass (L : List K) (x : Int) : ∀ (a b : List Int), (∀ y ∈ a, gtB L y x = true) → insR L x (a ++ b) = a ++ insR L x b := by
  intro a
  induction a with
  | nil => intro b _; rfl
  | cons y a ih =>
    intro b h
    show insR L x (y :: (a ++ b)) = y :: (a ++ insR L x b)
    conv => lhs; unfold insR
    rw [h y (by simp), if_pos rfl, ih b (fun z hz => h z (by simp [hz]))]
theorem insB_at (L : List K) (out : List Int) (x : Int) (k : Nat) (hk : k ≤ out.length) (h1 : ∀ j, k ≤ j → j < out.length → gtB L (out.getD j 0) x = true) (h2 : k = 0 ∨ gtB L (out.getD (k - 1) 0) x = false) : insB L out x = out.take k ++ ([x] ++ out.drop k) := by
  unfold insB
  have e : out.reverse = (out.drop k).reverse ++ (out.take k).reverse := by rw [← List.reverse_append, List.take_append_drop]
  rw [e, insR_pass]
  · have : insR L x (out.take k).reverse = x :: (out.take k).reverse := by
      rcases h2 with h2 | h2
      · subst h2; simp [insR]
      · by_cases hk0 : k = 0
        · subst hk0; simp [insR]
        · have hk1 : k - 1 < out.length := by omega
          have e2 : out.take k = out.take (k - 1) ++ [out.getD (k - 1) 0] := by
            have := Lc.take_snocI out (k - 1) hk1
            rwa [show k - 1 + 1 = k by omega] at this
          rw [e2, List.reverse_append]
          show insR L x (out.getD (k - 1) 0 :: (out.take (k - 1)).reverse) = _
          unfold insR
          rw [h2, if_neg (by simp)]
          rfl
    rw [this, List.reverse_append, List.reverse_reverse, List.reverse_cons, List.reverse_reverse, List.append_assoc]
  · intro y hy
    rw [List.mem_reverse] at hy
    obtain ⟨j, hj, rfl⟩ := List.mem_iff_getElem.1 hy
    have hj' : k + j < out.length := by simp at hj; omega
    have := h1 (k + j) (by omega) hj'
    rw [List.getElem_drop]
    simpa [List.getD, List.getElem?_eq_getElem hj'] using this
theorem ord_step (L : List K) (m : List Int) (i : Nat) (hi : i < m.length) : ordL L (m.take (i + 1)) = insB L (ordL L (m.take i)) (m.getD i 0) := by
  rw [Lc.take_snocI m i hi]
  unfold ordL
  rw [List.foldl_append]; rfl
theorem ord_len (L : List K) (m : List Int) : (ordL L m).length = m.length := (ord_perm L m).length_eq

/-- a number is stored into a row of the call's own -/
theorem own_put {B : Nat} {w : World} {g n cap : Nat} {a : List Int} (h : w.ownsRow B 2 1 (.slice (some ⟨g, 0, none⟩) n cap) n (a.map (Value.int .i64))) (j : Nat) (y : Int) : (w.setCell ⟨g, j, none⟩ (.int .i64 y)).ownsRow B 2 1 (.slice (some ⟨g, 0, none⟩) n cap) n ((a.set j y).map (Value.int .i64)) := by
  obtain ⟨h1, h2⟩ := h
  refine ⟨by simpa using h1, ?_⟩
  rcases h2 with ⟨h2, _⟩ | ⟨g2, c2, cur, e1, hB, hg, hn, hm, hs, ht⟩
  · injection h2 with h2 _; exact absurd h2 (by simp)
  · injection e1 with e1 _ e3
    injection e1 with e1
    injection e1 with e1
    subst e1 e3
    refine .inr ⟨g, cap, cur.setIfInBounds j (.int .i64 y), rfl, hB, heap_setCell_same w g j cur _ _ hg, hn, hm, by simpa using hs, ?_⟩
    rw [Array.toList_setIfInBounds, List.take_set, ht, List.map_set]
theorem own_frozen {B : Nat} {w : World} {g n cap : Nat} {xs : List Value} {t : TypeId} (h : w.ownsRow B t 1 (.slice (some ⟨g, 0, none⟩) n cap) n xs) (j : Nat) : w.frozen? ⟨g, j, none⟩ = false := by
  obtain ⟨_, ⟨h2, _⟩ | ⟨g2, c2, cur, e1, hB, hg, _⟩⟩ := h
  · injection h2 with h2 _; exact absurd h2 (by simp)
  · injection e1 with e1 _ _
    injection e1 with e1
    injection e1 with e1
    subst e1
    simp [World.frozen?, hg]

theorem shift_set (out : List Int) (k : Nat) (y : Int) (hk : k + 1 ≤ out.length) : (out.take (k + 1) ++ ([y] ++ out.drop (k + 1))).set (k + 1) (out.getD k 0) = out.take k ++ ([out.getD k 0] ++ out.drop k) := by
  have e1 : out.take (k + 1) = out.take k ++ [out.getD k 0] := Lc.take_snocI out k (by omega)
  have e2 : out.drop k = out.getD k 0 :: out.drop (k + 1) := by
    rw [List.drop_eq_getElem_cons (by omega : k < out.length)]
    simp [List.getD, List.getElem?_eq_getElem (by omega : k < out.length)]
  rw [e2, e1]
  have hl : (out.take k ++ [out.getD k 0]).length = k + 1 := by simp; omega
  rw [List.set_append_right _ _ (by rw [hl]; omega), hl]
  simp
theorem last_set (out : List Int) (k : Nat) (x y : Int) (hk : k ≤ out.length) : (out.take k ++ ([y] ++ out.drop k)).set k x = out.take k ++ ([x] ++ out.drop k) := by
  have hl : (out.take k).length = k := by simp; omega
  rw [List.set_append_right _ _ (by rw [hl]; omega), hl]
  simp

theorem shift_get (out : List Int) (k j : Nat) (rest : List Int) (hj : j < k) (hk : k ≤ out.length) : (out.take k ++ rest).getD j 0 = out.getD j 0 := by
  have h1 : j < (out.take k).length := by simp <;> omega
  simp [List.getD, List.getElem?_append_left h1, hj]

/-- the order so far, and the members that are put into it -/
structure OrSt (w wr : World) (mb : Nat) (m : List Int) (og cp : Nat) (o : List Int) : Prop where
  own : wr.ownsRow w.heap.size 2 1 (.slice (some ⟨og, 0, none⟩) o.length cp) o.length (o.map (Value.int .i64))
  bel : Below w.heap.size w wr
  mc : ∀ j, j < m.length → wr.cell? ⟨mb, j, none⟩ = some (.int .i64 (m.getD j 0))
  ne : 0 < m.length → og ≠ mb
  ml : 0 < m.length → mb < wr.heap.size
theorem OrSt.cell {w wr : World} {mb : Nat} {m : List Int} {og cp : Nat} {o : List Int} (s : OrSt w wr mb m og cp o) {j : Nat} (hj : j < o.length) : wr.cell? ⟨og, j, none⟩ = some (.int .i64 (o.getD j 0)) := by
  have : Memb.Own w.heap.size wr (some ⟨og, 0, none⟩) cp o := s.own
  rcases Lst.own_rd this with e | ⟨g, e, hc⟩
  · rw [e] at hj; simp at hj
  · injection e with e; injection e with e; subst e; exact hc j hj
theorem OrSt.lt {w wr : World} {mb : Nat} {m : List Int} {og cp : Nat} {o : List Int} (s : OrSt w wr mb m og cp o) : w.heap.size ≤ og ∧ og < wr.heap.size := World.ownsRow.lt s.own og rfl
theorem OrSt.put {w wr : World} {mb : Nat} {m : List Int} {og cp : Nat} {o : List Int} (s : OrSt w wr mb m og cp o) (j : Nat) (y : Int) : OrSt w (wr.setCell ⟨og, j, none⟩ (.int .i64 y)) mb m og cp (o.set j y) where
  own := by have := own_put s.own j y; simpa using this
  bel := s.bel.setCell (p := ⟨og, j, none⟩) s.lt.1 _
  mc := fun i hi => (World.cell?_of_block (w := wr) (Below.heap_setCell wr ⟨og, j, none⟩ _ mb (fun e => s.ne (by omega) e.symm))).trans (s.mc i hi)
  ne := s.ne
  ml := fun h => by simpa using s.ml h
theorem OrSt.drewN {w wr : World} {mb : Nat} {m : List Int} {og cp : Nat} {o : List Int} (s : OrSt w wr mb m og cp o) (n : Nat) : OrSt w (wr.drewN n) mb m og cp o := ⟨s.own, Db.below_drewN s.bel n, s.mc, s.ne, s.ml⟩
theorem OrSt.app {w wr w1 : World} {mb : Nat} {m : List Int} {og cp : Nat} {o : List Int} {x : Int} {v' : Value} {ob : Obj} (s : OrSt w wr mb m og cp o) (ho : w1.ownsRow w.heap.size 2 1 v' (o.length + 1) (o.map (Value.int .i64) ++ [.int .i64 x])) (hg : (wr.alloc ob).grownBy w1 (some og)) (hn : ¬ v' = .slice none 0 0) (ha : v'.ownBlock = some og ∨ v'.ownBlock = some (wr.alloc ob).heap.size) : ∃ g2 c2, v' = .slice (some ⟨g2, 0, none⟩) (o.length + 1) c2 ∧ OrSt w w1 mb m g2 c2 (o ++ [x]) := by
  have ho' := ho
  obtain ⟨_, ⟨hx, _⟩ | ⟨g2, c2, cur, hx, _⟩⟩ := ho'
  · exact absurd hx hn
  · subst hx
    have hb : Below w.heap.size w w1 := (s.bel.alloc s.bel.size ob).grown hg (by simp; have := s.bel.size; omega) (fun k hk => by cases hk; exact s.lt.1)
    refine ⟨g2, c2, rfl, by simpa using ho, hb, fun j hj => ?_, fun hm => ?_, fun hm => ?_⟩
    · have h1 : (wr.alloc ob).cell? ⟨mb, j, none⟩ = some (.int .i64 (m.getD j 0)) := by rw [World.cell?_alloc_lt _ _ _ (s.ml (by omega))]; exact s.mc j hj
      exact World.grownBy.cell hg h1 (by intro e; injection e with e; exact s.ne (by omega) e.symm)
    · have hml := s.ml hm
      have hne := s.ne hm
      simp [Value.ownBlock] at ha
      rcases ha with e | e
      · subst e; exact hne
      · omega
    · have h1 := hg.size
      have h2 := s.ml hm
      simp at h1; omega

end Tl
end Go.Proofs.Ytodgkhlnefggdaa
