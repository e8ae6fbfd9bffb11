/-
  The model's rooms, as they begin: what NewRoom hands back, and copies of a room's parts.
-/
import Derived.Test.YtfjmenhofllchaaGreatDoorRoomP
import Derived.Laws.AppendOwnNone
namespace Go.Proofs.YtfjmenhofllchaaGreatDoor
open Go.RowKit
set_option maxRecDepth 100000
namespace Rm
open Kn (K okK in3)
open Lc (at' RdK laceB takesB flat OwnK CellsK cellsOf)

/-! ### hands in a row -/
def hcells (h : Hd) : List Value := [.int .i64 h.who, .int .i64 h.has, .int .i64 h.kept, .int .i64 h.last]
def flatH (hs : Nat → Hd) (n : Nat) : List Value := (List.range n).flatMap fun i => hcells (hs i)
theorem flatH_succ (hs : Nat → Hd) (n : Nat) : flatH hs (n + 1) = flatH hs n ++ hcells (hs n) := by unfold flatH; rw [List.range_succ]; simp
theorem flatH_len (hs : Nat → Hd) (n : Nat) : (flatH hs n).length = n * 4 := by
  induction n with
  | zero => rfl
  | succ n ih => rw [flatH_succ, List.length_append, ih]; simp [hcells]; omega
theorem flatH_at (hs : Nat → Hd) (n i c : Nat) (hi : i < n) (hc : c < 4) : (flatH hs n)[i * 4 + c]? = (hcells (hs i))[c]? := by
  induction n with
  | zero => omega
  | succ n ih =>
    rw [flatH_succ]
    have hl := flatH_len hs n
    by_cases e : i = n
    · subst e
      rw [List.getElem?_append_right (by omega), hl]
      congr 1; omega
    · rw [List.getElem?_append_left (by omega)]
      exact ih (by omega)
theorem hcells_one (h : Hd) : ∀ u ∈ hcells h, u.oneCell' = true := by
  intro u hu
  simp [hcells] at hu
  rcases hu with rfl | rfl | rfl | rfl <;> rfl
theorem flatH_one (hs : Nat → Hd) (n : Nat) : ∀ u ∈ flatH hs n, u.oneCell' = true := by
  intro u hu
  unfold flatH at hu
  rw [List.mem_flatMap] at hu
  obtain ⟨i, _, hi⟩ := hu
  exact hcells_one _ u hi

theorem own_hands {w : World} {B g n cap : Nat} {t : TypeId} {hs : Nat → Hd} (h : w.ownsRow B t 4 (.slice (some ⟨g, 0, none⟩) n cap) n (flatH hs n)) (i : Nat) (hi : i < n) : HAt w g (i * 4) (hs i) := by
  have hlt := World.ownsRow.lt h g rfl
  have hc : ∀ c, c < 4 → w.cell? ⟨g, i * 4 + c, none⟩ = (hcells (hs i))[c]? := fun c hc => by
    rw [World.ownsRow.cellAt h (i * 4 + c) (by omega)]; exact flatH_at hs n i c hi hc
  have hf : ∀ c, w.frozen? ⟨g, i * 4 + c, none⟩ = false := fun c => World.ownsRow.frozenAt h (i * 4 + c)
  exact ⟨hlt.2, hc 0 (by omega), hc 1 (by omega), hc 2 (by omega), hc 3 (by omega), hf 0, hf 1, hf 2, hf 3⟩

theorem infoH : (Tryz.prog.info? 26).map (fun i => (i.zero, i.size, i.bytes)) = some (some (.agg #[.int .i64 0, .int .i64 0, .int .i64 0, .int .i64 0]), 4, 32) := by kernel_rfl

theorem new_hcells (W : World) (h : Hd) (t : TypeId) : ∀ (j : Nat) u, (hcells h)[j]? = some u → (W.alloc (.cells #[.int .i64 h.who, .int .i64 h.has, .int .i64 h.kept, .int .i64 h.last] t)).cell? ((⟨W.heap.size, 0, none⟩ : Addr).add j) = some u := by
  intro q u hq
  match q, hq with
  | 0, hq => simp [hcells] at hq; subst hq; simp [Addr.add]
  | 1, hq => simp [hcells] at hq; subst hq; simp [Addr.add]
  | 2, hq => simp [hcells] at hq; subst hq; simp [Addr.add]
  | 3, hq => simp [hcells] at hq; subst hq; simp [Addr.add]

/-! ### a room by value -/
def roV (R : Ro) : Value := .agg #[R.lv, R.cv, .slice (some ⟨R.gh, 0, none⟩) 4 R.hc, .int .i64 R.bad]

/-- coins lie there -/
def CoinsAt (w : World) (v : Value) : Prop := ∃ ao cap l, v = .slice ao l.length cap ∧ (ao = none → l = [] ∧ cap = 0) ∧ (∀ x, ao = some x → ∃ g, x = ⟨g, 0, none⟩ ∧ g < w.heap.size) ∧ l.length ≤ 6 ∧ Lst.Rd w ao l

theorem coinsAt_below {w w' : World} {v : Value} (h : CoinsAt w v) (hb : Below w.heap.size w w') : CoinsAt w' v := by
  obtain ⟨ao, cap, l, hv, h1, h2, h3, hrd⟩ := h
  refine ⟨ao, cap, l, hv, h1, fun x hx => ?_, h3, ?_⟩
  · obtain ⟨g, rfl, hg⟩ := h2 x hx; exact ⟨g, rfl, Nat.lt_of_lt_of_le hg hb.size⟩
  · rcases hrd with h | ⟨g, hg, hc⟩
    · exact .inl h
    · obtain ⟨g', e, hlt⟩ := h2 _ hg
      injection e with e
      subst e
      exact .inr ⟨g, hg, fun j hj => (hb.cell (p := ⟨g, j, none⟩) hlt).trans (hc j hj)⟩

theorem own_coins {w : World} {B : Nat} {ao : Option Addr} {cap : Nat} {l : List Int} (h : Memb.Own B w ao cap l) (hl : l.length ≤ 6) : CoinsAt w (.slice ao l.length cap) := by
  have hrd := Lst.own_rd h
  have hlt := World.ownsRow.lt h
  obtain ⟨_, ⟨hv, hn⟩ | ⟨g, cap', cur, hv, _⟩⟩ := h
  · injection hv with h1 h2 h3
    subst h1 h3
    exact ⟨none, 0, l, rfl, fun _ => ⟨List.eq_nil_of_length_eq_zero h2, rfl⟩, fun x e => (by cases e), hl, hrd⟩
  · injection hv with h1 h2 h3
    subst h1 h3
    exact ⟨_, _, l, rfl, fun e => (by cases e), fun x e => ⟨g, (by cases e; rfl), (hlt g rfl).2⟩, hl, hrd⟩

set_option maxHeartbeats 800000 in
theorem l1CopyN (w : World) : Calls Tryz.prog 152 #[.slice none 0 0] w (Sg.NumsPost [] w) := by
  obtain ⟨i0, hi, hz0, hz1, hz2⟩ := info_parts Memb.info2
  have HB : Hid (Memb.Own w.heap.size (w.alloc (.cells #[] 2)) (some ⟨w.heap.size, 0, none⟩) 0 [] ∧ Below w.heap.size w (w.alloc (.cells #[] 2))) := ⟨Memb.own_empty w, (Below.refl _ _).alloc (Nat.le_refl _) _⟩
  go_enter Tryz.func152, Tryz.ntmps152
  go_wp2_with (at_builtin; refine wpList_append_own_none rfl _ _ 51 rfl w.heap.size 2 i0 1 Tryz.underlying51 hi _ 0 [] rfl (Memb.own_empty w) rfl ?_)
  go_ret
  exact ⟨_, _, rfl, HB.out.1, HB.out.2⟩

theorem l1CopyC (v : Value) (w : World) (h : CoinsAt w v) : Calls Tryz.prog 152 #[v] w fun e w' => ∃ v', e = .returned v' ∧ CoinsAt w' v' ∧ Below w.heap.size w w' := by
  obtain ⟨ao, cap, l, rfl, h1, h2, h3, hrd⟩ := h
  cases ao with
  | none =>
    obtain ⟨rfl, rfl⟩ := h1 rfl
    refine (l1CopyN w).mono ?_
    rintro e w' ⟨bo, bc, rfl, ho, hb⟩
    exact ⟨_, rfl, own_coins ho (by simp), hb⟩
  | some x =>
    obtain ⟨g, rfl, hg⟩ := h2 x rfl
    refine (l1Copy g cap l w (by omega) hg hrd).mono ?_
    rintro e w' ⟨bo, bc, rfl, ho, hb⟩
    exact ⟨_, rfl, own_coins ho h3, hb⟩

/-- a right list of coins -/
def CoinsRight (w : World) (v : Value) : Prop := ∃ ao cap l, v = .slice ao l.length cap ∧ (∀ x, ao = some x → ∃ g, x = ⟨g, 0, none⟩ ∧ g < w.heap.size) ∧ l.length ≤ 6 ∧ Lst.Rd w ao l ∧ coinsB l = true

/-- what a new room is -/
structure NewR (B : Nat) (w : World) (R : Ro) : Prop where
  parts : Parts B w R
  L : R.L = []
  lv : R.lv = .slice none 0 0
  coins : CoinsAt w R.cv
  cB : ∀ g, R.cv.ownBlock = some g → B ≤ g
  cg : R.cv.ownBlock ≠ some R.gh

def NewPost (bad : Int) (w : World) (e : Ending) (w' : World) : Prop := ∃ R, e = .returned (.tuple #[roV R, .bool true]) ∧ NewR w.heap.size w' R ∧ R.bad = bad ∧ Below w.heap.size w w'

end Rm
end Go.Proofs.YtfjmenhofllchaaGreatDoor
