/-
  The model's NewRoom: at right coins and a bad one from -1 to 3 it hands back a new room in memory of its own.
-/
import Derived.Test.YtfjmenhofllchaaGreatDoorRoomQ
namespace Go.Proofs.YtfjmenhofllchaaGreatDoor
open Go.RowKit
set_option maxRecDepth 100000
namespace Rm
open Kn (K okK in3)
open Lc (at' RdK laceB takesB flat OwnK CellsK cellsOf)

theorem own_slice {w : World} {B : Nat} {t : TypeId} {size n : Nat} {v : Value} {xs : List Value} (h : w.ownsRow B t size v (n + 1) xs) : ∃ g cap, v = .slice (some ⟨g, 0, none⟩) (n + 1) cap ∧ B ≤ g ∧ g < w.heap.size ∧ n + 1 ≤ cap := by
  have hlt := World.ownsRow.lt h
  obtain ⟨_, ⟨_, hn⟩ | ⟨g, cap, cur, rfl, hB, _, hc, _⟩⟩ := h
  · omega
  · exact ⟨g, cap, rfl, hB, (hlt g rfl).2, hc⟩

/-- four cells of a block -/
structure Q4 (w : World) (p : Nat) (v0 v1 v2 v3 : Value) : Prop where
  lt : p < w.heap.size
  c0 : w.cell? ⟨p, 0, none⟩ = some v0
  c1 : w.cell? ⟨p, 1, none⟩ = some v1
  c2 : w.cell? ⟨p, 2, none⟩ = some v2
  c3 : w.cell? ⟨p, 3, none⟩ = some v3
  f0 : w.frozen? ⟨p, 0, none⟩ = false
  f1 : w.frozen? ⟨p, 1, none⟩ = false
  f2 : w.frozen? ⟨p, 2, none⟩ = false
  f3 : w.frozen? ⟨p, 3, none⟩ = false

theorem q4_fr {S : Nat → Prop} {w w' : World} {p : Nat} {v0 v1 v2 v3 : Value} (x : Q4 w p v0 v1 v2 v3) (hf : Fr S w w') (hn : ¬ S p) : Q4 w' p v0 v1 v2 v3 where
  lt := Nat.lt_of_lt_of_le x.lt hf.size
  c0 := (hf.cell (p := ⟨p, 0, none⟩) x.lt hn).trans x.c0
  c1 := (hf.cell (p := ⟨p, 1, none⟩) x.lt hn).trans x.c1
  c2 := (hf.cell (p := ⟨p, 2, none⟩) x.lt hn).trans x.c2
  c3 := (hf.cell (p := ⟨p, 3, none⟩) x.lt hn).trans x.c3
  f0 := (hf.frozen (p := ⟨p, 0, none⟩) x.lt hn).trans x.f0
  f1 := (hf.frozen (p := ⟨p, 1, none⟩) x.lt hn).trans x.f1
  f2 := (hf.frozen (p := ⟨p, 2, none⟩) x.lt hn).trans x.f2
  f3 := (hf.frozen (p := ⟨p, 3, none⟩) x.lt hn).trans x.f3
theorem q4_below {w w' : World} {p : Nat} {v0 v1 v2 v3 : Value} (x : Q4 w p v0 v1 v2 v3) (hb : Below w.heap.size w w') : Q4 w' p v0 v1 v2 v3 := q4_fr (S := fun _ => False) x (Fr.of_below hb _) (fun h => h)
theorem q4_new (w : World) (v0 v1 v2 v3 : Value) (t : TypeId) : Q4 (w.alloc (.cells #[v0, v1, v2, v3] t)) w.heap.size v0 v1 v2 v3 := ⟨by simp, by simp, by simp, by simp, by simp, by simp, by simp, by simp, by simp⟩
theorem q4_set2 {w : World} {p : Nat} {v0 v1 v2 v3 : Value} (x : Q4 w p v0 v1 v2 v3) (u : Value) : Q4 (w.setCell ⟨p, 2, none⟩ u) p v0 v1 u v3 :=
  ⟨by simpa using x.lt, (World.cell?_setCell_other _ _ _ _ (by simp)).trans x.c0, (World.cell?_setCell_other _ _ _ _ (by simp)).trans x.c1, World.cell?_setCell_same _ _ _ x.c2, (World.cell?_setCell_other _ _ _ _ (by simp)).trans x.c3, by simpa using x.f0, by simpa using x.f1, by simpa using x.f2, by simpa using x.f3⟩
def qset (w : World) (p : Nat) (u0 u1 u2 u3 : Value) : World := (((w.setCell ⟨p, 0, none⟩ u0).setCell ⟨p, 1, none⟩ u1).setCell ⟨p, 2, none⟩ u2).setCell ⟨p, 3, none⟩ u3
theorem q4_put {w : World} {p : Nat} {v0 v1 v2 v3 : Value} (x : Q4 w p v0 v1 v2 v3) (u0 u1 u2 u3 : Value) : Q4 (qset w p u0 u1 u2 u3) p u0 u1 u2 u3 := by
  have e : ∀ {W : World} {j : Nat} {u : Value}, (W.setCell ⟨p, j, none⟩ u).heap.size = W.heap.size := by intro W j u; simp
  refine ⟨by unfold qset; simpa using x.lt, ?_, ?_, ?_, ?_, by unfold qset; simpa using x.f0, by unfold qset; simpa using x.f1, by unfold qset; simpa using x.f2, by unfold qset; simpa using x.f3⟩
  · unfold qset
    rw [World.cell?_setCell_other _ _ _ _ (by simp), World.cell?_setCell_other _ _ _ _ (by simp), World.cell?_setCell_other _ _ _ _ (by simp)]
    exact World.cell?_setCell_same _ _ _ x.c0
  · unfold qset
    rw [World.cell?_setCell_other _ _ _ _ (by simp), World.cell?_setCell_other _ _ _ _ (by simp)]
    exact World.cell?_setCell_same _ _ _ ((World.cell?_setCell_other _ _ _ _ (by simp)).trans x.c1)
  · unfold qset
    rw [World.cell?_setCell_other _ _ _ _ (by simp)]
    exact World.cell?_setCell_same _ _ _ ((World.cell?_setCell_other _ _ _ _ (by simp)).trans ((World.cell?_setCell_other _ _ _ _ (by simp)).trans x.c2))
  · unfold qset
    exact World.cell?_setCell_same _ _ _ ((World.cell?_setCell_other _ _ _ _ (by simp)).trans ((World.cell?_setCell_other _ _ _ _ (by simp)).trans ((World.cell?_setCell_other _ _ _ _ (by simp)).trans x.c3)))
theorem qset_fr (w : World) (p : Nat) (u0 u1 u2 u3 : Value) : Fr (fun x => x = p) w (qset w p u0 u1 u2 u3) :=
  (((Fr.set w ⟨p, 0, none⟩ _).trans (Fr.set _ ⟨p, 1, none⟩ _) (fun _ hx _ => hx)).trans (Fr.set _ ⟨p, 2, none⟩ _) (fun _ hx _ => hx)).trans (Fr.set _ ⟨p, 3, none⟩ _) (fun _ hx _ => hx)

/-- the new room so far: j hands of it -/
structure NwSt (W wr : World) (pr : Nat) (cv : Value) (bad : Int) (j : Nat) (v : Value) : Prop where
  fr : Fr (fun x => x = pr) W wr
  q : Q4 wr pr (.slice none 0 0) cv v (.int .i64 bad)
  own : wr.ownsRow W.heap.size 26 4 v j (flatH newH j)

theorem nw_step {W wr w1 : World} {pr : Nat} {cv : Value} {bad : Int} {j : Nat} {v v' : Value} {o : Obj} (x : NwSt W wr pr cv bad j v) (hp : pr < W.heap.size) (ho : w1.ownsRow W.heap.size 26 4 v' (j + 1) (flatH newH j ++ hcells (newH j))) (hg : (wr.alloc o).grownBy w1 v.ownBlock) : NwSt W (w1.setCell ⟨pr, 2, none⟩ v') pr cv bad (j + 1) v' ∧ w1.cell? ⟨pr, 2, none⟩ = some v ∧ w1.frozen? ⟨pr, 2, none⟩ = false := by
  have hlt := World.ownsRow.lt x.own
  have hlt' := World.ownsRow.lt ho
  have hf1 : Fr (fun y => v.ownBlock = some y) wr w1 := (Fr.alloc _ wr o).trans (Fr.of_own hg) (fun _ hx _ => hx)
  have hnp : ¬ v.ownBlock = some pr := fun e => by have := (hlt pr e).1; omega
  have hf : Fr (fun y => y = pr) W w1 := x.fr.trans hf1 (fun y hy hl => by have := (hlt y hy).1; omega)
  have q1 := q4_fr x.q hf1 hnp
  refine ⟨⟨hf.trans (Fr.set w1 ⟨pr, 2, none⟩ v') (fun _ hx _ => hx), q4_set2 q1 v', ?_⟩, q1.c2, q1.f2⟩
  rw [flatH_succ]
  exact own_fr (Fr.set w1 ⟨pr, 2, none⟩ v') ho (fun y hy e => by have e' : y = pr := e; have := (hlt' y hy).1; omega)

theorem coinsAt_fr {S : Nat → Prop} {w w' : World} {v : Value} (h : CoinsAt w v) (hf : Fr S w w') (hn : ∀ g, v.ownBlock = some g → ¬ S g) : CoinsAt w' v := by
  obtain ⟨ao, cap, l, hv, h1, h2, h3, hrd⟩ := h
  refine ⟨ao, cap, l, hv, h1, fun x hx => ?_, h3, ?_⟩
  · obtain ⟨g, rfl, hg⟩ := h2 x hx; exact ⟨g, rfl, Nat.lt_of_lt_of_le hg hf.size⟩
  · rcases hrd with h | ⟨g, hg, hc⟩
    · exact .inl h
    · obtain ⟨g', e, hlt⟩ := h2 _ hg
      injection e with e
      subst e
      exact .inr ⟨g, hg, fun j hj => (hf.cell (p := ⟨g, j, none⟩) hlt (hn g (by rw [hv, hg]; rfl))).trans (hc j hj)⟩

theorem new_fin {w wr w5 : World} {cv : Value} {gh hc : Nat} {bad : Int} (hB : Below w.heap.size w wr) (hb : Below wr.heap.size wr w5) (hh : ∀ i, i < 4 → HAt wr gh (i * 4) (newH i)) (hco : CoinsAt wr cv) (hc4 : 4 ≤ hc) (hg : w.heap.size < gh) (hcg : ∀ g, cv.ownBlock = some g → w.heap.size < g) (hcgh : cv.ownBlock ≠ some gh) :
    NewPost bad w (.returned (.tuple #[.agg #[.slice none 0 0, cv, .slice (some ⟨gh, 0, none⟩) 4 hc, .int .i64 bad], .bool true])) (qset w5 w.heap.size (.slice none 0 0) cv (.slice (some ⟨gh, 0, none⟩) 4 hc) (.int .i64 bad)) := by
  have hB5 := hB.trans (hb.mono hB.size)
  have hq := qset_fr w5 w.heap.size (.slice none 0 0) cv (.slice (some ⟨gh, 0, none⟩) 4 hc) (.int .i64 bad)
  have hco5 := coinsAt_below hco hb
  refine ⟨⟨[], .slice none 0 0, cv, gh, hc, newH, bad⟩, rfl, ⟨⟨World.ownsRow_nil _ _ _ _, rfl, fun i hi => hat_fr (hat_below (hh i hi) hb) hq (fun e => by have e' : gh = w.heap.size := e; omega), fun i hi => ⟨by simp [newH], by simp [newH], by simp [newH], by simp [newH], by simp [newH]⟩, Nat.le_of_lt hg, hc4, by simp [Value.ownBlock]⟩, rfl, rfl, ?_, fun g hg' => Nat.le_of_lt (hcg g hg'), hcgh⟩, rfl, hB5.trans (hq.toBelow hB5.size (fun x hx => by omega))⟩
  exact coinsAt_fr hco5 hq (fun g hg' e => by have := hcg g hg'; omega)

set_option maxHeartbeats 3200000 in
theorem newRoom (g cap : Nat) (l : List Int) (bad : Int) (w : World) (hl : coinsB l = true) (hl6 : l.length ≤ 6) (hg : g < w.heap.size) (hrd : Lst.Rd w (some ⟨g, 0, none⟩) l) (hb0 : -1 ≤ bad) (hb1 : bad ≤ 3) :
    Calls Tryz.prog 139 #[.slice (some ⟨g, 0, none⟩) l.length cap, .int .i64 bad] w (NewPost bad w) := by
  obtain ⟨i0, hi, hz0, hz1, hz2⟩ := info_parts infoH
  have P0 : Hid (Below w.heap.size w (w.alloc (.cells #[.slice none 0 0, .slice none 0 0, .slice none 0 0, .int .i64 0] 107)) ∧ Q4 (w.alloc (.cells #[.slice none 0 0, .slice none 0 0, .slice none 0 0, .int .i64 0] 107)) w.heap.size (.slice none 0 0) (.slice none 0 0) (.slice none 0 0) (.int .i64 0)) := ⟨(Below.refl _ _).alloc (Nat.le_refl _) _, q4_new _ _ _ _ _ _⟩
  go_enter Tryz.func139, Tryz.ntmps139
  go_wp2_with fail
  generalize w.alloc (.cells #[.slice none 0 0, .slice none 0 0, .slice none 0 0, .int .i64 0] 107) = W0 at P0 ⊢
  have hg0 : g < W0.heap.size := Nat.lt_of_lt_of_le hg P0.out.1.size
  have hrd0 : Lst.Rd W0 (some ⟨g, 0, none⟩) l := by
    rcases hrd with h | ⟨g', hg', hc⟩
    · exact .inl h
    · injection hg' with e; injection e with e; subst e
      exact .inr ⟨g, rfl, fun j hj => (P0.out.1.cell (p := ⟨g, j, none⟩) hg).trans (hc j hj)⟩
  refine (l1Copy g cap l W0 (by omega) hg0 hrd0).mono ?_
  rintro e w1 ⟨co, cc, rfl, hown, hb1'⟩
  have HN : Hid (NwSt (w1.alloc (.cells #[.slice none 0 0, .slice co l.length cc, .slice none 0 0, .int .i64 bad] 107)) (w1.alloc (.cells #[.slice none 0 0, .slice co l.length cc, .slice none 0 0, .int .i64 bad] 107)) w1.heap.size (.slice co l.length cc) bad 0 (.slice none 0 0)) := ⟨Fr.refl _ _, q4_new _ _ _ _ _ _, World.ownsRow_nil _ _ _ _⟩
  have HP2 : Hid (Below w.heap.size w (w1.alloc (.cells #[.slice none 0 0, .slice co l.length cc, .slice none 0 0, .int .i64 bad] 107)) ∧ Q4 (w1.alloc (.cells #[.slice none 0 0, .slice co l.length cc, .slice none 0 0, .int .i64 bad] 107)) w.heap.size (.slice none 0 0) (.slice none 0 0) (.slice none 0 0) (.int .i64 0) ∧ Memb.Own W0.heap.size (w1.alloc (.cells #[.slice none 0 0, .slice co l.length cc, .slice none 0 0, .int .i64 bad] 107)) co cc l ∧ (∀ x, (Value.slice co l.length cc).ownBlock = some x → x < w1.heap.size) ∧ w1.heap.size < (w1.alloc (.cells #[.slice none 0 0, .slice co l.length cc, .slice none 0 0, .int .i64 bad] 107)).heap.size ∧ w.heap.size < w1.heap.size) := by
    have hB1 := P0.out.1.trans (hb1'.mono P0.out.1.size)
    exact ⟨hB1.alloc hB1.size _, q4_below (q4_below P0.out.2 hb1') ((Below.refl _ _).alloc (Nat.le_refl _) _), hown.alloc _, fun x hx => (World.ownsRow.lt hown x hx).2, by simp, Nat.lt_of_lt_of_le P0.out.2.lt hb1'.size⟩
  have hW0 : w.heap.size < W0.heap.size := P0.out.2.lt
  clear hown hb1' hrd0 hg0 P0 hrd hg
  go_wp2_with fail
  generalize w1.alloc (.cells #[.slice none 0 0, .slice co l.length cc, .slice none 0 0, .int .i64 bad] 107) = W2 at HN HP2 ⊢
  generalize w1.heap.size = pr at HN HP2 ⊢
  have hpr : pr < W2.heap.size := HP2.out.2.2.2.2.1
  go_loopw [7] (fun i wr => ∃ (j : Nat) (v : Value), j ≤ 4 ∧ i = .int .i64 j ∧ Hid (NwSt W2 wr pr (.slice co l.length cc) bad j v)) (fun i _ => 4 - (intOf i).toNat)
  case atStart => exact ⟨0, _, by omega, rfl, HN.out⟩
  case round =>
    obtain ⟨j, v, hj, rfl, HS⟩ := hrel
    by_cases hj4 : j < 4
    · have hj4' : (j : Int) < 4 := by omega
      have c2 := HS.out.q.c2
      have own := HS.out.own
      have hszr : W2.heap.size ≤ wr.heap.size := HS.out.fr.size
      go_wp2_with (at_builtin; refine wpList_append_own _ rfl _ _ 105 rfl W2.heap.size 26 i0 (.agg #[.int .i64 0, .int .i64 0, .int .i64 0, .int .i64 0]) 4 32 Tryz.underlying105 hi hz0 hz1 hz2 rfl (by decide) v j (flatH newH j) (by first | rfl | simp [Act.eval]) (own.alloc _) ⟨wr.heap.size, 0, none⟩ 1 1 (hcells (newH j)) (by first | rfl | simp [Act.eval]) rfl (new_hcells wr (newH j) _) (hcells_one _) ?c3 ?c4 ?c5 ?_)
      case c3 => unfold maxLen; omega
      case c4 => omega
      case c5 => simp; omega
      intro v' w3 hown' hgrow _
      obtain ⟨HS2, d2, e2⟩ := nw_step HS.out hpr hown' hgrow
      obtain ⟨g', cap', rfl, _, _, _⟩ := own_slice hown'
      have HS2' : Hid _ := HS2
      clear HS2 hown' hgrow own c2
      go_wp2
      go_roundw
      case rel => exact ⟨j + 1, _, by omega, by go_num, HS2'⟩
      case measure => simp [intOf]; omega
    · obtain rfl : j = 4 := by omega
      have h44 : ¬ ((4 : Nat) : Int) < 4 := by omega
      obtain ⟨gh, hc, rfl, hBg, hgl, hcap⟩ := own_slice HS.out.own
      obtain ⟨_, c0, c1, c2, c3, _, _, _, _⟩ := HS.out.q
      have HH : Hid (∀ i, i < 4 → HAt wr gh (i * 4) (newH i)) := fun i hi => own_hands HS.out.own i hi
      have hcon : Memb.Own W0.heap.size wr co cc l := own_fr HS.out.fr HP2.out.2.2.1 (fun x hx e => by have := HP2.out.2.2.2.1 x hx; omega)
      have hrdc := Lst.own_rd hcon
      have hcog : ∀ g, co = some ⟨g, 0, none⟩ → g < wr.heap.size := fun g hg => (World.ownsRow.lt hcon g (by rw [hg]; rfl)).2
      have hcgg : ∀ g, (Value.slice co l.length cc).ownBlock = some g → w.heap.size < g := fun g hg => by have := (World.ownsRow.lt hcon g hg).1; omega
      have HBw : Hid (Below w.heap.size w wr) := HP2.out.1.trans (HS.out.fr.toBelow HP2.out.1.size (fun x hx => by subst hx; have := HP2.out.2.2.2.2.2; omega))
      have HRB : Hid (Q4 wr w.heap.size (.slice none 0 0) (.slice none 0 0) (.slice none 0 0) (.int .i64 0)) := q4_fr HP2.out.2.1 HS.out.fr (by have := HP2.out.2.2.2.2.2; omega)
      have HCO : Hid (CoinsAt wr (.slice co l.length cc)) := own_coins hcon hl6
      have hprr : pr < wr.heap.size := Nat.lt_of_lt_of_le hpr HS.out.fr.size
      have hwg : w.heap.size < gh := by have h1 := HP2.out.2.2.2.2.1; have h2 := HP2.out.2.2.2.2.2; omega
      have hcgh : (Value.slice co l.length cc).ownBlock ≠ some gh := fun e => by have h1 := HP2.out.2.2.2.1 gh e; have h2 := HP2.out.2.2.2.2.1; omega
      clear HS HP2 HN hcon
      go_wp2_with fail
      refine (roomOkNew co cc l gh hc bad wr hl hl6 hrdc hcog HH.out hb0 hb1).mono ?_
      rintro e w5 ⟨rfl, hb5⟩
      have d0 := (hb5.cell (p := ⟨pr, 0, none⟩) hprr).trans c0
      have d1 := (hb5.cell (p := ⟨pr, 1, none⟩) hprr).trans c1
      have d2 := (hb5.cell (p := ⟨pr, 2, none⟩) hprr).trans c2
      have d3 := (hb5.cell (p := ⟨pr, 3, none⟩) hprr).trans c3
      have hQ5 := q4_below HRB.out hb5
      have HP := q4_put hQ5 (.slice none 0 0) (.slice co l.length cc) (.slice (some ⟨gh, 0, none⟩) 4 hc) (.int .i64 bad)
      have HE : Hid (NewPost bad w (.returned (.tuple #[.agg #[.slice none 0 0, .slice co l.length cc, .slice (some ⟨gh, 0, none⟩) 4 hc, .int .i64 bad], .bool true])) (qset w5 w.heap.size (.slice none 0 0) (.slice co l.length cc) (.slice (some ⟨gh, 0, none⟩) 4 hc) (.int .i64 bad))) := new_fin HBw.out hb5 HH.out HCO.out (by omega) hwg hcgg hcgh
      have HPP : Hid _ := HP
      obtain ⟨_, r0, r1, r2, r3, f0, f1, f2, f3⟩ := hQ5
      clear c0 c1 c2 c3 HP
      go_wp2
      obtain ⟨_, y0, y1, y2, y3, _, _, _, _⟩ := HPP.out
      unfold qset at y0 y1 y2 y3
      exact bodyPost_ret (v := .tuple #[.agg #[.slice none 0 0, .slice co l.length cc, .slice (some ⟨gh, 0, none⟩) 4 hc, .int .i64 bad], .bool true]) (by simp [results, Tryz.results139, go_sem, y0, y1, y2, y3]) rfl HE.out

end Rm
end Go.Proofs.YtfjmenhofllchaaGreatDoor
