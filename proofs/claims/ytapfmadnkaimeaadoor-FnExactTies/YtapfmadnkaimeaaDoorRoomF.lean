/-
  Frames and places of a room in memory: what a step may change, where the room's parts lie; no program in it.
-/
import Derived.Test.YtapfmadnkaimeaaDoorRoomB
import Derived.Test.YtapfmadnkaimeaaDoorTieB
namespace Go.Proofs.YtapfmadnkaimeaaDoor
open Go.RowKit
set_option maxRecDepth 100000
namespace Rm
open Kn (K okK)
open Lc (at' RdK laceB flat OwnK)

/-- whatever lay there lies as it lay, but what S names -/
structure Fr (S : Nat → Prop) (w w' : World) : Prop where
  os : w'.os = w.os
  tape : w'.tape = w.tape
  output : w'.output = w.output
  size : w.heap.size ≤ w'.heap.size
  block : ∀ k, k < w.heap.size → ¬ S k → w'.heap[k]? = w.heap[k]?

theorem Fr.refl (S : Nat → Prop) (w : World) : Fr S w w := ⟨rfl, rfl, rfl, Nat.le_refl _, fun _ _ _ => rfl⟩
theorem Fr.trans {S T : Nat → Prop} {a b c : World} (h : Fr S a b) (k : Fr T b c) (hs : ∀ x, T x → x < a.heap.size → S x) : Fr S a c :=
  ⟨k.os.trans h.os, k.tape.trans h.tape, k.output.trans h.output, Nat.le_trans h.size k.size, fun x hx hn => (k.block x (Nat.lt_of_lt_of_le hx h.size) (fun ht => hn (hs x ht hx))).trans (h.block x hx hn)⟩
theorem Fr.mono {S T : Nat → Prop} {a b : World} (h : Fr S a b) (hs : ∀ x, S x → x < a.heap.size → T x) : Fr T a b :=
  ⟨h.os, h.tape, h.output, h.size, fun x hx hn => h.block x hx (fun hh => hn (hs x hh hx))⟩
theorem Fr.of_below {w w' : World} (h : Below w.heap.size w w') (S : Nat → Prop) : Fr S w w' := ⟨h.os, h.tape, h.output, h.size, fun k hk _ => h.block k hk⟩
theorem Fr.of_grown {w w' : World} {c : Nat} (h : w.grownBy w' (some c)) : Fr (fun x => x = c) w w' := ⟨h.os, h.tape, h.output, h.size, fun k hk hn => h.block k hk (fun e => hn (by cases e; rfl))⟩
theorem Fr.of_own {w w' : World} {v : Value} (h : w.grownBy w' v.ownBlock) : Fr (fun x => v.ownBlock = some x) w w' := ⟨h.os, h.tape, h.output, h.size, fun k hk hn => h.block k hk (fun e => hn e.symm)⟩
theorem Fr.set (w : World) (p : Addr) (u : Value) : Fr (fun x => x = p.block) w (w.setCell p u) := ⟨rfl, rfl, rfl, by simp, fun k _ hn => Below.heap_setCell w p u k hn⟩
theorem Fr.alloc (S : Nat → Prop) (w : World) (o : Obj) : Fr S w (w.alloc o) := Fr.of_below ((Below.refl _ _).alloc (Nat.le_refl _) o) S
theorem Fr.drew {S : Nat → Prop} {a b : World} (h : Fr S a b) : Fr S a b.drew := ⟨h.os, h.tape, h.output, h.size, h.block⟩
theorem Fr.drewN {S : Nat → Prop} {a b : World} (h : Fr S a b) (n : Nat) : Fr S a (b.drewN n) := ⟨h.os, h.tape, h.output, h.size, h.block⟩
theorem Fr.cell {S : Nat → Prop} {w w' : World} (h : Fr S w w') {p : Addr} (hp : p.block < w.heap.size) (hn : ¬ S p.block) : w'.cell? p = w.cell? p := World.cell?_of_block (w := w) (h.block p.block hp hn)
theorem Fr.frozen {S : Nat → Prop} {w w' : World} (h : Fr S w w') {p : Addr} (hp : p.block < w.heap.size) (hn : ¬ S p.block) : w'.frozen? p = w.frozen? p := World.frozen?_of_block (w := w) (h.block p.block hp hn)
theorem Fr.toBelow {S : Nat → Prop} {w w' : World} (h : Fr S w w') {B : Nat} (hB : B ≤ w.heap.size) (hs : ∀ x, S x → B ≤ x) : Below B w w' := ⟨h.os, h.tape, h.output, h.size, fun k hk => h.block k (by omega) (fun hh => by have := hs k hh; omega)⟩
theorem Fr.grown {w w' : World} {c : Nat} (h : Fr (fun x => x = c) w w') : w.grownBy w' (some c) := ⟨h.os, h.tape, h.output, h.size, fun k hk hn => h.block k hk (fun e => hn (by rw [e]))⟩

theorem own_fr {S : Nat → Prop} {w w' : World} (h : Fr S w w') {base : Nat} {e : TypeId} {size : Nat} {v : Value} {n : Nat} {xs : List Value} (ho : w.ownsRow base e size v n xs) (hn : ∀ g, v.ownBlock = some g → ¬ S g) : w'.ownsRow base e size v n xs := by
  obtain ⟨hx, h1 | ⟨g, cap, cur, rfl, hB, hg, rest⟩⟩ := ho
  · exact ⟨hx, .inl h1⟩
  · have hlt := (Array.getElem?_eq_some_iff.1 hg).1
    exact ⟨hx, .inr ⟨g, cap, cur, rfl, hB, (h.block g hlt (hn g rfl)).trans hg, rest⟩⟩

/-- an own list of knots: its shape, nil or not -/
theorem own_lace {t : TypeId} {base : Nat} {w : World} {v : Value} {L : List K} (h : w.ownsRow base t 4 v L.length (flat L)) :
    ∃ ao cap, v = .slice ao L.length cap ∧ (ao = none → L = [] ∧ cap = 0) ∧ (∀ x, ao = some x → x.spot = none) ∧ L.length ≤ cap ∧ RdK w ao L ∧ (∀ g, v.ownBlock = some g → base ≤ g ∧ g < w.heap.size) := by
  have hlt := World.ownsRow.lt h
  by_cases hv : v = .slice none 0 0
  · obtain ⟨_, ⟨_, hn⟩ | ⟨g, cap, cur, hv', _⟩⟩ := h
    · have hL : L = [] := List.eq_nil_of_length_eq_zero hn
      subst hL hv
      exact ⟨none, 0, rfl, fun _ => ⟨rfl, rfl⟩, fun _ e => (by cases e), Nat.le_refl _, .inl rfl, hlt⟩
    · rw [hv] at hv'; simp at hv'
  · obtain ⟨g, cap, hv', hcap, _, hbg, hgl, hrd, _⟩ := Lc.ownK_shape (⟨h, hv⟩ : OwnK t base w v L)
    subst hv'
    exact ⟨some ⟨g, 0, none⟩, cap, rfl, fun e => (by cases e), fun x e => (by cases e; rfl), hcap, hrd, hlt⟩

/-- a hand's four numbers -/
structure Hd where
  who : Int
  has : Int
  kept : Int
  last : Int

/-- they serve a lace of n knots -/
structure HdOk (n : Nat) (h : Hd) : Prop where
  h0 : 0 ≤ h.has
  h1 : h.has < 1152921504606846976
  k0 : 0 ≤ h.kept
  k1 : h.kept < 1152921504606846976
  la : h.last < (n : Int)

theorem HdOk.mono {n m : Nat} {h : Hd} (x : HdOk n h) (hm : n ≤ m) : HdOk m h := ⟨x.h0, x.h1, x.k0, x.k1, by have := x.la; omega⟩

/-- the hand lies there -/
def HAt (w : World) (g o : Nat) (h : Hd) : Prop := HandAt w g o h.who h.has h.kept h.last

theorem hat_fr {S : Nat → Prop} {w w' : World} {g o : Nat} {h : Hd} (x : HAt w g o h) (hf : Fr S w w') (hn : ¬ S g) : HAt w' g o h where
  lt := Nat.lt_of_lt_of_le x.lt hf.size
  c0 := (hf.cell (p := ⟨g, o, none⟩) x.lt hn).trans x.c0
  c1 := (hf.cell (p := ⟨g, o + 1, none⟩) x.lt hn).trans x.c1
  c2 := (hf.cell (p := ⟨g, o + 2, none⟩) x.lt hn).trans x.c2
  c3 := (hf.cell (p := ⟨g, o + 3, none⟩) x.lt hn).trans x.c3
  f0 := (hf.frozen (p := ⟨g, o, none⟩) x.lt hn).trans x.f0
  f1 := (hf.frozen (p := ⟨g, o + 1, none⟩) x.lt hn).trans x.f1
  f2 := (hf.frozen (p := ⟨g, o + 2, none⟩) x.lt hn).trans x.f2
  f3 := (hf.frozen (p := ⟨g, o + 3, none⟩) x.lt hn).trans x.f3

/-- what a room is, for its walks -/
structure Ro where
  L : List K
  lv : Value
  cv : Value
  gh : Nat
  hc : Nat
  hs : Nat → Hd
  bad : Int

/-- the parts of a room that lie elsewhere than in its own block -/
structure Parts (B : Nat) (w : World) (R : Ro) : Prop where
  own : w.ownsRow B 38 4 R.lv R.L.length (flat R.L)
  lace : laceB R.L = true
  hands : ∀ i, i < 4 → HAt w R.gh (i * 4) (R.hs i)
  hok : ∀ i, i < 4 → HdOk R.L.length (R.hs i)
  gB : B ≤ R.gh
  cap : 4 ≤ R.hc
  ne : R.lv.ownBlock ≠ some R.gh

/-- the room lies in block p -/
structure RoAt (B : Nat) (w : World) (p : Nat) (R : Ro) : Prop where
  lt : p < w.heap.size
  pB : B ≤ p
  c0 : w.cell? ⟨p, 0, none⟩ = some R.lv
  c1 : w.cell? ⟨p, 1, none⟩ = some R.cv
  c2 : w.cell? ⟨p, 2, none⟩ = some (.slice (some ⟨R.gh, 0, none⟩) 4 R.hc)
  c3 : w.cell? ⟨p, 3, none⟩ = some (.int .i64 R.bad)
  f0 : w.frozen? ⟨p, 0, none⟩ = false
  parts : Parts B w R
  n1 : p ≠ R.gh
  n2 : R.lv.ownBlock ≠ some p

/-- the blocks that are the room's -/
def roS (p : Nat) (R : Ro) (x : Nat) : Prop := x = p ∨ x = R.gh ∨ R.lv.ownBlock = some x

theorem parts_fr {S : Nat → Prop} {B : Nat} {w w' : World} {R : Ro} (x : Parts B w R) (hf : Fr S w w') (h1 : ¬ S R.gh) (h2 : ∀ g, R.lv.ownBlock = some g → ¬ S g) : Parts B w' R :=
  ⟨own_fr hf x.own h2, x.lace, fun i hi => hat_fr (x.hands i hi) hf h1, x.hok, x.gB, x.cap, x.ne⟩

theorem roat_fr {S : Nat → Prop} {B : Nat} {w w' : World} {p : Nat} {R : Ro} (x : RoAt B w p R) (hf : Fr S w w') (hn : ∀ g, roS p R g → ¬ S g) : RoAt B w' p R where
  lt := Nat.lt_of_lt_of_le x.lt hf.size
  pB := x.pB
  c0 := (hf.cell (p := ⟨p, 0, none⟩) x.lt (hn p (.inl rfl))).trans x.c0
  c1 := (hf.cell (p := ⟨p, 1, none⟩) x.lt (hn p (.inl rfl))).trans x.c1
  c2 := (hf.cell (p := ⟨p, 2, none⟩) x.lt (hn p (.inl rfl))).trans x.c2
  c3 := (hf.cell (p := ⟨p, 3, none⟩) x.lt (hn p (.inl rfl))).trans x.c3
  f0 := (hf.frozen (p := ⟨p, 0, none⟩) x.lt (hn p (.inl rfl))).trans x.f0
  parts := parts_fr x.parts hf (hn _ (.inr (.inl rfl))) (fun g hg => hn g (.inr (.inr hg)))
  n1 := x.n1
  n2 := x.n2

theorem roat_below {B : Nat} {w w' : World} {p : Nat} {R : Ro} (x : RoAt B w p R) (hb : Below w.heap.size w w') : RoAt B w' p R := roat_fr (S := fun _ => False) x (Fr.of_below hb _) (fun _ _ h => h)

theorem hat_below {w w' : World} {g o : Nat} {h : Hd} (x : HAt w g o h) (hb : Below w.heap.size w w') : HAt w' g o h := hat_fr (S := fun _ => False) x (Fr.of_below hb _) (fun h => h)


theorem hat_new (w : World) (h : Hd) (t : TypeId) : HAt (w.alloc (.cells #[.int .i64 h.who, .int .i64 h.has, .int .i64 h.kept, .int .i64 h.last] t)) w.heap.size 0 h := ⟨by simp, by simp, by simp, by simp, by simp, by simp, by simp, by simp, by simp⟩


theorem hput {w : World} {b : Nat} {z : Hd} (x : HAt w b 0 z) (v0 v1 v2 v3 : Value) :
    ((((w.setCell ⟨b, 0, none⟩ v0).setCell ⟨b, 1, none⟩ v1).setCell ⟨b, 2, none⟩ v2).setCell ⟨b, 3, none⟩ v3).cell? ⟨b, 0, none⟩ = some v0 ∧
    ((((w.setCell ⟨b, 0, none⟩ v0).setCell ⟨b, 1, none⟩ v1).setCell ⟨b, 2, none⟩ v2).setCell ⟨b, 3, none⟩ v3).cell? ⟨b, 1, none⟩ = some v1 ∧
    ((((w.setCell ⟨b, 0, none⟩ v0).setCell ⟨b, 1, none⟩ v1).setCell ⟨b, 2, none⟩ v2).setCell ⟨b, 3, none⟩ v3).cell? ⟨b, 2, none⟩ = some v2 ∧
    ((((w.setCell ⟨b, 0, none⟩ v0).setCell ⟨b, 1, none⟩ v1).setCell ⟨b, 2, none⟩ v2).setCell ⟨b, 3, none⟩ v3).cell? ⟨b, 3, none⟩ = some v3 := by
  obtain ⟨_, c0, c1, c2, c3, _, _, _, _⟩ := x
  simp only [Nat.zero_add] at c1 c2 c3
  refine ⟨?_, ?_, ?_, ?_⟩
  · rw [World.cell?_setCell_other _ _ _ _ (by simp), World.cell?_setCell_other _ _ _ _ (by simp), World.cell?_setCell_other _ _ _ _ (by simp)]
    exact World.cell?_setCell_same _ _ _ c0
  · rw [World.cell?_setCell_other _ _ _ _ (by simp), World.cell?_setCell_other _ _ _ _ (by simp)]
    exact World.cell?_setCell_same _ _ _ ((World.cell?_setCell_other _ _ _ _ (by simp)).trans c1)
  · rw [World.cell?_setCell_other _ _ _ _ (by simp)]
    exact World.cell?_setCell_same _ _ _ ((World.cell?_setCell_other _ _ _ _ (by simp)).trans ((World.cell?_setCell_other _ _ _ _ (by simp)).trans c2))
  · exact World.cell?_setCell_same _ _ _ ((World.cell?_setCell_other _ _ _ _ (by simp)).trans ((World.cell?_setCell_other _ _ _ _ (by simp)).trans ((World.cell?_setCell_other _ _ _ _ (by simp)).trans c3)))


/-- a number of a hand is written -/
theorem hat_has {w : World} {g o : Nat} {h : Hd} (x : HAt w g o h) (y : Int) : HAt (w.setCell ⟨g, o + 1, none⟩ (.int .i64 y)) g o { h with has := y } :=
  ⟨by simpa using x.lt, (World.cell?_setCell_other _ _ _ _ (by simp)).trans x.c0, World.cell?_setCell_same _ _ _ x.c1, (World.cell?_setCell_other _ _ _ _ (by simp)).trans x.c2, (World.cell?_setCell_other _ _ _ _ (by simp)).trans x.c3, by simpa using x.f0, by simpa using x.f1, by simpa using x.f2, by simpa using x.f3⟩

theorem hat_kept {w : World} {g o : Nat} {h : Hd} (x : HAt w g o h) (y : Int) : HAt (w.setCell ⟨g, o + 2, none⟩ (.int .i64 y)) g o { h with kept := y } :=
  ⟨by simpa using x.lt, (World.cell?_setCell_other _ _ _ _ (by simp)).trans x.c0, (World.cell?_setCell_other _ _ _ _ (by simp)).trans x.c1, World.cell?_setCell_same _ _ _ x.c2, (World.cell?_setCell_other _ _ _ _ (by simp)).trans x.c3, by simpa using x.f0, by simpa using x.f1, by simpa using x.f2, by simpa using x.f3⟩

theorem hat_last {w : World} {g o : Nat} {h : Hd} (x : HAt w g o h) (y : Int) : HAt (w.setCell ⟨g, o + 3, none⟩ (.int .i64 y)) g o { h with last := y } :=
  ⟨by simpa using x.lt, (World.cell?_setCell_other _ _ _ _ (by simp)).trans x.c0, (World.cell?_setCell_other _ _ _ _ (by simp)).trans x.c1, (World.cell?_setCell_other _ _ _ _ (by simp)).trans x.c2, World.cell?_setCell_same _ _ _ x.c3, by simpa using x.f0, by simpa using x.f1, by simpa using x.f2, by simpa using x.f3⟩

theorem hat_other {w : World} {g o p j : Nat} {h : Hd} (x : HAt w g o h) (hn : g ≠ p) (u : Value) : HAt (w.setCell ⟨p, j, none⟩ u) g o h := hat_fr x (Fr.set w ⟨p, j, none⟩ u) hn


theorem hat_drew {w : World} {g o : Nat} {h : Hd} (x : HAt w g o h) : HAt w.drew g o h := ⟨x.lt, x.c0, x.c1, x.c2, x.c3, x.f0, x.f1, x.f2, x.f3⟩


end Rm
end Go.Proofs.YtapfmadnkaimeaaDoor
