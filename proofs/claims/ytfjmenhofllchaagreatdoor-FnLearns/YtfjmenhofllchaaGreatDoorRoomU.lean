/-
  Towards the model's drawing of acts: an act in memory, what a draw keeps.
-/
import Derived.Test.YtfjmenhofllchaaGreatDoorRoomS
import Derived.Test.YtfjmenhofllchaaGreatDoorRoomT
import Derived.Deep.RegionHeld3
namespace Go.Proofs.YtfjmenhofllchaaGreatDoor
open Go.RowKit
set_option maxRecDepth 100000
namespace Rm
open Kn (K okK in3)
open Lc (at' RdK laceB takesB flat OwnK CellsK cellsOf)
open Cur (At)

/-- an act lies there -/
structure Q6 (w : World) (p : Nat) (a : Ac) : Prop where
  lt : p < w.heap.size
  c0 : w.cell? ⟨p, 0, none⟩ = some (.int .i64 a.kind)
  c1 : w.cell? ⟨p, 1, none⟩ = some (.int .i64 a.who)
  c2 : w.cell? ⟨p, 2, none⟩ = some (.int .i64 a.knot)
  c3 : w.cell? ⟨p, 3, none⟩ = some (.int .i64 a.round)
  c4 : w.cell? ⟨p, 4, none⟩ = some (.int .i64 a.frm)
  c5 : w.cell? ⟨p, 5, none⟩ = some (.string a.word)
  f0 : w.frozen? ⟨p, 0, none⟩ = false
  f1 : w.frozen? ⟨p, 1, none⟩ = false
  f2 : w.frozen? ⟨p, 2, none⟩ = false
  f3 : w.frozen? ⟨p, 3, none⟩ = false
  f4 : w.frozen? ⟨p, 4, none⟩ = false
  f5 : w.frozen? ⟨p, 5, none⟩ = false

theorem q6_fr {S : Nat → Prop} {w w' : World} {p : Nat} {a : Ac} (x : Q6 w p a) (hf : Fr S w w') (hn : ¬ S p) : Q6 w' p a where
  lt := Nat.lt_of_lt_of_le x.lt hf.size
  c0 := (hf.cell (p := ⟨p, 0, none⟩) x.lt hn).trans x.c0
  c1 := (hf.cell (p := ⟨p, 1, none⟩) x.lt hn).trans x.c1
  c2 := (hf.cell (p := ⟨p, 2, none⟩) x.lt hn).trans x.c2
  c3 := (hf.cell (p := ⟨p, 3, none⟩) x.lt hn).trans x.c3
  c4 := (hf.cell (p := ⟨p, 4, none⟩) x.lt hn).trans x.c4
  c5 := (hf.cell (p := ⟨p, 5, none⟩) x.lt hn).trans x.c5
  f0 := (hf.frozen (p := ⟨p, 0, none⟩) x.lt hn).trans x.f0
  f1 := (hf.frozen (p := ⟨p, 1, none⟩) x.lt hn).trans x.f1
  f2 := (hf.frozen (p := ⟨p, 2, none⟩) x.lt hn).trans x.f2
  f3 := (hf.frozen (p := ⟨p, 3, none⟩) x.lt hn).trans x.f3
  f4 := (hf.frozen (p := ⟨p, 4, none⟩) x.lt hn).trans x.f4
  f5 := (hf.frozen (p := ⟨p, 5, none⟩) x.lt hn).trans x.f5
theorem q6_below {w w' : World} {p : Nat} {a : Ac} (x : Q6 w p a) (hb : Below w.heap.size w w') : Q6 w' p a := q6_fr (S := fun _ => False) x (Fr.of_below hb _) (fun h => h)
theorem q6_new (w : World) (a : Ac) (t : TypeId) : Q6 (w.alloc (.cells #[.int .i64 a.kind, .int .i64 a.who, .int .i64 a.knot, .int .i64 a.round, .int .i64 a.frm, .string a.word] t)) w.heap.size a := ⟨by simp, by simp, by simp, by simp, by simp, by simp, by simp, by simp, by simp, by simp, by simp, by simp, by simp⟩

def zeroA : Ac := ⟨0, 0, 0, 0, 0, ⟨#[]⟩⟩

theorem q6_0 {w : World} {p : Nat} {a : Ac} (x : Q6 w p a) (y : Int) : Q6 (w.setCell ⟨p, 0, none⟩ (.int .i64 y)) p { a with kind := y } :=
  ⟨by simpa using x.lt, World.cell?_setCell_same _ _ _ x.c0, (World.cell?_setCell_other _ _ _ _ (by simp)).trans x.c1, (World.cell?_setCell_other _ _ _ _ (by simp)).trans x.c2, (World.cell?_setCell_other _ _ _ _ (by simp)).trans x.c3, (World.cell?_setCell_other _ _ _ _ (by simp)).trans x.c4, (World.cell?_setCell_other _ _ _ _ (by simp)).trans x.c5, by simpa using x.f0, by simpa using x.f1, by simpa using x.f2, by simpa using x.f3, by simpa using x.f4, by simpa using x.f5⟩
theorem q6_1 {w : World} {p : Nat} {a : Ac} (x : Q6 w p a) (y : Int) : Q6 (w.setCell ⟨p, 1, none⟩ (.int .i64 y)) p { a with who := y } :=
  ⟨by simpa using x.lt, (World.cell?_setCell_other _ _ _ _ (by simp)).trans x.c0, World.cell?_setCell_same _ _ _ x.c1, (World.cell?_setCell_other _ _ _ _ (by simp)).trans x.c2, (World.cell?_setCell_other _ _ _ _ (by simp)).trans x.c3, (World.cell?_setCell_other _ _ _ _ (by simp)).trans x.c4, (World.cell?_setCell_other _ _ _ _ (by simp)).trans x.c5, by simpa using x.f0, by simpa using x.f1, by simpa using x.f2, by simpa using x.f3, by simpa using x.f4, by simpa using x.f5⟩
theorem q6_2 {w : World} {p : Nat} {a : Ac} (x : Q6 w p a) (y : Int) : Q6 (w.setCell ⟨p, 2, none⟩ (.int .i64 y)) p { a with knot := y } :=
  ⟨by simpa using x.lt, (World.cell?_setCell_other _ _ _ _ (by simp)).trans x.c0, (World.cell?_setCell_other _ _ _ _ (by simp)).trans x.c1, World.cell?_setCell_same _ _ _ x.c2, (World.cell?_setCell_other _ _ _ _ (by simp)).trans x.c3, (World.cell?_setCell_other _ _ _ _ (by simp)).trans x.c4, (World.cell?_setCell_other _ _ _ _ (by simp)).trans x.c5, by simpa using x.f0, by simpa using x.f1, by simpa using x.f2, by simpa using x.f3, by simpa using x.f4, by simpa using x.f5⟩
theorem q6_3 {w : World} {p : Nat} {a : Ac} (x : Q6 w p a) (y : Int) : Q6 (w.setCell ⟨p, 3, none⟩ (.int .i64 y)) p { a with round := y } :=
  ⟨by simpa using x.lt, (World.cell?_setCell_other _ _ _ _ (by simp)).trans x.c0, (World.cell?_setCell_other _ _ _ _ (by simp)).trans x.c1, (World.cell?_setCell_other _ _ _ _ (by simp)).trans x.c2, World.cell?_setCell_same _ _ _ x.c3, (World.cell?_setCell_other _ _ _ _ (by simp)).trans x.c4, (World.cell?_setCell_other _ _ _ _ (by simp)).trans x.c5, by simpa using x.f0, by simpa using x.f1, by simpa using x.f2, by simpa using x.f3, by simpa using x.f4, by simpa using x.f5⟩
theorem q6_4 {w : World} {p : Nat} {a : Ac} (x : Q6 w p a) (y : Int) : Q6 (w.setCell ⟨p, 4, none⟩ (.int .i64 y)) p { a with frm := y } :=
  ⟨by simpa using x.lt, (World.cell?_setCell_other _ _ _ _ (by simp)).trans x.c0, (World.cell?_setCell_other _ _ _ _ (by simp)).trans x.c1, (World.cell?_setCell_other _ _ _ _ (by simp)).trans x.c2, (World.cell?_setCell_other _ _ _ _ (by simp)).trans x.c3, World.cell?_setCell_same _ _ _ x.c4, (World.cell?_setCell_other _ _ _ _ (by simp)).trans x.c5, by simpa using x.f0, by simpa using x.f1, by simpa using x.f2, by simpa using x.f3, by simpa using x.f4, by simpa using x.f5⟩
theorem q6_5 {w : World} {p : Nat} {a : Ac} (x : Q6 w p a) (y : ByteArray) : Q6 (w.setCell ⟨p, 5, none⟩ (.string y)) p { a with word := y } :=
  ⟨by simpa using x.lt, (World.cell?_setCell_other _ _ _ _ (by simp)).trans x.c0, (World.cell?_setCell_other _ _ _ _ (by simp)).trans x.c1, (World.cell?_setCell_other _ _ _ _ (by simp)).trans x.c2, (World.cell?_setCell_other _ _ _ _ (by simp)).trans x.c3, (World.cell?_setCell_other _ _ _ _ (by simp)).trans x.c4, World.cell?_setCell_same _ _ _ x.c5, by simpa using x.f0, by simpa using x.f1, by simpa using x.f2, by simpa using x.f3, by simpa using x.f4, by simpa using x.f5⟩

/-- a whole act is written -/
def set6 (V : World) (p : Nat) (a : Ac) : World := (((((V.setCell ⟨p, 0, none⟩ (.int .i64 a.kind)).setCell ⟨p, 1, none⟩ (.int .i64 a.who)).setCell ⟨p, 2, none⟩ (.int .i64 a.knot)).setCell ⟨p, 3, none⟩ (.int .i64 a.round)).setCell ⟨p, 4, none⟩ (.int .i64 a.frm)).setCell ⟨p, 5, none⟩ (.string a.word)
theorem set6_at {V : World} {p : Nat} {b a : Ac} (x : Q6 V p b) : Q6 (set6 V p a) p a := q6_5 (q6_4 (q6_3 (q6_2 (q6_1 (q6_0 x a.kind) a.who) a.knot) a.round) a.frm) a.word
theorem set6_fr (V : World) (p : Nat) (a : Ac) : Fr (fun x => x = p) V (set6 V p a) :=
  (((((Fr.set V ⟨p, 0, none⟩ _).trans (Fr.set _ ⟨p, 1, none⟩ _) (fun _ hx _ => hx)).trans (Fr.set _ ⟨p, 2, none⟩ _) (fun _ hx _ => hx)).trans (Fr.set _ ⟨p, 3, none⟩ _) (fun _ hx _ => hx)).trans (Fr.set _ ⟨p, 4, none⟩ _) (fun _ hx _ => hx)).trans (Fr.set _ ⟨p, 5, none⟩ _) (fun _ hx _ => hx)

theorem rdK_fr {S : Nat → Prop} {w w' : World} {ao : Option Addr} {L : List K} (h : RdK w ao L) (hf : Fr S w w') (hn : ∀ x, ao = some x → ¬ S x.block) : RdK w' ao L := by
  rcases h with h | ⟨g, off, ha, hg, hc⟩
  · exact .inl h
  · have hs : ¬ S g := hn _ ha
    exact .inr ⟨g, off, ha, Nat.lt_of_lt_of_le hg hf.size, fun i hi => ⟨(hf.cell (p := ⟨g, off + i * 4, none⟩) hg hs).trans (hc i hi).c0, (hf.cell (p := ⟨g, off + i * 4 + 1, none⟩) hg hs).trans (hc i hi).c1, (hf.cell (p := ⟨g, off + i * 4 + 2, none⟩) hg hs).trans (hc i hi).c2, (hf.cell (p := ⟨g, off + i * 4 + 3, none⟩) hg hs).trans (hc i hi).c3⟩⟩

/-- the drawing of an act so far: the cursor, the room's box, the answer's block, the act's block -/
structure AcSt (c : Nat) (a : Option Addr) (len cap : Nat) (w wr : World) (v0 v1 v2 v3 : Value) (ab : Nat) (x : Ac) : Prop where
  at' : At c a len cap wr
  fr : FrC c w wr
  box : Q4 wr w.heap.size v0 v1 v2 v3
  res : Q6 wr (w.heap.size + 1) zeroA
  act : Q6 wr ab x
  gt : w.heap.size + 1 < ab

theorem ac_cur {c : Nat} {a : Option Addr} {len cap : Nat} {w wr w1 : World} {v0 v1 v2 v3 : Value} {ab : Nat} {x : Ac} (s : AcSt c a len cap w wr v0 v1 v2 v3 ab x) (hc : c < w.heap.size) (hA : At c a len cap w1) (hG : wr.grownBy w1 (some c)) : AcSt c a len cap w w1 v0 v1 v2 v3 ab x :=
  have hf : Fr (fun y => y = c) wr w1 := Fr.of_grown hG
  have h3 := s.gt
  ⟨hA, s.fr.trans hf (fun _ hx _ => hx), q4_fr s.box hf (by omega), q6_fr s.res hf (by omega), q6_fr s.act hf (by omega), s.gt⟩

/-- something is written into the act's block, or above -/
theorem ac_put {c : Nat} {a : Option Addr} {len cap : Nat} {w wr w1 : World} {v0 v1 v2 v3 : Value} {ab : Nat} {x x' : Ac} (s : AcSt c a len cap w wr v0 v1 v2 v3 ab x) (hcb : CurB c a len w.heap.size) (hf : Fr (fun y => y = ab) wr w1) (hq : Q6 w1 ab x') : AcSt c a len cap w w1 v0 v1 v2 v3 ab x' :=
  have h3 := s.gt
  ⟨at_belowB s.at' hcb (hf.toBelow s.fr.size (fun y hy => by omega)), s.fr.trans hf (fun y hy hl => by omega), q4_fr s.box hf (by omega), q6_fr s.res hf (by omega), hq, s.gt⟩
theorem ac_below {c : Nat} {a : Option Addr} {len cap : Nat} {w wr w1 : World} {v0 v1 v2 v3 : Value} {ab : Nat} {x : Ac} (s : AcSt c a len cap w wr v0 v1 v2 v3 ab x) (hcb : CurB c a len w.heap.size) (hb : Below wr.heap.size wr w1) : AcSt c a len cap w w1 v0 v1 v2 v3 ab x := ac_put s hcb (Fr.of_below hb _) (q6_below s.act hb)

/-- how the drawing of an act ends -/
def AcPost (c : Nat) (a : Option Addr) (len cap : Nat) (w : World) (e : Ending) (w' : World) : Prop := ∃ x : Ac, e = .returned (acV x) ∧ x.word.size ≤ 13 ∧ At c a len cap w' ∧ FrC c w w'

theorem ac_fin {c : Nat} {a : Option Addr} {len cap : Nat} {w wr : World} {v0 v1 v2 v3 : Value} {ab : Nat} {x : Ac} (s : AcSt c a len cap w wr v0 v1 v2 v3 ab x) (hcb : CurB c a len w.heap.size) (hw : x.word.size ≤ 13) : AcPost c a len cap w (.returned (acV x)) (set6 wr (w.heap.size + 1) x) :=
  have hf := set6_fr wr (w.heap.size + 1) x
  ⟨x, rfl, hw, at_belowB s.at' hcb (hf.toBelow s.fr.size (fun y hy => by omega)), s.fr.trans hf (fun y hy hl => by omega)⟩

theorem ac_beg {c : Nat} {a : Option Addr} {len cap : Nat} {w W w1 : World} {v0 v1 v2 v3 : Value} (hc : c < w.heap.size) (hcb : CurB c a len w.heap.size) (hW : Below w.heap.size w W) (hq : Q4 W w.heap.size v0 v1 v2 v3) (hr : Q6 W (w.heap.size + 1) zeroA) (hA : At c a len cap w1) (hG : Fr (fun y => y = c) W w1) (x : Ac) (t : TypeId) :
    AcSt c a len cap w (w1.alloc (.cells #[.int .i64 x.kind, .int .i64 x.who, .int .i64 x.knot, .int .i64 x.round, .int .i64 x.frm, .string x.word] t)) v0 v1 v2 v3 w1.heap.size x := by
  have hb : Below w1.heap.size w1 (w1.alloc (.cells #[.int .i64 x.kind, .int .i64 x.who, .int .i64 x.knot, .int .i64 x.round, .int .i64 x.frm, .string x.word] t)) := (Below.refl _ _).alloc (Nat.le_refl _) _
  have hW1 : w.heap.size ≤ w1.heap.size := Nat.le_trans hW.size hG.size
  refine ⟨at_belowB hA hcb (hb.mono hW1), ((Fr.of_below hW _).trans hG (fun _ hx _ => hx)).trans (Fr.of_below hb (fun _ => False)) (fun _ hx _ => hx.elim), q4_below (q4_fr hq hG (by omega)) hb, q6_below (q6_fr hr hG (by omega)) hb, q6_new w1 x t, Nat.lt_of_lt_of_le hr.lt hG.size⟩

end Rm
end Go.Proofs.YtfjmenhofllchaaGreatDoor
