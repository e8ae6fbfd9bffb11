/-
  Lists of acts in memory, and the model's drawing of a room, where the drawing of its acts keeps its word.
-/
import Derived.Test.YtfjmenhofllchaaGreatDoorRoomU
import Derived.Test.YtfjmenhofllchaaGreatDoorRoomO
namespace Go.Proofs.YtfjmenhofllchaaGreatDoor
open Go.RowKit
set_option maxRecDepth 100000
namespace Rm
open Kn (K okK in3)
open Lc (at' RdK laceB takesB flat OwnK CellsK cellsOf)
open Cur (At)

def acells (a : Ac) : List Value := [.int .i64 a.kind, .int .i64 a.who, .int .i64 a.knot, .int .i64 a.round, .int .i64 a.frm, .string a.word]
def flatA (As : List Ac) : List Value := As.flatMap acells
theorem flatA_snoc (As : List Ac) (a : Ac) : flatA (As ++ [a]) = flatA As ++ acells a := by unfold flatA; simp
theorem flatA_app (As Bs : List Ac) : flatA (As ++ Bs) = flatA As ++ flatA Bs := by unfold flatA; simp
theorem flatA_len (As : List Ac) : (flatA As).length = As.length * 6 := by
  induction As with
  | nil => rfl
  | cons a As ih =>
    have : flatA (a :: As) = acells a ++ flatA As := rfl
    rw [this, List.length_append, ih]; simp [acells]; omega
theorem acells_one (a : Ac) : ∀ u ∈ acells a, u.oneCell' = true := by
  intro u hu
  simp [acells] at hu
  rcases hu with rfl | rfl | rfl | rfl | rfl | rfl <;> rfl
theorem flatA_one (As : List Ac) : ∀ u ∈ flatA As, u.oneCell' = true := by
  intro u hu
  unfold flatA at hu
  rw [List.mem_flatMap] at hu
  obtain ⟨a, _, ha⟩ := hu
  exact acells_one a u ha
theorem flatA_at (As : List Ac) (i c : Nat) (hi : i < As.length) (hc : c < 6) : (flatA As)[i * 6 + c]? = (acells (As.getD i zeroA))[c]? := by
  induction As generalizing i with
  | nil => simp at hi
  | cons a As ih =>
    have e : flatA (a :: As) = acells a ++ flatA As := rfl
    have hl : (acells a).length = 6 := rfl
    rw [e]
    cases i with
    | zero => rw [List.getElem?_append_left (by omega)]; simp
    | succ i =>
      rw [List.getElem?_append_right (by omega), hl, show (i + 1) * 6 + c - 6 = i * 6 + c by omega, ih i (by simpa using hi)]
      simp

/-- short words -/
def Short (As : List Ac) : Prop := ∀ x ∈ As, x.word.size ≤ 13

/-- an own list of acts -/
structure ActsAt (B : Nat) (w : World) (v : Value) (As : List Ac) : Prop where
  own : w.ownsRow B 137 6 v As.length (flatA As)
  ne : v ≠ .slice none 0 0
  sh : Short As

theorem acts_shape {B : Nat} {w : World} {v : Value} {As : List Ac} (h : ActsAt B w v As) : ∃ g cap, v = .slice (some ⟨g, 0, none⟩) As.length cap ∧ B ≤ g ∧ g < w.heap.size := own_some h.own h.ne

theorem acts_cell {B g cap : Nat} {w : World} {As : List Ac} (h : w.ownsRow B 137 6 (.slice (some ⟨g, 0, none⟩) As.length cap) As.length (flatA As)) (i : Nat) (hi : i < As.length) :
    w.cell? ⟨g, i * 6, none⟩ = some (.int .i64 (As.getD i zeroA).kind) ∧ w.cell? ⟨g, i * 6 + 1, none⟩ = some (.int .i64 (As.getD i zeroA).who) ∧ w.cell? ⟨g, i * 6 + 2, none⟩ = some (.int .i64 (As.getD i zeroA).knot) ∧ w.cell? ⟨g, i * 6 + 3, none⟩ = some (.int .i64 (As.getD i zeroA).round) ∧ w.cell? ⟨g, i * 6 + 4, none⟩ = some (.int .i64 (As.getD i zeroA).frm) ∧ w.cell? ⟨g, i * 6 + 5, none⟩ = some (.string (As.getD i zeroA).word) := by
  have hc : ∀ c, c < 6 → w.cell? ⟨g, i * 6 + c, none⟩ = (acells (As.getD i zeroA))[c]? := fun c hc => by
    rw [World.ownsRow.cellAt h (i * 6 + c) (by omega)]; exact flatA_at As i c hi hc
  exact ⟨hc 0 (by omega), hc 1 (by omega), hc 2 (by omega), hc 3 (by omega), hc 4 (by omega), hc 5 (by omega)⟩

theorem short_at {As : List Ac} (h : Short As) (i : Nat) : (As.getD i zeroA).word.size ≤ 13 := by
  by_cases hi : i < As.length
  · exact h _ (by simp [List.getD, List.getElem?_eq_getElem hi])
  · simp [List.getD, List.getElem?_eq_none (Nat.le_of_not_lt hi)]; decide

/-- how the drawing of acts ends -/
def ActsPost (c : Nat) (a : Option Addr) (len cap : Nat) (w : World) (e : Ending) (w' : World) : Prop := ∃ v As, e = .returned v ∧ ActsAt w.heap.size w' v As ∧ As.length ≤ 1048576 ∧ At c a len cap w' ∧ FrC c w w'

/-- how the drawing of a room ends -/
def DrawPost (c : Nat) (a : Option Addr) (len cap : Nat) (w : World) (e : Ending) (w' : World) : Prop := ∃ R, e = .returned (roV R) ∧ Parts w.heap.size w' R ∧ At c a len cap w' ∧ FrC c w w'

/-- the playing so far: room and acts -/
structure PlSt (c : Nat) (a : Option Addr) (len cap : Nat) (w wr : World) (pr : Nat) (g : Nat) (v : Value) (As : List Ac) (R : Ro) : Prop where
  at' : At c a len cap wr
  fr : FrC c w wr
  ro : RoAt (w.heap.size + 1) wr pr R
  acts : wr.ownsRow w.heap.size 137 6 v As.length (flatA As)
  gv : v.ownBlock = some g
  n1 : g ≠ pr
  n2 : g ≠ R.gh
  n3 : R.lv.ownBlock ≠ some g
  res : Q4 wr w.heap.size (.slice none 0 0) (.slice none 0 0) (.slice none 0 0) (.int .i64 0)
  gB : w.heap.size < g
  sv : (∃ co n cc, R.cv = .slice co n cc)

theorem pl_step {c : Nat} {a : Option Addr} {len cap : Nat} {w wr w1 : World} {pr g : Nat} {v : Value} {As : List Ac} {R : Ro} {xo : Out} {e : Ending} (s : PlSt c a len cap w wr pr g v As R) (hcb : CurB c a len w.heap.size) (hd : DoPost (w.heap.size + 1) pr R xo wr e w1) :
    ∃ (b : Bool) (R' : Ro), e = .returned (.bool b) ∧ At c a len cap w1 ∧ FrC c w w1 ∧ RoAt (w.heap.size + 1) w1 pr R' ∧ w1.ownsRow w.heap.size 137 6 v As.length (flatA As) ∧ g ≠ R'.gh ∧ R'.lv.ownBlock ≠ some g ∧ R'.cv = R.cv ∧ Q4 w1 w.heap.size (.slice none 0 0) (.slice none 0 0) (.slice none 0 0) (.int .i64 0) := by
  obtain ⟨R', rfl, hro, hgh, hbad, hf, hlv⟩ := hd
  have hS : ∀ x, roS pr R x → w.heap.size + 1 ≤ x := fun x hx => by
    rcases hx with rfl | rfl | h
    · exact s.ro.pB
    · exact s.ro.parts.gB
    · exact (World.ownsRow.lt s.ro.parts.own x h).1
  have hlt := World.ownsRow.lt s.acts g s.gv
  refine ⟨xo.done, R', rfl, at_belowB s.at' hcb (hf.toBelow s.fr.size (fun x hx => by have := hS x hx; omega)), s.fr.trans hf (fun x hx hl => by have := hS x hx; omega), hro, own_fr hf s.acts (fun y hy hn => ?_), by rw [hgh]; exact s.n2, fun e => ?_, hbad.2.1, q4_fr s.res hf (fun hn => by have := hS _ hn; omega)⟩
  · have : y = g := by have := s.gv; rw [hy] at this; injection this
    subst this
    rcases hn with h | h | h
    · exact s.n1 h
    · exact s.n2 h
    · exact s.n3 h
  · rcases hlv g e with h | h
    · exact s.n3 h
    · omega

end Rm
end Go.Proofs.YtfjmenhofllchaaGreatDoor
