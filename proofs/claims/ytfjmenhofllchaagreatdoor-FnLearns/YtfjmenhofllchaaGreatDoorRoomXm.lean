/-
  What the model's drawing of the bad hand's act hands back: an act with a short word; it changes the cursor alone.
  What one act does in a room, whatever act it is: the room stays one; nothing else is changed.
  Lists of acts in memory, and the model's drawing of a room, where the drawing of its acts keeps its word.
  The model's drawing of a round: where the drawing of the bad hand's act keeps its word, it hands back a list of acts in memory of its own; it changes the cursor and the room alone.
  The model's drawing of a room, where the drawing of its acts keeps its word: it comes back, with a room whose lace is a lace in memory of its own; it changes the cursor alone.
  The model's drawing of acts: where the drawing of one act and of the bad hand's keep their word, it hands back a list of acts in memory of its own; it changes the cursor alone.
  What the model's drawing of an act hands back, where the drawing of the bad hand's keeps its word: an act with a short word; it changes the cursor alone.
  The model's drawing of a room, with its coins: they lie in memory of the drawing's own, as they were drawn.
  The model's cursor, exactly: what it answers hangs on its own cells and the code's byte alone; for codes of at most 4096 bytes.
-/
import Derived.Test.YtfjmenhofllchaaGreatDoorRoomN
import Derived.Test.YtfjmenhofllchaaGreatDoorRoomK
import Derived.Test.YtfjmenhofllchaaGreatDoorRoomJ
import Derived.Test.YtfjmenhofllchaaGreatDoorRoomU
import Derived.Maps.AppendAt
import Derived.Deep.CutBlock
import Derived.Test.YtfjmenhofllchaaGreatDoorCur
namespace Go.Proofs.YtfjmenhofllchaaGreatDoor
open Go.RowKit
set_option maxRecDepth 100000
namespace Rm

open Kn (K in3)

/-- what comes of an act in a right room -/
def actO (L : List K) (hs : Nat → Hd) (bad : Int) (a : Ac) : Out :=
  if a.kind = 5 then badOut L hs bad a
  else if (in3 a.who && (a.who != bad)) = false then ⟨false, L, hs⟩
  else if a.kind = 1 then tieOut L hs a.who.toNat a.word
  else if a.kind = 2 then learnOut L hs a.who.toNat a.knot
  else if a.kind = 3 then ⟨true, L, upd hs a.who.toNat { hs a.who.toNat with kept := (hs a.who.toNat).has }⟩
  else if a.kind = 4 then ⟨true, L, upd hs a.who.toNat { hs a.who.toNat with has := (hs a.who.toNat).kept }⟩
  else ⟨false, L, hs⟩

theorem l18Do (B p : Nat) (R : Ro) (a : Ac) (w : World) (hr : RoAt B w p R) (hwd : a.word.size ≤ 1099511627776) : Calls Tryz.prog 114 #[.pointer (some ⟨p, 0, none⟩), acV a] w (DoPost B p R (actO R.L R.hs R.bad a) w) := by
  by_cases h5 : a.kind = 5
  · exact doBad B p R a w hr h5 hwd _ (by show _ = _; unfold actO; rw [if_pos h5])
  · cases hg : goodB R a
    · exact doNot B p R a w hr h5 hg _ (by show _ = _; unfold actO; rw [if_neg h5, if_pos (show (in3 a.who && (a.who != R.bad)) = false from hg)])
    · have hn : ¬ (in3 a.who && (a.who != R.bad)) = false := by rw [show (in3 a.who && (a.who != R.bad)) = true from hg]; simp
      by_cases h1 : a.kind = 1
      · exact doTie B p R a w hr h1 hg hwd _ (by show _ = _; unfold actO; rw [if_neg h5, if_neg hn, if_pos h1])
      · by_cases h2 : a.kind = 2
        · exact doShow B p R a w hr h2 hg _ (by show _ = _; unfold actO; rw [if_neg h5, if_neg hn, if_neg h1, if_pos h2])
        · by_cases h3 : a.kind = 3
          · exact doKeep B p R a w hr h3 hg _ (by show _ = _; unfold actO; rw [if_neg h5, if_neg hn, if_neg h1, if_neg h2, if_pos h3])
          · by_cases h4 : a.kind = 4
            · exact doForget B p R a w hr h4 hg _ (by show _ = _; unfold actO; rw [if_neg h5, if_neg hn, if_neg h1, if_neg h2, if_neg h3, if_pos h4])
            · exact doElse B p R a w hr h1 h2 h3 h4 h5 hg _ (by show _ = _; unfold actO; rw [if_neg h5, if_neg hn, if_neg h1, if_neg h2, if_neg h3, if_neg h4])

end Rm
end Go.Proofs.YtfjmenhofllchaaGreatDoor

namespace Go.Proofs.YtfjmenhofllchaaGreatDoor
open Go.RowKit
set_option maxRecDepth 100000
namespace Rm
open Kn (K okK in3)
open Lc (at' RdK laceB takesB flat OwnK CellsK cellsOf)
open Cur (At)

def acells (a : Ac) : List Value := [.int .i64 a.kind, .int .i64 a.who, .int .i64 a.knot, .int .i64 a.round, .int .i64 a.frm, .string a.word]
def flatA (As : List Ac) : List Value := As.flatMap acells
theorem flatA_snoc (As : List Ac) (a : Ac) : flatA (As ++ [a]) = flatA As ++ acells a := by unfold flatA; simp
theorem flatA_app (As Bs : List Ac) : flatA (As ++ Bs) = flatA As ++ flatA Bs := by unfold flatA; simp
theorem flatA_len (As : List Ac) : (flatA As).length = As.length * 6 := by
  induction As with
  | nil => rfl
  | cons a As ih =>
    have : flatA (a :: As) = acells a ++ flatA As := rfl
    rw [this, List.length_append, ih]; simp [acells]; omega
theorem acells_one (a : Ac) : ∀ u ∈ acells a, u.oneCell' = true := by
  intro u hu
  simp [acells] at hu
  rcases hu with rfl | rfl | rfl | rfl | rfl | rfl <;> rfl
theorem flatA_one (As : List Ac) : ∀ u ∈ flatA As, u.oneCell' = true := by
  intro u hu
  unfold flatA at hu
  rw [List.mem_flatMap] at hu
  obtain ⟨a, _, ha⟩ := hu
  exact acells_one a u ha
theorem flatA_at (As : List Ac) (i c : Nat) (hi : i < As.length) (hc : c < 6) : (flatA As)[i * 6 + c]? = (acells (As.getD i zeroA))[c]? := by
  induction As generalizing i with
  | nil => simp at hi
  | cons a As ih =>
    have e : flatA (a :: As) = acells a ++ flatA As := rfl
    have hl : (acells a).length = 6 := rfl
    rw [e]
    cases i with
    | zero => rw [List.getElem?_append_left (by omega)]; simp
    | succ i =>
      rw [List.getElem?_append_right (by omega), hl, show (i + 1) * 6 + c - 6 = i * 6 + c by omega, ih i (by simpa using hi)]
      simp

/-- short words -/
def Short (As : List Ac) : Prop := ∀ x ∈ As, x.word.size ≤ 13

/-- an own list of acts -/
structure ActsAt (B : Nat) (w : World) (v : Value) (As : List Ac) : Prop where
  own : w.ownsRow B 137 6 v As.length (flatA As)
  ne : v ≠ .slice none 0 0
  sh : Short As

theorem acts_shape {B : Nat} {w : World} {v : Value} {As : List Ac} (h : ActsAt B w v As) : ∃ g cap, v = .slice (some ⟨g, 0, none⟩) As.length cap ∧ B ≤ g ∧ g < w.heap.size := own_some h.own h.ne

theorem acts_cell {B g cap : Nat} {w : World} {As : List Ac} (h : w.ownsRow B 137 6 (.slice (some ⟨g, 0, none⟩) As.length cap) As.length (flatA As)) (i : Nat) (hi : i < As.length) :
    w.cell? ⟨g, i * 6, none⟩ = some (.int .i64 (As.getD i zeroA).kind) ∧ w.cell? ⟨g, i * 6 + 1, none⟩ = some (.int .i64 (As.getD i zeroA).who) ∧ w.cell? ⟨g, i * 6 + 2, none⟩ = some (.int .i64 (As.getD i zeroA).knot) ∧ w.cell? ⟨g, i * 6 + 3, none⟩ = some (.int .i64 (As.getD i zeroA).round) ∧ w.cell? ⟨g, i * 6 + 4, none⟩ = some (.int .i64 (As.getD i zeroA).frm) ∧ w.cell? ⟨g, i * 6 + 5, none⟩ = some (.string (As.getD i zeroA).word) := by
  have hc : ∀ c, c < 6 → w.cell? ⟨g, i * 6 + c, none⟩ = (acells (As.getD i zeroA))[c]? := fun c hc => by
    rw [World.ownsRow.cellAt h (i * 6 + c) (by omega)]; exact flatA_at As i c hi hc
  exact ⟨hc 0 (by omega), hc 1 (by omega), hc 2 (by omega), hc 3 (by omega), hc 4 (by omega), hc 5 (by omega)⟩

theorem short_at {As : List Ac} (h : Short As) (i : Nat) : (As.getD i zeroA).word.size ≤ 13 := by
  by_cases hi : i < As.length
  · exact h _ (by simp [List.getD, List.getElem?_eq_getElem hi])
  · simp [List.getD, List.getElem?_eq_none (Nat.le_of_not_lt hi)]; decide

/-- how the drawing of acts ends -/
def ActsPost (c : Nat) (a : Option Addr) (len cap : Nat) (w : World) (e : Ending) (w' : World) : Prop := ∃ v As, e = .returned v ∧ ActsAt w.heap.size w' v As ∧ As.length ≤ 1048576 ∧ At c a len cap w' ∧ FrC c w w'

/-- how the drawing of a room ends -/
def DrawPost (c : Nat) (a : Option Addr) (len cap : Nat) (w : World) (e : Ending) (w' : World) : Prop := ∃ R, e = .returned (roV R) ∧ Parts w.heap.size w' R ∧ At c a len cap w' ∧ FrC c w w'

/-- the playing so far: room and acts -/
structure PlSt (c : Nat) (a : Option Addr) (len cap : Nat) (w wr : World) (pr : Nat) (g : Nat) (v : Value) (As : List Ac) (R : Ro) : Prop where
  at' : At c a len cap wr
  fr : FrC c w wr
  ro : RoAt (w.heap.size + 1) wr pr R
  acts : wr.ownsRow w.heap.size 137 6 v As.length (flatA As)
  gv : v.ownBlock = some g
  n1 : g ≠ pr
  n2 : g ≠ R.gh
  n3 : R.lv.ownBlock ≠ some g
  res : Q4 wr w.heap.size (.slice none 0 0) (.slice none 0 0) (.slice none 0 0) (.int .i64 0)
  gB : w.heap.size < g
  sv : (∃ co n cc, R.cv = .slice co n cc)

theorem pl_step {c : Nat} {a : Option Addr} {len cap : Nat} {w wr w1 : World} {pr g : Nat} {v : Value} {As : List Ac} {R : Ro} {xo : Out} {e : Ending} (s : PlSt c a len cap w wr pr g v As R) (hcb : CurB c a len w.heap.size) (hd : DoPost (w.heap.size + 1) pr R xo wr e w1) :
    ∃ (b : Bool) (R' : Ro), e = .returned (.bool b) ∧ At c a len cap w1 ∧ FrC c w w1 ∧ RoAt (w.heap.size + 1) w1 pr R' ∧ w1.ownsRow w.heap.size 137 6 v As.length (flatA As) ∧ g ≠ R'.gh ∧ R'.lv.ownBlock ≠ some g ∧ R'.cv = R.cv ∧ Q4 w1 w.heap.size (.slice none 0 0) (.slice none 0 0) (.slice none 0 0) (.int .i64 0) := by
  obtain ⟨R', rfl, hro, hgh, hbad, hf, hlv⟩ := hd
  have hS : ∀ x, roS pr R x → w.heap.size + 1 ≤ x := fun x hx => by
    rcases hx with rfl | rfl | h
    · exact s.ro.pB
    · exact s.ro.parts.gB
    · exact (World.ownsRow.lt s.ro.parts.own x h).1
  have hlt := World.ownsRow.lt s.acts g s.gv
  refine ⟨xo.done, R', rfl, at_belowB s.at' hcb (hf.toBelow s.fr.size (fun x hx => by have := hS x hx; omega)), s.fr.trans hf (fun x hx hl => by have := hS x hx; omega), hro, own_fr hf s.acts (fun y hy hn => ?_), by rw [hgh]; exact s.n2, fun e => ?_, hbad.2.1, q4_fr s.res hf (fun hn => by have := hS _ hn; omega)⟩
  · have : y = g := by have := s.gv; rw [hy] at this; injection this
    subst this
    rcases hn with h | h | h
    · exact s.n1 h
    · exact s.n2 h
    · exact s.n3 h
  · rcases hlv g e with h | h
    · exact s.n3 h
    · omega

end Rm
end Go.Proofs.YtfjmenhofllchaaGreatDoor

namespace Go.Proofs.YtfjmenhofllchaaGreatDoor
open Go.RowKit
set_option maxRecDepth 100000
namespace Rm
open Kn (K okK in3)
open Lc (at' RdK laceB takesB flat OwnK CellsK cellsOf)
open Cur (At)

/-- the drawing of the bad hand's act keeps its word -/
def DrawsBad : Prop := ∀ (c : Nat) (a : Option Addr) (len cap : Nat) (ao : Option Addr) (cp : Nat) (L : List K) (co : Option Addr) (nc cc : Nat) (go : Option Addr) (nh hc : Nat) (bad : Int) (w : World), len ≤ 4096 → At c a len cap w → laceB L = true → RdK w ao L → (∀ x, ao = some x → ¬ x.block = c) → Calls Tryz.prog 154 #[.pointer (some ⟨c, 0, none⟩), .agg #[.slice ao L.length cp, .slice co nc cc, .slice go nh hc, .int .i64 bad]] w (AcPost c a len cap w)

theorem infoA : (Tryz.prog.info? 137).map (fun i => (i.zero, i.size, i.bytes)) = some (some (.agg #[.int .i64 0, .int .i64 0, .int .i64 0, .int .i64 0, .int .i64 0, .string ⟨#[]⟩]), 6, 56) := by kernel_rfl

theorem new_acells (W : World) (x : Ac) (t : TypeId) : ∀ (j : Nat) u, (acells x)[j]? = some u → (W.alloc (.cells #[.int .i64 x.kind, .int .i64 x.who, .int .i64 x.knot, .int .i64 x.round, .int .i64 x.frm, .string x.word] t)).cell? ((⟨W.heap.size, 0, none⟩ : Addr).add j) = some u := by
  intro q u hq
  match q, hq with
  | 0, hq => simp [acells] at hq; subst hq; simp [Addr.add]
  | 1, hq => simp [acells] at hq; subst hq; simp [Addr.add]
  | 2, hq => simp [acells] at hq; subst hq; simp [Addr.add]
  | 3, hq => simp [acells] at hq; subst hq; simp [Addr.add]
  | 4, hq => simp [acells] at hq; subst hq; simp [Addr.add]
  | 5, hq => simp [acells] at hq; subst hq; simp [Addr.add]

theorem own_nilA (w : World) (t : TypeId) : (w.alloc (.cells #[] t)).ownsRow w.heap.size t 6 (.slice (some ⟨w.heap.size, 0, none⟩) 0 0) 0 [] := by
  refine ⟨rfl, .inr ⟨w.heap.size, 0, #[], rfl, Nat.le_refl _, ?_, Nat.le_refl _, by unfold maxLen; omega, rfl, rfl⟩⟩
  show (w.heap.push _)[w.heap.size]? = _
  rw [Array.getElem?_push_size]

/-- the acts drawn so far -/
structure RuSt (c : Nat) (a : Option Addr) (len cap : Nat) (w wr : World) (v : Value) (As : List Ac) : Prop where
  at' : At c a len cap wr
  fr : FrC c w wr
  acts : ActsAt w.heap.size wr v As

theorem ru_cur {c : Nat} {a : Option Addr} {len cap : Nat} {w wr w1 : World} {v : Value} {As : List Ac} (s : RuSt c a len cap w wr v As) (hc : c < w.heap.size) (hA : At c a len cap w1) (hG : Fr (fun y => y = c) wr w1) : RuSt c a len cap w w1 v As :=
  ⟨hA, s.fr.trans hG (fun _ hx _ => hx), ⟨own_fr hG s.acts.own (fun g hg e => by have := (World.ownsRow.lt s.acts.own g hg).1; omega), s.acts.ne, s.acts.sh⟩⟩

theorem ru_app {c : Nat} {a : Option Addr} {len cap : Nat} {w w1 w2 : World} {v v' : Value} {As : List Ac} {x : Ac} {o : Obj} (s : RuSt c a len cap w w1 v As) (hcb : CurB c a len w.heap.size) (hx : x.word.size ≤ 13) (ho : w2.ownsRow w.heap.size 137 6 v' (As.length + 1) (flatA As ++ acells x)) (hg : (w1.alloc o).grownBy w2 v.ownBlock) (hn : ¬ v' = .slice none 0 0) : RuSt c a len cap w w2 v' (As ++ [x]) := by
  have hlt := World.ownsRow.lt s.acts.own
  have hf1 : Fr (fun y => v.ownBlock = some y) w1 w2 := (Fr.alloc _ w1 o).trans (Fr.of_own hg) (fun _ hx _ => hx)
  refine ⟨at_belowB s.at' hcb (hf1.toBelow s.fr.size (fun y hy => (hlt y hy).1)), s.fr.trans hf1 (fun y hy hl => by have := (hlt y hy).1; omega), ⟨?_, hn, ?_⟩⟩
  · rw [flatA_snoc, List.length_append]; exact ho
  · intro y hy
    rw [List.mem_append] at hy
    rcases hy with hy | hy
    · exact s.acts.sh y hy
    · simp at hy; subst hy; exact hx

/-- how the drawing of a round ends -/
def RoundPost (c : Nat) (a : Option Addr) (len cap : Nat) (B p : Nat) (R : Ro) (w : World) (e : Ending) (w' : World) : Prop :=
  ∃ v As R', e = .returned v ∧ ActsAt w.heap.size w' v As ∧ As.length ≤ 300 ∧ RoAt B w' p R' ∧ R'.gh = R.gh ∧ R'.cv = R.cv ∧ At c a len cap w' ∧ Fr (fun x => x = c ∨ roS p R x) w w' ∧ ∀ g, R'.lv.ownBlock = some g → R.lv.ownBlock = some g ∨ w.heap.size ≤ g

/-- the round's acts are done so far -/
structure RpSt (c : Nat) (a : Option Addr) (len cap : Nat) (B p : Nat) (R : Ro) (w wr : World) (g : Nat) (v : Value) (As : List Ac) (R' : Ro) : Prop where
  at' : At c a len cap wr
  fr : Fr (fun x => x = c ∨ roS p R x) w wr
  ro : RoAt B wr p R'
  gh : R'.gh = R.gh
  cv : R'.cv = R.cv
  acts : ActsAt w.heap.size wr v As
  gv : v.ownBlock = some g
  n3 : R'.lv.ownBlock ≠ some g
  lvs : ∀ y, R'.lv.ownBlock = some y → R.lv.ownBlock = some y ∨ w.heap.size ≤ y

theorem rp_step {c : Nat} {a : Option Addr} {len cap : Nat} {B p : Nat} {R : Ro} {w wr w1 : World} {g : Nat} {v : Value} {As : List Ac} {R' : Ro} {xo : Out} {e : Ending} (s : RpSt c a len cap B p R w wr g v As R') (hcb : CurB c a len B) (hr : RoAt B w p R) (hd : DoPost B p R' xo wr e w1) :
    ∃ (b : Bool) (R2 : Ro), e = .returned (.bool b) ∧ RpSt c a len cap B p R w w1 g v As R2 := by
  obtain ⟨R2, rfl, hro, hgh, hbad, hf, hlv⟩ := hd
  have hBw : B ≤ w.heap.size := Nat.le_trans hr.pB (Nat.le_of_lt hr.lt)
  have hgl : R.gh < w.heap.size := (hr.parts.hands 0 (by omega)).lt
  have hlt := World.ownsRow.lt s.acts.own g s.gv
  have hS : ∀ x, roS p R' x → B ≤ x := fun x hx => by
    rcases hx with rfl | rfl | h
    · exact s.ro.pB
    · exact s.ro.parts.gB
    · exact (World.ownsRow.lt s.ro.parts.own x h).1
  refine ⟨xo.done, R2, rfl, ⟨at_belowB s.at' hcb (hf.toBelow (Nat.le_trans hBw s.fr.size) hS), s.fr.trans hf (fun x hx hl => ?_), hro, hgh.trans s.gh, hbad.2.1.trans s.cv, ⟨own_fr hf s.acts.own (fun y hy hn => ?_), s.acts.ne, s.acts.sh⟩, s.gv, fun e => ?_, fun y hy => ?_⟩⟩
  · rcases hx with h | h | h
    · exact .inr (.inl h)
    · exact .inr (.inr (.inl (h.trans s.gh)))
    · rcases s.lvs x h with h' | h'
      · exact .inr (.inr (.inr h'))
      · omega
  · have e : y = g := by have := s.gv; rw [hy] at this; injection this
    subst e
    rcases hn with h | h | h
    · have := hr.lt; omega
    · rw [s.gh] at h; omega
    · exact s.n3 h
  · rcases hlv g e with h | h
    · exact s.n3 h
    · omega
  · rcases hlv y hy with h | h
    · exact s.lvs y h
    · have := s.fr.size; exact .inr (by omega)

set_option maxHeartbeats 6400000 in
theorem l18DrawRound' (HB : DrawsBad) (c : Nat) (a : Option Addr) (len cap : Nat) (B p : Nat) (R : Ro) (w : World) (hl : len ≤ 4096) (hc : At c a len cap w) (hcb : CurB c a len B) (hr : RoAt B w p R) (hcv : ∃ co n cc, R.cv = .slice co n cc) :
    Calls Tryz.prog 141 #[.pointer (some ⟨c, 0, none⟩), .pointer (some ⟨p, 0, none⟩)] w (RoundPost c a len cap B p R w) := by
  have hBw : B ≤ w.heap.size := Nat.le_trans hr.pB (Nat.le_of_lt hr.lt)
  have hcw : CurB c a len w.heap.size := hcb.mono hBw
  obtain ⟨i0, hi, hz0, hz1, hz2⟩ := info_parts infoA
  obtain ⟨co, nc, cc, hcv⟩ := hcv
  have h60 := ((Lc.lace_iff R.L).1 hr.parts.lace).1
  have HRO : Hid (∀ X : World, FrC c w X → RoAt B X p R) := fun X hX => roat_fr hr hX (fun g hg e => by
    have hcB := hcb.1
    rcases hg with h | h | h
    · have := hr.pB; omega
    · have := hr.parts.gB; omega
    · have := (World.ownsRow.lt hr.parts.own g h).1; omega)
  have HBB : Hid DrawsBad := HB
  have HRR : Hid (RoAt B w p R) := hr
  have HS0 : Hid (RuSt c a len cap w (w.alloc (.cells #[] 137)) (.slice (some ⟨w.heap.size, 0, none⟩) 0 0) []) := ⟨at_belowB hc hcw ((Below.refl _ _).alloc (Nat.le_refl _) _), Fr.alloc _ _ _, ⟨own_nilA w _, by simp, fun _ h => by cases h⟩⟩
  clear HB hc
  go_enter Tryz.func141, Tryz.ntmps141
  go_upto_region 2 with fail
  generalize w.alloc (.cells #[] 137) = W0 at HS0 ⊢
  go_wp2_with fail
  go_loopw [5, 6] (fun v h wr => ∃ (k : Nat) (As : List Ac), k ≤ 4 ∧ h = .int .i64 k ∧ As.length ≤ 60 * k ∧ Hid (RuSt c a len cap w wr v As)) (fun _ h _ => 4 - (intOf h).toNat)
  case atStart => exact ⟨0, [], by omega, rfl, by simp, HS0.out⟩
  case round =>
    obtain ⟨k, As, hk, rfl, hAl, HS⟩ := hrel
    by_cases hk4 : k < 4
    · have hki : (k : Int) < 4 := by omega
      go_wp2_with fail
      go_loopw [5, 7] (fun v i w1 => ∃ (j : Nat) (As : List Ac), j ≤ R.L.length ∧ i = .int .i64 j ∧ As.length ≤ 60 * k + j ∧ Hid (RuSt c a len cap w w1 v As)) (fun _ i _ => R.L.length - (intOf i).toNat)
      case atStart => exact ⟨0, As, by omega, rfl, by omega, HS.out⟩
      case round =>
        obtain ⟨j, As1, hj, rfl, hAl1, HS1⟩ := hrel
        have hro := HRO.out _ HS1.out.fr
        obtain ⟨ao, cp, hlv, _, _, _, hrd, _⟩ := own_lace hro.parts.own
        have c0 := hro.c0
        rw [hlv] at c0
        by_cases hjl : j < R.L.length
        · have hji : (j : Int) < (R.L.length : Int) := by omega
          have c2 := hro.c2
          have x1 := (hro.parts.hands k hk4).c1
          have hh := hro.parts.hok k hk4
          have h0 := hh.h0
          have h1 := hh.h1
          clear hro hrd hlv hh
          cases hb : Bit.bit (R.hs k).has j
          · have HBb : Hid (Bit.bit (R.hs k).has j = false) := hb
            clear hb
            go_wp2_with (go_at_call 48; refine (Base.l1Has _ _ _ h0 h1 (by omega) (by omega)).mono ?_; rintro e w' ⟨rfl, rfl⟩; rw [Int.toNat_natCast, HBb.out])
            refine (Cur.once c a len cap 30 _ hl (by omega) HS1.out.at').mono ?_
            rintro e w2 ⟨b, rfl, hA2, hG2⟩
            have HS2 : Hid (RuSt c a len cap w w2 u5 As1) := ru_cur HS1.out hcw.1 hA2 (Fr.of_grown hG2)
            clear hA2 hG2 HS1
            cases b
            · skip
              go_wp2_with (at_builtin; refine wpList_append_own _ rfl _ _ 132 rfl w.heap.size 137 i0 (.agg #[.int .i64 0, .int .i64 0, .int .i64 0, .int .i64 0, .int .i64 0, .string ⟨#[]⟩]) 6 56 Tryz.underlying132 hi hz0 hz1 hz2 rfl (by decide) u5 As1.length (flatA As1) (by first | rfl | simp [Act.eval]) (HS2.out.acts.own.alloc _) ⟨w2.heap.size, 0, none⟩ 1 1 (acells ⟨2, (k : Int), (j : Int), 0, 0, ⟨#[]⟩⟩) (by first | rfl | simp [Act.eval]) rfl (new_acells w2 ⟨2, (k : Int), (j : Int), 0, 0, ⟨#[]⟩⟩ _) (acells_one _) ?c3 ?c4 ?c5 ?_)
              case c3 => unfold maxLen; omega
              case c4 => omega
              case c5 => have := HS2.out.fr.size; simp; omega
              intro v' wn hown' hgrow hnil
              have HN : Hid (RuSt c a len cap w wn v' (As1 ++ [⟨2, (k : Int), (j : Int), 0, 0, ⟨#[]⟩⟩])) := ru_app HS2.out hcw (by show (ByteArray.mk #[]).size ≤ 13; decide) hown' hgrow hnil
              clear hown' hgrow hnil
              go_wp2
              go_roundw
              case rel => exact ⟨j + 1, _, by omega, by go_num, by simp; omega, HN⟩
              case measure => simp [intOf]; omega
            · go_wp2
              go_roundw
              case rel => exact ⟨j + 1, As1, by omega, by go_num, by omega, HS2⟩
              case measure => simp [intOf]; omega
          · have HBb : Hid (Bit.bit (R.hs k).has j = true) := hb
            clear hb
            go_wp2_with (go_at_call 48; refine (Base.l1Has _ _ _ h0 h1 (by omega) (by omega)).mono ?_; rintro e w' ⟨rfl, rfl⟩; rw [Int.toNat_natCast, HBb.out])
            go_roundw
            case rel => exact ⟨j + 1, As1, by omega, by go_num, by omega, HS1⟩
            case measure => simp [intOf]; omega
        · obtain rfl : j = R.L.length := by omega
          have hjj : ¬ (R.L.length : Int) < (R.L.length : Int) := by omega
          clear hro hrd hlv
          go_wp2
          go_roundw
          case rel => exact ⟨k + 1, As1, by omega, by go_num, by omega, HS1⟩
          case measure => simp [intOf]; omega
    · obtain rfl : k = 4 := by omega
      have hk44 : ¬ ((4 : Nat) : Int) < 4 := by omega
      have hro := HRO.out _ HS.out.fr
      have c3 := hro.c3
      by_cases hbad : 0 ≤ R.bad
      · go_wp2_with fail
        refine (Cur.once c a len cap 3 _ hl (by omega) HS.out.at').mono ?_
        rintro e w1 ⟨b, rfl, hA1, hG1⟩
        have HSa : Hid (RuSt c a len cap w w1 u5 As) := ru_cur HS.out hcw.1 hA1 (Fr.of_grown hG1)
        clear hA1 hG1 HS hro c3
        cases b
        · have hro1 := HRO.out _ HSa.out.fr
          obtain ⟨ao, cp, hlv, ho, hz, _, hrd, hlt⟩ := own_lace hro1.parts.own
          have c0 := hro1.c0
          have c1 := hro1.c1
          have c2 := hro1.c2
          have c3 := hro1.c3
          rw [hlv] at c0
          rw [hcv] at c1
          have hnc : ∀ x, ao = some x → ¬ x.block = c := fun x hx e => by
            have h1 := (hlt x.block (by rw [hlv, hx]; rfl)).1
            have h2 := hcb.1
            omega
          go_wp2_with fail
          refine (HBB.out c a len cap ao cp R.L co nc cc (some ⟨R.gh, 0, none⟩) 4 R.hc R.bad _ hl HSa.out.at' hro1.parts.lace hrd hnc).mono ?_
          rintro e w2 ⟨x, rfl, hx13, hA2, hF2⟩
          have HSb : Hid (RuSt c a len cap w w2 u5 As) := ru_cur HSa.out hcw.1 hA2 hF2
          clear hA2 hF2 HSa hro1 hrd c0 c1 c2 c3 hlt
          go_wp2_with (at_builtin; refine wpList_append_own _ rfl _ _ 132 rfl w.heap.size 137 i0 (.agg #[.int .i64 0, .int .i64 0, .int .i64 0, .int .i64 0, .int .i64 0, .string ⟨#[]⟩]) 6 56 Tryz.underlying132 hi hz0 hz1 hz2 rfl (by decide) u5 As.length (flatA As) (by first | rfl | simp [Act.eval]) (HSb.out.acts.own.alloc _) ⟨w2.heap.size, 0, none⟩ 1 1 (acells x) (by first | rfl | simp [Act.eval]) rfl (new_acells w2 x _) (acells_one _) ?c3 ?c4 ?c5 ?_)
          case c3 => unfold maxLen; omega
          case c4 => omega
          case c5 => have := HSb.out.fr.size; simp; omega
          intro v' wn hown' hgrow hnil
          have HN : Hid (RuSt c a len cap w wn v' (As ++ [x])) := ru_app HSb.out hcw hx13 hown' hgrow hnil
          clear hown' hgrow hnil
          go_wp2_with fail
          go_loopw [5, 8] (fun v h w3 => ∃ (q : Nat) (As : List Ac), q ≤ 4 ∧ h = .int .i64 q ∧ As.length ≤ 241 + q ∧ Hid (RuSt c a len cap w w3 v As)) (fun _ h _ => 4 - (intOf h).toNat)
          case atStart => exact ⟨0, _, by omega, rfl, by first | omega | (simp; omega), HN.out⟩
          case round =>
            obtain ⟨q, As3, hq, rfl, hAl3, HS3⟩ := hrel
            by_cases hq4 : q < 4
            · have hqi : (q : Int) < 4 := by omega
              go_wp2_with fail
              refine (Cur.once c a len cap 12 _ hl (by omega) HS3.out.at').mono ?_
              rintro e w4 ⟨b, rfl, hA4, hG4⟩
              have HS4 : Hid (RuSt c a len cap w w4 u5 As3) := ru_cur HS3.out hcw.1 hA4 (Fr.of_grown hG4)
              clear hA4 hG4 HS3
              cases b
              · go_wp2_with fail
                refine (Kn.drawWord c a len cap _ hl HS4.out.at').mono ?_
                rintro e w5 ⟨s, rfl, hs13, hA5, hG5⟩
                have HS5 : Hid (RuSt c a len cap w w5 u5 As3) := ru_cur HS4.out hcw.1 hA5 (Fr.of_grown hG5)
                clear hA5 hG5 HS4
                go_wp2_with (at_builtin; refine wpList_append_own _ rfl _ _ 132 rfl w.heap.size 137 i0 (.agg #[.int .i64 0, .int .i64 0, .int .i64 0, .int .i64 0, .int .i64 0, .string ⟨#[]⟩]) 6 56 Tryz.underlying132 hi hz0 hz1 hz2 rfl (by decide) u5 As3.length (flatA As3) (by first | rfl | simp [Act.eval]) (HS5.out.acts.own.alloc _) ⟨w5.heap.size, 0, none⟩ 1 1 (acells ⟨1, (q : Int), 0, 0, 0, s⟩) (by first | rfl | simp [Act.eval]) rfl (new_acells w5 ⟨1, (q : Int), 0, 0, 0, s⟩ _) (acells_one _) ?c3 ?c4 ?c5 ?_)
                case c3 => unfold maxLen; omega
                case c4 => omega
                case c5 => have := HS5.out.fr.size; simp; omega
                intro v' wn hown' hgrow hnil
                have HN : Hid (RuSt c a len cap w wn v' (As3 ++ [⟨1, (q : Int), 0, 0, 0, s⟩])) := ru_app HS5.out hcw hs13 hown' hgrow hnil
                clear hown' hgrow hnil
                go_wp2
                go_roundw
                case rel => exact ⟨q + 1, _, by omega, by go_num, by simp; omega, HN⟩
                case measure => simp [intOf]; omega
              · go_wp2
                go_roundw
                case rel => exact ⟨q + 1, As3, by omega, by go_num, by omega, HS4⟩
                case measure => simp [intOf]; omega
            · obtain rfl : q = 4 := by omega
              have hq44 : ¬ ((4 : Nat) : Int) < 4 := by omega
              obtain ⟨g, gc, hv, hWg, hgl⟩ := acts_shape HS3.out.acts
              generalize u5 = vv at HS3 hv ⊢
              subst hv
              have HP0 : Hid (RpSt c a len cap B p R w wr g (.slice (some ⟨g, 0, none⟩) As3.length gc) As3 R) := ⟨HS3.out.at', HS3.out.fr.mono (fun x hx _ => .inl hx), HRO.out _ HS3.out.fr, rfl, rfl, HS3.out.acts, rfl, fun e => by have := (World.ownsRow.lt HRR.out.parts.own g e).2; omega, fun y hy => .inl hy⟩
              have HSH : Hid (Short As3) := HS3.out.acts.sh
              clear HS3
              go_wp2_with fail
              go_loopw [9] (fun i w6 => ∃ (j : Nat) (R' : Ro), j ≤ As3.length ∧ i = .int .i64 j ∧ Hid (RpSt c a len cap B p R w w6 g (.slice (some ⟨g, 0, none⟩) As3.length gc) As3 R')) (fun i _ => As3.length - (intOf i).toNat)
              case atStart => exact ⟨0, R, by omega, rfl, HP0.out⟩
              case round =>
                obtain ⟨j, R', hj, rfl, HP⟩ := hrel
                by_cases hjl : j < As3.length
                · have hji : (j : Int) < (As3.length : Int) := by omega
                  obtain ⟨e0, e1, e2, e3, e4, e5⟩ := acts_cell HP.out.acts.own j hjl
                  have hsh := short_at HSH.out j
                  generalize As3.getD j zeroA = x at e0 e1 e2 e3 e4 e5 hsh
                  go_wp2_with fail
                  refine (l18Do B p R' x _ HP.out.ro (by omega)).mono ?_
                  intro e w7 hd
                  obtain ⟨b, R2, rfl, h1⟩ := rp_step HP.out hcb HRR.out hd
                  have HP7 : Hid (RpSt c a len cap B p R w w7 g (.slice (some ⟨g, 0, none⟩) As3.length gc) As3 R2) := h1
                  clear hd h1 HP
                  go_wp2
                  go_roundw
                  case rel => exact ⟨j + 1, R2, by omega, by go_num, HP7⟩
                  case measure => simp [intOf]; omega
                · obtain rfl : j = As3.length := by omega
                  have hjj : ¬ (As3.length : Int) < (As3.length : Int) := by omega
                  go_wp2
                  go_ret
                  exact ⟨_, As3, R', rfl, HP.out.acts, by omega, HP.out.ro, HP.out.gh, HP.out.cv, HP.out.at', HP.out.fr, HP.out.lvs⟩
        · skip
          go_wp2_with fail
          go_loopw [5, 8] (fun v h w3 => ∃ (q : Nat) (As : List Ac), q ≤ 4 ∧ h = .int .i64 q ∧ As.length ≤ 241 + q ∧ Hid (RuSt c a len cap w w3 v As)) (fun _ h _ => 4 - (intOf h).toNat)
          case atStart => exact ⟨0, _, by omega, rfl, by first | omega | (simp; omega), HSa.out⟩
          case round =>
            obtain ⟨q, As3, hq, rfl, hAl3, HS3⟩ := hrel
            by_cases hq4 : q < 4
            · have hqi : (q : Int) < 4 := by omega
              go_wp2_with fail
              refine (Cur.once c a len cap 12 _ hl (by omega) HS3.out.at').mono ?_
              rintro e w4 ⟨b, rfl, hA4, hG4⟩
              have HS4 : Hid (RuSt c a len cap w w4 u5 As3) := ru_cur HS3.out hcw.1 hA4 (Fr.of_grown hG4)
              clear hA4 hG4 HS3
              cases b
              · go_wp2_with fail
                refine (Kn.drawWord c a len cap _ hl HS4.out.at').mono ?_
                rintro e w5 ⟨s, rfl, hs13, hA5, hG5⟩
                have HS5 : Hid (RuSt c a len cap w w5 u5 As3) := ru_cur HS4.out hcw.1 hA5 (Fr.of_grown hG5)
                clear hA5 hG5 HS4
                go_wp2_with (at_builtin; refine wpList_append_own _ rfl _ _ 132 rfl w.heap.size 137 i0 (.agg #[.int .i64 0, .int .i64 0, .int .i64 0, .int .i64 0, .int .i64 0, .string ⟨#[]⟩]) 6 56 Tryz.underlying132 hi hz0 hz1 hz2 rfl (by decide) u5 As3.length (flatA As3) (by first | rfl | simp [Act.eval]) (HS5.out.acts.own.alloc _) ⟨w5.heap.size, 0, none⟩ 1 1 (acells ⟨1, (q : Int), 0, 0, 0, s⟩) (by first | rfl | simp [Act.eval]) rfl (new_acells w5 ⟨1, (q : Int), 0, 0, 0, s⟩ _) (acells_one _) ?c3 ?c4 ?c5 ?_)
                case c3 => unfold maxLen; omega
                case c4 => omega
                case c5 => have := HS5.out.fr.size; simp; omega
                intro v' wn hown' hgrow hnil
                have HN : Hid (RuSt c a len cap w wn v' (As3 ++ [⟨1, (q : Int), 0, 0, 0, s⟩])) := ru_app HS5.out hcw hs13 hown' hgrow hnil
                clear hown' hgrow hnil
                go_wp2
                go_roundw
                case rel => exact ⟨q + 1, _, by omega, by go_num, by simp; omega, HN⟩
                case measure => simp [intOf]; omega
              · go_wp2
                go_roundw
                case rel => exact ⟨q + 1, As3, by omega, by go_num, by omega, HS4⟩
                case measure => simp [intOf]; omega
            · obtain rfl : q = 4 := by omega
              have hq44 : ¬ ((4 : Nat) : Int) < 4 := by omega
              obtain ⟨g, gc, hv, hWg, hgl⟩ := acts_shape HS3.out.acts
              generalize u5 = vv at HS3 hv ⊢
              subst hv
              have HP0 : Hid (RpSt c a len cap B p R w wr g (.slice (some ⟨g, 0, none⟩) As3.length gc) As3 R) := ⟨HS3.out.at', HS3.out.fr.mono (fun x hx _ => .inl hx), HRO.out _ HS3.out.fr, rfl, rfl, HS3.out.acts, rfl, fun e => by have := (World.ownsRow.lt HRR.out.parts.own g e).2; omega, fun y hy => .inl hy⟩
              have HSH : Hid (Short As3) := HS3.out.acts.sh
              clear HS3
              go_wp2_with fail
              go_loopw [9] (fun i w6 => ∃ (j : Nat) (R' : Ro), j ≤ As3.length ∧ i = .int .i64 j ∧ Hid (RpSt c a len cap B p R w w6 g (.slice (some ⟨g, 0, none⟩) As3.length gc) As3 R')) (fun i _ => As3.length - (intOf i).toNat)
              case atStart => exact ⟨0, R, by omega, rfl, HP0.out⟩
              case round =>
                obtain ⟨j, R', hj, rfl, HP⟩ := hrel
                by_cases hjl : j < As3.length
                · have hji : (j : Int) < (As3.length : Int) := by omega
                  obtain ⟨e0, e1, e2, e3, e4, e5⟩ := acts_cell HP.out.acts.own j hjl
                  have hsh := short_at HSH.out j
                  generalize As3.getD j zeroA = x at e0 e1 e2 e3 e4 e5 hsh
                  go_wp2_with fail
                  refine (l18Do B p R' x _ HP.out.ro (by omega)).mono ?_
                  intro e w7 hd
                  obtain ⟨b, R2, rfl, h1⟩ := rp_step HP.out hcb HRR.out hd
                  have HP7 : Hid (RpSt c a len cap B p R w w7 g (.slice (some ⟨g, 0, none⟩) As3.length gc) As3 R2) := h1
                  clear hd h1 HP
                  go_wp2
                  go_roundw
                  case rel => exact ⟨j + 1, R2, by omega, by go_num, HP7⟩
                  case measure => simp [intOf]; omega
                · obtain rfl : j = As3.length := by omega
                  have hjj : ¬ (As3.length : Int) < (As3.length : Int) := by omega
                  go_wp2
                  go_ret
                  exact ⟨_, As3, R', rfl, HP.out.acts, by omega, HP.out.ro, HP.out.gh, HP.out.cv, HP.out.at', HP.out.fr, HP.out.lvs⟩
      · have hbad' : ¬ 0 ≤ R.bad := hbad
        clear hro
        go_wp2_with fail
        go_loopw [5, 8] (fun v h w3 => ∃ (q : Nat) (As : List Ac), q ≤ 4 ∧ h = .int .i64 q ∧ As.length ≤ 241 + q ∧ Hid (RuSt c a len cap w w3 v As)) (fun _ h _ => 4 - (intOf h).toNat)
        case atStart => exact ⟨0, _, by omega, rfl, by first | omega | (simp; omega), HS.out⟩
        case round =>
          obtain ⟨q, As3, hq, rfl, hAl3, HS3⟩ := hrel
          by_cases hq4 : q < 4
          · have hqi : (q : Int) < 4 := by omega
            go_wp2_with fail
            refine (Cur.once c a len cap 12 _ hl (by omega) HS3.out.at').mono ?_
            rintro e w4 ⟨b, rfl, hA4, hG4⟩
            have HS4 : Hid (RuSt c a len cap w w4 u5 As3) := ru_cur HS3.out hcw.1 hA4 (Fr.of_grown hG4)
            clear hA4 hG4 HS3
            cases b
            · go_wp2_with fail
              refine (Kn.drawWord c a len cap _ hl HS4.out.at').mono ?_
              rintro e w5 ⟨s, rfl, hs13, hA5, hG5⟩
              have HS5 : Hid (RuSt c a len cap w w5 u5 As3) := ru_cur HS4.out hcw.1 hA5 (Fr.of_grown hG5)
              clear hA5 hG5 HS4
              go_wp2_with (at_builtin; refine wpList_append_own _ rfl _ _ 132 rfl w.heap.size 137 i0 (.agg #[.int .i64 0, .int .i64 0, .int .i64 0, .int .i64 0, .int .i64 0, .string ⟨#[]⟩]) 6 56 Tryz.underlying132 hi hz0 hz1 hz2 rfl (by decide) u5 As3.length (flatA As3) (by first | rfl | simp [Act.eval]) (HS5.out.acts.own.alloc _) ⟨w5.heap.size, 0, none⟩ 1 1 (acells ⟨1, (q : Int), 0, 0, 0, s⟩) (by first | rfl | simp [Act.eval]) rfl (new_acells w5 ⟨1, (q : Int), 0, 0, 0, s⟩ _) (acells_one _) ?c3 ?c4 ?c5 ?_)
              case c3 => unfold maxLen; omega
              case c4 => omega
              case c5 => have := HS5.out.fr.size; simp; omega
              intro v' wn hown' hgrow hnil
              have HN : Hid (RuSt c a len cap w wn v' (As3 ++ [⟨1, (q : Int), 0, 0, 0, s⟩])) := ru_app HS5.out hcw hs13 hown' hgrow hnil
              clear hown' hgrow hnil
              go_wp2
              go_roundw
              case rel => exact ⟨q + 1, _, by omega, by go_num, by simp; omega, HN⟩
              case measure => simp [intOf]; omega
            · go_wp2
              go_roundw
              case rel => exact ⟨q + 1, As3, by omega, by go_num, by omega, HS4⟩
              case measure => simp [intOf]; omega
          · obtain rfl : q = 4 := by omega
            have hq44 : ¬ ((4 : Nat) : Int) < 4 := by omega
            obtain ⟨g, gc, hv, hWg, hgl⟩ := acts_shape HS3.out.acts
            generalize u5 = vv at HS3 hv ⊢
            subst hv
            have HP0 : Hid (RpSt c a len cap B p R w wr g (.slice (some ⟨g, 0, none⟩) As3.length gc) As3 R) := ⟨HS3.out.at', HS3.out.fr.mono (fun x hx _ => .inl hx), HRO.out _ HS3.out.fr, rfl, rfl, HS3.out.acts, rfl, fun e => by have := (World.ownsRow.lt HRR.out.parts.own g e).2; omega, fun y hy => .inl hy⟩
            have HSH : Hid (Short As3) := HS3.out.acts.sh
            clear HS3
            go_wp2_with fail
            go_loopw [9] (fun i w6 => ∃ (j : Nat) (R' : Ro), j ≤ As3.length ∧ i = .int .i64 j ∧ Hid (RpSt c a len cap B p R w w6 g (.slice (some ⟨g, 0, none⟩) As3.length gc) As3 R')) (fun i _ => As3.length - (intOf i).toNat)
            case atStart => exact ⟨0, R, by omega, rfl, HP0.out⟩
            case round =>
              obtain ⟨j, R', hj, rfl, HP⟩ := hrel
              by_cases hjl : j < As3.length
              · have hji : (j : Int) < (As3.length : Int) := by omega
                obtain ⟨e0, e1, e2, e3, e4, e5⟩ := acts_cell HP.out.acts.own j hjl
                have hsh := short_at HSH.out j
                generalize As3.getD j zeroA = x at e0 e1 e2 e3 e4 e5 hsh
                go_wp2_with fail
                refine (l18Do B p R' x _ HP.out.ro (by omega)).mono ?_
                intro e w7 hd
                obtain ⟨b, R2, rfl, h1⟩ := rp_step HP.out hcb HRR.out hd
                have HP7 : Hid (RpSt c a len cap B p R w w7 g (.slice (some ⟨g, 0, none⟩) As3.length gc) As3 R2) := h1
                clear hd h1 HP
                go_wp2
                go_roundw
                case rel => exact ⟨j + 1, R2, by omega, by go_num, HP7⟩
                case measure => simp [intOf]; omega
              · obtain rfl : j = As3.length := by omega
                have hjj : ¬ (As3.length : Int) < (As3.length : Int) := by omega
                go_wp2
                go_ret
                exact ⟨_, As3, R', rfl, HP.out.acts, by omega, HP.out.ro, HP.out.gh, HP.out.cv, HP.out.at', HP.out.fr, HP.out.lvs⟩

end Rm
end Go.Proofs.YtfjmenhofllchaaGreatDoor

namespace Go.Proofs.YtfjmenhofllchaaGreatDoor
open Go.RowKit
set_option maxRecDepth 100000
namespace Rm
open Kn (K okK in3)
open Lc (at' RdK laceB takesB flat OwnK CellsK cellsOf)
open Cur (At)

/-- the drawing of acts keeps its word -/
def DrawsActs : Prop := ∀ (c : Nat) (a : Option Addr) (len cap : Nat) (B : Nat) (R : Ro) (most : Int) (w : World), len ≤ 4096 → 0 < most → most ≤ 60 → At c a len cap w → NewR B w R → c < B → Calls Tryz.prog 113 #[.pointer (some ⟨c, 0, none⟩), roV R, .int .i64 most] w (ActsPost c a len cap w)

set_option maxHeartbeats 3200000 in
theorem l18Draw' (HA : DrawsActs) (c : Nat) (a : Option Addr) (len cap : Nat) (w : World) (hl : len ≤ 4096) (hc : At c a len cap w) :
    Calls Tryz.prog 79 #[.pointer (some ⟨c, 0, none⟩)] w (DrawPost c a len cap w) := by
  have hcb := curB_of hc
  have hcw : c < w.heap.size := hc.lt
  have P0 : Hid (Below w.heap.size w (w.alloc (.cells #[.slice none 0 0, .slice none 0 0, .slice none 0 0, .int .i64 0] 107)) ∧ Q4 (w.alloc (.cells #[.slice none 0 0, .slice none 0 0, .slice none 0 0, .int .i64 0] 107)) w.heap.size (.slice none 0 0) (.slice none 0 0) (.slice none 0 0) (.int .i64 0)) := ⟨(Below.refl _ _).alloc (Nat.le_refl _) _, q4_new _ _ _ _ _ _⟩
  have HAA : Hid DrawsActs := HA
  clear HA
  go_enter Tryz.func79, Tryz.ntmps79
  go_upto_region 1 with fail
  generalize w.alloc (.cells #[.slice none 0 0, .slice none 0 0, .slice none 0 0, .int .i64 0] 107) = W0 at P0 ⊢
  have HA0 : Hid (At c a len cap W0) := at_belowB hc hcb P0.out.1
  go_wp2_with fail
  refine (l18New c a len cap _ hl HA0.out).mono ?_
  rintro e w1 ⟨R, rfl, hR, hA1, hF1⟩
  have hlt0 : w.heap.size < W0.heap.size := P0.out.2.lt
  obtain ⟨co, cc, lc, hcv, _⟩ := hR.coins
  have HV : Hid (roV R = .agg #[.slice none 0 0, .slice co lc.length cc, .slice (some ⟨R.gh, 0, none⟩) 4 R.hc, .int .i64 R.bad]) := by show _ = _; unfold roV; rw [hR.lv, hcv]
  have HQ1 : Hid (Q4 w1 w.heap.size (.slice none 0 0) (.slice none 0 0) (.slice none 0 0) (.int .i64 0)) := q4_fr P0.out.2 hF1 (by omega)
  have HN4 : Hid (Q4 (w1.alloc (.cells #[.slice none 0 0, .slice co lc.length cc, .slice (some ⟨R.gh, 0, none⟩) 4 R.hc, .int .i64 R.bad] 107)) w1.heap.size (.slice none 0 0) (.slice co lc.length cc) (.slice (some ⟨R.gh, 0, none⟩) 4 R.hc) (.int .i64 R.bad) ∧ Below w1.heap.size w1 (w1.alloc (.cells #[.slice none 0 0, .slice co lc.length cc, .slice (some ⟨R.gh, 0, none⟩) 4 R.hc, .int .i64 R.bad] 107))) := ⟨q4_new _ _ _ _ _ _, (Below.refl _ _).alloc (Nat.le_refl _) _⟩
  rw [HV.out]
  go_upto_region 2 with fail
  have hW01 : W0.heap.size ≤ w1.heap.size := hF1.size
  have hgl1 : R.gh < w1.heap.size := (hR.parts.hands 0 (by omega)).lt
  have hw12 : w1.heap.size < (w1.alloc (.cells #[.slice none 0 0, .slice co lc.length cc, .slice (some ⟨R.gh, 0, none⟩) 4 R.hc, .int .i64 R.bad] 107)).heap.size := HN4.out.1.lt
  generalize w1.alloc (.cells #[.slice none 0 0, .slice co lc.length cc, .slice (some ⟨R.gh, 0, none⟩) 4 R.hc, .int .i64 R.bad] 107) = W2 at HN4 hw12 ⊢
  have hR2 : NewR W0.heap.size W2 R := newR_fr hR (Fr.of_below HN4.out.2 (fun _ => False)) (fun h => h) (fun _ _ h => h)
  have HA2 : Hid (At c a len cap W2) := at_belowB hA1 hcb (HN4.out.2.mono (by omega))
  obtain ⟨_, s0, s1, s2, s3, g0, _, _, _⟩ := HN4.out.1
  go_wp2_with fail
  have hcall := HAA.out c a len cap W0.heap.size R 50 W2 hl (by omega) (by omega) HA2.out hR2 (by omega)
  rw [HV.out] at hcall
  refine hcall.mono ?_
  rintro e w3 ⟨v, As, rfl, hAs, hAl, hA3, hF3⟩
  obtain ⟨g, gc, hv, hWg, hgl⟩ := acts_shape hAs
  subst hv
  have hf13 : Fr (fun x => x = c) w1 w3 := (Fr.of_below HN4.out.2 _).trans hF3 (fun _ hx _ => hx)
  have HS3 : Hid (PlSt c a len cap w w3 w1.heap.size g (.slice (some ⟨g, 0, none⟩) As.length gc) As R) := by
    have q3 := q4_fr HN4.out.1 hF3 (show ¬ w1.heap.size = c by omega)
    have hp3 : Parts (w.heap.size + 1) w3 R := parts_base (parts_fr hR2.parts hF3 (by have := hR2.parts.gB; omega) (fun y hy => by rw [hR.lv] at hy; simp [Value.ownBlock] at hy)) (by omega)
    have hgB := hR2.parts.gB
    refine ⟨hA3, ((Fr.of_below P0.out.1 _).trans hF1 (fun _ hx _ => hx)).trans hf13 (fun _ hx _ => hx), ⟨q3.lt, by omega, by rw [hR.lv]; exact q3.c0, by rw [hcv]; exact q3.c1, q3.c2, q3.c3, q3.f0, hp3, by omega, by rw [hR.lv]; simp [Value.ownBlock]⟩, own_baseT hAs.own (by omega), rfl, by omega, by omega, by rw [hR.lv]; simp [Value.ownBlock], q4_fr HQ1.out hf13 (by omega), by omega, ⟨co, _, cc, hcv⟩⟩
  have HSH : Hid (Short As) := hAs.sh
  clear hAs hA3 hF3 hf13 hcall hR2 HA2 hR HN4 s0 s1 s2 s3 g0 hA1 hF1 HQ1 HV hcv
  generalize w1.heap.size = pr at HS3 ⊢
  go_wp2_with fail
  go_loopw [5] (fun i wr => ∃ (j : Nat) (R' : Ro), j ≤ As.length ∧ i = .int .i64 j ∧ Hid (PlSt c a len cap w wr pr g (.slice (some ⟨g, 0, none⟩) As.length gc) As R')) (fun i _ => As.length - (intOf i).toNat)
  case atStart => exact ⟨0, R, by omega, rfl, HS3.out⟩
  case round =>
    obtain ⟨j, R', hj, rfl, HS⟩ := hrel
    by_cases hlt : j < As.length
    · have hji : (j : Int) < (As.length : Int) := by omega
      obtain ⟨e0, e1, e2, e3, e4, e5⟩ := acts_cell HS.out.acts j hlt
      have hsh := short_at HSH.out j
      generalize As.getD j zeroA = x at e0 e1 e2 e3 e4 e5 hsh
      go_wp2_with fail
      refine (l18Do (w.heap.size + 1) pr R' x _ HS.out.ro (by omega)).mono ?_
      intro e w4 hd
      obtain ⟨b, R2, rfl, h1, h2, h3, h4, h5, h6, h7, h8⟩ := pl_step HS.out hcb hd
      have HS4 : Hid (PlSt c a len cap w w4 pr g (.slice (some ⟨g, 0, none⟩) As.length gc) As R2) := ⟨h1, h2, h3, h4, HS.out.gv, HS.out.n1, h5, h6, h8, HS.out.gB, by rw [h7]; exact HS.out.sv⟩
      clear hd h1 h2 h3 h4 h5 h6 h7 h8 HS
      go_wp2
      go_roundw
      case rel => exact ⟨j + 1, R2, by omega, by go_num, HS4⟩
      case measure => simp [intOf]; omega
    · obtain rfl : j = As.length := by omega
      have hjj : ¬ (As.length : Int) < (As.length : Int) := by omega
      obtain ⟨co', n', cc', hcv'⟩ := HS.out.sv
      obtain ⟨ao', cap', hlv', _⟩ := own_lace HS.out.ro.parts.own
      have HVR : Hid (roV R' = .agg #[.slice ao' R'.L.length cap', .slice co' n' cc', .slice (some ⟨R'.gh, 0, none⟩) 4 R'.hc, .int .i64 R'.bad]) := by show _ = _; unfold roV; rw [hlv', hcv']
      have HE : Hid (DrawPost c a len cap w (.returned (.agg #[.slice ao' R'.L.length cap', .slice co' n' cc', .slice (some ⟨R'.gh, 0, none⟩) 4 R'.hc, .int .i64 R'.bad])) (qset wr w.heap.size (.slice ao' R'.L.length cap') (.slice co' n' cc') (.slice (some ⟨R'.gh, 0, none⟩) 4 R'.hc) (.int .i64 R'.bad))) := by
        have hq := qset_fr wr w.heap.size (.slice ao' R'.L.length cap') (.slice co' n' cc') (.slice (some ⟨R'.gh, 0, none⟩) 4 R'.hc) (.int .i64 R'.bad)
        have hgB := HS.out.ro.parts.gB
        refine ⟨R', by rw [HVR.out], parts_base (parts_fr HS.out.ro.parts hq (fun e => by have e' : R'.gh = w.heap.size := e; omega) (fun y hy e => by have := (World.ownsRow.lt HS.out.ro.parts.own y hy).1; omega)) (Nat.le_succ _), at_belowB HS.out.at' hcb (hq.toBelow HS.out.fr.size (fun x hx => by omega)), HS.out.fr.trans hq (fun x hx hl' => by omega)⟩
      have HQP : Hid _ := q4_put HS.out.res (.slice ao' R'.L.length cap') (.slice co' n' cc') (.slice (some ⟨R'.gh, 0, none⟩) 4 R'.hc) (.int .i64 R'.bad)
      obtain ⟨_, r0, r1, r2, r3, f0, f1, f2, f3⟩ := HS.out.res
      have t0 := HS.out.ro.c0
      have t1 := HS.out.ro.c1
      have t2 := HS.out.ro.c2
      have t3 := HS.out.ro.c3
      rw [hlv'] at t0
      rw [hcv'] at t1
      clear hlv' hcv' HVR HS
      go_wp2
      obtain ⟨_, y0, y1, y2, y3, _, _, _, _⟩ := HQP.out
      unfold qset at y0 y1 y2 y3
      exact bodyPost_ret (v := .agg #[.slice ao' R'.L.length cap', .slice co' n' cc', .slice (some ⟨R'.gh, 0, none⟩) 4 R'.hc, .int .i64 R'.bad]) (by simp [results, Tryz.results79, go_sem, y0, y1, y2, y3]) rfl HE.out

end Rm
end Go.Proofs.YtfjmenhofllchaaGreatDoor

namespace Go.Proofs.YtfjmenhofllchaaGreatDoor
open Go.RowKit
set_option maxRecDepth 100000
namespace Rm
open Kn (K okK in3)
open Lc (at' RdK laceB takesB flat OwnK CellsK cellsOf)
open Cur (At)

/-- the drawing of one act keeps its word -/
def DrawsAct : Prop := ∀ (c : Nat) (a : Option Addr) (len cap : Nat) (B : Nat) (R : Ro) (w : World), len ≤ 4096 → At c a len cap w → CurB c a len B → Parts B w R → (∃ co n cc, R.cv = .slice co n cc) → Calls Tryz.prog 142 #[.pointer (some ⟨c, 0, none⟩), roV R] w (AcPost c a len cap w)

/-- the acts drawn so far, and the room that they are tried in -/
structure DaSt (c : Nat) (a : Option Addr) (len cap : Nat) (w wr : World) (v : Value) (As : List Ac) (R : Ro) : Prop where
  at' : At c a len cap wr
  fr : FrC c w wr
  ro : RoAt w.heap.size wr w.heap.size R
  acts : ActsAt w.heap.size wr v As
  nn : ∀ g, v.ownBlock = some g → ¬ roS w.heap.size R g
  sv : ∃ co n cc, R.cv = .slice co n cc

theorem da_cur {c : Nat} {a : Option Addr} {len cap : Nat} {w wr w1 : World} {v : Value} {As : List Ac} {R : Ro} (s : DaSt c a len cap w wr v As R) (hc : c < w.heap.size) (hA : At c a len cap w1) (hG : Fr (fun y => y = c) wr w1) : DaSt c a len cap w w1 v As R := by
  have hne : ∀ g, roS w.heap.size R g → ¬ g = c := fun g hg e => by
    rcases hg with h | h | h
    · omega
    · have := s.ro.parts.gB; omega
    · have := (World.ownsRow.lt s.ro.parts.own g h).1; omega
  exact ⟨hA, s.fr.trans hG (fun _ hx _ => hx), roat_fr s.ro hG hne, ⟨own_fr hG s.acts.own (fun g hg e => by have := (World.ownsRow.lt s.acts.own g hg).1; omega), s.acts.ne, s.acts.sh⟩, s.nn, s.sv⟩

/-- something new is laid -/
theorem da_below {c : Nat} {a : Option Addr} {len cap : Nat} {w wr w1 : World} {v : Value} {As : List Ac} {R : Ro} (s : DaSt c a len cap w wr v As R) (hcb : CurB c a len w.heap.size) (hb : Below wr.heap.size wr w1) : DaSt c a len cap w w1 v As R :=
  ⟨at_belowB s.at' hcb (hb.mono s.fr.size), s.fr.trans (Fr.of_below hb (fun _ => False)) (fun _ hx _ => hx.elim), roat_below s.ro hb, ⟨own_below s.acts.own hb, s.acts.ne, s.acts.sh⟩, s.nn, s.sv⟩

theorem da_app {c : Nat} {a : Option Addr} {len cap : Nat} {w w1 w2 : World} {v v' : Value} {As Bs : List Ac} {R : Ro} (s : DaSt c a len cap w w1 v As R) (hcb : CurB c a len w.heap.size) (hx : Short Bs) (ho : w2.ownsRow w.heap.size 137 6 v' (As.length + Bs.length) (flatA As ++ flatA Bs)) (hg : w1.grownBy w2 v.ownBlock) (hn : ¬ v' = .slice none 0 0) (hat : v'.ownBlock = v.ownBlock ∨ v'.ownBlock = some w1.heap.size) : DaSt c a len cap w w2 v' (As ++ Bs) R := by
  have hlt := World.ownsRow.lt s.acts.own
  have hf1 : Fr (fun y => v.ownBlock = some y) w1 w2 := Fr.of_own hg
  have hro : ∀ g, roS w.heap.size R g → g < w1.heap.size := fun g hg => by
    rcases hg with h | h | h
    · subst h; exact s.ro.lt
    · subst h; exact (s.ro.parts.hands 0 (by omega)).lt
    · exact (World.ownsRow.lt s.ro.parts.own g h).2
  refine ⟨at_belowB s.at' hcb (hf1.toBelow s.fr.size (fun y hy => (hlt y hy).1)), s.fr.trans hf1 (fun y hy hl => by have := (hlt y hy).1; omega), roat_fr s.ro hf1 (fun g hg e => s.nn g e hg), ⟨?_, hn, ?_⟩, fun g hg hs => ?_, s.sv⟩
  · rw [flatA_app, List.length_append]; exact ho
  · intro y hy
    rw [List.mem_append] at hy
    exact hy.elim (s.acts.sh y) (hx y)
  · rcases hat with h | h
    · exact s.nn g (h ▸ hg) hs
    · rw [h] at hg; injection hg with hg; have := hro g hs; omega

theorem da_do {c : Nat} {a : Option Addr} {len cap : Nat} {w wr w1 : World} {v : Value} {As : List Ac} {R : Ro} {xo : Out} {e : Ending} (s : DaSt c a len cap w wr v As R) (hcb : CurB c a len w.heap.size) (hd : DoPost w.heap.size w.heap.size R xo wr e w1) :
    ∃ (b : Bool) (R2 : Ro), e = .returned (.bool b) ∧ DaSt c a len cap w w1 v As R2 := by
  obtain ⟨R2, rfl, hro, hgh, hbad, hf, hlv⟩ := hd
  have hS : ∀ x, roS w.heap.size R x → w.heap.size ≤ x := fun x hx => by
    rcases hx with h | h | h
    · omega
    · have := s.ro.parts.gB; omega
    · exact (World.ownsRow.lt s.ro.parts.own x h).1
  have hlt := World.ownsRow.lt s.acts.own
  refine ⟨xo.done, R2, rfl, ⟨at_belowB s.at' hcb (hf.toBelow s.fr.size hS), s.fr.trans hf (fun x hx hl => by have := hS x hx; omega), hro, ⟨own_fr hf s.acts.own (fun g hg => s.nn g hg), s.acts.ne, s.acts.sh⟩, fun g hg hs => ?_, by rw [hbad.2.1]; exact s.sv⟩⟩
  rcases hs with h | h | h
  · exact s.nn g hg (.inl h)
  · exact s.nn g hg (.inr (.inl (h.trans hgh)))
  · rcases hlv g h with h' | h'
    · exact s.nn g hg (.inr (.inr h'))
    · have := (hlt g hg).2; omega

theorem da_round {c : Nat} {a : Option Addr} {len cap : Nat} {w wr w1 : World} {v : Value} {As : List Ac} {R R2 : Ro} (s : DaSt c a len cap w wr v As R) (hc : c < w.heap.size) (hA : At c a len cap w1) (hro : RoAt w.heap.size w1 w.heap.size R2) (hgh : R2.gh = R.gh) (hcv : R2.cv = R.cv) (hf : Fr (fun x => x = c ∨ roS w.heap.size R x) wr w1) (hlv : ∀ g, R2.lv.ownBlock = some g → R.lv.ownBlock = some g ∨ wr.heap.size ≤ g) : DaSt c a len cap w w1 v As R2 := by
  have hS : ∀ x, roS w.heap.size R x → w.heap.size ≤ x := fun x hx => by
    rcases hx with h | h | h
    · omega
    · have := s.ro.parts.gB; omega
    · exact (World.ownsRow.lt s.ro.parts.own x h).1
  have hlt := World.ownsRow.lt s.acts.own
  refine ⟨hA, s.fr.trans hf (fun x hx hl => hx.elim id (fun h => by have := hS x h; omega)), hro, ⟨own_fr hf s.acts.own (fun g hg hs => hs.elim (fun e => by have := (hlt g hg).1; omega) (s.nn g hg)), s.acts.ne, s.acts.sh⟩, fun g hg hs => ?_, by rw [hcv]; exact s.sv⟩
  rcases hs with h | h | h
  · exact s.nn g hg (.inl h)
  · exact s.nn g hg (.inr (.inl (h.trans hgh)))
  · rcases hlv g h with h' | h'
    · exact s.nn g hg (.inr (.inr h'))
    · have := (hlt g hg).2; omega

theorem rd_acts {B g cap : Nat} {w : World} {As : List Ac} (h : w.ownsRow B 137 6 (.slice (some ⟨g, 0, none⟩) As.length cap) As.length (flatA As)) : ∀ (j : Nat) u, (flatA As)[j]? = some u → w.cell? ((⟨g, 0, none⟩ : Addr).add j) = some u := World.ownsRow.cells h rfl

set_option maxHeartbeats 6400000 in
theorem l18DrawActs' (HB : DrawsBad) (HT : DrawsAct) : DrawsActs := by
  intro c a len cap B R most w hl hm0 hmost hc hR hcB
  have hcw := curB_of hc
  obtain ⟨i0, hi, hz0, hz1, hz2⟩ := info_parts infoA
  have HBB : Hid DrawsBad := HB
  have HTT : Hid DrawsAct := HT
  obtain ⟨co, cc, lc, hcv, _⟩ := hR.coins
  have HV : Hid (roV R = .agg #[.slice none 0 0, .slice co lc.length cc, .slice (some ⟨R.gh, 0, none⟩) 4 R.hc, .int .i64 R.bad]) := by show _ = _; unfold roV; rw [hR.lv, hcv]
  have P0 : Hid (Below w.heap.size w ((w.alloc (.cells #[.slice none 0 0, .slice co lc.length cc, .slice (some ⟨R.gh, 0, none⟩) 4 R.hc, .int .i64 R.bad] 107)).alloc (.cells #[] 137)) ∧ Q4 ((w.alloc (.cells #[.slice none 0 0, .slice co lc.length cc, .slice (some ⟨R.gh, 0, none⟩) 4 R.hc, .int .i64 R.bad] 107)).alloc (.cells #[] 137)) w.heap.size (.slice none 0 0) (.slice co lc.length cc) (.slice (some ⟨R.gh, 0, none⟩) 4 R.hc) (.int .i64 R.bad) ∧ ((w.alloc (.cells #[.slice none 0 0, .slice co lc.length cc, .slice (some ⟨R.gh, 0, none⟩) 4 R.hc, .int .i64 R.bad] 107)).alloc (.cells #[] 137)).ownsRow (w.heap.size + 1) 137 6 (.slice (some ⟨w.heap.size + 1, 0, none⟩) 0 0) 0 []) := by
    refine ⟨((Below.refl _ w).alloc (Nat.le_refl _) _).alloc (by simp) _, q4_below (q4_new w _ _ _ _ _) ((Below.refl _ _).alloc (Nat.le_refl _) _), ?_⟩
    have := own_nilA (w.alloc (.cells #[.slice none 0 0, .slice co lc.length cc, .slice (some ⟨R.gh, 0, none⟩) 4 R.hc, .int .i64 R.bad] 107)) 137
    rw [World.size_alloc] at this
    exact this
  rw [HV.out]
  clear HB HT
  go_enter Tryz.func113, Tryz.ntmps113
  go_upto_region 2 with fail
  generalize (w.alloc (.cells #[.slice none 0 0, .slice co lc.length cc, .slice (some ⟨R.gh, 0, none⟩) 4 R.hc, .int .i64 R.bad] 107)).alloc (.cells #[] 137) = W at P0 ⊢
  have hRW : NewR B W R := newR_fr hR (Fr.of_below P0.out.1 (fun _ => False)) (fun h => h) (fun _ _ h => h)
  obtain ⟨hbl, s0, s1, s2, s3, f0, f1, f2, f3⟩ := P0.out.2.1
  have hcall := l18Copy B R W hRW.parts hRW.coins
  rw [HV.out] at hcall
  go_wp2_with fail
  refine hcall.mono ?_
  rintro e w1 ⟨R2, rfl, hp2, hbad2, ⟨co2, n2, cc2, hcv2⟩, ⟨ao2, na2, ca2, hlv2⟩, hb1⟩
  clear hbad2
  have HV2 : Hid (roV R2 = .agg #[.slice ao2 na2 ca2, .slice co2 n2 cc2, .slice (some ⟨R2.gh, 0, none⟩) 4 R2.hc, .int .i64 R2.bad]) := by show _ = _; unfold roV; rw [hlv2, hcv2]
  have hQ1 := q4_below P0.out.2.1 hb1
  have HS1 : Hid (DaSt c a len cap w (qset w1 w.heap.size (.slice ao2 na2 ca2) (.slice co2 n2 cc2) (.slice (some ⟨R2.gh, 0, none⟩) 4 R2.hc) (.int .i64 R2.bad)) (.slice (some ⟨w.heap.size + 1, 0, none⟩) 0 0) [] R2) := by
    have hq := qset_fr w1 w.heap.size (.slice ao2 na2 ca2) (.slice co2 n2 cc2) (.slice (some ⟨R2.gh, 0, none⟩) 4 R2.hc) (.int .i64 R2.bad)
    have qq := q4_put hQ1 (.slice ao2 na2 ca2) (.slice co2 n2 cc2) (.slice (some ⟨R2.gh, 0, none⟩) 4 R2.hc) (.int .i64 R2.bad)
    have hBw := P0.out.1.trans (hb1.mono P0.out.1.size)
    have hgB := hp2.gB
    have hWl : w.heap.size + 1 < W.heap.size := (World.ownsRow.lt P0.out.2.2 _ rfl).2
    have hlo : ∀ y, R2.lv.ownBlock = some y → W.heap.size ≤ y := fun y hy => (World.ownsRow.lt hp2.own y hy).1
    have hpq := parts_base (parts_fr hp2 hq (fun e => by have e' : R2.gh = w.heap.size := e; omega) (fun y hy e => by have := hlo y hy; omega)) (show w.heap.size ≤ W.heap.size by omega)
    refine ⟨at_belowB hc hcw (hBw.trans (hq.toBelow hBw.size (fun x hx => by omega))), (Fr.of_below hBw (fun x => x = c)).trans hq (fun x hx hl => by omega), ⟨qq.lt, Nat.le_refl _, by rw [hlv2]; exact qq.c0, by rw [hcv2]; exact qq.c1, qq.c2, qq.c3, qq.f0, hpq, by omega, fun e => by have := hlo _ e; omega⟩, ⟨own_baseT (own_fr hq (own_below P0.out.2.2 hb1) (fun y hy e => by simp [Value.ownBlock] at hy; omega)) (Nat.le_succ _), by simp, fun _ h => by cases h⟩, fun y hy hs => ?_, ⟨co2, n2, cc2, hcv2⟩⟩
    simp [Value.ownBlock] at hy
    rcases hs with h | h | h
    · omega
    · omega
    · have := hlo y h; omega
  rw [HV2.out]
  obtain ⟨_, t0, t1, t2, t3, k0, k1, k2, k3⟩ := hQ1
  go_upto_region 3 with fail
  have HS1' : DaSt c a len cap w ((((w1.setCell ⟨w.heap.size, 0, none⟩ (.slice ao2 na2 ca2)).setCell ⟨w.heap.size, 1, none⟩ (.slice co2 n2 cc2)).setCell ⟨w.heap.size, 2, none⟩ (.slice (some ⟨R2.gh, 0, none⟩) 4 R2.hc)).setCell ⟨w.heap.size, 3, none⟩ (.int .i64 R2.bad)) (.slice (some ⟨w.heap.size + 1, 0, none⟩) 0 0) [] R2 := HS1.out
  have HS2 : Hid _ := HS1'
  clear HS1 HS1' hcall hp2 hcv2 hlv2 hb1 HV2 HV t0 t1 t2 t3 k0 k1 k2 k3 s0 s1 s2 s3 f0 f1 f2 f3 hRW hR P0 hcv hbl
  generalize (((w1.setCell ⟨w.heap.size, 0, none⟩ (.slice ao2 na2 ca2)).setCell ⟨w.heap.size, 1, none⟩ (.slice co2 n2 cc2)).setCell ⟨w.heap.size, 2, none⟩ (.slice (some ⟨R2.gh, 0, none⟩) 4 R2.hc)).setCell ⟨w.heap.size, 3, none⟩ (.int .i64 R2.bad) = W2 at HS2 ⊢
  go_wp2_with fail
  refine (Cur.below c a len cap most _ hl (by omega) HS2.out.at').mono ?_
  rintro e w2 ⟨x, rfl, hx0, hx1, hA2, hG2⟩
  have hx2 := hx1 hm0
  have HS3 : Hid (DaSt c a len cap w w2 (.slice (some ⟨w.heap.size + 1, 0, none⟩) 0 0) [] R2) := da_cur HS2.out hcw.1 hA2 (Fr.of_grown hG2)
  clear hA2 hG2 hx1 HS2
  go_wp2_with fail
  go_loopw [7, 8] (fun v n wr => ∃ (m : Nat) (As : List Ac) (R' : Ro), n = .int .i64 m ∧ m ≤ 60 ∧ As.length ≤ 301 * (60 - m) ∧ Hid (DaSt c a len cap w wr v As R')) (fun _ n _ => (intOf n).toNat)
  case atStart =>
    obtain ⟨m, rfl⟩ := Int.eq_ofNat_of_zero_le hx0
    exact ⟨m, [], R2, rfl, by omega, by simp, HS3.out⟩
  case round =>
    obtain ⟨m, As, R', rfl, hm60, hAl, HS⟩ := hrel
    by_cases hm : 0 < m
    · have hmi : (0 : Int) < (m : Int) := by omega
      go_wp2_with fail
      refine (Cur.once c a len cap 6 _ hl (by omega) HS.out.at').mono ?_
      rintro e w3 ⟨b, rfl, hA3, hG3⟩
      have HS4 : Hid (DaSt c a len cap w w3 u7 As R') := da_cur HS.out hcw.1 hA3 (Fr.of_grown hG3)
      clear hA3 hG3 HS HS3
      cases b
      · obtain ⟨co', n', cc', hcv'⟩ := HS4.out.sv
        obtain ⟨ao', cap', hlv', _⟩ := own_lace HS4.out.ro.parts.own
        have HVR : Hid (roV R' = .agg #[.slice ao' R'.L.length cap', .slice co' n' cc', .slice (some ⟨R'.gh, 0, none⟩) 4 R'.hc, .int .i64 R'.bad]) := by show _ = _; unfold roV; rw [hlv', hcv']
        have t0 := HS4.out.ro.c0
        have t1 := HS4.out.ro.c1
        have t2 := HS4.out.ro.c2
        have t3 := HS4.out.ro.c3
        rw [hlv'] at t0
        rw [hcv'] at t1
        have hcall := HTT.out c a len cap w.heap.size R' w3 hl HS4.out.at' hcw HS4.out.ro.parts HS4.out.sv
        rw [HVR.out] at hcall
        clear hlv' hcv' HVR
        go_wp2_with fail
        refine hcall.mono ?_
        rintro e w4 ⟨y, rfl, hy13, hA4, hF4⟩
        have HS5 : Hid (DaSt c a len cap w w4 u7 As R') := da_cur HS4.out hcw.1 hA4 hF4
        have HS6 : Hid (DaSt c a len cap w (w4.alloc (acO y)) u7 As R' ∧ Q6 (w4.alloc (acO y)) w4.heap.size y) := ⟨da_below HS5.out hcw ((Below.refl _ _).alloc (Nat.le_refl _) _), q6_new w4 y _⟩
        clear hcall hA4 hF4 HS4 t0 t1 t2 t3
        go_upto_region 9 with fail
        have hroS : ∀ g, roS w.heap.size R' g → g < w4.heap.size := fun g hg => by
          rcases hg with h | h | h
          · subst h; exact HS5.out.ro.lt
          · subst h; exact (HS5.out.ro.parts.hands 0 (by omega)).lt
          · exact (World.ownsRow.lt HS5.out.ro.parts.own g h).2
        generalize w4.alloc (acO y) = W4 at HS6 ⊢
        generalize w4.heap.size = ab at HS6 hroS ⊢
        clear HS5
        obtain ⟨_, b0, b1, b2, b3, b4, b5, _, _, _, _, _, _⟩ := HS6.out.2
        go_wp2_with fail
        refine (l18Do w.heap.size w.heap.size R' y _ HS6.out.1.ro (by omega)).mono ?_
        intro e w5 hd
        have hq5 : Q6 w5 ab y := by
          obtain ⟨_, _, _, _, _, hf, _⟩ := hd
          exact q6_fr HS6.out.2 hf (fun h => by have := hroS ab h; omega)
        obtain ⟨b', R3, rfl, h5⟩ := da_do HS6.out.1 hcw hd
        have HS7 : Hid (DaSt c a len cap w w5 u7 As R3) := h5
        have HS8 : Hid (DaSt c a len cap w (w5.alloc (acO y)) u7 As R3) := da_below h5 hcw ((Below.refl _ _).alloc (Nat.le_refl _) _)
        clear hd h5 b0 b1 b2 b3 b4 b5 HS6
        obtain ⟨_, b0, b1, b2, b3, b4, b5, _, _, _, _, _, _⟩ := hq5
        go_wp2_with (at_builtin; refine wpList_append_own_at _ rfl _ _ 132 rfl w.heap.size 137 i0 (.agg #[.int .i64 0, .int .i64 0, .int .i64 0, .int .i64 0, .int .i64 0, .string ⟨#[]⟩]) 6 56 Tryz.underlying132 hi hz0 hz1 hz2 rfl (by decide) u7 As.length (flatA As) (by first | rfl | simp [Act.eval]) HS8.out.acts.own ⟨w5.heap.size, 0, none⟩ 1 1 (acells y) (by first | rfl | simp [Act.eval]) rfl (new_acells w5 y _) (acells_one _) ?c3 ?c4 ?c5 ?_)
        case c3 => unfold maxLen; omega
        case c4 => omega
        case c5 => exact HS8.out.fr.size
        intro v' w6 hown' hgrow hnil hat
        have HS9 : Hid (DaSt c a len cap w w6 v' (As ++ [y]) R3) := da_app HS8.out hcw (fun z hz => by simp at hz; subst hz; exact hy13) (by simpa [flatA] using hown') hgrow (by first | exact hnil | exact fun e => HS8.out.acts.ne (hnil.1 e).1) (by simpa using hat)
        clear hown' hgrow hnil hat HS8 HS7
        go_wp2
        go_roundw
        case rel => exact ⟨m - 1, As ++ [y], R3, by congr 1; omega, by omega, by simp; omega, HS9⟩
        case measure => simp [intOf]; omega
      · go_wp2_with fail
        refine (l18DrawRound' HBB.out c a len cap w.heap.size w.heap.size R' _ hl HS4.out.at' hcw HS4.out.ro HS4.out.sv).mono ?_
        rintro e w4 ⟨v2, As2, R3, rfl, hA2s, hlen2, hro3, hgh3, hcv3, hA3, hF3, hlv3⟩
        have HS5 : Hid (DaSt c a len cap w w4 u7 As R3) := da_round HS4.out hcw.1 hA3 hro3 hgh3 hcv3 hF3 hlv3
        obtain ⟨g2, c2, hv2, _, _⟩ := acts_shape hA2s
        subst hv2
        have own2 := hA2s.own
        have HSH : Hid (Short As2) := hA2s.sh
        clear hA2s hro3 hgh3 hcv3 hA3 hF3 hlv3 HS4
        go_wp2_with (at_builtin; refine wpList_append_own_at _ rfl _ _ 132 rfl w.heap.size 137 i0 (.agg #[.int .i64 0, .int .i64 0, .int .i64 0, .int .i64 0, .int .i64 0, .string ⟨#[]⟩]) 6 56 Tryz.underlying132 hi hz0 hz1 hz2 rfl (by decide) u7 As.length (flatA As) (by first | rfl | simp [Act.eval]) HS5.out.acts.own ⟨g2, 0, none⟩ As2.length c2 (flatA As2) (by first | rfl | simp [Act.eval]) (flatA_len As2) (rd_acts own2) (flatA_one As2) ?c3 ?c4 ?c5 ?_)
        case c3 => unfold maxLen; omega
        case c4 => omega
        case c5 => exact HS5.out.fr.size
        intro v' w6 hown' hgrow hnil hat
        have HS9 : Hid (DaSt c a len cap w w6 v' (As ++ As2) R3) := da_app HS5.out hcw HSH.out hown' hgrow (by first | exact hnil | exact fun e => HS5.out.acts.ne (hnil.1 e).1) hat
        clear hown' hgrow hnil hat own2 HS5
        go_wp2
        go_roundw
        case rel => exact ⟨m - 1, As ++ As2, R3, by congr 1; omega, by omega, by simp; omega, HS9⟩
        case measure => simp [intOf]; omega
    · obtain rfl : m = 0 := by omega
      have hm00 : ¬ (0 : Int) < ((0 : Nat) : Int) := by omega
      go_wp2
      go_ret
      exact ⟨_, As, rfl, HS.out.acts, by omega, HS.out.at', HS.out.fr⟩

end Rm
end Go.Proofs.YtfjmenhofllchaaGreatDoor

namespace Go.Proofs.YtfjmenhofllchaaGreatDoor
open Go.RowKit
set_option maxRecDepth 100000
namespace Rm
open Kn (K okK in3)
open Lc (at' RdK laceB takesB flat OwnK CellsK cellsOf)
open Cur (At)

theorem ac_fin2 {c : Nat} {a : Option Addr} {len cap : Nat} {w wr : World} {v0 v1 v2 v3 : Value} {ab : Nat} {x y : Ac} (s : AcSt c a len cap w wr v0 v1 v2 v3 ab x) (hcb : CurB c a len w.heap.size) (hw : y.word.size ≤ 13) : AcPost c a len cap w (.returned (acV y)) (set6 wr (w.heap.size + 1) y) :=
  have hf := set6_fr wr (w.heap.size + 1) y
  ⟨y, rfl, hw, at_belowB s.at' hcb (hf.toBelow s.fr.size (fun y hy => by omega)), s.fr.trans hf (fun y hy hl => by omega)⟩

set_option maxHeartbeats 12800000 in
theorem l18DrawAct' (HB : DrawsBad) : DrawsAct := by
  intro c a len cap B R w hl hca hcB hp hcvx
  obtain ⟨co, nc, cc, hcv⟩ := hcvx
  obtain ⟨ao, cp, hlv, ho, hz, _, hrd, hltv⟩ := own_lace hp.own
  have HBB : Hid DrawsBad := HB
  have hcb := curB_of hca
  have hcw : c < w.heap.size := hca.lt
  have h60 := ((Lc.lace_iff R.L).1 hp.lace).1
  have HV : roV R = .agg #[.slice ao R.L.length cp, .slice co nc cc, .slice (some ⟨R.gh, 0, none⟩) 4 R.hc, .int .i64 R.bad] := by unfold roV; rw [hlv, hcv]
  have hnc : ∀ x, ao = some x → ¬ x.block = c := fun x hx e => by
    have h1 := (hltv x.block (by rw [hlv, hx]; rfl)).1
    have h2 := hcB.1
    omega
  have P0 : Hid (Below w.heap.size w ((w.alloc (.cells #[.slice ao R.L.length cp, .slice co nc cc, .slice (some ⟨R.gh, 0, none⟩) 4 R.hc, .int .i64 R.bad] 107)).alloc (.cells #[.int .i64 0, .int .i64 0, .int .i64 0, .int .i64 0, .int .i64 0, .string ⟨#[]⟩] 137)) ∧ Q4 ((w.alloc (.cells #[.slice ao R.L.length cp, .slice co nc cc, .slice (some ⟨R.gh, 0, none⟩) 4 R.hc, .int .i64 R.bad] 107)).alloc (.cells #[.int .i64 0, .int .i64 0, .int .i64 0, .int .i64 0, .int .i64 0, .string ⟨#[]⟩] 137)) w.heap.size (.slice ao R.L.length cp) (.slice co nc cc) (.slice (some ⟨R.gh, 0, none⟩) 4 R.hc) (.int .i64 R.bad) ∧ Q6 ((w.alloc (.cells #[.slice ao R.L.length cp, .slice co nc cc, .slice (some ⟨R.gh, 0, none⟩) 4 R.hc, .int .i64 R.bad] 107)).alloc (.cells #[.int .i64 0, .int .i64 0, .int .i64 0, .int .i64 0, .int .i64 0, .string ⟨#[]⟩] 137)) (w.heap.size + 1) zeroA) := by
    refine ⟨((Below.refl _ w).alloc (Nat.le_refl _) _).alloc (by simp) _, q4_below (q4_new w _ _ _ _ _) ((Below.refl _ _).alloc (Nat.le_refl _) _), ?_⟩
    have := q6_new (w.alloc (.cells #[.slice ao R.L.length cp, .slice co nc cc, .slice (some ⟨R.gh, 0, none⟩) 4 R.hc, .int .i64 R.bad] 107)) zeroA 137
    rw [World.size_alloc] at this
    exact this
  have HRD : Hid (∀ X : World, FrC c w X → RdK X ao R.L) := fun X hX => rdK_fr hrd hX hnc
  have HHH : Hid (∀ X : World, FrC c w X → ∀ i, i < 4 → HAt X R.gh (i * 4) (R.hs i)) := fun X hX i hi => hat_fr (hp.hands i hi) hX (by have := hp.gB; have := hcB.1; omega)
  have HLC : Hid (laceB R.L = true) := hp.lace
  have HOK : Hid (∀ i, i < 4 → HdOk R.L.length (R.hs i)) := hp.hok
  have HNC : Hid (∀ x, ao = some x → ¬ x.block = c) := hnc
  have hcap := hp.cap
  rw [HV]
  clear HV hp hlv hcv ho hz hrd hltv HB hnc
  go_enter Tryz.func142, Tryz.ntmps142
  go_upto_region 1 with fail
  generalize (w.alloc (.cells #[.slice ao R.L.length cp, .slice co nc cc, .slice (some ⟨R.gh, 0, none⟩) 4 R.hc, .int .i64 R.bad] 107)).alloc (.cells #[.int .i64 0, .int .i64 0, .int .i64 0, .int .i64 0, .int .i64 0, .string ⟨#[]⟩] 137) = W at P0 ⊢
  have HAW : Hid (At c a len cap W) := at_belowB hca hcb P0.out.1
  go_wp2_with fail
  refine (Cur.below c a len cap 4 _ hl (by omega) HAW.out).mono ?_
  rintro e w0 ⟨who, rfl, hw0, hw1, hA0, hG0⟩
  have hw2 := hw1 (by omega)
  obtain ⟨q, rfl⟩ := Int.eq_ofNat_of_zero_le hw0
  have hq4 : q < 4 := by omega
  have hqi : (q : Int) < 4 := by omega
  go_wp2_with fail
  refine (Kn.drawWord c a len cap _ hl hA0).mono ?_
  rintro e w1 ⟨s, rfl, hs13, hA1, hG1⟩
  have HS : Hid (AcSt c a len cap w (w1.alloc (.cells #[.int .i64 1, .int .i64 (q : Int), .int .i64 0, .int .i64 0, .int .i64 0, .string s] 137)) (.slice ao R.L.length cp) (.slice co nc cc) (.slice (some ⟨R.gh, 0, none⟩) 4 R.hc) (.int .i64 R.bad) w1.heap.size ⟨1, (q : Int), 0, 0, 0, s⟩) := ac_beg hcw hcb P0.out.1 P0.out.2.1 P0.out.2.2 hA1 ((Fr.of_grown hG0).trans (Fr.of_grown hG1) (fun _ hx _ => hx)) ⟨1, (q : Int), 0, 0, 0, s⟩ _
  clear hA1 hG1 HAW hA0 hG0 hw1 hw2 hw0
  go_upto_region 2 with fail
  generalize w1.alloc (.cells #[.int .i64 1, .int .i64 (q : Int), .int .i64 0, .int .i64 0, .int .i64 0, .string s] 137) = W2 at HS ⊢
  generalize w1.heap.size = ab at HS ⊢
  have c0 := HS.out.box.c0
  go_wp2_with fail
  refine (Cur.below c a len cap 12 _ hl (by omega) HS.out.at').mono ?_
  rintro e w3 ⟨t, rfl, ht0, ht1, hA3, hG3⟩
  have ht2 := ht1 (by omega)
  have HS3 : Hid (AcSt c a len cap w w3 (.slice ao R.L.length cp) (.slice co nc cc) (.slice (some ⟨R.gh, 0, none⟩) 4 R.hc) (.int .i64 R.bad) ab ⟨1, (q : Int), 0, 0, 0, s⟩) := ac_cur HS.out hcw hA3 hG3
  clear hA3 hG3 HS c0 ht1
  go_upto_block 0 with fail
  go_cut [6] (fun n wx => n = .int .i64 (R.L.length : Int) ∧ ∃ x : Ac, x.word.size ≤ 13 ∧ Hid (AcSt c a len cap w wx (.slice ao R.L.length cp) (.slice co nc cc) (.slice (some ⟨R.gh, 0, none⟩) 4 R.hc) (.int .i64 R.bad) ab x))
  case first =>
    refine wp_block (wp_seq (wp_mono (Q := fun e a' w' => ∃ u19 u20 u21 u22 u23 u24 : Value, e = Exit.normal ∧ w3 = w' ∧ a' = { tmps := #[.pointer (some ⟨c, 0, none⟩), .agg #[.slice ao R.L.length cp, .slice co nc cc, .slice (some ⟨R.gh, 0, none⟩) 4 R.hc, .int .i64 R.bad], undef, .pointer (some ⟨w.heap.size, 0, none⟩), .pointer (some ⟨w.heap.size + 1, 0, none⟩), .pointer (some ⟨ab, 0, none⟩), .int .i64 (R.L.length : Int), undef, .pointer (some ⟨c, 0, none⟩), .int .i64 (q : Int), .pointer (some ⟨c, 0, none⟩), .string s, .agg #[.int .i64 1, .int .i64 (q : Int), .int .i64 0, .int .i64 0, .int .i64 0, .string s], .pointer (some ⟨w.heap.size, 0, none⟩), .slice ao R.L.length cp, .int .i64 (R.L.length : Int), .pointer (some ⟨c, 0, none⟩), .int .i64 t, .bool (decide (t ≤ 5)), u19, u20, u21, u22, u23, u24, undef, undef, undef, undef, undef, undef, undef, undef, undef, undef, undef, undef, undef, undef, undef, undef, undef, undef, undef, undef, undef, undef, undef, undef, undef, undef, undef, undef, undef, undef, undef, undef, undef, undef, undef, undef, undef, undef, undef, undef, undef, undef, undef, undef, undef, undef, undef, undef, undef, undef, undef, undef, undef, undef, undef, undef, undef, undef, undef, undef, undef, undef, undef, undef, undef, undef, undef, undef, undef, undef, undef, undef], defers := [] }) ?chain ?after))
    case chain =>
      have htc : t = 0 ∨ t = 1 ∨ t = 2 ∨ t = 3 ∨ t = 4 ∨ t = 5 ∨ t = 6 ∨ t = 7 ∨ t = 8 ∨ t = 9 ∨ t = 10 ∨ t = 11 := by omega
      rcases htc with rfl | rfl | rfl | rfl | rfl | rfl | rfl | rfl | rfl | rfl | rfl | rfl
      all_goals go_wp2_with fail
    case after =>
      rintro e a' w' ⟨u19, u20, u21, u22, u23, u24, rfl, rfl, rfl⟩
      dsimp only [Exit.then]
      by_cases ht5 : t ≤ 5
      · have hd5 : decide (t ≤ 5) = true := decide_eq_true ht5
        rw [hd5]
        clear ht5 hd5
        have HSl : Hid (AcSt c a len cap w ((w3.setCell ⟨ab, 0, none⟩ (.int .i64 2)).setCell ⟨ab, 5, none⟩ (.string ⟨#[]⟩)) (.slice ao R.L.length cp) (.slice co nc cc) (.slice (some ⟨R.gh, 0, none⟩) 4 R.hc) (.int .i64 R.bad) ab ⟨2, (q : Int), 0, 0, 0, ⟨#[]⟩⟩) := by
          have h1 := ac_put HS3.out hcb (Fr.set _ ⟨ab, 0, none⟩ (.int .i64 2)) (q6_0 HS3.out.act 2)
          exact ac_put h1 hcb (Fr.set _ ⟨ab, 5, none⟩ (.string ⟨#[]⟩)) (q6_5 h1.act ⟨#[]⟩)
        have b0 := HS3.out.act.c0
        have b5 := HS3.out.act.c5
        have g0 := HS3.out.act.f0
        have g5 := HS3.out.act.f5
        go_wp2_with fail
        clear b0 b5 g0 g5
        generalize (w3.setCell ⟨ab, 0, none⟩ (.int .i64 2)).setCell ⟨ab, 5, none⟩ (.string ⟨#[]⟩) = W9 at HSl ⊢
        go_loopw [7] (fun i wr => ∃ j : Nat, j ≤ R.L.length ∧ i = .int .i64 j ∧ Hid (AcSt c a len cap w wr (.slice ao R.L.length cp) (.slice co nc cc) (.slice (some ⟨R.gh, 0, none⟩) 4 R.hc) (.int .i64 R.bad) ab ⟨2, (q : Int), 0, 0, 0, ⟨#[]⟩⟩)) (fun i _ => R.L.length - (intOf i).toNat)
        case atStart => exact ⟨0, by omega, rfl, HSl.out⟩
        case round =>
          obtain ⟨j, hj, rfl, HSr⟩ := hrel
          by_cases hjl : j < R.L.length
          · have hji : (j : Int) < (R.L.length : Int) := by omega
            have c2 := HSr.out.box.c2
            have b1 := HSr.out.act.c1
            have x1 := (HHH.out wr HSr.out.fr q hq4).c1
            have hh := HOK.out q hq4
            have h0 := hh.h0
            have h1 := hh.h1
            clear hh HSl
            cases hb : Bit.bit (R.hs q).has j
            · have HBb : Hid (Bit.bit (R.hs q).has j = false) := hb
              clear hb
              go_wp2_with (go_at_call 48; refine (Base.l1Has _ _ _ h0 h1 (by omega) (by omega)).mono ?_; rintro e w' ⟨rfl, rfl⟩; rw [Int.toNat_natCast, HBb.out])
              refine (Cur.once c a len cap 5 _ hl (by omega) HSr.out.at').mono ?_
              rintro e wz ⟨b, rfl, hAz, hGz⟩
              have HSz : Hid (AcSt c a len cap w wz (.slice ao R.L.length cp) (.slice co nc cc) (.slice (some ⟨R.gh, 0, none⟩) 4 R.hc) (.int .i64 R.bad) ab ⟨2, (q : Int), 0, 0, 0, ⟨#[]⟩⟩) := ac_cur HSr.out hcw hAz hGz
              clear hAz hGz HSr c2 b1 x1
              cases b
              · have b2 := HSz.out.act.c2
                have g2 := HSz.out.act.f2
                go_wp2
                go_meet
                exact ⟨rfl, ⟨2, (q : Int), (j : Int), 0, 0, ⟨#[]⟩⟩, by show (ByteArray.mk #[]).size ≤ 13; decide, ac_put HSz.out hcb (Fr.set _ ⟨ab, 2, none⟩ _) (q6_2 HSz.out.act _)⟩
              · go_wp2
                go_roundw
                case rel => exact ⟨j + 1, by omega, by go_num, HSz⟩
                case measure => simp [intOf]; omega
            · have HBb : Hid (Bit.bit (R.hs q).has j = true) := hb
              clear hb
              go_wp2_with (go_at_call 48; refine (Base.l1Has _ _ _ h0 h1 (by omega) (by omega)).mono ?_; rintro e w' ⟨rfl, rfl⟩; rw [Int.toNat_natCast, HBb.out])
              go_roundw
              case rel => exact ⟨j + 1, by omega, by go_num, HSr⟩
              case measure => simp [intOf]; omega
          · obtain rfl : j = R.L.length := by omega
            have hjj : ¬ (R.L.length : Int) < (R.L.length : Int) := by omega
            go_wp2
            go_meet
            exact ⟨rfl, _, by show (ByteArray.mk #[]).size ≤ 13; decide, HSr⟩
      · have hd5 : decide (t ≤ 5) = false := decide_eq_false ht5
        rw [hd5]
        have htc : t = 6 ∨ t = 7 ∨ t = 8 ∨ t = 9 ∨ t = 10 ∨ t = 11 := by omega
        clear hd5 ht5
        rcases htc with rfl | rfl | rfl | rfl | rfl | rfl
        · skip
          have c3 := HS3.out.box.c3
          by_cases hbad : 0 ≤ R.bad
          · have c0 := HS3.out.box.c0
            have c1 := HS3.out.box.c1
            have c2 := HS3.out.box.c2
            go_wp2_with fail
            refine (HBB.out c a len cap ao cp R.L co nc cc (some ⟨R.gh, 0, none⟩) 4 R.hc R.bad _ hl HS3.out.at' HLC.out (HRD.out _ HS3.out.fr) HNC.out).mono ?_
            rintro e w4 ⟨y, rfl, hy13, hA4, hF4⟩
            have HS4 : Hid (AcSt c a len cap w w4 (.slice ao R.L.length cp) (.slice co nc cc) (.slice (some ⟨R.gh, 0, none⟩) 4 R.hc) (.int .i64 R.bad) ab ⟨1, (q : Int), 0, 0, 0, s⟩) := ac_cur HS3.out hcw hA4 hF4.grown
            have HF : Hid (AcPost c a len cap w (.returned (acV y)) (set6 w4 (w.heap.size + 1) y)) := ac_fin2 HS4.out hcb hy13
            have HQ : Hid (Q6 (set6 w4 (w.heap.size + 1) y) (w.heap.size + 1) y) := set6_at HS4.out.res
            obtain ⟨_, r0, r1, r2, r3, r4, r5, f0, f1, f2, f3, f4, f5⟩ := HS4.out.res
            clear hA4 hF4
            go_wp2
            obtain ⟨_, y0, y1, y2, y3, y4, y5, _, _, _, _, _, _⟩ := HQ.out
            unfold set6 at y0 y1 y2 y3 y4 y5
            exact bodyPost_ret (v := acV y) (by simp [results, Tryz.results142, go_sem, y0, y1, y2, y3, y4, y5]) rfl HF.out
          · go_wp2
            go_meet
            exact ⟨rfl, _, hs13, HS3⟩
        · skip
          go_wp2_with fail
          refine (Cur.once c a len cap 4 _ hl (by omega) HS3.out.at').mono ?_
          rintro e w4 ⟨b, rfl, hA4, hG4⟩
          have HS4 : Hid (AcSt c a len cap w w4 (.slice ao R.L.length cp) (.slice co nc cc) (.slice (some ⟨R.gh, 0, none⟩) 4 R.hc) (.int .i64 R.bad) ab ⟨1, (q : Int), 0, 0, 0, s⟩) := ac_cur HS3.out hcw hA4 hG4
          have h3 := ac_put HS4.out hcb (set6_fr w4 ab ⟨3, (q : Int), 0, 0, 0, ⟨#[]⟩⟩) (set6_at HS4.out.act)
          have h4 := ac_put HS4.out hcb (set6_fr w4 ab ⟨4, (q : Int), 0, 0, 0, ⟨#[]⟩⟩) (set6_at HS4.out.act)
          unfold set6 at h3 h4
          have H3 : Hid _ := h3
          have H4 : Hid _ := h4
          have hz13 : (Ac.mk 0 0 0 0 0 ⟨#[]⟩).word.size ≤ 13 := by show (ByteArray.mk #[]).size ≤ 13; decide
          clear h3 h4
          obtain ⟨_, b0, b1, b2, b3, b4, b5, g0, g1, g2, g3, g4, g5⟩ := HS4.out.act
          clear hA4 hG4
          cases b
          · go_wp2
            go_meet
            exact ⟨rfl, _, hz13, H3⟩
          · go_wp2
            go_meet
            exact ⟨rfl, _, hz13, H4⟩
        · skip
          go_wp2
          go_meet
          exact ⟨rfl, _, hs13, HS3⟩
        · skip
          go_wp2
          go_meet
          exact ⟨rfl, _, hs13, HS3⟩
        · skip
          go_wp2
          go_meet
          exact ⟨rfl, _, hs13, HS3⟩
        · skip
          go_wp2
          go_meet
          exact ⟨rfl, _, hs13, HS3⟩
  case rest =>
    obtain ⟨rfl, x, hx13, HS4⟩ := hcut
    clear HS3
    go_wp2_with fail
    refine (Cur.once c a len cap 60 _ hl (by omega) HS4.out.at').mono ?_
    rintro e w5 ⟨b, rfl, hA5, hG5⟩
    have HS5 : Hid (AcSt c a len cap w w5 (.slice ao R.L.length cp) (.slice co nc cc) (.slice (some ⟨R.gh, 0, none⟩) 4 R.hc) (.int .i64 R.bad) ab x) := ac_cur HS4.out hcw hA5 hG5
    clear hA5 hG5 HS4
    cases b
    · have HF : Hid (AcPost c a len cap w (.returned (acV x)) (set6 w5 (w.heap.size + 1) x)) := ac_fin HS5.out hcb hx13
      have HQ : Hid (Q6 (set6 w5 (w.heap.size + 1) x) (w.heap.size + 1) x) := set6_at HS5.out.res
      obtain ⟨_, b0, b1, b2, b3, b4, b5, _, _, _, _, _, _⟩ := HS5.out.act
      obtain ⟨_, r0, r1, r2, r3, r4, r5, f0, f1, f2, f3, f4, f5⟩ := HS5.out.res
      go_wp2
      obtain ⟨_, y0, y1, y2, y3, y4, y5, _, _, _, _, _, _⟩ := HQ.out
      unfold set6 at y0 y1 y2 y3 y4 y5
      exact bodyPost_ret (v := acV x) (by simp [results, Tryz.results142, go_sem, y0, y1, y2, y3, y4, y5]) rfl HF.out
    · go_wp2_with fail
      refine (Cur.below c a len cap 3 _ hl (by omega) HS5.out.at').mono ?_
      rintro e w6 ⟨p, rfl, hp0, hp1, hA6, hG6⟩
      have hp2 := hp1 (by omega)
      have HS6 : Hid (AcSt c a len cap w w6 (.slice ao R.L.length cp) (.slice co nc cc) (.slice (some ⟨R.gh, 0, none⟩) 4 R.hc) (.int .i64 R.bad) ab x) := ac_cur HS5.out hcw hA6 hG6
      clear hA6 hG6 HS5 hp1
      go_upto_block 3 with fail
      go_cut [6] (fun n wx => n = .int .i64 (R.L.length : Int) ∧ ∃ x' : Ac, x'.word.size ≤ 13 ∧ Hid (AcSt c a len cap w wx (.slice ao R.L.length cp) (.slice co nc cc) (.slice (some ⟨R.gh, 0, none⟩) 4 R.hc) (.int .i64 R.bad) ab x'))
      case first =>
        have hpc : p = 0 ∨ p = 1 ∨ p = 2 := by omega
        rcases hpc with rfl | rfl | rfl
        · skip
          have HN : Hid (AcSt c a len cap w (w6.alloc (.cells #[.int .i64 0, .int .i64 6, .int .i64 (-1)] 2)) (.slice ao R.L.length cp) (.slice co nc cc) (.slice (some ⟨R.gh, 0, none⟩) 4 R.hc) (.int .i64 R.bad) ab x ∧ (w6.alloc (.cells #[.int .i64 0, .int .i64 6, .int .i64 (-1)] 2)).cell? ⟨w6.heap.size, 0, none⟩ = some (.int .i64 0) ∧ (w6.alloc (.cells #[.int .i64 0, .int .i64 6, .int .i64 (-1)] 2)).cell? ⟨w6.heap.size, 1, none⟩ = some (.int .i64 6) ∧ (w6.alloc (.cells #[.int .i64 0, .int .i64 6, .int .i64 (-1)] 2)).cell? ⟨w6.heap.size, 2, none⟩ = some (.int .i64 (-1)) ∧ w6.heap.size < (w6.alloc (.cells #[.int .i64 0, .int .i64 6, .int .i64 (-1)] 2)).heap.size) := ⟨ac_below HS6.out hcb ((Below.refl _ _).alloc (Nat.le_refl _) _), by simp, by simp, by simp, by simp⟩
          go_wp2_with fail
          generalize w6.alloc (.cells #[.int .i64 0, .int .i64 6, .int .i64 (-1)] 2) = W7 at HN ⊢
          have hkc : w6.heap.size ≠ c := by have := HS6.out.fr.size; omega
          generalize w6.heap.size = kb at HN hkc ⊢
          refine (Cur.below c a len cap 3 _ hl (by omega) HN.out.1.at').mono ?_
          rintro e w8 ⟨y, rfl, hy0, hy1, hA8, hG8⟩
          have hy2 := hy1 (by omega)
          have HS8 : Hid (AcSt c a len cap w w8 (.slice ao R.L.length cp) (.slice co nc cc) (.slice (some ⟨R.gh, 0, none⟩) 4 R.hc) (.int .i64 R.bad) ab x) := ac_cur HN.out.1 hcw hA8 hG8
          have d0 := ((Fr.of_grown hG8).cell (p := ⟨kb, 0, none⟩) HN.out.2.2.2.2 hkc).trans HN.out.2.1
          have d1 := ((Fr.of_grown hG8).cell (p := ⟨kb, 1, none⟩) HN.out.2.2.2.2 hkc).trans HN.out.2.2.1
          have d2 := ((Fr.of_grown hG8).cell (p := ⟨kb, 2, none⟩) HN.out.2.2.2.2 hkc).trans HN.out.2.2.2.1
          have bf := HS8.out.act.f0
          have bc := HS8.out.act.c0
          clear hA8 hG8 hy1 HN HS6
          have hyc : y = 0 ∨ y = 1 ∨ y = 2 := by omega
          rcases hyc with rfl | rfl | rfl
          · go_wp2
            go_meet
            exact ⟨rfl, { x with kind := 0 }, hx13, ac_put HS8.out hcb (Fr.set _ ⟨ab, 0, none⟩ _) (q6_0 HS8.out.act _)⟩
          · go_wp2
            go_meet
            exact ⟨rfl, { x with kind := 6 }, hx13, ac_put HS8.out hcb (Fr.set _ ⟨ab, 0, none⟩ _) (q6_0 HS8.out.act _)⟩
          · go_wp2
            go_meet
            exact ⟨rfl, { x with kind := (-1) }, hx13, ac_put HS8.out hcb (Fr.set _ ⟨ab, 0, none⟩ _) (q6_0 HS8.out.act _)⟩
        · skip
          have HN : Hid (AcSt c a len cap w (w6.alloc (.cells #[.int .i64 (-1), .int .i64 4] 2)) (.slice ao R.L.length cp) (.slice co nc cc) (.slice (some ⟨R.gh, 0, none⟩) 4 R.hc) (.int .i64 R.bad) ab x ∧ (w6.alloc (.cells #[.int .i64 (-1), .int .i64 4] 2)).cell? ⟨w6.heap.size, 0, none⟩ = some (.int .i64 (-1)) ∧ (w6.alloc (.cells #[.int .i64 (-1), .int .i64 4] 2)).cell? ⟨w6.heap.size, 1, none⟩ = some (.int .i64 4) ∧ w6.heap.size < (w6.alloc (.cells #[.int .i64 (-1), .int .i64 4] 2)).heap.size) := ⟨ac_below HS6.out hcb ((Below.refl _ _).alloc (Nat.le_refl _) _), by simp, by simp, by simp⟩
          go_wp2_with fail
          generalize w6.alloc (.cells #[.int .i64 (-1), .int .i64 4] 2) = W7 at HN ⊢
          have hkc : w6.heap.size ≠ c := by have := HS6.out.fr.size; omega
          generalize w6.heap.size = kb at HN hkc ⊢
          refine (Cur.below c a len cap 2 _ hl (by omega) HN.out.1.at').mono ?_
          rintro e w8 ⟨y, rfl, hy0, hy1, hA8, hG8⟩
          have hy2 := hy1 (by omega)
          have HS8 : Hid (AcSt c a len cap w w8 (.slice ao R.L.length cp) (.slice co nc cc) (.slice (some ⟨R.gh, 0, none⟩) 4 R.hc) (.int .i64 R.bad) ab x) := ac_cur HN.out.1 hcw hA8 hG8
          have d0 := ((Fr.of_grown hG8).cell (p := ⟨kb, 0, none⟩) HN.out.2.2.2 hkc).trans HN.out.2.1
          have d1 := ((Fr.of_grown hG8).cell (p := ⟨kb, 1, none⟩) HN.out.2.2.2 hkc).trans HN.out.2.2.1
          have bf := HS8.out.act.f1
          have bc := HS8.out.act.c1
          clear hA8 hG8 hy1 HN HS6
          have hyc : y = 0 ∨ y = 1 := by omega
          rcases hyc with rfl | rfl
          · go_wp2
            go_meet
            exact ⟨rfl, { x with who := (-1) }, hx13, ac_put HS8.out hcb (Fr.set _ ⟨ab, 1, none⟩ _) (q6_1 HS8.out.act _)⟩
          · go_wp2
            go_meet
            exact ⟨rfl, { x with who := 4 }, hx13, ac_put HS8.out hcb (Fr.set _ ⟨ab, 1, none⟩ _) (q6_1 HS8.out.act _)⟩
        · skip
          have HN : Hid (AcSt c a len cap w (w6.alloc (.cells #[.int .i64 (-1), .int .i64 (R.L.length : Int), .int .i64 60] 2)) (.slice ao R.L.length cp) (.slice co nc cc) (.slice (some ⟨R.gh, 0, none⟩) 4 R.hc) (.int .i64 R.bad) ab x ∧ (w6.alloc (.cells #[.int .i64 (-1), .int .i64 (R.L.length : Int), .int .i64 60] 2)).cell? ⟨w6.heap.size, 0, none⟩ = some (.int .i64 (-1)) ∧ (w6.alloc (.cells #[.int .i64 (-1), .int .i64 (R.L.length : Int), .int .i64 60] 2)).cell? ⟨w6.heap.size, 1, none⟩ = some (.int .i64 (R.L.length : Int)) ∧ (w6.alloc (.cells #[.int .i64 (-1), .int .i64 (R.L.length : Int), .int .i64 60] 2)).cell? ⟨w6.heap.size, 2, none⟩ = some (.int .i64 60) ∧ w6.heap.size < (w6.alloc (.cells #[.int .i64 (-1), .int .i64 (R.L.length : Int), .int .i64 60] 2)).heap.size) := ⟨ac_below HS6.out hcb ((Below.refl _ _).alloc (Nat.le_refl _) _), by simp, by simp, by simp, by simp⟩
          go_wp2_with fail
          generalize w6.alloc (.cells #[.int .i64 (-1), .int .i64 (R.L.length : Int), .int .i64 60] 2) = W7 at HN ⊢
          have hkc : w6.heap.size ≠ c := by have := HS6.out.fr.size; omega
          generalize w6.heap.size = kb at HN hkc ⊢
          refine (Cur.below c a len cap 3 _ hl (by omega) HN.out.1.at').mono ?_
          rintro e w8 ⟨y, rfl, hy0, hy1, hA8, hG8⟩
          have hy2 := hy1 (by omega)
          have HS8 : Hid (AcSt c a len cap w w8 (.slice ao R.L.length cp) (.slice co nc cc) (.slice (some ⟨R.gh, 0, none⟩) 4 R.hc) (.int .i64 R.bad) ab x) := ac_cur HN.out.1 hcw hA8 hG8
          have d0 := ((Fr.of_grown hG8).cell (p := ⟨kb, 0, none⟩) HN.out.2.2.2.2 hkc).trans HN.out.2.1
          have d1 := ((Fr.of_grown hG8).cell (p := ⟨kb, 1, none⟩) HN.out.2.2.2.2 hkc).trans HN.out.2.2.1
          have d2 := ((Fr.of_grown hG8).cell (p := ⟨kb, 2, none⟩) HN.out.2.2.2.2 hkc).trans HN.out.2.2.2.1
          have bf := HS8.out.act.f2
          have bc := HS8.out.act.c2
          clear hA8 hG8 hy1 HN HS6
          have hyc : y = 0 ∨ y = 1 ∨ y = 2 := by omega
          rcases hyc with rfl | rfl | rfl
          · go_wp2
            go_meet
            exact ⟨rfl, { x with knot := (-1) }, hx13, ac_put HS8.out hcb (Fr.set _ ⟨ab, 2, none⟩ _) (q6_2 HS8.out.act _)⟩
          · go_wp2
            go_meet
            exact ⟨rfl, { x with knot := (R.L.length : Int) }, hx13, ac_put HS8.out hcb (Fr.set _ ⟨ab, 2, none⟩ _) (q6_2 HS8.out.act _)⟩
          · go_wp2
            go_meet
            exact ⟨rfl, { x with knot := 60 }, hx13, ac_put HS8.out hcb (Fr.set _ ⟨ab, 2, none⟩ _) (q6_2 HS8.out.act _)⟩
      case rest =>
        obtain ⟨rfl, x', hx13', HS9⟩ := hcut
        clear HS6
        have HF : Hid (AcPost c a len cap w (.returned (acV x')) (set6 wc (w.heap.size + 1) x')) := ac_fin HS9.out hcb hx13'
        have HQ : Hid (Q6 (set6 wc (w.heap.size + 1) x') (w.heap.size + 1) x') := set6_at HS9.out.res
        obtain ⟨_, b0, b1, b2, b3, b4, b5, _, _, _, _, _, _⟩ := HS9.out.act
        obtain ⟨_, r0, r1, r2, r3, r4, r5, f0, f1, f2, f3, f4, f5⟩ := HS9.out.res
        go_wp2
        obtain ⟨_, y0, y1, y2, y3, y4, y5, _, _, _, _, _, _⟩ := HQ.out
        unfold set6 at y0 y1 y2 y3 y4 y5
        exact bodyPost_ret (v := acV x') (by simp [results, Tryz.results142, go_sem, y0, y1, y2, y3, y4, y5]) rfl HF.out

end Rm
end Go.Proofs.YtfjmenhofllchaaGreatDoor

namespace Go.Proofs.YtfjmenhofllchaaGreatDoor
open Go.RowKit
set_option maxRecDepth 100000
namespace Rm
open Kn (K okK in3)
open Lc (at' RdK laceB takesB flat OwnK CellsK cellsOf)
open Cur (At)

/-- a room's coins, apart from all that acts change -/
structure CoIn (B : Nat) (w : World) (pr : Nat) (R : Ro) : Prop where
  at' : CoinsAt w R.cv
  ne : ∀ g, R.cv.ownBlock = some g → g ≠ pr ∧ g ≠ R.gh ∧ R.lv.ownBlock ≠ some g ∧ B ≤ g ∧ g < w.heap.size
theorem co_do {B pr : Nat} {w w1 : World} {R R' : Ro} (h : CoIn B w pr R) (hgh : R'.gh = R.gh) (hcv : R'.cv = R.cv) (hf : Fr (roS pr R) w w1) (hlv : ∀ g, R'.lv.ownBlock = some g → R.lv.ownBlock = some g ∨ w.heap.size ≤ g) : CoIn B w1 pr R' := by
  refine ⟨?_, fun g hg => ?_⟩
  · rw [hcv]
    refine coinsAt_fr h.at' hf (fun g hg hn => ?_)
    obtain ⟨n1, n2, n3, _, _⟩ := h.ne g hg
    rcases hn with q | q | q
    · exact n1 q
    · exact n2 q
    · exact n3 q
  · rw [hcv] at hg
    obtain ⟨n1, n2, n3, n4, n5⟩ := h.ne g hg
    refine ⟨n1, by rw [hgh]; exact n2, fun e => ?_, n4, Nat.lt_of_lt_of_le n5 hf.size⟩
    rcases hlv g e with q | q
    · exact n3 q
    · omega

theorem pl_stepC {c : Nat} {a : Option Addr} {len cap : Nat} {w wr w1 : World} {pr g : Nat} {v : Value} {As : List Ac} {R : Ro} {xo : Out} {e : Ending} (s : PlSt c a len cap w wr pr g v As R) (hcb : CurB c a len w.heap.size) (hco : CoIn (w.heap.size + 1) wr pr R) (hd : DoPost (w.heap.size + 1) pr R xo wr e w1) :
    ∃ (b : Bool) (R' : Ro), e = .returned (.bool b) ∧ At c a len cap w1 ∧ FrC c w w1 ∧ RoAt (w.heap.size + 1) w1 pr R' ∧ w1.ownsRow w.heap.size 137 6 v As.length (flatA As) ∧ g ≠ R'.gh ∧ R'.lv.ownBlock ≠ some g ∧ R'.cv = R.cv ∧ CoIn (w.heap.size + 1) w1 pr R' ∧ Q4 w1 w.heap.size (.slice none 0 0) (.slice none 0 0) (.slice none 0 0) (.int .i64 0) := by
  obtain ⟨R', rfl, hro, hgh, hbad, hf, hlv⟩ := hd
  have hS : ∀ x, roS pr R x → w.heap.size + 1 ≤ x := fun x hx => by
    rcases hx with rfl | rfl | h
    · exact s.ro.pB
    · exact s.ro.parts.gB
    · exact (World.ownsRow.lt s.ro.parts.own x h).1
  have hlt := World.ownsRow.lt s.acts g s.gv
  refine ⟨xo.done, R', rfl, at_belowB s.at' hcb (hf.toBelow s.fr.size (fun x hx => by have := hS x hx; omega)), s.fr.trans hf (fun x hx hl => by have := hS x hx; omega), hro, own_fr hf s.acts (fun y hy hn => ?_), by rw [hgh]; exact s.n2, fun e => ?_, hbad.2.1, co_do hco hgh hbad.2.1 hf hlv, q4_fr s.res hf (fun hn => by have := hS _ hn; omega)⟩
  · have : y = g := by have := s.gv; rw [hy] at this; injection this
    subst this
    rcases hn with h | h | h
    · exact s.n1 h
    · exact s.n2 h
    · exact s.n3 h
  · rcases hlv g e with h | h
    · exact s.n3 h
    · omega

theorem coins_lt {w : World} {v : Value} (h : CoinsAt w v) (g : Nat) (hg : v.ownBlock = some g) : g < w.heap.size := by
  obtain ⟨ao, cap, l, hv, _, h2, _, _⟩ := h
  rw [hv] at hg
  cases ao with
  | none => simp [Value.ownBlock] at hg
  | some x =>
    simp [Value.ownBlock] at hg
    obtain ⟨g', rfl, hlt⟩ := h2 x rfl
    simp at hg
    omega

/-- how the drawing of a room ends, with its coins -/
def DrawPostC (c : Nat) (a : Option Addr) (len cap : Nat) (w : World) (e : Ending) (w' : World) : Prop := ∃ R, e = .returned (roV R) ∧ Parts w.heap.size w' R ∧ At c a len cap w' ∧ FrC c w w' ∧ (CoinsAt w' R.cv ∧ R.cv.ownBlock ≠ some R.gh ∧ ∀ g, R.cv.ownBlock = some g → R.lv.ownBlock ≠ some g) ∧ (∀ g, R.cv.ownBlock = some g → w.heap.size ≤ g)
/-- the drawing of a room keeps its word, with its coins -/
def DrawsRoomC : Prop := ∀ (c : Nat) (a : Option Addr) (len cap : Nat) (w : World), len ≤ 4096 → At c a len cap w → Calls Tryz.prog 79 #[.pointer (some ⟨c, 0, none⟩)] w (DrawPostC c a len cap w)

set_option maxHeartbeats 3200000 in
theorem l18DrawC (HA : DrawsActs) (c : Nat) (a : Option Addr) (len cap : Nat) (w : World) (hl : len ≤ 4096) (hc : At c a len cap w) :
    Calls Tryz.prog 79 #[.pointer (some ⟨c, 0, none⟩)] w (DrawPostC c a len cap w) := by
  have hcb := curB_of hc
  have hcw : c < w.heap.size := hc.lt
  have P0 : Hid (Below w.heap.size w (w.alloc (.cells #[.slice none 0 0, .slice none 0 0, .slice none 0 0, .int .i64 0] 107)) ∧ Q4 (w.alloc (.cells #[.slice none 0 0, .slice none 0 0, .slice none 0 0, .int .i64 0] 107)) w.heap.size (.slice none 0 0) (.slice none 0 0) (.slice none 0 0) (.int .i64 0)) := ⟨(Below.refl _ _).alloc (Nat.le_refl _) _, q4_new _ _ _ _ _ _⟩
  have HAA : Hid DrawsActs := HA
  clear HA
  go_enter Tryz.func79, Tryz.ntmps79
  go_upto_region 1 with fail
  generalize w.alloc (.cells #[.slice none 0 0, .slice none 0 0, .slice none 0 0, .int .i64 0] 107) = W0 at P0 ⊢
  have HA0 : Hid (At c a len cap W0) := at_belowB hc hcb P0.out.1
  go_wp2_with fail
  refine (l18New c a len cap _ hl HA0.out).mono ?_
  rintro e w1 ⟨R, rfl, hR, hA1, hF1⟩
  have hlt0 : w.heap.size < W0.heap.size := P0.out.2.lt
  obtain ⟨co, cc, lc, hcv, _⟩ := hR.coins
  have HV : Hid (roV R = .agg #[.slice none 0 0, .slice co lc.length cc, .slice (some ⟨R.gh, 0, none⟩) 4 R.hc, .int .i64 R.bad]) := by show _ = _; unfold roV; rw [hR.lv, hcv]
  have HQ1 : Hid (Q4 w1 w.heap.size (.slice none 0 0) (.slice none 0 0) (.slice none 0 0) (.int .i64 0)) := q4_fr P0.out.2 hF1 (by omega)
  have HN4 : Hid (Q4 (w1.alloc (.cells #[.slice none 0 0, .slice co lc.length cc, .slice (some ⟨R.gh, 0, none⟩) 4 R.hc, .int .i64 R.bad] 107)) w1.heap.size (.slice none 0 0) (.slice co lc.length cc) (.slice (some ⟨R.gh, 0, none⟩) 4 R.hc) (.int .i64 R.bad) ∧ Below w1.heap.size w1 (w1.alloc (.cells #[.slice none 0 0, .slice co lc.length cc, .slice (some ⟨R.gh, 0, none⟩) 4 R.hc, .int .i64 R.bad] 107))) := ⟨q4_new _ _ _ _ _ _, (Below.refl _ _).alloc (Nat.le_refl _) _⟩
  rw [HV.out]
  go_upto_region 2 with fail
  have hW01 : W0.heap.size ≤ w1.heap.size := hF1.size
  have hgl1 : R.gh < w1.heap.size := (hR.parts.hands 0 (by omega)).lt
  have hw12 : w1.heap.size < (w1.alloc (.cells #[.slice none 0 0, .slice co lc.length cc, .slice (some ⟨R.gh, 0, none⟩) 4 R.hc, .int .i64 R.bad] 107)).heap.size := HN4.out.1.lt
  generalize w1.alloc (.cells #[.slice none 0 0, .slice co lc.length cc, .slice (some ⟨R.gh, 0, none⟩) 4 R.hc, .int .i64 R.bad] 107) = W2 at HN4 hw12 ⊢
  have hR2 : NewR W0.heap.size W2 R := newR_fr hR (Fr.of_below HN4.out.2 (fun _ => False)) (fun h => h) (fun _ _ h => h)
  have HA2 : Hid (At c a len cap W2) := at_belowB hA1 hcb (HN4.out.2.mono (by omega))
  obtain ⟨_, s0, s1, s2, s3, g0, _, _, _⟩ := HN4.out.1
  go_wp2_with fail
  have hcall := HAA.out c a len cap W0.heap.size R 50 W2 hl (by omega) (by omega) HA2.out hR2 (by omega)
  rw [HV.out] at hcall
  refine hcall.mono ?_
  rintro e w3 ⟨v, As, rfl, hAs, hAl, hA3, hF3⟩
  obtain ⟨g, gc, hv, hWg, hgl⟩ := acts_shape hAs
  subst hv
  have hf13 : Fr (fun x => x = c) w1 w3 := (Fr.of_below HN4.out.2 _).trans hF3 (fun _ hx _ => hx)
  have HS3 : Hid (PlSt c a len cap w w3 w1.heap.size g (.slice (some ⟨g, 0, none⟩) As.length gc) As R) := by
    have q3 := q4_fr HN4.out.1 hF3 (show ¬ w1.heap.size = c by omega)
    have hp3 : Parts (w.heap.size + 1) w3 R := parts_base (parts_fr hR2.parts hF3 (by have := hR2.parts.gB; omega) (fun y hy => by rw [hR.lv] at hy; simp [Value.ownBlock] at hy)) (by omega)
    have hgB := hR2.parts.gB
    refine ⟨hA3, ((Fr.of_below P0.out.1 _).trans hF1 (fun _ hx _ => hx)).trans hf13 (fun _ hx _ => hx), ⟨q3.lt, by omega, by rw [hR.lv]; exact q3.c0, by rw [hcv]; exact q3.c1, q3.c2, q3.c3, q3.f0, hp3, by omega, by rw [hR.lv]; simp [Value.ownBlock]⟩, own_baseT hAs.own (by omega), rfl, by omega, by omega, by rw [hR.lv]; simp [Value.ownBlock], q4_fr HQ1.out hf13 (by omega), by omega, ⟨co, _, cc, hcv⟩⟩
  have HSH : Hid (Short As) := hAs.sh
  have HC3 : Hid (CoIn (w.heap.size + 1) w3 w1.heap.size R) := by
    refine ⟨coinsAt_fr hR2.coins hF3 (fun x hx e => by have := hR2.cB x hx; omega), fun x hx => ⟨?_, fun e => by subst e; exact hR2.cg hx, by rw [hR.lv]; simp [Value.ownBlock], by have := hR2.cB x hx; omega, ?_⟩⟩
    · have := coins_lt hR.coins x hx; omega
    · have h1 := coins_lt hR.coins x hx
      have h2 := hf13.size
      omega
  clear hAs hA3 hF3 hf13 hcall hR2 HA2 hR HN4 s0 s1 s2 s3 g0 hA1 hF1 HQ1 HV hcv
  generalize w1.heap.size = pr at HS3 HC3 ⊢
  go_wp2_with fail
  go_loopw [5] (fun i wr => ∃ (j : Nat) (R' : Ro), j ≤ As.length ∧ i = .int .i64 j ∧ Hid (PlSt c a len cap w wr pr g (.slice (some ⟨g, 0, none⟩) As.length gc) As R') ∧ Hid (CoIn (w.heap.size + 1) wr pr R')) (fun i _ => As.length - (intOf i).toNat)
  case atStart => exact ⟨0, R, by omega, rfl, HS3.out, HC3.out⟩
  case round =>
    obtain ⟨j, R', hj, rfl, HS, HC⟩ := hrel
    by_cases hlt : j < As.length
    · have hji : (j : Int) < (As.length : Int) := by omega
      obtain ⟨e0, e1, e2, e3, e4, e5⟩ := acts_cell HS.out.acts j hlt
      have hsh := short_at HSH.out j
      generalize As.getD j zeroA = x at e0 e1 e2 e3 e4 e5 hsh
      go_wp2_with fail
      refine (l18Do (w.heap.size + 1) pr R' x _ HS.out.ro (by omega)).mono ?_
      intro e w4 hd
      obtain ⟨b, R2, rfl, h1, h2, h3, h4, h5, h6, h7, h9, h8⟩ := pl_stepC HS.out hcb HC.out hd
      have HC4 : Hid (CoIn (w.heap.size + 1) w4 pr R2) := h9
      have HS4 : Hid (PlSt c a len cap w w4 pr g (.slice (some ⟨g, 0, none⟩) As.length gc) As R2) := ⟨h1, h2, h3, h4, HS.out.gv, HS.out.n1, h5, h6, h8, HS.out.gB, by rw [h7]; exact HS.out.sv⟩
      clear hd h1 h2 h3 h4 h5 h6 h7 h8 h9 HS HC
      go_wp2
      go_roundw
      case rel => exact ⟨j + 1, R2, by omega, by go_num, HS4, HC4⟩
      case measure => simp [intOf]; omega
    · obtain rfl : j = As.length := by omega
      have hjj : ¬ (As.length : Int) < (As.length : Int) := by omega
      obtain ⟨co', n', cc', hcv'⟩ := HS.out.sv
      obtain ⟨ao', cap', hlv', _⟩ := own_lace HS.out.ro.parts.own
      have HVR : Hid (roV R' = .agg #[.slice ao' R'.L.length cap', .slice co' n' cc', .slice (some ⟨R'.gh, 0, none⟩) 4 R'.hc, .int .i64 R'.bad]) := by show _ = _; unfold roV; rw [hlv', hcv']
      have HE : Hid (DrawPostC c a len cap w (.returned (.agg #[.slice ao' R'.L.length cap', .slice co' n' cc', .slice (some ⟨R'.gh, 0, none⟩) 4 R'.hc, .int .i64 R'.bad])) (qset wr w.heap.size (.slice ao' R'.L.length cap') (.slice co' n' cc') (.slice (some ⟨R'.gh, 0, none⟩) 4 R'.hc) (.int .i64 R'.bad))) := by
        have hq := qset_fr wr w.heap.size (.slice ao' R'.L.length cap') (.slice co' n' cc') (.slice (some ⟨R'.gh, 0, none⟩) 4 R'.hc) (.int .i64 R'.bad)
        have hgB := HS.out.ro.parts.gB
        refine ⟨R', by rw [HVR.out], parts_base (parts_fr HS.out.ro.parts hq (fun e => by have e' : R'.gh = w.heap.size := e; omega) (fun y hy e => by have := (World.ownsRow.lt HS.out.ro.parts.own y hy).1; omega)) (Nat.le_succ _), at_belowB HS.out.at' hcb (hq.toBelow HS.out.fr.size (fun x hx => by omega)), HS.out.fr.trans hq (fun x hx hl' => by omega), ⟨coinsAt_fr HC.out.at' hq (fun x hx e => by have := (HC.out.ne x hx).2.2.2.1; have e' : x = w.heap.size := e; omega), (fun e => (HC.out.ne _ e).2.1 rfl), fun x hx => (HC.out.ne x hx).2.2.1⟩, fun x hx => by have := (HC.out.ne x hx).2.2.2.1; omega⟩
      have HQP : Hid _ := q4_put HS.out.res (.slice ao' R'.L.length cap') (.slice co' n' cc') (.slice (some ⟨R'.gh, 0, none⟩) 4 R'.hc) (.int .i64 R'.bad)
      obtain ⟨_, r0, r1, r2, r3, f0, f1, f2, f3⟩ := HS.out.res
      have t0 := HS.out.ro.c0
      have t1 := HS.out.ro.c1
      have t2 := HS.out.ro.c2
      have t3 := HS.out.ro.c3
      rw [hlv'] at t0
      rw [hcv'] at t1
      clear hlv' hcv' HVR HS HC
      go_wp2
      obtain ⟨_, y0, y1, y2, y3, _, _, _, _⟩ := HQP.out
      unfold qset at y0 y1 y2 y3
      exact bodyPost_ret (v := .agg #[.slice ao' R'.L.length cap', .slice co' n' cc', .slice (some ⟨R'.gh, 0, none⟩) 4 R'.hc, .int .i64 R'.bad]) (by simp [results, Tryz.results79, go_sem, y0, y1, y2, y3]) rfl HE.out

end Rm
end Go.Proofs.YtfjmenhofllchaaGreatDoor

namespace Go.Proofs.YtfjmenhofllchaaGreatDoor
open Go.RowKit
set_option maxRecDepth 100000
namespace Cur

def stepH (h : Int) : Int := wrap64 (wrap64 (h * 6364136223846793005) + 1442695040888963407)
def mixH (h : Int) : Int := bits .and .i64 (bits .xor .i64 (h / 8589934592) (h / 35184372088832)) 255
/-- the byte that comes -/
def byteV (len : Nat) (i h z : Int) : Int := if i < (len : Int) then bits .and .i64 (mixH (stepH h) + z) 255 else mixH (stepH h)

/-- what the cursor's answer hangs on -/
structure AtX (c : Nat) (a : Option Addr) (len cap : Nat) (w : World) (i h z : Int) : Prop where
  at' : At c a len cap w
  ci : w.cell? ⟨c, 1, none⟩ = some (.int .i64 i)
  i0 : 0 ≤ i
  i1 : i ≤ (len : Int)
  ch : w.cell? ⟨c, 2, none⟩ = some (.int .i64 h)
  h0 : -9223372036854775808 ≤ h
  h1 : h ≤ 9223372036854775807
  cz : i < (len : Int) → ∃ b off, a = some ⟨b, off, none⟩ ∧ w.cell? ⟨b, off + i.toNat, none⟩ = some (.int .u8 z)
  z0 : 0 ≤ z
  z1 : z ≤ 255

theorem atX_of {c : Nat} {a : Option Addr} {len cap : Nat} {w : World} (x : At c a len cap w) : ∃ i h z, AtX c a len cap w i h z := by
  obtain ⟨i, ci, i0, i1⟩ := x.i
  obtain ⟨h, ch, h0, h1⟩ := x.h
  by_cases hlt : i < (len : Int)
  · rcases x.bytes with e | ⟨b, off, ha, _, _, hcell⟩
    · exfalso; omega
    · obtain ⟨z, cz, hz0, hz1⟩ := hcell i.toNat (by omega)
      exact ⟨i, h, z, x, ci, i0, i1, ch, h0, h1, fun _ => ⟨b, off, ha, cz⟩, hz0, hz1⟩
  · exact ⟨i, h, 0, x, ci, i0, i1, ch, h0, h1, fun e => absurd e hlt, by omega, by omega⟩

theorem AtX.drewN {c : Nat} {a : Option Addr} {len cap : Nat} {w : World} {i h z : Int} (x : AtX c a len cap w i h z) (n : Nat) : AtX c a len cap (w.drewN n) i h z := ⟨x.at'.drewN n, x.ci, x.i0, x.i1, x.ch, x.h0, x.h1, x.cz, x.z0, x.z1⟩

set_option maxHeartbeats 1600000 in
theorem byteX (c : Nat) (a : Option Addr) (len cap : Nat) (i h z : Int) (w : World) (hl : len ≤ 4096) (hx : AtX c a len cap w i h z) :
    Calls Tryz.prog 102 #[.pointer (some ⟨c, 0, none⟩)] w fun e w' => e = .returned (.int .i64 (byteV len i h z)) ∧ At c a len cap w' ∧ w.grownBy w' (some c) := by
  have hc := hx.at'
  have ch := hx.ch
  have ci := hx.ci
  have f2 := hc.f2
  have hh0 := hx.h0
  have hh1 := hx.h1
  have hi0 := hx.i0
  have hi1 := hx.i1
  have hb := wrap64_bd (wrap64 (h * 6364136223846793005) + 1442695040888963407)
  have HA : Hid (At c a len cap (w.setCell ⟨c, 2, none⟩ (.int .i64 (wrap64 (wrap64 (h * 6364136223846793005) + 1442695040888963407))))) := hc.setH _ hb.1 hb.2
  have HG : Hid (w.grownBy (w.setCell ⟨c, 2, none⟩ (.int .i64 (wrap64 (wrap64 (h * 6364136223846793005) + 1442695040888963407)))) (some c)) := grownBy_set (World.grownBy.refl _ _) _ _
  have HC2 : Hid ((w.setCell ⟨c, 2, none⟩ (.int .i64 (wrap64 (wrap64 (h * 6364136223846793005) + 1442695040888963407)))).cell? ⟨c, 2, none⟩ = some (.int .i64 (wrap64 (wrap64 (h * 6364136223846793005) + 1442695040888963407)))) := World.cell?_setCell_same _ _ _ ch
  have HC1 : Hid ((w.setCell ⟨c, 2, none⟩ (.int .i64 (wrap64 (wrap64 (h * 6364136223846793005) + 1442695040888963407)))).cell? ⟨c, 1, none⟩ = some (.int .i64 i)) := (World.cell?_setCell_other _ _ _ _ (by simp)).trans ci
  have HZ : Hid (i < (len : Int) → ∃ b off, a = some ⟨b, off, none⟩ ∧ (w.setCell ⟨c, 2, none⟩ (.int .i64 (wrap64 (wrap64 (h * 6364136223846793005) + 1442695040888963407)))).cell? ⟨b, off + i.toNat, none⟩ = some (.int .u8 z)) := fun hlt => by
    obtain ⟨b, off, ha, cz⟩ := hx.cz hlt
    refine ⟨b, off, ha, ?_⟩
    rcases hc.bytes with e | ⟨b', off', ha', hne, _, _⟩
    · exfalso; omega
    · rw [ha] at ha'; injection ha' with e; injection e with e1 e2; subst e1 e2
      exact (World.cell?_setCell_other _ _ _ _ (by intro e; injection e with e _; exact hne e.symm)).trans cz
  have HV : Hid (byteV len i h z = if i < (len : Int) then bits .and .i64 (mixH (stepH h) + z) 255 else mixH (stepH h)) := rfl
  have HST : Hid (stepH h = wrap64 (wrap64 (h * 6364136223846793005) + 1442695040888963407)) := rfl
  have hz0 := hx.z0
  have hz1 := hx.z1
  clear hb hx
  go_enter Tryz.func102, Tryz.ntmps102
  go_wp2_with fail
  clear ch f2 hc hh0 hh1 ci
  generalize w.setCell ⟨c, 2, none⟩ (.int .i64 (wrap64 (wrap64 (h * 6364136223846793005) + 1442695040888963407))) = w1 at HA HG HC1 HC2 HZ ⊢
  have hst := HST.out
  have hwb := wrap64_bd (wrap64 (h * 6364136223846793005) + 1442695040888963407)
  generalize wrap64 (wrap64 (h * 6364136223846793005) + 1442695040888963407) = h1 at HC2 hst hwb ⊢
  generalize wrap64 (h * 6364136223846793005) = h2
  have ci := HC1.out
  have ch := HC2.out
  have cb := HA.out.b
  have f1 := HA.out.f1
  clear HC1 HC2 HST
  have HST : Hid (stepH h = h1) := hst
  clear hst
  go_quiet (fail)
  have hx := and_bd (bits .xor .i64 (h1 / 8589934592) (h1 / 35184372088832)) 255 (by omega) (by omega)
  have HM : Hid (mixH (stepH h) = bits .and .i64 (bits .xor .i64 (h1 / 8589934592) (h1 / 35184372088832)) 255) := by show _ = _; rw [HST.out]; rfl
  go_wp2_with fail
  generalize bits .and .i64 (bits .xor .i64 (h1 / 8589934592) (h1 / 35184372088832)) 255 = x0 at hx HM ⊢
  obtain ⟨hx0, hx1⟩ := hx
  by_cases hlt : i < (len : Int)
  · obtain ⟨b, off, ha, cz⟩ := HZ.out hlt
    subst ha
    have HB : Hid (At c (some ⟨b, off, none⟩) len cap (w1.setCell ⟨c, 1, none⟩ (.int .i64 (i + 1)))) := HA.out.setI (i + 1) (by omega) (by omega)
    have HS : Hid (w.grownBy (w1.setCell ⟨c, 1, none⟩ (.int .i64 (i + 1))) (some c)) := grownBy_set HG.out _ _
    have HT : Hid (byteV len i h z = bits .and .i64 (x0 + z) 255) := by show _ = _; rw [HV.out, if_pos hlt, HM.out]
    go_quiet (fail)
    go_wp2_with fail
    go_quiet (fail)
    go_wp2
    go_ret
    exact ⟨by rw [HT.out]; rfl, HB.out.drewN _, grownBy_drewN HS.out _⟩
  · have HT : Hid (byteV len i h z = x0) := by show _ = _; rw [HV.out, if_neg hlt, HM.out]
    go_quiet (fail)
    go_wp2
    go_ret
    exact ⟨by rw [HT.out]; rfl, HA.out.drewN _, grownBy_drewN HG.out _⟩

theorem byteV_bd (len : Nat) (i h z : Int) : 0 ≤ byteV len i h z ∧ byteV len i h z ≤ 255 := by
  unfold byteV mixH
  split <;> exact and_bd _ 255 (by omega) (by omega)

set_option maxHeartbeats 800000 in
theorem belowX (c : Nat) (a : Option Addr) (len cap : Nat) (n : Int) (i h z : Int) (w : World) (hl : len ≤ 4096) (hn0 : 0 < n) (hn : n ≤ 256) (hx : AtX c a len cap w i h z) :
    Calls Tryz.prog 63 #[.pointer (some ⟨c, 0, none⟩), .int .i64 n] w fun e w' => e = .returned (.int .i64 (byteV len i h z % n)) ∧ At c a len cap w' ∧ w.grownBy w' (some c) := by
  have hbd := byteV_bd len i h z
  have hn0' : ¬ n ≤ 0 := by omega
  have hnz : n ≠ 0 := by omega
  go_enter Tryz.func63, Tryz.ntmps63
  go_wp2_with fail
  refine (byteX c a len cap i h z _ hl hx).mono ?_
  rintro e w1 ⟨rfl, hA, hG⟩
  go_wp2
  go_ret
  exact ⟨rfl, hA, hG⟩

/-- what is drawn is fixed ahead -/
theorem once_fixed (c : Nat) (a : Option Addr) (len cap : Nat) (n : Int) (w : World) (hl : len ≤ 4096) (hn0 : 0 < n) (hn : n ≤ 256) (hc : At c a len cap w) :
    ∃ b : Bool, ∀ k, Calls Tryz.prog 37 #[.pointer (some ⟨c, 0, none⟩), .int .i64 n] (w.drewN k) fun e w' => e = .returned (.bool b) ∧ At c a len cap w' ∧ (w.drewN k).grownBy w' (some c) := by
  obtain ⟨i, h, z, hx⟩ := atX_of hc
  refine ⟨byteV len i h z % n == 0, fun k => ?_⟩
  have hxk := hx.drewN k
  generalize w.drewN k = W at hxk ⊢
  go_enter Tryz.func37, Tryz.ntmps37
  go_wp2_with fail
  refine (belowX c a len cap n i h z _ hl hn0 hn hxk).mono ?_
  rintro e w1 ⟨rfl, hA, hG⟩
  go_wp2
  go_ret
  exact ⟨rfl, hA, hG⟩

end Cur
end Go.Proofs.YtfjmenhofllchaaGreatDoor

namespace Go.Proofs.YtfjmenhofllchaaGreatDoor
open Go.RowKit
set_option maxRecDepth 100000
namespace Rm
open Kn (K okK in3)
open Lc (at' RdK laceB takesB flat OwnK CellsK cellsOf)
open Cur (At)

set_option maxHeartbeats 400000 in
theorem min6 (n : Int) (w : World) : Calls Tryz.prog 158 #[.int .i64 n, .int .i64 6] w fun e w' => e = .returned (.int .i64 (if n < 6 then n else 6)) ∧ w' = w := by
  by_cases h : n < 6
  · rw [if_pos h]
    go_enter Tryz.func158, Tryz.ntmps158
    go_wp2
    go_ret
    exact ⟨rfl, rfl⟩
  · rw [if_neg h]
    go_enter Tryz.func158, Tryz.ntmps158
    go_wp2
    go_ret
    exact ⟨rfl, rfl⟩

theorem ac_frm {c : Nat} {a : Option Addr} {len cap : Nat} {w V : World} {v0 v1 v2 v3 : Value} {ab : Nat} {x : Ac} (h : AcSt c a len cap w V v0 v1 v2 v3 ab x) (hcb : CurB c a len w.heap.size) (y : Int) : AcSt c a len cap w (V.setCell ⟨ab, 4, none⟩ (.int .i64 y)).drew v0 v1 v2 v3 ab { x with frm := y } :=
  ac_put h hcb (Fr.set V ⟨ab, 4, none⟩ _).drew (q6_fr (S := fun _ => False) (q6_4 h.act y) ((Fr.refl _ _).drew) (fun h => h))
theorem ac_rnd {c : Nat} {a : Option Addr} {len cap : Nat} {w V : World} {v0 v1 v2 v3 : Value} {ab : Nat} {x : Ac} (h : AcSt c a len cap w V v0 v1 v2 v3 ab x) (hcb : CurB c a len w.heap.size) (y : Int) : AcSt c a len cap w (V.setCell ⟨ab, 3, none⟩ (.int .i64 y)) v0 v1 v2 v3 ab { x with round := y } :=
  ac_put h hcb (Fr.set V ⟨ab, 3, none⟩ _) (q6_3 h.act y)
theorem ac_drewN {c : Nat} {a : Option Addr} {len cap : Nat} {w V : World} {v0 v1 v2 v3 : Value} {ab : Nat} {x : Ac} (h : AcSt c a len cap w V v0 v1 v2 v3 ab x) (hcb : CurB c a len w.heap.size) (n : Nat) : AcSt c a len cap w (V.drewN n) v0 v1 v2 v3 ab x := ac_below h hcb (Lc.below_drewN' (Below.refl _ _) n)

/-- an operation of a region comes up; where it writes is said -/
theorem takeD {P : Program} {md : Region.Mode} {ops : Array Oper} {Q : Exit → Act → World → Prop} {S : World → Prop} (d : Option Tmp) {i : Nat} {oi : Oper} {v : Value} {fuel : Nat} {listed : Array Bool} {a : Act} {w : World} (hi : ops[i]? = some oi) (hd : oi.dst = d)
    (hs : Region.noSelect ops = true) (hf : Region.free md ops listed i = true) (hr : (Region.ready md ops listed).contains i = true)
    (hQ : ∀ c a w, Q (.panic c) (a.put d v) w → Q (.panic c) a w) (hy : YieldsIf P ops S oi v a) (hS : S w)
    (h : wpAnyH P md ops Q S fuel (listed.setIfInBounds i true) (a.put d v) w) : wpAnyH P md ops Q S (fuel + 1) listed a w := by
  subst hd
  exact wpAnyH_take hi hs hf hr hQ hy hS h

set_option maxHeartbeats 6400000 in
theorem l18DrawBad (c : Nat) (a : Option Addr) (len cap : Nat) (ao : Option Addr) (cp : Nat) (L : List K) (co : Option Addr) (nc cc : Nat) (go : Option Addr) (nh hc : Nat) (bad : Int) (w : World) (hl : len ≤ 4096) (hca : At c a len cap w) (hlc : laceB L = true) (hr : RdK w ao L) (hn : ∀ x, ao = some x → ¬ x.block = c) :
    Calls Tryz.prog 154 #[.pointer (some ⟨c, 0, none⟩), .agg #[.slice ao L.length cp, .slice co nc cc, .slice go nh hc, .int .i64 bad]] w (AcPost c a len cap w) := by
  have hcb := curB_of hca
  have hcw : c < w.heap.size := hca.lt
  have h60 := ((Lc.lace_iff L).1 hlc).1
  have P0 : Hid (Below w.heap.size w ((w.alloc (.cells #[.slice ao L.length cp, .slice co nc cc, .slice go nh hc, .int .i64 bad] 107)).alloc (.cells #[.int .i64 0, .int .i64 0, .int .i64 0, .int .i64 0, .int .i64 0, .string ⟨#[]⟩] 137)) ∧ Q4 ((w.alloc (.cells #[.slice ao L.length cp, .slice co nc cc, .slice go nh hc, .int .i64 bad] 107)).alloc (.cells #[.int .i64 0, .int .i64 0, .int .i64 0, .int .i64 0, .int .i64 0, .string ⟨#[]⟩] 137)) w.heap.size (.slice ao L.length cp) (.slice co nc cc) (.slice go nh hc) (.int .i64 bad) ∧ Q6 ((w.alloc (.cells #[.slice ao L.length cp, .slice co nc cc, .slice go nh hc, .int .i64 bad] 107)).alloc (.cells #[.int .i64 0, .int .i64 0, .int .i64 0, .int .i64 0, .int .i64 0, .string ⟨#[]⟩] 137)) (w.heap.size + 1) zeroA) := by
    refine ⟨((Below.refl _ w).alloc (Nat.le_refl _) _).alloc (by simp) _, q4_below (q4_new w _ _ _ _ _) ((Below.refl _ _).alloc (Nat.le_refl _) _), ?_⟩
    have := q6_new (w.alloc (.cells #[.slice ao L.length cp, .slice co nc cc, .slice go nh hc, .int .i64 bad] 107)) zeroA 137
    rw [World.size_alloc] at this
    exact this
  have HRD : Hid (∀ X : World, FrC c w X → RdK X ao L) := fun X hX => rdK_fr hr hX hn
  have HLC : Hid (laceB L = true) := hlc
  clear hlc hr hn
  go_enter Tryz.func154, Tryz.ntmps154
  go_upto_region 1 with fail
  generalize (w.alloc (.cells #[.slice ao L.length cp, .slice co nc cc, .slice go nh hc, .int .i64 bad] 107)).alloc (.cells #[.int .i64 0, .int .i64 0, .int .i64 0, .int .i64 0, .int .i64 0, .string ⟨#[]⟩] 137) = W at P0 ⊢
  have HAW : Hid (At c a len cap W) := at_belowB hca hcb P0.out.1
  go_wp2_with fail
  refine (Kn.drawWord c a len cap _ hl HAW.out).mono ?_
  rintro e w1 ⟨s, rfl, hs13, hA1, hG1⟩
  have HS : Hid (AcSt c a len cap w (w1.alloc (.cells #[.int .i64 5, .int .i64 0, .int .i64 0, .int .i64 0, .int .i64 0, .string s] 137)) (.slice ao L.length cp) (.slice co nc cc) (.slice go nh hc) (.int .i64 bad) w1.heap.size ⟨5, 0, 0, 0, 0, s⟩) := ac_beg hcw hcb P0.out.1 P0.out.2.1 P0.out.2.2 hA1 (Fr.of_grown hG1) ⟨5, 0, 0, 0, 0, s⟩ _
  clear hA1 hG1 HAW
  go_upto_region 2 with fail
  generalize w1.alloc (.cells #[.int .i64 5, .int .i64 0, .int .i64 0, .int .i64 0, .int .i64 0, .string s] 137) = W2 at HS ⊢
  generalize w1.heap.size = ab at HS ⊢
  have c0 := HS.out.box.c0
  by_cases h0 : L.length = 0
  · have h0' : ((L.length : Int) == 0) = true := by simp [h0]
    clear c0
    have c0 := HS.out.box.c0
    have HF : Hid (AcPost c a len cap w (.returned (acV ⟨5, 0, 0, 0, 0, s⟩)) (set6 W2 (w.heap.size + 1) ⟨5, 0, 0, 0, 0, s⟩)) := ac_fin HS.out hcb hs13
    have HQ : Hid (Q6 (set6 W2 (w.heap.size + 1) ⟨5, 0, 0, 0, 0, s⟩) (w.heap.size + 1) ⟨5, 0, 0, 0, 0, s⟩) := set6_at HS.out.res
    obtain ⟨_, b0, b1, b2, b3, b4, b5, _, _, _, _, _, _⟩ := HS.out.act
    obtain ⟨_, r0, r1, r2, r3, r4, r5, f0, f1, f2, f3, f4, f5⟩ := HS.out.res
    go_wp2
    obtain ⟨_, y0, y1, y2, y3, y4, y5, _, _, _, _, _, _⟩ := HQ.out
    unfold set6 at y0 y1 y2 y3 y4 y5
    exact bodyPost_ret (v := acV ⟨5, 0, 0, 0, 0, s⟩) (by simp [results, Tryz.results154, go_sem, y0, y1, y2, y3, y4, y5]) rfl HF.out
  · have h0' : ((L.length : Int) == 0) = false := by rw [beq_eq_false_iff_ne]; omega
    obtain ⟨g, off, hao, _, _⟩ := (HRD.out W2 HS.out.fr).at 0 (by omega)
    subst hao
    go_wp2_with fail
    refine (Cur.once c a len cap 6 _ hl (by omega) HS.out.at').mono ?_
    rintro e w3 ⟨b, rfl, hA3, hG3⟩
    have HS3 : Hid (AcSt c a len cap w w3 (.slice (some ⟨g, off, none⟩) L.length cp) (.slice co nc cc) (.slice go nh hc) (.int .i64 bad) ab ⟨5, 0, 0, 0, 0, s⟩) := ac_cur HS.out hcw hA3 hG3
    clear hA3 hG3 HS c0
    cases b
    · have HSB : Hid (∀ X : World, ∀ x, AcSt c a len cap w X (.slice (some ⟨g, off, none⟩) L.length cp) (.slice co nc cc) (.slice go nh hc) (.int .i64 bad) ab x → X.cell? ⟨w.heap.size, 0, none⟩ = some (.slice (some ⟨g, off, none⟩) L.length cp) ∧ ∀ i, i < L.length → X.cell? ⟨g, off + i * 4 + 1, none⟩ = some (.int .i64 (at' L i).round)) := fun X x h => ⟨h.box.c0, fun i hi => ((HRD.out X h.fr).on i hi).2.c1⟩
      have HS30 : Hid (AcSt c a len cap w w3.drew (.slice (some ⟨g, off, none⟩) L.length cp) (.slice co nc cc) (.slice go nh hc) (.int .i64 bad) ab ⟨5, 0, 0, 0, 0, s⟩) := ac_drewN HS3.out hcb 1
      have hmm : 0 < (if (L.length : Int) < 6 then (L.length : Int) else 6) ∧ (if (L.length : Int) < 6 then (L.length : Int) else 6) ≤ (L.length : Int) := by split <;> omega
      have hme : (if (L.length : Int) < 6 then (L.length : Int) else 6) ≤ 1000000000000 := by omega
      generalize hmi : (if (L.length : Int) < 6 then (L.length : Int) else 6) = mi at hmm hme
      have hmin : ∀ V : World, Calls Tryz.prog 158 #[.int .i64 (L.length : Int), .int .i64 6] V fun e w' => e = .returned (.int .i64 mi) ∧ w' = V := fun V => by have := min6 (L.length : Int) V; rwa [hmi] at this
      clear hmi
      have HB3 := HS3.out.act.c3
      have f3 := HS3.out.act.f3
      have hw1 : IntKind.i64.wrap ((L.length : Int) - 1) = (L.length : Int) - 1 := by rw [IntKind.wrap_i64]; omega
      go_upto_region 5 with fail
      go_cut [6] (fun n wx => n = .int .i64 (L.length : Int) ∧ ∃ rd : Int, 0 ≤ rd ∧ rd ≤ 20 ∧ Hid (AcSt c a len cap w wx (.slice (some ⟨g, off, none⟩) L.length cp) (.slice co nc cc) (.slice go nh hc) (.int .i64 bad) ab ⟨5, 0, 0, rd, 0, s⟩))
      case first =>
        go_region_held3 (fun X => X.cell? ⟨w.heap.size, 0, none⟩ = some (.slice (some ⟨g, off, none⟩) L.length cp) ∧ ∀ i, i < L.length → X.cell? ⟨g, off + i * 4 + 1, none⟩ = some (.int .i64 (at' L i).round)) (first | exact HSB.out _ _ (ac_rnd HT2.out hcb _) | exact HSB.out _ _ HT2.out | exact HSB.out _ _ HT1.out | exact HSB.out _ _ HS30.out | go_keep) (first
          | (go_at_call 158
             refine (hmin _).mono ?_
             rintro e w' ⟨rfl, rfl⟩)
          | (go_at_call 63
             refine (Cur.below c a len cap 2 _ hl (by omega) HT1.out.at').mono ?_
             rintro e V2 ⟨y, rfl, hy0, hy1, hA2, hG2⟩
             have hy2 := hy1 (by omega)
             have HT2 : Hid (AcSt c a len cap w V2 (.slice (some ⟨g, off, none⟩) L.length cp) (.slice co nc cc) (.slice go nh hc) (.int .i64 bad) ab ⟨5, 0, 0, 0, 0, s⟩) := ac_cur HT1.out hcw hA2 hG2
             have e2 := ((HRD.out V2 HT2.out.fr).on p hpl).2.c1
             have q3 := HT2.out.act.c3
             have hwy : IntKind.i64.wrap ((at' L p).round + y) = (at' L p).round + y := by rw [IntKind.wrap_i64]; omega
             have g3 := HT2.out.act.f3
             clear hA2 hG2 hy1)
          | (go_at_call 63
             refine (Cur.below c a len cap mi _ hl hme HS30.out.at').mono ?_
             rintro e V1 ⟨x, rfl, hx0, hx1, hA1, hG1⟩
             have hx2 := hx1 hmm.1
             have HT1 : Hid (AcSt c a len cap w V1 (.slice (some ⟨g, off, none⟩) L.length cp) (.slice co nc cc) (.slice go nh hc) (.int .i64 bad) ab ⟨5, 0, 0, 0, 0, s⟩) := ac_cur HS30.out hcw hA1 hG1
             obtain ⟨p, rfl, hpl⟩ : ∃ p : Nat, x = (L.length : Int) - 1 - (p : Int) ∧ p < L.length := ⟨((L.length : Int) - 1 - x).toNat, by omega, by omega⟩
             have hpi : (p : Int) < (L.length : Int) := by omega
             have hwp : (L.length : Int) - 1 - ((L.length : Int) - 1 - (p : Int)) = (p : Int) := by omega
             have hwpp : IntKind.i64.wrap (p : Int) = (p : Int) := by rw [IntKind.wrap_i64]; omega
             have hwq : IntKind.i64.wrap ((L.length : Int) - 1 - ((L.length : Int) - 1 - (p : Int))) = (p : Int) := by rw [IntKind.wrap_i64]; omega
             have e1 := ((HRD.out V1 HT1.out.fr).on p hpl).2.c1
             have hrb := Lc.ok_round (Lc.can_ok (Lc.lace_upTo HLC.out p hpl))
             clear hA1 hG1 hx1))
        all_goals (go_wp2_with fail)
        all_goals go_meet
        all_goals exact ⟨rfl, (at' L p).round + y, by omega, by omega, ac_rnd HT2.out hcb _⟩
      case rest =>
        obtain ⟨rfl, rd, hrd0, hrd1, HS5⟩ := hcut
        clear HS30 HS3 HB3 f3 HSB hmin hmm hme
        have b3 := HS5.out.act.c3
        by_cases hz : rd = 0
        · subst hz
          have hz' : ((0 : Int) == 0) = true := rfl
          clear b3
          have HF : Hid (AcPost c a len cap w (.returned (acV ⟨5, 0, 0, 0, 0, s⟩)) (set6 wc (w.heap.size + 1) ⟨5, 0, 0, 0, 0, s⟩)) := ac_fin HS5.out hcb hs13
          have HQ : Hid (Q6 (set6 wc (w.heap.size + 1) ⟨5, 0, 0, 0, 0, s⟩) (w.heap.size + 1) ⟨5, 0, 0, 0, 0, s⟩) := set6_at HS5.out.res
          obtain ⟨_, b0, b1, b2, b3, b4, b5, _, _, _, _, _, _⟩ := HS5.out.act
          obtain ⟨_, r0, r1, r2, r3, r4, r5, f0, f1, f2, f3, f4, f5⟩ := HS5.out.res
          go_wp2
          obtain ⟨_, y0, y1, y2, y3, y4, y5, _, _, _, _, _, _⟩ := HQ.out
          unfold set6 at y0 y1 y2 y3 y4 y5
          exact bodyPost_ret (v := acV ⟨5, 0, 0, 0, 0, s⟩) (by simp [results, Tryz.results154, go_sem, y0, y1, y2, y3, y4, y5]) rfl HF.out
        · have hz' : (rd == 0) = false := by simpa using hz
          clear hz
          go_wp2_with fail
          go_loopw [7] (fun i wr => ∃ (j : Nat) (f : Int), j ≤ L.length ∧ i = .int .i64 j ∧ Hid (AcSt c a len cap w wr (.slice (some ⟨g, off, none⟩) L.length cp) (.slice co nc cc) (.slice go nh hc) (.int .i64 bad) ab ⟨5, 0, 0, rd, f, s⟩)) (fun i _ => L.length - (intOf i).toNat)
          case atStart => exact ⟨0, 0, by omega, rfl, HS5.out⟩
          case round =>
            clear b3 HS5
            obtain ⟨j, f, hj, rfl, HSR⟩ := hrel
            by_cases hlt : j < L.length
            · have hji : (j : Int) < (L.length : Int) := by omega
              have hrj := Lc.ok_round (Lc.can_ok (Lc.lace_upTo HLC.out j hlt))
              have hwr : IntKind.i64.wrap (rd - 1) = rd - 1 := by rw [IntKind.wrap_i64]; omega
              have HSS : Hid (∀ X : World, ∀ x, AcSt c a len cap w X (.slice (some ⟨g, off, none⟩) L.length cp) (.slice co nc cc) (.slice go nh hc) (.int .i64 bad) ab x → x.round = rd → X.cell? ⟨w.heap.size, 0, none⟩ = some (.slice (some ⟨g, off, none⟩) L.length cp) ∧ X.cell? ⟨w.heap.size, 3, none⟩ = some (.int .i64 bad) ∧ X.cell? ⟨ab, 3, none⟩ = some (.int .i64 rd) ∧ X.cell? ⟨g, off + j * 4, none⟩ = some (.int .i64 (at' L j).hand) ∧ X.cell? ⟨g, off + j * 4 + 1, none⟩ = some (.int .i64 (at' L j).round)) := fun X x h hx => ⟨h.box.c0, h.box.c3, by have := h.act.c3; rwa [hx] at this, ((HRD.out X h.fr).on j hlt).2.c0, ((HRD.out X h.fr).on j hlt).2.c1⟩
              obtain ⟨c0, c3, b3, d0, d1⟩ := HSS.out wr _ HSR.out rfl
              generalize (at' L j).round = rj at HSS d1 hrj
              generalize (at' L j).hand = hj' at HSS d0
              have HSRd : Hid (AcSt c a len cap w wr.drew (.slice (some ⟨g, off, none⟩) L.length cp) (.slice co nc cc) (.slice go nh hc) (.int .i64 bad) ab ⟨5, 0, 0, rd, f, s⟩) := ac_drewN HSR.out hcb 1
              go_upto_region 11 with fail
              go_cut [86] (fun bb wx => ∃ x : Bool, bb = .bool x ∧ Hid (AcSt c a len cap w wx (.slice (some ⟨g, off, none⟩) L.length cp) (.slice co nc cc) (.slice go nh hc) (.int .i64 bad) ab ⟨5, 0, 0, rd, f, s⟩))
              case first =>
                by_cases e1 : rj = rd - 1
                · have e1' : (rj == rd - 1) = true := by simpa using e1
                  have e3' : decide (rj < rd - 1) = false := decide_eq_false (by omega)
                  by_cases e2 : hj' = bad
                  · have e2' : (hj' != bad) = false := by simpa using e2
                    clear e1 e2
                    obtain ⟨b, hcall⟩ := Cur.once_fixed c a len cap 2 wr hl (by omega) (by omega) HSR.out.at'
                    have hcall1 := hcall 1
                    clear hcall
                    cases b
                    · skip
                      refine wp_region_held_drew (S := fun X => X.cell? ⟨w.heap.size, 0, none⟩ = some (.slice (some ⟨g, off, none⟩) L.length cp) ∧ X.cell? ⟨w.heap.size, 3, none⟩ = some (.int .i64 bad) ∧ X.cell? ⟨ab, 3, none⟩ = some (.int .i64 rd) ∧ X.cell? ⟨g, off + j * 4, none⟩ = some (.int .i64 hj') ∧ X.cell? ⟨g, off + j * 4 + 1, none⟩ = some (.int .i64 rj)) (by kernel_rfl) (HSS.out _ _ HSRd.out rfl) (fun hHeld => ?_)
                      refine takeD (some 46) (i := 0) (v := ?_) rfl rfl (by kernel_rfl) (by kernel_rfl) (by kernel_rfl) (fun _ _ _ h => h) (Or.inl ⟨by kernel_rfl, ?_⟩) (by assumption) ?_
                      rotate_left
                      · (intro w hSw; (try dsimp only at hSw); go_simp; (try with_reducible rfl))
                      (try simp only [Act.put]); (try simp only [List.setIfInBounds_toArray]); (try simp only [List.set_cons_succ]); (try simp only [List.set_cons_zero])
                      refine takeD (some 47) (i := 1) (v := ?_) rfl rfl (by kernel_rfl) (by kernel_rfl) (by kernel_rfl) (fun _ _ _ h => h) (Or.inl ⟨by kernel_rfl, ?_⟩) (by assumption) ?_
                      rotate_left
                      · (intro w hSw; (try dsimp only at hSw); go_simp; (try with_reducible rfl))
                      (try simp only [Act.put]); (try simp only [List.setIfInBounds_toArray]); (try simp only [List.set_cons_succ]); (try simp only [List.set_cons_zero])
                      refine takeD (some 48) (i := 2) (v := ?_) rfl rfl (by kernel_rfl) (by kernel_rfl) (by kernel_rfl) (fun _ _ _ h => h) (Or.inl ⟨by kernel_rfl, ?_⟩) (by assumption) ?_
                      rotate_left
                      · (intro w hSw; (try dsimp only at hSw); go_simp; (try with_reducible rfl))
                      (try simp only [Act.put]); (try simp only [List.setIfInBounds_toArray]); (try simp only [List.set_cons_succ]); (try simp only [List.set_cons_zero])
                      refine takeD (some 49) (i := 3) (v := ?_) rfl rfl (by kernel_rfl) (by kernel_rfl) (by kernel_rfl) (fun _ _ _ h => h) (Or.inl ⟨by kernel_rfl, ?_⟩) (by assumption) ?_
                      rotate_left
                      · (intro w hSw; (try dsimp only at hSw); go_simp; (try with_reducible rfl))
                      (try simp only [Act.put]); (try simp only [List.setIfInBounds_toArray]); (try simp only [List.set_cons_succ]); (try simp only [List.set_cons_zero])
                      refine takeD (some 50) (i := 4) (v := ?_) rfl rfl (by kernel_rfl) (by kernel_rfl) (by kernel_rfl) (fun _ _ _ h => h) (Or.inl ⟨by kernel_rfl, ?_⟩) (by assumption) ?_
                      rotate_left
                      · (intro w hSw; (try dsimp only at hSw); go_simp; (try with_reducible rfl))
                      (try simp only [Act.put]); (try simp only [List.setIfInBounds_toArray]); (try simp only [List.set_cons_succ]); (try simp only [List.set_cons_zero])
                      refine takeD (some 51) (i := 5) (v := ?_) rfl rfl (by kernel_rfl) (by kernel_rfl) (by kernel_rfl) (fun _ _ _ h => h) (Or.inl ⟨by kernel_rfl, ?_⟩) (by assumption) ?_
                      rotate_left
                      · (intro w hSw; (try dsimp only at hSw); go_simp; (try with_reducible rfl))
                      (try simp only [Act.put]); (try simp only [List.setIfInBounds_toArray]); (try simp only [List.set_cons_succ]); (try simp only [List.set_cons_zero])
                      refine takeD (some 52) (i := 6) (v := ?_) rfl rfl (by kernel_rfl) (by kernel_rfl) (by kernel_rfl) (fun _ _ _ h => h) (Or.inl ⟨by kernel_rfl, ?_⟩) (by assumption) ?_
                      rotate_left
                      · (intro w hSw; (try dsimp only at hSw); go_simp; (try with_reducible rfl))
                      (try simp only [Act.put]); (try simp only [List.setIfInBounds_toArray]); (try simp only [List.set_cons_succ]); (try simp only [List.set_cons_zero])
                      refine takeD (some 53) (i := 7) (v := ?_) rfl rfl (by kernel_rfl) (by kernel_rfl) (by kernel_rfl) (fun _ _ _ h => h) (Or.inl ⟨by kernel_rfl, ?_⟩) (by assumption) ?_
                      rotate_left
                      · (intro w hSw; (try dsimp only at hSw); go_simp; (try with_reducible rfl))
                      (try simp only [Act.put]); (try simp only [List.setIfInBounds_toArray]); (try simp only [List.set_cons_succ]); (try simp only [List.set_cons_zero])
                      refine takeD (some 54) (i := 8) (v := ?_) rfl rfl (by kernel_rfl) (by kernel_rfl) (by kernel_rfl) (fun _ _ _ h => h) (Or.inl ⟨by kernel_rfl, ?_⟩) (by assumption) ?_
                      rotate_left
                      · (intro w hSw; (try dsimp only at hSw); go_simp; (try with_reducible rfl))
                      (try simp only [Act.put]); (try simp only [List.setIfInBounds_toArray]); (try simp only [List.set_cons_succ]); (try simp only [List.set_cons_zero])
                      refine takeD (some 55) (i := 9) (v := ?_) rfl rfl (by kernel_rfl) (by kernel_rfl) (by kernel_rfl) (fun _ _ _ h => h) (Or.inl ⟨by kernel_rfl, ?_⟩) (by assumption) ?_
                      rotate_left
                      · (intro w hSw; (try dsimp only at hSw); go_simp; (try with_reducible rfl))
                      (try simp only [Act.put]); (try simp only [List.setIfInBounds_toArray]); (try simp only [List.set_cons_succ]); (try simp only [List.set_cons_zero])
                      refine takeD (some 56) (i := 10) (v := ?_) rfl rfl (by kernel_rfl) (by kernel_rfl) (by kernel_rfl) (fun _ _ _ h => h) (Or.inl ⟨by kernel_rfl, ?_⟩) (by assumption) ?_
                      rotate_left
                      · (intro w hSw; (try dsimp only at hSw); go_simp; (try with_reducible rfl))
                      (try simp only [Act.put]); (try simp only [List.setIfInBounds_toArray]); (try simp only [List.set_cons_succ]); (try simp only [List.set_cons_zero])
                      refine takeD (some 57) (i := 11) (v := ?_) rfl rfl (by kernel_rfl) (by kernel_rfl) (by kernel_rfl) (fun _ _ _ h => h) (Or.inl ⟨by kernel_rfl, ?_⟩) (by assumption) ?_
                      rotate_left
                      · (intro w hSw; (try dsimp only at hSw); go_simp; (try with_reducible rfl))
                      (try simp only [Act.put]); (try simp only [List.setIfInBounds_toArray]); (try simp only [List.set_cons_succ]); (try simp only [List.set_cons_zero])
                      refine takeD (some 58) (i := 12) (v := ?_) rfl rfl (by kernel_rfl) (by kernel_rfl) (by kernel_rfl) (fun _ _ _ h => h) (Or.inl ⟨by kernel_rfl, ?_⟩) (by assumption) ?_
                      rotate_left
                      · (intro w hSw; (try dsimp only at hSw); go_simp; (try with_reducible rfl))
                      (try simp only [Act.put]); (try simp only [List.setIfInBounds_toArray]); (try simp only [List.set_cons_succ]); (try simp only [List.set_cons_zero])
                      refine takeD (some 59) (i := 13) (v := ?_) rfl rfl (by kernel_rfl) (by kernel_rfl) (by kernel_rfl) (fun _ _ _ h => h) (Or.inl ⟨by kernel_rfl, ?_⟩) (by assumption) ?_
                      rotate_left
                      · (intro w hSw; (try dsimp only at hSw); go_simp; (try with_reducible rfl))
                      (try simp only [Act.put]); (try simp only [List.setIfInBounds_toArray]); (try simp only [List.set_cons_succ]); (try simp only [List.set_cons_zero])
                      refine takeD (some 60) (i := 14) (v := ?_) rfl rfl (by kernel_rfl) (by kernel_rfl) (by kernel_rfl) (fun _ _ _ h => h) (Or.inl ⟨by kernel_rfl, ?_⟩) (by assumption) ?_
                      rotate_left
                      · (intro w hSw; (try dsimp only at hSw); go_simp; (try with_reducible rfl))
                      (try simp only [Act.put]); (try simp only [List.setIfInBounds_toArray]); (try simp only [List.set_cons_succ]); (try simp only [List.set_cons_zero])
                      refine takeD (some 61) (i := 15) (v := ?_) rfl rfl (by kernel_rfl) (by kernel_rfl) (by kernel_rfl) (fun _ _ _ h => h) (Or.inl ⟨by kernel_rfl, ?_⟩) (by assumption) ?_
                      rotate_left
                      · (intro w hSw; (try dsimp only at hSw); go_simp; (try with_reducible rfl))
                      (try simp only [Act.put]); (try simp only [List.setIfInBounds_toArray]); (try simp only [List.set_cons_succ]); (try simp only [List.set_cons_zero])
                      refine takeD (some 62) (i := 16) (v := ?_) rfl rfl (by kernel_rfl) (by kernel_rfl) (by kernel_rfl) (fun _ _ _ h => h) (Or.inl ⟨by kernel_rfl, ?_⟩) (by assumption) ?_
                      rotate_left
                      · (intro w hSw; (try dsimp only at hSw); go_simp; (try with_reducible rfl))
                      (try simp only [Act.put]); (try simp only [List.setIfInBounds_toArray]); (try simp only [List.set_cons_succ]); (try simp only [List.set_cons_zero])
                      refine takeD (some 63) (i := 17) (v := ?_) rfl rfl (by kernel_rfl) (by kernel_rfl) (by kernel_rfl) (fun _ _ _ h => h) (Or.inl ⟨by kernel_rfl, ?_⟩) (by assumption) ?_
                      rotate_left
                      · (intro w hSw; (try dsimp only at hSw); go_simp; (try with_reducible rfl))
                      (try simp only [Act.put]); (try simp only [List.setIfInBounds_toArray]); (try simp only [List.set_cons_succ]); (try simp only [List.set_cons_zero])
                      refine takeD (some 64) (i := 18) (v := ?_) rfl rfl (by kernel_rfl) (by kernel_rfl) (by kernel_rfl) (fun _ _ _ h => h) (Or.inl ⟨by kernel_rfl, ?_⟩) (by assumption) ?_
                      rotate_left
                      · (intro w hSw; (try dsimp only at hSw); go_simp; (try with_reducible rfl))
                      (try simp only [Act.put]); (try simp only [List.setIfInBounds_toArray]); (try simp only [List.set_cons_succ]); (try simp only [List.set_cons_zero])
                      refine takeD (some 65) (i := 19) (v := ?_) rfl rfl (by kernel_rfl) (by kernel_rfl) (by kernel_rfl) (fun _ _ _ h => h) (Or.inl ⟨by kernel_rfl, ?_⟩) (by assumption) ?_
                      rotate_left
                      · (intro w hSw; (try dsimp only at hSw); go_simp; (try with_reducible rfl))
                      (try simp only [Act.put]); (try simp only [List.setIfInBounds_toArray]); (try simp only [List.set_cons_succ]); (try simp only [List.set_cons_zero])
                      refine takeD (some 66) (i := 20) (v := ?_) rfl rfl (by kernel_rfl) (by kernel_rfl) (by kernel_rfl) (fun _ _ _ h => h) (Or.inl ⟨by kernel_rfl, ?_⟩) (by assumption) ?_
                      rotate_left
                      · (intro w hSw; (try dsimp only at hSw); go_simp; (try with_reducible rfl))
                      (try simp only [Act.put]); (try simp only [List.setIfInBounds_toArray]); (try simp only [List.set_cons_succ]); (try simp only [List.set_cons_zero])
                      refine takeD (some 67) (i := 21) (v := ?_) rfl rfl (by kernel_rfl) (by kernel_rfl) (by kernel_rfl) (fun _ _ _ h => h) (Or.inl ⟨by kernel_rfl, ?_⟩) (by assumption) ?_
                      rotate_left
                      · (intro w hSw; (try dsimp only at hSw); go_simp; (try with_reducible rfl))
                      (try simp only [Act.put]); (try simp only [List.setIfInBounds_toArray]); (try simp only [List.set_cons_succ]); (try simp only [List.set_cons_zero])
                      refine wpAnyH_ready (rs := [22]) (by kernel_rfl) (by simp) ?_
                      refine AllReadyH.cons rfl (fun K hK => ?_) AllReadyH.nil
                      go_simp
                      refine hcall1.mono ?_
                      rintro e V1 ⟨rfl, hA1, hG1⟩
                      have HT : Hid (AcSt c a len cap w V1 (.slice (some ⟨g, off, none⟩) L.length cp) (.slice co nc cc) (.slice go nh hc) (.int .i64 bad) ab ⟨5, 0, 0, rd, f, s⟩) := ac_cur HSRd.out hcw hA1 hG1
                      clear hA1 hG1
                      go_wp2_with fail
                      refine hK.out _ _ (HSS.out _ _ HT.out rfl) (fun hHeld => ?_)
                      clear hK K
                      (try simp only [Act.put]); (try simp only [List.setIfInBounds_toArray]); (try simp only [List.set_cons_succ]); (try simp only [List.set_cons_zero])
                      refine takeD (some 69) (i := 23) (v := ?_) rfl rfl (by kernel_rfl) (by kernel_rfl) (by kernel_rfl) (fun _ _ _ h => h) (Or.inl ⟨by kernel_rfl, ?_⟩) (by assumption) ?_
                      rotate_left
                      · (intro w hSw; (try dsimp only at hSw); go_simp; (try with_reducible rfl))
                      (try simp only [Act.put]); (try simp only [List.setIfInBounds_toArray]); (try simp only [List.set_cons_succ]); (try simp only [List.set_cons_zero])
                      refine takeD (some 70) (i := 24) (v := ?_) rfl rfl (by kernel_rfl) (by kernel_rfl) (by kernel_rfl) (fun _ _ _ h => h) (Or.inl ⟨by kernel_rfl, ?_⟩) (by assumption) ?_
                      rotate_left
                      · (intro w hSw; (try dsimp only at hSw); go_simp; (try with_reducible rfl))
                      (try simp only [Act.put]); (try simp only [List.setIfInBounds_toArray]); (try simp only [List.set_cons_succ]); (try simp only [List.set_cons_zero])
                      refine takeD (some 71) (i := 25) (v := ?_) rfl rfl (by kernel_rfl) (by kernel_rfl) (by kernel_rfl) (fun _ _ _ h => h) (Or.inl ⟨by kernel_rfl, ?_⟩) (by assumption) ?_
                      rotate_left
                      · (intro w hSw; (try dsimp only at hSw); go_simp; (try with_reducible rfl))
                      (try simp only [Act.put]); (try simp only [List.setIfInBounds_toArray]); (try simp only [List.set_cons_succ]); (try simp only [List.set_cons_zero])
                      refine takeD (some 72) (i := 26) (v := ?_) rfl rfl (by kernel_rfl) (by kernel_rfl) (by kernel_rfl) (fun _ _ _ h => h) (Or.inl ⟨by kernel_rfl, ?_⟩) (by assumption) ?_
                      rotate_left
                      · (intro w hSw; (try dsimp only at hSw); go_simp; (try with_reducible rfl))
                      (try simp only [Act.put]); (try simp only [List.setIfInBounds_toArray]); (try simp only [List.set_cons_succ]); (try simp only [List.set_cons_zero])
                      refine takeD (some 73) (i := 27) (v := ?_) rfl rfl (by kernel_rfl) (by kernel_rfl) (by kernel_rfl) (fun _ _ _ h => h) (Or.inl ⟨by kernel_rfl, ?_⟩) (by assumption) ?_
                      rotate_left
                      · (intro w hSw; (try dsimp only at hSw); go_simp; (try with_reducible rfl))
                      (try simp only [Act.put]); (try simp only [List.setIfInBounds_toArray]); (try simp only [List.set_cons_succ]); (try simp only [List.set_cons_zero])
                      refine takeD (some 74) (i := 28) (v := ?_) rfl rfl (by kernel_rfl) (by kernel_rfl) (by kernel_rfl) (fun _ _ _ h => h) (Or.inl ⟨by kernel_rfl, ?_⟩) (by assumption) ?_
                      rotate_left
                      · (intro w hSw; (try dsimp only at hSw); go_simp; (try with_reducible rfl))
                      (try simp only [Act.put]); (try simp only [List.setIfInBounds_toArray]); (try simp only [List.set_cons_succ]); (try simp only [List.set_cons_zero])
                      refine takeD (some 75) (i := 29) (v := ?_) rfl rfl (by kernel_rfl) (by kernel_rfl) (by kernel_rfl) (fun _ _ _ h => h) (Or.inl ⟨by kernel_rfl, ?_⟩) (by assumption) ?_
                      rotate_left
                      · (intro w hSw; (try dsimp only at hSw); go_simp; (try with_reducible rfl))
                      (try simp only [Act.put]); (try simp only [List.setIfInBounds_toArray]); (try simp only [List.set_cons_succ]); (try simp only [List.set_cons_zero])
                      refine takeD (some 76) (i := 30) (v := ?_) rfl rfl (by kernel_rfl) (by kernel_rfl) (by kernel_rfl) (fun _ _ _ h => h) (Or.inl ⟨by kernel_rfl, ?_⟩) (by assumption) ?_
                      rotate_left
                      · (intro w hSw; (try dsimp only at hSw); go_simp; (try with_reducible rfl))
                      (try simp only [Act.put]); (try simp only [List.setIfInBounds_toArray]); (try simp only [List.set_cons_succ]); (try simp only [List.set_cons_zero])
                      refine takeD (some 77) (i := 31) (v := ?_) rfl rfl (by kernel_rfl) (by kernel_rfl) (by kernel_rfl) (fun _ _ _ h => h) (Or.inl ⟨by kernel_rfl, ?_⟩) (by assumption) ?_
                      rotate_left
                      · (intro w hSw; (try dsimp only at hSw); go_simp; (try with_reducible rfl))
                      (try simp only [Act.put]); (try simp only [List.setIfInBounds_toArray]); (try simp only [List.set_cons_succ]); (try simp only [List.set_cons_zero])
                      refine takeD (some 78) (i := 32) (v := ?_) rfl rfl (by kernel_rfl) (by kernel_rfl) (by kernel_rfl) (fun _ _ _ h => h) (Or.inl ⟨by kernel_rfl, ?_⟩) (by assumption) ?_
                      rotate_left
                      · (intro w hSw; (try dsimp only at hSw); go_simp; (try with_reducible rfl))
                      (try simp only [Act.put]); (try simp only [List.setIfInBounds_toArray]); (try simp only [List.set_cons_succ]); (try simp only [List.set_cons_zero])
                      refine takeD (some 79) (i := 33) (v := ?_) rfl rfl (by kernel_rfl) (by kernel_rfl) (by kernel_rfl) (fun _ _ _ h => h) (Or.inl ⟨by kernel_rfl, ?_⟩) (by assumption) ?_
                      rotate_left
                      · (intro w hSw; (try dsimp only at hSw); go_simp; (try with_reducible rfl))
                      (try simp only [Act.put]); (try simp only [List.setIfInBounds_toArray]); (try simp only [List.set_cons_succ]); (try simp only [List.set_cons_zero])
                      refine takeD (some 80) (i := 34) (v := ?_) rfl rfl (by kernel_rfl) (by kernel_rfl) (by kernel_rfl) (fun _ _ _ h => h) (Or.inl ⟨by kernel_rfl, ?_⟩) (by assumption) ?_
                      rotate_left
                      · (intro w hSw; (try dsimp only at hSw); go_simp; (try with_reducible rfl))
                      (try simp only [Act.put]); (try simp only [List.setIfInBounds_toArray]); (try simp only [List.set_cons_succ]); (try simp only [List.set_cons_zero])
                      refine takeD (some 81) (i := 35) (v := ?_) rfl rfl (by kernel_rfl) (by kernel_rfl) (by kernel_rfl) (fun _ _ _ h => h) (Or.inl ⟨by kernel_rfl, ?_⟩) (by assumption) ?_
                      rotate_left
                      · (intro w hSw; (try dsimp only at hSw); go_simp; (try with_reducible rfl))
                      (try simp only [Act.put]); (try simp only [List.setIfInBounds_toArray]); (try simp only [List.set_cons_succ]); (try simp only [List.set_cons_zero])
                      refine takeD (some 82) (i := 36) (v := ?_) rfl rfl (by kernel_rfl) (by kernel_rfl) (by kernel_rfl) (fun _ _ _ h => h) (Or.inl ⟨by kernel_rfl, ?_⟩) (by assumption) ?_
                      rotate_left
                      · (intro w hSw; (try dsimp only at hSw); go_simp; (try with_reducible rfl))
                      (try simp only [Act.put]); (try simp only [List.setIfInBounds_toArray]); (try simp only [List.set_cons_succ]); (try simp only [List.set_cons_zero])
                      refine takeD (some 83) (i := 37) (v := undef) rfl rfl (by kernel_rfl) (by kernel_rfl) (by kernel_rfl) (fun _ _ _ h => h) (Or.inr ⟨by kernel_rfl, rfl⟩) (by assumption) ?_
                      (try simp only [Act.put]); (try simp only [List.setIfInBounds_toArray]); (try simp only [List.set_cons_succ]); (try simp only [List.set_cons_zero])
                      refine takeD (some 84) (i := 38) (v := undef) rfl rfl (by kernel_rfl) (by kernel_rfl) (by kernel_rfl) (fun _ _ _ h => h) (Or.inr ⟨by kernel_rfl, rfl⟩) (by assumption) ?_
                      (try simp only [Act.put]); (try simp only [List.setIfInBounds_toArray]); (try simp only [List.set_cons_succ]); (try simp only [List.set_cons_zero])
                      refine takeD (some 85) (i := 39) (v := ?_) rfl rfl (by kernel_rfl) (by kernel_rfl) (by kernel_rfl) (fun _ _ _ h => h) (Or.inl ⟨by kernel_rfl, ?_⟩) (by assumption) ?_
                      rotate_left
                      · (intro w hSw; (try dsimp only at hSw); go_simp; (try with_reducible rfl))
                      (try simp only [Act.put]); (try simp only [List.setIfInBounds_toArray]); (try simp only [List.set_cons_succ]); (try simp only [List.set_cons_zero])
                      refine takeD (some 86) (i := 40) (v := ?_) rfl rfl (by kernel_rfl) (by kernel_rfl) (by kernel_rfl) (fun _ _ _ h => h) (Or.inl ⟨by kernel_rfl, ?_⟩) (by assumption) ?_
                      rotate_left
                      · (intro w hSw; (try dsimp only at hSw); go_simp; (try with_reducible rfl))
                      (try simp only [Act.put]); (try simp only [List.setIfInBounds_toArray]); (try simp only [List.set_cons_succ]); (try simp only [List.set_cons_zero])
                      refine wpAnyH_done (by kernel_rfl) ?_ _
                      go_wp2_with fail
                      go_meet
                      exact ⟨_, rfl, HT.out⟩
                    · skip
                      refine wp_region_held_drew (S := fun X => X.cell? ⟨w.heap.size, 0, none⟩ = some (.slice (some ⟨g, off, none⟩) L.length cp) ∧ X.cell? ⟨w.heap.size, 3, none⟩ = some (.int .i64 bad) ∧ X.cell? ⟨ab, 3, none⟩ = some (.int .i64 rd) ∧ X.cell? ⟨g, off + j * 4, none⟩ = some (.int .i64 hj') ∧ X.cell? ⟨g, off + j * 4 + 1, none⟩ = some (.int .i64 rj)) (by kernel_rfl) (HSS.out _ _ HSRd.out rfl) (fun hHeld => ?_)
                      refine takeD (some 46) (i := 0) (v := ?_) rfl rfl (by kernel_rfl) (by kernel_rfl) (by kernel_rfl) (fun _ _ _ h => h) (Or.inl ⟨by kernel_rfl, ?_⟩) (by assumption) ?_
                      rotate_left
                      · (intro w hSw; (try dsimp only at hSw); go_simp; (try with_reducible rfl))
                      (try simp only [Act.put]); (try simp only [List.setIfInBounds_toArray]); (try simp only [List.set_cons_succ]); (try simp only [List.set_cons_zero])
                      refine takeD (some 47) (i := 1) (v := ?_) rfl rfl (by kernel_rfl) (by kernel_rfl) (by kernel_rfl) (fun _ _ _ h => h) (Or.inl ⟨by kernel_rfl, ?_⟩) (by assumption) ?_
                      rotate_left
                      · (intro w hSw; (try dsimp only at hSw); go_simp; (try with_reducible rfl))
                      (try simp only [Act.put]); (try simp only [List.setIfInBounds_toArray]); (try simp only [List.set_cons_succ]); (try simp only [List.set_cons_zero])
                      refine takeD (some 48) (i := 2) (v := ?_) rfl rfl (by kernel_rfl) (by kernel_rfl) (by kernel_rfl) (fun _ _ _ h => h) (Or.inl ⟨by kernel_rfl, ?_⟩) (by assumption) ?_
                      rotate_left
                      · (intro w hSw; (try dsimp only at hSw); go_simp; (try with_reducible rfl))
                      (try simp only [Act.put]); (try simp only [List.setIfInBounds_toArray]); (try simp only [List.set_cons_succ]); (try simp only [List.set_cons_zero])
                      refine takeD (some 49) (i := 3) (v := ?_) rfl rfl (by kernel_rfl) (by kernel_rfl) (by kernel_rfl) (fun _ _ _ h => h) (Or.inl ⟨by kernel_rfl, ?_⟩) (by assumption) ?_
                      rotate_left
                      · (intro w hSw; (try dsimp only at hSw); go_simp; (try with_reducible rfl))
                      (try simp only [Act.put]); (try simp only [List.setIfInBounds_toArray]); (try simp only [List.set_cons_succ]); (try simp only [List.set_cons_zero])
                      refine takeD (some 50) (i := 4) (v := ?_) rfl rfl (by kernel_rfl) (by kernel_rfl) (by kernel_rfl) (fun _ _ _ h => h) (Or.inl ⟨by kernel_rfl, ?_⟩) (by assumption) ?_
                      rotate_left
                      · (intro w hSw; (try dsimp only at hSw); go_simp; (try with_reducible rfl))
                      (try simp only [Act.put]); (try simp only [List.setIfInBounds_toArray]); (try simp only [List.set_cons_succ]); (try simp only [List.set_cons_zero])
                      refine takeD (some 51) (i := 5) (v := ?_) rfl rfl (by kernel_rfl) (by kernel_rfl) (by kernel_rfl) (fun _ _ _ h => h) (Or.inl ⟨by kernel_rfl, ?_⟩) (by assumption) ?_
                      rotate_left
                      · (intro w hSw; (try dsimp only at hSw); go_simp; (try with_reducible rfl))
                      (try simp only [Act.put]); (try simp only [List.setIfInBounds_toArray]); (try simp only [List.set_cons_succ]); (try simp only [List.set_cons_zero])
                      refine takeD (some 52) (i := 6) (v := ?_) rfl rfl (by kernel_rfl) (by kernel_rfl) (by kernel_rfl) (fun _ _ _ h => h) (Or.inl ⟨by kernel_rfl, ?_⟩) (by assumption) ?_
                      rotate_left
                      · (intro w hSw; (try dsimp only at hSw); go_simp; (try with_reducible rfl))
                      (try simp only [Act.put]); (try simp only [List.setIfInBounds_toArray]); (try simp only [List.set_cons_succ]); (try simp only [List.set_cons_zero])
                      refine takeD (some 53) (i := 7) (v := ?_) rfl rfl (by kernel_rfl) (by kernel_rfl) (by kernel_rfl) (fun _ _ _ h => h) (Or.inl ⟨by kernel_rfl, ?_⟩) (by assumption) ?_
                      rotate_left
                      · (intro w hSw; (try dsimp only at hSw); go_simp; (try with_reducible rfl))
                      (try simp only [Act.put]); (try simp only [List.setIfInBounds_toArray]); (try simp only [List.set_cons_succ]); (try simp only [List.set_cons_zero])
                      refine takeD (some 54) (i := 8) (v := ?_) rfl rfl (by kernel_rfl) (by kernel_rfl) (by kernel_rfl) (fun _ _ _ h => h) (Or.inl ⟨by kernel_rfl, ?_⟩) (by assumption) ?_
                      rotate_left
                      · (intro w hSw; (try dsimp only at hSw); go_simp; (try with_reducible rfl))
                      (try simp only [Act.put]); (try simp only [List.setIfInBounds_toArray]); (try simp only [List.set_cons_succ]); (try simp only [List.set_cons_zero])
                      refine takeD (some 55) (i := 9) (v := ?_) rfl rfl (by kernel_rfl) (by kernel_rfl) (by kernel_rfl) (fun _ _ _ h => h) (Or.inl ⟨by kernel_rfl, ?_⟩) (by assumption) ?_
                      rotate_left
                      · (intro w hSw; (try dsimp only at hSw); go_simp; (try with_reducible rfl))
                      (try simp only [Act.put]); (try simp only [List.setIfInBounds_toArray]); (try simp only [List.set_cons_succ]); (try simp only [List.set_cons_zero])
                      refine takeD (some 56) (i := 10) (v := ?_) rfl rfl (by kernel_rfl) (by kernel_rfl) (by kernel_rfl) (fun _ _ _ h => h) (Or.inl ⟨by kernel_rfl, ?_⟩) (by assumption) ?_
                      rotate_left
                      · (intro w hSw; (try dsimp only at hSw); go_simp; (try with_reducible rfl))
                      (try simp only [Act.put]); (try simp only [List.setIfInBounds_toArray]); (try simp only [List.set_cons_succ]); (try simp only [List.set_cons_zero])
                      refine takeD (some 57) (i := 11) (v := ?_) rfl rfl (by kernel_rfl) (by kernel_rfl) (by kernel_rfl) (fun _ _ _ h => h) (Or.inl ⟨by kernel_rfl, ?_⟩) (by assumption) ?_
                      rotate_left
                      · (intro w hSw; (try dsimp only at hSw); go_simp; (try with_reducible rfl))
                      (try simp only [Act.put]); (try simp only [List.setIfInBounds_toArray]); (try simp only [List.set_cons_succ]); (try simp only [List.set_cons_zero])
                      refine takeD (some 58) (i := 12) (v := ?_) rfl rfl (by kernel_rfl) (by kernel_rfl) (by kernel_rfl) (fun _ _ _ h => h) (Or.inl ⟨by kernel_rfl, ?_⟩) (by assumption) ?_
                      rotate_left
                      · (intro w hSw; (try dsimp only at hSw); go_simp; (try with_reducible rfl))
                      (try simp only [Act.put]); (try simp only [List.setIfInBounds_toArray]); (try simp only [List.set_cons_succ]); (try simp only [List.set_cons_zero])
                      refine takeD (some 59) (i := 13) (v := ?_) rfl rfl (by kernel_rfl) (by kernel_rfl) (by kernel_rfl) (fun _ _ _ h => h) (Or.inl ⟨by kernel_rfl, ?_⟩) (by assumption) ?_
                      rotate_left
                      · (intro w hSw; (try dsimp only at hSw); go_simp; (try with_reducible rfl))
                      (try simp only [Act.put]); (try simp only [List.setIfInBounds_toArray]); (try simp only [List.set_cons_succ]); (try simp only [List.set_cons_zero])
                      refine takeD (some 60) (i := 14) (v := ?_) rfl rfl (by kernel_rfl) (by kernel_rfl) (by kernel_rfl) (fun _ _ _ h => h) (Or.inl ⟨by kernel_rfl, ?_⟩) (by assumption) ?_
                      rotate_left
                      · (intro w hSw; (try dsimp only at hSw); go_simp; (try with_reducible rfl))
                      (try simp only [Act.put]); (try simp only [List.setIfInBounds_toArray]); (try simp only [List.set_cons_succ]); (try simp only [List.set_cons_zero])
                      refine takeD (some 61) (i := 15) (v := ?_) rfl rfl (by kernel_rfl) (by kernel_rfl) (by kernel_rfl) (fun _ _ _ h => h) (Or.inl ⟨by kernel_rfl, ?_⟩) (by assumption) ?_
                      rotate_left
                      · (intro w hSw; (try dsimp only at hSw); go_simp; (try with_reducible rfl))
                      (try simp only [Act.put]); (try simp only [List.setIfInBounds_toArray]); (try simp only [List.set_cons_succ]); (try simp only [List.set_cons_zero])
                      refine takeD (some 62) (i := 16) (v := ?_) rfl rfl (by kernel_rfl) (by kernel_rfl) (by kernel_rfl) (fun _ _ _ h => h) (Or.inl ⟨by kernel_rfl, ?_⟩) (by assumption) ?_
                      rotate_left
                      · (intro w hSw; (try dsimp only at hSw); go_simp; (try with_reducible rfl))
                      (try simp only [Act.put]); (try simp only [List.setIfInBounds_toArray]); (try simp only [List.set_cons_succ]); (try simp only [List.set_cons_zero])
                      refine takeD (some 63) (i := 17) (v := ?_) rfl rfl (by kernel_rfl) (by kernel_rfl) (by kernel_rfl) (fun _ _ _ h => h) (Or.inl ⟨by kernel_rfl, ?_⟩) (by assumption) ?_
                      rotate_left
                      · (intro w hSw; (try dsimp only at hSw); go_simp; (try with_reducible rfl))
                      (try simp only [Act.put]); (try simp only [List.setIfInBounds_toArray]); (try simp only [List.set_cons_succ]); (try simp only [List.set_cons_zero])
                      refine takeD (some 64) (i := 18) (v := ?_) rfl rfl (by kernel_rfl) (by kernel_rfl) (by kernel_rfl) (fun _ _ _ h => h) (Or.inl ⟨by kernel_rfl, ?_⟩) (by assumption) ?_
                      rotate_left
                      · (intro w hSw; (try dsimp only at hSw); go_simp; (try with_reducible rfl))
                      (try simp only [Act.put]); (try simp only [List.setIfInBounds_toArray]); (try simp only [List.set_cons_succ]); (try simp only [List.set_cons_zero])
                      refine takeD (some 65) (i := 19) (v := ?_) rfl rfl (by kernel_rfl) (by kernel_rfl) (by kernel_rfl) (fun _ _ _ h => h) (Or.inl ⟨by kernel_rfl, ?_⟩) (by assumption) ?_
                      rotate_left
                      · (intro w hSw; (try dsimp only at hSw); go_simp; (try with_reducible rfl))
                      (try simp only [Act.put]); (try simp only [List.setIfInBounds_toArray]); (try simp only [List.set_cons_succ]); (try simp only [List.set_cons_zero])
                      refine takeD (some 66) (i := 20) (v := ?_) rfl rfl (by kernel_rfl) (by kernel_rfl) (by kernel_rfl) (fun _ _ _ h => h) (Or.inl ⟨by kernel_rfl, ?_⟩) (by assumption) ?_
                      rotate_left
                      · (intro w hSw; (try dsimp only at hSw); go_simp; (try with_reducible rfl))
                      (try simp only [Act.put]); (try simp only [List.setIfInBounds_toArray]); (try simp only [List.set_cons_succ]); (try simp only [List.set_cons_zero])
                      refine takeD (some 67) (i := 21) (v := ?_) rfl rfl (by kernel_rfl) (by kernel_rfl) (by kernel_rfl) (fun _ _ _ h => h) (Or.inl ⟨by kernel_rfl, ?_⟩) (by assumption) ?_
                      rotate_left
                      · (intro w hSw; (try dsimp only at hSw); go_simp; (try with_reducible rfl))
                      (try simp only [Act.put]); (try simp only [List.setIfInBounds_toArray]); (try simp only [List.set_cons_succ]); (try simp only [List.set_cons_zero])
                      refine wpAnyH_ready (rs := [22]) (by kernel_rfl) (by simp) ?_
                      refine AllReadyH.cons rfl (fun K hK => ?_) AllReadyH.nil
                      go_simp
                      refine hcall1.mono ?_
                      rintro e V1 ⟨rfl, hA1, hG1⟩
                      have HT : Hid (AcSt c a len cap w V1 (.slice (some ⟨g, off, none⟩) L.length cp) (.slice co nc cc) (.slice go nh hc) (.int .i64 bad) ab ⟨5, 0, 0, rd, f, s⟩) := ac_cur HSRd.out hcw hA1 hG1
                      clear hA1 hG1
                      go_wp2_with fail
                      refine hK.out _ _ (HSS.out _ _ HT.out rfl) (fun hHeld => ?_)
                      clear hK K
                      (try simp only [Act.put]); (try simp only [List.setIfInBounds_toArray]); (try simp only [List.set_cons_succ]); (try simp only [List.set_cons_zero])
                      refine takeD (some 69) (i := 23) (v := ?_) rfl rfl (by kernel_rfl) (by kernel_rfl) (by kernel_rfl) (fun _ _ _ h => h) (Or.inl ⟨by kernel_rfl, ?_⟩) (by assumption) ?_
                      rotate_left
                      · (intro w hSw; (try dsimp only at hSw); go_simp; (try with_reducible rfl))
                      (try simp only [Act.put]); (try simp only [List.setIfInBounds_toArray]); (try simp only [List.set_cons_succ]); (try simp only [List.set_cons_zero])
                      refine takeD (some 70) (i := 24) (v := ?_) rfl rfl (by kernel_rfl) (by kernel_rfl) (by kernel_rfl) (fun _ _ _ h => h) (Or.inl ⟨by kernel_rfl, ?_⟩) (by assumption) ?_
                      rotate_left
                      · (intro w hSw; (try dsimp only at hSw); go_simp; (try with_reducible rfl))
                      (try simp only [Act.put]); (try simp only [List.setIfInBounds_toArray]); (try simp only [List.set_cons_succ]); (try simp only [List.set_cons_zero])
                      refine takeD (some 71) (i := 25) (v := ?_) rfl rfl (by kernel_rfl) (by kernel_rfl) (by kernel_rfl) (fun _ _ _ h => h) (Or.inl ⟨by kernel_rfl, ?_⟩) (by assumption) ?_
                      rotate_left
                      · (intro w hSw; (try dsimp only at hSw); go_simp; (try with_reducible rfl))
                      (try simp only [Act.put]); (try simp only [List.setIfInBounds_toArray]); (try simp only [List.set_cons_succ]); (try simp only [List.set_cons_zero])
                      refine takeD (some 72) (i := 26) (v := undef) rfl rfl (by kernel_rfl) (by kernel_rfl) (by kernel_rfl) (fun _ _ _ h => h) (Or.inr ⟨by kernel_rfl, rfl⟩) (by assumption) ?_
                      (try simp only [Act.put]); (try simp only [List.setIfInBounds_toArray]); (try simp only [List.set_cons_succ]); (try simp only [List.set_cons_zero])
                      refine takeD (some 73) (i := 27) (v := undef) rfl rfl (by kernel_rfl) (by kernel_rfl) (by kernel_rfl) (fun _ _ _ h => h) (Or.inr ⟨by kernel_rfl, rfl⟩) (by assumption) ?_
                      (try simp only [Act.put]); (try simp only [List.setIfInBounds_toArray]); (try simp only [List.set_cons_succ]); (try simp only [List.set_cons_zero])
                      refine takeD (some 74) (i := 28) (v := undef) rfl rfl (by kernel_rfl) (by kernel_rfl) (by kernel_rfl) (fun _ _ _ h => h) (Or.inr ⟨by kernel_rfl, rfl⟩) (by assumption) ?_
                      (try simp only [Act.put]); (try simp only [List.setIfInBounds_toArray]); (try simp only [List.set_cons_succ]); (try simp only [List.set_cons_zero])
                      refine takeD (some 75) (i := 29) (v := undef) rfl rfl (by kernel_rfl) (by kernel_rfl) (by kernel_rfl) (fun _ _ _ h => h) (Or.inr ⟨by kernel_rfl, rfl⟩) (by assumption) ?_
                      (try simp only [Act.put]); (try simp only [List.setIfInBounds_toArray]); (try simp only [List.set_cons_succ]); (try simp only [List.set_cons_zero])
                      refine takeD (some 76) (i := 30) (v := undef) rfl rfl (by kernel_rfl) (by kernel_rfl) (by kernel_rfl) (fun _ _ _ h => h) (Or.inr ⟨by kernel_rfl, rfl⟩) (by assumption) ?_
                      (try simp only [Act.put]); (try simp only [List.setIfInBounds_toArray]); (try simp only [List.set_cons_succ]); (try simp only [List.set_cons_zero])
                      refine takeD (some 77) (i := 31) (v := undef) rfl rfl (by kernel_rfl) (by kernel_rfl) (by kernel_rfl) (fun _ _ _ h => h) (Or.inr ⟨by kernel_rfl, rfl⟩) (by assumption) ?_
                      (try simp only [Act.put]); (try simp only [List.setIfInBounds_toArray]); (try simp only [List.set_cons_succ]); (try simp only [List.set_cons_zero])
                      refine takeD (some 78) (i := 32) (v := undef) rfl rfl (by kernel_rfl) (by kernel_rfl) (by kernel_rfl) (fun _ _ _ h => h) (Or.inr ⟨by kernel_rfl, rfl⟩) (by assumption) ?_
                      (try simp only [Act.put]); (try simp only [List.setIfInBounds_toArray]); (try simp only [List.set_cons_succ]); (try simp only [List.set_cons_zero])
                      refine takeD (some 79) (i := 33) (v := undef) rfl rfl (by kernel_rfl) (by kernel_rfl) (by kernel_rfl) (fun _ _ _ h => h) (Or.inr ⟨by kernel_rfl, rfl⟩) (by assumption) ?_
                      (try simp only [Act.put]); (try simp only [List.setIfInBounds_toArray]); (try simp only [List.set_cons_succ]); (try simp only [List.set_cons_zero])
                      refine takeD (some 80) (i := 34) (v := undef) rfl rfl (by kernel_rfl) (by kernel_rfl) (by kernel_rfl) (fun _ _ _ h => h) (Or.inr ⟨by kernel_rfl, rfl⟩) (by assumption) ?_
                      (try simp only [Act.put]); (try simp only [List.setIfInBounds_toArray]); (try simp only [List.set_cons_succ]); (try simp only [List.set_cons_zero])
                      refine takeD (some 81) (i := 35) (v := undef) rfl rfl (by kernel_rfl) (by kernel_rfl) (by kernel_rfl) (fun _ _ _ h => h) (Or.inr ⟨by kernel_rfl, rfl⟩) (by assumption) ?_
                      (try simp only [Act.put]); (try simp only [List.setIfInBounds_toArray]); (try simp only [List.set_cons_succ]); (try simp only [List.set_cons_zero])
                      refine takeD (some 82) (i := 36) (v := undef) rfl rfl (by kernel_rfl) (by kernel_rfl) (by kernel_rfl) (fun _ _ _ h => h) (Or.inr ⟨by kernel_rfl, rfl⟩) (by assumption) ?_
                      (try simp only [Act.put]); (try simp only [List.setIfInBounds_toArray]); (try simp only [List.set_cons_succ]); (try simp only [List.set_cons_zero])
                      refine takeD (some 83) (i := 37) (v := undef) rfl rfl (by kernel_rfl) (by kernel_rfl) (by kernel_rfl) (fun _ _ _ h => h) (Or.inr ⟨by kernel_rfl, rfl⟩) (by assumption) ?_
                      (try simp only [Act.put]); (try simp only [List.setIfInBounds_toArray]); (try simp only [List.set_cons_succ]); (try simp only [List.set_cons_zero])
                      refine takeD (some 84) (i := 38) (v := undef) rfl rfl (by kernel_rfl) (by kernel_rfl) (by kernel_rfl) (fun _ _ _ h => h) (Or.inr ⟨by kernel_rfl, rfl⟩) (by assumption) ?_
                      (try simp only [Act.put]); (try simp only [List.setIfInBounds_toArray]); (try simp only [List.set_cons_succ]); (try simp only [List.set_cons_zero])
                      refine takeD (some 85) (i := 39) (v := undef) rfl rfl (by kernel_rfl) (by kernel_rfl) (by kernel_rfl) (fun _ _ _ h => h) (Or.inr ⟨by kernel_rfl, rfl⟩) (by assumption) ?_
                      (try simp only [Act.put]); (try simp only [List.setIfInBounds_toArray]); (try simp only [List.set_cons_succ]); (try simp only [List.set_cons_zero])
                      refine takeD (some 86) (i := 40) (v := ?_) rfl rfl (by kernel_rfl) (by kernel_rfl) (by kernel_rfl) (fun _ _ _ h => h) (Or.inl ⟨by kernel_rfl, ?_⟩) (by assumption) ?_
                      rotate_left
                      · (intro w hSw; (try dsimp only at hSw); go_simp; (try with_reducible rfl))
                      (try simp only [Act.put]); (try simp only [List.setIfInBounds_toArray]); (try simp only [List.set_cons_succ]); (try simp only [List.set_cons_zero])
                      refine wpAnyH_done (by kernel_rfl) ?_ _
                      go_wp2_with fail
                      go_meet
                      exact ⟨_, rfl, HT.out⟩
                  · have e2' : (hj' != bad) = true := by simpa using e2
                    clear e1 e2
                    go_quiet (fail)
                    go_wp2
                    go_meet
                    exact ⟨_, rfl, ac_drewN HSR.out hcb _⟩
                · have e1' : (rj == rd - 1) = false := by simpa using e1
                  by_cases e3 : rj < rd - 1
                  · have e3' : decide (rj < rd - 1) = true := decide_eq_true e3
                    clear e1
                    obtain ⟨b, hcall⟩ := Cur.once_fixed c a len cap 8 wr hl (by omega) (by omega) HSR.out.at'
                    have hcall1 := hcall 1
                    clear hcall
                    refine wp_region_held_drew (S := fun X => X.cell? ⟨w.heap.size, 0, none⟩ = some (.slice (some ⟨g, off, none⟩) L.length cp) ∧ X.cell? ⟨w.heap.size, 3, none⟩ = some (.int .i64 bad) ∧ X.cell? ⟨ab, 3, none⟩ = some (.int .i64 rd) ∧ X.cell? ⟨g, off + j * 4, none⟩ = some (.int .i64 hj') ∧ X.cell? ⟨g, off + j * 4 + 1, none⟩ = some (.int .i64 rj)) (by kernel_rfl) (HSS.out _ _ HSRd.out rfl) (fun hHeld => ?_)
                    refine takeD (some 46) (i := 0) (v := ?_) rfl rfl (by kernel_rfl) (by kernel_rfl) (by kernel_rfl) (fun _ _ _ h => h) (Or.inl ⟨by kernel_rfl, ?_⟩) (by assumption) ?_
                    rotate_left
                    · (intro w hSw; (try dsimp only at hSw); go_simp; (try with_reducible rfl))
                    (try simp only [Act.put]); (try simp only [List.setIfInBounds_toArray]); (try simp only [List.set_cons_succ]); (try simp only [List.set_cons_zero])
                    refine takeD (some 47) (i := 1) (v := ?_) rfl rfl (by kernel_rfl) (by kernel_rfl) (by kernel_rfl) (fun _ _ _ h => h) (Or.inl ⟨by kernel_rfl, ?_⟩) (by assumption) ?_
                    rotate_left
                    · (intro w hSw; (try dsimp only at hSw); go_simp; (try with_reducible rfl))
                    (try simp only [Act.put]); (try simp only [List.setIfInBounds_toArray]); (try simp only [List.set_cons_succ]); (try simp only [List.set_cons_zero])
                    refine takeD (some 48) (i := 2) (v := ?_) rfl rfl (by kernel_rfl) (by kernel_rfl) (by kernel_rfl) (fun _ _ _ h => h) (Or.inl ⟨by kernel_rfl, ?_⟩) (by assumption) ?_
                    rotate_left
                    · (intro w hSw; (try dsimp only at hSw); go_simp; (try with_reducible rfl))
                    (try simp only [Act.put]); (try simp only [List.setIfInBounds_toArray]); (try simp only [List.set_cons_succ]); (try simp only [List.set_cons_zero])
                    refine takeD (some 49) (i := 3) (v := ?_) rfl rfl (by kernel_rfl) (by kernel_rfl) (by kernel_rfl) (fun _ _ _ h => h) (Or.inl ⟨by kernel_rfl, ?_⟩) (by assumption) ?_
                    rotate_left
                    · (intro w hSw; (try dsimp only at hSw); go_simp; (try with_reducible rfl))
                    (try simp only [Act.put]); (try simp only [List.setIfInBounds_toArray]); (try simp only [List.set_cons_succ]); (try simp only [List.set_cons_zero])
                    refine takeD (some 50) (i := 4) (v := ?_) rfl rfl (by kernel_rfl) (by kernel_rfl) (by kernel_rfl) (fun _ _ _ h => h) (Or.inl ⟨by kernel_rfl, ?_⟩) (by assumption) ?_
                    rotate_left
                    · (intro w hSw; (try dsimp only at hSw); go_simp; (try with_reducible rfl))
                    (try simp only [Act.put]); (try simp only [List.setIfInBounds_toArray]); (try simp only [List.set_cons_succ]); (try simp only [List.set_cons_zero])
                    refine takeD (some 51) (i := 5) (v := ?_) rfl rfl (by kernel_rfl) (by kernel_rfl) (by kernel_rfl) (fun _ _ _ h => h) (Or.inl ⟨by kernel_rfl, ?_⟩) (by assumption) ?_
                    rotate_left
                    · (intro w hSw; (try dsimp only at hSw); go_simp; (try with_reducible rfl))
                    (try simp only [Act.put]); (try simp only [List.setIfInBounds_toArray]); (try simp only [List.set_cons_succ]); (try simp only [List.set_cons_zero])
                    refine takeD (some 52) (i := 6) (v := ?_) rfl rfl (by kernel_rfl) (by kernel_rfl) (by kernel_rfl) (fun _ _ _ h => h) (Or.inl ⟨by kernel_rfl, ?_⟩) (by assumption) ?_
                    rotate_left
                    · (intro w hSw; (try dsimp only at hSw); go_simp; (try with_reducible rfl))
                    (try simp only [Act.put]); (try simp only [List.setIfInBounds_toArray]); (try simp only [List.set_cons_succ]); (try simp only [List.set_cons_zero])
                    refine takeD (some 53) (i := 7) (v := ?_) rfl rfl (by kernel_rfl) (by kernel_rfl) (by kernel_rfl) (fun _ _ _ h => h) (Or.inl ⟨by kernel_rfl, ?_⟩) (by assumption) ?_
                    rotate_left
                    · (intro w hSw; (try dsimp only at hSw); go_simp; (try with_reducible rfl))
                    (try simp only [Act.put]); (try simp only [List.setIfInBounds_toArray]); (try simp only [List.set_cons_succ]); (try simp only [List.set_cons_zero])
                    refine takeD (some 54) (i := 8) (v := ?_) rfl rfl (by kernel_rfl) (by kernel_rfl) (by kernel_rfl) (fun _ _ _ h => h) (Or.inl ⟨by kernel_rfl, ?_⟩) (by assumption) ?_
                    rotate_left
                    · (intro w hSw; (try dsimp only at hSw); go_simp; (try with_reducible rfl))
                    (try simp only [Act.put]); (try simp only [List.setIfInBounds_toArray]); (try simp only [List.set_cons_succ]); (try simp only [List.set_cons_zero])
                    refine takeD (some 55) (i := 9) (v := ?_) rfl rfl (by kernel_rfl) (by kernel_rfl) (by kernel_rfl) (fun _ _ _ h => h) (Or.inl ⟨by kernel_rfl, ?_⟩) (by assumption) ?_
                    rotate_left
                    · (intro w hSw; (try dsimp only at hSw); go_simp; (try with_reducible rfl))
                    (try simp only [Act.put]); (try simp only [List.setIfInBounds_toArray]); (try simp only [List.set_cons_succ]); (try simp only [List.set_cons_zero])
                    refine takeD (some 56) (i := 10) (v := ?_) rfl rfl (by kernel_rfl) (by kernel_rfl) (by kernel_rfl) (fun _ _ _ h => h) (Or.inl ⟨by kernel_rfl, ?_⟩) (by assumption) ?_
                    rotate_left
                    · (intro w hSw; (try dsimp only at hSw); go_simp; (try with_reducible rfl))
                    (try simp only [Act.put]); (try simp only [List.setIfInBounds_toArray]); (try simp only [List.set_cons_succ]); (try simp only [List.set_cons_zero])
                    refine takeD (some 57) (i := 11) (v := undef) rfl rfl (by kernel_rfl) (by kernel_rfl) (by kernel_rfl) (fun _ _ _ h => h) (Or.inr ⟨by kernel_rfl, rfl⟩) (by assumption) ?_
                    (try simp only [Act.put]); (try simp only [List.setIfInBounds_toArray]); (try simp only [List.set_cons_succ]); (try simp only [List.set_cons_zero])
                    refine takeD (some 58) (i := 12) (v := undef) rfl rfl (by kernel_rfl) (by kernel_rfl) (by kernel_rfl) (fun _ _ _ h => h) (Or.inr ⟨by kernel_rfl, rfl⟩) (by assumption) ?_
                    (try simp only [Act.put]); (try simp only [List.setIfInBounds_toArray]); (try simp only [List.set_cons_succ]); (try simp only [List.set_cons_zero])
                    refine takeD (some 59) (i := 13) (v := undef) rfl rfl (by kernel_rfl) (by kernel_rfl) (by kernel_rfl) (fun _ _ _ h => h) (Or.inr ⟨by kernel_rfl, rfl⟩) (by assumption) ?_
                    (try simp only [Act.put]); (try simp only [List.setIfInBounds_toArray]); (try simp only [List.set_cons_succ]); (try simp only [List.set_cons_zero])
                    refine takeD (some 60) (i := 14) (v := undef) rfl rfl (by kernel_rfl) (by kernel_rfl) (by kernel_rfl) (fun _ _ _ h => h) (Or.inr ⟨by kernel_rfl, rfl⟩) (by assumption) ?_
                    (try simp only [Act.put]); (try simp only [List.setIfInBounds_toArray]); (try simp only [List.set_cons_succ]); (try simp only [List.set_cons_zero])
                    refine takeD (some 61) (i := 15) (v := undef) rfl rfl (by kernel_rfl) (by kernel_rfl) (by kernel_rfl) (fun _ _ _ h => h) (Or.inr ⟨by kernel_rfl, rfl⟩) (by assumption) ?_
                    (try simp only [Act.put]); (try simp only [List.setIfInBounds_toArray]); (try simp only [List.set_cons_succ]); (try simp only [List.set_cons_zero])
                    refine takeD (some 62) (i := 16) (v := undef) rfl rfl (by kernel_rfl) (by kernel_rfl) (by kernel_rfl) (fun _ _ _ h => h) (Or.inr ⟨by kernel_rfl, rfl⟩) (by assumption) ?_
                    (try simp only [Act.put]); (try simp only [List.setIfInBounds_toArray]); (try simp only [List.set_cons_succ]); (try simp only [List.set_cons_zero])
                    refine takeD (some 63) (i := 17) (v := undef) rfl rfl (by kernel_rfl) (by kernel_rfl) (by kernel_rfl) (fun _ _ _ h => h) (Or.inr ⟨by kernel_rfl, rfl⟩) (by assumption) ?_
                    (try simp only [Act.put]); (try simp only [List.setIfInBounds_toArray]); (try simp only [List.set_cons_succ]); (try simp only [List.set_cons_zero])
                    refine takeD (some 64) (i := 18) (v := undef) rfl rfl (by kernel_rfl) (by kernel_rfl) (by kernel_rfl) (fun _ _ _ h => h) (Or.inr ⟨by kernel_rfl, rfl⟩) (by assumption) ?_
                    (try simp only [Act.put]); (try simp only [List.setIfInBounds_toArray]); (try simp only [List.set_cons_succ]); (try simp only [List.set_cons_zero])
                    refine takeD (some 65) (i := 19) (v := undef) rfl rfl (by kernel_rfl) (by kernel_rfl) (by kernel_rfl) (fun _ _ _ h => h) (Or.inr ⟨by kernel_rfl, rfl⟩) (by assumption) ?_
                    (try simp only [Act.put]); (try simp only [List.setIfInBounds_toArray]); (try simp only [List.set_cons_succ]); (try simp only [List.set_cons_zero])
                    refine takeD (some 66) (i := 20) (v := undef) rfl rfl (by kernel_rfl) (by kernel_rfl) (by kernel_rfl) (fun _ _ _ h => h) (Or.inr ⟨by kernel_rfl, rfl⟩) (by assumption) ?_
                    (try simp only [Act.put]); (try simp only [List.setIfInBounds_toArray]); (try simp only [List.set_cons_succ]); (try simp only [List.set_cons_zero])
                    refine takeD (some 67) (i := 21) (v := undef) rfl rfl (by kernel_rfl) (by kernel_rfl) (by kernel_rfl) (fun _ _ _ h => h) (Or.inr ⟨by kernel_rfl, rfl⟩) (by assumption) ?_
                    (try simp only [Act.put]); (try simp only [List.setIfInBounds_toArray]); (try simp only [List.set_cons_succ]); (try simp only [List.set_cons_zero])
                    refine takeD (some 68) (i := 22) (v := undef) rfl rfl (by kernel_rfl) (by kernel_rfl) (by kernel_rfl) (fun _ _ _ h => h) (Or.inr ⟨by kernel_rfl, rfl⟩) (by assumption) ?_
                    (try simp only [Act.put]); (try simp only [List.setIfInBounds_toArray]); (try simp only [List.set_cons_succ]); (try simp only [List.set_cons_zero])
                    refine takeD (some 69) (i := 23) (v := undef) rfl rfl (by kernel_rfl) (by kernel_rfl) (by kernel_rfl) (fun _ _ _ h => h) (Or.inr ⟨by kernel_rfl, rfl⟩) (by assumption) ?_
                    (try simp only [Act.put]); (try simp only [List.setIfInBounds_toArray]); (try simp only [List.set_cons_succ]); (try simp only [List.set_cons_zero])
                    refine takeD (some 70) (i := 24) (v := ?_) rfl rfl (by kernel_rfl) (by kernel_rfl) (by kernel_rfl) (fun _ _ _ h => h) (Or.inl ⟨by kernel_rfl, ?_⟩) (by assumption) ?_
                    rotate_left
                    · (intro w hSw; (try dsimp only at hSw); go_simp; (try with_reducible rfl))
                    (try simp only [Act.put]); (try simp only [List.setIfInBounds_toArray]); (try simp only [List.set_cons_succ]); (try simp only [List.set_cons_zero])
                    refine takeD (some 71) (i := 25) (v := ?_) rfl rfl (by kernel_rfl) (by kernel_rfl) (by kernel_rfl) (fun _ _ _ h => h) (Or.inl ⟨by kernel_rfl, ?_⟩) (by assumption) ?_
                    rotate_left
                    · (intro w hSw; (try dsimp only at hSw); go_simp; (try with_reducible rfl))
                    (try simp only [Act.put]); (try simp only [List.setIfInBounds_toArray]); (try simp only [List.set_cons_succ]); (try simp only [List.set_cons_zero])
                    refine takeD (some 72) (i := 26) (v := ?_) rfl rfl (by kernel_rfl) (by kernel_rfl) (by kernel_rfl) (fun _ _ _ h => h) (Or.inl ⟨by kernel_rfl, ?_⟩) (by assumption) ?_
                    rotate_left
                    · (intro w hSw; (try dsimp only at hSw); go_simp; (try with_reducible rfl))
                    (try simp only [Act.put]); (try simp only [List.setIfInBounds_toArray]); (try simp only [List.set_cons_succ]); (try simp only [List.set_cons_zero])
                    refine takeD (some 73) (i := 27) (v := ?_) rfl rfl (by kernel_rfl) (by kernel_rfl) (by kernel_rfl) (fun _ _ _ h => h) (Or.inl ⟨by kernel_rfl, ?_⟩) (by assumption) ?_
                    rotate_left
                    · (intro w hSw; (try dsimp only at hSw); go_simp; (try with_reducible rfl))
                    (try simp only [Act.put]); (try simp only [List.setIfInBounds_toArray]); (try simp only [List.set_cons_succ]); (try simp only [List.set_cons_zero])
                    refine takeD (some 74) (i := 28) (v := ?_) rfl rfl (by kernel_rfl) (by kernel_rfl) (by kernel_rfl) (fun _ _ _ h => h) (Or.inl ⟨by kernel_rfl, ?_⟩) (by assumption) ?_
                    rotate_left
                    · (intro w hSw; (try dsimp only at hSw); go_simp; (try with_reducible rfl))
                    (try simp only [Act.put]); (try simp only [List.setIfInBounds_toArray]); (try simp only [List.set_cons_succ]); (try simp only [List.set_cons_zero])
                    refine takeD (some 75) (i := 29) (v := ?_) rfl rfl (by kernel_rfl) (by kernel_rfl) (by kernel_rfl) (fun _ _ _ h => h) (Or.inl ⟨by kernel_rfl, ?_⟩) (by assumption) ?_
                    rotate_left
                    · (intro w hSw; (try dsimp only at hSw); go_simp; (try with_reducible rfl))
                    (try simp only [Act.put]); (try simp only [List.setIfInBounds_toArray]); (try simp only [List.set_cons_succ]); (try simp only [List.set_cons_zero])
                    refine takeD (some 76) (i := 30) (v := ?_) rfl rfl (by kernel_rfl) (by kernel_rfl) (by kernel_rfl) (fun _ _ _ h => h) (Or.inl ⟨by kernel_rfl, ?_⟩) (by assumption) ?_
                    rotate_left
                    · (intro w hSw; (try dsimp only at hSw); go_simp; (try with_reducible rfl))
                    (try simp only [Act.put]); (try simp only [List.setIfInBounds_toArray]); (try simp only [List.set_cons_succ]); (try simp only [List.set_cons_zero])
                    refine takeD (some 77) (i := 31) (v := ?_) rfl rfl (by kernel_rfl) (by kernel_rfl) (by kernel_rfl) (fun _ _ _ h => h) (Or.inl ⟨by kernel_rfl, ?_⟩) (by assumption) ?_
                    rotate_left
                    · (intro w hSw; (try dsimp only at hSw); go_simp; (try with_reducible rfl))
                    (try simp only [Act.put]); (try simp only [List.setIfInBounds_toArray]); (try simp only [List.set_cons_succ]); (try simp only [List.set_cons_zero])
                    refine takeD (some 78) (i := 32) (v := ?_) rfl rfl (by kernel_rfl) (by kernel_rfl) (by kernel_rfl) (fun _ _ _ h => h) (Or.inl ⟨by kernel_rfl, ?_⟩) (by assumption) ?_
                    rotate_left
                    · (intro w hSw; (try dsimp only at hSw); go_simp; (try with_reducible rfl))
                    (try simp only [Act.put]); (try simp only [List.setIfInBounds_toArray]); (try simp only [List.set_cons_succ]); (try simp only [List.set_cons_zero])
                    refine takeD (some 79) (i := 33) (v := ?_) rfl rfl (by kernel_rfl) (by kernel_rfl) (by kernel_rfl) (fun _ _ _ h => h) (Or.inl ⟨by kernel_rfl, ?_⟩) (by assumption) ?_
                    rotate_left
                    · (intro w hSw; (try dsimp only at hSw); go_simp; (try with_reducible rfl))
                    (try simp only [Act.put]); (try simp only [List.setIfInBounds_toArray]); (try simp only [List.set_cons_succ]); (try simp only [List.set_cons_zero])
                    refine takeD (some 80) (i := 34) (v := ?_) rfl rfl (by kernel_rfl) (by kernel_rfl) (by kernel_rfl) (fun _ _ _ h => h) (Or.inl ⟨by kernel_rfl, ?_⟩) (by assumption) ?_
                    rotate_left
                    · (intro w hSw; (try dsimp only at hSw); go_simp; (try with_reducible rfl))
                    (try simp only [Act.put]); (try simp only [List.setIfInBounds_toArray]); (try simp only [List.set_cons_succ]); (try simp only [List.set_cons_zero])
                    refine takeD (some 81) (i := 35) (v := ?_) rfl rfl (by kernel_rfl) (by kernel_rfl) (by kernel_rfl) (fun _ _ _ h => h) (Or.inl ⟨by kernel_rfl, ?_⟩) (by assumption) ?_
                    rotate_left
                    · (intro w hSw; (try dsimp only at hSw); go_simp; (try with_reducible rfl))
                    (try simp only [Act.put]); (try simp only [List.setIfInBounds_toArray]); (try simp only [List.set_cons_succ]); (try simp only [List.set_cons_zero])
                    refine takeD (some 82) (i := 36) (v := ?_) rfl rfl (by kernel_rfl) (by kernel_rfl) (by kernel_rfl) (fun _ _ _ h => h) (Or.inl ⟨by kernel_rfl, ?_⟩) (by assumption) ?_
                    rotate_left
                    · (intro w hSw; (try dsimp only at hSw); go_simp; (try with_reducible rfl))
                    (try simp only [Act.put]); (try simp only [List.setIfInBounds_toArray]); (try simp only [List.set_cons_succ]); (try simp only [List.set_cons_zero])
                    refine takeD (some 83) (i := 37) (v := ?_) rfl rfl (by kernel_rfl) (by kernel_rfl) (by kernel_rfl) (fun _ _ _ h => h) (Or.inl ⟨by kernel_rfl, ?_⟩) (by assumption) ?_
                    rotate_left
                    · (intro w hSw; (try dsimp only at hSw); go_simp; (try with_reducible rfl))
                    (try simp only [Act.put]); (try simp only [List.setIfInBounds_toArray]); (try simp only [List.set_cons_succ]); (try simp only [List.set_cons_zero])
                    refine wpAnyH_ready (rs := [38]) (by kernel_rfl) (by simp) ?_
                    refine AllReadyH.cons rfl (fun K hK => ?_) AllReadyH.nil
                    go_simp
                    refine hcall1.mono ?_
                    rintro e V1 ⟨rfl, hA1, hG1⟩
                    have HT : Hid (AcSt c a len cap w V1 (.slice (some ⟨g, off, none⟩) L.length cp) (.slice co nc cc) (.slice go nh hc) (.int .i64 bad) ab ⟨5, 0, 0, rd, f, s⟩) := ac_cur HSRd.out hcw hA1 hG1
                    clear hA1 hG1
                    go_wp2_with fail
                    refine hK.out _ _ (HSS.out _ _ HT.out rfl) (fun hHeld => ?_)
                    clear hK K
                    (try simp only [Act.put]); (try simp only [List.setIfInBounds_toArray]); (try simp only [List.set_cons_succ]); (try simp only [List.set_cons_zero])
                    refine takeD (some 85) (i := 39) (v := ?_) rfl rfl (by kernel_rfl) (by kernel_rfl) (by kernel_rfl) (fun _ _ _ h => h) (Or.inl ⟨by kernel_rfl, ?_⟩) (by assumption) ?_
                    rotate_left
                    · (intro w hSw; (try dsimp only at hSw); go_simp; (try with_reducible rfl))
                    (try simp only [Act.put]); (try simp only [List.setIfInBounds_toArray]); (try simp only [List.set_cons_succ]); (try simp only [List.set_cons_zero])
                    refine takeD (some 86) (i := 40) (v := ?_) rfl rfl (by kernel_rfl) (by kernel_rfl) (by kernel_rfl) (fun _ _ _ h => h) (Or.inl ⟨by kernel_rfl, ?_⟩) (by assumption) ?_
                    rotate_left
                    · (intro w hSw; (try dsimp only at hSw); go_simp; (try with_reducible rfl))
                    (try simp only [Act.put]); (try simp only [List.setIfInBounds_toArray]); (try simp only [List.set_cons_succ]); (try simp only [List.set_cons_zero])
                    refine wpAnyH_done (by kernel_rfl) ?_ _
                    go_wp2_with fail
                    go_meet
                    exact ⟨_, rfl, HT.out⟩
                  · have e3' : decide (rj < rd - 1) = false := decide_eq_false e3
                    clear e1 e3
                    go_quiet (fail)
                    go_wp2
                    go_meet
                    exact ⟨_, rfl, ac_drewN HSR.out hcb _⟩
              case rest =>
                obtain ⟨bb, rfl, HSX⟩ := hcut
                clear c0 c3 b3 d0 d1 HSS HSRd HSR
                cases bb
                · go_wp2
                  go_roundw
                  case rel => exact ⟨j + 1, f, by omega, by go_num, HSX⟩
                  case measure => simp [intOf]; omega
                · have b4 := HSX.out.act.c4
                  have g4 := HSX.out.act.f4
                  have HS9 : Hid (AcSt c a len cap w (wc.setCell ⟨ab, 4, none⟩ (.int .i64 (bits .or .i64 f (2 ^ j)))).drew (.slice (some ⟨g, off, none⟩) L.length cp) (.slice co nc cc) (.slice go nh hc) (.int .i64 bad) ab ⟨5, 0, 0, rd, bits .or .i64 f (2 ^ j), s⟩) := ac_frm HSX.out hcb _
                  go_wp2_with fail
                  go_region_with (go_at_call 50; refine (Base.l1Bit _ _ (by omega) (by omega)).mono ?_; rintro e w' ⟨rfl, rfl⟩; rw [Int.toNat_natCast])
                  all_goals
                    go_wp2
                    go_roundw
                    case rel => exact ⟨j + 1, _, by omega, by go_num, HS9⟩
                    case measure => simp [intOf]; omega
            · obtain rfl : j = L.length := by omega
              have hjj : ¬ (L.length : Int) < (L.length : Int) := by omega
              have HF : Hid (AcPost c a len cap w (.returned (acV ⟨5, 0, 0, rd, f, s⟩)) (set6 wr (w.heap.size + 1) ⟨5, 0, 0, rd, f, s⟩)) := ac_fin HSR.out hcb hs13
              have HQ : Hid (Q6 (set6 wr (w.heap.size + 1) ⟨5, 0, 0, rd, f, s⟩) (w.heap.size + 1) ⟨5, 0, 0, rd, f, s⟩) := set6_at HSR.out.res
              obtain ⟨_, b0, b1, b2, b3, b4, b5, _, _, _, _, _, _⟩ := HSR.out.act
              obtain ⟨_, r0, r1, r2, r3, r4, r5, f0, f1, f2, f3, f4, f5⟩ := HSR.out.res
              go_wp2
              obtain ⟨_, y0, y1, y2, y3, y4, y5, _, _, _, _, _, _⟩ := HQ.out
              unfold set6 at y0 y1 y2 y3 y4 y5
              exact bodyPost_ret (v := acV ⟨5, 0, 0, rd, f, s⟩) (by simp [results, Tryz.results154, go_sem, y0, y1, y2, y3, y4, y5]) rfl HF.out
    · have HF : Hid (AcPost c a len cap w (.returned (acV ⟨5, 0, 0, 0, 0, s⟩)) (set6 w3 (w.heap.size + 1) ⟨5, 0, 0, 0, 0, s⟩)) := ac_fin HS3.out hcb hs13
      have HQ : Hid (Q6 (set6 w3 (w.heap.size + 1) ⟨5, 0, 0, 0, 0, s⟩) (w.heap.size + 1) ⟨5, 0, 0, 0, 0, s⟩) := set6_at HS3.out.res
      obtain ⟨_, b0, b1, b2, b3, b4, b5, _, _, _, _, _, _⟩ := HS3.out.act
      obtain ⟨_, r0, r1, r2, r3, r4, r5, f0, f1, f2, f3, f4, f5⟩ := HS3.out.res
      go_wp2
      obtain ⟨_, y0, y1, y2, y3, y4, y5, _, _, _, _, _, _⟩ := HQ.out
      unfold set6 at y0 y1 y2 y3 y4 y5
      exact bodyPost_ret (v := acV ⟨5, 0, 0, 0, 0, s⟩) (by simp [results, Tryz.results154, go_sem, y0, y1, y2, y3, y4, y5]) rfl HF.out

end Rm
end Go.Proofs.YtfjmenhofllchaaGreatDoor
