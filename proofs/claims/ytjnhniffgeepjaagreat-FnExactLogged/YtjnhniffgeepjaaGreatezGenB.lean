/-
 A log's box: as it was laid, as it was written; for the exact laws over logs.
-/
import Derived.Test.YtjnhniffgeepjaaGreatezg21
set_option linter.unusedVariables false
namespace Go.Proofs.YtjnhniffgeepjaaGreat
open Go.RowKit
set_option maxRecDepth 100000
set_option linter.unusedVariables false
namespace Gx
open Db (RowI)
open Rm (Fr)
open Lg (At Mk Ml RdL)
structure ZL (W : World) (b : Nat) : Prop where
 lt : b < W.heap.size
 c0 : W.cell? ⟨b, 0, none⟩ = some (.slice none 0 0)
 c1 : W.cell? ⟨b, 1, none⟩ = some (.slice none 0 0)
 f0 : W.frozen? ⟨b, 0, none⟩ = false
 f1 : W.frozen? ⟨b, 1, none⟩ = false
theorem ZL.below {W V : World} {b : Nat} (h : ZL W b) (hb : Below W.heap.size W V) : ZL V b := ⟨Nat.lt_of_lt_of_le h.lt hb.size, (hb.cell (p := ⟨b, 0, none⟩) h.lt).trans h.c0, (hb.cell (p := ⟨b, 1, none⟩) h.lt).trans h.c1, (hb.frozen (p := ⟨b, 0, none⟩) h.lt).trans h.f0, (hb.frozen (p := ⟨b, 1, none⟩) h.lt).trans h.f1⟩
theorem keepL {X V : World} (hb : Below (X.alloc (.cells #[.slice none 0 0, .slice none 0 0] 39)).heap.size (X.alloc (.cells #[.slice none 0 0, .slice none 0 0] 39)) V) : ZL V X.heap.size := (⟨by simp, by simp, by simp, by simp, by simp⟩ : ZL (X.alloc (.cells #[.slice none 0 0, .slice none 0 0] 39)) X.heap.size).below hb
theorem keepLd {X V : World} (hb : Below (X.alloc (.cells #[.slice none 0 0, .slice none 0 0] 39)).drew.heap.size (X.alloc (.cells #[.slice none 0 0, .slice none 0 0] 39)).drew V) : ZL V X.heap.size := keepL ⟨hb.os, hb.tape, hb.output, hb.size, hb.block⟩
theorem unlaidL {X V : World} {o : Obj} (hb : Below (X.alloc o).heap.size (X.alloc o) V) : Below X.heap.size X V := ((Below.refl _ _).alloc (Nat.le_refl _) o).trans (hb.mono (by simp))
theorem unlaidD {X V : World} {o : Obj} (hb : Below (X.alloc o).drew.heap.size (X.alloc o).drew V) : Below X.heap.size X V := unlaidL (o := o) ⟨hb.os, hb.tape, hb.output, hb.size, hb.block⟩
structure Bx (W : World) (b : Nat) (so : Option Addr) (sc n : Nat) (qo : Option Addr) (tc m : Nat) : Prop where
 lt : b < W.heap.size
 c0 : W.cell? ⟨b, 0, none⟩ = some (.slice so n sc)
 c1 : W.cell? ⟨b, 1, none⟩ = some (.slice qo m tc)
theorem Bx.below {W V : World} {b : Nat} {so : Option Addr} {sc n : Nat} {qo : Option Addr} {tc m : Nat} (h : Bx W b so sc n qo tc m) (hb : Below W.heap.size W V) : Bx V b so sc n qo tc m := ⟨Nat.lt_of_lt_of_le h.lt hb.size, (hb.cell (p := ⟨b, 0, none⟩) h.lt).trans h.c0, (hb.cell (p := ⟨b, 1, none⟩) h.lt).trans h.c1⟩
theorem Bx.fr {Z : Nat → Prop} {W V : World} {b : Nat} {so : Option Addr} {sc n : Nat} {qo : Option Addr} {tc m : Nat} (h : Bx W b so sc n qo tc m) (hf : Fr Z W V) (hz : ¬ Z b) : Bx V b so sc n qo tc m := ⟨Nat.lt_of_lt_of_le h.lt hf.size, (hf.cell (p := ⟨b, 0, none⟩) h.lt hz).trans h.c0, (hf.cell (p := ⟨b, 1, none⟩) h.lt hz).trans h.c1⟩
theorem bx_new (W : World) (so : Option Addr) (sc n : Nat) (qo : Option Addr) (tc m : Nat) (t : TypeId) : Bx (W.alloc (.cells #[.slice so n sc, .slice qo m tc] t)) W.heap.size so sc n qo tc m := ⟨by simp, by simp, by simp⟩
theorem bx_put {W : World} {b : Nat} (h : ZL W b) (so : Option Addr) (sc n : Nat) (qo : Option Addr) (tc m : Nat) : Bx ((W.setCell ⟨b, 0, none⟩ (.slice so n sc)).setCell ⟨b, 1, none⟩ (.slice qo m tc)) b so sc n qo tc m :=
 ⟨by simpa using h.lt, (World.cell?_setCell_other _ _ _ _ (by simp)).trans (World.cell?_setCell_same _ _ _ h.c0), World.cell?_setCell_same _ _ _ ((World.cell?_setCell_other _ _ _ _ (by simp)).trans h.c1)⟩
theorem fr_put (W : World) (b : Nat) (u v : Value) : Fr (fun x => x = b) W ((W.setCell ⟨b, 0, none⟩ u).setCell ⟨b, 1, none⟩ v) := (Fr.set W ⟨b, 0, none⟩ u).trans (Fr.set (W.setCell ⟨b, 0, none⟩ u) ⟨b, 1, none⟩ v) (fun _ h _ => h)
theorem own_cap {B : Nat} {w : World} {a : Option Addr} {cap : Nat} {l : List Int} (h : Memb.Own B w a cap l) : l.length ≤ cap := by
 rcases h.2 with ⟨_, e⟩ | ⟨g, c, cur, e, _, _, hc, _⟩
 · omega
 · injection e with _ _ e; rw [e]; exact hc
theorem post_cp {L : List Kn.K} {C S : List Int} {T : List (List Int)} {s : Int} {w : World} {e : Ending} {w' : World} (h : Lg.LoggedPost L C S T s w e w') : ∃ so sc vo vc f, e = .returned (.tuple #[.agg #[.slice so (Lg.seenL L C S T s).length sc, .slice vo (Lg.toldL L C S T s).length vc], .bool (Lg.goesB L C S T s)]) ∧ CpL w.heap.size w'.heap.size w' so sc (Lg.seenL L C S T s) vo vc (Lg.toldL L C S T s) f ∧ Below w.heap.size w w' := by
 obtain ⟨so, sc, vo, vc, f, e1, h1, h2, h3, hb⟩ := h
 exact ⟨so, sc, vo, vc, f, e1, cpL_own h1 h2 h3 (own_cap h1), hb⟩
theorem logged_len {L : List Kn.K} {C S : List Int} {T : List (List Int)} {s : Int} (hS : S.length ≤ 1048576) (hT : T.length ≤ 1048576) (hr : ∀ i, i < T.length → (T.getD i []).length ≤ 1048576) : (Lg.seenL L C S T s).length ≤ 40 ∧ (Lg.toldL L C S T s).length ≤ 40 ∧ ∀ i, i < (Lg.toldL L C S T s).length → ((Lg.toldL L C S T s).getD i []).length ≤ 3660 := by
 have row : ∀ {S : List Int} {T : List (List Int)}, Lg.logB L C S T = true → S.length ≤ 40 ∧ T.length ≤ 40 ∧ ∀ i, i < T.length → (T.getD i []).length ≤ 3660 := by
   intro S T h
   obtain ⟨a1, a2, a3, a4, a5⟩ := Lg.log_parts h
   refine ⟨a1, by omega, fun i hi => ?_⟩
   have st := a5 i (by omega)
   unfold Lg.stepB at st
   rw [Bool.and_eq_true, Bool.and_eq_true] at st
   have h2 := st.2
   unfold Lg.sameB at h2
   rw [Bool.and_eq_true] at h2
   have h3 := of_decide_eq_true h2.1
   rw [h3]
   exact Lg.out_len st.1.1 a4
 unfold Lg.seenL Lg.toldL
 by_cases a : Lg.logB L C S T = true
 · rw [if_pos a, if_pos a]
   by_cases b : Lg.goesB L C S T s = true
   · rw [if_pos b, if_pos b]
     have b' := b
     unfold Lg.goesB at b'
     rw [Bool.and_eq_true, Bool.and_eq_true] at b'
     exact row b'.2.2
   · rw [if_neg b, if_neg b]; exact row a
 · rw [if_neg a, if_neg a]; exact ⟨by simp, by simp, fun i hi => by simp at hi⟩
end Gx
end Go.Proofs.YtjnhniffgeepjaaGreat
