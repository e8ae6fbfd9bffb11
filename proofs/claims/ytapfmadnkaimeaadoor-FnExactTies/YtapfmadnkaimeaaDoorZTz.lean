/-
  FnExactTies answers true at every argument, for Ties answers as its model does; no condition.
-/
import Derived.Test.YtapfmadnkaimeaaDoorRows
import Derived.WalkKit
import Derived.ProofKit
import Derived.OpenShut
import Derived.ChangeOld
import Derived.Below
import Derived.Lib.SmallJoins
import Derived.Test.YtapfmadnkaimeaaDoorLaceG
import Derived.Test.YtapfmadnkaimeaaDoorLawH
import Derived.Test.YtapfmadnkaimeaaDoorDraftS
import Derived.Test.YtapfmadnkaimeaaDoorZTy
import Derived.Test.YtapfmadnkaimeaaDoorZTa
import Derived.Test.YtapfmadnkaimeaaDoorTiesS
import Derived.Deep.RegionHeld3
import Derived.LaidMore
import Derived.Stop.Joined
import Derived.SevenTiedAt
import Derived.Test.YtapfmadnkaimeaaDoorCards
import Derived.Test.YtapfmadnkaimeaaDoorTie
namespace Go.Proofs.YtapfmadnkaimeaaDoor.fnExactTies
open Go.ChangeMaps (open_string shut_string)
open Go.ChangeShapes Go.WideShapes Go.ChangeAt Go.RowKit Go.Joins
open Kn (K)
open Lc (RdK)
open Rm (Hd H64 HAt)
set_option linter.unusedVariables false
set_option maxRecDepth 100000

theorem own : ownKnob Tryd.prog.godebug = none := by kernel_rfl
theorem laidOut : laidOutB Tryd.prog = true := by kernel_rfl
theorem words {L : List K} (h : Lc.Small L) : Lc.WordsOk L := fun k hk => by have := h.2 k hk; omega
theorem trI {H : Type} {enc : TypeId × Value → H} {w : World} {base : Nat} {spare : Nat → Bool} {held : Bool} (a : Int) (wa : (Lit.int .i64 a).wf = true) : ∃ n, DataW.trod enc Tryd.prog w base spare held n 2 [.int .i64 a] = some (.lit (.int .i64 a), []) :=
  ⟨1, by simp [DataW.trod, Tryd.underlying2, wa]⟩
theorem trS {H : Type} {enc : TypeId × Value → H} {w : World} {base : Nat} {spare : Nat → Bool} {held : Bool} (a : ByteArray) (wa : a.size ≤ maxLen) : ∃ n, DataW.trod enc Tryd.prog w base spare held n 9 [.string a] = some (.lit (.string a.data.toList), []) :=
  ⟨1, by simp [DataW.trod, Tryd.underlying9, wa]⟩
theorem int_bd {a : Int} (w : (Lit.int .i64 a).wf = true) : -9223372036854775808 ≤ a ∧ a ≤ 9223372036854775807 := by
  simpa [Lit.wf, IntKind.min, IntKind.max, IntKind.signed, IntKind.bits] using w

theorem cellsHd : Tryd.prog.cellsOf 24 = 4 := by kernel_rfl
theorem made_fill {w : World} {B n j : Nat} {L : List K} (h : Lc.Made w B n L j) (f : Nat → Value) : Lc.Fill w B n f 0 := ⟨h.lt, fun i hi => by omega, h.ex, h.fr⟩

theorem cell_grown {w w' : World} {q g i : Nat} {v : Value} (hg : w.grownBy w' (some q)) (hne : g ≠ q) (h : w.cell? ⟨g, i, none⟩ = some v) : w'.cell? ⟨g, i, none⟩ = some v :=
  (hg.cell_far ⟨g, i, none⟩ (block_lt_of_cell h) (by simpa using hne)).trans h
theorem cells_grown {w w' : World} {q g o : Nat} {k : K} (h : Lc.CellsK w g o k) (hg : w.grownBy w' (some q)) (hne : g ≠ q) : Lc.CellsK w' g o k :=
  ⟨cell_grown hg hne h.c0, cell_grown hg hne h.c1, cell_grown hg hne h.c2, cell_grown hg hne h.c3⟩
theorem rd_grown {w w' : World} {q g : Nat} {T : List K} (h : RdK w (some ⟨g, 0, none⟩) T) (hg : w.grownBy w' (some q)) (hne : g ≠ q) : RdK w' (some ⟨g, 0, none⟩) T := by
  rcases h with h | ⟨g', off, ha, hlt, hc⟩
  · exact .inl h
  · injection ha with ha
    injection ha with h1 h2
    subst h1 h2
    exact .inr ⟨g, 0, rfl, Nat.lt_of_lt_of_le hlt hg.size, fun i hi => cells_grown (hc i hi) hg hne⟩
theorem made_grown {w w' : World} {q g n j : Nat} {T : List K} (h : Lc.Made w g n T j) (hg : w.grownBy w' (some q)) (hne : g ≠ q) : Lc.Made w' g n T j :=
  ⟨Nat.lt_of_lt_of_le h.lt hg.size, fun i hi => cells_grown (h.rd i hi) hg hne, fun i hi => by obtain ⟨v, hv⟩ := h.ex i hi; exact ⟨v, cell_grown hg hne hv⟩,
    fun i hi => (hg.frozen_far ⟨g, i, none⟩ h.lt (by simpa using hne)).trans (h.fr i hi)⟩


theorem ties61 (L : List K) (h : Hd) (wd : ByteArray) : (Rm.tiesL L h wd).length ≤ 61 := by
  unfold Rm.tiesL
  split
  · rename_i q
    unfold Rm.handOkB at q
    rw [Bool.and_eq_true] at q
    have := ((Lc.lace_iff L).1 q.1).1
    split
    · simp; omega
    · omega
  · simp
theorem rd_set1 {W : World} {g b i : Nat} {T : List K} (h : RdK W (some ⟨g, 0, none⟩) T) (hne : g ≠ b) (u : Value) : RdK (W.setCell ⟨b, i, none⟩ u) (some ⟨g, 0, none⟩) T := by
  rcases h with h | ⟨g', off, ha, hg, hk⟩
  · exact .inl h
  · injection ha with ha
    injection ha with h1 h2
    subst h1 h2
    have hc : ∀ j : Nat, (W.setCell ⟨b, i, none⟩ u).cell? ⟨g, j, none⟩ = W.cell? ⟨g, j, none⟩ := fun j => World.cell?_setCell_other _ _ _ _ (fun e => hne (by injection e with e; exact e.symm))
    exact .inr ⟨g, 0, rfl, by simpa using hg, fun i hi => ⟨(hc _).trans (hk i hi).c0, (hc _).trans (hk i hi).c1, (hc _).trans (hk i hi).c2, (hc _).trans (hk i hi).c3⟩⟩
theorem rd_put4 {W : World} {g b : Nat} {T : List K} (h : RdK W (some ⟨g, 0, none⟩) T) (hne : g ≠ b) (v0 v1 v2 v3 : Value) : RdK ((((W.setCell ⟨b, 0, none⟩ v0).setCell ⟨b, 1, none⟩ v1).setCell ⟨b, 2, none⟩ v2).setCell ⟨b, 3, none⟩ v3) (some ⟨g, 0, none⟩) T := rd_set1 (rd_set1 (rd_set1 (rd_set1 h hne _) hne _) hne _) hne _
theorem hat_grown {w w' : World} {q b : Nat} {h : Hd} (x : HAt w b 0 h) (hg : w.grownBy w' (some q)) (hne : b ≠ q) : HAt w' b 0 h := by
  obtain ⟨lt, c0, c1, c2, c3, f0, f1, f2, f3⟩ := x
  exact ⟨Nat.lt_of_lt_of_le lt hg.size, cell_grown hg hne c0, cell_grown hg hne c1, cell_grown hg hne c2, cell_grown hg hne c3, (hg.frozen_far _ lt (by simpa using hne)).trans f0, (hg.frozen_far _ lt (by simpa using hne)).trans f1, (hg.frozen_far _ lt (by simpa using hne)).trans f2, (hg.frozen_far _ lt (by simpa using hne)).trans f3⟩
/-- what lies there while it is compared: the model's list and hand, the program's hand -/
structure Ly (V W : World) (gs rb nb : Nat) (T : List K) (hx : Hd) : Prop where
  bel : Below V.heap.size V W
  gl : gs < W.heap.size
  s : RdK W (some ⟨gs, 0, none⟩) T
  x : HAt W rb 0 hx
  n : HAt W nb 0 hx
theorem Ly.below {V W X : World} {gs rb nb : Nat} {T : List K} {hx : Hd} (h : Ly V W gs rb nb T hx) (hb : Below W.heap.size W X) : Ly V X gs rb nb T hx := ⟨h.bel.trans (hb.mono h.bel.size), Nat.lt_of_lt_of_le h.gl hb.size, h.s.below hb, Rm.hat_below h.x hb, Rm.hat_below h.n hb⟩
theorem Ly.grown {V W X : World} {gs rb nb q : Nat} {T : List K} {hx : Hd} (h : Ly V W gs rb nb T hx) (hg : W.grownBy X (some q)) (hv : V.heap.size ≤ q) (h1 : gs ≠ q) (h2 : rb ≠ q) (h3 : nb ≠ q) : Ly V X gs rb nb T hx :=
  ⟨h.bel.grown hg h.bel.size (fun j hj => by simp at hj; omega), Nat.lt_of_lt_of_le h.gl hg.size, rd_grown h.s hg h1, hat_grown h.x hg h2, hat_grown h.n hg h3⟩
/-- what is asked of the program -/
def ImplT : Prop := ∀ (L : List K) (h : Hd) (wd : ByteArray), L.length ≤ 1048576 → Lc.WordsOk L → H64 h → wd.size ≤ 1048576 →
    ∀ (W : World) (g : Nat), Rm.STie3 W → RdK W (some ⟨g, 0, none⟩) L → g < W.heap.size → Calls Tryd.prog 23 #[.slice (some ⟨g, 0, none⟩) L.length L.length, .agg #[.int .i64 h.who, .int .i64 h.has, .int .i64 h.kept, .int .i64 h.last], .string wd] W (Rm.TiesMade L h wd W)

set_option maxHeartbeats 12800000 in
theorem walk (HI : ImplT) (a0 : Option Addr) (cap0 : Nat) (L : List K) (h : Hd) (wd : ByteArray) (w : World) (hl : L.length ≤ maxLen) (hws : ∀ k ∈ L, k.word.size ≤ maxLen) (hr0 : RdK w a0 L) (hn : Rm.STie3 w) (hk : H64 h) (hmwd : wd.size ≤ maxLen) :
    Calls Tryd.prog 7 #[.slice a0 L.length cap0, .agg #[.int .i64 h.who, .int .i64 h.has, .int .i64 h.kept, .int .i64 h.last], .string wd] w fun e w' => e = .returned (.bool true) ∧ Below w.heap.size w w' := by
  have HII : Hid ImplT := HI
  have P0 : Hid (Below w.heap.size w (w.alloc (.cells #[.int .i64 h.who, .int .i64 h.has, .int .i64 h.kept, .int .i64 h.last] 24)) ∧ HAt (w.alloc (.cells #[.int .i64 h.who, .int .i64 h.has, .int .i64 h.kept, .int .i64 h.last] 24)) w.heap.size 0 h) := ⟨(Below.refl _ _).alloc (Nat.le_refl _) _, Rm.hat_new w h _⟩
  have HR : Hid (RdK w a0 L) := hr0
  have HNN : Hid (Rm.STie3 w) := hn
  clear HI hr0 hn
  by_cases hbw : ¬ wd.size ≤ 1048576
  · have hbi : (1048576 : Int) < (wd.size : Int) := by omega
    unfold maxLen at hmwd
    go_enter Tryd.func7, Tryd.ntmps7
    go_wp2
    go_ret
    exact ⟨rfl, P0.out.1⟩
  have hnwd : wd.size ≤ 1048576 := by omega
  have hbi : ¬ (1048576 : Int) < (wd.size : Int) := by omega
  clear hbw hmwd
  go_enter Tryd.func7, Tryd.ntmps7
  go_upto_region 4 with fail
  generalize w.alloc (.cells #[.int .i64 h.who, .int .i64 h.has, .int .i64 h.kept, .int .i64 h.last] 24) = V0 at P0 ⊢
  have hlt0 : w.heap.size < V0.heap.size := P0.out.2.lt
  go_wp2_with fail
  refine (Lc.szKnotS a0 cap0 L 1048576 _ hl hws (by omega) (by omega) (HR.out.below P0.out.1)).mono ?_
  rintro e V ⟨r, rfl, hr0', hr1', hsm, hb0⟩
  have HSM : Hid (0 ≤ r → Lc.Small L) := hsm
  have HB : Hid (Below w.heap.size w V) := P0.out.1.trans (hb0.mono P0.out.1.size)
  have HH : Hid (HAt V w.heap.size 0 h) := Rm.hat_below P0.out.2 hb0
  clear hsm hb0 P0
  by_cases hneg : r < 0
  · go_wp2
    go_ret
    exact ⟨rfl, HB.out⟩
  have hS := HSM.out (by omega)
  have HW : Hid (Lc.WordsOk L) := words hS
  have hlen := hS.1
  clear HSM hl hws hS
  have hlv : w.heap.size < V.heap.size := HH.out.lt
  have HHB : Hid (∀ X : World, Below V.heap.size V X → HAt X w.heap.size 0 h) := fun X hX => Rm.hat_below HH.out hX
  generalize hhb : w.heap.size = hb at HH HHB hlv hlt0
  have HHE : Hid (w.heap.size = hb) := hhb
  have HRV : Hid (∀ X : World, Below V.heap.size V X → RdK X a0 L) := fun X hX => (HR.out.below HB.out).below hX
  have HTM : Hid (∀ X : World, Below V.heap.size V X → Calls Tryd.prog 10 #[.slice a0 L.length cap0] X fun e w' => ∃ q, e = .returned (.slice (some ⟨q, 0, none⟩) L.length L.length) ∧ X.heap.size ≤ q ∧ Lc.Made w' q L.length L L.length ∧ Below V.heap.size V w' ∧ Below X.heap.size X w') := fun X hX => by
    refine (Lc.toKnotS a0 cap0 L X hlen (HRV.out X hX)).mono ?_
    rintro e w' ⟨rfl, hm, hb⟩
    exact ⟨_, rfl, Nat.le_refl _, hm, hX.trans (hb.mono hX.size), hb⟩
  have HTK : Hid (∀ X : World, Below V.heap.size V X → Calls Tryd.prog 10 #[.slice a0 L.length cap0] X fun e w' => ∃ q, e = .returned (.slice (some ⟨q, 0, none⟩) L.length L.length) ∧ q < w'.heap.size ∧ RdK w' (some ⟨q, 0, none⟩) L ∧ Below V.heap.size V w' ∧ Below X.heap.size X w') := fun X hX => (HTM.out X hX).mono fun e w' z => by
    obtain ⟨q, e1, _, e2, e3⟩ := z
    exact ⟨q, e1, e2.lt, Lc.made_rd e2, e3⟩
  have HTH : Hid (∀ X : World, Below V.heap.size V X → Calls Tryd.prog 11 #[.agg #[.int .i64 h.who, .int .i64 h.has, .int .i64 h.kept, .int .i64 h.last]] X fun e w' => e = .returned (.agg #[.int .i64 h.who, .int .i64 h.has, .int .i64 h.kept, .int .i64 h.last]) ∧ Below V.heap.size V w' ∧ Below X.heap.size X w') := fun X hX => (Rm.toHand h X).mono fun _ _ q => ⟨q.1, hX.trans (q.2.mono hX.size), q.2⟩
  have HT61 := ties61 L h wd
  have HSP : Hid (∀ (X : World) (q : Nat), Below V.heap.size V X → RdK X (some ⟨q, 0, none⟩) L → q < X.heap.size → Calls Tryd.prog 22 #[.slice (some ⟨q, 0, none⟩) L.length L.length, .agg #[.int .i64 h.who, .int .i64 h.has, .int .i64 h.kept, .int .i64 h.last], .string wd] X fun e w' => ∃ gs cs, e = .returned (.tuple #[.slice (some ⟨gs, 0, none⟩) (Rm.tiesL L h wd).length cs, .agg #[.int .i64 (Rm.tiesH L h wd).who, .int .i64 (Rm.tiesH L h wd).has, .int .i64 (Rm.tiesH L h wd).kept, .int .i64 (Rm.tiesH L h wd).last], .bool (Rm.tiesB L h wd)]) ∧ X.heap.size ≤ gs ∧ gs < w'.heap.size ∧ RdK w' (some ⟨gs, 0, none⟩) (Rm.tiesL L h wd) ∧ Below V.heap.size V w' ∧ Below X.heap.size X w') := fun X q hX hq hl => (Rm.specTies q 0 _ L h wd X (Nat.le_refl _) HW.out hq hk (by omega)).mono fun e w' z => by
    obtain ⟨v, e1, e2, e3⟩ := z
    obtain ⟨gx, cx, rfl, _, _, h4, h5, h6, _⟩ := Lc.ownK_shape e2
    exact ⟨gx, cx, e1, h4, h5, h6, hX.trans (e3.mono hX.size), e3⟩
  have HIM : Hid (∀ (X : World) (q : Nat), Below V.heap.size V X → RdK X (some ⟨q, 0, none⟩) L → q < X.heap.size → Calls Tryd.prog 23 #[.slice (some ⟨q, 0, none⟩) L.length L.length, .agg #[.int .i64 h.who, .int .i64 h.has, .int .i64 h.kept, .int .i64 h.last], .string wd] X fun e w' => ∃ gs, e = .returned (.tuple #[.slice (some ⟨gs, 0, none⟩) (Rm.tiesL L h wd).length (Rm.tiesL L h wd).length, .agg #[.int .i64 (Rm.tiesH L h wd).who, .int .i64 (Rm.tiesH L h wd).has, .int .i64 (Rm.tiesH L h wd).kept, .int .i64 (Rm.tiesH L h wd).last], .bool (Rm.tiesB L h wd)]) ∧ X.heap.size ≤ gs ∧ Lc.Made w' gs (Rm.tiesL L h wd).length (Rm.tiesL L h wd) (Rm.tiesL L h wd).length ∧ Below V.heap.size V w' ∧ Below X.heap.size X w') := fun X q hX hq hl => (HII.out L h wd hlen HW.out hk hnwd X q ((HNN.out.below HB.out).below hX) hq hl).mono fun e w' z => by
    obtain ⟨gx, e1, e2, e3, e4⟩ := z
    exact ⟨gx, e1, e2, e3, hX.trans (e4.mono hX.size), e4⟩
  have HSB : Hid (∀ W : World, Below V.heap.size V W → W.cell? ⟨hb, 0, none⟩ = some (.int .i64 h.who) ∧ W.cell? ⟨hb, 1, none⟩ = some (.int .i64 h.has) ∧ W.cell? ⟨hb, 2, none⟩ = some (.int .i64 h.kept) ∧ W.cell? ⟨hb, 3, none⟩ = some (.int .i64 h.last)) := fun W hW => Rm.cellsH (HHB.out W hW)
  clear HII HR hhb HNN
  generalize Rm.tiesL L h wd = T at HSP HIM HT61
  generalize Rm.tiesH L h wd = hx at HSP HIM
  generalize Rm.tiesB L h wd = bx at HSP HIM
  go_upto_region 7 with fail
  go_cut [8, 9, 10] (fun sv pv bv wx => ∃ gs cs rb : Nat, sv = .slice (some ⟨gs, 0, none⟩) T.length cs ∧ pv = .pointer (some ⟨rb, 0, none⟩) ∧ bv = .bool bx ∧ Hid (Ly V wx gs rb rb T hx))
  case first =>
    go_region_held3 (fun W => W.cell? ⟨hb, 0, none⟩ = some (.int .i64 h.who) ∧ W.cell? ⟨hb, 1, none⟩ = some (.int .i64 h.has) ∧ W.cell? ⟨hb, 2, none⟩ = some (.int .i64 h.kept) ∧ W.cell? ⟨hb, 3, none⟩ = some (.int .i64 h.last)) (first
      | exact HSB.out _ (B3.alloc B3.size _) | exact HSB.out _ B3 | exact HSB.out _ (Rm.below_put4 B3 (by first | exact BK.size | exact BH.size | exact Nat.le_refl _) _ _ _ _)
      | exact HSB.out _ (by first | exact BH | exact BK | exact BH.alloc BH.size _ | exact BK.alloc BK.size _ | exact (Below.refl _ _).drew | exact Below.refl _ _ | exact (Below.refl _ _).drew.alloc (Nat.le_refl _) _ | exact ((Below.refl _ _).alloc (Nat.le_refl _) _).drew | exact (Below.refl _ _).alloc (Nat.le_refl _) _) | go_keep) (first
      | (go_at_call 22
         refine (HSP.out _ _ (by first | exact BH | exact BK | exact BH.alloc BH.size _ | exact BK.alloc BK.size _ | exact (Below.refl _ _).drew | exact Below.refl _ _ | exact (Below.refl _ _).drew.alloc (Nat.le_refl _) _ | exact ((Below.refl _ _).alloc (Nat.le_refl _) _).drew | exact (Below.refl _ _).alloc (Nat.le_refl _) _) (by first | exact RK | exact RK.below bh | exact RK.below (Rm.unlaid bh) | exact RK.below ((Below.refl _ _).alloc (Nat.le_refl _) _) | exact (RK.below bh).below ((Below.refl _ _).alloc (Nat.le_refl _) _)) (by first | exact hq | exact Nat.lt_of_lt_of_le hq bh.size | exact Nat.lt_of_lt_of_le hq (Rm.unlaid bh).size | exact Nat.lt_of_lt_of_le hq ((Below.refl _ _).alloc (Nat.le_refl _) _).size | exact Nat.lt_of_lt_of_le (Nat.lt_of_lt_of_le hq bh.size) ((Below.refl _ _).alloc (Nat.le_refl _) _).size)).mono ?_
         rintro e V3 ⟨gs, cs, rfl, hgs, hgl, RS, B3, b3⟩
         (first | have ZS := Rm.keepH b3 | have ZS := Rm.keepH' b3 | have ZS := Rm.hat_below ZH b3 | have ZS := Rm.hat_below ZK b3 | skip)
         (first | (have z0 := (Rm.cellsZ ZS).1; have z1 := (Rm.cellsZ ZS).2.1; have z2 := (Rm.cellsZ ZS).2.2.1; have z3 := (Rm.cellsZ ZS).2.2.2; have y0 := (Rm.frozH ZS).1; have y1 := (Rm.frozH ZS).2.1; have y2 := (Rm.frozH ZS).2.2.1; have y3 := (Rm.frozH ZS).2.2.2) | skip))
      | (go_at_call 10
         refine (HTK.out _ (by first | exact BH | exact BH.alloc BH.size _ | exact (Below.refl _ _).drew | exact Below.refl _ _ | exact (Below.refl _ _).drew.alloc (Nat.le_refl _) _ | exact ((Below.refl _ _).alloc (Nat.le_refl _) _).drew | exact (Below.refl _ _).alloc (Nat.le_refl _) _)).mono ?_
         rintro e VK ⟨q, rfl, hq, RK, BK, bk⟩
         (first | have ZK := Rm.keepH bk | have ZK := Rm.keepH' bk | have ZK := Rm.hat_below ZH bk | skip))
      | (go_at_call 11
         refine (HTH.out _ (by first | exact BK | exact BK.alloc BK.size _ | exact (Below.refl _ _).drew | exact Below.refl _ _ | exact (Below.refl _ _).drew.alloc (Nat.le_refl _) _ | exact ((Below.refl _ _).alloc (Nat.le_refl _) _).drew | exact (Below.refl _ _).alloc (Nat.le_refl _) _)).mono ?_
         rintro e VH ⟨rfl, BH, bh⟩
         (first | have ZH := Rm.keepH bh | have ZH := Rm.keepH' bh | have ZH := Rm.hat_below ZK bh | skip)))
    all_goals go_wp2_with fail
    all_goals go_meet
    all_goals (first | exact ⟨_, _, _, rfl, rfl, rfl, ⟨B3.alloc B3.size _, by simp; omega, RS.below ((Below.refl _ _).alloc (Nat.le_refl _) _), Rm.hat_new V3 hx _, Rm.hat_new V3 hx _⟩⟩ | exact ⟨_, _, _, rfl, rfl, rfl, ⟨Rm.below_put4 B3 (by first | exact BK.size | exact BH.size | exact Nat.le_refl _) _ _ _ _, by simp; omega, rd_put4 RS (by first | (have := ZK.lt; have := bh.size; omega) | (have := ZH.lt; omega) | (have := ZK.lt; omega) | (simp at hgs; omega)) _ _ _ _, Rm.hat_put4 ZS hx, Rm.hat_put4 ZS hx⟩⟩)
  case rest =>
    obtain ⟨gs, cs, rb, rfl, rfl, rfl, HL6⟩ := hcut
    have hg6 := HL6.out.gl
    have hr6 := HL6.out.x.lt
    go_wp2_with fail
    refine (HTM.out _ HL6.out.bel).mono ?_
    rintro e w7 ⟨q7, rfl, hq7, hm7, B7, b7⟩
    have HL7 : Hid (Ly V w7 gs rb rb T hx) := HL6.out.below b7
    have hv7 : V.heap.size ≤ q7 := Nat.le_trans HL6.out.bel.size hq7
    have hgq7 : gs < q7 := Nat.lt_of_lt_of_le hg6 hq7
    have hrq7 : rb < q7 := Nat.lt_of_lt_of_le hr6 hq7
    have HM7 : Hid (Lc.Made w7 q7 L.length L L.length) := hm7
    clear HL6 hm7 B7 hg6 hr6 hq7
    obtain ⟨a0', a1', a2', a3'⟩ := Rm.cellsH (HHB.out _ HL7.out.bel)
    go_wp2_with fail
    refine (HTH.out _ HL7.out.bel).mono ?_
    rintro e w8 ⟨rfl, B8, b8⟩
    have HL8 : Hid (Ly V w8 gs rb rb T hx) := HL7.out.below b8
    have HM8 : Hid (Lc.Made w8 q7 L.length L L.length) := HM7.out.below b8
    clear a0' a1' a2' a3' HL7 HM7 B8 b8 b7
    go_wp2_with fail
    refine (HIM.out _ _ HL8.out.bel (Lc.made_rd HM8.out) HM8.out.lt).mono ?_
    rintro e w9 ⟨gi, rfl, hgi, MI, B9, b9⟩
    have hq8 : q7 < gi := Nat.lt_of_lt_of_le HM8.out.lt hgi
    have hg8 : gs < gi := Nat.lt_of_lt_of_le HL8.out.gl hgi
    have hr8 : rb < gi := Nat.lt_of_lt_of_le HL8.out.x.lt hgi
    have hgi9 : gi < w9.heap.size := MI.lt
    have HA9 : Hid (Ly V (w9.alloc (.cells #[.int .i64 hx.who, .int .i64 hx.has, .int .i64 hx.kept, .int .i64 hx.last] 26)) gs rb w9.heap.size T hx ∧ Lc.Made (w9.alloc (.cells #[.int .i64 hx.who, .int .i64 hx.has, .int .i64 hx.kept, .int .i64 hx.last] 26)) q7 L.length L L.length ∧ Lc.Made (w9.alloc (.cells #[.int .i64 hx.who, .int .i64 hx.has, .int .i64 hx.kept, .int .i64 hx.last] 26)) gi T.length T T.length) := by
      have b10 : Below w9.heap.size w9 (w9.alloc (.cells #[.int .i64 hx.who, .int .i64 hx.has, .int .i64 hx.kept, .int .i64 hx.last] 26)) := (Below.refl _ _).alloc (Nat.le_refl _) _
      have q := (HL8.out.below b9).below b10
      exact ⟨⟨q.bel, q.gl, q.s, q.x, Rm.hat_new w9 hx _⟩, (HM8.out.below b9).below b10, MI.below b10⟩
    clear HL8 HM8 MI B9 b9
    go_upto_region 10 with fail
    generalize w9.alloc (.cells #[.int .i64 hx.who, .int .i64 hx.has, .int .i64 hx.kept, .int .i64 hx.last] 26) = WA at HA9 ⊢
    generalize w9.heap.size = nb at HA9 hgi9 ⊢
    have HLA : Hid (Ly V WA gs rb nb T hx) := HA9.out.1
    have HMA : Hid (Lc.Made WA q7 L.length L L.length) := HA9.out.2.1
    have HGA : Hid (Lc.Made WA gi T.length T T.length) := HA9.out.2.2
    clear HA9
    have hvg : V.heap.size ≤ gi := by omega
    have hT : T.length ≤ 1048576 := by omega
    go_wp2_with fail
    refine (Lc.eqKnotS gi 0 _ gs 0 cs T _ hT (Lc.made_rd HGA.out) HLA.out.s).mono ?_
    rintro e wB ⟨rfl, bB⟩
    have HLB : Hid (Ly V wB gs rb nb T hx) := HLA.out.below bB
    have HMB : Hid (Lc.Made wB q7 L.length L L.length) := HMA.out.below bB
    have HGB : Hid (Lc.Made wB gi T.length T T.length) := HGA.out.below bB
    clear HLA HMA HGA bB
    obtain ⟨n0, n1, n2, n3⟩ := Rm.cellsH HLB.out.n
    obtain ⟨m0, m1, m2, m3⟩ := Rm.cellsH HLB.out.x
    go_wp2_with fail
    refine (Rm.eqHand hx _).mono ?_
    rintro e wC ⟨rfl, bC⟩
    have HLC : Hid (Ly V wC gs rb nb T hx) := HLB.out.below bC
    have HMC : Hid (Lc.Made wC q7 L.length L L.length) := HMB.out.below bC
    have HGC : Hid (Lc.Made wC gi T.length T T.length) := HGB.out.below bC
    clear n0 n1 n2 n3 m0 m1 m2 m3 HLB HMB HGB bC
    skip
    all_goals
      go_wp2_with fail
      refine (HTM.out _ HLC.out.bel).mono ?_
      rintro e wD ⟨qd, rfl, _, hmD, BD, bD⟩
      have HLD : Hid (Ly V wD gs rb nb T hx) := HLC.out.below bD
      have HMD : Hid (Lc.Made wD q7 L.length L L.length) := HMC.out.below bD
      have HGD : Hid (Lc.Made wD gi T.length T T.length) := HGC.out.below bD
      have HXD : Hid (RdK wD (some ⟨qd, 0, none⟩) L) := Lc.made_rd hmD
      clear HLC HMC HGC hmD BD bD
      go_wp2_with fail
      refine (Lc.eqKnotS _ _ _ _ _ _ L _ hlen (Lc.made_rd HMD.out) HXD.out).mono ?_
      rintro e wE ⟨rfl, bE⟩
      have HLE : Hid (Ly V wE gs rb nb T hx) := HLD.out.below bE
      have HME : Hid (Lc.Made wE q7 L.length L L.length) := HMD.out.below bE
      have HGE : Hid (Lc.Made wE gi T.length T T.length) := HGD.out.below bE
      clear HLD HMD HGD bE HXD
      go_wp2_with fail
      refine (Lc.markKnotS q7 L.length L.length _ (by omega) (made_fill HME.out _)).mono ?_
      rintro e wF ⟨rfl, _, hgF⟩
      have HLF : Hid (Ly V wF gs rb nb T hx) := HLE.out.grown hgF hv7 (by omega) (by omega) (by omega)
      have HGF : Hid (Lc.Made wF gi T.length T T.length) := made_grown HGE.out hgF (by omega)
      clear HLE HME HGE hgF
      have hnn : ¬ 1 + (L.length : Int) * 4 < 0 := by omega
      go_wp2_with fail
      refine (Lc.eqKnotS gi 0 _ gs 0 cs T _ hT (Lc.made_rd HGF.out) HLF.out.s).mono ?_
      rintro e wG ⟨rfl, bG⟩
      have HLG : Hid (Ly V wG gs rb nb T hx) := HLF.out.below bG
      have HGG : Hid (Lc.Made wG gi T.length T T.length) := HGF.out.below bG
      clear HLF HGF bG
      obtain ⟨n0, n1, n2, n3⟩ := Rm.cellsH HLG.out.n
      obtain ⟨m0, m1, m2, m3⟩ := Rm.cellsH HLG.out.x
      go_wp2_with fail
      refine (Rm.eqHand hx _).mono ?_
      rintro e wH ⟨rfl, bH⟩
      have HLH : Hid (Ly V wH gs rb nb T hx) := HLG.out.below bH
      have HGH : Hid (Lc.Made wH gi T.length T T.length) := HGG.out.below bH
      clear n0 n1 n2 n3 m0 m1 m2 m3 HLG HGG bH
      go_wp2_with fail
      refine (Lc.markKnotS gi T.length T.length _ (by omega) (made_fill HGH.out _)).mono ?_
      rintro e wI ⟨rfl, hfI, hgI⟩
      have HLI : Hid (Ly V wI gs rb nb T hx) := HLH.out.grown hgI hvg (by omega) (by omega) (by omega)
      have HFI : Hid (Lc.Fill wI gi T.length (Lc.cellM 1) (T.length * 4)) := hfI
      clear HLH HGH hgI hfI hnn
      have hnn2 : ¬ 1 + (T.length : Int) * 4 < 0 := by omega
      go_wp2_with fail
      refine (Lc.heldKnotS gi T.length T.length _ (by omega) HFI.out).mono ?_
      rintro e wJ ⟨rfl, bJ⟩
      have HLJ : Hid (Ly V wJ gs rb nb T hx) := HLI.out.below bJ
      have HFJ : Hid (Lc.Fill wJ gi T.length (Lc.cellM 1) (T.length * 4)) := HFI.out.below bJ
      clear HLI HFI bJ
      have HSB2 : Hid (∀ W : World, Below wJ.heap.size wJ W → W.cell? ⟨hb, 0, none⟩ = some (.int .i64 h.who) ∧ W.cell? ⟨hb, 1, none⟩ = some (.int .i64 h.has) ∧ W.cell? ⟨hb, 2, none⟩ = some (.int .i64 h.kept) ∧ W.cell? ⟨hb, 3, none⟩ = some (.int .i64 h.last)) := fun W hW => HSB.out W (HLJ.out.bel.trans (hW.mono HLJ.out.bel.size))
      have HTK2 : Hid (∀ X : World, Below wJ.heap.size wJ X → Calls Tryd.prog 10 #[.slice a0 L.length cap0] X fun e w' => ∃ q, e = .returned (.slice (some ⟨q, 0, none⟩) L.length L.length) ∧ q < w'.heap.size ∧ RdK w' (some ⟨q, 0, none⟩) L ∧ Below wJ.heap.size wJ w' ∧ Below X.heap.size X w') := fun X hX => (HTK.out X (HLJ.out.bel.trans (hX.mono HLJ.out.bel.size))).mono fun e w' z => by
        obtain ⟨q, e1, e2, e3, _, e4⟩ := z
        exact ⟨q, e1, e2, e3, hX.trans (e4.mono hX.size), e4⟩
      have HTH2 : Hid (∀ X : World, Below wJ.heap.size wJ X → Calls Tryd.prog 11 #[.agg #[.int .i64 h.who, .int .i64 h.has, .int .i64 h.kept, .int .i64 h.last]] X fun e w' => e = .returned (.agg #[.int .i64 h.who, .int .i64 h.has, .int .i64 h.kept, .int .i64 h.last]) ∧ Below wJ.heap.size wJ w' ∧ Below X.heap.size X w') := fun X hX => (HTH.out X (HLJ.out.bel.trans (hX.mono HLJ.out.bel.size))).mono fun e w' z => ⟨z.1, hX.trans (z.2.2.mono hX.size), z.2.2⟩
      have HIM2 : Hid (∀ (X : World) (q : Nat), Below wJ.heap.size wJ X → RdK X (some ⟨q, 0, none⟩) L → q < X.heap.size → Calls Tryd.prog 23 #[.slice (some ⟨q, 0, none⟩) L.length L.length, .agg #[.int .i64 h.who, .int .i64 h.has, .int .i64 h.kept, .int .i64 h.last], .string wd] X fun e w' => ∃ gs cs, e = .returned (.tuple #[.slice (some ⟨gs, 0, none⟩) T.length cs, .agg #[.int .i64 hx.who, .int .i64 hx.has, .int .i64 hx.kept, .int .i64 hx.last], .bool bx]) ∧ X.heap.size ≤ gs ∧ gs < w'.heap.size ∧ RdK w' (some ⟨gs, 0, none⟩) T ∧ Below wJ.heap.size wJ w' ∧ Below X.heap.size X w') := fun X q hX hq hl => (HIM.out X q (HLJ.out.bel.trans (hX.mono HLJ.out.bel.size)) hq hl).mono fun e w' z => by
        obtain ⟨gx, e1, e2, e3, _, e4⟩ := z
        exact ⟨gx, _, e1, e2, e3.lt, Lc.made_rd e3, hX.trans (e4.mono hX.size), e4⟩
      clear HSB HTK HTH HIM HTM HSP
      go_upto_region 26 with fail
      go_cut [18, 19, 20] (fun sv pv bv wx => ∃ gs cs rb : Nat, sv = .slice (some ⟨gs, 0, none⟩) T.length cs ∧ pv = .pointer (some ⟨rb, 0, none⟩) ∧ bv = .bool bx ∧ Hid (Ly wJ wx gs rb rb T hx))
      case first =>
        go_region_held3 (fun W => W.cell? ⟨hb, 0, none⟩ = some (.int .i64 h.who) ∧ W.cell? ⟨hb, 1, none⟩ = some (.int .i64 h.has) ∧ W.cell? ⟨hb, 2, none⟩ = some (.int .i64 h.kept) ∧ W.cell? ⟨hb, 3, none⟩ = some (.int .i64 h.last)) (first
          | exact HSB2.out _ (B3.alloc B3.size _) | exact HSB2.out _ B3 | exact HSB2.out _ (Rm.below_put4 B3 (by first | exact BK.size | exact BH.size | exact Nat.le_refl _) _ _ _ _)
          | exact HSB2.out _ (by first | exact BH | exact BK | exact BH.alloc BH.size _ | exact BK.alloc BK.size _ | exact (Below.refl _ _).drew | exact Below.refl _ _ | exact (Below.refl _ _).drew.alloc (Nat.le_refl _) _ | exact ((Below.refl _ _).alloc (Nat.le_refl _) _).drew | exact (Below.refl _ _).alloc (Nat.le_refl _) _) | go_keep) (first
          | (go_at_call 23
             refine (HIM2.out _ _ (by first | exact BH | exact BK | exact BH.alloc BH.size _ | exact BK.alloc BK.size _ | exact (Below.refl _ _).drew | exact Below.refl _ _ | exact (Below.refl _ _).drew.alloc (Nat.le_refl _) _ | exact ((Below.refl _ _).alloc (Nat.le_refl _) _).drew | exact (Below.refl _ _).alloc (Nat.le_refl _) _) (by first | exact RK | exact RK.below bh | exact RK.below (Rm.unlaid bh) | exact RK.below ((Below.refl _ _).alloc (Nat.le_refl _) _) | exact (RK.below bh).below ((Below.refl _ _).alloc (Nat.le_refl _) _)) (by first | exact hq | exact Nat.lt_of_lt_of_le hq bh.size | exact Nat.lt_of_lt_of_le hq (Rm.unlaid bh).size | exact Nat.lt_of_lt_of_le hq ((Below.refl _ _).alloc (Nat.le_refl _) _).size | exact Nat.lt_of_lt_of_le (Nat.lt_of_lt_of_le hq bh.size) ((Below.refl _ _).alloc (Nat.le_refl _) _).size)).mono ?_
             rintro e V3 ⟨gs, cs, rfl, hgs, hgl, RS, B3, b3⟩
             (first | have ZS := Rm.keepH b3 | have ZS := Rm.keepH' b3 | have ZS := Rm.hat_below ZH b3 | have ZS := Rm.hat_below ZK b3 | skip)
             (first | (have z0 := (Rm.cellsZ ZS).1; have z1 := (Rm.cellsZ ZS).2.1; have z2 := (Rm.cellsZ ZS).2.2.1; have z3 := (Rm.cellsZ ZS).2.2.2; have y0 := (Rm.frozH ZS).1; have y1 := (Rm.frozH ZS).2.1; have y2 := (Rm.frozH ZS).2.2.1; have y3 := (Rm.frozH ZS).2.2.2) | skip))
          | (go_at_call 10
             refine (HTK2.out _ (by first | exact BH | exact BH.alloc BH.size _ | exact (Below.refl _ _).drew | exact Below.refl _ _ | exact (Below.refl _ _).drew.alloc (Nat.le_refl _) _ | exact ((Below.refl _ _).alloc (Nat.le_refl _) _).drew | exact (Below.refl _ _).alloc (Nat.le_refl _) _)).mono ?_
             rintro e VK ⟨q, rfl, hq, RK, BK, bk⟩
             (first | have ZK := Rm.keepH bk | have ZK := Rm.keepH' bk | have ZK := Rm.hat_below ZH bk | skip))
          | (go_at_call 11
             refine (HTH2.out _ (by first | exact BK | exact BK.alloc BK.size _ | exact (Below.refl _ _).drew | exact Below.refl _ _ | exact (Below.refl _ _).drew.alloc (Nat.le_refl _) _ | exact ((Below.refl _ _).alloc (Nat.le_refl _) _).drew | exact (Below.refl _ _).alloc (Nat.le_refl _) _)).mono ?_
             rintro e VH ⟨rfl, BH, bh⟩
             (first | have ZH := Rm.keepH bh | have ZH := Rm.keepH' bh | have ZH := Rm.hat_below ZK bh | skip)))
        all_goals go_wp2_with fail
        all_goals go_meet
        all_goals (first | exact ⟨_, _, _, rfl, rfl, rfl, ⟨B3.alloc B3.size _, by simp; omega, RS.below ((Below.refl _ _).alloc (Nat.le_refl _) _), Rm.hat_new V3 hx _, Rm.hat_new V3 hx _⟩⟩ | exact ⟨_, _, _, rfl, rfl, rfl, ⟨Rm.below_put4 B3 (by first | exact BK.size | exact BH.size | exact Nat.le_refl _) _ _ _ _, by simp; omega, rd_put4 RS (by first | (have := ZK.lt; have := bh.size; omega) | (have := ZH.lt; omega) | (have := ZK.lt; omega) | (simp at hgs; omega)) _ _ _ _, Rm.hat_put4 ZS hx, Rm.hat_put4 ZS hx⟩⟩)
      case rest =>
        obtain ⟨gh, ch, rh, rfl, rfl, rfl, HL2⟩ := hcut
        have HLK : Hid (Ly V _ gs rb nb T hx) := HLJ.out.below HL2.out.bel
        have HFK : Hid (Lc.Fill _ gi T.length (Lc.cellM 1) (T.length * 4)) := HFJ.out.below HL2.out.bel
        clear HLJ HFJ
        go_wp2_with fail
        refine (Lc.eqKnotS gh 0 _ gs 0 cs T _ hT HL2.out.s HLK.out.s).mono ?_
        rintro e wL ⟨rfl, bL⟩
        have HLL : Hid (Ly V wL gs rb nb T hx) := HLK.out.below bL
        have HFL : Hid (Lc.Fill wL gi T.length (Lc.cellM 1) (T.length * 4)) := HFK.out.below bL
        obtain ⟨n0, n1, n2, n3⟩ := Rm.cellsH (Rm.hat_below HL2.out.x bL)
        obtain ⟨m0, m1, m2, m3⟩ := Rm.cellsH HLL.out.x
        clear HLK HFK HL2 bL
        go_wp2_with fail
        refine (Rm.eqHand hx _).mono ?_
        rintro e wM ⟨rfl, bM⟩
        have HLM : Hid (Ly V wM gs rb nb T hx) := HLL.out.below bM
        have HFM : Hid (Lc.Fill wM gi T.length (Lc.cellM 1) (T.length * 4)) := HFL.out.below bM
        clear n0 n1 n2 n3 m0 m1 m2 m3 HLL HFL bM
        go_wp2_with fail
        refine (Lc.heldKnotS gi T.length T.length _ (by omega) HFM.out).mono ?_
        rintro e wN ⟨rfl, bN⟩
        have HLN : Hid (Ly V wN gs rb nb T hx) := HLM.out.below bN
        clear HLM HFM bN
        go_wp2
        go_ret
        exact ⟨rfl, HB.out.trans (HLN.out.bel.mono HB.out.size)⟩

/-- the heap that the program's own initialisers leave meets the condition -/
theorem door_met (os : Os) (args : Array Value) : laidMetH Tryd.prog Rows.fnExactTiesRow.laid ((World.doorLaid Tryd.prog 400 os).forCall (fun _ _ => 0) ⟨#[], args, []⟩).memory :=
  laidMetH_of_parts3 (fuel := 8) (laidMet_of_run' 8 (by kernel_rfl) (by kernel_rfl)) (by kernel_rfl) (by kernel_rfl)

theorem lifted (os : Os) (started : os.Started) (H : Type) (enc : TypeId × Value → H) :
    ReturnsInHanded {} Tryd.checked os 7 .any (fun w args => (Rows.fnExactTiesSpec.pre enc Tryd.prog Tryd.f7 [] false w args ∧ laidMetH Tryd.prog Rows.fnExactTiesRow.laid w) ∧ sizedMet enc Tryd.prog Tryd.f7 (OpenSpec.ofChange Rows.fnExactTiesSpec) false w args) (Rows.fnExactTiesSpec.post enc Tryd.prog Tryd.f7 false true false false) := by
  refine Ld.wrap (C := Tryd.checked) (X := fun w => laidMetH Tryd.prog Rows.fnExactTiesRow.laid w) (fun _ _ hh h => h.of_heap hh) own started (by kernel_rfl) Tryd.func7
    (ChangeSpec.witness_shaped (enc := enc) (C := Tryd.checked) (os := os) (X := fun w _ => laidMetH Tryd.prog Rows.fnExactTiesRow.laid w) false (World.doorLaid Tryd.prog 400 os) #[.slice none 0 0, .agg #[.int .i64 0, .int .i64 0, .int .i64 0, .int .i64 0], .string ⟨#[]⟩] 8 rfl (World.shaped_of_RefB (by kernel_rfl) (by kernel_rfl)) (by kernel_rfl) (by kernel_rfl) (by kernel_rfl) (door_met os _)) ?_
  intro W base args ds gs before hval0 hW hL hsh
  have hval : ∀ (j : Nat) t v, Tryd.f7.params[j]? = some t → args[j]? = some v → Value.okWide Tryd.prog W .any base t v := hval0
  have hW' := hW
  obtain ⟨p, q, hA0, hV0, rfl, hfz, hnd⟩ := hW
  have hA : DataW.TrodAll enc Tryd.prog W 0 (fun _ => true) true Tryd.f7.params.toList args.toList ds p := hA0
  have hV : DataW.TrodVars enc Tryd.prog W (fun _ => true) ["loop.example/g00418/impl.errNoHand", "loop.example/g00418/impl.errFull", "loop.example/g00418/impl.errNoWord", "loop.example/g00418/impl.errOnce"] gs q := hV0
  rw [Tryd.params7] at hA hval
  obtain ⟨v0, vs0, d0, ds0, p0, q0, hargs, rfl, rfl, h0, r0⟩ := trodAll_cons hA
  obtain ⟨v1, vs1, d1, ds1, p1, q1, rfl, rfl, rfl, h1, r1⟩ := trodAll_cons r0
  obtain ⟨v2, vs2, d2, ds2, p2, q2, rfl, rfl, rfl, h2, r2⟩ := trodAll_cons r1
  obtain ⟨rfl, rfl, rfl⟩ := trodAll_nil r2
  obtain rfl : args = #[v0, v1, v2] := by cases args; simp_all
  have hLm : laidMet Tryd.prog [("loop.example/g00418/impl.errNoHand", Rows.laid_loop_example_g00418_impl_errNoHand), ("loop.example/g00418/impl.errOnce", Rows.laid_loop_example_g00418_impl_errOnce), ("loop.example/g00418/impl.errNoWord", Rows.laid_loop_example_g00418_impl_errNoWord), ("loop.example/g00418/impl.errFull", Rows.laid_loop_example_g00418_impl_errFull)] W := by rw [← MakeChecks.laidMetH_plain _ _ _ (by kernel_rfl)]; exact hL
  obtain ⟨aerrNoHand, verrNoHand⟩ := Ld.sent hLm Ld.gNoHand Ld.tNoHand
  obtain ⟨aerrOnce, verrOnce⟩ := Ld.sent hLm.tail Ld.gOnce Ld.tOnce
  obtain ⟨aerrNoWord, verrNoWord⟩ := Ld.sent hLm.tail.tail Ld.gNoWord Ld.tNoWord
  obtain ⟨aerrFull, verrFull⟩ := Ld.sent hLm.tail.tail.tail Ld.gFull Ld.tFull
  have hnn : Rm.STie3 W := ⟨⟨⟨⟨_, Ld.noh verrNoHand⟩, Ld.holds Ld.gOnce verrOnce⟩, Ld.holds Ld.gNoWord verrNoWord⟩, Ld.holds Ld.gFull verrFull⟩
  have vr : ∀ {X : World}, X.var? Tryd.prog "loop.example/g00418/impl.errNoHand" = some #[.iface 159 (.pointer (some aerrNoHand))] → X.var? Tryd.prog "loop.example/g00418/impl.errFull" = some #[.iface 159 (.pointer (some aerrFull))] → X.var? Tryd.prog "loop.example/g00418/impl.errNoWord" = some #[.iface 159 (.pointer (some aerrNoWord))] → X.var? Tryd.prog "loop.example/g00418/impl.errOnce" = some #[.iface 159 (.pointer (some aerrOnce))] → ∀ sp : Nat → Bool, DataW.TrodVars enc Tryd.prog X sp ["loop.example/g00418/impl.errNoHand", "loop.example/g00418/impl.errFull", "loop.example/g00418/impl.errNoWord", "loop.example/g00418/impl.errOnce"] [tok enc (.iface 159 (.pointer (some aerrNoHand))), tok enc (.iface 159 (.pointer (some aerrFull))), tok enc (.iface 159 (.pointer (some aerrNoWord))), tok enc (.iface 159 (.pointer (some aerrOnce)))] [.cell 0 0, .cell 7 0, .cell 6 0, .cell 5 0] :=
    fun {X} xerrNoHand xerrFull xerrNoWord xerrOnce sp => Ld.read4 enc Ld.gNoHand Ld.tNoHand Tryd.underlying89 xerrNoHand trivial Ld.gFull Ld.tFull Tryd.underlying89 xerrFull trivial Ld.gNoWord Ld.tNoWord Tryd.underlying89 xerrNoWord trivial Ld.gOnce Ld.tOnce Tryd.underlying89 xerrOnce trivial sp
  obtain ⟨rfl, rfl⟩ := hV.unique (vr verrNoHand verrFull verrNoWord verrOnce _)
  obtain ⟨a0, len0, cap0, rfl⟩ := okWide_slice Tryd.underlying22 (hval 0 22 v0 rfl rfl)
  have k0 := h0
  have lt0 : ∀ x ∈ p0, x.block < W.heap.size := by obtain ⟨m, hm⟩ := k0; exact DataW.trod_lt m _ _ _ hm
  obtain ⟨fuel, hf⟩ := h0
  obtain ⟨L, rfl, hrd, hws, hl⟩ := Lc.openK (a0 := a0) (len0 := len0) (cap0 := cap0) hf
  obtain ⟨x0, x1, x2, x3, y0, y1, y2, y3, m, rfl, rfl, rfl, hy0, hy1, hy2, hy3⟩ := open_agg4 Tryd.underlying24 (by kernel_rfl) cellsHd (hval 1 24 v1 rfl rfl) h1
  obtain ⟨b0, e0, rfl, w0⟩ := DataW.trod_int Tryd.underlying2 hy0
  obtain ⟨b1, e1, rfl, w1⟩ := DataW.trod_int Tryd.underlying2 hy1
  obtain ⟨b2, e2, rfl, w2⟩ := DataW.trod_int Tryd.underlying2 hy2
  obtain ⟨b3, e3, rfl, w3⟩ := DataW.trod_int Tryd.underlying2 hy3
  simp only [List.cons.injEq, and_true] at e0 e1 e2 e3
  subst e0 e1 e2 e3
  obtain ⟨z2, rfl, rfl, rfl, u2⟩ := open_string Tryd.underlying9 (hval 2 9 v2 rfl rfl) h2
  clear hA0 hV0 hval0
  refine (walk (fun L h wd hlL hwL hk hwd W g hn hr hg => by obtain ⟨⟨⟨⟨a, hn⟩, he⟩, hf⟩, hu⟩ := hn; exact Rm.implTies g 0 L.length L h wd a W (by omega) hwL hk (by omega) hr hn he hf hu) a0 cap0 L ⟨b0, b1, b2, b3⟩ z2 W hl hws hrd hnn ⟨(int_bd w1).1, (int_bd w1).2, (int_bd w2).1, (int_bd w2).2⟩ u2).mono fun e W' ⟨he, bel⟩ => ?_
  subst he
  exact ⟨_, rfl, _, _, _, [], _, [.cell 0 0, .cell 7 0, .cell 6 0, .cell 5 0], hW', trodAll_mk1 (shut_bool Tryd.underlying4 _), (trodAll_cons_mk (Below.trod laidOut (by kernel_rfl) (of_decide_eq_true (by kernel_rfl)) k0 bel lt0) (trodAll_cons_mk (shut_agg4 (y0 := (.lit (.int .i64 b0), [])) (y1 := (.lit (.int .i64 b1), [])) (y2 := (.lit (.int .i64 b2), [])) (y3 := (.lit (.int .i64 b3), [])) Tryd.underlying24 (by kernel_rfl) cellsHd (trI b0 w0) (trI b1 w1) (trI b2 w2) (trI b3 w3)) (trodAll_cons_mk (shut_string Tryd.underlying9 u2) trodAll_mk0))), vr (Ld.var_below Ld.gNoHand bel verrNoHand) (Ld.var_below Ld.gFull bel verrFull) (Ld.var_below Ld.gNoWord bel verrNoWord) (Ld.var_below Ld.gOnce bel verrOnce) _, bel.frame _, fun h => by cases h⟩

theorem over : Rows.fnExactTiesRow.holds Tryd.pinned (OpenSpec.ofChange Rows.fnExactTiesSpec) :=
  OpenClaim.holds_of_wide 7 Tryd.f7 rfl rfl rfl rfl rfl rfl rfl ⟨rfl, rfl, rfl, rfl, rfl⟩ rfl rfl rfl rfl rfl (by kernel_rfl) Tryd.func7 (by kernel_rfl)
    (of_decide_eq_true (by kernel_rfl)) (by unfold Func.isWrapper; first | (rw [if_pos (by decide +kernel)]; kernel_rfl) | (rw [if_neg (by decide +kernel)]; exact ⟨rfl, rfl⟩))
    (fun os started H enc _ => lifted os started H enc)

theorem proved : Rows.FnExactTiesCardSaid :=
  Claim7.holds_tied_plain_at .later [] [.sentinel, .sentinel, .sentinel, .sentinel] true (true, "3f8aaaba9913d456cf579b4034245f348fb41a15b24314907f33c7a488228292") true
    over (fun _ h => by cases h) (by kernel_rfl) (fun _ h => by cases h) fnExactTies_row_tie rfl ⟨rfl, rfl⟩ (by kernel_rfl) rfl
    (fun f fn hf hfn => by
      obtain rfl : f = 7 := Option.some.inj ((show Tryd.prog.funcNamed "loop.example/g00418/laws.FnExactTies" = some 7 by kernel_rfl).symm.trans hf) |>.symm
      obtain rfl : fn = Tryd.f7 := (Option.some.inj (Tryd.func7.symm.trans hfn)).symm
      exact ⟨by kernel_rfl, fun j t ht => by
        rw [Tryd.params7] at ht
        have hm : t ∈ [22, 24, 9] := by simpa using Array.mem_of_getElem? ht
        have hall : ([22, 24, 9].all fun u => !Tryd.prog.wantsStandIn u) = true := by kernel_rfl
        exact (show Tryd.prog.wantsStandIn t = false by simpa using List.all_eq_true.1 hall t hm)⟩)
    (by kernel_rfl)
end Go.Proofs.YtapfmadnkaimeaaDoor.fnExactTies
