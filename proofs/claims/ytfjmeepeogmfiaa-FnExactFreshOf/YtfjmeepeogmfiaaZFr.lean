/-
  FnExactFreshOf answers true at every argument, for FreshOf answers as its model does, writes into no argument, and its answer owns its memory; no condition.
  How long the lists of chapters 11 and 12 are at most; what the model answers for OutOf and BeginsWith.
-/
import Derived.Test.YtfjmeepeogmfiaaZTb
import Derived.Test.YtfjmeepeogmfiaaInts
import Derived.Test.YtfjmeepeogmfiaaRows
import Derived.WalkKit
import Derived.ProofKit
import Derived.OpenShut
import Derived.ChangeOld
import Derived.Below
import Derived.Lib.SmallJoins
import Derived.Test.YtfjmeepeogmfiaaLaceG
import Derived.Test.YtfjmeepeogmfiaaIntsG
import Derived.Test.YtfjmeepeogmfiaaMarkI
import Derived.Test.YtfjmeepeogmfiaaTieA
import Derived.Test.YtfjmeepeogmfiaaZOr
namespace Go.Proofs.Ytfjmeepeogmfiaa
open Go.RowKit
set_option maxRecDepth 100000
namespace Tl
open Kn (K okK)
open Bit (bit withB memTo)
open Lc (at' RdK WordsOk laceB setB)
open Sg (isB bel belows NumsPost)
open Ch (chainL)

theorem orderedI_len (L : List K) (s : Int) : (orderedI L s).length ≤ 60 := by
  unfold orderedI
  split
  · rw [ord_len]; exact Bit.memTo_le _ 60
  · simp
theorem freshI_len (L : List K) (k e : Int) : (freshI L k e).length ≤ 60 := by
  unfold freshI
  split
  · exact fresh_len L k e
  · simp
theorem taleF_len (L : List K) : ∀ (l : List Int) (e : Int), (taleF L e l).length ≤ 60 * l.length := by
  intro l
  induction l with
  | nil => intro e; exact Nat.le_refl _
  | cons c r ih =>
    intro e
    show (freshL L c e ++ taleF L c r).length ≤ _
    have h1 := fresh_len L c e
    have h2 := ih c
    rw [List.length_append, List.length_cons]; omega
theorem taleI_len (L : List K) (C : List Int) (k : Int) : (taleI L C k).length ≤ 3660 := by
  have hc := @Ch.chainI_len L C k
  unfold taleI
  split
  · rename_i h
    have e : Ch.chainI L C k = chainL L C k := by unfold Ch.chainI; rw [if_pos h]
    rw [e] at hc
    have := taleF_len L (chainL L C k) (-1)
    unfold taleL
    omega
  · simp
theorem outI_len (L : List K) (C : List Int) (s : Int) : (outI L C s).length ≤ 3660 := by
  unfold outI
  split
  · rename_i h
    unfold Fm.rightB at h
    rw [Bool.and_eq_true] at h
    rcases last_spec L C s L.length with ⟨q, _⟩ | ⟨f, q, hf, _⟩
    · rw [out_none (by rw [q]; omega)]; simp
    · rw [out_some (by rw [q]; omega), q]
      have hl := (Fm.closed_set h.1).1
      have hon : Ch.onB L C (f : Int) = true := by
        unfold Ch.onB
        rw [h.2]
        unfold Sg.isB
        rw [hl]
        simp; omega
      have := taleI_len L C (f : Int)
      unfold taleI at this
      rw [if_pos hon] at this
      exact this
  · simp

set_option maxHeartbeats 1600000 in
/-- the document's BeginsWith -/
def beginsB (a b : List Int) : Bool := decide (b.length ≤ a.length) && (List.range b.length).all fun i => a.getD i 0 == b.getD i 0

theorem begins_long {a b : List Int} (h : a.length < b.length) : beginsB a b = false := by
  unfold beginsB; rw [decide_eq_false (by omega)]; rfl
theorem begins_no {a b : List Int} (j : Nat) (hj : j < b.length) (h : (a.getD j 0 == b.getD j 0) = false) : beginsB a b = false := by
  rw [Bool.eq_false_iff]
  intro hb
  unfold beginsB at hb
  rw [Bool.and_eq_true, List.all_eq_true] at hb
  have := hb.2 j (by simpa using hj)
  rw [h] at this; exact Bool.noConfusion this
theorem begins_yes {a b : List Int} (hl : b.length ≤ a.length) (h : ∀ j, j < b.length → (a.getD j 0 == b.getD j 0) = true) : beginsB a b = true := by
  unfold beginsB
  rw [decide_eq_true hl, Bool.true_and, List.all_eq_true]
  intro j hj
  exact h j (by simpa using hj)

end Tl
end Go.Proofs.Ytfjmeepeogmfiaa

namespace Go.Proofs.Ytfjmeepeogmfiaa.fnExactFreshOf
open Go.ChangeShapes Go.WideShapes Go.ChangeAt Go.RowKit Go.Joins
open Kn (K)
open Lc (RdK)
open Db (RowI)
set_option linter.unusedVariables false
set_option maxRecDepth 100000

theorem own : ownKnob Try.prog.godebug = none := by kernel_rfl
theorem laidOut : laidOutB Try.prog = true := by kernel_rfl
theorem words {L : List K} (h : Lc.Small L) : Lc.WordsOk L := fun k hk => by have := h.2 k hk; omega
theorem made_fill {w : World} {B n j : Nat} {L : List K} (h : Lc.Made w B n L j) (f : Nat → Value) : Lc.Fill w B n f 0 := ⟨h.lt, fun i hi => by omega, h.ex, h.fr⟩
theorem trI {H : Type} {enc : TypeId × Value → H} {w : World} {base : Nat} {spare : Nat → Bool} {held : Bool} (a : Int) (wa : (Lit.int .i64 a).wf = true) : ∃ n, DataW.trod enc Try.prog w base spare held n 2 [.int .i64 a] = some (.lit (.int .i64 a), []) :=
  ⟨1, by simp [DataW.trod, Try.underlying2, wa]⟩
theorem trS {H : Type} {enc : TypeId × Value → H} {w : World} {base : Nat} {spare : Nat → Bool} {held : Bool} (a : ByteArray) (wa : a.size ≤ maxLen) : ∃ n, DataW.trod enc Try.prog w base spare held n 9 [.string a] = some (.lit (.string a.data.toList), []) :=
  ⟨1, by simp [DataW.trod, Try.underlying9, wa]⟩
theorem int_bd {a : Int} (w : (Lit.int .i64 a).wf = true) : -9223372036854775808 ≤ a ∧ a ≤ 9223372036854775807 := by
  simpa [Lit.wf, IntKind.min, IntKind.max, IntKind.signed, IntKind.bits] using w

/-- what is asked of the program -/
def ImplT : Prop := ∀ (L : List K) (k : Int) (e : Int), L.length ≤ 1048576 → Lc.WordsOk L → -9223372036854775808 ≤ k → k ≤ 9223372036854775807 → -9223372036854775808 ≤ e → e ≤ 9223372036854775807 → 
    ∀ (W : World) (g0 : Nat), RdK W (some ⟨g0, 0, none⟩) L → g0 < W.heap.size → Calls Try.prog 16 #[.slice (some ⟨g0, 0, none⟩) L.length L.length, .int .i64 k, .int .i64 e] W (Sg.NumsPost (Tl.freshI L k e) W)
theorem specT : ∀ (L : List K) (k : Int) (e : Int), L.length ≤ 1048576 → Lc.WordsOk L → -9223372036854775808 ≤ k → k ≤ 9223372036854775807 → -9223372036854775808 ≤ e → e ≤ 9223372036854775807 → 
    ∀ (W : World) (g0 : Nat), RdK W (some ⟨g0, 0, none⟩) L → g0 < W.heap.size → Calls Try.prog 15 #[.slice (some ⟨g0, 0, none⟩) L.length L.length, .int .i64 k, .int .i64 e] W (Sg.NumsPost (Tl.freshI L k e) W) :=
  fun L k e hlL hwL h0k h1k h0e h1e W g0 hr0 hg0 => Tl.specFreshOf _ _ _ L k e W (Nat.le_refl _) hwL hr0

set_option maxHeartbeats 6400000 in
theorem walk (HI : ImplT) (a0 : Option Addr) (cap0 : Nat) (L : List K) (k : Int) (e : Int) (w : World) (hl : L.length ≤ maxLen) (hws : ∀ k ∈ L, k.word.size ≤ maxLen) (hr0 : RdK w a0 L) (hnk : -9223372036854775808 ≤ k ∧ k ≤ 9223372036854775807) (hne : -9223372036854775808 ≤ e ∧ e ≤ 9223372036854775807) :
    Calls Try.prog 4 #[.slice a0 L.length cap0, .int .i64 k, .int .i64 e] w fun e w' => e = .returned (.bool true) ∧ Below w.heap.size w w' := by
  have HR0 : Hid (RdK w a0 L) := hr0
  have HII : Hid ImplT := HI
  clear HI
  have hle' := Tl.freshI_len L k e
  go_enter Try.func4, Try.ntmps4
  go_wp2_with fail
  refine (Lc.szKnotS a0 cap0 L 1048576 _ hl hws (by omega) (by omega) hr0).mono ?_
  rintro e w0 ⟨r, rfl, hr0', hr1', hsm, hb0⟩
  have HSM : Hid (0 ≤ r → Lc.Small L) := hsm
  clear hsm hr0
  have HB : Hid (Below w.heap.size w w0) := hb0
  clear hb0
  by_cases hneg : r < 0
  · go_wp2
    go_ret
    exact ⟨rfl, HB.out⟩
  have hS := HSM.out (by omega)
  have HW : Hid (Lc.WordsOk L) := words hS
  have hlen := hS.1
  clear HSM hl hws hS
  have HSP : Hid (∀ (W : World) (g0 : Nat), RdK W (some ⟨g0, 0, none⟩) L → g0 < W.heap.size → Calls Try.prog 15 #[.slice (some ⟨g0, 0, none⟩) L.length L.length, .int .i64 k, .int .i64 e] W (Sg.NumsPost (Tl.freshI L k e) W)) := specT L k e hlen HW.out hnk.1 hnk.2 hne.1 hne.2
  have HIM : Hid (∀ (W : World) (g0 : Nat), RdK W (some ⟨g0, 0, none⟩) L → g0 < W.heap.size → Calls Try.prog 16 #[.slice (some ⟨g0, 0, none⟩) L.length L.length, .int .i64 k, .int .i64 e] W (Sg.NumsPost (Tl.freshI L k e) W)) := HII.out L k e hlen HW.out hnk.1 hnk.2 hne.1 hne.2
  clear HII
  generalize Tl.freshI L k e = l at HSP HIM hle'
  have ges0 : w.heap.size ≤ w0.heap.size := HB.out.size
  go_wp2_with fail
  refine (Lc.toKnotS a0 cap0 L _ hlen (HR0.out.below HB.out)).mono ?_
  rintro e w1 ⟨rfl, hm, hb⟩
  have QHB : Hid (Below w.heap.size w w1) := HB.out.trans (hb.mono HB.out.size)
  clear HB
  have HB := QHB
  clear QHB
  have Xs0 : Hid (Lc.Made w1 w0.heap.size L.length L L.length) := hm
  have lts0 : w0.heap.size < w1.heap.size := Xs0.out.lt
  clear hm hb
  generalize w0.heap.size = ps0 at Xs0 lts0 ges0 ⊢
  go_wp2_with fail
  refine (HSP.out _ _ (Lc.made_rd Xs0.out) Xs0.out.lt).mono ?_
  rintro e w2 ⟨ao, ac, rfl, hown, hb⟩
  have QHB : Hid (Below w.heap.size w w2) := HB.out.trans (hb.mono HB.out.size)
  have QXs0 : Hid (Lc.Made w2 ps0 L.length L L.length) := Xs0.out.below hb
  clear HB Xs0
  have HB := QHB
  have Xs0 := QXs0
  clear QHB QXs0
  have HO : Hid (Memb.Own w.heap.size w2 ao ac l) := Nu.own_base hown (Nat.le_of_lt (Nat.lt_of_le_of_lt ges0 lts0))
  have HF : Hid (∀ g, ao = some ⟨g, 0, none⟩ → g < w2.heap.size) := fun g e => (Nu.own_far hown g e).2
  clear hown hb HSP
  clear Xs0
  clear lts0 ges0
  have gex0 : w.heap.size ≤ w2.heap.size := HB.out.size
  go_wp2_with fail
  refine (Lc.toKnotS a0 cap0 L _ hlen (HR0.out.below HB.out)).mono ?_
  rintro e w3 ⟨rfl, hm, hb⟩
  have QHB : Hid (Below w.heap.size w w3) := HB.out.trans (hb.mono HB.out.size)
  have QHO : Hid (Memb.Own w.heap.size w3 ao ac l) := Nu.own_below HO.out hb
  clear HB HO
  have HB := QHB
  have HO := QHO
  clear QHB QHO
  have Xx0 : Hid (Lc.Made w3 w2.heap.size L.length L L.length) := hm
  have ltx0 : w2.heap.size < w3.heap.size := Xx0.out.lt
  clear hm hb
  generalize w2.heap.size = px0 at Xx0 ltx0 gex0 HF ⊢
  go_wp2_with fail
  refine (HIM.out _ _ (Lc.made_rd Xx0.out) Xx0.out.lt).mono ?_
  rintro e w4 ⟨go, gc, rfl, hown, hb⟩
  have QHB : Hid (Below w.heap.size w w4) := HB.out.trans (hb.mono HB.out.size)
  have QHO : Hid (Memb.Own w.heap.size w4 ao ac l) := Nu.own_below HO.out hb
  have QXx0 : Hid (Lc.Made w4 px0 L.length L L.length) := Xx0.out.below hb
  clear HB HO Xx0
  have HB := QHB
  have HO := QHO
  have Xx0 := QXx0
  clear QHB QHO QXx0
  have HG : Hid (Memb.Own w3.heap.size w4 go gc l) := hown
  have HQ : Hid (w3.heap.size ≤ w4.heap.size) := hb.size
  clear hown hb
  generalize w3.heap.size = qb at HG HQ ltx0
  go_wp2_with fail
  refine (Nu.alikeB _ _ _ _ _ _ (by omega) (Nu.own_rd HG.out) (Nu.own_rd HO.out)).mono ?_
  rintro e w5 ⟨rfl, hb⟩
  have QHB : Hid (Below w.heap.size w w5) := HB.out.trans (hb.mono HB.out.size)
  have QHO : Hid (Memb.Own w.heap.size w5 ao ac l) := Nu.own_below HO.out hb
  have QXx0 : Hid (Lc.Made w5 px0 L.length L L.length) := Xx0.out.below hb
  have QHG : Hid (Memb.Own qb w5 go gc l) := Nu.own_below HG.out hb
  have QHQ : Hid (qb ≤ w5.heap.size) := Nat.le_trans HQ.out hb.size
  clear HB HO Xx0 HG HQ
  have HB := QHB
  have HO := QHO
  have Xx0 := QXx0
  have HG := QHG
  have HQ := QHQ
  clear QHB QHO QXx0 QHG QHQ
  clear hb
  have gey0 : w.heap.size ≤ w5.heap.size := HB.out.size
  go_wp2_with fail
  refine (Lc.toKnotS a0 cap0 L _ hlen (HR0.out.below HB.out)).mono ?_
  rintro e w6 ⟨rfl, hm, hb⟩
  have QHB : Hid (Below w.heap.size w w6) := HB.out.trans (hb.mono HB.out.size)
  have QHO : Hid (Memb.Own w.heap.size w6 ao ac l) := Nu.own_below HO.out hb
  have QXx0 : Hid (Lc.Made w6 px0 L.length L L.length) := Xx0.out.below hb
  have QHG : Hid (Memb.Own qb w6 go gc l) := Nu.own_below HG.out hb
  have QHQ : Hid (qb ≤ w6.heap.size) := Nat.le_trans HQ.out hb.size
  clear HB HO Xx0 HG HQ
  have HB := QHB
  have HO := QHO
  have Xx0 := QXx0
  have HG := QHG
  have HQ := QHQ
  clear QHB QHO QXx0 QHG QHQ
  have Xy0 : Hid (Lc.Made w6 w5.heap.size L.length L L.length) := hm
  have lty0 : w5.heap.size < w6.heap.size := Xy0.out.lt
  clear hm hb
  generalize w5.heap.size = py0 at Xy0 lty0 gey0 ⊢
  go_wp2_with fail
  refine (Lc.eqKnotS _ _ _ _ _ _ L _ hlen (Lc.made_rd Xx0.out) (Lc.made_rd Xy0.out)).mono ?_
  rintro e w7 ⟨rfl, hb⟩
  have QHB : Hid (Below w.heap.size w w7) := HB.out.trans (hb.mono HB.out.size)
  have QHO : Hid (Memb.Own w.heap.size w7 ao ac l) := Nu.own_below HO.out hb
  have QXx0 : Hid (Lc.Made w7 px0 L.length L L.length) := Xx0.out.below hb
  have QHG : Hid (Memb.Own qb w7 go gc l) := Nu.own_below HG.out hb
  have QHQ : Hid (qb ≤ w7.heap.size) := Nat.le_trans HQ.out hb.size
  have QXy0 : Hid (Lc.Made w7 py0 L.length L L.length) := Xy0.out.below hb
  clear HB HO Xx0 HG HQ Xy0
  have HB := QHB
  have HO := QHO
  have Xx0 := QXx0
  have HG := QHG
  have HQ := QHQ
  have Xy0 := QXy0
  clear QHB QHO QXx0 QHG QHQ QXy0
  clear hb lty0 gey0
  clear Xy0
  go_wp2_with fail
  refine (Lc.markKnotS px0 L.length L.length _ (by omega) (made_fill Xx0.out _)).mono ?_
  rintro e w8 ⟨rfl, _, hg⟩
  have QHB : Hid (Below w.heap.size w w8) := HB.out.grown hg HB.out.size (fun j hj => by simp at hj; omega)
  have QHO : Hid (Memb.Own w.heap.size w8 ao ac l) := Nu.own_grown HO.out hg (fun g e => by have := Nu.own_far HO.out g e; first | omega | (have := HF.out g e; omega))
  have QHG : Hid (Memb.Own qb w8 go gc l) := Nu.own_grown HG.out hg (fun g e => by have := Nu.own_far HG.out g e; first | omega | (have := HF.out g e; omega))
  have QHQ : Hid (qb ≤ w8.heap.size) := Nat.le_trans HQ.out hg.size
  clear HB HO HG HQ
  have HB := QHB
  have HO := QHO
  have HG := QHG
  have HQ := QHQ
  clear QHB QHO QHG QHQ
  clear hg Xx0
  have hnn : ¬ (1 + (L.length : Int) * 4) < 0 := by omega
  go_wp2_with fail
  refine (Nu.alikeB _ _ _ _ _ _ (by omega) (Nu.own_rd HG.out) (Nu.own_rd HO.out)).mono ?_
  rintro e w9 ⟨rfl, hb⟩
  have QHB : Hid (Below w.heap.size w w9) := HB.out.trans (hb.mono HB.out.size)
  have QHO : Hid (Memb.Own w.heap.size w9 ao ac l) := Nu.own_below HO.out hb
  have QHG : Hid (Memb.Own qb w9 go gc l) := Nu.own_below HG.out hb
  have QHQ : Hid (qb ≤ w9.heap.size) := Nat.le_trans HQ.out hb.size
  clear HB HO HG HQ
  have HB := QHB
  have HO := QHO
  have HG := QHG
  have HQ := QHQ
  clear QHB QHO QHG QHQ
  clear hb
  go_wp2_with fail
  refine (Lsx.mark 1 _ _ _ _ _ (by omega) (by omega) (by omega) HG.out).mono ?_
  rintro e w10 ⟨rfl, hown, hb⟩
  have QHB : Hid (Below w.heap.size w w10) := HB.out.trans (hb.mono (by omega))
  have QHO : Hid (Memb.Own w.heap.size w10 ao ac l) := Nu.own_low HO.out (fun g e => by have := HF.out g e; omega) hb
  have QHQ : Hid (qb ≤ w10.heap.size) := Nat.le_trans HQ.out hb.size
  clear HB HO HQ
  have HB := QHB
  have HO := QHO
  have HQ := QHQ
  clear QHB QHO QHQ
  clear HG
  have HG : Hid (Memb.Own qb w10 go gc (Lsx.marks 1 l.length)) := hown
  clear hown hb
  go_wp2_with fail
  refine (Lsx.held 1 _ _ _ _ (by omega) (by omega) (by omega) (Nu.own_rd HG.out)).mono ?_
  rintro e w' ⟨rfl, rfl⟩
  have hnn2 : ¬ 1 + (l.length : Int) < 0 := by omega
  have gez0 : w.heap.size ≤ w10.heap.size := HB.out.size
  go_wp2_with fail
  refine (Lc.toKnotS a0 cap0 L _ hlen (HR0.out.below HB.out)).mono ?_
  rintro e w11 ⟨rfl, hm, hb⟩
  have QHB : Hid (Below w.heap.size w w11) := HB.out.trans (hb.mono HB.out.size)
  have QHO : Hid (Memb.Own w.heap.size w11 ao ac l) := Nu.own_below HO.out hb
  have QHQ : Hid (qb ≤ w11.heap.size) := Nat.le_trans HQ.out hb.size
  have QHG : Hid (Memb.Own qb w11 go gc (Lsx.marks 1 l.length)) := Nu.own_below HG.out hb
  clear HB HO HQ HG
  have HB := QHB
  have HO := QHO
  have HQ := QHQ
  have HG := QHG
  clear QHB QHO QHQ QHG
  have Xz0 : Hid (Lc.Made w11 w10.heap.size L.length L L.length) := hm
  have ltz0 : w10.heap.size < w11.heap.size := Xz0.out.lt
  clear hm hb
  generalize w10.heap.size = pz0 at Xz0 ltz0 gez0 ⊢
  go_wp2_with fail
  refine (HIM.out _ _ (Lc.made_rd Xz0.out) Xz0.out.lt).mono ?_
  rintro e w12 ⟨ho, hc, rfl, hown, hb⟩
  have QHB : Hid (Below w.heap.size w w12) := HB.out.trans (hb.mono HB.out.size)
  have QHO : Hid (Memb.Own w.heap.size w12 ao ac l) := Nu.own_below HO.out hb
  have QHQ : Hid (qb ≤ w12.heap.size) := Nat.le_trans HQ.out hb.size
  have QHG : Hid (Memb.Own qb w12 go gc (Lsx.marks 1 l.length)) := Nu.own_below HG.out hb
  have QXz0 : Hid (Lc.Made w12 pz0 L.length L L.length) := Xz0.out.below hb
  clear HB HO HQ HG Xz0
  have HB := QHB
  have HO := QHO
  have HQ := QHQ
  have HG := QHG
  have Xz0 := QXz0
  clear QHB QHO QHQ QHG QXz0
  have HH : Hid (Lst.Rd w12 ho l) := Nu.own_rd hown
  clear hown hb
  clear Xz0
  clear ltz0 gez0
  go_wp2_with fail
  refine (Nu.alikeB _ _ _ _ _ _ (by omega) HH.out (Nu.own_rd HO.out)).mono ?_
  rintro e w13 ⟨rfl, hb⟩
  have QHB : Hid (Below w.heap.size w w13) := HB.out.trans (hb.mono HB.out.size)
  have QHO : Hid (Memb.Own w.heap.size w13 ao ac l) := Nu.own_below HO.out hb
  have QHQ : Hid (qb ≤ w13.heap.size) := Nat.le_trans HQ.out hb.size
  have QHG : Hid (Memb.Own qb w13 go gc (Lsx.marks 1 l.length)) := Nu.own_below HG.out hb
  clear HB HO HQ HG
  have HB := QHB
  have HO := QHO
  have HQ := QHQ
  have HG := QHG
  clear QHB QHO QHQ QHG
  clear hb HH
  go_wp2_with fail
  refine (Lsx.held 1 _ _ _ _ (by omega) (by omega) (by omega) (Nu.own_rd HG.out)).mono ?_
  rintro e w' ⟨rfl, rfl⟩
  go_wp2
  go_ret
  exact ⟨rfl, HB.out⟩

theorem lifted (os : Os) (started : os.Started) (H : Type) (enc : TypeId × Value → H) :
    ReturnsInHanded {} Try.checked os 4 .any (Rows.fnExactFreshOfSpec.pre6 enc Try.prog Try.f4 Rows.fnExactFreshOfRow.domain false) (Rows.fnExactFreshOfSpec.post enc Try.prog Try.f4 false true false false) := by
  refine returnsInHanded_of_change (C := Try.checked) own started (by kernel_rfl) Try.func4
    (ChangeSpec.witness6 (enc := enc) (C := Try.checked) false ⟨#[], #[.slice none 0 0, .int .i64 0, .int .i64 0], []⟩ 8 (by kernel_rfl) (by kernel_rfl) (by kernel_rfl) (by kernel_rfl)) ?_
  intro W base args ds gs before hval0 hW hcnd _
  have hval : ∀ (j : Nat) t v, Try.f4.params[j]? = some t → args[j]? = some v → Value.okWide Try.prog W .any base t v := hval0
  have hW' := hW
  obtain ⟨p, q, hA0, hV, rfl, hfz, hnd⟩ := hW
  have hA : DataW.TrodAll enc Try.prog W 0 (fun _ => true) true Try.f4.params.toList args.toList ds p := hA0
  rw [Try.params4] at hA hval
  obtain ⟨v0, vs0, d0, ds0, p0, q0, hargs, rfl, rfl, h0, r0⟩ := trodAll_cons hA
  obtain ⟨v1, vs1, d1, ds1, p1, q1, rfl, rfl, rfl, h1, r1⟩ := trodAll_cons r0
  obtain ⟨v2, vs2, d2, ds2, p2, q2, rfl, rfl, rfl, h2, r2⟩ := trodAll_cons r1
  obtain ⟨rfl, rfl, rfl⟩ := trodAll_nil r2
  obtain rfl : args = #[v0, v1, v2] := by cases args; simp_all
  obtain ⟨rfl, rfl⟩ := trodVars_none hV
  obtain ⟨a0, len0, cap0, rfl⟩ := okWide_slice Try.underlying22 (hval 0 22 v0 rfl rfl)
  have k0 := h0
  have lt0 : ∀ x ∈ p0, x.block < W.heap.size := by obtain ⟨m, hm⟩ := k0; exact DataW.trod_lt m _ _ _ hm
  obtain ⟨fuel0, hf0⟩ := h0
  obtain ⟨L, rfl, hrd0, hws, hl⟩ := Lc.openK (a0 := a0) (len0 := len0) (cap0 := cap0) hf0
  obtain ⟨x1, rfl, rfl, rfl, w1⟩ := open_int Try.underlying2 (hval 1 2 v1 rfl rfl) h1
  obtain ⟨x2, rfl, rfl, rfl, w2⟩ := open_int Try.underlying2 (hval 2 2 v2 rfl rfl) h2
  clear hA0 hval0
  simp only [List.append_nil] at hW'
  refine (walk (fun L k e hlL hwL h0k h1k h0e h1e W g0 hr0 hg0 => So.implFreshOf _ _ _ L k e W (by omega) hwL hr0) a0 cap0 L x1 x2 W hl hws hrd0 (int_bd w1) (int_bd w2)).mono fun e W' ⟨he, bel⟩ => ?_
  subst he
  exact ⟨_, rfl, _, _, _, [], _, [], hW', trodAll_mk1 (shut_bool Try.underlying4 _), (trodAll_cons_mk (Below.trod laidOut (by kernel_rfl) (of_decide_eq_true (by kernel_rfl)) k0 bel lt0) (trodAll_cons_mk (shut_int Try.underlying2 w1) (trodAll_cons_mk (shut_int Try.underlying2 w2) trodAll_mk0))), rfl, bel.frame _, fun h => by cases h⟩

theorem over : Rows.fnExactFreshOfRow.holds Try.pinned (OpenSpec.ofChange Rows.fnExactFreshOfSpec) :=
  OpenClaim.holds_of_wide 4 Try.f4 rfl rfl rfl rfl rfl rfl rfl ⟨rfl, rfl, rfl, rfl, rfl⟩ rfl rfl rfl rfl rfl (by kernel_rfl) Try.func4 (by kernel_rfl)
    (of_decide_eq_true (by kernel_rfl)) (by unfold Func.isWrapper; first | (rw [if_pos (by decide +kernel)]; kernel_rfl) | (rw [if_neg (by decide +kernel)]; exact ⟨rfl, rfl⟩))
    (fun os started H enc _ => lifted os started H enc)

theorem proved : Rows.FnExactFreshOfSaid :=
  over
end Go.Proofs.Ytfjmeepeogmfiaa.fnExactFreshOf
