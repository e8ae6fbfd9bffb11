/-
  FnExactLearns answers true at every argument, for Learns answers as its model does; no condition.
-/
import Derived.Test.YtapfmadnkaimeaaDoorRows
import Derived.WalkKit
import Derived.ProofKit
import Derived.OpenShut
import Derived.ChangeOld
import Derived.Below
import Derived.Lib.SmallJoins
import Derived.Test.YtapfmadnkaimeaaDoorLaceG
import Derived.Test.YtapfmadnkaimeaaDoorLawH
import Derived.Test.YtapfmadnkaimeaaDoorHandT
import Derived.Test.YtapfmadnkaimeaaDoorHaG
import Derived.Test.YtapfmadnkaimeaaDoorLaidT
import Derived.Deep.RegionHeld3
import Derived.LaidMore
import Derived.Stop.Joined
import Derived.SevenTiedAt
import Derived.Test.YtapfmadnkaimeaaDoorCards
import Derived.Test.YtapfmadnkaimeaaDoorTie
namespace Go.Proofs.YtapfmadnkaimeaaDoor.fnExactLearns
open Go.ChangeShapes Go.WideShapes Go.ChangeAt Go.RowKit Go.Joins
open Kn (K)
open Lc (RdK)
open Rm (Hd H64 HAt)
set_option linter.unusedVariables false
set_option maxRecDepth 100000

theorem own : ownKnob Tryd.prog.godebug = none := by kernel_rfl
theorem laidOut : laidOutB Tryd.prog = true := by kernel_rfl
theorem words {L : List K} (h : Lc.Small L) : Lc.WordsOk L := fun k hk => by have := h.2 k hk; omega
theorem trI {H : Type} {enc : TypeId × Value → H} {w : World} {base : Nat} {spare : Nat → Bool} {held : Bool} (a : Int) (wa : (Lit.int .i64 a).wf = true) : ∃ n, DataW.trod enc Tryd.prog w base spare held n 2 [.int .i64 a] = some (.lit (.int .i64 a), []) :=
  ⟨1, by simp [DataW.trod, Tryd.underlying2, wa]⟩
theorem trS {H : Type} {enc : TypeId × Value → H} {w : World} {base : Nat} {spare : Nat → Bool} {held : Bool} (a : ByteArray) (wa : a.size ≤ maxLen) : ∃ n, DataW.trod enc Tryd.prog w base spare held n 9 [.string a] = some (.lit (.string a.data.toList), []) :=
  ⟨1, by simp [DataW.trod, Tryd.underlying9, wa]⟩
theorem int_bd {a : Int} (w : (Lit.int .i64 a).wf = true) : -9223372036854775808 ≤ a ∧ a ≤ 9223372036854775807 := by
  simpa [Lit.wf, IntKind.min, IntKind.max, IntKind.signed, IntKind.bits] using w

theorem cellsHd : Tryd.prog.cellsOf 24 = 4 := by kernel_rfl
/-- what is asked of the program -/
def ImplT : Prop := ∀ (L : List K) (h : Hd) (k : Int) , L.length ≤ 1048576 → Lc.WordsOk L → H64 h → -9223372036854775808 ≤ k → k ≤ 9223372036854775807 → 
    ∀ (W : World) (g : Nat), Rm.Sens W → RdK W (some ⟨g, 0, none⟩) L → g < W.heap.size → Calls Tryd.prog 12 #[.slice (some ⟨g, 0, none⟩) L.length L.length, .agg #[.int .i64 h.who, .int .i64 h.has, .int .i64 h.kept, .int .i64 h.last], .int .i64 k] W fun e w' => e = .returned (.tuple #[.agg #[.int .i64 (Rm.learnedH L h k true).who, .int .i64 (Rm.learnedH L h k true).has, .int .i64 (Rm.learnedH L h k true).kept, .int .i64 (Rm.learnedH L h k true).last], .bool (Rm.learnedB L h k true)]) ∧ Below W.heap.size W w'
theorem specT : ∀ (L : List K) (h : Hd) (k : Int) , L.length ≤ 1048576 → Lc.WordsOk L → H64 h → -9223372036854775808 ≤ k → k ≤ 9223372036854775807 → 
    ∀ (W : World) (g : Nat), RdK W (some ⟨g, 0, none⟩) L → g < W.heap.size → Calls Tryd.prog 9 #[.slice (some ⟨g, 0, none⟩) L.length L.length, .agg #[.int .i64 h.who, .int .i64 h.has, .int .i64 h.kept, .int .i64 h.last], .int .i64 k] W fun e w' => e = .returned (.tuple #[.agg #[.int .i64 (Rm.learnedH L h k true).who, .int .i64 (Rm.learnedH L h k true).has, .int .i64 (Rm.learnedH L h k true).kept, .int .i64 (Rm.learnedH L h k true).last], .bool (Rm.learnedB L h k true)]) ∧ Below W.heap.size W w' :=
  fun L h k hlL hwL hk h0k h1k W g hr hg => Rm.specLearns _ _ _ L h k W (Nat.le_refl _) hwL hr hk

set_option maxHeartbeats 6400000 in
theorem walk (HI : ImplT) (a0 : Option Addr) (cap0 : Nat) (L : List K) (h : Hd) (k : Int) (w : World) (hl : L.length ≤ maxLen) (hws : ∀ k ∈ L, k.word.size ≤ maxLen) (hr0 : RdK w a0 L) (hn : Rm.Sens w) (hk : H64 h) (hnk : -9223372036854775808 ≤ k ∧ k ≤ 9223372036854775807) :
    Calls Tryd.prog 3 #[.slice a0 L.length cap0, .agg #[.int .i64 h.who, .int .i64 h.has, .int .i64 h.kept, .int .i64 h.last], .int .i64 k] w fun e w' => e = .returned (.bool true) ∧ Below w.heap.size w w' := by
  have HII : Hid ImplT := HI
  have P0 : Hid (Below w.heap.size w (w.alloc (.cells #[.int .i64 h.who, .int .i64 h.has, .int .i64 h.kept, .int .i64 h.last] 24)) ∧ HAt (w.alloc (.cells #[.int .i64 h.who, .int .i64 h.has, .int .i64 h.kept, .int .i64 h.last] 24)) w.heap.size 0 h) := ⟨(Below.refl _ _).alloc (Nat.le_refl _) _, Rm.hat_new w h _⟩
  have HR : Hid (RdK w a0 L) := hr0
  have HNN : Hid (Rm.Sens w) := hn
  clear HI hr0 hn
  go_enter Tryd.func3, Tryd.ntmps3
  go_upto_region 2 with fail
  generalize w.alloc (.cells #[.int .i64 h.who, .int .i64 h.has, .int .i64 h.kept, .int .i64 h.last] 24) = V0 at P0 ⊢
  have hlt0 : w.heap.size < V0.heap.size := P0.out.2.lt
  go_wp2_with fail
  refine (Lc.szKnotS a0 cap0 L 1048576 _ hl hws (by omega) (by omega) (HR.out.below P0.out.1)).mono ?_
  rintro e V ⟨r, rfl, hr0', hr1', hsm, hb0⟩
  have HSM : Hid (0 ≤ r → Lc.Small L) := hsm
  have HB : Hid (Below w.heap.size w V) := P0.out.1.trans (hb0.mono P0.out.1.size)
  have HH : Hid (HAt V w.heap.size 0 h) := Rm.hat_below P0.out.2 hb0
  clear hsm hb0 P0
  by_cases hneg : r < 0
  · go_wp2
    go_ret
    exact ⟨rfl, HB.out⟩
  have hS := HSM.out (by omega)
  have HW : Hid (Lc.WordsOk L) := words hS
  have hlen := hS.1
  clear HSM hl hws hS
  have hlv : w.heap.size < V.heap.size := HH.out.lt
  have HHB : Hid (∀ X : World, Below V.heap.size V X → HAt X w.heap.size 0 h) := fun X hX => Rm.hat_below HH.out hX
  generalize hhb : w.heap.size = hb at HH HHB hlv hlt0
  have HHE : Hid (w.heap.size = hb) := hhb
  have HRV : Hid (∀ X : World, Below V.heap.size V X → RdK X a0 L) := fun X hX => (HR.out.below HB.out).below hX
  have HTK : Hid (∀ X : World, Below V.heap.size V X → Calls Tryd.prog 10 #[.slice a0 L.length cap0] X fun e w' => ∃ q, e = .returned (.slice (some ⟨q, 0, none⟩) L.length L.length) ∧ q < w'.heap.size ∧ RdK w' (some ⟨q, 0, none⟩) L ∧ Below V.heap.size V w' ∧ Below X.heap.size X w') := fun X hX => by
    refine (Lc.toKnotS a0 cap0 L X hlen (HRV.out X hX)).mono ?_
    rintro e w' ⟨rfl, hm, hb⟩
    exact ⟨_, rfl, hm.lt, Lc.made_rd hm, hX.trans (hb.mono hX.size), hb⟩
  have HTH : Hid (∀ X : World, Below V.heap.size V X → Calls Tryd.prog 11 #[.agg #[.int .i64 h.who, .int .i64 h.has, .int .i64 h.kept, .int .i64 h.last]] X fun e w' => e = .returned (.agg #[.int .i64 h.who, .int .i64 h.has, .int .i64 h.kept, .int .i64 h.last]) ∧ Below V.heap.size V w' ∧ Below X.heap.size X w') := fun X hX => (Rm.toHand h X).mono fun _ _ q => ⟨q.1, hX.trans (q.2.mono hX.size), q.2⟩
  have HSP : Hid (∀ (X : World) (q : Nat), Below V.heap.size V X → RdK X (some ⟨q, 0, none⟩) L → q < X.heap.size → Calls Tryd.prog 9 #[.slice (some ⟨q, 0, none⟩) L.length L.length, .agg #[.int .i64 h.who, .int .i64 h.has, .int .i64 h.kept, .int .i64 h.last], .int .i64 k] X fun e w' => e = .returned (.tuple #[.agg #[.int .i64 (Rm.learnedH L h k true).who, .int .i64 (Rm.learnedH L h k true).has, .int .i64 (Rm.learnedH L h k true).kept, .int .i64 (Rm.learnedH L h k true).last], .bool (Rm.learnedB L h k true)]) ∧ Below V.heap.size V w' ∧ Below X.heap.size X w') := fun X q hX hq hl => (specT L h k hlen HW.out hk hnk.1 hnk.2 X q hq hl).mono fun _ _ z => ⟨z.1, hX.trans (z.2.mono hX.size), z.2⟩
  have HIM : Hid (∀ (X : World) (q : Nat), Below V.heap.size V X → RdK X (some ⟨q, 0, none⟩) L → q < X.heap.size → Calls Tryd.prog 12 #[.slice (some ⟨q, 0, none⟩) L.length L.length, .agg #[.int .i64 h.who, .int .i64 h.has, .int .i64 h.kept, .int .i64 h.last], .int .i64 k] X fun e w' => e = .returned (.tuple #[.agg #[.int .i64 (Rm.learnedH L h k true).who, .int .i64 (Rm.learnedH L h k true).has, .int .i64 (Rm.learnedH L h k true).kept, .int .i64 (Rm.learnedH L h k true).last], .bool (Rm.learnedB L h k true)]) ∧ Below X.heap.size X w') := fun X q hX => HII.out L h k hlen HW.out hk hnk.1 hnk.2 X q ((HNN.out.below HB.out).below hX)
  have HSB : Hid (∀ W : World, Below V.heap.size V W → W.cell? ⟨hb, 0, none⟩ = some (.int .i64 h.who) ∧ W.cell? ⟨hb, 1, none⟩ = some (.int .i64 h.has) ∧ W.cell? ⟨hb, 2, none⟩ = some (.int .i64 h.kept) ∧ W.cell? ⟨hb, 3, none⟩ = some (.int .i64 h.last)) := fun W hW => Rm.cellsH (HHB.out W hW)
  clear HII HR hhb HNN
  generalize Rm.learnedH L h k true = hx at HSP HIM
  generalize Rm.learnedB L h k true = bx at HSP HIM
  go_upto_region 5 with fail
  go_cut [8, 9] (fun pv bv wx => ∃ rb : Nat, pv = .pointer (some ⟨rb, 0, none⟩) ∧ bv = .bool bx ∧ Hid (HAt wx rb 0 hx) ∧ Hid (Below V.heap.size V wx))
  case first =>
    go_region_held3 (fun W => W.cell? ⟨hb, 0, none⟩ = some (.int .i64 h.who) ∧ W.cell? ⟨hb, 1, none⟩ = some (.int .i64 h.has) ∧ W.cell? ⟨hb, 2, none⟩ = some (.int .i64 h.kept) ∧ W.cell? ⟨hb, 3, none⟩ = some (.int .i64 h.last)) (first
      | exact HSB.out _ (B3.alloc B3.size _) | exact HSB.out _ B3 | exact HSB.out _ (Rm.below_put4 B3 (by first | exact BK.size | exact BH.size | exact Nat.le_refl _) _ _ _ _)
      | exact HSB.out _ (by first | exact BH | exact BK | exact BH.alloc BH.size _ | exact BK.alloc BK.size _ | exact (Below.refl _ _).drew | exact Below.refl _ _ | exact (Below.refl _ _).drew.alloc (Nat.le_refl _) _ | exact ((Below.refl _ _).alloc (Nat.le_refl _) _).drew | exact (Below.refl _ _).alloc (Nat.le_refl _) _) | go_keep) (first
      | (go_at_call 9
         refine (HSP.out _ _ (by first | exact BH | exact BK | exact BH.alloc BH.size _ | exact BK.alloc BK.size _ | exact (Below.refl _ _).drew | exact Below.refl _ _ | exact (Below.refl _ _).drew.alloc (Nat.le_refl _) _ | exact ((Below.refl _ _).alloc (Nat.le_refl _) _).drew | exact (Below.refl _ _).alloc (Nat.le_refl _) _) (by first | exact RK | exact RK.below bh | exact RK.below (Rm.unlaid bh) | exact RK.below ((Below.refl _ _).alloc (Nat.le_refl _) _) | exact (RK.below bh).below ((Below.refl _ _).alloc (Nat.le_refl _) _)) (by first | exact hq | exact Nat.lt_of_lt_of_le hq bh.size | exact Nat.lt_of_lt_of_le hq (Rm.unlaid bh).size | exact Nat.lt_of_lt_of_le hq ((Below.refl _ _).alloc (Nat.le_refl _) _).size | exact Nat.lt_of_lt_of_le (Nat.lt_of_lt_of_le hq bh.size) ((Below.refl _ _).alloc (Nat.le_refl _) _).size)).mono ?_
         rintro e V3 ⟨rfl, B3, b3⟩
         (first | have ZS := Rm.keepH b3 | have ZS := Rm.keepH' b3 | have ZS := Rm.hat_below ZH b3 | have ZS := Rm.hat_below ZK b3 | skip)
         (first | (have z0 := (Rm.cellsZ ZS).1; have z1 := (Rm.cellsZ ZS).2.1; have z2 := (Rm.cellsZ ZS).2.2.1; have z3 := (Rm.cellsZ ZS).2.2.2; have y0 := (Rm.frozH ZS).1; have y1 := (Rm.frozH ZS).2.1; have y2 := (Rm.frozH ZS).2.2.1; have y3 := (Rm.frozH ZS).2.2.2) | skip))
      | (go_at_call 10
         refine (HTK.out _ (by first | exact BH | exact BH.alloc BH.size _ | exact (Below.refl _ _).drew | exact Below.refl _ _ | exact (Below.refl _ _).drew.alloc (Nat.le_refl _) _ | exact ((Below.refl _ _).alloc (Nat.le_refl _) _).drew | exact (Below.refl _ _).alloc (Nat.le_refl _) _)).mono ?_
         rintro e VK ⟨q, rfl, hq, RK, BK, bk⟩
         (first | have ZK := Rm.keepH bk | have ZK := Rm.keepH' bk | have ZK := Rm.hat_below ZH bk | skip))
      | (go_at_call 11
         refine (HTH.out _ (by first | exact BK | exact BK.alloc BK.size _ | exact (Below.refl _ _).drew | exact Below.refl _ _ | exact (Below.refl _ _).drew.alloc (Nat.le_refl _) _ | exact ((Below.refl _ _).alloc (Nat.le_refl _) _).drew | exact (Below.refl _ _).alloc (Nat.le_refl _) _)).mono ?_
         rintro e VH ⟨rfl, BH, bh⟩
         (first | have ZH := Rm.keepH bh | have ZH := Rm.keepH' bh | have ZH := Rm.hat_below ZK bh | skip)))
    all_goals go_wp2_with fail
    all_goals go_meet
    all_goals (first | exact ⟨_, rfl, rfl, Rm.hat_new V3 hx _, B3.alloc B3.size _⟩ | exact ⟨_, rfl, rfl, Rm.hat_put4 ZS hx, Rm.below_put4 B3 (by first | exact BK.size | exact BH.size | exact Nat.le_refl _) _ _ _ _⟩)
  case rest =>
    obtain ⟨rb, rfl, rfl, HX6, HB6⟩ := hcut
    go_wp2_with fail
    refine (HTK.out _ HB6.out).mono ?_
    rintro e w7 ⟨q7, rfl, hq7, RK7, B7, b7⟩
    have HR7 : Hid (RdK w7 (some ⟨q7, 0, none⟩) L) := RK7
    have HB7 : Hid (Below V.heap.size V w7) := B7
    have HX7 : Hid (HAt w7 rb 0 hx) := Rm.hat_below HX6.out b7
    clear HX6
    obtain ⟨a0', a1', a2', a3'⟩ := Rm.cellsH (HHB.out _ HB7.out)
    clear B7 RK7 HB6
    go_wp2_with fail
    refine (HTH.out _ HB7.out).mono ?_
    rintro e w8 ⟨rfl, B8, b8⟩
    have HR8 : Hid (RdK w8 (some ⟨q7, 0, none⟩) L) := HR7.out.below b8
    have hq8 : q7 < w8.heap.size := Nat.lt_of_lt_of_le hq7 b8.size
    have HB8 : Hid (Below V.heap.size V w8) := B8
    have HX8 : Hid (HAt w8 rb 0 hx) := Rm.hat_below HX7.out b8
    clear HX7
    clear a0' a1' a2' a3' HR7 HB7 B8
    go_wp2_with fail
    refine (HIM.out _ _ HB8.out HR8.out hq8).mono ?_
    rintro e w9 ⟨rfl, b9⟩
    have HR9 : Hid (RdK w9 (some ⟨q7, 0, none⟩) L) := HR8.out.below b9
    have HB9 : Hid (Below V.heap.size V w9) := HB8.out.trans (b9.mono HB8.out.size)
    have HX9 : Hid (HAt w9 rb 0 hx) := Rm.hat_below HX8.out b9
    clear HX8
    clear HR8 HB8 b9 HIM
    have HN : Hid (HAt (w9.alloc (.cells #[.int .i64 hx.who, .int .i64 hx.has, .int .i64 hx.kept, .int .i64 hx.last] 26)) w9.heap.size 0 hx) := Rm.hat_new w9 hx _
    have HX10 : Hid (HAt (w9.alloc (.cells #[.int .i64 hx.who, .int .i64 hx.has, .int .i64 hx.kept, .int .i64 hx.last] 26)) rb 0 hx) := Rm.hat_below HX9.out ((Below.refl _ _).alloc (Nat.le_refl _) _)
    have HRA : Hid (RdK (w9.alloc (.cells #[.int .i64 hx.who, .int .i64 hx.has, .int .i64 hx.kept, .int .i64 hx.last] 26)) (some ⟨q7, 0, none⟩) L) := HR9.out.below ((Below.refl _ _).alloc (Nat.le_refl _) _)
    have HBA : Hid (Below V.heap.size V (w9.alloc (.cells #[.int .i64 hx.who, .int .i64 hx.has, .int .i64 hx.kept, .int .i64 hx.last] 26))) := HB9.out.alloc HB9.out.size _
    clear HR9 HB9 HX9
    go_upto_region 8 with fail
    generalize w9.alloc (.cells #[.int .i64 hx.who, .int .i64 hx.has, .int .i64 hx.kept, .int .i64 hx.last] 26) = WA at HN HX10 HRA HBA ⊢
    generalize w9.heap.size = nb at HN ⊢
    obtain ⟨n0, n1, n2, n3⟩ := Rm.cellsH HN.out
    obtain ⟨m0, m1, m2, m3⟩ := Rm.cellsH HX10.out
    go_wp2_with fail
    refine (Rm.eqHand hx _).mono ?_
    rintro e wE ⟨rfl, bE⟩
    have HR9 : Hid (RdK wE (some ⟨q7, 0, none⟩) L) := HRA.out.below bE
    have HB9 : Hid (Below V.heap.size V wE) := HBA.out.trans (bE.mono HBA.out.size)
    clear n0 n1 n2 n3 m0 m1 m2 m3 HN HX10 HRA HBA bE
    cases bx
    all_goals
      go_wp2_with fail
      refine (HTK.out _ HB9.out).mono ?_
      rintro e w10 ⟨qx, rfl, hqx, RKx, B10, b10⟩
      have HR10 : Hid (RdK w10 (some ⟨q7, 0, none⟩) L) := HR9.out.below b10
      have HB10 : Hid (Below V.heap.size V w10) := B10
      have heq := Lc.eqKnotS _ _ L.length _ _ L.length L w10 hlen HR10.out RKx
      clear RKx HR9 HB9 B10 b10
      go_wp2_with fail
      refine heq.mono ?_
      rintro e w11 ⟨rfl, b11⟩
      have HB11 : Hid (Below V.heap.size V w11) := HB10.out.trans (b11.mono HB10.out.size)
      clear heq b11 HB10 HR10
      go_wp2
      go_ret
      exact ⟨rfl, HB.out.trans (HB11.out.mono HB.out.size)⟩

/-- the heap that the program's own initialisers leave meets the condition -/
theorem door_met (os : Os) (args : Array Value) : laidMetH Tryd.prog Rows.fnExactLearnsRow.laid ((World.doorLaid Tryd.prog 400 os).forCall (fun _ _ => 0) ⟨#[], args, []⟩).memory :=
  laidMetH_of_parts3 (fuel := 8) (laidMet_of_run' 8 (by kernel_rfl) (by kernel_rfl)) (by kernel_rfl) (by kernel_rfl)

theorem lifted (os : Os) (started : os.Started) (H : Type) (enc : TypeId × Value → H) :
    ReturnsInHanded {} Tryd.checked os 3 .any (fun w args => (Rows.fnExactLearnsSpec.pre enc Tryd.prog Tryd.f3 [] false w args ∧ laidMetH Tryd.prog Rows.fnExactLearnsRow.laid w) ∧ sizedMet enc Tryd.prog Tryd.f3 (OpenSpec.ofChange Rows.fnExactLearnsSpec) false w args) (Rows.fnExactLearnsSpec.post enc Tryd.prog Tryd.f3 false true false false) := by
  refine Ld.wrap (C := Tryd.checked) (X := fun w => laidMetH Tryd.prog Rows.fnExactLearnsRow.laid w) (fun _ _ hh h => h.of_heap hh) own started (by kernel_rfl) Tryd.func3
    (ChangeSpec.witness_shaped (enc := enc) (C := Tryd.checked) (os := os) (X := fun w _ => laidMetH Tryd.prog Rows.fnExactLearnsRow.laid w) false (World.doorLaid Tryd.prog 400 os) #[.slice none 0 0, .agg #[.int .i64 0, .int .i64 0, .int .i64 0, .int .i64 0], .int .i64 0] 8 rfl (World.shaped_of_RefB (by kernel_rfl) (by kernel_rfl)) (by kernel_rfl) (by kernel_rfl) (by kernel_rfl) (door_met os _)) ?_
  intro W base args ds gs before hval0 hW hL hsh
  have hval : ∀ (j : Nat) t v, Tryd.f3.params[j]? = some t → args[j]? = some v → Value.okWide Tryd.prog W .any base t v := hval0
  have hW' := hW
  obtain ⟨p, q, hA0, hV0, rfl, hfz, hnd⟩ := hW
  have hA : DataW.TrodAll enc Tryd.prog W 0 (fun _ => true) true Tryd.f3.params.toList args.toList ds p := hA0
  have hV : DataW.TrodVars enc Tryd.prog W (fun _ => true) ["loop.example/g00418/impl.errNoHand", "loop.example/g00418/impl.errNoKnot", "loop.example/g00418/impl.errThere", "loop.example/g00418/impl.errLoose", "loop.example/g00418/impl.errOwn"] gs q := hV0
  rw [Tryd.params3] at hA hval
  obtain ⟨v0, vs0, d0, ds0, p0, q0, hargs, rfl, rfl, h0, r0⟩ := trodAll_cons hA
  obtain ⟨v1, vs1, d1, ds1, p1, q1, rfl, rfl, rfl, h1, r1⟩ := trodAll_cons r0
  obtain ⟨v2, vs2, d2, ds2, p2, q2, rfl, rfl, rfl, h2, r2⟩ := trodAll_cons r1
  obtain ⟨rfl, rfl, rfl⟩ := trodAll_nil r2
  obtain rfl : args = #[v0, v1, v2] := by cases args; simp_all
  have hLm : laidMet Tryd.prog Rows.fnExactLearnsRow.laid W := by rw [← MakeChecks.laidMetH_plain _ _ _ (by kernel_rfl)]; exact hL
  obtain ⟨aerrNoHand, aerrNoKnot, aerrThere, aerrOwn, aerrLoose, verrNoHand, verrNoKnot, verrThere, verrOwn, verrLoose, hsn⟩ := Ld.five hLm
  have hnn : Rm.Sens W := ⟨_, hsn⟩
  have vr : ∀ {X : World}, X.var? Tryd.prog "loop.example/g00418/impl.errNoHand" = some #[.iface 159 (.pointer (some aerrNoHand))] → X.var? Tryd.prog "loop.example/g00418/impl.errNoKnot" = some #[.iface 159 (.pointer (some aerrNoKnot))] → X.var? Tryd.prog "loop.example/g00418/impl.errThere" = some #[.iface 159 (.pointer (some aerrThere))] → X.var? Tryd.prog "loop.example/g00418/impl.errLoose" = some #[.iface 159 (.pointer (some aerrLoose))] → X.var? Tryd.prog "loop.example/g00418/impl.errOwn" = some #[.iface 159 (.pointer (some aerrOwn))] → ∀ sp : Nat → Bool, DataW.TrodVars enc Tryd.prog X sp ["loop.example/g00418/impl.errNoHand", "loop.example/g00418/impl.errNoKnot", "loop.example/g00418/impl.errThere", "loop.example/g00418/impl.errLoose", "loop.example/g00418/impl.errOwn"] [tok enc (.iface 159 (.pointer (some aerrNoHand))), tok enc (.iface 159 (.pointer (some aerrNoKnot))), tok enc (.iface 159 (.pointer (some aerrThere))), tok enc (.iface 159 (.pointer (some aerrLoose))), tok enc (.iface 159 (.pointer (some aerrOwn)))] [.cell 0 0, .cell 1 0, .cell 2 0, .cell 3 0, .cell 4 0] :=
    fun {X} xerrNoHand xerrNoKnot xerrThere xerrLoose xerrOwn sp => Ld.read5 enc Ld.gNoHand Ld.tNoHand Tryd.underlying89 xerrNoHand trivial Ld.gNoKnot Ld.tNoKnot Tryd.underlying89 xerrNoKnot trivial Ld.gThere Ld.tThere Tryd.underlying89 xerrThere trivial Ld.gLoose Ld.tLoose Tryd.underlying89 xerrLoose trivial Ld.gOwn Ld.tOwn Tryd.underlying89 xerrOwn trivial sp
  obtain ⟨rfl, rfl⟩ := hV.unique (vr verrNoHand verrNoKnot verrThere verrLoose verrOwn _)
  obtain ⟨a0, len0, cap0, rfl⟩ := okWide_slice Tryd.underlying22 (hval 0 22 v0 rfl rfl)
  have k0 := h0
  have lt0 : ∀ x ∈ p0, x.block < W.heap.size := by obtain ⟨m, hm⟩ := k0; exact DataW.trod_lt m _ _ _ hm
  obtain ⟨fuel, hf⟩ := h0
  obtain ⟨L, rfl, hrd, hws, hl⟩ := Lc.openK (a0 := a0) (len0 := len0) (cap0 := cap0) hf
  obtain ⟨x0, x1, x2, x3, y0, y1, y2, y3, m, rfl, rfl, rfl, hy0, hy1, hy2, hy3⟩ := open_agg4 Tryd.underlying24 (by kernel_rfl) cellsHd (hval 1 24 v1 rfl rfl) h1
  obtain ⟨b0, e0, rfl, w0⟩ := DataW.trod_int Tryd.underlying2 hy0
  obtain ⟨b1, e1, rfl, w1⟩ := DataW.trod_int Tryd.underlying2 hy1
  obtain ⟨b2, e2, rfl, w2⟩ := DataW.trod_int Tryd.underlying2 hy2
  obtain ⟨b3, e3, rfl, w3⟩ := DataW.trod_int Tryd.underlying2 hy3
  simp only [List.cons.injEq, and_true] at e0 e1 e2 e3
  subst e0 e1 e2 e3
  obtain ⟨z2, rfl, rfl, rfl, u2⟩ := open_int Tryd.underlying2 (hval 2 2 v2 rfl rfl) h2
  clear hA0 hV0 hval0
  refine (walk (fun L h k hlL hwL hk h0k h1k W g hn hr hg => by obtain ⟨a, hn⟩ := hn; exact Rm.implLearns g 0 L.length L h k a W (by omega) hwL hk hr hn) a0 cap0 L ⟨b0, b1, b2, b3⟩ z2 W hl hws hrd hnn ⟨(int_bd w1).1, (int_bd w1).2, (int_bd w2).1, (int_bd w2).2⟩ (int_bd u2)).mono fun e W' ⟨he, bel⟩ => ?_
  subst he
  exact ⟨_, rfl, _, _, _, [], _, [.cell 0 0, .cell 1 0, .cell 2 0, .cell 3 0, .cell 4 0], hW', trodAll_mk1 (shut_bool Tryd.underlying4 _), (trodAll_cons_mk (Below.trod laidOut (by kernel_rfl) (of_decide_eq_true (by kernel_rfl)) k0 bel lt0) (trodAll_cons_mk (shut_agg4 (y0 := (.lit (.int .i64 b0), [])) (y1 := (.lit (.int .i64 b1), [])) (y2 := (.lit (.int .i64 b2), [])) (y3 := (.lit (.int .i64 b3), [])) Tryd.underlying24 (by kernel_rfl) cellsHd (trI b0 w0) (trI b1 w1) (trI b2 w2) (trI b3 w3)) (trodAll_cons_mk (shut_int Tryd.underlying2 u2) trodAll_mk0))), vr (Ld.var_below Ld.gNoHand bel verrNoHand) (Ld.var_below Ld.gNoKnot bel verrNoKnot) (Ld.var_below Ld.gThere bel verrThere) (Ld.var_below Ld.gLoose bel verrLoose) (Ld.var_below Ld.gOwn bel verrOwn) _, bel.frame _, fun h => by cases h⟩

theorem over : Rows.fnExactLearnsRow.holds Tryd.pinned (OpenSpec.ofChange Rows.fnExactLearnsSpec) :=
  OpenClaim.holds_of_wide 3 Tryd.f3 rfl rfl rfl rfl rfl rfl rfl ⟨rfl, rfl, rfl, rfl, rfl⟩ rfl rfl rfl rfl rfl (by kernel_rfl) Tryd.func3 (by kernel_rfl)
    (of_decide_eq_true (by kernel_rfl)) (by unfold Func.isWrapper; first | (rw [if_pos (by decide +kernel)]; kernel_rfl) | (rw [if_neg (by decide +kernel)]; exact ⟨rfl, rfl⟩))
    (fun os started H enc _ => lifted os started H enc)

theorem proved : Rows.FnExactLearnsCardSaid :=
  Claim7.holds_tied_plain_at .later [] [.sentinel, .sentinel, .sentinel, .sentinel, .sentinel] true (true, "3f8aaaba9913d456cf579b4034245f348fb41a15b24314907f33c7a488228292") true
    over (fun _ h => by cases h) (by kernel_rfl) (fun _ h => by cases h) fnExactLearns_row_tie rfl ⟨rfl, rfl⟩ (by kernel_rfl) rfl
    (fun f fn hf hfn => by
      obtain rfl : f = 3 := Option.some.inj ((show Tryd.prog.funcNamed "loop.example/g00418/laws.FnExactLearns" = some 3 by kernel_rfl).symm.trans hf) |>.symm
      obtain rfl : fn = Tryd.f3 := (Option.some.inj (Tryd.func3.symm.trans hfn)).symm
      exact ⟨by kernel_rfl, fun j t ht => by
        rw [Tryd.params3] at ht
        have hm : t ∈ [22, 24, 2] := by simpa using Array.mem_of_getElem? ht
        have hall : ([22, 24, 2].all fun u => !Tryd.prog.wantsStandIn u) = true := by kernel_rfl
        exact (show Tryd.prog.wantsStandIn t = false by simpa using List.all_eq_true.1 hall t hm)⟩)
    (by kernel_rfl)
end Go.Proofs.YtapfmadnkaimeaaDoor.fnExactLearns
