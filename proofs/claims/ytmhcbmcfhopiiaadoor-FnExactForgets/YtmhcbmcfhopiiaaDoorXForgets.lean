/-
  FnExactForgets answers true at every argument, for Forgets answers as its model does; no condition.
-/
import Derived.Test.YtmhcbmcfhopiiaaDoorRows
import Derived.WalkKit
import Derived.ProofKit
import Derived.OpenShut
import Derived.ChangeOld
import Derived.Below
import Derived.Lib.SmallJoins
import Derived.Test.YtmhcbmcfhopiiaaDoorLaceG
import Derived.Test.YtmhcbmcfhopiiaaDoorLawH
import Derived.Test.YtmhcbmcfhopiiaaDoorHandU
import Derived.Test.YtmhcbmcfhopiiaaDoorHaD
import Derived.Test.YtmhcbmcfhopiiaaDoorLaidS
import Derived.Deep.RegionHeld3
import Derived.LaidMore
import Derived.Stop.Joined
import Derived.SevenTiedAt
import Derived.Test.YtmhcbmcfhopiiaaDoorCards
import Derived.Test.YtmhcbmcfhopiiaaDoorTie
namespace Go.Proofs.YtmhcbmcfhopiiaaDoor.fnExactForgets
open Go.ChangeShapes Go.WideShapes Go.ChangeAt Go.RowKit Go.Joins
open Kn (K)
open Lc (RdK)
open Rm (Hd H64 HAt)
set_option linter.unusedVariables false
set_option maxRecDepth 100000

theorem own : ownKnob Tryd.prog.godebug = none := by kernel_rfl
theorem laidOut : laidOutB Tryd.prog = true := by kernel_rfl
theorem words {L : List K} (h : Lc.Small L) : Lc.WordsOk L := fun k hk => by have := h.2 k hk; omega
theorem trI {H : Type} {enc : TypeId × Value → H} {w : World} {base : Nat} {spare : Nat → Bool} {held : Bool} (a : Int) (wa : (Lit.int .i64 a).wf = true) : ∃ n, DataW.trod enc Tryd.prog w base spare held n 2 [.int .i64 a] = some (.lit (.int .i64 a), []) :=
  ⟨1, by simp [DataW.trod, Tryd.underlying2, wa]⟩
theorem trS {H : Type} {enc : TypeId × Value → H} {w : World} {base : Nat} {spare : Nat → Bool} {held : Bool} (a : ByteArray) (wa : a.size ≤ maxLen) : ∃ n, DataW.trod enc Tryd.prog w base spare held n 9 [.string a] = some (.lit (.string a.data.toList), []) :=
  ⟨1, by simp [DataW.trod, Tryd.underlying9, wa]⟩
theorem int_bd {a : Int} (w : (Lit.int .i64 a).wf = true) : -9223372036854775808 ≤ a ∧ a ≤ 9223372036854775807 := by
  simpa [Lit.wf, IntKind.min, IntKind.max, IntKind.signed, IntKind.bits] using w

theorem cellsHd : Tryd.prog.cellsOf 24 = 4 := by kernel_rfl
/-- what is asked of the program -/
def ImplT : Prop := ∀ (L : List K) (h : Hd) , L.length ≤ 1048576 → Lc.WordsOk L → H64 h → 
    ∀ (W : World) (g : Nat), Rm.NoHs W → RdK W (some ⟨g, 0, none⟩) L → g < W.heap.size → Calls Tryd.prog 22 #[.slice (some ⟨g, 0, none⟩) L.length L.length, .agg #[.int .i64 h.who, .int .i64 h.has, .int .i64 h.kept, .int .i64 h.last]] W fun e w' => e = .returned (.agg #[.int .i64 (Rm.forgotH L h).who, .int .i64 (Rm.forgotH L h).has, .int .i64 (Rm.forgotH L h).kept, .int .i64 (Rm.forgotH L h).last]) ∧ Below W.heap.size W w'
theorem specT : ∀ (L : List K) (h : Hd) , L.length ≤ 1048576 → Lc.WordsOk L → H64 h → 
    ∀ (W : World) (g : Nat), RdK W (some ⟨g, 0, none⟩) L → g < W.heap.size → Calls Tryd.prog 21 #[.slice (some ⟨g, 0, none⟩) L.length L.length, .agg #[.int .i64 h.who, .int .i64 h.has, .int .i64 h.kept, .int .i64 h.last]] W fun e w' => e = .returned (.agg #[.int .i64 (Rm.forgotH L h).who, .int .i64 (Rm.forgotH L h).has, .int .i64 (Rm.forgotH L h).kept, .int .i64 (Rm.forgotH L h).last]) ∧ Below W.heap.size W w' :=
  fun L h  hlL hwL hk  W g hr hg => Rm.specForgets _ _ _ L h W (Nat.le_refl _) hwL hr hk

set_option maxHeartbeats 6400000 in
theorem walk (HI : ImplT) (a0 : Option Addr) (cap0 : Nat) (L : List K) (h : Hd) (w : World) (hl : L.length ≤ maxLen) (hws : ∀ k ∈ L, k.word.size ≤ maxLen) (hr0 : RdK w a0 L) (hn : Rm.NoHs w) (hk : H64 h) :
    Calls Tryd.prog 7 #[.slice a0 L.length cap0, .agg #[.int .i64 h.who, .int .i64 h.has, .int .i64 h.kept, .int .i64 h.last]] w fun e w' => e = .returned (.bool true) ∧ Below w.heap.size w w' := by
  have HII : Hid ImplT := HI
  have P0 : Hid (Below w.heap.size w (w.alloc (.cells #[.int .i64 h.who, .int .i64 h.has, .int .i64 h.kept, .int .i64 h.last] 24)) ∧ HAt (w.alloc (.cells #[.int .i64 h.who, .int .i64 h.has, .int .i64 h.kept, .int .i64 h.last] 24)) w.heap.size 0 h) := ⟨(Below.refl _ _).alloc (Nat.le_refl _) _, Rm.hat_new w h _⟩
  have HR : Hid (RdK w a0 L) := hr0
  have HNN : Hid (Rm.NoHs w) := hn
  clear HI hr0 hn
  go_enter Tryd.func7, Tryd.ntmps7
  go_upto_region 2 with fail
  generalize w.alloc (.cells #[.int .i64 h.who, .int .i64 h.has, .int .i64 h.kept, .int .i64 h.last] 24) = V0 at P0 ⊢
  have hlt0 : w.heap.size < V0.heap.size := P0.out.2.lt
  go_wp2_with fail
  refine (Lc.szKnotS a0 cap0 L 1048576 _ hl hws (by omega) (by omega) (HR.out.below P0.out.1)).mono ?_
  rintro e V ⟨r, rfl, hr0', hr1', hsm, hb0⟩
  have HSM : Hid (0 ≤ r → Lc.Small L) := hsm
  have HB : Hid (Below w.heap.size w V) := P0.out.1.trans (hb0.mono P0.out.1.size)
  have HH : Hid (HAt V w.heap.size 0 h) := Rm.hat_below P0.out.2 hb0
  clear hsm hb0 P0
  by_cases hneg : r < 0
  · go_wp2
    go_ret
    exact ⟨rfl, HB.out⟩
  have hS := HSM.out (by omega)
  have HW : Hid (Lc.WordsOk L) := words hS
  have hlen := hS.1
  clear HSM hl hws hS
  have hlv : w.heap.size < V.heap.size := HH.out.lt
  have HHB : Hid (∀ X : World, Below V.heap.size V X → HAt X w.heap.size 0 h) := fun X hX => Rm.hat_below HH.out hX
  generalize hhb : w.heap.size = hb at HH HHB hlv hlt0
  have HHE : Hid (w.heap.size = hb) := hhb
  have HRV : Hid (∀ X : World, Below V.heap.size V X → RdK X a0 L) := fun X hX => (HR.out.below HB.out).below hX
  have HTK : Hid (∀ X : World, Below V.heap.size V X → Calls Tryd.prog 10 #[.slice a0 L.length cap0] X fun e w' => ∃ q, e = .returned (.slice (some ⟨q, 0, none⟩) L.length L.length) ∧ q < w'.heap.size ∧ RdK w' (some ⟨q, 0, none⟩) L ∧ Below V.heap.size V w' ∧ Below X.heap.size X w') := fun X hX => by
    refine (Lc.toKnotS a0 cap0 L X hlen (HRV.out X hX)).mono ?_
    rintro e w' ⟨rfl, hm, hb⟩
    exact ⟨_, rfl, hm.lt, Lc.made_rd hm, hX.trans (hb.mono hX.size), hb⟩
  have HTH : Hid (∀ X : World, Below V.heap.size V X → Calls Tryd.prog 11 #[.agg #[.int .i64 h.who, .int .i64 h.has, .int .i64 h.kept, .int .i64 h.last]] X fun e w' => e = .returned (.agg #[.int .i64 h.who, .int .i64 h.has, .int .i64 h.kept, .int .i64 h.last]) ∧ Below V.heap.size V w' ∧ Below X.heap.size X w') := fun X hX => (Rm.toHand h X).mono fun _ _ q => ⟨q.1, hX.trans (q.2.mono hX.size), q.2⟩
  have HSP : Hid (∀ (X : World) (q : Nat), Below V.heap.size V X → RdK X (some ⟨q, 0, none⟩) L → q < X.heap.size → Calls Tryd.prog 21 #[.slice (some ⟨q, 0, none⟩) L.length L.length, .agg #[.int .i64 h.who, .int .i64 h.has, .int .i64 h.kept, .int .i64 h.last]] X fun e w' => e = .returned (.agg #[.int .i64 (Rm.forgotH L h).who, .int .i64 (Rm.forgotH L h).has, .int .i64 (Rm.forgotH L h).kept, .int .i64 (Rm.forgotH L h).last]) ∧ Below V.heap.size V w' ∧ Below X.heap.size X w') := fun X q hX hq hl => (specT L h  hlen HW.out hk  X q hq hl).mono fun _ _ z => ⟨z.1, hX.trans (z.2.mono hX.size), z.2⟩
  have HIM : Hid (∀ (X : World) (q : Nat), Below V.heap.size V X → RdK X (some ⟨q, 0, none⟩) L → q < X.heap.size → Calls Tryd.prog 22 #[.slice (some ⟨q, 0, none⟩) L.length L.length, .agg #[.int .i64 h.who, .int .i64 h.has, .int .i64 h.kept, .int .i64 h.last]] X fun e w' => e = .returned (.agg #[.int .i64 (Rm.forgotH L h).who, .int .i64 (Rm.forgotH L h).has, .int .i64 (Rm.forgotH L h).kept, .int .i64 (Rm.forgotH L h).last]) ∧ Below X.heap.size X w') := fun X q hX => HII.out L h  hlen HW.out hk  X q ((HNN.out.below HB.out).below hX)
  have HSB : Hid (∀ W : World, Below V.heap.size V W → W.cell? ⟨hb, 0, none⟩ = some (.int .i64 h.who) ∧ W.cell? ⟨hb, 1, none⟩ = some (.int .i64 h.has) ∧ W.cell? ⟨hb, 2, none⟩ = some (.int .i64 h.kept) ∧ W.cell? ⟨hb, 3, none⟩ = some (.int .i64 h.last)) := fun W hW => Rm.cellsH (HHB.out W hW)
  clear HII HR hhb HNN
  generalize Rm.forgotH L h = hx at HSP HIM
  go_upto_region 5 with fail
  go_cut [6] (fun pv wx => ∃ rb : Nat, pv = .pointer (some ⟨rb, 0, none⟩) ∧ Hid (HAt wx rb 0 hx) ∧ Hid (Below V.heap.size V wx))
  case first =>
    go_region_held3 (fun W => W.cell? ⟨hb, 0, none⟩ = some (.int .i64 h.who) ∧ W.cell? ⟨hb, 1, none⟩ = some (.int .i64 h.has) ∧ W.cell? ⟨hb, 2, none⟩ = some (.int .i64 h.kept) ∧ W.cell? ⟨hb, 3, none⟩ = some (.int .i64 h.last)) (first
      | exact HSB.out _ (B3.alloc B3.size _) | exact HSB.out _ B3 | exact HSB.out _ (Rm.below_put4 B3 (by first | exact BK.size | exact BH.size | exact Nat.le_refl _) _ _ _ _)
      | exact HSB.out _ (by first | exact BH | exact BK | exact BH.alloc BH.size _ | exact BK.alloc BK.size _ | exact (Below.refl _ _).drew | exact Below.refl _ _ | exact (Below.refl _ _).drew.alloc (Nat.le_refl _) _ | exact ((Below.refl _ _).alloc (Nat.le_refl _) _).drew | exact (Below.refl _ _).alloc (Nat.le_refl _) _) | go_keep) (first
      | (go_at_call 21
         refine (HSP.out _ _ (by first | exact BH | exact BK | exact BH.alloc BH.size _ | exact BK.alloc BK.size _ | exact (Below.refl _ _).drew | exact Below.refl _ _ | exact (Below.refl _ _).drew.alloc (Nat.le_refl _) _ | exact ((Below.refl _ _).alloc (Nat.le_refl _) _).drew | exact (Below.refl _ _).alloc (Nat.le_refl _) _) (by first | exact RK | exact RK.below bh | exact RK.below (Rm.unlaid bh) | exact RK.below ((Below.refl _ _).alloc (Nat.le_refl _) _) | exact (RK.below bh).below ((Below.refl _ _).alloc (Nat.le_refl _) _)) (by first | exact hq | exact Nat.lt_of_lt_of_le hq bh.size | exact Nat.lt_of_lt_of_le hq (Rm.unlaid bh).size | exact Nat.lt_of_lt_of_le hq ((Below.refl _ _).alloc (Nat.le_refl _) _).size | exact Nat.lt_of_lt_of_le (Nat.lt_of_lt_of_le hq bh.size) ((Below.refl _ _).alloc (Nat.le_refl _) _).size)).mono ?_
         rintro e V3 ⟨rfl, B3, b3⟩
         (first | have ZS := Rm.keepH b3 | have ZS := Rm.keepH' b3 | have ZS := Rm.hat_below ZH b3 | have ZS := Rm.hat_below ZK b3 | skip)
         (first | (have z0 := (Rm.cellsZ ZS).1; have z1 := (Rm.cellsZ ZS).2.1; have z2 := (Rm.cellsZ ZS).2.2.1; have z3 := (Rm.cellsZ ZS).2.2.2; have y0 := (Rm.frozH ZS).1; have y1 := (Rm.frozH ZS).2.1; have y2 := (Rm.frozH ZS).2.2.1; have y3 := (Rm.frozH ZS).2.2.2) | skip))
      | (go_at_call 10
         refine (HTK.out _ (by first | exact BH | exact BH.alloc BH.size _ | exact (Below.refl _ _).drew | exact Below.refl _ _ | exact (Below.refl _ _).drew.alloc (Nat.le_refl _) _ | exact ((Below.refl _ _).alloc (Nat.le_refl _) _).drew | exact (Below.refl _ _).alloc (Nat.le_refl _) _)).mono ?_
         rintro e VK ⟨q, rfl, hq, RK, BK, bk⟩
         (first | have ZK := Rm.keepH bk | have ZK := Rm.keepH' bk | have ZK := Rm.hat_below ZH bk | skip))
      | (go_at_call 11
         refine (HTH.out _ (by first | exact BK | exact BK.alloc BK.size _ | exact (Below.refl _ _).drew | exact Below.refl _ _ | exact (Below.refl _ _).drew.alloc (Nat.le_refl _) _ | exact ((Below.refl _ _).alloc (Nat.le_refl _) _).drew | exact (Below.refl _ _).alloc (Nat.le_refl _) _)).mono ?_
         rintro e VH ⟨rfl, BH, bh⟩
         (first | have ZH := Rm.keepH bh | have ZH := Rm.keepH' bh | have ZH := Rm.hat_below ZK bh | skip)))
    all_goals go_wp2_with fail
    all_goals go_meet
    all_goals (first | exact ⟨_, rfl, Rm.hat_new V3 hx _, B3.alloc B3.size _⟩ | exact ⟨_, rfl, Rm.hat_put4 ZS hx, Rm.below_put4 B3 (by first | exact BK.size | exact BH.size | exact Nat.le_refl _) _ _ _ _⟩)
  case rest =>
    obtain ⟨rb, rfl, HX6, HB6⟩ := hcut
    go_wp2_with fail
    refine (HTK.out _ HB6.out).mono ?_
    rintro e w7 ⟨q7, rfl, hq7, RK7, B7, b7⟩
    have HR7 : Hid (RdK w7 (some ⟨q7, 0, none⟩) L) := RK7
    have HB7 : Hid (Below V.heap.size V w7) := B7
    have HX7 : Hid (HAt w7 rb 0 hx) := Rm.hat_below HX6.out b7
    clear HX6
    obtain ⟨a0', a1', a2', a3'⟩ := Rm.cellsH (HHB.out _ HB7.out)
    clear B7 RK7 HB6
    go_wp2_with fail
    refine (HTH.out _ HB7.out).mono ?_
    rintro e w8 ⟨rfl, B8, b8⟩
    have HR8 : Hid (RdK w8 (some ⟨q7, 0, none⟩) L) := HR7.out.below b8
    have hq8 : q7 < w8.heap.size := Nat.lt_of_lt_of_le hq7 b8.size
    have HB8 : Hid (Below V.heap.size V w8) := B8
    have HX8 : Hid (HAt w8 rb 0 hx) := Rm.hat_below HX7.out b8
    clear HX7
    clear a0' a1' a2' a3' HR7 HB7 B8
    go_wp2_with fail
    refine (HIM.out _ _ HB8.out HR8.out hq8).mono ?_
    rintro e w9 ⟨rfl, b9⟩
    have HR9 : Hid (RdK w9 (some ⟨q7, 0, none⟩) L) := HR8.out.below b9
    have HB9 : Hid (Below V.heap.size V w9) := HB8.out.trans (b9.mono HB8.out.size)
    have HX9 : Hid (HAt w9 rb 0 hx) := Rm.hat_below HX8.out b9
    clear HX8
    clear HR8 HB8 b9 HIM
    have HN : Hid (HAt (w9.alloc (.cells #[.int .i64 hx.who, .int .i64 hx.has, .int .i64 hx.kept, .int .i64 hx.last] 29)) w9.heap.size 0 hx) := Rm.hat_new w9 hx _
    have HX10 : Hid (HAt (w9.alloc (.cells #[.int .i64 hx.who, .int .i64 hx.has, .int .i64 hx.kept, .int .i64 hx.last] 29)) rb 0 hx) := Rm.hat_below HX9.out ((Below.refl _ _).alloc (Nat.le_refl _) _)
    have HRA : Hid (RdK (w9.alloc (.cells #[.int .i64 hx.who, .int .i64 hx.has, .int .i64 hx.kept, .int .i64 hx.last] 29)) (some ⟨q7, 0, none⟩) L) := HR9.out.below ((Below.refl _ _).alloc (Nat.le_refl _) _)
    have HBA : Hid (Below V.heap.size V (w9.alloc (.cells #[.int .i64 hx.who, .int .i64 hx.has, .int .i64 hx.kept, .int .i64 hx.last] 29))) := HB9.out.alloc HB9.out.size _
    clear HR9 HB9 HX9
    go_upto_region 8 with fail
    generalize w9.alloc (.cells #[.int .i64 hx.who, .int .i64 hx.has, .int .i64 hx.kept, .int .i64 hx.last] 29) = WA at HN HX10 HRA HBA ⊢
    generalize w9.heap.size = nb at HN ⊢
    obtain ⟨n0, n1, n2, n3⟩ := Rm.cellsH HN.out
    obtain ⟨m0, m1, m2, m3⟩ := Rm.cellsH HX10.out
    go_wp2_with fail
    refine (Rm.eqHand hx _).mono ?_
    rintro e wE ⟨rfl, bE⟩
    have HR9 : Hid (RdK wE (some ⟨q7, 0, none⟩) L) := HRA.out.below bE
    have HB9 : Hid (Below V.heap.size V wE) := HBA.out.trans (bE.mono HBA.out.size)
    clear n0 n1 n2 n3 m0 m1 m2 m3 HN HX10 HRA HBA bE
    go_wp2_with fail
    refine (HTK.out _ HB9.out).mono ?_
    rintro e w10 ⟨qx, rfl, hqx, RKx, B10, b10⟩
    have HR10 : Hid (RdK w10 (some ⟨q7, 0, none⟩) L) := HR9.out.below b10
    have HB10 : Hid (Below V.heap.size V w10) := B10
    have heq := Lc.eqKnotS _ _ L.length _ _ L.length L w10 hlen HR10.out RKx
    clear RKx HR9 HB9 B10 b10
    go_wp2_with fail
    refine heq.mono ?_
    rintro e w11 ⟨rfl, b11⟩
    have HB11 : Hid (Below V.heap.size V w11) := HB10.out.trans (b11.mono HB10.out.size)
    clear heq b11 HB10 HR10
    go_wp2
    go_ret
    exact ⟨rfl, HB.out.trans (HB11.out.mono HB.out.size)⟩

/-- the heap that the program's own initialisers leave meets the condition -/
theorem door_met (os : Os) (args : Array Value) : laidMetH Tryd.prog Rows.fnExactForgetsRow.laid ((World.doorLaid Tryd.prog 400 os).forCall (fun _ _ => 0) ⟨#[], args, []⟩).memory :=
  laidMetH_of_parts3 (fuel := 8) (laidMet_of_run' 8 (by kernel_rfl) (by kernel_rfl)) (by kernel_rfl) (by kernel_rfl)

theorem lifted (os : Os) (started : os.Started) (H : Type) (enc : TypeId × Value → H) :
    ReturnsInHanded {} Tryd.checked os 7 .any (fun w args => (Rows.fnExactForgetsSpec.pre enc Tryd.prog Tryd.f7 [] false w args ∧ laidMetH Tryd.prog Rows.fnExactForgetsRow.laid w) ∧ sizedMet enc Tryd.prog Tryd.f7 (OpenSpec.ofChange Rows.fnExactForgetsSpec) false w args) (Rows.fnExactForgetsSpec.post enc Tryd.prog Tryd.f7 false true false false) := by
  refine Ld.wrap (C := Tryd.checked) (X := fun w => laidMetH Tryd.prog Rows.fnExactForgetsRow.laid w) (fun _ _ hh h => h.of_heap hh) own started (by kernel_rfl) Tryd.func7
    (ChangeSpec.witness_shaped (enc := enc) (C := Tryd.checked) (os := os) (X := fun w _ => laidMetH Tryd.prog Rows.fnExactForgetsRow.laid w) false (World.doorLaid Tryd.prog 400 os) #[.slice none 0 0, .agg #[.int .i64 0, .int .i64 0, .int .i64 0, .int .i64 0]] 8 rfl (World.shaped_of_RefB (by kernel_rfl) (by kernel_rfl)) (by kernel_rfl) (by kernel_rfl) (by kernel_rfl) (door_met os _)) ?_
  intro W base args ds gs before hval0 hW hL hsh
  have hval : ∀ (j : Nat) t v, Tryd.f7.params[j]? = some t → args[j]? = some v → Value.okWide Tryd.prog W .any base t v := hval0
  have hW' := hW
  obtain ⟨p, q, hA0, hV0, rfl, hfz, hnd⟩ := hW
  have hA : DataW.TrodAll enc Tryd.prog W 0 (fun _ => true) true Tryd.f7.params.toList args.toList ds p := hA0
  have hV : DataW.TrodVars enc Tryd.prog W (fun _ => true) ["loop.example/g00418/impl.errNoHand"] gs q := hV0
  rw [Tryd.params7] at hA hval
  obtain ⟨v0, vs0, d0, ds0, p0, q0, hargs, rfl, rfl, h0, r0⟩ := trodAll_cons hA
  obtain ⟨v1, vs1, d1, ds1, p1, q1, rfl, rfl, rfl, h1, r1⟩ := trodAll_cons r0
  obtain ⟨rfl, rfl, rfl⟩ := trodAll_nil r1
  obtain rfl : args = #[v0, v1] := by cases args; simp_all
  have hLm : laidMet Tryd.prog Rows.fnExactForgetsRow.laid W := by rw [← MakeChecks.laidMetH_plain _ _ _ (by kernel_rfl)]; exact hL
  obtain ⟨aerrNoHand, verrNoHand⟩ := Ld.one hLm
  have hnn : Rm.NoHs W := ⟨_, Ld.noh verrNoHand⟩
  have vr : ∀ {X : World}, X.var? Tryd.prog "loop.example/g00418/impl.errNoHand" = some #[.iface 137 (.pointer (some aerrNoHand))] → ∀ sp : Nat → Bool, DataW.TrodVars enc Tryd.prog X sp ["loop.example/g00418/impl.errNoHand"] [tok enc (.iface 137 (.pointer (some aerrNoHand)))] [.cell 0 0] :=
    fun {X} xerrNoHand sp => vars_read1 enc Ld.gNoHand Ld.tNoHand Tryd.underlying54 xerrNoHand trivial sp
  obtain ⟨rfl, rfl⟩ := hV.unique (vr verrNoHand _)
  obtain ⟨a0, len0, cap0, rfl⟩ := okWide_slice Tryd.underlying22 (hval 0 22 v0 rfl rfl)
  have k0 := h0
  have lt0 : ∀ x ∈ p0, x.block < W.heap.size := by obtain ⟨m, hm⟩ := k0; exact DataW.trod_lt m _ _ _ hm
  obtain ⟨fuel, hf⟩ := h0
  obtain ⟨L, rfl, hrd, hws, hl⟩ := Lc.openK (a0 := a0) (len0 := len0) (cap0 := cap0) hf
  obtain ⟨x0, x1, x2, x3, y0, y1, y2, y3, m, rfl, rfl, rfl, hy0, hy1, hy2, hy3⟩ := open_agg4 Tryd.underlying24 (by kernel_rfl) cellsHd (hval 1 24 v1 rfl rfl) h1
  obtain ⟨b0, e0, rfl, w0⟩ := DataW.trod_int Tryd.underlying2 hy0
  obtain ⟨b1, e1, rfl, w1⟩ := DataW.trod_int Tryd.underlying2 hy1
  obtain ⟨b2, e2, rfl, w2⟩ := DataW.trod_int Tryd.underlying2 hy2
  obtain ⟨b3, e3, rfl, w3⟩ := DataW.trod_int Tryd.underlying2 hy3
  simp only [List.cons.injEq, and_true] at e0 e1 e2 e3
  subst e0 e1 e2 e3
  clear hA0 hV0 hval0
  refine (walk (fun L h  hlL hwL hk  W g hn hr hg => by obtain ⟨a, hn⟩ := hn; exact Rm.implForgets g 0 L.length L h a W (by omega) hwL hk hr hn) a0 cap0 L ⟨b0, b1, b2, b3⟩ W hl hws hrd hnn ⟨(int_bd w1).1, (int_bd w1).2, (int_bd w2).1, (int_bd w2).2⟩ ).mono fun e W' ⟨he, bel⟩ => ?_
  subst he
  exact ⟨_, rfl, _, _, _, [], _, [.cell 0 0], hW', trodAll_mk1 (shut_bool Tryd.underlying4 _), (trodAll_cons_mk (Below.trod laidOut (by kernel_rfl) (of_decide_eq_true (by kernel_rfl)) k0 bel lt0) (trodAll_cons_mk (shut_agg4 (y0 := (.lit (.int .i64 b0), [])) (y1 := (.lit (.int .i64 b1), [])) (y2 := (.lit (.int .i64 b2), [])) (y3 := (.lit (.int .i64 b3), [])) Tryd.underlying24 (by kernel_rfl) cellsHd (trI b0 w0) (trI b1 w1) (trI b2 w2) (trI b3 w3)) trodAll_mk0)), vr (Ld.var_below Ld.gNoHand bel verrNoHand) _, bel.frame _, fun h => by cases h⟩

theorem over : Rows.fnExactForgetsRow.holds Tryd.pinned (OpenSpec.ofChange Rows.fnExactForgetsSpec) :=
  OpenClaim.holds_of_wide 7 Tryd.f7 rfl rfl rfl rfl rfl rfl rfl ⟨rfl, rfl, rfl, rfl, rfl⟩ rfl rfl rfl rfl rfl (by kernel_rfl) Tryd.func7 (by kernel_rfl)
    (of_decide_eq_true (by kernel_rfl)) (by unfold Func.isWrapper; first | (rw [if_pos (by decide +kernel)]; kernel_rfl) | (rw [if_neg (by decide +kernel)]; exact ⟨rfl, rfl⟩))
    (fun os started H enc _ => lifted os started H enc)

theorem proved : Rows.FnExactForgetsCardSaid :=
  Claim7.holds_tied_plain_at .later [] [.sentinel] true (true, "ac552e777e6f89e2916836d046accbfedda2ef432f0134bd680cac0cae92424a") true
    over (fun _ h => by cases h) (by kernel_rfl) (fun _ h => by cases h) fnExactForgets_row_tie rfl ⟨rfl, rfl⟩ (by kernel_rfl) rfl
    (fun f fn hf hfn => by
      obtain rfl : f = 7 := Option.some.inj ((show Tryd.prog.funcNamed "loop.example/g00418/laws.FnExactForgets" = some 7 by kernel_rfl).symm.trans hf) |>.symm
      obtain rfl : fn = Tryd.f7 := (Option.some.inj (Tryd.func7.symm.trans hfn)).symm
      exact ⟨by kernel_rfl, fun j t ht => by
        rw [Tryd.params7] at ht
        have hm : t ∈ [22, 24] := by simpa using Array.mem_of_getElem? ht
        have hall : ([22, 24].all fun u => !Tryd.prog.wantsStandIn u) = true := by kernel_rfl
        exact (show Tryd.prog.wantsStandIn t = false by simpa using List.all_eq_true.1 hall t hm)⟩)
    (by kernel_rfl)
end Go.Proofs.YtmhcbmcfhopiiaaDoor.fnExactForgets
