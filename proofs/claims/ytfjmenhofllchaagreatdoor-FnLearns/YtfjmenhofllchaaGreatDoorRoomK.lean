/-
  What one act does in a room, where a knot is shown: the room stays one; nothing else is changed.
-/
import Derived.Test.YtfjmenhofllchaaGreatDoorRoomI
import Derived.Test.YtfjmenhofllchaaGreatDoorRoomD
import Derived.Test.YtfjmenhofllchaaGreatDoorSightS
namespace Go.Proofs.YtfjmenhofllchaaGreatDoor
open Go.RowKit
set_option maxRecDepth 100000
namespace Rm
open Kn (K okK in3)
open Sg (orB belows)
open Lc (at' RdK laceB takesB flat OwnK CellsK cellsOf)

theorem keepN {W V : World} {n : Nat} (h : Below (W.drewN n).drew.heap.size (W.drewN n).drew V) : Below W.heap.size W V := ⟨h.os, h.tape, h.output, h.size, h.block⟩

/-- what comes of a knot that is shown -/
def learnOut (L : List K) (hs : Nat → Hd) (i : Nat) (k : Int) : Out := if learnB L (belows L L.length) (hs i).who (hs i).has k true then ⟨true, L, upd hs i { hs i with has := orB (hs i).has ((belows L L.length).getD k.toNat 0) }⟩ else ⟨false, L, hs⟩
def learnOutL (l : List Int) (al : Bool) (L : List K) (hs : Nat → Hd) (i : Nat) (k : Int) : Out := if learnB L l (hs i).who (hs i).has k al then ⟨true, L, upd hs i { hs i with has := orB (hs i).has (l.getD k.toNat 0) }⟩ else ⟨false, L, hs⟩
theorem learn_do {B p : Nat} {R : Ro} {x : Out} {w Y w' : World} {e : Ending} {l : List Int} {k : Int} {al : Bool} {i : Nat} (hi : i < 4) (hr : RoAt B w p R) (hb : Below w.heap.size w Y) (hin : Sg.Within l) (hx : x = learnOutL l al R.L R.hs i k) (hp : LearnPost R.L l (R.hs i).who (R.hs i).has k al R.gh (i * 4) Y e w') : DoPost B p R x w e w' := by
  obtain ⟨he, d, hw⟩ := hp
  have hok := hr.parts.hok i hi
  cases hl : learnB R.L l (R.hs i).who (R.hs i).has k al
  · rw [hl] at he hw
    subst he
    refine do_same false (hx.trans (by unfold learnOutL; rw [hl]; rfl)) hr ?_
    rw [hw]
    exact ⟨hb.os, hb.tape, hb.output, hb.size, hb.block⟩
  · rw [hl] at he hw
    subst he
    have hg := Sg.within_get hin k.toNat
    have ho := Sg.orB_bd (R.hs i).has (l.getD k.toNat 0) hok.h0 hok.h1 hg.1 hg.2
    have hD := do_put true i { R.hs i with has := orB (R.hs i).has (l.getD k.toNat 0) } (hx.trans (by unfold learnOutL; rw [hl]; rfl)) ⟨ho.1, ho.2, hok.k0, hok.k1, hok.la⟩ hr hb 1 (by omega) _ (hat_has (hat_below (hr.parts.hands i hi) hb) _)
    obtain ⟨R', he', hro, h1, h2, hf, h3⟩ := hD
    rw [hw]
    refine ⟨R', he', ?_, h1, h2, ⟨hf.os, hf.tape, hf.output, hf.size, hf.block⟩, h3⟩
    exact roat_fr (S := fun _ => False) hro ⟨rfl, rfl, rfl, Nat.le_refl _, fun _ _ _ => rfl⟩ (fun _ _ h => h)

set_option maxHeartbeats 3200000 in
theorem doShow (B p : Nat) (R : Ro) (a : Ac) (w : World) (hr : RoAt B w p R) (hk : a.kind = 2) (hg : goodB R a = true) (x : Out) (HX : Hid (x = learnOut R.L R.hs a.who.toNat a.knot)) : Calls Tryz.prog 114 #[.pointer (some ⟨p, 0, none⟩), acV a] w (DoPost B p R x w) := by
  obtain ⟨kind, who, knot, round, frm, word⟩ := a
  obtain rfl : kind = 2 := hk
  have P0 : Hid (DoBeg B p R ⟨2, who, knot, round, frm, word⟩ w (w.alloc (acO ⟨2, who, knot, round, frm, word⟩))) := dobeg _ hr
  have HR : Hid (RoAt B w p R) := hr
  unfold goodB at hg
  rw [Bool.and_eq_true] at hg
  have hcall := in3_call who true hg.1
  have hw3 := (in3_iff who).1 hg.1
  have hq1 : (who != R.bad) = true := hg.2
  clear hr hg
  obtain ⟨i, rfl⟩ := Int.eq_ofNat_of_zero_le hw3.1
  simp only [Int.toNat_natCast] at HX
  have hi : i < 4 := by omega
  have hi4 : (i : Int) < 4 := by omega
  go_enter Tryz.func114, Tryz.ntmps114
  go_wp2_with fail
  generalize w.alloc (acO ⟨2, (i : Int), knot, round, frm, word⟩) = W at P0 ⊢
  obtain ⟨hB, hro, hlt, a0, a1, a2, a3, a4, a5⟩ := P0.out
  have c2 := hro.c2
  have c3 := hro.c3
  have hcap := hro.parts.cap
  obtain ⟨_, x0, x1, x2, x3, f0, f1, f2, f3⟩ := hro.parts.hands i hi
  have HB : Hid (Below w.heap.size w W) := hB
  have HH : Hid (HAt W R.gh (i * 4) (R.hs i)) := hro.parts.hands i hi
  have HOK : Hid (HdOk R.L.length (R.hs i)) := hro.parts.hok i hi
  clear hro hB P0
  go_quiet (first | (go_at_call 47; exact (hcall _).mono fun _ _ h => ⟨h.1, _, h.2⟩))
  go_wp2_with fail
  go_quiet (fail)
  go_wp2_with fail
  have HRO : Hid (RoAt B W p R) := roat_below HR.out HB.out
  have hpl := HRO.out.lt
  obtain ⟨ao, cap, hlv, _, _, _, hrd, _⟩ := own_lace HRO.out.parts.own
  have HRD : Hid (RdK W ao R.L) := hrd
  have c0 := HRO.out.c0
  rw [hlv] at c0
  have h60 := ((Lc.lace_iff R.L).1 HRO.out.parts.lace).1
  have hf := Sg.frm_lace HRO.out.parts.lace
  have HCA : Hid (∀ V : World, RdK V ao R.L → Calls Tryz.prog 43 #[.slice ao R.L.length cap] V (Sg.NumsPost (belows R.L R.L.length) V)) := fun V hV => Sg.l4All ao cap R.L V h60 hf hV
  have HCL : Hid (∀ (V : World) (bo : Option Addr) (bc Bn : Nat), Below W.heap.size W V → Memb.Own Bn V bo bc (belows R.L R.L.length) → Calls Tryz.prog 42 #[.slice ao R.L.length cap, .slice bo (belows R.L R.L.length).length bc, .pointer (some ⟨R.gh, i * 4, none⟩), .int .i64 knot, .bool true] V (DoPost B p R x w)) := by
    intro V bo bc Bn hV hown
    have hbV := HB.out.trans (hV.mono HB.out.size)
    have hin := Sg.belows_in R.L R.L.length h60
    exact (l13Learn ao cap R.L bo bc (belows R.L R.L.length) R.gh (i * 4) (R.hs i).who (R.hs i).has (R.hs i).kept (R.hs i).last knot true V h60 (Sg.belows_len _ _) hin (HRD.out.below hV) (Lst.own_rd hown) (hat_below HH.out hV) HOK.out.h0 HOK.out.h1).mono fun _ _ y => learn_do hi HR.out hbV hin HX.out y
  generalize belows R.L R.L.length = l at HCA HCL
  clear hlv hrd HOK HH HRO x0 x1 x2 x3 f0 f1 f2 f3 hcap
  go_region_with (first
    | (go_at_call 43; refine (HCA.out _ (by first | exact HRD.out | exact (HRD.out.drewN _).drew | exact HRD.out.drew)).mono ?_; rintro e V1 ⟨bo, bc, rfl, hown, b1⟩; have B1 : Below W.heap.size W V1 := keepN b1; have d0 := (B1.cell (p := ⟨p, 0, none⟩) hpl).trans c0; have d2 := (B1.cell (p := ⟨w.heap.size, 2, none⟩) hlt).trans a2; have HO : Hid _ := hown; clear hown b1)
    | (go_at_call 42; refine (HCL.out _ bo bc _ B1 HO.out).mono ?_; rintro e V2 ⟨R', rfl, HP⟩; have HP2 : Hid (DoPost B p R x w (.returned (.bool x.done)) V2) := ⟨R', rfl, HP⟩; clear HP))
  all_goals
    go_wp2
    go_ret
    exact HP2.out

end Rm
end Go.Proofs.YtfjmenhofllchaaGreatDoor
