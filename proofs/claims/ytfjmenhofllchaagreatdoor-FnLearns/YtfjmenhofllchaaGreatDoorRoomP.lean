/-
  The model's rooms, as they begin: a new room is right, and its parts lie in memory of its own.
-/
import Derived.Test.YtfjmenhofllchaaGreatDoorRoomI
import Derived.Test.YtfjmenhofllchaaGreatDoorRoomC
import Derived.Test.YtfjmenhofllchaaGreatDoorDoubS
namespace Go.Proofs.YtfjmenhofllchaaGreatDoor
open Go.RowKit
set_option maxRecDepth 100000
namespace Rm
open Kn (K okK in3)
open Lc (at' RdK laceB takesB flat OwnK CellsK cellsOf)

theorem last_nil (who : Int) (w : World) : Calls Tryz.prog 91 #[.slice none 0 0, .int .i64 who, .int .i64 0] w fun e w' => e = .returned (.int .i64 (-1)) ∧ ∃ n, w' = w.drewN n :=
  l13Last none 0 [] who 0 w (by simp) (.inl rfl) (by omega) (by omega)

theorem closed_nil (bo : Option Addr) (bc : Nat) (w : World) : Calls Tryz.prog 94 #[.slice bo 0 bc, .int .i64 0] w fun e w' => e = .returned (.bool true) ∧ w' = w :=
  (Sg.l4Closed bo bc [] 0 w (by simp) (by omega) (by omega) (.inl rfl)).mono fun _ _ h => ⟨h.1, h.2.symm⟩

set_option maxHeartbeats 1600000 in
theorem l13OkNew (bo : Option Addr) (bc : Nat) (i : Nat) (hi : i < 4) (w : World) : Calls Tryz.prog 49 #[.slice none 0 0, .slice bo 0 bc, .agg #[.int .i64 (i : Int), .int .i64 0, .int .i64 0, .int .i64 (-1)]] w fun e w' => e = .returned (.bool true) ∧ Below w.heap.size w w' := by
  have P0 : Hid (Below w.heap.size w (w.alloc (.cells #[.int .i64 (i : Int), .int .i64 0, .int .i64 0, .int .i64 (-1)] 26)) ∧ HAt (w.alloc (.cells #[.int .i64 (i : Int), .int .i64 0, .int .i64 0, .int .i64 (-1)] 26)) w.heap.size 0 ⟨(i : Int), 0, 0, -1⟩) := ⟨(Below.refl _ _).alloc (Nat.le_refl _) _, hat_new w ⟨(i : Int), 0, 0, -1⟩ _⟩
  have hcall := in3_call (i : Int) true ((in3_iff _).2 ⟨by omega, by omega⟩)
  have hz : bits .andNot .i64 0 0 = 0 := by decide
  go_enter Tryz.func49, Tryz.ntmps49
  go_wp2_with (first
    | (go_at_call 47; refine (hcall _).mono ?_; rintro e w' ⟨rfl, rfl⟩)
    | (go_at_call 91; refine (last_nil _ _).mono ?_; rintro e w' ⟨rfl, n, rfl⟩)
    | fail)
  generalize w.alloc (.cells #[.int .i64 (i : Int), .int .i64 0, .int .i64 0, .int .i64 (-1)] 26) = W at P0 ⊢
  generalize hN : W.drewN _ = W1
  have P1 : Hid (Below w.heap.size w W1 ∧ HAt W1 w.heap.size 0 ⟨(i : Int), 0, 0, -1⟩) := hN ▸ ⟨Lc.below_drewN' P0.out.1 _, hat_drewN P0.out.2 _⟩
  clear hN P0
  obtain ⟨_, a0, a1, a2, a3, _, _, _, _⟩ := P1.out.2
  simp only [Nat.zero_add] at a1 a2 a3
  go_quiet (first
    | (go_at_call 94; exact (closed_nil _ _ _).mono fun _ _ h => ⟨h.1, _, h.2⟩)
    | (go_at_call 91; exact (last_nil _ _).mono fun _ _ h => ⟨h.1, h.2.elim fun _ hm => ⟨_, hm.trans (World.drewN_drewN ..)⟩⟩))
  go_wp2
  go_ret
  exact ⟨rfl, Lc.below_drewN' P1.out.1 _⟩

/-- a new hand -/
def newH (i : Nat) : Hd := ⟨(i : Int), 0, 0, -1⟩

theorem bad_call (x : Int) (h0 : -1 ≤ x) (h1 : x ≤ 3) (V : World) : Calls Tryz.prog 47 #[.int .i64 x, .int .i64 (-1), .int .i64 3] V fun e w' => e = .returned (.bool true) ∧ w' = V := by
  refine (Base.l1In x (-1) 3 V).mono ?_
  rintro e w' ⟨rfl, rfl⟩
  exact ⟨by rw [decide_eq_true h0, decide_eq_true h1]; rfl, rfl⟩

set_option maxHeartbeats 3200000 in
theorem roomOkNew (co : Option Addr) (cc : Nat) (l : List Int) (gh hc : Nat) (bad : Int) (w : World) (hl : coinsB l = true) (hl6 : l.length ≤ 6) (hrd : Lst.Rd w co l) (hco : ∀ g, co = some ⟨g, 0, none⟩ → g < w.heap.size) (hh : ∀ i, i < 4 → HAt w gh (i * 4) (newH i)) (hb0 : -1 ≤ bad) (hb1 : bad ≤ 3) :
    Calls Tryz.prog 153 #[.agg #[.slice none 0 0, .slice co l.length cc, .slice (some ⟨gh, 0, none⟩) 4 hc, .int .i64 bad]] w fun e w' => e = .returned (.bool true) ∧ Below w.heap.size w w' := by
  have P0 : Hid (Below w.heap.size w (w.alloc (.cells #[.slice none 0 0, .slice co l.length cc, .slice (some ⟨gh, 0, none⟩) 4 hc, .int .i64 bad] 107)) ∧ (w.alloc (.cells #[.slice none 0 0, .slice co l.length cc, .slice (some ⟨gh, 0, none⟩) 4 hc, .int .i64 bad] 107)).cell? ⟨w.heap.size, 0, none⟩ = some (.slice none 0 0) ∧ (w.alloc (.cells #[.slice none 0 0, .slice co l.length cc, .slice (some ⟨gh, 0, none⟩) 4 hc, .int .i64 bad] 107)).cell? ⟨w.heap.size, 1, none⟩ = some (.slice co l.length cc) ∧ (w.alloc (.cells #[.slice none 0 0, .slice co l.length cc, .slice (some ⟨gh, 0, none⟩) 4 hc, .int .i64 bad] 107)).cell? ⟨w.heap.size, 2, none⟩ = some (.slice (some ⟨gh, 0, none⟩) 4 hc) ∧ (w.alloc (.cells #[.slice none 0 0, .slice co l.length cc, .slice (some ⟨gh, 0, none⟩) 4 hc, .int .i64 bad] 107)).cell? ⟨w.heap.size, 3, none⟩ = some (.int .i64 bad) ∧ w.heap.size < (w.alloc (.cells #[.slice none 0 0, .slice co l.length cc, .slice (some ⟨gh, 0, none⟩) 4 hc, .int .i64 bad] 107)).heap.size) :=
    ⟨(Below.refl _ _).alloc (Nat.le_refl _) _, by simp, by simp, by simp, by simp, by simp⟩
  have HCO : Hid (∀ V : World, Below w.heap.size w V → Calls Tryz.prog 157 #[.slice co l.length cc] V fun e w' => e = .returned (.bool true) ∧ V = w') := by
    intro V hV
    have hrd' : Lst.Rd V co l := by
      rcases hrd with h | ⟨g, hg, hc⟩
      · exact .inl h
      · exact .inr ⟨g, hg, fun j hj => (hV.cell (p := ⟨g, j, none⟩) (hco g hg)).trans (hc j hj)⟩
    have := specCoinsOk co cc l V (by omega) hrd'
    rwa [hl] at this
  have hcb := bad_call bad hb0 hb1
  have HHH : Hid (∀ V : World, Below w.heap.size w V → ∀ i, i < 4 → HAt V gh (i * 4) (newH i)) := fun V hV i hi => hat_below (hh i hi) hV
  have hgl : gh < w.heap.size := (hh 0 (by omega)).lt
  clear hl hrd hco hh hb0 hb1
  go_enter Tryz.func153, Tryz.ntmps153
  go_wp2_with fail
  generalize w.alloc (.cells #[.slice none 0 0, .slice co l.length cc, .slice (some ⟨gh, 0, none⟩) 4 hc, .int .i64 bad] 107) = W at P0 ⊢
  obtain ⟨hB, c0, c1, c2, c3, hlt⟩ := P0
  have HB : Hid (Below w.heap.size w W) := hB
  clear hB
  refine (laceOkN _).mono ?_
  rintro e w1 ⟨rfl, rfl⟩
  go_wp2_with fail
  refine (HCO.out _ HB.out).mono ?_
  rintro e w1 ⟨rfl, rfl⟩
  go_wp2_with (go_at_call 47; refine (hcb _).mono ?_; rintro e w' ⟨rfl, rfl⟩)
  refine (Sg.l4All none 0 [] _ (by simp) (fun _ h => by cases h) (.inl rfl)).mono ?_
  rintro e w2 ⟨bo, bc, rfl, hown, hb2⟩
  have hrd2 := Lst.own_rd hown
  have hbo : ∀ g, bo = some ⟨g, 0, none⟩ → g < w2.heap.size := fun g hg => (World.ownsRow.lt hown g (by rw [hg]; rfl)).2
  have c0' := (hb2.cell (p := ⟨w.heap.size, 0, none⟩) hlt).trans c0
  clear hown
  go_wp2_with fail
  refine (Db.l5All none 0 [] bo bc [] _ (by simp) rfl (fun _ h => by cases h) (.inl rfl) hrd2 hbo).mono ?_
  rintro e w3 ⟨D, rfl, _, _, hb3⟩
  have hb23 := hb2.trans (hb3.mono hb2.size)
  have HB3 : Hid (Below w.heap.size w w3) := HB.out.trans (hb23.mono HB.out.size)
  have hlt3 : w.heap.size < w3.heap.size := Nat.lt_of_lt_of_le hlt hb23.size
  have d0 := (hb23.cell (p := ⟨w.heap.size, 0, none⟩) hlt).trans c0
  have d2 := (hb23.cell (p := ⟨w.heap.size, 2, none⟩) hlt).trans c2
  clear hb2 hb3 hb23 c0 c1 c2 c3 c0' hrd2 hbo HB hcb HCO
  go_wp2_with fail
  go_loopw [5] (fun i wr => ∃ j : Nat, j ≤ 4 ∧ i = .int .i64 j ∧ Hid (Below w3.heap.size w3 wr)) (fun i _ => 4 - (intOf i).toNat)
  case atStart => exact ⟨0, by omega, rfl, Below.refl _ _⟩
  case round =>
    obtain ⟨j, hj, rfl, HBr⟩ := hrel
    by_cases hj4 : j < 4
    · have hj4' : (j : Int) < 4 := by omega
      have HBw : Hid (Below w.heap.size w wr) := HB3.out.trans (HBr.out.mono HB3.out.size)
      have hltr : w.heap.size < wr.heap.size := Nat.lt_of_lt_of_le hlt3 HBr.out.size
      have hglr : gh < wr.heap.size := Nat.lt_of_lt_of_le hgl HBw.out.size
      obtain ⟨_, x0, x1, x2, x3, _, _, _, _⟩ := HHH.out wr HBw.out j hj4
      have hnn : ((j : Int) != (j : Int)) = false := by simp
      go_wp2_with fail
      obtain ⟨X, _, F, HF, HG⟩ := Fam.fam wr
      have e0 : ∀ z, (F z).cell? ⟨w.heap.size, 0, none⟩ = some (.slice none 0 0) := fun z => ((HBr.out.trans ((HF.out z).mono HBr.out.size)).cell (p := ⟨w.heap.size, 0, none⟩) hlt3).trans d0
      have e2 : ∀ z, (F z).cell? ⟨w.heap.size, 2, none⟩ = some (.slice (some ⟨gh, 0, none⟩) 4 hc) := fun z => ((HBr.out.trans ((HF.out z).mono HBr.out.size)).cell (p := ⟨w.heap.size, 2, none⟩) hlt3).trans d2
      have y0 : ∀ z, (F z).cell? ⟨gh, j * 4, none⟩ = some (.int .i64 (j : Int)) := fun z => ((HF.out z).cell (p := ⟨gh, j * 4, none⟩) hglr).trans x0
      have y1 : ∀ z, (F z).cell? ⟨gh, j * 4 + 1, none⟩ = some (.int .i64 0) := fun z => ((HF.out z).cell (p := ⟨gh, j * 4 + 1, none⟩) hglr).trans x1
      have y2 : ∀ z, (F z).cell? ⟨gh, j * 4 + 2, none⟩ = some (.int .i64 0) := fun z => ((HF.out z).cell (p := ⟨gh, j * 4 + 2, none⟩) hglr).trans x2
      have y3 : ∀ z, (F z).cell? ⟨gh, j * 4 + 3, none⟩ = some (.int .i64 (-1)) := fun z => ((HF.out z).cell (p := ⟨gh, j * 4 + 3, none⟩) hglr).trans x3
      have HOK : Hid (∀ V : World, Calls Tryz.prog 49 #[.slice none 0 0, .slice bo 0 bc, .agg #[.int .i64 (j : Int), .int .i64 0, .int .i64 0, .int .i64 (-1)]] V fun e w' => e = .returned (.bool true) ∧ Below V.heap.size V w') := fun V => l13OkNew bo bc j hj4 V
      clear x0 x1 x2 x3 d0 d2
      refine Fam.region (F := F) (by kernel_rfl) (by kernel_rfl) (HG.out _ (Below.refl _ wr).drew) ?_
      repeat (go_big_quiet_step (first
        | (go_at_call 49; exact (HOK.out _).mono fun _ _ h => ⟨h.1, HG.out _ ((HF.out _).trans (h.2.mono (HF.out _).size))⟩)))
      refine wpQuiet_nil ?_
      intro w4 hw4
      obtain ⟨z, rfl⟩ := hw4
      have HBz : Hid (Below w3.heap.size w3 (F z)) := HBr.out.trans ((HF.out z).mono HBr.out.size)
      clear e0 e2 y0 y1 y2 y3
      go_wp2
      go_roundw
      case rel => exact ⟨j + 1, by omega, by go_num, HBz⟩
      case measure => simp [intOf]; omega
    · obtain rfl : j = 4 := by omega
      have HBw : Hid (Below w.heap.size w wr) := HB3.out.trans (HBr.out.mono HB3.out.size)
      have e0 := (HBr.out.cell (p := ⟨w.heap.size, 0, none⟩) hlt3).trans d0
      have h44 : ¬ ((4 : Nat) : Int) < 4 := by omega
      clear d0 d2
      go_wp2
      go_loopw [6] (fun i w5 => i = .int .i64 0 ∧ w5 = wr) (fun _ _ => 0)
      case atStart => exact ⟨rfl, rfl⟩
      case round =>
        obtain ⟨rfl, rfl⟩ := hrel
        go_wp2
        go_ret
        exact ⟨rfl, HBw.out⟩

end Rm
end Go.Proofs.YtfjmenhofllchaaGreatDoor
