/-
  What the model's functions of chapter 4 answer, in the words of SightM; for lists of at most 60 knots whose threads are sets.
-/
import Derived.Test.YtapfmadnkaimeaaDoorSightM
import Derived.Test.YtapfmadnkaimeaaDoorLaceR
import Derived.Test.YtapfmadnkaimeaaDoorLaceA
import Derived.Test.YtapfmadnkaimeaaDoorLike
namespace Go.Proofs.YtapfmadnkaimeaaDoor
open Go.RowKit
set_option maxRecDepth 100000
namespace Sg
open Kn (K okK)
open Bit (bit)
open Lc (at' RdK)
open Memb (Own)

/-- a list of numbers of the call's own is handed back -/
def NumsPost (l : List Int) (w : World) (e : Ending) (w' : World) : Prop := ∃ ao cap, e = .returned (.slice ao l.length cap) ∧ Own w.heap.size w' ao cap l ∧ Below w.heap.size w w'

theorem one_new (W : World) (x : Int) (t : TypeId) : ∀ (j : Nat) u, ([Value.int .i64 x])[j]? = some u → (W.alloc (.cells #[.int .i64 x] t)).cell? ((⟨W.heap.size, 0, none⟩ : Addr).add j) = some u := by
  intro q u hq
  match q, hq with
  | 0, hq => simp at hq; subst hq; simp [Addr.add]

theorem one_one (x : Int) : ∀ u ∈ [Value.int .i64 x], u.oneCell' = true := by
  intro u hu; simp at hu; subst hu; rfl

set_option maxHeartbeats 3200000 in
theorem l4All (ao : Option Addr) (cap : Nat) (L : List K) (w : World) (hL : L.length ≤ 60) (hf : FrmOk L) (hr : RdK w ao L) :
    Calls Tryd.prog 29 #[.slice ao L.length cap] w (NumsPost (belows L L.length) w) := by
  obtain ⟨i0, hi, hz0, hz1, hz2⟩ := info_parts Memb.info2
  go_enter Tryd.func29, Tryd.ntmps29
  go_wp2
  go_loopw [3, 4] (fun v i wr => ∃ j : Nat, j ≤ L.length ∧ i = .int .i64 j ∧ Hid (wr.ownsRow w.heap.size 2 1 v (belows L j).length ((belows L j).map (Value.int .i64))) ∧ Hid (Below w.heap.size w wr)) (fun _ i _ => L.length - (intOf i).toNat)
  case atStart => exact ⟨0, by omega, rfl, Memb.own_empty w, (Below.refl _ _).alloc (Nat.le_refl _) _⟩
  case round =>
    obtain ⟨j, hj, rfl, HO, HB⟩ := hrel
    by_cases hlt : j < L.length
    · obtain ⟨g, off, rfl, hg, hc⟩ := hr.at j hlt
      obtain ⟨_, _, c2, _⟩ := hc.below HB.out hg
      have hfj := hf _ (Lc.at_mem L j hlt)
      have hbl := belows_len L j
      have hbi := belows_in L j (by omega)
      obtain ⟨bo, bc, hv, hown⟩ := Memb.own_shape HO.out
      subst hv
      have hrd := Lst.own_rd hown
      have HS : Hid (belows L (j + 1) = belows L j ++ [accB (at' L j).frm (belows L j) j j]) := rfl
      have HOA : Hid (∀ o : Obj, (wr.alloc o).ownsRow w.heap.size 2 1 (.slice bo (belows L j).length bc) (belows L j).length ((belows L j).map (Value.int .i64))) := fun o => hown.alloc o
      clear hc
      have HBL : Hid ((belows L j).length = j) := hbl
      have hl60 : (belows L j).length ≤ 60 := by omega
      clear hbl
      generalize belows L j = l at HS HO hown hrd HBL hl60 hbi HOA ⊢
      go_wp2_with (go_at_call 56; refine (Base.l1Bit _ _ (by omega) (by omega)).mono ?_; rintro e w' ⟨rfl, rfl⟩; rw [Int.toNat_natCast])
      go_loop [5, 6] (fun s k => ∃ m : Nat, m ≤ j ∧ k = .int .i64 m ∧ s = .int .i64 (accB (at' L j).frm l j m)) (fun _ k => j - (intOf k).toNat)
      case atStart => exact ⟨0, by omega, rfl, rfl⟩
      case round =>
        obtain ⟨m, hm, rfl, rfl⟩ := hrel
        by_cases hml : m < j
        · have hab := accB_bd (at' L j).frm l j m (by omega) hbi
          have hgb := within_get hbi m
          have HA : Hid (accB (at' L j).frm l j (m + 1) = if bit (at' L j).frm m then orB (accB (at' L j).frm l j m) (l.getD m 0) else accB (at' L j).frm l j m) := rfl
          rcases hrd with hrd | ⟨b, rfl, hcell⟩
          · have := HBL.out; rw [hrd] at this; simp at this; omega
          have cm := hcell m (by have := HBL.out; omega)
          have hml2 : (m : Int) < (l.length : Int) := by have := HBL.out; omega
          have hor := or_eq _ _ hab.1 hab.2 hgb.1 hgb.2
          clear hcell hgb hab
          generalize accB (at' L j).frm l j m = x at HA hor ⊢
          generalize l.getD m 0 = y at HA hor cm
          cases hb : bit (at' L j).frm m
          · have HD : Hid (accB (at' L j).frm l j (m + 1) = x) := by show _ = _; rw [HA.out, hb]; rfl
            have HBb : Hid (bit (at' L j).frm m = false) := hb
            clear hb HA hor
            go_wp2_with (go_at_call 55; refine (Base.l1Has _ _ _ hfj.1 hfj.2 (by omega) (by omega)).mono ?_; rintro e w' ⟨rfl, rfl⟩; rw [Int.toNat_natCast, HBb.out])
            go_round
            case rel => exact ⟨m + 1, by omega, by go_num, by rw [HD.out]⟩
            case measure => simp [intOf]; omega
          · have HD : Hid (accB (at' L j).frm l j (m + 1) = orB x y) := by show _ = _; rw [HA.out, hb]; rfl
            have HBb : Hid (bit (at' L j).frm m = true) := hb
            have HOr : Hid (bits .or .i64 x y = orB x y) := hor
            clear hb HA hor
            go_wp2_with (go_at_call 55; refine (Base.l1Has _ _ _ hfj.1 hfj.2 (by omega) (by omega)).mono ?_; rintro e w' ⟨rfl, rfl⟩; rw [Int.toNat_natCast, HBb.out])
            go_round
            case rel => exact ⟨m + 1, by omega, by go_num, by rw [HD.out, HOr.out]⟩
            case measure => simp [intOf]; omega
        · obtain rfl : m = j := by omega
          generalize accB (at' L m).frm l m m = x at HS ⊢
          clear hrd c2
          go_wp2_with (at_builtin; refine wpList_append_own _ rfl _ _ 50 rfl w.heap.size 2 i0 (.int .i64 0) 1 8 Tryd.underlying50 hi hz0 hz1 hz2 rfl (by decide) _ _ _ rfl (HOA.out _) ⟨wr.heap.size, 0, none⟩ 1 1 [.int .i64 x] rfl rfl (one_new wr x _) (one_one x) ?c3 ?c4 ?c5 ?_)
          case c3 => unfold maxLen; omega
          case c4 => omega
          case c5 => have := HB.out.size; simp; omega
          intro v' w1 hown' hgrow _
          have R := Memb.rel_put HS.out HB.out.size HO.out HB.out hown' hgrow
          have HO1 : Hid _ := R.1
          have HB1 : Hid _ := R.2.1
          clear hown' hgrow R hown HO HB HOA
          go_wp2
          go_roundw
          case rel => exact ⟨m + 1, by omega, by go_num, HO1, HB1⟩
          case measure => simp [intOf]; omega
    · obtain rfl : j = L.length := by omega
      obtain ⟨bo, bc, hv, hown⟩ := Memb.own_shape HO.out
      have HV : Hid (u3 = .slice bo (belows L L.length).length bc) := hv
      clear hv
      go_wp2
      go_ret
      exact ⟨bo, bc, by rw [← HV.out]; rfl, hown, HB.out⟩

set_option maxHeartbeats 1600000 in
theorem l4Closed (bo : Option Addr) (cap : Nat) (l : List Int) (s : Int) (w : World) (hl : l.length ≤ 60) (h0 : 0 ≤ s) (h1 : s < 1152921504606846976) (hrd : Lst.Rd w bo l) :
    Calls Tryd.prog 86 #[.slice bo l.length cap, .int .i64 s] w fun e w' => e = .returned (.bool (closedTo l s l.length)) ∧ w = w' := by
  go_enter Tryd.func86, Tryd.ntmps86
  go_wp2
  go_loop [5] (fun i => ∃ j : Nat, j ≤ l.length ∧ i = .int .i64 j ∧ Hid (closedTo l s j = true)) (fun i => l.length - (intOf i).toNat)
  case atStart => exact ⟨0, by omega, rfl, rfl⟩
  case round =>
    obtain ⟨j, hj, rfl, HC⟩ := hrel
    by_cases hlt : j < l.length
    · rcases hrd with hrd | ⟨b, rfl, hcell⟩
      · rw [hrd] at hlt; simp at hlt
      have cj := hcell j hlt
      have HST : Hid (closedTo l s (j + 1) = (closedTo l s j && (!bit s j || (bits .andNot .i64 (l.getD j 0) s == 0)))) := closed_step l s j
      have HNO : Hid (bit s j = true → (bits .andNot .i64 (l.getD j 0) s == 0) = false → closedTo l s l.length = false) := closed_no l s j l.length hlt
      clear hcell
      generalize l.getD j 0 = y at HST HNO cj
      cases hb : bit s j
      · have HS : Hid (closedTo l s (j + 1) = true) := by show _ = _; rw [HST.out, HC.out, hb]; rfl
        have HBb : Hid (bit s j = false) := hb
        clear hb HST HNO HC
        go_wp2_with (go_at_call 55; refine (Base.l1Has _ _ _ h0 h1 (by omega) (by omega)).mono ?_; rintro e w' ⟨rfl, rfl⟩; rw [Int.toNat_natCast, HBb.out])
        go_round
        case rel => exact ⟨j + 1, by omega, by go_num, HS⟩
        case measure => simp [intOf]; omega
      · have HBb : Hid (bit s j = true) := hb
        cases hq : (bits .andNot .i64 y s == 0)
        · have HS : Hid (closedTo l s l.length = false) := HNO.out hb hq
          have hq' : (bits .andNot .i64 y s != 0) = true := by rw [bne, hq]; rfl
          clear hb hq HST HNO HC
          go_wp2_with (go_at_call 55; refine (Base.l1Has _ _ _ h0 h1 (by omega) (by omega)).mono ?_; rintro e w' ⟨rfl, rfl⟩; rw [Int.toNat_natCast, HBb.out])
          go_ret
          exact ⟨by rw [HS.out]; rfl, rfl⟩
        · have HS : Hid (closedTo l s (j + 1) = true) := by show _ = _; rw [HST.out, HC.out, hb, hq]; rfl
          have hq' : (bits .andNot .i64 y s != 0) = false := by rw [bne, hq]; rfl
          clear hb hq HST HNO HC
          go_wp2_with (go_at_call 55; refine (Base.l1Has _ _ _ h0 h1 (by omega) (by omega)).mono ?_; rintro e w' ⟨rfl, rfl⟩; rw [Int.toNat_natCast, HBb.out])
          go_round
          case rel => exact ⟨j + 1, by omega, by go_num, HS⟩
          case measure => simp [intOf]; omega
    · obtain rfl : j = l.length := by omega
      go_wp2
      go_ret
      exact ⟨by rw [HC.out]; rfl, rfl⟩

set_option maxHeartbeats 1600000 in
theorem l4Tips (bo : Option Addr) (cap : Nat) (l : List Int) (s : Int) (w : World) (hl : l.length ≤ 60) (h0 : 0 ≤ s) (h1 : s < 1152921504606846976) (hrd : Lst.Rd w bo l) :
    Calls Tryd.prog 72 #[.slice bo l.length cap, .int .i64 s] w fun e w' => e = .returned (.int .i64 (tipsTo l s l.length)) ∧ ∃ n, w' = w.drewN n := by
  go_enter Tryd.func72, Tryd.ntmps72
  go_wp2
  go_loopw [5, 6] (fun o i wr => ∃ j n : Nat, j ≤ l.length ∧ i = .int .i64 j ∧ o = .int .i64 (tipsTo l s j) ∧ wr = w.drewN n) (fun _ i _ => l.length - (intOf i).toNat)
  case atStart => exact ⟨0, 0, by omega, rfl, rfl, rfl⟩
  case round =>
    obtain ⟨j, n, hj, rfl, rfl, rfl⟩ := hrel
    by_cases hlt : j < l.length
    · rcases hrd with hrd | ⟨b, rfl, hcell⟩
      · rw [hrd] at hlt; simp at hlt
      have cj := hcell j hlt
      have HST : Hid (tipsTo l s (j + 1) = if bit s j then bits .andNot .i64 (tipsTo l s j) (bits .andNot .i64 (l.getD j 0) (2 ^ j)) else tipsTo l s j) := rfl
      clear hcell
      generalize l.getD j 0 = y at HST cj
      generalize tipsTo l s j = x at HST ⊢
      cases hb : bit s j
      · have HS : Hid (tipsTo l s (j + 1) = x) := by show _ = _; rw [HST.out, hb]; rfl
        have HBb : Hid (bit s j = false) := hb
        clear hb HST
        go_wp2_with (go_at_call 55; refine (Base.l1Has _ _ _ h0 h1 (by omega) (by omega)).mono ?_; rintro e w' ⟨rfl, rfl⟩; rw [Int.toNat_natCast, HBb.out])
        go_roundw
        case rel => exact ⟨j + 1, n, by omega, by go_num, by rw [HS.out], rfl⟩
        case measure => simp [intOf]; omega
      · have HS : Hid (tipsTo l s (j + 1) = bits .andNot .i64 x (bits .andNot .i64 y (2 ^ j))) := by show _ = _; rw [HST.out, hb]; rfl
        have HBb : Hid (bit s j = true) := hb
        have hcall : ∀ V : World, Calls Tryd.prog 56 #[.int .i64 (j : Int)] V fun e w' => e = .returned (.int .i64 (2 ^ j)) ∧ w' = V := by
          intro V
          refine (Base.l1Bit (j : Int) V (by omega) (by omega)).mono ?_
          rintro e w' ⟨rfl, rfl⟩
          exact ⟨by rw [Int.toNat_natCast], rfl⟩
        clear hb HST
        go_wp2_with (first | (go_at_call 55; refine (Base.l1Has _ _ _ h0 h1 (by omega) (by omega)).mono ?_; rintro e w' ⟨rfl, rfl⟩; rw [Int.toNat_natCast, HBb.out]) | fail)
        go_quiet (first | (go_at_call 56; exact (hcall _).mono fun _ _ h => ⟨h.1, _, h.2⟩))
        go_wp2
        go_roundw
        case rel => exact ⟨j + 1, n + nq, by omega, by go_num, by rw [HS.out], by simp⟩
        case measure => simp [intOf]; omega
    · obtain rfl : j = l.length := by omega
      go_wp2
      go_ret
      exact ⟨rfl, n, rfl⟩

end Sg
end Go.Proofs.YtapfmadnkaimeaaDoor
