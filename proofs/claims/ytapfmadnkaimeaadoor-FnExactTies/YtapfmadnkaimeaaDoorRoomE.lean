/-
  What the model's draft of a knot answers: the knot of the round that is next, hanging on the tips of all that the hand has of lesser rounds; for laces of at most 60 knots, their hands 0 to 3.
-/
import Derived.Test.YtapfmadnkaimeaaDoorRoomD
import Derived.Test.YtapfmadnkaimeaaDoorKnotM
import Derived.Deep.DeepCutAuto
namespace Go.Proofs.YtapfmadnkaimeaaDoor
open Go.RowKit
set_option maxRecDepth 100000
namespace Rm
open Kn (K okK Zero)
open Bit (bit withB)
open Lc (at' RdK HandsOk amongI)

theorem draft_no {L : List K} {l : List Int} {who has last : Int} {word : ByteArray} {w w' : World} (h : draftB L l who has last word = false) (hb : Below w.heap.size w w') : DraftPost L l who has last word w (.returned (.tuple #[.agg #[.int .i64 0, .int .i64 0, .int .i64 0, .string ⟨#[]⟩], .bool false])) w' := ⟨.inr ⟨h, rfl⟩, hb⟩
theorem draft_yes {L : List K} {l : List Int} {who has last : Int} {word : ByteArray} {w w' : World} {k : K} (h : draftB L l who has last word = true) (hk : draftK L l who has last word = k) (hb : Below w.heap.size w w') : DraftPost L l who has last word w (.returned (.tuple #[.agg #[.int .i64 k.hand, .int .i64 k.round, .int .i64 k.frm, .string k.word], .bool true])) w' := by
  subst hk; exact ⟨.inl ⟨h, rfl⟩, hb⟩

theorem dr_put {w V : World} {kb : Nat} {who has r f : Int} {word : ByteArray} (h : DrSt w V kb who has r f word) (n : Nat) (x : Int) : DrSt w ((V.drewN n).setCell ⟨kb, 2, none⟩ (.int .i64 x)) kb who has r x word where
  bel := ⟨h.bel.os, h.bel.tape, h.bel.output, by have := h.bel.size; simpa using this, fun k hk => (Below.heap_setCell (V.drewN n) ⟨kb, 2, none⟩ (.int .i64 x) k (by have := h.gt; show k ≠ kb; omega)).trans (h.bel.block k hk)⟩
  z := by
    have hz : Zero (w.heap.size + 1) (V.drewN n) := ⟨h.z.lt, h.z.r0, h.z.r1, h.z.r2, h.z.r3, h.z.f0, h.z.f1, h.z.f2, h.z.f3⟩
    exact zero_put' hz (by have := h.gt; omega) _ _
  h1 := (World.cell?_setCell_other _ _ _ _ (by intro e; injection e with e _; have := h.gt; omega)).trans h.h1
  k0 := (World.cell?_setCell_other _ _ _ _ (by simp)).trans h.k0
  k1 := (World.cell?_setCell_other _ _ _ _ (by simp)).trans h.k1
  k2 := World.cell?_setCell_same _ _ _ (show (V.drewN n).cell? ⟨kb, 2, none⟩ = _ from h.k2)
  k3 := (World.cell?_setCell_other _ _ _ _ (by simp)).trans h.k3
  f2 := by simpa using h.f2
  lt := by simpa using h.lt
  gt := h.gt

theorem has_call' (f : Int) (i : Nat) (b : Bool) (h0 : 0 ≤ f) (h1 : f < 1152921504606846976) (hi : i ≤ 60) (hb : bit f i = b) (W : World) : Calls Tryd.prog 55 #[.int .i64 f, .int .i64 (i : Int)] W fun e w' => e = .returned (.bool b) ∧ w' = W := has_call f i b h0 h1 hi hb W

set_option maxHeartbeats 25600000 in
theorem l14Draft (ao : Option Addr) (cap : Nat) (L : List K) (bo : Option Addr) (bc : Nat) (l : List Int) (who has kept last : Int) (word : ByteArray) (w : World) (hL : L.length ≤ 60) (hll : l.length = L.length) (hh : HandsOk L) (hr : RdK w ao L) (hrd : Lst.Rd w bo l) (hbo : ∀ g, bo = some ⟨g, 0, none⟩ → g < w.heap.size) (h0 : 0 ≤ has) (h1 : has < 1152921504606846976) (hl : last < (L.length : Int)) (hwd : word.size ≤ 1099511627776) :
    Calls Tryd.prog 39 #[.slice ao L.length cap, .slice bo l.length bc, .agg #[.int .i64 who, .int .i64 has, .int .i64 kept, .int .i64 last], .string word] w (DraftPost L l who has last word w) := by
  have P0 : Hid (Below w.heap.size w ((w.alloc (.cells #[.int .i64 who, .int .i64 has, .int .i64 kept, .int .i64 last] 26)).alloc (.cells #[.int .i64 0, .int .i64 0, .int .i64 0, .string ⟨#[]⟩] 38)) ∧
      Zero (w.heap.size + 1) ((w.alloc (.cells #[.int .i64 who, .int .i64 has, .int .i64 kept, .int .i64 last] 26)).alloc (.cells #[.int .i64 0, .int .i64 0, .int .i64 0, .string ⟨#[]⟩] 38)) ∧
      (∀ j v, (#[Value.int .i64 who, .int .i64 has, .int .i64 kept, .int .i64 last])[j]? = some v → ((w.alloc (.cells #[.int .i64 who, .int .i64 has, .int .i64 kept, .int .i64 last] 26)).alloc (.cells #[.int .i64 0, .int .i64 0, .int .i64 0, .string ⟨#[]⟩] 38)).cell? ⟨w.heap.size, j, none⟩ = some v)) := by
    refine ⟨((Below.refl _ w).alloc (Nat.le_refl _) _).alloc (by simp) _, ?_, ?_⟩
    · have := Kn.zero_new (w.alloc (.cells #[.int .i64 who, .int .i64 has, .int .i64 kept, .int .i64 last] 26)) 38
      simpa using this
    · intro j v hj
      rw [World.cell?_alloc_lt _ _ ⟨w.heap.size, j, none⟩ (by simp), World.cell?_alloc_new]
      exact hj
  have HLL : Hid (l.length = L.length) := hll
  have hl60 : l.length ≤ 60 := by omega
  clear hll
  go_enter Tryd.func39, Tryd.ntmps39
  go_wp2_with fail
  generalize (w.alloc (.cells #[.int .i64 who, .int .i64 has, .int .i64 kept, .int .i64 last] 26)).alloc (.cells #[.int .i64 0, .int .i64 0, .int .i64 0, .string ⟨#[]⟩] 38) = w0 at P0 ⊢
  obtain ⟨B0, Z0, C0⟩ := P0
  have d0 := C0 0 _ rfl
  have d1 := C0 1 _ rfl
  have d2 := C0 2 _ rfl
  have d3 := C0 3 _ rfl
  have HR0 : Hid (RdK w0 ao L) := hr.below B0
  have HB0 : Hid (Below w.heap.size w w0) := B0
  have HZ0 : Hid (Zero (w.heap.size + 1) w0) := Z0
  have hlt0 : w.heap.size < w0.heap.size := Nat.lt_trans (Nat.lt_succ_self _) Z0.lt
  clear C0 B0 Z0
  have hlt1 : w.heap.size < w0.drew.heap.size := hlt0
  go_cut [10] (fun kp wx => ∃ kb : Nat, kp = .pointer (some ⟨kb, 0, none⟩) ∧ Hid (DrSt w wx kb who has (nextI L has last) 0 word))
  case first =>
    go_region_with (go_at_call 34; refine (l14Next ao cap L who has kept last _ hL hh (by first | exact HR0.out.drew | exact (HR0.out.below ((Below.refl _ _).alloc (Nat.le_refl _) _)).drew | exact HR0.out.drew.below ((Below.refl _ _).alloc (Nat.le_refl _) _)) h0 h1 hl).mono ?_; rintro e wN ⟨rfl, bN⟩; (first | have BN := keepC bN | have BN := keepB bN | have BN := keepA bN); (first | have ZN := keepZ bN | have ZN := keepZ' bN | skip); have hltN := Nat.lt_of_lt_of_le hlt0 BN.size; have dN0 := (BN.cell (p := ⟨w.heap.size, 0, none⟩) hlt0).trans d0; (first | (have zr0 := ZN.r0; have zr1 := ZN.r1; have zr2 := ZN.r2; have zr3 := ZN.r3; have zf0 := ZN.f0; have zf1 := ZN.f1; have zf2 := ZN.f2; have zf3 := ZN.f3) | skip))
    all_goals (go_wp2_with fail)
    all_goals
      first
        | (have S : DrSt w (wN.alloc (.cells #[.int .i64 who, .int .i64 (nextI L has last), .int .i64 0, .string word] 38)) wN.heap.size who has (nextI L has last) 0 word := drA HB0.out HZ0.out BN d1 _ _ _ _
           go_meet
           exact ⟨_, rfl, S⟩)
        | (have S : DrSt w ((((wN.setCell ⟨w0.heap.size, 0, none⟩ (.int .i64 who)).setCell ⟨w0.heap.size, 1, none⟩ (.int .i64 (nextI L has last))).setCell ⟨w0.heap.size, 2, none⟩ (.int .i64 0)).setCell ⟨w0.heap.size, 3, none⟩ (.string word)) w0.heap.size who has (nextI L has last) 0 word := drB HB0.out HZ0.out BN d1 ZN _ _ _
           go_meet
           exact ⟨_, rfl, S⟩)
  case rest =>
    obtain ⟨kb, rfl, HS⟩ := hcut
    have k1 := HS.out.k1
    clear d0 d1 d2 d3 HR0 HB0 HZ0 hlt0 hlt1
    by_cases hneg : nextI L has last < 0
    · have HT : Hid (draftB L l who has last word = false) := by show _ = _; unfold draftB; rw [decide_eq_false (by omega)]; rfl
      have Z := HS.out.z
      have zf0 := Z.f0
      have zf1 := Z.f1
      have zf2 := Z.f2
      have zf3 := Z.f3
      have zr0 := Z.r0
      have zr1 := Z.r1
      have zr2 := Z.r2
      have zr3 := Z.r3
      have HQ : Hid _ := Z.put (.int .i64 0) (.int .i64 0) (.int .i64 0) (.string ⟨#[]⟩)
      have HBE : Hid _ := below_rb HS.out.bel (.int .i64 0) (.int .i64 0) (.int .i64 0) (.string ⟨#[]⟩)
      clear Z
      go_wp2
      obtain ⟨q0, q1, q2, q3⟩ := HQ.out
      exact bodyPost_ret (v := .tuple #[.agg #[.int .i64 0, .int .i64 0, .int .i64 0, .string ⟨#[]⟩], .bool false]) (by simp [results, Tryd.results39, go_sem, q0, q1, q2, q3]) rfl (draft_no HT.out HBE.out)
    · have HK : Hid (draftB L l who has last word = okK ⟨who, nextI L has last, Sg.tipsTo l (draftS L has (nextI L has last)) l.length, word⟩) := by show _ = _; unfold draftB; rw [decide_eq_true (show 0 ≤ nextI L has last by omega)]; rfl
      have HKK : Hid (draftK L l who has last word = ⟨who, nextI L has last, Sg.tipsTo l (draftS L has (nextI L has last)) l.length, word⟩) := rfl
      have HRV : Hid (RdK wc ao L) := hr.below HS.out.bel
      have HLV : Hid (Lst.Rd wc bo l) := by
        rcases hrd with h | ⟨g, hg, hc⟩
        · exact .inl h
        · exact .inr ⟨g, hg, fun j hj => (HS.out.bel.cell (p := ⟨g, j, none⟩) (hbo g hg)).trans (hc j hj)⟩
      generalize nextI L has last = r at HS HK HKK k1 hneg ⊢
      have hh1 := HS.out.h1
      go_wp2
      go_loopw [11, 12] (fun o i wr => ∃ j n : Nat, j ≤ L.length ∧ i = .int .i64 j ∧ o = .int .i64 (amongI (fun y => decide (y.round < r)) L has j) ∧ wr = wc.drewN n) (fun _ i _ => L.length - (intOf i).toNat)
      case atStart => exact ⟨0, 0, by omega, rfl, rfl, rfl⟩
      case round =>
        obtain ⟨j, n, hj, rfl, rfl, rfl⟩ := hrel
        by_cases hlt : j < L.length
        · have hbd := Lc.among_bd (fun y => decide (y.round < r)) L has j (by omega)
          have HA : Hid (amongI (fun y => decide (y.round < r)) L has (j + 1) = if bit has j && decide ((at' L j).round < r) then withB (amongI (fun y => decide (y.round < r)) L has j) j else amongI (fun y => decide (y.round < r)) L has j) := rfl
          have HW : Hid (bits .or .i64 (amongI (fun y => decide (y.round < r)) L has j) (2 ^ j) = withB (amongI (fun y => decide (y.round < r)) L has j) j) := Base.shl_or _ j hbd.1 hbd.2 (by omega)
          obtain ⟨g, off, hao, hg, hc⟩ := HRV.out.at j hlt
          subst hao
          obtain ⟨_, e1, _, _⟩ := hc
          clear hbd
          generalize amongI (fun y => decide (y.round < r)) L has j = x at HA HW ⊢
          cases hb : bit has j
          · have HD : Hid (amongI (fun y => decide (y.round < r)) L has (j + 1) = x) := by show _ = _; rw [HA.out, hb]; rfl
            have hcall := has_call' has j false h0 h1 (by omega) hb
            clear hb HA HW
            go_wp2_with fail
            go_quiet (first | (go_at_call 55; exact (hcall _).mono fun _ _ h => ⟨h.1, _, h.2⟩))
            go_wp2
            go_roundw
            case rel => exact ⟨j + 1, n + nq, by omega, by go_num, by rw [HD.out], by simp⟩
            case measure => simp [intOf]; omega
          · have hcall := has_call' has j true h0 h1 (by omega) hb
            by_cases hq : (at' L j).round < r
            · have HD : Hid (amongI (fun y => decide (y.round < r)) L has (j + 1) = withB x j) := by show _ = _; rw [HA.out, hb]; simp [hq]
              clear hb HA
              go_wp2_with fail
              go_quiet (first | (go_at_call 55; exact (hcall _).mono fun _ _ h => ⟨h.1, _, h.2⟩))
              go_wp2_with (go_at_call 56; refine (Base.l1Bit _ _ (by omega) (by omega)).mono ?_; rintro e w' ⟨rfl, rfl⟩; rw [Int.toNat_natCast])
              go_roundw
              case rel => exact ⟨j + 1, n + nq, by omega, by go_num, by rw [HD.out, HW.out], by simp⟩
              case measure => simp [intOf]; omega
            · have HD : Hid (amongI (fun y => decide (y.round < r)) L has (j + 1) = x) := by show _ = _; rw [HA.out, hb]; simp [hq]
              have hq1 : decide ((at' L j).round < r) = false := decide_eq_false hq
              clear hb HA HW
              go_wp2_with fail
              go_quiet (first | (go_at_call 55; exact (hcall _).mono fun _ _ h => ⟨h.1, _, h.2⟩))
              go_wp2
              go_roundw
              case rel => exact ⟨j + 1, n + nq, by omega, by go_num, by rw [HD.out], by simp⟩
              case measure => simp [intOf]; omega
        · obtain rfl : j = L.length := by omega
          have hsb := Lc.among_bd (fun y => decide (y.round < r)) L has L.length hL
          go_wp2_with fail
          refine (Sg.l4Tips bo bc l _ _ hl60 hsb.1 hsb.2 (Lst_drewN HLV.out n)).mono ?_
          rintro e w3 ⟨rfl, n3, rfl⟩
          have HSt : Hid (DrSt w ((wc.drewN (n + n3)).setCell ⟨kb, 2, none⟩ (.int .i64 (Sg.tipsTo l (amongI (fun y => decide (y.round < r)) L has L.length) l.length))) kb who has r (Sg.tipsTo l (amongI (fun y => decide (y.round < r)) L has L.length) l.length) word) := dr_put HS.out _ _
          have HKe : Hid (draftB L l who has last word = okK ⟨who, r, Sg.tipsTo l (amongI (fun y => decide (y.round < r)) L has L.length) l.length, word⟩) := HK.out
          have HKKe : Hid (draftK L l who has last word = ⟨who, r, Sg.tipsTo l (amongI (fun y => decide (y.round < r)) L has L.length) l.length, word⟩) := HKK.out
          have q0 := HS.out.k0
          have q2 := HS.out.k2
          have q3 := HS.out.k3
          have qf := HS.out.f2
          clear hsb HK HKK
          rw [World.drewN_drewN]
          generalize Sg.tipsTo l (amongI (fun y => decide (y.round < r)) L has L.length) l.length = tp at HSt HKe HKKe ⊢
          generalize amongI (fun y => decide (y.round < r)) L has L.length = sp
          go_wp2_with fail
          generalize (wc.drewN (n + n3)).setCell ⟨kb, 2, none⟩ (.int .i64 tp) = V5 at HSt ⊢
          clear q0 q2 q3 qf HS HRV HLV hh1 k1
          refine (Kn.specKnotOk who r tp word _ hwd).mono ?_
          rintro e w6 ⟨rfl, hb6⟩
          have Z := HSt.out.z.below hb6
          have zf0 := Z.f0
          have zf1 := Z.f1
          have zf2 := Z.f2
          have zf3 := Z.f3
          have zr0 := Z.r0
          have zr1 := Z.r1
          have zr2 := Z.r2
          have zr3 := Z.r3
          have B6 := HSt.out.bel.trans (hb6.mono HSt.out.bel.size)
          cases hok : okK ⟨who, r, tp, word⟩
          · have HT : Hid (draftB L l who has last word = false) := HKe.out.trans hok
            have HQ : Hid _ := Z.put (.int .i64 0) (.int .i64 0) (.int .i64 0) (.string ⟨#[]⟩)
            have HBE : Hid _ := below_rb B6 (.int .i64 0) (.int .i64 0) (.int .i64 0) (.string ⟨#[]⟩)
            clear Z hok HSt hb6 B6
            go_wp2
            obtain ⟨y0, y1, y2, y3⟩ := HQ.out
            exact bodyPost_ret (v := .tuple #[.agg #[.int .i64 0, .int .i64 0, .int .i64 0, .string ⟨#[]⟩], .bool false]) (by simp [results, Tryd.results39, go_sem, y0, y1, y2, y3]) rfl (draft_no HT.out HBE.out)
          · have HT : Hid (draftB L l who has last word = true) := HKe.out.trans hok
            have hkl := HSt.out.lt
            have m0 := (hb6.cell (p := ⟨kb, 0, none⟩) hkl).trans HSt.out.k0
            have m1 := (hb6.cell (p := ⟨kb, 1, none⟩) hkl).trans HSt.out.k1
            have m2 := (hb6.cell (p := ⟨kb, 2, none⟩) hkl).trans HSt.out.k2
            have m3 := (hb6.cell (p := ⟨kb, 3, none⟩) hkl).trans HSt.out.k3
            have HQ : Hid _ := Z.put (.int .i64 who) (.int .i64 r) (.int .i64 tp) (.string word)
            have HBE : Hid _ := below_rb B6 (.int .i64 who) (.int .i64 r) (.int .i64 tp) (.string word)
            clear Z hok HSt hb6 B6
            go_wp2
            obtain ⟨y0, y1, y2, y3⟩ := HQ.out
            exact bodyPost_ret (v := .tuple #[.agg #[.int .i64 who, .int .i64 r, .int .i64 tp, .string word], .bool true]) (by simp [results, Tryd.results39, go_sem, y0, y1, y2, y3]) rfl (draft_yes HT.out HKKe.out HBE.out)

end Rm
end Go.Proofs.YtapfmadnkaimeaaDoor
