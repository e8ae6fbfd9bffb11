/-
  What the program's own Doubled and DoublesOf answer, in the words of DoubM; for lists of knots whose words have at most 2^40 bytes.
-/
import Derived.Test.YtodgkhlnefggdaaGreatDoubM
import Derived.Test.YtodgkhlnefggdaaGreatSightX
import Derived.Test.YtodgkhlnefggdaaGreatFam
namespace Go.Proofs.YtodgkhlnefggdaaGreat
open Go.RowKit
set_option maxRecDepth 100000
namespace Db
open Kn (K okK)
open Bit (bit withB)
open Lc (at' RdK WordsOk laceB setB)
open Sg (isB bel belows seesB)

theorem eqSight (x y : Bool) (W : World) : (binOp .eql 154 (.agg #[.bool x, .bool y]) (.agg #[.bool false, .bool false])).run Tryz.prog W = .ok (.bool (!x && !y)) W := by
  cases x <;> cases y <;> kernel_rfl

theorem twoNew (W : World) (t : TypeId) : ((W.alloc (.cells #[.bool false, .bool false] t)).cell? ⟨W.heap.size, 0, none⟩ = some (.bool false) ∧ (W.alloc (.cells #[.bool false, .bool false] t)).cell? ⟨W.heap.size, 1, none⟩ = some (.bool false)) ∧
    (W.alloc (.cells #[.bool false, .bool false] t)).frozen? ⟨W.heap.size, 0, none⟩ = false ∧ (W.alloc (.cells #[.bool false, .bool false] t)).frozen? ⟨W.heap.size, 1, none⟩ = false := ⟨⟨by simp, by simp⟩, by simp, by simp⟩

set_option maxHeartbeats 800000 in
theorem between (g off cap : Nat) (L : List K) (a b : Int) (w : World) (hlc : laceB L = true) (hg : g < w.heap.size) (hr : RdK w (some ⟨g, off, none⟩) L) :
    Calls Tryz.prog 140 #[.slice (some ⟨g, off, none⟩) L.length cap, .int .i64 a, .int .i64 b] w fun e w' => e = .returned (.agg #[.bool (seesB L a b), .bool (seesB L b a)]) ∧ Below w.heap.size w w' := by
  have hB0 : Below w.heap.size w (w.alloc (.cells #[.bool false, .bool false] 154)) := (Below.refl _ w).alloc (Nat.le_refl _) _
  have hg0 : g < (w.alloc (.cells #[.bool false, .bool false] 154)).heap.size := by simp; omega
  have hr0 := hr.below hB0
  obtain ⟨⟨c0, c1⟩, f0, f1⟩ := twoNew w 154
  have hs0 : w.heap.size < (w.alloc (.cells #[.bool false, .bool false] 154)).heap.size := by simp
  go_enter Tryz.func140, Tryz.ntmps140
  go_wp2_with fail
  generalize w.alloc (.cells #[.bool false, .bool false] 154) = W0 at hB0 hg0 hr0 c0 c1 f0 f1 hs0 ⊢
  refine (Sg.sees g off cap L a b _ hlc hg0 hr0).mono ?_
  rintro e w1 ⟨rfl, hb1⟩
  have hr1 := hr0.below hb1
  have hg1 : g < w1.heap.size := Nat.lt_of_lt_of_le hg0 hb1.size
  go_wp2_with fail
  refine (Sg.sees g off cap L b a _ hlc hg1 hr1).mono ?_
  rintro e w2 ⟨rfl, hb2⟩
  have hb : Below W0.heap.size W0 w2 := hb1.trans (hb2.mono hb1.size)
  have d0 := (hb.cell (p := ⟨w.heap.size, 0, none⟩) hs0).trans c0
  have d1 := (hb.cell (p := ⟨w.heap.size, 1, none⟩) hs0).trans c1
  have e0 := (hb.frozen (p := ⟨w.heap.size, 0, none⟩) hs0).trans f0
  have e1 := (hb.frozen (p := ⟨w.heap.size, 1, none⟩) hs0).trans f1
  have HB : Hid (Below w.heap.size w w2) := hB0.trans (hb.mono (Nat.le_of_lt hs0))
  clear hB0 hg0 hr0 c0 c1 f0 f1 hb1 hr1 hg1 hb2 hb
  generalize hx : seesB L a b = x
  generalize hy : seesB L b a = y
  have HX : Hid (seesB L a b = x ∧ seesB L b a = y) := ⟨hx, hy⟩
  clear hx hy
  go_wp2
  have k0 : ((w2.setCell ⟨w.heap.size, 0, none⟩ (.bool x)).setCell ⟨w.heap.size, 1, none⟩ (.bool y)).cell? ⟨w.heap.size, 0, none⟩ = some (.bool x) :=
    (World.cell?_setCell_other _ _ _ _ (by intro q; injection q with _ q; omega)).trans (World.cell?_setCell_same' _ _ _ (by rw [d0]; rfl))
  have k1 : ((w2.setCell ⟨w.heap.size, 0, none⟩ (.bool x)).setCell ⟨w.heap.size, 1, none⟩ (.bool y)).cell? ⟨w.heap.size, 1, none⟩ = some (.bool y) :=
    World.cell?_setCell_same' _ _ _ (by rw [World.cell?_setCell_other _ _ _ _ (by intro q; injection q with _ q; omega), d1]; rfl)
  refine bodyPost_ret (v := .agg #[.bool x, .bool y]) (by simp [results, Tryz.f140, go_sem, k0, k1]) rfl ?_
  exact ⟨by rw [HX.out.1, HX.out.2], (HB.out.setCell (p := ⟨w.heap.size, 0, none⟩) (Nat.le_refl _) _).setCell (p := ⟨w.heap.size, 1, none⟩) (Nat.le_refl _) _⟩

/-- what the program's doubled asks -/
theorem dbl_sees {L : List K} {a b : Int} (ha : isB L a = true) (hb : isB L b = true) : doubledB L a b = (decide ((at' L a.toNat).hand = (at' L b.toNat).hand) && (!seesB L a b && !seesB L b a)) := by
  unfold doubledB dblN seesB
  rw [ha, hb]; simp

theorem isB_lace {L : List K} (hl : laceB L = true) (k : Int) : isB L k = (decide (0 ≤ k) && decide (k < (L.length : Int))) := by unfold isB; rw [hl]; simp

set_option maxHeartbeats 3200000 in
theorem doubled (g off cap : Nat) (L : List K) (a b : Int) (w : World) (hlc : laceB L = true) (hg : g < w.heap.size) (hr : RdK w (some ⟨g, off, none⟩) L) :
    Calls Tryz.prog 127 #[.slice (some ⟨g, off, none⟩) L.length cap, .int .i64 a, .int .i64 b] w fun e w' => e = .returned (.bool (doubledB L a b)) ∧ Below w.heap.size w w' := by
  have h60 := ((Lc.lace_iff L).1 hlc).1
  have HA : Hid ((Base.okB (2 ^ L.length - 1) && (Base.inB a && bit (2 ^ L.length - 1) a.toNat)) = isB L a) := by show _ = _; rw [isB_lace hlc]; exact Sg.all_has h60 a
  have HC : Hid ((Base.okB (2 ^ L.length - 1) && (Base.inB b && bit (2 ^ L.length - 1) b.toNat)) = isB L b) := by show _ = _; rw [isB_lace hlc]; exact Sg.all_has h60 b
  cases ha : isB L a
  · have HT : Hid (doubledB L a b = false) := by show _ = _; unfold doubledB; rw [ha]; rfl
    have HAF : Hid ((Base.okB (2 ^ L.length - 1) && (Base.inB a && bit (2 ^ L.length - 1) a.toNat)) = false) := HA.out.trans ha
    clear ha HA HC
    go_enter Tryz.func127, Tryz.ntmps127
    go_wp2_with (first | (go_at_call 23; refine (Lc.all _ _ _ _ h60).mono ?_; rintro e w' ⟨rfl, rfl⟩) | (go_at_call 24; refine (Base.has _ _ _).mono ?_; rintro e w' ⟨rfl, rfl⟩; rw [HAF.out]))
    go_quiet (fail)
    go_wp2
    go_ret
    exact ⟨by rw [HT.out]; rfl, Sg.below_drewN (Below.refl _ _) _⟩
  · have HAT : Hid ((Base.okB (2 ^ L.length - 1) && (Base.inB a && bit (2 ^ L.length - 1) a.toNat)) = true) := HA.out.trans ha
    cases hb : isB L b
    · have HT : Hid (doubledB L a b = false) := by show _ = _; unfold doubledB; rw [hb]; simp
      have HCF : Hid ((Base.okB (2 ^ L.length - 1) && (Base.inB b && bit (2 ^ L.length - 1) b.toNat)) = false) := HC.out.trans hb
      clear ha hb HA HC
      go_enter Tryz.func127, Tryz.ntmps127
      go_wp2_with (first | (go_at_call 23; refine (Lc.all _ _ _ _ h60).mono ?_; rintro e w' ⟨rfl, rfl⟩) | (go_at_call 24; refine (Base.has _ _ _).mono ?_; rintro e w' ⟨rfl, rfl⟩; first | rw [HAT.out] | rw [HCF.out]))
      go_quiet (fail)
      go_wp2
      go_ret
      exact ⟨by rw [HT.out]; rfl, Sg.below_drewN (Below.refl _ _) _⟩
    · have HCT : Hid ((Base.okB (2 ^ L.length - 1) && (Base.inB b && bit (2 ^ L.length - 1) b.toNat)) = true) := HC.out.trans hb
      have HT0 : Hid (doubledB L a b = (decide ((at' L a.toNat).hand = (at' L b.toNat).hand) && (!seesB L a b && !seesB L b a))) := dbl_sees ha hb
      obtain ⟨p0, p1, _⟩ := Sg.isB_parts ha
      obtain ⟨q0, q1, _⟩ := Sg.isB_parts hb
      clear ha hb HA HC
      obtain ⟨p, rfl⟩ := Int.eq_ofNat_of_zero_le p0
      obtain ⟨q, rfl⟩ := Int.eq_ofNat_of_zero_le q0
      have hp : p < L.length := by omega
      have hq : q < L.length := by omega
      rw [Int.toNat_natCast, Int.toNat_natCast] at HT0
      rw [Int.toNat_natCast] at HAT HCT
      obtain ⟨_, a0, _, _, _⟩ := hr.on p hp
      obtain ⟨_, b0, _, _, _⟩ := hr.on q hq
      by_cases hh : (at' L p).hand = (at' L q).hand
      · have hh1 : ((at' L p).hand == (at' L q).hand) = true := by simpa using hh
        have HT1 : Hid (doubledB L (p : Int) (q : Int) = (!seesB L (p : Int) (q : Int) && !seesB L (q : Int) (p : Int))) := by show _ = _; rw [HT0.out]; simp [hh]
        have HBW : Hid (∀ W : World, g < W.heap.size → RdK W (some ⟨g, off, none⟩) L → Calls Tryz.prog 140 #[.slice (some ⟨g, off, none⟩) L.length cap, .int .i64 (p : Int), .int .i64 (q : Int)] W fun e w' => e = .returned (.agg #[.bool (seesB L (p : Int) (q : Int)), .bool (seesB L (q : Int) (p : Int))]) ∧ Below W.heap.size W w') := fun W h1 h2 => between g off cap L p q W hlc h1 h2
        have heq := eqSight (seesB L (p : Int) (q : Int)) (seesB L (q : Int) (p : Int))
        generalize seesB L (p : Int) (q : Int) = x at HT1 HBW heq
        generalize seesB L (q : Int) (p : Int) = y at HT1 HBW heq
        clear hh HT0
        have HR : Hid (RdK w (some ⟨g, off, none⟩) L) := hr
        clear hr
        go_enter Tryz.func127, Tryz.ntmps127
        go_wp2_with (first | (go_at_call 23; refine (Lc.all _ _ _ _ h60).mono ?_; rintro e w' ⟨rfl, rfl⟩) | (go_at_call 24; refine (Base.has _ _ _).mono ?_; rintro e w' ⟨rfl, rfl⟩; rw [Int.toNat_natCast]; first | rw [HAT.out] | rw [HCT.out]))
        obtain ⟨X, _, F, HF, HG⟩ := Fam.fam w
        have hc1 : ∀ z, (F z).cell? ⟨g, off + p * 4, none⟩ = some (.int .i64 (at' L p).hand) := fun z => ((HF.out z).cell (p := ⟨g, off + p * 4, none⟩) hg).trans a0
        have hc2 : ∀ z, (F z).cell? ⟨g, off + q * 4, none⟩ = some (.int .i64 (at' L q).hand) := fun z => ((HF.out z).cell (p := ⟨g, off + q * 4, none⟩) hg).trans b0
        clear a0 b0
        refine Fam.region (F := F) (by kernel_rfl) (by kernel_rfl) (HG.out _ (Below.refl _ w).drew) ?_
        repeat (go_big_quiet_step (first
          | (go_at_call 140; exact (HBW.out _ (Nat.lt_of_lt_of_le hg (HF.out _).size) (HR.out.below (HF.out _))).mono fun _ _ h => ⟨h.1, HG.out _ ((HF.out _).trans (h.2.mono (HF.out _).size))⟩)))
        refine wpQuiet_nil ?_
        intro w2 hw2
        obtain ⟨z, rfl⟩ := hw2
        have HB2 : Hid (Below w.heap.size w (F z)) := HF.out z
        go_wp2
        go_ret
        exact ⟨by rw [HT1.out]; rfl, HB2.out⟩
      · have hh1 : ((at' L p).hand == (at' L q).hand) = false := by simpa using hh
        have HT1 : Hid (doubledB L (p : Int) (q : Int) = false) := by show _ = _; rw [HT0.out]; simp [hh]
        clear hh HT0
        go_enter Tryz.func127, Tryz.ntmps127
        go_wp2_with (first | (go_at_call 23; refine (Lc.all _ _ _ _ h60).mono ?_; rintro e w' ⟨rfl, rfl⟩) | (go_at_call 24; refine (Base.has _ _ _).mono ?_; rintro e w' ⟨rfl, rfl⟩; rw [Int.toNat_natCast]; first | rw [HAT.out] | rw [HCT.out]))
        go_quiet (fail)
        go_wp2
        go_ret
        exact ⟨by rw [HT1.out]; rfl, Sg.below_drewN (Below.refl _ _) _⟩

/-- those found so far -/
theorem dbl_step {L : List K} {a : Int} (ha : isB L a = true) (n : Nat) (hn : n < L.length) (hl : laceB L = true) : dblS L a.toNat (n + 1) = if doubledB L a (n : Int) then withB (dblS L a.toNat n) n else dblS L a.toNat n := by
  have hb : isB L (n : Int) = true := by rw [isB_lace hl]; simp; omega
  unfold doubledB
  rw [ha, hb, Bool.true_and, Bool.true_and, Int.toNat_natCast]; rfl

set_option maxHeartbeats 1600000 in
theorem doubles (g off cap : Nat) (L : List K) (a : Int) (w : World) (hlc : laceB L = true) (ha : isB L a = true) (hg : g < w.heap.size) (hr : RdK w (some ⟨g, off, none⟩) L) :
    Calls Tryz.prog 109 #[.slice (some ⟨g, off, none⟩) L.length cap, .int .i64 a] w fun e w' => e = .returned (.int .i64 (dblS L a.toNat L.length)) ∧ Below w.heap.size w w' := by
  have h60 := ((Lc.lace_iff L).1 hlc).1
  go_enter Tryz.func109, Tryz.ntmps109
  go_wp2
  go_loopw [5, 9] (fun o i wr => ∃ j : Nat, j ≤ L.length ∧ i = .int .i64 j ∧ o = .int .i64 (dblS L a.toNat j) ∧ Hid (Below w.heap.size w wr)) (fun _ i _ => L.length - (intOf i).toNat)
  case atStart => exact ⟨0, by omega, rfl, rfl, Below.refl _ _⟩
  case round =>
    obtain ⟨j, hj, rfl, rfl, HB⟩ := hrel
    by_cases hlt : j < L.length
    · have HS : Hid (dblS L a.toNat (j + 1) = if doubledB L a (j : Int) then withB (dblS L a.toNat j) j else dblS L a.toNat j) := dbl_step ha j hlt hlc
      have hbd := dblS_bd L a.toNat j (by omega)
      have HW : Hid (Base.withI (dblS L a.toNat j) (j : Int) = withB (dblS L a.toNat j) j) := by
        show _ = _
        unfold Base.withI
        rw [(Base.okB_iff _).2 hbd, (Base.inB_iff _).2 ⟨by omega, by omega⟩]; simp
      have hg1 : g < wr.heap.size := Nat.lt_of_lt_of_le hg HB.out.size
      have hcall := doubled g off cap L a (j : Int) wr hlc hg1 (hr.below HB.out)
      clear hbd
      generalize dblS L a.toNat j = x at HS HW ⊢
      go_wp2_with fail
      refine hcall.mono ?_
      rintro e w1 ⟨rfl, hb1⟩
      have HB1 : Hid (Below w.heap.size w w1) := HB.out.trans (hb1.mono HB.out.size)
      clear hcall hb1 HB hg1
      cases hd : doubledB L a (j : Int)
      · have HD : Hid (dblS L a.toNat (j + 1) = x) := by show _ = _; rw [HS.out, hd]; rfl
        clear hd HS HW
        go_wp2
        go_roundw
        case rel => exact ⟨j + 1, by omega, by go_num, by rw [HD.out], HB1⟩
        case measure => simp [intOf]; omega
      · have HD : Hid (dblS L a.toNat (j + 1) = withB x j) := by show _ = _; rw [HS.out, hd]; rfl
        clear hd HS
        go_wp2_with (go_at_call 83; refine (Base.withM _ _ _).mono ?_; rintro e w' ⟨rfl, rfl⟩; rw [HW.out])
        go_roundw
        case rel => exact ⟨j + 1, by omega, by go_num, by rw [HD.out], HB1⟩
        case measure => simp [intOf]; omega
    · obtain rfl : j = L.length := by omega
      go_wp2
      go_ret
      exact ⟨rfl, HB.out⟩

end Db
end Go.Proofs.YtodgkhlnefggdaaGreat
