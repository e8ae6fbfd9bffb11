/-
  What the program's HandOk, Keeps and Forgets answer: as the model's; the variable errNoHand holds an error of errors.New's make.
-/
import Derived.Test.YtmhcbmcfhopiiaaDoorHaC
namespace Go.Proofs.YtmhcbmcfhopiiaaDoor
open Go.RowKit
set_option maxRecDepth 100000
set_option linter.unusedVariables false
namespace Rm
open Kn (K okK)
open Bit (bit withB)
open Lc (at' RdK laceB WordsOk)
open Sg (bel belows closedTo orB)

set_option maxHeartbeats 1600000 in
theorem implHandOk (g off cap : Nat) (L : List K) (h : Hd) (a : Addr) (w : World) (hlen : L.length ≤ 1099511627776) (hw : WordsOk L) (hk : H64 h) (hr : RdK w (some ⟨g, off, none⟩) L) (hn : NoH w a) :
    Calls Tryd.prog 12 #[.slice (some ⟨g, off, none⟩) L.length cap, .agg #[.int .i64 h.who, .int .i64 h.has, .int .i64 h.kept, .int .i64 h.last]] w fun e w' => e = .returned (.bool (handOkB L h)) ∧ Below w.heap.size w w' := by
  have P0 : Hid (Below w.heap.size w (w.alloc (.cells #[.int .i64 h.who, .int .i64 h.has, .int .i64 h.kept, .int .i64 h.last] 29)) ∧ HAt (w.alloc (.cells #[.int .i64 h.who, .int .i64 h.has, .int .i64 h.kept, .int .i64 h.last] 29)) w.heap.size 0 h) := ⟨(Below.refl _ _).alloc (Nat.le_refl _) _, hat_new w h _⟩
  go_enter Tryd.func12, Tryd.ntmps12
  go_upto_region 1 with fail
  generalize w.alloc (.cells #[.int .i64 h.who, .int .i64 h.has, .int .i64 h.kept, .int .i64 h.last] 29) = V at P0 ⊢
  have HB0 : Hid (Below w.heap.size w V) := P0.out.1
  obtain ⟨a0, a1, a2, a3⟩ := cellsH P0.out.2
  have ho := ownerOf g off cap L h a V hlen hw hk (hr.below HB0.out) (hn.below HB0.out)
  clear P0 hr hn
  go_wp2_with fail
  refine ho.mono ?_
  clear ho
  intro e w1 hp
  rcases hp with ⟨hl, g1, rfl, hg1, hr1, hb1⟩ | ⟨hl, rfl, hb1⟩
  all_goals
    have HT : Hid (handOkB L h = _) := hl
    have HB1 : Hid (Below w.heap.size w w1) := HB0.out.trans (hb1.mono HB0.out.size)
    clear hl hb1 HB0
    go_wp2
    go_ret
    exact ⟨by rw [HT.out]; rfl, HB1.out.alloc HB1.out.size _⟩

theorem last_same {L : List K} {who s t : Int} (hs : ∀ i, (at' L i).hand = who → bit s i = bit t i) : ∀ n, lastTo L who s n = lastTo L who t n := by
  intro n
  induction n with
  | zero => rfl
  | succ n ih =>
    have e1 : lastTo L who s (n + 1) = if bit s n && (decide ((at' L n).hand = who) && (decide (lastTo L who s n < 0) || decide ((at' L (lastTo L who s n).toNat).round < (at' L n).round))) then (n : Int) else lastTo L who s n := rfl
    have e2 : lastTo L who t (n + 1) = if bit t n && (decide ((at' L n).hand = who) && (decide (lastTo L who t n < 0) || decide ((at' L (lastTo L who t n).toNat).round < (at' L n).round))) then (n : Int) else lastTo L who t n := rfl
    rw [e1, e2, ih]
    by_cases hq : (at' L n).hand = who
    · rw [hs n hq]
    · rw [decide_eq_false hq]; simp
theorem last_own {L : List K} {h : Hd} (hk : H64 h) (ok : handOkB L h = true) : lastTo L h.who h.has L.length = h.last := by
  have x := hand_is hk ok
  rw [x.last]
  refine last_same (fun i hi => ?_) L.length
  rw [Bool.eq_iff_iff]
  exact ⟨fun hb => x.own i hb hi, fun hb => x.sub i hb⟩

set_option maxHeartbeats 3200000 in
theorem settledKeeps (g off cap : Nat) (L : List K) (h : Hd) (a : Addr) (w : World) (hlen : L.length ≤ 1099511627776) (hw : WordsOk L) (hk : H64 h) (hr : RdK w (some ⟨g, off, none⟩) L) (hn : NoH w a) :
    Calls Tryd.prog 35 #[.slice (some ⟨g, off, none⟩) L.length cap, .agg #[.int .i64 h.who, .int .i64 h.has, .int .i64 h.kept, .int .i64 h.last], .func (.func 36) #[] #[]] w fun e w' => e = .returned (.agg #[.int .i64 (keptH L h).who, .int .i64 (keptH L h).has, .int .i64 (keptH L h).kept, .int .i64 (keptH L h).last]) ∧ Below w.heap.size w w' := by
  have P0 : Hid (HzO w ((w.alloc (.cells #[.int .i64 h.who, .int .i64 h.has, .int .i64 h.kept, .int .i64 h.last] 29)).alloc (.cells #[.int .i64 0, .int .i64 0, .int .i64 0, .int .i64 0] 29)) h ⟨0, 0, 0, 0⟩) := hzo_new w h _
  go_enter Tryd.func35, Tryd.ntmps35
  go_upto_region 1 with fail
  generalize (w.alloc (.cells #[.int .i64 h.who, .int .i64 h.has, .int .i64 h.kept, .int .i64 h.last] 29)).alloc (.cells #[.int .i64 0, .int .i64 0, .int .i64 0, .int .i64 0] 29) = V at P0 ⊢
  obtain ⟨a0, a1, a2, a3⟩ := cellsH P0.out.hh
  have ho := ownerOf g off cap L h a V hlen hw hk (hr.below P0.out.bel) (hn.below P0.out.bel)
  clear hr hn
  go_wp2_with fail
  refine ho.mono ?_
  clear ho a0 a1 a2 a3
  intro e w1 hp
  rcases hp with ⟨hl, g1, rfl, hg1, hr1, hb1⟩ | ⟨hl, rfl, hb1⟩
  · have HT : Hid (keptH L h = ⟨h.who, h.has, h.has, h.last⟩) := by
      show _ = _
      unfold keptH
      rw [if_pos hl]; rw [last_own hk hl]
    have P1 : Hid (HzO w w1 h ⟨0, 0, 0, 0⟩) := P0.out.below hb1
    have HQ : Hid (HzO w (w1.alloc (.cells #[.slice (some ⟨g1, 0, none⟩) L.length L.length, .int .i64 h.who, .int .i64 h.has, .int .i64 h.kept, .int .i64 h.last] 52)) h ⟨0, 0, 0, 0⟩ ∧ Ow (w1.alloc (.cells #[.slice (some ⟨g1, 0, none⟩) L.length L.length, .int .i64 h.who, .int .i64 h.has, .int .i64 h.kept, .int .i64 h.last] 52)) w1.heap.size (.slice (some ⟨g1, 0, none⟩) L.length L.length) (.int .i64 h.who) (.int .i64 h.has) (.int .i64 h.kept) (.int .i64 h.last)) := ⟨P1.out.below ((Below.refl _ _).alloc (Nat.le_refl _) _), ow_new w1 _ _ _ _ _ _⟩
    clear hl hb1 P0 P1
    go_upto_region 2 with fail
    generalize w1.alloc (.cells #[.slice (some ⟨g1, 0, none⟩) L.length L.length, .int .i64 h.who, .int .i64 h.has, .int .i64 h.kept, .int .i64 h.last] 52) = V2 at HQ ⊢
    have P2 : Hid (HzO w V2 h ⟨0, 0, 0, 0⟩) := HQ.out.1
    obtain ⟨_, x0, x1, x2, x3, x4, _, _, _, _, _⟩ := HQ.out.2
    clear HQ
    generalize w1.heap.size = xb at x0 x1 x2 x3 x4 ⊢
    go_wp2_with fail
    refine (keeps g1 L.length L.length h _).mono ?_
    rintro e w3 ⟨rfl, hb3⟩
    have P3 : Hid (HzO w w3 h ⟨0, 0, 0, 0⟩) := P2.out.below hb3
    clear P2 hb3 x0 x1 x2 x3 x4
    go_wp2_with fail
    refine (handedOut _ ⟨h.who, h.has, h.has, h.last⟩ _).mono ?_
    rintro e w4 ⟨rfl, hb4⟩
    have P4 : Hid (HzO w w4 h ⟨0, 0, 0, 0⟩) := P3.out.below hb4
    clear P3 hb4
    obtain ⟨W, hW, b0, b1, b2, b3, hB⟩ := P4.out.put ⟨h.who, h.has, h.has, h.last⟩
    have HW : Hid (W = _) := hW
    obtain ⟨z0, z1, z2, z3⟩ := cellsH P4.out.zz
    have f0 := P4.out.zz.f0
    have f1 := P4.out.zz.f1
    have f2 := P4.out.zz.f2
    have f3 := P4.out.zz.f3
    simp only [Nat.zero_add] at f1 f2 f3
    dsimp only at b0 b1 b2 b3 HW
    clear hW
    go_wp2
    rw [← HW.out]
    refine bodyPost_ret (v := .agg #[.int .i64 h.who, .int .i64 h.has, .int .i64 h.has, .int .i64 h.last]) (by simp [results, Tryd.f35, go_sem, b0, b1, b2, b3]) rfl ?_
    exact ⟨by rw [HT.out], hB⟩
  · have HT : Hid (keptH L h = ⟨0, 0, 0, 0⟩) := by
      show _ = _
      unfold keptH
      rw [hl]; rfl
    have P1 : Hid (HzO w w1 h ⟨0, 0, 0, 0⟩) := P0.out.below hb1
    have HQ : Hid (HzO w (w1.alloc (.cells #[.slice none 0 0, .int .i64 0, .int .i64 0, .int .i64 0, .int .i64 0] 52)) h ⟨0, 0, 0, 0⟩) := P1.out.below ((Below.refl _ _).alloc (Nat.le_refl _) _)
    clear hl hb1 P0 P1
    go_upto_region 2 with fail
    generalize w1.alloc (.cells #[.slice none 0 0, .int .i64 0, .int .i64 0, .int .i64 0, .int .i64 0] 52) = V2 at HQ ⊢
    obtain ⟨W, hW, b0, b1, b2, b3, hB⟩ := HQ.out.put ⟨0, 0, 0, 0⟩
    have HW : Hid (W = _) := hW
    obtain ⟨z0, z1, z2, z3⟩ := cellsH HQ.out.zz
    have f0 := HQ.out.zz.f0
    have f1 := HQ.out.zz.f1
    have f2 := HQ.out.zz.f2
    have f3 := HQ.out.zz.f3
    simp only [Nat.zero_add] at f1 f2 f3
    dsimp only at b0 b1 b2 b3 HW
    clear hW
    go_wp2
    rw [← HW.out]
    refine bodyPost_ret (v := .agg #[.int .i64 0, .int .i64 0, .int .i64 0, .int .i64 0]) (by simp [results, Tryd.f35, go_sem, b0, b1, b2, b3]) rfl ?_
    exact ⟨by rw [HT.out], hB⟩

set_option maxHeartbeats 1600000 in
theorem implKeeps (g off cap : Nat) (L : List K) (h : Hd) (a : Addr) (w : World) (hlen : L.length ≤ 1099511627776) (hw : WordsOk L) (hk : H64 h) (hr : RdK w (some ⟨g, off, none⟩) L) (hn : NoH w a) :
    Calls Tryd.prog 20 #[.slice (some ⟨g, off, none⟩) L.length cap, .agg #[.int .i64 h.who, .int .i64 h.has, .int .i64 h.kept, .int .i64 h.last]] w fun e w' => e = .returned (.agg #[.int .i64 (keptH L h).who, .int .i64 (keptH L h).has, .int .i64 (keptH L h).kept, .int .i64 (keptH L h).last]) ∧ Below w.heap.size w w' := by
  have P0 : Hid (HzO w ((w.alloc (.cells #[.int .i64 h.who, .int .i64 h.has, .int .i64 h.kept, .int .i64 h.last] 29)).alloc (.cells #[.int .i64 0, .int .i64 0, .int .i64 0, .int .i64 0] 29)) h ⟨0, 0, 0, 0⟩) := hzo_new w h _
  go_enter Tryd.func20, Tryd.ntmps20
  go_upto_region 1 with fail
  generalize (w.alloc (.cells #[.int .i64 h.who, .int .i64 h.has, .int .i64 h.kept, .int .i64 h.last] 29)).alloc (.cells #[.int .i64 0, .int .i64 0, .int .i64 0, .int .i64 0] 29) = V at P0 ⊢
  obtain ⟨a0, a1, a2, a3⟩ := cellsH P0.out.hh
  have ho := settledKeeps g off cap L h a V hlen hw hk (hr.below P0.out.bel) (hn.below P0.out.bel)
  clear hr hn
  generalize hxe : keptH L h = hx at ho
  have HXE : Hid (keptH L h = hx) := hxe
  clear hxe
  go_wp2_with fail
  refine ho.mono ?_
  clear ho a0 a1 a2 a3
  rintro e w1 ⟨rfl, hb1⟩
  have P1 : Hid (HzO w w1 h ⟨0, 0, 0, 0⟩) := P0.out.below hb1
  obtain ⟨W, hW, b0, b1, b2, b3, hB⟩ := P1.out.put hx
  have HW : Hid (W = _) := hW
  obtain ⟨z0, z1, z2, z3⟩ := cellsH P1.out.zz
  have f0 := P1.out.zz.f0
  have f1 := P1.out.zz.f1
  have f2 := P1.out.zz.f2
  have f3 := P1.out.zz.f3
  simp only [Nat.zero_add] at f1 f2 f3
  clear hW P0 hb1
  go_wp2
  rw [← HW.out]
  refine bodyPost_ret (v := .agg #[.int .i64 hx.who, .int .i64 hx.has, .int .i64 hx.kept, .int .i64 hx.last]) (by simp [results, Tryd.f20, go_sem, b0, b1, b2, b3]) rfl ?_
  exact ⟨by rw [HXE.out], hB⟩

set_option maxHeartbeats 3200000 in
theorem settledForgets (g off cap : Nat) (L : List K) (h : Hd) (a : Addr) (w : World) (hlen : L.length ≤ 1099511627776) (hw : WordsOk L) (hk : H64 h) (hr : RdK w (some ⟨g, off, none⟩) L) (hn : NoH w a) :
    Calls Tryd.prog 35 #[.slice (some ⟨g, off, none⟩) L.length cap, .agg #[.int .i64 h.who, .int .i64 h.has, .int .i64 h.kept, .int .i64 h.last], .func (.func 37) #[] #[]] w fun e w' => e = .returned (.agg #[.int .i64 (forgotH L h).who, .int .i64 (forgotH L h).has, .int .i64 (forgotH L h).kept, .int .i64 (forgotH L h).last]) ∧ Below w.heap.size w w' := by
  have P0 : Hid (HzO w ((w.alloc (.cells #[.int .i64 h.who, .int .i64 h.has, .int .i64 h.kept, .int .i64 h.last] 29)).alloc (.cells #[.int .i64 0, .int .i64 0, .int .i64 0, .int .i64 0] 29)) h ⟨0, 0, 0, 0⟩) := hzo_new w h _
  go_enter Tryd.func35, Tryd.ntmps35
  go_upto_region 1 with fail
  generalize (w.alloc (.cells #[.int .i64 h.who, .int .i64 h.has, .int .i64 h.kept, .int .i64 h.last] 29)).alloc (.cells #[.int .i64 0, .int .i64 0, .int .i64 0, .int .i64 0] 29) = V at P0 ⊢
  obtain ⟨a0, a1, a2, a3⟩ := cellsH P0.out.hh
  have ho := ownerOf g off cap L h a V hlen hw hk (hr.below P0.out.bel) (hn.below P0.out.bel)
  clear hr hn
  go_wp2_with fail
  refine ho.mono ?_
  clear ho a0 a1 a2 a3
  intro e w1 hp
  rcases hp with ⟨hl, g1, rfl, hg1, hr1, hb1⟩ | ⟨hl, rfl, hb1⟩
  · have HT : Hid (forgotH L h = ⟨h.who, h.kept, h.kept, h.last⟩) := by
      show _ = _
      unfold forgotH
      rw [if_pos hl]
    have P1 : Hid (HzO w w1 h ⟨0, 0, 0, 0⟩) := P0.out.below hb1
    have HQ : Hid (HzO w (w1.alloc (.cells #[.slice (some ⟨g1, 0, none⟩) L.length L.length, .int .i64 h.who, .int .i64 h.has, .int .i64 h.kept, .int .i64 h.last] 52)) h ⟨0, 0, 0, 0⟩ ∧ Ow (w1.alloc (.cells #[.slice (some ⟨g1, 0, none⟩) L.length L.length, .int .i64 h.who, .int .i64 h.has, .int .i64 h.kept, .int .i64 h.last] 52)) w1.heap.size (.slice (some ⟨g1, 0, none⟩) L.length L.length) (.int .i64 h.who) (.int .i64 h.has) (.int .i64 h.kept) (.int .i64 h.last)) := ⟨P1.out.below ((Below.refl _ _).alloc (Nat.le_refl _) _), ow_new w1 _ _ _ _ _ _⟩
    clear hl hb1 P0 P1
    go_upto_region 2 with fail
    generalize w1.alloc (.cells #[.slice (some ⟨g1, 0, none⟩) L.length L.length, .int .i64 h.who, .int .i64 h.has, .int .i64 h.kept, .int .i64 h.last] 52) = V2 at HQ ⊢
    have P2 : Hid (HzO w V2 h ⟨0, 0, 0, 0⟩) := HQ.out.1
    obtain ⟨_, x0, x1, x2, x3, x4, _, _, _, _, _⟩ := HQ.out.2
    clear HQ
    generalize w1.heap.size = xb at x0 x1 x2 x3 x4 ⊢
    go_wp2_with fail
    refine (forgets g1 L.length L.length h _).mono ?_
    rintro e w3 ⟨rfl, hb3⟩
    have P3 : Hid (HzO w w3 h ⟨0, 0, 0, 0⟩) := P2.out.below hb3
    clear P2 hb3 x0 x1 x2 x3 x4
    go_wp2_with fail
    refine (handedOut _ ⟨h.who, h.kept, h.kept, h.last⟩ _).mono ?_
    rintro e w4 ⟨rfl, hb4⟩
    have P4 : Hid (HzO w w4 h ⟨0, 0, 0, 0⟩) := P3.out.below hb4
    clear P3 hb4
    obtain ⟨W, hW, b0, b1, b2, b3, hB⟩ := P4.out.put ⟨h.who, h.kept, h.kept, h.last⟩
    have HW : Hid (W = _) := hW
    obtain ⟨z0, z1, z2, z3⟩ := cellsH P4.out.zz
    have f0 := P4.out.zz.f0
    have f1 := P4.out.zz.f1
    have f2 := P4.out.zz.f2
    have f3 := P4.out.zz.f3
    simp only [Nat.zero_add] at f1 f2 f3
    dsimp only at b0 b1 b2 b3 HW
    clear hW
    go_wp2
    rw [← HW.out]
    refine bodyPost_ret (v := .agg #[.int .i64 h.who, .int .i64 h.kept, .int .i64 h.kept, .int .i64 h.last]) (by simp [results, Tryd.f35, go_sem, b0, b1, b2, b3]) rfl ?_
    exact ⟨by rw [HT.out], hB⟩
  · have HT : Hid (forgotH L h = ⟨0, 0, 0, 0⟩) := by
      show _ = _
      unfold forgotH
      rw [hl]; rfl
    have P1 : Hid (HzO w w1 h ⟨0, 0, 0, 0⟩) := P0.out.below hb1
    have HQ : Hid (HzO w (w1.alloc (.cells #[.slice none 0 0, .int .i64 0, .int .i64 0, .int .i64 0, .int .i64 0] 52)) h ⟨0, 0, 0, 0⟩) := P1.out.below ((Below.refl _ _).alloc (Nat.le_refl _) _)
    clear hl hb1 P0 P1
    go_upto_region 2 with fail
    generalize w1.alloc (.cells #[.slice none 0 0, .int .i64 0, .int .i64 0, .int .i64 0, .int .i64 0] 52) = V2 at HQ ⊢
    obtain ⟨W, hW, b0, b1, b2, b3, hB⟩ := HQ.out.put ⟨0, 0, 0, 0⟩
    have HW : Hid (W = _) := hW
    obtain ⟨z0, z1, z2, z3⟩ := cellsH HQ.out.zz
    have f0 := HQ.out.zz.f0
    have f1 := HQ.out.zz.f1
    have f2 := HQ.out.zz.f2
    have f3 := HQ.out.zz.f3
    simp only [Nat.zero_add] at f1 f2 f3
    dsimp only at b0 b1 b2 b3 HW
    clear hW
    go_wp2
    rw [← HW.out]
    refine bodyPost_ret (v := .agg #[.int .i64 0, .int .i64 0, .int .i64 0, .int .i64 0]) (by simp [results, Tryd.f35, go_sem, b0, b1, b2, b3]) rfl ?_
    exact ⟨by rw [HT.out], hB⟩

set_option maxHeartbeats 1600000 in
theorem implForgets (g off cap : Nat) (L : List K) (h : Hd) (a : Addr) (w : World) (hlen : L.length ≤ 1099511627776) (hw : WordsOk L) (hk : H64 h) (hr : RdK w (some ⟨g, off, none⟩) L) (hn : NoH w a) :
    Calls Tryd.prog 22 #[.slice (some ⟨g, off, none⟩) L.length cap, .agg #[.int .i64 h.who, .int .i64 h.has, .int .i64 h.kept, .int .i64 h.last]] w fun e w' => e = .returned (.agg #[.int .i64 (forgotH L h).who, .int .i64 (forgotH L h).has, .int .i64 (forgotH L h).kept, .int .i64 (forgotH L h).last]) ∧ Below w.heap.size w w' := by
  have P0 : Hid (HzO w ((w.alloc (.cells #[.int .i64 h.who, .int .i64 h.has, .int .i64 h.kept, .int .i64 h.last] 29)).alloc (.cells #[.int .i64 0, .int .i64 0, .int .i64 0, .int .i64 0] 29)) h ⟨0, 0, 0, 0⟩) := hzo_new w h _
  go_enter Tryd.func22, Tryd.ntmps22
  go_upto_region 1 with fail
  generalize (w.alloc (.cells #[.int .i64 h.who, .int .i64 h.has, .int .i64 h.kept, .int .i64 h.last] 29)).alloc (.cells #[.int .i64 0, .int .i64 0, .int .i64 0, .int .i64 0] 29) = V at P0 ⊢
  obtain ⟨a0, a1, a2, a3⟩ := cellsH P0.out.hh
  have ho := settledForgets g off cap L h a V hlen hw hk (hr.below P0.out.bel) (hn.below P0.out.bel)
  clear hr hn
  generalize hxe : forgotH L h = hx at ho
  have HXE : Hid (forgotH L h = hx) := hxe
  clear hxe
  go_wp2_with fail
  refine ho.mono ?_
  clear ho a0 a1 a2 a3
  rintro e w1 ⟨rfl, hb1⟩
  have P1 : Hid (HzO w w1 h ⟨0, 0, 0, 0⟩) := P0.out.below hb1
  obtain ⟨W, hW, b0, b1, b2, b3, hB⟩ := P1.out.put hx
  have HW : Hid (W = _) := hW
  obtain ⟨z0, z1, z2, z3⟩ := cellsH P1.out.zz
  have f0 := P1.out.zz.f0
  have f1 := P1.out.zz.f1
  have f2 := P1.out.zz.f2
  have f3 := P1.out.zz.f3
  simp only [Nat.zero_add] at f1 f2 f3
  clear hW P0 hb1
  go_wp2
  rw [← HW.out]
  refine bodyPost_ret (v := .agg #[.int .i64 hx.who, .int .i64 hx.has, .int .i64 hx.kept, .int .i64 hx.last]) (by simp [results, Tryd.f22, go_sem, b0, b1, b2, b3]) rfl ?_
  exact ⟨by rw [HXE.out], hB⟩

end Rm
end Go.Proofs.YtmhcbmcfhopiiaaDoor
