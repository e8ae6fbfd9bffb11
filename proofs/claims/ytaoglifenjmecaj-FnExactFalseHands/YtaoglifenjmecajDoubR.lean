/-
  What the program's own FalseHands answers, in the words of DoubQ; for lists of knots whose words have at most 2^40 bytes.
-/
import Derived.Test.YtaoglifenjmecajDoubP
import Derived.Test.YtaoglifenjmecajDoubQ
import Derived.Test.YtaoglifenjmecajLaceA
namespace Go.Proofs.Ytaoglifenjmecaj
open Go.RowKit
open Go.ChangeMaps (setBlock)
set_option maxRecDepth 100000
namespace Db
open Kn (K okK)
open Bit (bit withB)
open Lc (at' RdK WordsOk laceB setB amongI among_bd)


set_option maxHeartbeats 1600000 in
theorem amongHand (g off cap : Nat) (L : List K) (s : Int) (kb : Nat) (r : Int) (w : World) (hL : L.length ≤ 60) (hs : Base.okB s = true) (hr : RdK w (some ⟨g, off, none⟩) L) (hkb : kb < w.heap.size) (hk : w.cell? ⟨kb, 0, none⟩ = some (.int .i64 r)) :
    Calls Try.prog 58 #[.slice (some ⟨g, off, none⟩) L.length cap, .int .i64 s, .func (.func 59) #[] #[.pointer (some ⟨kb, 0, none⟩)]] w fun e w' =>
      e = .returned (.int .i64 (amongI (fun y => decide (y.hand = r)) L s L.length)) ∧ Below w.heap.size w w' := by
  go_enter Try.func58, Try.ntmps58
  go_wp2
  go_loopw [7, 12] (fun o i wr => ∃ j : Nat, j ≤ L.length ∧ i = .int .i64 j ∧ o = .int .i64 (amongI (fun y => decide (y.hand = r)) L s j) ∧ Hid (Below w.heap.size w wr)) (fun _ i _ => L.length - (intOf i).toNat)
  case atStart => exact ⟨0, by omega, rfl, rfl, Below.refl _ _⟩
  case round =>
    obtain ⟨j, hj, rfl, rfl, HB⟩ := hrel
    by_cases hlt : j < L.length
    · obtain ⟨hg, hc⟩ := hr.on j hlt
      obtain ⟨c0, c1, c2, c3⟩ := hc.below HB.out hg
      have HO : Hid (Base.okB s = true) := hs
      have hin : Base.inB (j : Int) = true := (Base.inB_iff _).2 ⟨by omega, by omega⟩
      have HA : Hid (amongI (fun y => decide (y.hand = r)) L s (j + 1) = if bit s j && (fun y => decide (y.hand = r)) (at' L j) then withB (amongI (fun y => decide (y.hand = r)) L s j) j else amongI (fun y => decide (y.hand = r)) L s j) := rfl
      have hbd := among_bd (fun y => decide (y.hand = r)) L s j (by omega)
      have HW : Hid (Base.withI (amongI (fun y => decide (y.hand = r)) L s j) (j : Int) = withB (amongI (fun y => decide (y.hand = r)) L s j) j) := by
        show _ = _
        unfold Base.withI
        rw [(Base.okB_iff _).2 hbd, hin]; simp
      have HN : Hid (Below w.heap.size w (wr.alloc (.cells #[.int .i64 (at' L j).hand, .int .i64 (at' L j).round, .int .i64 (at' L j).frm, .string (at' L j).word] 67))) := HB.out.alloc HB.out.size _
      clear hbd
      generalize amongI (fun y => decide (y.hand = r)) L s j = x at HA HW ⊢
      cases hb : bit s j
      · have HH : Hid ((Base.okB s && (Base.inB (j : Int) && bit s j)) = false) := by show _ = _; simp [hb]
        have HD : Hid (amongI (fun y => decide (y.hand = r)) L s (j + 1) = x) := by show _ = _; rw [HA.out, hb]; simp
        clear hb HA HW hin
        go_wp2_with (go_at_call 54; refine (Base.has _ _ _).mono ?_; rintro e w' ⟨rfl, rfl⟩; rw [Int.toNat_natCast, HH.out])
        go_roundw
        case rel => exact ⟨j + 1, by omega, by go_num, by rw [HD.out], HN⟩
        case measure => simp [intOf]; omega
      · have HH : Hid ((Base.okB s && (Base.inB (j : Int) && bit s j)) = true) := by show _ = _; simp [hb, hin, HO.out]
        have d1 := (HB.out.cell (p := ⟨kb, 0, none⟩) hkb).trans hk
        have hkb2 : kb < wr.heap.size := Nat.lt_of_lt_of_le hkb HB.out.size
        have HM : Hid (∀ o : Obj, Below w.heap.size w ((wr.alloc (.cells #[.int .i64 (at' L j).hand, .int .i64 (at' L j).round, .int .i64 (at' L j).frm, .string (at' L j).word] 67)).alloc o)) := fun o => HN.out.alloc HN.out.size o
        by_cases hq : (at' L j).hand = r
        · have HD : Hid (amongI (fun y => decide (y.hand = r)) L s (j + 1) = withB x j) := by show _ = _; rw [HA.out, hb]; simp [hq]
          have hq1 : ((at' L j).hand == r) = true := by simpa using hq
          clear hq
          clear hb HA hin HN
          go_wp2_with (first | (go_at_call 54; refine (Base.has _ _ _).mono ?_; rintro e w' ⟨rfl, rfl⟩; rw [Int.toNat_natCast, HH.out]) | (go_at_call 56; refine (Base.withM _ _ _).mono ?_; rintro e w' ⟨rfl, rfl⟩; rw [HW.out]) | go_in)
          go_roundw
          case rel => exact ⟨j + 1, by omega, by go_num, by rw [HD.out], HM.out _⟩
          case measure => simp [intOf]; omega
        · have HD : Hid (amongI (fun y => decide (y.hand = r)) L s (j + 1) = x) := by show _ = _; rw [HA.out, hb]; simp [hq]
          have hq1 : ((at' L j).hand == r) = false := by simpa using hq
          clear hq
          clear hb HA hin HN
          go_wp2_with (first | (go_at_call 54; refine (Base.has _ _ _).mono ?_; rintro e w' ⟨rfl, rfl⟩; rw [Int.toNat_natCast, HH.out]) | go_in)
          go_roundw
          case rel => exact ⟨j + 1, by omega, by go_num, by rw [HD.out], HM.out _⟩
          case measure => simp [intOf]; omega
    · obtain rfl : j = L.length := by omega
      go_wp2
      go_ret
      exact ⟨rfl, HB.out⟩

theorem own_base {B B' : Nat} {w : World} {ao : Option Addr} {cap : Nat} {l : List Int} (h : Memb.Own B w ao cap l) (hB : B' ≤ B) : Memb.Own B' w ao cap l := by
  obtain ⟨h1, h2 | ⟨g, cp, cur, e, hg, r⟩⟩ := h
  · exact ⟨h1, .inl h2⟩
  · exact ⟨h1, .inr ⟨g, cp, cur, e, Nat.le_trans hB hg, r⟩⟩

set_option maxHeartbeats 3200000 in
theorem falseHands (g off cap : Nat) (L : List K) (s : Int) (w : World) (hlc : laceB L = true) (q0 : 0 ≤ s) (q1 : s < 1152921504606846976) (hg : g < w.heap.size) (hr : RdK w (some ⟨g, off, none⟩) L) :
    Calls Try.prog 41 #[.slice (some ⟨g, off, none⟩) L.length cap, .int .i64 s] w (Sg.NumsPost (falseTo L s 4) w) := by
  have h60 := ((Lc.lace_iff L).1 hlc).1
  have hok : Base.okB s = true := (Base.okB_iff _).2 ⟨q0, q1⟩
  have hmm := @run_makeMap Try.prog
  have hA0 := apart_made w
  have hB0 : Below w.heap.size w (w.alloc (.map #[] 0)) := (Below.refl _ w).alloc (Nat.le_refl _) _
  go_enter Try.func41, Try.ntmps41
  go_wp2
  go_loopw [5, 9] (fun f i wr => ∃ (k c : Nat), k ≤ 4 ∧ i = .int .i64 (k : Int) ∧ f = .int .i64 (foundS L s k) ∧ Hid (Below w.heap.size w wr) ∧ ∃ S, Hid (Apart wr w.heap.size c S)) (fun _ i _ => 4 - (intOf i).toNat)
  case atStart => exact ⟨0, 0, by omega, rfl, rfl, hB0, _, hA0⟩
  case round =>
    obtain ⟨k, c, hk, rfl, rfl, HB, S, HA⟩ := hrel
    by_cases hlt : k < 4
    · have hk4 : decide ((k : Int) < 4) = true := by simp; omega
      have hbd := foundS_bd L s k (by omega)
      have HS : Hid (foundS L s (k + 1) = if falseB L s (k : Int) then withB (foundS L s k) k else foundS L s k) := rfl
      have HW : Hid (Base.withI (foundS L s k) (k : Int) = withB (foundS L s k) k) := by
        show _ = _
        unfold Base.withI
        rw [(Base.okB_iff _).2 hbd, (Base.inB_iff _).2 ⟨by omega, by omega⟩]; simp
      clear hbd
      generalize foundS L s k = x at HS HW ⊢
      have hA1 := HA.out.kept (World.grownBy_alloc wr (.cells #[.int .i64 (k : Int)] 65) none) (by simp)
      have hB1 : Below w.heap.size w (wr.alloc (.cells #[.int .i64 (k : Int)] 65)) := HB.out.alloc HB.out.size _
      have ck := (Sg.boxNew wr (.int .i64 (k : Int)) 65).1
      obtain ⟨w2, hcl, hA2, hG2⟩ := apart_clear hA1 0
      have hsz : wr.heap.size < (wr.alloc (.cells #[.int .i64 (k : Int)] 65)).heap.size := by simp
      have hM := HA.out.lt
      have HB2 : Hid (Below w.heap.size w w2) := hB1.grown hG2 hB1.size (fun j e => by cases e; exact Nat.le_refl _)
      have ck2 : w2.cell? ⟨wr.heap.size, 0, none⟩ = some (.int .i64 (k : Int)) := (grown_cell hG2 (p := ⟨wr.heap.size, 0, none⟩) hsz (by simp; omega)).trans ck
      have hs2 : wr.heap.size < w2.heap.size := Nat.lt_of_lt_of_le hsz hG2.size
      have HA2 : Hid (Apart w2 w.heap.size 0 (fun _ _ => false)) := hA2
      clear hA1 hB1 ck hA2 hG2 hsz HB HA
      go_wp2_with fail
      refine (amongHand g off cap L s wr.heap.size (k : Int) _ h60 hok (hr.below HB2.out) hs2 ck2).mono ?_
      rintro e w3 ⟨rfl, hb3⟩
      have HB3 : Hid (Below w.heap.size w w3) := HB2.out.trans (hb3.mono HB2.out.size)
      have ck3 := (hb3.cell (p := ⟨wr.heap.size, 0, none⟩) hs2).trans ck2
      have hA3 := HA2.out.kept (below_grown hb3 none) (by simp)
      have hs3 : wr.heap.size < w3.heap.size := Nat.lt_of_lt_of_le hs2 hb3.size
      clear hb3 HB2 ck2 HA2 hcl hs2
      have hput := putApart w.heap.size g off cap w.heap.size L (ofHand L s (k : Int)) w3 hlc (ofHand_in hlc s _) (ofHand_rise hlc s _) hg (Nat.le_refl _) (hr.below HB3.out) hA3
      have HI : Hid ((∃ a b, a < 60 ∧ b < 60 ∧ apartB L (Memb.memI (ofHand L s (k : Int))) a b = true) ↔ falseB L s (k : Int) = true) := apart_false hlc s _ q0 q1
      unfold ofHand at hput HI
      go_wp2_with fail
      refine hput.mono ?_
      rintro e w4 ⟨rfl, hG4, c4, hA4⟩
      have HB4 : Hid (Below w.heap.size w w4) := HB3.out.grown hG4 HB3.out.size (fun j e => by cases e; exact Nat.le_refl _)
      have ck4 := (grown_cell hG4 (p := ⟨wr.heap.size, 0, none⟩) hs3 (by simp; omega)).trans ck3
      obtain ⟨n4, hlen, hn4⟩ := apart_len hA4 3
      have HA4 : Hid (Apart w4 w.heap.size c4 _) := hA4
      clear hput hG4 hA4 ck3 HB3 hA3 hs3
      cases hf : falseB L s (k : Int)
      · have HD : Hid (foundS L s (k + 1) = x) := by show _ = _; rw [HS.out, hf]; rfl
        obtain rfl : n4 = 0 := by
          apply Classical.byContradiction
          intro hne
          have := HI.out.1 (hn4.1 (by omega))
          rw [hf] at this; exact Bool.noConfusion this
        clear hf HS HW hn4 HI
        go_wp2
        go_roundw
        case rel => exact ⟨k + 1, c4, by omega, by go_num, by rw [HD.out], HB4, _, HA4⟩
        case measure => simp [intOf]; omega
      · have HD : Hid (foundS L s (k + 1) = withB x k) := by show _ = _; rw [HS.out, hf]; rfl
        have hpos : 0 < n4 := hn4.2 (HI.out.2 hf)
        have hpos' : decide ((0 : Int) < (n4 : Int)) = true := by simp; omega
        clear hf HS hn4 HI
        go_wp2_with (go_at_call 56; refine (Base.withM _ _ _).mono ?_; rintro e w' ⟨rfl, rfl⟩; rw [HW.out])
        go_roundw
        case rel => exact ⟨k + 1, c4, by omega, by go_num, by rw [HD.out], HB4, _, HA4⟩
        case measure => simp [intOf]; omega
    · obtain rfl : k = 4 := by omega
      have HM : Hid (Memb.memI (foundS L s 4) = falseTo L s 4) := mem_foundS L s
      go_wp2_with (go_at_call 60; refine (Memb.picked _ _).mono ?_; rintro e w' ⟨ao, ac, rfl, hown, hb⟩; rw [HM.out] at hown ⊢)
      go_ret
      exact ⟨ao, ac, rfl, own_base hown HB.out.size, HB.out.trans (hb.mono HB.out.size)⟩

set_option maxHeartbeats 1600000 in
theorem implFalseHands (g off cap : Nat) (L : List K) (s : Int) (w : World) (hlen : L.length ≤ 1099511627776) (hw : WordsOk L) (h0 : -9223372036854775808 ≤ s) (h1 : s ≤ 9223372036854775807) (hr : RdK w (some ⟨g, off, none⟩) L) :
    Calls Try.prog 17 #[.slice (some ⟨g, off, none⟩) L.length cap, .int .i64 s] w (Sg.NumsPost (falseI L s) w) := by
  go_enter Try.func17, Try.ntmps17
  go_wp2_with fail
  refine (Lc.laceOf g off cap L _ hlen hw hr).mono ?_
  rintro e w1 (⟨hl, g', rfl, hg', hrg, hb1⟩ | ⟨hl, rfl, hb1⟩)
  · have h60 := ((Lc.lace_iff L).1 hl).1
    have HLC : Hid (laceB L = true) := hl
    have HS : Hid (setB L s = Lc.inL L.length s) := by show _ = _; rw [Lc.setB_eq, hl]; rfl
    clear hl
    cases hin : Lc.inL L.length s
    · have HT : Hid (falseI L s = []) := by show _ = _; unfold falseI; rw [HS.out, hin]; rfl
      have HIN : Hid (Lc.inL L.length s = false) := hin
      have hO : Memb.Own w.heap.size (w1.alloc (.cells #[] 2)) (some ⟨w1.heap.size, 0, none⟩) 0 [] := own_base (Memb.own_empty w1) hb1.size
      have hB : Below w.heap.size w (w1.alloc (.cells #[] 2)) := hb1.alloc hb1.size _
      clear hin HS
      go_wp2_with (go_at_call 40; refine (Lc.holds _ _ _ s _ h60 h0 h1).mono ?_; rintro e w' ⟨rfl, rfl⟩; rw [HIN.out])
      go_ret
      rw [HT.out]
      exact ⟨_, _, rfl, hO, hB⟩
    · have HT : Hid (falseI L s = falseTo L s 4) := by show _ = _; unfold falseI; rw [HS.out, hin]; rfl
      have HIN : Hid (Lc.inL L.length s = true) := hin
      have hset : setB L s = true := HS.out.trans hin
      obtain ⟨_, q0, q1, _, _, _⟩ := Lc.setB_parts hset
      clear hin HS hset
      go_wp2_with (first | (go_at_call 40; refine (Lc.holds _ _ _ s _ h60 h0 h1).mono ?_; rintro e w' ⟨rfl, rfl⟩; rw [HIN.out]) | fail)
      refine (falseHands g' 0 L.length L s _ HLC.out q0 q1 hg' hrg).mono ?_
      rintro e w2 ⟨ao, ac, rfl, hown, hb2⟩
      have B2 := hb1.trans (hb2.mono hb1.size)
      have hO := own_base hown hb1.size
      clear hb1 hb2 hrg hg' hown
      go_wp2
      go_ret
      rw [HT.out]
      exact ⟨ao, ac, rfl, hO, B2⟩
  · have HT : Hid (falseI L s = []) := by show _ = _; unfold falseI; rw [Lc.setB_eq, hl]; rfl
    have hO : Memb.Own w.heap.size (w1.alloc (.cells #[] 2)) (some ⟨w1.heap.size, 0, none⟩) 0 [] := own_base (Memb.own_empty w1) hb1.size
    have hB : Below w.heap.size w (w1.alloc (.cells #[] 2)) := hb1.alloc hb1.size _
    clear hl
    go_wp2
    go_ret
    rw [HT.out]
    exact ⟨_, _, rfl, hO, hB⟩

end Db
end Go.Proofs.Ytaoglifenjmecaj
