/-
 What the program's face answers to what gives up behind it: numbers.
-/
import Derived.Test.YtfjmenhofllchaaGreatDoorQag14
import Derived.Defers
import Derived.Recover
set_option linter.unusedVariables false
namespace Go.Proofs.YtfjmenhofllchaaGreatDoor
open Go.RowKit
set_option maxRecDepth 100000
set_option linter.unusedVariables false
namespace Lc
open Kn (K okK)
open Bit (bit withB)
set_option maxHeartbeats 1600000 in
theorem amongLesser (g off cap : Nat) (L : List K) (s : Int) (kb : Nat) (r : Int) (w : World) (hL : L.length ≤ 60) (hs : Base.okB s = true) (hr : RdK w (some ⟨g, off, none⟩) L) (hkb : kb < w.heap.size) (hk : w.cell? ⟨kb, 0, none⟩ = some (.int .i64 r)) :
   Calls Tryz.prog 104 #[.slice (some ⟨g, off, none⟩) L.length cap, .int .i64 s, .func (.func 105) #[] #[.pointer (some ⟨kb, 0, none⟩)]] w fun e w' =>
     e = .returned (.int .i64 (amongI (fun y => decide (y.round < r)) L s L.length)) ∧ Below w.heap.size w w' := by
 go_enter Tryz.func104, Tryz.ntmps104
 go_wp2
 go_loopw [7, 12] (fun o i wr => ∃ j : Nat, j ≤ L.length ∧ i = .int .i64 j ∧ o = .int .i64 (amongI (fun y => decide (y.round < r)) L s j) ∧ Hid (Below w.heap.size w wr)) (fun _ i _ => L.length - (intOf i).toNat)
 case atStart => exact ⟨0, by omega, rfl, rfl, Below.refl _ _⟩
 case round =>
   obtain ⟨j, hj, rfl, rfl, HB⟩ := hrel
   by_cases hlt : j < L.length
   · obtain ⟨hg, hc⟩ := hr.on j hlt
     obtain ⟨c0, c1, c2, c3⟩ := hc.below HB.out hg
     have HO : Hid (Base.okB s = true) := hs
     have hin : Base.inB (j : Int) = true := (Base.inB_iff _).2 ⟨by omega, by omega⟩
     have HA : Hid (amongI (fun y => decide (y.round < r)) L s (j + 1) = if bit s j && (fun y => decide (y.round < r)) (at' L j) then withB (amongI (fun y => decide (y.round < r)) L s j) j else amongI (fun y => decide (y.round < r)) L s j) := rfl
     have hbd := among_bd (fun y => decide (y.round < r)) L s j (by omega)
     have HW : Hid (Base.withI (amongI (fun y => decide (y.round < r)) L s j) (j : Int) = withB (amongI (fun y => decide (y.round < r)) L s j) j) := by
       show _ = _
       unfold Base.withI
       rw [(Base.okB_iff _).2 hbd, hin]; simp
     have HN : Hid (Below w.heap.size w (wr.alloc (.cells #[.int .i64 (at' L j).hand, .int .i64 (at' L j).round, .int .i64 (at' L j).frm, .string (at' L j).word] 92))) := HB.out.alloc HB.out.size _
     clear hbd
     generalize amongI (fun y => decide (y.round < r)) L s j = x at HA HW ⊢
     cases hb : bit s j
     · have HH : Hid ((Base.okB s && (Base.inB (j : Int) && bit s j)) = false) := by show _ = _; simp [hb]
       have HD : Hid (amongI (fun y => decide (y.round < r)) L s (j + 1) = x) := by show _ = _; rw [HA.out, hb]; simp
       clear hb HA HW hin
       go_wp2_with (go_at_call 86; refine (Base.has _ _ _).mono ?_; rintro e w' ⟨rfl, rfl⟩; rw [Int.toNat_natCast, HH.out])
       go_roundw
       case rel => exact ⟨j + 1, by omega, by go_num, by rw [HD.out], HN⟩
       case measure => simp [intOf]; omega
     · have HH : Hid ((Base.okB s && (Base.inB (j : Int) && bit s j)) = true) := by show _ = _; simp [hb, hin, HO.out]
       have d1 := (HB.out.cell (p := ⟨kb, 0, none⟩) hkb).trans hk
       have hkb2 : kb < wr.heap.size := Nat.lt_of_lt_of_le hkb HB.out.size
       have HM : Hid (∀ o : Obj, Below w.heap.size w ((wr.alloc (.cells #[.int .i64 (at' L j).hand, .int .i64 (at' L j).round, .int .i64 (at' L j).frm, .string (at' L j).word] 92)).alloc o)) := fun o => HN.out.alloc HN.out.size o
       by_cases hq : (at' L j).round < r
       · have HD : Hid (amongI (fun y => decide (y.round < r)) L s (j + 1) = withB x j) := by show _ = _; rw [HA.out, hb]; simp [hq]
         clear hb HA hin HN
         go_wp2_with (first | (go_at_call 86; refine (Base.has _ _ _).mono ?_; rintro e w' ⟨rfl, rfl⟩; rw [Int.toNat_natCast, HH.out]) | (go_at_call 87; refine (Base.withM _ _ _).mono ?_; rintro e w' ⟨rfl, rfl⟩; rw [HW.out]) | go_in)
         go_roundw
         case rel => exact ⟨j + 1, by omega, by go_num, by rw [HD.out], HM.out _⟩
         case measure => simp [intOf]; omega
       · have HD : Hid (amongI (fun y => decide (y.round < r)) L s (j + 1) = x) := by show _ = _; rw [HA.out, hb]; simp [hq]
         clear hb HA hin HN
         go_wp2_with (first | (go_at_call 86; refine (Base.has _ _ _).mono ?_; rintro e w' ⟨rfl, rfl⟩; rw [Int.toNat_natCast, HH.out]) | go_in)
         go_roundw
         case rel => exact ⟨j + 1, by omega, by go_num, by rw [HD.out], HM.out _⟩
         case measure => simp [intOf]; omega
   · obtain rfl : j = L.length := by omega
     go_wp2
     go_ret
     exact ⟨rfl, HB.out⟩
end Lc
namespace Rm
open Kn (K okK)
open Bit (bit withB)
open Lc (at' RdK laceB WordsOk handsN roundS)
open Sg (bel belows closedTo orB)
theorem below_set4 {n b : Nat} {w W : World} (h : Below n w W) (hb : n ≤ b) (v0 v1 v2 v3 : Value) : Below n w ((((W.setCell ⟨b, 0, none⟩ v0).setCell ⟨b, 1, none⟩ v1).setCell ⟨b, 2, none⟩ v2).setCell ⟨b, 3, none⟩ v3) :=
 (((h.setCell (p := ⟨b, 0, none⟩) hb _).setCell (p := ⟨b, 1, none⟩) hb _).setCell (p := ⟨b, 2, none⟩) hb _).setCell (p := ⟨b, 3, none⟩) hb _
def DraftsPost (L : List K) (h : Hd) (word : ByteArray) (w : World) (e : Ending) (w' : World) : Prop :=
 ((draftB L (belows L L.length) h.who h.has h.last word = true ∧ ∃ k, draftK L (belows L L.length) h.who h.has h.last word = k ∧ e = .returned (.agg #[.int .i64 k.hand, .int .i64 k.round, .int .i64 k.frm, .string k.word])) ∨ (draftB L (belows L L.length) h.who h.has h.last word = false ∧ Gives e)) ∧ Below w.heap.size w w'
set_option maxHeartbeats 6400000 in
theorem draft (g cap : Nat) (L : List K) (h : Hd) (word : ByteArray) (w : World) (hi : HandIs L h) (hc : L.length ≤ cap) (hws : word.size ≤ 1099511627776) (hg : g < w.heap.size) (hr : RdK w (some ⟨g, 0, none⟩) L) (he : HoldsE w 6) (hf : HoldsE w 7) :
   Calls Tryz.prog 66 #[.agg #[.slice (some ⟨g, 0, none⟩) L.length cap, .int .i64 h.who, .int .i64 h.has, .int .i64 h.kept, .int .i64 h.last], .string word] w (DraftsPost L h word w) := by
 have h60 := ((Lc.lace_iff L).1 hi.lace).1
 have hok : Base.okB h.has = true := (Base.okB_iff _).2 ⟨hi.h0, hi.h1⟩
 have HR : Hid (RdK w (some ⟨g, 0, none⟩) L) := hr
 have HEW : Hid (HoldsE w 7) := hf
 have P0 : Hid (Below w.heap.size w ((w.alloc (.cells #[.slice (some ⟨g, 0, none⟩) L.length cap, .int .i64 h.who, .int .i64 h.has, .int .i64 h.kept, .int .i64 h.last] 66)).alloc (.cells #[.int .i64 0, .int .i64 0, .int .i64 0, .string ⟨#[]⟩] 92)) ∧ Ow ((w.alloc (.cells #[.slice (some ⟨g, 0, none⟩) L.length cap, .int .i64 h.who, .int .i64 h.has, .int .i64 h.kept, .int .i64 h.last] 66)).alloc (.cells #[.int .i64 0, .int .i64 0, .int .i64 0, .string ⟨#[]⟩] 92)) w.heap.size (.slice (some ⟨g, 0, none⟩) L.length cap) (.int .i64 h.who) (.int .i64 h.has) (.int .i64 h.kept) (.int .i64 h.last) ∧ Kn.Zero (w.heap.size + 1) ((w.alloc (.cells #[.slice (some ⟨g, 0, none⟩) L.length cap, .int .i64 h.who, .int .i64 h.has, .int .i64 h.kept, .int .i64 h.last] 66)).alloc (.cells #[.int .i64 0, .int .i64 0, .int .i64 0, .string ⟨#[]⟩] 92))) :=
   ⟨((Below.refl _ w).alloc (Nat.le_refl _) _).alloc (by simp) _, (ow_new w _ _ _ _ _ _).below ((Below.refl _ _).alloc (Nat.le_refl _) _), by
     have q := zeroQ_new (w.alloc (.cells #[.slice (some ⟨g, 0, none⟩) L.length cap, .int .i64 h.who, .int .i64 h.has, .int .i64 h.kept, .int .i64 h.last] 66)) 92
     rw [World.size_alloc] at q
     exact q⟩
 have HDB : Hid (draftB L (belows L L.length) h.who h.has h.last word = (decide (0 ≤ nextI L h.has h.last) && okK (draftK L (belows L L.length) h.who h.has h.last word))) := rfl
 have HDK : Hid (draftK L (belows L L.length) h.who h.has h.last word = ⟨h.who, nextI L h.has h.last, Sg.tipsTo (belows L L.length) (draftS L h.has (nextI L h.has h.last)) L.length, word⟩) := by show _ = _; unfold draftK; rw [Sg.belows_len]
 clear hr hf
 go_enter Tryz.func66, Tryz.ntmps66
 go_upto_region 1 with fail
 generalize (w.alloc (.cells #[.slice (some ⟨g, 0, none⟩) L.length cap, .int .i64 h.who, .int .i64 h.has, .int .i64 h.kept, .int .i64 h.last] 66)).alloc (.cells #[.int .i64 0, .int .i64 0, .int .i64 0, .string ⟨#[]⟩] 92) = V at P0 ⊢
 have HB0 : Hid (Below w.heap.size w V) := P0.out.1
 have HO0 : Hid (Ow V w.heap.size (.slice (some ⟨g, 0, none⟩) L.length cap) (.int .i64 h.who) (.int .i64 h.has) (.int .i64 h.kept) (.int .i64 h.last)) := P0.out.2.1
 have HZ0 : Hid (Kn.Zero (w.heap.size + 1) V) := P0.out.2.2
 obtain ⟨_, x0, x1, x2, x3, x4, _, _, _, _, _⟩ := P0.out.2.1
 clear P0
 have hnx := nextRound g cap L h V hi hc (HR.out.below HB0.out) (he.below HB0.out)
 clear he
 go_wp2_with fail
 refine hnx.mono ?_
 clear hnx x0 x1 x2 x3 x4
 rintro e w1 ⟨hp, hb1⟩
 have HB1 : Hid (Below w.heap.size w w1) := HB0.out.trans (hb1.mono HB0.out.size)
 have HO1 : Hid (Ow w1 w.heap.size (.slice (some ⟨g, 0, none⟩) L.length cap) (.int .i64 h.who) (.int .i64 h.has) (.int .i64 h.kept) (.int .i64 h.last)) := HO0.out.below hb1
 have HZ1 : Hid (Kn.Zero (w.heap.size + 1) w1) := HZ0.out.below hb1
 clear HB0 HO0 HZ0 hb1
 rcases hp with ⟨hn0, rfl⟩ | ⟨hn0, v, rfl⟩
 rotate_left
 · have HF : Hid (draftB L (belows L L.length) h.who h.has h.last word = false) := by show _ = _; rw [HDB.out, hn0]; rfl
   clear hn0
   go_wp2
   exact ⟨rfl, .inr ⟨HF.out, ⟨_, rfl⟩⟩, HB1.out⟩
 have HDB2 : Hid (draftB L (belows L L.length) h.who h.has h.last word = okK (draftK L (belows L L.length) h.who h.has h.last word)) := by show _ = _; rw [HDB.out, decide_eq_true hn0]; rfl
 have hdb := Lc.among_bd (fun y => decide (y.round < nextI L h.has h.last)) L h.has L.length h60
 have hcl := lesser_closed hi (nextI L h.has h.last)
 have HDS : Hid (draftS L h.has (nextI L h.has h.last) = Lc.amongI (fun y => decide (y.round < nextI L h.has h.last)) L h.has L.length) := rfl
 rw [HDB2.out] at HDB
 generalize nextI L h.has h.last = nr at HDK HDS hdb hcl ⊢
 have P1 : Hid (Below w.heap.size w (w1.alloc (.cells #[.int .i64 nr] 2)) ∧ Ow (w1.alloc (.cells #[.int .i64 nr] 2)) w.heap.size (.slice (some ⟨g, 0, none⟩) L.length cap) (.int .i64 h.who) (.int .i64 h.has) (.int .i64 h.kept) (.int .i64 h.last) ∧ Kn.Zero (w.heap.size + 1) (w1.alloc (.cells #[.int .i64 nr] 2)) ∧ (w1.alloc (.cells #[.int .i64 nr] 2)).cell? ⟨w1.heap.size, 0, none⟩ = some (.int .i64 nr) ∧ w1.heap.size < (w1.alloc (.cells #[.int .i64 nr] 2)).heap.size) :=
   ⟨HB1.out.alloc HB1.out.size _, HO1.out.below ((Below.refl _ _).alloc (Nat.le_refl _) _), HZ1.out.below ((Below.refl _ _).alloc (Nat.le_refl _) _), by simp, by simp⟩
 have hzb : w.heap.size + 1 < w1.heap.size := HZ1.out.lt
 clear HB1 HO1 HZ1 HDB hn0
 go_upto_region 2 with fail
 generalize w1.alloc (.cells #[.int .i64 nr] 2) = V1 at P1 ⊢
 generalize w1.heap.size = nb at P1 hzb ⊢
 have HB1 : Hid (Below w.heap.size w V1) := P1.out.1
 have HO1 : Hid (Ow V1 w.heap.size (.slice (some ⟨g, 0, none⟩) L.length cap) (.int .i64 h.who) (.int .i64 h.has) (.int .i64 h.kept) (.int .i64 h.last)) := P1.out.2.1
 have HZ1 : Hid (Kn.Zero (w.heap.size + 1) V1) := P1.out.2.2.1
 have hn1 := P1.out.2.2.2.1
 have hnl := P1.out.2.2.2.2
 clear P1
 obtain ⟨_, x0, x1, x2, x3, x4, _, _, _, _, _⟩ := HO1.out
 have ham := Lc.amongLesser g 0 cap L h.has nb nr V1 h60 hok (HR.out.below HB1.out) hnl hn1
 rw [← HDS.out] at ham hdb
 clear HDS
 generalize draftS L h.has nr = ds at ham hdb hcl HDK
 go_wp2_with fail
 refine ham.mono ?_
 rintro e w2 ⟨rfl, hb2⟩
 have HB2 : Hid (Below w.heap.size w w2) := HB1.out.trans (hb2.mono HB1.out.size)
 have HO2 : Hid (Ow w2 w.heap.size (.slice (some ⟨g, 0, none⟩) L.length cap) (.int .i64 h.who) (.int .i64 h.has) (.int .i64 h.kept) (.int .i64 h.last)) := HO1.out.below hb2
 have HZ2 : Hid (Kn.Zero (w.heap.size + 1) w2) := HZ1.out.below hb2
 have hn2 : w2.cell? ⟨nb, 0, none⟩ = some (.int .i64 nr) := (hb2.cell (p := ⟨nb, 0, none⟩) hnl).trans hn1
 clear ham x0 x1 x2 x3 x4 HB1 HO1 HZ1 hn1 hnl hb2
 have hgw : g < w2.heap.size := Nat.lt_of_lt_of_le hg HB2.out.size
 have HTP : Hid (∀ W : World, Below w2.heap.size w2 W → Calls Tryz.prog 106 #[.slice (some ⟨g, 0, none⟩) L.length cap, .int .i64 ds] W fun e w' => e = .returned (.int .i64 (Sg.tipsTo (belows L L.length) ds L.length)) ∧ Below w2.heap.size w2 w' ∧ Below W.heap.size W w') := fun W hW => (Sg.tips g 0 cap L ds W hi.lace hdb.1 hdb.2 hcl (Nat.lt_of_lt_of_le hgw hW.size) ((HR.out.below HB2.out).below hW)).mono fun _ _ q => ⟨q.1, hW.trans (q.2.mono hW.size), q.2⟩
 have HSB : Hid (∀ W : World, Below w2.heap.size w2 W → W.cell? ⟨w.heap.size, 0, none⟩ = some (.slice (some ⟨g, 0, none⟩) L.length cap) ∧ W.cell? ⟨w.heap.size, 1, none⟩ = some (.int .i64 h.who) ∧ W.cell? ⟨nb, 0, none⟩ = some (.int .i64 nr)) := fun W hW => ⟨(HO2.out.below hW).c0, (HO2.out.below hW).c1, (hW.cell (p := ⟨nb, 0, none⟩) (cell_lt hn2)).trans hn2⟩
 have hob : w.heap.size < w2.heap.size := HO2.out.lt
 have hnb : nb < w2.heap.size := cell_lt hn2
 have HFW : Hid (∀ W : World, Below w2.heap.size w2 W → Below w.heap.size w W ∧ Kn.Zero (w.heap.size + 1) W) := fun W hW => ⟨HB2.out.trans (hW.mono HB2.out.size), HZ2.out.below hW⟩
 clear hdb hcl hn2 HO2 HZ2 HB2
 generalize Sg.tipsTo (belows L L.length) ds L.length = tp at HTP HDK
 go_upto_region 3 with fail
 go_cut [7] (fun pv wx => ∃ b : Nat, pv = .pointer (some ⟨b, 0, none⟩) ∧ Hid (KnAt wx b ⟨h.who, nr, tp, word⟩) ∧ Hid (Below w2.heap.size w2 wx))
 case first =>
   go_region_held3 (fun W => W.cell? ⟨w.heap.size, 0, none⟩ = some (.slice (some ⟨g, 0, none⟩) L.length cap) ∧ W.cell? ⟨w.heap.size, 1, none⟩ = some (.int .i64 h.who) ∧ W.cell? ⟨nb, 0, none⟩ = some (.int .i64 nr)) (first
     | exact HSB.out _ (B3.alloc B3.size _) | exact HSB.out _ B3 | exact HSB.out _ (below_set4 B3 (Nat.le_refl _) _ _ _ _)
     | exact HSB.out _ (by first | exact (Below.refl _ _).drew | exact Below.refl _ _ | exact (Below.refl _ _).drew.alloc (Nat.le_refl _) _ | exact ((Below.refl _ _).alloc (Nat.le_refl _) _).drew | exact (Below.refl _ _).alloc (Nat.le_refl _) _) | go_keep) (
     (go_at_call 106
      refine (HTP.out _ (by first | exact (Below.refl _ _).drew | exact Below.refl _ _ | exact (Below.refl _ _).drew.alloc (Nat.le_refl _) _ | exact ((Below.refl _ _).alloc (Nat.le_refl _) _).drew | exact (Below.refl _ _).alloc (Nat.le_refl _) _)).mono ?_
      rintro e V3 ⟨rfl, B3, b3⟩
      (first | have ZS := keepQ b3 | have ZS := keepQ' b3 | skip)
      (first | (have z0 := (zeroQc ZS).1; have z1 := (zeroQc ZS).2.1; have z2 := (zeroQc ZS).2.2.1; have z3 := (zeroQc ZS).2.2.2; have y0 := (zeroQf ZS).1; have y1 := (zeroQf ZS).2.1; have y2 := (zeroQf ZS).2.2.1; have y3 := (zeroQf ZS).2.2.2) | skip)))
   all_goals go_wp2_with fail
   all_goals go_meet
   all_goals (first | exact ⟨_, rfl, knat_new V3 ⟨h.who, nr, tp, word⟩ _, B3.alloc B3.size _⟩ | exact ⟨_, rfl, knat_put4 ZS ⟨h.who, nr, tp, word⟩, below_set4 B3 (Nat.le_refl _) _ _ _ _⟩)
 case rest =>
   obtain ⟨b, rfl, HKA, HB3⟩ := hcut
   clear HTP HSB
   have HDK2 : Hid (draftK L (belows L L.length) h.who h.has h.last word = ⟨h.who, nr, tp, word⟩) := HDK.out
   clear HDK
   obtain ⟨_, k0, k1, k2, k3⟩ := HKA.out
   dsimp only at k0 k1 k2 k3
   have HKR : Hid (∀ W : World, Calls Tryz.prog 107 #[.agg #[.int .i64 h.who, .int .i64 nr, .int .i64 tp, .string word]] W fun e w' => e = .returned (.bool (okK ⟨h.who, nr, tp, word⟩)) ∧ Below W.heap.size W w') := fun W => Kn.knotRight h.who nr tp word W hws
   cases hkk : okK ⟨h.who, nr, tp, word⟩
   · rw [hkk] at HKR
     have HF : Hid (draftB L (belows L L.length) h.who h.has h.last word = false) := by show _ = _; rw [HDB2.out, HDK2.out, hkk]
     clear HDB2 HDK2 hkk HKA
     go_upto_region 4 with fail
     go_wp2_with fail
     refine (HKR.out _).mono ?_
     rintro e w5 ⟨rfl, hb5⟩
     have HB5 : Hid (Below w2.heap.size w2 w5) := HB3.out.trans (hb5.mono HB3.out.size)
     obtain ⟨v, hv⟩ := HEW.out.below (HFW.out _ HB5.out).1
     clear k0 k1 k2 k3 HKR
     go_wp2
     exact ⟨rfl, .inr ⟨HF.out, ⟨_, rfl⟩⟩, (HFW.out _ HB5.out).1⟩
   · rw [hkk] at HKR
     have HF : Hid (draftB L (belows L L.length) h.who h.has h.last word = true) := by show _ = _; rw [HDB2.out, HDK2.out, hkk]
     clear HDB2 hkk
     go_upto_region 4 with fail
     go_wp2_with fail
     refine (HKR.out _).mono ?_
     rintro e w5 ⟨rfl, hb5⟩
     have HB5 : Hid (Below w2.heap.size w2 w5) := HB3.out.trans (hb5.mono HB3.out.size)
     have HK5 : Hid (KnAt w5 b ⟨h.who, nr, tp, word⟩) := knat_below HKA.out hb5
     clear k0 k1 k2 k3 HKR HKA hb5
     obtain ⟨_, k0, k1, k2, k3⟩ := HK5.out
     dsimp only at k0 k1 k2 k3
     have hz := (HFW.out _ HB5.out).2
     obtain ⟨z0, z1, z2, z3⟩ := zeroQc hz
     obtain ⟨f0, f1, f2, f3⟩ := zeroQf hz
     obtain ⟨q0, q1, q2, q3⟩ := hz.put (.int .i64 h.who) (.int .i64 nr) (.int .i64 tp) (.string word)
     have HBE : Hid _ := below_set4 (HFW.out _ HB5.out).1 (show w.heap.size ≤ w.heap.size + 1 by omega) (.int .i64 h.who) (.int .i64 nr) (.int .i64 tp) (.string word)
     clear hz
     go_wp2
     refine bodyPost_ret (v := .agg #[.int .i64 h.who, .int .i64 nr, .int .i64 tp, .string word]) (by simp [results, Tryz.f66, go_sem, q0, q1, q2, q3]) rfl ?_
     exact ⟨.inl ⟨HF.out, ⟨h.who, nr, tp, word⟩, HDK2.out, rfl⟩, HBE.out⟩
end Rm
namespace Rm
open Kn (K okK)
open Bit (bit withB)
open Lc (at' RdK laceB WordsOk handsN roundS)
open Sg (bel belows closedTo orB)
theorem Ow.other {W : World} {b c : Nat} {v0 v1 v2 v3 v4 : Value} (x : Ow W b v0 v1 v2 v3 v4) (hne : b ≠ c) (i : Nat) (u : Value) : Ow (W.setCell ⟨c, i, none⟩ u) b v0 v1 v2 v3 v4 := by
 have hn : ∀ j : Nat, (⟨c, i, none⟩ : Addr) ≠ ⟨b, j, none⟩ := fun j e => hne (by injection e with e; exact e.symm)
 have hc : ∀ j : Nat, (W.setCell ⟨c, i, none⟩ u).cell? ⟨b, j, none⟩ = W.cell? ⟨b, j, none⟩ := fun j => World.cell?_setCell_other _ _ _ _ (hn j)
 obtain ⟨lt, c0, c1, c2, c3, c4, f0, f1, f2, f3, f4⟩ := x
 refine ⟨by simpa using lt, (hc _).trans c0, (hc _).trans c1, (hc _).trans c2, (hc _).trans c3, (hc _).trans c4, ?_, ?_, ?_, ?_, ?_⟩
 all_goals (rw [World.frozen?_setCell]; assumption)
theorem KnAt.other {W : World} {b c : Nat} {k : K} (x : KnAt W b k) (hne : b ≠ c) (i : Nat) (u : Value) : KnAt (W.setCell ⟨c, i, none⟩ u) b k := by
 have hn : ∀ j : Nat, (⟨c, i, none⟩ : Addr) ≠ ⟨b, j, none⟩ := fun j e => hne (by injection e with e; exact e.symm)
 have hc : ∀ j : Nat, (W.setCell ⟨c, i, none⟩ u).cell? ⟨b, j, none⟩ = W.cell? ⟨b, j, none⟩ := fun j => World.cell?_setCell_other _ _ _ _ (hn j)
 exact ⟨by simpa using x.lt, (hc _).trans x.c0, (hc _).trans x.c1, (hc _).trans x.c2, (hc _).trans x.c3⟩
theorem Ow.set0 {W : World} {b : Nat} {v0 v1 v2 v3 v4 : Value} (x : Ow W b v0 v1 v2 v3 v4) (u : Value) : Ow (W.setCell ⟨b, 0, none⟩ u) b u v1 v2 v3 v4 := by
 have hc : ∀ j : Nat, 0 ≠ j → (W.setCell ⟨b, 0, none⟩ u).cell? ⟨b, j, none⟩ = W.cell? ⟨b, j, none⟩ := fun j hj => World.cell?_setCell_other _ _ _ _ (fun e => hj (by injection e))
 obtain ⟨lt, c0, c1, c2, c3, c4, f0, f1, f2, f3, f4⟩ := x
 refine ⟨by simpa using lt, World.cell?_setCell_same _ _ _ c0, (hc _ (by decide)).trans c1, (hc _ (by decide)).trans c2, (hc _ (by decide)).trans c3, (hc _ (by decide)).trans c4, ?_, ?_, ?_, ?_, ?_⟩
 all_goals (rw [World.frozen?_setCell]; assumption)
theorem Ow.set2 {W : World} {b : Nat} {v0 v1 v2 v3 v4 : Value} (x : Ow W b v0 v1 v2 v3 v4) (u : Value) : Ow (W.setCell ⟨b, 2, none⟩ u) b v0 v1 u v3 v4 := by
 have hc : ∀ j : Nat, 2 ≠ j → (W.setCell ⟨b, 2, none⟩ u).cell? ⟨b, j, none⟩ = W.cell? ⟨b, j, none⟩ := fun j hj => World.cell?_setCell_other _ _ _ _ (fun e => hj (by injection e))
 obtain ⟨lt, c0, c1, c2, c3, c4, f0, f1, f2, f3, f4⟩ := x
 refine ⟨by simpa using lt, (hc _ (by decide)).trans c0, (hc _ (by decide)).trans c1, World.cell?_setCell_same _ _ _ c2, (hc _ (by decide)).trans c3, (hc _ (by decide)).trans c4, ?_, ?_, ?_, ?_, ?_⟩
 all_goals (rw [World.frozen?_setCell]; assumption)
theorem Ow.set4 {W : World} {b : Nat} {v0 v1 v2 v3 v4 : Value} (x : Ow W b v0 v1 v2 v3 v4) (u : Value) : Ow (W.setCell ⟨b, 4, none⟩ u) b v0 v1 v2 v3 u := by
 have hc : ∀ j : Nat, 4 ≠ j → (W.setCell ⟨b, 4, none⟩ u).cell? ⟨b, j, none⟩ = W.cell? ⟨b, j, none⟩ := fun j hj => World.cell?_setCell_other _ _ _ _ (fun e => hj (by injection e))
 obtain ⟨lt, c0, c1, c2, c3, c4, f0, f1, f2, f3, f4⟩ := x
 refine ⟨by simpa using lt, (hc _ (by decide)).trans c0, (hc _ (by decide)).trans c1, (hc _ (by decide)).trans c2, (hc _ (by decide)).trans c3, World.cell?_setCell_same _ _ _ c4, ?_, ?_, ?_, ?_, ?_⟩
 all_goals (rw [World.frozen?_setCell]; assumption)
structure TSt (w W : World) (h : Hd) (nb : Nat) (k : K) (v0 v2 v4 : Value) : Prop where
 bel : Below w.heap.size w W
 ob : Ow W w.heap.size v0 (.int .i64 h.who) v2 (.int .i64 h.kept) v4
 rb : Ow W (w.heap.size + 1) (.slice none 0 0) (.int .i64 0) (.int .i64 0) (.int .i64 0) (.int .i64 0)
 kn : KnAt W nb k
 nl : w.heap.size + 1 < nb
theorem TSt.below {w W V : World} {h : Hd} {nb : Nat} {k : K} {v0 v2 v4 : Value} (x : TSt w W h nb k v0 v2 v4) (hb : Below W.heap.size W V) : TSt w V h nb k v0 v2 v4 := ⟨x.bel.trans (hb.mono x.bel.size), x.ob.below hb, x.rb.below hb, knat_below x.kn hb, x.nl⟩
theorem TSt.set0 {w W : World} {h : Hd} {nb : Nat} {k : K} {v0 v2 v4 : Value} (x : TSt w W h nb k v0 v2 v4) (u : Value) : TSt w (W.setCell ⟨w.heap.size, 0, none⟩ u) h nb k u v2 v4 := ⟨x.bel.setCell (p := ⟨w.heap.size, 0, none⟩) (Nat.le_refl _) _, x.ob.set0 u, x.rb.other (by omega) _ _, x.kn.other (by have := x.nl; omega) _ _, x.nl⟩
theorem TSt.set2 {w W : World} {h : Hd} {nb : Nat} {k : K} {v0 v2 v4 : Value} (x : TSt w W h nb k v0 v2 v4) (u : Value) : TSt w (W.setCell ⟨w.heap.size, 2, none⟩ u) h nb k v0 u v4 := ⟨x.bel.setCell (p := ⟨w.heap.size, 2, none⟩) (Nat.le_refl _) _, x.ob.set2 u, x.rb.other (by omega) _ _, x.kn.other (by have := x.nl; omega) _ _, x.nl⟩
theorem TSt.set4 {w W : World} {h : Hd} {nb : Nat} {k : K} {v0 v2 v4 : Value} (x : TSt w W h nb k v0 v2 v4) (u : Value) : TSt w (W.setCell ⟨w.heap.size, 4, none⟩ u) h nb k v0 v2 u := ⟨x.bel.setCell (p := ⟨w.heap.size, 4, none⟩) (Nat.le_refl _) _, x.ob.set4 u, x.rb.other (by omega) _ _, x.kn.other (by have := x.nl; omega) _ _, x.nl⟩
theorem rdk_set {W : World} {g b i : Nat} {L : List K} {x : Option Addr} {n m : Nat} (h : RdK W (some ⟨g, 0, none⟩) L) (hx : W.cell? ⟨b, 0, none⟩ = some (.slice x n m)) (u : Value) : RdK (W.setCell ⟨b, i, none⟩ u) (some ⟨g, 0, none⟩) L :=
 rdk_other (V := W.setCell ⟨b, i, none⟩ u) h (fun p hp => World.cell?_setCell_other _ _ _ _ (fun e => hp (by rw [← e]))) (by simp) hx
theorem with_or {has : Int} {n : Nat} (h0 : 0 ≤ has) (h1 : has < 1152921504606846976) (hn : n < 60) : Base.withI has (n : Int) = orB has (2 ^ n) := by
 unfold Base.withI
 rw [(Base.okB_iff _).2 ⟨h0, h1⟩, (Base.inB_iff _).2 ⟨by omega, by omega⟩, Int.toNat_natCast]
 have e := Base.shl_or has n h0 h1 hn
 have hp : (2 : Int) ^ n < 1152921504606846976 := by
   have : (2 : Int) ^ n ≤ 2 ^ 59 := by exact_mod_cast Nat.pow_le_pow_right (by omega) (show n ≤ 59 by omega)
   have e2 : (2 : Int) ^ 59 = 576460752303423488 := by decide
   omega
 have hp0 : (0 : Int) ≤ 2 ^ n := by exact_mod_cast Nat.zero_le _
 rw [Sg.or_eq _ _ h0 h1 hp0 hp] at e
 simp [e]
def TiesEnd (L : List K) (h : Hd) (word : ByteArray) (w : World) (e : Ending) (w' : World) : Prop :=
 ((tieB L h word = true ∧ L.length < 60 ∧ ∃ g, e = .returned (.agg #[.slice (some ⟨g, 0, none⟩) (L ++ [tieK L h word]).length (L ++ [tieK L h word]).length, .int .i64 h.who, .int .i64 (orB h.has (2 ^ L.length)), .int .i64 (orB h.has (2 ^ L.length)), .int .i64 (L.length : Int)]) ∧ g < w'.heap.size ∧ RdK w' (some ⟨g, 0, none⟩) (L ++ [tieK L h word])) ∨ (tieB L h word = false ∧ Gives e)) ∧ Below w.heap.size w w'
set_option maxHeartbeats 6400000 in
theorem ties (g cap : Nat) (L : List K) (h : Hd) (word : ByteArray) (w : World) (hi : HandIs L h) (hc : L.length ≤ cap) (hws : word.size ≤ 1099511627776) (hg : g < w.heap.size) (hr : RdK w (some ⟨g, 0, none⟩) L) (he : HoldsE w 6) (hf : HoldsE w 7) (hu : HoldsE w 5) :
   Calls Tryz.prog 55 #[.agg #[.slice (some ⟨g, 0, none⟩) L.length cap, .int .i64 h.who, .int .i64 h.has, .int .i64 h.kept, .int .i64 h.last], .string word] w (TiesEnd L h word w) := by
 have h60 := ((Lc.lace_iff L).1 hi.lace).1
 have hho : Lc.HandsOk L := Lc.lace_hands hi.lace
 have HR : Hid (RdK w (some ⟨g, 0, none⟩) L) := hr
 have HEF : Hid (HoldsE w 5) := hu
 have P0 : Hid (Below w.heap.size w ((w.alloc (.cells #[.slice (some ⟨g, 0, none⟩) L.length cap, .int .i64 h.who, .int .i64 h.has, .int .i64 h.kept, .int .i64 h.last] 66)).alloc (.cells #[.slice none 0 0, .int .i64 0, .int .i64 0, .int .i64 0, .int .i64 0] 66)) ∧ Ow ((w.alloc (.cells #[.slice (some ⟨g, 0, none⟩) L.length cap, .int .i64 h.who, .int .i64 h.has, .int .i64 h.kept, .int .i64 h.last] 66)).alloc (.cells #[.slice none 0 0, .int .i64 0, .int .i64 0, .int .i64 0, .int .i64 0] 66)) w.heap.size (.slice (some ⟨g, 0, none⟩) L.length cap) (.int .i64 h.who) (.int .i64 h.has) (.int .i64 h.kept) (.int .i64 h.last) ∧ Ow ((w.alloc (.cells #[.slice (some ⟨g, 0, none⟩) L.length cap, .int .i64 h.who, .int .i64 h.has, .int .i64 h.kept, .int .i64 h.last] 66)).alloc (.cells #[.slice none 0 0, .int .i64 0, .int .i64 0, .int .i64 0, .int .i64 0] 66)) (w.heap.size + 1) (.slice none 0 0) (.int .i64 0) (.int .i64 0) (.int .i64 0) (.int .i64 0)) :=
   ⟨((Below.refl _ w).alloc (Nat.le_refl _) _).alloc (by simp) _, (ow_new w _ _ _ _ _ _).below ((Below.refl _ _).alloc (Nat.le_refl _) _), by
     have q := ow_new (w.alloc (.cells #[.slice (some ⟨g, 0, none⟩) L.length cap, .int .i64 h.who, .int .i64 h.has, .int .i64 h.kept, .int .i64 h.last] 66)) (.slice none 0 0) (.int .i64 0) (.int .i64 0) (.int .i64 0) (.int .i64 0) 66
     rw [World.size_alloc] at q
     exact q⟩
 have HTB : Hid (tieB L h word = (draftB L (belows L L.length) h.who h.has h.last word && Lc.takesB L (tieK L h word))) := rfl
 clear hr hu
 go_enter Tryz.func55, Tryz.ntmps55
 go_upto_region 1 with fail
 generalize (w.alloc (.cells #[.slice (some ⟨g, 0, none⟩) L.length cap, .int .i64 h.who, .int .i64 h.has, .int .i64 h.kept, .int .i64 h.last] 66)).alloc (.cells #[.slice none 0 0, .int .i64 0, .int .i64 0, .int .i64 0, .int .i64 0] 66) = V at P0 ⊢
 have HB0 : Hid (Below w.heap.size w V) := P0.out.1
 have HO0 : Hid (Ow V w.heap.size (.slice (some ⟨g, 0, none⟩) L.length cap) (.int .i64 h.who) (.int .i64 h.has) (.int .i64 h.kept) (.int .i64 h.last)) := P0.out.2.1
 have HZ0 : Hid (Ow V (w.heap.size + 1) (.slice none 0 0) (.int .i64 0) (.int .i64 0) (.int .i64 0) (.int .i64 0)) := P0.out.2.2
 obtain ⟨_, x0, x1, x2, x3, x4, _, _, _, _, _⟩ := P0.out.2.1
 clear P0
 have hdr := draft g cap L h word V hi hc hws (Nat.lt_of_lt_of_le hg HB0.out.size) (HR.out.below HB0.out) (he.below HB0.out) (hf.below HB0.out)
 clear he hf
 go_wp2_with fail
 refine hdr.mono ?_
 clear hdr x0 x1 x2 x3 x4
 rintro e w1 ⟨hp, hb1⟩
 have HB1 : Hid (Below w.heap.size w w1) := HB0.out.trans (hb1.mono HB0.out.size)
 have HO1 : Hid (Ow w1 w.heap.size (.slice (some ⟨g, 0, none⟩) L.length cap) (.int .i64 h.who) (.int .i64 h.has) (.int .i64 h.kept) (.int .i64 h.last)) := HO0.out.below hb1
 have HZ1 : Hid (Ow w1 (w.heap.size + 1) (.slice none 0 0) (.int .i64 0) (.int .i64 0) (.int .i64 0) (.int .i64 0)) := HZ0.out.below hb1
 clear HB0 HO0 HZ0 hb1
 rcases hp with ⟨hd, k, hk, rfl⟩ | ⟨hd, v, rfl⟩
 rotate_left
 · have HF : Hid (tieB L h word = false) := by show _ = _; rw [HTB.out, hd]; rfl
   clear hd
   go_wp2
   exact ⟨rfl, .inr ⟨HF.out, ⟨_, rfl⟩⟩, HB1.out⟩
 have HTK : Hid (tieK L h word = k) := by show _ = _; unfold tieK draftZ; rw [hd]; exact hk
 have hkw : k.word.size ≤ 1099511627776 := by rw [← hk]; exact hws
 have HTB2 : Hid (tieB L h word = Lc.takesB L k) := by show _ = _; rw [HTB.out, hd, HTK.out]; rfl
 have hzb : w.heap.size + 1 < w1.heap.size := HZ1.out.lt
 have P1 : Hid (TSt w (w1.alloc (.cells #[.int .i64 k.hand, .int .i64 k.round, .int .i64 k.frm, .string k.word] 92)) h w1.heap.size k (.slice (some ⟨g, 0, none⟩) L.length cap) (.int .i64 h.has) (.int .i64 h.last)) :=
   ⟨HB1.out.alloc HB1.out.size _, HO1.out.below ((Below.refl _ _).alloc (Nat.le_refl _) _), HZ1.out.below ((Below.refl _ _).alloc (Nat.le_refl _) _), knat_new w1 k _, hzb⟩
 clear HTB hd hk HB1 HO1 HZ1
 go_upto_region 2 with fail
 generalize w1.alloc (.cells #[.int .i64 k.hand, .int .i64 k.round, .int .i64 k.frm, .string k.word] 92) = V1 at P1 ⊢
 generalize w1.heap.size = nb at P1 hzb ⊢
 obtain ⟨_, x0, x1, x2, x3, x4, g0, g1, g2, g3, g4⟩ := P1.out.ob
 obtain ⟨_, k0, k1, k2, k3⟩ := P1.out.kn
 have htk := Lc.takes g 0 cap L k V1 h60 hkw hho (HR.out.below P1.out.bel)
 have HTQ : Hid (Lc.takesB L k = true → L.length < 60) := fun q => by unfold Lc.takesB at q; rw [Bool.and_eq_true, decide_eq_true_eq] at q; exact q.1
 cases htb : Lc.takesB L k
 · rw [htb] at HTB2 htk
   clear htb HTQ
   go_wp2_with fail
   refine htk.mono ?_
   rintro e w2 ⟨rfl, hb2⟩
   have HB2 : Hid (Below w.heap.size w w2) := (P1.out.below hb2).bel
   obtain ⟨v, hv⟩ := HEF.out.below HB2.out
   clear x0 x1 x2 x3 x4 g0 g1 g2 g3 g4 k0 k1 k2 k3 htk
   go_wp2
   exact ⟨rfl, .inr ⟨HTB2.out, ⟨_, rfl⟩⟩, HB2.out⟩
 rw [htb] at HTB2 htk
 have hlt := HTQ.out htb
 clear htb HTQ
 go_wp2_with fail
 refine htk.mono ?_
 rintro e w2 ⟨rfl, hb2⟩
 have P2 : Hid (TSt w w2 h nb k (.slice (some ⟨g, 0, none⟩) L.length cap) (.int .i64 h.has) (.int .i64 h.last)) := P1.out.below hb2
 clear x0 x1 x2 x3 x4 g0 g1 g2 g3 g4 k0 k1 k2 k3 htk P1 hb2
 obtain ⟨_, x0, x1, x2, x3, x4, g0, g1, g2, g3, g4⟩ := P2.out.ob
 have P3 : Hid (TSt w (w2.setCell ⟨w.heap.size, 4, none⟩ (.int .i64 (L.length : Int))) h nb k (.slice (some ⟨g, 0, none⟩) L.length cap) (.int .i64 h.has) (.int .i64 (L.length : Int))) := P2.out.set4 _
 have HR3 : Hid (RdK (w2.setCell ⟨w.heap.size, 4, none⟩ (.int .i64 (L.length : Int))) (some ⟨g, 0, none⟩) L) := rdk_set (HR.out.below P2.out.bel) x0 _
 clear P2 HR
 go_upto_region 5 with fail
 generalize w2.setCell ⟨w.heap.size, 4, none⟩ (.int .i64 (L.length : Int)) = V3 at P3 HR3 ⊢
 clear x0 x1 x2 x3 x4 g0 g1 g2 g3 g4
 obtain ⟨_, x0, x1, x2, x3, x4, g0, g1, g2, g3, g4⟩ := P3.out.ob
 obtain ⟨_, k0, k1, k2, k3⟩ := P3.out.kn
 have hti := Lc.laceTied g 0 cap L k V3 (by omega) HR3.out
 go_wp2_with fail
 refine hti.mono ?_
 clear hti x0 x1 x2 x3 x4 g0 g1 g2 g3 g4 k0 k1 k2 k3 HR3
 rintro e w4 ⟨gt, T, hT, rfl, hrt, hb4⟩
 have HT : Hid (T = L ++ [k]) := hT
 clear hT
 have P4 : Hid (TSt w w4 h nb k (.slice (some ⟨g, 0, none⟩) L.length cap) (.int .i64 h.has) (.int .i64 (L.length : Int))) := P3.out.below hb4
 clear P3 hb4
 obtain ⟨_, x0, x1, x2, x3, x4, g0, g1, g2, g3, g4⟩ := P4.out.ob
 have P5 : Hid (TSt w (w4.setCell ⟨w.heap.size, 0, none⟩ (.slice (some ⟨gt, 0, none⟩) T.length T.length)) h nb k (.slice (some ⟨gt, 0, none⟩) T.length T.length) (.int .i64 h.has) (.int .i64 (L.length : Int))) := P4.out.set0 _
 have HR5 : Hid (RdK (w4.setCell ⟨w.heap.size, 0, none⟩ (.slice (some ⟨gt, 0, none⟩) T.length T.length)) (some ⟨gt, 0, none⟩) T) := rdk_set hrt x0 _
 clear P4 hrt
 go_upto_region 6 with fail
 generalize w4.setCell ⟨w.heap.size, 0, none⟩ (.slice (some ⟨gt, 0, none⟩) T.length T.length) = V5 at P5 HR5 ⊢
 clear x0 x1 x2 x3 x4 g0 g1 g2 g3 g4
 obtain ⟨_, x0, x1, x2, x3, x4, g0, g1, g2, g3, g4⟩ := P5.out.ob
 have hwi := Base.withM h.has (L.length : Int) V5
 rw [with_or hi.h0 hi.h1 hlt] at hwi
 have HNH : Hid (orB h.has (2 ^ L.length) = orB h.has (2 ^ L.length)) := rfl
 generalize hnh : orB h.has (2 ^ L.length) = nh at hwi
 have HNH2 : Hid (orB h.has (2 ^ L.length) = nh) := hnh
 clear hnh HNH
 have P6 : Hid (TSt w (V5.setCell ⟨w.heap.size, 2, none⟩ (.int .i64 nh)) h nb k (.slice (some ⟨gt, 0, none⟩) T.length T.length) (.int .i64 nh) (.int .i64 (L.length : Int))) := P5.out.set2 _
 have HR6 : Hid (RdK (V5.setCell ⟨w.heap.size, 2, none⟩ (.int .i64 nh)) (some ⟨gt, 0, none⟩) T) := rdk_set HR5.out x0 _
 clear P5 HR5
 go_upto_region 7 with (go_at_call 87; refine hwi.mono ?_; rintro e w' ⟨rfl, rfl⟩)
 generalize V5.setCell ⟨w.heap.size, 2, none⟩ (.int .i64 nh) = V6 at P6 HR6 ⊢
 clear x0 x1 x2 x3 x4 g0 g1 g2 g3 g4 hwi
 obtain ⟨_, x0, x1, x2, x3, x4, g0, g1, g2, g3, g4⟩ := P6.out.ob
 have hke := keeps gt T.length T.length ⟨h.who, nh, h.kept, (L.length : Int)⟩ V6
 go_wp2_with fail
 refine hke.mono ?_
 rintro e w7 ⟨rfl, hb7⟩
 have P7 : Hid (TSt w w7 h nb k (.slice (some ⟨gt, 0, none⟩) T.length T.length) (.int .i64 nh) (.int .i64 (L.length : Int))) := P6.out.below hb7
 have HR7 : Hid (RdK w7 (some ⟨gt, 0, none⟩) T) := HR6.out.below hb7
 clear P6 HR6 x0 x1 x2 x3 x4 g0 g1 g2 g3 g4 hke hb7
 obtain ⟨_, z0, z1, z2, z3, z4, f0, f1, f2, f3, f4⟩ := P7.out.rb
 obtain ⟨WW, hW, hOW, hBW, hsW, hcW⟩ := P7.out.rb.put (.slice (some ⟨gt, 0, none⟩) T.length T.length) (.int .i64 h.who) (.int .i64 nh) (.int .i64 nh) (.int .i64 (L.length : Int))
 have HW : Hid (WW = _) := hW
 have HE : Hid (RdK WW (some ⟨gt, 0, none⟩) T ∧ Below w.heap.size w WW) := ⟨rdk_other HR7.out hcW hsW z0, hBW _ _ P7.out.bel (by omega)⟩
 obtain ⟨_, y0, y1, y2, y3, y4, _, _, _, _, _⟩ := hOW
 clear hW hBW hsW hcW P7 HR7
 dsimp only
 go_wp2
 rw [← HW.out]
 refine bodyPost_ret (v := .agg #[.slice (some ⟨gt, 0, none⟩) T.length T.length, .int .i64 h.who, .int .i64 nh, .int .i64 nh, .int .i64 (L.length : Int)]) (by simp [results, Tryz.f55, go_sem, y0, y1, y2, y3, y4]) rfl ?_
 have hT := HT.out
 subst hT
 have hgl : gt < WW.heap.size := (HE.out.1.on 0 (by simp)).1
 refine ⟨.inl ⟨HTB2.out, hlt, gt, ?_, hgl, ?_⟩, HE.out.2⟩
 · rw [HTK.out, HNH2.out]
 · rw [HTK.out]; exact HE.out.1
end Rm
namespace Rm
open Kn (K okK)
open Lc (at' RdK laceB WordsOk handsN roundS)
open Sg (bel belows closedTo orB)
theorem catchI_panicking (p q r : Nat) (x : Int) (v1 v2 : Value) (u : TypeId) (pv : Value) (older : List PanicEntry) (w : World) (hqr : q ≠ r) (hc : w.cell? ⟨p, 0, none⟩ = some (.int .i64 x)) (hq : w.cell? ⟨q, 0, none⟩ = some v1) (hr : w.cell? ⟨r, 0, none⟩ = some v2) (fq : w.frozen? ⟨q, 0, none⟩ = false) (fr : w.frozen? ⟨r, 0, none⟩ = false) :
   CallsD Tryz.prog 99 #[.pointer (some ⟨p, 0, none⟩), .pointer (some ⟨q, 0, none⟩), .pointer (some ⟨r, 0, none⟩)] (.panicking ({ v := .iface u pv, recovered := false } :: older)) w fun e u' w' =>
     e = .returned (.tuple #[]) ∧ u' = .panicking ({ v := .iface u pv, recovered := true } :: older) ∧ w' = (w.setCell ⟨q, 0, none⟩ (.int .i64 x)).setCell ⟨r, 0, none⟩ (.bool false) := by
 have hr2 : (w.setCell ⟨q, 0, none⟩ (.int .i64 x)).cell? ⟨r, 0, none⟩ = some v2 := (World.cell?_setCell_other _ _ _ _ (fun e => hqr (by injection e))).trans hr
 refine callsD_of_wpS Tryz.func99 rfl fun c₀ cs hu => ?_
 apply wpS_seq
 apply wpS_region
 simp [wpOpsS, go_sem, recoverD, hu, Tryz.ntmps99, Exit.thenS]
 refine wpS_cond (t := true) (by simp [Act.eval, Array.replicate]) ?_
 simp only [if_true]
 apply wpS_region
 simp [wpOpsS, go_sem, hc, hq, hr2, fq, fr, bodyPostS, results, Tryz.results99]
theorem catchI_idle (p q r : Value) (w : World) :
   CallsD Tryz.prog 99 #[p, q, r] .returning w fun e u' w' => e = .returned (.tuple #[]) ∧ u' = .returning ∧ w' = w := by
 refine callsD_of_wpS Tryz.func99 rfl fun c₀ cs hu => ?_
 apply wpS_seq
 apply wpS_region
 simp [wpOpsS, go_sem, recoverD, hu, Tryz.ntmps99, Exit.thenS]
 refine wpS_cond (t := false) (by simp [Act.eval, Array.replicate]) ?_
 simp only [Bool.false_eq_true, if_false]
 refine wpS_of_wp (wp_skip ?_)
 cases c₀
 simp_all [bodyPostS, results, Tryz.results99]
structure Tri (w W : World) (v0 v1 v2 : Value) : Prop where
 bel : Below w.heap.size w W
 sz : w.heap.size + 2 < W.heap.size
 c0 : W.cell? ⟨w.heap.size, 0, none⟩ = some v0
 c1 : W.cell? ⟨w.heap.size + 1, 0, none⟩ = some v1
 c2 : W.cell? ⟨w.heap.size + 1 + 1, 0, none⟩ = some v2
 f1 : W.frozen? ⟨w.heap.size + 1, 0, none⟩ = false
 f2 : W.frozen? ⟨w.heap.size + 1 + 1, 0, none⟩ = false
theorem Tri.below {w W V : World} {v0 v1 v2 : Value} (x : Tri w W v0 v1 v2) (hb : Below W.heap.size W V) : Tri w V v0 v1 v2 :=
 ⟨x.bel.trans (hb.mono x.bel.size), Nat.lt_of_lt_of_le x.sz hb.size, (hb.cell (p := ⟨w.heap.size, 0, none⟩) (by have := x.sz; show w.heap.size < _; omega)).trans x.c0, (hb.cell (p := ⟨w.heap.size + 1, 0, none⟩) (by have := x.sz; show w.heap.size + 1 < _; omega)).trans x.c1, (hb.cell (p := ⟨w.heap.size + 1 + 1, 0, none⟩) x.sz).trans x.c2,
  (hb.frozen (p := ⟨w.heap.size + 1, 0, none⟩) (by have := x.sz; show w.heap.size + 1 < _; omega)).trans x.f1, (hb.frozen (p := ⟨w.heap.size + 1 + 1, 0, none⟩) x.sz).trans x.f2⟩
theorem tri_new (w : World) (v0 v1 v2 : Value) (t0 t1 t2 : TypeId) : Tri w (((w.alloc (.cells #[v0] t0)).alloc (.cells #[v1] t1)).alloc (.cells #[v2] t2)) v0 v1 v2 := by
 have b2 : Below ((w.alloc (.cells #[v0] t0)).alloc (.cells #[v1] t1)).heap.size ((w.alloc (.cells #[v0] t0)).alloc (.cells #[v1] t1)) (((w.alloc (.cells #[v0] t0)).alloc (.cells #[v1] t1)).alloc (.cells #[v2] t2)) := (Below.refl _ _).alloc (Nat.le_refl _) _
 have b1 : Below (w.alloc (.cells #[v0] t0)).heap.size (w.alloc (.cells #[v0] t0)) (((w.alloc (.cells #[v0] t0)).alloc (.cells #[v1] t1)).alloc (.cells #[v2] t2)) := ((Below.refl _ _).alloc (Nat.le_refl _) _).alloc (by simp) _
 have e0 : (w.alloc (.cells #[v0] t0)).cell? ⟨w.heap.size, 0, none⟩ = some v0 := by simp
 have e1 : ((w.alloc (.cells #[v0] t0)).alloc (.cells #[v1] t1)).cell? ⟨(w.alloc (.cells #[v0] t0)).heap.size, 0, none⟩ = some v1 := by simp [-World.size_alloc]
 have e2 : (((w.alloc (.cells #[v0] t0)).alloc (.cells #[v1] t1)).alloc (.cells #[v2] t2)).cell? ⟨((w.alloc (.cells #[v0] t0)).alloc (.cells #[v1] t1)).heap.size, 0, none⟩ = some v2 := by simp [-World.size_alloc]
 have g1 : ((w.alloc (.cells #[v0] t0)).alloc (.cells #[v1] t1)).frozen? ⟨(w.alloc (.cells #[v0] t0)).heap.size, 0, none⟩ = false := by simp [-World.size_alloc]
 have g2 : (((w.alloc (.cells #[v0] t0)).alloc (.cells #[v1] t1)).alloc (.cells #[v2] t2)).frozen? ⟨((w.alloc (.cells #[v0] t0)).alloc (.cells #[v1] t1)).heap.size, 0, none⟩ = false := by simp [-World.size_alloc]
 rw [World.size_alloc] at e1 g1
 rw [World.size_alloc, World.size_alloc] at e2 g2
 refine ⟨(((Below.refl _ w).alloc (Nat.le_refl _) _).alloc (by simp) _).alloc (by simp; omega) _, by simp, (b1.cell (p := ⟨w.heap.size, 0, none⟩) (by simp)).trans e0, (b2.cell (p := ⟨w.heap.size + 1, 0, none⟩) (by simp)).trans e1, e2, (b2.frozen (p := ⟨w.heap.size + 1, 0, none⟩) (by simp)).trans g1, g2⟩
set_option maxHeartbeats 1600000 in
theorem orNoneI (fid : Nat) (eg : ∀ (args : Array Value) (w : World), (callFunc fid args).run Tryz.prog w = .ok (.enter fid args) w) (c0 c1 : Value) (x : Int) (R : Int → Prop) (N : Prop) (w : World)
   (hask : ∀ V : World, Below w.heap.size w V → Calls Tryz.prog fid #[c0, c1] V fun e V' => ((∃ r, e = .returned (.int .i64 r) ∧ R r) ∨ (Gives e ∧ N)) ∧ Below V.heap.size V V') :
   Calls Tryz.prog 59 #[.int .i64 x, .func (.func fid) #[] #[c0, c1]] w fun e w' => ((∃ r, e = .returned (.tuple #[.int .i64 r, .bool true]) ∧ R r) ∨ (e = .returned (.tuple #[.int .i64 x, .bool false]) ∧ N)) ∧ Below w.heap.size w w' := by
 have hmf : ∀ (fn : Fn) (first cap : Array Value) (w : World), (Instr.makeFunc fn first cap).run Tryz.prog w = .ok (.func fn first cap) w := fun _ _ _ _ => rfl
 have P0 : Hid (Tri w (((w.alloc (.cells #[.int .i64 x] 2)).alloc (.cells #[.int .i64 0] 2)).alloc (.cells #[.bool false] 4)) (.int .i64 x) (.int .i64 0) (.bool false)) :=
   tri_new w _ _ _ _ _ _
 have HA : Hid (∀ V : World, Below w.heap.size w V → Calls Tryz.prog fid #[c0, c1] V fun e V' => ((∃ r, e = .returned (.int .i64 r) ∧ R r) ∨ (Gives e ∧ N)) ∧ Below V.heap.size V V') := hask
 clear hask
 go_enter_defers Tryz.func59, Tryz.ntmps59
 go_upto_region 2 with fail
 generalize ((w.alloc (.cells #[.int .i64 x] 2)).alloc (.cells #[.int .i64 0] 2)).alloc (.cells #[.bool false] 4) = V at P0 ⊢
 have hak := HA.out V P0.out.bel
 go_wp2_with fail
 refine hak.mono ?_
 clear hak
 rintro e w1 ⟨hp, hb1⟩
 have P1 : Hid (Tri w w1 (.int .i64 x) (.int .i64 0) (.bool false)) := P0.out.below hb1
 obtain ⟨hB, hsz, d0, d1, d2, f1, f2⟩ := P1.out
 have HB : Hid (Below w.heap.size w w1) := hB
 clear P0 hb1 hB
 rcases hp with ⟨r, rfl, hR⟩ | ⟨⟨v, rfl⟩, hN⟩
 · have e1 : ((w1.setCell ⟨w.heap.size + 1, 0, none⟩ (.int .i64 r)).setCell ⟨w.heap.size + 1 + 1, 0, none⟩ (.bool true)).cell? ⟨w.heap.size + 1, 0, none⟩ = some (.int .i64 r) := (World.cell?_setCell_other _ _ _ _ (by simp)).trans (World.cell?_setCell_same _ _ _ d1)
   have e2 : ((w1.setCell ⟨w.heap.size + 1, 0, none⟩ (.int .i64 r)).setCell ⟨w.heap.size + 1 + 1, 0, none⟩ (.bool true)).cell? ⟨w.heap.size + 1 + 1, 0, none⟩ = some (.bool true) := World.cell?_setCell_same _ _ _ ((World.cell?_setCell_other _ _ _ _ (by simp)).trans d2)
   have HE : Hid (Below w.heap.size w ((w1.setCell ⟨w.heap.size + 1, 0, none⟩ (.int .i64 r)).setCell ⟨w.heap.size + 1 + 1, 0, none⟩ (.bool true))) := (HB.out.setCell (p := ⟨w.heap.size + 1, 0, none⟩) (by simp) _).setCell (p := ⟨w.heap.size + 1 + 1, 0, none⟩) (by simp; omega) _
   go_wp2
   refine leaves_cons (f := 99) (args := #[.pointer (some ⟨w.heap.size, 0, none⟩), .pointer (some ⟨w.heap.size + 1, 0, none⟩), .pointer (some ⟨w.heap.size + 1 + 1, 0, none⟩)]) (by simp) (by simp [go_sem]) ?_
   refine (catchI_idle _ _ _ _).mono ?_
   rintro e u' w'' ⟨rfl, rfl, rfl⟩
   generalize (w1.setCell ⟨w.heap.size + 1, 0, none⟩ (.int .i64 r)).setCell ⟨w.heap.size + 1 + 1, 0, none⟩ (.bool true) = W2 at e1 e2 HE ⊢
   simp [Leaves, settle, results, Tryz.results59, go_sem, e1, e2]
   exact ⟨hR, HE.out⟩
 · have e1 : ((w1.setCell ⟨w.heap.size + 1, 0, none⟩ (.int .i64 x)).setCell ⟨w.heap.size + 1 + 1, 0, none⟩ (.bool false)).cell? ⟨w.heap.size + 1, 0, none⟩ = some (.int .i64 x) := (World.cell?_setCell_other _ _ _ _ (by simp)).trans (World.cell?_setCell_same _ _ _ d1)
   have e2 : ((w1.setCell ⟨w.heap.size + 1, 0, none⟩ (.int .i64 x)).setCell ⟨w.heap.size + 1 + 1, 0, none⟩ (.bool false)).cell? ⟨w.heap.size + 1 + 1, 0, none⟩ = some (.bool false) := World.cell?_setCell_same _ _ _ ((World.cell?_setCell_other _ _ _ _ (by simp)).trans d2)
   have HE : Hid (Below w.heap.size w ((w1.setCell ⟨w.heap.size + 1, 0, none⟩ (.int .i64 x)).setCell ⟨w.heap.size + 1 + 1, 0, none⟩ (.bool false))) := (HB.out.setCell (p := ⟨w.heap.size + 1, 0, none⟩) (by simp) _).setCell (p := ⟨w.heap.size + 1 + 1, 0, none⟩) (by simp; omega) _
   go_wp2
   refine leaves_cons (f := 99) (args := #[.pointer (some ⟨w.heap.size, 0, none⟩), .pointer (some ⟨w.heap.size + 1, 0, none⟩), .pointer (some ⟨w.heap.size + 1 + 1, 0, none⟩)]) (by simp) (by simp [go_sem]) ?_
   refine (catchI_panicking _ _ _ x _ _ _ v [] w1 (by omega) d0 d1 d2 f1 f2).mono ?_
   rintro e u' w'' ⟨rfl, rfl, rfl⟩
   generalize (w1.setCell ⟨w.heap.size + 1, 0, none⟩ (.int .i64 x)).setCell ⟨w.heap.size + 1 + 1, 0, none⟩ (.bool false) = W2 at e1 e2 HE ⊢
   simp [Leaves, settle, results, Tryz.results59, go_sem, e1, e2]
   exact ⟨hN, HE.out⟩
set_option maxHeartbeats 1600000 in
theorem nextRound1 (ao : Option Addr) (lb hb cap : Nat) (L : List K) (h : Hd) (a : Addr) (w : World) (hlc : w.cell? ⟨lb, 0, none⟩ = some (.slice ao L.length cap)) (hhc : HAt w hb 0 h) (hla0 : ∀ V : World, Below w.heap.size w V → Calls Tryz.prog 92 #[.slice ao L.length cap] V (Lc.LacePost L V)) (hk : H64 h) (hn : NoH w a) (he : HoldsE w 6) :
   Calls Tryz.prog 60 #[.pointer (some ⟨lb, 0, none⟩), .pointer (some ⟨hb, 0, none⟩)] w fun e w' => ((∃ r, e = .returned (.int .i64 r) ∧ r = nextRI L h) ∨ (Gives e ∧ nextRI L h = -1)) ∧ Below w.heap.size w w' := by
 obtain ⟨a0, a1, a2, a3⟩ := cellsH hhc
 have hro := rightOwner ao cap L h a w hla0 hk hn
 have HEO : Hid (HoldsE w 6) := he
 clear hla0 hn hhc he
 go_enter Tryz.func60, Tryz.ntmps60
 go_wp2_with fail
 refine hro.mono ?_
 clear hro a0 a1 a2 a3 hlc
 intro e w1 hp
 rcases hp with ⟨hl, g, rfl, hg1, hr1, hb1⟩ | ⟨hl, ⟨v, rfl⟩, hb1⟩
 · have HN : Hid (nextRI L h = nextI L h.has h.last) := if_pos hl
   have hnx := nextRound g L.length L h w1 (hand_is hk hl) (Nat.le_refl _) hr1 (HEO.out.below hb1)
   have HB1 : Hid (Below w.heap.size w w1) := hb1
   clear hl hr1 hg1 hb1 HEO
   go_wp2_with fail
   refine hnx.mono ?_
   clear hnx
   rintro e w2 ⟨hp, hb2⟩
   have HB2 : Hid (Below w.heap.size w w2) := HB1.out.trans (hb2.mono HB1.out.size)
   rcases hp with ⟨h0, rfl⟩ | ⟨h0, v, rfl⟩
   · go_wp2
     go_ret
     exact ⟨.inl ⟨_, rfl, HN.out.symm⟩, HB2.out⟩
   · go_wp2
     exact ⟨rfl, .inr ⟨⟨_, rfl⟩, HN.out.trans h0⟩, HB2.out⟩
 · have HN : Hid (nextRI L h = -1) := by show _ = _; unfold nextRI; rw [hl]; rfl
   go_wp2
   exact ⟨rfl, .inr ⟨⟨_, rfl⟩, HN.out⟩, hb1⟩
theorem boxes_new (w : World) (x : Value) (h : Hd) (t0 t1 : TypeId) : Below w.heap.size w ((w.alloc (.cells #[x] t0)).alloc (.cells #[.int .i64 h.who, .int .i64 h.has, .int .i64 h.kept, .int .i64 h.last] t1)) ∧ ((w.alloc (.cells #[x] t0)).alloc (.cells #[.int .i64 h.who, .int .i64 h.has, .int .i64 h.kept, .int .i64 h.last] t1)).cell? ⟨w.heap.size, 0, none⟩ = some x ∧ HAt ((w.alloc (.cells #[x] t0)).alloc (.cells #[.int .i64 h.who, .int .i64 h.has, .int .i64 h.kept, .int .i64 h.last] t1)) (w.heap.size + 1) 0 h := by
 have b1 : Below (w.alloc (.cells #[x] t0)).heap.size (w.alloc (.cells #[x] t0)) ((w.alloc (.cells #[x] t0)).alloc (.cells #[.int .i64 h.who, .int .i64 h.has, .int .i64 h.kept, .int .i64 h.last] t1)) := (Below.refl _ _).alloc (Nat.le_refl _) _
 have q := hat_new (w.alloc (.cells #[x] t0)) h t1
 rw [World.size_alloc] at q
 exact ⟨((Below.refl _ w).alloc (Nat.le_refl _) _).alloc (by simp) _, (b1.cell (p := ⟨w.heap.size, 0, none⟩) (by simp)).trans (by simp), q⟩
set_option maxHeartbeats 1600000 in
theorem implNextRoundA (ao : Option Addr) (cap : Nat) (L : List K) (h : Hd) (a : Addr) (w : World) (hla0 : ∀ V : World, Below w.heap.size w V → Calls Tryz.prog 92 #[.slice ao L.length cap] V (Lc.LacePost L V)) (hk : H64 h) (hn : NoH w a) (he : HoldsE w 6) :
   Calls Tryz.prog 21 #[.slice ao L.length cap, .agg #[.int .i64 h.who, .int .i64 h.has, .int .i64 h.kept, .int .i64 h.last]] w fun e w' => e = .returned (.int .i64 (nextRI L h)) ∧ Below w.heap.size w w' := by
 have hmf : ∀ (fn : Fn) (first cap : Array Value) (w : World), (Instr.makeFunc fn first cap).run Tryz.prog w = .ok (.func fn first cap) w := fun _ _ _ _ => rfl
 have P0 : Hid _ := boxes_new w (.slice ao L.length cap) h 24 26
 go_enter Tryz.func21, Tryz.ntmps21
 go_upto_region 1 with fail
 generalize (w.alloc (.cells #[.slice ao L.length cap] 24)).alloc (.cells #[.int .i64 h.who, .int .i64 h.has, .int .i64 h.kept, .int .i64 h.last] 26) = V at P0 ⊢
 have HB0 : Hid (Below w.heap.size w V) := P0.out.1
 have hlt : w.heap.size < V.heap.size := cell_lt P0.out.2.1
 have hor := orNoneI 60 (enters_of Tryz.func60 (by kernel_rfl) rfl) (.pointer (some ⟨w.heap.size, 0, none⟩)) (.pointer (some ⟨w.heap.size + 1, 0, none⟩)) (-1) (fun r => r = nextRI L h) (nextRI L h = -1) V (fun X hX => nextRound1 ao w.heap.size (w.heap.size + 1) cap L h a X ((hX.cell (p := ⟨w.heap.size, 0, none⟩) hlt).trans P0.out.2.1) (hat_below P0.out.2.2 hX) (fun Y hY => hla0 Y ((HB0.out.trans (hX.mono HB0.out.size)).trans (hY.mono (HB0.out.trans (hX.mono HB0.out.size)).size))) hk ((hn.below HB0.out).below hX) ((he.below HB0.out).below hX))
 clear P0 hla0 hn he
 go_wp2_with fail
 refine hor.mono ?_
 clear hor
 rintro e w1 ⟨hp, hb1⟩
 have HB1 : Hid (Below w.heap.size w w1) := HB0.out.trans (hb1.mono HB0.out.size)
 rcases hp with ⟨r, rfl, hr⟩ | ⟨rfl, hr⟩
 · have HR : Hid (r = nextRI L h) := hr
   clear hr
   go_wp2
   go_ret
   exact ⟨by rw [← HR.out]; rfl, HB1.out⟩
 · have HR : Hid (nextRI L h = -1) := hr
   clear hr
   go_wp2
   go_ret
   exact ⟨by rw [HR.out]; rfl, HB1.out⟩
theorem implNextRound (g off cap : Nat) (L : List K) (h : Hd) (a : Addr) (w : World) (hlen : L.length ≤ 1099511627776) (hw : WordsOk L) (hk : H64 h) (hr : RdK w (some ⟨g, off, none⟩) L) (hn : NoH w a) (he : HoldsE w 6) :
   Calls Tryz.prog 21 #[.slice (some ⟨g, off, none⟩) L.length cap, .agg #[.int .i64 h.who, .int .i64 h.has, .int .i64 h.kept, .int .i64 h.last]] w fun e w' => e = .returned (.int .i64 (nextRI L h)) ∧ Below w.heap.size w w' :=
 implNextRoundA _ cap L h a w (fun V hV => Lc.laceOf g off cap L V hlen hw (hr.below hV)) hk hn he
def STie1 (W : World) : Prop := NoHs W ∧ HoldsE W 6
theorem STie1.below {W V : World} (h : STie1 W) (hb : Below W.heap.size W V) : STie1 V := ⟨h.1.below hb, h.2.below hb⟩
end Rm
end Go.Proofs.YtfjmenhofllchaaGreatDoor
