/-
 What the model's drawing of the bad hand's act hands back: an act with a short word; it changes the cursor alone.
 What the model's drawing of an act hands back, where the drawing of the bad hand's keeps its word: an act with a short word; it changes the cursor alone.
-/
import Derived.Test.YtflhaiakhfmmmaaGreatORoomXm
import Derived.Deep.CutBlock
namespace Go.Proofs.YtflhaiakhfmmmaaGreat
open Go.RowKit
set_option maxRecDepth 100000
namespace Rm
open Kn (K okK in3)
open Lc (at' RdK laceB takesB flat OwnK CellsK cellsOf)
open Cur (At)
theorem ac_fin2 {c : Nat} {a : Option Addr} {len cap : Nat} {w wr : World} {v0 v1 v2 v3 : Value} {ab : Nat} {x y : Ac} (s : AcSt c a len cap w wr v0 v1 v2 v3 ab x) (hcb : CurB c a len w.heap.size) (hw : y.word.size ≤ 13) : AcPost c a len cap w (.returned (acV y)) (set6 wr (w.heap.size + 1) y) :=
 have hf := set6_fr wr (w.heap.size + 1) y
 ⟨y, rfl, hw, at_belowB s.at' hcb (hf.toBelow s.fr.size (fun y hy => by omega)), s.fr.trans hf (fun y hy hl => by omega)⟩
set_option maxHeartbeats 12800000 in
theorem l18DrawAct' (HB : DrawsBad) : DrawsAct := by
 intro c a len cap B R w hl hca hcB hp hcvx
 obtain ⟨co, nc, cc, hcv⟩ := hcvx
 obtain ⟨ao, cp, hlv, ho, hz, _, hrd, hltv⟩ := own_lace hp.own
 have HBB : Hid DrawsBad := HB
 have hcb := curB_of hca
 have hcw : c < w.heap.size := hca.lt
 have h60 := ((Lc.lace_iff R.L).1 hp.lace).1
 have HV : roV R = .agg #[.slice ao R.L.length cp, .slice co nc cc, .slice (some ⟨R.gh, 0, none⟩) 4 R.hc, .int .i64 R.bad] := by unfold roV; rw [hlv, hcv]
 have hnc : ∀ x, ao = some x → ¬ x.block = c := fun x hx e => by
   have h1 := (hltv x.block (by rw [hlv, hx]; rfl)).1
   have h2 := hcB.1
   omega
 have P0 : Hid (Below w.heap.size w ((w.alloc (.cells #[.slice ao R.L.length cp, .slice co nc cc, .slice (some ⟨R.gh, 0, none⟩) 4 R.hc, .int .i64 R.bad] 102)).alloc (.cells #[.int .i64 0, .int .i64 0, .int .i64 0, .int .i64 0, .int .i64 0, .string ⟨#[]⟩] 127)) ∧ Q4 ((w.alloc (.cells #[.slice ao R.L.length cp, .slice co nc cc, .slice (some ⟨R.gh, 0, none⟩) 4 R.hc, .int .i64 R.bad] 102)).alloc (.cells #[.int .i64 0, .int .i64 0, .int .i64 0, .int .i64 0, .int .i64 0, .string ⟨#[]⟩] 127)) w.heap.size (.slice ao R.L.length cp) (.slice co nc cc) (.slice (some ⟨R.gh, 0, none⟩) 4 R.hc) (.int .i64 R.bad) ∧ Q6 ((w.alloc (.cells #[.slice ao R.L.length cp, .slice co nc cc, .slice (some ⟨R.gh, 0, none⟩) 4 R.hc, .int .i64 R.bad] 102)).alloc (.cells #[.int .i64 0, .int .i64 0, .int .i64 0, .int .i64 0, .int .i64 0, .string ⟨#[]⟩] 127)) (w.heap.size + 1) zeroA) := by
   refine ⟨((Below.refl _ w).alloc (Nat.le_refl _) _).alloc (by simp) _, q4_below (q4_new w _ _ _ _ _) ((Below.refl _ _).alloc (Nat.le_refl _) _), ?_⟩
   have := q6_new (w.alloc (.cells #[.slice ao R.L.length cp, .slice co nc cc, .slice (some ⟨R.gh, 0, none⟩) 4 R.hc, .int .i64 R.bad] 102)) zeroA 127
   rw [World.size_alloc] at this
   exact this
 have HRD : Hid (∀ X : World, FrC c w X → RdK X ao R.L) := fun X hX => rdK_fr hrd hX hnc
 have HHH : Hid (∀ X : World, FrC c w X → ∀ i, i < 4 → HAt X R.gh (i * 4) (R.hs i)) := fun X hX i hi => hat_fr (hp.hands i hi) hX (by have := hp.gB; have := hcB.1; omega)
 have HLC : Hid (laceB R.L = true) := hp.lace
 have HOK : Hid (∀ i, i < 4 → HdOk R.L.length (R.hs i)) := hp.hok
 have HNC : Hid (∀ x, ao = some x → ¬ x.block = c) := hnc
 have hcap := hp.cap
 rw [HV]
 clear HV hp hlv hcv ho hz hrd hltv HB hnc
 go_enter Tryz.func142, Tryz.ntmps142
 go_upto_region 1 with fail
 generalize (w.alloc (.cells #[.slice ao R.L.length cp, .slice co nc cc, .slice (some ⟨R.gh, 0, none⟩) 4 R.hc, .int .i64 R.bad] 102)).alloc (.cells #[.int .i64 0, .int .i64 0, .int .i64 0, .int .i64 0, .int .i64 0, .string ⟨#[]⟩] 127) = W at P0 ⊢
 have HAW : Hid (At c a len cap W) := at_belowB hca hcb P0.out.1
 go_wp2_with fail
 refine (Cur.below c a len cap 4 _ hl (by omega) HAW.out).mono ?_
 rintro e w0 ⟨who, rfl, hw0, hw1, hA0, hG0⟩
 have hw2 := hw1 (by omega)
 obtain ⟨q, rfl⟩ := Int.eq_ofNat_of_zero_le hw0
 have hq4 : q < 4 := by omega
 have hqi : (q : Int) < 4 := by omega
 go_wp2_with fail
 refine (Kn.drawWord c a len cap _ hl hA0).mono ?_
 rintro e w1 ⟨s, rfl, hs13, hA1, hG1⟩
 have HS : Hid (AcSt c a len cap w (w1.alloc (.cells #[.int .i64 1, .int .i64 (q : Int), .int .i64 0, .int .i64 0, .int .i64 0, .string s] 127)) (.slice ao R.L.length cp) (.slice co nc cc) (.slice (some ⟨R.gh, 0, none⟩) 4 R.hc) (.int .i64 R.bad) w1.heap.size ⟨1, (q : Int), 0, 0, 0, s⟩) := ac_beg hcw hcb P0.out.1 P0.out.2.1 P0.out.2.2 hA1 ((Fr.of_grown hG0).trans (Fr.of_grown hG1) (fun _ hx _ => hx)) ⟨1, (q : Int), 0, 0, 0, s⟩ _
 clear hA1 hG1 HAW hA0 hG0 hw1 hw2 hw0
 go_upto_region 2 with fail
 generalize w1.alloc (.cells #[.int .i64 1, .int .i64 (q : Int), .int .i64 0, .int .i64 0, .int .i64 0, .string s] 127) = W2 at HS ⊢
 generalize w1.heap.size = ab at HS ⊢
 have c0 := HS.out.box.c0
 go_wp2_with fail
 refine (Cur.below c a len cap 12 _ hl (by omega) HS.out.at').mono ?_
 rintro e w3 ⟨t, rfl, ht0, ht1, hA3, hG3⟩
 have ht2 := ht1 (by omega)
 have HS3 : Hid (AcSt c a len cap w w3 (.slice ao R.L.length cp) (.slice co nc cc) (.slice (some ⟨R.gh, 0, none⟩) 4 R.hc) (.int .i64 R.bad) ab ⟨1, (q : Int), 0, 0, 0, s⟩) := ac_cur HS.out hcw hA3 hG3
 clear hA3 hG3 HS c0 ht1
 go_upto_block 0 with fail
 go_cut [6] (fun n wx => n = .int .i64 (R.L.length : Int) ∧ ∃ x : Ac, x.word.size ≤ 13 ∧ Hid (AcSt c a len cap w wx (.slice ao R.L.length cp) (.slice co nc cc) (.slice (some ⟨R.gh, 0, none⟩) 4 R.hc) (.int .i64 R.bad) ab x))
 case first =>
   refine wp_block (wp_seq (wp_mono (Q := fun e a' w' => ∃ u19 u20 u21 u22 u23 u24 : Value, e = Exit.normal ∧ w3 = w' ∧ a' = { tmps := #[.pointer (some ⟨c, 0, none⟩), .agg #[.slice ao R.L.length cp, .slice co nc cc, .slice (some ⟨R.gh, 0, none⟩) 4 R.hc, .int .i64 R.bad], undef, .pointer (some ⟨w.heap.size, 0, none⟩), .pointer (some ⟨w.heap.size + 1, 0, none⟩), .pointer (some ⟨ab, 0, none⟩), .int .i64 (R.L.length : Int), undef, .pointer (some ⟨c, 0, none⟩), .int .i64 (q : Int), .pointer (some ⟨c, 0, none⟩), .string s, .agg #[.int .i64 1, .int .i64 (q : Int), .int .i64 0, .int .i64 0, .int .i64 0, .string s], .pointer (some ⟨w.heap.size, 0, none⟩), .slice ao R.L.length cp, .int .i64 (R.L.length : Int), .pointer (some ⟨c, 0, none⟩), .int .i64 t, .bool (decide (t ≤ 5)), u19, u20, u21, u22, u23, u24, undef, undef, undef, undef, undef, undef, undef, undef, undef, undef, undef, undef, undef, undef, undef, undef, undef, undef, undef, undef, undef, undef, undef, undef, undef, undef, undef, undef, undef, undef, undef, undef, undef, undef, undef, undef, undef, undef, undef, undef, undef, undef, undef, undef, undef, undef, undef, undef, undef, undef, undef, undef, undef, undef, undef, undef, undef, undef, undef, undef, undef, undef, undef, undef, undef, undef, undef, undef, undef, undef, undef, undef], defers := [] }) ?chain ?after))
   case chain =>
     have htc : t = 0 ∨ t = 1 ∨ t = 2 ∨ t = 3 ∨ t = 4 ∨ t = 5 ∨ t = 6 ∨ t = 7 ∨ t = 8 ∨ t = 9 ∨ t = 10 ∨ t = 11 := by omega
     rcases htc with rfl | rfl | rfl | rfl | rfl | rfl | rfl | rfl | rfl | rfl | rfl | rfl
     all_goals go_wp2_with fail
   case after =>
     rintro e a' w' ⟨u19, u20, u21, u22, u23, u24, rfl, rfl, rfl⟩
     dsimp only [Exit.then]
     by_cases ht5 : t ≤ 5
     · have hd5 : decide (t ≤ 5) = true := decide_eq_true ht5
       rw [hd5]
       clear ht5 hd5
       have HSl : Hid (AcSt c a len cap w ((w3.setCell ⟨ab, 0, none⟩ (.int .i64 2)).setCell ⟨ab, 5, none⟩ (.string ⟨#[]⟩)) (.slice ao R.L.length cp) (.slice co nc cc) (.slice (some ⟨R.gh, 0, none⟩) 4 R.hc) (.int .i64 R.bad) ab ⟨2, (q : Int), 0, 0, 0, ⟨#[]⟩⟩) := by
         have h1 := ac_put HS3.out hcb (Fr.set _ ⟨ab, 0, none⟩ (.int .i64 2)) (q6_0 HS3.out.act 2)
         exact ac_put h1 hcb (Fr.set _ ⟨ab, 5, none⟩ (.string ⟨#[]⟩)) (q6_5 h1.act ⟨#[]⟩)
       have b0 := HS3.out.act.c0
       have b5 := HS3.out.act.c5
       have g0 := HS3.out.act.f0
       have g5 := HS3.out.act.f5
       go_wp2_with fail
       clear b0 b5 g0 g5
       generalize (w3.setCell ⟨ab, 0, none⟩ (.int .i64 2)).setCell ⟨ab, 5, none⟩ (.string ⟨#[]⟩) = W9 at HSl ⊢
       go_loopw [7] (fun i wr => ∃ j : Nat, j ≤ R.L.length ∧ i = .int .i64 j ∧ Hid (AcSt c a len cap w wr (.slice ao R.L.length cp) (.slice co nc cc) (.slice (some ⟨R.gh, 0, none⟩) 4 R.hc) (.int .i64 R.bad) ab ⟨2, (q : Int), 0, 0, 0, ⟨#[]⟩⟩)) (fun i _ => R.L.length - (intOf i).toNat)
       case atStart => exact ⟨0, by omega, rfl, HSl.out⟩
       case round =>
         obtain ⟨j, hj, rfl, HSr⟩ := hrel
         by_cases hjl : j < R.L.length
         · have hji : (j : Int) < (R.L.length : Int) := by omega
           have c2 := HSr.out.box.c2
           have b1 := HSr.out.act.c1
           have x1 := (HHH.out wr HSr.out.fr q hq4).c1
           have hh := HOK.out q hq4
           have h0 := hh.h0
           have h1 := hh.h1
           clear hh HSl
           cases hb : Bit.bit (R.hs q).has j
           · have HBb : Hid (Bit.bit (R.hs q).has j = false) := hb
             clear hb
             go_wp2_with (go_at_call 48; refine (Base.l1Has _ _ _ h0 h1 (by omega) (by omega)).mono ?_; rintro e w' ⟨rfl, rfl⟩; rw [Int.toNat_natCast, HBb.out])
             refine (Cur.once c a len cap 5 _ hl (by omega) HSr.out.at').mono ?_
             rintro e wz ⟨b, rfl, hAz, hGz⟩
             have HSz : Hid (AcSt c a len cap w wz (.slice ao R.L.length cp) (.slice co nc cc) (.slice (some ⟨R.gh, 0, none⟩) 4 R.hc) (.int .i64 R.bad) ab ⟨2, (q : Int), 0, 0, 0, ⟨#[]⟩⟩) := ac_cur HSr.out hcw hAz hGz
             clear hAz hGz HSr c2 b1 x1
             cases b
             · have b2 := HSz.out.act.c2
               have g2 := HSz.out.act.f2
               go_wp2
               go_meet
               exact ⟨rfl, ⟨2, (q : Int), (j : Int), 0, 0, ⟨#[]⟩⟩, by show (ByteArray.mk #[]).size ≤ 13; decide, ac_put HSz.out hcb (Fr.set _ ⟨ab, 2, none⟩ _) (q6_2 HSz.out.act _)⟩
             · go_wp2
               go_roundw
               case rel => exact ⟨j + 1, by omega, by go_num, HSz⟩
               case measure => simp [intOf]; omega
           · have HBb : Hid (Bit.bit (R.hs q).has j = true) := hb
             clear hb
             go_wp2_with (go_at_call 48; refine (Base.l1Has _ _ _ h0 h1 (by omega) (by omega)).mono ?_; rintro e w' ⟨rfl, rfl⟩; rw [Int.toNat_natCast, HBb.out])
             go_roundw
             case rel => exact ⟨j + 1, by omega, by go_num, HSr⟩
             case measure => simp [intOf]; omega
         · obtain rfl : j = R.L.length := by omega
           have hjj : ¬ (R.L.length : Int) < (R.L.length : Int) := by omega
           go_wp2
           go_meet
           exact ⟨rfl, _, by show (ByteArray.mk #[]).size ≤ 13; decide, HSr⟩
     · have hd5 : decide (t ≤ 5) = false := decide_eq_false ht5
       rw [hd5]
       have htc : t = 6 ∨ t = 7 ∨ t = 8 ∨ t = 9 ∨ t = 10 ∨ t = 11 := by omega
       clear hd5 ht5
       rcases htc with rfl | rfl | rfl | rfl | rfl | rfl
       · skip
         have c3 := HS3.out.box.c3
         by_cases hbad : 0 ≤ R.bad
         · have c0 := HS3.out.box.c0
           have c1 := HS3.out.box.c1
           have c2 := HS3.out.box.c2
           go_wp2_with fail
           refine (HBB.out c a len cap ao cp R.L co nc cc (some ⟨R.gh, 0, none⟩) 4 R.hc R.bad _ hl HS3.out.at' HLC.out (HRD.out _ HS3.out.fr) HNC.out).mono ?_
           rintro e w4 ⟨y, rfl, hy13, hA4, hF4⟩
           have HS4 : Hid (AcSt c a len cap w w4 (.slice ao R.L.length cp) (.slice co nc cc) (.slice (some ⟨R.gh, 0, none⟩) 4 R.hc) (.int .i64 R.bad) ab ⟨1, (q : Int), 0, 0, 0, s⟩) := ac_cur HS3.out hcw hA4 hF4.grown
           have HF : Hid (AcPost c a len cap w (.returned (acV y)) (set6 w4 (w.heap.size + 1) y)) := ac_fin2 HS4.out hcb hy13
           have HQ : Hid (Q6 (set6 w4 (w.heap.size + 1) y) (w.heap.size + 1) y) := set6_at HS4.out.res
           obtain ⟨_, r0, r1, r2, r3, r4, r5, f0, f1, f2, f3, f4, f5⟩ := HS4.out.res
           clear hA4 hF4
           go_wp2
           obtain ⟨_, y0, y1, y2, y3, y4, y5, _, _, _, _, _, _⟩ := HQ.out
           unfold set6 at y0 y1 y2 y3 y4 y5
           exact bodyPost_ret (v := acV y) (by simp [results, Tryz.results142, go_sem, y0, y1, y2, y3, y4, y5]) rfl HF.out
         · go_wp2
           go_meet
           exact ⟨rfl, _, hs13, HS3⟩
       · skip
         go_wp2_with fail
         refine (Cur.once c a len cap 4 _ hl (by omega) HS3.out.at').mono ?_
         rintro e w4 ⟨b, rfl, hA4, hG4⟩
         have HS4 : Hid (AcSt c a len cap w w4 (.slice ao R.L.length cp) (.slice co nc cc) (.slice (some ⟨R.gh, 0, none⟩) 4 R.hc) (.int .i64 R.bad) ab ⟨1, (q : Int), 0, 0, 0, s⟩) := ac_cur HS3.out hcw hA4 hG4
         have h3 := ac_put HS4.out hcb (set6_fr w4 ab ⟨3, (q : Int), 0, 0, 0, ⟨#[]⟩⟩) (set6_at HS4.out.act)
         have h4 := ac_put HS4.out hcb (set6_fr w4 ab ⟨4, (q : Int), 0, 0, 0, ⟨#[]⟩⟩) (set6_at HS4.out.act)
         unfold set6 at h3 h4
         have H3 : Hid _ := h3
         have H4 : Hid _ := h4
         have hz13 : (Ac.mk 0 0 0 0 0 ⟨#[]⟩).word.size ≤ 13 := by show (ByteArray.mk #[]).size ≤ 13; decide
         clear h3 h4
         obtain ⟨_, b0, b1, b2, b3, b4, b5, g0, g1, g2, g3, g4, g5⟩ := HS4.out.act
         clear hA4 hG4
         cases b
         · go_wp2
           go_meet
           exact ⟨rfl, _, hz13, H3⟩
         · go_wp2
           go_meet
           exact ⟨rfl, _, hz13, H4⟩
       · skip
         go_wp2
         go_meet
         exact ⟨rfl, _, hs13, HS3⟩
       · skip
         go_wp2
         go_meet
         exact ⟨rfl, _, hs13, HS3⟩
       · skip
         go_wp2
         go_meet
         exact ⟨rfl, _, hs13, HS3⟩
       · skip
         go_wp2
         go_meet
         exact ⟨rfl, _, hs13, HS3⟩
 case rest =>
   obtain ⟨rfl, x, hx13, HS4⟩ := hcut
   clear HS3
   go_wp2_with fail
   refine (Cur.once c a len cap 60 _ hl (by omega) HS4.out.at').mono ?_
   rintro e w5 ⟨b, rfl, hA5, hG5⟩
   have HS5 : Hid (AcSt c a len cap w w5 (.slice ao R.L.length cp) (.slice co nc cc) (.slice (some ⟨R.gh, 0, none⟩) 4 R.hc) (.int .i64 R.bad) ab x) := ac_cur HS4.out hcw hA5 hG5
   clear hA5 hG5 HS4
   cases b
   · have HF : Hid (AcPost c a len cap w (.returned (acV x)) (set6 w5 (w.heap.size + 1) x)) := ac_fin HS5.out hcb hx13
     have HQ : Hid (Q6 (set6 w5 (w.heap.size + 1) x) (w.heap.size + 1) x) := set6_at HS5.out.res
     obtain ⟨_, b0, b1, b2, b3, b4, b5, _, _, _, _, _, _⟩ := HS5.out.act
     obtain ⟨_, r0, r1, r2, r3, r4, r5, f0, f1, f2, f3, f4, f5⟩ := HS5.out.res
     go_wp2
     obtain ⟨_, y0, y1, y2, y3, y4, y5, _, _, _, _, _, _⟩ := HQ.out
     unfold set6 at y0 y1 y2 y3 y4 y5
     exact bodyPost_ret (v := acV x) (by simp [results, Tryz.results142, go_sem, y0, y1, y2, y3, y4, y5]) rfl HF.out
   · go_wp2_with fail
     refine (Cur.below c a len cap 3 _ hl (by omega) HS5.out.at').mono ?_
     rintro e w6 ⟨p, rfl, hp0, hp1, hA6, hG6⟩
     have hp2 := hp1 (by omega)
     have HS6 : Hid (AcSt c a len cap w w6 (.slice ao R.L.length cp) (.slice co nc cc) (.slice (some ⟨R.gh, 0, none⟩) 4 R.hc) (.int .i64 R.bad) ab x) := ac_cur HS5.out hcw hA6 hG6
     clear hA6 hG6 HS5 hp1
     go_upto_block 3 with fail
     go_cut [6] (fun n wx => n = .int .i64 (R.L.length : Int) ∧ ∃ x' : Ac, x'.word.size ≤ 13 ∧ Hid (AcSt c a len cap w wx (.slice ao R.L.length cp) (.slice co nc cc) (.slice (some ⟨R.gh, 0, none⟩) 4 R.hc) (.int .i64 R.bad) ab x'))
     case first =>
       have hpc : p = 0 ∨ p = 1 ∨ p = 2 := by omega
       rcases hpc with rfl | rfl | rfl
       · skip
         have HN : Hid (AcSt c a len cap w (w6.alloc (.cells #[.int .i64 0, .int .i64 6, .int .i64 (-1)] 2)) (.slice ao R.L.length cp) (.slice co nc cc) (.slice (some ⟨R.gh, 0, none⟩) 4 R.hc) (.int .i64 R.bad) ab x ∧ (w6.alloc (.cells #[.int .i64 0, .int .i64 6, .int .i64 (-1)] 2)).cell? ⟨w6.heap.size, 0, none⟩ = some (.int .i64 0) ∧ (w6.alloc (.cells #[.int .i64 0, .int .i64 6, .int .i64 (-1)] 2)).cell? ⟨w6.heap.size, 1, none⟩ = some (.int .i64 6) ∧ (w6.alloc (.cells #[.int .i64 0, .int .i64 6, .int .i64 (-1)] 2)).cell? ⟨w6.heap.size, 2, none⟩ = some (.int .i64 (-1)) ∧ w6.heap.size < (w6.alloc (.cells #[.int .i64 0, .int .i64 6, .int .i64 (-1)] 2)).heap.size) := ⟨ac_below HS6.out hcb ((Below.refl _ _).alloc (Nat.le_refl _) _), by simp, by simp, by simp, by simp⟩
         go_wp2_with fail
         generalize w6.alloc (.cells #[.int .i64 0, .int .i64 6, .int .i64 (-1)] 2) = W7 at HN ⊢
         have hkc : w6.heap.size ≠ c := by have := HS6.out.fr.size; omega
         generalize w6.heap.size = kb at HN hkc ⊢
         refine (Cur.below c a len cap 3 _ hl (by omega) HN.out.1.at').mono ?_
         rintro e w8 ⟨y, rfl, hy0, hy1, hA8, hG8⟩
         have hy2 := hy1 (by omega)
         have HS8 : Hid (AcSt c a len cap w w8 (.slice ao R.L.length cp) (.slice co nc cc) (.slice (some ⟨R.gh, 0, none⟩) 4 R.hc) (.int .i64 R.bad) ab x) := ac_cur HN.out.1 hcw hA8 hG8
         have d0 := ((Fr.of_grown hG8).cell (p := ⟨kb, 0, none⟩) HN.out.2.2.2.2 hkc).trans HN.out.2.1
         have d1 := ((Fr.of_grown hG8).cell (p := ⟨kb, 1, none⟩) HN.out.2.2.2.2 hkc).trans HN.out.2.2.1
         have d2 := ((Fr.of_grown hG8).cell (p := ⟨kb, 2, none⟩) HN.out.2.2.2.2 hkc).trans HN.out.2.2.2.1
         have bf := HS8.out.act.f0
         have bc := HS8.out.act.c0
         clear hA8 hG8 hy1 HN HS6
         have hyc : y = 0 ∨ y = 1 ∨ y = 2 := by omega
         rcases hyc with rfl | rfl | rfl
         · go_wp2
           go_meet
           exact ⟨rfl, { x with kind := 0 }, hx13, ac_put HS8.out hcb (Fr.set _ ⟨ab, 0, none⟩ _) (q6_0 HS8.out.act _)⟩
         · go_wp2
           go_meet
           exact ⟨rfl, { x with kind := 6 }, hx13, ac_put HS8.out hcb (Fr.set _ ⟨ab, 0, none⟩ _) (q6_0 HS8.out.act _)⟩
         · go_wp2
           go_meet
           exact ⟨rfl, { x with kind := (-1) }, hx13, ac_put HS8.out hcb (Fr.set _ ⟨ab, 0, none⟩ _) (q6_0 HS8.out.act _)⟩
       · skip
         have HN : Hid (AcSt c a len cap w (w6.alloc (.cells #[.int .i64 (-1), .int .i64 4] 2)) (.slice ao R.L.length cp) (.slice co nc cc) (.slice (some ⟨R.gh, 0, none⟩) 4 R.hc) (.int .i64 R.bad) ab x ∧ (w6.alloc (.cells #[.int .i64 (-1), .int .i64 4] 2)).cell? ⟨w6.heap.size, 0, none⟩ = some (.int .i64 (-1)) ∧ (w6.alloc (.cells #[.int .i64 (-1), .int .i64 4] 2)).cell? ⟨w6.heap.size, 1, none⟩ = some (.int .i64 4) ∧ w6.heap.size < (w6.alloc (.cells #[.int .i64 (-1), .int .i64 4] 2)).heap.size) := ⟨ac_below HS6.out hcb ((Below.refl _ _).alloc (Nat.le_refl _) _), by simp, by simp, by simp⟩
         go_wp2_with fail
         generalize w6.alloc (.cells #[.int .i64 (-1), .int .i64 4] 2) = W7 at HN ⊢
         have hkc : w6.heap.size ≠ c := by have := HS6.out.fr.size; omega
         generalize w6.heap.size = kb at HN hkc ⊢
         refine (Cur.below c a len cap 2 _ hl (by omega) HN.out.1.at').mono ?_
         rintro e w8 ⟨y, rfl, hy0, hy1, hA8, hG8⟩
         have hy2 := hy1 (by omega)
         have HS8 : Hid (AcSt c a len cap w w8 (.slice ao R.L.length cp) (.slice co nc cc) (.slice (some ⟨R.gh, 0, none⟩) 4 R.hc) (.int .i64 R.bad) ab x) := ac_cur HN.out.1 hcw hA8 hG8
         have d0 := ((Fr.of_grown hG8).cell (p := ⟨kb, 0, none⟩) HN.out.2.2.2 hkc).trans HN.out.2.1
         have d1 := ((Fr.of_grown hG8).cell (p := ⟨kb, 1, none⟩) HN.out.2.2.2 hkc).trans HN.out.2.2.1
         have bf := HS8.out.act.f1
         have bc := HS8.out.act.c1
         clear hA8 hG8 hy1 HN HS6
         have hyc : y = 0 ∨ y = 1 := by omega
         rcases hyc with rfl | rfl
         · go_wp2
           go_meet
           exact ⟨rfl, { x with who := (-1) }, hx13, ac_put HS8.out hcb (Fr.set _ ⟨ab, 1, none⟩ _) (q6_1 HS8.out.act _)⟩
         · go_wp2
           go_meet
           exact ⟨rfl, { x with who := 4 }, hx13, ac_put HS8.out hcb (Fr.set _ ⟨ab, 1, none⟩ _) (q6_1 HS8.out.act _)⟩
       · skip
         have HN : Hid (AcSt c a len cap w (w6.alloc (.cells #[.int .i64 (-1), .int .i64 (R.L.length : Int), .int .i64 60] 2)) (.slice ao R.L.length cp) (.slice co nc cc) (.slice (some ⟨R.gh, 0, none⟩) 4 R.hc) (.int .i64 R.bad) ab x ∧ (w6.alloc (.cells #[.int .i64 (-1), .int .i64 (R.L.length : Int), .int .i64 60] 2)).cell? ⟨w6.heap.size, 0, none⟩ = some (.int .i64 (-1)) ∧ (w6.alloc (.cells #[.int .i64 (-1), .int .i64 (R.L.length : Int), .int .i64 60] 2)).cell? ⟨w6.heap.size, 1, none⟩ = some (.int .i64 (R.L.length : Int)) ∧ (w6.alloc (.cells #[.int .i64 (-1), .int .i64 (R.L.length : Int), .int .i64 60] 2)).cell? ⟨w6.heap.size, 2, none⟩ = some (.int .i64 60) ∧ w6.heap.size < (w6.alloc (.cells #[.int .i64 (-1), .int .i64 (R.L.length : Int), .int .i64 60] 2)).heap.size) := ⟨ac_below HS6.out hcb ((Below.refl _ _).alloc (Nat.le_refl _) _), by simp, by simp, by simp, by simp⟩
         go_wp2_with fail
         generalize w6.alloc (.cells #[.int .i64 (-1), .int .i64 (R.L.length : Int), .int .i64 60] 2) = W7 at HN ⊢
         have hkc : w6.heap.size ≠ c := by have := HS6.out.fr.size; omega
         generalize w6.heap.size = kb at HN hkc ⊢
         refine (Cur.below c a len cap 3 _ hl (by omega) HN.out.1.at').mono ?_
         rintro e w8 ⟨y, rfl, hy0, hy1, hA8, hG8⟩
         have hy2 := hy1 (by omega)
         have HS8 : Hid (AcSt c a len cap w w8 (.slice ao R.L.length cp) (.slice co nc cc) (.slice (some ⟨R.gh, 0, none⟩) 4 R.hc) (.int .i64 R.bad) ab x) := ac_cur HN.out.1 hcw hA8 hG8
         have d0 := ((Fr.of_grown hG8).cell (p := ⟨kb, 0, none⟩) HN.out.2.2.2.2 hkc).trans HN.out.2.1
         have d1 := ((Fr.of_grown hG8).cell (p := ⟨kb, 1, none⟩) HN.out.2.2.2.2 hkc).trans HN.out.2.2.1
         have d2 := ((Fr.of_grown hG8).cell (p := ⟨kb, 2, none⟩) HN.out.2.2.2.2 hkc).trans HN.out.2.2.2.1
         have bf := HS8.out.act.f2
         have bc := HS8.out.act.c2
         clear hA8 hG8 hy1 HN HS6
         have hyc : y = 0 ∨ y = 1 ∨ y = 2 := by omega
         rcases hyc with rfl | rfl | rfl
         · go_wp2
           go_meet
           exact ⟨rfl, { x with knot := (-1) }, hx13, ac_put HS8.out hcb (Fr.set _ ⟨ab, 2, none⟩ _) (q6_2 HS8.out.act _)⟩
         · go_wp2
           go_meet
           exact ⟨rfl, { x with knot := (R.L.length : Int) }, hx13, ac_put HS8.out hcb (Fr.set _ ⟨ab, 2, none⟩ _) (q6_2 HS8.out.act _)⟩
         · go_wp2
           go_meet
           exact ⟨rfl, { x with knot := 60 }, hx13, ac_put HS8.out hcb (Fr.set _ ⟨ab, 2, none⟩ _) (q6_2 HS8.out.act _)⟩
     case rest =>
       obtain ⟨rfl, x', hx13', HS9⟩ := hcut
       clear HS6
       have HF : Hid (AcPost c a len cap w (.returned (acV x')) (set6 wc (w.heap.size + 1) x')) := ac_fin HS9.out hcb hx13'
       have HQ : Hid (Q6 (set6 wc (w.heap.size + 1) x') (w.heap.size + 1) x') := set6_at HS9.out.res
       obtain ⟨_, b0, b1, b2, b3, b4, b5, _, _, _, _, _, _⟩ := HS9.out.act
       obtain ⟨_, r0, r1, r2, r3, r4, r5, f0, f1, f2, f3, f4, f5⟩ := HS9.out.res
       go_wp2
       obtain ⟨_, y0, y1, y2, y3, y4, y5, _, _, _, _, _, _⟩ := HQ.out
       unfold set6 at y0 y1 y2 y3 y4 y5
       exact bodyPost_ret (v := acV x') (by simp [results, Tryz.results142, go_sem, y0, y1, y2, y3, y4, y5]) rfl HF.out
end Rm
namespace Rm
open Kn (K okK in3)
open Lc (at' RdK laceB takesB flat OwnK CellsK cellsOf)
open Cur (At)
set_option maxHeartbeats 400000 in
theorem min6 (n : Int) (w : World) : Calls Tryz.prog 179 #[.int .i64 n, .int .i64 6] w fun e w' => e = .returned (.int .i64 (if n < 6 then n else 6)) ∧ w' = w := by
 by_cases h : n < 6
 · rw [if_pos h]
   go_enter Tryz.func179, Tryz.ntmps179
   go_wp2
   go_ret
   exact ⟨rfl, rfl⟩
 · rw [if_neg h]
   go_enter Tryz.func179, Tryz.ntmps179
   go_wp2
   go_ret
   exact ⟨rfl, rfl⟩
theorem ac_frm {c : Nat} {a : Option Addr} {len cap : Nat} {w V : World} {v0 v1 v2 v3 : Value} {ab : Nat} {x : Ac} (h : AcSt c a len cap w V v0 v1 v2 v3 ab x) (hcb : CurB c a len w.heap.size) (y : Int) : AcSt c a len cap w (V.setCell ⟨ab, 4, none⟩ (.int .i64 y)).drew v0 v1 v2 v3 ab { x with frm := y } :=
 ac_put h hcb (Fr.set V ⟨ab, 4, none⟩ _).drew (q6_fr (S := fun _ => False) (q6_4 h.act y) ((Fr.refl _ _).drew) (fun h => h))
theorem ac_rnd {c : Nat} {a : Option Addr} {len cap : Nat} {w V : World} {v0 v1 v2 v3 : Value} {ab : Nat} {x : Ac} (h : AcSt c a len cap w V v0 v1 v2 v3 ab x) (hcb : CurB c a len w.heap.size) (y : Int) : AcSt c a len cap w (V.setCell ⟨ab, 3, none⟩ (.int .i64 y)) v0 v1 v2 v3 ab { x with round := y } :=
 ac_put h hcb (Fr.set V ⟨ab, 3, none⟩ _) (q6_3 h.act y)
theorem ac_drewN {c : Nat} {a : Option Addr} {len cap : Nat} {w V : World} {v0 v1 v2 v3 : Value} {ab : Nat} {x : Ac} (h : AcSt c a len cap w V v0 v1 v2 v3 ab x) (hcb : CurB c a len w.heap.size) (n : Nat) : AcSt c a len cap w (V.drewN n) v0 v1 v2 v3 ab x := ac_below h hcb (Lc.below_drewN' (Below.refl _ _) n)
theorem takeD {P : Program} {md : Region.Mode} {ops : Array Oper} {Q : Exit → Act → World → Prop} {S : World → Prop} (d : Option Tmp) {i : Nat} {oi : Oper} {v : Value} {fuel : Nat} {listed : Array Bool} {a : Act} {w : World} (hi : ops[i]? = some oi) (hd : oi.dst = d)
   (hs : Region.noSelect ops = true) (hf : Region.free md ops listed i = true) (hr : (Region.ready md ops listed).contains i = true)
   (hQ : ∀ c a w, Q (.panic c) (a.put d v) w → Q (.panic c) a w) (hy : YieldsIf P ops S oi v a) (hS : S w)
   (h : wpAnyH P md ops Q S fuel (listed.setIfInBounds i true) (a.put d v) w) : wpAnyH P md ops Q S (fuel + 1) listed a w := by
 subst hd
 exact wpAnyH_take hi hs hf hr hQ hy hS h
set_option maxHeartbeats 6400000 in
theorem l18DrawBad (c : Nat) (a : Option Addr) (len cap : Nat) (ao : Option Addr) (cp : Nat) (L : List K) (co : Option Addr) (nc cc : Nat) (go : Option Addr) (nh hc : Nat) (bad : Int) (w : World) (hl : len ≤ 4096) (hca : At c a len cap w) (hlc : laceB L = true) (hr : RdK w ao L) (hn : ∀ x, ao = some x → ¬ x.block = c) :
   Calls Tryz.prog 163 #[.pointer (some ⟨c, 0, none⟩), .agg #[.slice ao L.length cp, .slice co nc cc, .slice go nh hc, .int .i64 bad]] w (AcPost c a len cap w) := by
 have hcb := curB_of hca
 have hcw : c < w.heap.size := hca.lt
 have h60 := ((Lc.lace_iff L).1 hlc).1
 have P0 : Hid (Below w.heap.size w ((w.alloc (.cells #[.slice ao L.length cp, .slice co nc cc, .slice go nh hc, .int .i64 bad] 102)).alloc (.cells #[.int .i64 0, .int .i64 0, .int .i64 0, .int .i64 0, .int .i64 0, .string ⟨#[]⟩] 127)) ∧ Q4 ((w.alloc (.cells #[.slice ao L.length cp, .slice co nc cc, .slice go nh hc, .int .i64 bad] 102)).alloc (.cells #[.int .i64 0, .int .i64 0, .int .i64 0, .int .i64 0, .int .i64 0, .string ⟨#[]⟩] 127)) w.heap.size (.slice ao L.length cp) (.slice co nc cc) (.slice go nh hc) (.int .i64 bad) ∧ Q6 ((w.alloc (.cells #[.slice ao L.length cp, .slice co nc cc, .slice go nh hc, .int .i64 bad] 102)).alloc (.cells #[.int .i64 0, .int .i64 0, .int .i64 0, .int .i64 0, .int .i64 0, .string ⟨#[]⟩] 127)) (w.heap.size + 1) zeroA) := by
   refine ⟨((Below.refl _ w).alloc (Nat.le_refl _) _).alloc (by simp) _, q4_below (q4_new w _ _ _ _ _) ((Below.refl _ _).alloc (Nat.le_refl _) _), ?_⟩
   have := q6_new (w.alloc (.cells #[.slice ao L.length cp, .slice co nc cc, .slice go nh hc, .int .i64 bad] 102)) zeroA 127
   rw [World.size_alloc] at this
   exact this
 have HRD : Hid (∀ X : World, FrC c w X → RdK X ao L) := fun X hX => rdK_fr hr hX hn
 have HLC : Hid (laceB L = true) := hlc
 clear hlc hr hn
 go_enter Tryz.func163, Tryz.ntmps163
 go_upto_region 1 with fail
 generalize (w.alloc (.cells #[.slice ao L.length cp, .slice co nc cc, .slice go nh hc, .int .i64 bad] 102)).alloc (.cells #[.int .i64 0, .int .i64 0, .int .i64 0, .int .i64 0, .int .i64 0, .string ⟨#[]⟩] 127) = W at P0 ⊢
 have HAW : Hid (At c a len cap W) := at_belowB hca hcb P0.out.1
 go_wp2_with fail
 refine (Kn.drawWord c a len cap _ hl HAW.out).mono ?_
 rintro e w1 ⟨s, rfl, hs13, hA1, hG1⟩
 have HS : Hid (AcSt c a len cap w (w1.alloc (.cells #[.int .i64 5, .int .i64 0, .int .i64 0, .int .i64 0, .int .i64 0, .string s] 127)) (.slice ao L.length cp) (.slice co nc cc) (.slice go nh hc) (.int .i64 bad) w1.heap.size ⟨5, 0, 0, 0, 0, s⟩) := ac_beg hcw hcb P0.out.1 P0.out.2.1 P0.out.2.2 hA1 (Fr.of_grown hG1) ⟨5, 0, 0, 0, 0, s⟩ _
 clear hA1 hG1 HAW
 go_upto_region 2 with fail
 generalize w1.alloc (.cells #[.int .i64 5, .int .i64 0, .int .i64 0, .int .i64 0, .int .i64 0, .string s] 127) = W2 at HS ⊢
 generalize w1.heap.size = ab at HS ⊢
 have c0 := HS.out.box.c0
 by_cases h0 : L.length = 0
 · have h0' : ((L.length : Int) == 0) = true := by simp [h0]
   clear c0
   have c0 := HS.out.box.c0
   have HF : Hid (AcPost c a len cap w (.returned (acV ⟨5, 0, 0, 0, 0, s⟩)) (set6 W2 (w.heap.size + 1) ⟨5, 0, 0, 0, 0, s⟩)) := ac_fin HS.out hcb hs13
   have HQ : Hid (Q6 (set6 W2 (w.heap.size + 1) ⟨5, 0, 0, 0, 0, s⟩) (w.heap.size + 1) ⟨5, 0, 0, 0, 0, s⟩) := set6_at HS.out.res
   obtain ⟨_, b0, b1, b2, b3, b4, b5, _, _, _, _, _, _⟩ := HS.out.act
   obtain ⟨_, r0, r1, r2, r3, r4, r5, f0, f1, f2, f3, f4, f5⟩ := HS.out.res
   go_wp2
   obtain ⟨_, y0, y1, y2, y3, y4, y5, _, _, _, _, _, _⟩ := HQ.out
   unfold set6 at y0 y1 y2 y3 y4 y5
   exact bodyPost_ret (v := acV ⟨5, 0, 0, 0, 0, s⟩) (by simp [results, Tryz.results163, go_sem, y0, y1, y2, y3, y4, y5]) rfl HF.out
 · have h0' : ((L.length : Int) == 0) = false := by rw [beq_eq_false_iff_ne]; omega
   obtain ⟨g, off, hao, _, _⟩ := (HRD.out W2 HS.out.fr).at 0 (by omega)
   subst hao
   go_wp2_with fail
   refine (Cur.once c a len cap 6 _ hl (by omega) HS.out.at').mono ?_
   rintro e w3 ⟨b, rfl, hA3, hG3⟩
   have HS3 : Hid (AcSt c a len cap w w3 (.slice (some ⟨g, off, none⟩) L.length cp) (.slice co nc cc) (.slice go nh hc) (.int .i64 bad) ab ⟨5, 0, 0, 0, 0, s⟩) := ac_cur HS.out hcw hA3 hG3
   clear hA3 hG3 HS c0
   cases b
   · have HSB : Hid (∀ X : World, ∀ x, AcSt c a len cap w X (.slice (some ⟨g, off, none⟩) L.length cp) (.slice co nc cc) (.slice go nh hc) (.int .i64 bad) ab x → X.cell? ⟨w.heap.size, 0, none⟩ = some (.slice (some ⟨g, off, none⟩) L.length cp) ∧ ∀ i, i < L.length → X.cell? ⟨g, off + i * 4 + 1, none⟩ = some (.int .i64 (at' L i).round)) := fun X x h => ⟨h.box.c0, fun i hi => ((HRD.out X h.fr).on i hi).2.c1⟩
     have HS30 : Hid (AcSt c a len cap w w3.drew (.slice (some ⟨g, off, none⟩) L.length cp) (.slice co nc cc) (.slice go nh hc) (.int .i64 bad) ab ⟨5, 0, 0, 0, 0, s⟩) := ac_drewN HS3.out hcb 1
     have hmm : 0 < (if (L.length : Int) < 6 then (L.length : Int) else 6) ∧ (if (L.length : Int) < 6 then (L.length : Int) else 6) ≤ (L.length : Int) := by split <;> omega
     have hme : (if (L.length : Int) < 6 then (L.length : Int) else 6) ≤ 1000000000000 := by omega
     generalize hmi : (if (L.length : Int) < 6 then (L.length : Int) else 6) = mi at hmm hme
     have hmin : ∀ V : World, Calls Tryz.prog 179 #[.int .i64 (L.length : Int), .int .i64 6] V fun e w' => e = .returned (.int .i64 mi) ∧ w' = V := fun V => by have := min6 (L.length : Int) V; rwa [hmi] at this
     clear hmi
     have HB3 := HS3.out.act.c3
     have f3 := HS3.out.act.f3
     have hw1 : IntKind.i64.wrap ((L.length : Int) - 1) = (L.length : Int) - 1 := by rw [IntKind.wrap_i64]; omega
     go_upto_region 5 with fail
     go_cut [6] (fun n wx => n = .int .i64 (L.length : Int) ∧ ∃ rd : Int, 0 ≤ rd ∧ rd ≤ 20 ∧ Hid (AcSt c a len cap w wx (.slice (some ⟨g, off, none⟩) L.length cp) (.slice co nc cc) (.slice go nh hc) (.int .i64 bad) ab ⟨5, 0, 0, rd, 0, s⟩))
     case first =>
       go_region_held3 (fun X => X.cell? ⟨w.heap.size, 0, none⟩ = some (.slice (some ⟨g, off, none⟩) L.length cp) ∧ ∀ i, i < L.length → X.cell? ⟨g, off + i * 4 + 1, none⟩ = some (.int .i64 (at' L i).round)) (first | exact HSB.out _ _ (ac_rnd HT2.out hcb _) | exact HSB.out _ _ HT2.out | exact HSB.out _ _ HT1.out | exact HSB.out _ _ HS30.out | go_keep) (first
         | (go_at_call 179
            refine (hmin _).mono ?_
            rintro e w' ⟨rfl, rfl⟩)
         | (go_at_call 34
            refine (Cur.below c a len cap 2 _ hl (by omega) HT1.out.at').mono ?_
            rintro e V2 ⟨y, rfl, hy0, hy1, hA2, hG2⟩
            have hy2 := hy1 (by omega)
            have HT2 : Hid (AcSt c a len cap w V2 (.slice (some ⟨g, off, none⟩) L.length cp) (.slice co nc cc) (.slice go nh hc) (.int .i64 bad) ab ⟨5, 0, 0, 0, 0, s⟩) := ac_cur HT1.out hcw hA2 hG2
            have e2 := ((HRD.out V2 HT2.out.fr).on p hpl).2.c1
            have q3 := HT2.out.act.c3
            have hwy : IntKind.i64.wrap ((at' L p).round + y) = (at' L p).round + y := by rw [IntKind.wrap_i64]; omega
            have g3 := HT2.out.act.f3
            clear hA2 hG2 hy1)
         | (go_at_call 34
            refine (Cur.below c a len cap mi _ hl hme HS30.out.at').mono ?_
            rintro e V1 ⟨x, rfl, hx0, hx1, hA1, hG1⟩
            have hx2 := hx1 hmm.1
            have HT1 : Hid (AcSt c a len cap w V1 (.slice (some ⟨g, off, none⟩) L.length cp) (.slice co nc cc) (.slice go nh hc) (.int .i64 bad) ab ⟨5, 0, 0, 0, 0, s⟩) := ac_cur HS30.out hcw hA1 hG1
            obtain ⟨p, rfl, hpl⟩ : ∃ p : Nat, x = (L.length : Int) - 1 - (p : Int) ∧ p < L.length := ⟨((L.length : Int) - 1 - x).toNat, by omega, by omega⟩
            have hpi : (p : Int) < (L.length : Int) := by omega
            have hwp : (L.length : Int) - 1 - ((L.length : Int) - 1 - (p : Int)) = (p : Int) := by omega
            have hwpp : IntKind.i64.wrap (p : Int) = (p : Int) := by rw [IntKind.wrap_i64]; omega
            have hwq : IntKind.i64.wrap ((L.length : Int) - 1 - ((L.length : Int) - 1 - (p : Int))) = (p : Int) := by rw [IntKind.wrap_i64]; omega
            have e1 := ((HRD.out V1 HT1.out.fr).on p hpl).2.c1
            have hrb := Lc.ok_round (Lc.can_ok (Lc.lace_upTo HLC.out p hpl))
            clear hA1 hG1 hx1))
       all_goals (go_wp2_with fail)
       all_goals go_meet
       all_goals exact ⟨rfl, (at' L p).round + y, by omega, by omega, ac_rnd HT2.out hcb _⟩
     case rest =>
       obtain ⟨rfl, rd, hrd0, hrd1, HS5⟩ := hcut
       clear HS30 HS3 HB3 f3 HSB hmin hmm hme
       have b3 := HS5.out.act.c3
       by_cases hz : rd = 0
       · subst hz
         have hz' : ((0 : Int) == 0) = true := rfl
         clear b3
         have HF : Hid (AcPost c a len cap w (.returned (acV ⟨5, 0, 0, 0, 0, s⟩)) (set6 wc (w.heap.size + 1) ⟨5, 0, 0, 0, 0, s⟩)) := ac_fin HS5.out hcb hs13
         have HQ : Hid (Q6 (set6 wc (w.heap.size + 1) ⟨5, 0, 0, 0, 0, s⟩) (w.heap.size + 1) ⟨5, 0, 0, 0, 0, s⟩) := set6_at HS5.out.res
         obtain ⟨_, b0, b1, b2, b3, b4, b5, _, _, _, _, _, _⟩ := HS5.out.act
         obtain ⟨_, r0, r1, r2, r3, r4, r5, f0, f1, f2, f3, f4, f5⟩ := HS5.out.res
         go_wp2
         obtain ⟨_, y0, y1, y2, y3, y4, y5, _, _, _, _, _, _⟩ := HQ.out
         unfold set6 at y0 y1 y2 y3 y4 y5
         exact bodyPost_ret (v := acV ⟨5, 0, 0, 0, 0, s⟩) (by simp [results, Tryz.results163, go_sem, y0, y1, y2, y3, y4, y5]) rfl HF.out
       · have hz' : (rd == 0) = false := by simpa using hz
         clear hz
         go_wp2_with fail
         go_loopw [7] (fun i wr => ∃ (j : Nat) (f : Int), j ≤ L.length ∧ i = .int .i64 j ∧ Hid (AcSt c a len cap w wr (.slice (some ⟨g, off, none⟩) L.length cp) (.slice co nc cc) (.slice go nh hc) (.int .i64 bad) ab ⟨5, 0, 0, rd, f, s⟩)) (fun i _ => L.length - (intOf i).toNat)
         case atStart => exact ⟨0, 0, by omega, rfl, HS5.out⟩
         case round =>
           clear b3 HS5
           obtain ⟨j, f, hj, rfl, HSR⟩ := hrel
           by_cases hlt : j < L.length
           · have hji : (j : Int) < (L.length : Int) := by omega
             have hrj := Lc.ok_round (Lc.can_ok (Lc.lace_upTo HLC.out j hlt))
             have hwr : IntKind.i64.wrap (rd - 1) = rd - 1 := by rw [IntKind.wrap_i64]; omega
             have HSS : Hid (∀ X : World, ∀ x, AcSt c a len cap w X (.slice (some ⟨g, off, none⟩) L.length cp) (.slice co nc cc) (.slice go nh hc) (.int .i64 bad) ab x → x.round = rd → X.cell? ⟨w.heap.size, 0, none⟩ = some (.slice (some ⟨g, off, none⟩) L.length cp) ∧ X.cell? ⟨w.heap.size, 3, none⟩ = some (.int .i64 bad) ∧ X.cell? ⟨ab, 3, none⟩ = some (.int .i64 rd) ∧ X.cell? ⟨g, off + j * 4, none⟩ = some (.int .i64 (at' L j).hand) ∧ X.cell? ⟨g, off + j * 4 + 1, none⟩ = some (.int .i64 (at' L j).round)) := fun X x h hx => ⟨h.box.c0, h.box.c3, by have := h.act.c3; rwa [hx] at this, ((HRD.out X h.fr).on j hlt).2.c0, ((HRD.out X h.fr).on j hlt).2.c1⟩
             obtain ⟨c0, c3, b3, d0, d1⟩ := HSS.out wr _ HSR.out rfl
             generalize (at' L j).round = rj at HSS d1 hrj
             generalize (at' L j).hand = hj' at HSS d0
             have HSRd : Hid (AcSt c a len cap w wr.drew (.slice (some ⟨g, off, none⟩) L.length cp) (.slice co nc cc) (.slice go nh hc) (.int .i64 bad) ab ⟨5, 0, 0, rd, f, s⟩) := ac_drewN HSR.out hcb 1
             go_upto_region 11 with fail
             go_cut [86] (fun bb wx => ∃ x : Bool, bb = .bool x ∧ Hid (AcSt c a len cap w wx (.slice (some ⟨g, off, none⟩) L.length cp) (.slice co nc cc) (.slice go nh hc) (.int .i64 bad) ab ⟨5, 0, 0, rd, f, s⟩))
             case first =>
               by_cases e1 : rj = rd - 1
               · have e1' : (rj == rd - 1) = true := by simpa using e1
                 have e3' : decide (rj < rd - 1) = false := decide_eq_false (by omega)
                 by_cases e2 : hj' = bad
                 · have e2' : (hj' != bad) = false := by simpa using e2
                   clear e1 e2
                   obtain ⟨b, hcall⟩ := Cur.once_fixed c a len cap 2 wr hl (by omega) (by omega) HSR.out.at'
                   have hcall1 := hcall 1
                   clear hcall
                   cases b
                   · skip
                     refine wp_region_held_drew (S := fun X => X.cell? ⟨w.heap.size, 0, none⟩ = some (.slice (some ⟨g, off, none⟩) L.length cp) ∧ X.cell? ⟨w.heap.size, 3, none⟩ = some (.int .i64 bad) ∧ X.cell? ⟨ab, 3, none⟩ = some (.int .i64 rd) ∧ X.cell? ⟨g, off + j * 4, none⟩ = some (.int .i64 hj') ∧ X.cell? ⟨g, off + j * 4 + 1, none⟩ = some (.int .i64 rj)) (by kernel_rfl) (HSS.out _ _ HSRd.out rfl) (fun hHeld => ?_)
                     refine takeD (some 46) (i := 0) (v := ?_) rfl rfl (by kernel_rfl) (by kernel_rfl) (by kernel_rfl) (fun _ _ _ h => h) (Or.inl ⟨by kernel_rfl, ?_⟩) (by assumption) ?_
                     rotate_left
                     · (intro w hSw; (try dsimp only at hSw); go_simp; (try with_reducible rfl))
                     (try simp only [Act.put]); (try simp only [List.setIfInBounds_toArray]); (try simp only [List.set_cons_succ]); (try simp only [List.set_cons_zero])
                     refine takeD (some 47) (i := 1) (v := ?_) rfl rfl (by kernel_rfl) (by kernel_rfl) (by kernel_rfl) (fun _ _ _ h => h) (Or.inl ⟨by kernel_rfl, ?_⟩) (by assumption) ?_
                     rotate_left
                     · (intro w hSw; (try dsimp only at hSw); go_simp; (try with_reducible rfl))
                     (try simp only [Act.put]); (try simp only [List.setIfInBounds_toArray]); (try simp only [List.set_cons_succ]); (try simp only [List.set_cons_zero])
                     refine takeD (some 48) (i := 2) (v := ?_) rfl rfl (by kernel_rfl) (by kernel_rfl) (by kernel_rfl) (fun _ _ _ h => h) (Or.inl ⟨by kernel_rfl, ?_⟩) (by assumption) ?_
                     rotate_left
                     · (intro w hSw; (try dsimp only at hSw); go_simp; (try with_reducible rfl))
                     (try simp only [Act.put]); (try simp only [List.setIfInBounds_toArray]); (try simp only [List.set_cons_succ]); (try simp only [List.set_cons_zero])
                     refine takeD (some 49) (i := 3) (v := ?_) rfl rfl (by kernel_rfl) (by kernel_rfl) (by kernel_rfl) (fun _ _ _ h => h) (Or.inl ⟨by kernel_rfl, ?_⟩) (by assumption) ?_
                     rotate_left
                     · (intro w hSw; (try dsimp only at hSw); go_simp; (try with_reducible rfl))
                     (try simp only [Act.put]); (try simp only [List.setIfInBounds_toArray]); (try simp only [List.set_cons_succ]); (try simp only [List.set_cons_zero])
                     refine takeD (some 50) (i := 4) (v := ?_) rfl rfl (by kernel_rfl) (by kernel_rfl) (by kernel_rfl) (fun _ _ _ h => h) (Or.inl ⟨by kernel_rfl, ?_⟩) (by assumption) ?_
                     rotate_left
                     · (intro w hSw; (try dsimp only at hSw); go_simp; (try with_reducible rfl))
                     (try simp only [Act.put]); (try simp only [List.setIfInBounds_toArray]); (try simp only [List.set_cons_succ]); (try simp only [List.set_cons_zero])
                     refine takeD (some 51) (i := 5) (v := ?_) rfl rfl (by kernel_rfl) (by kernel_rfl) (by kernel_rfl) (fun _ _ _ h => h) (Or.inl ⟨by kernel_rfl, ?_⟩) (by assumption) ?_
                     rotate_left
                     · (intro w hSw; (try dsimp only at hSw); go_simp; (try with_reducible rfl))
                     (try simp only [Act.put]); (try simp only [List.setIfInBounds_toArray]); (try simp only [List.set_cons_succ]); (try simp only [List.set_cons_zero])
                     refine takeD (some 52) (i := 6) (v := ?_) rfl rfl (by kernel_rfl) (by kernel_rfl) (by kernel_rfl) (fun _ _ _ h => h) (Or.inl ⟨by kernel_rfl, ?_⟩) (by assumption) ?_
                     rotate_left
                     · (intro w hSw; (try dsimp only at hSw); go_simp; (try with_reducible rfl))
                     (try simp only [Act.put]); (try simp only [List.setIfInBounds_toArray]); (try simp only [List.set_cons_succ]); (try simp only [List.set_cons_zero])
                     refine takeD (some 53) (i := 7) (v := ?_) rfl rfl (by kernel_rfl) (by kernel_rfl) (by kernel_rfl) (fun _ _ _ h => h) (Or.inl ⟨by kernel_rfl, ?_⟩) (by assumption) ?_
                     rotate_left
                     · (intro w hSw; (try dsimp only at hSw); go_simp; (try with_reducible rfl))
                     (try simp only [Act.put]); (try simp only [List.setIfInBounds_toArray]); (try simp only [List.set_cons_succ]); (try simp only [List.set_cons_zero])
                     refine takeD (some 54) (i := 8) (v := ?_) rfl rfl (by kernel_rfl) (by kernel_rfl) (by kernel_rfl) (fun _ _ _ h => h) (Or.inl ⟨by kernel_rfl, ?_⟩) (by assumption) ?_
                     rotate_left
                     · (intro w hSw; (try dsimp only at hSw); go_simp; (try with_reducible rfl))
                     (try simp only [Act.put]); (try simp only [List.setIfInBounds_toArray]); (try simp only [List.set_cons_succ]); (try simp only [List.set_cons_zero])
                     refine takeD (some 55) (i := 9) (v := ?_) rfl rfl (by kernel_rfl) (by kernel_rfl) (by kernel_rfl) (fun _ _ _ h => h) (Or.inl ⟨by kernel_rfl, ?_⟩) (by assumption) ?_
                     rotate_left
                     · (intro w hSw; (try dsimp only at hSw); go_simp; (try with_reducible rfl))
                     (try simp only [Act.put]); (try simp only [List.setIfInBounds_toArray]); (try simp only [List.set_cons_succ]); (try simp only [List.set_cons_zero])
                     refine takeD (some 56) (i := 10) (v := ?_) rfl rfl (by kernel_rfl) (by kernel_rfl) (by kernel_rfl) (fun _ _ _ h => h) (Or.inl ⟨by kernel_rfl, ?_⟩) (by assumption) ?_
                     rotate_left
                     · (intro w hSw; (try dsimp only at hSw); go_simp; (try with_reducible rfl))
                     (try simp only [Act.put]); (try simp only [List.setIfInBounds_toArray]); (try simp only [List.set_cons_succ]); (try simp only [List.set_cons_zero])
                     refine takeD (some 57) (i := 11) (v := ?_) rfl rfl (by kernel_rfl) (by kernel_rfl) (by kernel_rfl) (fun _ _ _ h => h) (Or.inl ⟨by kernel_rfl, ?_⟩) (by assumption) ?_
                     rotate_left
                     · (intro w hSw; (try dsimp only at hSw); go_simp; (try with_reducible rfl))
                     (try simp only [Act.put]); (try simp only [List.setIfInBounds_toArray]); (try simp only [List.set_cons_succ]); (try simp only [List.set_cons_zero])
                     refine takeD (some 58) (i := 12) (v := ?_) rfl rfl (by kernel_rfl) (by kernel_rfl) (by kernel_rfl) (fun _ _ _ h => h) (Or.inl ⟨by kernel_rfl, ?_⟩) (by assumption) ?_
                     rotate_left
                     · (intro w hSw; (try dsimp only at hSw); go_simp; (try with_reducible rfl))
                     (try simp only [Act.put]); (try simp only [List.setIfInBounds_toArray]); (try simp only [List.set_cons_succ]); (try simp only [List.set_cons_zero])
                     refine takeD (some 59) (i := 13) (v := ?_) rfl rfl (by kernel_rfl) (by kernel_rfl) (by kernel_rfl) (fun _ _ _ h => h) (Or.inl ⟨by kernel_rfl, ?_⟩) (by assumption) ?_
                     rotate_left
                     · (intro w hSw; (try dsimp only at hSw); go_simp; (try with_reducible rfl))
                     (try simp only [Act.put]); (try simp only [List.setIfInBounds_toArray]); (try simp only [List.set_cons_succ]); (try simp only [List.set_cons_zero])
                     refine takeD (some 60) (i := 14) (v := ?_) rfl rfl (by kernel_rfl) (by kernel_rfl) (by kernel_rfl) (fun _ _ _ h => h) (Or.inl ⟨by kernel_rfl, ?_⟩) (by assumption) ?_
                     rotate_left
                     · (intro w hSw; (try dsimp only at hSw); go_simp; (try with_reducible rfl))
                     (try simp only [Act.put]); (try simp only [List.setIfInBounds_toArray]); (try simp only [List.set_cons_succ]); (try simp only [List.set_cons_zero])
                     refine takeD (some 61) (i := 15) (v := ?_) rfl rfl (by kernel_rfl) (by kernel_rfl) (by kernel_rfl) (fun _ _ _ h => h) (Or.inl ⟨by kernel_rfl, ?_⟩) (by assumption) ?_
                     rotate_left
                     · (intro w hSw; (try dsimp only at hSw); go_simp; (try with_reducible rfl))
                     (try simp only [Act.put]); (try simp only [List.setIfInBounds_toArray]); (try simp only [List.set_cons_succ]); (try simp only [List.set_cons_zero])
                     refine takeD (some 62) (i := 16) (v := ?_) rfl rfl (by kernel_rfl) (by kernel_rfl) (by kernel_rfl) (fun _ _ _ h => h) (Or.inl ⟨by kernel_rfl, ?_⟩) (by assumption) ?_
                     rotate_left
                     · (intro w hSw; (try dsimp only at hSw); go_simp; (try with_reducible rfl))
                     (try simp only [Act.put]); (try simp only [List.setIfInBounds_toArray]); (try simp only [List.set_cons_succ]); (try simp only [List.set_cons_zero])
                     refine takeD (some 63) (i := 17) (v := ?_) rfl rfl (by kernel_rfl) (by kernel_rfl) (by kernel_rfl) (fun _ _ _ h => h) (Or.inl ⟨by kernel_rfl, ?_⟩) (by assumption) ?_
                     rotate_left
                     · (intro w hSw; (try dsimp only at hSw); go_simp; (try with_reducible rfl))
                     (try simp only [Act.put]); (try simp only [List.setIfInBounds_toArray]); (try simp only [List.set_cons_succ]); (try simp only [List.set_cons_zero])
                     refine takeD (some 64) (i := 18) (v := ?_) rfl rfl (by kernel_rfl) (by kernel_rfl) (by kernel_rfl) (fun _ _ _ h => h) (Or.inl ⟨by kernel_rfl, ?_⟩) (by assumption) ?_
                     rotate_left
                     · (intro w hSw; (try dsimp only at hSw); go_simp; (try with_reducible rfl))
                     (try simp only [Act.put]); (try simp only [List.setIfInBounds_toArray]); (try simp only [List.set_cons_succ]); (try simp only [List.set_cons_zero])
                     refine takeD (some 65) (i := 19) (v := ?_) rfl rfl (by kernel_rfl) (by kernel_rfl) (by kernel_rfl) (fun _ _ _ h => h) (Or.inl ⟨by kernel_rfl, ?_⟩) (by assumption) ?_
                     rotate_left
                     · (intro w hSw; (try dsimp only at hSw); go_simp; (try with_reducible rfl))
                     (try simp only [Act.put]); (try simp only [List.setIfInBounds_toArray]); (try simp only [List.set_cons_succ]); (try simp only [List.set_cons_zero])
                     refine takeD (some 66) (i := 20) (v := ?_) rfl rfl (by kernel_rfl) (by kernel_rfl) (by kernel_rfl) (fun _ _ _ h => h) (Or.inl ⟨by kernel_rfl, ?_⟩) (by assumption) ?_
                     rotate_left
                     · (intro w hSw; (try dsimp only at hSw); go_simp; (try with_reducible rfl))
                     (try simp only [Act.put]); (try simp only [List.setIfInBounds_toArray]); (try simp only [List.set_cons_succ]); (try simp only [List.set_cons_zero])
                     refine takeD (some 67) (i := 21) (v := ?_) rfl rfl (by kernel_rfl) (by kernel_rfl) (by kernel_rfl) (fun _ _ _ h => h) (Or.inl ⟨by kernel_rfl, ?_⟩) (by assumption) ?_
                     rotate_left
                     · (intro w hSw; (try dsimp only at hSw); go_simp; (try with_reducible rfl))
                     (try simp only [Act.put]); (try simp only [List.setIfInBounds_toArray]); (try simp only [List.set_cons_succ]); (try simp only [List.set_cons_zero])
                     refine wpAnyH_ready (rs := [22]) (by kernel_rfl) (by simp) ?_
                     refine AllReadyH.cons rfl (fun K hK => ?_) AllReadyH.nil
                     go_simp
                     refine hcall1.mono ?_
                     rintro e V1 ⟨rfl, hA1, hG1⟩
                     have HT : Hid (AcSt c a len cap w V1 (.slice (some ⟨g, off, none⟩) L.length cp) (.slice co nc cc) (.slice go nh hc) (.int .i64 bad) ab ⟨5, 0, 0, rd, f, s⟩) := ac_cur HSRd.out hcw hA1 hG1
                     clear hA1 hG1
                     go_wp2_with fail
                     refine hK.out _ _ (HSS.out _ _ HT.out rfl) (fun hHeld => ?_)
                     clear hK K
                     (try simp only [Act.put]); (try simp only [List.setIfInBounds_toArray]); (try simp only [List.set_cons_succ]); (try simp only [List.set_cons_zero])
                     refine takeD (some 69) (i := 23) (v := ?_) rfl rfl (by kernel_rfl) (by kernel_rfl) (by kernel_rfl) (fun _ _ _ h => h) (Or.inl ⟨by kernel_rfl, ?_⟩) (by assumption) ?_
                     rotate_left
                     · (intro w hSw; (try dsimp only at hSw); go_simp; (try with_reducible rfl))
                     (try simp only [Act.put]); (try simp only [List.setIfInBounds_toArray]); (try simp only [List.set_cons_succ]); (try simp only [List.set_cons_zero])
                     refine takeD (some 70) (i := 24) (v := ?_) rfl rfl (by kernel_rfl) (by kernel_rfl) (by kernel_rfl) (fun _ _ _ h => h) (Or.inl ⟨by kernel_rfl, ?_⟩) (by assumption) ?_
                     rotate_left
                     · (intro w hSw; (try dsimp only at hSw); go_simp; (try with_reducible rfl))
                     (try simp only [Act.put]); (try simp only [List.setIfInBounds_toArray]); (try simp only [List.set_cons_succ]); (try simp only [List.set_cons_zero])
                     refine takeD (some 71) (i := 25) (v := ?_) rfl rfl (by kernel_rfl) (by kernel_rfl) (by kernel_rfl) (fun _ _ _ h => h) (Or.inl ⟨by kernel_rfl, ?_⟩) (by assumption) ?_
                     rotate_left
                     · (intro w hSw; (try dsimp only at hSw); go_simp; (try with_reducible rfl))
                     (try simp only [Act.put]); (try simp only [List.setIfInBounds_toArray]); (try simp only [List.set_cons_succ]); (try simp only [List.set_cons_zero])
                     refine takeD (some 72) (i := 26) (v := ?_) rfl rfl (by kernel_rfl) (by kernel_rfl) (by kernel_rfl) (fun _ _ _ h => h) (Or.inl ⟨by kernel_rfl, ?_⟩) (by assumption) ?_
                     rotate_left
                     · (intro w hSw; (try dsimp only at hSw); go_simp; (try with_reducible rfl))
                     (try simp only [Act.put]); (try simp only [List.setIfInBounds_toArray]); (try simp only [List.set_cons_succ]); (try simp only [List.set_cons_zero])
                     refine takeD (some 73) (i := 27) (v := ?_) rfl rfl (by kernel_rfl) (by kernel_rfl) (by kernel_rfl) (fun _ _ _ h => h) (Or.inl ⟨by kernel_rfl, ?_⟩) (by assumption) ?_
                     rotate_left
                     · (intro w hSw; (try dsimp only at hSw); go_simp; (try with_reducible rfl))
                     (try simp only [Act.put]); (try simp only [List.setIfInBounds_toArray]); (try simp only [List.set_cons_succ]); (try simp only [List.set_cons_zero])
                     refine takeD (some 74) (i := 28) (v := ?_) rfl rfl (by kernel_rfl) (by kernel_rfl) (by kernel_rfl) (fun _ _ _ h => h) (Or.inl ⟨by kernel_rfl, ?_⟩) (by assumption) ?_
                     rotate_left
                     · (intro w hSw; (try dsimp only at hSw); go_simp; (try with_reducible rfl))
                     (try simp only [Act.put]); (try simp only [List.setIfInBounds_toArray]); (try simp only [List.set_cons_succ]); (try simp only [List.set_cons_zero])
                     refine takeD (some 75) (i := 29) (v := ?_) rfl rfl (by kernel_rfl) (by kernel_rfl) (by kernel_rfl) (fun _ _ _ h => h) (Or.inl ⟨by kernel_rfl, ?_⟩) (by assumption) ?_
                     rotate_left
                     · (intro w hSw; (try dsimp only at hSw); go_simp; (try with_reducible rfl))
                     (try simp only [Act.put]); (try simp only [List.setIfInBounds_toArray]); (try simp only [List.set_cons_succ]); (try simp only [List.set_cons_zero])
                     refine takeD (some 76) (i := 30) (v := ?_) rfl rfl (by kernel_rfl) (by kernel_rfl) (by kernel_rfl) (fun _ _ _ h => h) (Or.inl ⟨by kernel_rfl, ?_⟩) (by assumption) ?_
                     rotate_left
                     · (intro w hSw; (try dsimp only at hSw); go_simp; (try with_reducible rfl))
                     (try simp only [Act.put]); (try simp only [List.setIfInBounds_toArray]); (try simp only [List.set_cons_succ]); (try simp only [List.set_cons_zero])
                     refine takeD (some 77) (i := 31) (v := ?_) rfl rfl (by kernel_rfl) (by kernel_rfl) (by kernel_rfl) (fun _ _ _ h => h) (Or.inl ⟨by kernel_rfl, ?_⟩) (by assumption) ?_
                     rotate_left
                     · (intro w hSw; (try dsimp only at hSw); go_simp; (try with_reducible rfl))
                     (try simp only [Act.put]); (try simp only [List.setIfInBounds_toArray]); (try simp only [List.set_cons_succ]); (try simp only [List.set_cons_zero])
                     refine takeD (some 78) (i := 32) (v := ?_) rfl rfl (by kernel_rfl) (by kernel_rfl) (by kernel_rfl) (fun _ _ _ h => h) (Or.inl ⟨by kernel_rfl, ?_⟩) (by assumption) ?_
                     rotate_left
                     · (intro w hSw; (try dsimp only at hSw); go_simp; (try with_reducible rfl))
                     (try simp only [Act.put]); (try simp only [List.setIfInBounds_toArray]); (try simp only [List.set_cons_succ]); (try simp only [List.set_cons_zero])
                     refine takeD (some 79) (i := 33) (v := ?_) rfl rfl (by kernel_rfl) (by kernel_rfl) (by kernel_rfl) (fun _ _ _ h => h) (Or.inl ⟨by kernel_rfl, ?_⟩) (by assumption) ?_
                     rotate_left
                     · (intro w hSw; (try dsimp only at hSw); go_simp; (try with_reducible rfl))
                     (try simp only [Act.put]); (try simp only [List.setIfInBounds_toArray]); (try simp only [List.set_cons_succ]); (try simp only [List.set_cons_zero])
                     refine takeD (some 80) (i := 34) (v := ?_) rfl rfl (by kernel_rfl) (by kernel_rfl) (by kernel_rfl) (fun _ _ _ h => h) (Or.inl ⟨by kernel_rfl, ?_⟩) (by assumption) ?_
                     rotate_left
                     · (intro w hSw; (try dsimp only at hSw); go_simp; (try with_reducible rfl))
                     (try simp only [Act.put]); (try simp only [List.setIfInBounds_toArray]); (try simp only [List.set_cons_succ]); (try simp only [List.set_cons_zero])
                     refine takeD (some 81) (i := 35) (v := ?_) rfl rfl (by kernel_rfl) (by kernel_rfl) (by kernel_rfl) (fun _ _ _ h => h) (Or.inl ⟨by kernel_rfl, ?_⟩) (by assumption) ?_
                     rotate_left
                     · (intro w hSw; (try dsimp only at hSw); go_simp; (try with_reducible rfl))
                     (try simp only [Act.put]); (try simp only [List.setIfInBounds_toArray]); (try simp only [List.set_cons_succ]); (try simp only [List.set_cons_zero])
                     refine takeD (some 82) (i := 36) (v := ?_) rfl rfl (by kernel_rfl) (by kernel_rfl) (by kernel_rfl) (fun _ _ _ h => h) (Or.inl ⟨by kernel_rfl, ?_⟩) (by assumption) ?_
                     rotate_left
                     · (intro w hSw; (try dsimp only at hSw); go_simp; (try with_reducible rfl))
                     (try simp only [Act.put]); (try simp only [List.setIfInBounds_toArray]); (try simp only [List.set_cons_succ]); (try simp only [List.set_cons_zero])
                     refine takeD (some 83) (i := 37) (v := undef) rfl rfl (by kernel_rfl) (by kernel_rfl) (by kernel_rfl) (fun _ _ _ h => h) (Or.inr ⟨by kernel_rfl, rfl⟩) (by assumption) ?_
                     (try simp only [Act.put]); (try simp only [List.setIfInBounds_toArray]); (try simp only [List.set_cons_succ]); (try simp only [List.set_cons_zero])
                     refine takeD (some 84) (i := 38) (v := undef) rfl rfl (by kernel_rfl) (by kernel_rfl) (by kernel_rfl) (fun _ _ _ h => h) (Or.inr ⟨by kernel_rfl, rfl⟩) (by assumption) ?_
                     (try simp only [Act.put]); (try simp only [List.setIfInBounds_toArray]); (try simp only [List.set_cons_succ]); (try simp only [List.set_cons_zero])
                     refine takeD (some 85) (i := 39) (v := ?_) rfl rfl (by kernel_rfl) (by kernel_rfl) (by kernel_rfl) (fun _ _ _ h => h) (Or.inl ⟨by kernel_rfl, ?_⟩) (by assumption) ?_
                     rotate_left
                     · (intro w hSw; (try dsimp only at hSw); go_simp; (try with_reducible rfl))
                     (try simp only [Act.put]); (try simp only [List.setIfInBounds_toArray]); (try simp only [List.set_cons_succ]); (try simp only [List.set_cons_zero])
                     refine takeD (some 86) (i := 40) (v := ?_) rfl rfl (by kernel_rfl) (by kernel_rfl) (by kernel_rfl) (fun _ _ _ h => h) (Or.inl ⟨by kernel_rfl, ?_⟩) (by assumption) ?_
                     rotate_left
                     · (intro w hSw; (try dsimp only at hSw); go_simp; (try with_reducible rfl))
                     (try simp only [Act.put]); (try simp only [List.setIfInBounds_toArray]); (try simp only [List.set_cons_succ]); (try simp only [List.set_cons_zero])
                     refine wpAnyH_done (by kernel_rfl) ?_ _
                     go_wp2_with fail
                     go_meet
                     exact ⟨_, rfl, HT.out⟩
                   · skip
                     refine wp_region_held_drew (S := fun X => X.cell? ⟨w.heap.size, 0, none⟩ = some (.slice (some ⟨g, off, none⟩) L.length cp) ∧ X.cell? ⟨w.heap.size, 3, none⟩ = some (.int .i64 bad) ∧ X.cell? ⟨ab, 3, none⟩ = some (.int .i64 rd) ∧ X.cell? ⟨g, off + j * 4, none⟩ = some (.int .i64 hj') ∧ X.cell? ⟨g, off + j * 4 + 1, none⟩ = some (.int .i64 rj)) (by kernel_rfl) (HSS.out _ _ HSRd.out rfl) (fun hHeld => ?_)
                     refine takeD (some 46) (i := 0) (v := ?_) rfl rfl (by kernel_rfl) (by kernel_rfl) (by kernel_rfl) (fun _ _ _ h => h) (Or.inl ⟨by kernel_rfl, ?_⟩) (by assumption) ?_
                     rotate_left
                     · (intro w hSw; (try dsimp only at hSw); go_simp; (try with_reducible rfl))
                     (try simp only [Act.put]); (try simp only [List.setIfInBounds_toArray]); (try simp only [List.set_cons_succ]); (try simp only [List.set_cons_zero])
                     refine takeD (some 47) (i := 1) (v := ?_) rfl rfl (by kernel_rfl) (by kernel_rfl) (by kernel_rfl) (fun _ _ _ h => h) (Or.inl ⟨by kernel_rfl, ?_⟩) (by assumption) ?_
                     rotate_left
                     · (intro w hSw; (try dsimp only at hSw); go_simp; (try with_reducible rfl))
                     (try simp only [Act.put]); (try simp only [List.setIfInBounds_toArray]); (try simp only [List.set_cons_succ]); (try simp only [List.set_cons_zero])
                     refine takeD (some 48) (i := 2) (v := ?_) rfl rfl (by kernel_rfl) (by kernel_rfl) (by kernel_rfl) (fun _ _ _ h => h) (Or.inl ⟨by kernel_rfl, ?_⟩) (by assumption) ?_
                     rotate_left
                     · (intro w hSw; (try dsimp only at hSw); go_simp; (try with_reducible rfl))
                     (try simp only [Act.put]); (try simp only [List.setIfInBounds_toArray]); (try simp only [List.set_cons_succ]); (try simp only [List.set_cons_zero])
                     refine takeD (some 49) (i := 3) (v := ?_) rfl rfl (by kernel_rfl) (by kernel_rfl) (by kernel_rfl) (fun _ _ _ h => h) (Or.inl ⟨by kernel_rfl, ?_⟩) (by assumption) ?_
                     rotate_left
                     · (intro w hSw; (try dsimp only at hSw); go_simp; (try with_reducible rfl))
                     (try simp only [Act.put]); (try simp only [List.setIfInBounds_toArray]); (try simp only [List.set_cons_succ]); (try simp only [List.set_cons_zero])
                     refine takeD (some 50) (i := 4) (v := ?_) rfl rfl (by kernel_rfl) (by kernel_rfl) (by kernel_rfl) (fun _ _ _ h => h) (Or.inl ⟨by kernel_rfl, ?_⟩) (by assumption) ?_
                     rotate_left
                     · (intro w hSw; (try dsimp only at hSw); go_simp; (try with_reducible rfl))
                     (try simp only [Act.put]); (try simp only [List.setIfInBounds_toArray]); (try simp only [List.set_cons_succ]); (try simp only [List.set_cons_zero])
                     refine takeD (some 51) (i := 5) (v := ?_) rfl rfl (by kernel_rfl) (by kernel_rfl) (by kernel_rfl) (fun _ _ _ h => h) (Or.inl ⟨by kernel_rfl, ?_⟩) (by assumption) ?_
                     rotate_left
                     · (intro w hSw; (try dsimp only at hSw); go_simp; (try with_reducible rfl))
                     (try simp only [Act.put]); (try simp only [List.setIfInBounds_toArray]); (try simp only [List.set_cons_succ]); (try simp only [List.set_cons_zero])
                     refine takeD (some 52) (i := 6) (v := ?_) rfl rfl (by kernel_rfl) (by kernel_rfl) (by kernel_rfl) (fun _ _ _ h => h) (Or.inl ⟨by kernel_rfl, ?_⟩) (by assumption) ?_
                     rotate_left
                     · (intro w hSw; (try dsimp only at hSw); go_simp; (try with_reducible rfl))
                     (try simp only [Act.put]); (try simp only [List.setIfInBounds_toArray]); (try simp only [List.set_cons_succ]); (try simp only [List.set_cons_zero])
                     refine takeD (some 53) (i := 7) (v := ?_) rfl rfl (by kernel_rfl) (by kernel_rfl) (by kernel_rfl) (fun _ _ _ h => h) (Or.inl ⟨by kernel_rfl, ?_⟩) (by assumption) ?_
                     rotate_left
                     · (intro w hSw; (try dsimp only at hSw); go_simp; (try with_reducible rfl))
                     (try simp only [Act.put]); (try simp only [List.setIfInBounds_toArray]); (try simp only [List.set_cons_succ]); (try simp only [List.set_cons_zero])
                     refine takeD (some 54) (i := 8) (v := ?_) rfl rfl (by kernel_rfl) (by kernel_rfl) (by kernel_rfl) (fun _ _ _ h => h) (Or.inl ⟨by kernel_rfl, ?_⟩) (by assumption) ?_
                     rotate_left
                     · (intro w hSw; (try dsimp only at hSw); go_simp; (try with_reducible rfl))
                     (try simp only [Act.put]); (try simp only [List.setIfInBounds_toArray]); (try simp only [List.set_cons_succ]); (try simp only [List.set_cons_zero])
                     refine takeD (some 55) (i := 9) (v := ?_) rfl rfl (by kernel_rfl) (by kernel_rfl) (by kernel_rfl) (fun _ _ _ h => h) (Or.inl ⟨by kernel_rfl, ?_⟩) (by assumption) ?_
                     rotate_left
                     · (intro w hSw; (try dsimp only at hSw); go_simp; (try with_reducible rfl))
                     (try simp only [Act.put]); (try simp only [List.setIfInBounds_toArray]); (try simp only [List.set_cons_succ]); (try simp only [List.set_cons_zero])
                     refine takeD (some 56) (i := 10) (v := ?_) rfl rfl (by kernel_rfl) (by kernel_rfl) (by kernel_rfl) (fun _ _ _ h => h) (Or.inl ⟨by kernel_rfl, ?_⟩) (by assumption) ?_
                     rotate_left
                     · (intro w hSw; (try dsimp only at hSw); go_simp; (try with_reducible rfl))
                     (try simp only [Act.put]); (try simp only [List.setIfInBounds_toArray]); (try simp only [List.set_cons_succ]); (try simp only [List.set_cons_zero])
                     refine takeD (some 57) (i := 11) (v := ?_) rfl rfl (by kernel_rfl) (by kernel_rfl) (by kernel_rfl) (fun _ _ _ h => h) (Or.inl ⟨by kernel_rfl, ?_⟩) (by assumption) ?_
                     rotate_left
                     · (intro w hSw; (try dsimp only at hSw); go_simp; (try with_reducible rfl))
                     (try simp only [Act.put]); (try simp only [List.setIfInBounds_toArray]); (try simp only [List.set_cons_succ]); (try simp only [List.set_cons_zero])
                     refine takeD (some 58) (i := 12) (v := ?_) rfl rfl (by kernel_rfl) (by kernel_rfl) (by kernel_rfl) (fun _ _ _ h => h) (Or.inl ⟨by kernel_rfl, ?_⟩) (by assumption) ?_
                     rotate_left
                     · (intro w hSw; (try dsimp only at hSw); go_simp; (try with_reducible rfl))
                     (try simp only [Act.put]); (try simp only [List.setIfInBounds_toArray]); (try simp only [List.set_cons_succ]); (try simp only [List.set_cons_zero])
                     refine takeD (some 59) (i := 13) (v := ?_) rfl rfl (by kernel_rfl) (by kernel_rfl) (by kernel_rfl) (fun _ _ _ h => h) (Or.inl ⟨by kernel_rfl, ?_⟩) (by assumption) ?_
                     rotate_left
                     · (intro w hSw; (try dsimp only at hSw); go_simp; (try with_reducible rfl))
                     (try simp only [Act.put]); (try simp only [List.setIfInBounds_toArray]); (try simp only [List.set_cons_succ]); (try simp only [List.set_cons_zero])
                     refine takeD (some 60) (i := 14) (v := ?_) rfl rfl (by kernel_rfl) (by kernel_rfl) (by kernel_rfl) (fun _ _ _ h => h) (Or.inl ⟨by kernel_rfl, ?_⟩) (by assumption) ?_
                     rotate_left
                     · (intro w hSw; (try dsimp only at hSw); go_simp; (try with_reducible rfl))
                     (try simp only [Act.put]); (try simp only [List.setIfInBounds_toArray]); (try simp only [List.set_cons_succ]); (try simp only [List.set_cons_zero])
                     refine takeD (some 61) (i := 15) (v := ?_) rfl rfl (by kernel_rfl) (by kernel_rfl) (by kernel_rfl) (fun _ _ _ h => h) (Or.inl ⟨by kernel_rfl, ?_⟩) (by assumption) ?_
                     rotate_left
                     · (intro w hSw; (try dsimp only at hSw); go_simp; (try with_reducible rfl))
                     (try simp only [Act.put]); (try simp only [List.setIfInBounds_toArray]); (try simp only [List.set_cons_succ]); (try simp only [List.set_cons_zero])
                     refine takeD (some 62) (i := 16) (v := ?_) rfl rfl (by kernel_rfl) (by kernel_rfl) (by kernel_rfl) (fun _ _ _ h => h) (Or.inl ⟨by kernel_rfl, ?_⟩) (by assumption) ?_
                     rotate_left
                     · (intro w hSw; (try dsimp only at hSw); go_simp; (try with_reducible rfl))
                     (try simp only [Act.put]); (try simp only [List.setIfInBounds_toArray]); (try simp only [List.set_cons_succ]); (try simp only [List.set_cons_zero])
                     refine takeD (some 63) (i := 17) (v := ?_) rfl rfl (by kernel_rfl) (by kernel_rfl) (by kernel_rfl) (fun _ _ _ h => h) (Or.inl ⟨by kernel_rfl, ?_⟩) (by assumption) ?_
                     rotate_left
                     · (intro w hSw; (try dsimp only at hSw); go_simp; (try with_reducible rfl))
                     (try simp only [Act.put]); (try simp only [List.setIfInBounds_toArray]); (try simp only [List.set_cons_succ]); (try simp only [List.set_cons_zero])
                     refine takeD (some 64) (i := 18) (v := ?_) rfl rfl (by kernel_rfl) (by kernel_rfl) (by kernel_rfl) (fun _ _ _ h => h) (Or.inl ⟨by kernel_rfl, ?_⟩) (by assumption) ?_
                     rotate_left
                     · (intro w hSw; (try dsimp only at hSw); go_simp; (try with_reducible rfl))
                     (try simp only [Act.put]); (try simp only [List.setIfInBounds_toArray]); (try simp only [List.set_cons_succ]); (try simp only [List.set_cons_zero])
                     refine takeD (some 65) (i := 19) (v := ?_) rfl rfl (by kernel_rfl) (by kernel_rfl) (by kernel_rfl) (fun _ _ _ h => h) (Or.inl ⟨by kernel_rfl, ?_⟩) (by assumption) ?_
                     rotate_left
                     · (intro w hSw; (try dsimp only at hSw); go_simp; (try with_reducible rfl))
                     (try simp only [Act.put]); (try simp only [List.setIfInBounds_toArray]); (try simp only [List.set_cons_succ]); (try simp only [List.set_cons_zero])
                     refine takeD (some 66) (i := 20) (v := ?_) rfl rfl (by kernel_rfl) (by kernel_rfl) (by kernel_rfl) (fun _ _ _ h => h) (Or.inl ⟨by kernel_rfl, ?_⟩) (by assumption) ?_
                     rotate_left
                     · (intro w hSw; (try dsimp only at hSw); go_simp; (try with_reducible rfl))
                     (try simp only [Act.put]); (try simp only [List.setIfInBounds_toArray]); (try simp only [List.set_cons_succ]); (try simp only [List.set_cons_zero])
                     refine takeD (some 67) (i := 21) (v := ?_) rfl rfl (by kernel_rfl) (by kernel_rfl) (by kernel_rfl) (fun _ _ _ h => h) (Or.inl ⟨by kernel_rfl, ?_⟩) (by assumption) ?_
                     rotate_left
                     · (intro w hSw; (try dsimp only at hSw); go_simp; (try with_reducible rfl))
                     (try simp only [Act.put]); (try simp only [List.setIfInBounds_toArray]); (try simp only [List.set_cons_succ]); (try simp only [List.set_cons_zero])
                     refine wpAnyH_ready (rs := [22]) (by kernel_rfl) (by simp) ?_
                     refine AllReadyH.cons rfl (fun K hK => ?_) AllReadyH.nil
                     go_simp
                     refine hcall1.mono ?_
                     rintro e V1 ⟨rfl, hA1, hG1⟩
                     have HT : Hid (AcSt c a len cap w V1 (.slice (some ⟨g, off, none⟩) L.length cp) (.slice co nc cc) (.slice go nh hc) (.int .i64 bad) ab ⟨5, 0, 0, rd, f, s⟩) := ac_cur HSRd.out hcw hA1 hG1
                     clear hA1 hG1
                     go_wp2_with fail
                     refine hK.out _ _ (HSS.out _ _ HT.out rfl) (fun hHeld => ?_)
                     clear hK K
                     (try simp only [Act.put]); (try simp only [List.setIfInBounds_toArray]); (try simp only [List.set_cons_succ]); (try simp only [List.set_cons_zero])
                     refine takeD (some 69) (i := 23) (v := ?_) rfl rfl (by kernel_rfl) (by kernel_rfl) (by kernel_rfl) (fun _ _ _ h => h) (Or.inl ⟨by kernel_rfl, ?_⟩) (by assumption) ?_
                     rotate_left
                     · (intro w hSw; (try dsimp only at hSw); go_simp; (try with_reducible rfl))
                     (try simp only [Act.put]); (try simp only [List.setIfInBounds_toArray]); (try simp only [List.set_cons_succ]); (try simp only [List.set_cons_zero])
                     refine takeD (some 70) (i := 24) (v := ?_) rfl rfl (by kernel_rfl) (by kernel_rfl) (by kernel_rfl) (fun _ _ _ h => h) (Or.inl ⟨by kernel_rfl, ?_⟩) (by assumption) ?_
                     rotate_left
                     · (intro w hSw; (try dsimp only at hSw); go_simp; (try with_reducible rfl))
                     (try simp only [Act.put]); (try simp only [List.setIfInBounds_toArray]); (try simp only [List.set_cons_succ]); (try simp only [List.set_cons_zero])
                     refine takeD (some 71) (i := 25) (v := ?_) rfl rfl (by kernel_rfl) (by kernel_rfl) (by kernel_rfl) (fun _ _ _ h => h) (Or.inl ⟨by kernel_rfl, ?_⟩) (by assumption) ?_
                     rotate_left
                     · (intro w hSw; (try dsimp only at hSw); go_simp; (try with_reducible rfl))
                     (try simp only [Act.put]); (try simp only [List.setIfInBounds_toArray]); (try simp only [List.set_cons_succ]); (try simp only [List.set_cons_zero])
                     refine takeD (some 72) (i := 26) (v := undef) rfl rfl (by kernel_rfl) (by kernel_rfl) (by kernel_rfl) (fun _ _ _ h => h) (Or.inr ⟨by kernel_rfl, rfl⟩) (by assumption) ?_
                     (try simp only [Act.put]); (try simp only [List.setIfInBounds_toArray]); (try simp only [List.set_cons_succ]); (try simp only [List.set_cons_zero])
                     refine takeD (some 73) (i := 27) (v := undef) rfl rfl (by kernel_rfl) (by kernel_rfl) (by kernel_rfl) (fun _ _ _ h => h) (Or.inr ⟨by kernel_rfl, rfl⟩) (by assumption) ?_
                     (try simp only [Act.put]); (try simp only [List.setIfInBounds_toArray]); (try simp only [List.set_cons_succ]); (try simp only [List.set_cons_zero])
                     refine takeD (some 74) (i := 28) (v := undef) rfl rfl (by kernel_rfl) (by kernel_rfl) (by kernel_rfl) (fun _ _ _ h => h) (Or.inr ⟨by kernel_rfl, rfl⟩) (by assumption) ?_
                     (try simp only [Act.put]); (try simp only [List.setIfInBounds_toArray]); (try simp only [List.set_cons_succ]); (try simp only [List.set_cons_zero])
                     refine takeD (some 75) (i := 29) (v := undef) rfl rfl (by kernel_rfl) (by kernel_rfl) (by kernel_rfl) (fun _ _ _ h => h) (Or.inr ⟨by kernel_rfl, rfl⟩) (by assumption) ?_
                     (try simp only [Act.put]); (try simp only [List.setIfInBounds_toArray]); (try simp only [List.set_cons_succ]); (try simp only [List.set_cons_zero])
                     refine takeD (some 76) (i := 30) (v := undef) rfl rfl (by kernel_rfl) (by kernel_rfl) (by kernel_rfl) (fun _ _ _ h => h) (Or.inr ⟨by kernel_rfl, rfl⟩) (by assumption) ?_
                     (try simp only [Act.put]); (try simp only [List.setIfInBounds_toArray]); (try simp only [List.set_cons_succ]); (try simp only [List.set_cons_zero])
                     refine takeD (some 77) (i := 31) (v := undef) rfl rfl (by kernel_rfl) (by kernel_rfl) (by kernel_rfl) (fun _ _ _ h => h) (Or.inr ⟨by kernel_rfl, rfl⟩) (by assumption) ?_
                     (try simp only [Act.put]); (try simp only [List.setIfInBounds_toArray]); (try simp only [List.set_cons_succ]); (try simp only [List.set_cons_zero])
                     refine takeD (some 78) (i := 32) (v := undef) rfl rfl (by kernel_rfl) (by kernel_rfl) (by kernel_rfl) (fun _ _ _ h => h) (Or.inr ⟨by kernel_rfl, rfl⟩) (by assumption) ?_
                     (try simp only [Act.put]); (try simp only [List.setIfInBounds_toArray]); (try simp only [List.set_cons_succ]); (try simp only [List.set_cons_zero])
                     refine takeD (some 79) (i := 33) (v := undef) rfl rfl (by kernel_rfl) (by kernel_rfl) (by kernel_rfl) (fun _ _ _ h => h) (Or.inr ⟨by kernel_rfl, rfl⟩) (by assumption) ?_
                     (try simp only [Act.put]); (try simp only [List.setIfInBounds_toArray]); (try simp only [List.set_cons_succ]); (try simp only [List.set_cons_zero])
                     refine takeD (some 80) (i := 34) (v := undef) rfl rfl (by kernel_rfl) (by kernel_rfl) (by kernel_rfl) (fun _ _ _ h => h) (Or.inr ⟨by kernel_rfl, rfl⟩) (by assumption) ?_
                     (try simp only [Act.put]); (try simp only [List.setIfInBounds_toArray]); (try simp only [List.set_cons_succ]); (try simp only [List.set_cons_zero])
                     refine takeD (some 81) (i := 35) (v := undef) rfl rfl (by kernel_rfl) (by kernel_rfl) (by kernel_rfl) (fun _ _ _ h => h) (Or.inr ⟨by kernel_rfl, rfl⟩) (by assumption) ?_
                     (try simp only [Act.put]); (try simp only [List.setIfInBounds_toArray]); (try simp only [List.set_cons_succ]); (try simp only [List.set_cons_zero])
                     refine takeD (some 82) (i := 36) (v := undef) rfl rfl (by kernel_rfl) (by kernel_rfl) (by kernel_rfl) (fun _ _ _ h => h) (Or.inr ⟨by kernel_rfl, rfl⟩) (by assumption) ?_
                     (try simp only [Act.put]); (try simp only [List.setIfInBounds_toArray]); (try simp only [List.set_cons_succ]); (try simp only [List.set_cons_zero])
                     refine takeD (some 83) (i := 37) (v := undef) rfl rfl (by kernel_rfl) (by kernel_rfl) (by kernel_rfl) (fun _ _ _ h => h) (Or.inr ⟨by kernel_rfl, rfl⟩) (by assumption) ?_
                     (try simp only [Act.put]); (try simp only [List.setIfInBounds_toArray]); (try simp only [List.set_cons_succ]); (try simp only [List.set_cons_zero])
                     refine takeD (some 84) (i := 38) (v := undef) rfl rfl (by kernel_rfl) (by kernel_rfl) (by kernel_rfl) (fun _ _ _ h => h) (Or.inr ⟨by kernel_rfl, rfl⟩) (by assumption) ?_
                     (try simp only [Act.put]); (try simp only [List.setIfInBounds_toArray]); (try simp only [List.set_cons_succ]); (try simp only [List.set_cons_zero])
                     refine takeD (some 85) (i := 39) (v := undef) rfl rfl (by kernel_rfl) (by kernel_rfl) (by kernel_rfl) (fun _ _ _ h => h) (Or.inr ⟨by kernel_rfl, rfl⟩) (by assumption) ?_
                     (try simp only [Act.put]); (try simp only [List.setIfInBounds_toArray]); (try simp only [List.set_cons_succ]); (try simp only [List.set_cons_zero])
                     refine takeD (some 86) (i := 40) (v := ?_) rfl rfl (by kernel_rfl) (by kernel_rfl) (by kernel_rfl) (fun _ _ _ h => h) (Or.inl ⟨by kernel_rfl, ?_⟩) (by assumption) ?_
                     rotate_left
                     · (intro w hSw; (try dsimp only at hSw); go_simp; (try with_reducible rfl))
                     (try simp only [Act.put]); (try simp only [List.setIfInBounds_toArray]); (try simp only [List.set_cons_succ]); (try simp only [List.set_cons_zero])
                     refine wpAnyH_done (by kernel_rfl) ?_ _
                     go_wp2_with fail
                     go_meet
                     exact ⟨_, rfl, HT.out⟩
                 · have e2' : (hj' != bad) = true := by simpa using e2
                   clear e1 e2
                   go_quiet (fail)
                   go_wp2
                   go_meet
                   exact ⟨_, rfl, ac_drewN HSR.out hcb _⟩
               · have e1' : (rj == rd - 1) = false := by simpa using e1
                 by_cases e3 : rj < rd - 1
                 · have e3' : decide (rj < rd - 1) = true := decide_eq_true e3
                   clear e1
                   obtain ⟨b, hcall⟩ := Cur.once_fixed c a len cap 8 wr hl (by omega) (by omega) HSR.out.at'
                   have hcall1 := hcall 1
                   clear hcall
                   refine wp_region_held_drew (S := fun X => X.cell? ⟨w.heap.size, 0, none⟩ = some (.slice (some ⟨g, off, none⟩) L.length cp) ∧ X.cell? ⟨w.heap.size, 3, none⟩ = some (.int .i64 bad) ∧ X.cell? ⟨ab, 3, none⟩ = some (.int .i64 rd) ∧ X.cell? ⟨g, off + j * 4, none⟩ = some (.int .i64 hj') ∧ X.cell? ⟨g, off + j * 4 + 1, none⟩ = some (.int .i64 rj)) (by kernel_rfl) (HSS.out _ _ HSRd.out rfl) (fun hHeld => ?_)
                   refine takeD (some 46) (i := 0) (v := ?_) rfl rfl (by kernel_rfl) (by kernel_rfl) (by kernel_rfl) (fun _ _ _ h => h) (Or.inl ⟨by kernel_rfl, ?_⟩) (by assumption) ?_
                   rotate_left
                   · (intro w hSw; (try dsimp only at hSw); go_simp; (try with_reducible rfl))
                   (try simp only [Act.put]); (try simp only [List.setIfInBounds_toArray]); (try simp only [List.set_cons_succ]); (try simp only [List.set_cons_zero])
                   refine takeD (some 47) (i := 1) (v := ?_) rfl rfl (by kernel_rfl) (by kernel_rfl) (by kernel_rfl) (fun _ _ _ h => h) (Or.inl ⟨by kernel_rfl, ?_⟩) (by assumption) ?_
                   rotate_left
                   · (intro w hSw; (try dsimp only at hSw); go_simp; (try with_reducible rfl))
                   (try simp only [Act.put]); (try simp only [List.setIfInBounds_toArray]); (try simp only [List.set_cons_succ]); (try simp only [List.set_cons_zero])
                   refine takeD (some 48) (i := 2) (v := ?_) rfl rfl (by kernel_rfl) (by kernel_rfl) (by kernel_rfl) (fun _ _ _ h => h) (Or.inl ⟨by kernel_rfl, ?_⟩) (by assumption) ?_
                   rotate_left
                   · (intro w hSw; (try dsimp only at hSw); go_simp; (try with_reducible rfl))
                   (try simp only [Act.put]); (try simp only [List.setIfInBounds_toArray]); (try simp only [List.set_cons_succ]); (try simp only [List.set_cons_zero])
                   refine takeD (some 49) (i := 3) (v := ?_) rfl rfl (by kernel_rfl) (by kernel_rfl) (by kernel_rfl) (fun _ _ _ h => h) (Or.inl ⟨by kernel_rfl, ?_⟩) (by assumption) ?_
                   rotate_left
                   · (intro w hSw; (try dsimp only at hSw); go_simp; (try with_reducible rfl))
                   (try simp only [Act.put]); (try simp only [List.setIfInBounds_toArray]); (try simp only [List.set_cons_succ]); (try simp only [List.set_cons_zero])
                   refine takeD (some 50) (i := 4) (v := ?_) rfl rfl (by kernel_rfl) (by kernel_rfl) (by kernel_rfl) (fun _ _ _ h => h) (Or.inl ⟨by kernel_rfl, ?_⟩) (by assumption) ?_
                   rotate_left
                   · (intro w hSw; (try dsimp only at hSw); go_simp; (try with_reducible rfl))
                   (try simp only [Act.put]); (try simp only [List.setIfInBounds_toArray]); (try simp only [List.set_cons_succ]); (try simp only [List.set_cons_zero])
                   refine takeD (some 51) (i := 5) (v := ?_) rfl rfl (by kernel_rfl) (by kernel_rfl) (by kernel_rfl) (fun _ _ _ h => h) (Or.inl ⟨by kernel_rfl, ?_⟩) (by assumption) ?_
                   rotate_left
                   · (intro w hSw; (try dsimp only at hSw); go_simp; (try with_reducible rfl))
                   (try simp only [Act.put]); (try simp only [List.setIfInBounds_toArray]); (try simp only [List.set_cons_succ]); (try simp only [List.set_cons_zero])
                   refine takeD (some 52) (i := 6) (v := ?_) rfl rfl (by kernel_rfl) (by kernel_rfl) (by kernel_rfl) (fun _ _ _ h => h) (Or.inl ⟨by kernel_rfl, ?_⟩) (by assumption) ?_
                   rotate_left
                   · (intro w hSw; (try dsimp only at hSw); go_simp; (try with_reducible rfl))
                   (try simp only [Act.put]); (try simp only [List.setIfInBounds_toArray]); (try simp only [List.set_cons_succ]); (try simp only [List.set_cons_zero])
                   refine takeD (some 53) (i := 7) (v := ?_) rfl rfl (by kernel_rfl) (by kernel_rfl) (by kernel_rfl) (fun _ _ _ h => h) (Or.inl ⟨by kernel_rfl, ?_⟩) (by assumption) ?_
                   rotate_left
                   · (intro w hSw; (try dsimp only at hSw); go_simp; (try with_reducible rfl))
                   (try simp only [Act.put]); (try simp only [List.setIfInBounds_toArray]); (try simp only [List.set_cons_succ]); (try simp only [List.set_cons_zero])
                   refine takeD (some 54) (i := 8) (v := ?_) rfl rfl (by kernel_rfl) (by kernel_rfl) (by kernel_rfl) (fun _ _ _ h => h) (Or.inl ⟨by kernel_rfl, ?_⟩) (by assumption) ?_
                   rotate_left
                   · (intro w hSw; (try dsimp only at hSw); go_simp; (try with_reducible rfl))
                   (try simp only [Act.put]); (try simp only [List.setIfInBounds_toArray]); (try simp only [List.set_cons_succ]); (try simp only [List.set_cons_zero])
                   refine takeD (some 55) (i := 9) (v := ?_) rfl rfl (by kernel_rfl) (by kernel_rfl) (by kernel_rfl) (fun _ _ _ h => h) (Or.inl ⟨by kernel_rfl, ?_⟩) (by assumption) ?_
                   rotate_left
                   · (intro w hSw; (try dsimp only at hSw); go_simp; (try with_reducible rfl))
                   (try simp only [Act.put]); (try simp only [List.setIfInBounds_toArray]); (try simp only [List.set_cons_succ]); (try simp only [List.set_cons_zero])
                   refine takeD (some 56) (i := 10) (v := ?_) rfl rfl (by kernel_rfl) (by kernel_rfl) (by kernel_rfl) (fun _ _ _ h => h) (Or.inl ⟨by kernel_rfl, ?_⟩) (by assumption) ?_
                   rotate_left
                   · (intro w hSw; (try dsimp only at hSw); go_simp; (try with_reducible rfl))
                   (try simp only [Act.put]); (try simp only [List.setIfInBounds_toArray]); (try simp only [List.set_cons_succ]); (try simp only [List.set_cons_zero])
                   refine takeD (some 57) (i := 11) (v := undef) rfl rfl (by kernel_rfl) (by kernel_rfl) (by kernel_rfl) (fun _ _ _ h => h) (Or.inr ⟨by kernel_rfl, rfl⟩) (by assumption) ?_
                   (try simp only [Act.put]); (try simp only [List.setIfInBounds_toArray]); (try simp only [List.set_cons_succ]); (try simp only [List.set_cons_zero])
                   refine takeD (some 58) (i := 12) (v := undef) rfl rfl (by kernel_rfl) (by kernel_rfl) (by kernel_rfl) (fun _ _ _ h => h) (Or.inr ⟨by kernel_rfl, rfl⟩) (by assumption) ?_
                   (try simp only [Act.put]); (try simp only [List.setIfInBounds_toArray]); (try simp only [List.set_cons_succ]); (try simp only [List.set_cons_zero])
                   refine takeD (some 59) (i := 13) (v := undef) rfl rfl (by kernel_rfl) (by kernel_rfl) (by kernel_rfl) (fun _ _ _ h => h) (Or.inr ⟨by kernel_rfl, rfl⟩) (by assumption) ?_
                   (try simp only [Act.put]); (try simp only [List.setIfInBounds_toArray]); (try simp only [List.set_cons_succ]); (try simp only [List.set_cons_zero])
                   refine takeD (some 60) (i := 14) (v := undef) rfl rfl (by kernel_rfl) (by kernel_rfl) (by kernel_rfl) (fun _ _ _ h => h) (Or.inr ⟨by kernel_rfl, rfl⟩) (by assumption) ?_
                   (try simp only [Act.put]); (try simp only [List.setIfInBounds_toArray]); (try simp only [List.set_cons_succ]); (try simp only [List.set_cons_zero])
                   refine takeD (some 61) (i := 15) (v := undef) rfl rfl (by kernel_rfl) (by kernel_rfl) (by kernel_rfl) (fun _ _ _ h => h) (Or.inr ⟨by kernel_rfl, rfl⟩) (by assumption) ?_
                   (try simp only [Act.put]); (try simp only [List.setIfInBounds_toArray]); (try simp only [List.set_cons_succ]); (try simp only [List.set_cons_zero])
                   refine takeD (some 62) (i := 16) (v := undef) rfl rfl (by kernel_rfl) (by kernel_rfl) (by kernel_rfl) (fun _ _ _ h => h) (Or.inr ⟨by kernel_rfl, rfl⟩) (by assumption) ?_
                   (try simp only [Act.put]); (try simp only [List.setIfInBounds_toArray]); (try simp only [List.set_cons_succ]); (try simp only [List.set_cons_zero])
                   refine takeD (some 63) (i := 17) (v := undef) rfl rfl (by kernel_rfl) (by kernel_rfl) (by kernel_rfl) (fun _ _ _ h => h) (Or.inr ⟨by kernel_rfl, rfl⟩) (by assumption) ?_
                   (try simp only [Act.put]); (try simp only [List.setIfInBounds_toArray]); (try simp only [List.set_cons_succ]); (try simp only [List.set_cons_zero])
                   refine takeD (some 64) (i := 18) (v := undef) rfl rfl (by kernel_rfl) (by kernel_rfl) (by kernel_rfl) (fun _ _ _ h => h) (Or.inr ⟨by kernel_rfl, rfl⟩) (by assumption) ?_
                   (try simp only [Act.put]); (try simp only [List.setIfInBounds_toArray]); (try simp only [List.set_cons_succ]); (try simp only [List.set_cons_zero])
                   refine takeD (some 65) (i := 19) (v := undef) rfl rfl (by kernel_rfl) (by kernel_rfl) (by kernel_rfl) (fun _ _ _ h => h) (Or.inr ⟨by kernel_rfl, rfl⟩) (by assumption) ?_
                   (try simp only [Act.put]); (try simp only [List.setIfInBounds_toArray]); (try simp only [List.set_cons_succ]); (try simp only [List.set_cons_zero])
                   refine takeD (some 66) (i := 20) (v := undef) rfl rfl (by kernel_rfl) (by kernel_rfl) (by kernel_rfl) (fun _ _ _ h => h) (Or.inr ⟨by kernel_rfl, rfl⟩) (by assumption) ?_
                   (try simp only [Act.put]); (try simp only [List.setIfInBounds_toArray]); (try simp only [List.set_cons_succ]); (try simp only [List.set_cons_zero])
                   refine takeD (some 67) (i := 21) (v := undef) rfl rfl (by kernel_rfl) (by kernel_rfl) (by kernel_rfl) (fun _ _ _ h => h) (Or.inr ⟨by kernel_rfl, rfl⟩) (by assumption) ?_
                   (try simp only [Act.put]); (try simp only [List.setIfInBounds_toArray]); (try simp only [List.set_cons_succ]); (try simp only [List.set_cons_zero])
                   refine takeD (some 68) (i := 22) (v := undef) rfl rfl (by kernel_rfl) (by kernel_rfl) (by kernel_rfl) (fun _ _ _ h => h) (Or.inr ⟨by kernel_rfl, rfl⟩) (by assumption) ?_
                   (try simp only [Act.put]); (try simp only [List.setIfInBounds_toArray]); (try simp only [List.set_cons_succ]); (try simp only [List.set_cons_zero])
                   refine takeD (some 69) (i := 23) (v := undef) rfl rfl (by kernel_rfl) (by kernel_rfl) (by kernel_rfl) (fun _ _ _ h => h) (Or.inr ⟨by kernel_rfl, rfl⟩) (by assumption) ?_
                   (try simp only [Act.put]); (try simp only [List.setIfInBounds_toArray]); (try simp only [List.set_cons_succ]); (try simp only [List.set_cons_zero])
                   refine takeD (some 70) (i := 24) (v := ?_) rfl rfl (by kernel_rfl) (by kernel_rfl) (by kernel_rfl) (fun _ _ _ h => h) (Or.inl ⟨by kernel_rfl, ?_⟩) (by assumption) ?_
                   rotate_left
                   · (intro w hSw; (try dsimp only at hSw); go_simp; (try with_reducible rfl))
                   (try simp only [Act.put]); (try simp only [List.setIfInBounds_toArray]); (try simp only [List.set_cons_succ]); (try simp only [List.set_cons_zero])
                   refine takeD (some 71) (i := 25) (v := ?_) rfl rfl (by kernel_rfl) (by kernel_rfl) (by kernel_rfl) (fun _ _ _ h => h) (Or.inl ⟨by kernel_rfl, ?_⟩) (by assumption) ?_
                   rotate_left
                   · (intro w hSw; (try dsimp only at hSw); go_simp; (try with_reducible rfl))
                   (try simp only [Act.put]); (try simp only [List.setIfInBounds_toArray]); (try simp only [List.set_cons_succ]); (try simp only [List.set_cons_zero])
                   refine takeD (some 72) (i := 26) (v := ?_) rfl rfl (by kernel_rfl) (by kernel_rfl) (by kernel_rfl) (fun _ _ _ h => h) (Or.inl ⟨by kernel_rfl, ?_⟩) (by assumption) ?_
                   rotate_left
                   · (intro w hSw; (try dsimp only at hSw); go_simp; (try with_reducible rfl))
                   (try simp only [Act.put]); (try simp only [List.setIfInBounds_toArray]); (try simp only [List.set_cons_succ]); (try simp only [List.set_cons_zero])
                   refine takeD (some 73) (i := 27) (v := ?_) rfl rfl (by kernel_rfl) (by kernel_rfl) (by kernel_rfl) (fun _ _ _ h => h) (Or.inl ⟨by kernel_rfl, ?_⟩) (by assumption) ?_
                   rotate_left
                   · (intro w hSw; (try dsimp only at hSw); go_simp; (try with_reducible rfl))
                   (try simp only [Act.put]); (try simp only [List.setIfInBounds_toArray]); (try simp only [List.set_cons_succ]); (try simp only [List.set_cons_zero])
                   refine takeD (some 74) (i := 28) (v := ?_) rfl rfl (by kernel_rfl) (by kernel_rfl) (by kernel_rfl) (fun _ _ _ h => h) (Or.inl ⟨by kernel_rfl, ?_⟩) (by assumption) ?_
                   rotate_left
                   · (intro w hSw; (try dsimp only at hSw); go_simp; (try with_reducible rfl))
                   (try simp only [Act.put]); (try simp only [List.setIfInBounds_toArray]); (try simp only [List.set_cons_succ]); (try simp only [List.set_cons_zero])
                   refine takeD (some 75) (i := 29) (v := ?_) rfl rfl (by kernel_rfl) (by kernel_rfl) (by kernel_rfl) (fun _ _ _ h => h) (Or.inl ⟨by kernel_rfl, ?_⟩) (by assumption) ?_
                   rotate_left
                   · (intro w hSw; (try dsimp only at hSw); go_simp; (try with_reducible rfl))
                   (try simp only [Act.put]); (try simp only [List.setIfInBounds_toArray]); (try simp only [List.set_cons_succ]); (try simp only [List.set_cons_zero])
                   refine takeD (some 76) (i := 30) (v := ?_) rfl rfl (by kernel_rfl) (by kernel_rfl) (by kernel_rfl) (fun _ _ _ h => h) (Or.inl ⟨by kernel_rfl, ?_⟩) (by assumption) ?_
                   rotate_left
                   · (intro w hSw; (try dsimp only at hSw); go_simp; (try with_reducible rfl))
                   (try simp only [Act.put]); (try simp only [List.setIfInBounds_toArray]); (try simp only [List.set_cons_succ]); (try simp only [List.set_cons_zero])
                   refine takeD (some 77) (i := 31) (v := ?_) rfl rfl (by kernel_rfl) (by kernel_rfl) (by kernel_rfl) (fun _ _ _ h => h) (Or.inl ⟨by kernel_rfl, ?_⟩) (by assumption) ?_
                   rotate_left
                   · (intro w hSw; (try dsimp only at hSw); go_simp; (try with_reducible rfl))
                   (try simp only [Act.put]); (try simp only [List.setIfInBounds_toArray]); (try simp only [List.set_cons_succ]); (try simp only [List.set_cons_zero])
                   refine takeD (some 78) (i := 32) (v := ?_) rfl rfl (by kernel_rfl) (by kernel_rfl) (by kernel_rfl) (fun _ _ _ h => h) (Or.inl ⟨by kernel_rfl, ?_⟩) (by assumption) ?_
                   rotate_left
                   · (intro w hSw; (try dsimp only at hSw); go_simp; (try with_reducible rfl))
                   (try simp only [Act.put]); (try simp only [List.setIfInBounds_toArray]); (try simp only [List.set_cons_succ]); (try simp only [List.set_cons_zero])
                   refine takeD (some 79) (i := 33) (v := ?_) rfl rfl (by kernel_rfl) (by kernel_rfl) (by kernel_rfl) (fun _ _ _ h => h) (Or.inl ⟨by kernel_rfl, ?_⟩) (by assumption) ?_
                   rotate_left
                   · (intro w hSw; (try dsimp only at hSw); go_simp; (try with_reducible rfl))
                   (try simp only [Act.put]); (try simp only [List.setIfInBounds_toArray]); (try simp only [List.set_cons_succ]); (try simp only [List.set_cons_zero])
                   refine takeD (some 80) (i := 34) (v := ?_) rfl rfl (by kernel_rfl) (by kernel_rfl) (by kernel_rfl) (fun _ _ _ h => h) (Or.inl ⟨by kernel_rfl, ?_⟩) (by assumption) ?_
                   rotate_left
                   · (intro w hSw; (try dsimp only at hSw); go_simp; (try with_reducible rfl))
                   (try simp only [Act.put]); (try simp only [List.setIfInBounds_toArray]); (try simp only [List.set_cons_succ]); (try simp only [List.set_cons_zero])
                   refine takeD (some 81) (i := 35) (v := ?_) rfl rfl (by kernel_rfl) (by kernel_rfl) (by kernel_rfl) (fun _ _ _ h => h) (Or.inl ⟨by kernel_rfl, ?_⟩) (by assumption) ?_
                   rotate_left
                   · (intro w hSw; (try dsimp only at hSw); go_simp; (try with_reducible rfl))
                   (try simp only [Act.put]); (try simp only [List.setIfInBounds_toArray]); (try simp only [List.set_cons_succ]); (try simp only [List.set_cons_zero])
                   refine takeD (some 82) (i := 36) (v := ?_) rfl rfl (by kernel_rfl) (by kernel_rfl) (by kernel_rfl) (fun _ _ _ h => h) (Or.inl ⟨by kernel_rfl, ?_⟩) (by assumption) ?_
                   rotate_left
                   · (intro w hSw; (try dsimp only at hSw); go_simp; (try with_reducible rfl))
                   (try simp only [Act.put]); (try simp only [List.setIfInBounds_toArray]); (try simp only [List.set_cons_succ]); (try simp only [List.set_cons_zero])
                   refine takeD (some 83) (i := 37) (v := ?_) rfl rfl (by kernel_rfl) (by kernel_rfl) (by kernel_rfl) (fun _ _ _ h => h) (Or.inl ⟨by kernel_rfl, ?_⟩) (by assumption) ?_
                   rotate_left
                   · (intro w hSw; (try dsimp only at hSw); go_simp; (try with_reducible rfl))
                   (try simp only [Act.put]); (try simp only [List.setIfInBounds_toArray]); (try simp only [List.set_cons_succ]); (try simp only [List.set_cons_zero])
                   refine wpAnyH_ready (rs := [38]) (by kernel_rfl) (by simp) ?_
                   refine AllReadyH.cons rfl (fun K hK => ?_) AllReadyH.nil
                   go_simp
                   refine hcall1.mono ?_
                   rintro e V1 ⟨rfl, hA1, hG1⟩
                   have HT : Hid (AcSt c a len cap w V1 (.slice (some ⟨g, off, none⟩) L.length cp) (.slice co nc cc) (.slice go nh hc) (.int .i64 bad) ab ⟨5, 0, 0, rd, f, s⟩) := ac_cur HSRd.out hcw hA1 hG1
                   clear hA1 hG1
                   go_wp2_with fail
                   refine hK.out _ _ (HSS.out _ _ HT.out rfl) (fun hHeld => ?_)
                   clear hK K
                   (try simp only [Act.put]); (try simp only [List.setIfInBounds_toArray]); (try simp only [List.set_cons_succ]); (try simp only [List.set_cons_zero])
                   refine takeD (some 85) (i := 39) (v := ?_) rfl rfl (by kernel_rfl) (by kernel_rfl) (by kernel_rfl) (fun _ _ _ h => h) (Or.inl ⟨by kernel_rfl, ?_⟩) (by assumption) ?_
                   rotate_left
                   · (intro w hSw; (try dsimp only at hSw); go_simp; (try with_reducible rfl))
                   (try simp only [Act.put]); (try simp only [List.setIfInBounds_toArray]); (try simp only [List.set_cons_succ]); (try simp only [List.set_cons_zero])
                   refine takeD (some 86) (i := 40) (v := ?_) rfl rfl (by kernel_rfl) (by kernel_rfl) (by kernel_rfl) (fun _ _ _ h => h) (Or.inl ⟨by kernel_rfl, ?_⟩) (by assumption) ?_
                   rotate_left
                   · (intro w hSw; (try dsimp only at hSw); go_simp; (try with_reducible rfl))
                   (try simp only [Act.put]); (try simp only [List.setIfInBounds_toArray]); (try simp only [List.set_cons_succ]); (try simp only [List.set_cons_zero])
                   refine wpAnyH_done (by kernel_rfl) ?_ _
                   go_wp2_with fail
                   go_meet
                   exact ⟨_, rfl, HT.out⟩
                 · have e3' : decide (rj < rd - 1) = false := decide_eq_false e3
                   clear e1 e3
                   go_quiet (fail)
                   go_wp2
                   go_meet
                   exact ⟨_, rfl, ac_drewN HSR.out hcb _⟩
             case rest =>
               obtain ⟨bb, rfl, HSX⟩ := hcut
               clear c0 c3 b3 d0 d1 HSS HSRd HSR
               cases bb
               · go_wp2
                 go_roundw
                 case rel => exact ⟨j + 1, f, by omega, by go_num, HSX⟩
                 case measure => simp [intOf]; omega
               · have b4 := HSX.out.act.c4
                 have g4 := HSX.out.act.f4
                 have HS9 : Hid (AcSt c a len cap w (wc.setCell ⟨ab, 4, none⟩ (.int .i64 (bits .or .i64 f (2 ^ j)))).drew (.slice (some ⟨g, off, none⟩) L.length cp) (.slice co nc cc) (.slice go nh hc) (.int .i64 bad) ab ⟨5, 0, 0, rd, bits .or .i64 f (2 ^ j), s⟩) := ac_frm HSX.out hcb _
                 go_wp2_with fail
                 go_region_with (go_at_call 49; refine (Base.l1Bit _ _ (by omega) (by omega)).mono ?_; rintro e w' ⟨rfl, rfl⟩; rw [Int.toNat_natCast])
                 all_goals
                   go_wp2
                   go_roundw
                   case rel => exact ⟨j + 1, _, by omega, by go_num, HS9⟩
                   case measure => simp [intOf]; omega
           · obtain rfl : j = L.length := by omega
             have hjj : ¬ (L.length : Int) < (L.length : Int) := by omega
             have HF : Hid (AcPost c a len cap w (.returned (acV ⟨5, 0, 0, rd, f, s⟩)) (set6 wr (w.heap.size + 1) ⟨5, 0, 0, rd, f, s⟩)) := ac_fin HSR.out hcb hs13
             have HQ : Hid (Q6 (set6 wr (w.heap.size + 1) ⟨5, 0, 0, rd, f, s⟩) (w.heap.size + 1) ⟨5, 0, 0, rd, f, s⟩) := set6_at HSR.out.res
             obtain ⟨_, b0, b1, b2, b3, b4, b5, _, _, _, _, _, _⟩ := HSR.out.act
             obtain ⟨_, r0, r1, r2, r3, r4, r5, f0, f1, f2, f3, f4, f5⟩ := HSR.out.res
             go_wp2
             obtain ⟨_, y0, y1, y2, y3, y4, y5, _, _, _, _, _, _⟩ := HQ.out
             unfold set6 at y0 y1 y2 y3 y4 y5
             exact bodyPost_ret (v := acV ⟨5, 0, 0, rd, f, s⟩) (by simp [results, Tryz.results163, go_sem, y0, y1, y2, y3, y4, y5]) rfl HF.out
   · have HF : Hid (AcPost c a len cap w (.returned (acV ⟨5, 0, 0, 0, 0, s⟩)) (set6 w3 (w.heap.size + 1) ⟨5, 0, 0, 0, 0, s⟩)) := ac_fin HS3.out hcb hs13
     have HQ : Hid (Q6 (set6 w3 (w.heap.size + 1) ⟨5, 0, 0, 0, 0, s⟩) (w.heap.size + 1) ⟨5, 0, 0, 0, 0, s⟩) := set6_at HS3.out.res
     obtain ⟨_, b0, b1, b2, b3, b4, b5, _, _, _, _, _, _⟩ := HS3.out.act
     obtain ⟨_, r0, r1, r2, r3, r4, r5, f0, f1, f2, f3, f4, f5⟩ := HS3.out.res
     go_wp2
     obtain ⟨_, y0, y1, y2, y3, y4, y5, _, _, _, _, _, _⟩ := HQ.out
     unfold set6 at y0 y1 y2 y3 y4 y5
     exact bodyPost_ret (v := acV ⟨5, 0, 0, 0, 0, s⟩) (by simp [results, Tryz.results163, go_sem, y0, y1, y2, y3, y4, y5]) rfl HF.out
end Rm
end Go.Proofs.YtflhaiakhfmmmaaGreat
