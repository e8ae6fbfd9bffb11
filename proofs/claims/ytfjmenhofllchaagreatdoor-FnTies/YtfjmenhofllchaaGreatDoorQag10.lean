/-
 What the model's HandOk, NewHand, Learns, LearnsAll, Keeps and Forgets answer; for lists of knots whose words have at most 2^40 bytes.
-/
import Derived.Test.YtfjmenhofllchaaGreatDoorQag9
namespace Go.Proofs.YtfjmenhofllchaaGreatDoor
open Go.RowKit
set_option maxRecDepth 100000
namespace Rm
open Kn (K okK in3)
open Lc (at' RdK laceB takesB flat OwnK CellsK cellsOf)
open Cur (At)
def DrawsActs : Prop := ∀ (c : Nat) (a : Option Addr) (len cap : Nat) (B : Nat) (R : Ro) (most : Int) (w : World), len ≤ 4096 → 0 < most → most ≤ 60 → At c a len cap w → NewR B w R → c < B → Calls Tryz.prog 113 #[.pointer (some ⟨c, 0, none⟩), roV R, .int .i64 most] w (ActsPost c a len cap w)
set_option maxHeartbeats 3200000 in
theorem l18Draw' (HA : DrawsActs) (c : Nat) (a : Option Addr) (len cap : Nat) (w : World) (hl : len ≤ 4096) (hc : At c a len cap w) :
   Calls Tryz.prog 79 #[.pointer (some ⟨c, 0, none⟩)] w (DrawPost c a len cap w) := by
 have hcb := curB_of hc
 have hcw : c < w.heap.size := hc.lt
 have P0 : Hid (Below w.heap.size w (w.alloc (.cells #[.slice none 0 0, .slice none 0 0, .slice none 0 0, .int .i64 0] 107)) ∧ Q4 (w.alloc (.cells #[.slice none 0 0, .slice none 0 0, .slice none 0 0, .int .i64 0] 107)) w.heap.size (.slice none 0 0) (.slice none 0 0) (.slice none 0 0) (.int .i64 0)) := ⟨(Below.refl _ _).alloc (Nat.le_refl _) _, q4_new _ _ _ _ _ _⟩
 have HAA : Hid DrawsActs := HA
 clear HA
 go_enter Tryz.func79, Tryz.ntmps79
 go_upto_region 1 with fail
 generalize w.alloc (.cells #[.slice none 0 0, .slice none 0 0, .slice none 0 0, .int .i64 0] 107) = W0 at P0 ⊢
 have HA0 : Hid (At c a len cap W0) := at_belowB hc hcb P0.out.1
 go_wp2_with fail
 refine (l18New c a len cap _ hl HA0.out).mono ?_
 rintro e w1 ⟨R, rfl, hR, hA1, hF1⟩
 have hlt0 : w.heap.size < W0.heap.size := P0.out.2.lt
 obtain ⟨co, cc, lc, hcv, _⟩ := hR.coins
 have HV : Hid (roV R = .agg #[.slice none 0 0, .slice co lc.length cc, .slice (some ⟨R.gh, 0, none⟩) 4 R.hc, .int .i64 R.bad]) := by show _ = _; unfold roV; rw [hR.lv, hcv]
 have HQ1 : Hid (Q4 w1 w.heap.size (.slice none 0 0) (.slice none 0 0) (.slice none 0 0) (.int .i64 0)) := q4_fr P0.out.2 hF1 (by omega)
 have HN4 : Hid (Q4 (w1.alloc (.cells #[.slice none 0 0, .slice co lc.length cc, .slice (some ⟨R.gh, 0, none⟩) 4 R.hc, .int .i64 R.bad] 107)) w1.heap.size (.slice none 0 0) (.slice co lc.length cc) (.slice (some ⟨R.gh, 0, none⟩) 4 R.hc) (.int .i64 R.bad) ∧ Below w1.heap.size w1 (w1.alloc (.cells #[.slice none 0 0, .slice co lc.length cc, .slice (some ⟨R.gh, 0, none⟩) 4 R.hc, .int .i64 R.bad] 107))) := ⟨q4_new _ _ _ _ _ _, (Below.refl _ _).alloc (Nat.le_refl _) _⟩
 rw [HV.out]
 go_upto_region 2 with fail
 have hW01 : W0.heap.size ≤ w1.heap.size := hF1.size
 have hgl1 : R.gh < w1.heap.size := (hR.parts.hands 0 (by omega)).lt
 have hw12 : w1.heap.size < (w1.alloc (.cells #[.slice none 0 0, .slice co lc.length cc, .slice (some ⟨R.gh, 0, none⟩) 4 R.hc, .int .i64 R.bad] 107)).heap.size := HN4.out.1.lt
 generalize w1.alloc (.cells #[.slice none 0 0, .slice co lc.length cc, .slice (some ⟨R.gh, 0, none⟩) 4 R.hc, .int .i64 R.bad] 107) = W2 at HN4 hw12 ⊢
 have hR2 : NewR W0.heap.size W2 R := newR_fr hR (Fr.of_below HN4.out.2 (fun _ => False)) (fun h => h) (fun _ _ h => h)
 have HA2 : Hid (At c a len cap W2) := at_belowB hA1 hcb (HN4.out.2.mono (by omega))
 obtain ⟨_, s0, s1, s2, s3, g0, _, _, _⟩ := HN4.out.1
 go_wp2_with fail
 have hcall := HAA.out c a len cap W0.heap.size R 50 W2 hl (by omega) (by omega) HA2.out hR2 (by omega)
 rw [HV.out] at hcall
 refine hcall.mono ?_
 rintro e w3 ⟨v, As, rfl, hAs, hAl, hA3, hF3⟩
 obtain ⟨g, gc, hv, hWg, hgl⟩ := acts_shape hAs
 subst hv
 have hf13 : Fr (fun x => x = c) w1 w3 := (Fr.of_below HN4.out.2 _).trans hF3 (fun _ hx _ => hx)
 have HS3 : Hid (PlSt c a len cap w w3 w1.heap.size g (.slice (some ⟨g, 0, none⟩) As.length gc) As R) := by
   have q3 := q4_fr HN4.out.1 hF3 (show ¬ w1.heap.size = c by omega)
   have hp3 : Parts (w.heap.size + 1) w3 R := parts_base (parts_fr hR2.parts hF3 (by have := hR2.parts.gB; omega) (fun y hy => by rw [hR.lv] at hy; simp [Value.ownBlock] at hy)) (by omega)
   have hgB := hR2.parts.gB
   refine ⟨hA3, ((Fr.of_below P0.out.1 _).trans hF1 (fun _ hx _ => hx)).trans hf13 (fun _ hx _ => hx), ⟨q3.lt, by omega, by rw [hR.lv]; exact q3.c0, by rw [hcv]; exact q3.c1, q3.c2, q3.c3, q3.f0, hp3, by omega, by rw [hR.lv]; simp [Value.ownBlock]⟩, own_baseT hAs.own (by omega), rfl, by omega, by omega, by rw [hR.lv]; simp [Value.ownBlock], q4_fr HQ1.out hf13 (by omega), by omega, ⟨co, _, cc, hcv⟩⟩
 have HSH : Hid (Short As) := hAs.sh
 clear hAs hA3 hF3 hf13 hcall hR2 HA2 hR HN4 s0 s1 s2 s3 g0 hA1 hF1 HQ1 HV hcv
 generalize w1.heap.size = pr at HS3 ⊢
 go_wp2_with fail
 go_loopw [5] (fun i wr => ∃ (j : Nat) (R' : Ro), j ≤ As.length ∧ i = .int .i64 j ∧ Hid (PlSt c a len cap w wr pr g (.slice (some ⟨g, 0, none⟩) As.length gc) As R')) (fun i _ => As.length - (intOf i).toNat)
 case atStart => exact ⟨0, R, by omega, rfl, HS3.out⟩
 case round =>
   obtain ⟨j, R', hj, rfl, HS⟩ := hrel
   by_cases hlt : j < As.length
   · have hji : (j : Int) < (As.length : Int) := by omega
     obtain ⟨e0, e1, e2, e3, e4, e5⟩ := acts_cell HS.out.acts j hlt
     have hsh := short_at HSH.out j
     generalize As.getD j zeroA = x at e0 e1 e2 e3 e4 e5 hsh
     go_wp2_with fail
     refine (l18Do (w.heap.size + 1) pr R' x _ HS.out.ro (by omega)).mono ?_
     intro e w4 hd
     obtain ⟨b, R2, rfl, h1, h2, h3, h4, h5, h6, h7, h8⟩ := pl_step HS.out hcb hd
     have HS4 : Hid (PlSt c a len cap w w4 pr g (.slice (some ⟨g, 0, none⟩) As.length gc) As R2) := ⟨h1, h2, h3, h4, HS.out.gv, HS.out.n1, h5, h6, h8, HS.out.gB, by rw [h7]; exact HS.out.sv⟩
     clear hd h1 h2 h3 h4 h5 h6 h7 h8 HS
     go_wp2
     go_roundw
     case rel => exact ⟨j + 1, R2, by omega, by go_num, HS4⟩
     case measure => simp [intOf]; omega
   · obtain rfl : j = As.length := by omega
     have hjj : ¬ (As.length : Int) < (As.length : Int) := by omega
     obtain ⟨co', n', cc', hcv'⟩ := HS.out.sv
     obtain ⟨ao', cap', hlv', _⟩ := own_lace HS.out.ro.parts.own
     have HVR : Hid (roV R' = .agg #[.slice ao' R'.L.length cap', .slice co' n' cc', .slice (some ⟨R'.gh, 0, none⟩) 4 R'.hc, .int .i64 R'.bad]) := by show _ = _; unfold roV; rw [hlv', hcv']
     have HE : Hid (DrawPost c a len cap w (.returned (.agg #[.slice ao' R'.L.length cap', .slice co' n' cc', .slice (some ⟨R'.gh, 0, none⟩) 4 R'.hc, .int .i64 R'.bad])) (qset wr w.heap.size (.slice ao' R'.L.length cap') (.slice co' n' cc') (.slice (some ⟨R'.gh, 0, none⟩) 4 R'.hc) (.int .i64 R'.bad))) := by
       have hq := qset_fr wr w.heap.size (.slice ao' R'.L.length cap') (.slice co' n' cc') (.slice (some ⟨R'.gh, 0, none⟩) 4 R'.hc) (.int .i64 R'.bad)
       have hgB := HS.out.ro.parts.gB
       refine ⟨R', by rw [HVR.out], parts_base (parts_fr HS.out.ro.parts hq (fun e => by have e' : R'.gh = w.heap.size := e; omega) (fun y hy e => by have := (World.ownsRow.lt HS.out.ro.parts.own y hy).1; omega)) (Nat.le_succ _), at_belowB HS.out.at' hcb (hq.toBelow HS.out.fr.size (fun x hx => by omega)), HS.out.fr.trans hq (fun x hx hl' => by omega)⟩
     have HQP : Hid _ := q4_put HS.out.res (.slice ao' R'.L.length cap') (.slice co' n' cc') (.slice (some ⟨R'.gh, 0, none⟩) 4 R'.hc) (.int .i64 R'.bad)
     obtain ⟨_, r0, r1, r2, r3, f0, f1, f2, f3⟩ := HS.out.res
     have t0 := HS.out.ro.c0
     have t1 := HS.out.ro.c1
     have t2 := HS.out.ro.c2
     have t3 := HS.out.ro.c3
     rw [hlv'] at t0
     rw [hcv'] at t1
     clear hlv' hcv' HVR HS
     go_wp2
     obtain ⟨_, y0, y1, y2, y3, _, _, _, _⟩ := HQP.out
     unfold qset at y0 y1 y2 y3
     exact bodyPost_ret (v := .agg #[.slice ao' R'.L.length cap', .slice co' n' cc', .slice (some ⟨R'.gh, 0, none⟩) 4 R'.hc, .int .i64 R'.bad]) (by simp [results, Tryz.results79, go_sem, y0, y1, y2, y3]) rfl HE.out
end Rm
namespace Rm
open Kn (K okK in3)
open Lc (at' RdK laceB takesB flat OwnK CellsK cellsOf)
open Cur (At)
structure CoIn (B : Nat) (w : World) (pr : Nat) (R : Ro) : Prop where
 at' : CoinsAt w R.cv
 ne : ∀ g, R.cv.ownBlock = some g → g ≠ pr ∧ g ≠ R.gh ∧ R.lv.ownBlock ≠ some g ∧ B ≤ g ∧ g < w.heap.size
theorem co_do {B pr : Nat} {w w1 : World} {R R' : Ro} (h : CoIn B w pr R) (hgh : R'.gh = R.gh) (hcv : R'.cv = R.cv) (hf : Fr (roS pr R) w w1) (hlv : ∀ g, R'.lv.ownBlock = some g → R.lv.ownBlock = some g ∨ w.heap.size ≤ g) : CoIn B w1 pr R' := by
 refine ⟨?_, fun g hg => ?_⟩
 · rw [hcv]
   refine coinsAt_fr h.at' hf (fun g hg hn => ?_)
   obtain ⟨n1, n2, n3, _, _⟩ := h.ne g hg
   rcases hn with q | q | q
   · exact n1 q
   · exact n2 q
   · exact n3 q
 · rw [hcv] at hg
   obtain ⟨n1, n2, n3, n4, n5⟩ := h.ne g hg
   refine ⟨n1, by rw [hgh]; exact n2, fun e => ?_, n4, Nat.lt_of_lt_of_le n5 hf.size⟩
   rcases hlv g e with q | q
   · exact n3 q
   · omega
theorem pl_stepC {c : Nat} {a : Option Addr} {len cap : Nat} {w wr w1 : World} {pr g : Nat} {v : Value} {As : List Ac} {R : Ro} {xo : Out} {e : Ending} (s : PlSt c a len cap w wr pr g v As R) (hcb : CurB c a len w.heap.size) (hco : CoIn (w.heap.size + 1) wr pr R) (hd : DoPost (w.heap.size + 1) pr R xo wr e w1) :
   ∃ (b : Bool) (R' : Ro), e = .returned (.bool b) ∧ At c a len cap w1 ∧ FrC c w w1 ∧ RoAt (w.heap.size + 1) w1 pr R' ∧ w1.ownsRow w.heap.size 137 6 v As.length (flatA As) ∧ g ≠ R'.gh ∧ R'.lv.ownBlock ≠ some g ∧ R'.cv = R.cv ∧ CoIn (w.heap.size + 1) w1 pr R' ∧ Q4 w1 w.heap.size (.slice none 0 0) (.slice none 0 0) (.slice none 0 0) (.int .i64 0) := by
 obtain ⟨R', rfl, hro, hgh, hbad, hf, hlv⟩ := hd
 have hS : ∀ x, roS pr R x → w.heap.size + 1 ≤ x := fun x hx => by
   rcases hx with rfl | rfl | h
   · exact s.ro.pB
   · exact s.ro.parts.gB
   · exact (World.ownsRow.lt s.ro.parts.own x h).1
 have hlt := World.ownsRow.lt s.acts g s.gv
 refine ⟨xo.done, R', rfl, at_belowB s.at' hcb (hf.toBelow s.fr.size (fun x hx => by have := hS x hx; omega)), s.fr.trans hf (fun x hx hl => by have := hS x hx; omega), hro, own_fr hf s.acts (fun y hy hn => ?_), by rw [hgh]; exact s.n2, fun e => ?_, hbad.2.1, co_do hco hgh hbad.2.1 hf hlv, q4_fr s.res hf (fun hn => by have := hS _ hn; omega)⟩
 · have : y = g := by have := s.gv; rw [hy] at this; injection this
   subst this
   rcases hn with h | h | h
   · exact s.n1 h
   · exact s.n2 h
   · exact s.n3 h
 · rcases hlv g e with h | h
   · exact s.n3 h
   · omega
theorem coins_lt {w : World} {v : Value} (h : CoinsAt w v) (g : Nat) (hg : v.ownBlock = some g) : g < w.heap.size := by
 obtain ⟨ao, cap, l, hv, _, h2, _, _⟩ := h
 rw [hv] at hg
 cases ao with
 | none => simp [Value.ownBlock] at hg
 | some x =>
   simp [Value.ownBlock] at hg
   obtain ⟨g', rfl, hlt⟩ := h2 x rfl
   simp at hg
   omega
def DrawPostC (c : Nat) (a : Option Addr) (len cap : Nat) (w : World) (e : Ending) (w' : World) : Prop := ∃ R, e = .returned (roV R) ∧ Parts w.heap.size w' R ∧ At c a len cap w' ∧ FrC c w w' ∧ (CoinsAt w' R.cv ∧ R.cv.ownBlock ≠ some R.gh ∧ ∀ g, R.cv.ownBlock = some g → R.lv.ownBlock ≠ some g) ∧ (∀ g, R.cv.ownBlock = some g → w.heap.size ≤ g)
def DrawsRoomC : Prop := ∀ (c : Nat) (a : Option Addr) (len cap : Nat) (w : World), len ≤ 4096 → At c a len cap w → Calls Tryz.prog 79 #[.pointer (some ⟨c, 0, none⟩)] w (DrawPostC c a len cap w)
set_option maxHeartbeats 3200000 in
theorem l18DrawC (HA : DrawsActs) (c : Nat) (a : Option Addr) (len cap : Nat) (w : World) (hl : len ≤ 4096) (hc : At c a len cap w) :
   Calls Tryz.prog 79 #[.pointer (some ⟨c, 0, none⟩)] w (DrawPostC c a len cap w) := by
 have hcb := curB_of hc
 have hcw : c < w.heap.size := hc.lt
 have P0 : Hid (Below w.heap.size w (w.alloc (.cells #[.slice none 0 0, .slice none 0 0, .slice none 0 0, .int .i64 0] 107)) ∧ Q4 (w.alloc (.cells #[.slice none 0 0, .slice none 0 0, .slice none 0 0, .int .i64 0] 107)) w.heap.size (.slice none 0 0) (.slice none 0 0) (.slice none 0 0) (.int .i64 0)) := ⟨(Below.refl _ _).alloc (Nat.le_refl _) _, q4_new _ _ _ _ _ _⟩
 have HAA : Hid DrawsActs := HA
 clear HA
 go_enter Tryz.func79, Tryz.ntmps79
 go_upto_region 1 with fail
 generalize w.alloc (.cells #[.slice none 0 0, .slice none 0 0, .slice none 0 0, .int .i64 0] 107) = W0 at P0 ⊢
 have HA0 : Hid (At c a len cap W0) := at_belowB hc hcb P0.out.1
 go_wp2_with fail
 refine (l18New c a len cap _ hl HA0.out).mono ?_
 rintro e w1 ⟨R, rfl, hR, hA1, hF1⟩
 have hlt0 : w.heap.size < W0.heap.size := P0.out.2.lt
 obtain ⟨co, cc, lc, hcv, _⟩ := hR.coins
 have HV : Hid (roV R = .agg #[.slice none 0 0, .slice co lc.length cc, .slice (some ⟨R.gh, 0, none⟩) 4 R.hc, .int .i64 R.bad]) := by show _ = _; unfold roV; rw [hR.lv, hcv]
 have HQ1 : Hid (Q4 w1 w.heap.size (.slice none 0 0) (.slice none 0 0) (.slice none 0 0) (.int .i64 0)) := q4_fr P0.out.2 hF1 (by omega)
 have HN4 : Hid (Q4 (w1.alloc (.cells #[.slice none 0 0, .slice co lc.length cc, .slice (some ⟨R.gh, 0, none⟩) 4 R.hc, .int .i64 R.bad] 107)) w1.heap.size (.slice none 0 0) (.slice co lc.length cc) (.slice (some ⟨R.gh, 0, none⟩) 4 R.hc) (.int .i64 R.bad) ∧ Below w1.heap.size w1 (w1.alloc (.cells #[.slice none 0 0, .slice co lc.length cc, .slice (some ⟨R.gh, 0, none⟩) 4 R.hc, .int .i64 R.bad] 107))) := ⟨q4_new _ _ _ _ _ _, (Below.refl _ _).alloc (Nat.le_refl _) _⟩
 rw [HV.out]
 go_upto_region 2 with fail
 have hW01 : W0.heap.size ≤ w1.heap.size := hF1.size
 have hgl1 : R.gh < w1.heap.size := (hR.parts.hands 0 (by omega)).lt
 have hw12 : w1.heap.size < (w1.alloc (.cells #[.slice none 0 0, .slice co lc.length cc, .slice (some ⟨R.gh, 0, none⟩) 4 R.hc, .int .i64 R.bad] 107)).heap.size := HN4.out.1.lt
 generalize w1.alloc (.cells #[.slice none 0 0, .slice co lc.length cc, .slice (some ⟨R.gh, 0, none⟩) 4 R.hc, .int .i64 R.bad] 107) = W2 at HN4 hw12 ⊢
 have hR2 : NewR W0.heap.size W2 R := newR_fr hR (Fr.of_below HN4.out.2 (fun _ => False)) (fun h => h) (fun _ _ h => h)
 have HA2 : Hid (At c a len cap W2) := at_belowB hA1 hcb (HN4.out.2.mono (by omega))
 obtain ⟨_, s0, s1, s2, s3, g0, _, _, _⟩ := HN4.out.1
 go_wp2_with fail
 have hcall := HAA.out c a len cap W0.heap.size R 50 W2 hl (by omega) (by omega) HA2.out hR2 (by omega)
 rw [HV.out] at hcall
 refine hcall.mono ?_
 rintro e w3 ⟨v, As, rfl, hAs, hAl, hA3, hF3⟩
 obtain ⟨g, gc, hv, hWg, hgl⟩ := acts_shape hAs
 subst hv
 have hf13 : Fr (fun x => x = c) w1 w3 := (Fr.of_below HN4.out.2 _).trans hF3 (fun _ hx _ => hx)
 have HS3 : Hid (PlSt c a len cap w w3 w1.heap.size g (.slice (some ⟨g, 0, none⟩) As.length gc) As R) := by
   have q3 := q4_fr HN4.out.1 hF3 (show ¬ w1.heap.size = c by omega)
   have hp3 : Parts (w.heap.size + 1) w3 R := parts_base (parts_fr hR2.parts hF3 (by have := hR2.parts.gB; omega) (fun y hy => by rw [hR.lv] at hy; simp [Value.ownBlock] at hy)) (by omega)
   have hgB := hR2.parts.gB
   refine ⟨hA3, ((Fr.of_below P0.out.1 _).trans hF1 (fun _ hx _ => hx)).trans hf13 (fun _ hx _ => hx), ⟨q3.lt, by omega, by rw [hR.lv]; exact q3.c0, by rw [hcv]; exact q3.c1, q3.c2, q3.c3, q3.f0, hp3, by omega, by rw [hR.lv]; simp [Value.ownBlock]⟩, own_baseT hAs.own (by omega), rfl, by omega, by omega, by rw [hR.lv]; simp [Value.ownBlock], q4_fr HQ1.out hf13 (by omega), by omega, ⟨co, _, cc, hcv⟩⟩
 have HSH : Hid (Short As) := hAs.sh
 have HC3 : Hid (CoIn (w.heap.size + 1) w3 w1.heap.size R) := by
   refine ⟨coinsAt_fr hR2.coins hF3 (fun x hx e => by have := hR2.cB x hx; omega), fun x hx => ⟨?_, fun e => by subst e; exact hR2.cg hx, by rw [hR.lv]; simp [Value.ownBlock], by have := hR2.cB x hx; omega, ?_⟩⟩
   · have := coins_lt hR.coins x hx; omega
   · have h1 := coins_lt hR.coins x hx
     have h2 := hf13.size
     omega
 clear hAs hA3 hF3 hf13 hcall hR2 HA2 hR HN4 s0 s1 s2 s3 g0 hA1 hF1 HQ1 HV hcv
 generalize w1.heap.size = pr at HS3 HC3 ⊢
 go_wp2_with fail
 go_loopw [5] (fun i wr => ∃ (j : Nat) (R' : Ro), j ≤ As.length ∧ i = .int .i64 j ∧ Hid (PlSt c a len cap w wr pr g (.slice (some ⟨g, 0, none⟩) As.length gc) As R') ∧ Hid (CoIn (w.heap.size + 1) wr pr R')) (fun i _ => As.length - (intOf i).toNat)
 case atStart => exact ⟨0, R, by omega, rfl, HS3.out, HC3.out⟩
 case round =>
   obtain ⟨j, R', hj, rfl, HS, HC⟩ := hrel
   by_cases hlt : j < As.length
   · have hji : (j : Int) < (As.length : Int) := by omega
     obtain ⟨e0, e1, e2, e3, e4, e5⟩ := acts_cell HS.out.acts j hlt
     have hsh := short_at HSH.out j
     generalize As.getD j zeroA = x at e0 e1 e2 e3 e4 e5 hsh
     go_wp2_with fail
     refine (l18Do (w.heap.size + 1) pr R' x _ HS.out.ro (by omega)).mono ?_
     intro e w4 hd
     obtain ⟨b, R2, rfl, h1, h2, h3, h4, h5, h6, h7, h9, h8⟩ := pl_stepC HS.out hcb HC.out hd
     have HC4 : Hid (CoIn (w.heap.size + 1) w4 pr R2) := h9
     have HS4 : Hid (PlSt c a len cap w w4 pr g (.slice (some ⟨g, 0, none⟩) As.length gc) As R2) := ⟨h1, h2, h3, h4, HS.out.gv, HS.out.n1, h5, h6, h8, HS.out.gB, by rw [h7]; exact HS.out.sv⟩
     clear hd h1 h2 h3 h4 h5 h6 h7 h8 h9 HS HC
     go_wp2
     go_roundw
     case rel => exact ⟨j + 1, R2, by omega, by go_num, HS4, HC4⟩
     case measure => simp [intOf]; omega
   · obtain rfl : j = As.length := by omega
     have hjj : ¬ (As.length : Int) < (As.length : Int) := by omega
     obtain ⟨co', n', cc', hcv'⟩ := HS.out.sv
     obtain ⟨ao', cap', hlv', _⟩ := own_lace HS.out.ro.parts.own
     have HVR : Hid (roV R' = .agg #[.slice ao' R'.L.length cap', .slice co' n' cc', .slice (some ⟨R'.gh, 0, none⟩) 4 R'.hc, .int .i64 R'.bad]) := by show _ = _; unfold roV; rw [hlv', hcv']
     have HE : Hid (DrawPostC c a len cap w (.returned (.agg #[.slice ao' R'.L.length cap', .slice co' n' cc', .slice (some ⟨R'.gh, 0, none⟩) 4 R'.hc, .int .i64 R'.bad])) (qset wr w.heap.size (.slice ao' R'.L.length cap') (.slice co' n' cc') (.slice (some ⟨R'.gh, 0, none⟩) 4 R'.hc) (.int .i64 R'.bad))) := by
       have hq := qset_fr wr w.heap.size (.slice ao' R'.L.length cap') (.slice co' n' cc') (.slice (some ⟨R'.gh, 0, none⟩) 4 R'.hc) (.int .i64 R'.bad)
       have hgB := HS.out.ro.parts.gB
       refine ⟨R', by rw [HVR.out], parts_base (parts_fr HS.out.ro.parts hq (fun e => by have e' : R'.gh = w.heap.size := e; omega) (fun y hy e => by have := (World.ownsRow.lt HS.out.ro.parts.own y hy).1; omega)) (Nat.le_succ _), at_belowB HS.out.at' hcb (hq.toBelow HS.out.fr.size (fun x hx => by omega)), HS.out.fr.trans hq (fun x hx hl' => by omega), ⟨coinsAt_fr HC.out.at' hq (fun x hx e => by have := (HC.out.ne x hx).2.2.2.1; have e' : x = w.heap.size := e; omega), (fun e => (HC.out.ne _ e).2.1 rfl), fun x hx => (HC.out.ne x hx).2.2.1⟩, fun x hx => by have := (HC.out.ne x hx).2.2.2.1; omega⟩
     have HQP : Hid _ := q4_put HS.out.res (.slice ao' R'.L.length cap') (.slice co' n' cc') (.slice (some ⟨R'.gh, 0, none⟩) 4 R'.hc) (.int .i64 R'.bad)
     obtain ⟨_, r0, r1, r2, r3, f0, f1, f2, f3⟩ := HS.out.res
     have t0 := HS.out.ro.c0
     have t1 := HS.out.ro.c1
     have t2 := HS.out.ro.c2
     have t3 := HS.out.ro.c3
     rw [hlv'] at t0
     rw [hcv'] at t1
     clear hlv' hcv' HVR HS HC
     go_wp2
     obtain ⟨_, y0, y1, y2, y3, _, _, _, _⟩ := HQP.out
     unfold qset at y0 y1 y2 y3
     exact bodyPost_ret (v := .agg #[.slice ao' R'.L.length cap', .slice co' n' cc', .slice (some ⟨R'.gh, 0, none⟩) 4 R'.hc, .int .i64 R'.bad]) (by simp [results, Tryz.results79, go_sem, y0, y1, y2, y3]) rfl HE.out
end Rm
namespace Db
open Kn (K okK)
open Bit (bit withB)
open Lc (at' RdK WordsOk laceB setB)
open Sg (isB bel belows)
def dblN (L : List K) (i j : Nat) : Bool := decide ((at' L i).hand = (at' L j).hand) && (!bit (bel L i) j && !bit (bel L j) i)
def dblS (L : List K) (i : Nat) : Nat → Int
 | 0 => 0
 | n + 1 => if dblN L i n then withB (dblS L i n) n else dblS L i n
def doublesI (L : List K) (a : Int) : Int := if isB L a then dblS L a.toNat L.length else -1
theorem dblS_bd (L : List K) (i n : Nat) (hn : n ≤ 60) : 0 ≤ dblS L i n ∧ dblS L i n < 1152921504606846976 := by
 induction n with
 | zero => exact ⟨Int.le_refl 0, show (0 : Int) < 1152921504606846976 by decide⟩
 | succ n ih =>
   have ih := ih (by omega)
   unfold dblS
   split
   · exact Bit.withB_bd _ ih.1 ih.2 n (by omega)
   · exact ih
theorem bit_dblS (L : List K) (i n : Nat) (hn : n ≤ 60) (j : Nat) : bit (dblS L i n) j = (decide (j < n) && dblN L i j) := by
 induction n with
 | zero => unfold dblS; rw [Lc.bit_zero]; simp
 | succ n ih =>
   have ih := ih (by omega)
   have hb := dblS_bd L i n (by omega)
   unfold dblS
   cases hd : dblN L i n
   · rw [if_neg (by simp), ih]
     by_cases e : j = n
     · subst e; simp [hd]
     · rw [show decide (j < n + 1) = decide (j < n) from by rw [Bool.eq_iff_iff]; simp; omega]
   · rw [if_pos rfl, Bit.bit_withB _ hb.1, ih]
     by_cases e : j = n
     · subst e; simp [hd]
     · rw [show decide (j < n + 1) = decide (j < n) from by rw [Bool.eq_iff_iff]; simp; omega]; simp [e]
theorem bel_hi {L : List K} (hl : laceB L = true) {i j : Nat} (hi : i < L.length) (hj : i < j) : bit (bel L i) j = false := by
 rw [Bool.eq_false_iff]
 intro h
 have := Sg.reach_le hl hi ((Sg.bel_reach hl i hi j).1 h)
 omega
theorem bel_self {L : List K} (hl : laceB L = true) {i : Nat} (hi : i < L.length) : bit (bel L i) i = true := (Sg.bel_reach hl i hi i).2 (.self _)
theorem dbl_n {L : List K} (hl : laceB L = true) {i j : Nat} (hi : i < L.length) (hj : j < L.length) : dblB L (belows L L.length) i j = dblN L i j := by
 unfold dblB dblN pairB
 rw [Sg.belows_get L L.length i hi, Sg.belows_get L L.length j hj]
 by_cases h1 : j < i
 · rw [if_pos h1, bel_hi hl hj h1]; simp
 · by_cases h2 : i < j
   · rw [if_neg h1, if_pos h2, bel_hi hl hi h2]
     rw [show decide ((at' L j).hand = (at' L i).hand) = decide ((at' L i).hand = (at' L j).hand) from by rw [Bool.eq_iff_iff]; simp [eq_comm]]
     simp
   · obtain rfl : i = j := by omega
     rw [if_neg h1, if_neg h2, bel_self hl hi]; simp
theorem dbl_bit {L : List K} (hl : laceB L = true) {D : Nat → Int} (h : Dbl L (belows L L.length) L.length 0 D) {i : Nat} (hi : i < L.length) (j : Nat) : bit (D i) j = (decide (j < L.length) && dblN L i j) := by
 rw [(h i hi).2 j]
 by_cases hj : j < L.length
 · rw [dbl_n hl hi hj]
   have : doneB L.length 0 i j = true := by unfold doneB; simp [hi, hj]
   rw [this]; simp [hj]
 · have : doneB L.length 0 i j = false := by unfold doneB; simp [hj]
   rw [this]; simp [hj]
theorem dbl_eq {L : List K} (hl : laceB L = true) {D : Nat → Int} (h : Dbl L (belows L L.length) L.length 0 D) {i : Nat} (hi : i < L.length) : D i = dblS L i L.length := by
 have h60 := ((Lc.lace_iff L).1 hl).1
 exact Lc.eq_of_bits _ _ (h i hi).1.1 (dblS_bd L i _ h60).1 fun j => by rw [dbl_bit hl h hi j, bit_dblS L i _ h60]
theorem table (g off cap : Nat) (L : List K) (w : World) (hl : laceB L = true) (hr : RdK w (some ⟨g, off, none⟩) L) :
   Calls Tryz.prog 43 #[.slice (some ⟨g, off, none⟩) L.length cap] w fun e w' => ∃ bo bc, e = .returned (.slice bo L.length bc) ∧ Below w.heap.size w w' ∧
     Calls Tryz.prog 78 #[.slice (some ⟨g, off, none⟩) L.length cap, .slice bo L.length bc] w' fun e2 w2 => ∃ D, e2 = .returned (.slice (some ⟨w'.heap.size, 0, none⟩) L.length L.length) ∧ RowI w2 w'.heap.size L.length D ∧ Dbl L (belows L L.length) L.length 0 D ∧ Below w'.heap.size w' w2 := by
 have h60 := ((Lc.lace_iff L).1 hl).1
 refine (Sg.l4All (some ⟨g, off, none⟩) cap L w h60 (Sg.frm_lace hl) hr).mono ?_
 rintro e w1 ⟨bo, bc, rfl, hown, hb1⟩
 have hbl := Sg.belows_len L L.length
 refine ⟨bo, bc, by rw [hbl], hb1, ?_⟩
 have h5 := l5All (some ⟨g, off, none⟩) cap L bo bc (belows L L.length) w1 h60 hbl (Sg.belows_in L L.length h60) (hr.below hb1) (Lst.own_rd hown) (fun g' e => by subst e; exact (World.ownsRow.lt hown g' rfl).2)
 rw [hbl] at h5
 exact h5
set_option maxHeartbeats 1600000 in
theorem specDoublesOf (g off cap : Nat) (L : List K) (a : Int) (w : World) (hcap : L.length ≤ cap) (hw : WordsOk L) (hr : RdK w (some ⟨g, off, none⟩) L) :
   Calls Tryz.prog 34 #[.slice (some ⟨g, off, none⟩) L.length cap, .int .i64 a] w fun e w' => e = .returned (.int .i64 (doublesI L a)) ∧ Below w.heap.size w w' := by
 go_enter Tryz.func34, Tryz.ntmps34
 go_wp2_with fail
 refine (Sg.l4Is g off cap L a _ hcap hw hr).mono ?_
 rintro e w1 ⟨rfl, hb1⟩
 have hr1 := hr.below hb1
 cases his : isB L a
 · have HT : Hid (doublesI L a = -1) := by show _ = _; unfold doublesI; rw [his]; rfl
   clear his
   go_wp2
   go_ret
   exact ⟨by rw [HT.out]; rfl, hb1⟩
 · have HT : Hid (doublesI L a = dblS L a.toNat L.length) := by show _ = _; unfold doublesI; rw [his]; rfl
   obtain ⟨h0, h1, hlc⟩ := Sg.isB_parts his
   clear his
   obtain ⟨p, rfl⟩ := Int.eq_ofNat_of_zero_le h0
   have hp : p < L.length := by omega
   rw [Int.toNat_natCast] at HT
   have HLC : Hid (laceB L = true) := hlc
   clear hlc
   go_wp2_with fail
   refine (table g off cap L _ HLC.out hr1).mono ?_
   rintro e w2 ⟨bo, bc, rfl, hb2, h5⟩
   have hB2 := hb1.trans (hb2.mono hb1.size)
   clear hb1 hb2 hr1 hr
   go_wp2_with fail
   refine h5.mono ?_
   rintro e w3 ⟨D, rfl, hrow, hD, hb3⟩
   have hB3 := hB2.trans (hb3.mono hB2.size)
   have cp := hrow.rd p hp
   rw [dbl_eq HLC.out hD hp] at cp
   clear hb3 hB2 hrow hD h5
   go_wp2
   go_ret
   exact ⟨by rw [HT.out]; rfl, hB3⟩
end Db
namespace Nd
open Kn (K okK)
open Bit (bit withB memTo)
open Lc (at' laceB setB)
open Sg (isB bel)
open Db (dblN dblS doublesI)
def nodN (L : List K) (a b : Nat) : Bool := bit (bel L a) b && (bits .and .i64 (bel L a) (dblS L b L.length) == 0)
def nodS (L : List K) (b : Nat) : Nat → Int
 | 0 => 0
 | n + 1 => if nodN L n b then withB (nodS L b n) n else nodS L b n
end Nd
namespace Sl
open Kn (K okK)
open Bit (bit withB memTo)
open Lc (at' laceB setB handsN hasHand)
open Sg (isB bel)
open Nd (nodN nodS)
theorem and_bd (a b : Int) (h0 : 0 ≤ a) (h1 : a < 1152921504606846976) (h2 : 0 ≤ b) (h3 : b < 1152921504606846976) : 0 ≤ bits .and .i64 a b ∧ bits .and .i64 a b < 1152921504606846976 := by
 rw [Lc.i64_and a b h0 (by omega) h2 (by omega)]
 have := Nat.and_le_left (n := a.toNat) (m := b.toNat)
 omega
theorem bit_and (a b : Int) (h1 : 0 ≤ a) (h2 : a < 1152921504606846976) (h3 : 0 ≤ b) (h4 : b < 1152921504606846976) (i : Nat) : bit (bits .and .i64 a b) i = (bit a i && bit b i) := by
 rw [Lc.i64_and a b h1 (by omega) h3 (by omega), Bit.bit_testBit _ (by omega), Int.toNat_natCast, Nat.testBit_and, ← Bit.bit_testBit _ h1, ← Bit.bit_testBit _ h3]
def nodAt (L : List K) (a b : Nat) : Int := bits .and .i64 (bel L a) (nodS L b L.length)
def sealN (L : List K) (a b : Nat) : Bool := decide (3 ≤ handsN L (nodAt L a b))
def sealS (L : List K) (b : Nat) : Nat → Int
 | 0 => 0
 | n + 1 => if sealN L n b then withB (sealS L b n) n else sealS L b n
theorem has_mono {L : List K} {s t : Int} (h : ∀ i, i < L.length → bit s i = true → bit t i = true) (k : Int) (hs : hasHand L s k = true) : hasHand L t k = true := by
 obtain ⟨i, hi, hb, he⟩ := (Lc.hasHand_iff L s k).1 hs
 exact (Lc.hasHand_iff L t k).2 ⟨i, hi, h i hi hb, he⟩
theorem if_mono {a b : Bool} (h : a = true → b = true) : (if a = true then (1 : Int) else 0) ≤ if b = true then 1 else 0 := by
 cases a
 · rw [if_neg (by simp)]; split <;> omega
 · rw [if_pos rfl, if_pos (h rfl)]; exact Int.le_refl 1
theorem hands_mono {L : List K} {s t : Int} (h : ∀ i, i < L.length → bit s i = true → bit t i = true) : handsN L s ≤ handsN L t := by
 have q := fun k => if_mono (has_mono h k)
 have h0 := q 0
 have h1 := q 1
 have h2 := q 2
 have h3 := q 3
 unfold Lc.handsN
 omega
theorem hands_zero {L : List K} {s : Int} (h : ∀ i, i < L.length → bit s i = false) : handsN L s = 0 := by
 have q : ∀ k, hasHand L s k = false := fun k => by
   rw [Bool.eq_false_iff]
   intro hs
   obtain ⟨i, hi, hb, _⟩ := (Lc.hasHand_iff L s k).1 hs
   rw [h i hi] at hb; exact Bool.noConfusion hb
 unfold Lc.handsN
 rw [q 0, q 1, q 2, q 3]; rfl
end Sl
namespace Ag
open Kn (K okK)
open Bit (bit withB memTo)
open Lc (at' laceB setB handsN hasHand roundS)
open Sg (isB bel)
open Db (dblN)
open Nd (nodN nodS)
open Sl (sealN sealS nodAt)
theorem thread_round {L : List K} (hl : laceB L = true) {i m : Nat} (hi : i < L.length) (hb : bit (at' L i).frm m = true) : (at' L m).round < (at' L i).round := by
 have hm := Sg.thread_lt hl hi hb
 have hc := Lc.lace_upTo hl i hi
 simp only [Lc.canB, Bool.and_eq_true] at hc
 have hle := (Lc.lesser_iff (L.take i) (at' L i).frm (at' L i).round (L.take i).length).1 hc.2.2.1 m (by simp; omega) hb
 rwa [Lc.at_take L i m hm] at hle
theorem reach_round {L : List K} (hl : laceB L = true) {i j : Nat} (hi : i < L.length) (h : Sg.Reach L i j) : j = i ∨ (at' L j).round < (at' L i).round := by
 induction h with
 | self => exact .inl rfl
 | @step i m j hb hr ih =>
   have hm := Sg.thread_lt hl hi hb
   have hr1 := thread_round hl hi hb
   rcases ih (by omega) with rfl | h
   · exact .inr hr1
   · exact .inr (by omega)
theorem sees_round {L : List K} (hl : laceB L = true) {i j : Nat} (hi : i < L.length) (h : bit (bel L i) j = true) (hne : j ≠ i) : (at' L j).round < (at' L i).round := by
 rcases reach_round hl hi ((Sg.bel_reach hl i hi j).1 h) with e | e
 · exact absurd e hne
 · exact e
theorem bit_round (L : List K) (s r : Int) (h60 : L.length ≤ 60) (i : Nat) : bit (roundS L s r) i = (decide (i < L.length) && (bit s i && decide ((at' L i).round = r))) := Lc.bit_among _ L s L.length h60 i
theorem hands_some {L : List K} {s : Int} (h : 3 ≤ handsN L s) : ∃ i, i < L.length ∧ bit s i = true := by
 apply Classical.byContradiction
 intro hn
 have := Sl.hands_zero (L := L) (s := s) fun i hi => by
   rw [Bool.eq_false_iff]; intro hb; exact hn ⟨i, hi, hb⟩
 omega
structure Good (L : List K) (bad : Int) : Prop where
 lace : laceB L = true
 one : ∀ i j, i < L.length → j < L.length → (at' L i).hand = (at' L j).hand → (at' L i).hand ≠ bad → bit (bel L i) j = true ∨ bit (bel L j) i = true
theorem Good.len {L : List K} {bad : Int} (h : Good L bad) : L.length ≤ 60 := ((Lc.lace_iff L).1 h.lace).1
theorem round_bd {L : List K} (hl : laceB L = true) {i : Nat} (hi : i < L.length) : 0 ≤ (at' L i).round ∧ (at' L i).round ≤ 19 := Lc.ok_round (Lc.can_ok (Lc.lace_upTo hl i hi))
end Ag
namespace Ch
open Kn (K okK)
open Bit (bit withB memTo)
open Lc (at' laceB setB handsN hasHand roundS)
open Sg (isB bel)
open Nd (nodN nodS)
open Sl (sealN sealS nodAt)
end Ch
namespace Tl
open Kn (K okK)
open Bit (bit withB memTo)
open Lc (at' laceB setB handsN hasHand roundS)
open Sg (isB bel)
open Db (dblN)
open Nd (nodN nodS)
open Sl (sealN sealS nodAt)
end Tl
namespace Nd
open Kn (K okK)
open Bit (bit withB)
open Lc (at' RdK WordsOk laceB setB)
open Sg (isB bel belows)
open Db (RowI Dbl dblS)
end Nd
namespace Sl
open Kn (K okK)
open Bit (bit withB)
open Lc (at' RdK WordsOk laceB setB Four ofH handsN)
open Sg (isB bel belows)
open Db (RowI)
open Nd (nodS)
end Sl
namespace Fm
open Kn (K okK)
open Bit (bit withB)
open Lc (at' RdK WordsOk laceB setB handsN roundS)
open Sg (isB bel belows NumsPost)
open Db (RowI)
open Sl (sealS sealN)
open Rm (coinsB)
theorem row_below {base : Nat} {e : TypeId} {size : Nat} {w w' : World} {v : Value} {n : Nat} {xs : List Value} (h : w.ownsRow base e size v n xs) (hb : Below w.heap.size w w') : w'.ownsRow base e size v n xs := by
 have hlt := World.ownsRow.lt h
 obtain ⟨h1, h2⟩ := h
 refine ⟨h1, ?_⟩
 rcases h2 with h2 | ⟨g, cap, cur, rfl, hB, hg, rest⟩
 · exact .inl h2
 · exact .inr ⟨g, cap, cur, rfl, hB, (hb.block g (hlt g rfl).2).trans hg, rest⟩
end Fm
namespace Ch
open Kn (K okK)
open Bit (bit withB)
open Lc (at' RdK WordsOk laceB)
open Sg (isB bel belows NumsPost)
open Db (RowI)
open Sl (sealS sealN)
open Rm (coinsB)
structure TabsL (w : World) (L : List K) (bb h : Nat) : Prop where
 bel : ∀ i, i < L.length → w.cell? ⟨bb, i, none⟩ = some (.int .i64 (Sg.bel L i))
 sl : ∀ i, i < L.length → w.cell? ⟨h, i, none⟩ = some (.int .i64 (sealS L i L.length))
 lb : bb < w.heap.size
 lh : h < w.heap.size
theorem TabsL.below {w w' : World} {L : List K} {bb h : Nat} (t : TabsL w L bb h) (hb : Below w.heap.size w w') : TabsL w' L bb h :=
 ⟨fun i hi => (hb.cell (p := ⟨bb, i, none⟩) t.lb).trans (t.bel i hi), fun i hi => (hb.cell (p := ⟨h, i, none⟩) t.lh).trans (t.sl i hi), Nat.lt_of_lt_of_le t.lb hb.size, Nat.lt_of_lt_of_le t.lh hb.size⟩
end Ch
namespace Rm
open Kn (K okK)
open Bit (bit memTo)
open Lc (at' RdK laceB flat OwnK cellsOf)
open Cur (At)
structure LcSt (c : Nat) (a : Option Addr) (len cap : Nat) (w wr : World) (v : Value) (L : List K) (ao : Option Addr) (cc : Nat) (C : List Int) : Prop where
 at' : At c a len cap wr
 gr : w.grownBy wr (some c)
 lo : OwnK 36 w.heap.size wr v L
 l61 : L.length ≤ 61
 wd : ∀ k ∈ L, k.word.size ≤ 13
 co : Memb.Own w.heap.size wr ao cc C
 c7 : C.length ≤ 7
theorem LcSt.below {c : Nat} {a : Option Addr} {len cap : Nat} {w wr w1 : World} {v : Value} {L : List K} {ao : Option Addr} {cc : Nat} {C : List Int} (s : LcSt c a len cap w wr v L ao cc C) (hb : Below wr.heap.size wr w1) : LcSt c a len cap w w1 v L ao cc C :=
 ⟨s.at'.below hb, Cur.grownBy_trans s.gr ⟨hb.os, hb.tape, hb.output, hb.size, fun i hi _ => hb.block i hi⟩, Lc.ownK_below s.lo hb, s.l61, s.wd, Lst.own_below s.co hb, s.c7⟩
end Rm
end Go.Proofs.YtfjmenhofllchaaGreatDoor
namespace Go.Proofs.YtfjmenhofllchaaGreatDoor
open Go.RowKit
set_option maxRecDepth 100000
set_option linter.unusedVariables false
namespace Rm
open Kn (K okK)
open Bit (bit withB)
open Lc (at' RdK laceB WordsOk)
open Sg (bel belows closedTo)
def hokB (L : List K) (h : Hd) : Bool :=
 Kn.in3 h.who && (decide (0 ≤ h.has) && (decide (0 ≤ h.kept) && (decide (h.has / 2 ^ L.length = 0) && ((bits .andNot .i64 h.kept h.has == 0) && (decide (lastTo L h.who (bits .andNot .i64 h.has h.kept) L.length < 0) &&
   (closedTo (belows L L.length) h.has L.length && (closedTo (belows L L.length) h.kept L.length && (h.last == lastTo L h.who h.kept L.length))))))))
def handOkB (L : List K) (h : Hd) : Bool := laceB L && hokB L h
structure H64 (h : Hd) : Prop where
 h0 : -9223372036854775808 ≤ h.has
 h1 : h.has ≤ 9223372036854775807
 k0 : -9223372036854775808 ≤ h.kept
 k1 : h.kept ≤ 9223372036854775807
theorem and_sub {a b : Int} (ha : 0 ≤ a) (hb0 : 0 ≤ b) (hb1 : b < 1152921504606846976) (ha1 : a ≤ 9223372036854775807) (h : (bits .andNot .i64 a b == 0) = true) : a < 1152921504606846976 := by
 have hs := (Sg.andNot_sub a b ha (by omega) hb0 (by omega)).1 h
 have hd : a / 2 ^ 60 = 0 := Lc.div_of_bits a 60 ha fun i hi => by
   rw [Bool.eq_false_iff]
   intro hbit
   have h2 := hs i hbit
   have hd2 : b / 2 ^ 60 = 0 := Int.ediv_eq_zero_of_lt hb0 (by simpa using hb1)
   have := Bit.bit_up b 60 (i - 60) hd2
   rw [show 60 + (i - 60) = i by omega, h2] at this
   exact Bool.noConfusion this
 have h3 := Int.emod_lt_of_pos a (show (0 : Int) < 2 ^ 60 by decide)
 have h4 := Int.emod_add_mul_ediv a (2 ^ 60)
 rw [hd, Int.mul_zero, Int.add_zero] at h4
 rw [h4] at h3
 simpa using h3
theorem div_lt60 {s : Int} {n : Nat} (h0 : 0 ≤ s) (hd : s / 2 ^ n = 0) (hn : n ≤ 60) : s < 1152921504606846976 := by
 have := Bit.div_zero_up s n (60 - n) hd
 rw [show n + (60 - n) = 60 by omega] at this
 omega
theorem hat_drewN2 {w : World} {g o : Nat} {h : Hd} (x : HAt w g o h) (n : Nat) : HAt (w.drewN n) g o h := ⟨x.lt, x.c0, x.c1, x.c2, x.c3, x.f0, x.f1, x.f2, x.f3⟩
theorem l4ClosedB (bo : Option Addr) (bc : Nat) (L : List K) (s : Int) (w : World) (hl : L.length ≤ 60) (h0 : 0 ≤ s) (h1 : s < 1152921504606846976) (hrd : Lst.Rd w bo (belows L L.length)) :
   Calls Tryz.prog 94 #[.slice bo L.length bc, .int .i64 s] w fun e w' => e = .returned (.bool (closedTo (belows L L.length) s L.length)) ∧ w = w' := by
 have := Sg.l4Closed bo bc (belows L L.length) s w (by rw [Sg.belows_len]; exact hl) h0 h1 hrd
 rw [Sg.belows_len] at this
 exact this
set_option maxHeartbeats 3200000 in
theorem l13Ok (ao : Option Addr) (cap : Nat) (L : List K) (bo : Option Addr) (bc : Nat) (h : Hd) (w : World) (hl : laceB L = true) (hr : RdK w ao L) (hrd : Lst.Rd w bo (belows L L.length)) (hbo : ∀ c, bo = some ⟨c, 0, none⟩ → c < w.heap.size) (hk : H64 h) :
   Calls Tryz.prog 49 #[.slice ao L.length cap, .slice bo L.length bc, .agg #[.int .i64 h.who, .int .i64 h.has, .int .i64 h.kept, .int .i64 h.last]] w fun e w' => e = .returned (.bool (hokB L h)) ∧ Below w.heap.size w w' := by
 have h60 := ((Lc.lace_iff L).1 hl).1
 obtain ⟨_, _, hk0, hk1⟩ := hk
 obtain ⟨who, has, kept, last⟩ := h
 dsimp only at hk0 hk1 ⊢
 have HD : Hid (hokB L ⟨who, has, kept, last⟩ = (Kn.in3 who && (decide (0 ≤ has) && (decide (0 ≤ kept) && (decide (has / 2 ^ L.length = 0) && ((bits .andNot .i64 kept has == 0) && (decide (lastTo L who (bits .andNot .i64 has kept) L.length < 0) &&
   (closedTo (belows L L.length) has L.length && (closedTo (belows L L.length) kept L.length && (last == lastTo L who kept L.length)))))))))) := rfl
 have HR : Hid (∀ W : World, Below w.heap.size w W → RdK W ao L ∧ Lst.Rd W bo (belows L L.length)) := fun W hW => ⟨hr.below hW, by
   rcases hrd with e | ⟨g, e, hc⟩
   · exact .inl e
   · exact .inr ⟨g, e, fun j hj => (hW.cell (p := ⟨g, j, none⟩) (hbo g e)).trans (hc j hj)⟩⟩
 have P0 : Hid (Below w.heap.size w (w.alloc (.cells #[.int .i64 who, .int .i64 has, .int .i64 kept, .int .i64 last] 26)) ∧ HAt (w.alloc (.cells #[.int .i64 who, .int .i64 has, .int .i64 kept, .int .i64 last] 26)) w.heap.size 0 ⟨who, has, kept, last⟩) := ⟨(Below.refl _ _).alloc (Nat.le_refl _) _, hat_new w ⟨who, has, kept, last⟩ _⟩
 clear hr hrd hbo hl
 cases h1 : Kn.in3 who
 · have H1 : Hid (Kn.in3 who = false) := h1
   have HT : Hid (hokB L ⟨who, has, kept, last⟩ = false) := by show _ = _; rw [HD.out]; rw [h1]; rfl
   clear HD HR h1
   go_enter Tryz.func49, Tryz.ntmps49
   go_wp2_with (first | (go_at_call 47; refine (Kn.l1In3 _ _).mono ?_; rintro e w' ⟨rfl, rfl⟩; rw [H1.out]) | fail)
   go_ret
   exact ⟨by rw [HT.out]; rfl, P0.out.1⟩
 have H1 : Hid (Kn.in3 who = true) := h1
 by_cases h2 : 0 ≤ has
 rotate_left
 · have h2' : has < 0 := by omega
   have HT : Hid (hokB L ⟨who, has, kept, last⟩ = false) := by show _ = _; rw [HD.out]; rw [decide_eq_false h2]; simp
   clear HD HR h1 h2
   go_enter Tryz.func49, Tryz.ntmps49
   go_wp2_with (first | (go_at_call 47; refine (Kn.l1In3 _ _).mono ?_; rintro e w' ⟨rfl, rfl⟩; rw [H1.out]) | fail)
   go_ret
   exact ⟨by rw [HT.out]; rfl, P0.out.1⟩
 by_cases h3 : 0 ≤ kept
 rotate_left
 · have h2' : ¬ has < 0 := by omega
   have h3' : kept < 0 := by omega
   have HT : Hid (hokB L ⟨who, has, kept, last⟩ = false) := by show _ = _; rw [HD.out]; rw [decide_eq_false h3]; simp
   clear HD HR h1 h2 h3
   go_enter Tryz.func49, Tryz.ntmps49
   go_wp2_with (first | (go_at_call 47; refine (Kn.l1In3 _ _).mono ?_; rintro e w' ⟨rfl, rfl⟩; rw [H1.out]) | fail)
   go_ret
   exact ⟨by rw [HT.out]; rfl, P0.out.1⟩
 by_cases h4 : has / 2 ^ L.length = 0
 rotate_left
 · have h2' : ¬ has < 0 := by omega
   have h3' : ¬ kept < 0 := by omega
   have h4' : (has / 2 ^ L.length == 0) = false := by simpa using h4
   have h4n : (has / 2 ^ L.length != 0) = true := by simpa using h4
   have HT : Hid (hokB L ⟨who, has, kept, last⟩ = false) := by show _ = _; rw [HD.out]; rw [decide_eq_false h4]; simp
   clear HD HR h1 h3 h4
   go_enter Tryz.func49, Tryz.ntmps49
   go_wp2_with (first | (go_at_call 47; refine (Kn.l1In3 _ _).mono ?_; rintro e w' ⟨rfl, rfl⟩; rw [H1.out]) | fail)
   go_ret
   exact ⟨by rw [HT.out]; rfl, P0.out.1⟩
 have hb := div_lt60 h2 h4 h60
 have h4' : (has / 2 ^ L.length != 0) = false := by simpa using h4
 cases h5 : (bits .andNot .i64 kept has == 0)
 · have h2' : ¬ has < 0 := by omega
   have h3' : ¬ kept < 0 := by omega
   have h5' : (bits .andNot .i64 kept has != 0) = true := by unfold bne; rw [h5]; rfl
   have HT : Hid (hokB L ⟨who, has, kept, last⟩ = false) := by show _ = _; rw [HD.out]; rw [h5]; simp
   clear HD HR h1 h3 h4 h5
   go_enter Tryz.func49, Tryz.ntmps49
   go_wp2_with (first | (go_at_call 47; refine (Kn.l1In3 _ _).mono ?_; rintro e w' ⟨rfl, rfl⟩; rw [H1.out]) | fail)
   go_ret
   exact ⟨by rw [HT.out]; rfl, P0.out.1⟩
 have hkb := and_sub h3 h2 hb hk1 h5
 have hab := andNot_bd has kept h2 hb
 have h5' : (bits .andNot .i64 kept has != 0) = false := by unfold bne; rw [h5]; rfl
 have HL6 : Hid (∀ W : World, Below w.heap.size w W → Calls Tryz.prog 91 #[.slice ao L.length cap, .int .i64 who, .int .i64 (bits .andNot .i64 has kept)] W fun e w' => e = .returned (.int .i64 (lastTo L who (bits .andNot .i64 has kept) L.length)) ∧ ∃ n, w' = W.drewN n) := fun W hW => l13Last ao cap L who _ W h60 (HR.out W hW).1 hab.1 hab.2
 have HL7 : Hid (∀ W : World, Below w.heap.size w W → Calls Tryz.prog 91 #[.slice ao L.length cap, .int .i64 who, .int .i64 kept] W fun e w' => e = .returned (.int .i64 (lastTo L who kept L.length)) ∧ ∃ n, w' = W.drewN n) := fun W hW => l13Last ao cap L who _ W h60 (HR.out W hW).1 h3 hkb
 have HC1 : Hid (∀ W : World, Below w.heap.size w W → Calls Tryz.prog 94 #[.slice bo L.length bc, .int .i64 has] W fun e w' => e = .returned (.bool (closedTo (belows L L.length) has L.length)) ∧ W = w') := fun W hW => l4ClosedB bo bc L has W h60 h2 hb (HR.out W hW).2
 have HC2 : Hid (∀ W : World, Below w.heap.size w W → Calls Tryz.prog 94 #[.slice bo L.length bc, .int .i64 kept] W fun e w' => e = .returned (.bool (closedTo (belows L L.length) kept L.length)) ∧ W = w') := fun W hW => l4ClosedB bo bc L kept W h60 h3 hkb (HR.out W hW).2
 have HD2 : Hid (hokB L ⟨who, has, kept, last⟩ = (decide (lastTo L who (bits .andNot .i64 has kept) L.length < 0) && (closedTo (belows L L.length) has L.length && (closedTo (belows L L.length) kept L.length && (last == lastTo L who kept L.length))))) := by
   show _ = _
   rw [HD.out, h1, h5, decide_eq_true h2, decide_eq_true h3, decide_eq_true h4]; rfl
 have h2' : ¬ has < 0 := by omega
 have h3' : ¬ kept < 0 := by omega
 clear HD HR h1 h3 h4 h5 hab
 generalize lastTo L who (bits .andNot .i64 has kept) L.length = la at HL6 HD2
 generalize lastTo L who kept L.length = lk at HL7 HD2
 generalize closedTo (belows L L.length) has L.length = c1 at HC1 HD2
 generalize closedTo (belows L L.length) kept L.length = c2 at HC2 HD2
 go_enter Tryz.func49, Tryz.ntmps49
 go_wp2_with (first | (go_at_call 47; refine (Kn.l1In3 _ _).mono ?_; rintro e w' ⟨rfl, rfl⟩; rw [H1.out]) | fail)
 refine (HL6.out _ P0.out.1).mono ?_
 rintro e W6 ⟨rfl, n6, hW6⟩
 have P6 : Hid (Below w.heap.size w W6 ∧ HAt W6 w.heap.size 0 ⟨who, has, kept, last⟩) := hW6 ▸ ⟨Lc.below_drewN' P0.out.1 _, hat_drewN2 P0.out.2 _⟩
 clear hW6 P0 HL6
 by_cases h6 : la < 0
 rotate_left
 · have h6' : 0 ≤ la := by omega
   have HT : Hid (hokB L ⟨who, has, kept, last⟩ = false) := by show _ = _; rw [HD2.out, decide_eq_false h6]; rfl
   clear HD2 HC1 HC2 HL7
   go_wp2
   go_ret
   exact ⟨by rw [HT.out]; rfl, P6.out.1⟩
 have h6' : ¬ 0 ≤ la := by omega
 have HD3 : Hid (hokB L ⟨who, has, kept, last⟩ = (c1 && (c2 && (last == lk)))) := by show _ = _; rw [HD2.out, decide_eq_true h6]; rfl
 clear HD2
 go_wp2_with fail
 obtain ⟨_, a0, a1, a2, a3, _, _, _, _⟩ := P6.out.2
 dsimp only at a0 a1 a2 a3
 simp only [Nat.zero_add] at a1 a2 a3
 cases c1
 · go_quiet (first
     | (go_at_call 94; exact (HC1.out _ (Lc.below_drewN' P6.out.1 _)).mono fun _ _ h => ⟨h.1, _, h.2.symm⟩))
   go_wp2
   go_ret
   exact ⟨by rw [HD3.out]; rfl, Lc.below_drewN' P6.out.1 _⟩
 · have HCC : Hid (∀ (W : World) (s : Int) (b : Bool), Below w.heap.size w W → ((s = has ∧ b = true) ∨ (s = kept ∧ b = c2)) → Calls Tryz.prog 94 #[.slice bo L.length bc, .int .i64 s] W fun e w' => e = .returned (.bool b) ∧ W = w') := fun W s b hW h => by
     rcases h with ⟨rfl, rfl⟩ | ⟨rfl, rfl⟩
     · exact HC1.out W hW
     · exact HC2.out W hW
   clear HC1 HC2
   cases c2
   · go_quiet (first
       | (go_at_call 94; exact (HCC.out _ _ _ (Lc.below_drewN' P6.out.1 _) (by first | exact .inl ⟨rfl, rfl⟩ | exact .inr ⟨rfl, rfl⟩)).mono fun _ _ h => ⟨h.1, _, h.2.symm⟩))
     go_wp2
     go_ret
     exact ⟨by rw [HD3.out]; rfl, Lc.below_drewN' P6.out.1 _⟩
   · go_quiet (first
       | (go_at_call 94; exact (HCC.out _ _ _ (Lc.below_drewN' P6.out.1 _) (by first | exact .inl ⟨rfl, rfl⟩ | exact .inr ⟨rfl, rfl⟩)).mono fun _ _ h => ⟨h.1, _, h.2.symm⟩)
       | (go_at_call 91; exact (HL7.out _ (Lc.below_drewN' P6.out.1 _)).mono fun _ _ h => ⟨h.1, h.2.elim fun _ hm => ⟨_, hm.trans (World.drewN_drewN ..)⟩⟩))
     go_wp2
     go_ret
     exact ⟨by rw [HD3.out]; rfl, Lc.below_drewN' P6.out.1 _⟩
end Rm
end Go.Proofs.YtfjmenhofllchaaGreatDoor
namespace Go.Proofs.YtfjmenhofllchaaGreatDoor
open Go.RowKit
set_option maxRecDepth 100000
set_option linter.unusedVariables false
namespace Rm
open Kn (K okK)
open Bit (bit withB)
open Lc (at' RdK laceB WordsOk)
open Sg (bel belows closedTo orB)
theorem cellsH {w : World} {b : Nat} {h : Hd} (x : HAt w b 0 h) : w.cell? ⟨b, 0, none⟩ = some (.int .i64 h.who) ∧ w.cell? ⟨b, 1, none⟩ = some (.int .i64 h.has) ∧ w.cell? ⟨b, 2, none⟩ = some (.int .i64 h.kept) ∧ w.cell? ⟨b, 3, none⟩ = some (.int .i64 h.last) := by
 obtain ⟨_, a0, a1, a2, a3, _, _, _, _⟩ := x
 simp only [Nat.zero_add] at a1 a2 a3
 exact ⟨a0, a1, a2, a3⟩
set_option maxHeartbeats 3200000 in
theorem specHandOk (g off cap : Nat) (L : List K) (h : Hd) (w : World) (hcap : L.length ≤ cap) (hw : WordsOk L) (hr : RdK w (some ⟨g, off, none⟩) L) (hk : H64 h) :
   Calls Tryz.prog 16 #[.slice (some ⟨g, off, none⟩) L.length cap, .agg #[.int .i64 h.who, .int .i64 h.has, .int .i64 h.kept, .int .i64 h.last]] w fun e w' => e = .returned (.bool (handOkB L h)) ∧ Below w.heap.size w w' := by
 have P0 : Hid (Below w.heap.size w (w.alloc (.cells #[.int .i64 h.who, .int .i64 h.has, .int .i64 h.kept, .int .i64 h.last] 26)) ∧ HAt (w.alloc (.cells #[.int .i64 h.who, .int .i64 h.has, .int .i64 h.kept, .int .i64 h.last] 26)) w.heap.size 0 h) := ⟨(Below.refl _ _).alloc (Nat.le_refl _) _, hat_new w h _⟩
 go_enter Tryz.func16, Tryz.ntmps16
 go_wp2_with fail
 generalize w.alloc (.cells #[.int .i64 h.who, .int .i64 h.has, .int .i64 h.kept, .int .i64 h.last] 26) = V at P0 ⊢
 have HB0 : Hid (Below w.heap.size w V) := P0.out.1
 have HH0 : Hid (HAt V w.heap.size 0 h) := P0.out.2
 have HR0 : Hid (RdK V (some ⟨g, off, none⟩) L) := hr.below P0.out.1
 have hbl : w.heap.size < V.heap.size := HH0.out.lt
 clear P0 hr
 generalize w.heap.size = hb at HH0 hbl ⊢
 have HLO : Hid (∀ W : World, Below V.heap.size V W → Calls Tryz.prog 29 #[.slice (some ⟨g, off, none⟩) L.length cap] W fun e w' => e = .returned (.bool (laceB L)) ∧ Below V.heap.size V w') := fun W hW => (Lc.specLaceOk g off cap L W hcap hw (HR0.out.below hW)).mono fun _ _ q => ⟨q.1, hW.trans (q.2.mono hW.size)⟩
 cases hl : laceB L
 · have HT : Hid (handOkB L h = false) := by show _ = _; unfold handOkB; rw [hl]; rfl
   rw [hl] at HLO
   clear hl
   obtain ⟨X, _, F, HF, HG⟩ := Fam.fam V
   refine Fam.region (F := F) (by kernel_rfl) (by kernel_rfl) (HG.out _ (Below.refl _ V).drew) ?_
   repeat (go_big_quiet_step (first
     | (go_at_call 29; exact (HLO.out _ (HF.out _)).mono fun _ _ q => ⟨q.1, HG.out _ q.2⟩)))
   refine wpQuiet_nil ?_
   intro w2 hw2
   obtain ⟨z, rfl⟩ := hw2
   have HB2 : Hid (Below V.heap.size V (F z)) := HF.out z
   go_wp2
   go_ret
   exact ⟨by rw [HT.out]; rfl, HB0.out.trans (HB2.out.mono HB0.out.size)⟩
 · have HT : Hid (handOkB L h = hokB L h) := by show _ = _; unfold handOkB; rw [hl]; rfl
   have h60 := ((Lc.lace_iff L).1 hl).1
   have HLC : Hid (laceB L = true) := hl
   rw [hl] at HLO
   have HAL : Hid (∀ W : World, Below V.heap.size V W → Calls Tryz.prog 43 #[.slice (some ⟨g, off, none⟩) L.length cap] W fun e w' => ∃ bo bc, e = .returned (.slice bo L.length bc) ∧ Lst.Rd w' bo (belows L L.length) ∧ (∀ c, bo = some ⟨c, 0, none⟩ → c < w'.heap.size) ∧ Below V.heap.size V w') := fun W hW => by
     refine (Sg.l4All (some ⟨g, off, none⟩) cap L W h60 (Sg.frm_lace HLC.out) (HR0.out.below hW)).mono ?_
     rintro e w1 ⟨bo, bc, rfl, hown, hb1⟩
     exact ⟨bo, bc, by rw [Sg.belows_len], Lst.own_rd hown, fun c e => by subst e; exact (World.ownsRow.lt hown c rfl).2, hW.trans (hb1.mono hW.size)⟩
   have HOK : Hid (∀ (W : World) (bo : Option Addr) (bc : Nat), Below V.heap.size V W → Lst.Rd W bo (belows L L.length) → (∀ c, bo = some ⟨c, 0, none⟩ → c < W.heap.size) → Calls Tryz.prog 49 #[.slice (some ⟨g, off, none⟩) L.length cap, .slice bo L.length bc, .agg #[.int .i64 h.who, .int .i64 h.has, .int .i64 h.kept, .int .i64 h.last]] W fun e w' => e = .returned (.bool (hokB L h)) ∧ Below V.heap.size V w') := fun W bo bc hW hR hB => (l13Ok (some ⟨g, off, none⟩) cap L bo bc h W HLC.out (HR0.out.below hW) hR hB hk).mono fun _ _ q => ⟨q.1, hW.trans (q.2.mono hW.size)⟩
   have HSB : Hid (∀ W : World, Below V.heap.size V W → W.cell? ⟨hb, 0, none⟩ = some (.int .i64 h.who) ∧ W.cell? ⟨hb, 1, none⟩ = some (.int .i64 h.has) ∧ W.cell? ⟨hb, 2, none⟩ = some (.int .i64 h.kept) ∧ W.cell? ⟨hb, 3, none⟩ = some (.int .i64 h.last)) := fun W hW => by
     have q := cellsH HH0.out
     exact ⟨(hW.cell (p := ⟨hb, 0, none⟩) hbl).trans q.1, (hW.cell (p := ⟨hb, 1, none⟩) hbl).trans q.2.1, (hW.cell (p := ⟨hb, 2, none⟩) hbl).trans q.2.2.1, (hW.cell (p := ⟨hb, 3, none⟩) hbl).trans q.2.2.2⟩
   clear hl
   generalize hokB L h = ok at HOK HT
   go_region_held3 (fun W => W.cell? ⟨hb, 0, none⟩ = some (.int .i64 h.who) ∧ W.cell? ⟨hb, 1, none⟩ = some (.int .i64 h.has) ∧ W.cell? ⟨hb, 2, none⟩ = some (.int .i64 h.kept) ∧ W.cell? ⟨hb, 3, none⟩ = some (.int .i64 h.last)) (first
     | exact HSB.out _ B3 | exact HSB.out _ B2 | exact HSB.out _ B1 | exact HSB.out _ (Below.refl _ _).drew | exact HSB.out _ (Below.refl _ _) | go_keep) (first
     | (go_at_call 49
        refine (HOK.out _ _ _ B2 R2 A2).mono ?_
        rintro e V3 ⟨rfl, B3⟩)
     | (go_at_call 43
        refine (HAL.out _ B1).mono ?_
        rintro e V2 ⟨bo, bc, rfl, R2, A2, B2⟩)
     | (go_at_call 29
        refine (HLO.out _ (by first | exact (Below.refl _ _).drew | exact Below.refl _ _)).mono ?_
        rintro e V1 ⟨rfl, B1⟩))
   all_goals go_wp2
   all_goals go_ret
   all_goals exact ⟨by rw [HT.out]; rfl, HB0.out.trans (B3.mono HB0.out.size)⟩
structure HzO (w W : World) (h z : Hd) : Prop where
 bel : Below w.heap.size w W
 hh : HAt W w.heap.size 0 h
 zz : HAt W (w.heap.size + 1) 0 z
theorem hzo_new (w : World) (h : Hd) (t : TypeId) : HzO w ((w.alloc (.cells #[.int .i64 h.who, .int .i64 h.has, .int .i64 h.kept, .int .i64 h.last] t)).alloc (.cells #[.int .i64 0, .int .i64 0, .int .i64 0, .int .i64 0] t)) h ⟨0, 0, 0, 0⟩ where
 bel := ((Below.refl _ w).alloc (Nat.le_refl _) _).alloc (by simp) _
 hh := hat_below (hat_new w h t) ((Below.refl _ _).alloc (Nat.le_refl _) _)
 zz := by
   have := hat_new (w.alloc (.cells #[.int .i64 h.who, .int .i64 h.has, .int .i64 h.kept, .int .i64 h.last] t)) ⟨0, 0, 0, 0⟩ t
   rw [World.size_alloc] at this
   exact this
theorem HzO.below {w W V : World} {h z : Hd} (x : HzO w W h z) (hb : Below W.heap.size W V) : HzO w V h z := ⟨x.bel.trans (hb.mono x.bel.size), hat_below x.hh hb, hat_below x.zz hb⟩
theorem HzO.put {w W : World} {h z : Hd} (x : HzO w W h z) (y : Hd) : ∃ V, V = ((((W.setCell ⟨w.heap.size + 1, 0, none⟩ (.int .i64 y.who)).setCell ⟨w.heap.size + 1, 1, none⟩ (.int .i64 y.has)).setCell ⟨w.heap.size + 1, 2, none⟩ (.int .i64 y.kept)).setCell ⟨w.heap.size + 1, 3, none⟩ (.int .i64 y.last)) ∧
   V.cell? ⟨w.heap.size + 1, 0, none⟩ = some (.int .i64 y.who) ∧ V.cell? ⟨w.heap.size + 1, 1, none⟩ = some (.int .i64 y.has) ∧ V.cell? ⟨w.heap.size + 1, 2, none⟩ = some (.int .i64 y.kept) ∧ V.cell? ⟨w.heap.size + 1, 3, none⟩ = some (.int .i64 y.last) ∧ Below w.heap.size w V := by
 have q := hput x.zz (.int .i64 y.who) (.int .i64 y.has) (.int .i64 y.kept) (.int .i64 y.last)
 refine ⟨_, rfl, q.1, q.2.1, q.2.2.1, q.2.2.2, ?_⟩
 exact (((x.bel.setCell (p := ⟨w.heap.size + 1, 0, none⟩) (by simp) _).setCell (p := ⟨w.heap.size + 1, 1, none⟩) (by simp) _).setCell (p := ⟨w.heap.size + 1, 2, none⟩) (by simp) _).setCell (p := ⟨w.heap.size + 1, 3, none⟩) (by simp) _
theorem hok_parts {L : List K} {h : Hd} (hk : H64 h) (hl : laceB L = true) (x : hokB L h = true) : 0 ≤ h.has ∧ h.has < 1152921504606846976 ∧ 0 ≤ h.kept ∧ h.kept < 1152921504606846976 := by
 unfold hokB at x
 simp only [Bool.and_eq_true, decide_eq_true_eq] at x
 have h60 := ((Lc.lace_iff L).1 hl).1
 have hb := div_lt60 x.2.1 x.2.2.2.1 h60
 exact ⟨x.2.1, hb, x.2.2.1, and_sub x.2.2.1 x.2.1 hb hk.k1 x.2.2.2.2.1⟩
end Rm
end Go.Proofs.YtfjmenhofllchaaGreatDoor
