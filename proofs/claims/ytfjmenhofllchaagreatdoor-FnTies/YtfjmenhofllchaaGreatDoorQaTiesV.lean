/-
 FnTies, over what the program's Ties, NextRound, Draft and HandOk must answer: what is tied is of the round that was told, hangs on all that the hand has of lesser rounds, and is kept.
-/
import Derived.Test.YtfjmenhofllchaaGreatDoorQag17
set_option linter.unusedVariables false
namespace Go.Proofs.YtfjmenhofllchaaGreatDoor
open Go.RowKit
set_option maxRecDepth 100000
set_option linter.unusedVariables false
namespace Rm
open Kn (K okK)
open Bit (bit withB)
open Lc (at' RdK laceB)
open Sg (belows orB bel)
set_option maxHeartbeats 12800000 in
theorem tiesWalk (HI1 : ImplTies) (HI2 : ImplNextRound) (HI3 : ImplDraft) (HI4 : ImplHandOk) (HD : DrawsRoom) (HDC : DrawsRoomC) (a0 : Option Addr) (len0 cap0 : Nat) (w : World) (hcode : Cur.Code w a0 len0) (hno : STie3 w) :
   Calls Tryz.prog 4 #[.slice a0 len0 cap0] w fun e w' => e = .returned (.bool true) ∧ Below w.heap.size w w' := by
 by_cases hbig : 4096 < len0
 · have hb' : (4096 : Int) < (len0 : Int) := by omega
   go_enter Tryz.func4, Tryz.ntmps4
   go_wp2
   go_ret
   exact ⟨rfl, Below.refl _ _⟩
 · have hb' : ¬ (4096 : Int) < (len0 : Int) := by omega
   have hle0 : len0 ≤ 4096 := by omega
   have HDD : Hid DrawsRoom := HD
   have HDX : Hid DrawsRoomC := HDC
   have H1 : Hid ImplTies := HI1
   have H2 : Hid ImplNextRound := HI2
   have H3 : Hid ImplDraft := HI3
   have H4 : Hid ImplHandOk := HI4
   have HCode : Hid (Cur.Code w a0 len0) := hcode
   have HNO : Hid (STie3 w) := hno
   clear hno
   clear hbig HD HDC hcode HI1 HI2 HI3 HI4
   go_enter Tryz.func4, Tryz.ntmps4
   go_wp2_with (first | (go_at_call 6; go_in) | fail)
   refine (drawTies HDD.out HDX.out a0 len0 cap0 _ hle0 HCode.out).mono ?_
   rintro e w1 ⟨v, L, h, wd, rfl, hD, hwd⟩
   obtain ⟨g, cp, rfl, hcp, hL1⟩ := drawn_liesS hD.dr
   have HL_0 : Hid (LiesT w1 g L) := ⟨hL1.rd, hL1.len, hL1.words, HNO.out.below hD.dr.bel⟩
   have HB_0 : Hid (Below w.heap.size w w1) := hD.dr.bel
   have h64 := hD.h64
   clear hD hL1
   have SX0 : Hid (∀ W : World, LiesT W g L → _) := fun W hW => (specTies g 0 cp L h wd W hcp hW.words hW.rd h64 (by omega)).mono fun e w' q => ties_lies hW.st hW.len hW.words (by omega) (q_spec q)
   have HX0 : Hid (∀ W : World, LiesT W g L → _) := fun W hW => (H1.out g cp L h wd W hW hcp h64 (by omega)).mono fun e w' q => ties_lies hW.st hW.len hW.words (by omega) q
   have SO : Hid (∀ W : World, LiesT W g L → _) := fun W hW => specHandOk g 0 cp L h W hcp hW.words hW.rd h64
   cases hok : handOkB L h
   · have e1 : tiesH L h wd = ⟨0, 0, 0, 0⟩ := by unfold tiesH; rw [hok]; rfl
     have e2 : tiesB L h wd = false := by unfold tiesB; rw [hok]; rfl
     have e3 : tiesL L h wd = [] := by unfold tiesL; rw [hok]; rfl
     have SX := SX0
     have HX := HX0
     rw [e1, e2, e3] at SX HX
     rw [hok] at SO
     have LK : Hid (∀ (W : World) (a b ca cb : Nat), LiesT W a [] → LiesT W b [] → _) := fun W a b ca cb ha hb => likeS W a b ca cb [] ha hb
     clear SX0 HX0 e1 e2 e3 h64 hwd
     obtain ⟨who, has, kept, last⟩ := h
     dsimp only [List.length_nil] at SX SO HX LK
     have HL_1 : Hid (LiesT (w1.alloc (.cells #[.int .i64 who, .int .i64 has, .int .i64 kept, .int .i64 last] 26)) g L) := HL_0.out.below ((Below.refl _ w1).alloc (Nat.le_refl _) _)
     have HB_1 : Hid (Below w.heap.size w (w1.alloc (.cells #[.int .i64 who, .int .i64 has, .int .i64 kept, .int .i64 last] 26))) := HB_0.out.trans (((Below.refl _ w1).alloc (Nat.le_refl _) _).mono HB_0.out.size)
     have HH_1 : Hid (HAt (w1.alloc (.cells #[.int .i64 who, .int .i64 has, .int .i64 kept, .int .i64 last] 26)) (w1.heap.size) 0 ⟨who, has, kept, last⟩) := hat_new w1 ⟨who, has, kept, last⟩ _
     clear HL_0 HB_0 
     go_wp2_with fail
     refine (HX.out _ HL_1.out).mono ?_
     rintro e w2 ⟨gx, cx, rfl, hcx, hlx, hb⟩
     have HH_2 : Hid (HAt (w2) (w1.heap.size) 0 ⟨who, has, kept, last⟩) := hat_below HH_1.out (hb)
     have HL_2 : Hid (LiesT (w2) g L) := HL_1.out.below (hb)
     have HB_2 : Hid (Below w.heap.size w (w2)) := HB_1.out.trans ((hb).mono HB_1.out.size)
     clear HL_1 HB_1 HH_1
     have HLX_2 : Hid (LiesT (w2) gx []) := hlx
     clear hlx
     have HH_3 : Hid (HAt (w2.alloc (.cells #[.int .i64 0, .int .i64 0, .int .i64 0, .int .i64 0] 26)) (w1.heap.size) 0 ⟨who, has, kept, last⟩) := hat_below HH_2.out ((Below.refl _ w2).alloc (Nat.le_refl _) _)
     have HL_3 : Hid (LiesT (w2.alloc (.cells #[.int .i64 0, .int .i64 0, .int .i64 0, .int .i64 0] 26)) g L) := HL_2.out.below ((Below.refl _ w2).alloc (Nat.le_refl _) _)
     have HLX_3 : Hid (LiesT (w2.alloc (.cells #[.int .i64 0, .int .i64 0, .int .i64 0, .int .i64 0] 26)) gx []) := HLX_2.out.below ((Below.refl _ w2).alloc (Nat.le_refl _) _)
     have HB_3 : Hid (Below w.heap.size w (w2.alloc (.cells #[.int .i64 0, .int .i64 0, .int .i64 0, .int .i64 0] 26))) := HB_2.out.trans (((Below.refl _ w2).alloc (Nat.le_refl _) _).mono HB_2.out.size)
     have HY_3 : Hid (HAt (w2.alloc (.cells #[.int .i64 0, .int .i64 0, .int .i64 0, .int .i64 0] 26)) (w2.heap.size) 0 ⟨0, 0, 0, 0⟩) := hat_new w2 ⟨0, 0, 0, 0⟩ _
     clear HL_2 HLX_2 HB_2 HH_2
     go_wp2_with fail
     refine (drawNextRound HDD.out HDX.out a0 len0 cap0 _ hle0 (code_below2 HCode.out HB_3.out)).mono ?_
     rintro e w3 ⟨v2, Q, gq, rfl, hD2⟩
     obtain ⟨g2, cp2, rfl, hcp2, hM⟩ := drawn_liesS hD2.dr
     have g64 := hD2.h64
     have HH_4 : Hid (HAt (w3) (w1.heap.size) 0 ⟨who, has, kept, last⟩) := hat_below HH_3.out (hD2.dr.bel)
     have HY_4 : Hid (HAt (w3) (w2.heap.size) 0 ⟨0, 0, 0, 0⟩) := hat_below HY_3.out (hD2.dr.bel)
     have HL_4 : Hid (LiesT (w3) g L) := HL_3.out.below (hD2.dr.bel)
     have HLX_4 : Hid (LiesT (w3) gx []) := HLX_3.out.below (hD2.dr.bel)
     have HB_4 : Hid (Below w.heap.size w (w3)) := HB_3.out.trans ((hD2.dr.bel).mono HB_3.out.size)
     clear HL_3 HLX_3 HB_3 HH_3 HY_3
     have HQL_4 : Hid (LiesT w3 g2 Q) := ⟨hM.rd, hM.len, hM.words, HNO.out.below HB_4.out⟩
     have NQ : Hid (∀ W : World, LiesT W g2 Q → _) := fun W hW => H2.out g2 cp2 Q gq W hW hcp2 g64
     have SQ : Hid (∀ W : World, LiesT W g2 Q → _) := fun W hW => specNextRound g2 0 cp2 Q gq W hcp2 hW.words hW.rd g64
     generalize nextRI Q gq = rq at NQ SQ
     clear hD2 hM g64
     obtain ⟨qw, qh, qk, ql⟩ := gq
     dsimp only at NQ SQ
     have HH_5 : Hid (HAt (w3.alloc (.cells #[.int .i64 qw, .int .i64 qh, .int .i64 qk, .int .i64 ql] 26)) (w1.heap.size) 0 ⟨who, has, kept, last⟩) := hat_below HH_4.out ((Below.refl _ w3).alloc (Nat.le_refl _) _)
     have HY_5 : Hid (HAt (w3.alloc (.cells #[.int .i64 qw, .int .i64 qh, .int .i64 qk, .int .i64 ql] 26)) (w2.heap.size) 0 ⟨0, 0, 0, 0⟩) := hat_below HY_4.out ((Below.refl _ w3).alloc (Nat.le_refl _) _)
     have HL_5 : Hid (LiesT (w3.alloc (.cells #[.int .i64 qw, .int .i64 qh, .int .i64 qk, .int .i64 ql] 26)) g L) := HL_4.out.below ((Below.refl _ w3).alloc (Nat.le_refl _) _)
     have HLX_5 : Hid (LiesT (w3.alloc (.cells #[.int .i64 qw, .int .i64 qh, .int .i64 qk, .int .i64 ql] 26)) gx []) := HLX_4.out.below ((Below.refl _ w3).alloc (Nat.le_refl _) _)
     have HQL_5 : Hid (LiesT (w3.alloc (.cells #[.int .i64 qw, .int .i64 qh, .int .i64 qk, .int .i64 ql] 26)) g2 Q) := HQL_4.out.below ((Below.refl _ w3).alloc (Nat.le_refl _) _)
     have HB_5 : Hid (Below w.heap.size w (w3.alloc (.cells #[.int .i64 qw, .int .i64 qh, .int .i64 qk, .int .i64 ql] 26))) := HB_4.out.trans (((Below.refl _ w3).alloc (Nat.le_refl _) _).mono HB_4.out.size)
     have HQ_5 : Hid (HAt (w3.alloc (.cells #[.int .i64 qw, .int .i64 qh, .int .i64 qk, .int .i64 ql] 26)) (w3.heap.size) 0 ⟨qw, qh, qk, ql⟩) := hat_new w3 ⟨qw, qh, qk, ql⟩ _
     clear HL_4 HLX_4 HQL_4 HB_4 HH_4 HY_4
     go_wp2_with fail
     refine (NQ.out _ HQL_5.out).mono ?_
     rintro e w4 ⟨rfl, hb⟩
     have HH_6 : Hid (HAt (w4) (w1.heap.size) 0 ⟨who, has, kept, last⟩) := hat_below HH_5.out (hb)
     have HY_6 : Hid (HAt (w4) (w2.heap.size) 0 ⟨0, 0, 0, 0⟩) := hat_below HY_5.out (hb)
     have HQ_6 : Hid (HAt (w4) (w3.heap.size) 0 ⟨qw, qh, qk, ql⟩) := hat_below HQ_5.out (hb)
     have HL_6 : Hid (LiesT (w4) g L) := HL_5.out.below (hb)
     have HLX_6 : Hid (LiesT (w4) gx []) := HLX_5.out.below (hb)
     have HQL_6 : Hid (LiesT (w4) g2 Q) := HQL_5.out.below (hb)
     have HB_6 : Hid (Below w.heap.size w (w4)) := HB_5.out.trans ((hb).mono HB_5.out.size)
     clear HL_5 HLX_5 HQL_5 HB_5 HH_5 HY_5 HQ_5
     go_wp2_with fail
     refine (drawDraft HDD.out HDX.out a0 len0 cap0 _ hle0 (code_below2 HCode.out HB_6.out)).mono ?_
     rintro e w5 ⟨v3, P, gp, dw, rfl, hD3, hdw⟩
     obtain ⟨g3, cp3, rfl, hcp3, hN⟩ := drawn_liesS hD3.dr
     have p64 := hD3.h64
     have HH_7 : Hid (HAt (w5) (w1.heap.size) 0 ⟨who, has, kept, last⟩) := hat_below HH_6.out (hD3.dr.bel)
     have HY_7 : Hid (HAt (w5) (w2.heap.size) 0 ⟨0, 0, 0, 0⟩) := hat_below HY_6.out (hD3.dr.bel)
     have HQ_7 : Hid (HAt (w5) (w3.heap.size) 0 ⟨qw, qh, qk, ql⟩) := hat_below HQ_6.out (hD3.dr.bel)
     have HL_7 : Hid (LiesT (w5) g L) := HL_6.out.below (hD3.dr.bel)
     have HLX_7 : Hid (LiesT (w5) gx []) := HLX_6.out.below (hD3.dr.bel)
     have HQL_7 : Hid (LiesT (w5) g2 Q) := HQL_6.out.below (hD3.dr.bel)
     have HB_7 : Hid (Below w.heap.size w (w5)) := HB_6.out.trans ((hD3.dr.bel).mono HB_6.out.size)
     clear HL_6 HLX_6 HQL_6 HB_6 HH_6 HY_6 HQ_6
     have HPL_7 : Hid (LiesT w5 g3 P) := ⟨hN.rd, hN.len, hN.words, HNO.out.below HB_7.out⟩
     clear hD3 hN
     have ND0 : Hid (∀ W : World, LiesT W g3 P → _) := fun W hW => H3.out g3 cp3 P gp dw W hW hcp3 p64 (by omega)
     have SD0 : Hid (∀ W : World, LiesT W g3 P → _) := fun W hW => specDraft g3 0 cp3 P gp dw W hcp3 hW.words hW.rd p64 (by omega)
     have SP0 : Hid (∀ W : World, LiesT W g3 P → _) := fun W hW => specNextRound g3 0 cp3 P gp W hcp3 hW.words hW.rd p64
     clear hdw
     cases hfi : draftedB P gp dw
     · have ND := ND0
       have SD := SD0
       rw [hfi] at ND SD
       clear ND0 SD0
       generalize hdk : draftedK P gp dw = dk at ND SD
       clear SP0 hfi hdk
       obtain ⟨kh, kr, kf, kw⟩ := dk
       obtain ⟨fw, fh, fk, fl⟩ := gp
       dsimp only at ND SD
       have HH_8 : Hid (HAt (w5.alloc (.cells #[.int .i64 fw, .int .i64 fh, .int .i64 fk, .int .i64 fl] 26)) (w1.heap.size) 0 ⟨who, has, kept, last⟩) := hat_below HH_7.out ((Below.refl _ w5).alloc (Nat.le_refl _) _)
       have HY_8 : Hid (HAt (w5.alloc (.cells #[.int .i64 fw, .int .i64 fh, .int .i64 fk, .int .i64 fl] 26)) (w2.heap.size) 0 ⟨0, 0, 0, 0⟩) := hat_below HY_7.out ((Below.refl _ w5).alloc (Nat.le_refl _) _)
       have HQ_8 : Hid (HAt (w5.alloc (.cells #[.int .i64 fw, .int .i64 fh, .int .i64 fk, .int .i64 fl] 26)) (w3.heap.size) 0 ⟨qw, qh, qk, ql⟩) := hat_below HQ_7.out ((Below.refl _ w5).alloc (Nat.le_refl _) _)
       have HL_8 : Hid (LiesT (w5.alloc (.cells #[.int .i64 fw, .int .i64 fh, .int .i64 fk, .int .i64 fl] 26)) g L) := HL_7.out.below ((Below.refl _ w5).alloc (Nat.le_refl _) _)
       have HLX_8 : Hid (LiesT (w5.alloc (.cells #[.int .i64 fw, .int .i64 fh, .int .i64 fk, .int .i64 fl] 26)) gx []) := HLX_7.out.below ((Below.refl _ w5).alloc (Nat.le_refl _) _)
       have HQL_8 : Hid (LiesT (w5.alloc (.cells #[.int .i64 fw, .int .i64 fh, .int .i64 fk, .int .i64 fl] 26)) g2 Q) := HQL_7.out.below ((Below.refl _ w5).alloc (Nat.le_refl _) _)
       have HPL_8 : Hid (LiesT (w5.alloc (.cells #[.int .i64 fw, .int .i64 fh, .int .i64 fk, .int .i64 fl] 26)) g3 P) := HPL_7.out.below ((Below.refl _ w5).alloc (Nat.le_refl _) _)
       have HB_8 : Hid (Below w.heap.size w (w5.alloc (.cells #[.int .i64 fw, .int .i64 fh, .int .i64 fk, .int .i64 fl] 26))) := HB_7.out.trans (((Below.refl _ w5).alloc (Nat.le_refl _) _).mono HB_7.out.size)
       have HF_8 : Hid (HAt (w5.alloc (.cells #[.int .i64 fw, .int .i64 fh, .int .i64 fk, .int .i64 fl] 26)) (w5.heap.size) 0 ⟨fw, fh, fk, fl⟩) := hat_new w5 ⟨fw, fh, fk, fl⟩ _
       clear HL_7 HLX_7 HQL_7 HPL_7 HB_7 HH_7 HY_7 HQ_7
       go_wp2_with fail
       refine (ND.out _ HPL_8.out).mono ?_
       rintro e w6 ⟨rfl, hb⟩
       have HH_9 : Hid (HAt (w6) (w1.heap.size) 0 ⟨who, has, kept, last⟩) := hat_below HH_8.out (hb)
       have HY_9 : Hid (HAt (w6) (w2.heap.size) 0 ⟨0, 0, 0, 0⟩) := hat_below HY_8.out (hb)
       have HQ_9 : Hid (HAt (w6) (w3.heap.size) 0 ⟨qw, qh, qk, ql⟩) := hat_below HQ_8.out (hb)
       have HF_9 : Hid (HAt (w6) (w5.heap.size) 0 ⟨fw, fh, fk, fl⟩) := hat_below HF_8.out (hb)
       have HL_9 : Hid (LiesT (w6) g L) := HL_8.out.below (hb)
       have HLX_9 : Hid (LiesT (w6) gx []) := HLX_8.out.below (hb)
       have HQL_9 : Hid (LiesT (w6) g2 Q) := HQL_8.out.below (hb)
       have HPL_9 : Hid (LiesT (w6) g3 P) := HPL_8.out.below (hb)
       have HB_9 : Hid (Below w.heap.size w (w6)) := HB_8.out.trans ((hb).mono HB_8.out.size)
       clear HL_8 HLX_8 HQL_8 HPL_8 HB_8 HH_8 HY_8 HQ_8 HF_8
       have HH_10 : Hid (HAt (w6.alloc (.cells #[.int .i64 kh, .int .i64 kr, .int .i64 kf, .string kw] 36)) (w1.heap.size) 0 ⟨who, has, kept, last⟩) := hat_below HH_9.out ((Below.refl _ w6).alloc (Nat.le_refl _) _)
       have HY_10 : Hid (HAt (w6.alloc (.cells #[.int .i64 kh, .int .i64 kr, .int .i64 kf, .string kw] 36)) (w2.heap.size) 0 ⟨0, 0, 0, 0⟩) := hat_below HY_9.out ((Below.refl _ w6).alloc (Nat.le_refl _) _)
       have HQ_10 : Hid (HAt (w6.alloc (.cells #[.int .i64 kh, .int .i64 kr, .int .i64 kf, .string kw] 36)) (w3.heap.size) 0 ⟨qw, qh, qk, ql⟩) := hat_below HQ_9.out ((Below.refl _ w6).alloc (Nat.le_refl _) _)
       have HF_10 : Hid (HAt (w6.alloc (.cells #[.int .i64 kh, .int .i64 kr, .int .i64 kf, .string kw] 36)) (w5.heap.size) 0 ⟨fw, fh, fk, fl⟩) := hat_below HF_9.out ((Below.refl _ w6).alloc (Nat.le_refl _) _)
       have HL_10 : Hid (LiesT (w6.alloc (.cells #[.int .i64 kh, .int .i64 kr, .int .i64 kf, .string kw] 36)) g L) := HL_9.out.below ((Below.refl _ w6).alloc (Nat.le_refl _) _)
       have HLX_10 : Hid (LiesT (w6.alloc (.cells #[.int .i64 kh, .int .i64 kr, .int .i64 kf, .string kw] 36)) gx []) := HLX_9.out.below ((Below.refl _ w6).alloc (Nat.le_refl _) _)
       have HQL_10 : Hid (LiesT (w6.alloc (.cells #[.int .i64 kh, .int .i64 kr, .int .i64 kf, .string kw] 36)) g2 Q) := HQL_9.out.below ((Below.refl _ w6).alloc (Nat.le_refl _) _)
       have HPL_10 : Hid (LiesT (w6.alloc (.cells #[.int .i64 kh, .int .i64 kr, .int .i64 kf, .string kw] 36)) g3 P) := HPL_9.out.below ((Below.refl _ w6).alloc (Nat.le_refl _) _)
       have HB_10 : Hid (Below w.heap.size w (w6.alloc (.cells #[.int .i64 kh, .int .i64 kr, .int .i64 kf, .string kw] 36))) := HB_9.out.trans (((Below.refl _ w6).alloc (Nat.le_refl _) _).mono HB_9.out.size)
       have HDK_10 : Hid (KnAt (w6.alloc (.cells #[.int .i64 kh, .int .i64 kr, .int .i64 kf, .string kw] 36)) (w6.heap.size) ⟨kh, kr, kf, kw⟩) := knat_new w6 ⟨kh, kr, kf, kw⟩ _
       clear HL_9 HLX_9 HQL_9 HPL_9 HB_9 HH_9 HY_9 HQ_9 HF_9
       obtain ⟨c1a, c1b, c1c, c1d⟩ := cellsH HH_10.out
       dsimp only at c1a c1b c1c c1d
       go_wp2_with fail
       refine (SX.out _ HL_10.out).mono ?_
       rintro e w7 ⟨ga, ca, rfl, hca, hla, hb⟩
       have HH_11 : Hid (HAt (w7) (w1.heap.size) 0 ⟨who, has, kept, last⟩) := hat_below HH_10.out (hb)
       have HY_11 : Hid (HAt (w7) (w2.heap.size) 0 ⟨0, 0, 0, 0⟩) := hat_below HY_10.out (hb)
       have HQ_11 : Hid (HAt (w7) (w3.heap.size) 0 ⟨qw, qh, qk, ql⟩) := hat_below HQ_10.out (hb)
       have HF_11 : Hid (HAt (w7) (w5.heap.size) 0 ⟨fw, fh, fk, fl⟩) := hat_below HF_10.out (hb)
       have HDK_11 : Hid (KnAt (w7) (w6.heap.size) ⟨kh, kr, kf, kw⟩) := knat_below HDK_10.out (hb)
       have HL_11 : Hid (LiesT (w7) g L) := HL_10.out.below (hb)
       have HLX_11 : Hid (LiesT (w7) gx []) := HLX_10.out.below (hb)
       have HQL_11 : Hid (LiesT (w7) g2 Q) := HQL_10.out.below (hb)
       have HPL_11 : Hid (LiesT (w7) g3 P) := HPL_10.out.below (hb)
       have HB_11 : Hid (Below w.heap.size w (w7)) := HB_10.out.trans ((hb).mono HB_10.out.size)
       clear HL_10 HLX_10 HQL_10 HPL_10 HB_10 HH_10 HY_10 HQ_10 HF_10 HDK_10
       have HLA_11 : Hid (LiesT (w7) ga []) := hla
       clear hla
       have HH_12 : Hid (HAt (w7.alloc (.cells #[.int .i64 0, .int .i64 0, .int .i64 0, .int .i64 0] 26)) (w1.heap.size) 0 ⟨who, has, kept, last⟩) := hat_below HH_11.out ((Below.refl _ w7).alloc (Nat.le_refl _) _)
       have HY_12 : Hid (HAt (w7.alloc (.cells #[.int .i64 0, .int .i64 0, .int .i64 0, .int .i64 0] 26)) (w2.heap.size) 0 ⟨0, 0, 0, 0⟩) := hat_below HY_11.out ((Below.refl _ w7).alloc (Nat.le_refl _) _)
       have HQ_12 : Hid (HAt (w7.alloc (.cells #[.int .i64 0, .int .i64 0, .int .i64 0, .int .i64 0] 26)) (w3.heap.size) 0 ⟨qw, qh, qk, ql⟩) := hat_below HQ_11.out ((Below.refl _ w7).alloc (Nat.le_refl _) _)
       have HF_12 : Hid (HAt (w7.alloc (.cells #[.int .i64 0, .int .i64 0, .int .i64 0, .int .i64 0] 26)) (w5.heap.size) 0 ⟨fw, fh, fk, fl⟩) := hat_below HF_11.out ((Below.refl _ w7).alloc (Nat.le_refl _) _)
       have HDK_12 : Hid (KnAt (w7.alloc (.cells #[.int .i64 0, .int .i64 0, .int .i64 0, .int .i64 0] 26)) (w6.heap.size) ⟨kh, kr, kf, kw⟩) := knat_below HDK_11.out ((Below.refl _ w7).alloc (Nat.le_refl _) _)
       have HL_12 : Hid (LiesT (w7.alloc (.cells #[.int .i64 0, .int .i64 0, .int .i64 0, .int .i64 0] 26)) g L) := HL_11.out.below ((Below.refl _ w7).alloc (Nat.le_refl _) _)
       have HLX_12 : Hid (LiesT (w7.alloc (.cells #[.int .i64 0, .int .i64 0, .int .i64 0, .int .i64 0] 26)) gx []) := HLX_11.out.below ((Below.refl _ w7).alloc (Nat.le_refl _) _)
       have HQL_12 : Hid (LiesT (w7.alloc (.cells #[.int .i64 0, .int .i64 0, .int .i64 0, .int .i64 0] 26)) g2 Q) := HQL_11.out.below ((Below.refl _ w7).alloc (Nat.le_refl _) _)
       have HPL_12 : Hid (LiesT (w7.alloc (.cells #[.int .i64 0, .int .i64 0, .int .i64 0, .int .i64 0] 26)) g3 P) := HPL_11.out.below ((Below.refl _ w7).alloc (Nat.le_refl _) _)
       have HLA_12 : Hid (LiesT (w7.alloc (.cells #[.int .i64 0, .int .i64 0, .int .i64 0, .int .i64 0] 26)) ga []) := HLA_11.out.below ((Below.refl _ w7).alloc (Nat.le_refl _) _)
       have HB_12 : Hid (Below w.heap.size w (w7.alloc (.cells #[.int .i64 0, .int .i64 0, .int .i64 0, .int .i64 0] 26))) := HB_11.out.trans (((Below.refl _ w7).alloc (Nat.le_refl _) _).mono HB_11.out.size)
       have HBB_12 : Hid (HAt (w7.alloc (.cells #[.int .i64 0, .int .i64 0, .int .i64 0, .int .i64 0] 26)) (w7.heap.size) 0 ⟨0, 0, 0, 0⟩) := hat_new w7 ⟨0, 0, 0, 0⟩ _
       clear HL_11 HLX_11 HQL_11 HPL_11 HLA_11 HB_11 HH_11 HY_11 HQ_11 HF_11 HDK_11
       have ex := hand_ne 0 0 0 0
       go_wp2_with fail
       refine (LK.out _ gx ga cx ca HLX_12.out HLA_12.out).mono ?_
       rintro e w8 ⟨rfl, hb⟩
       have HH_13 : Hid (HAt (w8) (w1.heap.size) 0 ⟨who, has, kept, last⟩) := hat_below HH_12.out (hb)
       have HY_13 : Hid (HAt (w8) (w2.heap.size) 0 ⟨0, 0, 0, 0⟩) := hat_below HY_12.out (hb)
       have HQ_13 : Hid (HAt (w8) (w3.heap.size) 0 ⟨qw, qh, qk, ql⟩) := hat_below HQ_12.out (hb)
       have HF_13 : Hid (HAt (w8) (w5.heap.size) 0 ⟨fw, fh, fk, fl⟩) := hat_below HF_12.out (hb)
       have HDK_13 : Hid (KnAt (w8) (w6.heap.size) ⟨kh, kr, kf, kw⟩) := knat_below HDK_12.out (hb)
       have HBB_13 : Hid (HAt (w8) (w7.heap.size) 0 ⟨0, 0, 0, 0⟩) := hat_below HBB_12.out (hb)
       have HL_13 : Hid (LiesT (w8) g L) := HL_12.out.below (hb)
       have HLX_13 : Hid (LiesT (w8) gx []) := HLX_12.out.below (hb)
       have HQL_13 : Hid (LiesT (w8) g2 Q) := HQL_12.out.below (hb)
       have HPL_13 : Hid (LiesT (w8) g3 P) := HPL_12.out.below (hb)
       have HLA_13 : Hid (LiesT (w8) ga []) := HLA_12.out.below (hb)
       have HB_13 : Hid (Below w.heap.size w (w8)) := HB_12.out.trans ((hb).mono HB_12.out.size)
       clear HL_12 HLX_12 HQL_12 HPL_12 HLA_12 HB_12 HH_12 HY_12 HQ_12 HF_12 HDK_12 HBB_12
       obtain ⟨c2a, c2b, c2c, c2d⟩ := cellsH HY_13.out
       dsimp only at c2a c2b c2c c2d
       obtain ⟨c3a, c3b, c3c, c3d⟩ := cellsH HBB_13.out
       dsimp only at c3a c3b c3c c3d
       obtain ⟨c4a, c4b, c4c, c4d⟩ := cellsH HQ_13.out
       dsimp only at c4a c4b c4c c4d
       go_wp2_with fail
       refine (SQ.out _ HQL_13.out).mono ?_
       rintro e w9 ⟨rfl, hb⟩
       have HH_14 : Hid (HAt (w9) (w1.heap.size) 0 ⟨who, has, kept, last⟩) := hat_below HH_13.out (hb)
       have HY_14 : Hid (HAt (w9) (w2.heap.size) 0 ⟨0, 0, 0, 0⟩) := hat_below HY_13.out (hb)
       have HQ_14 : Hid (HAt (w9) (w3.heap.size) 0 ⟨qw, qh, qk, ql⟩) := hat_below HQ_13.out (hb)
       have HF_14 : Hid (HAt (w9) (w5.heap.size) 0 ⟨fw, fh, fk, fl⟩) := hat_below HF_13.out (hb)
       have HDK_14 : Hid (KnAt (w9) (w6.heap.size) ⟨kh, kr, kf, kw⟩) := knat_below HDK_13.out (hb)
       have HBB_14 : Hid (HAt (w9) (w7.heap.size) 0 ⟨0, 0, 0, 0⟩) := hat_below HBB_13.out (hb)
       have HL_14 : Hid (LiesT (w9) g L) := HL_13.out.below (hb)
       have HLX_14 : Hid (LiesT (w9) gx []) := HLX_13.out.below (hb)
       have HQL_14 : Hid (LiesT (w9) g2 Q) := HQL_13.out.below (hb)
       have HPL_14 : Hid (LiesT (w9) g3 P) := HPL_13.out.below (hb)
       have HLA_14 : Hid (LiesT (w9) ga []) := HLA_13.out.below (hb)
       have HB_14 : Hid (Below w.heap.size w (w9)) := HB_13.out.trans ((hb).mono HB_13.out.size)
       clear HL_13 HLX_13 HQL_13 HPL_13 HLA_13 HB_13 HH_13 HY_13 HQ_13 HF_13 HDK_13 HBB_13
       obtain ⟨c5a, c5b, c5c, c5d⟩ := cellsH HF_14.out
       dsimp only at c5a c5b c5c c5d
       go_wp2_with fail
       refine (SD.out _ HPL_14.out).mono ?_
       rintro e w10 ⟨rfl, hb⟩
       have HH_15 : Hid (HAt (w10) (w1.heap.size) 0 ⟨who, has, kept, last⟩) := hat_below HH_14.out (hb)
       have HY_15 : Hid (HAt (w10) (w2.heap.size) 0 ⟨0, 0, 0, 0⟩) := hat_below HY_14.out (hb)
       have HQ_15 : Hid (HAt (w10) (w3.heap.size) 0 ⟨qw, qh, qk, ql⟩) := hat_below HQ_14.out (hb)
       have HF_15 : Hid (HAt (w10) (w5.heap.size) 0 ⟨fw, fh, fk, fl⟩) := hat_below HF_14.out (hb)
       have HDK_15 : Hid (KnAt (w10) (w6.heap.size) ⟨kh, kr, kf, kw⟩) := knat_below HDK_14.out (hb)
       have HBB_15 : Hid (HAt (w10) (w7.heap.size) 0 ⟨0, 0, 0, 0⟩) := hat_below HBB_14.out (hb)
       have HL_15 : Hid (LiesT (w10) g L) := HL_14.out.below (hb)
       have HLX_15 : Hid (LiesT (w10) gx []) := HLX_14.out.below (hb)
       have HQL_15 : Hid (LiesT (w10) g2 Q) := HQL_14.out.below (hb)
       have HPL_15 : Hid (LiesT (w10) g3 P) := HPL_14.out.below (hb)
       have HLA_15 : Hid (LiesT (w10) ga []) := HLA_14.out.below (hb)
       have HB_15 : Hid (Below w.heap.size w (w10)) := HB_14.out.trans ((hb).mono HB_14.out.size)
       clear HL_14 HLX_14 HQL_14 HPL_14 HLA_14 HB_14 HH_14 HY_14 HQ_14 HF_14 HDK_14 HBB_14
       have HH_16 : Hid (HAt (w10.alloc (.cells #[.int .i64 kh, .int .i64 kr, .int .i64 kf, .string kw] 36)) (w1.heap.size) 0 ⟨who, has, kept, last⟩) := hat_below HH_15.out ((Below.refl _ w10).alloc (Nat.le_refl _) _)
       have HY_16 : Hid (HAt (w10.alloc (.cells #[.int .i64 kh, .int .i64 kr, .int .i64 kf, .string kw] 36)) (w2.heap.size) 0 ⟨0, 0, 0, 0⟩) := hat_below HY_15.out ((Below.refl _ w10).alloc (Nat.le_refl _) _)
       have HQ_16 : Hid (HAt (w10.alloc (.cells #[.int .i64 kh, .int .i64 kr, .int .i64 kf, .string kw] 36)) (w3.heap.size) 0 ⟨qw, qh, qk, ql⟩) := hat_below HQ_15.out ((Below.refl _ w10).alloc (Nat.le_refl _) _)
       have HF_16 : Hid (HAt (w10.alloc (.cells #[.int .i64 kh, .int .i64 kr, .int .i64 kf, .string kw] 36)) (w5.heap.size) 0 ⟨fw, fh, fk, fl⟩) := hat_below HF_15.out ((Below.refl _ w10).alloc (Nat.le_refl _) _)
       have HDK_16 : Hid (KnAt (w10.alloc (.cells #[.int .i64 kh, .int .i64 kr, .int .i64 kf, .string kw] 36)) (w6.heap.size) ⟨kh, kr, kf, kw⟩) := knat_below HDK_15.out ((Below.refl _ w10).alloc (Nat.le_refl _) _)
       have HBB_16 : Hid (HAt (w10.alloc (.cells #[.int .i64 kh, .int .i64 kr, .int .i64 kf, .string kw] 36)) (w7.heap.size) 0 ⟨0, 0, 0, 0⟩) := hat_below HBB_15.out ((Below.refl _ w10).alloc (Nat.le_refl _) _)
       have HL_16 : Hid (LiesT (w10.alloc (.cells #[.int .i64 kh, .int .i64 kr, .int .i64 kf, .string kw] 36)) g L) := HL_15.out.below ((Below.refl _ w10).alloc (Nat.le_refl _) _)
       have HLX_16 : Hid (LiesT (w10.alloc (.cells #[.int .i64 kh, .int .i64 kr, .int .i64 kf, .string kw] 36)) gx []) := HLX_15.out.below ((Below.refl _ w10).alloc (Nat.le_refl _) _)
       have HQL_16 : Hid (LiesT (w10.alloc (.cells #[.int .i64 kh, .int .i64 kr, .int .i64 kf, .string kw] 36)) g2 Q) := HQL_15.out.below ((Below.refl _ w10).alloc (Nat.le_refl _) _)
       have HPL_16 : Hid (LiesT (w10.alloc (.cells #[.int .i64 kh, .int .i64 kr, .int .i64 kf, .string kw] 36)) g3 P) := HPL_15.out.below ((Below.refl _ w10).alloc (Nat.le_refl _) _)
       have HLA_16 : Hid (LiesT (w10.alloc (.cells #[.int .i64 kh, .int .i64 kr, .int .i64 kf, .string kw] 36)) ga []) := HLA_15.out.below ((Below.refl _ w10).alloc (Nat.le_refl _) _)
       have HB_16 : Hid (Below w.heap.size w (w10.alloc (.cells #[.int .i64 kh, .int .i64 kr, .int .i64 kf, .string kw] 36))) := HB_15.out.trans (((Below.refl _ w10).alloc (Nat.le_refl _) _).mono HB_15.out.size)
       have HDA_16 : Hid (KnAt (w10.alloc (.cells #[.int .i64 kh, .int .i64 kr, .int .i64 kf, .string kw] 36)) (w10.heap.size) ⟨kh, kr, kf, kw⟩) := knat_new w10 ⟨kh, kr, kf, kw⟩ _
       clear HL_15 HLX_15 HQL_15 HPL_15 HLA_15 HB_15 HH_15 HY_15 HQ_15 HF_15 HDK_15 HBB_15
       have ek := knot_ne kh kr kf kw
       obtain ⟨X1, _, F1, HFz1, HG1⟩ := Fam.fam ((w10.alloc (.cells #[.int .i64 kh, .int .i64 kr, .int .i64 kf, .string kw] 36)))
       have y00 : ∀ z, (F1 z).cell? ⟨w5.heap.size, 0, none⟩ = some (.int .i64 fw) := fun z => (cellsH (hat_below HF_16.out (HFz1.out z))).1
       have y01 : ∀ z, (F1 z).cell? ⟨w5.heap.size, 1, none⟩ = some (.int .i64 fh) := fun z => (cellsH (hat_below HF_16.out (HFz1.out z))).2.1
       have y02 : ∀ z, (F1 z).cell? ⟨w5.heap.size, 2, none⟩ = some (.int .i64 fk) := fun z => (cellsH (hat_below HF_16.out (HFz1.out z))).2.2.1
       have y03 : ∀ z, (F1 z).cell? ⟨w5.heap.size, 3, none⟩ = some (.int .i64 fl) := fun z => (cellsH (hat_below HF_16.out (HFz1.out z))).2.2.2
       have y10 : ∀ z, (F1 z).cell? ⟨w6.heap.size, 0, none⟩ = some (.int .i64 kh) := fun z => (knat_cells (knat_below HDK_16.out (HFz1.out z))).1
       have y11 : ∀ z, (F1 z).cell? ⟨w6.heap.size, 1, none⟩ = some (.int .i64 kr) := fun z => (knat_cells (knat_below HDK_16.out (HFz1.out z))).2.1
       have y12 : ∀ z, (F1 z).cell? ⟨w6.heap.size, 2, none⟩ = some (.int .i64 kf) := fun z => (knat_cells (knat_below HDK_16.out (HFz1.out z))).2.2.1
       have y13 : ∀ z, (F1 z).cell? ⟨w6.heap.size, 3, none⟩ = some (.string kw) := fun z => (knat_cells (knat_below HDK_16.out (HFz1.out z))).2.2.2
       have y20 : ∀ z, (F1 z).cell? ⟨w10.heap.size, 0, none⟩ = some (.int .i64 kh) := fun z => (knat_cells (knat_below HDA_16.out (HFz1.out z))).1
       have y21 : ∀ z, (F1 z).cell? ⟨w10.heap.size, 1, none⟩ = some (.int .i64 kr) := fun z => (knat_cells (knat_below HDA_16.out (HFz1.out z))).2.1
       have y22 : ∀ z, (F1 z).cell? ⟨w10.heap.size, 2, none⟩ = some (.int .i64 kf) := fun z => (knat_cells (knat_below HDA_16.out (HFz1.out z))).2.2.1
       have y23 : ∀ z, (F1 z).cell? ⟨w10.heap.size, 3, none⟩ = some (.string kw) := fun z => (knat_cells (knat_below HDA_16.out (HFz1.out z))).2.2.2
       have HLz : Hid (∀ z, LiesT (F1 z) g L) := fun z => HL_16.out.below (HFz1.out z)
       have HLXz : Hid (∀ z, LiesT (F1 z) gx []) := fun z => HLX_16.out.below (HFz1.out z)
       have HQLz : Hid (∀ z, LiesT (F1 z) g2 Q) := fun z => HQL_16.out.below (HFz1.out z)
       have HPLz : Hid (∀ z, LiesT (F1 z) g3 P) := fun z => HPL_16.out.below (HFz1.out z)
       have HLAz : Hid (∀ z, LiesT (F1 z) ga []) := fun z => HLA_16.out.below (HFz1.out z)
       go_wp2_with fail
       refine Fam.region (F := F1) (by kernel_rfl) (by kernel_rfl) (HG1.out _ (Below.refl _ _).drew) ?_
       repeat (go_big_quiet_step (first
         | fail))
       refine wpQuiet_nil ?_
       intro wz hwz
       obtain ⟨z1, rfl⟩ := hwz
       have HH_17 : Hid (HAt (F1 z1) (w1.heap.size) 0 ⟨who, has, kept, last⟩) := hat_below HH_16.out (HFz1.out z1)
       have HY_17 : Hid (HAt (F1 z1) (w2.heap.size) 0 ⟨0, 0, 0, 0⟩) := hat_below HY_16.out (HFz1.out z1)
       have HQ_17 : Hid (HAt (F1 z1) (w3.heap.size) 0 ⟨qw, qh, qk, ql⟩) := hat_below HQ_16.out (HFz1.out z1)
       have HF_17 : Hid (HAt (F1 z1) (w5.heap.size) 0 ⟨fw, fh, fk, fl⟩) := hat_below HF_16.out (HFz1.out z1)
       have HDK_17 : Hid (KnAt (F1 z1) (w6.heap.size) ⟨kh, kr, kf, kw⟩) := knat_below HDK_16.out (HFz1.out z1)
       have HBB_17 : Hid (HAt (F1 z1) (w7.heap.size) 0 ⟨0, 0, 0, 0⟩) := hat_below HBB_16.out (HFz1.out z1)
       have HDA_17 : Hid (KnAt (F1 z1) (w10.heap.size) ⟨kh, kr, kf, kw⟩) := knat_below HDA_16.out (HFz1.out z1)
       have HL_17 : Hid (LiesT (F1 z1) g L) := HL_16.out.below (HFz1.out z1)
       have HLX_17 : Hid (LiesT (F1 z1) gx []) := HLX_16.out.below (HFz1.out z1)
       have HQL_17 : Hid (LiesT (F1 z1) g2 Q) := HQL_16.out.below (HFz1.out z1)
       have HPL_17 : Hid (LiesT (F1 z1) g3 P) := HPL_16.out.below (HFz1.out z1)
       have HLA_17 : Hid (LiesT (F1 z1) ga []) := HLA_16.out.below (HFz1.out z1)
       have HB_17 : Hid (Below w.heap.size w (F1 z1)) := HB_16.out.trans ((HFz1.out z1).mono HB_16.out.size)
       clear HL_16 HLX_16 HQL_16 HPL_16 HLA_16 HB_16 HH_16 HY_16 HQ_16 HF_16 HDK_16 HBB_16 HDA_16
       generalize F1 z1 = wv at HH_17 HY_17 HQ_17 HF_17 HDK_17 HBB_17 HDA_17 HL_17 HLX_17 HQL_17 HPL_17 HLA_17 HB_17 ⊢
       clear HFz1 HG1 HLz HLXz HQLz HPLz HLAz y00 y01 y02 y03 y10 y11 y12 y13 y20 y21 y22 y23
       clear ex ek
       clear HQL_17 HPL_17 HLA_17 HQ_17 HF_17 HDK_17 HBB_17 HDA_17
       obtain ⟨c6a, c6b, c6c, c6d⟩ := cellsH HH_17.out
       dsimp only at c6a c6b c6c c6d
       go_wp2_with fail
       refine (SO.out _ HL_17.out).mono ?_
       rintro e w11 ⟨rfl, hb⟩
       have HH_18 : Hid (HAt (w11) (w1.heap.size) 0 ⟨who, has, kept, last⟩) := hat_below HH_17.out (hb)
       have HY_18 : Hid (HAt (w11) (w2.heap.size) 0 ⟨0, 0, 0, 0⟩) := hat_below HY_17.out (hb)
       have HL_18 : Hid (LiesT (w11) g L) := HL_17.out.below (hb)
       have HLX_18 : Hid (LiesT (w11) gx []) := HLX_17.out.below (hb)
       have HB_18 : Hid (Below w.heap.size w (w11)) := HB_17.out.trans ((hb).mono HB_17.out.size)
       clear HL_17 HLX_17 HB_17 HH_17 HY_17
       obtain ⟨c7a, c7b, c7c, c7d⟩ := cellsH HY_18.out
       dsimp only at c7a c7b c7c c7d
       have ez := hand_eq 0 0 0 0
       have HE : Hid (Below w.heap.size w w11) := HB_18.out
       go_wp2
       go_ret
       exact ⟨rfl, HE.out⟩
     · have ND := ND0
       have SD := SD0
       rw [hfi] at ND SD
       clear ND0 SD0
       obtain ⟨hko, hkr⟩ := drafted_parts hfi
       have SP := SP0
       rw [← hkr] at SP
       generalize hdk : draftedK P gp dw = dk at ND SD SP hko
       clear SP0 hkr hfi hdk
       obtain ⟨kh, kr, kf, kw⟩ := dk
       obtain ⟨fw, fh, fk, fl⟩ := gp
       dsimp only at ND SD SP
       have hks : kw.size ≤ 1099511627776 := okW_size hko
       have KOK : Hid (∀ W : World, Calls Tryz.prog 28 #[.agg #[.int .i64 kh, .int .i64 kr, .int .i64 kf, .string kw]] W fun e w' => e = .returned (.bool true) ∧ Below W.heap.size W w') := fun W => by
         have := Kn.specKnotOk kh kr kf kw W hks
         rw [hko] at this
         exact this
       clear hko hks
       have HH_8 : Hid (HAt (w5.alloc (.cells #[.int .i64 fw, .int .i64 fh, .int .i64 fk, .int .i64 fl] 26)) (w1.heap.size) 0 ⟨who, has, kept, last⟩) := hat_below HH_7.out ((Below.refl _ w5).alloc (Nat.le_refl _) _)
       have HY_8 : Hid (HAt (w5.alloc (.cells #[.int .i64 fw, .int .i64 fh, .int .i64 fk, .int .i64 fl] 26)) (w2.heap.size) 0 ⟨0, 0, 0, 0⟩) := hat_below HY_7.out ((Below.refl _ w5).alloc (Nat.le_refl _) _)
       have HQ_8 : Hid (HAt (w5.alloc (.cells #[.int .i64 fw, .int .i64 fh, .int .i64 fk, .int .i64 fl] 26)) (w3.heap.size) 0 ⟨qw, qh, qk, ql⟩) := hat_below HQ_7.out ((Below.refl _ w5).alloc (Nat.le_refl _) _)
       have HL_8 : Hid (LiesT (w5.alloc (.cells #[.int .i64 fw, .int .i64 fh, .int .i64 fk, .int .i64 fl] 26)) g L) := HL_7.out.below ((Below.refl _ w5).alloc (Nat.le_refl _) _)
       have HLX_8 : Hid (LiesT (w5.alloc (.cells #[.int .i64 fw, .int .i64 fh, .int .i64 fk, .int .i64 fl] 26)) gx []) := HLX_7.out.below ((Below.refl _ w5).alloc (Nat.le_refl _) _)
       have HQL_8 : Hid (LiesT (w5.alloc (.cells #[.int .i64 fw, .int .i64 fh, .int .i64 fk, .int .i64 fl] 26)) g2 Q) := HQL_7.out.below ((Below.refl _ w5).alloc (Nat.le_refl _) _)
       have HPL_8 : Hid (LiesT (w5.alloc (.cells #[.int .i64 fw, .int .i64 fh, .int .i64 fk, .int .i64 fl] 26)) g3 P) := HPL_7.out.below ((Below.refl _ w5).alloc (Nat.le_refl _) _)
       have HB_8 : Hid (Below w.heap.size w (w5.alloc (.cells #[.int .i64 fw, .int .i64 fh, .int .i64 fk, .int .i64 fl] 26))) := HB_7.out.trans (((Below.refl _ w5).alloc (Nat.le_refl _) _).mono HB_7.out.size)
       have HF_8 : Hid (HAt (w5.alloc (.cells #[.int .i64 fw, .int .i64 fh, .int .i64 fk, .int .i64 fl] 26)) (w5.heap.size) 0 ⟨fw, fh, fk, fl⟩) := hat_new w5 ⟨fw, fh, fk, fl⟩ _
       clear HL_7 HLX_7 HQL_7 HPL_7 HB_7 HH_7 HY_7 HQ_7
       go_wp2_with fail
       refine (ND.out _ HPL_8.out).mono ?_
       rintro e w6 ⟨rfl, hb⟩
       have HH_9 : Hid (HAt (w6) (w1.heap.size) 0 ⟨who, has, kept, last⟩) := hat_below HH_8.out (hb)
       have HY_9 : Hid (HAt (w6) (w2.heap.size) 0 ⟨0, 0, 0, 0⟩) := hat_below HY_8.out (hb)
       have HQ_9 : Hid (HAt (w6) (w3.heap.size) 0 ⟨qw, qh, qk, ql⟩) := hat_below HQ_8.out (hb)
       have HF_9 : Hid (HAt (w6) (w5.heap.size) 0 ⟨fw, fh, fk, fl⟩) := hat_below HF_8.out (hb)
       have HL_9 : Hid (LiesT (w6) g L) := HL_8.out.below (hb)
       have HLX_9 : Hid (LiesT (w6) gx []) := HLX_8.out.below (hb)
       have HQL_9 : Hid (LiesT (w6) g2 Q) := HQL_8.out.below (hb)
       have HPL_9 : Hid (LiesT (w6) g3 P) := HPL_8.out.below (hb)
       have HB_9 : Hid (Below w.heap.size w (w6)) := HB_8.out.trans ((hb).mono HB_8.out.size)
       clear HL_8 HLX_8 HQL_8 HPL_8 HB_8 HH_8 HY_8 HQ_8 HF_8
       have HH_10 : Hid (HAt (w6.alloc (.cells #[.int .i64 kh, .int .i64 kr, .int .i64 kf, .string kw] 36)) (w1.heap.size) 0 ⟨who, has, kept, last⟩) := hat_below HH_9.out ((Below.refl _ w6).alloc (Nat.le_refl _) _)
       have HY_10 : Hid (HAt (w6.alloc (.cells #[.int .i64 kh, .int .i64 kr, .int .i64 kf, .string kw] 36)) (w2.heap.size) 0 ⟨0, 0, 0, 0⟩) := hat_below HY_9.out ((Below.refl _ w6).alloc (Nat.le_refl _) _)
       have HQ_10 : Hid (HAt (w6.alloc (.cells #[.int .i64 kh, .int .i64 kr, .int .i64 kf, .string kw] 36)) (w3.heap.size) 0 ⟨qw, qh, qk, ql⟩) := hat_below HQ_9.out ((Below.refl _ w6).alloc (Nat.le_refl _) _)
       have HF_10 : Hid (HAt (w6.alloc (.cells #[.int .i64 kh, .int .i64 kr, .int .i64 kf, .string kw] 36)) (w5.heap.size) 0 ⟨fw, fh, fk, fl⟩) := hat_below HF_9.out ((Below.refl _ w6).alloc (Nat.le_refl _) _)
       have HL_10 : Hid (LiesT (w6.alloc (.cells #[.int .i64 kh, .int .i64 kr, .int .i64 kf, .string kw] 36)) g L) := HL_9.out.below ((Below.refl _ w6).alloc (Nat.le_refl _) _)
       have HLX_10 : Hid (LiesT (w6.alloc (.cells #[.int .i64 kh, .int .i64 kr, .int .i64 kf, .string kw] 36)) gx []) := HLX_9.out.below ((Below.refl _ w6).alloc (Nat.le_refl _) _)
       have HQL_10 : Hid (LiesT (w6.alloc (.cells #[.int .i64 kh, .int .i64 kr, .int .i64 kf, .string kw] 36)) g2 Q) := HQL_9.out.below ((Below.refl _ w6).alloc (Nat.le_refl _) _)
       have HPL_10 : Hid (LiesT (w6.alloc (.cells #[.int .i64 kh, .int .i64 kr, .int .i64 kf, .string kw] 36)) g3 P) := HPL_9.out.below ((Below.refl _ w6).alloc (Nat.le_refl _) _)
       have HB_10 : Hid (Below w.heap.size w (w6.alloc (.cells #[.int .i64 kh, .int .i64 kr, .int .i64 kf, .string kw] 36))) := HB_9.out.trans (((Below.refl _ w6).alloc (Nat.le_refl _) _).mono HB_9.out.size)
       have HDK_10 : Hid (KnAt (w6.alloc (.cells #[.int .i64 kh, .int .i64 kr, .int .i64 kf, .string kw] 36)) (w6.heap.size) ⟨kh, kr, kf, kw⟩) := knat_new w6 ⟨kh, kr, kf, kw⟩ _
       clear HL_9 HLX_9 HQL_9 HPL_9 HB_9 HH_9 HY_9 HQ_9 HF_9
       obtain ⟨c1a, c1b, c1c, c1d⟩ := cellsH HH_10.out
       dsimp only at c1a c1b c1c c1d
       go_wp2_with fail
       refine (SX.out _ HL_10.out).mono ?_
       rintro e w7 ⟨ga, ca, rfl, hca, hla, hb⟩
       have HH_11 : Hid (HAt (w7) (w1.heap.size) 0 ⟨who, has, kept, last⟩) := hat_below HH_10.out (hb)
       have HY_11 : Hid (HAt (w7) (w2.heap.size) 0 ⟨0, 0, 0, 0⟩) := hat_below HY_10.out (hb)
       have HQ_11 : Hid (HAt (w7) (w3.heap.size) 0 ⟨qw, qh, qk, ql⟩) := hat_below HQ_10.out (hb)
       have HF_11 : Hid (HAt (w7) (w5.heap.size) 0 ⟨fw, fh, fk, fl⟩) := hat_below HF_10.out (hb)
       have HDK_11 : Hid (KnAt (w7) (w6.heap.size) ⟨kh, kr, kf, kw⟩) := knat_below HDK_10.out (hb)
       have HL_11 : Hid (LiesT (w7) g L) := HL_10.out.below (hb)
       have HLX_11 : Hid (LiesT (w7) gx []) := HLX_10.out.below (hb)
       have HQL_11 : Hid (LiesT (w7) g2 Q) := HQL_10.out.below (hb)
       have HPL_11 : Hid (LiesT (w7) g3 P) := HPL_10.out.below (hb)
       have HB_11 : Hid (Below w.heap.size w (w7)) := HB_10.out.trans ((hb).mono HB_10.out.size)
       clear HL_10 HLX_10 HQL_10 HPL_10 HB_10 HH_10 HY_10 HQ_10 HF_10 HDK_10
       have HLA_11 : Hid (LiesT (w7) ga []) := hla
       clear hla
       have HH_12 : Hid (HAt (w7.alloc (.cells #[.int .i64 0, .int .i64 0, .int .i64 0, .int .i64 0] 26)) (w1.heap.size) 0 ⟨who, has, kept, last⟩) := hat_below HH_11.out ((Below.refl _ w7).alloc (Nat.le_refl _) _)
       have HY_12 : Hid (HAt (w7.alloc (.cells #[.int .i64 0, .int .i64 0, .int .i64 0, .int .i64 0] 26)) (w2.heap.size) 0 ⟨0, 0, 0, 0⟩) := hat_below HY_11.out ((Below.refl _ w7).alloc (Nat.le_refl _) _)
       have HQ_12 : Hid (HAt (w7.alloc (.cells #[.int .i64 0, .int .i64 0, .int .i64 0, .int .i64 0] 26)) (w3.heap.size) 0 ⟨qw, qh, qk, ql⟩) := hat_below HQ_11.out ((Below.refl _ w7).alloc (Nat.le_refl _) _)
       have HF_12 : Hid (HAt (w7.alloc (.cells #[.int .i64 0, .int .i64 0, .int .i64 0, .int .i64 0] 26)) (w5.heap.size) 0 ⟨fw, fh, fk, fl⟩) := hat_below HF_11.out ((Below.refl _ w7).alloc (Nat.le_refl _) _)
       have HDK_12 : Hid (KnAt (w7.alloc (.cells #[.int .i64 0, .int .i64 0, .int .i64 0, .int .i64 0] 26)) (w6.heap.size) ⟨kh, kr, kf, kw⟩) := knat_below HDK_11.out ((Below.refl _ w7).alloc (Nat.le_refl _) _)
       have HL_12 : Hid (LiesT (w7.alloc (.cells #[.int .i64 0, .int .i64 0, .int .i64 0, .int .i64 0] 26)) g L) := HL_11.out.below ((Below.refl _ w7).alloc (Nat.le_refl _) _)
       have HLX_12 : Hid (LiesT (w7.alloc (.cells #[.int .i64 0, .int .i64 0, .int .i64 0, .int .i64 0] 26)) gx []) := HLX_11.out.below ((Below.refl _ w7).alloc (Nat.le_refl _) _)
       have HQL_12 : Hid (LiesT (w7.alloc (.cells #[.int .i64 0, .int .i64 0, .int .i64 0, .int .i64 0] 26)) g2 Q) := HQL_11.out.below ((Below.refl _ w7).alloc (Nat.le_refl _) _)
       have HPL_12 : Hid (LiesT (w7.alloc (.cells #[.int .i64 0, .int .i64 0, .int .i64 0, .int .i64 0] 26)) g3 P) := HPL_11.out.below ((Below.refl _ w7).alloc (Nat.le_refl _) _)
       have HLA_12 : Hid (LiesT (w7.alloc (.cells #[.int .i64 0, .int .i64 0, .int .i64 0, .int .i64 0] 26)) ga []) := HLA_11.out.below ((Below.refl _ w7).alloc (Nat.le_refl _) _)
       have HB_12 : Hid (Below w.heap.size w (w7.alloc (.cells #[.int .i64 0, .int .i64 0, .int .i64 0, .int .i64 0] 26))) := HB_11.out.trans (((Below.refl _ w7).alloc (Nat.le_refl _) _).mono HB_11.out.size)
       have HBB_12 : Hid (HAt (w7.alloc (.cells #[.int .i64 0, .int .i64 0, .int .i64 0, .int .i64 0] 26)) (w7.heap.size) 0 ⟨0, 0, 0, 0⟩) := hat_new w7 ⟨0, 0, 0, 0⟩ _
       clear HL_11 HLX_11 HQL_11 HPL_11 HLA_11 HB_11 HH_11 HY_11 HQ_11 HF_11 HDK_11
       have ex := hand_ne 0 0 0 0
       go_wp2_with fail
       refine (LK.out _ gx ga cx ca HLX_12.out HLA_12.out).mono ?_
       rintro e w8 ⟨rfl, hb⟩
       have HH_13 : Hid (HAt (w8) (w1.heap.size) 0 ⟨who, has, kept, last⟩) := hat_below HH_12.out (hb)
       have HY_13 : Hid (HAt (w8) (w2.heap.size) 0 ⟨0, 0, 0, 0⟩) := hat_below HY_12.out (hb)
       have HQ_13 : Hid (HAt (w8) (w3.heap.size) 0 ⟨qw, qh, qk, ql⟩) := hat_below HQ_12.out (hb)
       have HF_13 : Hid (HAt (w8) (w5.heap.size) 0 ⟨fw, fh, fk, fl⟩) := hat_below HF_12.out (hb)
       have HDK_13 : Hid (KnAt (w8) (w6.heap.size) ⟨kh, kr, kf, kw⟩) := knat_below HDK_12.out (hb)
       have HBB_13 : Hid (HAt (w8) (w7.heap.size) 0 ⟨0, 0, 0, 0⟩) := hat_below HBB_12.out (hb)
       have HL_13 : Hid (LiesT (w8) g L) := HL_12.out.below (hb)
       have HLX_13 : Hid (LiesT (w8) gx []) := HLX_12.out.below (hb)
       have HQL_13 : Hid (LiesT (w8) g2 Q) := HQL_12.out.below (hb)
       have HPL_13 : Hid (LiesT (w8) g3 P) := HPL_12.out.below (hb)
       have HLA_13 : Hid (LiesT (w8) ga []) := HLA_12.out.below (hb)
       have HB_13 : Hid (Below w.heap.size w (w8)) := HB_12.out.trans ((hb).mono HB_12.out.size)
       clear HL_12 HLX_12 HQL_12 HPL_12 HLA_12 HB_12 HH_12 HY_12 HQ_12 HF_12 HDK_12 HBB_12
       obtain ⟨c2a, c2b, c2c, c2d⟩ := cellsH HY_13.out
       dsimp only at c2a c2b c2c c2d
       obtain ⟨c3a, c3b, c3c, c3d⟩ := cellsH HBB_13.out
       dsimp only at c3a c3b c3c c3d
       obtain ⟨c4a, c4b, c4c, c4d⟩ := cellsH HQ_13.out
       dsimp only at c4a c4b c4c c4d
       go_wp2_with fail
       refine (SQ.out _ HQL_13.out).mono ?_
       rintro e w9 ⟨rfl, hb⟩
       have HH_14 : Hid (HAt (w9) (w1.heap.size) 0 ⟨who, has, kept, last⟩) := hat_below HH_13.out (hb)
       have HY_14 : Hid (HAt (w9) (w2.heap.size) 0 ⟨0, 0, 0, 0⟩) := hat_below HY_13.out (hb)
       have HQ_14 : Hid (HAt (w9) (w3.heap.size) 0 ⟨qw, qh, qk, ql⟩) := hat_below HQ_13.out (hb)
       have HF_14 : Hid (HAt (w9) (w5.heap.size) 0 ⟨fw, fh, fk, fl⟩) := hat_below HF_13.out (hb)
       have HDK_14 : Hid (KnAt (w9) (w6.heap.size) ⟨kh, kr, kf, kw⟩) := knat_below HDK_13.out (hb)
       have HBB_14 : Hid (HAt (w9) (w7.heap.size) 0 ⟨0, 0, 0, 0⟩) := hat_below HBB_13.out (hb)
       have HL_14 : Hid (LiesT (w9) g L) := HL_13.out.below (hb)
       have HLX_14 : Hid (LiesT (w9) gx []) := HLX_13.out.below (hb)
       have HQL_14 : Hid (LiesT (w9) g2 Q) := HQL_13.out.below (hb)
       have HPL_14 : Hid (LiesT (w9) g3 P) := HPL_13.out.below (hb)
       have HLA_14 : Hid (LiesT (w9) ga []) := HLA_13.out.below (hb)
       have HB_14 : Hid (Below w.heap.size w (w9)) := HB_13.out.trans ((hb).mono HB_13.out.size)
       clear HL_13 HLX_13 HQL_13 HPL_13 HLA_13 HB_13 HH_13 HY_13 HQ_13 HF_13 HDK_13 HBB_13
       obtain ⟨c5a, c5b, c5c, c5d⟩ := cellsH HF_14.out
       dsimp only at c5a c5b c5c c5d
       go_wp2_with fail
       refine (SD.out _ HPL_14.out).mono ?_
       rintro e w10 ⟨rfl, hb⟩
       have HH_15 : Hid (HAt (w10) (w1.heap.size) 0 ⟨who, has, kept, last⟩) := hat_below HH_14.out (hb)
       have HY_15 : Hid (HAt (w10) (w2.heap.size) 0 ⟨0, 0, 0, 0⟩) := hat_below HY_14.out (hb)
       have HQ_15 : Hid (HAt (w10) (w3.heap.size) 0 ⟨qw, qh, qk, ql⟩) := hat_below HQ_14.out (hb)
       have HF_15 : Hid (HAt (w10) (w5.heap.size) 0 ⟨fw, fh, fk, fl⟩) := hat_below HF_14.out (hb)
       have HDK_15 : Hid (KnAt (w10) (w6.heap.size) ⟨kh, kr, kf, kw⟩) := knat_below HDK_14.out (hb)
       have HBB_15 : Hid (HAt (w10) (w7.heap.size) 0 ⟨0, 0, 0, 0⟩) := hat_below HBB_14.out (hb)
       have HL_15 : Hid (LiesT (w10) g L) := HL_14.out.below (hb)
       have HLX_15 : Hid (LiesT (w10) gx []) := HLX_14.out.below (hb)
       have HQL_15 : Hid (LiesT (w10) g2 Q) := HQL_14.out.below (hb)
       have HPL_15 : Hid (LiesT (w10) g3 P) := HPL_14.out.below (hb)
       have HLA_15 : Hid (LiesT (w10) ga []) := HLA_14.out.below (hb)
       have HB_15 : Hid (Below w.heap.size w (w10)) := HB_14.out.trans ((hb).mono HB_14.out.size)
       clear HL_14 HLX_14 HQL_14 HPL_14 HLA_14 HB_14 HH_14 HY_14 HQ_14 HF_14 HDK_14 HBB_14
       have HH_16 : Hid (HAt (w10.alloc (.cells #[.int .i64 kh, .int .i64 kr, .int .i64 kf, .string kw] 36)) (w1.heap.size) 0 ⟨who, has, kept, last⟩) := hat_below HH_15.out ((Below.refl _ w10).alloc (Nat.le_refl _) _)
       have HY_16 : Hid (HAt (w10.alloc (.cells #[.int .i64 kh, .int .i64 kr, .int .i64 kf, .string kw] 36)) (w2.heap.size) 0 ⟨0, 0, 0, 0⟩) := hat_below HY_15.out ((Below.refl _ w10).alloc (Nat.le_refl _) _)
       have HQ_16 : Hid (HAt (w10.alloc (.cells #[.int .i64 kh, .int .i64 kr, .int .i64 kf, .string kw] 36)) (w3.heap.size) 0 ⟨qw, qh, qk, ql⟩) := hat_below HQ_15.out ((Below.refl _ w10).alloc (Nat.le_refl _) _)
       have HF_16 : Hid (HAt (w10.alloc (.cells #[.int .i64 kh, .int .i64 kr, .int .i64 kf, .string kw] 36)) (w5.heap.size) 0 ⟨fw, fh, fk, fl⟩) := hat_below HF_15.out ((Below.refl _ w10).alloc (Nat.le_refl _) _)
       have HDK_16 : Hid (KnAt (w10.alloc (.cells #[.int .i64 kh, .int .i64 kr, .int .i64 kf, .string kw] 36)) (w6.heap.size) ⟨kh, kr, kf, kw⟩) := knat_below HDK_15.out ((Below.refl _ w10).alloc (Nat.le_refl _) _)
       have HBB_16 : Hid (HAt (w10.alloc (.cells #[.int .i64 kh, .int .i64 kr, .int .i64 kf, .string kw] 36)) (w7.heap.size) 0 ⟨0, 0, 0, 0⟩) := hat_below HBB_15.out ((Below.refl _ w10).alloc (Nat.le_refl _) _)
       have HL_16 : Hid (LiesT (w10.alloc (.cells #[.int .i64 kh, .int .i64 kr, .int .i64 kf, .string kw] 36)) g L) := HL_15.out.below ((Below.refl _ w10).alloc (Nat.le_refl _) _)
       have HLX_16 : Hid (LiesT (w10.alloc (.cells #[.int .i64 kh, .int .i64 kr, .int .i64 kf, .string kw] 36)) gx []) := HLX_15.out.below ((Below.refl _ w10).alloc (Nat.le_refl _) _)
       have HQL_16 : Hid (LiesT (w10.alloc (.cells #[.int .i64 kh, .int .i64 kr, .int .i64 kf, .string kw] 36)) g2 Q) := HQL_15.out.below ((Below.refl _ w10).alloc (Nat.le_refl _) _)
       have HPL_16 : Hid (LiesT (w10.alloc (.cells #[.int .i64 kh, .int .i64 kr, .int .i64 kf, .string kw] 36)) g3 P) := HPL_15.out.below ((Below.refl _ w10).alloc (Nat.le_refl _) _)
       have HLA_16 : Hid (LiesT (w10.alloc (.cells #[.int .i64 kh, .int .i64 kr, .int .i64 kf, .string kw] 36)) ga []) := HLA_15.out.below ((Below.refl _ w10).alloc (Nat.le_refl _) _)
       have HB_16 : Hid (Below w.heap.size w (w10.alloc (.cells #[.int .i64 kh, .int .i64 kr, .int .i64 kf, .string kw] 36))) := HB_15.out.trans (((Below.refl _ w10).alloc (Nat.le_refl _) _).mono HB_15.out.size)
       have HDA_16 : Hid (KnAt (w10.alloc (.cells #[.int .i64 kh, .int .i64 kr, .int .i64 kf, .string kw] 36)) (w10.heap.size) ⟨kh, kr, kf, kw⟩) := knat_new w10 ⟨kh, kr, kf, kw⟩ _
       clear HL_15 HLX_15 HQL_15 HPL_15 HLA_15 HB_15 HH_15 HY_15 HQ_15 HF_15 HDK_15 HBB_15
       have ek := knot_ne kh kr kf kw
       obtain ⟨X1, _, F1, HFz1, HG1⟩ := Fam.fam ((w10.alloc (.cells #[.int .i64 kh, .int .i64 kr, .int .i64 kf, .string kw] 36)))
       have y00 : ∀ z, (F1 z).cell? ⟨w5.heap.size, 0, none⟩ = some (.int .i64 fw) := fun z => (cellsH (hat_below HF_16.out (HFz1.out z))).1
       have y01 : ∀ z, (F1 z).cell? ⟨w5.heap.size, 1, none⟩ = some (.int .i64 fh) := fun z => (cellsH (hat_below HF_16.out (HFz1.out z))).2.1
       have y02 : ∀ z, (F1 z).cell? ⟨w5.heap.size, 2, none⟩ = some (.int .i64 fk) := fun z => (cellsH (hat_below HF_16.out (HFz1.out z))).2.2.1
       have y03 : ∀ z, (F1 z).cell? ⟨w5.heap.size, 3, none⟩ = some (.int .i64 fl) := fun z => (cellsH (hat_below HF_16.out (HFz1.out z))).2.2.2
       have y10 : ∀ z, (F1 z).cell? ⟨w6.heap.size, 0, none⟩ = some (.int .i64 kh) := fun z => (knat_cells (knat_below HDK_16.out (HFz1.out z))).1
       have y11 : ∀ z, (F1 z).cell? ⟨w6.heap.size, 1, none⟩ = some (.int .i64 kr) := fun z => (knat_cells (knat_below HDK_16.out (HFz1.out z))).2.1
       have y12 : ∀ z, (F1 z).cell? ⟨w6.heap.size, 2, none⟩ = some (.int .i64 kf) := fun z => (knat_cells (knat_below HDK_16.out (HFz1.out z))).2.2.1
       have y13 : ∀ z, (F1 z).cell? ⟨w6.heap.size, 3, none⟩ = some (.string kw) := fun z => (knat_cells (knat_below HDK_16.out (HFz1.out z))).2.2.2
       have y20 : ∀ z, (F1 z).cell? ⟨w10.heap.size, 0, none⟩ = some (.int .i64 kh) := fun z => (knat_cells (knat_below HDA_16.out (HFz1.out z))).1
       have y21 : ∀ z, (F1 z).cell? ⟨w10.heap.size, 1, none⟩ = some (.int .i64 kr) := fun z => (knat_cells (knat_below HDA_16.out (HFz1.out z))).2.1
       have y22 : ∀ z, (F1 z).cell? ⟨w10.heap.size, 2, none⟩ = some (.int .i64 kf) := fun z => (knat_cells (knat_below HDA_16.out (HFz1.out z))).2.2.1
       have y23 : ∀ z, (F1 z).cell? ⟨w10.heap.size, 3, none⟩ = some (.string kw) := fun z => (knat_cells (knat_below HDA_16.out (HFz1.out z))).2.2.2
       have HLz : Hid (∀ z, LiesT (F1 z) g L) := fun z => HL_16.out.below (HFz1.out z)
       have HLXz : Hid (∀ z, LiesT (F1 z) gx []) := fun z => HLX_16.out.below (HFz1.out z)
       have HQLz : Hid (∀ z, LiesT (F1 z) g2 Q) := fun z => HQL_16.out.below (HFz1.out z)
       have HPLz : Hid (∀ z, LiesT (F1 z) g3 P) := fun z => HPL_16.out.below (HFz1.out z)
       have HLAz : Hid (∀ z, LiesT (F1 z) ga []) := fun z => HLA_16.out.below (HFz1.out z)
       go_wp2_with fail
       refine Fam.region (F := F1) (by kernel_rfl) (by kernel_rfl) (HG1.out _ (Below.refl _ _).drew) ?_
       repeat (go_big_quiet_step (first
         | (go_at_call 28; exact (KOK.out _).mono fun _ _ h => ⟨h.1, HG1.out _ ((HFz1.out _).trans (h.2.mono (HFz1.out _).size))⟩)
         | (go_at_call 26; exact (SP.out _ (HPLz.out _)).mono fun _ _ h => ⟨h.1, HG1.out _ ((HFz1.out _).trans (h.2.mono (HFz1.out _).size))⟩)))
       refine wpQuiet_nil ?_
       intro wz hwz
       obtain ⟨z1, rfl⟩ := hwz
       have HH_17 : Hid (HAt (F1 z1) (w1.heap.size) 0 ⟨who, has, kept, last⟩) := hat_below HH_16.out (HFz1.out z1)
       have HY_17 : Hid (HAt (F1 z1) (w2.heap.size) 0 ⟨0, 0, 0, 0⟩) := hat_below HY_16.out (HFz1.out z1)
       have HQ_17 : Hid (HAt (F1 z1) (w3.heap.size) 0 ⟨qw, qh, qk, ql⟩) := hat_below HQ_16.out (HFz1.out z1)
       have HF_17 : Hid (HAt (F1 z1) (w5.heap.size) 0 ⟨fw, fh, fk, fl⟩) := hat_below HF_16.out (HFz1.out z1)
       have HDK_17 : Hid (KnAt (F1 z1) (w6.heap.size) ⟨kh, kr, kf, kw⟩) := knat_below HDK_16.out (HFz1.out z1)
       have HBB_17 : Hid (HAt (F1 z1) (w7.heap.size) 0 ⟨0, 0, 0, 0⟩) := hat_below HBB_16.out (HFz1.out z1)
       have HDA_17 : Hid (KnAt (F1 z1) (w10.heap.size) ⟨kh, kr, kf, kw⟩) := knat_below HDA_16.out (HFz1.out z1)
       have HL_17 : Hid (LiesT (F1 z1) g L) := HL_16.out.below (HFz1.out z1)
       have HLX_17 : Hid (LiesT (F1 z1) gx []) := HLX_16.out.below (HFz1.out z1)
       have HQL_17 : Hid (LiesT (F1 z1) g2 Q) := HQL_16.out.below (HFz1.out z1)
       have HPL_17 : Hid (LiesT (F1 z1) g3 P) := HPL_16.out.below (HFz1.out z1)
       have HLA_17 : Hid (LiesT (F1 z1) ga []) := HLA_16.out.below (HFz1.out z1)
       have HB_17 : Hid (Below w.heap.size w (F1 z1)) := HB_16.out.trans ((HFz1.out z1).mono HB_16.out.size)
       clear HL_16 HLX_16 HQL_16 HPL_16 HLA_16 HB_16 HH_16 HY_16 HQ_16 HF_16 HDK_16 HBB_16 HDA_16
       generalize F1 z1 = wv at HH_17 HY_17 HQ_17 HF_17 HDK_17 HBB_17 HDA_17 HL_17 HLX_17 HQL_17 HPL_17 HLA_17 HB_17 ⊢
       clear HFz1 HG1 HLz HLXz HQLz HPLz HLAz y00 y01 y02 y03 y10 y11 y12 y13 y20 y21 y22 y23
       clear ex ek
       clear HQL_17 HPL_17 HLA_17 HQ_17 HF_17 HDK_17 HBB_17 HDA_17
       obtain ⟨c6a, c6b, c6c, c6d⟩ := cellsH HH_17.out
       dsimp only at c6a c6b c6c c6d
       go_wp2_with fail
       refine (SO.out _ HL_17.out).mono ?_
       rintro e w11 ⟨rfl, hb⟩
       have HH_18 : Hid (HAt (w11) (w1.heap.size) 0 ⟨who, has, kept, last⟩) := hat_below HH_17.out (hb)
       have HY_18 : Hid (HAt (w11) (w2.heap.size) 0 ⟨0, 0, 0, 0⟩) := hat_below HY_17.out (hb)
       have HL_18 : Hid (LiesT (w11) g L) := HL_17.out.below (hb)
       have HLX_18 : Hid (LiesT (w11) gx []) := HLX_17.out.below (hb)
       have HB_18 : Hid (Below w.heap.size w (w11)) := HB_17.out.trans ((hb).mono HB_17.out.size)
       clear HL_17 HLX_17 HB_17 HH_17 HY_17
       obtain ⟨c7a, c7b, c7c, c7d⟩ := cellsH HY_18.out
       dsimp only at c7a c7b c7c c7d
       have ez := hand_eq 0 0 0 0
       have HE : Hid (Below w.heap.size w w11) := HB_18.out
       go_wp2
       go_ret
       exact ⟨rfl, HE.out⟩
   · cases htb : tieB L h wd
     · have e1 : tiesH L h wd = h := by unfold tiesH; rw [hok, htb]; rfl
       have e2 : tiesB L h wd = false := by unfold tiesB; rw [hok, htb]; rfl
       have e3 : tiesL L h wd = L := by unfold tiesL; rw [hok, htb]; rfl
       have SX := SX0
       have HX := HX0
       rw [e1, e2, e3] at SX HX
       rw [hok] at SO
       have LK : Hid (∀ (W : World) (a b ca cb : Nat), LiesT W a L → LiesT W b L → _) := fun W a b ca cb ha hb => likeS W a b ca cb L ha hb
       clear SX0 HX0 e1 e2 e3 h64 hwd htb
       obtain ⟨who, has, kept, last⟩ := h
       dsimp only at SX SO HX
       have HL_1 : Hid (LiesT (w1.alloc (.cells #[.int .i64 who, .int .i64 has, .int .i64 kept, .int .i64 last] 26)) g L) := HL_0.out.below ((Below.refl _ w1).alloc (Nat.le_refl _) _)
       have HB_1 : Hid (Below w.heap.size w (w1.alloc (.cells #[.int .i64 who, .int .i64 has, .int .i64 kept, .int .i64 last] 26))) := HB_0.out.trans (((Below.refl _ w1).alloc (Nat.le_refl _) _).mono HB_0.out.size)
       have HH_1 : Hid (HAt (w1.alloc (.cells #[.int .i64 who, .int .i64 has, .int .i64 kept, .int .i64 last] 26)) (w1.heap.size) 0 ⟨who, has, kept, last⟩) := hat_new w1 ⟨who, has, kept, last⟩ _
       clear HL_0 HB_0 
       go_wp2_with fail
       refine (HX.out _ HL_1.out).mono ?_
       rintro e w2 ⟨gx, cx, rfl, hcx, hlx, hb⟩
       have HH_2 : Hid (HAt (w2) (w1.heap.size) 0 ⟨who, has, kept, last⟩) := hat_below HH_1.out (hb)
       have HL_2 : Hid (LiesT (w2) g L) := HL_1.out.below (hb)
       have HB_2 : Hid (Below w.heap.size w (w2)) := HB_1.out.trans ((hb).mono HB_1.out.size)
       clear HL_1 HB_1 HH_1
       have HLX_2 : Hid (LiesT (w2) gx L) := hlx
       clear hlx
       have HH_3 : Hid (HAt (w2.alloc (.cells #[.int .i64 who, .int .i64 has, .int .i64 kept, .int .i64 last] 26)) (w1.heap.size) 0 ⟨who, has, kept, last⟩) := hat_below HH_2.out ((Below.refl _ w2).alloc (Nat.le_refl _) _)
       have HL_3 : Hid (LiesT (w2.alloc (.cells #[.int .i64 who, .int .i64 has, .int .i64 kept, .int .i64 last] 26)) g L) := HL_2.out.below ((Below.refl _ w2).alloc (Nat.le_refl _) _)
       have HLX_3 : Hid (LiesT (w2.alloc (.cells #[.int .i64 who, .int .i64 has, .int .i64 kept, .int .i64 last] 26)) gx L) := HLX_2.out.below ((Below.refl _ w2).alloc (Nat.le_refl _) _)
       have HB_3 : Hid (Below w.heap.size w (w2.alloc (.cells #[.int .i64 who, .int .i64 has, .int .i64 kept, .int .i64 last] 26))) := HB_2.out.trans (((Below.refl _ w2).alloc (Nat.le_refl _) _).mono HB_2.out.size)
       have HY_3 : Hid (HAt (w2.alloc (.cells #[.int .i64 who, .int .i64 has, .int .i64 kept, .int .i64 last] 26)) (w2.heap.size) 0 ⟨who, has, kept, last⟩) := hat_new w2 ⟨who, has, kept, last⟩ _
       clear HL_2 HLX_2 HB_2 HH_2
       go_wp2_with fail
       refine (drawNextRound HDD.out HDX.out a0 len0 cap0 _ hle0 (code_below2 HCode.out HB_3.out)).mono ?_
       rintro e w3 ⟨v2, Q, gq, rfl, hD2⟩
       obtain ⟨g2, cp2, rfl, hcp2, hM⟩ := drawn_liesS hD2.dr
       have g64 := hD2.h64
       have HH_4 : Hid (HAt (w3) (w1.heap.size) 0 ⟨who, has, kept, last⟩) := hat_below HH_3.out (hD2.dr.bel)
       have HY_4 : Hid (HAt (w3) (w2.heap.size) 0 ⟨who, has, kept, last⟩) := hat_below HY_3.out (hD2.dr.bel)
       have HL_4 : Hid (LiesT (w3) g L) := HL_3.out.below (hD2.dr.bel)
       have HLX_4 : Hid (LiesT (w3) gx L) := HLX_3.out.below (hD2.dr.bel)
       have HB_4 : Hid (Below w.heap.size w (w3)) := HB_3.out.trans ((hD2.dr.bel).mono HB_3.out.size)
       clear HL_3 HLX_3 HB_3 HH_3 HY_3
       have HQL_4 : Hid (LiesT w3 g2 Q) := ⟨hM.rd, hM.len, hM.words, HNO.out.below HB_4.out⟩
       have NQ : Hid (∀ W : World, LiesT W g2 Q → _) := fun W hW => H2.out g2 cp2 Q gq W hW hcp2 g64
       have SQ : Hid (∀ W : World, LiesT W g2 Q → _) := fun W hW => specNextRound g2 0 cp2 Q gq W hcp2 hW.words hW.rd g64
       generalize nextRI Q gq = rq at NQ SQ
       clear hD2 hM g64
       obtain ⟨qw, qh, qk, ql⟩ := gq
       dsimp only at NQ SQ
       have HH_5 : Hid (HAt (w3.alloc (.cells #[.int .i64 qw, .int .i64 qh, .int .i64 qk, .int .i64 ql] 26)) (w1.heap.size) 0 ⟨who, has, kept, last⟩) := hat_below HH_4.out ((Below.refl _ w3).alloc (Nat.le_refl _) _)
       have HY_5 : Hid (HAt (w3.alloc (.cells #[.int .i64 qw, .int .i64 qh, .int .i64 qk, .int .i64 ql] 26)) (w2.heap.size) 0 ⟨who, has, kept, last⟩) := hat_below HY_4.out ((Below.refl _ w3).alloc (Nat.le_refl _) _)
       have HL_5 : Hid (LiesT (w3.alloc (.cells #[.int .i64 qw, .int .i64 qh, .int .i64 qk, .int .i64 ql] 26)) g L) := HL_4.out.below ((Below.refl _ w3).alloc (Nat.le_refl _) _)
       have HLX_5 : Hid (LiesT (w3.alloc (.cells #[.int .i64 qw, .int .i64 qh, .int .i64 qk, .int .i64 ql] 26)) gx L) := HLX_4.out.below ((Below.refl _ w3).alloc (Nat.le_refl _) _)
       have HQL_5 : Hid (LiesT (w3.alloc (.cells #[.int .i64 qw, .int .i64 qh, .int .i64 qk, .int .i64 ql] 26)) g2 Q) := HQL_4.out.below ((Below.refl _ w3).alloc (Nat.le_refl _) _)
       have HB_5 : Hid (Below w.heap.size w (w3.alloc (.cells #[.int .i64 qw, .int .i64 qh, .int .i64 qk, .int .i64 ql] 26))) := HB_4.out.trans (((Below.refl _ w3).alloc (Nat.le_refl _) _).mono HB_4.out.size)
       have HQ_5 : Hid (HAt (w3.alloc (.cells #[.int .i64 qw, .int .i64 qh, .int .i64 qk, .int .i64 ql] 26)) (w3.heap.size) 0 ⟨qw, qh, qk, ql⟩) := hat_new w3 ⟨qw, qh, qk, ql⟩ _
       clear HL_4 HLX_4 HQL_4 HB_4 HH_4 HY_4
       go_wp2_with fail
       refine (NQ.out _ HQL_5.out).mono ?_
       rintro e w4 ⟨rfl, hb⟩
       have HH_6 : Hid (HAt (w4) (w1.heap.size) 0 ⟨who, has, kept, last⟩) := hat_below HH_5.out (hb)
       have HY_6 : Hid (HAt (w4) (w2.heap.size) 0 ⟨who, has, kept, last⟩) := hat_below HY_5.out (hb)
       have HQ_6 : Hid (HAt (w4) (w3.heap.size) 0 ⟨qw, qh, qk, ql⟩) := hat_below HQ_5.out (hb)
       have HL_6 : Hid (LiesT (w4) g L) := HL_5.out.below (hb)
       have HLX_6 : Hid (LiesT (w4) gx L) := HLX_5.out.below (hb)
       have HQL_6 : Hid (LiesT (w4) g2 Q) := HQL_5.out.below (hb)
       have HB_6 : Hid (Below w.heap.size w (w4)) := HB_5.out.trans ((hb).mono HB_5.out.size)
       clear HL_5 HLX_5 HQL_5 HB_5 HH_5 HY_5 HQ_5
       go_wp2_with fail
       refine (drawDraft HDD.out HDX.out a0 len0 cap0 _ hle0 (code_below2 HCode.out HB_6.out)).mono ?_
       rintro e w5 ⟨v3, P, gp, dw, rfl, hD3, hdw⟩
       obtain ⟨g3, cp3, rfl, hcp3, hN⟩ := drawn_liesS hD3.dr
       have p64 := hD3.h64
       have HH_7 : Hid (HAt (w5) (w1.heap.size) 0 ⟨who, has, kept, last⟩) := hat_below HH_6.out (hD3.dr.bel)
       have HY_7 : Hid (HAt (w5) (w2.heap.size) 0 ⟨who, has, kept, last⟩) := hat_below HY_6.out (hD3.dr.bel)
       have HQ_7 : Hid (HAt (w5) (w3.heap.size) 0 ⟨qw, qh, qk, ql⟩) := hat_below HQ_6.out (hD3.dr.bel)
       have HL_7 : Hid (LiesT (w5) g L) := HL_6.out.below (hD3.dr.bel)
       have HLX_7 : Hid (LiesT (w5) gx L) := HLX_6.out.below (hD3.dr.bel)
       have HQL_7 : Hid (LiesT (w5) g2 Q) := HQL_6.out.below (hD3.dr.bel)
       have HB_7 : Hid (Below w.heap.size w (w5)) := HB_6.out.trans ((hD3.dr.bel).mono HB_6.out.size)
       clear HL_6 HLX_6 HQL_6 HB_6 HH_6 HY_6 HQ_6
       have HPL_7 : Hid (LiesT w5 g3 P) := ⟨hN.rd, hN.len, hN.words, HNO.out.below HB_7.out⟩
       clear hD3 hN
       have ND0 : Hid (∀ W : World, LiesT W g3 P → _) := fun W hW => H3.out g3 cp3 P gp dw W hW hcp3 p64 (by omega)
       have SD0 : Hid (∀ W : World, LiesT W g3 P → _) := fun W hW => specDraft g3 0 cp3 P gp dw W hcp3 hW.words hW.rd p64 (by omega)
       have SP0 : Hid (∀ W : World, LiesT W g3 P → _) := fun W hW => specNextRound g3 0 cp3 P gp W hcp3 hW.words hW.rd p64
       clear hdw
       cases hfi : draftedB P gp dw
       · have ND := ND0
         have SD := SD0
         rw [hfi] at ND SD
         clear ND0 SD0
         generalize hdk : draftedK P gp dw = dk at ND SD
         clear SP0 hfi hdk
         obtain ⟨kh, kr, kf, kw⟩ := dk
         obtain ⟨fw, fh, fk, fl⟩ := gp
         dsimp only at ND SD
         have HH_8 : Hid (HAt (w5.alloc (.cells #[.int .i64 fw, .int .i64 fh, .int .i64 fk, .int .i64 fl] 26)) (w1.heap.size) 0 ⟨who, has, kept, last⟩) := hat_below HH_7.out ((Below.refl _ w5).alloc (Nat.le_refl _) _)
         have HY_8 : Hid (HAt (w5.alloc (.cells #[.int .i64 fw, .int .i64 fh, .int .i64 fk, .int .i64 fl] 26)) (w2.heap.size) 0 ⟨who, has, kept, last⟩) := hat_below HY_7.out ((Below.refl _ w5).alloc (Nat.le_refl _) _)
         have HQ_8 : Hid (HAt (w5.alloc (.cells #[.int .i64 fw, .int .i64 fh, .int .i64 fk, .int .i64 fl] 26)) (w3.heap.size) 0 ⟨qw, qh, qk, ql⟩) := hat_below HQ_7.out ((Below.refl _ w5).alloc (Nat.le_refl _) _)
         have HL_8 : Hid (LiesT (w5.alloc (.cells #[.int .i64 fw, .int .i64 fh, .int .i64 fk, .int .i64 fl] 26)) g L) := HL_7.out.below ((Below.refl _ w5).alloc (Nat.le_refl _) _)
         have HLX_8 : Hid (LiesT (w5.alloc (.cells #[.int .i64 fw, .int .i64 fh, .int .i64 fk, .int .i64 fl] 26)) gx L) := HLX_7.out.below ((Below.refl _ w5).alloc (Nat.le_refl _) _)
         have HQL_8 : Hid (LiesT (w5.alloc (.cells #[.int .i64 fw, .int .i64 fh, .int .i64 fk, .int .i64 fl] 26)) g2 Q) := HQL_7.out.below ((Below.refl _ w5).alloc (Nat.le_refl _) _)
         have HPL_8 : Hid (LiesT (w5.alloc (.cells #[.int .i64 fw, .int .i64 fh, .int .i64 fk, .int .i64 fl] 26)) g3 P) := HPL_7.out.below ((Below.refl _ w5).alloc (Nat.le_refl _) _)
         have HB_8 : Hid (Below w.heap.size w (w5.alloc (.cells #[.int .i64 fw, .int .i64 fh, .int .i64 fk, .int .i64 fl] 26))) := HB_7.out.trans (((Below.refl _ w5).alloc (Nat.le_refl _) _).mono HB_7.out.size)
         have HF_8 : Hid (HAt (w5.alloc (.cells #[.int .i64 fw, .int .i64 fh, .int .i64 fk, .int .i64 fl] 26)) (w5.heap.size) 0 ⟨fw, fh, fk, fl⟩) := hat_new w5 ⟨fw, fh, fk, fl⟩ _
         clear HL_7 HLX_7 HQL_7 HPL_7 HB_7 HH_7 HY_7 HQ_7
         go_wp2_with fail
         refine (ND.out _ HPL_8.out).mono ?_
         rintro e w6 ⟨rfl, hb⟩
         have HH_9 : Hid (HAt (w6) (w1.heap.size) 0 ⟨who, has, kept, last⟩) := hat_below HH_8.out (hb)
         have HY_9 : Hid (HAt (w6) (w2.heap.size) 0 ⟨who, has, kept, last⟩) := hat_below HY_8.out (hb)
         have HQ_9 : Hid (HAt (w6) (w3.heap.size) 0 ⟨qw, qh, qk, ql⟩) := hat_below HQ_8.out (hb)
         have HF_9 : Hid (HAt (w6) (w5.heap.size) 0 ⟨fw, fh, fk, fl⟩) := hat_below HF_8.out (hb)
         have HL_9 : Hid (LiesT (w6) g L) := HL_8.out.below (hb)
         have HLX_9 : Hid (LiesT (w6) gx L) := HLX_8.out.below (hb)
         have HQL_9 : Hid (LiesT (w6) g2 Q) := HQL_8.out.below (hb)
         have HPL_9 : Hid (LiesT (w6) g3 P) := HPL_8.out.below (hb)
         have HB_9 : Hid (Below w.heap.size w (w6)) := HB_8.out.trans ((hb).mono HB_8.out.size)
         clear HL_8 HLX_8 HQL_8 HPL_8 HB_8 HH_8 HY_8 HQ_8 HF_8
         have HH_10 : Hid (HAt (w6.alloc (.cells #[.int .i64 kh, .int .i64 kr, .int .i64 kf, .string kw] 36)) (w1.heap.size) 0 ⟨who, has, kept, last⟩) := hat_below HH_9.out ((Below.refl _ w6).alloc (Nat.le_refl _) _)
         have HY_10 : Hid (HAt (w6.alloc (.cells #[.int .i64 kh, .int .i64 kr, .int .i64 kf, .string kw] 36)) (w2.heap.size) 0 ⟨who, has, kept, last⟩) := hat_below HY_9.out ((Below.refl _ w6).alloc (Nat.le_refl _) _)
         have HQ_10 : Hid (HAt (w6.alloc (.cells #[.int .i64 kh, .int .i64 kr, .int .i64 kf, .string kw] 36)) (w3.heap.size) 0 ⟨qw, qh, qk, ql⟩) := hat_below HQ_9.out ((Below.refl _ w6).alloc (Nat.le_refl _) _)
         have HF_10 : Hid (HAt (w6.alloc (.cells #[.int .i64 kh, .int .i64 kr, .int .i64 kf, .string kw] 36)) (w5.heap.size) 0 ⟨fw, fh, fk, fl⟩) := hat_below HF_9.out ((Below.refl _ w6).alloc (Nat.le_refl _) _)
         have HL_10 : Hid (LiesT (w6.alloc (.cells #[.int .i64 kh, .int .i64 kr, .int .i64 kf, .string kw] 36)) g L) := HL_9.out.below ((Below.refl _ w6).alloc (Nat.le_refl _) _)
         have HLX_10 : Hid (LiesT (w6.alloc (.cells #[.int .i64 kh, .int .i64 kr, .int .i64 kf, .string kw] 36)) gx L) := HLX_9.out.below ((Below.refl _ w6).alloc (Nat.le_refl _) _)
         have HQL_10 : Hid (LiesT (w6.alloc (.cells #[.int .i64 kh, .int .i64 kr, .int .i64 kf, .string kw] 36)) g2 Q) := HQL_9.out.below ((Below.refl _ w6).alloc (Nat.le_refl _) _)
         have HPL_10 : Hid (LiesT (w6.alloc (.cells #[.int .i64 kh, .int .i64 kr, .int .i64 kf, .string kw] 36)) g3 P) := HPL_9.out.below ((Below.refl _ w6).alloc (Nat.le_refl _) _)
         have HB_10 : Hid (Below w.heap.size w (w6.alloc (.cells #[.int .i64 kh, .int .i64 kr, .int .i64 kf, .string kw] 36))) := HB_9.out.trans (((Below.refl _ w6).alloc (Nat.le_refl _) _).mono HB_9.out.size)
         have HDK_10 : Hid (KnAt (w6.alloc (.cells #[.int .i64 kh, .int .i64 kr, .int .i64 kf, .string kw] 36)) (w6.heap.size) ⟨kh, kr, kf, kw⟩) := knat_new w6 ⟨kh, kr, kf, kw⟩ _
         clear HL_9 HLX_9 HQL_9 HPL_9 HB_9 HH_9 HY_9 HQ_9 HF_9
         obtain ⟨c1a, c1b, c1c, c1d⟩ := cellsH HH_10.out
         dsimp only at c1a c1b c1c c1d
         go_wp2_with fail
         refine (SX.out _ HL_10.out).mono ?_
         rintro e w7 ⟨ga, ca, rfl, hca, hla, hb⟩
         have HH_11 : Hid (HAt (w7) (w1.heap.size) 0 ⟨who, has, kept, last⟩) := hat_below HH_10.out (hb)
         have HY_11 : Hid (HAt (w7) (w2.heap.size) 0 ⟨who, has, kept, last⟩) := hat_below HY_10.out (hb)
         have HQ_11 : Hid (HAt (w7) (w3.heap.size) 0 ⟨qw, qh, qk, ql⟩) := hat_below HQ_10.out (hb)
         have HF_11 : Hid (HAt (w7) (w5.heap.size) 0 ⟨fw, fh, fk, fl⟩) := hat_below HF_10.out (hb)
         have HDK_11 : Hid (KnAt (w7) (w6.heap.size) ⟨kh, kr, kf, kw⟩) := knat_below HDK_10.out (hb)
         have HL_11 : Hid (LiesT (w7) g L) := HL_10.out.below (hb)
         have HLX_11 : Hid (LiesT (w7) gx L) := HLX_10.out.below (hb)
         have HQL_11 : Hid (LiesT (w7) g2 Q) := HQL_10.out.below (hb)
         have HPL_11 : Hid (LiesT (w7) g3 P) := HPL_10.out.below (hb)
         have HB_11 : Hid (Below w.heap.size w (w7)) := HB_10.out.trans ((hb).mono HB_10.out.size)
         clear HL_10 HLX_10 HQL_10 HPL_10 HB_10 HH_10 HY_10 HQ_10 HF_10 HDK_10
         have HLA_11 : Hid (LiesT (w7) ga L) := hla
         clear hla
         have HH_12 : Hid (HAt (w7.alloc (.cells #[.int .i64 who, .int .i64 has, .int .i64 kept, .int .i64 last] 26)) (w1.heap.size) 0 ⟨who, has, kept, last⟩) := hat_below HH_11.out ((Below.refl _ w7).alloc (Nat.le_refl _) _)
         have HY_12 : Hid (HAt (w7.alloc (.cells #[.int .i64 who, .int .i64 has, .int .i64 kept, .int .i64 last] 26)) (w2.heap.size) 0 ⟨who, has, kept, last⟩) := hat_below HY_11.out ((Below.refl _ w7).alloc (Nat.le_refl _) _)
         have HQ_12 : Hid (HAt (w7.alloc (.cells #[.int .i64 who, .int .i64 has, .int .i64 kept, .int .i64 last] 26)) (w3.heap.size) 0 ⟨qw, qh, qk, ql⟩) := hat_below HQ_11.out ((Below.refl _ w7).alloc (Nat.le_refl _) _)
         have HF_12 : Hid (HAt (w7.alloc (.cells #[.int .i64 who, .int .i64 has, .int .i64 kept, .int .i64 last] 26)) (w5.heap.size) 0 ⟨fw, fh, fk, fl⟩) := hat_below HF_11.out ((Below.refl _ w7).alloc (Nat.le_refl _) _)
         have HDK_12 : Hid (KnAt (w7.alloc (.cells #[.int .i64 who, .int .i64 has, .int .i64 kept, .int .i64 last] 26)) (w6.heap.size) ⟨kh, kr, kf, kw⟩) := knat_below HDK_11.out ((Below.refl _ w7).alloc (Nat.le_refl _) _)
         have HL_12 : Hid (LiesT (w7.alloc (.cells #[.int .i64 who, .int .i64 has, .int .i64 kept, .int .i64 last] 26)) g L) := HL_11.out.below ((Below.refl _ w7).alloc (Nat.le_refl _) _)
         have HLX_12 : Hid (LiesT (w7.alloc (.cells #[.int .i64 who, .int .i64 has, .int .i64 kept, .int .i64 last] 26)) gx L) := HLX_11.out.below ((Below.refl _ w7).alloc (Nat.le_refl _) _)
         have HQL_12 : Hid (LiesT (w7.alloc (.cells #[.int .i64 who, .int .i64 has, .int .i64 kept, .int .i64 last] 26)) g2 Q) := HQL_11.out.below ((Below.refl _ w7).alloc (Nat.le_refl _) _)
         have HPL_12 : Hid (LiesT (w7.alloc (.cells #[.int .i64 who, .int .i64 has, .int .i64 kept, .int .i64 last] 26)) g3 P) := HPL_11.out.below ((Below.refl _ w7).alloc (Nat.le_refl _) _)
         have HLA_12 : Hid (LiesT (w7.alloc (.cells #[.int .i64 who, .int .i64 has, .int .i64 kept, .int .i64 last] 26)) ga L) := HLA_11.out.below ((Below.refl _ w7).alloc (Nat.le_refl _) _)
         have HB_12 : Hid (Below w.heap.size w (w7.alloc (.cells #[.int .i64 who, .int .i64 has, .int .i64 kept, .int .i64 last] 26))) := HB_11.out.trans (((Below.refl _ w7).alloc (Nat.le_refl _) _).mono HB_11.out.size)
         have HBB_12 : Hid (HAt (w7.alloc (.cells #[.int .i64 who, .int .i64 has, .int .i64 kept, .int .i64 last] 26)) (w7.heap.size) 0 ⟨who, has, kept, last⟩) := hat_new w7 ⟨who, has, kept, last⟩ _
         clear HL_11 HLX_11 HQL_11 HPL_11 HLA_11 HB_11 HH_11 HY_11 HQ_11 HF_11 HDK_11
         have ex := hand_ne who has kept last
         go_wp2_with fail
         refine (LK.out _ gx ga cx ca HLX_12.out HLA_12.out).mono ?_
         rintro e w8 ⟨rfl, hb⟩
         have HH_13 : Hid (HAt (w8) (w1.heap.size) 0 ⟨who, has, kept, last⟩) := hat_below HH_12.out (hb)
         have HY_13 : Hid (HAt (w8) (w2.heap.size) 0 ⟨who, has, kept, last⟩) := hat_below HY_12.out (hb)
         have HQ_13 : Hid (HAt (w8) (w3.heap.size) 0 ⟨qw, qh, qk, ql⟩) := hat_below HQ_12.out (hb)
         have HF_13 : Hid (HAt (w8) (w5.heap.size) 0 ⟨fw, fh, fk, fl⟩) := hat_below HF_12.out (hb)
         have HDK_13 : Hid (KnAt (w8) (w6.heap.size) ⟨kh, kr, kf, kw⟩) := knat_below HDK_12.out (hb)
         have HBB_13 : Hid (HAt (w8) (w7.heap.size) 0 ⟨who, has, kept, last⟩) := hat_below HBB_12.out (hb)
         have HL_13 : Hid (LiesT (w8) g L) := HL_12.out.below (hb)
         have HLX_13 : Hid (LiesT (w8) gx L) := HLX_12.out.below (hb)
         have HQL_13 : Hid (LiesT (w8) g2 Q) := HQL_12.out.below (hb)
         have HPL_13 : Hid (LiesT (w8) g3 P) := HPL_12.out.below (hb)
         have HLA_13 : Hid (LiesT (w8) ga L) := HLA_12.out.below (hb)
         have HB_13 : Hid (Below w.heap.size w (w8)) := HB_12.out.trans ((hb).mono HB_12.out.size)
         clear HL_12 HLX_12 HQL_12 HPL_12 HLA_12 HB_12 HH_12 HY_12 HQ_12 HF_12 HDK_12 HBB_12
         obtain ⟨c2a, c2b, c2c, c2d⟩ := cellsH HY_13.out
         dsimp only at c2a c2b c2c c2d
         obtain ⟨c3a, c3b, c3c, c3d⟩ := cellsH HBB_13.out
         dsimp only at c3a c3b c3c c3d
         obtain ⟨c4a, c4b, c4c, c4d⟩ := cellsH HQ_13.out
         dsimp only at c4a c4b c4c c4d
         go_wp2_with fail
         refine (SQ.out _ HQL_13.out).mono ?_
         rintro e w9 ⟨rfl, hb⟩
         have HH_14 : Hid (HAt (w9) (w1.heap.size) 0 ⟨who, has, kept, last⟩) := hat_below HH_13.out (hb)
         have HY_14 : Hid (HAt (w9) (w2.heap.size) 0 ⟨who, has, kept, last⟩) := hat_below HY_13.out (hb)
         have HQ_14 : Hid (HAt (w9) (w3.heap.size) 0 ⟨qw, qh, qk, ql⟩) := hat_below HQ_13.out (hb)
         have HF_14 : Hid (HAt (w9) (w5.heap.size) 0 ⟨fw, fh, fk, fl⟩) := hat_below HF_13.out (hb)
         have HDK_14 : Hid (KnAt (w9) (w6.heap.size) ⟨kh, kr, kf, kw⟩) := knat_below HDK_13.out (hb)
         have HBB_14 : Hid (HAt (w9) (w7.heap.size) 0 ⟨who, has, kept, last⟩) := hat_below HBB_13.out (hb)
         have HL_14 : Hid (LiesT (w9) g L) := HL_13.out.below (hb)
         have HLX_14 : Hid (LiesT (w9) gx L) := HLX_13.out.below (hb)
         have HQL_14 : Hid (LiesT (w9) g2 Q) := HQL_13.out.below (hb)
         have HPL_14 : Hid (LiesT (w9) g3 P) := HPL_13.out.below (hb)
         have HLA_14 : Hid (LiesT (w9) ga L) := HLA_13.out.below (hb)
         have HB_14 : Hid (Below w.heap.size w (w9)) := HB_13.out.trans ((hb).mono HB_13.out.size)
         clear HL_13 HLX_13 HQL_13 HPL_13 HLA_13 HB_13 HH_13 HY_13 HQ_13 HF_13 HDK_13 HBB_13
         obtain ⟨c5a, c5b, c5c, c5d⟩ := cellsH HF_14.out
         dsimp only at c5a c5b c5c c5d
         go_wp2_with fail
         refine (SD.out _ HPL_14.out).mono ?_
         rintro e w10 ⟨rfl, hb⟩
         have HH_15 : Hid (HAt (w10) (w1.heap.size) 0 ⟨who, has, kept, last⟩) := hat_below HH_14.out (hb)
         have HY_15 : Hid (HAt (w10) (w2.heap.size) 0 ⟨who, has, kept, last⟩) := hat_below HY_14.out (hb)
         have HQ_15 : Hid (HAt (w10) (w3.heap.size) 0 ⟨qw, qh, qk, ql⟩) := hat_below HQ_14.out (hb)
         have HF_15 : Hid (HAt (w10) (w5.heap.size) 0 ⟨fw, fh, fk, fl⟩) := hat_below HF_14.out (hb)
         have HDK_15 : Hid (KnAt (w10) (w6.heap.size) ⟨kh, kr, kf, kw⟩) := knat_below HDK_14.out (hb)
         have HBB_15 : Hid (HAt (w10) (w7.heap.size) 0 ⟨who, has, kept, last⟩) := hat_below HBB_14.out (hb)
         have HL_15 : Hid (LiesT (w10) g L) := HL_14.out.below (hb)
         have HLX_15 : Hid (LiesT (w10) gx L) := HLX_14.out.below (hb)
         have HQL_15 : Hid (LiesT (w10) g2 Q) := HQL_14.out.below (hb)
         have HPL_15 : Hid (LiesT (w10) g3 P) := HPL_14.out.below (hb)
         have HLA_15 : Hid (LiesT (w10) ga L) := HLA_14.out.below (hb)
         have HB_15 : Hid (Below w.heap.size w (w10)) := HB_14.out.trans ((hb).mono HB_14.out.size)
         clear HL_14 HLX_14 HQL_14 HPL_14 HLA_14 HB_14 HH_14 HY_14 HQ_14 HF_14 HDK_14 HBB_14
         have HH_16 : Hid (HAt (w10.alloc (.cells #[.int .i64 kh, .int .i64 kr, .int .i64 kf, .string kw] 36)) (w1.heap.size) 0 ⟨who, has, kept, last⟩) := hat_below HH_15.out ((Below.refl _ w10).alloc (Nat.le_refl _) _)
         have HY_16 : Hid (HAt (w10.alloc (.cells #[.int .i64 kh, .int .i64 kr, .int .i64 kf, .string kw] 36)) (w2.heap.size) 0 ⟨who, has, kept, last⟩) := hat_below HY_15.out ((Below.refl _ w10).alloc (Nat.le_refl _) _)
         have HQ_16 : Hid (HAt (w10.alloc (.cells #[.int .i64 kh, .int .i64 kr, .int .i64 kf, .string kw] 36)) (w3.heap.size) 0 ⟨qw, qh, qk, ql⟩) := hat_below HQ_15.out ((Below.refl _ w10).alloc (Nat.le_refl _) _)
         have HF_16 : Hid (HAt (w10.alloc (.cells #[.int .i64 kh, .int .i64 kr, .int .i64 kf, .string kw] 36)) (w5.heap.size) 0 ⟨fw, fh, fk, fl⟩) := hat_below HF_15.out ((Below.refl _ w10).alloc (Nat.le_refl _) _)
         have HDK_16 : Hid (KnAt (w10.alloc (.cells #[.int .i64 kh, .int .i64 kr, .int .i64 kf, .string kw] 36)) (w6.heap.size) ⟨kh, kr, kf, kw⟩) := knat_below HDK_15.out ((Below.refl _ w10).alloc (Nat.le_refl _) _)
         have HBB_16 : Hid (HAt (w10.alloc (.cells #[.int .i64 kh, .int .i64 kr, .int .i64 kf, .string kw] 36)) (w7.heap.size) 0 ⟨who, has, kept, last⟩) := hat_below HBB_15.out ((Below.refl _ w10).alloc (Nat.le_refl _) _)
         have HL_16 : Hid (LiesT (w10.alloc (.cells #[.int .i64 kh, .int .i64 kr, .int .i64 kf, .string kw] 36)) g L) := HL_15.out.below ((Below.refl _ w10).alloc (Nat.le_refl _) _)
         have HLX_16 : Hid (LiesT (w10.alloc (.cells #[.int .i64 kh, .int .i64 kr, .int .i64 kf, .string kw] 36)) gx L) := HLX_15.out.below ((Below.refl _ w10).alloc (Nat.le_refl _) _)
         have HQL_16 : Hid (LiesT (w10.alloc (.cells #[.int .i64 kh, .int .i64 kr, .int .i64 kf, .string kw] 36)) g2 Q) := HQL_15.out.below ((Below.refl _ w10).alloc (Nat.le_refl _) _)
         have HPL_16 : Hid (LiesT (w10.alloc (.cells #[.int .i64 kh, .int .i64 kr, .int .i64 kf, .string kw] 36)) g3 P) := HPL_15.out.below ((Below.refl _ w10).alloc (Nat.le_refl _) _)
         have HLA_16 : Hid (LiesT (w10.alloc (.cells #[.int .i64 kh, .int .i64 kr, .int .i64 kf, .string kw] 36)) ga L) := HLA_15.out.below ((Below.refl _ w10).alloc (Nat.le_refl _) _)
         have HB_16 : Hid (Below w.heap.size w (w10.alloc (.cells #[.int .i64 kh, .int .i64 kr, .int .i64 kf, .string kw] 36))) := HB_15.out.trans (((Below.refl _ w10).alloc (Nat.le_refl _) _).mono HB_15.out.size)
         have HDA_16 : Hid (KnAt (w10.alloc (.cells #[.int .i64 kh, .int .i64 kr, .int .i64 kf, .string kw] 36)) (w10.heap.size) ⟨kh, kr, kf, kw⟩) := knat_new w10 ⟨kh, kr, kf, kw⟩ _
         clear HL_15 HLX_15 HQL_15 HPL_15 HLA_15 HB_15 HH_15 HY_15 HQ_15 HF_15 HDK_15 HBB_15
         have ek := knot_ne kh kr kf kw
         obtain ⟨X1, _, F1, HFz1, HG1⟩ := Fam.fam ((w10.alloc (.cells #[.int .i64 kh, .int .i64 kr, .int .i64 kf, .string kw] 36)))
         have y00 : ∀ z, (F1 z).cell? ⟨w5.heap.size, 0, none⟩ = some (.int .i64 fw) := fun z => (cellsH (hat_below HF_16.out (HFz1.out z))).1
         have y01 : ∀ z, (F1 z).cell? ⟨w5.heap.size, 1, none⟩ = some (.int .i64 fh) := fun z => (cellsH (hat_below HF_16.out (HFz1.out z))).2.1
         have y02 : ∀ z, (F1 z).cell? ⟨w5.heap.size, 2, none⟩ = some (.int .i64 fk) := fun z => (cellsH (hat_below HF_16.out (HFz1.out z))).2.2.1
         have y03 : ∀ z, (F1 z).cell? ⟨w5.heap.size, 3, none⟩ = some (.int .i64 fl) := fun z => (cellsH (hat_below HF_16.out (HFz1.out z))).2.2.2
         have y10 : ∀ z, (F1 z).cell? ⟨w6.heap.size, 0, none⟩ = some (.int .i64 kh) := fun z => (knat_cells (knat_below HDK_16.out (HFz1.out z))).1
         have y11 : ∀ z, (F1 z).cell? ⟨w6.heap.size, 1, none⟩ = some (.int .i64 kr) := fun z => (knat_cells (knat_below HDK_16.out (HFz1.out z))).2.1
         have y12 : ∀ z, (F1 z).cell? ⟨w6.heap.size, 2, none⟩ = some (.int .i64 kf) := fun z => (knat_cells (knat_below HDK_16.out (HFz1.out z))).2.2.1
         have y13 : ∀ z, (F1 z).cell? ⟨w6.heap.size, 3, none⟩ = some (.string kw) := fun z => (knat_cells (knat_below HDK_16.out (HFz1.out z))).2.2.2
         have y20 : ∀ z, (F1 z).cell? ⟨w10.heap.size, 0, none⟩ = some (.int .i64 kh) := fun z => (knat_cells (knat_below HDA_16.out (HFz1.out z))).1
         have y21 : ∀ z, (F1 z).cell? ⟨w10.heap.size, 1, none⟩ = some (.int .i64 kr) := fun z => (knat_cells (knat_below HDA_16.out (HFz1.out z))).2.1
         have y22 : ∀ z, (F1 z).cell? ⟨w10.heap.size, 2, none⟩ = some (.int .i64 kf) := fun z => (knat_cells (knat_below HDA_16.out (HFz1.out z))).2.2.1
         have y23 : ∀ z, (F1 z).cell? ⟨w10.heap.size, 3, none⟩ = some (.string kw) := fun z => (knat_cells (knat_below HDA_16.out (HFz1.out z))).2.2.2
         have HLz : Hid (∀ z, LiesT (F1 z) g L) := fun z => HL_16.out.below (HFz1.out z)
         have HLXz : Hid (∀ z, LiesT (F1 z) gx L) := fun z => HLX_16.out.below (HFz1.out z)
         have HQLz : Hid (∀ z, LiesT (F1 z) g2 Q) := fun z => HQL_16.out.below (HFz1.out z)
         have HPLz : Hid (∀ z, LiesT (F1 z) g3 P) := fun z => HPL_16.out.below (HFz1.out z)
         have HLAz : Hid (∀ z, LiesT (F1 z) ga L) := fun z => HLA_16.out.below (HFz1.out z)
         go_wp2_with fail
         refine Fam.region (F := F1) (by kernel_rfl) (by kernel_rfl) (HG1.out _ (Below.refl _ _).drew) ?_
         repeat (go_big_quiet_step (first
           | fail))
         refine wpQuiet_nil ?_
         intro wz hwz
         obtain ⟨z1, rfl⟩ := hwz
         have HH_17 : Hid (HAt (F1 z1) (w1.heap.size) 0 ⟨who, has, kept, last⟩) := hat_below HH_16.out (HFz1.out z1)
         have HY_17 : Hid (HAt (F1 z1) (w2.heap.size) 0 ⟨who, has, kept, last⟩) := hat_below HY_16.out (HFz1.out z1)
         have HQ_17 : Hid (HAt (F1 z1) (w3.heap.size) 0 ⟨qw, qh, qk, ql⟩) := hat_below HQ_16.out (HFz1.out z1)
         have HF_17 : Hid (HAt (F1 z1) (w5.heap.size) 0 ⟨fw, fh, fk, fl⟩) := hat_below HF_16.out (HFz1.out z1)
         have HDK_17 : Hid (KnAt (F1 z1) (w6.heap.size) ⟨kh, kr, kf, kw⟩) := knat_below HDK_16.out (HFz1.out z1)
         have HBB_17 : Hid (HAt (F1 z1) (w7.heap.size) 0 ⟨who, has, kept, last⟩) := hat_below HBB_16.out (HFz1.out z1)
         have HDA_17 : Hid (KnAt (F1 z1) (w10.heap.size) ⟨kh, kr, kf, kw⟩) := knat_below HDA_16.out (HFz1.out z1)
         have HL_17 : Hid (LiesT (F1 z1) g L) := HL_16.out.below (HFz1.out z1)
         have HLX_17 : Hid (LiesT (F1 z1) gx L) := HLX_16.out.below (HFz1.out z1)
         have HQL_17 : Hid (LiesT (F1 z1) g2 Q) := HQL_16.out.below (HFz1.out z1)
         have HPL_17 : Hid (LiesT (F1 z1) g3 P) := HPL_16.out.below (HFz1.out z1)
         have HLA_17 : Hid (LiesT (F1 z1) ga L) := HLA_16.out.below (HFz1.out z1)
         have HB_17 : Hid (Below w.heap.size w (F1 z1)) := HB_16.out.trans ((HFz1.out z1).mono HB_16.out.size)
         clear HL_16 HLX_16 HQL_16 HPL_16 HLA_16 HB_16 HH_16 HY_16 HQ_16 HF_16 HDK_16 HBB_16 HDA_16
         generalize F1 z1 = wv at HH_17 HY_17 HQ_17 HF_17 HDK_17 HBB_17 HDA_17 HL_17 HLX_17 HQL_17 HPL_17 HLA_17 HB_17 ⊢
         clear HFz1 HG1 HLz HLXz HQLz HPLz HLAz y00 y01 y02 y03 y10 y11 y12 y13 y20 y21 y22 y23
         clear ex ek
         clear HQL_17 HPL_17 HLA_17 HQ_17 HF_17 HDK_17 HBB_17 HDA_17
         obtain ⟨c6a, c6b, c6c, c6d⟩ := cellsH HH_17.out
         dsimp only at c6a c6b c6c c6d
         go_wp2_with fail
         refine (SO.out _ HL_17.out).mono ?_
         rintro e w11 ⟨rfl, hb⟩
         have HH_18 : Hid (HAt (w11) (w1.heap.size) 0 ⟨who, has, kept, last⟩) := hat_below HH_17.out (hb)
         have HY_18 : Hid (HAt (w11) (w2.heap.size) 0 ⟨who, has, kept, last⟩) := hat_below HY_17.out (hb)
         have HL_18 : Hid (LiesT (w11) g L) := HL_17.out.below (hb)
         have HLX_18 : Hid (LiesT (w11) gx L) := HLX_17.out.below (hb)
         have HB_18 : Hid (Below w.heap.size w (w11)) := HB_17.out.trans ((hb).mono HB_17.out.size)
         clear HL_17 HLX_17 HB_17 HH_17 HY_17
         go_wp2_with fail
         refine (LK.out _ gx g cx cp HLX_18.out HL_18.out).mono ?_
         rintro e w12 ⟨rfl, hb⟩
         have HH_19 : Hid (HAt (w12) (w1.heap.size) 0 ⟨who, has, kept, last⟩) := hat_below HH_18.out (hb)
         have HY_19 : Hid (HAt (w12) (w2.heap.size) 0 ⟨who, has, kept, last⟩) := hat_below HY_18.out (hb)
         have HL_19 : Hid (LiesT (w12) g L) := HL_18.out.below (hb)
         have HLX_19 : Hid (LiesT (w12) gx L) := HLX_18.out.below (hb)
         have HB_19 : Hid (Below w.heap.size w (w12)) := HB_18.out.trans ((hb).mono HB_18.out.size)
         clear HL_18 HLX_18 HB_18 HH_18 HY_18
         obtain ⟨c7a, c7b, c7c, c7d⟩ := cellsH HY_19.out
         dsimp only at c7a c7b c7c c7d
         obtain ⟨c8a, c8b, c8c, c8d⟩ := cellsH HH_19.out
         dsimp only at c8a c8b c8c c8d
         have ez := hand_eq who has kept last
         have HE : Hid (Below w.heap.size w w12) := HB_19.out
         go_wp2
         go_ret
         exact ⟨rfl, HE.out⟩
       · have ND := ND0
         have SD := SD0
         rw [hfi] at ND SD
         clear ND0 SD0
         obtain ⟨hko, hkr⟩ := drafted_parts hfi
         have SP := SP0
         rw [← hkr] at SP
         generalize hdk : draftedK P gp dw = dk at ND SD SP hko
         clear SP0 hkr hfi hdk
         obtain ⟨kh, kr, kf, kw⟩ := dk
         obtain ⟨fw, fh, fk, fl⟩ := gp
         dsimp only at ND SD SP
         have hks : kw.size ≤ 1099511627776 := okW_size hko
         have KOK : Hid (∀ W : World, Calls Tryz.prog 28 #[.agg #[.int .i64 kh, .int .i64 kr, .int .i64 kf, .string kw]] W fun e w' => e = .returned (.bool true) ∧ Below W.heap.size W w') := fun W => by
           have := Kn.specKnotOk kh kr kf kw W hks
           rw [hko] at this
           exact this
         clear hko hks
         have HH_8 : Hid (HAt (w5.alloc (.cells #[.int .i64 fw, .int .i64 fh, .int .i64 fk, .int .i64 fl] 26)) (w1.heap.size) 0 ⟨who, has, kept, last⟩) := hat_below HH_7.out ((Below.refl _ w5).alloc (Nat.le_refl _) _)
         have HY_8 : Hid (HAt (w5.alloc (.cells #[.int .i64 fw, .int .i64 fh, .int .i64 fk, .int .i64 fl] 26)) (w2.heap.size) 0 ⟨who, has, kept, last⟩) := hat_below HY_7.out ((Below.refl _ w5).alloc (Nat.le_refl _) _)
         have HQ_8 : Hid (HAt (w5.alloc (.cells #[.int .i64 fw, .int .i64 fh, .int .i64 fk, .int .i64 fl] 26)) (w3.heap.size) 0 ⟨qw, qh, qk, ql⟩) := hat_below HQ_7.out ((Below.refl _ w5).alloc (Nat.le_refl _) _)
         have HL_8 : Hid (LiesT (w5.alloc (.cells #[.int .i64 fw, .int .i64 fh, .int .i64 fk, .int .i64 fl] 26)) g L) := HL_7.out.below ((Below.refl _ w5).alloc (Nat.le_refl _) _)
         have HLX_8 : Hid (LiesT (w5.alloc (.cells #[.int .i64 fw, .int .i64 fh, .int .i64 fk, .int .i64 fl] 26)) gx L) := HLX_7.out.below ((Below.refl _ w5).alloc (Nat.le_refl _) _)
         have HQL_8 : Hid (LiesT (w5.alloc (.cells #[.int .i64 fw, .int .i64 fh, .int .i64 fk, .int .i64 fl] 26)) g2 Q) := HQL_7.out.below ((Below.refl _ w5).alloc (Nat.le_refl _) _)
         have HPL_8 : Hid (LiesT (w5.alloc (.cells #[.int .i64 fw, .int .i64 fh, .int .i64 fk, .int .i64 fl] 26)) g3 P) := HPL_7.out.below ((Below.refl _ w5).alloc (Nat.le_refl _) _)
         have HB_8 : Hid (Below w.heap.size w (w5.alloc (.cells #[.int .i64 fw, .int .i64 fh, .int .i64 fk, .int .i64 fl] 26))) := HB_7.out.trans (((Below.refl _ w5).alloc (Nat.le_refl _) _).mono HB_7.out.size)
         have HF_8 : Hid (HAt (w5.alloc (.cells #[.int .i64 fw, .int .i64 fh, .int .i64 fk, .int .i64 fl] 26)) (w5.heap.size) 0 ⟨fw, fh, fk, fl⟩) := hat_new w5 ⟨fw, fh, fk, fl⟩ _
         clear HL_7 HLX_7 HQL_7 HPL_7 HB_7 HH_7 HY_7 HQ_7
         go_wp2_with fail
         refine (ND.out _ HPL_8.out).mono ?_
         rintro e w6 ⟨rfl, hb⟩
         have HH_9 : Hid (HAt (w6) (w1.heap.size) 0 ⟨who, has, kept, last⟩) := hat_below HH_8.out (hb)
         have HY_9 : Hid (HAt (w6) (w2.heap.size) 0 ⟨who, has, kept, last⟩) := hat_below HY_8.out (hb)
         have HQ_9 : Hid (HAt (w6) (w3.heap.size) 0 ⟨qw, qh, qk, ql⟩) := hat_below HQ_8.out (hb)
         have HF_9 : Hid (HAt (w6) (w5.heap.size) 0 ⟨fw, fh, fk, fl⟩) := hat_below HF_8.out (hb)
         have HL_9 : Hid (LiesT (w6) g L) := HL_8.out.below (hb)
         have HLX_9 : Hid (LiesT (w6) gx L) := HLX_8.out.below (hb)
         have HQL_9 : Hid (LiesT (w6) g2 Q) := HQL_8.out.below (hb)
         have HPL_9 : Hid (LiesT (w6) g3 P) := HPL_8.out.below (hb)
         have HB_9 : Hid (Below w.heap.size w (w6)) := HB_8.out.trans ((hb).mono HB_8.out.size)
         clear HL_8 HLX_8 HQL_8 HPL_8 HB_8 HH_8 HY_8 HQ_8 HF_8
         have HH_10 : Hid (HAt (w6.alloc (.cells #[.int .i64 kh, .int .i64 kr, .int .i64 kf, .string kw] 36)) (w1.heap.size) 0 ⟨who, has, kept, last⟩) := hat_below HH_9.out ((Below.refl _ w6).alloc (Nat.le_refl _) _)
         have HY_10 : Hid (HAt (w6.alloc (.cells #[.int .i64 kh, .int .i64 kr, .int .i64 kf, .string kw] 36)) (w2.heap.size) 0 ⟨who, has, kept, last⟩) := hat_below HY_9.out ((Below.refl _ w6).alloc (Nat.le_refl _) _)
         have HQ_10 : Hid (HAt (w6.alloc (.cells #[.int .i64 kh, .int .i64 kr, .int .i64 kf, .string kw] 36)) (w3.heap.size) 0 ⟨qw, qh, qk, ql⟩) := hat_below HQ_9.out ((Below.refl _ w6).alloc (Nat.le_refl _) _)
         have HF_10 : Hid (HAt (w6.alloc (.cells #[.int .i64 kh, .int .i64 kr, .int .i64 kf, .string kw] 36)) (w5.heap.size) 0 ⟨fw, fh, fk, fl⟩) := hat_below HF_9.out ((Below.refl _ w6).alloc (Nat.le_refl _) _)
         have HL_10 : Hid (LiesT (w6.alloc (.cells #[.int .i64 kh, .int .i64 kr, .int .i64 kf, .string kw] 36)) g L) := HL_9.out.below ((Below.refl _ w6).alloc (Nat.le_refl _) _)
         have HLX_10 : Hid (LiesT (w6.alloc (.cells #[.int .i64 kh, .int .i64 kr, .int .i64 kf, .string kw] 36)) gx L) := HLX_9.out.below ((Below.refl _ w6).alloc (Nat.le_refl _) _)
         have HQL_10 : Hid (LiesT (w6.alloc (.cells #[.int .i64 kh, .int .i64 kr, .int .i64 kf, .string kw] 36)) g2 Q) := HQL_9.out.below ((Below.refl _ w6).alloc (Nat.le_refl _) _)
         have HPL_10 : Hid (LiesT (w6.alloc (.cells #[.int .i64 kh, .int .i64 kr, .int .i64 kf, .string kw] 36)) g3 P) := HPL_9.out.below ((Below.refl _ w6).alloc (Nat.le_refl _) _)
         have HB_10 : Hid (Below w.heap.size w (w6.alloc (.cells #[.int .i64 kh, .int .i64 kr, .int .i64 kf, .string kw] 36))) := HB_9.out.trans (((Below.refl _ w6).alloc (Nat.le_refl _) _).mono HB_9.out.size)
         have HDK_10 : Hid (KnAt (w6.alloc (.cells #[.int .i64 kh, .int .i64 kr, .int .i64 kf, .string kw] 36)) (w6.heap.size) ⟨kh, kr, kf, kw⟩) := knat_new w6 ⟨kh, kr, kf, kw⟩ _
         clear HL_9 HLX_9 HQL_9 HPL_9 HB_9 HH_9 HY_9 HQ_9 HF_9
         obtain ⟨c1a, c1b, c1c, c1d⟩ := cellsH HH_10.out
         dsimp only at c1a c1b c1c c1d
         go_wp2_with fail
         refine (SX.out _ HL_10.out).mono ?_
         rintro e w7 ⟨ga, ca, rfl, hca, hla, hb⟩
         have HH_11 : Hid (HAt (w7) (w1.heap.size) 0 ⟨who, has, kept, last⟩) := hat_below HH_10.out (hb)
         have HY_11 : Hid (HAt (w7) (w2.heap.size) 0 ⟨who, has, kept, last⟩) := hat_below HY_10.out (hb)
         have HQ_11 : Hid (HAt (w7) (w3.heap.size) 0 ⟨qw, qh, qk, ql⟩) := hat_below HQ_10.out (hb)
         have HF_11 : Hid (HAt (w7) (w5.heap.size) 0 ⟨fw, fh, fk, fl⟩) := hat_below HF_10.out (hb)
         have HDK_11 : Hid (KnAt (w7) (w6.heap.size) ⟨kh, kr, kf, kw⟩) := knat_below HDK_10.out (hb)
         have HL_11 : Hid (LiesT (w7) g L) := HL_10.out.below (hb)
         have HLX_11 : Hid (LiesT (w7) gx L) := HLX_10.out.below (hb)
         have HQL_11 : Hid (LiesT (w7) g2 Q) := HQL_10.out.below (hb)
         have HPL_11 : Hid (LiesT (w7) g3 P) := HPL_10.out.below (hb)
         have HB_11 : Hid (Below w.heap.size w (w7)) := HB_10.out.trans ((hb).mono HB_10.out.size)
         clear HL_10 HLX_10 HQL_10 HPL_10 HB_10 HH_10 HY_10 HQ_10 HF_10 HDK_10
         have HLA_11 : Hid (LiesT (w7) ga L) := hla
         clear hla
         have HH_12 : Hid (HAt (w7.alloc (.cells #[.int .i64 who, .int .i64 has, .int .i64 kept, .int .i64 last] 26)) (w1.heap.size) 0 ⟨who, has, kept, last⟩) := hat_below HH_11.out ((Below.refl _ w7).alloc (Nat.le_refl _) _)
         have HY_12 : Hid (HAt (w7.alloc (.cells #[.int .i64 who, .int .i64 has, .int .i64 kept, .int .i64 last] 26)) (w2.heap.size) 0 ⟨who, has, kept, last⟩) := hat_below HY_11.out ((Below.refl _ w7).alloc (Nat.le_refl _) _)
         have HQ_12 : Hid (HAt (w7.alloc (.cells #[.int .i64 who, .int .i64 has, .int .i64 kept, .int .i64 last] 26)) (w3.heap.size) 0 ⟨qw, qh, qk, ql⟩) := hat_below HQ_11.out ((Below.refl _ w7).alloc (Nat.le_refl _) _)
         have HF_12 : Hid (HAt (w7.alloc (.cells #[.int .i64 who, .int .i64 has, .int .i64 kept, .int .i64 last] 26)) (w5.heap.size) 0 ⟨fw, fh, fk, fl⟩) := hat_below HF_11.out ((Below.refl _ w7).alloc (Nat.le_refl _) _)
         have HDK_12 : Hid (KnAt (w7.alloc (.cells #[.int .i64 who, .int .i64 has, .int .i64 kept, .int .i64 last] 26)) (w6.heap.size) ⟨kh, kr, kf, kw⟩) := knat_below HDK_11.out ((Below.refl _ w7).alloc (Nat.le_refl _) _)
         have HL_12 : Hid (LiesT (w7.alloc (.cells #[.int .i64 who, .int .i64 has, .int .i64 kept, .int .i64 last] 26)) g L) := HL_11.out.below ((Below.refl _ w7).alloc (Nat.le_refl _) _)
         have HLX_12 : Hid (LiesT (w7.alloc (.cells #[.int .i64 who, .int .i64 has, .int .i64 kept, .int .i64 last] 26)) gx L) := HLX_11.out.below ((Below.refl _ w7).alloc (Nat.le_refl _) _)
         have HQL_12 : Hid (LiesT (w7.alloc (.cells #[.int .i64 who, .int .i64 has, .int .i64 kept, .int .i64 last] 26)) g2 Q) := HQL_11.out.below ((Below.refl _ w7).alloc (Nat.le_refl _) _)
         have HPL_12 : Hid (LiesT (w7.alloc (.cells #[.int .i64 who, .int .i64 has, .int .i64 kept, .int .i64 last] 26)) g3 P) := HPL_11.out.below ((Below.refl _ w7).alloc (Nat.le_refl _) _)
         have HLA_12 : Hid (LiesT (w7.alloc (.cells #[.int .i64 who, .int .i64 has, .int .i64 kept, .int .i64 last] 26)) ga L) := HLA_11.out.below ((Below.refl _ w7).alloc (Nat.le_refl _) _)
         have HB_12 : Hid (Below w.heap.size w (w7.alloc (.cells #[.int .i64 who, .int .i64 has, .int .i64 kept, .int .i64 last] 26))) := HB_11.out.trans (((Below.refl _ w7).alloc (Nat.le_refl _) _).mono HB_11.out.size)
         have HBB_12 : Hid (HAt (w7.alloc (.cells #[.int .i64 who, .int .i64 has, .int .i64 kept, .int .i64 last] 26)) (w7.heap.size) 0 ⟨who, has, kept, last⟩) := hat_new w7 ⟨who, has, kept, last⟩ _
         clear HL_11 HLX_11 HQL_11 HPL_11 HLA_11 HB_11 HH_11 HY_11 HQ_11 HF_11 HDK_11
         have ex := hand_ne who has kept last
         go_wp2_with fail
         refine (LK.out _ gx ga cx ca HLX_12.out HLA_12.out).mono ?_
         rintro e w8 ⟨rfl, hb⟩
         have HH_13 : Hid (HAt (w8) (w1.heap.size) 0 ⟨who, has, kept, last⟩) := hat_below HH_12.out (hb)
         have HY_13 : Hid (HAt (w8) (w2.heap.size) 0 ⟨who, has, kept, last⟩) := hat_below HY_12.out (hb)
         have HQ_13 : Hid (HAt (w8) (w3.heap.size) 0 ⟨qw, qh, qk, ql⟩) := hat_below HQ_12.out (hb)
         have HF_13 : Hid (HAt (w8) (w5.heap.size) 0 ⟨fw, fh, fk, fl⟩) := hat_below HF_12.out (hb)
         have HDK_13 : Hid (KnAt (w8) (w6.heap.size) ⟨kh, kr, kf, kw⟩) := knat_below HDK_12.out (hb)
         have HBB_13 : Hid (HAt (w8) (w7.heap.size) 0 ⟨who, has, kept, last⟩) := hat_below HBB_12.out (hb)
         have HL_13 : Hid (LiesT (w8) g L) := HL_12.out.below (hb)
         have HLX_13 : Hid (LiesT (w8) gx L) := HLX_12.out.below (hb)
         have HQL_13 : Hid (LiesT (w8) g2 Q) := HQL_12.out.below (hb)
         have HPL_13 : Hid (LiesT (w8) g3 P) := HPL_12.out.below (hb)
         have HLA_13 : Hid (LiesT (w8) ga L) := HLA_12.out.below (hb)
         have HB_13 : Hid (Below w.heap.size w (w8)) := HB_12.out.trans ((hb).mono HB_12.out.size)
         clear HL_12 HLX_12 HQL_12 HPL_12 HLA_12 HB_12 HH_12 HY_12 HQ_12 HF_12 HDK_12 HBB_12
         obtain ⟨c2a, c2b, c2c, c2d⟩ := cellsH HY_13.out
         dsimp only at c2a c2b c2c c2d
         obtain ⟨c3a, c3b, c3c, c3d⟩ := cellsH HBB_13.out
         dsimp only at c3a c3b c3c c3d
         obtain ⟨c4a, c4b, c4c, c4d⟩ := cellsH HQ_13.out
         dsimp only at c4a c4b c4c c4d
         go_wp2_with fail
         refine (SQ.out _ HQL_13.out).mono ?_
         rintro e w9 ⟨rfl, hb⟩
         have HH_14 : Hid (HAt (w9) (w1.heap.size) 0 ⟨who, has, kept, last⟩) := hat_below HH_13.out (hb)
         have HY_14 : Hid (HAt (w9) (w2.heap.size) 0 ⟨who, has, kept, last⟩) := hat_below HY_13.out (hb)
         have HQ_14 : Hid (HAt (w9) (w3.heap.size) 0 ⟨qw, qh, qk, ql⟩) := hat_below HQ_13.out (hb)
         have HF_14 : Hid (HAt (w9) (w5.heap.size) 0 ⟨fw, fh, fk, fl⟩) := hat_below HF_13.out (hb)
         have HDK_14 : Hid (KnAt (w9) (w6.heap.size) ⟨kh, kr, kf, kw⟩) := knat_below HDK_13.out (hb)
         have HBB_14 : Hid (HAt (w9) (w7.heap.size) 0 ⟨who, has, kept, last⟩) := hat_below HBB_13.out (hb)
         have HL_14 : Hid (LiesT (w9) g L) := HL_13.out.below (hb)
         have HLX_14 : Hid (LiesT (w9) gx L) := HLX_13.out.below (hb)
         have HQL_14 : Hid (LiesT (w9) g2 Q) := HQL_13.out.below (hb)
         have HPL_14 : Hid (LiesT (w9) g3 P) := HPL_13.out.below (hb)
         have HLA_14 : Hid (LiesT (w9) ga L) := HLA_13.out.below (hb)
         have HB_14 : Hid (Below w.heap.size w (w9)) := HB_13.out.trans ((hb).mono HB_13.out.size)
         clear HL_13 HLX_13 HQL_13 HPL_13 HLA_13 HB_13 HH_13 HY_13 HQ_13 HF_13 HDK_13 HBB_13
         obtain ⟨c5a, c5b, c5c, c5d⟩ := cellsH HF_14.out
         dsimp only at c5a c5b c5c c5d
         go_wp2_with fail
         refine (SD.out _ HPL_14.out).mono ?_
         rintro e w10 ⟨rfl, hb⟩
         have HH_15 : Hid (HAt (w10) (w1.heap.size) 0 ⟨who, has, kept, last⟩) := hat_below HH_14.out (hb)
         have HY_15 : Hid (HAt (w10) (w2.heap.size) 0 ⟨who, has, kept, last⟩) := hat_below HY_14.out (hb)
         have HQ_15 : Hid (HAt (w10) (w3.heap.size) 0 ⟨qw, qh, qk, ql⟩) := hat_below HQ_14.out (hb)
         have HF_15 : Hid (HAt (w10) (w5.heap.size) 0 ⟨fw, fh, fk, fl⟩) := hat_below HF_14.out (hb)
         have HDK_15 : Hid (KnAt (w10) (w6.heap.size) ⟨kh, kr, kf, kw⟩) := knat_below HDK_14.out (hb)
         have HBB_15 : Hid (HAt (w10) (w7.heap.size) 0 ⟨who, has, kept, last⟩) := hat_below HBB_14.out (hb)
         have HL_15 : Hid (LiesT (w10) g L) := HL_14.out.below (hb)
         have HLX_15 : Hid (LiesT (w10) gx L) := HLX_14.out.below (hb)
         have HQL_15 : Hid (LiesT (w10) g2 Q) := HQL_14.out.below (hb)
         have HPL_15 : Hid (LiesT (w10) g3 P) := HPL_14.out.below (hb)
         have HLA_15 : Hid (LiesT (w10) ga L) := HLA_14.out.below (hb)
         have HB_15 : Hid (Below w.heap.size w (w10)) := HB_14.out.trans ((hb).mono HB_14.out.size)
         clear HL_14 HLX_14 HQL_14 HPL_14 HLA_14 HB_14 HH_14 HY_14 HQ_14 HF_14 HDK_14 HBB_14
         have HH_16 : Hid (HAt (w10.alloc (.cells #[.int .i64 kh, .int .i64 kr, .int .i64 kf, .string kw] 36)) (w1.heap.size) 0 ⟨who, has, kept, last⟩) := hat_below HH_15.out ((Below.refl _ w10).alloc (Nat.le_refl _) _)
         have HY_16 : Hid (HAt (w10.alloc (.cells #[.int .i64 kh, .int .i64 kr, .int .i64 kf, .string kw] 36)) (w2.heap.size) 0 ⟨who, has, kept, last⟩) := hat_below HY_15.out ((Below.refl _ w10).alloc (Nat.le_refl _) _)
         have HQ_16 : Hid (HAt (w10.alloc (.cells #[.int .i64 kh, .int .i64 kr, .int .i64 kf, .string kw] 36)) (w3.heap.size) 0 ⟨qw, qh, qk, ql⟩) := hat_below HQ_15.out ((Below.refl _ w10).alloc (Nat.le_refl _) _)
         have HF_16 : Hid (HAt (w10.alloc (.cells #[.int .i64 kh, .int .i64 kr, .int .i64 kf, .string kw] 36)) (w5.heap.size) 0 ⟨fw, fh, fk, fl⟩) := hat_below HF_15.out ((Below.refl _ w10).alloc (Nat.le_refl _) _)
         have HDK_16 : Hid (KnAt (w10.alloc (.cells #[.int .i64 kh, .int .i64 kr, .int .i64 kf, .string kw] 36)) (w6.heap.size) ⟨kh, kr, kf, kw⟩) := knat_below HDK_15.out ((Below.refl _ w10).alloc (Nat.le_refl _) _)
         have HBB_16 : Hid (HAt (w10.alloc (.cells #[.int .i64 kh, .int .i64 kr, .int .i64 kf, .string kw] 36)) (w7.heap.size) 0 ⟨who, has, kept, last⟩) := hat_below HBB_15.out ((Below.refl _ w10).alloc (Nat.le_refl _) _)
         have HL_16 : Hid (LiesT (w10.alloc (.cells #[.int .i64 kh, .int .i64 kr, .int .i64 kf, .string kw] 36)) g L) := HL_15.out.below ((Below.refl _ w10).alloc (Nat.le_refl _) _)
         have HLX_16 : Hid (LiesT (w10.alloc (.cells #[.int .i64 kh, .int .i64 kr, .int .i64 kf, .string kw] 36)) gx L) := HLX_15.out.below ((Below.refl _ w10).alloc (Nat.le_refl _) _)
         have HQL_16 : Hid (LiesT (w10.alloc (.cells #[.int .i64 kh, .int .i64 kr, .int .i64 kf, .string kw] 36)) g2 Q) := HQL_15.out.below ((Below.refl _ w10).alloc (Nat.le_refl _) _)
         have HPL_16 : Hid (LiesT (w10.alloc (.cells #[.int .i64 kh, .int .i64 kr, .int .i64 kf, .string kw] 36)) g3 P) := HPL_15.out.below ((Below.refl _ w10).alloc (Nat.le_refl _) _)
         have HLA_16 : Hid (LiesT (w10.alloc (.cells #[.int .i64 kh, .int .i64 kr, .int .i64 kf, .string kw] 36)) ga L) := HLA_15.out.below ((Below.refl _ w10).alloc (Nat.le_refl _) _)
         have HB_16 : Hid (Below w.heap.size w (w10.alloc (.cells #[.int .i64 kh, .int .i64 kr, .int .i64 kf, .string kw] 36))) := HB_15.out.trans (((Below.refl _ w10).alloc (Nat.le_refl _) _).mono HB_15.out.size)
         have HDA_16 : Hid (KnAt (w10.alloc (.cells #[.int .i64 kh, .int .i64 kr, .int .i64 kf, .string kw] 36)) (w10.heap.size) ⟨kh, kr, kf, kw⟩) := knat_new w10 ⟨kh, kr, kf, kw⟩ _
         clear HL_15 HLX_15 HQL_15 HPL_15 HLA_15 HB_15 HH_15 HY_15 HQ_15 HF_15 HDK_15 HBB_15
         have ek := knot_ne kh kr kf kw
         obtain ⟨X1, _, F1, HFz1, HG1⟩ := Fam.fam ((w10.alloc (.cells #[.int .i64 kh, .int .i64 kr, .int .i64 kf, .string kw] 36)))
         have y00 : ∀ z, (F1 z).cell? ⟨w5.heap.size, 0, none⟩ = some (.int .i64 fw) := fun z => (cellsH (hat_below HF_16.out (HFz1.out z))).1
         have y01 : ∀ z, (F1 z).cell? ⟨w5.heap.size, 1, none⟩ = some (.int .i64 fh) := fun z => (cellsH (hat_below HF_16.out (HFz1.out z))).2.1
         have y02 : ∀ z, (F1 z).cell? ⟨w5.heap.size, 2, none⟩ = some (.int .i64 fk) := fun z => (cellsH (hat_below HF_16.out (HFz1.out z))).2.2.1
         have y03 : ∀ z, (F1 z).cell? ⟨w5.heap.size, 3, none⟩ = some (.int .i64 fl) := fun z => (cellsH (hat_below HF_16.out (HFz1.out z))).2.2.2
         have y10 : ∀ z, (F1 z).cell? ⟨w6.heap.size, 0, none⟩ = some (.int .i64 kh) := fun z => (knat_cells (knat_below HDK_16.out (HFz1.out z))).1
         have y11 : ∀ z, (F1 z).cell? ⟨w6.heap.size, 1, none⟩ = some (.int .i64 kr) := fun z => (knat_cells (knat_below HDK_16.out (HFz1.out z))).2.1
         have y12 : ∀ z, (F1 z).cell? ⟨w6.heap.size, 2, none⟩ = some (.int .i64 kf) := fun z => (knat_cells (knat_below HDK_16.out (HFz1.out z))).2.2.1
         have y13 : ∀ z, (F1 z).cell? ⟨w6.heap.size, 3, none⟩ = some (.string kw) := fun z => (knat_cells (knat_below HDK_16.out (HFz1.out z))).2.2.2
         have y20 : ∀ z, (F1 z).cell? ⟨w10.heap.size, 0, none⟩ = some (.int .i64 kh) := fun z => (knat_cells (knat_below HDA_16.out (HFz1.out z))).1
         have y21 : ∀ z, (F1 z).cell? ⟨w10.heap.size, 1, none⟩ = some (.int .i64 kr) := fun z => (knat_cells (knat_below HDA_16.out (HFz1.out z))).2.1
         have y22 : ∀ z, (F1 z).cell? ⟨w10.heap.size, 2, none⟩ = some (.int .i64 kf) := fun z => (knat_cells (knat_below HDA_16.out (HFz1.out z))).2.2.1
         have y23 : ∀ z, (F1 z).cell? ⟨w10.heap.size, 3, none⟩ = some (.string kw) := fun z => (knat_cells (knat_below HDA_16.out (HFz1.out z))).2.2.2
         have HLz : Hid (∀ z, LiesT (F1 z) g L) := fun z => HL_16.out.below (HFz1.out z)
         have HLXz : Hid (∀ z, LiesT (F1 z) gx L) := fun z => HLX_16.out.below (HFz1.out z)
         have HQLz : Hid (∀ z, LiesT (F1 z) g2 Q) := fun z => HQL_16.out.below (HFz1.out z)
         have HPLz : Hid (∀ z, LiesT (F1 z) g3 P) := fun z => HPL_16.out.below (HFz1.out z)
         have HLAz : Hid (∀ z, LiesT (F1 z) ga L) := fun z => HLA_16.out.below (HFz1.out z)
         go_wp2_with fail
         refine Fam.region (F := F1) (by kernel_rfl) (by kernel_rfl) (HG1.out _ (Below.refl _ _).drew) ?_
         repeat (go_big_quiet_step (first
           | (go_at_call 28; exact (KOK.out _).mono fun _ _ h => ⟨h.1, HG1.out _ ((HFz1.out _).trans (h.2.mono (HFz1.out _).size))⟩)
           | (go_at_call 26; exact (SP.out _ (HPLz.out _)).mono fun _ _ h => ⟨h.1, HG1.out _ ((HFz1.out _).trans (h.2.mono (HFz1.out _).size))⟩)))
         refine wpQuiet_nil ?_
         intro wz hwz
         obtain ⟨z1, rfl⟩ := hwz
         have HH_17 : Hid (HAt (F1 z1) (w1.heap.size) 0 ⟨who, has, kept, last⟩) := hat_below HH_16.out (HFz1.out z1)
         have HY_17 : Hid (HAt (F1 z1) (w2.heap.size) 0 ⟨who, has, kept, last⟩) := hat_below HY_16.out (HFz1.out z1)
         have HQ_17 : Hid (HAt (F1 z1) (w3.heap.size) 0 ⟨qw, qh, qk, ql⟩) := hat_below HQ_16.out (HFz1.out z1)
         have HF_17 : Hid (HAt (F1 z1) (w5.heap.size) 0 ⟨fw, fh, fk, fl⟩) := hat_below HF_16.out (HFz1.out z1)
         have HDK_17 : Hid (KnAt (F1 z1) (w6.heap.size) ⟨kh, kr, kf, kw⟩) := knat_below HDK_16.out (HFz1.out z1)
         have HBB_17 : Hid (HAt (F1 z1) (w7.heap.size) 0 ⟨who, has, kept, last⟩) := hat_below HBB_16.out (HFz1.out z1)
         have HDA_17 : Hid (KnAt (F1 z1) (w10.heap.size) ⟨kh, kr, kf, kw⟩) := knat_below HDA_16.out (HFz1.out z1)
         have HL_17 : Hid (LiesT (F1 z1) g L) := HL_16.out.below (HFz1.out z1)
         have HLX_17 : Hid (LiesT (F1 z1) gx L) := HLX_16.out.below (HFz1.out z1)
         have HQL_17 : Hid (LiesT (F1 z1) g2 Q) := HQL_16.out.below (HFz1.out z1)
         have HPL_17 : Hid (LiesT (F1 z1) g3 P) := HPL_16.out.below (HFz1.out z1)
         have HLA_17 : Hid (LiesT (F1 z1) ga L) := HLA_16.out.below (HFz1.out z1)
         have HB_17 : Hid (Below w.heap.size w (F1 z1)) := HB_16.out.trans ((HFz1.out z1).mono HB_16.out.size)
         clear HL_16 HLX_16 HQL_16 HPL_16 HLA_16 HB_16 HH_16 HY_16 HQ_16 HF_16 HDK_16 HBB_16 HDA_16
         generalize F1 z1 = wv at HH_17 HY_17 HQ_17 HF_17 HDK_17 HBB_17 HDA_17 HL_17 HLX_17 HQL_17 HPL_17 HLA_17 HB_17 ⊢
         clear HFz1 HG1 HLz HLXz HQLz HPLz HLAz y00 y01 y02 y03 y10 y11 y12 y13 y20 y21 y22 y23
         clear ex ek
         clear HQL_17 HPL_17 HLA_17 HQ_17 HF_17 HDK_17 HBB_17 HDA_17
         obtain ⟨c6a, c6b, c6c, c6d⟩ := cellsH HH_17.out
         dsimp only at c6a c6b c6c c6d
         go_wp2_with fail
         refine (SO.out _ HL_17.out).mono ?_
         rintro e w11 ⟨rfl, hb⟩
         have HH_18 : Hid (HAt (w11) (w1.heap.size) 0 ⟨who, has, kept, last⟩) := hat_below HH_17.out (hb)
         have HY_18 : Hid (HAt (w11) (w2.heap.size) 0 ⟨who, has, kept, last⟩) := hat_below HY_17.out (hb)
         have HL_18 : Hid (LiesT (w11) g L) := HL_17.out.below (hb)
         have HLX_18 : Hid (LiesT (w11) gx L) := HLX_17.out.below (hb)
         have HB_18 : Hid (Below w.heap.size w (w11)) := HB_17.out.trans ((hb).mono HB_17.out.size)
         clear HL_17 HLX_17 HB_17 HH_17 HY_17
         go_wp2_with fail
         refine (LK.out _ gx g cx cp HLX_18.out HL_18.out).mono ?_
         rintro e w12 ⟨rfl, hb⟩
         have HH_19 : Hid (HAt (w12) (w1.heap.size) 0 ⟨who, has, kept, last⟩) := hat_below HH_18.out (hb)
         have HY_19 : Hid (HAt (w12) (w2.heap.size) 0 ⟨who, has, kept, last⟩) := hat_below HY_18.out (hb)
         have HL_19 : Hid (LiesT (w12) g L) := HL_18.out.below (hb)
         have HLX_19 : Hid (LiesT (w12) gx L) := HLX_18.out.below (hb)
         have HB_19 : Hid (Below w.heap.size w (w12)) := HB_18.out.trans ((hb).mono HB_18.out.size)
         clear HL_18 HLX_18 HB_18 HH_18 HY_18
         obtain ⟨c7a, c7b, c7c, c7d⟩ := cellsH HY_19.out
         dsimp only at c7a c7b c7c c7d
         obtain ⟨c8a, c8b, c8c, c8d⟩ := cellsH HH_19.out
         dsimp only at c8a c8b c8c c8d
         have ez := hand_eq who has kept last
         have HE : Hid (Below w.heap.size w w12) := HB_19.out
         go_wp2
         go_ret
         exact ⟨rfl, HE.out⟩
     · have hIs := hand_is h64 hok
       obtain ⟨hl2, hl60, hhand, hround, hround0, hword, _⟩ := tie_parts hIs htb
       have hli := tied_is hIs htb
       have htbel := fun i hi => tied_below hIs htb i hi
       have e1 : tiesH L h wd = ⟨h.who, orB h.has (2 ^ L.length), orB h.has (2 ^ L.length), (L.length : Int)⟩ := by unfold tiesH; rw [hok, htb]; rfl
       have e2 : tiesB L h wd = true := by unfold tiesB; rw [hok, htb]; rfl
       have e3 : tiesL L h wd = L ++ [tieK L h wd] := by unfold tiesL; rw [hok, htb]; rfl
       have SX := SX0
       have HX := HX0
       rw [e1, e2, e3, List.length_append, List.length_singleton] at SX HX
       rw [hok] at SO
       have hlen : (L ++ [tieK L h wd]).length = L.length + 1 := by simp
       have hat : at' (L ++ [tieK L h wd]) L.length = tieK L h wd := by unfold Lc.at'; simp
       have hwith : Base.withI h.has (L.length : Int) = orB h.has (2 ^ L.length) := tied_with hIs hl60
       have LK : Hid (∀ (W : World) (a b ca cb : Nat), LiesT W a (L ++ [tieK L h wd]) → LiesT W b (L ++ [tieK L h wd]) → _) := fun W a b ca cb ha hb => likeS W a b ca cb (L ++ [tieK L h wd]) ha hb
       rw [hlen] at LK
       have HTC : Hid (∀ (W : World) (gx : Nat), LiesT W gx (L ++ [tieK L h wd]) → W.cell? ⟨gx, L.length * 4, none⟩ = some (.int .i64 (tieK L h wd).hand) ∧ W.cell? ⟨gx, L.length * 4 + 1, none⟩ = some (.int .i64 (tieK L h wd).round) ∧ W.cell? ⟨gx, L.length * 4 + 2, none⟩ = some (.int .i64 (tieK L h wd).frm) ∧ W.cell? ⟨gx, L.length * 4 + 3, none⟩ = some (.string (tieK L h wd).word)) := fun W gx hW => by
         obtain ⟨_, q⟩ := hW.rd.on L.length (by rw [hlen]; omega)
         rw [Nat.zero_add, hat] at q
         exact ⟨q.c0, q.c1, q.c2, q.c3⟩
       have TBE : Hid (∀ (W : World) (gx cx : Nat), L.length + 1 ≤ cx → LiesT W gx (L ++ [tieK L h wd]) → Calls Tryz.prog 14 #[.slice (some ⟨gx, 0, none⟩) (L.length + 1) cx, .int .i64 (L.length : Int)] W fun e w' => e = .returned (.int .i64 (bel (L ++ [tieK L h wd]) L.length)) ∧ Below W.heap.size W w') := fun W gx cx hcx hW => by
         have := Sg.specBelow gx 0 cx (L ++ [tieK L h wd]) (L.length : Int) W (by rw [hlen]; exact hcx) hW.words hW.rd
         rw [below_bel2 hl2 (by rw [hlen]; omega), hlen] at this
         exact this
       have TIN : Hid (∀ i, i < L.length → Hid (∀ W : World, Calls Tryz.prog 15 #[.int .i64 (bel (L ++ [tieK L h wd]) L.length), .int .i64 (i : Int)] W fun e w' => e = .returned (.bool (bit h.has i && decide ((at' L i).round < (tieK L h wd).round))) ∧ Below W.heap.size W w') ∧ Hid (∀ W : World, Calls Tryz.prog 15 #[.int .i64 h.has, .int .i64 (i : Int)] W fun e w' => e = .returned (.bool (bit h.has i)) ∧ Below W.heap.size W w')) := fun i hi => by
         have hbb := Sg.bel_bd (L ++ [tieK L h wd]) L.length (by omega)
         refine ⟨fun W => (Base.specIn _ (i : Int) W).mono fun e w' q => ⟨?_, q.2 ▸ Below.refl _ _⟩, fun W => (Base.specIn _ (i : Int) W).mono fun e w' q => ⟨?_, q.2 ▸ Below.refl _ _⟩⟩
         · rw [q.1, Int.toNat_natCast, htbel i hi, (Base.okB_iff _).2 hbb, (Base.inB_iff _).2 ⟨by omega, by omega⟩]; rfl
         · rw [q.1, Int.toNat_natCast, (Base.okB_iff _).2 ⟨hIs.h0, hIs.h1⟩, (Base.inB_iff _).2 ⟨by omega, by omega⟩]; rfl
       have TLO : Hid (∀ (W : World) (gx cx : Nat), L.length + 1 ≤ cx → LiesT W gx (L ++ [tieK L h wd]) → Calls Tryz.prog 29 #[.slice (some ⟨gx, 0, none⟩) (L.length + 1) cx] W fun e w' => e = .returned (.bool true) ∧ Below W.heap.size W w') := fun W gx cx hcx hW => by
         have := Lc.specLaceOk gx 0 cx (L ++ [tieK L h wd]) W (by rw [hlen]; exact hcx) hW.words hW.rd
         rw [hl2, hlen] at this
         exact this
       have THO : Hid (∀ (W : World) (gx cx : Nat), L.length + 1 ≤ cx → LiesT W gx (L ++ [tieK L h wd]) → Calls Tryz.prog 13 #[.slice (some ⟨gx, 0, none⟩) (L.length + 1) cx, .agg #[.int .i64 h.who, .int .i64 (orB h.has (2 ^ L.length)), .int .i64 (orB h.has (2 ^ L.length)), .int .i64 (L.length : Int)]] W fun e w' => e = .returned (.bool true) ∧ Below W.heap.size W w') := fun W gx cx hcx hW => by
         have := H4.out gx cx (L ++ [tieK L h wd]) (tiedH L h) W hW.toN (by rw [hlen]; exact hcx) (is_64b hli)
         rw [is_hand hli, hlen] at this
         exact this
       have TLK : Hid (∀ (W : World) (gx cx : Nat), LiesT W gx (L ++ [tieK L h wd]) → LiesT W g L → Calls Tryz.prog 25 #[.slice (some ⟨gx, 0, none⟩) L.length cx, .slice (some ⟨g, 0, none⟩) L.length cp] W fun e w' => e = .returned (.bool true) ∧ Below W.heap.size W w') := fun W gx cx hW hL => likeS W gx g cx cp L ⟨rdK_front hW.rd, hL.len, hL.words, hL.st⟩ hL
       have TNR : Hid (∀ W : World, LiesT W g L → Calls Tryz.prog 26 #[.slice (some ⟨g, 0, none⟩) L.length cp, .agg #[.int .i64 h.who, .int .i64 h.has, .int .i64 h.kept, .int .i64 h.last]] W fun e w' => e = .returned (.int .i64 (tieK L h wd).round) ∧ Below W.heap.size W w') := fun W hW => by
         have := specNextRound g 0 cp L h W hcp hW.words hW.rd h64
         rw [nextRI_ok hok, ← hround] at this
         exact this
       have TWI : Hid (∀ W : World, Calls Tryz.prog 17 #[.int .i64 h.has, .int .i64 (L.length : Int)] W fun e w' => e = .returned (.int .i64 (orB h.has (2 ^ L.length))) ∧ Below W.heap.size W w') := fun W => (Base.specWith h.has (L.length : Int) W).mono fun e w' q => ⟨by rw [q.1, hwith], q.2 ▸ Below.refl _ _⟩
       have hli0 : (0 : Int) ≤ (L.length : Int) := by omega
       have hli1 : (L.length : Int) < (L.length : Int) + 1 := by omega
       clear SX0 HX0 e1 e2 e3 h64 htb hIs hl2 hround hround0 hli htbel hlen hat hwith hok
       obtain ⟨who, has, kept, last⟩ := h
       dsimp only at SX SO HX HTC THO TNR TWI TIN hhand
       generalize orB has (2 ^ L.length) = nh at SX HX THO TWI
       generalize htk : tieK L ⟨who, has, kept, last⟩ wd = tk at SX HX LK HTC TBE TIN TLO THO TLK TNR hhand hword
       clear htk
       obtain ⟨th, tr, tf, tw⟩ := tk
       dsimp only at HTC TNR TIN hhand hword
       have hhand2 := hhand.symm
       have hword2 := hword.symm
       clear hhand hword
       subst hhand2
       subst hword2
       generalize bel (L ++ [⟨who, tr, tf, wd⟩]) L.length = bq at TBE TIN
       have HL_1 : Hid (LiesT (w1.alloc (.cells #[.int .i64 who, .int .i64 has, .int .i64 kept, .int .i64 last] 26)) g L) := HL_0.out.below ((Below.refl _ w1).alloc (Nat.le_refl _) _)
       have HB_1 : Hid (Below w.heap.size w (w1.alloc (.cells #[.int .i64 who, .int .i64 has, .int .i64 kept, .int .i64 last] 26))) := HB_0.out.trans (((Below.refl _ w1).alloc (Nat.le_refl _) _).mono HB_0.out.size)
       have HH_1 : Hid (HAt (w1.alloc (.cells #[.int .i64 who, .int .i64 has, .int .i64 kept, .int .i64 last] 26)) (w1.heap.size) 0 ⟨who, has, kept, last⟩) := hat_new w1 ⟨who, has, kept, last⟩ _
       clear HL_0 HB_0 
       go_wp2_with fail
       refine (HX.out _ HL_1.out).mono ?_
       rintro e w2 ⟨gx, cx, rfl, hcx, hlx, hb⟩
       have HH_2 : Hid (HAt (w2) (w1.heap.size) 0 ⟨who, has, kept, last⟩) := hat_below HH_1.out (hb)
       have HL_2 : Hid (LiesT (w2) g L) := HL_1.out.below (hb)
       have HB_2 : Hid (Below w.heap.size w (w2)) := HB_1.out.trans ((hb).mono HB_1.out.size)
       clear HL_1 HB_1 HH_1
       have HLX_2 : Hid (LiesT (w2) gx (L ++ [⟨who, tr, tf, wd⟩])) := hlx
       clear hlx
       have HH_3 : Hid (HAt (w2.alloc (.cells #[.int .i64 who, .int .i64 nh, .int .i64 nh, .int .i64 (L.length : Int)] 26)) (w1.heap.size) 0 ⟨who, has, kept, last⟩) := hat_below HH_2.out ((Below.refl _ w2).alloc (Nat.le_refl _) _)
       have HL_3 : Hid (LiesT (w2.alloc (.cells #[.int .i64 who, .int .i64 nh, .int .i64 nh, .int .i64 (L.length : Int)] 26)) g L) := HL_2.out.below ((Below.refl _ w2).alloc (Nat.le_refl _) _)
       have HLX_3 : Hid (LiesT (w2.alloc (.cells #[.int .i64 who, .int .i64 nh, .int .i64 nh, .int .i64 (L.length : Int)] 26)) gx (L ++ [⟨who, tr, tf, wd⟩])) := HLX_2.out.below ((Below.refl _ w2).alloc (Nat.le_refl _) _)
       have HB_3 : Hid (Below w.heap.size w (w2.alloc (.cells #[.int .i64 who, .int .i64 nh, .int .i64 nh, .int .i64 (L.length : Int)] 26))) := HB_2.out.trans (((Below.refl _ w2).alloc (Nat.le_refl _) _).mono HB_2.out.size)
       have HY_3 : Hid (HAt (w2.alloc (.cells #[.int .i64 who, .int .i64 nh, .int .i64 nh, .int .i64 (L.length : Int)] 26)) (w2.heap.size) 0 ⟨who, nh, nh, (L.length : Int)⟩) := hat_new w2 ⟨who, nh, nh, (L.length : Int)⟩ _
       clear HL_2 HLX_2 HB_2 HH_2
       go_wp2_with fail
       refine (drawNextRound HDD.out HDX.out a0 len0 cap0 _ hle0 (code_below2 HCode.out HB_3.out)).mono ?_
       rintro e w3 ⟨v2, Q, gq, rfl, hD2⟩
       obtain ⟨g2, cp2, rfl, hcp2, hM⟩ := drawn_liesS hD2.dr
       have g64 := hD2.h64
       have HH_4 : Hid (HAt (w3) (w1.heap.size) 0 ⟨who, has, kept, last⟩) := hat_below HH_3.out (hD2.dr.bel)
       have HY_4 : Hid (HAt (w3) (w2.heap.size) 0 ⟨who, nh, nh, (L.length : Int)⟩) := hat_below HY_3.out (hD2.dr.bel)
       have HL_4 : Hid (LiesT (w3) g L) := HL_3.out.below (hD2.dr.bel)
       have HLX_4 : Hid (LiesT (w3) gx (L ++ [⟨who, tr, tf, wd⟩])) := HLX_3.out.below (hD2.dr.bel)
       have HB_4 : Hid (Below w.heap.size w (w3)) := HB_3.out.trans ((hD2.dr.bel).mono HB_3.out.size)
       clear HL_3 HLX_3 HB_3 HH_3 HY_3
       have HQL_4 : Hid (LiesT w3 g2 Q) := ⟨hM.rd, hM.len, hM.words, HNO.out.below HB_4.out⟩
       have NQ : Hid (∀ W : World, LiesT W g2 Q → _) := fun W hW => H2.out g2 cp2 Q gq W hW hcp2 g64
       have SQ : Hid (∀ W : World, LiesT W g2 Q → _) := fun W hW => specNextRound g2 0 cp2 Q gq W hcp2 hW.words hW.rd g64
       generalize nextRI Q gq = rq at NQ SQ
       clear hD2 hM g64
       obtain ⟨qw, qh, qk, ql⟩ := gq
       dsimp only at NQ SQ
       have HH_5 : Hid (HAt (w3.alloc (.cells #[.int .i64 qw, .int .i64 qh, .int .i64 qk, .int .i64 ql] 26)) (w1.heap.size) 0 ⟨who, has, kept, last⟩) := hat_below HH_4.out ((Below.refl _ w3).alloc (Nat.le_refl _) _)
       have HY_5 : Hid (HAt (w3.alloc (.cells #[.int .i64 qw, .int .i64 qh, .int .i64 qk, .int .i64 ql] 26)) (w2.heap.size) 0 ⟨who, nh, nh, (L.length : Int)⟩) := hat_below HY_4.out ((Below.refl _ w3).alloc (Nat.le_refl _) _)
       have HL_5 : Hid (LiesT (w3.alloc (.cells #[.int .i64 qw, .int .i64 qh, .int .i64 qk, .int .i64 ql] 26)) g L) := HL_4.out.below ((Below.refl _ w3).alloc (Nat.le_refl _) _)
       have HLX_5 : Hid (LiesT (w3.alloc (.cells #[.int .i64 qw, .int .i64 qh, .int .i64 qk, .int .i64 ql] 26)) gx (L ++ [⟨who, tr, tf, wd⟩])) := HLX_4.out.below ((Below.refl _ w3).alloc (Nat.le_refl _) _)
       have HQL_5 : Hid (LiesT (w3.alloc (.cells #[.int .i64 qw, .int .i64 qh, .int .i64 qk, .int .i64 ql] 26)) g2 Q) := HQL_4.out.below ((Below.refl _ w3).alloc (Nat.le_refl _) _)
       have HB_5 : Hid (Below w.heap.size w (w3.alloc (.cells #[.int .i64 qw, .int .i64 qh, .int .i64 qk, .int .i64 ql] 26))) := HB_4.out.trans (((Below.refl _ w3).alloc (Nat.le_refl _) _).mono HB_4.out.size)
       have HQ_5 : Hid (HAt (w3.alloc (.cells #[.int .i64 qw, .int .i64 qh, .int .i64 qk, .int .i64 ql] 26)) (w3.heap.size) 0 ⟨qw, qh, qk, ql⟩) := hat_new w3 ⟨qw, qh, qk, ql⟩ _
       clear HL_4 HLX_4 HQL_4 HB_4 HH_4 HY_4
       go_wp2_with fail
       refine (NQ.out _ HQL_5.out).mono ?_
       rintro e w4 ⟨rfl, hb⟩
       have HH_6 : Hid (HAt (w4) (w1.heap.size) 0 ⟨who, has, kept, last⟩) := hat_below HH_5.out (hb)
       have HY_6 : Hid (HAt (w4) (w2.heap.size) 0 ⟨who, nh, nh, (L.length : Int)⟩) := hat_below HY_5.out (hb)
       have HQ_6 : Hid (HAt (w4) (w3.heap.size) 0 ⟨qw, qh, qk, ql⟩) := hat_below HQ_5.out (hb)
       have HL_6 : Hid (LiesT (w4) g L) := HL_5.out.below (hb)
       have HLX_6 : Hid (LiesT (w4) gx (L ++ [⟨who, tr, tf, wd⟩])) := HLX_5.out.below (hb)
       have HQL_6 : Hid (LiesT (w4) g2 Q) := HQL_5.out.below (hb)
       have HB_6 : Hid (Below w.heap.size w (w4)) := HB_5.out.trans ((hb).mono HB_5.out.size)
       clear HL_5 HLX_5 HQL_5 HB_5 HH_5 HY_5 HQ_5
       go_wp2_with fail
       refine (drawDraft HDD.out HDX.out a0 len0 cap0 _ hle0 (code_below2 HCode.out HB_6.out)).mono ?_
       rintro e w5 ⟨v3, P, gp, dw, rfl, hD3, hdw⟩
       obtain ⟨g3, cp3, rfl, hcp3, hN⟩ := drawn_liesS hD3.dr
       have p64 := hD3.h64
       have HH_7 : Hid (HAt (w5) (w1.heap.size) 0 ⟨who, has, kept, last⟩) := hat_below HH_6.out (hD3.dr.bel)
       have HY_7 : Hid (HAt (w5) (w2.heap.size) 0 ⟨who, nh, nh, (L.length : Int)⟩) := hat_below HY_6.out (hD3.dr.bel)
       have HQ_7 : Hid (HAt (w5) (w3.heap.size) 0 ⟨qw, qh, qk, ql⟩) := hat_below HQ_6.out (hD3.dr.bel)
       have HL_7 : Hid (LiesT (w5) g L) := HL_6.out.below (hD3.dr.bel)
       have HLX_7 : Hid (LiesT (w5) gx (L ++ [⟨who, tr, tf, wd⟩])) := HLX_6.out.below (hD3.dr.bel)
       have HQL_7 : Hid (LiesT (w5) g2 Q) := HQL_6.out.below (hD3.dr.bel)
       have HB_7 : Hid (Below w.heap.size w (w5)) := HB_6.out.trans ((hD3.dr.bel).mono HB_6.out.size)
       clear HL_6 HLX_6 HQL_6 HB_6 HH_6 HY_6 HQ_6
       have HPL_7 : Hid (LiesT w5 g3 P) := ⟨hN.rd, hN.len, hN.words, HNO.out.below HB_7.out⟩
       clear hD3 hN
       have ND0 : Hid (∀ W : World, LiesT W g3 P → _) := fun W hW => H3.out g3 cp3 P gp dw W hW hcp3 p64 (by omega)
       have SD0 : Hid (∀ W : World, LiesT W g3 P → _) := fun W hW => specDraft g3 0 cp3 P gp dw W hcp3 hW.words hW.rd p64 (by omega)
       have SP0 : Hid (∀ W : World, LiesT W g3 P → _) := fun W hW => specNextRound g3 0 cp3 P gp W hcp3 hW.words hW.rd p64
       clear hdw
       cases hfi : draftedB P gp dw
       · have ND := ND0
         have SD := SD0
         rw [hfi] at ND SD
         clear ND0 SD0
         generalize hdk : draftedK P gp dw = dk at ND SD
         clear SP0 hfi hdk
         obtain ⟨kh, kr, kf, kw⟩ := dk
         obtain ⟨fw, fh, fk, fl⟩ := gp
         dsimp only at ND SD
         have HH_8 : Hid (HAt (w5.alloc (.cells #[.int .i64 fw, .int .i64 fh, .int .i64 fk, .int .i64 fl] 26)) (w1.heap.size) 0 ⟨who, has, kept, last⟩) := hat_below HH_7.out ((Below.refl _ w5).alloc (Nat.le_refl _) _)
         have HY_8 : Hid (HAt (w5.alloc (.cells #[.int .i64 fw, .int .i64 fh, .int .i64 fk, .int .i64 fl] 26)) (w2.heap.size) 0 ⟨who, nh, nh, (L.length : Int)⟩) := hat_below HY_7.out ((Below.refl _ w5).alloc (Nat.le_refl _) _)
         have HQ_8 : Hid (HAt (w5.alloc (.cells #[.int .i64 fw, .int .i64 fh, .int .i64 fk, .int .i64 fl] 26)) (w3.heap.size) 0 ⟨qw, qh, qk, ql⟩) := hat_below HQ_7.out ((Below.refl _ w5).alloc (Nat.le_refl _) _)
         have HL_8 : Hid (LiesT (w5.alloc (.cells #[.int .i64 fw, .int .i64 fh, .int .i64 fk, .int .i64 fl] 26)) g L) := HL_7.out.below ((Below.refl _ w5).alloc (Nat.le_refl _) _)
         have HLX_8 : Hid (LiesT (w5.alloc (.cells #[.int .i64 fw, .int .i64 fh, .int .i64 fk, .int .i64 fl] 26)) gx (L ++ [⟨who, tr, tf, wd⟩])) := HLX_7.out.below ((Below.refl _ w5).alloc (Nat.le_refl _) _)
         have HQL_8 : Hid (LiesT (w5.alloc (.cells #[.int .i64 fw, .int .i64 fh, .int .i64 fk, .int .i64 fl] 26)) g2 Q) := HQL_7.out.below ((Below.refl _ w5).alloc (Nat.le_refl _) _)
         have HPL_8 : Hid (LiesT (w5.alloc (.cells #[.int .i64 fw, .int .i64 fh, .int .i64 fk, .int .i64 fl] 26)) g3 P) := HPL_7.out.below ((Below.refl _ w5).alloc (Nat.le_refl _) _)
         have HB_8 : Hid (Below w.heap.size w (w5.alloc (.cells #[.int .i64 fw, .int .i64 fh, .int .i64 fk, .int .i64 fl] 26))) := HB_7.out.trans (((Below.refl _ w5).alloc (Nat.le_refl _) _).mono HB_7.out.size)
         have HF_8 : Hid (HAt (w5.alloc (.cells #[.int .i64 fw, .int .i64 fh, .int .i64 fk, .int .i64 fl] 26)) (w5.heap.size) 0 ⟨fw, fh, fk, fl⟩) := hat_new w5 ⟨fw, fh, fk, fl⟩ _
         clear HL_7 HLX_7 HQL_7 HPL_7 HB_7 HH_7 HY_7 HQ_7
         go_wp2_with fail
         refine (ND.out _ HPL_8.out).mono ?_
         rintro e w6 ⟨rfl, hb⟩
         have HH_9 : Hid (HAt (w6) (w1.heap.size) 0 ⟨who, has, kept, last⟩) := hat_below HH_8.out (hb)
         have HY_9 : Hid (HAt (w6) (w2.heap.size) 0 ⟨who, nh, nh, (L.length : Int)⟩) := hat_below HY_8.out (hb)
         have HQ_9 : Hid (HAt (w6) (w3.heap.size) 0 ⟨qw, qh, qk, ql⟩) := hat_below HQ_8.out (hb)
         have HF_9 : Hid (HAt (w6) (w5.heap.size) 0 ⟨fw, fh, fk, fl⟩) := hat_below HF_8.out (hb)
         have HL_9 : Hid (LiesT (w6) g L) := HL_8.out.below (hb)
         have HLX_9 : Hid (LiesT (w6) gx (L ++ [⟨who, tr, tf, wd⟩])) := HLX_8.out.below (hb)
         have HQL_9 : Hid (LiesT (w6) g2 Q) := HQL_8.out.below (hb)
         have HPL_9 : Hid (LiesT (w6) g3 P) := HPL_8.out.below (hb)
         have HB_9 : Hid (Below w.heap.size w (w6)) := HB_8.out.trans ((hb).mono HB_8.out.size)
         clear HL_8 HLX_8 HQL_8 HPL_8 HB_8 HH_8 HY_8 HQ_8 HF_8
         have HH_10 : Hid (HAt (w6.alloc (.cells #[.int .i64 kh, .int .i64 kr, .int .i64 kf, .string kw] 36)) (w1.heap.size) 0 ⟨who, has, kept, last⟩) := hat_below HH_9.out ((Below.refl _ w6).alloc (Nat.le_refl _) _)
         have HY_10 : Hid (HAt (w6.alloc (.cells #[.int .i64 kh, .int .i64 kr, .int .i64 kf, .string kw] 36)) (w2.heap.size) 0 ⟨who, nh, nh, (L.length : Int)⟩) := hat_below HY_9.out ((Below.refl _ w6).alloc (Nat.le_refl _) _)
         have HQ_10 : Hid (HAt (w6.alloc (.cells #[.int .i64 kh, .int .i64 kr, .int .i64 kf, .string kw] 36)) (w3.heap.size) 0 ⟨qw, qh, qk, ql⟩) := hat_below HQ_9.out ((Below.refl _ w6).alloc (Nat.le_refl _) _)
         have HF_10 : Hid (HAt (w6.alloc (.cells #[.int .i64 kh, .int .i64 kr, .int .i64 kf, .string kw] 36)) (w5.heap.size) 0 ⟨fw, fh, fk, fl⟩) := hat_below HF_9.out ((Below.refl _ w6).alloc (Nat.le_refl _) _)
         have HL_10 : Hid (LiesT (w6.alloc (.cells #[.int .i64 kh, .int .i64 kr, .int .i64 kf, .string kw] 36)) g L) := HL_9.out.below ((Below.refl _ w6).alloc (Nat.le_refl _) _)
         have HLX_10 : Hid (LiesT (w6.alloc (.cells #[.int .i64 kh, .int .i64 kr, .int .i64 kf, .string kw] 36)) gx (L ++ [⟨who, tr, tf, wd⟩])) := HLX_9.out.below ((Below.refl _ w6).alloc (Nat.le_refl _) _)
         have HQL_10 : Hid (LiesT (w6.alloc (.cells #[.int .i64 kh, .int .i64 kr, .int .i64 kf, .string kw] 36)) g2 Q) := HQL_9.out.below ((Below.refl _ w6).alloc (Nat.le_refl _) _)
         have HPL_10 : Hid (LiesT (w6.alloc (.cells #[.int .i64 kh, .int .i64 kr, .int .i64 kf, .string kw] 36)) g3 P) := HPL_9.out.below ((Below.refl _ w6).alloc (Nat.le_refl _) _)
         have HB_10 : Hid (Below w.heap.size w (w6.alloc (.cells #[.int .i64 kh, .int .i64 kr, .int .i64 kf, .string kw] 36))) := HB_9.out.trans (((Below.refl _ w6).alloc (Nat.le_refl _) _).mono HB_9.out.size)
         have HDK_10 : Hid (KnAt (w6.alloc (.cells #[.int .i64 kh, .int .i64 kr, .int .i64 kf, .string kw] 36)) (w6.heap.size) ⟨kh, kr, kf, kw⟩) := knat_new w6 ⟨kh, kr, kf, kw⟩ _
         clear HL_9 HLX_9 HQL_9 HPL_9 HB_9 HH_9 HY_9 HQ_9 HF_9
         obtain ⟨c1a, c1b, c1c, c1d⟩ := cellsH HH_10.out
         dsimp only at c1a c1b c1c c1d
         go_wp2_with fail
         refine (SX.out _ HL_10.out).mono ?_
         rintro e w7 ⟨ga, ca, rfl, hca, hla, hb⟩
         have HH_11 : Hid (HAt (w7) (w1.heap.size) 0 ⟨who, has, kept, last⟩) := hat_below HH_10.out (hb)
         have HY_11 : Hid (HAt (w7) (w2.heap.size) 0 ⟨who, nh, nh, (L.length : Int)⟩) := hat_below HY_10.out (hb)
         have HQ_11 : Hid (HAt (w7) (w3.heap.size) 0 ⟨qw, qh, qk, ql⟩) := hat_below HQ_10.out (hb)
         have HF_11 : Hid (HAt (w7) (w5.heap.size) 0 ⟨fw, fh, fk, fl⟩) := hat_below HF_10.out (hb)
         have HDK_11 : Hid (KnAt (w7) (w6.heap.size) ⟨kh, kr, kf, kw⟩) := knat_below HDK_10.out (hb)
         have HL_11 : Hid (LiesT (w7) g L) := HL_10.out.below (hb)
         have HLX_11 : Hid (LiesT (w7) gx (L ++ [⟨who, tr, tf, wd⟩])) := HLX_10.out.below (hb)
         have HQL_11 : Hid (LiesT (w7) g2 Q) := HQL_10.out.below (hb)
         have HPL_11 : Hid (LiesT (w7) g3 P) := HPL_10.out.below (hb)
         have HB_11 : Hid (Below w.heap.size w (w7)) := HB_10.out.trans ((hb).mono HB_10.out.size)
         clear HL_10 HLX_10 HQL_10 HPL_10 HB_10 HH_10 HY_10 HQ_10 HF_10 HDK_10
         have HLA_11 : Hid (LiesT (w7) ga (L ++ [⟨who, tr, tf, wd⟩])) := hla
         clear hla
         have HH_12 : Hid (HAt (w7.alloc (.cells #[.int .i64 who, .int .i64 nh, .int .i64 nh, .int .i64 (L.length : Int)] 26)) (w1.heap.size) 0 ⟨who, has, kept, last⟩) := hat_below HH_11.out ((Below.refl _ w7).alloc (Nat.le_refl _) _)
         have HY_12 : Hid (HAt (w7.alloc (.cells #[.int .i64 who, .int .i64 nh, .int .i64 nh, .int .i64 (L.length : Int)] 26)) (w2.heap.size) 0 ⟨who, nh, nh, (L.length : Int)⟩) := hat_below HY_11.out ((Below.refl _ w7).alloc (Nat.le_refl _) _)
         have HQ_12 : Hid (HAt (w7.alloc (.cells #[.int .i64 who, .int .i64 nh, .int .i64 nh, .int .i64 (L.length : Int)] 26)) (w3.heap.size) 0 ⟨qw, qh, qk, ql⟩) := hat_below HQ_11.out ((Below.refl _ w7).alloc (Nat.le_refl _) _)
         have HF_12 : Hid (HAt (w7.alloc (.cells #[.int .i64 who, .int .i64 nh, .int .i64 nh, .int .i64 (L.length : Int)] 26)) (w5.heap.size) 0 ⟨fw, fh, fk, fl⟩) := hat_below HF_11.out ((Below.refl _ w7).alloc (Nat.le_refl _) _)
         have HDK_12 : Hid (KnAt (w7.alloc (.cells #[.int .i64 who, .int .i64 nh, .int .i64 nh, .int .i64 (L.length : Int)] 26)) (w6.heap.size) ⟨kh, kr, kf, kw⟩) := knat_below HDK_11.out ((Below.refl _ w7).alloc (Nat.le_refl _) _)
         have HL_12 : Hid (LiesT (w7.alloc (.cells #[.int .i64 who, .int .i64 nh, .int .i64 nh, .int .i64 (L.length : Int)] 26)) g L) := HL_11.out.below ((Below.refl _ w7).alloc (Nat.le_refl _) _)
         have HLX_12 : Hid (LiesT (w7.alloc (.cells #[.int .i64 who, .int .i64 nh, .int .i64 nh, .int .i64 (L.length : Int)] 26)) gx (L ++ [⟨who, tr, tf, wd⟩])) := HLX_11.out.below ((Below.refl _ w7).alloc (Nat.le_refl _) _)
         have HQL_12 : Hid (LiesT (w7.alloc (.cells #[.int .i64 who, .int .i64 nh, .int .i64 nh, .int .i64 (L.length : Int)] 26)) g2 Q) := HQL_11.out.below ((Below.refl _ w7).alloc (Nat.le_refl _) _)
         have HPL_12 : Hid (LiesT (w7.alloc (.cells #[.int .i64 who, .int .i64 nh, .int .i64 nh, .int .i64 (L.length : Int)] 26)) g3 P) := HPL_11.out.below ((Below.refl _ w7).alloc (Nat.le_refl _) _)
         have HLA_12 : Hid (LiesT (w7.alloc (.cells #[.int .i64 who, .int .i64 nh, .int .i64 nh, .int .i64 (L.length : Int)] 26)) ga (L ++ [⟨who, tr, tf, wd⟩])) := HLA_11.out.below ((Below.refl _ w7).alloc (Nat.le_refl _) _)
         have HB_12 : Hid (Below w.heap.size w (w7.alloc (.cells #[.int .i64 who, .int .i64 nh, .int .i64 nh, .int .i64 (L.length : Int)] 26))) := HB_11.out.trans (((Below.refl _ w7).alloc (Nat.le_refl _) _).mono HB_11.out.size)
         have HBB_12 : Hid (HAt (w7.alloc (.cells #[.int .i64 who, .int .i64 nh, .int .i64 nh, .int .i64 (L.length : Int)] 26)) (w7.heap.size) 0 ⟨who, nh, nh, (L.length : Int)⟩) := hat_new w7 ⟨who, nh, nh, (L.length : Int)⟩ _
         clear HL_11 HLX_11 HQL_11 HPL_11 HLA_11 HB_11 HH_11 HY_11 HQ_11 HF_11 HDK_11
         have ex := hand_ne who nh nh (L.length : Int)
         go_wp2_with fail
         refine (LK.out _ gx ga cx ca HLX_12.out HLA_12.out).mono ?_
         rintro e w8 ⟨rfl, hb⟩
         have HH_13 : Hid (HAt (w8) (w1.heap.size) 0 ⟨who, has, kept, last⟩) := hat_below HH_12.out (hb)
         have HY_13 : Hid (HAt (w8) (w2.heap.size) 0 ⟨who, nh, nh, (L.length : Int)⟩) := hat_below HY_12.out (hb)
         have HQ_13 : Hid (HAt (w8) (w3.heap.size) 0 ⟨qw, qh, qk, ql⟩) := hat_below HQ_12.out (hb)
         have HF_13 : Hid (HAt (w8) (w5.heap.size) 0 ⟨fw, fh, fk, fl⟩) := hat_below HF_12.out (hb)
         have HDK_13 : Hid (KnAt (w8) (w6.heap.size) ⟨kh, kr, kf, kw⟩) := knat_below HDK_12.out (hb)
         have HBB_13 : Hid (HAt (w8) (w7.heap.size) 0 ⟨who, nh, nh, (L.length : Int)⟩) := hat_below HBB_12.out (hb)
         have HL_13 : Hid (LiesT (w8) g L) := HL_12.out.below (hb)
         have HLX_13 : Hid (LiesT (w8) gx (L ++ [⟨who, tr, tf, wd⟩])) := HLX_12.out.below (hb)
         have HQL_13 : Hid (LiesT (w8) g2 Q) := HQL_12.out.below (hb)
         have HPL_13 : Hid (LiesT (w8) g3 P) := HPL_12.out.below (hb)
         have HLA_13 : Hid (LiesT (w8) ga (L ++ [⟨who, tr, tf, wd⟩])) := HLA_12.out.below (hb)
         have HB_13 : Hid (Below w.heap.size w (w8)) := HB_12.out.trans ((hb).mono HB_12.out.size)
         clear HL_12 HLX_12 HQL_12 HPL_12 HLA_12 HB_12 HH_12 HY_12 HQ_12 HF_12 HDK_12 HBB_12
         obtain ⟨c2a, c2b, c2c, c2d⟩ := cellsH HY_13.out
         dsimp only at c2a c2b c2c c2d
         obtain ⟨c3a, c3b, c3c, c3d⟩ := cellsH HBB_13.out
         dsimp only at c3a c3b c3c c3d
         obtain ⟨c4a, c4b, c4c, c4d⟩ := cellsH HQ_13.out
         dsimp only at c4a c4b c4c c4d
         go_wp2_with fail
         refine (SQ.out _ HQL_13.out).mono ?_
         rintro e w9 ⟨rfl, hb⟩
         have HH_14 : Hid (HAt (w9) (w1.heap.size) 0 ⟨who, has, kept, last⟩) := hat_below HH_13.out (hb)
         have HY_14 : Hid (HAt (w9) (w2.heap.size) 0 ⟨who, nh, nh, (L.length : Int)⟩) := hat_below HY_13.out (hb)
         have HQ_14 : Hid (HAt (w9) (w3.heap.size) 0 ⟨qw, qh, qk, ql⟩) := hat_below HQ_13.out (hb)
         have HF_14 : Hid (HAt (w9) (w5.heap.size) 0 ⟨fw, fh, fk, fl⟩) := hat_below HF_13.out (hb)
         have HDK_14 : Hid (KnAt (w9) (w6.heap.size) ⟨kh, kr, kf, kw⟩) := knat_below HDK_13.out (hb)
         have HBB_14 : Hid (HAt (w9) (w7.heap.size) 0 ⟨who, nh, nh, (L.length : Int)⟩) := hat_below HBB_13.out (hb)
         have HL_14 : Hid (LiesT (w9) g L) := HL_13.out.below (hb)
         have HLX_14 : Hid (LiesT (w9) gx (L ++ [⟨who, tr, tf, wd⟩])) := HLX_13.out.below (hb)
         have HQL_14 : Hid (LiesT (w9) g2 Q) := HQL_13.out.below (hb)
         have HPL_14 : Hid (LiesT (w9) g3 P) := HPL_13.out.below (hb)
         have HLA_14 : Hid (LiesT (w9) ga (L ++ [⟨who, tr, tf, wd⟩])) := HLA_13.out.below (hb)
         have HB_14 : Hid (Below w.heap.size w (w9)) := HB_13.out.trans ((hb).mono HB_13.out.size)
         clear HL_13 HLX_13 HQL_13 HPL_13 HLA_13 HB_13 HH_13 HY_13 HQ_13 HF_13 HDK_13 HBB_13
         obtain ⟨c5a, c5b, c5c, c5d⟩ := cellsH HF_14.out
         dsimp only at c5a c5b c5c c5d
         go_wp2_with fail
         refine (SD.out _ HPL_14.out).mono ?_
         rintro e w10 ⟨rfl, hb⟩
         have HH_15 : Hid (HAt (w10) (w1.heap.size) 0 ⟨who, has, kept, last⟩) := hat_below HH_14.out (hb)
         have HY_15 : Hid (HAt (w10) (w2.heap.size) 0 ⟨who, nh, nh, (L.length : Int)⟩) := hat_below HY_14.out (hb)
         have HQ_15 : Hid (HAt (w10) (w3.heap.size) 0 ⟨qw, qh, qk, ql⟩) := hat_below HQ_14.out (hb)
         have HF_15 : Hid (HAt (w10) (w5.heap.size) 0 ⟨fw, fh, fk, fl⟩) := hat_below HF_14.out (hb)
         have HDK_15 : Hid (KnAt (w10) (w6.heap.size) ⟨kh, kr, kf, kw⟩) := knat_below HDK_14.out (hb)
         have HBB_15 : Hid (HAt (w10) (w7.heap.size) 0 ⟨who, nh, nh, (L.length : Int)⟩) := hat_below HBB_14.out (hb)
         have HL_15 : Hid (LiesT (w10) g L) := HL_14.out.below (hb)
         have HLX_15 : Hid (LiesT (w10) gx (L ++ [⟨who, tr, tf, wd⟩])) := HLX_14.out.below (hb)
         have HQL_15 : Hid (LiesT (w10) g2 Q) := HQL_14.out.below (hb)
         have HPL_15 : Hid (LiesT (w10) g3 P) := HPL_14.out.below (hb)
         have HLA_15 : Hid (LiesT (w10) ga (L ++ [⟨who, tr, tf, wd⟩])) := HLA_14.out.below (hb)
         have HB_15 : Hid (Below w.heap.size w (w10)) := HB_14.out.trans ((hb).mono HB_14.out.size)
         clear HL_14 HLX_14 HQL_14 HPL_14 HLA_14 HB_14 HH_14 HY_14 HQ_14 HF_14 HDK_14 HBB_14
         have HH_16 : Hid (HAt (w10.alloc (.cells #[.int .i64 kh, .int .i64 kr, .int .i64 kf, .string kw] 36)) (w1.heap.size) 0 ⟨who, has, kept, last⟩) := hat_below HH_15.out ((Below.refl _ w10).alloc (Nat.le_refl _) _)
         have HY_16 : Hid (HAt (w10.alloc (.cells #[.int .i64 kh, .int .i64 kr, .int .i64 kf, .string kw] 36)) (w2.heap.size) 0 ⟨who, nh, nh, (L.length : Int)⟩) := hat_below HY_15.out ((Below.refl _ w10).alloc (Nat.le_refl _) _)
         have HQ_16 : Hid (HAt (w10.alloc (.cells #[.int .i64 kh, .int .i64 kr, .int .i64 kf, .string kw] 36)) (w3.heap.size) 0 ⟨qw, qh, qk, ql⟩) := hat_below HQ_15.out ((Below.refl _ w10).alloc (Nat.le_refl _) _)
         have HF_16 : Hid (HAt (w10.alloc (.cells #[.int .i64 kh, .int .i64 kr, .int .i64 kf, .string kw] 36)) (w5.heap.size) 0 ⟨fw, fh, fk, fl⟩) := hat_below HF_15.out ((Below.refl _ w10).alloc (Nat.le_refl _) _)
         have HDK_16 : Hid (KnAt (w10.alloc (.cells #[.int .i64 kh, .int .i64 kr, .int .i64 kf, .string kw] 36)) (w6.heap.size) ⟨kh, kr, kf, kw⟩) := knat_below HDK_15.out ((Below.refl _ w10).alloc (Nat.le_refl _) _)
         have HBB_16 : Hid (HAt (w10.alloc (.cells #[.int .i64 kh, .int .i64 kr, .int .i64 kf, .string kw] 36)) (w7.heap.size) 0 ⟨who, nh, nh, (L.length : Int)⟩) := hat_below HBB_15.out ((Below.refl _ w10).alloc (Nat.le_refl _) _)
         have HL_16 : Hid (LiesT (w10.alloc (.cells #[.int .i64 kh, .int .i64 kr, .int .i64 kf, .string kw] 36)) g L) := HL_15.out.below ((Below.refl _ w10).alloc (Nat.le_refl _) _)
         have HLX_16 : Hid (LiesT (w10.alloc (.cells #[.int .i64 kh, .int .i64 kr, .int .i64 kf, .string kw] 36)) gx (L ++ [⟨who, tr, tf, wd⟩])) := HLX_15.out.below ((Below.refl _ w10).alloc (Nat.le_refl _) _)
         have HQL_16 : Hid (LiesT (w10.alloc (.cells #[.int .i64 kh, .int .i64 kr, .int .i64 kf, .string kw] 36)) g2 Q) := HQL_15.out.below ((Below.refl _ w10).alloc (Nat.le_refl _) _)
         have HPL_16 : Hid (LiesT (w10.alloc (.cells #[.int .i64 kh, .int .i64 kr, .int .i64 kf, .string kw] 36)) g3 P) := HPL_15.out.below ((Below.refl _ w10).alloc (Nat.le_refl _) _)
         have HLA_16 : Hid (LiesT (w10.alloc (.cells #[.int .i64 kh, .int .i64 kr, .int .i64 kf, .string kw] 36)) ga (L ++ [⟨who, tr, tf, wd⟩])) := HLA_15.out.below ((Below.refl _ w10).alloc (Nat.le_refl _) _)
         have HB_16 : Hid (Below w.heap.size w (w10.alloc (.cells #[.int .i64 kh, .int .i64 kr, .int .i64 kf, .string kw] 36))) := HB_15.out.trans (((Below.refl _ w10).alloc (Nat.le_refl _) _).mono HB_15.out.size)
         have HDA_16 : Hid (KnAt (w10.alloc (.cells #[.int .i64 kh, .int .i64 kr, .int .i64 kf, .string kw] 36)) (w10.heap.size) ⟨kh, kr, kf, kw⟩) := knat_new w10 ⟨kh, kr, kf, kw⟩ _
         clear HL_15 HLX_15 HQL_15 HPL_15 HLA_15 HB_15 HH_15 HY_15 HQ_15 HF_15 HDK_15 HBB_15
         have ek := knot_ne kh kr kf kw
         obtain ⟨X1, _, F1, HFz1, HG1⟩ := Fam.fam ((w10.alloc (.cells #[.int .i64 kh, .int .i64 kr, .int .i64 kf, .string kw] 36)))
         have y00 : ∀ z, (F1 z).cell? ⟨w5.heap.size, 0, none⟩ = some (.int .i64 fw) := fun z => (cellsH (hat_below HF_16.out (HFz1.out z))).1
         have y01 : ∀ z, (F1 z).cell? ⟨w5.heap.size, 1, none⟩ = some (.int .i64 fh) := fun z => (cellsH (hat_below HF_16.out (HFz1.out z))).2.1
         have y02 : ∀ z, (F1 z).cell? ⟨w5.heap.size, 2, none⟩ = some (.int .i64 fk) := fun z => (cellsH (hat_below HF_16.out (HFz1.out z))).2.2.1
         have y03 : ∀ z, (F1 z).cell? ⟨w5.heap.size, 3, none⟩ = some (.int .i64 fl) := fun z => (cellsH (hat_below HF_16.out (HFz1.out z))).2.2.2
         have y10 : ∀ z, (F1 z).cell? ⟨w6.heap.size, 0, none⟩ = some (.int .i64 kh) := fun z => (knat_cells (knat_below HDK_16.out (HFz1.out z))).1
         have y11 : ∀ z, (F1 z).cell? ⟨w6.heap.size, 1, none⟩ = some (.int .i64 kr) := fun z => (knat_cells (knat_below HDK_16.out (HFz1.out z))).2.1
         have y12 : ∀ z, (F1 z).cell? ⟨w6.heap.size, 2, none⟩ = some (.int .i64 kf) := fun z => (knat_cells (knat_below HDK_16.out (HFz1.out z))).2.2.1
         have y13 : ∀ z, (F1 z).cell? ⟨w6.heap.size, 3, none⟩ = some (.string kw) := fun z => (knat_cells (knat_below HDK_16.out (HFz1.out z))).2.2.2
         have y20 : ∀ z, (F1 z).cell? ⟨w10.heap.size, 0, none⟩ = some (.int .i64 kh) := fun z => (knat_cells (knat_below HDA_16.out (HFz1.out z))).1
         have y21 : ∀ z, (F1 z).cell? ⟨w10.heap.size, 1, none⟩ = some (.int .i64 kr) := fun z => (knat_cells (knat_below HDA_16.out (HFz1.out z))).2.1
         have y22 : ∀ z, (F1 z).cell? ⟨w10.heap.size, 2, none⟩ = some (.int .i64 kf) := fun z => (knat_cells (knat_below HDA_16.out (HFz1.out z))).2.2.1
         have y23 : ∀ z, (F1 z).cell? ⟨w10.heap.size, 3, none⟩ = some (.string kw) := fun z => (knat_cells (knat_below HDA_16.out (HFz1.out z))).2.2.2
         have HLz : Hid (∀ z, LiesT (F1 z) g L) := fun z => HL_16.out.below (HFz1.out z)
         have HLXz : Hid (∀ z, LiesT (F1 z) gx (L ++ [⟨who, tr, tf, wd⟩])) := fun z => HLX_16.out.below (HFz1.out z)
         have HQLz : Hid (∀ z, LiesT (F1 z) g2 Q) := fun z => HQL_16.out.below (HFz1.out z)
         have HPLz : Hid (∀ z, LiesT (F1 z) g3 P) := fun z => HPL_16.out.below (HFz1.out z)
         have HLAz : Hid (∀ z, LiesT (F1 z) ga (L ++ [⟨who, tr, tf, wd⟩])) := fun z => HLA_16.out.below (HFz1.out z)
         go_wp2_with fail
         refine Fam.region (F := F1) (by kernel_rfl) (by kernel_rfl) (HG1.out _ (Below.refl _ _).drew) ?_
         repeat (go_big_quiet_step (first
           | fail))
         refine wpQuiet_nil ?_
         intro wz hwz
         obtain ⟨z1, rfl⟩ := hwz
         have HH_17 : Hid (HAt (F1 z1) (w1.heap.size) 0 ⟨who, has, kept, last⟩) := hat_below HH_16.out (HFz1.out z1)
         have HY_17 : Hid (HAt (F1 z1) (w2.heap.size) 0 ⟨who, nh, nh, (L.length : Int)⟩) := hat_below HY_16.out (HFz1.out z1)
         have HQ_17 : Hid (HAt (F1 z1) (w3.heap.size) 0 ⟨qw, qh, qk, ql⟩) := hat_below HQ_16.out (HFz1.out z1)
         have HF_17 : Hid (HAt (F1 z1) (w5.heap.size) 0 ⟨fw, fh, fk, fl⟩) := hat_below HF_16.out (HFz1.out z1)
         have HDK_17 : Hid (KnAt (F1 z1) (w6.heap.size) ⟨kh, kr, kf, kw⟩) := knat_below HDK_16.out (HFz1.out z1)
         have HBB_17 : Hid (HAt (F1 z1) (w7.heap.size) 0 ⟨who, nh, nh, (L.length : Int)⟩) := hat_below HBB_16.out (HFz1.out z1)
         have HDA_17 : Hid (KnAt (F1 z1) (w10.heap.size) ⟨kh, kr, kf, kw⟩) := knat_below HDA_16.out (HFz1.out z1)
         have HL_17 : Hid (LiesT (F1 z1) g L) := HL_16.out.below (HFz1.out z1)
         have HLX_17 : Hid (LiesT (F1 z1) gx (L ++ [⟨who, tr, tf, wd⟩])) := HLX_16.out.below (HFz1.out z1)
         have HQL_17 : Hid (LiesT (F1 z1) g2 Q) := HQL_16.out.below (HFz1.out z1)
         have HPL_17 : Hid (LiesT (F1 z1) g3 P) := HPL_16.out.below (HFz1.out z1)
         have HLA_17 : Hid (LiesT (F1 z1) ga (L ++ [⟨who, tr, tf, wd⟩])) := HLA_16.out.below (HFz1.out z1)
         have HB_17 : Hid (Below w.heap.size w (F1 z1)) := HB_16.out.trans ((HFz1.out z1).mono HB_16.out.size)
         clear HL_16 HLX_16 HQL_16 HPL_16 HLA_16 HB_16 HH_16 HY_16 HQ_16 HF_16 HDK_16 HBB_16 HDA_16
         generalize F1 z1 = wv at HH_17 HY_17 HQ_17 HF_17 HDK_17 HBB_17 HDA_17 HL_17 HLX_17 HQL_17 HPL_17 HLA_17 HB_17 ⊢
         clear HFz1 HG1 HLz HLXz HQLz HPLz HLAz y00 y01 y02 y03 y10 y11 y12 y13 y20 y21 y22 y23
         clear ex ek
         clear HQL_17 HPL_17 HLA_17 HQ_17 HF_17 HDK_17 HBB_17 HDA_17
         obtain ⟨c6a, c6b, c6c, c6d⟩ := cellsH HH_17.out
         dsimp only at c6a c6b c6c c6d
         go_wp2_with fail
         refine (SO.out _ HL_17.out).mono ?_
         rintro e w11 ⟨rfl, hb⟩
         have HH_18 : Hid (HAt (w11) (w1.heap.size) 0 ⟨who, has, kept, last⟩) := hat_below HH_17.out (hb)
         have HY_18 : Hid (HAt (w11) (w2.heap.size) 0 ⟨who, nh, nh, (L.length : Int)⟩) := hat_below HY_17.out (hb)
         have HL_18 : Hid (LiesT (w11) g L) := HL_17.out.below (hb)
         have HLX_18 : Hid (LiesT (w11) gx (L ++ [⟨who, tr, tf, wd⟩])) := HLX_17.out.below (hb)
         have HB_18 : Hid (Below w.heap.size w (w11)) := HB_17.out.trans ((hb).mono HB_17.out.size)
         clear HL_17 HLX_17 HB_17 HH_17 HY_17
         obtain ⟨e0, e1, e2, e3⟩ := HTC.out _ gx HLX_18.out
         have HH_19 : Hid (HAt (w11.alloc (.cells #[.int .i64 who, .int .i64 tr, .int .i64 tf, .string wd] 36)) (w1.heap.size) 0 ⟨who, has, kept, last⟩) := hat_below HH_18.out ((Below.refl _ w11).alloc (Nat.le_refl _) _)
         have HY_19 : Hid (HAt (w11.alloc (.cells #[.int .i64 who, .int .i64 tr, .int .i64 tf, .string wd] 36)) (w2.heap.size) 0 ⟨who, nh, nh, (L.length : Int)⟩) := hat_below HY_18.out ((Below.refl _ w11).alloc (Nat.le_refl _) _)
         have HL_19 : Hid (LiesT (w11.alloc (.cells #[.int .i64 who, .int .i64 tr, .int .i64 tf, .string wd] 36)) g L) := HL_18.out.below ((Below.refl _ w11).alloc (Nat.le_refl _) _)
         have HLX_19 : Hid (LiesT (w11.alloc (.cells #[.int .i64 who, .int .i64 tr, .int .i64 tf, .string wd] 36)) gx (L ++ [⟨who, tr, tf, wd⟩])) := HLX_18.out.below ((Below.refl _ w11).alloc (Nat.le_refl _) _)
         have HB_19 : Hid (Below w.heap.size w (w11.alloc (.cells #[.int .i64 who, .int .i64 tr, .int .i64 tf, .string wd] 36))) := HB_18.out.trans (((Below.refl _ w11).alloc (Nat.le_refl _) _).mono HB_18.out.size)
         have HK_19 : Hid (KnAt (w11.alloc (.cells #[.int .i64 who, .int .i64 tr, .int .i64 tf, .string wd] 36)) (w11.heap.size) ⟨who, tr, tf, wd⟩) := knat_new w11 ⟨who, tr, tf, wd⟩ _
         clear HL_18 HLX_18 HB_18 HH_18 HY_18
         go_wp2_with fail
         refine (TBE.out _ gx cx hcx HLX_19.out).mono ?_
         rintro e w12 ⟨rfl, hb⟩
         have HH_20 : Hid (HAt (w12) (w1.heap.size) 0 ⟨who, has, kept, last⟩) := hat_below HH_19.out (hb)
         have HY_20 : Hid (HAt (w12) (w2.heap.size) 0 ⟨who, nh, nh, (L.length : Int)⟩) := hat_below HY_19.out (hb)
         have HK_20 : Hid (KnAt (w12) (w11.heap.size) ⟨who, tr, tf, wd⟩) := knat_below HK_19.out (hb)
         have HL_20 : Hid (LiesT (w12) g L) := HL_19.out.below (hb)
         have HLX_20 : Hid (LiesT (w12) gx (L ++ [⟨who, tr, tf, wd⟩])) := HLX_19.out.below (hb)
         have HB_20 : Hid (Below w.heap.size w (w12)) := HB_19.out.trans ((hb).mono HB_19.out.size)
         clear HL_19 HLX_19 HB_19 HH_19 HY_19 HK_19
         clear e0 e1 e2 e3
         go_wp2_with fail
         go_loopw [25] (fun s25 wr => ∃ i : Nat, i ≤ L.length ∧ s25 = .int .i64 (i : Int) ∧ Hid (Below w12.heap.size w12 wr)) (fun s25 _ => L.length - (intOf s25).toNat)
         case atStart => exact ⟨0, Nat.zero_le _, rfl, Below.refl _ _⟩
         case round =>
           obtain ⟨i, hi, rfl, HBr⟩ := hrel
           have HH_21 : Hid (HAt (wr) (w1.heap.size) 0 ⟨who, has, kept, last⟩) := hat_below HH_20.out (HBr.out)
           have HY_21 : Hid (HAt (wr) (w2.heap.size) 0 ⟨who, nh, nh, (L.length : Int)⟩) := hat_below HY_20.out (HBr.out)
           have HK_21 : Hid (KnAt (wr) (w11.heap.size) ⟨who, tr, tf, wd⟩) := knat_below HK_20.out (HBr.out)
           have HL_21 : Hid (LiesT (wr) g L) := HL_20.out.below (HBr.out)
           have HLX_21 : Hid (LiesT (wr) gx (L ++ [⟨who, tr, tf, wd⟩])) := HLX_20.out.below (HBr.out)
           have HB_21 : Hid (Below w.heap.size w (wr)) := HB_20.out.trans ((HBr.out).mono HB_20.out.size)
           clear HL_20 HLX_20 HB_20 HH_20 HY_20 HK_20
           by_cases hlt : i < L.length
           · have hii : (i : Int) < (L.length : Int) := by omega
             obtain ⟨HI1, HI2⟩ := TIN.out i hlt
             have HNB : Hid (Below w12.heap.size w12 wr) := HBr
             obtain ⟨X2, _, F2, HFz2, HG2⟩ := Fam.fam (wr)
             have y00 : ∀ z, (F2 z).cell? ⟨w1.heap.size, 0, none⟩ = some (.int .i64 who) := fun z => (cellsH (hat_below HH_21.out (HFz2.out z))).1
             have y01 : ∀ z, (F2 z).cell? ⟨w1.heap.size, 1, none⟩ = some (.int .i64 has) := fun z => (cellsH (hat_below HH_21.out (HFz2.out z))).2.1
             have y02 : ∀ z, (F2 z).cell? ⟨w1.heap.size, 2, none⟩ = some (.int .i64 kept) := fun z => (cellsH (hat_below HH_21.out (HFz2.out z))).2.2.1
             have y03 : ∀ z, (F2 z).cell? ⟨w1.heap.size, 3, none⟩ = some (.int .i64 last) := fun z => (cellsH (hat_below HH_21.out (HFz2.out z))).2.2.2
             have y10 : ∀ z, (F2 z).cell? ⟨w11.heap.size, 0, none⟩ = some (.int .i64 who) := fun z => (knat_cells (knat_below HK_21.out (HFz2.out z))).1
             have y11 : ∀ z, (F2 z).cell? ⟨w11.heap.size, 1, none⟩ = some (.int .i64 tr) := fun z => (knat_cells (knat_below HK_21.out (HFz2.out z))).2.1
             have y12 : ∀ z, (F2 z).cell? ⟨w11.heap.size, 2, none⟩ = some (.int .i64 tf) := fun z => (knat_cells (knat_below HK_21.out (HFz2.out z))).2.2.1
             have y13 : ∀ z, (F2 z).cell? ⟨w11.heap.size, 3, none⟩ = some (.string wd) := fun z => (knat_cells (knat_below HK_21.out (HFz2.out z))).2.2.2
             have HLz : Hid (∀ z, LiesT (F2 z) g L) := fun z => HL_21.out.below (HFz2.out z)
             have HLXz : Hid (∀ z, LiesT (F2 z) gx (L ++ [⟨who, tr, tf, wd⟩])) := fun z => HLX_21.out.below (HFz2.out z)
             have ylr : ∀ z, (F2 z).cell? ⟨g, i * 4 + 1, none⟩ = some (.int .i64 (at' L i).round) := fun z => by have q := ((HLz.out z).rd.on i hlt).2.c1; rw [Nat.zero_add] at q; exact q
             generalize (at' L i).round = lr at ylr HI1
             generalize bit has i = b2 at HI1 HI2
             have HIB : Hid (∀ (W : World) (f : Int) (v : Bool), ((f = bq ∧ v = (b2 && decide (lr < tr))) ∨ (f = has ∧ v = b2)) → Calls Tryz.prog 15 #[.int .i64 f, .int .i64 (i : Int)] W fun e w' => e = .returned (.bool v) ∧ Below W.heap.size W w') := fun W f v q => by
               rcases q with ⟨rfl, rfl⟩ | ⟨rfl, rfl⟩
               · exact HI1.out W
               · exact HI2.out W
             clear HI1 HI2
             cases b2
             · simp only [Bool.false_and] at HIB
               go_wp2_with fail
               refine Fam.region (F := F2) (by kernel_rfl) (by kernel_rfl) (HG2.out _ (Below.refl _ _).drew) ?_
               repeat (go_big_quiet_step (first
                 | (go_at_call 15; exact (HIB.out _ _ _ (by first | exact .inl ⟨rfl, rfl⟩ | exact .inr ⟨rfl, rfl⟩)).mono fun _ _ h => ⟨h.1, HG2.out _ ((HFz2.out _).trans (h.2.mono (HFz2.out _).size))⟩)))
               refine wpQuiet_nil ?_
               intro wz hwz
               obtain ⟨z2, rfl⟩ := hwz
               have HN2 : Hid (Below w12.heap.size w12 (F2 z2)) := HNB.out.trans ((HFz2.out z2).mono HNB.out.size)
               go_wp2
               go_roundw
               case rel => exact ⟨i + 1, by omega, by go_num, HN2⟩
               case measure => simp [intOf]; omega
             · by_cases hrr : lr < tr
               · rw [decide_eq_true hrr] at HIB
                 simp only [Bool.and_true] at HIB
                 go_wp2_with fail
                 refine Fam.region (F := F2) (by kernel_rfl) (by kernel_rfl) (HG2.out _ (Below.refl _ _).drew) ?_
                 repeat (go_big_quiet_step (first
                   | (go_at_call 15; exact (HIB.out _ _ _ (by first | exact .inl ⟨rfl, rfl⟩ | exact .inr ⟨rfl, rfl⟩)).mono fun _ _ h => ⟨h.1, HG2.out _ ((HFz2.out _).trans (h.2.mono (HFz2.out _).size))⟩)))
                 refine wpQuiet_nil ?_
                 intro wz hwz
                 obtain ⟨z2, rfl⟩ := hwz
                 have HN2 : Hid (Below w12.heap.size w12 (F2 z2)) := HNB.out.trans ((HFz2.out z2).mono HNB.out.size)
                 go_wp2
                 go_roundw
                 case rel => exact ⟨i + 1, by omega, by go_num, HN2⟩
                 case measure => simp [intOf]; omega
               · rw [decide_eq_false hrr] at HIB
                 simp only [Bool.and_false] at HIB
                 go_wp2_with fail
                 refine Fam.region (F := F2) (by kernel_rfl) (by kernel_rfl) (HG2.out _ (Below.refl _ _).drew) ?_
                 repeat (go_big_quiet_step (first
                   | (go_at_call 15; exact (HIB.out _ _ _ (by first | exact .inl ⟨rfl, rfl⟩ | exact .inr ⟨rfl, rfl⟩)).mono fun _ _ h => ⟨h.1, HG2.out _ ((HFz2.out _).trans (h.2.mono (HFz2.out _).size))⟩)))
                 refine wpQuiet_nil ?_
                 intro wz hwz
                 obtain ⟨z2, rfl⟩ := hwz
                 have HN2 : Hid (Below w12.heap.size w12 (F2 z2)) := HNB.out.trans ((HFz2.out z2).mono HNB.out.size)
                 go_wp2
                 go_roundw
                 case rel => exact ⟨i + 1, by omega, by go_num, HN2⟩
                 case measure => simp [intOf]; omega
           · obtain rfl : i = L.length := by omega
             have HE : Hid (Below w.heap.size w wr) := HB_21.out
             obtain ⟨X3, _, F3, HFz3, HG3⟩ := Fam.fam (wr)
             have y00 : ∀ z, (F3 z).cell? ⟨w1.heap.size, 0, none⟩ = some (.int .i64 who) := fun z => (cellsH (hat_below HH_21.out (HFz3.out z))).1
             have y01 : ∀ z, (F3 z).cell? ⟨w1.heap.size, 1, none⟩ = some (.int .i64 has) := fun z => (cellsH (hat_below HH_21.out (HFz3.out z))).2.1
             have y02 : ∀ z, (F3 z).cell? ⟨w1.heap.size, 2, none⟩ = some (.int .i64 kept) := fun z => (cellsH (hat_below HH_21.out (HFz3.out z))).2.2.1
             have y03 : ∀ z, (F3 z).cell? ⟨w1.heap.size, 3, none⟩ = some (.int .i64 last) := fun z => (cellsH (hat_below HH_21.out (HFz3.out z))).2.2.2
             have y10 : ∀ z, (F3 z).cell? ⟨w2.heap.size, 0, none⟩ = some (.int .i64 who) := fun z => (cellsH (hat_below HY_21.out (HFz3.out z))).1
             have y11 : ∀ z, (F3 z).cell? ⟨w2.heap.size, 1, none⟩ = some (.int .i64 nh) := fun z => (cellsH (hat_below HY_21.out (HFz3.out z))).2.1
             have y12 : ∀ z, (F3 z).cell? ⟨w2.heap.size, 2, none⟩ = some (.int .i64 nh) := fun z => (cellsH (hat_below HY_21.out (HFz3.out z))).2.2.1
             have y13 : ∀ z, (F3 z).cell? ⟨w2.heap.size, 3, none⟩ = some (.int .i64 (L.length : Int)) := fun z => (cellsH (hat_below HY_21.out (HFz3.out z))).2.2.2
             have y20 : ∀ z, (F3 z).cell? ⟨w11.heap.size, 0, none⟩ = some (.int .i64 who) := fun z => (knat_cells (knat_below HK_21.out (HFz3.out z))).1
             have y21 : ∀ z, (F3 z).cell? ⟨w11.heap.size, 1, none⟩ = some (.int .i64 tr) := fun z => (knat_cells (knat_below HK_21.out (HFz3.out z))).2.1
             have y22 : ∀ z, (F3 z).cell? ⟨w11.heap.size, 2, none⟩ = some (.int .i64 tf) := fun z => (knat_cells (knat_below HK_21.out (HFz3.out z))).2.2.1
             have y23 : ∀ z, (F3 z).cell? ⟨w11.heap.size, 3, none⟩ = some (.string wd) := fun z => (knat_cells (knat_below HK_21.out (HFz3.out z))).2.2.2
             have HLz : Hid (∀ z, LiesT (F3 z) g L) := fun z => HL_21.out.below (HFz3.out z)
             have HLXz : Hid (∀ z, LiesT (F3 z) gx (L ++ [⟨who, tr, tf, wd⟩])) := fun z => HLX_21.out.below (HFz3.out z)
             go_wp2_with fail
             refine Fam.region (F := F3) (by kernel_rfl) (by kernel_rfl) (HG3.out _ (Below.refl _ _).drew) ?_
             repeat (go_big_quiet_step (first
               | (go_at_call 29; exact (TLO.out _ gx cx hcx (HLXz.out _)).mono fun _ _ h => ⟨h.1, HG3.out _ ((HFz3.out _).trans (h.2.mono (HFz3.out _).size))⟩)
               | (go_at_call 13; exact (THO.out _ gx cx hcx (HLXz.out _)).mono fun _ _ h => ⟨h.1, HG3.out _ ((HFz3.out _).trans (h.2.mono (HFz3.out _).size))⟩)
               | (go_at_call 25; exact (TLK.out _ gx cx (HLXz.out _) (HLz.out _)).mono fun _ _ h => ⟨h.1, HG3.out _ ((HFz3.out _).trans (h.2.mono (HFz3.out _).size))⟩)
               | (go_at_call 26; exact (TNR.out _ (HLz.out _)).mono fun _ _ h => ⟨h.1, HG3.out _ ((HFz3.out _).trans (h.2.mono (HFz3.out _).size))⟩)
               | (go_at_call 17; exact (TWI.out _).mono fun _ _ h => ⟨h.1, HG3.out _ ((HFz3.out _).trans (h.2.mono (HFz3.out _).size))⟩)))
             refine wpQuiet_nil ?_
             intro wz hwz
             obtain ⟨z3, rfl⟩ := hwz
             have HE2 : Hid (Below w.heap.size w (F3 z3)) := HE.out.trans ((HFz3.out z3).mono HE.out.size)
             go_wp2
             go_ret
             exact ⟨rfl, HE2.out⟩
       · have ND := ND0
         have SD := SD0
         rw [hfi] at ND SD
         clear ND0 SD0
         obtain ⟨hko, hkr⟩ := drafted_parts hfi
         have SP := SP0
         rw [← hkr] at SP
         generalize hdk : draftedK P gp dw = dk at ND SD SP hko
         clear SP0 hkr hfi hdk
         obtain ⟨kh, kr, kf, kw⟩ := dk
         obtain ⟨fw, fh, fk, fl⟩ := gp
         dsimp only at ND SD SP
         have hks : kw.size ≤ 1099511627776 := okW_size hko
         have KOK : Hid (∀ W : World, Calls Tryz.prog 28 #[.agg #[.int .i64 kh, .int .i64 kr, .int .i64 kf, .string kw]] W fun e w' => e = .returned (.bool true) ∧ Below W.heap.size W w') := fun W => by
           have := Kn.specKnotOk kh kr kf kw W hks
           rw [hko] at this
           exact this
         clear hko hks
         have HH_8 : Hid (HAt (w5.alloc (.cells #[.int .i64 fw, .int .i64 fh, .int .i64 fk, .int .i64 fl] 26)) (w1.heap.size) 0 ⟨who, has, kept, last⟩) := hat_below HH_7.out ((Below.refl _ w5).alloc (Nat.le_refl _) _)
         have HY_8 : Hid (HAt (w5.alloc (.cells #[.int .i64 fw, .int .i64 fh, .int .i64 fk, .int .i64 fl] 26)) (w2.heap.size) 0 ⟨who, nh, nh, (L.length : Int)⟩) := hat_below HY_7.out ((Below.refl _ w5).alloc (Nat.le_refl _) _)
         have HQ_8 : Hid (HAt (w5.alloc (.cells #[.int .i64 fw, .int .i64 fh, .int .i64 fk, .int .i64 fl] 26)) (w3.heap.size) 0 ⟨qw, qh, qk, ql⟩) := hat_below HQ_7.out ((Below.refl _ w5).alloc (Nat.le_refl _) _)
         have HL_8 : Hid (LiesT (w5.alloc (.cells #[.int .i64 fw, .int .i64 fh, .int .i64 fk, .int .i64 fl] 26)) g L) := HL_7.out.below ((Below.refl _ w5).alloc (Nat.le_refl _) _)
         have HLX_8 : Hid (LiesT (w5.alloc (.cells #[.int .i64 fw, .int .i64 fh, .int .i64 fk, .int .i64 fl] 26)) gx (L ++ [⟨who, tr, tf, wd⟩])) := HLX_7.out.below ((Below.refl _ w5).alloc (Nat.le_refl _) _)
         have HQL_8 : Hid (LiesT (w5.alloc (.cells #[.int .i64 fw, .int .i64 fh, .int .i64 fk, .int .i64 fl] 26)) g2 Q) := HQL_7.out.below ((Below.refl _ w5).alloc (Nat.le_refl _) _)
         have HPL_8 : Hid (LiesT (w5.alloc (.cells #[.int .i64 fw, .int .i64 fh, .int .i64 fk, .int .i64 fl] 26)) g3 P) := HPL_7.out.below ((Below.refl _ w5).alloc (Nat.le_refl _) _)
         have HB_8 : Hid (Below w.heap.size w (w5.alloc (.cells #[.int .i64 fw, .int .i64 fh, .int .i64 fk, .int .i64 fl] 26))) := HB_7.out.trans (((Below.refl _ w5).alloc (Nat.le_refl _) _).mono HB_7.out.size)
         have HF_8 : Hid (HAt (w5.alloc (.cells #[.int .i64 fw, .int .i64 fh, .int .i64 fk, .int .i64 fl] 26)) (w5.heap.size) 0 ⟨fw, fh, fk, fl⟩) := hat_new w5 ⟨fw, fh, fk, fl⟩ _
         clear HL_7 HLX_7 HQL_7 HPL_7 HB_7 HH_7 HY_7 HQ_7
         go_wp2_with fail
         refine (ND.out _ HPL_8.out).mono ?_
         rintro e w6 ⟨rfl, hb⟩
         have HH_9 : Hid (HAt (w6) (w1.heap.size) 0 ⟨who, has, kept, last⟩) := hat_below HH_8.out (hb)
         have HY_9 : Hid (HAt (w6) (w2.heap.size) 0 ⟨who, nh, nh, (L.length : Int)⟩) := hat_below HY_8.out (hb)
         have HQ_9 : Hid (HAt (w6) (w3.heap.size) 0 ⟨qw, qh, qk, ql⟩) := hat_below HQ_8.out (hb)
         have HF_9 : Hid (HAt (w6) (w5.heap.size) 0 ⟨fw, fh, fk, fl⟩) := hat_below HF_8.out (hb)
         have HL_9 : Hid (LiesT (w6) g L) := HL_8.out.below (hb)
         have HLX_9 : Hid (LiesT (w6) gx (L ++ [⟨who, tr, tf, wd⟩])) := HLX_8.out.below (hb)
         have HQL_9 : Hid (LiesT (w6) g2 Q) := HQL_8.out.below (hb)
         have HPL_9 : Hid (LiesT (w6) g3 P) := HPL_8.out.below (hb)
         have HB_9 : Hid (Below w.heap.size w (w6)) := HB_8.out.trans ((hb).mono HB_8.out.size)
         clear HL_8 HLX_8 HQL_8 HPL_8 HB_8 HH_8 HY_8 HQ_8 HF_8
         have HH_10 : Hid (HAt (w6.alloc (.cells #[.int .i64 kh, .int .i64 kr, .int .i64 kf, .string kw] 36)) (w1.heap.size) 0 ⟨who, has, kept, last⟩) := hat_below HH_9.out ((Below.refl _ w6).alloc (Nat.le_refl _) _)
         have HY_10 : Hid (HAt (w6.alloc (.cells #[.int .i64 kh, .int .i64 kr, .int .i64 kf, .string kw] 36)) (w2.heap.size) 0 ⟨who, nh, nh, (L.length : Int)⟩) := hat_below HY_9.out ((Below.refl _ w6).alloc (Nat.le_refl _) _)
         have HQ_10 : Hid (HAt (w6.alloc (.cells #[.int .i64 kh, .int .i64 kr, .int .i64 kf, .string kw] 36)) (w3.heap.size) 0 ⟨qw, qh, qk, ql⟩) := hat_below HQ_9.out ((Below.refl _ w6).alloc (Nat.le_refl _) _)
         have HF_10 : Hid (HAt (w6.alloc (.cells #[.int .i64 kh, .int .i64 kr, .int .i64 kf, .string kw] 36)) (w5.heap.size) 0 ⟨fw, fh, fk, fl⟩) := hat_below HF_9.out ((Below.refl _ w6).alloc (Nat.le_refl _) _)
         have HL_10 : Hid (LiesT (w6.alloc (.cells #[.int .i64 kh, .int .i64 kr, .int .i64 kf, .string kw] 36)) g L) := HL_9.out.below ((Below.refl _ w6).alloc (Nat.le_refl _) _)
         have HLX_10 : Hid (LiesT (w6.alloc (.cells #[.int .i64 kh, .int .i64 kr, .int .i64 kf, .string kw] 36)) gx (L ++ [⟨who, tr, tf, wd⟩])) := HLX_9.out.below ((Below.refl _ w6).alloc (Nat.le_refl _) _)
         have HQL_10 : Hid (LiesT (w6.alloc (.cells #[.int .i64 kh, .int .i64 kr, .int .i64 kf, .string kw] 36)) g2 Q) := HQL_9.out.below ((Below.refl _ w6).alloc (Nat.le_refl _) _)
         have HPL_10 : Hid (LiesT (w6.alloc (.cells #[.int .i64 kh, .int .i64 kr, .int .i64 kf, .string kw] 36)) g3 P) := HPL_9.out.below ((Below.refl _ w6).alloc (Nat.le_refl _) _)
         have HB_10 : Hid (Below w.heap.size w (w6.alloc (.cells #[.int .i64 kh, .int .i64 kr, .int .i64 kf, .string kw] 36))) := HB_9.out.trans (((Below.refl _ w6).alloc (Nat.le_refl _) _).mono HB_9.out.size)
         have HDK_10 : Hid (KnAt (w6.alloc (.cells #[.int .i64 kh, .int .i64 kr, .int .i64 kf, .string kw] 36)) (w6.heap.size) ⟨kh, kr, kf, kw⟩) := knat_new w6 ⟨kh, kr, kf, kw⟩ _
         clear HL_9 HLX_9 HQL_9 HPL_9 HB_9 HH_9 HY_9 HQ_9 HF_9
         obtain ⟨c1a, c1b, c1c, c1d⟩ := cellsH HH_10.out
         dsimp only at c1a c1b c1c c1d
         go_wp2_with fail
         refine (SX.out _ HL_10.out).mono ?_
         rintro e w7 ⟨ga, ca, rfl, hca, hla, hb⟩
         have HH_11 : Hid (HAt (w7) (w1.heap.size) 0 ⟨who, has, kept, last⟩) := hat_below HH_10.out (hb)
         have HY_11 : Hid (HAt (w7) (w2.heap.size) 0 ⟨who, nh, nh, (L.length : Int)⟩) := hat_below HY_10.out (hb)
         have HQ_11 : Hid (HAt (w7) (w3.heap.size) 0 ⟨qw, qh, qk, ql⟩) := hat_below HQ_10.out (hb)
         have HF_11 : Hid (HAt (w7) (w5.heap.size) 0 ⟨fw, fh, fk, fl⟩) := hat_below HF_10.out (hb)
         have HDK_11 : Hid (KnAt (w7) (w6.heap.size) ⟨kh, kr, kf, kw⟩) := knat_below HDK_10.out (hb)
         have HL_11 : Hid (LiesT (w7) g L) := HL_10.out.below (hb)
         have HLX_11 : Hid (LiesT (w7) gx (L ++ [⟨who, tr, tf, wd⟩])) := HLX_10.out.below (hb)
         have HQL_11 : Hid (LiesT (w7) g2 Q) := HQL_10.out.below (hb)
         have HPL_11 : Hid (LiesT (w7) g3 P) := HPL_10.out.below (hb)
         have HB_11 : Hid (Below w.heap.size w (w7)) := HB_10.out.trans ((hb).mono HB_10.out.size)
         clear HL_10 HLX_10 HQL_10 HPL_10 HB_10 HH_10 HY_10 HQ_10 HF_10 HDK_10
         have HLA_11 : Hid (LiesT (w7) ga (L ++ [⟨who, tr, tf, wd⟩])) := hla
         clear hla
         have HH_12 : Hid (HAt (w7.alloc (.cells #[.int .i64 who, .int .i64 nh, .int .i64 nh, .int .i64 (L.length : Int)] 26)) (w1.heap.size) 0 ⟨who, has, kept, last⟩) := hat_below HH_11.out ((Below.refl _ w7).alloc (Nat.le_refl _) _)
         have HY_12 : Hid (HAt (w7.alloc (.cells #[.int .i64 who, .int .i64 nh, .int .i64 nh, .int .i64 (L.length : Int)] 26)) (w2.heap.size) 0 ⟨who, nh, nh, (L.length : Int)⟩) := hat_below HY_11.out ((Below.refl _ w7).alloc (Nat.le_refl _) _)
         have HQ_12 : Hid (HAt (w7.alloc (.cells #[.int .i64 who, .int .i64 nh, .int .i64 nh, .int .i64 (L.length : Int)] 26)) (w3.heap.size) 0 ⟨qw, qh, qk, ql⟩) := hat_below HQ_11.out ((Below.refl _ w7).alloc (Nat.le_refl _) _)
         have HF_12 : Hid (HAt (w7.alloc (.cells #[.int .i64 who, .int .i64 nh, .int .i64 nh, .int .i64 (L.length : Int)] 26)) (w5.heap.size) 0 ⟨fw, fh, fk, fl⟩) := hat_below HF_11.out ((Below.refl _ w7).alloc (Nat.le_refl _) _)
         have HDK_12 : Hid (KnAt (w7.alloc (.cells #[.int .i64 who, .int .i64 nh, .int .i64 nh, .int .i64 (L.length : Int)] 26)) (w6.heap.size) ⟨kh, kr, kf, kw⟩) := knat_below HDK_11.out ((Below.refl _ w7).alloc (Nat.le_refl _) _)
         have HL_12 : Hid (LiesT (w7.alloc (.cells #[.int .i64 who, .int .i64 nh, .int .i64 nh, .int .i64 (L.length : Int)] 26)) g L) := HL_11.out.below ((Below.refl _ w7).alloc (Nat.le_refl _) _)
         have HLX_12 : Hid (LiesT (w7.alloc (.cells #[.int .i64 who, .int .i64 nh, .int .i64 nh, .int .i64 (L.length : Int)] 26)) gx (L ++ [⟨who, tr, tf, wd⟩])) := HLX_11.out.below ((Below.refl _ w7).alloc (Nat.le_refl _) _)
         have HQL_12 : Hid (LiesT (w7.alloc (.cells #[.int .i64 who, .int .i64 nh, .int .i64 nh, .int .i64 (L.length : Int)] 26)) g2 Q) := HQL_11.out.below ((Below.refl _ w7).alloc (Nat.le_refl _) _)
         have HPL_12 : Hid (LiesT (w7.alloc (.cells #[.int .i64 who, .int .i64 nh, .int .i64 nh, .int .i64 (L.length : Int)] 26)) g3 P) := HPL_11.out.below ((Below.refl _ w7).alloc (Nat.le_refl _) _)
         have HLA_12 : Hid (LiesT (w7.alloc (.cells #[.int .i64 who, .int .i64 nh, .int .i64 nh, .int .i64 (L.length : Int)] 26)) ga (L ++ [⟨who, tr, tf, wd⟩])) := HLA_11.out.below ((Below.refl _ w7).alloc (Nat.le_refl _) _)
         have HB_12 : Hid (Below w.heap.size w (w7.alloc (.cells #[.int .i64 who, .int .i64 nh, .int .i64 nh, .int .i64 (L.length : Int)] 26))) := HB_11.out.trans (((Below.refl _ w7).alloc (Nat.le_refl _) _).mono HB_11.out.size)
         have HBB_12 : Hid (HAt (w7.alloc (.cells #[.int .i64 who, .int .i64 nh, .int .i64 nh, .int .i64 (L.length : Int)] 26)) (w7.heap.size) 0 ⟨who, nh, nh, (L.length : Int)⟩) := hat_new w7 ⟨who, nh, nh, (L.length : Int)⟩ _
         clear HL_11 HLX_11 HQL_11 HPL_11 HLA_11 HB_11 HH_11 HY_11 HQ_11 HF_11 HDK_11
         have ex := hand_ne who nh nh (L.length : Int)
         go_wp2_with fail
         refine (LK.out _ gx ga cx ca HLX_12.out HLA_12.out).mono ?_
         rintro e w8 ⟨rfl, hb⟩
         have HH_13 : Hid (HAt (w8) (w1.heap.size) 0 ⟨who, has, kept, last⟩) := hat_below HH_12.out (hb)
         have HY_13 : Hid (HAt (w8) (w2.heap.size) 0 ⟨who, nh, nh, (L.length : Int)⟩) := hat_below HY_12.out (hb)
         have HQ_13 : Hid (HAt (w8) (w3.heap.size) 0 ⟨qw, qh, qk, ql⟩) := hat_below HQ_12.out (hb)
         have HF_13 : Hid (HAt (w8) (w5.heap.size) 0 ⟨fw, fh, fk, fl⟩) := hat_below HF_12.out (hb)
         have HDK_13 : Hid (KnAt (w8) (w6.heap.size) ⟨kh, kr, kf, kw⟩) := knat_below HDK_12.out (hb)
         have HBB_13 : Hid (HAt (w8) (w7.heap.size) 0 ⟨who, nh, nh, (L.length : Int)⟩) := hat_below HBB_12.out (hb)
         have HL_13 : Hid (LiesT (w8) g L) := HL_12.out.below (hb)
         have HLX_13 : Hid (LiesT (w8) gx (L ++ [⟨who, tr, tf, wd⟩])) := HLX_12.out.below (hb)
         have HQL_13 : Hid (LiesT (w8) g2 Q) := HQL_12.out.below (hb)
         have HPL_13 : Hid (LiesT (w8) g3 P) := HPL_12.out.below (hb)
         have HLA_13 : Hid (LiesT (w8) ga (L ++ [⟨who, tr, tf, wd⟩])) := HLA_12.out.below (hb)
         have HB_13 : Hid (Below w.heap.size w (w8)) := HB_12.out.trans ((hb).mono HB_12.out.size)
         clear HL_12 HLX_12 HQL_12 HPL_12 HLA_12 HB_12 HH_12 HY_12 HQ_12 HF_12 HDK_12 HBB_12
         obtain ⟨c2a, c2b, c2c, c2d⟩ := cellsH HY_13.out
         dsimp only at c2a c2b c2c c2d
         obtain ⟨c3a, c3b, c3c, c3d⟩ := cellsH HBB_13.out
         dsimp only at c3a c3b c3c c3d
         obtain ⟨c4a, c4b, c4c, c4d⟩ := cellsH HQ_13.out
         dsimp only at c4a c4b c4c c4d
         go_wp2_with fail
         refine (SQ.out _ HQL_13.out).mono ?_
         rintro e w9 ⟨rfl, hb⟩
         have HH_14 : Hid (HAt (w9) (w1.heap.size) 0 ⟨who, has, kept, last⟩) := hat_below HH_13.out (hb)
         have HY_14 : Hid (HAt (w9) (w2.heap.size) 0 ⟨who, nh, nh, (L.length : Int)⟩) := hat_below HY_13.out (hb)
         have HQ_14 : Hid (HAt (w9) (w3.heap.size) 0 ⟨qw, qh, qk, ql⟩) := hat_below HQ_13.out (hb)
         have HF_14 : Hid (HAt (w9) (w5.heap.size) 0 ⟨fw, fh, fk, fl⟩) := hat_below HF_13.out (hb)
         have HDK_14 : Hid (KnAt (w9) (w6.heap.size) ⟨kh, kr, kf, kw⟩) := knat_below HDK_13.out (hb)
         have HBB_14 : Hid (HAt (w9) (w7.heap.size) 0 ⟨who, nh, nh, (L.length : Int)⟩) := hat_below HBB_13.out (hb)
         have HL_14 : Hid (LiesT (w9) g L) := HL_13.out.below (hb)
         have HLX_14 : Hid (LiesT (w9) gx (L ++ [⟨who, tr, tf, wd⟩])) := HLX_13.out.below (hb)
         have HQL_14 : Hid (LiesT (w9) g2 Q) := HQL_13.out.below (hb)
         have HPL_14 : Hid (LiesT (w9) g3 P) := HPL_13.out.below (hb)
         have HLA_14 : Hid (LiesT (w9) ga (L ++ [⟨who, tr, tf, wd⟩])) := HLA_13.out.below (hb)
         have HB_14 : Hid (Below w.heap.size w (w9)) := HB_13.out.trans ((hb).mono HB_13.out.size)
         clear HL_13 HLX_13 HQL_13 HPL_13 HLA_13 HB_13 HH_13 HY_13 HQ_13 HF_13 HDK_13 HBB_13
         obtain ⟨c5a, c5b, c5c, c5d⟩ := cellsH HF_14.out
         dsimp only at c5a c5b c5c c5d
         go_wp2_with fail
         refine (SD.out _ HPL_14.out).mono ?_
         rintro e w10 ⟨rfl, hb⟩
         have HH_15 : Hid (HAt (w10) (w1.heap.size) 0 ⟨who, has, kept, last⟩) := hat_below HH_14.out (hb)
         have HY_15 : Hid (HAt (w10) (w2.heap.size) 0 ⟨who, nh, nh, (L.length : Int)⟩) := hat_below HY_14.out (hb)
         have HQ_15 : Hid (HAt (w10) (w3.heap.size) 0 ⟨qw, qh, qk, ql⟩) := hat_below HQ_14.out (hb)
         have HF_15 : Hid (HAt (w10) (w5.heap.size) 0 ⟨fw, fh, fk, fl⟩) := hat_below HF_14.out (hb)
         have HDK_15 : Hid (KnAt (w10) (w6.heap.size) ⟨kh, kr, kf, kw⟩) := knat_below HDK_14.out (hb)
         have HBB_15 : Hid (HAt (w10) (w7.heap.size) 0 ⟨who, nh, nh, (L.length : Int)⟩) := hat_below HBB_14.out (hb)
         have HL_15 : Hid (LiesT (w10) g L) := HL_14.out.below (hb)
         have HLX_15 : Hid (LiesT (w10) gx (L ++ [⟨who, tr, tf, wd⟩])) := HLX_14.out.below (hb)
         have HQL_15 : Hid (LiesT (w10) g2 Q) := HQL_14.out.below (hb)
         have HPL_15 : Hid (LiesT (w10) g3 P) := HPL_14.out.below (hb)
         have HLA_15 : Hid (LiesT (w10) ga (L ++ [⟨who, tr, tf, wd⟩])) := HLA_14.out.below (hb)
         have HB_15 : Hid (Below w.heap.size w (w10)) := HB_14.out.trans ((hb).mono HB_14.out.size)
         clear HL_14 HLX_14 HQL_14 HPL_14 HLA_14 HB_14 HH_14 HY_14 HQ_14 HF_14 HDK_14 HBB_14
         have HH_16 : Hid (HAt (w10.alloc (.cells #[.int .i64 kh, .int .i64 kr, .int .i64 kf, .string kw] 36)) (w1.heap.size) 0 ⟨who, has, kept, last⟩) := hat_below HH_15.out ((Below.refl _ w10).alloc (Nat.le_refl _) _)
         have HY_16 : Hid (HAt (w10.alloc (.cells #[.int .i64 kh, .int .i64 kr, .int .i64 kf, .string kw] 36)) (w2.heap.size) 0 ⟨who, nh, nh, (L.length : Int)⟩) := hat_below HY_15.out ((Below.refl _ w10).alloc (Nat.le_refl _) _)
         have HQ_16 : Hid (HAt (w10.alloc (.cells #[.int .i64 kh, .int .i64 kr, .int .i64 kf, .string kw] 36)) (w3.heap.size) 0 ⟨qw, qh, qk, ql⟩) := hat_below HQ_15.out ((Below.refl _ w10).alloc (Nat.le_refl _) _)
         have HF_16 : Hid (HAt (w10.alloc (.cells #[.int .i64 kh, .int .i64 kr, .int .i64 kf, .string kw] 36)) (w5.heap.size) 0 ⟨fw, fh, fk, fl⟩) := hat_below HF_15.out ((Below.refl _ w10).alloc (Nat.le_refl _) _)
         have HDK_16 : Hid (KnAt (w10.alloc (.cells #[.int .i64 kh, .int .i64 kr, .int .i64 kf, .string kw] 36)) (w6.heap.size) ⟨kh, kr, kf, kw⟩) := knat_below HDK_15.out ((Below.refl _ w10).alloc (Nat.le_refl _) _)
         have HBB_16 : Hid (HAt (w10.alloc (.cells #[.int .i64 kh, .int .i64 kr, .int .i64 kf, .string kw] 36)) (w7.heap.size) 0 ⟨who, nh, nh, (L.length : Int)⟩) := hat_below HBB_15.out ((Below.refl _ w10).alloc (Nat.le_refl _) _)
         have HL_16 : Hid (LiesT (w10.alloc (.cells #[.int .i64 kh, .int .i64 kr, .int .i64 kf, .string kw] 36)) g L) := HL_15.out.below ((Below.refl _ w10).alloc (Nat.le_refl _) _)
         have HLX_16 : Hid (LiesT (w10.alloc (.cells #[.int .i64 kh, .int .i64 kr, .int .i64 kf, .string kw] 36)) gx (L ++ [⟨who, tr, tf, wd⟩])) := HLX_15.out.below ((Below.refl _ w10).alloc (Nat.le_refl _) _)
         have HQL_16 : Hid (LiesT (w10.alloc (.cells #[.int .i64 kh, .int .i64 kr, .int .i64 kf, .string kw] 36)) g2 Q) := HQL_15.out.below ((Below.refl _ w10).alloc (Nat.le_refl _) _)
         have HPL_16 : Hid (LiesT (w10.alloc (.cells #[.int .i64 kh, .int .i64 kr, .int .i64 kf, .string kw] 36)) g3 P) := HPL_15.out.below ((Below.refl _ w10).alloc (Nat.le_refl _) _)
         have HLA_16 : Hid (LiesT (w10.alloc (.cells #[.int .i64 kh, .int .i64 kr, .int .i64 kf, .string kw] 36)) ga (L ++ [⟨who, tr, tf, wd⟩])) := HLA_15.out.below ((Below.refl _ w10).alloc (Nat.le_refl _) _)
         have HB_16 : Hid (Below w.heap.size w (w10.alloc (.cells #[.int .i64 kh, .int .i64 kr, .int .i64 kf, .string kw] 36))) := HB_15.out.trans (((Below.refl _ w10).alloc (Nat.le_refl _) _).mono HB_15.out.size)
         have HDA_16 : Hid (KnAt (w10.alloc (.cells #[.int .i64 kh, .int .i64 kr, .int .i64 kf, .string kw] 36)) (w10.heap.size) ⟨kh, kr, kf, kw⟩) := knat_new w10 ⟨kh, kr, kf, kw⟩ _
         clear HL_15 HLX_15 HQL_15 HPL_15 HLA_15 HB_15 HH_15 HY_15 HQ_15 HF_15 HDK_15 HBB_15
         have ek := knot_ne kh kr kf kw
         obtain ⟨X1, _, F1, HFz1, HG1⟩ := Fam.fam ((w10.alloc (.cells #[.int .i64 kh, .int .i64 kr, .int .i64 kf, .string kw] 36)))
         have y00 : ∀ z, (F1 z).cell? ⟨w5.heap.size, 0, none⟩ = some (.int .i64 fw) := fun z => (cellsH (hat_below HF_16.out (HFz1.out z))).1
         have y01 : ∀ z, (F1 z).cell? ⟨w5.heap.size, 1, none⟩ = some (.int .i64 fh) := fun z => (cellsH (hat_below HF_16.out (HFz1.out z))).2.1
         have y02 : ∀ z, (F1 z).cell? ⟨w5.heap.size, 2, none⟩ = some (.int .i64 fk) := fun z => (cellsH (hat_below HF_16.out (HFz1.out z))).2.2.1
         have y03 : ∀ z, (F1 z).cell? ⟨w5.heap.size, 3, none⟩ = some (.int .i64 fl) := fun z => (cellsH (hat_below HF_16.out (HFz1.out z))).2.2.2
         have y10 : ∀ z, (F1 z).cell? ⟨w6.heap.size, 0, none⟩ = some (.int .i64 kh) := fun z => (knat_cells (knat_below HDK_16.out (HFz1.out z))).1
         have y11 : ∀ z, (F1 z).cell? ⟨w6.heap.size, 1, none⟩ = some (.int .i64 kr) := fun z => (knat_cells (knat_below HDK_16.out (HFz1.out z))).2.1
         have y12 : ∀ z, (F1 z).cell? ⟨w6.heap.size, 2, none⟩ = some (.int .i64 kf) := fun z => (knat_cells (knat_below HDK_16.out (HFz1.out z))).2.2.1
         have y13 : ∀ z, (F1 z).cell? ⟨w6.heap.size, 3, none⟩ = some (.string kw) := fun z => (knat_cells (knat_below HDK_16.out (HFz1.out z))).2.2.2
         have y20 : ∀ z, (F1 z).cell? ⟨w10.heap.size, 0, none⟩ = some (.int .i64 kh) := fun z => (knat_cells (knat_below HDA_16.out (HFz1.out z))).1
         have y21 : ∀ z, (F1 z).cell? ⟨w10.heap.size, 1, none⟩ = some (.int .i64 kr) := fun z => (knat_cells (knat_below HDA_16.out (HFz1.out z))).2.1
         have y22 : ∀ z, (F1 z).cell? ⟨w10.heap.size, 2, none⟩ = some (.int .i64 kf) := fun z => (knat_cells (knat_below HDA_16.out (HFz1.out z))).2.2.1
         have y23 : ∀ z, (F1 z).cell? ⟨w10.heap.size, 3, none⟩ = some (.string kw) := fun z => (knat_cells (knat_below HDA_16.out (HFz1.out z))).2.2.2
         have HLz : Hid (∀ z, LiesT (F1 z) g L) := fun z => HL_16.out.below (HFz1.out z)
         have HLXz : Hid (∀ z, LiesT (F1 z) gx (L ++ [⟨who, tr, tf, wd⟩])) := fun z => HLX_16.out.below (HFz1.out z)
         have HQLz : Hid (∀ z, LiesT (F1 z) g2 Q) := fun z => HQL_16.out.below (HFz1.out z)
         have HPLz : Hid (∀ z, LiesT (F1 z) g3 P) := fun z => HPL_16.out.below (HFz1.out z)
         have HLAz : Hid (∀ z, LiesT (F1 z) ga (L ++ [⟨who, tr, tf, wd⟩])) := fun z => HLA_16.out.below (HFz1.out z)
         go_wp2_with fail
         refine Fam.region (F := F1) (by kernel_rfl) (by kernel_rfl) (HG1.out _ (Below.refl _ _).drew) ?_
         repeat (go_big_quiet_step (first
           | (go_at_call 28; exact (KOK.out _).mono fun _ _ h => ⟨h.1, HG1.out _ ((HFz1.out _).trans (h.2.mono (HFz1.out _).size))⟩)
           | (go_at_call 26; exact (SP.out _ (HPLz.out _)).mono fun _ _ h => ⟨h.1, HG1.out _ ((HFz1.out _).trans (h.2.mono (HFz1.out _).size))⟩)))
         refine wpQuiet_nil ?_
         intro wz hwz
         obtain ⟨z1, rfl⟩ := hwz
         have HH_17 : Hid (HAt (F1 z1) (w1.heap.size) 0 ⟨who, has, kept, last⟩) := hat_below HH_16.out (HFz1.out z1)
         have HY_17 : Hid (HAt (F1 z1) (w2.heap.size) 0 ⟨who, nh, nh, (L.length : Int)⟩) := hat_below HY_16.out (HFz1.out z1)
         have HQ_17 : Hid (HAt (F1 z1) (w3.heap.size) 0 ⟨qw, qh, qk, ql⟩) := hat_below HQ_16.out (HFz1.out z1)
         have HF_17 : Hid (HAt (F1 z1) (w5.heap.size) 0 ⟨fw, fh, fk, fl⟩) := hat_below HF_16.out (HFz1.out z1)
         have HDK_17 : Hid (KnAt (F1 z1) (w6.heap.size) ⟨kh, kr, kf, kw⟩) := knat_below HDK_16.out (HFz1.out z1)
         have HBB_17 : Hid (HAt (F1 z1) (w7.heap.size) 0 ⟨who, nh, nh, (L.length : Int)⟩) := hat_below HBB_16.out (HFz1.out z1)
         have HDA_17 : Hid (KnAt (F1 z1) (w10.heap.size) ⟨kh, kr, kf, kw⟩) := knat_below HDA_16.out (HFz1.out z1)
         have HL_17 : Hid (LiesT (F1 z1) g L) := HL_16.out.below (HFz1.out z1)
         have HLX_17 : Hid (LiesT (F1 z1) gx (L ++ [⟨who, tr, tf, wd⟩])) := HLX_16.out.below (HFz1.out z1)
         have HQL_17 : Hid (LiesT (F1 z1) g2 Q) := HQL_16.out.below (HFz1.out z1)
         have HPL_17 : Hid (LiesT (F1 z1) g3 P) := HPL_16.out.below (HFz1.out z1)
         have HLA_17 : Hid (LiesT (F1 z1) ga (L ++ [⟨who, tr, tf, wd⟩])) := HLA_16.out.below (HFz1.out z1)
         have HB_17 : Hid (Below w.heap.size w (F1 z1)) := HB_16.out.trans ((HFz1.out z1).mono HB_16.out.size)
         clear HL_16 HLX_16 HQL_16 HPL_16 HLA_16 HB_16 HH_16 HY_16 HQ_16 HF_16 HDK_16 HBB_16 HDA_16
         generalize F1 z1 = wv at HH_17 HY_17 HQ_17 HF_17 HDK_17 HBB_17 HDA_17 HL_17 HLX_17 HQL_17 HPL_17 HLA_17 HB_17 ⊢
         clear HFz1 HG1 HLz HLXz HQLz HPLz HLAz y00 y01 y02 y03 y10 y11 y12 y13 y20 y21 y22 y23
         clear ex ek
         clear HQL_17 HPL_17 HLA_17 HQ_17 HF_17 HDK_17 HBB_17 HDA_17
         obtain ⟨c6a, c6b, c6c, c6d⟩ := cellsH HH_17.out
         dsimp only at c6a c6b c6c c6d
         go_wp2_with fail
         refine (SO.out _ HL_17.out).mono ?_
         rintro e w11 ⟨rfl, hb⟩
         have HH_18 : Hid (HAt (w11) (w1.heap.size) 0 ⟨who, has, kept, last⟩) := hat_below HH_17.out (hb)
         have HY_18 : Hid (HAt (w11) (w2.heap.size) 0 ⟨who, nh, nh, (L.length : Int)⟩) := hat_below HY_17.out (hb)
         have HL_18 : Hid (LiesT (w11) g L) := HL_17.out.below (hb)
         have HLX_18 : Hid (LiesT (w11) gx (L ++ [⟨who, tr, tf, wd⟩])) := HLX_17.out.below (hb)
         have HB_18 : Hid (Below w.heap.size w (w11)) := HB_17.out.trans ((hb).mono HB_17.out.size)
         clear HL_17 HLX_17 HB_17 HH_17 HY_17
         obtain ⟨e0, e1, e2, e3⟩ := HTC.out _ gx HLX_18.out
         have HH_19 : Hid (HAt (w11.alloc (.cells #[.int .i64 who, .int .i64 tr, .int .i64 tf, .string wd] 36)) (w1.heap.size) 0 ⟨who, has, kept, last⟩) := hat_below HH_18.out ((Below.refl _ w11).alloc (Nat.le_refl _) _)
         have HY_19 : Hid (HAt (w11.alloc (.cells #[.int .i64 who, .int .i64 tr, .int .i64 tf, .string wd] 36)) (w2.heap.size) 0 ⟨who, nh, nh, (L.length : Int)⟩) := hat_below HY_18.out ((Below.refl _ w11).alloc (Nat.le_refl _) _)
         have HL_19 : Hid (LiesT (w11.alloc (.cells #[.int .i64 who, .int .i64 tr, .int .i64 tf, .string wd] 36)) g L) := HL_18.out.below ((Below.refl _ w11).alloc (Nat.le_refl _) _)
         have HLX_19 : Hid (LiesT (w11.alloc (.cells #[.int .i64 who, .int .i64 tr, .int .i64 tf, .string wd] 36)) gx (L ++ [⟨who, tr, tf, wd⟩])) := HLX_18.out.below ((Below.refl _ w11).alloc (Nat.le_refl _) _)
         have HB_19 : Hid (Below w.heap.size w (w11.alloc (.cells #[.int .i64 who, .int .i64 tr, .int .i64 tf, .string wd] 36))) := HB_18.out.trans (((Below.refl _ w11).alloc (Nat.le_refl _) _).mono HB_18.out.size)
         have HK_19 : Hid (KnAt (w11.alloc (.cells #[.int .i64 who, .int .i64 tr, .int .i64 tf, .string wd] 36)) (w11.heap.size) ⟨who, tr, tf, wd⟩) := knat_new w11 ⟨who, tr, tf, wd⟩ _
         clear HL_18 HLX_18 HB_18 HH_18 HY_18
         go_wp2_with fail
         refine (TBE.out _ gx cx hcx HLX_19.out).mono ?_
         rintro e w12 ⟨rfl, hb⟩
         have HH_20 : Hid (HAt (w12) (w1.heap.size) 0 ⟨who, has, kept, last⟩) := hat_below HH_19.out (hb)
         have HY_20 : Hid (HAt (w12) (w2.heap.size) 0 ⟨who, nh, nh, (L.length : Int)⟩) := hat_below HY_19.out (hb)
         have HK_20 : Hid (KnAt (w12) (w11.heap.size) ⟨who, tr, tf, wd⟩) := knat_below HK_19.out (hb)
         have HL_20 : Hid (LiesT (w12) g L) := HL_19.out.below (hb)
         have HLX_20 : Hid (LiesT (w12) gx (L ++ [⟨who, tr, tf, wd⟩])) := HLX_19.out.below (hb)
         have HB_20 : Hid (Below w.heap.size w (w12)) := HB_19.out.trans ((hb).mono HB_19.out.size)
         clear HL_19 HLX_19 HB_19 HH_19 HY_19 HK_19
         clear e0 e1 e2 e3
         go_wp2_with fail
         go_loopw [25] (fun s25 wr => ∃ i : Nat, i ≤ L.length ∧ s25 = .int .i64 (i : Int) ∧ Hid (Below w12.heap.size w12 wr)) (fun s25 _ => L.length - (intOf s25).toNat)
         case atStart => exact ⟨0, Nat.zero_le _, rfl, Below.refl _ _⟩
         case round =>
           obtain ⟨i, hi, rfl, HBr⟩ := hrel
           have HH_21 : Hid (HAt (wr) (w1.heap.size) 0 ⟨who, has, kept, last⟩) := hat_below HH_20.out (HBr.out)
           have HY_21 : Hid (HAt (wr) (w2.heap.size) 0 ⟨who, nh, nh, (L.length : Int)⟩) := hat_below HY_20.out (HBr.out)
           have HK_21 : Hid (KnAt (wr) (w11.heap.size) ⟨who, tr, tf, wd⟩) := knat_below HK_20.out (HBr.out)
           have HL_21 : Hid (LiesT (wr) g L) := HL_20.out.below (HBr.out)
           have HLX_21 : Hid (LiesT (wr) gx (L ++ [⟨who, tr, tf, wd⟩])) := HLX_20.out.below (HBr.out)
           have HB_21 : Hid (Below w.heap.size w (wr)) := HB_20.out.trans ((HBr.out).mono HB_20.out.size)
           clear HL_20 HLX_20 HB_20 HH_20 HY_20 HK_20
           by_cases hlt : i < L.length
           · have hii : (i : Int) < (L.length : Int) := by omega
             obtain ⟨HI1, HI2⟩ := TIN.out i hlt
             have HNB : Hid (Below w12.heap.size w12 wr) := HBr
             obtain ⟨X2, _, F2, HFz2, HG2⟩ := Fam.fam (wr)
             have y00 : ∀ z, (F2 z).cell? ⟨w1.heap.size, 0, none⟩ = some (.int .i64 who) := fun z => (cellsH (hat_below HH_21.out (HFz2.out z))).1
             have y01 : ∀ z, (F2 z).cell? ⟨w1.heap.size, 1, none⟩ = some (.int .i64 has) := fun z => (cellsH (hat_below HH_21.out (HFz2.out z))).2.1
             have y02 : ∀ z, (F2 z).cell? ⟨w1.heap.size, 2, none⟩ = some (.int .i64 kept) := fun z => (cellsH (hat_below HH_21.out (HFz2.out z))).2.2.1
             have y03 : ∀ z, (F2 z).cell? ⟨w1.heap.size, 3, none⟩ = some (.int .i64 last) := fun z => (cellsH (hat_below HH_21.out (HFz2.out z))).2.2.2
             have y10 : ∀ z, (F2 z).cell? ⟨w11.heap.size, 0, none⟩ = some (.int .i64 who) := fun z => (knat_cells (knat_below HK_21.out (HFz2.out z))).1
             have y11 : ∀ z, (F2 z).cell? ⟨w11.heap.size, 1, none⟩ = some (.int .i64 tr) := fun z => (knat_cells (knat_below HK_21.out (HFz2.out z))).2.1
             have y12 : ∀ z, (F2 z).cell? ⟨w11.heap.size, 2, none⟩ = some (.int .i64 tf) := fun z => (knat_cells (knat_below HK_21.out (HFz2.out z))).2.2.1
             have y13 : ∀ z, (F2 z).cell? ⟨w11.heap.size, 3, none⟩ = some (.string wd) := fun z => (knat_cells (knat_below HK_21.out (HFz2.out z))).2.2.2
             have HLz : Hid (∀ z, LiesT (F2 z) g L) := fun z => HL_21.out.below (HFz2.out z)
             have HLXz : Hid (∀ z, LiesT (F2 z) gx (L ++ [⟨who, tr, tf, wd⟩])) := fun z => HLX_21.out.below (HFz2.out z)
             have ylr : ∀ z, (F2 z).cell? ⟨g, i * 4 + 1, none⟩ = some (.int .i64 (at' L i).round) := fun z => by have q := ((HLz.out z).rd.on i hlt).2.c1; rw [Nat.zero_add] at q; exact q
             generalize (at' L i).round = lr at ylr HI1
             generalize bit has i = b2 at HI1 HI2
             have HIB : Hid (∀ (W : World) (f : Int) (v : Bool), ((f = bq ∧ v = (b2 && decide (lr < tr))) ∨ (f = has ∧ v = b2)) → Calls Tryz.prog 15 #[.int .i64 f, .int .i64 (i : Int)] W fun e w' => e = .returned (.bool v) ∧ Below W.heap.size W w') := fun W f v q => by
               rcases q with ⟨rfl, rfl⟩ | ⟨rfl, rfl⟩
               · exact HI1.out W
               · exact HI2.out W
             clear HI1 HI2
             cases b2
             · simp only [Bool.false_and] at HIB
               go_wp2_with fail
               refine Fam.region (F := F2) (by kernel_rfl) (by kernel_rfl) (HG2.out _ (Below.refl _ _).drew) ?_
               repeat (go_big_quiet_step (first
                 | (go_at_call 15; exact (HIB.out _ _ _ (by first | exact .inl ⟨rfl, rfl⟩ | exact .inr ⟨rfl, rfl⟩)).mono fun _ _ h => ⟨h.1, HG2.out _ ((HFz2.out _).trans (h.2.mono (HFz2.out _).size))⟩)))
               refine wpQuiet_nil ?_
               intro wz hwz
               obtain ⟨z2, rfl⟩ := hwz
               have HN2 : Hid (Below w12.heap.size w12 (F2 z2)) := HNB.out.trans ((HFz2.out z2).mono HNB.out.size)
               go_wp2
               go_roundw
               case rel => exact ⟨i + 1, by omega, by go_num, HN2⟩
               case measure => simp [intOf]; omega
             · by_cases hrr : lr < tr
               · rw [decide_eq_true hrr] at HIB
                 simp only [Bool.and_true] at HIB
                 go_wp2_with fail
                 refine Fam.region (F := F2) (by kernel_rfl) (by kernel_rfl) (HG2.out _ (Below.refl _ _).drew) ?_
                 repeat (go_big_quiet_step (first
                   | (go_at_call 15; exact (HIB.out _ _ _ (by first | exact .inl ⟨rfl, rfl⟩ | exact .inr ⟨rfl, rfl⟩)).mono fun _ _ h => ⟨h.1, HG2.out _ ((HFz2.out _).trans (h.2.mono (HFz2.out _).size))⟩)))
                 refine wpQuiet_nil ?_
                 intro wz hwz
                 obtain ⟨z2, rfl⟩ := hwz
                 have HN2 : Hid (Below w12.heap.size w12 (F2 z2)) := HNB.out.trans ((HFz2.out z2).mono HNB.out.size)
                 go_wp2
                 go_roundw
                 case rel => exact ⟨i + 1, by omega, by go_num, HN2⟩
                 case measure => simp [intOf]; omega
               · rw [decide_eq_false hrr] at HIB
                 simp only [Bool.and_false] at HIB
                 go_wp2_with fail
                 refine Fam.region (F := F2) (by kernel_rfl) (by kernel_rfl) (HG2.out _ (Below.refl _ _).drew) ?_
                 repeat (go_big_quiet_step (first
                   | (go_at_call 15; exact (HIB.out _ _ _ (by first | exact .inl ⟨rfl, rfl⟩ | exact .inr ⟨rfl, rfl⟩)).mono fun _ _ h => ⟨h.1, HG2.out _ ((HFz2.out _).trans (h.2.mono (HFz2.out _).size))⟩)))
                 refine wpQuiet_nil ?_
                 intro wz hwz
                 obtain ⟨z2, rfl⟩ := hwz
                 have HN2 : Hid (Below w12.heap.size w12 (F2 z2)) := HNB.out.trans ((HFz2.out z2).mono HNB.out.size)
                 go_wp2
                 go_roundw
                 case rel => exact ⟨i + 1, by omega, by go_num, HN2⟩
                 case measure => simp [intOf]; omega
           · obtain rfl : i = L.length := by omega
             have HE : Hid (Below w.heap.size w wr) := HB_21.out
             obtain ⟨X3, _, F3, HFz3, HG3⟩ := Fam.fam (wr)
             have y00 : ∀ z, (F3 z).cell? ⟨w1.heap.size, 0, none⟩ = some (.int .i64 who) := fun z => (cellsH (hat_below HH_21.out (HFz3.out z))).1
             have y01 : ∀ z, (F3 z).cell? ⟨w1.heap.size, 1, none⟩ = some (.int .i64 has) := fun z => (cellsH (hat_below HH_21.out (HFz3.out z))).2.1
             have y02 : ∀ z, (F3 z).cell? ⟨w1.heap.size, 2, none⟩ = some (.int .i64 kept) := fun z => (cellsH (hat_below HH_21.out (HFz3.out z))).2.2.1
             have y03 : ∀ z, (F3 z).cell? ⟨w1.heap.size, 3, none⟩ = some (.int .i64 last) := fun z => (cellsH (hat_below HH_21.out (HFz3.out z))).2.2.2
             have y10 : ∀ z, (F3 z).cell? ⟨w2.heap.size, 0, none⟩ = some (.int .i64 who) := fun z => (cellsH (hat_below HY_21.out (HFz3.out z))).1
             have y11 : ∀ z, (F3 z).cell? ⟨w2.heap.size, 1, none⟩ = some (.int .i64 nh) := fun z => (cellsH (hat_below HY_21.out (HFz3.out z))).2.1
             have y12 : ∀ z, (F3 z).cell? ⟨w2.heap.size, 2, none⟩ = some (.int .i64 nh) := fun z => (cellsH (hat_below HY_21.out (HFz3.out z))).2.2.1
             have y13 : ∀ z, (F3 z).cell? ⟨w2.heap.size, 3, none⟩ = some (.int .i64 (L.length : Int)) := fun z => (cellsH (hat_below HY_21.out (HFz3.out z))).2.2.2
             have y20 : ∀ z, (F3 z).cell? ⟨w11.heap.size, 0, none⟩ = some (.int .i64 who) := fun z => (knat_cells (knat_below HK_21.out (HFz3.out z))).1
             have y21 : ∀ z, (F3 z).cell? ⟨w11.heap.size, 1, none⟩ = some (.int .i64 tr) := fun z => (knat_cells (knat_below HK_21.out (HFz3.out z))).2.1
             have y22 : ∀ z, (F3 z).cell? ⟨w11.heap.size, 2, none⟩ = some (.int .i64 tf) := fun z => (knat_cells (knat_below HK_21.out (HFz3.out z))).2.2.1
             have y23 : ∀ z, (F3 z).cell? ⟨w11.heap.size, 3, none⟩ = some (.string wd) := fun z => (knat_cells (knat_below HK_21.out (HFz3.out z))).2.2.2
             have HLz : Hid (∀ z, LiesT (F3 z) g L) := fun z => HL_21.out.below (HFz3.out z)
             have HLXz : Hid (∀ z, LiesT (F3 z) gx (L ++ [⟨who, tr, tf, wd⟩])) := fun z => HLX_21.out.below (HFz3.out z)
             go_wp2_with fail
             refine Fam.region (F := F3) (by kernel_rfl) (by kernel_rfl) (HG3.out _ (Below.refl _ _).drew) ?_
             repeat (go_big_quiet_step (first
               | (go_at_call 29; exact (TLO.out _ gx cx hcx (HLXz.out _)).mono fun _ _ h => ⟨h.1, HG3.out _ ((HFz3.out _).trans (h.2.mono (HFz3.out _).size))⟩)
               | (go_at_call 13; exact (THO.out _ gx cx hcx (HLXz.out _)).mono fun _ _ h => ⟨h.1, HG3.out _ ((HFz3.out _).trans (h.2.mono (HFz3.out _).size))⟩)
               | (go_at_call 25; exact (TLK.out _ gx cx (HLXz.out _) (HLz.out _)).mono fun _ _ h => ⟨h.1, HG3.out _ ((HFz3.out _).trans (h.2.mono (HFz3.out _).size))⟩)
               | (go_at_call 26; exact (TNR.out _ (HLz.out _)).mono fun _ _ h => ⟨h.1, HG3.out _ ((HFz3.out _).trans (h.2.mono (HFz3.out _).size))⟩)
               | (go_at_call 17; exact (TWI.out _).mono fun _ _ h => ⟨h.1, HG3.out _ ((HFz3.out _).trans (h.2.mono (HFz3.out _).size))⟩)))
             refine wpQuiet_nil ?_
             intro wz hwz
             obtain ⟨z3, rfl⟩ := hwz
             have HE2 : Hid (Below w.heap.size w (F3 z3)) := HE.out.trans ((HFz3.out z3).mono HE.out.size)
             go_wp2
             go_ret
             exact ⟨rfl, HE2.out⟩
end Rm
end Go.Proofs.YtfjmenhofllchaaGreatDoor
