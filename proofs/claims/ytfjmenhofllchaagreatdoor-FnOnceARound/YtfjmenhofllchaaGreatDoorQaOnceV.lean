/-
 FnOnceARound, over what the program's Ties and NextRound must answer: who ties ties not again till it has three hands of that round, and what it ties then sees all it tied.
-/
import Derived.Test.YtfjmenhofllchaaGreatDoorQag17
set_option linter.unusedVariables false
namespace Go.Proofs.YtfjmenhofllchaaGreatDoor
open Go.RowKit
set_option maxRecDepth 100000
set_option linter.unusedVariables false
namespace Rm
open Kn (K okK)
open Bit (bit withB)
open Lc (at' RdK laceB roundS handsN setB)
open Sg (belows orB bel)
theorem drew_below {W V : World} (h : Below W.drew.heap.size W.drew V) : Below W.heap.size W V := ⟨h.os, h.tape, h.output, h.size, h.block⟩
theorem set_of7 {L : List K} (hl : laceB L = true) {s : Int} (h0 : 0 ≤ s) (hb : ∀ i, bit s i = true → i < L.length) : setB L s = true := by
 have hd : s / 2 ^ L.length = 0 := Lc.div_of_bits s L.length h0 fun i hi => by
   rw [Bool.eq_false_iff]
   intro q
   have := hb i q
   omega
 have e : setB L s = (laceB L && Lc.inL L.length s) := rfl
 rw [e, hl, Bool.true_and]
 unfold Lc.inL
 simp [h0, hd]
theorem is_set {L : List K} {h : Hd} (x : HandIs L h) : setB L h.has = true := set_of7 x.lace x.h0 x.inn
theorem round_set {L : List K} (hl : laceB L = true) (s r : Int) : setB L (roundS L s r) = true := by
 have h60 := ((Lc.lace_iff L).1 hl).1
 refine set_of7 hl (Lc.round_bd L s r h60).1 fun i hi => ?_
 rw [Ag.bit_round _ _ _ h60, Bool.and_eq_true, decide_eq_true_eq] at hi
 exact hi.1
theorem ties_yes {L : List K} {h : Hd} {word : ByteArray} (q : tiesB L h word = true) : handOkB L h = true ∧ tieB L h word = true := by
 unfold tiesB at q
 rw [Bool.and_eq_true] at q
 exact q
theorem next_neg {L : List K} {has last : Int} (h : ¬ 0 ≤ nextI L has last) : nextI L has last = -1 := by
 have := nextTo_bd L has 19
 unfold nextI at h ⊢
 split
 · rfl
 · rename_i q; rw [if_neg q] at h; omega
theorem and_none {L : List K} {h : Hd} {word : ByteArray} (x : HandIs L h) (q : tieB L h word = true) : bits .and .i64 (Db.dblS (L ++ [tieK L h word]) L.length (L.length + 1)) (orB h.has (2 ^ L.length)) = 0 := by
 obtain ⟨hl2, h60, _⟩ := tie_parts x q
 have hli := tied_is x q
 have hd := Db.dblS_bd (L ++ [tieK L h word]) L.length (L.length + 1) (by omega)
 have ho : 0 ≤ orB h.has (2 ^ L.length) ∧ orB h.has (2 ^ L.length) < 1152921504606846976 := ⟨hli.h0, hli.h1⟩
 have hb := Sl.and_bd _ _ hd.1 hd.2 ho.1 ho.2
 refine Lc.eq_of_bits _ _ hb.1 (by omega) fun j => ?_
 rw [Sl.bit_and _ _ hd.1 hd.2 ho.1 ho.2, Db.bit_dblS _ _ _ (by omega)]
 have hz : bit 0 j = false := by simp [Bit.bit]
 rw [hz]
 cases hj : bit (orB h.has (2 ^ L.length)) j
 · simp
 · rw [tied_single x q j hj]; simp
set_option maxHeartbeats 12800000 in
theorem onceWalk (HI1 : ImplTies) (HI2 : ImplNextRound) (HD : DrawsRoom) (HDC : DrawsRoomC) (a0 : Option Addr) (len0 cap0 : Nat) (w : World) (hcode : Cur.Code w a0 len0) (hno : STie3 w) :
   Calls Tryz.prog 5 #[.slice a0 len0 cap0] w fun e w' => e = .returned (.bool true) ∧ Below w.heap.size w w' := by
 by_cases hbig : 4096 < len0
 · have hb' : (4096 : Int) < (len0 : Int) := by omega
   go_enter Tryz.func5, Tryz.ntmps5
   go_wp2
   go_ret
   exact ⟨rfl, Below.refl _ _⟩
 · have hb' : ¬ (4096 : Int) < (len0 : Int) := by omega
   have hle0 : len0 ≤ 4096 := by omega
   have HDD : Hid DrawsRoom := HD
   have HDX : Hid DrawsRoomC := HDC
   have H1 : Hid ImplTies := HI1
   have H2 : Hid ImplNextRound := HI2
   have HCode : Hid (Cur.Code w a0 len0) := hcode
   have HNO : Hid (STie3 w) := hno
   clear hno
   clear hbig HD HDC hcode HI1 HI2
   go_enter Tryz.func5, Tryz.ntmps5
   go_wp2_with (first | (go_at_call 6; go_in) | fail)
   refine (drawTies HDD.out HDX.out a0 len0 cap0 _ hle0 HCode.out).mono ?_
   rintro e w1 ⟨v, L, h, wd, rfl, hD, hwd⟩
   obtain ⟨g, cp, rfl, hcp, hL1⟩ := drawn_liesS hD.dr
   have HL_0 : Hid (LiesT w1 g L) := ⟨hL1.rd, hL1.len, hL1.words, HNO.out.below hD.dr.bel⟩
   have HB_0 : Hid (Below w.heap.size w w1) := hD.dr.bel
   have h64 := hD.h64
   clear hD hL1
   have SX : Hid (∀ W : World, LiesT W g L → _) := fun W hW => (specTies g 0 cp L h wd W hcp hW.words hW.rd h64 (by omega)).mono fun e w' q => ties_lies hW.st hW.len hW.words (by omega) (q_spec q)
   have HX : Hid (∀ W : World, LiesT W g L → _) := fun W hW => (H1.out g cp L h wd W hW hcp h64 (by omega)).mono fun e w' q => ties_lies hW.st hW.len hW.words (by omega) q
   cases htq : tiesB L h wd
   · rw [htq] at SX HX
     generalize tiesL L h wd = XX at SX HX
     generalize tiesH L h wd = yy at SX HX
     have LK : Hid (∀ (W : World) (a b ca cb : Nat), LiesT W a XX → LiesT W b XX → _) := fun W a b ca cb ha hb => likeS W a b ca cb XX ha hb
     clear h64 hwd htq
     obtain ⟨who, has, kept, last⟩ := h
     obtain ⟨ya, yb, yc, yd⟩ := yy
     dsimp only at SX HX
     have HL_1 : Hid (LiesT (w1.alloc (.cells #[.int .i64 who, .int .i64 has, .int .i64 kept, .int .i64 last] 26)) g L) := HL_0.out.below ((Below.refl _ w1).alloc (Nat.le_refl _) _)
     have HB_1 : Hid (Below w.heap.size w (w1.alloc (.cells #[.int .i64 who, .int .i64 has, .int .i64 kept, .int .i64 last] 26))) := HB_0.out.trans (((Below.refl _ w1).alloc (Nat.le_refl _) _).mono HB_0.out.size)
     have HH_1 : Hid (HAt (w1.alloc (.cells #[.int .i64 who, .int .i64 has, .int .i64 kept, .int .i64 last] 26)) (w1.heap.size) 0 ⟨who, has, kept, last⟩) := hat_new w1 ⟨who, has, kept, last⟩ _
     clear HL_0 HB_0 
     go_wp2_with fail
     refine (HX.out _ HL_1.out).mono ?_
     rintro e w2 ⟨gx, cx, rfl, hcx, hlx, hb⟩
     have HH_2 : Hid (HAt (w2) (w1.heap.size) 0 ⟨who, has, kept, last⟩) := hat_below HH_1.out (hb)
     have HL_2 : Hid (LiesT (w2) g L) := HL_1.out.below (hb)
     have HB_2 : Hid (Below w.heap.size w (w2)) := HB_1.out.trans ((hb).mono HB_1.out.size)
     clear HL_1 HB_1 HH_1
     have HLX_2 : Hid (LiesT (w2) gx XX) := hlx
     clear hlx
     have HH_3 : Hid (HAt (w2.alloc (.cells #[.int .i64 ya, .int .i64 yb, .int .i64 yc, .int .i64 yd] 26)) (w1.heap.size) 0 ⟨who, has, kept, last⟩) := hat_below HH_2.out ((Below.refl _ w2).alloc (Nat.le_refl _) _)
     have HL_3 : Hid (LiesT (w2.alloc (.cells #[.int .i64 ya, .int .i64 yb, .int .i64 yc, .int .i64 yd] 26)) g L) := HL_2.out.below ((Below.refl _ w2).alloc (Nat.le_refl _) _)
     have HLX_3 : Hid (LiesT (w2.alloc (.cells #[.int .i64 ya, .int .i64 yb, .int .i64 yc, .int .i64 yd] 26)) gx XX) := HLX_2.out.below ((Below.refl _ w2).alloc (Nat.le_refl _) _)
     have HB_3 : Hid (Below w.heap.size w (w2.alloc (.cells #[.int .i64 ya, .int .i64 yb, .int .i64 yc, .int .i64 yd] 26))) := HB_2.out.trans (((Below.refl _ w2).alloc (Nat.le_refl _) _).mono HB_2.out.size)
     have HY_3 : Hid (HAt (w2.alloc (.cells #[.int .i64 ya, .int .i64 yb, .int .i64 yc, .int .i64 yd] 26)) (w2.heap.size) 0 ⟨ya, yb, yc, yd⟩) := hat_new w2 ⟨ya, yb, yc, yd⟩ _
     clear HL_2 HLX_2 HB_2 HH_2
     obtain ⟨c1a, c1b, c1c, c1d⟩ := cellsH HH_3.out
     dsimp only at c1a c1b c1c c1d
     go_wp2_with fail
     refine (SX.out _ HL_3.out).mono ?_
     rintro e w3 ⟨ga, ca, rfl, hca, hla, hb⟩
     have HH_4 : Hid (HAt (w3) (w1.heap.size) 0 ⟨who, has, kept, last⟩) := hat_below HH_3.out (hb)
     have HY_4 : Hid (HAt (w3) (w2.heap.size) 0 ⟨ya, yb, yc, yd⟩) := hat_below HY_3.out (hb)
     have HL_4 : Hid (LiesT (w3) g L) := HL_3.out.below (hb)
     have HLX_4 : Hid (LiesT (w3) gx XX) := HLX_3.out.below (hb)
     have HB_4 : Hid (Below w.heap.size w (w3)) := HB_3.out.trans ((hb).mono HB_3.out.size)
     clear HL_3 HLX_3 HB_3 HH_3 HY_3
     have HLA_4 : Hid (LiesT (w3) ga XX) := hla
     clear hla
     have HH_5 : Hid (HAt (w3.alloc (.cells #[.int .i64 ya, .int .i64 yb, .int .i64 yc, .int .i64 yd] 26)) (w1.heap.size) 0 ⟨who, has, kept, last⟩) := hat_below HH_4.out ((Below.refl _ w3).alloc (Nat.le_refl _) _)
     have HY_5 : Hid (HAt (w3.alloc (.cells #[.int .i64 ya, .int .i64 yb, .int .i64 yc, .int .i64 yd] 26)) (w2.heap.size) 0 ⟨ya, yb, yc, yd⟩) := hat_below HY_4.out ((Below.refl _ w3).alloc (Nat.le_refl _) _)
     have HL_5 : Hid (LiesT (w3.alloc (.cells #[.int .i64 ya, .int .i64 yb, .int .i64 yc, .int .i64 yd] 26)) g L) := HL_4.out.below ((Below.refl _ w3).alloc (Nat.le_refl _) _)
     have HLX_5 : Hid (LiesT (w3.alloc (.cells #[.int .i64 ya, .int .i64 yb, .int .i64 yc, .int .i64 yd] 26)) gx XX) := HLX_4.out.below ((Below.refl _ w3).alloc (Nat.le_refl _) _)
     have HLA_5 : Hid (LiesT (w3.alloc (.cells #[.int .i64 ya, .int .i64 yb, .int .i64 yc, .int .i64 yd] 26)) ga XX) := HLA_4.out.below ((Below.refl _ w3).alloc (Nat.le_refl _) _)
     have HB_5 : Hid (Below w.heap.size w (w3.alloc (.cells #[.int .i64 ya, .int .i64 yb, .int .i64 yc, .int .i64 yd] 26))) := HB_4.out.trans (((Below.refl _ w3).alloc (Nat.le_refl _) _).mono HB_4.out.size)
     have HBB_5 : Hid (HAt (w3.alloc (.cells #[.int .i64 ya, .int .i64 yb, .int .i64 yc, .int .i64 yd] 26)) (w3.heap.size) 0 ⟨ya, yb, yc, yd⟩) := hat_new w3 ⟨ya, yb, yc, yd⟩ _
     clear HL_4 HLX_4 HLA_4 HB_4 HH_4 HY_4
     have ex := hand_ne ya yb yc yd
     go_wp2_with fail
     refine (LK.out _ gx ga cx ca HLX_5.out HLA_5.out).mono ?_
     rintro e w4 ⟨rfl, hb⟩
     have HH_6 : Hid (HAt (w4) (w1.heap.size) 0 ⟨who, has, kept, last⟩) := hat_below HH_5.out (hb)
     have HY_6 : Hid (HAt (w4) (w2.heap.size) 0 ⟨ya, yb, yc, yd⟩) := hat_below HY_5.out (hb)
     have HBB_6 : Hid (HAt (w4) (w3.heap.size) 0 ⟨ya, yb, yc, yd⟩) := hat_below HBB_5.out (hb)
     have HL_6 : Hid (LiesT (w4) g L) := HL_5.out.below (hb)
     have HLX_6 : Hid (LiesT (w4) gx XX) := HLX_5.out.below (hb)
     have HLA_6 : Hid (LiesT (w4) ga XX) := HLA_5.out.below (hb)
     have HB_6 : Hid (Below w.heap.size w (w4)) := HB_5.out.trans ((hb).mono HB_5.out.size)
     clear HL_5 HLX_5 HLA_5 HB_5 HH_5 HY_5 HBB_5
     obtain ⟨c2a, c2b, c2c, c2d⟩ := cellsH HY_6.out
     dsimp only at c2a c2b c2c c2d
     obtain ⟨c3a, c3b, c3c, c3d⟩ := cellsH HBB_6.out
     dsimp only at c3a c3b c3c c3d
     have HE : Hid (Below w.heap.size w w4) := HB_6.out
     go_wp2
     go_ret
     exact ⟨rfl, HE.out⟩
   · obtain ⟨hok, htb⟩ := ties_yes htq
     have hIs := hand_is h64 hok
     obtain ⟨hl2, hl60, hhand, hround, hround0, hword, _⟩ := tie_parts hIs htb
     have hli := tied_is hIs htb
     have e1 : tiesH L h wd = ⟨h.who, orB h.has (2 ^ L.length), orB h.has (2 ^ L.length), (L.length : Int)⟩ := by unfold tiesH; rw [hok, htb]; rfl
     have e3 : tiesL L h wd = L ++ [tieK L h wd] := by unfold tiesL; rw [hok, htb]; rfl
     rw [e1, htq, e3] at SX HX
     have hlen : (L ++ [tieK L h wd]).length = L.length + 1 := by simp
     have hat : at' (L ++ [tieK L h wd]) L.length = tieK L h wd := by unfold Lc.at'; simp
     generalize hM : L ++ [tieK L h wd] = M at SX HX hlen hat hl2 hli
     rw [hlen] at SX HX
     have LK : Hid (∀ (W : World) (a b ca cb : Nat), LiesT W a M → LiesT W b M → _) := fun W a b ca cb ha hb => likeS W a b ca cb M ha hb
     rw [hlen] at LK
     have hrd0 : 0 ≤ (tieK L h wd).round := by rw [hround]; exact hround0
     have hrl : at' M (tiedH L h).last.toNat = tieK L h wd := by show at' M (L.length : Int).toNat = _; rw [Int.toNat_natCast]; exact hat
     have HTC : Hid (∀ (W : World) (gx : Nat), LiesT W gx M → W.cell? ⟨gx, L.length * 4 + 1, none⟩ = some (.int .i64 (tieK L h wd).round)) := fun W gx hW => by
       obtain ⟨_, q⟩ := hW.rd.on L.length (by rw [hlen]; omega)
       rw [Nat.zero_add, hat] at q
       exact q.c1
     have NR : Hid (∀ (W : World) (gx cx : Nat), L.length + 1 ≤ cx → LiesT W gx M → Calls Tryz.prog 21 #[.slice (some ⟨gx, 0, none⟩) (L.length + 1) cx, .agg #[.int .i64 h.who, .int .i64 (orB h.has (2 ^ L.length)), .int .i64 (orB h.has (2 ^ L.length)), .int .i64 (L.length : Int)]] W fun e w' => e = .returned (.int .i64 (nextI M (tiedH L h).has (tiedH L h).last)) ∧ Below W.heap.size W w') := fun W gx cx hcx hW => by
       have := H2.out gx cx M (tiedH L h) W hW (by rw [hlen]; exact hcx) (is_64b hli)
       rw [nextRI_ok (is_hand hli), hlen] at this
       exact this
     have TS0 : Hid (∀ (W : World) (gx cx : Nat), L.length + 1 ≤ cx → LiesT W gx M → Calls Tryz.prog 19 #[.slice (some ⟨gx, 0, none⟩) (L.length + 1) cx, .agg #[.int .i64 h.who, .int .i64 (orB h.has (2 ^ L.length)), .int .i64 (orB h.has (2 ^ L.length)), .int .i64 (L.length : Int)], .string ⟨#[]⟩] W fun e w' => ∃ gz cz, e = .returned (.tuple #[.slice (some ⟨gz, 0, none⟩) (tiesL M (tiedH L h) ⟨#[]⟩).length cz, .agg #[.int .i64 (tiesH M (tiedH L h) ⟨#[]⟩).who, .int .i64 (tiesH M (tiedH L h) ⟨#[]⟩).has, .int .i64 (tiesH M (tiedH L h) ⟨#[]⟩).kept, .int .i64 (tiesH M (tiedH L h) ⟨#[]⟩).last], .bool (tiesB M (tiedH L h) ⟨#[]⟩)]) ∧ (tiesL M (tiedH L h) ⟨#[]⟩).length ≤ cz ∧ LiesT w' gz (tiesL M (tiedH L h) ⟨#[]⟩) ∧ Below W.heap.size W w') := fun W gx cx hcx hW => by
       have := (H1.out gx cx M (tiedH L h) ⟨#[]⟩ W hW (by rw [hlen]; exact hcx) (is_64b hli) (by decide)).mono fun e w' q => ties_lies hW.st hW.len hW.words (by decide) q
       rw [hlen] at this
       exact this
     have hwhen : tiesB M (tiedH L h) ⟨#[]⟩ = (decide (0 ≤ nextI M (tiedH L h).has (tiedH L h).last) && decide (L.length + 1 < 60)) := by
       have q := tie_when hli (word := ⟨#[]⟩) (by rfl)
       unfold tiesB
       rw [is_hand hli, Bool.true_and, q, hlen]
     have AR0 : Hid (∀ (W : World) (gx cx : Nat) (r : Int), L.length + 1 ≤ cx → LiesT W gx M → Calls Tryz.prog 31 #[.slice (some ⟨gx, 0, none⟩) (L.length + 1) cx, .int .i64 (orB h.has (2 ^ L.length)), .int .i64 r] W fun e w' => e = .returned (.int .i64 (roundS M (tiedH L h).has r)) ∧ Below W.heap.size W w') := fun W gx cx r hcx hW => by
       have := Lc.specAtRound gx 0 cx M (tiedH L h).has r W (by rw [hlen]; exact hcx) hW.words hW.rd
       rw [show Lc.atRoundI M (tiedH L h).has r = roundS M (tiedH L h).has r by unfold Lc.atRoundI; rw [is_set hli]; rfl, hlen] at this
       exact this
     have HO0 : Hid (∀ (W : World) (gx cx : Nat) (r : Int), L.length + 1 ≤ cx → LiesT W gx M → Calls Tryz.prog 30 #[.slice (some ⟨gx, 0, none⟩) (L.length + 1) cx, .int .i64 (roundS M (tiedH L h).has r)] W fun e w' => e = .returned (.int .i64 (handsN M (roundS M (tiedH L h).has r))) ∧ Below W.heap.size W w') := fun W gx cx r hcx hW => by
       have := Lc.specHandsOf gx 0 cx M (roundS M (tiedH L h).has r) W (by rw [hlen]; exact hcx) hW.words hW.rd
       rw [show Lc.handsOfI M (roundS M (tiedH L h).has r) = handsN M (roundS M (tiedH L h).has r) by unfold Lc.handsOfI; rw [round_set hli.lace]; rfl, hlen] at this
       exact this
     have hli0 : (0 : Int) ≤ (L.length : Int) := by omega
     have hli1 : (L.length : Int) < (L.length : Int) + 1 := by omega
     have hln : ((L.length + 1 : Nat) : Int) = (L.length : Int) + 1 := by omega
     clear h64 hok htb htq e1 e3 hIs hround hround0 hword hl2 hat
     by_cases hr2 : 0 ≤ nextI M (tiedH L h).has (tiedH L h).last
     · obtain ⟨_, hsp, hr19, hrlt⟩ := next_parts hli hr2
       have hlt2 := hrlt hli0
       rw [hrl] at hlt2
       have h3 := hsp.resolve_left (by omega)
       have AR : Hid (∀ (W : World) (gx cx : Nat), L.length + 1 ≤ cx → LiesT W gx M → _) := fun W gx cx hcx hW => AR0.out W gx cx (nextI M (tiedH L h).has (tiedH L h).last - 1) hcx hW
       have HO3 : Hid (∀ (W : World) (gx cx : Nat), L.length + 1 ≤ cx → LiesT W gx M → _) := fun W gx cx hcx hW => HO0.out W gx cx (nextI M (tiedH L h).has (tiedH L h).last - 1) hcx hW
       rw [decide_eq_true hr2, Bool.true_and] at hwhen
       by_cases h60 : L.length + 1 < 60
       · rw [decide_eq_true h60] at hwhen
         obtain ⟨hok2, htb2⟩ := ties_yes hwhen
         have e1 : tiesH M (tiedH L h) ⟨#[]⟩ = ⟨h.who, orB (tiedH L h).has (2 ^ (L.length + 1)), orB (tiedH L h).has (2 ^ (L.length + 1)), ((L.length + 1 : Nat) : Int)⟩ := by unfold tiesH; rw [hok2, htb2, hlen]; rfl
         have e3 : tiesL M (tiedH L h) ⟨#[]⟩ = M ++ [tieK M (tiedH L h) ⟨#[]⟩] := by unfold tiesL; rw [hok2, htb2]; rfl
         obtain ⟨hl3, _, _⟩ := tie_parts hli htb2
         have hlen3 : (M ++ [tieK M (tiedH L h) ⟨#[]⟩]).length = L.length + 1 + 1 := by simp [hlen]
         have hbl := last_has hli hli0
         have hwl := (last_most M (tiedH L h).who (tiedH L h).kept M.length).2
         rw [← hli.last] at hwl
         have hse := tied_sees hli htb2 hbl.1 (hwl hli0).2
         have hno := and_none hli htb2
         rw [hlen] at hse hno
         have TS := TS0
         rw [hwhen, e1, e3, hlen3] at TS
         have SEE : Hid (∀ (W : World) (gz cz : Nat), L.length + 1 + 1 ≤ cz → LiesT W gz (M ++ [tieK M (tiedH L h) ⟨#[]⟩]) → Calls Tryz.prog 32 #[.slice (some ⟨gz, 0, none⟩) (L.length + 1 + 1) cz, .int .i64 ((L.length + 1 : Nat) : Int), .int .i64 (L.length : Int)] W fun e w' => e = .returned (.bool true) ∧ Below W.heap.size W w') := fun W gz cz hcz hW => by
           have := Sg.specSees gz 0 cz (M ++ [tieK M (tiedH L h) ⟨#[]⟩]) ((L.length + 1 : Nat) : Int) (L.length : Int) W (by rw [hlen3]; exact hcz) hW.words hW.rd
           have q : Sg.seesB (M ++ [tieK M (tiedH L h) ⟨#[]⟩]) ((L.length + 1 : Nat) : Int) (L.length : Int) = true := by
             unfold Sg.seesB Sg.isB
             rw [hl3, Int.toNat_natCast, Int.toNat_natCast, hlen3]
             have hse' : bit (bel (M ++ [tieK M (tiedH L h) ⟨#[]⟩]) (L.length + 1)) L.length = true := hse
             rw [hse']
             simp
             omega
           rw [q, hlen3] at this
           exact this
         have DOU : Hid (∀ (W : World) (gz cz : Nat), L.length + 1 + 1 ≤ cz → LiesT W gz (M ++ [tieK M (tiedH L h) ⟨#[]⟩]) → Calls Tryz.prog 34 #[.slice (some ⟨gz, 0, none⟩) (L.length + 1 + 1) cz, .int .i64 ((L.length + 1 : Nat) : Int)] W fun e w' => e = .returned (.int .i64 (Db.dblS (M ++ [tieK M (tiedH L h) ⟨#[]⟩]) (L.length + 1) (L.length + 1 + 1))) ∧ Below W.heap.size W w') := fun W gz cz hcz hW => by
           have := Db.specDoublesOf gz 0 cz (M ++ [tieK M (tiedH L h) ⟨#[]⟩]) ((L.length + 1 : Nat) : Int) W (by rw [hlen3]; exact hcz) hW.words hW.rd
           have q : Db.doublesI (M ++ [tieK M (tiedH L h) ⟨#[]⟩]) ((L.length + 1 : Nat) : Int) = Db.dblS (M ++ [tieK M (tiedH L h) ⟨#[]⟩]) (L.length + 1) (L.length + 1 + 1) := by
             unfold Db.doublesI Sg.isB
             rw [hl3, Int.toNat_natCast, hlen3, if_pos (by simp; omega)]
           rw [q, hlen3] at this
           exact this
         have MEM : Hid (∀ W : World, Calls Tryz.prog 33 #[.int .i64 0] W fun e w' => ∃ ao ca, e = .returned (.slice ao 0 ca) ∧ Below W.heap.size W w') := fun W => (Memb.specMembers 0 W).mono fun e w' ⟨ao, ca, q1, _, q3⟩ => ⟨ao, ca, q1, q3⟩
         rw [hln] at TS SEE DOU
         have h60i : (L.length : Int) + 1 < 60 := by omega
         clear hsp hrlt TS0 AR0 HO0 hwhen hok2 htb2 e1 e3 hl3 hlen3 hbl hwl hse hM hrl hli hlen
         generalize roundS M (tiedH L h).has (nextI M (tiedH L h).has (tiedH L h).last - 1) = rs at AR HO3 h3
         generalize handsN M rs = n3 at HO3 h3
         generalize nextI M (tiedH L h).has (tiedH L h).last = r2 at NR AR hr2 hr19 hlt2
         generalize Db.dblS (M ++ [tieK M (tiedH L h) ⟨#[]⟩]) (L.length + 1) (L.length + 1 + 1) = dd at DOU hno
         generalize M ++ [tieK M (tiedH L h) ⟨#[]⟩] = N at TS SEE DOU
         generalize orB (tiedH L h).has (2 ^ (L.length + 1)) = nv at TS hno
         generalize tieK L h wd = tk at HTC hlt2 hrd0 hhand
         obtain ⟨who, has, kept, last⟩ := h
         obtain ⟨th, tr, tf, tw⟩ := tk
         dsimp only at SX HX HTC NR TS AR hlt2 hrd0
         generalize orB has (2 ^ L.length) = nh at SX HX NR TS AR
         have HL_1 : Hid (LiesT (w1.alloc (.cells #[.int .i64 who, .int .i64 has, .int .i64 kept, .int .i64 last] 26)) g L) := HL_0.out.below ((Below.refl _ w1).alloc (Nat.le_refl _) _)
         have HB_1 : Hid (Below w.heap.size w (w1.alloc (.cells #[.int .i64 who, .int .i64 has, .int .i64 kept, .int .i64 last] 26))) := HB_0.out.trans (((Below.refl _ w1).alloc (Nat.le_refl _) _).mono HB_0.out.size)
         have HH_1 : Hid (HAt (w1.alloc (.cells #[.int .i64 who, .int .i64 has, .int .i64 kept, .int .i64 last] 26)) (w1.heap.size) 0 ⟨who, has, kept, last⟩) := hat_new w1 ⟨who, has, kept, last⟩ _
         clear HL_0 HB_0 
         go_wp2_with fail
         refine (HX.out _ HL_1.out).mono ?_
         rintro e w2 ⟨gx, cx, rfl, hcx, hlx, hb⟩
         have HH_2 : Hid (HAt (w2) (w1.heap.size) 0 ⟨who, has, kept, last⟩) := hat_below HH_1.out (hb)
         have HL_2 : Hid (LiesT (w2) g L) := HL_1.out.below (hb)
         have HB_2 : Hid (Below w.heap.size w (w2)) := HB_1.out.trans ((hb).mono HB_1.out.size)
         clear HL_1 HB_1 HH_1
         have HLX_2 : Hid (LiesT (w2) gx M) := hlx
         clear hlx
         have HH_3 : Hid (HAt (w2.alloc (.cells #[.int .i64 who, .int .i64 nh, .int .i64 nh, .int .i64 (L.length : Int)] 26)) (w1.heap.size) 0 ⟨who, has, kept, last⟩) := hat_below HH_2.out ((Below.refl _ w2).alloc (Nat.le_refl _) _)
         have HL_3 : Hid (LiesT (w2.alloc (.cells #[.int .i64 who, .int .i64 nh, .int .i64 nh, .int .i64 (L.length : Int)] 26)) g L) := HL_2.out.below ((Below.refl _ w2).alloc (Nat.le_refl _) _)
         have HLX_3 : Hid (LiesT (w2.alloc (.cells #[.int .i64 who, .int .i64 nh, .int .i64 nh, .int .i64 (L.length : Int)] 26)) gx M) := HLX_2.out.below ((Below.refl _ w2).alloc (Nat.le_refl _) _)
         have HB_3 : Hid (Below w.heap.size w (w2.alloc (.cells #[.int .i64 who, .int .i64 nh, .int .i64 nh, .int .i64 (L.length : Int)] 26))) := HB_2.out.trans (((Below.refl _ w2).alloc (Nat.le_refl _) _).mono HB_2.out.size)
         have HY_3 : Hid (HAt (w2.alloc (.cells #[.int .i64 who, .int .i64 nh, .int .i64 nh, .int .i64 (L.length : Int)] 26)) (w2.heap.size) 0 ⟨who, nh, nh, (L.length : Int)⟩) := hat_new w2 ⟨who, nh, nh, (L.length : Int)⟩ _
         clear HL_2 HLX_2 HB_2 HH_2
         obtain ⟨c1a, c1b, c1c, c1d⟩ := cellsH HH_3.out
         dsimp only at c1a c1b c1c c1d
         go_wp2_with fail
         refine (SX.out _ HL_3.out).mono ?_
         rintro e w3 ⟨ga, ca, rfl, hca, hla, hb⟩
         have HH_4 : Hid (HAt (w3) (w1.heap.size) 0 ⟨who, has, kept, last⟩) := hat_below HH_3.out (hb)
         have HY_4 : Hid (HAt (w3) (w2.heap.size) 0 ⟨who, nh, nh, (L.length : Int)⟩) := hat_below HY_3.out (hb)
         have HL_4 : Hid (LiesT (w3) g L) := HL_3.out.below (hb)
         have HLX_4 : Hid (LiesT (w3) gx M) := HLX_3.out.below (hb)
         have HB_4 : Hid (Below w.heap.size w (w3)) := HB_3.out.trans ((hb).mono HB_3.out.size)
         clear HL_3 HLX_3 HB_3 HH_3 HY_3
         have HLA_4 : Hid (LiesT (w3) ga M) := hla
         clear hla
         have HH_5 : Hid (HAt (w3.alloc (.cells #[.int .i64 who, .int .i64 nh, .int .i64 nh, .int .i64 (L.length : Int)] 26)) (w1.heap.size) 0 ⟨who, has, kept, last⟩) := hat_below HH_4.out ((Below.refl _ w3).alloc (Nat.le_refl _) _)
         have HY_5 : Hid (HAt (w3.alloc (.cells #[.int .i64 who, .int .i64 nh, .int .i64 nh, .int .i64 (L.length : Int)] 26)) (w2.heap.size) 0 ⟨who, nh, nh, (L.length : Int)⟩) := hat_below HY_4.out ((Below.refl _ w3).alloc (Nat.le_refl _) _)
         have HL_5 : Hid (LiesT (w3.alloc (.cells #[.int .i64 who, .int .i64 nh, .int .i64 nh, .int .i64 (L.length : Int)] 26)) g L) := HL_4.out.below ((Below.refl _ w3).alloc (Nat.le_refl _) _)
         have HLX_5 : Hid (LiesT (w3.alloc (.cells #[.int .i64 who, .int .i64 nh, .int .i64 nh, .int .i64 (L.length : Int)] 26)) gx M) := HLX_4.out.below ((Below.refl _ w3).alloc (Nat.le_refl _) _)
         have HLA_5 : Hid (LiesT (w3.alloc (.cells #[.int .i64 who, .int .i64 nh, .int .i64 nh, .int .i64 (L.length : Int)] 26)) ga M) := HLA_4.out.below ((Below.refl _ w3).alloc (Nat.le_refl _) _)
         have HB_5 : Hid (Below w.heap.size w (w3.alloc (.cells #[.int .i64 who, .int .i64 nh, .int .i64 nh, .int .i64 (L.length : Int)] 26))) := HB_4.out.trans (((Below.refl _ w3).alloc (Nat.le_refl _) _).mono HB_4.out.size)
         have HBB_5 : Hid (HAt (w3.alloc (.cells #[.int .i64 who, .int .i64 nh, .int .i64 nh, .int .i64 (L.length : Int)] 26)) (w3.heap.size) 0 ⟨who, nh, nh, (L.length : Int)⟩) := hat_new w3 ⟨who, nh, nh, (L.length : Int)⟩ _
         clear HL_4 HLX_4 HLA_4 HB_4 HH_4 HY_4
         have ex := hand_ne who nh nh (L.length : Int)
         go_wp2_with fail
         refine (LK.out _ gx ga cx ca HLX_5.out HLA_5.out).mono ?_
         rintro e w4 ⟨rfl, hb⟩
         have HH_6 : Hid (HAt (w4) (w1.heap.size) 0 ⟨who, has, kept, last⟩) := hat_below HH_5.out (hb)
         have HY_6 : Hid (HAt (w4) (w2.heap.size) 0 ⟨who, nh, nh, (L.length : Int)⟩) := hat_below HY_5.out (hb)
         have HBB_6 : Hid (HAt (w4) (w3.heap.size) 0 ⟨who, nh, nh, (L.length : Int)⟩) := hat_below HBB_5.out (hb)
         have HL_6 : Hid (LiesT (w4) g L) := HL_5.out.below (hb)
         have HLX_6 : Hid (LiesT (w4) gx M) := HLX_5.out.below (hb)
         have HLA_6 : Hid (LiesT (w4) ga M) := HLA_5.out.below (hb)
         have HB_6 : Hid (Below w.heap.size w (w4)) := HB_5.out.trans ((hb).mono HB_5.out.size)
         clear HL_5 HLX_5 HLA_5 HB_5 HH_5 HY_5 HBB_5
         obtain ⟨c2a, c2b, c2c, c2d⟩ := cellsH HY_6.out
         dsimp only at c2a c2b c2c c2d
         obtain ⟨c3a, c3b, c3c, c3d⟩ := cellsH HBB_6.out
         dsimp only at c3a c3b c3c c3d
         have e1 := HTC.out _ gx HLX_6.out
         go_wp2_with fail
         refine (NR.out _ gx cx hcx HLX_6.out).mono ?_
         rintro e w5 ⟨rfl, hb⟩
         have HH_7 : Hid (HAt (w5) (w1.heap.size) 0 ⟨who, has, kept, last⟩) := hat_below HH_6.out (hb)
         have HY_7 : Hid (HAt (w5) (w2.heap.size) 0 ⟨who, nh, nh, (L.length : Int)⟩) := hat_below HY_6.out (hb)
         have HBB_7 : Hid (HAt (w5) (w3.heap.size) 0 ⟨who, nh, nh, (L.length : Int)⟩) := hat_below HBB_6.out (hb)
         have HL_7 : Hid (LiesT (w5) g L) := HL_6.out.below (hb)
         have HLX_7 : Hid (LiesT (w5) gx M) := HLX_6.out.below (hb)
         have HLA_7 : Hid (LiesT (w5) ga M) := HLA_6.out.below (hb)
         have HB_7 : Hid (Below w.heap.size w (w5)) := HB_6.out.trans ((hb).mono HB_6.out.size)
         clear HL_6 HLX_6 HLA_6 HB_6 HH_6 HY_6 HBB_6
         clear ex HLA_7 HBB_7
         obtain ⟨c4a, c4b, c4c, c4d⟩ := cellsH HY_7.out
         dsimp only at c4a c4b c4c c4d
         go_wp2_with fail
         refine (AR.out _ gx cx hcx HLX_7.out).mono ?_
         rintro e w6 ⟨rfl, hb⟩
         have HH_8 : Hid (HAt (w6) (w1.heap.size) 0 ⟨who, has, kept, last⟩) := hat_below HH_7.out (hb)
         have HY_8 : Hid (HAt (w6) (w2.heap.size) 0 ⟨who, nh, nh, (L.length : Int)⟩) := hat_below HY_7.out (hb)
         have HL_8 : Hid (LiesT (w6) g L) := HL_7.out.below (hb)
         have HLX_8 : Hid (LiesT (w6) gx M) := HLX_7.out.below (hb)
         have HB_8 : Hid (Below w.heap.size w (w6)) := HB_7.out.trans ((hb).mono HB_7.out.size)
         clear HL_7 HLX_7 HB_7 HH_7 HY_7
         go_wp2_with fail
         refine (HO3.out _ gx cx hcx HLX_8.out).mono ?_
         rintro e w7 ⟨rfl, hb⟩
         have HH_9 : Hid (HAt (w7) (w1.heap.size) 0 ⟨who, has, kept, last⟩) := hat_below HH_8.out (hb)
         have HY_9 : Hid (HAt (w7) (w2.heap.size) 0 ⟨who, nh, nh, (L.length : Int)⟩) := hat_below HY_8.out (hb)
         have HL_9 : Hid (LiesT (w7) g L) := HL_8.out.below (hb)
         have HLX_9 : Hid (LiesT (w7) gx M) := HLX_8.out.below (hb)
         have HB_9 : Hid (Below w.heap.size w (w7)) := HB_8.out.trans ((hb).mono HB_8.out.size)
         clear HL_8 HLX_8 HB_8 HH_8 HY_8
         obtain ⟨c5a, c5b, c5c, c5d⟩ := cellsH HY_9.out
         dsimp only at c5a c5b c5c c5d
         go_wp2_with fail
         refine (TS.out _ gx cx hcx HLX_9.out).mono ?_
         rintro e w8 ⟨gz, cz, rfl, hcz, hlz, hb⟩
         have HH_10 : Hid (HAt (w8) (w1.heap.size) 0 ⟨who, has, kept, last⟩) := hat_below HH_9.out (hb)
         have HY_10 : Hid (HAt (w8) (w2.heap.size) 0 ⟨who, nh, nh, (L.length : Int)⟩) := hat_below HY_9.out (hb)
         have HL_10 : Hid (LiesT (w8) g L) := HL_9.out.below (hb)
         have HLX_10 : Hid (LiesT (w8) gx M) := HLX_9.out.below (hb)
         have HB_10 : Hid (Below w.heap.size w (w8)) := HB_9.out.trans ((hb).mono HB_9.out.size)
         clear HL_9 HLX_9 HB_9 HH_9 HY_9
         have HLZ_10 : Hid (LiesT (w8) gz N) := hlz
         clear hlz
         have HH_11 : Hid (HAt (w8.alloc (.cells #[.int .i64 who, .int .i64 nv, .int .i64 nv, .int .i64 ((L.length : Int) + 1)] 26)) (w1.heap.size) 0 ⟨who, has, kept, last⟩) := hat_below HH_10.out ((Below.refl _ w8).alloc (Nat.le_refl _) _)
         have HY_11 : Hid (HAt (w8.alloc (.cells #[.int .i64 who, .int .i64 nv, .int .i64 nv, .int .i64 ((L.length : Int) + 1)] 26)) (w2.heap.size) 0 ⟨who, nh, nh, (L.length : Int)⟩) := hat_below HY_10.out ((Below.refl _ w8).alloc (Nat.le_refl _) _)
         have HL_11 : Hid (LiesT (w8.alloc (.cells #[.int .i64 who, .int .i64 nv, .int .i64 nv, .int .i64 ((L.length : Int) + 1)] 26)) g L) := HL_10.out.below ((Below.refl _ w8).alloc (Nat.le_refl _) _)
         have HLX_11 : Hid (LiesT (w8.alloc (.cells #[.int .i64 who, .int .i64 nv, .int .i64 nv, .int .i64 ((L.length : Int) + 1)] 26)) gx M) := HLX_10.out.below ((Below.refl _ w8).alloc (Nat.le_refl _) _)
         have HLZ_11 : Hid (LiesT (w8.alloc (.cells #[.int .i64 who, .int .i64 nv, .int .i64 nv, .int .i64 ((L.length : Int) + 1)] 26)) gz N) := HLZ_10.out.below ((Below.refl _ w8).alloc (Nat.le_refl _) _)
         have HB_11 : Hid (Below w.heap.size w (w8.alloc (.cells #[.int .i64 who, .int .i64 nv, .int .i64 nv, .int .i64 ((L.length : Int) + 1)] 26))) := HB_10.out.trans (((Below.refl _ w8).alloc (Nat.le_refl _) _).mono HB_10.out.size)
         have HV_11 : Hid (HAt (w8.alloc (.cells #[.int .i64 who, .int .i64 nv, .int .i64 nv, .int .i64 ((L.length : Int) + 1)] 26)) (w8.heap.size) 0 ⟨who, nv, nv, ((L.length : Int) + 1)⟩) := hat_new w8 ⟨who, nv, nv, ((L.length : Int) + 1)⟩ _
         clear HL_10 HLX_10 HLZ_10 HB_10 HH_10 HY_10
         generalize hWq : (w8.alloc (.cells #[.int .i64 who, .int .i64 nv, .int .i64 nv, .int .i64 ((L.length : Int) + 1)] 26)) = W0 at HV_11 HY_11 HLZ_11 HLX_11 HL_11 HB_11
         have HWQ : Hid ((w8.alloc (.cells #[.int .i64 who, .int .i64 nv, .int .i64 nv, .int .i64 ((L.length : Int) + 1)] 26)) = W0) := hWq
         clear hWq
         have HSB : Hid (∀ X : World, Below W0.heap.size W0 X → X.cell? ⟨w8.heap.size, 2, none⟩ = some (.int .i64 nv) ∧ X.cell? ⟨w8.heap.size, 3, none⟩ = some (.int .i64 ((L.length : Int) + 1)) ∧ X.cell? ⟨w2.heap.size, 3, none⟩ = some (.int .i64 (L.length : Int))) := fun X hX => ⟨(cellsH (hat_below HV_11.out hX)).2.2.1, (cellsH (hat_below HV_11.out hX)).2.2.2, (cellsH (hat_below HY_11.out hX)).2.2.2⟩
         have HZB : Hid (∀ X : World, Below W0.heap.size W0 X → LiesT X gz N) := fun X hX => HLZ_11.out.below hX
         go_wp2_with fail
         rw [HWQ.out]
         generalize w8.heap.size = bv at HSB ⊢
         generalize w2.heap.size = by0 at HSB ⊢
         go_region_held3 (fun X => X.cell? ⟨bv, 2, none⟩ = some (.int .i64 nv) ∧ X.cell? ⟨bv, 3, none⟩ = some (.int .i64 ((L.length : Int) + 1)) ∧ X.cell? ⟨by0, 3, none⟩ = some (.int .i64 (L.length : Int))) (first
             | exact HSB.out _ B3
             | exact HSB.out _ B2
             | exact HSB.out _ B1
             | exact HSB.out _ (Below.refl _ _).drew
             | exact HSB.out _ (Below.refl _ _)) (first
             | (go_at_call 32
                refine (SEE.out _ gz cz hcz (HZB.out _ (Below.refl _ _).drew)).mono ?_
                rintro e V1 ⟨rfl, b1⟩
                have B1 : Below W0.heap.size W0 V1 := drew_below b1)
             | (go_at_call 34
                refine (DOU.out _ gz cz hcz (HZB.out _ B1)).mono ?_
                rintro e V2 ⟨rfl, b2⟩
                have B2 : Below W0.heap.size W0 V2 := B1.trans (b2.mono B1.size))
             | (go_at_call 33
                refine (MEM.out _).mono ?_
                rintro e V3 ⟨ao3, ca3, rfl, b3⟩
                have B3 : Below W0.heap.size W0 V3 := B2.trans (b3.mono B2.size)))
         all_goals (go_wp2)
         all_goals go_ret
         all_goals exact ⟨rfl, HB_11.out.trans (B3.mono HB_11.out.size)⟩
       · rw [decide_eq_false h60] at hwhen
         have TS := TS0
         rw [hwhen] at TS
         generalize tiesL M (tiedH L h) ⟨#[]⟩ = ZZ at TS
         generalize tiesH M (tiedH L h) ⟨#[]⟩ = zh at TS
         have h60i : ¬ (L.length : Int) + 1 < 60 := by omega
         clear hsp hrlt TS0 AR0 HO0 hwhen hM hrl hli hlen
         generalize roundS M (tiedH L h).has (nextI M (tiedH L h).has (tiedH L h).last - 1) = rs at AR HO3 h3
         generalize handsN M rs = n3 at HO3 h3
         generalize nextI M (tiedH L h).has (tiedH L h).last = r2 at NR AR hr2 hr19 hlt2
         generalize tieK L h wd = tk at HTC hlt2 hrd0 hhand
         obtain ⟨who, has, kept, last⟩ := h
         obtain ⟨th, tr, tf, tw⟩ := tk
         obtain ⟨za, zb, zc, zd⟩ := zh
         dsimp only at SX HX HTC NR TS AR hlt2 hrd0
         generalize orB has (2 ^ L.length) = nh at SX HX NR TS AR
         have HL_1 : Hid (LiesT (w1.alloc (.cells #[.int .i64 who, .int .i64 has, .int .i64 kept, .int .i64 last] 26)) g L) := HL_0.out.below ((Below.refl _ w1).alloc (Nat.le_refl _) _)
         have HB_1 : Hid (Below w.heap.size w (w1.alloc (.cells #[.int .i64 who, .int .i64 has, .int .i64 kept, .int .i64 last] 26))) := HB_0.out.trans (((Below.refl _ w1).alloc (Nat.le_refl _) _).mono HB_0.out.size)
         have HH_1 : Hid (HAt (w1.alloc (.cells #[.int .i64 who, .int .i64 has, .int .i64 kept, .int .i64 last] 26)) (w1.heap.size) 0 ⟨who, has, kept, last⟩) := hat_new w1 ⟨who, has, kept, last⟩ _
         clear HL_0 HB_0 
         go_wp2_with fail
         refine (HX.out _ HL_1.out).mono ?_
         rintro e w2 ⟨gx, cx, rfl, hcx, hlx, hb⟩
         have HH_2 : Hid (HAt (w2) (w1.heap.size) 0 ⟨who, has, kept, last⟩) := hat_below HH_1.out (hb)
         have HL_2 : Hid (LiesT (w2) g L) := HL_1.out.below (hb)
         have HB_2 : Hid (Below w.heap.size w (w2)) := HB_1.out.trans ((hb).mono HB_1.out.size)
         clear HL_1 HB_1 HH_1
         have HLX_2 : Hid (LiesT (w2) gx M) := hlx
         clear hlx
         have HH_3 : Hid (HAt (w2.alloc (.cells #[.int .i64 who, .int .i64 nh, .int .i64 nh, .int .i64 (L.length : Int)] 26)) (w1.heap.size) 0 ⟨who, has, kept, last⟩) := hat_below HH_2.out ((Below.refl _ w2).alloc (Nat.le_refl _) _)
         have HL_3 : Hid (LiesT (w2.alloc (.cells #[.int .i64 who, .int .i64 nh, .int .i64 nh, .int .i64 (L.length : Int)] 26)) g L) := HL_2.out.below ((Below.refl _ w2).alloc (Nat.le_refl _) _)
         have HLX_3 : Hid (LiesT (w2.alloc (.cells #[.int .i64 who, .int .i64 nh, .int .i64 nh, .int .i64 (L.length : Int)] 26)) gx M) := HLX_2.out.below ((Below.refl _ w2).alloc (Nat.le_refl _) _)
         have HB_3 : Hid (Below w.heap.size w (w2.alloc (.cells #[.int .i64 who, .int .i64 nh, .int .i64 nh, .int .i64 (L.length : Int)] 26))) := HB_2.out.trans (((Below.refl _ w2).alloc (Nat.le_refl _) _).mono HB_2.out.size)
         have HY_3 : Hid (HAt (w2.alloc (.cells #[.int .i64 who, .int .i64 nh, .int .i64 nh, .int .i64 (L.length : Int)] 26)) (w2.heap.size) 0 ⟨who, nh, nh, (L.length : Int)⟩) := hat_new w2 ⟨who, nh, nh, (L.length : Int)⟩ _
         clear HL_2 HLX_2 HB_2 HH_2
         obtain ⟨c1a, c1b, c1c, c1d⟩ := cellsH HH_3.out
         dsimp only at c1a c1b c1c c1d
         go_wp2_with fail
         refine (SX.out _ HL_3.out).mono ?_
         rintro e w3 ⟨ga, ca, rfl, hca, hla, hb⟩
         have HH_4 : Hid (HAt (w3) (w1.heap.size) 0 ⟨who, has, kept, last⟩) := hat_below HH_3.out (hb)
         have HY_4 : Hid (HAt (w3) (w2.heap.size) 0 ⟨who, nh, nh, (L.length : Int)⟩) := hat_below HY_3.out (hb)
         have HL_4 : Hid (LiesT (w3) g L) := HL_3.out.below (hb)
         have HLX_4 : Hid (LiesT (w3) gx M) := HLX_3.out.below (hb)
         have HB_4 : Hid (Below w.heap.size w (w3)) := HB_3.out.trans ((hb).mono HB_3.out.size)
         clear HL_3 HLX_3 HB_3 HH_3 HY_3
         have HLA_4 : Hid (LiesT (w3) ga M) := hla
         clear hla
         have HH_5 : Hid (HAt (w3.alloc (.cells #[.int .i64 who, .int .i64 nh, .int .i64 nh, .int .i64 (L.length : Int)] 26)) (w1.heap.size) 0 ⟨who, has, kept, last⟩) := hat_below HH_4.out ((Below.refl _ w3).alloc (Nat.le_refl _) _)
         have HY_5 : Hid (HAt (w3.alloc (.cells #[.int .i64 who, .int .i64 nh, .int .i64 nh, .int .i64 (L.length : Int)] 26)) (w2.heap.size) 0 ⟨who, nh, nh, (L.length : Int)⟩) := hat_below HY_4.out ((Below.refl _ w3).alloc (Nat.le_refl _) _)
         have HL_5 : Hid (LiesT (w3.alloc (.cells #[.int .i64 who, .int .i64 nh, .int .i64 nh, .int .i64 (L.length : Int)] 26)) g L) := HL_4.out.below ((Below.refl _ w3).alloc (Nat.le_refl _) _)
         have HLX_5 : Hid (LiesT (w3.alloc (.cells #[.int .i64 who, .int .i64 nh, .int .i64 nh, .int .i64 (L.length : Int)] 26)) gx M) := HLX_4.out.below ((Below.refl _ w3).alloc (Nat.le_refl _) _)
         have HLA_5 : Hid (LiesT (w3.alloc (.cells #[.int .i64 who, .int .i64 nh, .int .i64 nh, .int .i64 (L.length : Int)] 26)) ga M) := HLA_4.out.below ((Below.refl _ w3).alloc (Nat.le_refl _) _)
         have HB_5 : Hid (Below w.heap.size w (w3.alloc (.cells #[.int .i64 who, .int .i64 nh, .int .i64 nh, .int .i64 (L.length : Int)] 26))) := HB_4.out.trans (((Below.refl _ w3).alloc (Nat.le_refl _) _).mono HB_4.out.size)
         have HBB_5 : Hid (HAt (w3.alloc (.cells #[.int .i64 who, .int .i64 nh, .int .i64 nh, .int .i64 (L.length : Int)] 26)) (w3.heap.size) 0 ⟨who, nh, nh, (L.length : Int)⟩) := hat_new w3 ⟨who, nh, nh, (L.length : Int)⟩ _
         clear HL_4 HLX_4 HLA_4 HB_4 HH_4 HY_4
         have ex := hand_ne who nh nh (L.length : Int)
         go_wp2_with fail
         refine (LK.out _ gx ga cx ca HLX_5.out HLA_5.out).mono ?_
         rintro e w4 ⟨rfl, hb⟩
         have HH_6 : Hid (HAt (w4) (w1.heap.size) 0 ⟨who, has, kept, last⟩) := hat_below HH_5.out (hb)
         have HY_6 : Hid (HAt (w4) (w2.heap.size) 0 ⟨who, nh, nh, (L.length : Int)⟩) := hat_below HY_5.out (hb)
         have HBB_6 : Hid (HAt (w4) (w3.heap.size) 0 ⟨who, nh, nh, (L.length : Int)⟩) := hat_below HBB_5.out (hb)
         have HL_6 : Hid (LiesT (w4) g L) := HL_5.out.below (hb)
         have HLX_6 : Hid (LiesT (w4) gx M) := HLX_5.out.below (hb)
         have HLA_6 : Hid (LiesT (w4) ga M) := HLA_5.out.below (hb)
         have HB_6 : Hid (Below w.heap.size w (w4)) := HB_5.out.trans ((hb).mono HB_5.out.size)
         clear HL_5 HLX_5 HLA_5 HB_5 HH_5 HY_5 HBB_5
         obtain ⟨c2a, c2b, c2c, c2d⟩ := cellsH HY_6.out
         dsimp only at c2a c2b c2c c2d
         obtain ⟨c3a, c3b, c3c, c3d⟩ := cellsH HBB_6.out
         dsimp only at c3a c3b c3c c3d
         have e1 := HTC.out _ gx HLX_6.out
         go_wp2_with fail
         refine (NR.out _ gx cx hcx HLX_6.out).mono ?_
         rintro e w5 ⟨rfl, hb⟩
         have HH_7 : Hid (HAt (w5) (w1.heap.size) 0 ⟨who, has, kept, last⟩) := hat_below HH_6.out (hb)
         have HY_7 : Hid (HAt (w5) (w2.heap.size) 0 ⟨who, nh, nh, (L.length : Int)⟩) := hat_below HY_6.out (hb)
         have HBB_7 : Hid (HAt (w5) (w3.heap.size) 0 ⟨who, nh, nh, (L.length : Int)⟩) := hat_below HBB_6.out (hb)
         have HL_7 : Hid (LiesT (w5) g L) := HL_6.out.below (hb)
         have HLX_7 : Hid (LiesT (w5) gx M) := HLX_6.out.below (hb)
         have HLA_7 : Hid (LiesT (w5) ga M) := HLA_6.out.below (hb)
         have HB_7 : Hid (Below w.heap.size w (w5)) := HB_6.out.trans ((hb).mono HB_6.out.size)
         clear HL_6 HLX_6 HLA_6 HB_6 HH_6 HY_6 HBB_6
         clear ex HLA_7 HBB_7
         obtain ⟨c4a, c4b, c4c, c4d⟩ := cellsH HY_7.out
         dsimp only at c4a c4b c4c c4d
         go_wp2_with fail
         refine (AR.out _ gx cx hcx HLX_7.out).mono ?_
         rintro e w6 ⟨rfl, hb⟩
         have HH_8 : Hid (HAt (w6) (w1.heap.size) 0 ⟨who, has, kept, last⟩) := hat_below HH_7.out (hb)
         have HY_8 : Hid (HAt (w6) (w2.heap.size) 0 ⟨who, nh, nh, (L.length : Int)⟩) := hat_below HY_7.out (hb)
         have HL_8 : Hid (LiesT (w6) g L) := HL_7.out.below (hb)
         have HLX_8 : Hid (LiesT (w6) gx M) := HLX_7.out.below (hb)
         have HB_8 : Hid (Below w.heap.size w (w6)) := HB_7.out.trans ((hb).mono HB_7.out.size)
         clear HL_7 HLX_7 HB_7 HH_7 HY_7
         go_wp2_with fail
         refine (HO3.out _ gx cx hcx HLX_8.out).mono ?_
         rintro e w7 ⟨rfl, hb⟩
         have HH_9 : Hid (HAt (w7) (w1.heap.size) 0 ⟨who, has, kept, last⟩) := hat_below HH_8.out (hb)
         have HY_9 : Hid (HAt (w7) (w2.heap.size) 0 ⟨who, nh, nh, (L.length : Int)⟩) := hat_below HY_8.out (hb)
         have HL_9 : Hid (LiesT (w7) g L) := HL_8.out.below (hb)
         have HLX_9 : Hid (LiesT (w7) gx M) := HLX_8.out.below (hb)
         have HB_9 : Hid (Below w.heap.size w (w7)) := HB_8.out.trans ((hb).mono HB_8.out.size)
         clear HL_8 HLX_8 HB_8 HH_8 HY_8
         obtain ⟨c5a, c5b, c5c, c5d⟩ := cellsH HY_9.out
         dsimp only at c5a c5b c5c c5d
         go_wp2_with fail
         refine (TS.out _ gx cx hcx HLX_9.out).mono ?_
         rintro e w8 ⟨gz, cz, rfl, hcz, hlz, hb⟩
         have HH_10 : Hid (HAt (w8) (w1.heap.size) 0 ⟨who, has, kept, last⟩) := hat_below HH_9.out (hb)
         have HY_10 : Hid (HAt (w8) (w2.heap.size) 0 ⟨who, nh, nh, (L.length : Int)⟩) := hat_below HY_9.out (hb)
         have HL_10 : Hid (LiesT (w8) g L) := HL_9.out.below (hb)
         have HLX_10 : Hid (LiesT (w8) gx M) := HLX_9.out.below (hb)
         have HB_10 : Hid (Below w.heap.size w (w8)) := HB_9.out.trans ((hb).mono HB_9.out.size)
         clear HL_9 HLX_9 HB_9 HH_9 HY_9
         clear hlz hcz
         have HH_11 : Hid (HAt (w8.alloc (.cells #[.int .i64 za, .int .i64 zb, .int .i64 zc, .int .i64 zd] 26)) (w1.heap.size) 0 ⟨who, has, kept, last⟩) := hat_below HH_10.out ((Below.refl _ w8).alloc (Nat.le_refl _) _)
         have HY_11 : Hid (HAt (w8.alloc (.cells #[.int .i64 za, .int .i64 zb, .int .i64 zc, .int .i64 zd] 26)) (w2.heap.size) 0 ⟨who, nh, nh, (L.length : Int)⟩) := hat_below HY_10.out ((Below.refl _ w8).alloc (Nat.le_refl _) _)
         have HL_11 : Hid (LiesT (w8.alloc (.cells #[.int .i64 za, .int .i64 zb, .int .i64 zc, .int .i64 zd] 26)) g L) := HL_10.out.below ((Below.refl _ w8).alloc (Nat.le_refl _) _)
         have HLX_11 : Hid (LiesT (w8.alloc (.cells #[.int .i64 za, .int .i64 zb, .int .i64 zc, .int .i64 zd] 26)) gx M) := HLX_10.out.below ((Below.refl _ w8).alloc (Nat.le_refl _) _)
         have HB_11 : Hid (Below w.heap.size w (w8.alloc (.cells #[.int .i64 za, .int .i64 zb, .int .i64 zc, .int .i64 zd] 26))) := HB_10.out.trans (((Below.refl _ w8).alloc (Nat.le_refl _) _).mono HB_10.out.size)
         have HV_11 : Hid (HAt (w8.alloc (.cells #[.int .i64 za, .int .i64 zb, .int .i64 zc, .int .i64 zd] 26)) (w8.heap.size) 0 ⟨za, zb, zc, zd⟩) := hat_new w8 ⟨za, zb, zc, zd⟩ _
         clear HL_10 HLX_10 HB_10 HH_10 HY_10
         have HE : Hid (Below w.heap.size w ((w8.alloc (.cells #[.int .i64 za, .int .i64 zb, .int .i64 zc, .int .i64 zd] 26)))) := HB_11.out
         obtain ⟨X1, _, F1, HFz1, HG1⟩ := Fam.fam ((w8.alloc (.cells #[.int .i64 za, .int .i64 zb, .int .i64 zc, .int .i64 zd] 26)))
         have y00 : ∀ z, (F1 z).cell? ⟨w2.heap.size, 0, none⟩ = some (.int .i64 who) := fun z => (cellsH (hat_below HY_11.out (HFz1.out z))).1
         have y01 : ∀ z, (F1 z).cell? ⟨w2.heap.size, 1, none⟩ = some (.int .i64 nh) := fun z => (cellsH (hat_below HY_11.out (HFz1.out z))).2.1
         have y02 : ∀ z, (F1 z).cell? ⟨w2.heap.size, 2, none⟩ = some (.int .i64 nh) := fun z => (cellsH (hat_below HY_11.out (HFz1.out z))).2.2.1
         have y03 : ∀ z, (F1 z).cell? ⟨w2.heap.size, 3, none⟩ = some (.int .i64 (L.length : Int)) := fun z => (cellsH (hat_below HY_11.out (HFz1.out z))).2.2.2
         have y10 : ∀ z, (F1 z).cell? ⟨w8.heap.size, 0, none⟩ = some (.int .i64 za) := fun z => (cellsH (hat_below HV_11.out (HFz1.out z))).1
         have y11 : ∀ z, (F1 z).cell? ⟨w8.heap.size, 1, none⟩ = some (.int .i64 zb) := fun z => (cellsH (hat_below HV_11.out (HFz1.out z))).2.1
         have y12 : ∀ z, (F1 z).cell? ⟨w8.heap.size, 2, none⟩ = some (.int .i64 zc) := fun z => (cellsH (hat_below HV_11.out (HFz1.out z))).2.2.1
         have y13 : ∀ z, (F1 z).cell? ⟨w8.heap.size, 3, none⟩ = some (.int .i64 zd) := fun z => (cellsH (hat_below HV_11.out (HFz1.out z))).2.2.2
         have HLz : Hid (∀ z, LiesT (F1 z) g L) := fun z => HL_11.out.below (HFz1.out z)
         have HLXz : Hid (∀ z, LiesT (F1 z) gx M) := fun z => HLX_11.out.below (HFz1.out z)
         go_wp2_with fail
         refine Fam.region (F := F1) (by kernel_rfl) (by kernel_rfl) (HG1.out _ (Below.refl _ _).drew) ?_
         repeat (go_big_quiet_step (first
           | fail))
         refine wpQuiet_nil ?_
         intro wz hwz
         obtain ⟨z1, rfl⟩ := hwz
         have HE2 : Hid (Below w.heap.size w (F1 z1)) := HE.out.trans ((HFz1.out z1).mono HE.out.size)
         go_wp2
         go_ret
         exact ⟨rfl, HE2.out⟩
     · obtain ⟨_, hq⟩ := next_none hli (by omega)
       rw [hrl] at hq
       rw [decide_eq_false hr2, Bool.false_and] at hwhen
       rw [next_neg hr2] at NR
       have TS := TS0
       rw [hwhen] at TS
       generalize tiesL M (tiedH L h) ⟨#[]⟩ = ZZ at TS
       generalize tiesH M (tiedH L h) ⟨#[]⟩ = zh at TS
       have AR : Hid (∀ (W : World) (gx cx : Nat), L.length + 1 ≤ cx → LiesT W gx M → _) := fun W gx cx hcx hW => AR0.out W gx cx (tieK L h wd).round hcx hW
       have HO3 : Hid (∀ (W : World) (gx cx : Nat), L.length + 1 ≤ cx → LiesT W gx M → _) := fun W gx cx hcx hW => HO0.out W gx cx (tieK L h wd).round hcx hW
       clear TS0 AR0 HO0 hwhen hM hrl hr2 hli hlen
       generalize roundS M (tiedH L h).has (tieK L h wd).round = rs at AR HO3 hq
       generalize handsN M rs = n3 at HO3 hq
       generalize tieK L h wd = tk at HTC hrd0 hq AR hhand
       obtain ⟨who, has, kept, last⟩ := h
       obtain ⟨th, tr, tf, tw⟩ := tk
       obtain ⟨za, zb, zc, zd⟩ := zh
       dsimp only at SX HX HTC NR TS AR hq hrd0
       generalize orB has (2 ^ L.length) = nh at SX HX NR TS AR
       have HL_1 : Hid (LiesT (w1.alloc (.cells #[.int .i64 who, .int .i64 has, .int .i64 kept, .int .i64 last] 26)) g L) := HL_0.out.below ((Below.refl _ w1).alloc (Nat.le_refl _) _)
       have HB_1 : Hid (Below w.heap.size w (w1.alloc (.cells #[.int .i64 who, .int .i64 has, .int .i64 kept, .int .i64 last] 26))) := HB_0.out.trans (((Below.refl _ w1).alloc (Nat.le_refl _) _).mono HB_0.out.size)
       have HH_1 : Hid (HAt (w1.alloc (.cells #[.int .i64 who, .int .i64 has, .int .i64 kept, .int .i64 last] 26)) (w1.heap.size) 0 ⟨who, has, kept, last⟩) := hat_new w1 ⟨who, has, kept, last⟩ _
       clear HL_0 HB_0 
       go_wp2_with fail
       refine (HX.out _ HL_1.out).mono ?_
       rintro e w2 ⟨gx, cx, rfl, hcx, hlx, hb⟩
       have HH_2 : Hid (HAt (w2) (w1.heap.size) 0 ⟨who, has, kept, last⟩) := hat_below HH_1.out (hb)
       have HL_2 : Hid (LiesT (w2) g L) := HL_1.out.below (hb)
       have HB_2 : Hid (Below w.heap.size w (w2)) := HB_1.out.trans ((hb).mono HB_1.out.size)
       clear HL_1 HB_1 HH_1
       have HLX_2 : Hid (LiesT (w2) gx M) := hlx
       clear hlx
       have HH_3 : Hid (HAt (w2.alloc (.cells #[.int .i64 who, .int .i64 nh, .int .i64 nh, .int .i64 (L.length : Int)] 26)) (w1.heap.size) 0 ⟨who, has, kept, last⟩) := hat_below HH_2.out ((Below.refl _ w2).alloc (Nat.le_refl _) _)
       have HL_3 : Hid (LiesT (w2.alloc (.cells #[.int .i64 who, .int .i64 nh, .int .i64 nh, .int .i64 (L.length : Int)] 26)) g L) := HL_2.out.below ((Below.refl _ w2).alloc (Nat.le_refl _) _)
       have HLX_3 : Hid (LiesT (w2.alloc (.cells #[.int .i64 who, .int .i64 nh, .int .i64 nh, .int .i64 (L.length : Int)] 26)) gx M) := HLX_2.out.below ((Below.refl _ w2).alloc (Nat.le_refl _) _)
       have HB_3 : Hid (Below w.heap.size w (w2.alloc (.cells #[.int .i64 who, .int .i64 nh, .int .i64 nh, .int .i64 (L.length : Int)] 26))) := HB_2.out.trans (((Below.refl _ w2).alloc (Nat.le_refl _) _).mono HB_2.out.size)
       have HY_3 : Hid (HAt (w2.alloc (.cells #[.int .i64 who, .int .i64 nh, .int .i64 nh, .int .i64 (L.length : Int)] 26)) (w2.heap.size) 0 ⟨who, nh, nh, (L.length : Int)⟩) := hat_new w2 ⟨who, nh, nh, (L.length : Int)⟩ _
       clear HL_2 HLX_2 HB_2 HH_2
       obtain ⟨c1a, c1b, c1c, c1d⟩ := cellsH HH_3.out
       dsimp only at c1a c1b c1c c1d
       go_wp2_with fail
       refine (SX.out _ HL_3.out).mono ?_
       rintro e w3 ⟨ga, ca, rfl, hca, hla, hb⟩
       have HH_4 : Hid (HAt (w3) (w1.heap.size) 0 ⟨who, has, kept, last⟩) := hat_below HH_3.out (hb)
       have HY_4 : Hid (HAt (w3) (w2.heap.size) 0 ⟨who, nh, nh, (L.length : Int)⟩) := hat_below HY_3.out (hb)
       have HL_4 : Hid (LiesT (w3) g L) := HL_3.out.below (hb)
       have HLX_4 : Hid (LiesT (w3) gx M) := HLX_3.out.below (hb)
       have HB_4 : Hid (Below w.heap.size w (w3)) := HB_3.out.trans ((hb).mono HB_3.out.size)
       clear HL_3 HLX_3 HB_3 HH_3 HY_3
       have HLA_4 : Hid (LiesT (w3) ga M) := hla
       clear hla
       have HH_5 : Hid (HAt (w3.alloc (.cells #[.int .i64 who, .int .i64 nh, .int .i64 nh, .int .i64 (L.length : Int)] 26)) (w1.heap.size) 0 ⟨who, has, kept, last⟩) := hat_below HH_4.out ((Below.refl _ w3).alloc (Nat.le_refl _) _)
       have HY_5 : Hid (HAt (w3.alloc (.cells #[.int .i64 who, .int .i64 nh, .int .i64 nh, .int .i64 (L.length : Int)] 26)) (w2.heap.size) 0 ⟨who, nh, nh, (L.length : Int)⟩) := hat_below HY_4.out ((Below.refl _ w3).alloc (Nat.le_refl _) _)
       have HL_5 : Hid (LiesT (w3.alloc (.cells #[.int .i64 who, .int .i64 nh, .int .i64 nh, .int .i64 (L.length : Int)] 26)) g L) := HL_4.out.below ((Below.refl _ w3).alloc (Nat.le_refl _) _)
       have HLX_5 : Hid (LiesT (w3.alloc (.cells #[.int .i64 who, .int .i64 nh, .int .i64 nh, .int .i64 (L.length : Int)] 26)) gx M) := HLX_4.out.below ((Below.refl _ w3).alloc (Nat.le_refl _) _)
       have HLA_5 : Hid (LiesT (w3.alloc (.cells #[.int .i64 who, .int .i64 nh, .int .i64 nh, .int .i64 (L.length : Int)] 26)) ga M) := HLA_4.out.below ((Below.refl _ w3).alloc (Nat.le_refl _) _)
       have HB_5 : Hid (Below w.heap.size w (w3.alloc (.cells #[.int .i64 who, .int .i64 nh, .int .i64 nh, .int .i64 (L.length : Int)] 26))) := HB_4.out.trans (((Below.refl _ w3).alloc (Nat.le_refl _) _).mono HB_4.out.size)
       have HBB_5 : Hid (HAt (w3.alloc (.cells #[.int .i64 who, .int .i64 nh, .int .i64 nh, .int .i64 (L.length : Int)] 26)) (w3.heap.size) 0 ⟨who, nh, nh, (L.length : Int)⟩) := hat_new w3 ⟨who, nh, nh, (L.length : Int)⟩ _
       clear HL_4 HLX_4 HLA_4 HB_4 HH_4 HY_4
       have ex := hand_ne who nh nh (L.length : Int)
       go_wp2_with fail
       refine (LK.out _ gx ga cx ca HLX_5.out HLA_5.out).mono ?_
       rintro e w4 ⟨rfl, hb⟩
       have HH_6 : Hid (HAt (w4) (w1.heap.size) 0 ⟨who, has, kept, last⟩) := hat_below HH_5.out (hb)
       have HY_6 : Hid (HAt (w4) (w2.heap.size) 0 ⟨who, nh, nh, (L.length : Int)⟩) := hat_below HY_5.out (hb)
       have HBB_6 : Hid (HAt (w4) (w3.heap.size) 0 ⟨who, nh, nh, (L.length : Int)⟩) := hat_below HBB_5.out (hb)
       have HL_6 : Hid (LiesT (w4) g L) := HL_5.out.below (hb)
       have HLX_6 : Hid (LiesT (w4) gx M) := HLX_5.out.below (hb)
       have HLA_6 : Hid (LiesT (w4) ga M) := HLA_5.out.below (hb)
       have HB_6 : Hid (Below w.heap.size w (w4)) := HB_5.out.trans ((hb).mono HB_5.out.size)
       clear HL_5 HLX_5 HLA_5 HB_5 HH_5 HY_5 HBB_5
       obtain ⟨c2a, c2b, c2c, c2d⟩ := cellsH HY_6.out
       dsimp only at c2a c2b c2c c2d
       obtain ⟨c3a, c3b, c3c, c3d⟩ := cellsH HBB_6.out
       dsimp only at c3a c3b c3c c3d
       have e1 := HTC.out _ gx HLX_6.out
       go_wp2_with fail
       refine (NR.out _ gx cx hcx HLX_6.out).mono ?_
       rintro e w5 ⟨rfl, hb⟩
       have HH_7 : Hid (HAt (w5) (w1.heap.size) 0 ⟨who, has, kept, last⟩) := hat_below HH_6.out (hb)
       have HY_7 : Hid (HAt (w5) (w2.heap.size) 0 ⟨who, nh, nh, (L.length : Int)⟩) := hat_below HY_6.out (hb)
       have HBB_7 : Hid (HAt (w5) (w3.heap.size) 0 ⟨who, nh, nh, (L.length : Int)⟩) := hat_below HBB_6.out (hb)
       have HL_7 : Hid (LiesT (w5) g L) := HL_6.out.below (hb)
       have HLX_7 : Hid (LiesT (w5) gx M) := HLX_6.out.below (hb)
       have HLA_7 : Hid (LiesT (w5) ga M) := HLA_6.out.below (hb)
       have HB_7 : Hid (Below w.heap.size w (w5)) := HB_6.out.trans ((hb).mono HB_6.out.size)
       clear HL_6 HLX_6 HLA_6 HB_6 HH_6 HY_6 HBB_6
       clear ex HLA_7 HBB_7
       by_cases h19 : tr < 19
       · have hq3 := hq h19
         obtain ⟨c4a, c4b, c4c, c4d⟩ := cellsH HY_7.out
         dsimp only at c4a c4b c4c c4d
         go_wp2_with fail
         refine (AR.out _ gx cx hcx HLX_7.out).mono ?_
         rintro e w6 ⟨rfl, hb⟩
         have HH_8 : Hid (HAt (w6) (w1.heap.size) 0 ⟨who, has, kept, last⟩) := hat_below HH_7.out (hb)
         have HY_8 : Hid (HAt (w6) (w2.heap.size) 0 ⟨who, nh, nh, (L.length : Int)⟩) := hat_below HY_7.out (hb)
         have HL_8 : Hid (LiesT (w6) g L) := HL_7.out.below (hb)
         have HLX_8 : Hid (LiesT (w6) gx M) := HLX_7.out.below (hb)
         have HB_8 : Hid (Below w.heap.size w (w6)) := HB_7.out.trans ((hb).mono HB_7.out.size)
         clear HL_7 HLX_7 HB_7 HH_7 HY_7
         go_wp2_with fail
         refine (HO3.out _ gx cx hcx HLX_8.out).mono ?_
         rintro e w7 ⟨rfl, hb⟩
         have HH_9 : Hid (HAt (w7) (w1.heap.size) 0 ⟨who, has, kept, last⟩) := hat_below HH_8.out (hb)
         have HY_9 : Hid (HAt (w7) (w2.heap.size) 0 ⟨who, nh, nh, (L.length : Int)⟩) := hat_below HY_8.out (hb)
         have HL_9 : Hid (LiesT (w7) g L) := HL_8.out.below (hb)
         have HLX_9 : Hid (LiesT (w7) gx M) := HLX_8.out.below (hb)
         have HB_9 : Hid (Below w.heap.size w (w7)) := HB_8.out.trans ((hb).mono HB_8.out.size)
         clear HL_8 HLX_8 HB_8 HH_8 HY_8
         obtain ⟨c5a, c5b, c5c, c5d⟩ := cellsH HY_9.out
         dsimp only at c5a c5b c5c c5d
         go_wp2_with fail
         refine (TS.out _ gx cx hcx HLX_9.out).mono ?_
         rintro e w8 ⟨gz, cz, rfl, hcz, hlz, hb⟩
         have HH_10 : Hid (HAt (w8) (w1.heap.size) 0 ⟨who, has, kept, last⟩) := hat_below HH_9.out (hb)
         have HY_10 : Hid (HAt (w8) (w2.heap.size) 0 ⟨who, nh, nh, (L.length : Int)⟩) := hat_below HY_9.out (hb)
         have HL_10 : Hid (LiesT (w8) g L) := HL_9.out.below (hb)
         have HLX_10 : Hid (LiesT (w8) gx M) := HLX_9.out.below (hb)
         have HB_10 : Hid (Below w.heap.size w (w8)) := HB_9.out.trans ((hb).mono HB_9.out.size)
         clear HL_9 HLX_9 HB_9 HH_9 HY_9
         clear hlz hcz
         have HH_11 : Hid (HAt (w8.alloc (.cells #[.int .i64 za, .int .i64 zb, .int .i64 zc, .int .i64 zd] 26)) (w1.heap.size) 0 ⟨who, has, kept, last⟩) := hat_below HH_10.out ((Below.refl _ w8).alloc (Nat.le_refl _) _)
         have HY_11 : Hid (HAt (w8.alloc (.cells #[.int .i64 za, .int .i64 zb, .int .i64 zc, .int .i64 zd] 26)) (w2.heap.size) 0 ⟨who, nh, nh, (L.length : Int)⟩) := hat_below HY_10.out ((Below.refl _ w8).alloc (Nat.le_refl _) _)
         have HL_11 : Hid (LiesT (w8.alloc (.cells #[.int .i64 za, .int .i64 zb, .int .i64 zc, .int .i64 zd] 26)) g L) := HL_10.out.below ((Below.refl _ w8).alloc (Nat.le_refl _) _)
         have HLX_11 : Hid (LiesT (w8.alloc (.cells #[.int .i64 za, .int .i64 zb, .int .i64 zc, .int .i64 zd] 26)) gx M) := HLX_10.out.below ((Below.refl _ w8).alloc (Nat.le_refl _) _)
         have HB_11 : Hid (Below w.heap.size w (w8.alloc (.cells #[.int .i64 za, .int .i64 zb, .int .i64 zc, .int .i64 zd] 26))) := HB_10.out.trans (((Below.refl _ w8).alloc (Nat.le_refl _) _).mono HB_10.out.size)
         have HV_11 : Hid (HAt (w8.alloc (.cells #[.int .i64 za, .int .i64 zb, .int .i64 zc, .int .i64 zd] 26)) (w8.heap.size) 0 ⟨za, zb, zc, zd⟩) := hat_new w8 ⟨za, zb, zc, zd⟩ _
         clear HL_10 HLX_10 HB_10 HH_10 HY_10
         have HE : Hid (Below w.heap.size w ((w8.alloc (.cells #[.int .i64 za, .int .i64 zb, .int .i64 zc, .int .i64 zd] 26)))) := HB_11.out
         obtain ⟨X1, _, F1, HFz1, HG1⟩ := Fam.fam ((w8.alloc (.cells #[.int .i64 za, .int .i64 zb, .int .i64 zc, .int .i64 zd] 26)))
         have y00 : ∀ z, (F1 z).cell? ⟨w2.heap.size, 0, none⟩ = some (.int .i64 who) := fun z => (cellsH (hat_below HY_11.out (HFz1.out z))).1
         have y01 : ∀ z, (F1 z).cell? ⟨w2.heap.size, 1, none⟩ = some (.int .i64 nh) := fun z => (cellsH (hat_below HY_11.out (HFz1.out z))).2.1
         have y02 : ∀ z, (F1 z).cell? ⟨w2.heap.size, 2, none⟩ = some (.int .i64 nh) := fun z => (cellsH (hat_below HY_11.out (HFz1.out z))).2.2.1
         have y03 : ∀ z, (F1 z).cell? ⟨w2.heap.size, 3, none⟩ = some (.int .i64 (L.length : Int)) := fun z => (cellsH (hat_below HY_11.out (HFz1.out z))).2.2.2
         have y10 : ∀ z, (F1 z).cell? ⟨w8.heap.size, 0, none⟩ = some (.int .i64 za) := fun z => (cellsH (hat_below HV_11.out (HFz1.out z))).1
         have y11 : ∀ z, (F1 z).cell? ⟨w8.heap.size, 1, none⟩ = some (.int .i64 zb) := fun z => (cellsH (hat_below HV_11.out (HFz1.out z))).2.1
         have y12 : ∀ z, (F1 z).cell? ⟨w8.heap.size, 2, none⟩ = some (.int .i64 zc) := fun z => (cellsH (hat_below HV_11.out (HFz1.out z))).2.2.1
         have y13 : ∀ z, (F1 z).cell? ⟨w8.heap.size, 3, none⟩ = some (.int .i64 zd) := fun z => (cellsH (hat_below HV_11.out (HFz1.out z))).2.2.2
         have HLz : Hid (∀ z, LiesT (F1 z) g L) := fun z => HL_11.out.below (HFz1.out z)
         have HLXz : Hid (∀ z, LiesT (F1 z) gx M) := fun z => HLX_11.out.below (HFz1.out z)
         go_wp2_with fail
         refine Fam.region (F := F1) (by kernel_rfl) (by kernel_rfl) (HG1.out _ (Below.refl _ _).drew) ?_
         repeat (go_big_quiet_step (first
           | fail))
         refine wpQuiet_nil ?_
         intro wz hwz
         obtain ⟨z1, rfl⟩ := hwz
         have HE2 : Hid (Below w.heap.size w (F1 z1)) := HE.out.trans ((HFz1.out z1).mono HE.out.size)
         go_wp2
         go_ret
         exact ⟨rfl, HE2.out⟩
       · obtain ⟨c4a, c4b, c4c, c4d⟩ := cellsH HY_7.out
         dsimp only at c4a c4b c4c c4d
         go_wp2_with fail
         refine (TS.out _ gx cx hcx HLX_7.out).mono ?_
         rintro e w6 ⟨gz, cz, rfl, hcz, hlz, hb⟩
         have HH_8 : Hid (HAt (w6) (w1.heap.size) 0 ⟨who, has, kept, last⟩) := hat_below HH_7.out (hb)
         have HY_8 : Hid (HAt (w6) (w2.heap.size) 0 ⟨who, nh, nh, (L.length : Int)⟩) := hat_below HY_7.out (hb)
         have HL_8 : Hid (LiesT (w6) g L) := HL_7.out.below (hb)
         have HLX_8 : Hid (LiesT (w6) gx M) := HLX_7.out.below (hb)
         have HB_8 : Hid (Below w.heap.size w (w6)) := HB_7.out.trans ((hb).mono HB_7.out.size)
         clear HL_7 HLX_7 HB_7 HH_7 HY_7
         clear hlz hcz
         have HH_9 : Hid (HAt (w6.alloc (.cells #[.int .i64 za, .int .i64 zb, .int .i64 zc, .int .i64 zd] 26)) (w1.heap.size) 0 ⟨who, has, kept, last⟩) := hat_below HH_8.out ((Below.refl _ w6).alloc (Nat.le_refl _) _)
         have HY_9 : Hid (HAt (w6.alloc (.cells #[.int .i64 za, .int .i64 zb, .int .i64 zc, .int .i64 zd] 26)) (w2.heap.size) 0 ⟨who, nh, nh, (L.length : Int)⟩) := hat_below HY_8.out ((Below.refl _ w6).alloc (Nat.le_refl _) _)
         have HL_9 : Hid (LiesT (w6.alloc (.cells #[.int .i64 za, .int .i64 zb, .int .i64 zc, .int .i64 zd] 26)) g L) := HL_8.out.below ((Below.refl _ w6).alloc (Nat.le_refl _) _)
         have HLX_9 : Hid (LiesT (w6.alloc (.cells #[.int .i64 za, .int .i64 zb, .int .i64 zc, .int .i64 zd] 26)) gx M) := HLX_8.out.below ((Below.refl _ w6).alloc (Nat.le_refl _) _)
         have HB_9 : Hid (Below w.heap.size w (w6.alloc (.cells #[.int .i64 za, .int .i64 zb, .int .i64 zc, .int .i64 zd] 26))) := HB_8.out.trans (((Below.refl _ w6).alloc (Nat.le_refl _) _).mono HB_8.out.size)
         have HV_9 : Hid (HAt (w6.alloc (.cells #[.int .i64 za, .int .i64 zb, .int .i64 zc, .int .i64 zd] 26)) (w6.heap.size) 0 ⟨za, zb, zc, zd⟩) := hat_new w6 ⟨za, zb, zc, zd⟩ _
         clear HL_8 HLX_8 HB_8 HH_8 HY_8
         have HE : Hid (Below w.heap.size w ((w6.alloc (.cells #[.int .i64 za, .int .i64 zb, .int .i64 zc, .int .i64 zd] 26)))) := HB_9.out
         obtain ⟨X1, _, F1, HFz1, HG1⟩ := Fam.fam ((w6.alloc (.cells #[.int .i64 za, .int .i64 zb, .int .i64 zc, .int .i64 zd] 26)))
         have y00 : ∀ z, (F1 z).cell? ⟨w2.heap.size, 0, none⟩ = some (.int .i64 who) := fun z => (cellsH (hat_below HY_9.out (HFz1.out z))).1
         have y01 : ∀ z, (F1 z).cell? ⟨w2.heap.size, 1, none⟩ = some (.int .i64 nh) := fun z => (cellsH (hat_below HY_9.out (HFz1.out z))).2.1
         have y02 : ∀ z, (F1 z).cell? ⟨w2.heap.size, 2, none⟩ = some (.int .i64 nh) := fun z => (cellsH (hat_below HY_9.out (HFz1.out z))).2.2.1
         have y03 : ∀ z, (F1 z).cell? ⟨w2.heap.size, 3, none⟩ = some (.int .i64 (L.length : Int)) := fun z => (cellsH (hat_below HY_9.out (HFz1.out z))).2.2.2
         have y10 : ∀ z, (F1 z).cell? ⟨w6.heap.size, 0, none⟩ = some (.int .i64 za) := fun z => (cellsH (hat_below HV_9.out (HFz1.out z))).1
         have y11 : ∀ z, (F1 z).cell? ⟨w6.heap.size, 1, none⟩ = some (.int .i64 zb) := fun z => (cellsH (hat_below HV_9.out (HFz1.out z))).2.1
         have y12 : ∀ z, (F1 z).cell? ⟨w6.heap.size, 2, none⟩ = some (.int .i64 zc) := fun z => (cellsH (hat_below HV_9.out (HFz1.out z))).2.2.1
         have y13 : ∀ z, (F1 z).cell? ⟨w6.heap.size, 3, none⟩ = some (.int .i64 zd) := fun z => (cellsH (hat_below HV_9.out (HFz1.out z))).2.2.2
         have HLz : Hid (∀ z, LiesT (F1 z) g L) := fun z => HL_9.out.below (HFz1.out z)
         have HLXz : Hid (∀ z, LiesT (F1 z) gx M) := fun z => HLX_9.out.below (HFz1.out z)
         go_wp2_with fail
         refine Fam.region (F := F1) (by kernel_rfl) (by kernel_rfl) (HG1.out _ (Below.refl _ _).drew) ?_
         repeat (go_big_quiet_step (first
           | fail))
         refine wpQuiet_nil ?_
         intro wz hwz
         obtain ⟨z1, rfl⟩ := hwz
         have HE2 : Hid (Below w.heap.size w (F1 z1)) := HE.out.trans ((HFz1.out z1).mono HE.out.size)
         go_wp2
         go_ret
         exact ⟨rfl, HE2.out⟩
end Rm
end Go.Proofs.YtfjmenhofllchaaGreatDoor
