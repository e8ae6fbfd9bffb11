/-
 What the model's drawing for chains hands back, where the drawing of a room keeps its word.
-/
import Derived.Test.YtflhaiakhfmmmaaGreatOZa
import Derived.Test.YtflhaiakhfmmmaaGreatORoomXm
namespace Go.Proofs.YtflhaiakhfmmmaaGreat
open Go.RowKit
set_option maxRecDepth 100000
namespace Fm
open Kn (K okK)
open Bit (bit withB)
open Lc (at' RdK WordsOk laceB setB handsN roundS)
open Sg (isB bel belows closedB NumsPost)
open Db (RowI)
open Sl (sealS sealN)
open Ch (leadK firmN sealAt)
open Rm (coinsB)
open Tl (firmL)
theorem row_below {base : Nat} {e : TypeId} {size : Nat} {w w' : World} {v : Value} {n : Nat} {xs : List Value} (h : w.ownsRow base e size v n xs) (hb : Below w.heap.size w w') : w'.ownsRow base e size v n xs := by
 have hlt := World.ownsRow.lt h
 obtain ⟨h1, h2⟩ := h
 refine ⟨h1, ?_⟩
 rcases h2 with h2 | ⟨g, cap, cur, rfl, hB, hg, rest⟩
 · exact .inl h2
 · exact .inr ⟨g, cap, cur, rfl, hB, (hb.block g (hlt g rfl).2).trans hg, rest⟩
def firmI (L : List K) (C : List Int) (s : Int) : List Int := if closedB L s && coinsB C then firmL L C s L.length else []
theorem firmL_len (L : List K) (C : List Int) (s : Int) (n : Nat) : (firmL L C s n).length ≤ n := by
 induction n with
 | zero => exact Nat.le_refl 0
 | succ n ih =>
   show (if firmN L C s n then firmL L C s n ++ [(n : Int)] else firmL L C s n).length ≤ n + 1
   split
   · simp; omega
   · omega
theorem firmL_step (L : List K) (C : List Int) (s : Int) (n : Nat) : firmL L C s (n + 1) = if firmN L C s n then firmL L C s n ++ [(n : Int)] else firmL L C s n := rfl
set_option maxHeartbeats 6400000 in
theorem l9Firm (g off cap : Nat) (L : List K) (ao : Option Addr) (cc : Nat) (C : List Int) (h : Nat) (O : Nat → Int) (s : Int) (w : World) (hl : laceB L = true) (hr : RdK w (some ⟨g, off, none⟩) L) (hg : g < w.heap.size) (hrd : Lst.Rd w ao C) (hao : ∀ c, ao = some ⟨c, 0, none⟩ → c < w.heap.size) (hrow : RowI w h L.length O) (hO : ∀ i, i < L.length → O i = sealS L i L.length) (h0 : 0 ≤ s) (h1 : s < 1152921504606846976) :
   Calls Tryz.prog 86 #[.slice (some ⟨g, off, none⟩) L.length cap, .slice ao C.length cc, .slice (some ⟨h, 0, none⟩) L.length L.length, .int .i64 s] w (NumsPost (firmL L C s L.length) w) := by
 obtain ⟨i0, hi, hz0, hz1, hz2⟩ := info_parts Memb.info2
 have hL := ((Lc.lace_iff L).1 hl).1
 have HLC : Hid (laceB L = true) := hl
 have HRD : Hid (∀ W : World, Below w.heap.size w W → Lst.Rd W ao C ∧ ∀ c, ao = some ⟨c, 0, none⟩ → c < W.heap.size) := fun W hW => ⟨Ch.rd_below hrd hao hW, fun c e => Nat.lt_of_lt_of_le (hao c e) hW.size⟩
 have HROW : Hid (∀ i, i < L.length → h < w.heap.size ∧ w.cell? ⟨h, i, none⟩ = some (.int .i64 (sealS L i L.length))) := fun i hi => ⟨hrow.lt, by rw [← hO i hi]; exact hrow.rd i hi⟩
 have HH : Hid (Lc.HandsOk L) := Lc.lace_hands hl
 have HR : Hid (RdK w (some ⟨g, off, none⟩) L) := hr
 clear hl hrd hao hrow hO hr
 go_enter Tryz.func86, Tryz.ntmps86
 go_wp2
 go_loopw [9, 10] (fun v i wr => ∃ k : Nat, k ≤ L.length ∧ i = .int .i64 k ∧ Hid (wr.ownsRow w.heap.size 2 1 v (firmL L C s k).length ((firmL L C s k).map (Value.int .i64))) ∧ Hid (Below w.heap.size w wr)) (fun _ i _ => L.length - (intOf i).toNat)
 case atStart => exact ⟨0, by omega, rfl, Memb.own_empty w, (Below.refl _ _).alloc (Nat.le_refl _) _⟩
 case round =>
   obtain ⟨k, hk, rfl, HOW, HB⟩ := hrel
   by_cases hlt : k < L.length
   · have hki : (k : Int) < (L.length : Int) := by omega
     have hcall : ∀ W : World, Calls Tryz.prog 48 #[.int .i64 s, .int .i64 (k : Int)] W fun e w' => e = .returned (.bool (bit s k)) ∧ W = w' := fun W => (Db.has_call s k (bit s k) h0 h1 (by omega) rfl W).mono fun _ _ q => ⟨q.1, q.2.symm⟩
     have HST : Hid (firmL L C s (k + 1) = if firmN L C s k then firmL L C s k ++ [(k : Int)] else firmL L C s k) := firmL_step L C s k
     have HFN : Hid (firmN L C s k = (bit s k && (leadK C (at' L k) && decide (3 ≤ handsN L (roundS L (sealAt L s k) ((at' L k).round + 2)))))) := rfl
     have hfl := firmL_len L C s k
     cases hb : bit s k
     · have HD : Hid (firmL L C s (k + 1) = firmL L C s k) := by show _ = _; rw [HST.out, HFN.out, hb]; rfl
       rw [hb] at hcall
       clear hb HST HFN
       go_wp2_with (go_at_call 48; refine (hcall _).mono ?_; rintro e w' ⟨rfl, rfl⟩)
       go_roundw
       case rel => exact ⟨k + 1, by omega, by go_num, by show World.ownsRow _ _ _ _ _ _ _; rw [HD.out]; exact HOW.out, HB⟩
       case measure => simp [intOf]; omega
     · rw [hb] at hcall
       obtain ⟨_, c0, c1, c2, c3⟩ := (HR.out.below HB.out).on k hlt
       have hrb := Lc.ok_round (Lc.can_ok (Lc.lace_upTo HLC.out k hlt))
       have hld := Ch.l8Leads ao cc C (at' L k) wr hrb.1 (by omega) (HRD.out wr HB.out).1 (HRD.out wr HB.out).2
       cases hlk : leadK C (at' L k)
       · have HD : Hid (firmL L C s (k + 1) = firmL L C s k) := by show _ = _; rw [HST.out, HFN.out, hlk]; simp
         rw [hlk] at hld
         clear hb HST HFN hlk
         generalize at' L k = kk at c0 c1 c2 c3 hld
         go_wp2_with (first | (go_at_call 48; refine (hcall _).mono ?_; rintro e w' ⟨rfl, rfl⟩) | fail)
         refine hld.mono ?_
         rintro e w1 ⟨rfl, hb1⟩
         have HO1 : Hid (w1.ownsRow w.heap.size 2 1 u9 (firmL L C s k).length ((firmL L C s k).map (Value.int .i64))) := row_below HOW.out hb1
         have HB1 : Hid (Below w.heap.size w w1) := HB.out.trans (hb1.mono HB.out.size)
         clear hld hb1 c0 c1 c2 c3 HOW HB
         go_wp2
         go_roundw
         case rel => exact ⟨k + 1, by omega, by go_num, by show World.ownsRow _ _ _ _ _ _ _; rw [HD.out]; exact HO1.out, HB1⟩
         case measure => simp [intOf]; omega
       · rw [hlk] at hld
         have HF2 : Hid (firmN L C s k = decide (3 ≤ handsN L (roundS L (sealAt L s k) ((at' L k).round + 2)))) := by show _ = _; rw [HFN.out, hb, hlk]; rfl
         have hsb := Sl.sealS_bd L k L.length hL
         have hab := Sl.and_bd s (sealS L k L.length) h0 h1 hsb.1 hsb.2
         have HSA : Hid (sealAt L s k = bits .and .i64 s (sealS L k L.length)) := rfl
         have hrbd := Lc.round_bd L (bits .and .i64 s (sealS L k L.length)) ((at' L k).round + 2) hL
         rw [HSA.out] at HF2
         clear hb HFN hlk HSA
         generalize hkk : at' L k = kk at c0 c1 c2 c3 hld HF2 hrb hrbd
         have c1' := c1
         go_wp2_with (first | (go_at_call 48; refine (hcall _).mono ?_; rintro e w' ⟨rfl, rfl⟩) | fail)
         refine hld.mono ?_
         rintro e w1 ⟨rfl, hb1⟩
         have HO1 : Hid (w1.ownsRow w.heap.size 2 1 u9 (firmL L C s k).length ((firmL L C s k).map (Value.int .i64))) := row_below HOW.out hb1
         have HB1 : Hid (Below w.heap.size w w1) := HB.out.trans (hb1.mono HB.out.size)
         have hgr : g < wr.heap.size := Nat.lt_of_lt_of_le hg HB.out.size
         have cr := (hb1.cell (p := ⟨g, off + k * 4 + 1, none⟩) hgr).trans c1
         have hgr1 : g < w1.heap.size := Nat.lt_of_lt_of_le hgr hb1.size
         have hhw := (HROW.out k hlt).1
         have cs := (HB1.out.cell (p := ⟨h, k, none⟩) hhw).trans (HROW.out k hlt).2
         have hh1 : h < w1.heap.size := Nat.lt_of_lt_of_le hhw HB1.out.size
         clear hld hb1 c0 c1 c2 c3 HOW HB hcall c1'
         go_wp2_with fail
         have HRN : Hid (∀ W : World, Below w1.heap.size w1 W → Calls Tryz.prog 101 #[.slice (some ⟨g, off, none⟩) L.length cap, .int .i64 (bits .and .i64 s (sealS L k L.length)), .int .i64 (kk.round + 2)] W fun e w' => e = .returned (.int .i64 (roundS L (bits .and .i64 s (sealS L k L.length)) (kk.round + 2))) ∧ W = w') := fun W hW => Lc.l3Round g off cap L _ _ W hL (HR.out.below (HB1.out.trans (hW.mono HB1.out.size))) hab.1 hab.2
         have HHN : Hid (∀ W : World, Below w1.heap.size w1 W → Calls Tryz.prog 100 #[.slice (some ⟨g, off, none⟩) L.length cap, .int .i64 (roundS L (bits .and .i64 s (sealS L k L.length)) (kk.round + 2))] W fun e w' => e = .returned (.int .i64 (handsN L (roundS L (bits .and .i64 s (sealS L k L.length)) (kk.round + 2)))) ∧ Below W.heap.size W w') := fun W hW => Lc.l3Hands _ cap L _ W hL (HR.out.below (HB1.out.trans (hW.mono HB1.out.size))) HH.out hrbd.1 (by omega)
         generalize roundS L (bits .and .i64 s (sealS L k L.length)) (kk.round + 2) = rs at HF2 HRN HHN hrbd
         generalize handsN L rs = hn at HF2 HHN
         generalize sealS L k L.length = z at cs hab HRN
         have hw2 : IntKind.i64.wrap (kk.round + 2) = kk.round + 2 := by rw [IntKind.wrap_i64]; omega
         generalize hrr : kk.round = rr at cr HRN hrb hw2
         obtain ⟨X, _, F, HF, HG⟩ := Fam.fam w1
         have hc1 : ∀ z, (F z).cell? ⟨g, off + k * 4 + 1, none⟩ = some (.int .i64 rr) := fun y => ((HF.out y).cell (p := ⟨g, off + k * 4 + 1, none⟩) hgr1).trans cr
         have hc2 : ∀ y, (F y).cell? ⟨h, k, none⟩ = some (.int .i64 z) := fun y => ((HF.out y).cell (p := ⟨h, k, none⟩) hh1).trans cs
         clear cr cs hrr hkk
         refine Fam.region (F := F) (by kernel_rfl) (by kernel_rfl) (HG.out _ (Below.refl _ w1).drew) ?_
         repeat (go_big_quiet_step (first
           | (go_at_call 101; exact (HRN.out _ (HF.out _)).mono fun _ _ h => ⟨h.1, _, h.2.symm⟩)
           | (go_at_call 100; exact (HHN.out _ (HF.out _)).mono fun _ _ h => ⟨h.1, HG.out _ ((HF.out _).trans (h.2.mono (HF.out _).size))⟩)))
         refine wpQuiet_nil ?_
         intro w2 hw2'
         obtain ⟨y, rfl⟩ := hw2'
         have HB2 : Hid (Below w.heap.size w (F y)) := HB1.out.trans ((HF.out y).mono HB1.out.size)
         have HO2 : Hid ((F y).ownsRow w.heap.size 2 1 u9 (firmL L C s k).length ((firmL L C s k).map (Value.int .i64))) := row_below HO1.out (HF.out y)
         clear HO1 HB1 hc1 hc2 HRN HHN
         generalize F y = V at HB2 HO2 ⊢
         by_cases h3 : 3 ≤ hn
         · have HD : Hid (firmL L C s (k + 1) = firmL L C s k ++ [(k : Int)]) := by show _ = _; rw [HST.out, HF2.out, decide_eq_true h3]; rfl
           have HOA : Hid (∀ o : Obj, (V.alloc o).ownsRow w.heap.size 2 1 u9 (firmL L C s k).length ((firmL L C s k).map (Value.int .i64))) := fun o => HO2.out.alloc o
           clear HF2 HST
           go_wp2_with (at_builtin; refine wpList_append_own _ rfl _ _ 25 rfl w.heap.size 2 i0 (.int .i64 0) 1 8 Tryz.underlying25 hi hz0 hz1 hz2 rfl (by decide) _ _ _ rfl (HOA.out _) ⟨V.heap.size, 0, none⟩ 1 1 [.int .i64 (k : Int)] rfl rfl (Sg.one_new V (k : Int) _) (Sg.one_one (k : Int)) ?c3 ?c4 ?c5 ?_)
           case c3 => unfold maxLen; omega
           case c4 => omega
           case c5 => have := HB2.out.size; simp; omega
           intro v' w3 hown' hgrow _
           have R := Memb.rel_put HD.out HB2.out.size HO2.out HB2.out hown' hgrow
           have HO3 : Hid _ := R.1
           have HB3 : Hid _ := R.2.1
           clear hown' hgrow R HO2 HB2 HOA
           go_wp2
           go_roundw
           case rel => exact ⟨k + 1, by omega, by go_num, HO3, HB3⟩
           case measure => simp [intOf]; omega
         · have HD : Hid (firmL L C s (k + 1) = firmL L C s k) := by show _ = _; rw [HST.out, HF2.out, decide_eq_false h3]; rfl
           clear HF2 HST
           go_wp2
           go_roundw
           case rel => exact ⟨k + 1, by omega, by go_num, by show World.ownsRow _ _ _ _ _ _ _; rw [HD.out]; exact HO2.out, HB2⟩
           case measure => simp [intOf]; omega
   · obtain rfl : k = L.length := by omega
     obtain ⟨bo, bc, hv, hown⟩ := Memb.own_shape HOW.out
     have HV : Hid (u9 = .slice bo (firmL L C s L.length).length bc) := hv
     clear hv
     go_wp2
     go_ret
     exact ⟨bo, bc, by rw [← HV.out]; rfl, hown, HB.out⟩
def rightB (L : List K) (C : List Int) (s : Int) : Bool := closedB L s && coinsB C
set_option maxHeartbeats 800000 in
theorem l9Right (g off cap : Nat) (L : List K) (ao : Option Addr) (cc : Nat) (C : List Int) (s : Int) (w : World) (hcap : L.length ≤ cap) (hw : WordsOk L) (hr : RdK w (some ⟨g, off, none⟩) L) (hC : C.length ≤ 1048576) (hrd : Lst.Rd w ao C) (hao : ∀ c, ao = some ⟨c, 0, none⟩ → c < w.heap.size) :
   Calls Tryz.prog 55 #[.slice (some ⟨g, off, none⟩) L.length cap, .slice ao C.length cc, .int .i64 s] w fun e w' => e = .returned (.bool (rightB L C s)) ∧ Below w.heap.size w w' := by
 go_enter Tryz.func55, Tryz.ntmps55
 go_wp2_with fail
 refine (Sg.specClosed g off cap L s _ hcap hw hr).mono ?_
 rintro e w1 ⟨rfl, hb1⟩
 have hcall := Rm.specCoinsOk ao cc C w1 hC (Ch.rd_below hrd hao hb1)
 have HT : Hid (rightB L C s = (closedB L s && coinsB C)) := rfl
 clear hrd hao hr
 generalize closedB L s = b1 at HT ⊢
 generalize coinsB C = b2 at HT hcall
 cases b1
 · clear hcall
   go_wp2
   go_ret
   exact ⟨by rw [HT.out]; rfl, hb1⟩
 · go_wp2_with (go_at_call 70; refine hcall.mono ?_; rintro e w' ⟨rfl, rfl⟩)
   go_ret
   exact ⟨by rw [HT.out]; rfl, hb1⟩
theorem closed_set {L : List K} {s : Int} (h : closedB L s = true) : laceB L = true ∧ 0 ≤ s ∧ s < 1152921504606846976 := by
 unfold Sg.closedB at h
 rw [Bool.and_eq_true] at h
 obtain ⟨hl, q0, q1, _⟩ := Lc.setB_parts h.1
 exact ⟨hl, q0, q1⟩
set_option maxHeartbeats 1600000 in
theorem specFirmOnes (g off cap : Nat) (L : List K) (ao : Option Addr) (cc : Nat) (C : List Int) (s : Int) (w : World) (hcap : L.length ≤ cap) (hw : WordsOk L) (hg : g < w.heap.size) (hr : RdK w (some ⟨g, off, none⟩) L) (hC : C.length ≤ 1048576) (hrd : Lst.Rd w ao C) (hao : ∀ c, ao = some ⟨c, 0, none⟩ → c < w.heap.size) :
   Calls Tryz.prog 59 #[.slice (some ⟨g, off, none⟩) L.length cap, .slice ao C.length cc, .int .i64 s] w (NumsPost (firmI L C s) w) := by
 have HRD : Hid (∀ W : World, Below w.heap.size w W → Lst.Rd W ao C ∧ ∀ c, ao = some ⟨c, 0, none⟩ → c < W.heap.size) := fun W hW => ⟨Ch.rd_below hrd hao hW, fun c e => Nat.lt_of_lt_of_le (hao c e) hW.size⟩
 have hcall := l9Right g off cap L ao cc C s w hcap hw hr hC hrd hao
 have HR : Hid (RdK w (some ⟨g, off, none⟩) L) := hr
 clear hrd hao hr
 cases hq : rightB L C s
 · have HT : Hid (firmI L C s = []) := by show _ = _; unfold firmI; rw [show (closedB L s && coinsB C) = false from hq]; rfl
   rw [hq] at hcall
   clear hq
   go_enter Tryz.func59, Tryz.ntmps59
   go_wp2_with fail
   refine hcall.mono ?_
   rintro e w1 ⟨rfl, hb1⟩
   clear hcall
   have HP : Hid ((w1.alloc (.cells #[] 2)).ownsRow w.heap.size 2 1 (.slice (some ⟨w1.heap.size, 0, none⟩) 0 0) 0 [] ∧ Below w.heap.size w (w1.alloc (.cells #[] 2))) := by
     refine ⟨?_, hb1.alloc hb1.size _⟩
     obtain ⟨a1, a2⟩ := Memb.own_empty w1
     refine ⟨a1, ?_⟩
     rcases a2 with a2 | ⟨g2, c2, cur, e1, e2, rest⟩
     · exact .inl a2
     · exact .inr ⟨g2, c2, cur, e1, Nat.le_trans hb1.size e2, rest⟩
   go_wp2
   go_ret
   rw [HT.out]
   exact ⟨some ⟨w1.heap.size, 0, none⟩, 0, rfl, HP.out.1, HP.out.2⟩
 · have HT : Hid (firmI L C s = firmL L C s L.length) := by show _ = _; unfold firmI; rw [show (closedB L s && coinsB C) = true from hq]; rfl
   rw [hq] at hcall
   have hcl : closedB L s = true := by unfold rightB at hq; rw [Bool.and_eq_true] at hq; exact hq.1
   obtain ⟨hl, h0, h1⟩ := closed_set hcl
   have HLC : Hid (laceB L = true) := hl
   clear hq hcl hl
   rw [HT.out]
   go_enter Tryz.func59, Tryz.ntmps59
   go_wp2_with fail
   refine hcall.mono ?_
   rintro e w1 ⟨rfl, hb1⟩
   clear hcall
   go_wp2_with fail
   refine (Sl.table7 g off cap L _ HLC.out (HR.out.below hb1)).mono ?_
   rintro e w2 ⟨bo, bc, rfl, hb2, h7⟩
   have hB2 := hb1.trans (hb2.mono hb1.size)
   clear hb1 hb2
   go_wp2_with fail
   refine h7.mono ?_
   rintro e w3 ⟨hh, O, rfl, _, hrow, hO, hb3⟩
   have hB3 := hB2.trans (hb3.mono hB2.size)
   have hfm := l9Firm g off cap L ao cc C hh O s w3 HLC.out (HR.out.below hB3) (Nat.lt_of_lt_of_le hg hB3.size) (HRD.out w3 hB3).1 (HRD.out w3 hB3).2 hrow hO h0 h1
   clear hb3 hB2 hrow hO h7
   go_wp2_with fail
   refine hfm.mono ?_
   rintro e w4 ⟨ro, rc, rfl, hown, hb4⟩
   have HP : Hid (Memb.Own w.heap.size w4 ro rc (firmL L C s L.length) ∧ Below w.heap.size w w4) := ⟨by
     obtain ⟨a1, a2⟩ := hown
     refine ⟨a1, ?_⟩
     rcases a2 with a2 | ⟨g2, c2, cur, e1, e2, rest⟩
     · exact .inl a2
     · exact .inr ⟨g2, c2, cur, e1, Nat.le_trans hB3.size e2, rest⟩, hB3.trans (hb4.mono hB3.size)⟩
   clear hown hb4 hB3 hfm
   go_wp2
   go_ret
   exact ⟨ro, rc, rfl, HP.out.1, HP.out.2⟩
theorem has_step (l : List Int) (k : Int) (j : Nat) (hj : j < l.length) : (l.take (j + 1)).contains k = ((l.take j).contains k || (l.getD j 0 == k)) := by
 rw [Lc.take_snocI l j hj]
 generalize l.getD j 0 = y
 generalize l.take j = t
 rw [Bool.eq_iff_iff]
 simp only [List.contains_iff_mem, List.mem_append, List.mem_singleton, Bool.or_eq_true, beq_iff_eq]
 exact or_congr Iff.rfl eq_comm
theorem firmI_len (L : List K) (C : List Int) (s : Int) : (firmI L C s).length ≤ L.length := by
 unfold firmI; split
 · exact firmL_len L C s _
 · simp
theorem last_mem (L : List K) (l : List Int) : Tl.lastT L l = -1 ∨ Tl.lastT L l ∈ l := by
 suffices H : ∀ n, n ≤ l.length → Tl.lastT L (l.take n) = -1 ∨ Tl.lastT L (l.take n) ∈ l.take n by
   have := H l.length (Nat.le_refl _)
   rwa [List.take_length] at this
 intro n
 induction n with
 | zero => intro _; exact .inl rfl
 | succ n ih =>
   intro hn
   rw [Lc.take_snocI l n (by omega), Tl.lastT_snoc]
   split
   · exact .inr (by simp)
   · rcases ih (by omega) with e | e
     · rename_i hc
       exact absurd (.inl (by rw [e]; omega)) hc
     · exact .inr (by simp only [List.mem_append]; exact .inl e)
set_option maxHeartbeats 1600000 in
theorem l9Last (g off cap : Nat) (L : List K) (lo : Option Addr) (lc : Nat) (l : List Int) (w : World) (hin : ∀ x ∈ l, 0 ≤ x ∧ x < (L.length : Int)) (hll : l.length ≤ 1048576) (hr : RdK w (some ⟨g, off, none⟩) L) (hrd : Lst.Rd w lo l) :
   Calls Tryz.prog 58 #[.slice (some ⟨g, off, none⟩) L.length cap, .slice lo l.length lc] w fun e w' => e = .returned (.int .i64 (Tl.lastT L l)) ∧ ∃ n, w' = w.drewN n := by
 have HIN : Hid (∀ x ∈ l, 0 ≤ x ∧ x < (L.length : Int)) := hin
 clear hin
 go_enter Tryz.func58, Tryz.ntmps58
 go_wp2
 go_loopw [5, 6] (fun o i wr => ∃ j : Nat, j ≤ l.length ∧ i = .int .i64 j ∧ o = .int .i64 (Tl.lastT L (l.take j)) ∧ ∃ n, wr = w.drewN n) (fun _ i _ => l.length - (intOf i).toNat)
 case atStart => exact ⟨0, by omega, rfl, rfl, 0, rfl⟩
 case round =>
   obtain ⟨j, hj, rfl, rfl, n, rfl⟩ := hrel
   by_cases hlt : j < l.length
   · have hji : (j : Int) < (l.length : Int) := by omega
     have HST : Hid (Tl.lastT L (l.take (j + 1)) = if Tl.lastT L (l.take j) < 0 ∨ (at' L (Tl.lastT L (l.take j)).toNat).round < (at' L (l.getD j 0).toNat).round then l.getD j 0 else Tl.lastT L (l.take j)) := by
       show _ = _; rw [Lc.take_snocI l j hlt, Tl.lastT_snoc]
     have hmem : l.getD j 0 ∈ l := by simp [List.getD, List.getElem?_eq_getElem hlt]
     have hx := HIN.out _ hmem
     have HO : Hid (Tl.lastT L (l.take j) = -1 ∨ ∃ e : Nat, Tl.lastT L (l.take j) = (e : Int) ∧ e < L.length) := by
       rcases last_mem L (l.take j) with e | e
       · exact .inl e
       · have hb := HIN.out _ (List.mem_of_mem_take e)
         exact .inr ⟨(Tl.lastT L (l.take j)).toNat, by omega, by omega⟩
     rcases hrd with hrd | ⟨lb, rfl, hcell⟩
     · rw [hrd] at hlt; simp at hlt
     have cj := hcell j hlt
     clear hcell hmem
     generalize l.getD j 0 = xx at cj hx HST
     obtain ⟨p, rfl⟩ := Int.eq_ofNat_of_zero_le hx.1
     have hp : p < L.length := by omega
     have hpi : (p : Int) < (L.length : Int) := by omega
     rw [Int.toNat_natCast] at HST
     obtain ⟨_, _, c1, _, _⟩ := hr.on p hp
     have HRO : Hid (∀ e : Nat, e < L.length → w.cell? ⟨g, off + e * 4 + 1, none⟩ = some (.int .i64 (at' L e).round)) := fun e he => by obtain ⟨_, _, q, _, _⟩ := hr.on e he; exact q
     generalize Tl.lastT L (l.take j) = oo at HST HO ⊢
     generalize (at' L p).round = rp at c1 HST
     rcases HO.out with e | ⟨e, rfl, hex⟩
     · subst e
       have HD : Hid (Tl.lastT L (l.take (j + 1)) = (p : Int)) := by show _ = _; rw [HST.out, if_pos (.inl (by omega))]
       clear HST HO HRO
       go_wp2_with fail
       go_quiet (fail)
       go_wp2
       go_roundw
       case rel => exact ⟨j + 1, by omega, by go_num, by rw [HD.out], n + nq, rfl⟩
       case measure => simp [intOf]; omega
     · have ce := HRO.out e hex
       have hei : (e : Int) < (L.length : Int) := by omega
       have he0 : decide ((e : Int) < 0) = false := decide_eq_false (by omega)
       rw [Int.toNat_natCast] at HST
       generalize (at' L e).round = er at ce HST
       clear HO HRO
       by_cases hrr : er < rp
       · have HD : Hid (Tl.lastT L (l.take (j + 1)) = (p : Int)) := by show _ = _; rw [HST.out, if_pos (.inr hrr)]
         clear HST
         go_wp2_with fail
         go_quiet (fail)
         go_wp2
         go_roundw
         case rel => exact ⟨j + 1, by omega, by go_num, by rw [HD.out], n + nq, rfl⟩
         case measure => simp [intOf]; omega
       · have HD : Hid (Tl.lastT L (l.take (j + 1)) = (e : Int)) := by show _ = _; rw [HST.out, if_neg (by omega)]
         clear HST
         go_wp2_with fail
         go_quiet (fail)
         go_wp2
         go_roundw
         case rel => exact ⟨j + 1, by omega, by go_num, by rw [HD.out], n + nq, rfl⟩
         case measure => simp [intOf]; omega
   · obtain rfl : j = l.length := by omega
     have e : l.take l.length = l := List.take_length
     rw [e]
     go_wp2
     go_ret
     exact ⟨rfl, n, rfl⟩
theorem firmI_in {L : List K} {C : List Int} {s : Int} : ∀ x ∈ firmI L C s, 0 ≤ x ∧ x < (L.length : Int) := by
 intro x hx
 unfold firmI at hx
 split at hx
 · obtain ⟨k, rfl, hk, _⟩ := (Tl.mem_firm L C s L.length x).1 hx
   omega
 · exact absurd hx (by simp)
def lastI (L : List K) (C : List Int) (s : Int) : Int := Tl.lastT L (firmI L C s)
set_option maxHeartbeats 800000 in
theorem specLastFirm (g off cap : Nat) (L : List K) (ao : Option Addr) (cc : Nat) (C : List Int) (s : Int) (w : World) (hL : L.length ≤ 1048576) (hcap : L.length ≤ cap) (hw : WordsOk L) (hg : g < w.heap.size) (hr : RdK w (some ⟨g, off, none⟩) L) (hC : C.length ≤ 1048576) (hrd : Lst.Rd w ao C) (hao : ∀ c, ao = some ⟨c, 0, none⟩ → c < w.heap.size) :
   Calls Tryz.prog 24 #[.slice (some ⟨g, off, none⟩) L.length cap, .slice ao C.length cc, .int .i64 s] w fun e w' => e = .returned (.int .i64 (lastI L C s)) ∧ Below w.heap.size w w' := by
 have hcall := specFirmOnes g off cap L ao cc C s w hcap hw hg hr hC hrd hao
 have hfl := firmI_len L C s
 have HIN : Hid (∀ x ∈ firmI L C s, 0 ≤ x ∧ x < (L.length : Int)) := firmI_in
 have HT : Hid (lastI L C s = Tl.lastT L (firmI L C s)) := rfl
 have HR : Hid (RdK w (some ⟨g, off, none⟩) L) := hr
 clear hrd hao hr
 go_enter Tryz.func24, Tryz.ntmps24
 go_wp2_with fail
 refine hcall.mono ?_
 rintro e w1 ⟨fo, fc, rfl, hown, hb1⟩
 have hrd1 := Lst.own_rd hown
 clear hown hcall
 generalize firmI L C s = l at HT hfl hrd1 HIN ⊢
 have hla := l9Last g off cap L fo fc l w1 HIN.out (by omega) (HR.out.below hb1) hrd1
 go_wp2_with fail
 refine hla.mono ?_
 rintro e w2 ⟨rfl, n, rfl⟩
 have HB2 : Hid (Below w.heap.size w (w1.drewN n)) := Db.below_drewN hb1 n
 clear hla hb1 hrd1
 go_wp2
 go_ret
 exact ⟨by rw [HT.out]; rfl, HB2.out⟩
end Fm
namespace Ch
open Kn (K okK)
open Bit (bit withB)
open Lc (at' RdK WordsOk laceB)
open Sg (isB bel belows NumsPost)
open Db (RowI)
open Sl (sealS sealN)
open Rm (coinsB)
structure TabsL (w : World) (L : List K) (bb h : Nat) : Prop where
 bel : ∀ i, i < L.length → w.cell? ⟨bb, i, none⟩ = some (.int .i64 (Sg.bel L i))
 sl : ∀ i, i < L.length → w.cell? ⟨h, i, none⟩ = some (.int .i64 (sealS L i L.length))
 lb : bb < w.heap.size
 lh : h < w.heap.size
theorem TabsL.below {w w' : World} {L : List K} {bb h : Nat} (t : TabsL w L bb h) (hb : Below w.heap.size w w') : TabsL w' L bb h :=
 ⟨fun i hi => (hb.cell (p := ⟨bb, i, none⟩) t.lb).trans (t.bel i hi), fun i hi => (hb.cell (p := ⟨h, i, none⟩) t.lh).trans (t.sl i hi), Nat.lt_of_lt_of_le t.lb hb.size, Nat.lt_of_lt_of_le t.lh hb.size⟩
theorem earI_step (L : List K) (C : List Int) (k n : Nat) : earI L C k (n + 1) = if earN L C k n && (decide (earI L C k n < 0) || decide ((at' L (earI L C k n).toNat).round < (at' L n).round)) then (n : Int) else earI L C k n := rfl
theorem earI_bd (L : List K) (C : List Int) (k n : Nat) : earI L C k n = -1 ∨ ∃ e : Nat, earI L C k n = (e : Int) ∧ e < n := by
 rcases ear_spec L C k n with ⟨h, _⟩ | ⟨e, h, he, _⟩
 · exact .inl h
 · exact .inr ⟨e, h, he⟩
set_option maxHeartbeats 12800000 in
theorem l10Earlier (g off cap : Nat) (L : List K) (ao : Option Addr) (cc : Nat) (C : List Int) (bb bc h hc : Nat) (k : Nat) (w : World) (hl : laceB L = true) (hg : g < w.heap.size) (hr : RdK w (some ⟨g, off, none⟩) L) (hrd : Lst.Rd w ao C) (hao : ∀ c, ao = some ⟨c, 0, none⟩ → c < w.heap.size) (ht : TabsL w L bb h) (hk : k < L.length) :
   Calls Tryz.prog 71 #[.slice (some ⟨g, off, none⟩) L.length cap, .slice ao C.length cc, .slice (some ⟨bb, 0, none⟩) L.length bc, .slice (some ⟨h, 0, none⟩) L.length hc, .int .i64 (k : Int)] w fun e w' => e = .returned (.int .i64 (earlierN L C k)) ∧ Below w.heap.size w w' := by
 have hL := ((Lc.lace_iff L).1 hl).1
 have HLC : Hid (laceB L = true) := hl
 have HRD : Hid (∀ W : World, Below w.heap.size w W → Lst.Rd W ao C ∧ ∀ c, ao = some ⟨c, 0, none⟩ → c < W.heap.size) := fun W hW => ⟨rd_below hrd hao hW, fun c e => Nat.lt_of_lt_of_le (hao c e) hW.size⟩
 have HR : Hid (RdK w (some ⟨g, off, none⟩) L) := hr
 have HT : Hid (TabsL w L bb h) := ht
 have hki : (k : Int) < (L.length : Int) := by omega
 clear hl hrd hao hr ht
 go_enter Tryz.func71, Tryz.ntmps71
 go_wp2
 go_loopw [11, 12] (fun o i wr => ∃ x : Nat, x ≤ k ∧ i = .int .i64 x ∧ o = .int .i64 (earI L C k x) ∧ Hid (Below w.heap.size w wr)) (fun _ i _ => k - (intOf i).toNat)
 case atStart => exact ⟨0, by omega, rfl, rfl, Below.refl _ _⟩
 case round =>
   obtain ⟨x, hx, rfl, rfl, HB⟩ := hrel
   by_cases hlt : x < k
   · have hxk : (x : Int) < (k : Int) := by omega
     have hxL : x < L.length := by omega
     have hxi : (x : Int) < (L.length : Int) := by omega
     have HST : Hid (earI L C k (x + 1) = if earN L C k x && (decide (earI L C k x < 0) || decide ((at' L (earI L C k x).toNat).round < (at' L x).round)) then (x : Int) else earI L C k x) := earI_step L C k x
     have HEN : Hid (earN L C k x = (bit (bel L k) x && (leadK C (at' L x) && sealN L k x))) := rfl
     have hbd := earI_bd L C k x
     have hgw : g < wr.heap.size := Nat.lt_of_lt_of_le hg HB.out.size
     obtain ⟨_, c0, c1, c2, c3⟩ := (HR.out.below HB.out).on x hxL
     have hrb := Lc.ok_round (Lc.can_ok (Lc.lace_upTo HLC.out x hxL))
     have HT1 := HT.out.below HB.out
     have t1 := HT1.bel k hk
     have t2 := HT1.sl x hxL
     have tl1 := HT1.lb
     have tl2 := HT1.lh
     have hbb := Sg.bel_bd L k (by omega)
     have hsb := Sl.sealS_bd L x L.length hL
     have HHA : Hid (∀ (W : World) (f : Int) (i : Nat) (v : Bool), ((f = bel L k ∧ i = x ∧ v = bit (bel L k) x) ∨ (f = sealS L x L.length ∧ i = k ∧ v = sealN L k x)) → Calls Tryz.prog 48 #[.int .i64 f, .int .i64 (i : Int)] W fun e w' => e = .returned (.bool v) ∧ W = w') := fun W f i v hq => by
       rcases hq with ⟨rfl, rfl, rfl⟩ | ⟨rfl, rfl, rfl⟩
       · exact (Db.has_call _ i _ hbb.1 hbb.2 (by omega) rfl W).mono fun _ _ q => ⟨q.1, q.2.symm⟩
       · exact (Db.has_call _ i _ hsb.1 hsb.2 (by omega) (by rw [Sl.bit_sealS L x _ hL, decide_eq_true hk]; rfl) W).mono fun _ _ q => ⟨q.1, q.2.symm⟩
     have HLD : Hid (∀ W : World, Below wr.heap.size wr W → Calls Tryz.prog 98 #[.slice ao C.length cc, .agg #[.int .i64 (at' L x).hand, .int .i64 (at' L x).round, .int .i64 (at' L x).frm, .string (at' L x).word]] W fun e w' => e = .returned (.bool (leadK C (at' L x))) ∧ Below W.heap.size W w') := fun W hW => by
       have hB := HB.out.trans (hW.mono HB.out.size)
       exact l8Leads ao cc C (at' L x) W hrb.1 (by omega) (HRD.out W hB).1 (HRD.out W hB).2
     clear HT1 hbb hsb
     generalize bel L k = yb at t1 HHA HEN
     generalize sealS L x L.length = ys at t2 HHA
     generalize bit yb x = b1 at HEN HHA
     generalize sealN L k x = b3 at HEN HHA
     have HRO : Hid (∀ e : Nat, e < x → wr.cell? ⟨g, off + e * 4 + 1, none⟩ = some (.int .i64 (at' L e).round)) := fun e he => by obtain ⟨_, _, q, _, _⟩ := (HR.out.below HB.out).on e (by omega); exact q
     generalize hkk : at' L x = kk at c0 c1 c2 c3 HLD HEN HST hrb
     generalize leadK C kk = b2 at HEN HLD
     have HCASE : Hid (earI L C k x = -1 ∨ ∃ e : Nat, earI L C k x = (e : Int) ∧ e < x) := hbd
     generalize earI L C k x = eo at HST HCASE ⊢
     clear hbd hkk
     obtain ⟨X, _, F, HF, HG⟩ := Fam.fam wr
     have d0 : ∀ z, (F z).cell? ⟨g, off + x * 4, none⟩ = some (.int .i64 kk.hand) := fun z => ((HF.out z).cell (p := ⟨g, off + x * 4, none⟩) hgw).trans c0
     have d1 : ∀ z, (F z).cell? ⟨g, off + x * 4 + 1, none⟩ = some (.int .i64 kk.round) := fun z => ((HF.out z).cell (p := ⟨g, off + x * 4 + 1, none⟩) hgw).trans c1
     have d2 : ∀ z, (F z).cell? ⟨g, off + x * 4 + 2, none⟩ = some (.int .i64 kk.frm) := fun z => ((HF.out z).cell (p := ⟨g, off + x * 4 + 2, none⟩) hgw).trans c2
     have d3 : ∀ z, (F z).cell? ⟨g, off + x * 4 + 3, none⟩ = some (.string kk.word) := fun z => ((HF.out z).cell (p := ⟨g, off + x * 4 + 3, none⟩) hgw).trans c3
     have s1 : ∀ z, (F z).cell? ⟨bb, k, none⟩ = some (.int .i64 yb) := fun z => ((HF.out z).cell (p := ⟨bb, k, none⟩) tl1).trans t1
     have s2 : ∀ z, (F z).cell? ⟨h, x, none⟩ = some (.int .i64 ys) := fun z => ((HF.out z).cell (p := ⟨h, x, none⟩) tl2).trans t2
     clear c0 c1 c2 c3 t1 t2
     cases b1
     · have HD : Hid (earI L C k (x + 1) = eo) := by show _ = _; rw [HST.out, HEN.out]; simp
       clear HST HEN HCASE HLD
       go_wp2_with fail
       refine Fam.region (F := F) (by kernel_rfl) (by kernel_rfl) (HG.out _ (Below.refl _ wr).drew) ?_
       repeat (go_big_quiet_step (first
         | (go_at_call 48; exact (HHA.out _ _ _ _ (by first | exact .inl ⟨rfl, rfl, rfl⟩ | exact .inr ⟨rfl, rfl, rfl⟩)).mono fun _ _ q => ⟨q.1, _, q.2.symm⟩)))
       refine wpQuiet_nil ?_
       intro w2 hw2
       obtain ⟨z, rfl⟩ := hw2
       have HB2 : Hid (Below w.heap.size w (F z)) := HB.out.trans ((HF.out z).mono HB.out.size)
       clear HB
       go_wp2
       go_roundw
       case rel => exact ⟨x + 1, by omega, by go_num, by rw [HD.out], HB2⟩
       case measure => simp [intOf]; omega
     · cases b2
       · have HD : Hid (earI L C k (x + 1) = eo) := by show _ = _; rw [HST.out, HEN.out]; simp
         clear HST HEN HCASE
         go_wp2_with fail
         refine Fam.region (F := F) (by kernel_rfl) (by kernel_rfl) (HG.out _ (Below.refl _ wr).drew) ?_
         repeat (go_big_quiet_step (first
           | (go_at_call 48; exact (HHA.out _ _ _ _ (by first | exact .inl ⟨rfl, rfl, rfl⟩ | exact .inr ⟨rfl, rfl, rfl⟩)).mono fun _ _ q => ⟨q.1, _, q.2.symm⟩)
           | (go_at_call 98; exact (HLD.out _ (HF.out _)).mono fun _ _ q => ⟨q.1, HG.out _ ((HF.out _).trans (q.2.mono (HF.out _).size))⟩)))
         refine wpQuiet_nil ?_
         intro w2 hw2
         obtain ⟨z, rfl⟩ := hw2
         have HB2 : Hid (Below w.heap.size w (F z)) := HB.out.trans ((HF.out z).mono HB.out.size)
         clear HB
         go_wp2
         go_roundw
         case rel => exact ⟨x + 1, by omega, by go_num, by rw [HD.out], HB2⟩
         case measure => simp [intOf]; omega
       · cases b3
         · have HD : Hid (earI L C k (x + 1) = eo) := by show _ = _; rw [HST.out, HEN.out]; simp
           clear HST HEN HCASE
           go_wp2_with fail
           refine Fam.region (F := F) (by kernel_rfl) (by kernel_rfl) (HG.out _ (Below.refl _ wr).drew) ?_
           repeat (go_big_quiet_step (first
             | (go_at_call 48; exact (HHA.out _ _ _ _ (by first | exact .inl ⟨rfl, rfl, rfl⟩ | exact .inr ⟨rfl, rfl, rfl⟩)).mono fun _ _ q => ⟨q.1, _, q.2.symm⟩)
             | (go_at_call 98; exact (HLD.out _ (HF.out _)).mono fun _ _ q => ⟨q.1, HG.out _ ((HF.out _).trans (q.2.mono (HF.out _).size))⟩)))
           refine wpQuiet_nil ?_
           intro w2 hw2
           obtain ⟨z, rfl⟩ := hw2
           have HB2 : Hid (Below w.heap.size w (F z)) := HB.out.trans ((HF.out z).mono HB.out.size)
           clear HB
           go_wp2
           go_roundw
           case rel => exact ⟨x + 1, by omega, by go_num, by rw [HD.out], HB2⟩
           case measure => simp [intOf]; omega
         · rcases HCASE.out with e | ⟨e, rfl, hex⟩
           · subst e
             have HD : Hid (earI L C k (x + 1) = (x : Int)) := by show _ = _; rw [HST.out, HEN.out]; simp
             clear HST HEN HCASE
             go_wp2_with fail
             refine Fam.region (F := F) (by kernel_rfl) (by kernel_rfl) (HG.out _ (Below.refl _ wr).drew) ?_
             repeat (go_big_quiet_step (first
               | (go_at_call 48; exact (HHA.out _ _ _ _ (by first | exact .inl ⟨rfl, rfl, rfl⟩ | exact .inr ⟨rfl, rfl, rfl⟩)).mono fun _ _ q => ⟨q.1, _, q.2.symm⟩)
               | (go_at_call 98; exact (HLD.out _ (HF.out _)).mono fun _ _ q => ⟨q.1, HG.out _ ((HF.out _).trans (q.2.mono (HF.out _).size))⟩)))
             refine wpQuiet_nil ?_
             intro w2 hw2
             obtain ⟨z, rfl⟩ := hw2
             have HB2 : Hid (Below w.heap.size w (F z)) := HB.out.trans ((HF.out z).mono HB.out.size)
             clear HB
             go_wp2
             go_roundw
             case rel => exact ⟨x + 1, by omega, by go_num, by rw [HD.out], HB2⟩
             case measure => simp [intOf]; omega
           · have ce := HRO.out e hex
             have d5 : ∀ z, (F z).cell? ⟨g, off + e * 4 + 1, none⟩ = some (.int .i64 (at' L e).round) := fun z => ((HF.out z).cell (p := ⟨g, off + e * 4 + 1, none⟩) hgw).trans ce
             have hei : (e : Int) < (L.length : Int) := by omega
             have he0 : decide ((e : Int) < 0) = false := decide_eq_false (by omega)
             rw [Int.toNat_natCast] at HST
             generalize (at' L e).round = er at HST d5
             clear ce
             by_cases hrr : er < kk.round
             · have HD : Hid (earI L C k (x + 1) = (x : Int)) := by show _ = _; rw [HST.out, HEN.out]; simp [hrr]
               clear HST HEN HCASE HRO
               go_wp2_with fail
               refine Fam.region (F := F) (by kernel_rfl) (by kernel_rfl) (HG.out _ (Below.refl _ wr).drew) ?_
               repeat (go_big_quiet_step (first
                 | (go_at_call 48; exact (HHA.out _ _ _ _ (by first | exact .inl ⟨rfl, rfl, rfl⟩ | exact .inr ⟨rfl, rfl, rfl⟩)).mono fun _ _ q => ⟨q.1, _, q.2.symm⟩)
                 | (go_at_call 98; exact (HLD.out _ (HF.out _)).mono fun _ _ q => ⟨q.1, HG.out _ ((HF.out _).trans (q.2.mono (HF.out _).size))⟩)))
               refine wpQuiet_nil ?_
               intro w2 hw2
               obtain ⟨z, rfl⟩ := hw2
               have HB2 : Hid (Below w.heap.size w (F z)) := HB.out.trans ((HF.out z).mono HB.out.size)
               clear HB
               go_wp2
               go_roundw
               case rel => exact ⟨x + 1, by omega, by go_num, by rw [HD.out], HB2⟩
               case measure => simp [intOf]; omega
             · have HD : Hid (earI L C k (x + 1) = (e : Int)) := by show _ = _; rw [HST.out, HEN.out]; simp; omega
               clear HST HEN HCASE HRO
               go_wp2_with fail
               refine Fam.region (F := F) (by kernel_rfl) (by kernel_rfl) (HG.out _ (Below.refl _ wr).drew) ?_
               repeat (go_big_quiet_step (first
                 | (go_at_call 48; exact (HHA.out _ _ _ _ (by first | exact .inl ⟨rfl, rfl, rfl⟩ | exact .inr ⟨rfl, rfl, rfl⟩)).mono fun _ _ q => ⟨q.1, _, q.2.symm⟩)
                 | (go_at_call 98; exact (HLD.out _ (HF.out _)).mono fun _ _ q => ⟨q.1, HG.out _ ((HF.out _).trans (q.2.mono (HF.out _).size))⟩)))
               refine wpQuiet_nil ?_
               intro w2 hw2
               obtain ⟨z, rfl⟩ := hw2
               have HB2 : Hid (Below w.heap.size w (F z)) := HB.out.trans ((HF.out z).mono HB.out.size)
               clear HB
               go_wp2
               go_roundw
               case rel => exact ⟨x + 1, by omega, by go_num, by rw [HD.out], HB2⟩
               case measure => simp [intOf]; omega
   · obtain rfl : x = k := by omega
     have HE : Hid (earI L C x x = earlierN L C x) := rfl
     rw [HE.out]
     go_wp2
     go_ret
     exact ⟨rfl, HB.out⟩
structure ChSt (w wr : World) (v : Value) (l : List Int) : Prop where
 shape : ∃ gg cp, v = .slice (some ⟨gg, 0, none⟩) l.length cp ∧ Memb.Own w.heap.size wr (some ⟨gg, 0, none⟩) cp l
 bel : Below w.heap.size w wr
theorem chSt_start (w : World) : ChSt w (w.alloc (.cells #[] 2)) (.slice (some ⟨w.heap.size, 0, none⟩) 0 0) [] := ⟨⟨_, _, rfl, Memb.own_empty w⟩, (Below.refl _ _).alloc (Nat.le_refl _) _⟩
theorem chSt_put {w wr w3 : World} {v' : Value} {l : List Int} {x : Int} {o : Obj} (hB : Below w.heap.size w wr) (ho : w3.ownsRow w.heap.size 2 1 v' (1 + l.length) ([.int .i64 x] ++ l.map (Value.int .i64))) (hg : (wr.alloc o).grownBy w3 (some wr.heap.size)) (hn : ¬ v' = .slice none 0 0) : ChSt w w3 v' (x :: l) := by
 refine ⟨?_, (hB.alloc hB.size o).grown hg (by simp; have := hB.size; omega) (fun j hj => by cases hj; exact hB.size)⟩
 have ho' : w3.ownsRow w.heap.size 2 1 v' (x :: l).length ((x :: l).map (Value.int .i64)) := by
   rw [show (x :: l).length = 1 + l.length by simp; omega]; exact ho
 obtain ⟨ao, cap, hv, hown⟩ := Memb.own_shape ho'
 rcases ao with _ | a
 · obtain ⟨_, ⟨hx, _⟩ | ⟨gg, cp, cur, hx, _⟩⟩ := ho'
   · exact absurd hx hn
   · rw [hv] at hx; injection hx with hx _; exact absurd hx (by simp)
 · obtain ⟨_, ⟨hx, _⟩ | ⟨gg, cp, cur, hx, _⟩⟩ := ho'
   · exact absurd hx hn
   · rw [hv] at hx
     injection hx with hx _ hc
     injection hx with hx
     subst hx hc
     exact ⟨gg, cap, hv, hown⟩
set_option maxHeartbeats 3200000 in
theorem l10Chain (g off cap : Nat) (L : List K) (ao : Option Addr) (cc : Nat) (C : List Int) (bb bc h hc : Nat) (k : Nat) (w : World) (hl : laceB L = true) (hg : g < w.heap.size) (hr : RdK w (some ⟨g, off, none⟩) L) (hrd : Lst.Rd w ao C) (hao : ∀ c, ao = some ⟨c, 0, none⟩ → c < w.heap.size) (ht : TabsL w L bb h) (hk : k < L.length) :
   Calls Tryz.prog 41 #[.slice (some ⟨g, off, none⟩) L.length cap, .slice ao C.length cc, .slice (some ⟨bb, 0, none⟩) L.length bc, .slice (some ⟨h, 0, none⟩) L.length hc, .int .i64 (k : Int)] w (NumsPost (chainL L C (k : Int)) w) := by
 obtain ⟨i0, hi, hz0, hz1, hz2⟩ := info_parts Memb.info2
 have hL := ((Lc.lace_iff L).1 hl).1
 have HEAR : Hid (∀ (W : World) (p : Nat), Below w.heap.size w W → p < L.length → Calls Tryz.prog 71 #[.slice (some ⟨g, off, none⟩) L.length cap, .slice ao C.length cc, .slice (some ⟨bb, 0, none⟩) L.length bc, .slice (some ⟨h, 0, none⟩) L.length hc, .int .i64 (p : Int)] W fun e w' => e = .returned (.int .i64 (earlierN L C p)) ∧ Below W.heap.size W w') := fun W p hW hp =>
   l10Earlier g off cap L ao cc C bb bc h hc p W hl (Nat.lt_of_lt_of_le hg hW.size) (hr.below hW) (rd_below hrd hao hW) (fun c e => Nat.lt_of_lt_of_le (hao c e) hW.size) (ht.below hW) hp
 have HLEN : Hid (∀ (kc : Int) (l : List Int), chainL L C (k : Int) = chainL L C kc ++ l → l.length ≤ k + 1) := fun kc l e => by
   have h1 := chain_len L C (k : Int)
   rw [e] at h1
   simp at h1
   omega
 clear hl hr hrd hao ht
 go_enter Tryz.func41, Tryz.ntmps41
 go_wp2
 go_loopw [4, 11] (fun kv v wr => ∃ (kc : Int) (l : List Int), kv = .int .i64 kc ∧ (-1 ≤ kc ∧ kc < (L.length : Int)) ∧ Hid (chainL L C (k : Int) = chainL L C kc ++ l) ∧ Hid (ChSt w wr v l)) (fun kv _ _ => (intOf kv + 1).toNat)
 case atStart => exact ⟨(k : Int), [], rfl, by omega, by show _ = _; rw [List.append_nil], chSt_start w⟩
 case round =>
   obtain ⟨kc, l, rfl, hkc, HCH, HS⟩ := hrel
   have hll := HLEN.out kc l HCH.out
   by_cases hn : 0 ≤ kc
   · obtain ⟨p, rfl⟩ := Int.eq_ofNat_of_zero_le hn
     have hp : p < L.length := by omega
     have hlt := earlier_lt L C p
     have hge : -1 ≤ earlierN L C p := by rcases earI_bd L C p p with e | ⟨e, he, _⟩ <;> unfold earlierN <;> omega
     have HCH2 : Hid (chainL L C (k : Int) = chainL L C (earlierN L C p) ++ ((p : Int) :: l)) := by
       show _ = _; rw [HCH.out, chain_step, List.append_assoc]; rfl
     obtain ⟨gg, cp, hv, hown⟩ := HS.out.shape
     subst hv
     have hrd1 := Lst.own_rd hown
     have hgg := (World.ownsRow.lt hown gg rfl).2
     have HLIT : Hid ((wr.alloc (.cells #[.int .i64 (p : Int)] 2)).ownsRow w.heap.size 2 1 (.slice (some ⟨wr.heap.size, 0, none⟩) 1 1) 1 [.int .i64 (p : Int)]) := World.ownsRow_lit wr #[.int .i64 (p : Int)] 1 HS.out.bel.size (by unfold maxLen; omega) rfl
     have HNEW : Hid (∀ (j : Nat) u, (l.map (Value.int .i64))[j]? = some u → (wr.alloc (.cells #[.int .i64 (p : Int)] 2)).cell? ((⟨gg, 0, none⟩ : Addr).add j) = some u) := fun j u hu => by
       rw [List.getElem?_map] at hu
       rcases hj : l[j]? with _ | y
       · rw [hj] at hu; simp at hu
       · rw [hj] at hu
         simp at hu
         subst hu
         have hjl : j < l.length := (List.getElem?_eq_some_iff.1 hj).1
         rcases hrd1 with e | ⟨g2, e, hcell⟩
         · rw [e] at hjl; simp at hjl
         · injection e with e; injection e with e; subst e
           have := hcell j hjl
           rw [show l.getD j 0 = y by simp [List.getD, hj]] at this
           rw [show (⟨gg, 0, none⟩ : Addr).add j = ⟨gg, j, none⟩ by simp [Addr.add]; intro e; exact e.symm, World.cell?_alloc_lt _ _ _ hgg]
           exact this
     have HONE : Hid (∀ u ∈ l.map (Value.int .i64), u.oneCell' = true) := fun u hu => by
       obtain ⟨y, _, rfl⟩ := List.mem_map.1 hu; rfl
     have HBW : Hid (Below w.heap.size w wr) := HS.out.bel
     clear hown hrd1
     go_wp2_with (first | (at_builtin; refine wpList_append_own _ rfl _ _ 25 rfl w.heap.size 2 i0 (.int .i64 0) 1 8 Tryz.underlying25 hi hz0 hz1 hz2 rfl (by decide) (.slice (some ⟨wr.heap.size, 0, none⟩) 1 1) 1 [.int .i64 (p : Int)] (by first | rfl | simp [Act.eval]) HLIT.out ⟨gg, 0, none⟩ l.length cp (l.map (Value.int .i64)) (by first | rfl | simp [Act.eval]) (by simp) HNEW.out HONE.out ?c3 ?c4 ?c5 ?_) | fail)
     case c3 => unfold maxLen; omega
     case c4 => omega
     case c5 => have := HBW.out.size; simp; omega
     intro v' w3 hown' hgrow hnil
     have HS3 : Hid (ChSt w w3 v' ((p : Int) :: l)) := chSt_put HBW.out hown' hgrow hnil
     clear hown' hgrow hnil HS HLIT HNEW HONE HBW
     have hcall := HEAR.out w3 p HS3.out.bel hp
     go_wp2_with fail
     refine hcall.mono ?_
     rintro e w4 ⟨rfl, hb4⟩
     have HS4 : Hid (ChSt w w4 v' ((p : Int) :: l)) := by
       obtain ⟨g4, c4, e4, o4⟩ := HS3.out.shape
       exact ⟨⟨g4, c4, e4, Lst.own_below o4 hb4⟩, HS3.out.bel.trans (hb4.mono HS3.out.bel.size)⟩
     clear hb4 HS3 hcall
     go_wp2
     go_roundw
     case rel => exact ⟨earlierN L C p, (p : Int) :: l, rfl, by omega, HCH2, HS4⟩
     case measure => simp [intOf]; omega
   · have HE : Hid (chainL L C (k : Int) = l) := by show _ = _; rw [HCH.out, chain_neg L C (by omega)]; rfl
     obtain ⟨gg, cp, hv, hown⟩ := HS.out.shape
     have HV : Hid (u11 = .slice (some ⟨gg, 0, none⟩) l.length cp) := hv
     have HF : Hid (Memb.Own w.heap.size wr (some ⟨gg, 0, none⟩) cp l ∧ Below w.heap.size w wr) := ⟨hown, HS.out.bel⟩
     clear hv hown HS HCH
     go_wp2
     go_ret
     exact ⟨some ⟨gg, 0, none⟩, cp, by rw [HE.out, ← HV.out]; rfl, by rw [HE.out]; exact HF.out.1, HF.out.2⟩
def onB (L : List K) (C : List Int) (k : Int) : Bool := isB L k && coinsB C
def chainI (L : List K) (C : List Int) (k : Int) : List Int := if onB L C k then chainL L C k else []
set_option maxHeartbeats 800000 in
theorem l10Right (g off cap : Nat) (L : List K) (ao : Option Addr) (cc : Nat) (C : List Int) (k : Int) (w : World) (hcap : L.length ≤ cap) (hw : WordsOk L) (hr : RdK w (some ⟨g, off, none⟩) L) (hC : C.length ≤ 1048576) (hrd : Lst.Rd w ao C) (hao : ∀ c, ao = some ⟨c, 0, none⟩ → c < w.heap.size) :
   Calls Tryz.prog 37 #[.slice (some ⟨g, off, none⟩) L.length cap, .slice ao C.length cc, .int .i64 k] w fun e w' => e = .returned (.bool (onB L C k)) ∧ Below w.heap.size w w' := by
 go_enter Tryz.func37, Tryz.ntmps37
 go_wp2_with fail
 refine (Sg.l4Is g off cap L k _ hcap hw hr).mono ?_
 rintro e w1 ⟨rfl, hb1⟩
 have hcall := Rm.specCoinsOk ao cc C w1 hC (rd_below hrd hao hb1)
 have HT : Hid (onB L C k = (isB L k && coinsB C)) := rfl
 clear hrd hao hr
 generalize isB L k = b1 at HT ⊢
 generalize coinsB C = b2 at HT hcall
 cases b1
 · clear hcall
   go_wp2
   go_ret
   exact ⟨by rw [HT.out]; rfl, hb1⟩
 · go_wp2_with (go_at_call 70; refine hcall.mono ?_; rintro e w' ⟨rfl, rfl⟩)
   go_ret
   exact ⟨by rw [HT.out]; rfl, hb1⟩
theorem own_base {B B' : Nat} {w : World} {ao : Option Addr} {cap : Nat} {l : List Int} (h : Memb.Own B w ao cap l) (hb : B' ≤ B) : Memb.Own B' w ao cap l := by
 obtain ⟨a1, a2⟩ := h
 refine ⟨a1, ?_⟩
 rcases a2 with a2 | ⟨g2, c2, cur, e1, e2, rest⟩
 · exact .inl a2
 · exact .inr ⟨g2, c2, cur, e1, Nat.le_trans hb e2, rest⟩
theorem nums_nil {w w1 : World} (hb1 : Below w.heap.size w w1) : Memb.Own w.heap.size (w1.alloc (.cells #[] 2)) (some ⟨w1.heap.size, 0, none⟩) 0 [] ∧ Below w.heap.size w (w1.alloc (.cells #[] 2)) := ⟨own_base (Memb.own_empty w1) hb1.size, hb1.alloc hb1.size _⟩
theorem chainI_len {L : List K} {C : List Int} {k : Int} : (chainI L C k).length ≤ 61 := by
 unfold chainI
 split
 · rename_i h
   unfold onB at h
   rw [Bool.and_eq_true] at h
   obtain ⟨k0, k1, hlc⟩ := Sg.isB_parts h.1
   have h60 := ((Lc.lace_iff L).1 hlc).1
   have := chain_len L C k
   omega
 · simp
end Ch
namespace Rm
open Kn (K okK)
open Bit (bit memTo)
open Lc (at' RdK laceB flat OwnK cellsOf)
open Cur (At)
theorem l1CopyD (v : Value) (w : World) (h : CoinsAt w v) : Calls Tryz.prog 35 #[v] w fun e w' => ∃ ao cc C, e = .returned (.slice ao C.length cc) ∧ C.length ≤ 7 ∧ Memb.Own w.heap.size w' ao cc C ∧ Below w.heap.size w w' := by
 obtain ⟨ao, cap, l, rfl, h1, h2, h3, hrd⟩ := h
 cases ao with
 | none =>
   obtain ⟨rfl, rfl⟩ := h1 rfl
   refine (l1CopyN w).mono ?_
   rintro e w' ⟨bo, bc, rfl, ho, hb⟩
   exact ⟨bo, bc, [], rfl, by simp, ho, hb⟩
 | some x =>
   obtain ⟨g, rfl, hg⟩ := h2 x rfl
   refine (l1Copy g cap l w (by omega) hg hrd).mono ?_
   rintro e w' ⟨bo, bc, rfl, ho, hb⟩
   exact ⟨bo, bc, l, rfl, by omega, ho, hb⟩
structure LcSt (c : Nat) (a : Option Addr) (len cap : Nat) (w wr : World) (v : Value) (L : List K) (ao : Option Addr) (cc : Nat) (C : List Int) : Prop where
 at' : At c a len cap wr
 gr : w.grownBy wr (some c)
 lo : OwnK 42 w.heap.size wr v L
 l61 : L.length ≤ 61
 wd : ∀ k ∈ L, k.word.size ≤ 13
 co : Memb.Own w.heap.size wr ao cc C
 c7 : C.length ≤ 7
theorem LcSt.grown {c : Nat} {a : Option Addr} {len cap : Nat} {w wr w1 : World} {v : Value} {L : List K} {ao : Option Addr} {cc : Nat} {C : List Int} (s : LcSt c a len cap w wr v L ao cc C) (hc : c < w.heap.size) (hA : At c a len cap w1) (hG : wr.grownBy w1 (some c)) : LcSt c a len cap w w1 v L ao cc C :=
 ⟨hA, Cur.grownBy_trans s.gr hG, ownK_grown s.lo hG hc, s.l61, s.wd, Draw.own_grown s.co hG hc, s.c7⟩
theorem LcSt.below {c : Nat} {a : Option Addr} {len cap : Nat} {w wr w1 : World} {v : Value} {L : List K} {ao : Option Addr} {cc : Nat} {C : List Int} (s : LcSt c a len cap w wr v L ao cc C) (hb : Below wr.heap.size wr w1) : LcSt c a len cap w w1 v L ao cc C :=
 ⟨s.at'.below hb, Cur.grownBy_trans s.gr ⟨hb.os, hb.tape, hb.output, hb.size, fun i hi _ => hb.block i hi⟩, Lc.ownK_below s.lo hb, s.l61, s.wd, Lst.own_below s.co hb, s.c7⟩
def LcPost (c : Nat) (a : Option Addr) (len cap : Nat) (w : World) (e : Ending) (w' : World) : Prop := ∃ v L ao cc C, e = .returned (.tuple #[v, .slice ao C.length cc]) ∧ LcSt c a len cap w w' v L ao cc C
set_option maxHeartbeats 3200000 in
theorem l9Draw (HD : DrawsRoom) (HDC : DrawsRoomC) (c : Nat) (a : Option Addr) (len cap : Nat) (w : World) (hl : len ≤ 4096) (hc : At c a len cap w) :
   Calls Tryz.prog 62 #[.pointer (some ⟨c, 0, none⟩)] w (LcPost c a len cap w) := by
 have hcw : c < w.heap.size := hc.lt
 have HDD : Hid DrawsRoom := HD
 have HDX : Hid DrawsRoomC := HDC
 clear HD HDC
 go_enter Tryz.func62, Tryz.ntmps62
 go_wp2_with fail
 refine (HDX.out c a len cap _ hl hc).mono ?_
 rintro e w1 ⟨R, rfl, hP, hA1, hF1, hCo1, hCB1⟩
 obtain ⟨ro, cp, hlv, ho, hz, _, hrd, _⟩ := own_lace hP.own
 have h60 := ((Lc.lace_iff R.L).1 hP.lace).1
 have HWD : Hid (∀ k ∈ R.L, k.word.size ≤ 13) := word_lace hP.lace
 obtain ⟨co, n, cc, hcv⟩ : ∃ co n cc, R.cv = .slice co n cc := by obtain ⟨co, cc, l, e, _⟩ := hCo1; exact ⟨co, l.length, cc, e⟩
 have HV : Hid (roV R = .agg #[.slice ro R.L.length cp, .slice co n cc, .slice (some ⟨R.gh, 0, none⟩) 4 R.hc, .int .i64 R.bad]) := by show _ = _; unfold roV; rw [hlv, hcv]
 rw [HV.out]
 have HG1 : Hid (w.grownBy w1 (some c)) := hF1.grown
 have HP2 : Hid (Q4 (w1.alloc (.cells #[.slice ro R.L.length cp, .slice co n cc, .slice (some ⟨R.gh, 0, none⟩) 4 R.hc, .int .i64 R.bad] 102)) w1.heap.size (.slice ro R.L.length cp) (.slice co n cc) (.slice (some ⟨R.gh, 0, none⟩) 4 R.hc) (.int .i64 R.bad) ∧ Below w1.heap.size w1 (w1.alloc (.cells #[.slice ro R.L.length cp, .slice co n cc, .slice (some ⟨R.gh, 0, none⟩) 4 R.hc, .int .i64 R.bad] 102))) := ⟨q4_new _ _ _ _ _ _, (Below.refl _ _).alloc (Nat.le_refl _) _⟩
 rw [hcv] at hCo1
 go_upto_region 2 with fail
 generalize w1.alloc (.cells #[.slice ro R.L.length cp, .slice co n cc, .slice (some ⟨R.gh, 0, none⟩) 4 R.hc, .int .i64 R.bad] 102) = V at HP2 ⊢
 have hbV : Below w1.heap.size w1 V := HP2.out.2
 obtain ⟨ro2, cp2, hlv2, ho2, hz2, _, hrd2, _⟩ := own_lace (Fm.row_below hP.own hbV)
 obtain ⟨hq1, hq2⟩ : ro2 = ro ∧ cp2 = cp := by
   rw [hlv] at hlv2
   injection hlv2 with e1 _ e3
   exact ⟨e1.symm, e3.symm⟩
 subst hq1 hq2
 have hCoV := coinsAt_below hCo1 hbV
 have hAV : At c a len cap V := hA1.below hbV
 have HGV : Hid (w.grownBy V (some c)) := Cur.grownBy_trans HG1.out ⟨hbV.os, hbV.tape, hbV.output, hbV.size, fun i hi _ => hbV.block i hi⟩
 obtain ⟨hQl, q0, q1, _, _, _, _, _, _⟩ := HP2.out.1
 have hcopy := l3CopyO ro2 cp2 R.L V ho2 hz2 (by omega) hrd2
 generalize w1.heap.size = rb at hQl q0 q1 ⊢
 clear hP hlv hlv2 hCo1 hA1 hF1 hCB1 ho hz hrd ho2 hz2 hrd2 HV HP2 HG1 hbV hcv
 go_wp2_with fail
 refine hcopy.mono ?_
 rintro e w2 ⟨v, rfl, hO2, hb2⟩
 have q1' := (hb2.cell (p := ⟨rb, 1, none⟩) hQl).trans q1
 have hcopyC := l1CopyD (.slice co n cc) w2 (coinsAt_below hCoV hb2)
 have hA2 : At c a len cap w2 := hAV.below hb2
 have HG2 : Hid (w.grownBy w2 (some c)) := Cur.grownBy_trans HGV.out ⟨hb2.os, hb2.tape, hb2.output, hb2.size, fun i hi _ => hb2.block i hi⟩
 have HO2 : Hid (OwnK 42 w.heap.size w2 v R.L) := ownK_base hO2 HGV.out.size
 clear hO2 hb2 hCoV hAV HGV hcopy q0 q1
 go_wp2_with fail
 refine hcopyC.mono ?_
 rintro e w3 ⟨ao, ac, C, rfl, hC7, hCO, hb3⟩
 have HS3 : Hid (LcSt c a len cap w w3 v R.L ao ac C) := ⟨hA2.below hb3, Cur.grownBy_trans HG2.out ⟨hb3.os, hb3.tape, hb3.output, hb3.size, fun i hi _ => hb3.block i hi⟩, Lc.ownK_below HO2.out hb3, by omega, HWD.out, Ch.own_base hCO HG2.out.size, hC7⟩
 clear hcopyC hCO hb3 hA2 HG2 HO2 q1' hQl
 generalize R.L = L0 at HS3 HWD
 clear HWD
 go_wp2_with fail
 refine (Cur.once c a len cap 6 _ hl (by omega) HS3.out.at').mono ?_
 rintro e w4 ⟨b4, rfl, hA4, hG4⟩
 have HS4 : Hid (LcSt c a len cap w w4 v L0 ao ac C) := HS3.out.grown hcw hA4 hG4
 clear hA4 hG4 HS3
 go_upto_if 16 with fail
 go_cut [6] (fun cv wx => ∃ ao' ac' C', cv = .slice ao' (C' : List Int).length ac' ∧ Hid (LcSt c a len cap w wx v L0 ao' ac' C'))
 case first =>
   cases b4
   · go_wp2_with fail
     go_meet
     exact ⟨ao, ac, C, rfl, HS4⟩
   · go_wp2_with fail
     refine (l8Draw c a len cap _ hl HS4.out.at').mono ?_
     rintro e w5 ⟨g5, c5, C5, rfl, hC5, hO5, hA5, hG5⟩
     have HS5 : Hid (LcSt c a len cap w w5 v L0 (some ⟨g5, 0, none⟩) c5 C5) := ⟨hA5, Cur.grownBy_trans HS4.out.gr hG5, ownK_grown HS4.out.lo hG5 hcw, HS4.out.l61, HS4.out.wd, Ch.own_base hO5 HS4.out.gr.size, hC5⟩
     clear hO5 hA5 hG5 HS4
     go_wp2_with fail
     go_meet
     exact ⟨some ⟨g5, 0, none⟩, c5, C5, rfl, HS5⟩
 case rest =>
   obtain ⟨ao6, c6, C6, rfl, HS6⟩ := hcut
   clear HS4
   go_wp2_with fail
   refine (Cur.once c a len cap 10 _ hl (by omega) HS6.out.at').mono ?_
   rintro e w7 ⟨b7, rfl, hA7, hG7⟩
   have HS7 : Hid (LcSt c a len cap w w7 v L0 ao6 c6 C6) := HS6.out.grown hcw hA7 hG7
   clear hA7 hG7 HS6
   cases b7
   · go_wp2
     refine bodyPost_ret (v := .tuple #[v, .slice ao6 C6.length c6]) (by simp [results, Tryz.f62, go_sem]) rfl ?_
     exact ⟨v, L0, ao6, c6, C6, rfl, HS7.out⟩
   · go_wp2_with fail
     refine (l3DrawAny HDD.out c a len cap _ hl HS7.out.at').mono ?_
     rintro e w8 ⟨v8, L8, rfl, hO8, h61, hwd8, hA8, hG8⟩
     have HS8 : Hid (LcSt c a len cap w w8 v8 L8 ao6 c6 C6) := ⟨hA8, Cur.grownBy_trans HS7.out.gr hG8, ownK_base hO8 HS7.out.gr.size, h61, hwd8, Draw.own_grown HS7.out.co hG8 hcw, HS7.out.c7⟩
     clear hO8 hA8 hG8 hwd8 HS7
     go_wp2
     refine bodyPost_ret (v := .tuple #[v8, .slice ao6 C6.length c6]) (by simp [results, Tryz.f62, go_sem]) rfl ?_
     exact ⟨v8, L8, ao6, c6, C6, rfl, HS8.out⟩
structure DrawnC (w w' : World) (v : Value) (L : List K) (ao : Option Addr) (cc : Nat) (C : List Int) : Prop where
 dr : Drawn w.heap.size w w' v L
 co : Memb.Own w.heap.size w' ao cc C
 c7 : C.length ≤ 7
theorem drawnC_of {a : Option Addr} {len cap : Nat} {w w1 w' : World} {v : Value} {L : List K} {ao : Option Addr} {cc : Nat} {C : List Int} (hb1 : Below w.heap.size w w1) (s : LcSt w.heap.size a len cap w1 w' v L ao cc C) : DrawnC w w' v L ao cc C :=
 ⟨⟨ownK_base s.lo hb1.size, s.l61, s.wd, Draw.below_of_grown hb1 (Nat.le_refl _) s.gr⟩, Ch.own_base s.co hb1.size, s.c7⟩
theorem own_at {B : Nat} {w : World} {ao : Option Addr} {cap : Nat} {l : List Int} (h : Memb.Own B w ao cap l) : ∀ c, ao = some ⟨c, 0, none⟩ → c < w.heap.size := fun c e => by subst e; exact (World.ownsRow.lt h c rfl).2
theorem ownK_at {B : Nat} {w : World} {g cp : Nat} {L : List K} (h : OwnK 42 B w (.slice (some ⟨g, 0, none⟩) L.length cp) L) : g < w.heap.size ∧ RdK w (some ⟨g, 0, none⟩) L := by
 obtain ⟨g', cp', e, _, _, _, hlt, hrd, _⟩ := Lc.ownK_shape h
 injection e with e _ _
 injection e with e
 injection e with e
 subst e
 exact ⟨hlt, hrd⟩
set_option maxHeartbeats 6400000 in
theorem drawFirm (HD : DrawsRoom) (HDC : DrawsRoomC) (a : Option Addr) (len cap : Nat) (w : World) (hl : len ≤ 4096) (hc : Cur.Code w a len) :
   Calls Tryz.prog 77 #[.slice a len cap] w fun e w' => ∃ v L ao cc C s k, e = .returned (.tuple #[v, .slice ao (C : List Int).length cc, .int .i64 s, .int .i64 k]) ∧ DrawnC w w' v L ao cc C ∧ (-9223372036854775808 ≤ s ∧ s ≤ 9223372036854775807) := by
 have HDD : Hid DrawsRoom := HD
 have HDX : Hid DrawsRoomC := HDC
 clear HD HDC
 go_enter Tryz.func77, Tryz.ntmps77
 go_wp2_with fail
 refine (Cur.new a len cap _ hl hc).mono ?_
 rintro e w1 ⟨rfl, hA1, hb1⟩
 have hlt1 := hA1.lt
 have HB1 : Hid (Below w.heap.size w w1) := hb1
 clear hb1
 go_wp2_with fail
 refine (l9Draw HDD.out HDX.out _ a len cap _ hl hA1).mono ?_
 rintro e w2 ⟨v, L, ao, cc, C, rfl, hS2⟩
 obtain ⟨g, cp, rfl, hcp, _, hgB, _, hrd2, _⟩ := Lc.ownK_shape hS2.lo
 have hne : g ≠ w.heap.size := by omega
 have h61 := hS2.l61
 have HWW : Hid (Lc.WordsOk L) := fun k hk => by have := hS2.wd k hk; omega
 have hset := l4DrawSet w.heap.size a len cap g cp L w2 hl hS2.at' hne h61 hcp HWW.out hrd2
 have HS2 : Hid (LcSt w.heap.size a len cap w1 w2 (.slice (some ⟨g, 0, none⟩) L.length cp) L ao cc C) := hS2
 clear hS2 hA1 hrd2
 go_wp2_with fail
 refine hset.mono ?_
 rintro e w3 ⟨s, rfl, hs, hA3, hG3⟩
 have HS3 : Hid (LcSt w.heap.size a len cap w1 w3 (.slice (some ⟨g, 0, none⟩) L.length cp) L ao cc C) := HS2.out.grown hlt1 hA3 hG3
 clear HS2 hset hA3 hG3
 obtain ⟨hgl3, hrd3⟩ := ownK_at HS3.out.lo
 have hfo := Fm.specFirmOnes g 0 cp L ao cc C s w3 hcp HWW.out hgl3 hrd3 (by have := HS3.out.c7; omega) (Lst.own_rd HS3.out.co) (own_at HS3.out.co)
 have hfl := Fm.firmI_len L C s
 clear hgl3 hrd3
 generalize Fm.firmI L C s = ml at hfo hfl
 go_wp2_with fail
 refine hfo.mono ?_
 rintro e w4 ⟨mo, mc, rfl, hown, hb4⟩
 have HS4 : Hid (LcSt w.heap.size a len cap w1 w4 (.slice (some ⟨g, 0, none⟩) L.length cp) L ao cc C) := HS3.out.below hb4
 have hc3 := HS3.out.at'.lt
 have HM : Hid (ml = [] ∨ ∃ mb, mo = some ⟨mb, 0, none⟩ ∧ mb ≠ w.heap.size ∧ mb < w4.heap.size ∧ ∀ j, j < ml.length → ∃ z : Int, w4.cell? ⟨mb, j, none⟩ = some (.int .i64 z)) := by
   rcases Lst.own_rd hown with e | ⟨mb, e, h⟩
   · exact .inl e
   · subst e
     have := World.ownsRow.lt hown mb rfl
     exact .inr ⟨mb, rfl, by omega, this.2, fun j hj => ⟨_, h j hj⟩⟩
 clear hown hb4 HS3 hfo
 by_cases hz : ml.length = 0
 · rw [hz]
   clear HM hz
   go_wp2_with fail
   refine (l3DrawAt _ a len cap L.length _ hl h61 HS4.out.at').mono ?_
   rintro e w6 ⟨r, rfl, _, hA6, hG6⟩
   have HF : Hid (DrawnC w w6 (.slice (some ⟨g, 0, none⟩) L.length cp) L ao cc C) := drawnC_of HB1.out (HS4.out.grown hlt1 hA6 hG6)
   clear HS4 hA6 hG6
   go_wp2
   refine bodyPost_ret (v := .tuple #[.slice (some ⟨g, 0, none⟩) L.length cp, .slice ao C.length cc, .int .i64 s, .int .i64 r]) (by simp [results, Tryz.f77, go_sem]) rfl ?_
   exact ⟨_, L, ao, cc, C, s, r, rfl, HF.out, hs⟩
 · have hpos : (0 : Int) < (ml.length : Int) := by omega
   go_wp2_with fail
   refine (Cur.once w.heap.size a len cap 2 _ hl (by omega) HS4.out.at').mono ?_
   rintro e w6 ⟨b, rfl, hA6, hG6⟩
   have HS6 : Hid (LcSt w.heap.size a len cap w1 w6 (.slice (some ⟨g, 0, none⟩) L.length cp) L ao cc C) := HS4.out.grown hlt1 hA6 hG6
   cases b
   · clear HM hz HS4 hA6 hG6
     go_wp2_with fail
     refine (l3DrawAt _ a len cap L.length _ hl h61 HS6.out.at').mono ?_
     rintro e w7 ⟨r, rfl, _, hA7, hG7⟩
     have HF : Hid (DrawnC w w7 (.slice (some ⟨g, 0, none⟩) L.length cp) L ao cc C) := drawnC_of HB1.out (HS6.out.grown hlt1 hA7 hG7)
     clear HS6 hA7 hG7
     go_wp2
     refine bodyPost_ret (v := .tuple #[.slice (some ⟨g, 0, none⟩) L.length cp, .slice ao C.length cc, .int .i64 s, .int .i64 r]) (by simp [results, Tryz.f77, go_sem]) rfl ?_
     exact ⟨_, L, ao, cc, C, s, r, rfl, HF.out, hs⟩
   · rcases HM.out with e | ⟨mb, rfl, hmc, hm5, hcell⟩
     · rw [e] at hz; simp at hz
     have HMB : Hid (∀ W : World, Below w6.heap.size w6 W → Calls Tryz.prog 34 #[.pointer (some ⟨w.heap.size, 0, none⟩), .int .i64 (ml.length : Int)] W fun e W' => ∃ x : Nat, ∃ z : Int, e = .returned (.int .i64 (x : Int)) ∧ x < ml.length ∧ W'.cell? ⟨mb, x, none⟩ = some (.int .i64 z) ∧ DrawnC w W' (.slice (some ⟨g, 0, none⟩) L.length cp) L ao cc C) := fun W hW => by
       have hSW := HS6.out.below hW
       refine (Cur.below w.heap.size a len cap (ml.length : Int) W hl (by omega) hSW.at').mono ?_
       rintro e w7 ⟨x, rfl, hx0, hx1, hA7, hG7⟩
       obtain ⟨p, rfl⟩ := Int.eq_ofNat_of_zero_le hx0
       have hp : p < ml.length := by have := hx1 hpos; omega
       obtain ⟨z, hz1⟩ := hcell p hp
       refine ⟨p, z, rfl, hp, ?_, drawnC_of HB1.out (hSW.grown hlt1 hA7 hG7)⟩
       have c6 := Draw.kept_cell hG6 hmc hz1
       have c7 := (hW.cell (p := ⟨mb, p, none⟩) (Nat.lt_of_lt_of_le hm5 hG6.size)).trans c6
       exact Draw.kept_cell hG7 hmc c7
     clear HM hz HS4 hA6 hG6 HS6 hcell hm5 hmc
     generalize ml.length = mn at HMB hpos hfl ⊢
     go_wp2_with fail
     go_region_with (go_at_call 34; refine (HMB.out _ (Below.refl _ w6).drew).mono ?_; rintro e w7 ⟨x, z, rfl, hxm, ci, hD7⟩; have HF : Hid (DrawnC w w7 (.slice (some ⟨g, 0, none⟩) L.length cp) L ao cc C) := hD7; have hxi : (x : Int) < (mn : Int) := Int.ofNat_lt.2 hxm; clear hD7)
     all_goals
       go_wp2
       refine bodyPost_ret (v := .tuple #[.slice (some ⟨g, 0, none⟩) L.length cp, .slice ao C.length cc, .int .i64 s, .int .i64 z]) (by simp [results, Tryz.f77, go_sem]) rfl ?_
       exact ⟨_, L, ao, cc, C, s, z, rfl, HF.out, hs⟩
set_option maxHeartbeats 800000 in
theorem drawFirmOnes (HD : DrawsRoom) (HDC : DrawsRoomC) (a : Option Addr) (len cap : Nat) (w : World) (hl : len ≤ 4096) (hc : Cur.Code w a len) :
   Calls Tryz.prog 50 #[.slice a len cap] w fun e w' => ∃ v L ao cc C s, e = .returned (.tuple #[v, .slice ao (C : List Int).length cc, .int .i64 s]) ∧ DrawnC w w' v L ao cc C ∧ (-9223372036854775808 ≤ s ∧ s ≤ 9223372036854775807) := by
 go_enter Tryz.func50, Tryz.ntmps50
 go_wp2_with fail
 refine (drawFirm HD HDC a len cap _ hl hc).mono ?_
 rintro e w1 ⟨v, L, ao, cc, C, s, k, rfl, hD, hs⟩
 go_wp2
 refine bodyPost_ret (v := .tuple #[v, .slice ao C.length cc, .int .i64 s]) (by simp [results, Tryz.f50, go_sem]) rfl ?_
 exact ⟨v, L, ao, cc, C, s, rfl, hD, hs⟩
end Rm
namespace Rm
open Kn (K okK)
open Bit (bit memTo)
open Lc (at' RdK laceB flat OwnK cellsOf setB)
open Sg (bel belows orB seesB isB closedB NumsPost)
open Ch (leadK firmN)
open Fm (firmI lastI)
open Cur (At)
structure CoinsW (w : World) (ao : Option Addr) (C : List Int) : Prop where
 rd : Lst.Rd w ao C
 at' : ∀ c, ao = some ⟨c, 0, none⟩ → c < w.heap.size
 len : C.length ≤ 7
theorem CoinsW.below {w w' : World} {ao : Option Addr} {C : List Int} (h : CoinsW w ao C) (hb : Below w.heap.size w w') : CoinsW w' ao C :=
 ⟨Ch.rd_below h.rd h.at' hb, fun c e => Nat.lt_of_lt_of_le (h.at' c e) hb.size, h.len⟩
theorem coinsW_of {w w' : World} {v : Value} {L : List K} {ao : Option Addr} {cc : Nat} {C : List Int} (h : DrawnC w w' v L ao cc C) : CoinsW w' ao C := ⟨Lst.own_rd h.co, own_at h.co, h.c7⟩
theorem LiesS.lt {w : World} {g : Nat} {L : List K} (h : LiesS w g L) (hL : 0 < L.length) : g < w.heap.size := (h.rd.on 0 hL).1
structure LiesC (w : World) (g : Nat) (L : List K) (ao : Option Addr) (C : List Int) : Prop where
 l : LiesS w g L
 lt : g < w.heap.size
 c : CoinsW w ao C
theorem LiesC.below {w w' : World} {g : Nat} {L : List K} {ao : Option Addr} {C : List Int} (h : LiesC w g L ao C) (hb : Below w.heap.size w w') : LiesC w' g L ao C := ⟨h.l.below hb, Nat.lt_of_lt_of_le h.lt hb.size, h.c.below hb⟩
theorem drawn_liesC {w w' : World} {v : Value} {L : List K} {ao : Option Addr} {cc : Nat} {C : List Int} (h : DrawnC w w' v L ao cc C) : ∃ g cp, v = .slice (some ⟨g, 0, none⟩) L.length cp ∧ L.length ≤ cp ∧ LiesC w' g L ao C := by
 obtain ⟨g, cp, rfl, hcp, hL⟩ := drawn_liesS h.dr
 exact ⟨g, cp, rfl, hcp, hL, (ownK_at h.dr.own).1, coinsW_of h⟩
end Rm
namespace Ch
open Kn (K okK)
open Bit (bit)
open Lc (at' laceB)
open Sg (isB bel)
open Sl (sealN sealsB)
theorem earlier_cases (L : List K) (C : List Int) (k : Nat) : (earlierN L C k = -1 ∧ ∀ x, x < k → earN L C k x = false) ∨ ∃ e : Nat, earlierN L C k = (e : Int) ∧ e < k ∧ earN L C k e = true ∧ ∀ x, x < k → earN L C k x = true → (at' L x).round ≤ (at' L e).round := by
 rcases ear_spec L C k k with h | ⟨e, h1, h2, h3, h4⟩
 · exact .inl h
 · exact .inr ⟨e, h1, h2, h3, fun x hx hc => (h4 x hx hc).1⟩
end Ch
namespace Rm
open Kn (K okK)
open Bit (bit memTo)
open Lc (at' RdK laceB flat OwnK cellsOf)
open Cur (At)
theorem DrawnC.below {w w1 w' : World} {v : Value} {L : List K} {ao : Option Addr} {cc : Nat} {C : List Int} (h : DrawnC w w1 v L ao cc C) (hb : Below w1.heap.size w1 w') : DrawnC w w' v L ao cc C :=
 ⟨⟨Lc.ownK_below h.dr.own hb, h.dr.len, h.dr.word, h.dr.bel.trans (hb.mono h.dr.bel.size)⟩, Lst.own_below h.co hb, h.c7⟩
end Rm
end Go.Proofs.YtflhaiakhfmmmaaGreat
