/-
 What the program's own TaleOf answers, in the words of TaleS; for coins of at most 2^20 numbers and lists of knots whose words have at most 2^40 bytes.
-/
import Derived.Test.YtflhaiakhfmmmaaGreatOZv
import Derived.Test.YtflhaiakhfmmmaaGreatOZU
import Derived.Test.YtflhaiakhfmmmaaGreatOZi
namespace Go.Proofs.YtflhaiakhfmmmaaGreat
open Go.RowKit
set_option maxRecDepth 100000
set_option linter.unusedVariables false
namespace Tp
open Kn (K okK)
open Lc (at' RdK WordsOk laceB)
open Tl (inR)
open Tx (wordsL wordsI OwnT TextsPost)
theorem words_step {L : List K} {X : List Int} {j : Nat} (hlt : j < X.length) : wordsL L (X.take (j + 1)) = if (at' L (X.getD j 0).toNat).word.toList.isEmpty then wordsL L (X.take j) else wordsL L (X.take j) ++ [(at' L (X.getD j 0).toNat).word] := by
 rw [← Tx.words_snoc]
 congr 1
 rw [List.take_add_one, List.getElem?_eq_getElem hlt]
 simp [List.getD, hlt]
set_option maxHeartbeats 3200000 in
theorem words (g off cap : Nat) (L : List K) (ao : Option Addr) (cc : Nat) (X : List Int) (w : World) (hlc : laceB L = true) (hl : X.length ≤ 1048576) (hg : g < w.heap.size) (hr : RdK w (some ⟨g, off, none⟩) L) (hrd : Lst.Rd w ao X) (hao : ∀ c, ao = some ⟨c, 0, none⟩ → c < w.heap.size) :
   Calls Tryz.prog 54 #[.slice (some ⟨g, off, none⟩) L.length cap, .slice ao X.length cc] w (TextsPost (wordsI L X) w) := by
 obtain ⟨i0, hi, hz0, hz1, hz2⟩ := info_parts Tx.infoT
 have h60 := ((Lc.lace_iff L).1 hlc).1
 have HE0 : Hid ((w.alloc (.cells #[] 9)).ownsRow w.heap.size 9 1 (.slice (some ⟨w.heap.size, 0, none⟩) 0 0) 0 [] ∧ Below w.heap.size w (w.alloc (.cells #[] 9))) := ⟨Tx.own_empty w, (Below.refl _ w).alloc (Nat.le_refl _) _⟩
 have HA : Hid (∀ x : Int, (Base.okB (2 ^ L.length - 1) && (Base.inB x && Bit.bit (2 ^ L.length - 1) x.toNat)) = inR L x) := fun x => Sg.all_has h60 x
 have HALL : Hid (∀ W : World, Calls Tryz.prog 30 #[.slice (some ⟨g, off, none⟩) L.length cap] W fun e w' => e = .returned (.int .i64 (2 ^ L.length - 1)) ∧ W = w') := fun W => Lc.all _ _ _ W h60
 have HHAS : Hid (∀ (x : Int) (W : World), Calls Tryz.prog 31 #[.int .i64 (2 ^ L.length - 1), .int .i64 x] W fun e w' => e = .returned (.bool (inR L x)) ∧ W = w') := fun x W => by
   have := Base.has (2 ^ L.length - 1) x W
   rwa [HA.out x] at this
 clear HA
 have HRD : Hid (Lst.Rd w ao X) := hrd
 have HR : Hid (RdK w (some ⟨g, off, none⟩) L) := hr
 have HAO : Hid (∀ c, ao = some ⟨c, 0, none⟩ → c < w.heap.size) := hao
 have HEND : Hid ((∀ q, q < X.length → inR L (X.getD q 0) = true) → wordsI L X = wordsL L X) := fun h => by
   unfold Tx.wordsI
   rw [hlc, Bool.true_and, if_pos]
   rw [List.all_eq_true]
   intro x hx
   obtain ⟨q, hq, e⟩ := List.getElem_of_mem hx
   have := h q hq
   unfold List.getD at this
   rw [List.getElem?_eq_getElem hq] at this
   rw [← e]; exact this
 have HNIL : Hid (∀ j, j < X.length → inR L (X.getD j 0) = false → wordsI L X = []) := fun j hj h => by
   unfold Tx.wordsI
   refine if_neg ?_
   intro q
   rw [Bool.and_eq_true, List.all_eq_true] at q
   have := q.2 _ (show X.getD j 0 ∈ X by unfold List.getD; rw [List.getElem?_eq_getElem hj]; exact List.getElem_mem hj)
   rw [h] at this; exact Bool.noConfusion this
 have HNP : Hid (∀ W : World, Below w.heap.size w W → wordsI L X = [] → TextsPost (wordsI L X) w (.returned (.slice (some ⟨W.heap.size, 0, none⟩) 0 0)) (W.alloc (.cells #[] 9))) := fun W hW e => by
   rw [e]
   refine ⟨some ⟨W.heap.size, 0, none⟩, 0, rfl, ?_, hW.alloc hW.size _⟩
   obtain ⟨h1, h2 | ⟨q, cap', cur, hv, hB, hn⟩⟩ := Tx.own_empty W
   · exact ⟨h1, .inl h2⟩
   · exact ⟨h1, .inr ⟨q, cap', cur, hv, by have := hW.size; omega, hn⟩⟩
 generalize (2 : Int) ^ L.length - 1 = al at HALL HHAS
 clear hrd hr hao hlc h60
 go_enter Tryz.func54, Tryz.ntmps54
 go_wp2
 go_step3
 go_wp2
 go_step3
 go_wp2
 go_loopw [5, 11] (fun v i wr => ∃ j : Nat, j ≤ X.length ∧ i = .int .i64 j ∧ Hid (wr.ownsRow w.heap.size 9 1 v (wordsL L (X.take j)).length ((wordsL L (X.take j)).map Value.string)) ∧ Hid (Below w.heap.size w wr) ∧ Hid (∀ q, q < j → inR L (X.getD q 0) = true)) (fun _ i _ => X.length - (intOf i).toNat)
 case atStart => exact ⟨0, by omega, rfl, HE0.out.1, HE0.out.2, fun q hq => absurd hq (by omega)⟩
 case round =>
   obtain ⟨j, hj, rfl, HO, HB, HIN⟩ := hrel
   clear HE0
   by_cases hlt : j < X.length
   · have hlti : (j : Int) < (X.length : Int) := by omega
     obtain ⟨gx, hgx, hcx⟩ : ∃ gx, ao = some ⟨gx, 0, none⟩ ∧ wr.cell? ⟨gx, j, none⟩ = some (.int .i64 (X.getD j 0)) := by
       rcases HRD.out with e | ⟨gx, e, hc⟩
       · rw [e] at hlt; simp at hlt
       · exact ⟨gx, e, (HB.out.cell (p := ⟨gx, j, none⟩) (HAO.out gx e)).trans (hc j hlt)⟩
     subst hgx
     have HSN : Hid (_) := words_step (L := L) hlt
     have hwl := Tx.words_len L (X.take j)
     have hwl2 : (wordsL L (X.take j)).length ≤ 1048576 := by rw [List.length_take] at hwl; omega
     clear hwl
     have HYS : Hid (inR L (X.getD j 0) = true → ∀ q, q < j + 1 → inR L (X.getD q 0) = true) := fun h q hq => by
       by_cases e : q = j
       · subst e; exact h
       · exact HIN.out q (by omega)
     have HNO : Hid (inR L (X.getD j 0) = false → wordsI L X = []) := HNIL.out j hlt
     have HDF : Hid (inR L (X.getD j 0) = (decide (0 ≤ X.getD j 0) && decide (X.getD j 0 < (L.length : Int)))) := rfl
     generalize X.getD j 0 = y at hcx HSN HYS HNO HDF
     cases hin : inR L y
     · have HHF : Hid (∀ (W : World), Calls Tryz.prog 31 #[.int .i64 al, .int .i64 y] W fun e w' => e = .returned (.bool false) ∧ W = w') := fun W => by have := HHAS.out y W; rwa [hin] at this
       have HP : Hid _ := HNP.out wr HB.out (HNO.out hin)
       clear HSN HYS HNO HDF hin HHAS HNP HIN HO HB HEND HNIL
       go_wp2_with (first | (go_at_call 30; refine (HALL.out _).mono ?_; rintro e w' ⟨rfl, rfl⟩) | (go_at_call 31; refine (HHF.out _).mono ?_; rintro e w' ⟨rfl, rfl⟩))
       try rw [Exit.noGoto_ret]
       go_ret
       exact HP.out
     · have HHF : Hid (∀ (W : World), Calls Tryz.prog 31 #[.int .i64 al, .int .i64 y] W fun e w' => e = .returned (.bool true) ∧ W = w') := fun W => by have := HHAS.out y W; rwa [hin] at this
       have HIN2 : Hid (∀ q, q < j + 1 → inR L (X.getD q 0) = true) := HYS.out hin
       rw [hin] at HDF
       have hyb : 0 ≤ y ∧ y < (L.length : Int) := by have := HDF.out.symm; simpa [Bool.and_eq_true, decide_eq_true_eq] using this
       obtain ⟨p, rfl⟩ := Int.eq_ofNat_of_zero_le hyb.1
       have hp : p < L.length := by omega
       have hpi : (p : Int) < (L.length : Int) := by omega
       rw [Int.toNat_natCast] at HSN
       obtain ⟨_, hcs⟩ := HR.out.on p hp
       obtain ⟨_, _, _, k3⟩ := hcs.below HB.out hg
       clear HYS HNO HDF hin HHAS HNP HIN HNIL hcs
       generalize (at' L p).word = wd at k3 HSN
       generalize hnx : wordsL L (X.take (j + 1)) = nx at HSN
       have HNX : Hid (wordsL L (X.take (j + 1)) = nx) := hnx
       generalize wordsL L (X.take j) = pv at HSN HO hwl2
       clear hnx
       cases hwd : wd.toList.isEmpty
       rotate_left
       · obtain rfl : nx = pv := by rw [HSN.out, if_pos hwd]
         have hne : (!wd.toList.isEmpty) = false := by rw [hwd]; rfl
         clear HSN hwd
         go_wp2_with (first | (go_at_call 30; refine (HALL.out _).mono ?_; rintro e w' ⟨rfl, rfl⟩) | (go_at_call 31; refine (HHF.out _).mono ?_; rintro e w' ⟨rfl, rfl⟩))
         go_roundw
         case rel => exact ⟨j + 1, by omega, by go_num, by rw [HNX.out]; exact HO, HB, HIN2⟩
         case measure => simp [intOf]; omega
       · obtain rfl : nx = pv ++ [wd] := by rw [HSN.out, if_neg (by rw [hwd]; simp)]
         have hne : (!wd.toList.isEmpty) = true := by rw [hwd]; rfl
         have own3 := HO.out
         have hW3 := HB.out.size
         clear HSN hwd
         go_wp2_with (first | (go_at_call 30; refine (HALL.out _).mono ?_; rintro e w' ⟨rfl, rfl⟩) | (go_at_call 31; refine (HHF.out _).mono ?_; rintro e w' ⟨rfl, rfl⟩) | (at_builtin; refine wpList_append_own _ rfl _ _ 36 rfl w.heap.size 9 i0 (.string ⟨#[]⟩) 1 16 Tryz.underlying36 hi hz0 hz1 hz2 rfl (by decide) u5 pv.length (pv.map Value.string) (by first | rfl | simp [Act.eval]) (own3.alloc _) ⟨wr.heap.size, 0, none⟩ 1 1 [.string wd] (by first | rfl | simp [Act.eval]) rfl (Tx.one_newT wr wd _) (Tx.one_oneT wd) ?c3 ?c4 ?c5 ?_))
         case c3 => unfold maxLen; omega
         case c4 => omega
         case c5 => simp; omega
         intro v' w3 hown' hgrow hnil
         have HO3 : Hid (w3.ownsRow w.heap.size 9 1 v' (pv ++ [wd]).length ((pv ++ [wd]).map Value.string)) := by show World.ownsRow _ _ _ _ _ _ _; simpa using hown'
         have HB3 : Hid (Below w.heap.size w w3) := (HB.out.alloc HB.out.size _).grown hgrow (by have := HB.out.size; simp; omega) (fun q hq => (World.ownsRow.lt own3 q hq).1)
         clear hown' hgrow hnil own3 HO HB
         go_wp2
         go_roundw
         case rel => exact ⟨j + 1, by omega, by go_num, by rw [HNX.out]; exact HO3, HB3, HIN2⟩
         case measure => simp [intOf]; omega
   · obtain rfl : j = X.length := by omega
     have hlti : ¬ (X.length : Int) < (X.length : Int) := by omega
     rw [List.take_length] at HO
     have HW : Hid (wordsI L X = wordsL L X) := HEND.out HIN.out
     obtain ⟨bo, bc, rfl, hown⟩ := Tx.own_shape HO.out
     have HT : Hid (TextsPost (wordsL L X) w (.returned (.slice bo (wordsL L X).length bc)) wr) := ⟨bo, bc, rfl, hown, HB.out⟩
     clear HO hown HB HIN HEND HNIL HNP
     generalize (wordsL L X).length = nS at HT ⊢
     go_wp2
     try rw [Exit.noGoto_ret]
     go_ret
     rw [HW.out]
     exact HT.out
set_option maxHeartbeats 1600000 in
theorem implWordsOf (g off cap : Nat) (L : List K) (ao : Option Addr) (cc : Nat) (X : List Int) (w : World) (hlen : L.length ≤ 1099511627776) (hw : WordsOk L) (hr : RdK w (some ⟨g, off, none⟩) L) (hl : X.length ≤ 1048576) (hrd : Lst.Rd w ao X) (hao : ∀ c, ao = some ⟨c, 0, none⟩ → c < w.heap.size) :
   Calls Tryz.prog 20 #[.slice (some ⟨g, off, none⟩) L.length cap, .slice ao X.length cc] w (TextsPost (wordsI L X) w) := by
 have hlf := Lc.laceOf g off cap L w hlen hw hr
 have HRD : Hid (∀ W : World, Below w.heap.size w W → Lst.Rd W ao X) := fun W hW => by
   rcases hrd with h | ⟨g', e, hc⟩
   · exact .inl h
   · exact .inr ⟨g', e, fun j hj => (hW.cell (p := ⟨g', j, none⟩) (hao g' e)).trans (hc j hj)⟩
 have HAO : Hid (∀ c, ao = some ⟨c, 0, none⟩ → c < w.heap.size) := hao
 clear hr hw hlen hrd hao
 go_enter Tryz.func20, Tryz.ntmps20
 go_wp2_with fail
 refine hlf.mono ?_
 rintro e w1 (⟨hlc, g', rfl, hg', hrg, hb1⟩ | ⟨hlc, rfl, hb1⟩)
 · have hcall := words g' 0 L.length L ao cc X w1 hlc hl hg' hrg (HRD.out _ hb1) (fun c e => Nat.lt_of_lt_of_le (HAO.out c e) hb1.size)
   clear hlc hlf hrg hg' HRD HAO
   go_wp2_with fail
   refine hcall.mono ?_
   rintro e w2 ⟨ro, rc, rfl, hown, hb2⟩
   have HP : Hid (OwnT w.heap.size w2 ro rc (wordsI L X) ∧ Below w.heap.size w w2) := by
     refine ⟨?_, hb1.trans (hb2.mono hb1.size)⟩
     obtain ⟨h1, h2 | ⟨q, cap', cur, hv, hB, hn⟩⟩ := hown
     · exact ⟨h1, .inl h2⟩
     · exact ⟨h1, .inr ⟨q, cap', cur, hv, Nat.le_trans hb1.size hB, hn⟩⟩
   clear hcall hown hb2 hb1
   go_wp2
   go_ret
   exact ⟨ro, rc, rfl, HP.out.1, HP.out.2⟩
 · have HT : Hid (wordsI L X = []) := by show _ = _; unfold Tx.wordsI; rw [hlc]; rfl
   have HP : Hid (TextsPost [] w (.returned (.slice (some ⟨w1.heap.size, 0, none⟩) 0 0)) (w1.alloc (.cells #[] 9))) := by
     refine ⟨some ⟨w1.heap.size, 0, none⟩, 0, rfl, ?_, hb1.alloc hb1.size _⟩
     obtain ⟨h1, h2 | ⟨q, cap', cur, hv, hB, hn⟩⟩ := Tx.own_empty w1
     · exact ⟨h1, .inl h2⟩
     · exact ⟨h1, .inr ⟨q, cap', cur, hv, Nat.le_trans hb1.size hB, hn⟩⟩
   clear hlc hlf HRD HAO hb1
   go_wp2
   go_ret
   rw [HT.out]
   exact HP.out
end Tp
namespace So
open Kn (K okK)
open Lc (at' RdK)
def cmI (x y : Int) : Int := if x < y then -1 else if y < x then 1 else 0
theorem cmI_neg (x y : Int) : cmI x y < 0 ↔ x < y := by
 unfold cmI
 by_cases h1 : x < y
 · simp [h1]
 · by_cases h2 : y < x
   · simp [h1, h2]
   · simp [h1, h2]
theorem cmI_zero (x y : Int) : cmI x y = 0 ↔ x = y := by
 unfold cmI
 by_cases h1 : x < y
 · rw [if_pos h1]; omega
 · by_cases h2 : y < x
   · rw [if_neg h1, if_pos h2]; omega
   · rw [if_neg h1, if_neg h2]; omega
theorem isNaN (x : Int) (w : World) : Calls Tryz.prog 173 #[.int .i64 x] w fun e w' => e = .returned (.bool false) ∧ w = w' := by
 go_enter Tryz.func173, Tryz.ntmps173
 go_wp2
 go_ret
 exact ⟨by simp, rfl⟩
theorem isNaNH (x : Int) (w : World) : Calls Tryz.prog 174 #[.int .i64 x] w fun e w' => e = .returned (.bool false) ∧ w = w' := by
 go_enter Tryz.func174, Tryz.ntmps174
 go_wp2
 go_ret
 exact ⟨by simp, rfl⟩
set_option maxHeartbeats 1600000 in
theorem compareI (x y : Int) (w : World) : Calls Tryz.prog 153 #[.int .i64 x, .int .i64 y] w fun e w' => e = .returned (.int .i64 (cmI x y)) ∧ w = w' := by
 go_enter Tryz.func153, Tryz.ntmps153
 by_cases h1 : x < y
 · have HE : Hid (cmI x y = -1) := by show _ = _; unfold cmI; rw [if_pos h1]
   go_wp2_with (first | (go_at_call 173; refine (isNaN _ _).mono ?_; rintro e w' ⟨rfl, rfl⟩))
   go_ret
   exact ⟨by rw [HE.out]; rfl, rfl⟩
 · by_cases h2 : y < x
   · have HE : Hid (cmI x y = 1) := by show _ = _; unfold cmI; rw [if_neg h1, if_pos h2]
     go_wp2_with (first | (go_at_call 173; refine (isNaN _ _).mono ?_; rintro e w' ⟨rfl, rfl⟩))
     go_ret
     exact ⟨by rw [HE.out]; rfl, rfl⟩
   · have HE : Hid (cmI x y = 0) := by show _ = _; unfold cmI; rw [if_neg h1, if_neg h2]
     go_wp2_with (first | (go_at_call 173; refine (isNaN _ _).mono ?_; rintro e w' ⟨rfl, rfl⟩))
     go_ret
     exact ⟨by rw [HE.out]; rfl, rfl⟩
set_option maxHeartbeats 1600000 in
theorem compareH (x y : Int) (w : World) : Calls Tryz.prog 154 #[.int .i64 x, .int .i64 y] w fun e w' => e = .returned (.int .i64 (cmI x y)) ∧ w = w' := by
 go_enter Tryz.func154, Tryz.ntmps154
 by_cases h1 : x < y
 · have HE : Hid (cmI x y = -1) := by show _ = _; unfold cmI; rw [if_pos h1]
   go_wp2_with (first | (go_at_call 174; refine (isNaNH _ _).mono ?_; rintro e w' ⟨rfl, rfl⟩))
   go_ret
   exact ⟨by rw [HE.out]; rfl, rfl⟩
 · by_cases h2 : y < x
   · have HE : Hid (cmI x y = 1) := by show _ = _; unfold cmI; rw [if_neg h1, if_pos h2]
     go_wp2_with (first | (go_at_call 174; refine (isNaNH _ _).mono ?_; rintro e w' ⟨rfl, rfl⟩))
     go_ret
     exact ⟨by rw [HE.out]; rfl, rfl⟩
   · have HE : Hid (cmI x y = 0) := by show _ = _; unfold cmI; rw [if_neg h1, if_neg h2]
     go_wp2_with (first | (go_at_call 174; refine (isNaNH _ _).mono ?_; rintro e w' ⟨rfl, rfl⟩))
     go_ret
     exact ⟨by rw [HE.out]; rfl, rfl⟩
def or3 (x y z : Int) : Int := if x ≠ 0 then x else if y ≠ 0 then y else z
set_option maxHeartbeats 1600000 in
theorem orC (vb cap : Nat) (x y z : Int) (w : World) (hx : w.cell? ⟨vb, 0, none⟩ = some (.int .i64 x)) (hy : w.cell? ⟨vb, 1, none⟩ = some (.int .i64 y)) (hz : w.cell? ⟨vb, 2, none⟩ = some (.int .i64 z)) :
   Calls Tryz.prog 152 #[.slice (some ⟨vb, 0, none⟩) 3 cap] w fun e w' => e = .returned (.int .i64 (or3 x y z)) ∧ w = w' := by
 obtain ⟨f, hf⟩ : ∃ f : Nat → Int, f = fun i => if i = 0 then x else if i = 1 then y else z := ⟨_, rfl⟩
 have HC : Hid (∀ i, i < 3 → w.cell? ⟨vb, i, none⟩ = some (.int .i64 (f i))) := fun i hi => by
   rcases (show i = 0 ∨ i = 1 ∨ i = 2 by omega) with e | e | e <;> subst e <;> simp [hf, hx, hy, hz]
 have HO : Hid (∀ i, i ≤ 3 → (∀ j, j < i → f j = 0) → (∀ k, i = k → k < 3 → f k ≠ 0 → or3 x y z = f k) ∧ (i = 3 → or3 x y z = 0)) := fun i hi h0 => by
   have a0 : 0 < i → x = 0 := fun q => by have := h0 0 q; simpa [hf] using this
   have a1 : 1 < i → y = 0 := fun q => by have := h0 1 q; simpa [hf] using this
   have a2 : 2 < i → z = 0 := fun q => by have := h0 2 q; simpa [hf] using this
   refine ⟨fun k e hk hne => ?_, fun e => ?_⟩
   · subst e
     rcases (show i = 0 ∨ i = 1 ∨ i = 2 by omega) with e | e | e <;> subst e <;> simp [hf] at hne ⊢ <;> unfold or3
     · simp [hne]
     · simp [a0 (by omega), hne]
     · simp [a0 (by omega), a1 (by omega)]
   · subst e
     unfold or3; simp [a0 (by omega), a1 (by omega), a2 (by omega)]
 clear hf hx hy hz
 generalize or3 x y z = r at HO
 go_enter Tryz.func152, Tryz.ntmps152
 go_wp2
 go_loop [8] (fun iv => ∃ i : Nat, i ≤ 3 ∧ iv = .int .i64 i ∧ Hid (∀ j, j < i → f j = 0)) (fun iv => 3 - (intOf iv).toNat)
 case atStart => exact ⟨0, by omega, rfl, fun j hj => absurd hj (by omega)⟩
 case round =>
   obtain ⟨i, hi, rfl, HZ⟩ := hrel
   by_cases h3 : i < 3
   · have h3' : (i : Int) < 3 := by omega
     have ci := HC.out i h3
     have HR : Hid (f i ≠ 0 → r = f i) := fun hne => (HO.out i hi HZ.out).1 i rfl h3 hne
     have HZ2 : Hid (f i = 0 → ∀ j, j < i + 1 → f j = 0) := fun h0 j hj => by
       by_cases e : j = i
       · subst e; exact h0
       · exact HZ.out j (by omega)
     generalize f i = v at ci HR HZ2
     by_cases hv : v = 0
     · subst hv
       have HZ3 : Hid (∀ j, j < i + 1 → f j = 0) := HZ2.out rfl
       clear HZ HZ2 HR
       go_wp2
       go_round
       case rel => exact ⟨i + 1, by omega, by go_num, HZ3⟩
       case measure => simp [intOf]; omega
     · have HE : Hid (r = v) := HR.out hv
       clear HZ HZ2 HR
       go_wp2
       go_ret
       exact ⟨by rw [HE.out]; rfl, rfl⟩
   · obtain rfl : i = 3 := by omega
     have HE : Hid (r = 0) := (HO.out 3 hi HZ.out).2 rfl
     clear HZ
     rw [show ((3 : Nat) : Int) = 3 from rfl]
     go_wp2
     go_ret
     exact ⟨by rw [HE.out]; rfl, rfl⟩
def cfL (L : List K) (x y : Int) : Int := or3 (cmI (at' L x.toNat).round (at' L y.toNat).round) (cmI (at' L x.toNat).hand (at' L y.toNat).hand) (cmI x y)
end So
namespace So
open Kn (K okK)
open Bit (bit withB memTo)
open Lc (at')
open Tl (gtB insR insB ordL)
theorem cfL_neg (L : List K) (x y : Int) : cfL L x y < 0 ↔ ((at' L x.toNat).round < (at' L y.toNat).round ∨ ((at' L x.toNat).round = (at' L y.toNat).round ∧ ((at' L x.toNat).hand < (at' L y.toNat).hand ∨ ((at' L x.toNat).hand = (at' L y.toNat).hand ∧ x < y)))) := by
 unfold cfL or3
 have a1 := cmI_neg (at' L x.toNat).round (at' L y.toNat).round
 have a2 := cmI_zero (at' L x.toNat).round (at' L y.toNat).round
 have b1 := cmI_neg (at' L x.toNat).hand (at' L y.toNat).hand
 have b2 := cmI_zero (at' L x.toNat).hand (at' L y.toNat).hand
 have c1 := cmI_neg x y
 generalize cmI (at' L x.toNat).round (at' L y.toNat).round = p at a1 a2
 generalize cmI (at' L x.toNat).hand (at' L y.toNat).hand = q at b1 b2
 generalize cmI x y = r at c1
 by_cases h1 : p = 0
 · rw [if_neg (by simp [h1])]
   have e1 := a2.1 h1
   by_cases h2 : q = 0
   · rw [if_neg (by simp [h2])]
     have e2 := b2.1 h2
     rw [c1, e1, e2]; omega
   · rw [if_pos h2, b1, e1]
     have e2 : ¬ (at' L x.toNat).hand = (at' L y.toNat).hand := fun e => h2 (b2.2 e)
     omega
 · rw [if_pos h1, a1]
   have e1 : ¬ (at' L x.toNat).round = (at' L y.toNat).round := fun e => h1 (a2.2 e)
   omega
theorem ord_cf (L : List K) (S : Int → Prop) : Ord (cfL L) S where
 tr := fun x y z _ _ _ h1 h2 => by rw [cfL_neg] at h1 h2 ⊢; omega
 tot := fun x y _ _ hne h => by rw [cfL_neg] at h ⊢; omega
 irr := fun x _ h => by rw [cfL_neg] at h; omega
def FallsC (L : List K) : List Int → Prop
 | [] => True
 | y :: r => (∀ z ∈ r, cfL L z y < 0) ∧ FallsC L r
theorem insR_fallsC (L : List K) (x : Int) : ∀ l : List Int, (∀ z ∈ l, z < x) → FallsC L l → FallsC L (insR L x l) := by
 intro l
 induction l with
 | nil => intro _ _; exact ⟨fun z hz => by simp at hz, trivial⟩
 | cons y r ih =>
   rintro hx ⟨h1, h2⟩
   unfold insR
   cases hg : gtB L y x
   · rw [if_neg (by simp)]
     have hyx : cfL L y x < 0 := by
       have := hx y (by simp)
       rw [cfL_neg]
       unfold gtB at hg
       rw [Bool.eq_false_iff] at hg
       simp only [ne_eq, Bool.or_eq_true, Bool.and_eq_true, decide_eq_true_eq] at hg
       omega
     refine ⟨fun z hz => ?_, h1, h2⟩
     rcases List.mem_cons.1 hz with e | e
     · subst e; exact hyx
     · exact (ord_cf L (fun _ => True)).tr z y x trivial trivial trivial (h1 z e) hyx
   · rw [if_pos rfl]
     refine ⟨fun z hz => ?_, ih (fun z hz => hx z (by simp [hz])) h2⟩
     rcases (Tl.insR_mem L x r z).1 hz with e | e
     · subst e
       rw [cfL_neg]
       unfold gtB at hg
       simp only [Bool.or_eq_true, Bool.and_eq_true, decide_eq_true_eq] at hg
       omega
     · exact h1 z e
theorem fold_fallsC (L : List K) : ∀ (m out : List Int), m.Pairwise (· < ·) → (∀ z ∈ out, ∀ x ∈ m, z < x) → FallsC L out.reverse → FallsC L (m.foldl (insB L) out).reverse := by
 intro m
 induction m with
 | nil => intro out _ _ h; exact h
 | cons x m ih =>
   intro out hp ho h
   rw [List.foldl_cons]
   have hp' := List.pairwise_cons.1 hp
   refine ih _ hp'.2 ?_ ?_
   · intro z hz y hy
     rcases List.mem_cons.1 ((Tl.insB_perm L out x).mem_iff.1 hz) with e | e
     · subst e; exact hp'.1 y hy
     · exact ho z e y (by simp [hy])
   · unfold insB
     rw [List.reverse_reverse]
     exact insR_fallsC L x _ (fun z hz => ho z (List.mem_reverse.1 hz) x (by simp)) h
theorem fallsC_up (L : List K) : ∀ l : List Int, FallsC L l → Up (cfL L) 0 l.reverse.length l.reverse := by
 intro l h p q _ hpq hq
 have H : ∀ r : List Int, FallsC L r → ∀ i j, i < j → j < r.length → cfL L (r.getD j 0) (r.getD i 0) < 0 := by
   intro r
   induction r with
   | nil => intro _ i j _ hj; simp at hj
   | cons y r ih =>
     rintro ⟨h1, h2⟩ i j hij hj
     cases i with
     | zero =>
       obtain ⟨k, rfl⟩ : ∃ k, j = k + 1 := ⟨j - 1, by omega⟩
       have hk : k < r.length := by simpa using hj
       have : (y :: r).getD (k + 1) 0 = r[k] := by simp [List.getD, hk]
       rw [this]
       exact h1 _ (List.getElem_mem hk)
     | succ i =>
       obtain ⟨k, rfl⟩ : ∃ k, j = k + 1 := ⟨j - 1, by omega⟩
       have := ih h2 i k (by omega) (by simpa using hj)
       simpa [List.getD] using this
 rw [List.length_reverse] at hq
 have := H l h (l.length - 1 - q) (l.length - 1 - p) (by omega) (by omega)
 have e1 : l.getD (l.length - 1 - p) 0 = l.reverse.getD p 0 := by
   simp only [List.getD, List.getElem?_reverse (show p < l.length by omega)]
 have e2 : l.getD (l.length - 1 - q) 0 = l.reverse.getD q 0 := by
   simp only [List.getD, List.getElem?_reverse (show q < l.length by omega)]
 rw [e1, e2] at this
 exact this
theorem ord_up (L : List K) {m : List Int} (hm : m.Pairwise (· < ·)) : Up (cfL L) 0 (ordL L m).length (ordL L m) := by
 have h := fallsC_up L (ordL L m).reverse (by unfold ordL; exact fold_fallsC L m [] hm (fun z hz => by simp at hz) trivial)
 rwa [List.reverse_reverse] at h
theorem memTo_rises (s : Int) : ∀ n, (memTo s n).Pairwise (· < ·) := by
 intro n
 induction n with
 | zero => exact List.Pairwise.nil
 | succ n ih =>
   unfold memTo
   split
   · rw [List.pairwise_append]
     refine ⟨ih, List.pairwise_singleton _ _, fun x hx y hy => ?_⟩
     obtain ⟨j, hj, rfl, _⟩ := (Bit.mem_memTo s n x).1 hx
     simp at hy; subst hy; omega
   · rw [List.append_nil]; exact ih
theorem memI_rises (s : Int) : (Memb.memI s).Pairwise (· < ·) := by
 unfold Memb.memI
 split
 · exact memTo_rises s 60
 · exact List.Pairwise.nil
theorem is_ord (L : List K) {m r : List Int} (hm : m.Pairwise (· < ·)) (hp : r.Perm m) (hu : Up (cfL L) 0 r.length r) : r = ordL L m := by
 have hnd : m.Nodup := hm.imp (fun h => by omega)
 exact up_unique (ord_cf L (fun _ => True)) (ordL L m) r ⟨fun _ _ => trivial, Tl.ord_nodup L hnd⟩ (hp.trans (Tl.ord_perm L m).symm) (ord_up L hm) hu
end So
namespace So
open Kn (K okK)
open Lc (at' RdK)
theorem orNew (W : World) (vb : Nat) (h : W.heap.size = vb) (x y z : Int) : Calls Tryz.prog 152 #[.slice (some ⟨vb, 0, none⟩) 3 3] (W.alloc (.cells #[.int .i64 x, .int .i64 y, .int .i64 z] 3)) fun e w' => e = .returned (.int .i64 (or3 x y z)) ∧ W.alloc (.cells #[.int .i64 x, .int .i64 y, .int .i64 z] 3) = w' := by
 subst h
 exact orC _ _ x y z _ (by simp) (by simp) (by simp)
set_option maxHeartbeats 6400000 in
theorem compare (g off cap : Nat) (L : List K) (x y : Nat) (w : World) (hlen : L.length ≤ 60) (hx : x < L.length) (hy : y < L.length) (hr : RdK w (some ⟨g, off, none⟩) L) :
   Calls Tryz.prog 124 #[.slice (some ⟨g, off, none⟩) L.length cap, .int .i64 (x : Int), .int .i64 (y : Int)] w fun e w' => e = .returned (.int .i64 (cfL L x y)) ∧ Below w.heap.size w w' := by
 obtain ⟨g1, off1, e1, hg, cx⟩ := hr.at x hx
 obtain ⟨g2, off2, e2, _, cy⟩ := hr.at y hy
 injection e1 with e1; injection e1 with e1 e1'; subst e1; subst e1'
 injection e2 with e2; injection e2 with e2 e2'; subst e2; subst e2'
 have x0 := cx.c0
 have x1 := cx.c1
 have y0 := cy.c0
 have y1 := cy.c1
 have HR : Hid (cfL L x y = or3 (cmI (at' L x).round (at' L y).round) (cmI (at' L x).hand (at' L y).hand) (cmI x y)) := by show _ = _; unfold cfL; rw [Int.toNat_natCast, Int.toNat_natCast]
 have hxl : (x : Int) < (L.length : Int) := by omega
 have hyl : (y : Int) < (L.length : Int) := by omega
 clear cx cy hr
 generalize (at' L x).hand = hx0 at x0 HR
 generalize (at' L x).round = rx0 at x1 HR
 generalize (at' L y).hand = hy0 at y0 HR
 generalize (at' L y).round = ry0 at y1 HR
 have HB : Hid (∀ o : Obj, Below w.heap.size w (w.drew.alloc o)) := fun o => (Below.refl _ w).drew.alloc (Nat.le_refl _) _
 go_enter Tryz.func124, Tryz.ntmps124
 go_wp2_with fail
 go_region_held3 (fun X => X.cell? ⟨g, off + x * 4, none⟩ = some (.int .i64 hx0) ∧ X.cell? ⟨g, off + x * 4 + 1, none⟩ = some (.int .i64 rx0) ∧ X.cell? ⟨g, off + y * 4, none⟩ = some (.int .i64 hy0) ∧ X.cell? ⟨g, off + y * 4 + 1, none⟩ = some (.int .i64 ry0)) (first
     | exact ⟨x0, x1, y0, y1⟩
     | go_keep) (first
     | (go_at_call 153
        refine (compareI _ _ _).mono ?_
        rintro e V0 ⟨rfl, rfl⟩)
     | (go_at_call 154
        refine (compareH _ _ _).mono ?_
        rintro e V0 ⟨rfl, rfl⟩)
     | (go_at_call 152
        refine (orNew w.drew _ rfl _ _ _).mono ?_
        rintro e V0 ⟨rfl, rfl⟩))
 all_goals (go_wp2)
 all_goals go_ret
 all_goals exact ⟨by rw [HR.out]; rfl, HB.out _⟩
end So
namespace So
open Kn (K okK)
open Bit (bit withB memTo)
open Lc (at' RdK laceB)
open Memb (memK memI)
theorem row_some {B : Nat} {w : World} {v : Value} {l : List Int} (h : w.ownsRow B 2 1 v l.length (l.map (Value.int .i64))) (hn : ¬ v = .slice none 0 0) : ∃ g cap, v = .slice (some ⟨g, 0, none⟩) l.length cap ∧ Memb.Own B w (some ⟨g, 0, none⟩) cap l := by
 have h' := h
 obtain ⟨_, ⟨hv, _⟩ | ⟨g, cap, cur, hv, _⟩⟩ := h'
 · exact absurd hv hn
 · refine ⟨g, cap, hv, ?_⟩
   unfold Memb.Own; rw [← hv]; exact h
set_option maxHeartbeats 1600000 in
theorem pickedN (s : Int) (w : World) : Calls Tryz.prog 122 #[.func (.func 31) #[.int .i64 s] #[]] w fun e w' =>
   ∃ g cap, e = .returned (.slice (some ⟨g, 0, none⟩) (memI s).length cap) ∧ Memb.Own w.heap.size w' (some ⟨g, 0, none⟩) cap (memI s) ∧ Below w.heap.size w w' := by
 obtain ⟨i0, hi, hz0, hz1, hz2⟩ := info_parts Memb.info2
 go_enter Tryz.func122, Tryz.ntmps122
 go_wp2
 go_loopw [3, 6] (fun v i wr => ∃ k : Nat, k ≤ 60 ∧ i = .int .i64 k ∧ wr.ownsRow w.heap.size 2 1 v (memK s k).length ((memK s k).map (Value.int .i64)) ∧ Below w.heap.size w wr ∧ w.heap.size ≤ wr.heap.size ∧ Hid (¬ v = .slice none 0 0))
   (fun _ i _ => 60 - (intOf i).toNat)
 case atStart => exact ⟨0, by omega, rfl, by have := Memb.own_empty w; simpa [memK, Bit.memTo] using this, (Below.refl _ _).alloc (Nat.le_refl _) _, by simp, show ¬ _ = _ by simp⟩
 case round =>
   obtain ⟨k, hk, rfl, hown, hnx, hB, HNN⟩ := hrel
   have hle := Memb.memK_le s k
   by_cases hlt : k < 60
   · cases hb : (Base.okB s && (Base.inB (k : Int) && Bit.bit s k))
     · have HM : Hid (memK s (k + 1) = memK s k) := Memb.memK_miss s k hlt hb
       have HB : Hid ((Base.okB s && (Base.inB (k : Int) && Bit.bit s k)) = false) := hb
       clear hb
       go_wp2_with (go_at_call 31; refine (Base.has _ _ _).mono ?_; rintro e w' ⟨rfl, rfl⟩; rw [Int.toNat_natCast, HB.out])
       go_roundw
       case rel => exact ⟨k + 1, by omega, by go_num, by rw [HM.out]; exact hown, hnx, hB, HNN⟩
       case measure => simp [intOf]; omega
     · have HM : Hid (memK s (k + 1) = memK s k ++ [(k : Int)]) := Memb.memK_hit s k hb
       have HB : Hid ((Base.okB s && (Base.inB (k : Int) && Bit.bit s k)) = true) := hb
       clear hb
       go_wp2_with (first | (go_at_call 31; refine (Base.has _ _ _).mono ?_; rintro e w' ⟨rfl, rfl⟩; rw [Int.toNat_natCast, HB.out]) | (at_builtin; refine wpList_append_own _ rfl _ _ 25 rfl w.heap.size 2 i0 (.int .i64 0) 1 8 Tryz.underlying25 hi hz0 hz1 hz2 rfl (by decide) _ _ _ rfl (hown.alloc _) ⟨wr.heap.size, 0, none⟩ 1 1 [.int .i64 (k : Int)] rfl rfl ?c1 ?c2 ?c3 ?c4 ?c5 ?_))
       case c1 =>
         intro j u hj
         match j, hj with
         | 0, hj => simp at hj; subst hj; simp [Addr.add]
       case c2 => intro u hu; simp at hu; subst hu; rfl
       case c3 => unfold maxLen; omega
       case c4 => omega
       case c5 => simp; omega
       intro v' w1 hown' hgrow hnil
       have R := Memb.rel_put HM.out hB hown hnx hown' hgrow
       have HN2 : Hid (¬ v' = .slice none 0 0) := hnil
       clear hown' hgrow hown hnil HNN
       go_wp2
       go_roundw
       case rel => exact ⟨k + 1, by omega, by go_num, R.1, R.2.1, R.2.2, HN2⟩
       case measure => simp [intOf]; omega
   · obtain rfl : k = 60 := by omega
     have hown2 : wr.ownsRow w.heap.size 2 1 u3 (memI s).length ((memI s).map (Value.int .i64)) := hown
     obtain ⟨g, cap, hv, ho⟩ := row_some hown2 HNN.out
     have HV : Hid (u3 = .slice (some ⟨g, 0, none⟩) (memI s).length cap) := hv
     clear hv hown hown2 HNN
     go_wp2
     go_ret
     exact ⟨g, cap, by rw [← HV.out]; rfl, ho, hnx⟩
theorem eqlNil (a : Addr) (n c : Nat) (w : World) : (binOp .eql 134 (.slice (some a) n c) (.slice none 0 0)).run Tryz.prog w = .ok (.bool false) w := by kernel_rfl
set_option maxHeartbeats 1600000 in
theorem clone (g cap : Nat) (l : List Int) (w : World) (hl : l.length ≤ 1048576) (hlt : g < w.heap.size) (hrd : Lst.Rd w (some ⟨g, 0, none⟩) l) : Calls Tryz.prog 150 #[.slice (some ⟨g, 0, none⟩) l.length cap] w fun e w' =>
   ∃ g' cap', e = .returned (.slice (some ⟨g', 0, none⟩) l.length cap') ∧ Memb.Own w.heap.size w' (some ⟨g', 0, none⟩) cap' l ∧ Below w.heap.size w w' := by
 obtain ⟨i0, hi, hz0, hz1, hz2⟩ := info_parts Memb.info2
 have hrd0 : Lst.Rd (w.alloc (.cells #[] 2)) (some ⟨g, 0, none⟩) l := by
   rcases hrd with h | ⟨b, hb, hc⟩
   · exact .inl h
   · injection hb with hb
     injection hb with hb
     subst hb
     exact .inr ⟨g, rfl, fun j hj => (World.cell?_alloc_lt w _ ⟨g, j, none⟩ hlt).trans (hc j hj)⟩
 have heq := eqlNil ⟨g, 0, none⟩ l.length cap
 go_enter Tryz.func150, Tryz.ntmps150
 go_wp2_with (at_builtin; refine wpList_append_own _ rfl _ _ 134 rfl w.heap.size 2 i0 (.int .i64 0) 1 8 Tryz.underlying134 hi hz0 hz1 hz2 rfl (by decide) _ 0 [] rfl (Memb.own_empty w) ⟨g, 0, none⟩ l.length cap (l.map (Value.int .i64)) rfl (by simp) (Rm.rd_nums hrd0 rfl) (Rm.nums_one l) ?c3 ?c4 ?c5 ?_)
 case c3 => unfold maxLen; omega
 case c4 => omega
 case c5 => simp
 intro v' w5 hown' hgrow hnil
 have HR : Hid (w5.ownsRow w.heap.size 2 1 v' l.length (l.map (Value.int .i64)) ∧ Below w.heap.size w w5) :=
   ⟨by simpa using hown', ((Below.refl w.heap.size w).alloc (Nat.le_refl _) _).grown hgrow (by simp) (fun i hi => by simp [Value.ownBlock] at hi; omega)⟩
 obtain ⟨g', ca, hv, ho⟩ := row_some HR.out.1 (by first | exact hnil | (intro e; have := (hnil.1 e).1; simp at this))
 clear hown' hgrow hi hz0 hz1 hz2 hnil
 subst hv
 go_wp2
 go_ret
 exact ⟨g', ca, rfl, ho, HR.out.2⟩
set_option maxHeartbeats 1600000 in
theorem sorted (g cap : Nat) (lv : Value) (cf : Int → Int → Int) (S : Int → Prop) (l : List Int) (w : World) (hl : l.length ≤ 1048576) (hlt : g < w.heap.size) (hrd : Lst.Rd w (some ⟨g, 0, none⟩) l) (ho : Ord cf S) (hg : Good S l)
   (hc : ∀ (W : World) (x y : Int), Below w.heap.size w W → S x → S y → Calls Tryz.prog 124 #[lv, .int .i64 x, .int .i64 y] W fun e w' => e = .returned (.int .i64 (cf x y)) ∧ Below W.heap.size W w') :
   Calls Tryz.prog 123 #[.slice (some ⟨g, 0, none⟩) l.length cap, .func (.func 124) #[lv] #[]] w fun e w' =>
     ∃ (g' cap' : Nat) (m : List Int), e = .returned (.slice (some ⟨g', 0, none⟩) m.length cap') ∧ Memb.Own w.heap.size w' (some ⟨g', 0, none⟩) cap' m ∧ m.Perm l ∧ Up cf 0 m.length m ∧ Below w.heap.size w w' := by
 have HK : Hid (∀ (w1 : World) (g' cap' : Nat), Memb.Own w.heap.size w1 (some ⟨g', 0, none⟩) cap' l → Below w.heap.size w w1 → Calls Tryz.prog 151 #[.slice (some ⟨g', 0, none⟩) l.length cap', .func (.func 124) #[lv] #[]] w1 fun e w' => e = .returned (.tuple #[]) ∧ ∃ m : List Int, m.length = l.length ∧ Memb.Own w.heap.size w' (some ⟨g', 0, none⟩) cap' m ∧ m.Perm l ∧ Up cf 0 m.length m ∧ Below w.heap.size w w') := fun w1 g' cap' hO hB => by
   have hgg := World.ownsRow.lt hO g' rfl
   refine (sortFunc w.heap.size g' cap' lv cf S l w1 ⟨fun W x y hW hx hy => hc W x y (hB.grown hW hB.size (fun k hk => by injection hk with hk; omega)) hx hy, ho⟩ hO hg hl).mono ?_
   rintro e w2 ⟨he, m, hm, hu⟩
   exact ⟨he, m, hm.len, hm.row.own, hm.mix.perm, by rw [hm.len]; exact hu, hB.grown hm.row.gr hB.size (fun k hk => by injection hk with hk; omega)⟩
 have hcl := clone g cap l w hl hlt hrd
 clear hc hrd ho hg
 go_enter Tryz.func123, Tryz.ntmps123
 go_wp2_with fail
 refine hcl.mono ?_
 rintro e w1 ⟨g', cap', rfl, hO, hB⟩
 have hcall := HK.out w1 g' cap' hO hB
 clear hcl HK hO hB
 go_wp2_with fail
 refine hcall.mono ?_
 rintro e w2 ⟨rfl, m, hlen, hO, hp, hu, hB⟩
 have HM : Hid (m.length = l.length ∧ Memb.Own w.heap.size w2 (some ⟨g', 0, none⟩) cap' m ∧ m.Perm l ∧ Up cf 0 m.length m ∧ Below w.heap.size w w2) := ⟨hlen, hO, hp, hu, hB⟩
 clear hlen hO hp hu hB hcall
 go_wp2
 go_ret
 exact ⟨g', cap', m, by rw [HM.out.1]; rfl, HM.out.2⟩
set_option maxHeartbeats 1600000 in
theorem ordered (g off cap : Nat) (L : List K) (s : Int) (w : World) (hl : laceB L = true) (hg : g < w.heap.size) (hr : RdK w (some ⟨g, off, none⟩) L) (hin : ∀ x ∈ memI s, 0 ≤ x ∧ x < (L.length : Int)) :
   Calls Tryz.prog 94 #[.slice (some ⟨g, off, none⟩) L.length cap, .int .i64 s] w (Sg.NumsPost (Tl.ordL L (memI s)) w) := by
 have h60 := ((Lc.lace_iff L).1 hl).1
 have hle : (memI s).length ≤ 60 := by unfold Memb.memI; split; exact Bit.memTo_le s 60; simp
 have HR : Hid (memI s = memI s ∧ (memI s).Pairwise (· < ·)) := ⟨rfl, memI_rises s⟩
 have HS : Hid (∀ (w1 : World) (g' cap' : Nat), Memb.Own w.heap.size w1 (some ⟨g', 0, none⟩) cap' (memI s) → Below w.heap.size w w1 → Calls Tryz.prog 123 #[.slice (some ⟨g', 0, none⟩) (memI s).length cap', .func (.func 124) #[.slice (some ⟨g, off, none⟩) L.length cap] #[]] w1 fun e w' => ∃ (g2 cap2 : Nat), e = .returned (.slice (some ⟨g2, 0, none⟩) (Tl.ordL L (memI s)).length cap2) ∧ Memb.Own w.heap.size w' (some ⟨g2, 0, none⟩) cap2 (Tl.ordL L (memI s)) ∧ Below w.heap.size w w') := fun w1 g' cap' hO hB => by
   have hgg := World.ownsRow.lt hO g' rfl
   refine (sorted g' cap' (.slice (some ⟨g, off, none⟩) L.length cap) (cfL L) (fun x => 0 ≤ x ∧ x < (L.length : Int)) (memI s) w1 (by omega) hgg.2 (Lst.own_rd hO) (ord_cf L _) ⟨hin, (memI_rises s).imp (fun h => by omega)⟩ (fun W x y hW hx hy => ?_)).mono ?_
   · obtain ⟨p, rfl⟩ := Int.eq_ofNat_of_zero_le hx.1
     obtain ⟨q, rfl⟩ := Int.eq_ofNat_of_zero_le hy.1
     exact compare g off cap L p q W h60 (by omega) (by omega) (hr.below (hB.trans (hW.mono hB.size)))
   · rintro e w2 ⟨g2, cap2, m, he, hO2, hp, hu, hB2⟩
     obtain rfl := is_ord L (memI_rises s) hp hu
     refine ⟨g2, cap2, he, ?_, hB.trans (hB2.mono hB.size)⟩
     obtain ⟨h1, ⟨h2, h3⟩ | ⟨g3, c3, cur, e3, hB3, hrest⟩⟩ := hO2
     · exact ⟨h1, .inl ⟨h2, h3⟩⟩
     · exact ⟨h1, .inr ⟨g3, c3, cur, e3, Nat.le_trans hB.size hB3, hrest⟩⟩
 have hpk := pickedN s w
 clear hr hin hl
 generalize Tl.ordL L (memI s) = r at HS
 clear HR
 generalize memI s = m at HS hpk hle
 go_enter Tryz.func94, Tryz.ntmps94
 go_wp2_with fail
 refine hpk.mono ?_
 rintro e w1 ⟨g', cap', rfl, hO, hB⟩
 have hcall := HS.out w1 g' cap' hO hB
 clear hO hB hpk HS
 go_wp2_with fail
 refine hcall.mono ?_
 rintro e w2 ⟨g2, cap2, rfl, hO, hB⟩
 have HM : Hid (Memb.Own w.heap.size w2 (some ⟨g2, 0, none⟩) cap2 r ∧ Below w.heap.size w w2) := ⟨hO, hB⟩
 clear hO hB hcall
 go_wp2
 go_ret
 exact ⟨some ⟨g2, 0, none⟩, cap2, rfl, HM.out.1, HM.out.2⟩
end So
namespace So
open Kn (K okK)
open Bit (bit withB memTo)
open Lc (at' RdK WordsOk laceB setB)
open Sg (isB bel metI)
open Nd (nodsB)
open Ak (onlyF)
open Memb (memI)
theorem fresh1 (bl ba g off cap : Nat) (L : List K) (a b : Int) (w : World) (hlc : laceB L = true) (hg : g < w.heap.size) (hr : RdK w (some ⟨g, off, none⟩) L)
   (hbl : bl < w.heap.size) (hba : ba < w.heap.size) (cl : w.cell? ⟨bl, 0, none⟩ = some (.slice (some ⟨g, off, none⟩) L.length cap)) (ca : w.cell? ⟨ba, 0, none⟩ = some (.int .i64 a)) :
   Calls Tryz.prog 96 #[.int .i64 b, .pointer (some ⟨bl, 0, none⟩), .pointer (some ⟨ba, 0, none⟩)] w fun e w' => e = .returned (.bool (nodsB L a b)) ∧ Below w.heap.size w w' := by
 have hcall := Nd.nods g off cap L a b w hlc hg hr
 clear hlc
 go_enter Tryz.func96, Tryz.ntmps96
 go_wp2_with fail
 refine hcall.mono ?_
 rintro e w2 ⟨rfl, hb2⟩
 clear hcall
 go_wp2
 go_ret
 exact ⟨rfl, hb2⟩
theorem box2 (w : World) (v : Value) (a : Int) (t u : TypeId) : Below w.heap.size w ((w.alloc (.cells #[v] t)).alloc (.cells #[.int .i64 a] u)) ∧ ((w.alloc (.cells #[v] t)).alloc (.cells #[.int .i64 a] u)).cell? ⟨w.heap.size, 0, none⟩ = some v ∧ ((w.alloc (.cells #[v] t)).alloc (.cells #[.int .i64 a] u)).cell? ⟨w.heap.size + 1, 0, none⟩ = some (.int .i64 a) ∧ w.heap.size + 1 < ((w.alloc (.cells #[v] t)).alloc (.cells #[.int .i64 a] u)).heap.size := by
 have c1 := Sg.boxNew (w.alloc (.cells #[v] t)) (.int .i64 a) u
 simp only [World.size_alloc] at c1
 exact ⟨((Below.refl _ _).alloc (Nat.le_refl _) _).alloc (by simp) _, Sg.boxCell _ (Sg.boxNew w v t).1, c1.1, by simp⟩
theorem only_fresh {L : List K} (hl : laceB L = true) {k : Nat} (hk : k < L.length) {e : Int} (he0 : -1 ≤ e) (he : e < (L.length : Int)) : onlyF (fun b => nodsB L (k : Int) b) (memI (bits .andNot .i64 (metI L (k : Int)) (metI L e))) = Tl.frS L k e L.length := by
 have h60 := ((Lc.lace_iff L).1 hl).1
 have hmk : metI L (k : Int) = bel L k := by unfold Sg.metI; rw [if_pos ⟨by omega, by omega⟩, Int.toNat_natCast]
 have hme : (0 ≤ metI L e ∧ metI L e < 1152921504606846976) ∧ ∀ j, bit (metI L e) j = (decide (0 ≤ e) && bit (bel L e.toNat) j) := by
   unfold Sg.metI
   by_cases h0 : 0 ≤ e
   · rw [if_pos ⟨h0, he⟩]
     exact ⟨Sg.bel_bd L e.toNat (by omega), fun j => by rw [decide_eq_true h0, Bool.true_and]⟩
   · rw [if_neg (by omega)]
     exact ⟨⟨by omega, by omega⟩, fun j => by rw [Lc.bit_zero, decide_eq_false h0, Bool.false_and]⟩
 have h1 := Sg.bel_bd L k (by omega)
 have hbd := Sg.andNot_bd' (bel L k) (metI L e) h1.1 h1.2
 rw [hmk]
 have ho := Ak.onlyF_bits (fun b => nodsB L (k : Int) b) (memI (bits .andNot .i64 (bel L k) (metI L e))) (fun a h => Ak.mem_memI h)
 refine Lc.eq_of_bits _ _ ho.1.1 (Tl.frS_bd L k e _ h60).1 fun j => ?_
 rw [Bool.eq_iff_iff, ho.2 j, Ak.mem_bit hbd.1 hbd.2, Sg.bit_andNot _ _ h1.1 h1.2 hme.1.1 hme.1.2, hme.2 j, Tl.bit_frS L k e _ h60]
 unfold Tl.fresN Nd.nodsB
 have hik : isB L (k : Int) = true := by unfold Sg.isB; rw [hl]; simp; omega
 rw [hik, Int.toNat_natCast, Int.toNat_natCast]
 simp only [Bool.and_eq_true, Bool.true_and, decide_eq_true_eq]
 constructor
 · rintro ⟨⟨a1, a2⟩, a3, a4⟩
   have hj : j < L.length := by have := Ag.sees_le hl hk a1; omega
   exact ⟨hj, a1, a2, a4⟩
 · rintro ⟨a0, a1, a2, a3⟩
   refine ⟨⟨a1, a2⟩, ?_, a3⟩
   unfold Sg.isB; rw [hl]; simp; omega
theorem memI_of {s : Int} (h0 : 0 ≤ s) (h1 : s < 1152921504606846976) : memI s = memTo s 60 := by
 unfold Memb.memI; rw [(Base.okB_iff s).2 ⟨h0, h1⟩, if_pos rfl]
theorem memI_in {L : List K} (h60 : L.length ≤ 60) {s : Int} (hin : ∀ i, bit s i = true → i < L.length) : ∀ x ∈ memI s, 0 ≤ x ∧ x < (L.length : Int) := fun x hx => by
 unfold Memb.memI at hx
 split at hx
 · obtain ⟨j, _, rfl, hb⟩ := (Bit.mem_memTo s 60 x).1 hx
   have := hin j hb
   omega
 · simp at hx
set_option maxHeartbeats 6400000 in
theorem fresh (g off cap : Nat) (L : List K) (k : Nat) (e : Int) (w : World) (hl : laceB L = true) (hk : k < L.length) (he0 : -1 ≤ e) (he : e < (L.length : Int)) (hg : g < w.heap.size) (hr : RdK w (some ⟨g, off, none⟩) L) :
   Calls Tryz.prog 68 #[.slice (some ⟨g, off, none⟩) L.length cap, .int .i64 (k : Int), .int .i64 e] w (Sg.NumsPost (Tl.freshL L (k : Int) e) w) := by
 have h60 := ((Lc.lace_iff L).1 hl).1
 have HLC : Hid (laceB L = true) := hl
 have HFR : Hid (onlyF (fun b => nodsB L (k : Int) b) (memI (bits .andNot .i64 (metI L (k : Int)) (metI L e))) = Tl.frS L k e L.length) := only_fresh hl hk he0 he
 have HFL : Hid (Tl.freshL L (k : Int) e = Tl.ordL L (memI (Tl.frS L k e L.length))) := by
   show _ = _
   unfold Tl.freshL
   have := Tl.frS_bd L k e L.length h60
   rw [Int.toNat_natCast, memI_of this.1 this.2]
 have HIN : Hid (∀ x ∈ memI (Tl.frS L k e L.length), 0 ≤ x ∧ x < (L.length : Int)) := memI_in h60 (Tl.frS_in h60 k e)
 have P0 : Hid (_) := box2 w (.slice (some ⟨g, off, none⟩) L.length cap) (k : Int) 46 2
 clear hl
 go_enter Tryz.func68, Tryz.ntmps68
 go_wp2_with fail
 generalize (w.alloc (.cells #[.slice (some ⟨g, off, none⟩) L.length cap] 46)).alloc (.cells #[.int .i64 (k : Int)] 2) = w0 at P0 ⊢
 obtain ⟨B0, C0, D0, S0⟩ := P0
 generalize hb : w.heap.size = bl at *
 have hbl : bl < w0.heap.size := by omega
 have hg0 : g < w0.heap.size := by omega
 have HR0 : Hid (RdK w0 (some ⟨g, off, none⟩) L) := hr.below (hb ▸ B0)
 have HBE : Hid (∀ (W : World) (x : Int), Below w0.heap.size w0 W → Calls Tryz.prog 93 #[.slice (some ⟨g, off, none⟩) L.length cap, .int .i64 x] W fun e w' => e = .returned (.int .i64 (metI L x)) ∧ Below W.heap.size W w') := fun W x hW => Sg.below g off cap L x W HLC.out (Nat.lt_of_lt_of_le hg0 hW.size) (HR0.out.below hW)
 clear hr
 obtain ⟨X, _, F, HF, HG⟩ := Fam.fam w0
 have hc0 : ∀ z, (F z).cell? ⟨bl, 0, none⟩ = some (.slice (some ⟨g, off, none⟩) L.length cap) := fun z => ((HF.out z).cell (p := ⟨bl, 0, none⟩) hbl).trans C0
 have hd0 : ∀ z, (F z).cell? ⟨bl + 1, 0, none⟩ = some (.int .i64 (k : Int)) := fun z => ((HF.out z).cell (p := ⟨bl + 1, 0, none⟩) S0).trans D0
 refine Fam.region (F := F) (by kernel_rfl) (by kernel_rfl) (HG.out _ (Below.refl _ w0).drew) ?_
 repeat (go_big_quiet_step (first
   | (go_at_call 93; exact (HBE.out _ _ (HF.out _)).mono fun _ _ h => ⟨h.1, HG.out _ ((HF.out _).trans (h.2.mono (HF.out _).size))⟩)))
 refine wpQuiet_nil ?_
 intro w2 hw2
 obtain ⟨z, rfl⟩ := hw2
 have BV : Below w0.heap.size w0 (F z) := HF.out z
 have cV := hc0 z
 have dV := hd0 z
 clear hc0 hd0 HG HF HBE C0 D0
 generalize F z = V at BV cV dV ⊢
 have hblV : bl < V.heap.size := Nat.lt_of_lt_of_le hbl BV.size
 have hbaV : bl + 1 < V.heap.size := Nat.lt_of_lt_of_le S0 BV.size
 have hgV : g < V.heap.size := Nat.lt_of_lt_of_le hg0 BV.size
 have HRV : Hid (RdK V (some ⟨g, off, none⟩) L) := HR0.out.below BV
 have HBV : Hid (Below bl w V) := B0.trans (BV.mono (by omega))
 have HON : Hid (∀ W : World, Below V.heap.size V W → Calls Tryz.prog 95 #[.int .i64 (bits .andNot .i64 (metI L (k : Int)) (metI L e)), .func (.func 96) #[] #[.pointer (some ⟨bl, 0, none⟩), .pointer (some ⟨bl + 1, 0, none⟩)]] W fun en w' => en = .returned (.int .i64 (Tl.frS L k e L.length)) ∧ Below W.heap.size W w') := fun W hW => by
   have := Ak.only 96 (enters_of Tryz.func96 (by kernel_rfl) rfl) (.pointer (some ⟨bl, 0, none⟩)) (.pointer (some ⟨bl + 1, 0, none⟩)) (fun b => nodsB L (k : Int) b) (bits .andNot .i64 (metI L (k : Int)) (metI L e)) W (fun U b hU _ _ =>
     have hVU : Below V.heap.size V U := hW.trans (hU.mono hW.size)
     fresh1 bl (bl + 1) g off cap L (k : Int) b U HLC.out (Nat.lt_of_lt_of_le hgV hVU.size) (HRV.out.below hVU) (Nat.lt_of_lt_of_le hblV hVU.size) (Nat.lt_of_lt_of_le hbaV hVU.size) ((hVU.cell (p := ⟨bl, 0, none⟩) hblV).trans cV) ((hVU.cell (p := ⟨bl + 1, 0, none⟩) hbaV).trans dV))
   rw [HFR.out] at this
   exact this
 have HOR : Hid (∀ W : World, Below V.heap.size V W → Calls Tryz.prog 94 #[.slice (some ⟨g, off, none⟩) L.length cap, .int .i64 (Tl.frS L k e L.length)] W (Sg.NumsPost (Tl.freshL L (k : Int) e) W)) := fun W hW => by
   have := ordered g off cap L (Tl.frS L k e L.length) W HLC.out (Nat.lt_of_lt_of_le hgV hW.size) (HRV.out.below hW) HIN.out
   rw [← HFL.out] at this
   exact this
 have HSV : Hid (∀ W : World, Below V.heap.size V W → W.cell? ⟨bl, 0, none⟩ = some (.slice (some ⟨g, off, none⟩) L.length cap)) := fun W hW => (hW.cell (p := ⟨bl, 0, none⟩) hblV).trans cV
 have HEND : Hid (∀ (W U : World) (ao : Option Addr) (ca : Nat), Below V.heap.size V W → Memb.Own W.heap.size U ao ca (Tl.freshL L (k : Int) e) → Below W.heap.size W U → Memb.Own bl U ao ca (Tl.freshL L (k : Int) e) ∧ Below bl w U) := fun W U ao ca hW hO hB => by
   have hsz : bl ≤ W.heap.size := Nat.le_trans (Nat.le_of_lt hblV) hW.size
   refine ⟨?_, HBV.out.trans ((hW.mono (Nat.le_of_lt hblV)).trans (hB.mono hsz))⟩
   obtain ⟨h1, ⟨h2, h3⟩ | ⟨g3, c3, cur, e3, hB3, hrest⟩⟩ := hO
   · exact ⟨h1, .inl ⟨h2, h3⟩⟩
   · exact ⟨h1, .inr ⟨g3, c3, cur, e3, Nat.le_trans hsz hB3, hrest⟩⟩
 clear HFR HFL HIN HR0 HRV HBV B0 BV dV S0
 generalize hrr : Tl.freshL L (k : Int) e = r at HOR HEND
 have HRR : Hid (Tl.freshL L (k : Int) e = r) := hrr
 clear hrr
 generalize Tl.frS L k e L.length = fr at HON HOR
 generalize bits .andNot .i64 (metI L (k : Int)) (metI L e) = lf at HON ⊢
 clear hk he0 he h60 hg hbl hg0 hblV hbaV hgV HLC
 go_wp2_with fail
 go_region_with (first
     | (go_at_call 95
        refine (HON.out _ (Below.refl _ _).drew).mono ?_
        rintro e V1 ⟨rfl, b1⟩
        have B1 : Below V.heap.size V V1 := (Below.refl _ V).drew.trans (b1.mono (Nat.le_refl _))
        have c1 := HSV.out _ B1)
     | (go_at_call 94
        refine (HOR.out _ B1).mono ?_
        rintro e V2 ⟨ao, ca, rfl, hO, b2⟩
        have B2 : Hid (_) := HEND.out _ _ _ _ B1 hO b2
        clear hO b2))
 all_goals (go_wp2)
 all_goals go_ret
 all_goals rw [HRR.out]
 all_goals refine ⟨ao, ca, rfl, ?_, ?_⟩
 all_goals rw [hb]
 all_goals first | exact B2.out.1 | exact B2.out.2
end So
namespace Tp
open Kn (K okK)
open Lc (at' RdK WordsOk laceB)
open Ch (chainL)
open Tl (taleF taleL freshL TlSt)
set_option maxHeartbeats 6400000 in
theorem tale (g off cap : Nat) (L : List K) (C : List Int) (k : Nat) (w : World) (hlc : laceB L = true) (hc : Rm.coinsB C = true) (hg : g < w.heap.size) (hr : RdK w (some ⟨g, off, none⟩) L) (hk : k < L.length) :
   Calls Tryz.prog 32 #[.slice (some ⟨g, off, none⟩) L.length cap, .agg #[.int .i64 (Ch.leadI C 0), .int .i64 (Ch.leadI C 1), .int .i64 (Ch.leadI C 2), .int .i64 (Ch.leadI C 3), .int .i64 (Ch.leadI C 4), .int .i64 (Ch.leadI C 5), .int .i64 (Ch.leadI C 6)], .int .i64 (k : Int)] w (Sg.NumsPost (taleL L C (k : Int)) w) := by
 obtain ⟨i0, hi, hz0, hz1, hz2⟩ := info_parts Memb.info2
 have h60 := ((Lc.lace_iff L).1 hlc).1
 have HCH : Hid (∀ W : World, Below w.heap.size w W → Calls Tryz.prog 67 #[.slice (some ⟨g, off, none⟩) L.length cap, .agg #[.int .i64 (Ch.leadI C 0), .int .i64 (Ch.leadI C 1), .int .i64 (Ch.leadI C 2), .int .i64 (Ch.leadI C 3), .int .i64 (Ch.leadI C 4), .int .i64 (Ch.leadI C 5), .int .i64 (Ch.leadI C 6)], .int .i64 (k : Int)] W fun e w' => ∃ ao ca, e = .returned (.slice ao (chainL L C (k : Int)).length ca) ∧ Memb.Own W.heap.size w' ao ca (chainL L C (k : Int)) ∧ Below W.heap.size W w') := fun W hW => Cn.chain g off cap L C k W hlc hc (Nat.lt_of_lt_of_le hg hW.size) (hr.below hW) hk
 have HFR : Hid (∀ (W : World) (q : Nat) (e : Int), q < L.length → -1 ≤ e → e < (L.length : Int) → Below w.heap.size w W → Calls Tryz.prog 68 #[.slice (some ⟨g, off, none⟩) L.length cap, .int .i64 (q : Int), .int .i64 e] W (Sg.NumsPost (freshL L (q : Int) e) W)) := fun W q e hq h0 h1 hW => So.fresh g off cap L q e W hlc hq h0 h1 (Nat.lt_of_lt_of_le hg hW.size) (hr.below hW)
 have hcl := Ch.chain_len L C (k : Int)
 have HCM : Hid (∀ x ∈ chainL L C (k : Int), 0 ≤ x ∧ x < (L.length : Int)) := fun x hx => by
   have := Tl.chF_mem L C _ _ _ hx
   omega
 have hcl2 : (chainL L C (k : Int)).length ≤ 60 := by omega
 have HTL : Hid (taleL L C (k : Int) = taleF L (-1) (chainL L C (k : Int))) := rfl
 obtain ⟨V0, hV0⟩ : ∃ V0, V0 = w.alloc (.cells #[.int .i64 (Ch.leadI C 0), .int .i64 (Ch.leadI C 1), .int .i64 (Ch.leadI C 2), .int .i64 (Ch.leadI C 3), .int .i64 (Ch.leadI C 4), .int .i64 (Ch.leadI C 5), .int .i64 (Ch.leadI C 6)] 49) := ⟨_, rfl⟩
 have HV0 : Hid (V0 = w.alloc (.cells #[.int .i64 (Ch.leadI C 0), .int .i64 (Ch.leadI C 1), .int .i64 (Ch.leadI C 2), .int .i64 (Ch.leadI C 3), .int .i64 (Ch.leadI C 4), .int .i64 (Ch.leadI C 5), .int .i64 (Ch.leadI C 6)] 49)) := hV0
 have HB0 : Hid (Below w.heap.size w (V0.alloc (.cells #[] 2))) := by rw [hV0]; exact ((Below.refl _ _).alloc (Nat.le_refl _) _).alloc (by simp) _
 have hs0 : V0.heap.size = w.heap.size + 1 := by rw [hV0]; simp
 have HR7 : Hid (Db.RowI V0 w.heap.size 7 (fun i => Ch.leadI C (i : Int))) := by rw [hV0]; exact Ch.rowI_seven w 49 (fun i => Ch.leadI C (i : Int))
 have HE0 : Hid ((V0.alloc (.cells #[] 2)).ownsRow w.heap.size 2 1 (.slice (some ⟨V0.heap.size, 0, none⟩) 0 0) 0 []) := by
   obtain ⟨a1, a2⟩ := Memb.own_empty V0
   refine ⟨a1, ?_⟩
   rcases a2 with a2 | ⟨g2, c2, cur, e1, e2, rest⟩
   · exact .inl a2
   · exact .inr ⟨g2, c2, cur, e1, Nat.le_trans (by omega) e2, rest⟩
 have f : ∀ i : Nat, i < 7 → (V0.alloc (.cells #[] 2)).cell? ⟨w.heap.size, i, none⟩ = some (.int .i64 (Ch.leadI C (i : Int))) := fun i hi => ((Below.refl V0.heap.size V0).alloc (Nat.le_refl _) _ |>.cell (p := ⟨w.heap.size, i, none⟩) (by show w.heap.size < V0.heap.size; omega)).trans (HR7.out.rd i hi)
 have p0 := f 0 (by omega)
 have p1 := f 1 (by omega)
 have p2 := f 2 (by omega)
 have p3 := f 3 (by omega)
 have p4 := f 4 (by omega)
 have p5 := f 5 (by omega)
 have p6 := f 6 (by omega)
 have hsz1 : V0.heap.size < (V0.alloc (.cells #[] 2)).heap.size := by simp
 clear hlc hr hcl hV0 HR7 f
 go_enter Tryz.func32, Tryz.ntmps32
 go_wp2_with fail
 rw [← HV0.out]
 clear HV0
 generalize V0.alloc (.cells #[] 2) = w2 at HB0 HE0 hsz1 p0 p1 p2 p3 p4 p5 p6 ⊢
 rw [hs0] at HE0 hsz1
 have hch := HCH.out w2 HB0.out
 clear HCH hs0
 go_wp2_with fail
 refine hch.mono ?_
 rintro en w3 ⟨co, ccp, rfl, hoc, hb3⟩
 have HS3 : Hid (TlSt w w3 w3 (w.heap.size + 1) (w.heap.size + 1) 0 []) := ⟨Fm.row_below HE0.out hb3, HB0.out.trans (hb3.mono HB0.out.size), World.grownBy.refl _ _, .inl rfl⟩
 have HCO : Hid (Ch.chainL L C (k : Int) = [] ∨ ∃ cb, co = some ⟨cb, 0, none⟩ ∧ cb ≠ (w.heap.size + 1) ∧ cb < w3.heap.size ∧ ∀ j, j < (Ch.chainL L C (k : Int)).length → w3.cell? ⟨cb, j, none⟩ = some (.int .i64 ((Ch.chainL L C (k : Int)).getD j 0))) := by
   rcases Lst.own_rd hoc with e | ⟨cb, e, hc⟩
   · exact .inl e
   · subst e
     have := World.ownsRow.lt hoc cb rfl
     exact .inr ⟨cb, rfl, by omega, this.2, hc⟩
 clear hoc hb3 HB0 HE0 hch p0 p1 p2 p3 p4 p5 p6 hsz1
 generalize Ch.chainL L C (k : Int) = ch at HCM HTL hcl2 HCO ⊢
 go_wp2
 go_loopw [7, 8, 17] (fun v ev iv wr => ∃ (i og cp : Nat), i ≤ ch.length ∧ iv = .int .i64 (i : Int) ∧ ev = .int .i64 ((ch.take i).getLastD (-1)) ∧ v = .slice (some ⟨og, 0, none⟩) (taleF L (-1) (ch.take i)).length cp ∧ (taleF L (-1) (ch.take i)).length ≤ 60 * i ∧ Hid (TlSt w w3 wr (w.heap.size + 1) og cp (taleF L (-1) (ch.take i)))) (fun _ _ iv _ => ch.length - (intOf iv).toNat)
 case atStart => exact ⟨0, (w.heap.size + 1), 0, by omega, rfl, rfl, rfl, by simp [taleF], HS3⟩
 case round =>
   obtain ⟨i, og, cp, hil, rfl, hev, hv, hln, HS⟩ := hrel
   clear HS3
   by_cases hlt : i < ch.length
   · subst hv hev
     have hii : (i : Int) < (ch.length : Int) := by omega
     rcases HCO.out with e | ⟨cb, rfl, hcb0, hcb3, hcc⟩
     · rw [e] at hlt; simp at hlt
     have HST : Hid (taleF L (-1) (ch.take (i + 1)) = taleF L (-1) (ch.take i) ++ freshL L (ch.getD i 0) ((ch.take i).getLastD (-1))) := by
       show _ = _; rw [Lc.take_snocI ch i hlt, Tl.taleF_snoc]
     have HLST : Hid ((ch.take (i + 1)).getLastD (-1) = ch.getD i 0) := by
       show _ = _; rw [Lc.take_snocI ch i hlt]; simp
     have hmem := HCM.out (ch.getD i 0) (by simp [List.getD, List.getElem?_eq_getElem hlt])
     have hlast : -1 ≤ (ch.take i).getLastD (-1) ∧ (ch.take i).getLastD (-1) < (L.length : Int) := by
       rcases hh : (ch.take i) with _ | ⟨y, ys⟩
       · simp; omega
       · have hm : (y :: ys).getLastD (-1) ∈ ch.take i := by rw [hh, List.getLastD_eq_getLast?, List.getLast?_eq_some_getLast (by simp)]; simp
         have := HCM.out _ (List.mem_of_mem_take hm)
         omega
     have cj := World.grownBy.cell HS.out.gr (hcc i hlt) (by intro q; injection q with q; exact hcb0 q)
     have hfl60 := Tl.fresh_len L (ch.getD i 0) ((ch.take i).getLastD (-1))
     generalize taleF L (-1) (ch.take i) = tl at HST HS hln ⊢
     generalize (ch.take i).getLastD (-1) = el at HST hlast hfl60 ⊢
     generalize ch.getD i 0 = cx at HST HLST hmem cj hfl60
     obtain ⟨q, rfl⟩ := Int.eq_ofNat_of_zero_le hmem.1
     have hfr := HFR.out wr q el (by omega) hlast.1 hlast.2 HS.out.bel
     clear hcc HFR
     generalize freshL L (q : Int) el = fl at HST hfr hfl60
     go_wp2_with fail
     refine hfr.mono ?_
     rintro en w6 ⟨fo, fc, rfl, hof, hb6⟩
     have HS6 : Hid (TlSt w w3 w6 (w.heap.size + 1) og cp tl) := HS.out.below hb6
     have cj6 := (hb6.cell (p := ⟨cb, i, none⟩) (Nat.lt_of_lt_of_le hcb3 HS.out.gr.size)).trans cj
     have hcb6 : cb < w6.heap.size := Nat.lt_of_lt_of_le (Nat.lt_of_lt_of_le hcb3 HS.out.gr.size) hb6.size
     have hogw := World.ownsRow.lt HS.out.own og rfl
     have hcog : cb ≠ og := by
       rcases HS.out.at' with q1 | q1
       · rw [q1]; exact hcb0
       · omega
     have HLN2 : Hid ((taleF L (-1) (ch.take (i + 1))).length ≤ 60 * (i + 1)) := by show _ ≤ _; rw [HST.out]; simp; omega
     have hwsz6 : w.heap.size ≤ w6.heap.size := HS6.out.bel.size
     clear hfr hb6 cj HS
     cases fo with
     | none =>
       obtain ⟨_, ⟨hq, hq2⟩ | ⟨fb, fcap, cur, hq, _⟩⟩ := hof
       · injection hq with _ _ hq3
         subst hq3
         have hfn : fl = [] := List.eq_nil_of_length_eq_zero hq2
         subst hfn
         have HST2 : Hid (taleF L (-1) (ch.take (i + 1)) = tl) := by show _ = _; rw [HST.out, List.append_nil]
         have HSN : Hid (TlSt w w3 w6 (w.heap.size + 1) og cp (taleF L (-1) (ch.take (i + 1)))) := by show TlSt _ _ _ _ _ _ _; rw [HST2.out]; exact HS6.out
         clear HST hq2
         go_wp2_with (first | (at_builtin; refine wpList_append_own_none rfl _ _ 25 rfl w.heap.size 2 i0 1 Tryz.underlying25 hi (.slice (some ⟨og, 0, none⟩) tl.length cp) tl.length (tl.map (Value.int .i64)) (by first | rfl | simp [Act.eval]) HS6.out.own (by first | rfl | simp [Act.eval]) ?_) | fail)
         go_wp2
         go_roundw
         case rel => exact ⟨i + 1, og, cp, by omega, by go_num, by rw [HLST.out], by rw [HST2.out], HLN2.out, HSN⟩
         case measure => simp [intOf]; omega
       · injection hq with hq _ _
         exact absurd hq (by simp)
     | some fa =>
       obtain ⟨fb, hfa, hfcell, hfb6⟩ : ∃ fb, fa = ⟨fb, 0, none⟩ ∧ (∀ j, j < fl.length → w6.cell? ⟨fb, j, none⟩ = some (.int .i64 (fl.getD j 0))) ∧ fb < w6.heap.size := by
         have hrdf := Lst.own_rd hof
         have hltf := World.ownsRow.lt hof fa.block rfl
         obtain ⟨_, ⟨hq, _⟩ | ⟨fb, fcap, cur, hq, _⟩⟩ := hof
         · injection hq with hq _ _
           exact absurd hq (by simp)
         · injection hq with hq _ _
           injection hq with hq
           subst hq
           refine ⟨fb, rfl, fun j hj => ?_, hltf.2⟩
           rcases hrdf with e | ⟨g5, e, hc5⟩
           · rw [e] at hj; simp at hj
           · injection e with e; injection e with e; subst e; exact hc5 j hj
       subst hfa
       have HNEW : Hid (∀ (j : Nat) u, (fl.map (Value.int .i64))[j]? = some u → w6.cell? ((⟨fb, 0, none⟩ : Addr).add j) = some u) := fun j u hu => by
         rw [List.getElem?_map] at hu
         rcases hj : fl[j]? with _ | y
         · rw [hj] at hu; simp at hu
         · rw [hj] at hu
           simp at hu
           subst hu
           have hjl : j < fl.length := (List.getElem?_eq_some_iff.1 hj).1
           have := hfcell j hjl
           rw [show fl.getD j 0 = y by simp [List.getD, hj]] at this
           rw [show (⟨fb, 0, none⟩ : Addr).add j = ⟨fb, j, none⟩ by simp [Addr.add]; intro e; exact e.symm]
           exact this
       have HONE : Hid (∀ u ∈ fl.map (Value.int .i64), u.oneCell' = true) := fun u hu => by
         obtain ⟨y, _, rfl⟩ := List.mem_map.1 hu; rfl
       clear hof hfcell
       go_wp2_with (first | (at_builtin; refine wpList_append_own_at _ rfl _ _ 25 rfl w.heap.size 2 i0 (.int .i64 0) 1 8 Tryz.underlying25 hi hz0 hz1 hz2 rfl (by decide) (.slice (some ⟨og, 0, none⟩) tl.length cp) tl.length (tl.map (Value.int .i64)) (by first | rfl | simp [Act.eval]) HS6.out.own ⟨fb, 0, none⟩ fl.length fc (fl.map (Value.int .i64)) (by first | rfl | simp [Act.eval]) (by simp) HNEW.out HONE.out ?c3 ?c4 ?c5 ?_) | fail)
       case c3 => unfold maxLen; omega
       case c4 => omega
       case c5 => exact hwsz6
       intro v' w7 hown' hgrow hnil hat
       obtain ⟨g2, c2, rfl, hS7⟩ := HS6.out.app hown' hgrow (by first | exact hnil | exact fun e => by have := hnil.1 e; simp at this) (by simpa [Value.ownBlock] using hat)
       have cj7 := World.grownBy.cell hgrow cj6 (by intro q1; injection q1 with q1; exact hcog q1)
       have HSN : Hid (TlSt w w3 w7 (w.heap.size + 1) g2 c2 (taleF L (-1) (ch.take (i + 1)))) := by show TlSt _ _ _ _ _ _ _; rw [HST.out]; exact hS7
       have HLE : Hid ((taleF L (-1) (ch.take (i + 1))).length = tl.length + fl.length) := by show _ = _; rw [HST.out]; simp
       clear hown' hgrow hnil hat HS6 HNEW HONE hS7 cj6 HST
       go_wp2
       go_roundw
       case rel => exact ⟨i + 1, g2, c2, by omega, by go_num, by rw [HLST.out], by rw [HLE.out], HLN2.out, HSN⟩
       case measure => simp [intOf]; omega
   · obtain rfl : i = ch.length := by omega
     have e : ch.take ch.length = ch := List.take_length
     rw [e] at HS hv
     have HV : Hid (u7 = .slice (some ⟨og, 0, none⟩) (taleF L (-1) ch).length cp) := hv
     have HF : Hid (Memb.Own w.heap.size wr (some ⟨og, 0, none⟩) cp (taleF L (-1) ch) ∧ Below w.heap.size w wr) := ⟨HS.out.own, HS.out.bel⟩
     clear hv HS e hln hev
     go_wp2
     go_ret
     exact ⟨some ⟨og, 0, none⟩, cp, by rw [HTL.out, ← HV.out]; rfl, by rw [HTL.out]; exact HF.out.1, HF.out.2⟩
end Tp
end Go.Proofs.YtflhaiakhfmmmaaGreat
namespace Go.Proofs.YtflhaiakhfmmmaaGreat
open Go.RowKit Go.Shelf
set_option maxRecDepth 100000
set_option linter.unusedVariables false
attribute [local go_sem] Oper.semAt_some
namespace Tp
open Kn (K okK)
open Lc (at' RdK WordsOk laceB)
open Tl (taleI taleL outI outL)
open Sg (isB)
open Fw (ledLace)
set_option maxHeartbeats 1600000 in
theorem implTaleOf (g off cap : Nat) (L : List K) (ao : Option Addr) (cc : Nat) (C : List Int) (k : Int) (w : World) (hlen : L.length ≤ 1099511627776) (hw : WordsOk L) (hr : RdK w (some ⟨g, off, none⟩) L) (hl : C.length ≤ 1048576) (hrd : Lst.Rd w ao C) (hao : ∀ c, ao = some ⟨c, 0, none⟩ → c < w.heap.size) :
   Calls Tryz.prog 7 #[.slice (some ⟨g, off, none⟩) L.length cap, .slice ao C.length cc, .int .i64 k] w (Sg.NumsPost (taleI L C k) w) := by
 have hled := ledLace g off cap L ao cc C w hlen hw hr hl hrd hao
 clear hr hrd hao hw
 go_enter Tryz.func7, Tryz.ntmps7
 go_wp2_with fail
 refine hled.mono ?_
 clear hled
 rintro e w1 (⟨hlc, hc, g', rfl, hg', hrg, hb1⟩ | ⟨hn, v, y0, y1, y2, y3, y4, y5, y6, rfl, hb1⟩)
 · have HB0 : Hid (Below w.heap.size w (w1.alloc (.cells #[.int .i64 (Ch.leadI C 0), .int .i64 (Ch.leadI C 1), .int .i64 (Ch.leadI C 2), .int .i64 (Ch.leadI C 3), .int .i64 (Ch.leadI C 4), .int .i64 (Ch.leadI C 5), .int .i64 (Ch.leadI C 6)] 49))) := hb1.alloc hb1.size _
   have hB1 : Below w1.heap.size w1 (w1.alloc (.cells #[.int .i64 (Ch.leadI C 0), .int .i64 (Ch.leadI C 1), .int .i64 (Ch.leadI C 2), .int .i64 (Ch.leadI C 3), .int .i64 (Ch.leadI C 4), .int .i64 (Ch.leadI C 5), .int .i64 (Ch.leadI C 6)] 49)) := (Below.refl _ _).alloc (Nat.le_refl _) _
   have HRW : Hid (Db.RowI (w1.alloc (.cells #[.int .i64 (Ch.leadI C 0), .int .i64 (Ch.leadI C 1), .int .i64 (Ch.leadI C 2), .int .i64 (Ch.leadI C 3), .int .i64 (Ch.leadI C 4), .int .i64 (Ch.leadI C 5), .int .i64 (Ch.leadI C 6)] 49)) w1.heap.size 7 (fun i => Ch.leadI C (i : Int))) := Ch.rowI_seven w1 49 (fun i => Ch.leadI C (i : Int))
   generalize hv : w1.alloc (.cells #[.int .i64 (Ch.leadI C 0), .int .i64 (Ch.leadI C 1), .int .i64 (Ch.leadI C 2), .int .i64 (Ch.leadI C 3), .int .i64 (Ch.leadI C 4), .int .i64 (Ch.leadI C 5), .int .i64 (Ch.leadI C 6)] 49) = V at HB0 hB1 HRW
   have hgV := Nat.lt_of_lt_of_le hg' hB1.size
   have hrV := hrg.below hB1
   have HV : Hid (w1.alloc (.cells #[.int .i64 (Ch.leadI C 0), .int .i64 (Ch.leadI C 1), .int .i64 (Ch.leadI C 2), .int .i64 (Ch.leadI C 3), .int .i64 (Ch.leadI C 4), .int .i64 (Ch.leadI C 5), .int .i64 (Ch.leadI C 6)] 49) = V) := hv
   clear hv hg' hrg hb1 hB1
   have h60 := ((Lc.lace_iff L).1 hlc).1
   have HA : Hid ((Base.okB (2 ^ L.length - 1) && (Base.inB k && Bit.bit (2 ^ L.length - 1) k.toNat)) = (decide (0 ≤ k) && decide (k < (L.length : Int)))) := Sg.all_has h60 k
   have HON := Cn.on_yes hlc hc k
   cases hq : (decide (0 ≤ k) && decide (k < (L.length : Int)))
   · have HT : Hid (taleI L C k = []) := by show _ = _; unfold Tl.taleI; rw [HON, hq]; rfl
     have HAF : Hid ((Base.okB (2 ^ L.length - 1) && (Base.inB k && Bit.bit (2 ^ L.length - 1) k.toNat)) = false) := HA.out.trans hq
     have hp0 := Cn.nums_empty w V HB0.out
     have HP : Hid (_) := hp0
     clear HON HA hq hlc hc HRW hrV hgV hp0
     go_wp2_with fail
     rw [HV.out]
     clear HV
     go_wp2_with (first | (go_at_call 30; refine (Lc.all _ _ _ _ h60).mono ?_; rintro e w' ⟨rfl, rfl⟩) | (go_at_call 31; refine (Base.has _ _ _).mono ?_; rintro e w' ⟨rfl, rfl⟩; rw [HAF.out]))
     go_ret
     rw [HT.out]
     exact HP.out
   · have HAT : Hid ((Base.okB (2 ^ L.length - 1) && (Base.inB k && Bit.bit (2 ^ L.length - 1) k.toNat)) = true) := HA.out.trans hq
     have HT : Hid (taleI L C k = taleL L C k) := by show _ = _; unfold Tl.taleI; rw [HON, hq]; rfl
     rw [Bool.and_eq_true, decide_eq_true_eq, decide_eq_true_eq] at hq
     obtain ⟨p, rfl⟩ : ∃ p : Nat, k = (p : Int) := ⟨k.toNat, by omega⟩
     have hch := tale g' 0 L.length L C p V hlc hc hgV hrV (by omega)
     have p0 := HRW.out.rd 0 (by omega)
     have p1 := HRW.out.rd 1 (by omega)
     have p2 := HRW.out.rd 2 (by omega)
     have p3 := HRW.out.rd 3 (by omega)
     have p4 := HRW.out.rd 4 (by omega)
     have p5 := HRW.out.rd 5 (by omega)
     have p6 := HRW.out.rd 6 (by omega)
     generalize taleL L C (p : Int) = cl at hch HT
     clear HON HA hq hlc hc HRW hrV hgV
     go_wp2_with fail
     rw [HV.out]
     clear HV
     go_wp2_with (first | (go_at_call 30; refine (Lc.all _ _ _ _ h60).mono ?_; rintro e w' ⟨rfl, rfl⟩) | (go_at_call 31; refine (Base.has _ _ _).mono ?_; rintro e w' ⟨rfl, rfl⟩; rw [HAT.out]) | (go_at_call 32; refine hch.mono ?_; rintro e w3 ⟨ao3, ca3, rfl, ho3, hb3⟩))
     go_ret
     rw [HT.out]
     exact ⟨ao3, ca3, rfl, Cn.own_lower ho3 HB0.out.size, HB0.out.trans (hb3.mono HB0.out.size)⟩
 · have hp0 := Cn.nums_empty w (w1.alloc (.cells #[.int .i64 y0, .int .i64 y1, .int .i64 y2, .int .i64 y3, .int .i64 y4, .int .i64 y5, .int .i64 y6] 49)) (hb1.alloc hb1.size _)
   have HT : Hid (taleI L C k = []) := by show _ = _; unfold Tl.taleI; rw [Cn.on_no hn]; rfl
   rw [World.size_alloc] at hp0
   have HP : Hid (_) := hp0
   clear hn hb1 hp0
   go_wp2
   go_ret
   rw [HT.out]
   exact HP.out
end Tp
end Go.Proofs.YtflhaiakhfmmmaaGreat
