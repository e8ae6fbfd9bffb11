/-
 What the law on what is told of a set answers, where the drawing of a room keeps its word and the program's OutOf and WordsOf answer as they should: true at every code.
-/
import Derived.Test.YtflhaiakhfmmmaaGreatOZd
namespace Go.Proofs.YtflhaiakhfmmmaaGreat
open Go.RowKit
set_option maxRecDepth 100000
set_option linter.unusedVariables false
namespace Rm
open Kn (K okK)
open Bit (bit memTo)
open Lc (at' RdK laceB flat OwnK cellsOf)
open Cur (At)
set_option maxHeartbeats 800000 in
theorem drawOutOf (HD : DrawsRoom) (HDC : DrawsRoomC) (a : Option Addr) (len cap : Nat) (w : World) (hl : len ≤ 4096) (hc : Cur.Code w a len) :
   Calls Tryz.prog 17 #[.slice a len cap] w fun e w' => ∃ v L ao cc C s, e = .returned (.tuple #[v, .slice ao (C : List Int).length cc, .int .i64 s]) ∧ DrawnC w w' v L ao cc C ∧ (-9223372036854775808 ≤ s ∧ s ≤ 9223372036854775807) := by
 go_enter Tryz.func17, Tryz.ntmps17
 go_wp2_with fail
 refine (drawFirmOnes HD HDC a len cap _ hl hc).mono ?_
 rintro e w1 ⟨v, L, ao, cc, C, k, rfl, hD, hk⟩
 go_wp2
 refine bodyPost_ret (v := .tuple #[v, .slice ao C.length cc, .int .i64 k]) (by simp [results, Tryz.f17, go_sem]) rfl ?_
 exact ⟨_, L, ao, cc, C, k, rfl, hD, hk⟩
set_option maxHeartbeats 800000 in
theorem drawWordsOf (HD : DrawsRoom) (a : Option Addr) (len cap : Nat) (w : World) (hl : len ≤ 4096) (hc : Cur.Code w a len) :
   Calls Tryz.prog 19 #[.slice a len cap] w (TwoPost w) := by
 go_enter Tryz.func19, Tryz.ntmps19
 go_wp2_with fail
 refine (drawRespects HD a len cap _ hl hc).mono ?_
 rintro e w1 ⟨v, L, ao, cc, X, rfl, hD, ho, hz, hx⟩
 go_wp2
 refine bodyPost_ret (v := .tuple #[v, .slice ao X.length cc]) (by simp [results, Tryz.f19, go_sem]) rfl ?_
 exact ⟨_, L, ao, cc, X, rfl, hD, ho, hz, hx⟩
end Rm
namespace Rm
open Kn (K okK)
open Bit (bit memTo)
open Lc (at' RdK laceB setB)
open Sg (bel isB NumsPost)
open Tl (freshL taleI taleL taleF)
open Ch (chainI chainL onB)
structure TvO (w wx : World) (B g : Nat) (L : List K) (ao : Option Addr) (C : List Int) (fo : Option Addr) (fc : Nat) (t : List Int) : Prop where
 lies : LiesC wx g L ao C
 own : Memb.Own B wx fo fc t
 bel : Below w.heap.size w wx
theorem TvO.below {w wx w' : World} {B g : Nat} {L : List K} {ao : Option Addr} {C : List Int} {fo : Option Addr} {fc : Nat} {t : List Int} (h : TvO w wx B g L ao C fo fc t) (hb : Below wx.heap.size wx w') : TvO w w' B g L ao C fo fc t :=
 ⟨h.lies.below hb, Lst.own_below h.own hb, h.bel.trans (hb.mono h.bel.size)⟩
theorem TvO.drewN {w wx : World} {B g : Nat} {L : List K} {ao : Option Addr} {C : List Int} {fo : Option Addr} {fc : Nat} {t : List Int} (h : TvO w wx B g L ao C fo fc t) (n : Nat) : TvO w (wx.drewN n) B g L ao C fo fc t := h.below (Db.below_drewN (Below.refl _ wx) n)
structure AdO (wx : World) (B : Nat) (ao : Option Addr) (ca : Nat) (A : List Int) (bo : Option Addr) (cb : Nat) (D : List Int) : Prop where
 a : Memb.Own B wx ao ca A
 d : Memb.Own B wx bo cb D
theorem AdO.below {wx w' : World} {B : Nat} {ao : Option Addr} {ca : Nat} {A : List Int} {bo : Option Addr} {cb : Nat} {D : List Int} (h : AdO wx B ao ca A bo cb D) (hb : Below wx.heap.size wx w') : AdO w' B ao ca A bo cb D := ⟨Lst.own_below h.a hb, Lst.own_below h.d hb⟩
theorem own_split {B : Nat} {w : World} {fo : Option Addr} {fc : Nat} {fl : List Int} (h : Memb.Own B w fo fc fl) : (fo = none ∧ fl = [] ∧ fc = 0) ∨ ∃ fb, fo = some ⟨fb, 0, none⟩ ∧ fb < w.heap.size ∧ ∀ j, j < fl.length → w.cell? ⟨fb, j, none⟩ = some (.int .i64 (fl.getD j 0)) := by
 have hrd := Lst.own_rd h
 have hlt := World.ownsRow.lt h
 obtain ⟨_, ⟨hq, hq2⟩ | ⟨fb, fcap, cur, hq, _⟩⟩ := h
 · injection hq with q1 _ q3
   exact .inl ⟨q1, List.eq_nil_of_length_eq_zero hq2, q3⟩
 · injection hq with q1 _ _
   subst q1
   refine .inr ⟨fb, rfl, (hlt fb rfl).2, fun j hj => ?_⟩
   rcases hrd with e | ⟨g5, e, hc5⟩
   · rw [e] at hj; simp at hj
   · injection e with e; injection e with e; subst e; exact hc5 j hj
structure WtO (w4 wx : World) (og oc : Nat) (l : List Int) : Prop where
 bel : Below w4.heap.size w4 wx
 own : wx.ownsRow w4.heap.size 2 1 (.slice (some ⟨og, 0, none⟩) l.length oc) l.length (l.map (Value.int .i64))
theorem WtO.below {w4 wx w' : World} {og oc : Nat} {l : List Int} (h : WtO w4 wx og oc l) (hb : Below wx.heap.size wx w') : WtO w4 w' og oc l := ⟨h.bel.trans (hb.mono h.bel.size), own_fr (Fr.of_below hb (fun _ => False)) h.own (fun _ _ q => q)⟩
end Rm
namespace Tx
open Kn (K okK)
open Lc (at' RdK WordsOk laceB)
open Tl (inR)
theorem infoT : (Tryz.prog.info? 9).map (fun i => (i.zero, i.size, i.bytes)) = some (some (.string ⟨#[]⟩), 1, 16) := by kernel_rfl
def OwnT (B : Nat) (w : World) (ao : Option Addr) (cap : Nat) (S : List ByteArray) : Prop := w.ownsRow B 9 1 (.slice ao S.length cap) S.length (S.map Value.string)
def RdT (w : World) (ao : Option Addr) (S : List ByteArray) : Prop := S = [] ∨ ∃ g, ao = some ⟨g, 0, none⟩ ∧ g < w.heap.size ∧ ∀ j, j < S.length → w.cell? ⟨g, j, none⟩ = some (.string (S.getD j ⟨#[]⟩))
def TextsPost (S : List ByteArray) (w : World) (e : Ending) (w' : World) : Prop := ∃ ao cap, e = .returned (.slice ao S.length cap) ∧ OwnT w.heap.size w' ao cap S ∧ Below w.heap.size w w'
theorem own_shape {B : Nat} {w : World} {v : Value} {S : List ByteArray} (h : w.ownsRow B 9 1 v S.length (S.map Value.string)) : ∃ ao cap, v = .slice ao S.length cap ∧ OwnT B w ao cap S := by
 have h' := h
 obtain ⟨_, ⟨hv, hn⟩ | ⟨g, cap, cur, hv, _⟩⟩ := h
 · exact ⟨none, 0, by rw [hv, hn], by unfold OwnT; rw [hn] at h' ⊢; rw [hv] at h'; exact h'⟩
 · exact ⟨some ⟨g, 0, none⟩, cap, hv, by unfold OwnT; rw [← hv]; exact h'⟩
theorem own_rd {B : Nat} {w : World} {ao : Option Addr} {cap : Nat} {S : List ByteArray} (h : OwnT B w ao cap S) : RdT w ao S := by
 have hlt := World.ownsRow.lt h
 have hcells := @World.ownsRow.cells _ _ _ _ _ _ _ h
 obtain ⟨_, ⟨hv, hn⟩ | ⟨g, cap', cur, hv, _⟩⟩ := h
 · exact .inl (List.eq_nil_of_length_eq_zero hn)
 · injection hv with hv _ _
   subst hv
   refine .inr ⟨g, rfl, (hlt g rfl).2, fun j hj => ?_⟩
   have := hcells (g := g) rfl j (.string (S.getD j ⟨#[]⟩)) (by simp [List.getD, hj])
   by_cases hj0 : j = 0
   · subst hj0; simpa [Addr.add] using this
   · simpa [Addr.add, hj0] using this
theorem own_below {B : Nat} {w w' : World} {ao : Option Addr} {cap : Nat} {S : List ByteArray} (h : OwnT B w ao cap S) (hb : Below w.heap.size w w') : OwnT B w' ao cap S := by
 have hlt := World.ownsRow.lt h
 obtain ⟨h1, h2⟩ := h
 refine ⟨h1, ?_⟩
 rcases h2 with h2 | ⟨g, cap', cur, hv, hB, hg, rest⟩
 · exact .inl h2
 · refine .inr ⟨g, cap', cur, hv, hB, ?_, rest⟩
   rw [hb.block g (hlt g (by rw [hv]; rfl)).2]
   exact hg
def wordsL (L : List K) : List Int → List ByteArray
 | [] => []
 | x :: r => if (at' L x.toNat).word.toList.isEmpty then wordsL L r else (at' L x.toNat).word :: wordsL L r
theorem words_snoc (L : List K) : ∀ (l : List Int) (x : Int), wordsL L (l ++ [x]) = if (at' L x.toNat).word.toList.isEmpty then wordsL L l else wordsL L l ++ [(at' L x.toNat).word] := by
 intro l
 induction l with
 | nil => intro x; show wordsL L [x] = _; unfold wordsL; split <;> rfl
 | cons y r ih =>
   intro x
   show wordsL L (y :: (r ++ [x])) = _
   unfold wordsL
   rw [ih]
   split <;> split <;> rfl
theorem words_len (L : List K) : ∀ l : List Int, (wordsL L l).length ≤ l.length := by
 intro l
 induction l with
 | nil => exact Nat.le_refl _
 | cons y r ih => unfold wordsL; split <;> simp <;> omega
def wordsI (L : List K) (X : List Int) : List ByteArray := if laceB L && X.all (inR L) then wordsL L X else []
theorem own_empty (w : World) : (w.alloc (.cells #[] 9)).ownsRow w.heap.size 9 1 (.slice (some ⟨w.heap.size, 0, none⟩) 0 0) 0 [] :=
 ⟨rfl, .inr ⟨w.heap.size, 0, #[], rfl, Nat.le_refl _, by show (w.heap.push _)[w.heap.size]? = _; rw [Array.getElem?_push_size], Nat.le_refl _, by unfold maxLen; omega, rfl, rfl⟩⟩
theorem one_newT (W : World) (x : ByteArray) (t : TypeId) : ∀ (j : Nat) u, ([Value.string x])[j]? = some u → (W.alloc (.cells #[.string x] t)).cell? ((⟨W.heap.size, 0, none⟩ : Addr).add j) = some u := by
 intro j u hj
 match j, hj with
 | 0, hj => simp at hj; subst hj; simp [Addr.add]
theorem one_oneT (x : ByteArray) : ∀ u ∈ [Value.string x], u.oneCell' = true := by
 intro u hu; simp at hu; subst hu; rfl
set_option maxHeartbeats 1600000 in
theorem l12Words (g off cap : Nat) (L : List K) (ao : Option Addr) (cc : Nat) (X : List Int) (w : World) (hl : X.length ≤ 1048576) (hin : ∀ i, i < X.length → 0 ≤ X.getD i 0 ∧ X.getD i 0 < (L.length : Int)) (hg : g < w.heap.size) (hr : RdK w (some ⟨g, off, none⟩) L) (hrd : Lst.Rd w ao X) (hao : ∀ c, ao = some ⟨c, 0, none⟩ → c < w.heap.size) :
   Calls Tryz.prog 57 #[.slice (some ⟨g, off, none⟩) L.length cap, .slice ao X.length cc] w (TextsPost (wordsL L X) w) := by
 obtain ⟨i0, hi, hz0, hz1, hz2⟩ := info_parts infoT
 have HE0 : Hid ((w.alloc (.cells #[] 9)).ownsRow w.heap.size 9 1 (.slice (some ⟨w.heap.size, 0, none⟩) 0 0) 0 [] ∧ Below w.heap.size w (w.alloc (.cells #[] 9))) := ⟨own_empty w, (Below.refl _ w).alloc (Nat.le_refl _) _⟩
 have HIN : Hid (∀ i, i < X.length → 0 ≤ X.getD i 0 ∧ X.getD i 0 < (L.length : Int)) := hin
 have HRD : Hid (Lst.Rd w ao X) := hrd
 have HR : Hid (RdK w (some ⟨g, off, none⟩) L) := hr
 have HAO : Hid (∀ c, ao = some ⟨c, 0, none⟩ → c < w.heap.size) := hao
 clear hin hrd hr hao
 go_enter Tryz.func57, Tryz.ntmps57
 go_wp2
 go_loopw [5, 6] (fun v i wr => ∃ j : Nat, j ≤ X.length ∧ i = .int .i64 j ∧ Hid (wr.ownsRow w.heap.size 9 1 v (wordsL L (X.take j)).length ((wordsL L (X.take j)).map Value.string)) ∧ Hid (Below w.heap.size w wr)) (fun _ i _ => X.length - (intOf i).toNat)
 case atStart => exact ⟨0, by omega, rfl, HE0.out.1, HE0.out.2⟩
 case round =>
   obtain ⟨j, hj, rfl, HO, HB⟩ := hrel
   clear HE0
   by_cases hlt : j < X.length
   · have hlti : (j : Int) < (X.length : Int) := by omega
     obtain ⟨gx, hgx, hcx⟩ : ∃ gx, ao = some ⟨gx, 0, none⟩ ∧ wr.cell? ⟨gx, j, none⟩ = some (.int .i64 (X.getD j 0)) := by
       rcases HRD.out with e | ⟨gx, e, hc⟩
       · rw [e] at hlt; simp at hlt
       · exact ⟨gx, e, (HB.out.cell (p := ⟨gx, j, none⟩) (HAO.out gx e)).trans (hc j hlt)⟩
     subst hgx
     have hxb := HIN.out j hlt
     have HSN : Hid (wordsL L (X.take (j + 1)) = if (at' L (X.getD j 0).toNat).word.toList.isEmpty then wordsL L (X.take j) else wordsL L (X.take j) ++ [(at' L (X.getD j 0).toNat).word]) := by
       show _ = _
       rw [← words_snoc]
       congr 1
       rw [List.take_add_one, List.getElem?_eq_getElem hlt]
       simp [List.getD, hlt]
     have hwl := words_len L (X.take j)
     have hwl2 : (wordsL L (X.take j)).length ≤ 1048576 := by rw [List.length_take] at hwl; omega
     clear hwl
     generalize X.getD j 0 = y at hcx hxb HSN
     obtain ⟨p, rfl⟩ := Int.eq_ofNat_of_zero_le hxb.1
     have hp : p < L.length := by omega
     rw [Int.toNat_natCast] at HSN
     obtain ⟨_, hcs⟩ := HR.out.on p hp
     obtain ⟨_, _, _, k3⟩ := hcs.below HB.out hg
     generalize (at' L p).word = wd at k3 HSN
     generalize hnx : wordsL L (X.take (j + 1)) = nx at HSN
     have HNX : Hid (wordsL L (X.take (j + 1)) = nx) := hnx
     generalize wordsL L (X.take j) = pv at HSN HO hwl2
     clear hnx hcs
     cases hwd : wd.toList.isEmpty
     rotate_left
     · obtain rfl : nx = pv := by rw [HSN.out, if_pos hwd]
       have hne : (!wd.toList.isEmpty) = false := by rw [hwd]; rfl
       clear HSN hwd
       go_wp2
       go_roundw
       case rel => exact ⟨j + 1, by omega, by go_num, by rw [HNX.out]; exact HO, HB⟩
       case measure => simp [intOf]; omega
     · obtain rfl : nx = pv ++ [wd] := by rw [HSN.out, if_neg (by rw [hwd]; simp)]
       have hne : (!wd.toList.isEmpty) = true := by rw [hwd]; rfl
       have own3 := HO.out
       have hW3 := HB.out.size
       clear HSN hwd
       go_wp2_with (first | (at_builtin; refine wpList_append_own _ rfl _ _ 36 rfl w.heap.size 9 i0 (.string ⟨#[]⟩) 1 16 Tryz.underlying36 hi hz0 hz1 hz2 rfl (by decide) u5 pv.length (pv.map Value.string) (by first | rfl | simp [Act.eval]) (own3.alloc _) ⟨wr.heap.size, 0, none⟩ 1 1 [.string wd] (by first | rfl | simp [Act.eval]) rfl (one_newT wr wd _) (one_oneT wd) ?c3 ?c4 ?c5 ?_) | fail)
       case c3 => unfold maxLen; omega
       case c4 => omega
       case c5 => simp; omega
       intro v' w3 hown' hgrow hnil
       have HO3 : Hid (w3.ownsRow w.heap.size 9 1 v' (pv ++ [wd]).length ((pv ++ [wd]).map Value.string)) := by show World.ownsRow _ _ _ _ _ _ _; simpa using hown'
       have HB3 : Hid (Below w.heap.size w w3) := (HB.out.alloc HB.out.size _).grown hgrow (by have := HB.out.size; simp; omega) (fun q hq => (World.ownsRow.lt own3 q hq).1)
       clear hown' hgrow hnil own3 HO HB
       go_wp2
       go_roundw
       case rel => exact ⟨j + 1, by omega, by go_num, by rw [HNX.out]; exact HO3, HB3⟩
       case measure => simp [intOf]; omega
   · obtain rfl : j = X.length := by omega
     have hlti : ¬ (X.length : Int) < (X.length : Int) := by omega
     rw [List.take_length] at HO
     obtain ⟨bo, bc, rfl, hown⟩ := own_shape HO.out
     have HT : Hid (TextsPost (wordsL L X) w (.returned (.slice bo (wordsL L X).length bc)) wr) := ⟨bo, bc, rfl, hown, HB.out⟩
     clear HO hown HB
     generalize (wordsL L X).length = nS at HT ⊢
     go_wp2
     go_ret
     exact HT.out
theorem wordsI_len (L : List K) (X : List Int) : (wordsI L X).length ≤ X.length := by
 unfold wordsI
 split
 · exact words_len L X
 · exact Nat.zero_le _
set_option maxHeartbeats 1600000 in
theorem specWordsOf (g off cap : Nat) (L : List K) (ao : Option Addr) (cc : Nat) (X : List Int) (w : World) (hcap : L.length ≤ cap) (hw : WordsOk L) (hg : g < w.heap.size) (hr : RdK w (some ⟨g, off, none⟩) L) (hl : X.length ≤ 1048576) (hrd : Lst.Rd w ao X) (hao : ∀ c, ao = some ⟨c, 0, none⟩ → c < w.heap.size) :
   Calls Tryz.prog 23 #[.slice (some ⟨g, off, none⟩) L.length cap, .slice ao X.length cc] w (TextsPost (wordsI L X) w) := by
 have HRD : Hid (Lst.Rd w ao X) := hrd
 have HR : Hid (RdK w (some ⟨g, off, none⟩) L) := hr
 have HAO : Hid (∀ c, ao = some ⟨c, 0, none⟩ → c < w.heap.size) := hao
 have HW : Hid (WordsOk L) := hw
 have HEP : Hid (∀ W : World, Below w.heap.size w W → wordsI L X = [] → TextsPost (wordsI L X) w (.returned (.slice (some ⟨W.heap.size, 0, none⟩) 0 0)) (W.alloc (.cells #[] 9))) := fun W hW e => by
   rw [e]
   refine ⟨some ⟨W.heap.size, 0, none⟩, 0, rfl, ?_, hW.alloc hW.size _⟩
   obtain ⟨h1, h2 | ⟨q, cap', cur, hv, hB, hn⟩⟩ := own_empty W
   · exact ⟨h1, .inl h2⟩
   · exact ⟨h1, .inr ⟨q, cap', cur, hv, by have := hW.size; omega, hn⟩⟩
 have hlX : (X.length : Int) ≤ 1048576 := by omega
 clear hrd hr hao hw
 go_enter Tryz.func23, Tryz.ntmps23
 go_wp2
 go_loopw [5] (fun i wr => ∃ j : Nat, j ≤ X.length ∧ i = .int .i64 j ∧ wr = w ∧ Hid (∀ q, q < j → inR L (X.getD q 0) = true)) (fun i _ => X.length - (intOf i).toNat)
 case atStart => exact ⟨0, by omega, rfl, rfl, fun q hq => absurd hq (by omega)⟩
 case round =>
   obtain ⟨j, hj, rfl, rfl, HA⟩ := hrel
   by_cases hlt : j < X.length
   · have hlti : (j : Int) < (X.length : Int) := by omega
     obtain ⟨gx, hgx, hcx⟩ : ∃ gx, ao = some ⟨gx, 0, none⟩ ∧ wr.cell? ⟨gx, j, none⟩ = some (.int .i64 (X.getD j 0)) := by
       rcases HRD.out with e | ⟨gx, e, hc⟩
       · rw [e] at hlt; simp at hlt
       · exact ⟨gx, e, hc j hlt⟩
     subst hgx
     have HNO : Hid (inR L (X.getD j 0) = false → wordsI L X = []) := fun h => by
       unfold wordsI
       refine if_neg ?_
       intro q
       rw [Bool.and_eq_true, List.all_eq_true] at q
       have := q.2 _ (show X.getD j 0 ∈ X by unfold List.getD; rw [List.getElem?_eq_getElem hlt]; exact List.getElem_mem hlt)
       rw [h] at this; exact Bool.noConfusion this
     have HYS : Hid (inR L (X.getD j 0) = true → ∀ q, q < j + 1 → inR L (X.getD q 0) = true) := fun h q hq => by
       by_cases e : q = j
       · subst e; exact h
       · exact HA.out q (by omega)
     have HDF : Hid (inR L (X.getD j 0) = (decide (0 ≤ X.getD j 0) && decide (X.getD j 0 < (L.length : Int)))) := rfl
     generalize X.getD j 0 = y at hcx HNO HYS HDF
     clear HA
     by_cases h0 : y < 0
     · have HTT : Hid (TextsPost (wordsI L X) wr (.returned (.slice (some ⟨wr.heap.size, 0, none⟩) 0 0)) (wr.alloc (.cells #[] 9))) := HEP.out wr (Below.refl _ _) (HNO.out (by rw [HDF.out, decide_eq_false (by omega : ¬ 0 ≤ y)]; rfl))
       clear HNO HYS HDF
       go_wp2
       go_ret
       exact HTT.out
     · by_cases h1 : y < (L.length : Int)
       · have HT : Hid (∀ q, q < j + 1 → inR L (X.getD q 0) = true) := HYS.out (by rw [HDF.out, decide_eq_true (by omega : 0 ≤ y), decide_eq_true h1]; rfl)
         have h1' : ¬ (L.length : Int) ≤ y := by omega
         clear HNO HYS HDF
         go_wp2
         go_roundw
         case rel => exact ⟨j + 1, by omega, by go_num, by trivial, HT⟩
         case measure => simp [intOf]; omega
       · have HTT : Hid (TextsPost (wordsI L X) wr (.returned (.slice (some ⟨wr.heap.size, 0, none⟩) 0 0)) (wr.alloc (.cells #[] 9))) := HEP.out wr (Below.refl _ _) (HNO.out (by rw [HDF.out, decide_eq_false h1]; simp))
         have h1' : (L.length : Int) ≤ y := by omega
         clear HNO HYS HDF
         go_wp2
         go_ret
         exact HTT.out
   · obtain rfl : j = X.length := by omega
     have hlti : ¬ (X.length : Int) < (X.length : Int) := by omega
     have HALL : Hid (X.all (inR L) = true) := by
       show _ = _
       rw [List.all_eq_true]
       intro x hx
       obtain ⟨q, hq, e⟩ := List.getElem_of_mem hx
       have := HA.out q hq
       unfold List.getD at this
       rw [List.getElem?_eq_getElem hq] at this
       rw [← e]; exact this
     have hlace := Lc.specLaceOk g off cap L wr hcap HW.out HR.out
     go_wp2_with fail
     refine hlace.mono ?_
     rintro e w1 ⟨rfl, hb1⟩
     clear hlace
     cases hlc : laceB L
     · have HTT : Hid (TextsPost (wordsI L X) wr (.returned (.slice (some ⟨w1.heap.size, 0, none⟩) 0 0)) (w1.alloc (.cells #[] 9))) := HEP.out w1 hb1 (by unfold wordsI; rw [hlc]; rfl)
       clear HALL HA hlc
       go_wp2
       go_ret
       exact HTT.out
     · have e1 : wordsI L X = wordsL L X := by unfold wordsI; rw [hlc, HALL.out]; rfl
       have hws := l12Words g off cap L ao cc X w1 (by omega) (fun i hi => (Tl.inR_iff L _).1 (HA.out i hi)) (Nat.lt_of_lt_of_le hg hb1.size) (HR.out.below hb1) (by
         rcases HRD.out with e | ⟨gx, e, hc⟩
         · exact .inl e
         · exact .inr ⟨gx, e, fun j hj => (hb1.cell (p := ⟨gx, j, none⟩) (HAO.out gx e)).trans (hc j hj)⟩) (fun c e => Nat.lt_of_lt_of_le (HAO.out c e) hb1.size)
       rw [← e1] at hws
       clear e1 HALL HA hlc
       go_wp2_with fail
       refine hws.mono ?_
       rintro e w2 ⟨bo, bc, rfl, hown, hb2⟩
       have HT : Hid (TextsPost (wordsI L X) wr (.returned (.slice bo (wordsI L X).length bc)) w2) := ⟨bo, bc, rfl, by
         obtain ⟨h1, h2 | ⟨q, cap', cur, hv, hB, hn⟩⟩ := hown
         · exact ⟨h1, .inl h2⟩
         · exact ⟨h1, .inr ⟨q, cap', cur, hv, by have := hb1.size; omega, hn⟩⟩, hb1.trans (hb2.mono hb1.size)⟩
       clear hws hown hb1 hb2
       generalize (wordsI L X).length = nS at HT ⊢
       go_wp2
       go_ret
       exact HT.out
set_option maxHeartbeats 1600000 in
theorem alikeT (S : List ByteArray) (a b : Option Addr) (ca cb : Nat) (w : World) (hn : S.length ≤ 1048576) (ha : RdT w a S) (hb : RdT w b S) :
   Calls Tryz.prog 22 #[.slice a S.length ca, .slice b S.length cb] w fun e w' => e = .returned (.bool true) ∧ Below w.heap.size w w' := by
 go_enter Tryz.func22, Tryz.ntmps22
 go_wp2
 go_loopw [5] (fun i wr => ∃ k n : Nat, k ≤ S.length ∧ i = .int .i64 k ∧ wr = w.drewN n) (fun i _ => S.length - (intOf i).toNat)
 case atStart => exact ⟨0, 0, by omega, rfl, rfl⟩
 case round =>
   obtain ⟨k, n, hk, rfl, rfl⟩ := hrel
   by_cases hlt : k < S.length
   · have hlti : (k : Int) < (S.length : Int) := by omega
     rcases ha with ha | ⟨ga, rfl, _, hca⟩
     · rw [ha] at hlt; simp at hlt
     rcases hb with hb | ⟨gb, rfl, _, hcb⟩
     · rw [hb] at hlt; simp at hlt
     have c1 := hca k hlt
     have c2 := hcb k hlt
     clear hca hcb
     generalize S.getD k ⟨#[]⟩ = x at c1 c2
     go_wp2_with fail
     go_quiet (fail)
     go_wp2
     go_roundw
     case rel => exact ⟨k + 1, _, by omega, by go_num, rfl⟩
     case measure => simp [intOf]; omega
   · obtain rfl : k = S.length := by omega
     have hlti : ¬ (S.length : Int) < (S.length : Int) := by omega
     go_wp2
     go_ret
     exact ⟨rfl, ⟨rfl, rfl, rfl, Nat.le_refl _, fun _ _ => rfl⟩⟩
end Tx
namespace Rm
open Kn (K okK)
open Bit (bit memTo)
open Lc (at' RdK laceB setB)
open Sg (bel isB NumsPost)
open Nd (nodsB nodN)
open Tl (taleI taleL outI outL inR)
open Tx (wordsI wordsL OwnT RdT TextsPost)
def ImplOutOf : Prop := ∀ (g cap : Nat) (L : List K) (ao : Option Addr) (cc : Nat) (C : List Int) (s : Int) (w : World), LiesC w g L ao C → -9223372036854775808 ≤ s → s ≤ 9223372036854775807 →
   Calls Tryz.prog 18 #[.slice (some ⟨g, 0, none⟩) L.length cap, .slice ao C.length cc, .int .i64 s] w (NumsPost (outI L C s) w)
def ImplWordsOf : Prop := ∀ (g cap : Nat) (L : List K) (ao : Option Addr) (cc : Nat) (X : List Int) (w : World), LiesS w g L → g < w.heap.size → X.length ≤ 1048576 → (∀ z ∈ X, -9223372036854775808 ≤ z ∧ z ≤ 9223372036854775807) → Lst.Rd w ao X → (∀ c, ao = some ⟨c, 0, none⟩ → c < w.heap.size) →
   Calls Tryz.prog 20 #[.slice (some ⟨g, 0, none⟩) L.length cap, .slice ao X.length cc] w (TextsPost (wordsI L X) w)
structure OutIs (L : List K) (C : List Int) (s : Int) (q : Nat) (o : List Int) : Prop where
 lace : laceB L = true
 lt : q < L.length
 tale : taleI L C (q : Int) = o
 at' : ∀ i, i < o.length → ∃ j : Nat, o.getD i 0 = (j : Int) ∧ j < L.length
 ins : ∀ i, i < o.length → (Base.okB s && (Base.inB (o.getD i 0) && bit s (o.getD i 0).toNat)) = true
 words : wordsI L o = wordsL L o
 has : Lst.inL o (q : Int) = nodsB L (q : Int) (q : Int)
set_option maxHeartbeats 800000 in
theorem out_cases (L : List K) (C : List Int) (s : Int) : (Fm.lastI L C s < 0 ∧ outI L C s = []) ∨ ∃ q : Nat, Fm.lastI L C s = (q : Int) ∧ OutIs L C s q (outI L C s) := by
 cases hr : Fm.rightB L C s
 · left
   have e1 : Fm.firmI L C s = [] := by unfold Fm.firmI; unfold Fm.rightB at hr; rw [hr]; rfl
   have e2 : outI L C s = [] := by unfold Tl.outI; rw [hr]; rfl
   refine ⟨?_, e2⟩
   unfold Fm.lastI
   rw [e1]
   show (-1 : Int) < 0
   omega
 · have hr' := hr
   unfold Fm.rightB at hr'
   have e1 : Fm.firmI L C s = Tl.firmL L C s L.length := by unfold Fm.firmI; rw [hr']; rfl
   have e2 : outI L C s = outL L C s := by unfold Tl.outI; rw [hr]; rfl
   rw [Bool.and_eq_true] at hr'
   obtain ⟨hcl, hco⟩ := hr'
   have hI := closedIs hcl
   have hl := hI.lace
   have h60 := ((Lc.lace_iff L).1 hl).1
   have e3 : Fm.lastI L C s = Tl.lastT L (Tl.firmL L C s L.length) := by unfold Fm.lastI; rw [e1]
   rcases Tl.last_spec L C s L.length with ⟨h, _⟩ | ⟨q, h, hq, hfq, _⟩
   · left
     rw [e3, e2, h]
     refine ⟨by omega, Tl.out_none (by rw [h]; omega)⟩
   · right
     have eo : outI L C s = taleL L C (q : Int) := by rw [e2, Tl.out_some (by rw [h]; omega), h]
     have et : taleI L C (q : Int) = taleL L C (q : Int) := by
       unfold Tl.taleI
       refine if_pos ?_
       unfold Ch.onB
       rw [hco, (isB_iff hl _).2 ⟨by omega, by omega⟩]; rfl
     have hsq : bit s q = true := by unfold Ch.firmN at hfq; rw [Bool.and_eq_true] at hfq; exact hfq.1
     have hmem : ∀ x ∈ taleL L C (q : Int), ∃ j : Nat, x = (j : Int) ∧ j < L.length ∧ bit s j = true := fun x hx => by
       obtain ⟨j, rfl, hj, hb⟩ := Tl.tale_below hl C q hq x hx
       exact ⟨j, rfl, hj, (Sg.closed_iff L s L.length h60 hI.s0 hI.s1).1 hI.cl q hq hsq j hb⟩
     have hself := Tl.tale_self hl C hq
     have hnod : nodsB L (q : Int) (q : Int) = nodN L q q := by
       unfold Nd.nodsB
       rw [(isB_iff hl _).2 ⟨by omega, by omega⟩, Int.toNat_natCast]; rfl
     refine ⟨q, by rw [e3, h], ?_⟩
     rw [eo]
     rw [← hnod] at hself
     generalize taleL L C (q : Int) = o at hmem hself et
     refine ⟨hl, hq, et, fun i hi => ?_, fun i hi => ?_, ?_, hself⟩
     · obtain ⟨j, e, hj, _⟩ := hmem _ (Tl.getD_mem o i hi)
       exact ⟨j, e, hj⟩
     · obtain ⟨j, e, hj, hb⟩ := hmem _ (Tl.getD_mem o i hi)
       rw [e, Int.toNat_natCast, hb, (Base.okB_iff _).2 ⟨hI.s0, hI.s1⟩, (Base.inB_iff _).2 ⟨by omega, by omega⟩]; rfl
     · unfold Tx.wordsI
       refine if_pos ?_
       rw [hl, Bool.true_and, List.all_eq_true]
       intro x hx
       obtain ⟨j, rfl, hj, _⟩ := hmem x hx
       exact (Tl.inR_iff L _).2 ⟨by omega, by omega⟩
structure WsO (wx : World) (B B2 g : Nat) (L : List K) (ao : Option Addr) (cc : Nat) (X : List Int) (tt : Option Addr) (tc : Nat) (T : List ByteArray) : Prop where
 lies : LiesS wx g L
 lt : g < wx.heap.size
 own : Memb.Own B wx ao cc X
 txt : OwnT B2 wx tt tc T
theorem WsO.below {wx w' : World} {B B2 g : Nat} {L : List K} {ao : Option Addr} {cc : Nat} {X : List Int} {tt : Option Addr} {tc : Nat} {T : List ByteArray} (h : WsO wx B B2 g L ao cc X tt tc T) (hb : Below wx.heap.size wx w') : WsO w' B B2 g L ao cc X tt tc T :=
 ⟨h.lies.below hb, Nat.lt_of_lt_of_le h.lt hb.size, Lst.own_below h.own hb, Tx.own_below h.txt hb⟩
theorem TvO.cell {w wx : World} {B g : Nat} {L : List K} {ao : Option Addr} {C : List Int} {fo : Option Addr} {fc : Nat} {l : List Int} (h : TvO w wx B g L ao C fo fc l) (h0 : 0 < l.length) : ∃ fb, fo = some ⟨fb, 0, none⟩ ∧ fb < wx.heap.size ∧ ∀ j, j < l.length → wx.cell? ⟨fb, j, none⟩ = some (.int .i64 (l.getD j 0)) := by
 rcases own_split h.own with ⟨_, e, _⟩ | ⟨fb, rfl, hlt, hc⟩
 · rw [e] at h0; simp at h0
 · exact ⟨fb, rfl, hlt, hc⟩
set_option maxHeartbeats 6400000 in
theorem outWalk (HI1 : ImplOutOf) (HI2 : ImplWordsOf) (HD : DrawsRoom) (HDC : DrawsRoomC) (a0 : Option Addr) (len0 cap0 : Nat) (w : World) (hcode : Cur.Code w a0 len0) :
   Calls Tryz.prog 4 #[.slice a0 len0 cap0] w fun e w' => e = .returned (.bool true) ∧ Below w.heap.size w w' := by
 obtain ⟨i0, hi, hz0, hz1, hz2⟩ := info_parts Tx.infoT
 by_cases hbig : 4096 < len0
 · have hb' : (4096 : Int) < (len0 : Int) := by omega
   go_enter Tryz.func4, Tryz.ntmps4
   go_wp2
   go_ret
   exact ⟨rfl, Below.refl _ _⟩
 · have hb' : ¬ (4096 : Int) < (len0 : Int) := by omega
   have hle0 : len0 ≤ 4096 := by omega
   have HDD : Hid DrawsRoom := HD
   have HDX : Hid DrawsRoomC := HDC
   have H1 : Hid ImplOutOf := HI1
   have H2 : Hid ImplWordsOf := HI2
   have HCode : Hid (Cur.Code w a0 len0) := hcode
   clear hbig HD HDC hcode HI1 HI2
   go_enter Tryz.func4, Tryz.ntmps4
   go_wp2_with (first | (go_at_call 5; go_in) | fail)
   refine (drawOutOf HDD.out HDX.out a0 len0 cap0 _ hle0 HCode.out).mono ?_
   rintro e w1 ⟨v, L, ao, cc, C, s, rfl, hD1, hs0⟩
   obtain ⟨g, cp, rfl, hcp, hL1⟩ := drawn_liesC hD1
   have HB1 : Hid (Below w.heap.size w w1) := hD1.dr.bel
   clear hD1
   go_wp2_with fail
   refine (H1.out g cp L ao cc C s _ hL1 hs0.1 hs0.2).mono ?_
   rintro e w2 ⟨fo, fc, rfl, hof, hb2⟩
   have HS2 : Hid (TvO w w2 w1.heap.size g L ao C fo fc (outI L C s)) := ⟨hL1.below hb2, hof, HB1.out.trans (hb2.mono HB1.out.size)⟩
   clear hL1 hb2 hof HB1
   go_wp2_with fail
   refine (drawWordsOf HDD.out a0 len0 cap0 _ hle0 (code_below2 HCode.out HS2.out.bel)).mono ?_
   rintro e w3 ⟨v2, L2, ao2, cc2, X2, rfl, hD3, ho3, hz3, hx3⟩
   obtain ⟨g2, cp2, rfl, hcp2, hL3⟩ := drawn_liesS hD3
   have hg3 := (ownK_at hD3.own).1
   have HS3 : Hid (TvO w w3 w1.heap.size g L ao C fo fc (outI L C s)) := HS2.out.below hD3.bel
   have HZ3 : Hid (∀ z ∈ X2, -9223372036854775808 ≤ z ∧ z ≤ 9223372036854775807) := hz3
   have hwi := H2.out g2 cp2 L2 ao2 cc2 X2 w3 hL3 hg3 (by omega) hz3 (Lst.own_rd ho3) (own_at ho3)
   have HL3 : Hid (LiesS w3 g2 L2 ∧ g2 < w3.heap.size ∧ Memb.Own w2.heap.size w3 ao2 cc2 X2) := ⟨hL3, hg3, ho3⟩
   clear HS2 hD3 ho3 hz3 hL3 hg3 HCode
   go_wp2_with fail
   refine hwi.mono ?_
   rintro e w4 ⟨tt, tc, rfl, htx, hb4⟩
   have HS4 : Hid (TvO w w4 w1.heap.size g L ao C fo fc (outI L C s)) := HS3.out.below hb4
   have HM4 : Hid (WsO w4 w2.heap.size w3.heap.size g2 L2 ao2 cc2 X2 tt tc (wordsI L2 X2)) := ⟨HL3.out.1.below hb4, Nat.lt_of_lt_of_le HL3.out.2.1 hb4.size, Lst.own_below HL3.out.2.2 hb4, htx⟩
   clear HS3 hwi htx hb4 HL3
   have hsA := Tl.specOutOf g 0 cp L ao cc C s w4 hcp HS4.out.lies.l.words HS4.out.lies.lt HS4.out.lies.l.rd (by have := HS4.out.lies.c.len; omega) HS4.out.lies.c.rd HS4.out.lies.c.at'
   have HWS : Hid (∀ (W : World), WsO W w2.heap.size w3.heap.size g2 L2 ao2 cc2 X2 tt tc (wordsI L2 X2) → Calls Tryz.prog 23 #[.slice (some ⟨g2, 0, none⟩) L2.length cp2, .slice ao2 X2.length cc2] W (TextsPost (wordsI L2 X2) W)) := fun W h => Tx.specWordsOf g2 0 cp2 L2 ao2 cc2 X2 W hcp2 h.lies.words h.lt h.lies.rd (by omega) (Lst.own_rd h.own) (own_at h.own)
   have htl := Tx.wordsI_len L2 X2
   have HLF : Hid (∀ (W : World), LiesC W g L ao C → Calls Tryz.prog 24 #[.slice (some ⟨g, 0, none⟩) L.length cp, .slice ao C.length cc, .int .i64 s] W fun e w' => e = .returned (.int .i64 (Fm.lastI L C s)) ∧ Below W.heap.size W w') := fun W h => Fm.specLastFirm g 0 cp L ao cc C s W (by have := h.l.len; omega) hcp h.l.words h.lt h.l.rd (by have := h.c.len; omega) h.c.rd h.c.at'
   have HCS : Hid ((Fm.lastI L C s < 0 ∧ outI L C s = []) ∨ ∃ q : Nat, Fm.lastI L C s = (q : Int) ∧ OutIs L C s q (outI L C s)) := out_cases L C s
   have hlen := Tl.outI_len L C s
   generalize wordsI L2 X2 = T2 at HM4 HWS htl ⊢
   generalize outI L C s = ol at HS4 hsA HCS hlen ⊢
   generalize Fm.lastI L C s = kk at HLF HCS
   go_upto_region 7 with fail
   go_cut [48] (fun bv wx => bv = .bool false ∧ Hid (TvO w wx w1.heap.size g L ao C fo fc ol))
   case first =>
     as_aux_lemma =>
       go_wp2_with fail
       refine hsA.mono ?_
       rintro e w5 ⟨so, sc, rfl, hos, hb5⟩
       have HS5 : Hid (TvO w w5 w1.heap.size g L ao C fo fc ol) := HS4.out.below hb5
       have HM5 : Hid (WsO w5 w2.heap.size w3.heap.size g2 L2 ao2 cc2 X2 tt tc T2) := HM4.out.below hb5
       have hlk := Lst.alike ol fo so fc sc w5 (by omega) (Lst.own_rd HS5.out.own) (Lst.own_rd hos)
       clear HS4 HM4 hb5 hos hsA
       go_wp2_with fail
       refine hlk.mono ?_
       rintro e w6 ⟨rfl, n6, rfl⟩
       have HS6 : Hid (TvO w (w5.drewN n6) w1.heap.size g L ao C fo fc ol) := HS5.out.drewN n6
       have HM6 : Hid (WsO (w5.drewN n6) w2.heap.size w3.heap.size g2 L2 ao2 cc2 X2 tt tc T2) := HM5.out.below (Db.below_drewN (Below.refl _ w5) n6)
       clear hlk HS5 HM5
       generalize w5.drewN n6 = V6 at HS6 HM6 ⊢
       go_wp2_with fail
       refine (HWS.out V6 HM6.out).mono ?_
       rintro e w7 ⟨po, pc, rfl, hop, hb7⟩
       have HS7 : Hid (TvO w w7 w1.heap.size g L ao C fo fc ol) := HS6.out.below hb7
       have HM7 : Hid (WsO w7 w2.heap.size w3.heap.size g2 L2 ao2 cc2 X2 tt tc T2) := HM6.out.below hb7
       have hlt := Tx.alikeT T2 tt po tc pc w7 (by omega) (Tx.own_rd HM7.out.txt) (Tx.own_rd hop)
       clear HS6 HM6 hb7 hop
       go_wp2_with fail
       refine hlt.mono ?_
       rintro e w8 ⟨rfl, hb8⟩
       have HS8 : Hid (TvO w w8 w1.heap.size g L ao C fo fc ol) := HS7.out.below hb8
       clear HS7 HM7 hb8 hlt
       go_wp2_with fail
       go_meet
       exact ⟨rfl, HS8⟩
   case rest =>
     clear HS4 HM4 HWS hsA HZ3 htl
     obtain ⟨rfl, HS8⟩ := hcut
     go_wp2_with fail
     refine (HLF.out _ HS8.out.lies).mono ?_
     rintro e w9 ⟨rfl, hb9⟩
     have HS9 : Hid (TvO w w9 w1.heap.size g L ao C fo fc ol) := HS8.out.below hb9
     clear HS8 hb9 HLF
     rcases HCS.out with ⟨hneg, rfl⟩ | ⟨q, rfl, hO⟩
     · clear HCS
       go_wp2
       go_ret
       exact ⟨rfl, HS9.out.bel⟩
     · have HO : Hid (OutIs L C s q ol) := hO
       have hqn : ¬ (q : Int) < 0 := by omega
       clear HCS hO
       go_wp2_with fail
       go_loopw [11] (fun iv wx => ∃ i : Nat, i ≤ ol.length ∧ iv = .int .i64 i ∧ Hid (TvO w wx w1.heap.size g L ao C fo fc ol)) (fun iv _ => ol.length - (intOf iv).toNat)
       case atStart => exact ⟨0, by omega, rfl, HS9⟩
       case round =>
         obtain ⟨i, hi', rfl, HS⟩ := hrel
         clear HS9
         by_cases hlt : i < ol.length
         · have hlti : (i : Int) < (ol.length : Int) := by omega
           obtain ⟨fb, rfl, hfb, hrow⟩ := HS.out.cell (by omega)
           have ci := hrow i hlt
           have HIN : Hid ((Base.okB s && (Base.inB (ol.getD i 0) && bit s (ol.getD i 0).toNat)) = true) := HO.out.ins i hlt
           clear hrow
           generalize ol.getD i 0 = y at ci HIN
           go_wp2_with (first | (go_at_call 25; refine (Base.specIn _ _ _).mono ?_; rintro e w' ⟨rfl, rfl⟩; rw [HIN.out]) | fail)
           go_roundw
           case rel => exact ⟨i + 1, by omega, by go_num, HS⟩
           case measure => simp [intOf]; omega
         · obtain rfl : i = ol.length := by omega
           have hlti : ¬ (ol.length : Int) < (ol.length : Int) := by omega
           obtain ⟨wz, rfl⟩ : ∃ wz, wz = wr := ⟨_, rfl⟩
           have HE0 : Hid ((wz.alloc (.cells #[] 9)).ownsRow wz.heap.size 9 1 (.slice (some ⟨wz.heap.size, 0, none⟩) 0 0) 0 [] ∧ Below wz.heap.size wz (wz.alloc (.cells #[] 9))) := ⟨Tx.own_empty wz, (Below.refl _ wz).alloc (Nat.le_refl _) _⟩
           have HXZ : Hid (∀ W, Below wz.heap.size wz W → TvO w W w1.heap.size g L ao C fo fc ol) := fun W h => HS.out.below h
           clear HS
           go_wp2_with fail
           go_loopw [12, 13] (fun v iv wx => ∃ j : Nat, j ≤ ol.length ∧ iv = .int .i64 j ∧ Hid (wx.ownsRow wz.heap.size 9 1 v (wordsL L (ol.take j)).length ((wordsL L (ol.take j)).map Value.string)) ∧ Hid (Below wz.heap.size wz wx)) (fun _ iv _ => ol.length - (intOf iv).toNat)
           case atStart => exact ⟨0, by omega, rfl, HE0.out.1, HE0.out.2⟩
           case round =>
             obtain ⟨j, hj, rfl, HT, HB⟩ := hrel
             clear HE0
             by_cases hlt : j < ol.length
             · have hlti : (j : Int) < (ol.length : Int) := by omega
               obtain ⟨fb, rfl, hfb, hrow⟩ := (HXZ.out _ HB.out).cell (by omega)
               have ci := hrow j hlt
               obtain ⟨p, ep, hp⟩ := HO.out.at' j hlt
               have HSN : Hid (wordsL L (ol.take (j + 1)) = if (at' L p).word.toList.isEmpty then wordsL L (ol.take j) else wordsL L (ol.take j) ++ [(at' L p).word]) := by
                 show _ = _
                 have := Tx.words_snoc L (ol.take j) (p : Int)
                 rw [Int.toNat_natCast] at this
                 rw [← this]
                 congr 1
                 rw [List.take_add_one, List.getElem?_eq_getElem hlt, ← Tl.getD_get ol j hlt, ep]
                 rfl
               have hwl := Tx.words_len L (ol.take j)
               have hwl2 : (wordsL L (ol.take j)).length ≤ 1048576 := by rw [List.length_take] at hwl; omega
               clear hwl
               rw [ep] at ci
               have hpi : (p : Int) < (L.length : Int) := by omega
               obtain ⟨_, _, _, _, k3⟩ := (HXZ.out _ HB.out).lies.l.rd.on p hp
               rw [Nat.zero_add] at k3
               generalize (at' L p).word = wd at k3 HSN
               generalize hnx : wordsL L (ol.take (j + 1)) = nx at HSN
               have HNX : Hid (wordsL L (ol.take (j + 1)) = nx) := hnx
               generalize wordsL L (ol.take j) = pv at HSN HT hwl2
               clear hnx hrow ep
               cases hwd : wd.toList.isEmpty
               rotate_left
               · obtain rfl : nx = pv := by rw [HSN.out, if_pos hwd]
                 have hne : (!wd.toList.isEmpty) = false := by rw [hwd]; rfl
                 clear HSN hwd
                 go_wp2
                 go_roundw
                 case rel => exact ⟨j + 1, by omega, by go_num, by rw [HNX.out]; exact HT, HB⟩
                 case measure => simp [intOf]; omega
               · obtain rfl : nx = pv ++ [wd] := by rw [HSN.out, if_neg (by rw [hwd]; simp)]
                 have hne : (!wd.toList.isEmpty) = true := by rw [hwd]; rfl
                 have own3 := HT.out
                 have hW3 := HB.out.size
                 clear HSN hwd
                 go_wp2_with (first | (at_builtin; refine wpList_append_own _ rfl _ _ 36 rfl wz.heap.size 9 i0 (.string ⟨#[]⟩) 1 16 Tryz.underlying36 hi hz0 hz1 hz2 rfl (by decide) u12 pv.length (pv.map Value.string) (by first | rfl | simp [Act.eval]) (own3.alloc _) ⟨wr.heap.size, 0, none⟩ 1 1 [.string wd] (by first | rfl | simp [Act.eval]) rfl (Tx.one_newT wr wd _) (Tx.one_oneT wd) ?c3 ?c4 ?c5 ?_) | fail)
                 case c3 => unfold maxLen; omega
                 case c4 => omega
                 case c5 => simp; omega
                 intro v' w13 hown' hgrow hnil
                 have HT3 : Hid (w13.ownsRow wz.heap.size 9 1 v' (pv ++ [wd]).length ((pv ++ [wd]).map Value.string)) := by show World.ownsRow _ _ _ _ _ _ _; simpa using hown'
                 have HB3 : Hid (Below wz.heap.size wz w13) := (HB.out.alloc HB.out.size _).grown hgrow (by have := HB.out.size; simp; omega) (fun q hq => (World.ownsRow.lt own3 q hq).1)
                 clear hown' hgrow hnil own3 HT HB
                 go_wp2
                 go_roundw
                 case rel => exact ⟨j + 1, by omega, by go_num, by rw [HNX.out]; exact HT3, HB3⟩
                 case measure => simp [intOf]; omega
             · obtain rfl : j = ol.length := by omega
               have hlti2 : ¬ (ol.length : Int) < (ol.length : Int) := by omega
               rw [List.take_length] at HT
               obtain ⟨bo, bc, rfl, hown⟩ := Tx.own_shape HT.out
               have HTX : Hid (OwnT wz.heap.size wr bo bc (wordsL L ol)) := hown
               have hS := HXZ.out _ HB.out
               have hta := Tl.specTaleOf g 0 cp L ao cc C (q : Int) wr hcp hS.lies.l.words hS.lies.lt hS.lies.l.rd (by have := hS.lies.c.len; omega) hS.lies.c.rd hS.lies.c.at'
               rw [HO.out.tale] at hta
               have HWI : Hid (∀ W, TvO w W w1.heap.size g L ao C fo fc ol → Calls Tryz.prog 20 #[.slice (some ⟨g, 0, none⟩) L.length cp, .slice fo ol.length fc] W (TextsPost (wordsL L ol) W)) := fun W h => by
                 have := H2.out g cp L fo fc ol W h.lies.l h.lies.lt (by omega) (fun z hz => by
                   obtain ⟨x, hx, e⟩ := List.getElem_of_mem hz
                   obtain ⟨p, ep, hp⟩ := HO.out.at' x hx
                   have := h.lies.l.len
                   rw [Tl.getD_get ol x hx, e] at ep
                   omega) (Lst.own_rd h.own) (own_at h.own)
                 rw [HO.out.words] at this
                 exact this
               have HHA : Hid (∀ W, TvO w W w1.heap.size g L ao C fo fc ol → Calls Tryz.prog 26 #[.slice fo ol.length fc, .int .i64 q] W fun e w' => e = .returned (.bool (nodsB L (q : Int) (q : Int))) ∧ W = w') := fun W h => by
                 have := Lst.isIn ol (q : Int) fo fc W (by omega) (Lst.own_rd h.own)
                 rw [HO.out.has] at this
                 exact this
               have HNO : Hid (∀ W, TvO w W w1.heap.size g L ao C fo fc ol → Calls Tryz.prog 27 #[.slice (some ⟨g, 0, none⟩) L.length cp, .int .i64 q, .int .i64 q] W fun e w' => e = .returned (.bool (nodsB L (q : Int) (q : Int))) ∧ Below W.heap.size W w') := fun W h => Nd.specNods g 0 cp L q q W hcp h.lies.l.words h.lies.l.rd
               have hwl := Tx.words_len L ol
               have HSR : Hid (TvO w wr w1.heap.size g L ao C fo fc ol) := hS
               generalize nodsB L (q : Int) (q : Int) = nb at HHA HNO
               generalize wordsL L ol = T at HTX HWI hwl ⊢
               clear HT hown hS HXZ HB
               go_wp2_with fail
               refine hta.mono ?_
               rintro e w14 ⟨so, sc, rfl, hos, hb14⟩
               have HS14 : Hid (TvO w w14 w1.heap.size g L ao C fo fc ol) := HSR.out.below hb14
               have HT14 : Hid (OwnT wz.heap.size w14 bo bc T) := Tx.own_below HTX.out hb14
               have hlk := Lst.alike ol fo so fc sc w14 (by omega) (Lst.own_rd HS14.out.own) (Lst.own_rd hos)
               clear HSR HTX hb14 hos hta
               go_wp2_with fail
               refine hlk.mono ?_
               rintro e w15 ⟨rfl, n15, rfl⟩
               have HS15 : Hid (TvO w (w14.drewN n15) w1.heap.size g L ao C fo fc ol) := HS14.out.drewN n15
               have HT15 : Hid (OwnT wz.heap.size (w14.drewN n15) bo bc T) := Tx.own_below HT14.out (Db.below_drewN (Below.refl _ w14) n15)
               clear hlk HS14 HT14
               generalize w14.drewN n15 = V15 at HS15 HT15 ⊢
               go_wp2_with fail
               refine (HWI.out V15 HS15.out).mono ?_
               rintro e w16 ⟨po, pc, rfl, hop, hb16⟩
               have HS16 : Hid (TvO w w16 w1.heap.size g L ao C fo fc ol) := HS15.out.below hb16
               have hlt := Tx.alikeT T po bo pc bc w16 (by omega) (Tx.own_rd hop) (Tx.own_rd (Tx.own_below HT15.out hb16))
               clear HS15 HT15 hb16 hop HWI
               go_wp2_with fail
               refine hlt.mono ?_
               rintro e w17 ⟨rfl, hb17⟩
               have HS17 : Hid (TvO w w17 w1.heap.size g L ao C fo fc ol) := HS16.out.below hb17
               clear HS16 hb17 hlt
               go_wp2_with fail
               refine (HHA.out w17 HS17.out).mono ?_
               rintro e w' ⟨rfl, rfl⟩
               go_wp2_with fail
               refine (HNO.out _ HS17.out).mono ?_
               rintro e w18 ⟨rfl, hb18⟩
               have HB18 : Hid (Below w.heap.size w w18) := (HS17.out.below hb18).bel
               clear HS17 hb18 HHA HNO
               cases nb
               · go_wp2
                 go_ret
                 exact ⟨rfl, HB18.out⟩
               · go_wp2
                 go_ret
                 exact ⟨rfl, HB18.out⟩
end Rm
end Go.Proofs.YtflhaiakhfmmmaaGreat
