/-
  What the model answers for WordsOf: the words of these knots that are not empty, in order; and the law's likeTexts of two lists of texts that are alike.
-/
import Derived.Test.YtodgkhlnefggdaaRespS
import Derived.Test.YtodgkhlnefggdaaLaceU
namespace Go.Proofs.Ytodgkhlnefggdaa
open Go.RowKit
set_option maxRecDepth 100000
set_option linter.unusedVariables false
namespace Tx
open Kn (K okK)
open Lc (at' RdK WordsOk laceB)
open Tl (inR)

theorem infoT : (Try.prog.info? 9).map (fun i => (i.zero, i.size, i.bytes)) = some (some (.string ⟨#[]⟩), 1, 16) := by kernel_rfl

/-- texts of the call's own -/
def OwnT (B : Nat) (w : World) (ao : Option Addr) (cap : Nat) (S : List ByteArray) : Prop := w.ownsRow B 9 1 (.slice ao S.length cap) S.length (S.map Value.string)
def RdT (w : World) (ao : Option Addr) (S : List ByteArray) : Prop := S = [] ∨ ∃ g, ao = some ⟨g, 0, none⟩ ∧ g < w.heap.size ∧ ∀ j, j < S.length → w.cell? ⟨g, j, none⟩ = some (.string (S.getD j ⟨#[]⟩))
def TextsPost (S : List ByteArray) (w : World) (e : Ending) (w' : World) : Prop := ∃ ao cap, e = .returned (.slice ao S.length cap) ∧ OwnT w.heap.size w' ao cap S ∧ Below w.heap.size w w'

theorem own_shape {B : Nat} {w : World} {v : Value} {S : List ByteArray} (h : w.ownsRow B 9 1 v S.length (S.map Value.string)) : ∃ ao cap, v = .slice ao S.length cap ∧ OwnT B w ao cap S := by
  have h' := h
  obtain ⟨_, ⟨hv, hn⟩ | ⟨g, cap, cur, hv, _⟩⟩ := h
  · exact ⟨none, 0, by rw [hv, hn], by unfold OwnT; rw [hn] at h' ⊢; rw [hv] at h'; exact h'⟩
  · exact ⟨some ⟨g, 0, none⟩, cap, hv, by unfold OwnT; rw [← hv]; exact h'⟩
theorem own_rd {B : Nat} {w : World} {ao : Option Addr} {cap : Nat} {S : List ByteArray} (h : OwnT B w ao cap S) : RdT w ao S := by
  have hlt := World.ownsRow.lt h
  have hcells := @World.ownsRow.cells _ _ _ _ _ _ _ h
  obtain ⟨_, ⟨hv, hn⟩ | ⟨g, cap', cur, hv, _⟩⟩ := h
  · exact .inl (List.eq_nil_of_length_eq_zero hn)
  · injection hv with hv _ _
    subst hv
    refine .inr ⟨g, rfl, (hlt g rfl).2, fun j hj => ?_⟩
    have := hcells (g := g) rfl j (.string (S.getD j ⟨#[]⟩)) (by simp [List.getD, hj])
    by_cases hj0 : j = 0
    · subst hj0; simpa [Addr.add] using this
    · simpa [Addr.add, hj0] using this
theorem own_below {B : Nat} {w w' : World} {ao : Option Addr} {cap : Nat} {S : List ByteArray} (h : OwnT B w ao cap S) (hb : Below w.heap.size w w') : OwnT B w' ao cap S := by
  have hlt := World.ownsRow.lt h
  obtain ⟨h1, h2⟩ := h
  refine ⟨h1, ?_⟩
  rcases h2 with h2 | ⟨g, cap', cur, hv, hB, hg, rest⟩
  · exact .inl h2
  · refine .inr ⟨g, cap', cur, hv, hB, ?_, rest⟩
    rw [hb.block g (hlt g (by rw [hv]; rfl)).2]
    exact hg

/-- the words of these knots that are not empty -/
def wordsL (L : List K) : List Int → List ByteArray
  | [] => []
  | x :: r => if (at' L x.toNat).word.toList.isEmpty then wordsL L r else (at' L x.toNat).word :: wordsL L r
theorem words_snoc (L : List K) : ∀ (l : List Int) (x : Int), wordsL L (l ++ [x]) = if (at' L x.toNat).word.toList.isEmpty then wordsL L l else wordsL L l ++ [(at' L x.toNat).word] := by
  intro l
  induction l with
  | nil => intro x; show wordsL L [x] = _; unfold wordsL; split <;> rfl
  | cons y r ih =>
    intro x
    show wordsL L (y :: (r ++ [x])) = _
    unfold wordsL
    rw [ih]
    split <;> split <;> rfl
theorem words_len (L : List K) : ∀ l : List Int, (wordsL L l).length ≤ l.length := by
  intro l
  induction l with
  | nil => exact Nat.le_refl _
  | cons y r ih => unfold wordsL; split <;> simp <;> omega
/-- the document's WordsOf -/
def wordsI (L : List K) (X : List Int) : List ByteArray := if laceB L && X.all (inR L) then wordsL L X else []

theorem own_empty (w : World) : (w.alloc (.cells #[] 9)).ownsRow w.heap.size 9 1 (.slice (some ⟨w.heap.size, 0, none⟩) 0 0) 0 [] :=
  ⟨rfl, .inr ⟨w.heap.size, 0, #[], rfl, Nat.le_refl _, by show (w.heap.push _)[w.heap.size]? = _; rw [Array.getElem?_push_size], Nat.le_refl _, by unfold maxLen; omega, rfl, rfl⟩⟩
theorem one_newT (W : World) (x : ByteArray) (t : TypeId) : ∀ (j : Nat) u, ([Value.string x])[j]? = some u → (W.alloc (.cells #[.string x] t)).cell? ((⟨W.heap.size, 0, none⟩ : Addr).add j) = some u := by
  intro j u hj
  match j, hj with
  | 0, hj => simp at hj; subst hj; simp [Addr.add]
theorem one_oneT (x : ByteArray) : ∀ u ∈ [Value.string x], u.oneCell' = true := by
  intro u hu; simp at hu; subst hu; rfl

set_option maxHeartbeats 1600000 in
theorem l12Words (g off cap : Nat) (L : List K) (ao : Option Addr) (cc : Nat) (X : List Int) (w : World) (hl : X.length ≤ 1048576) (hin : ∀ i, i < X.length → 0 ≤ X.getD i 0 ∧ X.getD i 0 < (L.length : Int)) (hg : g < w.heap.size) (hr : RdK w (some ⟨g, off, none⟩) L) (hrd : Lst.Rd w ao X) (hao : ∀ c, ao = some ⟨c, 0, none⟩ → c < w.heap.size) :
    Calls Try.prog 22 #[.slice (some ⟨g, off, none⟩) L.length cap, .slice ao X.length cc] w (TextsPost (wordsL L X) w) := by
  obtain ⟨i0, hi, hz0, hz1, hz2⟩ := info_parts infoT
  have HE0 : Hid ((w.alloc (.cells #[] 9)).ownsRow w.heap.size 9 1 (.slice (some ⟨w.heap.size, 0, none⟩) 0 0) 0 [] ∧ Below w.heap.size w (w.alloc (.cells #[] 9))) := ⟨own_empty w, (Below.refl _ w).alloc (Nat.le_refl _) _⟩
  have HIN : Hid (∀ i, i < X.length → 0 ≤ X.getD i 0 ∧ X.getD i 0 < (L.length : Int)) := hin
  have HRD : Hid (Lst.Rd w ao X) := hrd
  have HR : Hid (RdK w (some ⟨g, off, none⟩) L) := hr
  have HAO : Hid (∀ c, ao = some ⟨c, 0, none⟩ → c < w.heap.size) := hao
  clear hin hrd hr hao
  go_enter Try.func22, Try.ntmps22
  go_wp2
  go_loopw [5, 6] (fun v i wr => ∃ j : Nat, j ≤ X.length ∧ i = .int .i64 j ∧ Hid (wr.ownsRow w.heap.size 9 1 v (wordsL L (X.take j)).length ((wordsL L (X.take j)).map Value.string)) ∧ Hid (Below w.heap.size w wr)) (fun _ i _ => X.length - (intOf i).toNat)
  case atStart => exact ⟨0, by omega, rfl, HE0.out.1, HE0.out.2⟩
  case round =>
    obtain ⟨j, hj, rfl, HO, HB⟩ := hrel
    clear HE0
    by_cases hlt : j < X.length
    · have hlti : (j : Int) < (X.length : Int) := by omega
      obtain ⟨gx, hgx, hcx⟩ : ∃ gx, ao = some ⟨gx, 0, none⟩ ∧ wr.cell? ⟨gx, j, none⟩ = some (.int .i64 (X.getD j 0)) := by
        rcases HRD.out with e | ⟨gx, e, hc⟩
        · rw [e] at hlt; simp at hlt
        · exact ⟨gx, e, (HB.out.cell (p := ⟨gx, j, none⟩) (HAO.out gx e)).trans (hc j hlt)⟩
      subst hgx
      have hxb := HIN.out j hlt
      have HSN : Hid (wordsL L (X.take (j + 1)) = if (at' L (X.getD j 0).toNat).word.toList.isEmpty then wordsL L (X.take j) else wordsL L (X.take j) ++ [(at' L (X.getD j 0).toNat).word]) := by
        show _ = _
        rw [← words_snoc]
        congr 1
        rw [List.take_add_one, List.getElem?_eq_getElem hlt]
        simp [List.getD, hlt]
      have hwl := words_len L (X.take j)
      have hwl2 : (wordsL L (X.take j)).length ≤ 1048576 := by rw [List.length_take] at hwl; omega
      clear hwl
      generalize X.getD j 0 = y at hcx hxb HSN
      obtain ⟨p, rfl⟩ := Int.eq_ofNat_of_zero_le hxb.1
      have hp : p < L.length := by omega
      rw [Int.toNat_natCast] at HSN
      obtain ⟨_, hcs⟩ := HR.out.on p hp
      obtain ⟨_, _, _, k3⟩ := hcs.below HB.out hg
      generalize (at' L p).word = wd at k3 HSN
      generalize hnx : wordsL L (X.take (j + 1)) = nx at HSN
      have HNX : Hid (wordsL L (X.take (j + 1)) = nx) := hnx
      generalize wordsL L (X.take j) = pv at HSN HO hwl2
      clear hnx hcs
      cases hwd : wd.toList.isEmpty
      rotate_left
      · obtain rfl : nx = pv := by rw [HSN.out, if_pos hwd]
        have hne : (!wd.toList.isEmpty) = false := by rw [hwd]; rfl
        clear HSN hwd
        go_wp2
        go_roundw
        case rel => exact ⟨j + 1, by omega, by go_num, by rw [HNX.out]; exact HO, HB⟩
        case measure => simp [intOf]; omega
      · obtain rfl : nx = pv ++ [wd] := by rw [HSN.out, if_neg (by rw [hwd]; simp)]
        have hne : (!wd.toList.isEmpty) = true := by rw [hwd]; rfl
        have own3 := HO.out
        have hW3 := HB.out.size
        clear HSN hwd
        go_wp2_with (first | (at_builtin; refine wpList_append_own _ rfl _ _ 27 rfl w.heap.size 9 i0 (.string ⟨#[]⟩) 1 16 Try.underlying27 hi hz0 hz1 hz2 rfl (by decide) u5 pv.length (pv.map Value.string) (by first | rfl | simp [Act.eval]) (own3.alloc _) ⟨wr.heap.size, 0, none⟩ 1 1 [.string wd] (by first | rfl | simp [Act.eval]) rfl (one_newT wr wd _) (one_oneT wd) ?c3 ?c4 ?c5 ?_) | fail)
        case c3 => unfold maxLen; omega
        case c4 => omega
        case c5 => simp; omega
        intro v' w3 hown' hgrow hnil
        have HO3 : Hid (w3.ownsRow w.heap.size 9 1 v' (pv ++ [wd]).length ((pv ++ [wd]).map Value.string)) := by show World.ownsRow _ _ _ _ _ _ _; simpa using hown'
        have HB3 : Hid (Below w.heap.size w w3) := (HB.out.alloc HB.out.size _).grown hgrow (by have := HB.out.size; simp; omega) (fun q hq => (World.ownsRow.lt own3 q hq).1)
        clear hown' hgrow hnil own3 HO HB
        go_wp2
        go_roundw
        case rel => exact ⟨j + 1, by omega, by go_num, by rw [HNX.out]; exact HO3, HB3⟩
        case measure => simp [intOf]; omega
    · obtain rfl : j = X.length := by omega
      have hlti : ¬ (X.length : Int) < (X.length : Int) := by omega
      rw [List.take_length] at HO
      obtain ⟨bo, bc, rfl, hown⟩ := own_shape HO.out
      have HT : Hid (TextsPost (wordsL L X) w (.returned (.slice bo (wordsL L X).length bc)) wr) := ⟨bo, bc, rfl, hown, HB.out⟩
      clear HO hown HB
      generalize (wordsL L X).length = nS at HT ⊢
      go_wp2
      go_ret
      exact HT.out

theorem wordsI_len (L : List K) (X : List Int) : (wordsI L X).length ≤ X.length := by
  unfold wordsI
  split
  · exact words_len L X
  · exact Nat.zero_le _

set_option maxHeartbeats 1600000 in
theorem specWordsOf (g off cap : Nat) (L : List K) (ao : Option Addr) (cc : Nat) (X : List Int) (w : World) (hcap : L.length ≤ cap) (hw : WordsOk L) (hg : g < w.heap.size) (hr : RdK w (some ⟨g, off, none⟩) L) (hl : X.length ≤ 1048576) (hrd : Lst.Rd w ao X) (hao : ∀ c, ao = some ⟨c, 0, none⟩ → c < w.heap.size) :
    Calls Try.prog 10 #[.slice (some ⟨g, off, none⟩) L.length cap, .slice ao X.length cc] w (TextsPost (wordsI L X) w) := by
  have HRD : Hid (Lst.Rd w ao X) := hrd
  have HR : Hid (RdK w (some ⟨g, off, none⟩) L) := hr
  have HAO : Hid (∀ c, ao = some ⟨c, 0, none⟩ → c < w.heap.size) := hao
  have HW : Hid (WordsOk L) := hw
  have HEP : Hid (∀ W : World, Below w.heap.size w W → wordsI L X = [] → TextsPost (wordsI L X) w (.returned (.slice (some ⟨W.heap.size, 0, none⟩) 0 0)) (W.alloc (.cells #[] 9))) := fun W hW e => by
    rw [e]
    refine ⟨some ⟨W.heap.size, 0, none⟩, 0, rfl, ?_, hW.alloc hW.size _⟩
    obtain ⟨h1, h2 | ⟨q, cap', cur, hv, hB, hn⟩⟩ := own_empty W
    · exact ⟨h1, .inl h2⟩
    · exact ⟨h1, .inr ⟨q, cap', cur, hv, by have := hW.size; omega, hn⟩⟩
  have hlX : (X.length : Int) ≤ 1048576 := by omega
  clear hrd hr hao hw
  go_enter Try.func10, Try.ntmps10
  go_wp2
  go_loopw [5] (fun i wr => ∃ j : Nat, j ≤ X.length ∧ i = .int .i64 j ∧ wr = w ∧ Hid (∀ q, q < j → inR L (X.getD q 0) = true)) (fun i _ => X.length - (intOf i).toNat)
  case atStart => exact ⟨0, by omega, rfl, rfl, fun q hq => absurd hq (by omega)⟩
  case round =>
    obtain ⟨j, hj, rfl, rfl, HA⟩ := hrel
    by_cases hlt : j < X.length
    · have hlti : (j : Int) < (X.length : Int) := by omega
      obtain ⟨gx, hgx, hcx⟩ : ∃ gx, ao = some ⟨gx, 0, none⟩ ∧ wr.cell? ⟨gx, j, none⟩ = some (.int .i64 (X.getD j 0)) := by
        rcases HRD.out with e | ⟨gx, e, hc⟩
        · rw [e] at hlt; simp at hlt
        · exact ⟨gx, e, hc j hlt⟩
      subst hgx
      have HNO : Hid (inR L (X.getD j 0) = false → wordsI L X = []) := fun h => by
        unfold wordsI
        refine if_neg ?_
        intro q
        rw [Bool.and_eq_true, List.all_eq_true] at q
        have := q.2 _ (show X.getD j 0 ∈ X by unfold List.getD; rw [List.getElem?_eq_getElem hlt]; exact List.getElem_mem hlt)
        rw [h] at this; exact Bool.noConfusion this
      have HYS : Hid (inR L (X.getD j 0) = true → ∀ q, q < j + 1 → inR L (X.getD q 0) = true) := fun h q hq => by
        by_cases e : q = j
        · subst e; exact h
        · exact HA.out q (by omega)
      have HDF : Hid (inR L (X.getD j 0) = (decide (0 ≤ X.getD j 0) && decide (X.getD j 0 < (L.length : Int)))) := rfl
      generalize X.getD j 0 = y at hcx HNO HYS HDF
      clear HA
      by_cases h0 : y < 0
      · have HTT : Hid (TextsPost (wordsI L X) wr (.returned (.slice (some ⟨wr.heap.size, 0, none⟩) 0 0)) (wr.alloc (.cells #[] 9))) := HEP.out wr (Below.refl _ _) (HNO.out (by rw [HDF.out, decide_eq_false (by omega : ¬ 0 ≤ y)]; rfl))
        clear HNO HYS HDF
        go_wp2
        go_ret
        exact HTT.out
      · by_cases h1 : y < (L.length : Int)
        · have HT : Hid (∀ q, q < j + 1 → inR L (X.getD q 0) = true) := HYS.out (by rw [HDF.out, decide_eq_true (by omega : 0 ≤ y), decide_eq_true h1]; rfl)
          have h1' : ¬ (L.length : Int) ≤ y := by omega
          clear HNO HYS HDF
          go_wp2
          go_roundw
          case rel => exact ⟨j + 1, by omega, by go_num, by trivial, HT⟩
          case measure => simp [intOf]; omega
        · have HTT : Hid (TextsPost (wordsI L X) wr (.returned (.slice (some ⟨wr.heap.size, 0, none⟩) 0 0)) (wr.alloc (.cells #[] 9))) := HEP.out wr (Below.refl _ _) (HNO.out (by rw [HDF.out, decide_eq_false h1]; simp))
          have h1' : (L.length : Int) ≤ y := by omega
          clear HNO HYS HDF
          go_wp2
          go_ret
          exact HTT.out
    · obtain rfl : j = X.length := by omega
      have hlti : ¬ (X.length : Int) < (X.length : Int) := by omega
      have HALL : Hid (X.all (inR L) = true) := by
        show _ = _
        rw [List.all_eq_true]
        intro x hx
        obtain ⟨q, hq, e⟩ := List.getElem_of_mem hx
        have := HA.out q hq
        unfold List.getD at this
        rw [List.getElem?_eq_getElem hq] at this
        rw [← e]; exact this
      have hlace := Lc.specLaceOk g off cap L wr hcap HW.out HR.out
      go_wp2_with fail
      refine hlace.mono ?_
      rintro e w1 ⟨rfl, hb1⟩
      clear hlace
      cases hlc : laceB L
      · have HTT : Hid (TextsPost (wordsI L X) wr (.returned (.slice (some ⟨w1.heap.size, 0, none⟩) 0 0)) (w1.alloc (.cells #[] 9))) := HEP.out w1 hb1 (by unfold wordsI; rw [hlc]; rfl)
        clear HALL HA hlc
        go_wp2
        go_ret
        exact HTT.out
      · have e1 : wordsI L X = wordsL L X := by unfold wordsI; rw [hlc, HALL.out]; rfl
        have hws := l12Words g off cap L ao cc X w1 (by omega) (fun i hi => (Tl.inR_iff L _).1 (HA.out i hi)) (Nat.lt_of_lt_of_le hg hb1.size) (HR.out.below hb1) (by
          rcases HRD.out with e | ⟨gx, e, hc⟩
          · exact .inl e
          · exact .inr ⟨gx, e, fun j hj => (hb1.cell (p := ⟨gx, j, none⟩) (HAO.out gx e)).trans (hc j hj)⟩) (fun c e => Nat.lt_of_lt_of_le (HAO.out c e) hb1.size)
        rw [← e1] at hws
        clear e1 HALL HA hlc
        go_wp2_with fail
        refine hws.mono ?_
        rintro e w2 ⟨bo, bc, rfl, hown, hb2⟩
        have HT : Hid (TextsPost (wordsI L X) wr (.returned (.slice bo (wordsI L X).length bc)) w2) := ⟨bo, bc, rfl, by
          obtain ⟨h1, h2 | ⟨q, cap', cur, hv, hB, hn⟩⟩ := hown
          · exact ⟨h1, .inl h2⟩
          · exact ⟨h1, .inr ⟨q, cap', cur, hv, by have := hb1.size; omega, hn⟩⟩, hb1.trans (hb2.mono hb1.size)⟩
        clear hws hown hb1 hb2
        generalize (wordsI L X).length = nS at HT ⊢
        go_wp2
        go_ret
        exact HT.out

end Tx
end Go.Proofs.Ytodgkhlnefggdaa
