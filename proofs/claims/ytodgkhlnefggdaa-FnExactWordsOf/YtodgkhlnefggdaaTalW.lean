/-
  What the program's own WordsOf answers: the words of these knots that are not empty, in order; nothing where one of them is none, or where it is no lace.
-/
import Derived.Test.YtodgkhlnefggdaaWordS
import Derived.Test.YtodgkhlnefggdaaLaceF
import Derived.Test.YtodgkhlnefggdaaSightX
import Derived.WalkMore
namespace Go.Proofs.Ytodgkhlnefggdaa
open Go.RowKit
set_option maxRecDepth 100000
set_option linter.unusedVariables false
namespace Tp
open Kn (K okK)
open Lc (at' RdK WordsOk laceB)
open Tl (inR)
open Tx (wordsL wordsI OwnT TextsPost)

theorem words_step {L : List K} {X : List Int} {j : Nat} (hlt : j < X.length) : wordsL L (X.take (j + 1)) = if (at' L (X.getD j 0).toNat).word.toList.isEmpty then wordsL L (X.take j) else wordsL L (X.take j) ++ [(at' L (X.getD j 0).toNat).word] := by
  rw [← Tx.words_snoc]
  congr 1
  rw [List.take_add_one, List.getElem?_eq_getElem hlt]
  simp [List.getD, hlt]

set_option maxHeartbeats 3200000 in
theorem words (g off cap : Nat) (L : List K) (ao : Option Addr) (cc : Nat) (X : List Int) (w : World) (hlc : laceB L = true) (hl : X.length ≤ 1048576) (hg : g < w.heap.size) (hr : RdK w (some ⟨g, off, none⟩) L) (hrd : Lst.Rd w ao X) (hao : ∀ c, ao = some ⟨c, 0, none⟩ → c < w.heap.size) :
    Calls Try.prog 25 #[.slice (some ⟨g, off, none⟩) L.length cap, .slice ao X.length cc] w (TextsPost (wordsI L X) w) := by
  obtain ⟨i0, hi, hz0, hz1, hz2⟩ := info_parts Tx.infoT
  have h60 := ((Lc.lace_iff L).1 hlc).1
  have HE0 : Hid ((w.alloc (.cells #[] 9)).ownsRow w.heap.size 9 1 (.slice (some ⟨w.heap.size, 0, none⟩) 0 0) 0 [] ∧ Below w.heap.size w (w.alloc (.cells #[] 9))) := ⟨Tx.own_empty w, (Below.refl _ w).alloc (Nat.le_refl _) _⟩
  have HA : Hid (∀ x : Int, (Base.okB (2 ^ L.length - 1) && (Base.inB x && Bit.bit (2 ^ L.length - 1) x.toNat)) = inR L x) := fun x => Sg.all_has h60 x
  have HALL : Hid (∀ W : World, Calls Try.prog 31 #[.slice (some ⟨g, off, none⟩) L.length cap] W fun e w' => e = .returned (.int .i64 (2 ^ L.length - 1)) ∧ W = w') := fun W => Lc.all _ _ _ W h60
  have HHAS : Hid (∀ (x : Int) (W : World), Calls Try.prog 32 #[.int .i64 (2 ^ L.length - 1), .int .i64 x] W fun e w' => e = .returned (.bool (inR L x)) ∧ W = w') := fun x W => by
    have := Base.has (2 ^ L.length - 1) x W
    rwa [HA.out x] at this
  clear HA
  have HRD : Hid (Lst.Rd w ao X) := hrd
  have HR : Hid (RdK w (some ⟨g, off, none⟩) L) := hr
  have HAO : Hid (∀ c, ao = some ⟨c, 0, none⟩ → c < w.heap.size) := hao
  have HEND : Hid ((∀ q, q < X.length → inR L (X.getD q 0) = true) → wordsI L X = wordsL L X) := fun h => by
    unfold Tx.wordsI
    rw [hlc, Bool.true_and, if_pos]
    rw [List.all_eq_true]
    intro x hx
    obtain ⟨q, hq, e⟩ := List.getElem_of_mem hx
    have := h q hq
    unfold List.getD at this
    rw [List.getElem?_eq_getElem hq] at this
    rw [← e]; exact this
  have HNIL : Hid (∀ j, j < X.length → inR L (X.getD j 0) = false → wordsI L X = []) := fun j hj h => by
    unfold Tx.wordsI
    refine if_neg ?_
    intro q
    rw [Bool.and_eq_true, List.all_eq_true] at q
    have := q.2 _ (show X.getD j 0 ∈ X by unfold List.getD; rw [List.getElem?_eq_getElem hj]; exact List.getElem_mem hj)
    rw [h] at this; exact Bool.noConfusion this
  have HNP : Hid (∀ W : World, Below w.heap.size w W → wordsI L X = [] → TextsPost (wordsI L X) w (.returned (.slice (some ⟨W.heap.size, 0, none⟩) 0 0)) (W.alloc (.cells #[] 9))) := fun W hW e => by
    rw [e]
    refine ⟨some ⟨W.heap.size, 0, none⟩, 0, rfl, ?_, hW.alloc hW.size _⟩
    obtain ⟨h1, h2 | ⟨q, cap', cur, hv, hB, hn⟩⟩ := Tx.own_empty W
    · exact ⟨h1, .inl h2⟩
    · exact ⟨h1, .inr ⟨q, cap', cur, hv, by have := hW.size; omega, hn⟩⟩
  generalize (2 : Int) ^ L.length - 1 = al at HALL HHAS
  clear hrd hr hao hlc h60
  go_enter Try.func25, Try.ntmps25
  go_wp2
  go_step3
  go_wp2
  go_step3
  go_wp2
  go_loopw [5, 11] (fun v i wr => ∃ j : Nat, j ≤ X.length ∧ i = .int .i64 j ∧ Hid (wr.ownsRow w.heap.size 9 1 v (wordsL L (X.take j)).length ((wordsL L (X.take j)).map Value.string)) ∧ Hid (Below w.heap.size w wr) ∧ Hid (∀ q, q < j → inR L (X.getD q 0) = true)) (fun _ i _ => X.length - (intOf i).toNat)
  case atStart => exact ⟨0, by omega, rfl, HE0.out.1, HE0.out.2, fun q hq => absurd hq (by omega)⟩
  case round =>
    obtain ⟨j, hj, rfl, HO, HB, HIN⟩ := hrel
    clear HE0
    by_cases hlt : j < X.length
    · have hlti : (j : Int) < (X.length : Int) := by omega
      obtain ⟨gx, hgx, hcx⟩ : ∃ gx, ao = some ⟨gx, 0, none⟩ ∧ wr.cell? ⟨gx, j, none⟩ = some (.int .i64 (X.getD j 0)) := by
        rcases HRD.out with e | ⟨gx, e, hc⟩
        · rw [e] at hlt; simp at hlt
        · exact ⟨gx, e, (HB.out.cell (p := ⟨gx, j, none⟩) (HAO.out gx e)).trans (hc j hlt)⟩
      subst hgx
      have HSN : Hid (_) := words_step (L := L) hlt
      have hwl := Tx.words_len L (X.take j)
      have hwl2 : (wordsL L (X.take j)).length ≤ 1048576 := by rw [List.length_take] at hwl; omega
      clear hwl
      have HYS : Hid (inR L (X.getD j 0) = true → ∀ q, q < j + 1 → inR L (X.getD q 0) = true) := fun h q hq => by
        by_cases e : q = j
        · subst e; exact h
        · exact HIN.out q (by omega)
      have HNO : Hid (inR L (X.getD j 0) = false → wordsI L X = []) := HNIL.out j hlt
      have HDF : Hid (inR L (X.getD j 0) = (decide (0 ≤ X.getD j 0) && decide (X.getD j 0 < (L.length : Int)))) := rfl
      generalize X.getD j 0 = y at hcx HSN HYS HNO HDF
      cases hin : inR L y
      · have HHF : Hid (∀ (W : World), Calls Try.prog 32 #[.int .i64 al, .int .i64 y] W fun e w' => e = .returned (.bool false) ∧ W = w') := fun W => by have := HHAS.out y W; rwa [hin] at this
        have HP : Hid _ := HNP.out wr HB.out (HNO.out hin)
        clear HSN HYS HNO HDF hin HHAS HNP HIN HO HB HEND HNIL
        go_wp2_with (first | (go_at_call 31; refine (HALL.out _).mono ?_; rintro e w' ⟨rfl, rfl⟩) | (go_at_call 32; refine (HHF.out _).mono ?_; rintro e w' ⟨rfl, rfl⟩))
        try rw [Exit.noGoto_ret]
        go_ret
        exact HP.out
      · have HHF : Hid (∀ (W : World), Calls Try.prog 32 #[.int .i64 al, .int .i64 y] W fun e w' => e = .returned (.bool true) ∧ W = w') := fun W => by have := HHAS.out y W; rwa [hin] at this
        have HIN2 : Hid (∀ q, q < j + 1 → inR L (X.getD q 0) = true) := HYS.out hin
        rw [hin] at HDF
        have hyb : 0 ≤ y ∧ y < (L.length : Int) := by have := HDF.out.symm; simpa [Bool.and_eq_true, decide_eq_true_eq] using this
        obtain ⟨p, rfl⟩ := Int.eq_ofNat_of_zero_le hyb.1
        have hp : p < L.length := by omega
        have hpi : (p : Int) < (L.length : Int) := by omega
        rw [Int.toNat_natCast] at HSN
        obtain ⟨_, hcs⟩ := HR.out.on p hp
        obtain ⟨_, _, _, k3⟩ := hcs.below HB.out hg
        clear HYS HNO HDF hin HHAS HNP HIN HNIL hcs
        generalize (at' L p).word = wd at k3 HSN
        generalize hnx : wordsL L (X.take (j + 1)) = nx at HSN
        have HNX : Hid (wordsL L (X.take (j + 1)) = nx) := hnx
        generalize wordsL L (X.take j) = pv at HSN HO hwl2
        clear hnx
        cases hwd : wd.toList.isEmpty
        rotate_left
        · obtain rfl : nx = pv := by rw [HSN.out, if_pos hwd]
          have hne : (!wd.toList.isEmpty) = false := by rw [hwd]; rfl
          clear HSN hwd
          go_wp2_with (first | (go_at_call 31; refine (HALL.out _).mono ?_; rintro e w' ⟨rfl, rfl⟩) | (go_at_call 32; refine (HHF.out _).mono ?_; rintro e w' ⟨rfl, rfl⟩))
          go_roundw
          case rel => exact ⟨j + 1, by omega, by go_num, by rw [HNX.out]; exact HO, HB, HIN2⟩
          case measure => simp [intOf]; omega
        · obtain rfl : nx = pv ++ [wd] := by rw [HSN.out, if_neg (by rw [hwd]; simp)]
          have hne : (!wd.toList.isEmpty) = true := by rw [hwd]; rfl
          have own3 := HO.out
          have hW3 := HB.out.size
          clear HSN hwd
          go_wp2_with (first | (go_at_call 31; refine (HALL.out _).mono ?_; rintro e w' ⟨rfl, rfl⟩) | (go_at_call 32; refine (HHF.out _).mono ?_; rintro e w' ⟨rfl, rfl⟩) | (at_builtin; refine wpList_append_own _ rfl _ _ 27 rfl w.heap.size 9 i0 (.string ⟨#[]⟩) 1 16 Try.underlying27 hi hz0 hz1 hz2 rfl (by decide) u5 pv.length (pv.map Value.string) (by first | rfl | simp [Act.eval]) (own3.alloc _) ⟨wr.heap.size, 0, none⟩ 1 1 [.string wd] (by first | rfl | simp [Act.eval]) rfl (Tx.one_newT wr wd _) (Tx.one_oneT wd) ?c3 ?c4 ?c5 ?_))
          case c3 => unfold maxLen; omega
          case c4 => omega
          case c5 => simp; omega
          intro v' w3 hown' hgrow hnil
          have HO3 : Hid (w3.ownsRow w.heap.size 9 1 v' (pv ++ [wd]).length ((pv ++ [wd]).map Value.string)) := by show World.ownsRow _ _ _ _ _ _ _; simpa using hown'
          have HB3 : Hid (Below w.heap.size w w3) := (HB.out.alloc HB.out.size _).grown hgrow (by have := HB.out.size; simp; omega) (fun q hq => (World.ownsRow.lt own3 q hq).1)
          clear hown' hgrow hnil own3 HO HB
          go_wp2
          go_roundw
          case rel => exact ⟨j + 1, by omega, by go_num, by rw [HNX.out]; exact HO3, HB3, HIN2⟩
          case measure => simp [intOf]; omega
    · obtain rfl : j = X.length := by omega
      have hlti : ¬ (X.length : Int) < (X.length : Int) := by omega
      rw [List.take_length] at HO
      have HW : Hid (wordsI L X = wordsL L X) := HEND.out HIN.out
      obtain ⟨bo, bc, rfl, hown⟩ := Tx.own_shape HO.out
      have HT : Hid (TextsPost (wordsL L X) w (.returned (.slice bo (wordsL L X).length bc)) wr) := ⟨bo, bc, rfl, hown, HB.out⟩
      clear HO hown HB HIN HEND HNIL HNP
      generalize (wordsL L X).length = nS at HT ⊢
      go_wp2
      try rw [Exit.noGoto_ret]
      go_ret
      rw [HW.out]
      exact HT.out

set_option maxHeartbeats 1600000 in
theorem implWordsOf (g off cap : Nat) (L : List K) (ao : Option Addr) (cc : Nat) (X : List Int) (w : World) (hlen : L.length ≤ 1099511627776) (hw : WordsOk L) (hr : RdK w (some ⟨g, off, none⟩) L) (hl : X.length ≤ 1048576) (hrd : Lst.Rd w ao X) (hao : ∀ c, ao = some ⟨c, 0, none⟩ → c < w.heap.size) :
    Calls Try.prog 12 #[.slice (some ⟨g, off, none⟩) L.length cap, .slice ao X.length cc] w (TextsPost (wordsI L X) w) := by
  have hlf := Lc.laceOf g off cap L w hlen hw hr
  have HRD : Hid (∀ W : World, Below w.heap.size w W → Lst.Rd W ao X) := fun W hW => by
    rcases hrd with h | ⟨g', e, hc⟩
    · exact .inl h
    · exact .inr ⟨g', e, fun j hj => (hW.cell (p := ⟨g', j, none⟩) (hao g' e)).trans (hc j hj)⟩
  have HAO : Hid (∀ c, ao = some ⟨c, 0, none⟩ → c < w.heap.size) := hao
  clear hr hw hlen hrd hao
  go_enter Try.func12, Try.ntmps12
  go_wp2_with fail
  refine hlf.mono ?_
  rintro e w1 (⟨hlc, g', rfl, hg', hrg, hb1⟩ | ⟨hlc, rfl, hb1⟩)
  · have hcall := words g' 0 L.length L ao cc X w1 hlc hl hg' hrg (HRD.out _ hb1) (fun c e => Nat.lt_of_lt_of_le (HAO.out c e) hb1.size)
    clear hlc hlf hrg hg' HRD HAO
    go_wp2_with fail
    refine hcall.mono ?_
    rintro e w2 ⟨ro, rc, rfl, hown, hb2⟩
    have HP : Hid (OwnT w.heap.size w2 ro rc (wordsI L X) ∧ Below w.heap.size w w2) := by
      refine ⟨?_, hb1.trans (hb2.mono hb1.size)⟩
      obtain ⟨h1, h2 | ⟨q, cap', cur, hv, hB, hn⟩⟩ := hown
      · exact ⟨h1, .inl h2⟩
      · exact ⟨h1, .inr ⟨q, cap', cur, hv, Nat.le_trans hb1.size hB, hn⟩⟩
    clear hcall hown hb2 hb1
    go_wp2
    go_ret
    exact ⟨ro, rc, rfl, HP.out.1, HP.out.2⟩
  · have HT : Hid (wordsI L X = []) := by show _ = _; unfold Tx.wordsI; rw [hlc]; rfl
    have HP : Hid (TextsPost [] w (.returned (.slice (some ⟨w1.heap.size, 0, none⟩) 0 0)) (w1.alloc (.cells #[] 9))) := by
      refine ⟨some ⟨w1.heap.size, 0, none⟩, 0, rfl, ?_, hb1.alloc hb1.size _⟩
      obtain ⟨h1, h2 | ⟨q, cap', cur, hv, hB, hn⟩⟩ := Tx.own_empty w1
      · exact ⟨h1, .inl h2⟩
      · exact ⟨h1, .inr ⟨q, cap', cur, hv, Nat.le_trans hb1.size hB, hn⟩⟩
    clear hlc hlf HRD HAO hb1
    go_wp2
    go_ret
    rw [HT.out]
    exact HP.out

end Tp
end Go.Proofs.Ytodgkhlnefggdaa
