/-
 What the program's own HandsOf and AtRound answer, in the words of LaceM; for lists of at most 2^40 knots whose words have at most 2^40 bytes.
-/
import Derived.Test.YtjnhniffgeepjaaGreatezg6
import Derived.Test.YtjnhniffgeepjaaGreatRows
import Derived.ProofKit
import Derived.OpenShut
import Derived.ChangeOld
set_option linter.unusedVariables false
namespace Go.Proofs.YtjnhniffgeepjaaGreat
open Go.RowKit
set_option maxRecDepth 100000
namespace Tl
open Kn (K okK)
open Bit (bit withB memTo)
open Lc (at' RdK WordsOk laceB setB)
open Sg (isB bel belows NumsPost)
open Ch (chainL)
theorem taleF_len (L : List K) : ∀ (l : List Int) (e : Int), (taleF L e l).length ≤ 60 * l.length := by
 intro l
 induction l with
 | nil => intro e; exact Nat.le_refl _
 | cons c r ih =>
   intro e
   show (freshL L c e ++ taleF L c r).length ≤ _
   have h1 := fresh_len L c e
   have h2 := ih c
   rw [List.length_append, List.length_cons]; omega
theorem taleI_len (L : List K) (C : List Int) (k : Int) : (taleI L C k).length ≤ 3660 := by
 have hc := @Ch.chainI_len L C k
 unfold taleI
 split
 · rename_i h
   have e : Ch.chainI L C k = chainL L C k := by unfold Ch.chainI; rw [if_pos h]
   rw [e] at hc
   have := taleF_len L (chainL L C k) (-1)
   unfold taleL
   omega
 · simp
theorem outI_len (L : List K) (C : List Int) (s : Int) : (outI L C s).length ≤ 3660 := by
 unfold outI
 split
 · rename_i h
   unfold Fm.rightB at h
   rw [Bool.and_eq_true] at h
   rcases last_spec L C s L.length with ⟨q, _⟩ | ⟨f, q, hf, _⟩
   · rw [out_none (by rw [q]; omega)]; simp
   · rw [out_some (by rw [q]; omega), q]
     have hl := (Fm.closed_set h.1).1
     have hon : Ch.onB L C (f : Int) = true := by
       unfold Ch.onB
       rw [h.2]
       unfold Sg.isB
       rw [hl]
       simp; omega
     have := taleI_len L C (f : Int)
     unfold taleI at this
     rw [if_pos hon] at this
     exact this
 · simp
set_option maxHeartbeats 1600000 in
/-- of an empty lace nothing is told -/
theorem l12OutE (g off cap : Nat) (ao : Option Addr) (cc : Nat) (C : List Int) (s : Int) (w : World) (hg : g < w.heap.size) (hrd : Lst.Rd w ao C) (hao : ∀ c, ao = some ⟨c, 0, none⟩ → c < w.heap.size) (h0 : 0 ≤ s) (h1 : s < 1152921504606846976) :
   Calls Tryz.prog 27 #[.slice (some ⟨g, off, none⟩) 0 cap, .slice ao C.length cc, .int .i64 s] w (NumsPost [] w) := by
 have hl : laceB ([] : List K) = true := rfl
 have HRD : Hid (∀ W : World, Below w.heap.size w W → Lst.Rd W ao C ∧ ∀ c, ao = some ⟨c, 0, none⟩ → c < W.heap.size) := fun W hW => ⟨Ch.rd_below hrd hao hW, fun c e => Nat.lt_of_lt_of_le (hao c e) hW.size⟩
 have HN : Hid (∀ W : World, RdK W (some ⟨g, off, none⟩) ([] : List K)) := fun W => .inl rfl
 have HB4 : Hid (Calls Tryz.prog 48 #[.slice (some ⟨g, off, none⟩) 0 cap] w (NumsPost [] w)) := Sg.l4All (some ⟨g, off, none⟩) cap [] w (by simp) (Sg.frm_lace hl) (HN.out w)
 clear hrd hao
 go_enter Tryz.func27, Tryz.ntmps27
 go_wp2_with fail
 refine HB4.out.mono ?_
 rintro e w1 ⟨bo, bc, rfl, hown, hb1⟩
 have h7 : Calls Tryz.prog 51 #[.slice (some ⟨g, off, none⟩) 0 cap, .slice bo 0 bc] w1 (Sl.SealPost [] w1) := Sl.l7All g off cap [] bo bc w1 hl (HN.out w1) (.inl rfl) (fun c e => by subst e; exact (World.ownsRow.lt hown c rfl).2)
 clear hown HB4
 simp only [List.length_nil] at *
 go_wp2_with fail
 refine h7.mono ?_
 rintro e w2 ⟨h, O, rfl, _, hrow, hO, hb2⟩
 have hB2 := hb1.trans (hb2.mono hb1.size)
 have h9 : Calls Tryz.prog 50 #[.slice (some ⟨g, off, none⟩) 0 cap, .slice ao C.length cc, .slice (some ⟨h, 0, none⟩) 0 0, .int .i64 s] w2 (NumsPost [] w2) := Fm.l9Firm g off cap [] ao cc C h O s w2 hl (HN.out w2) (Nat.lt_of_lt_of_le hg hB2.size) (HRD.out w2 hB2).1 (HRD.out w2 hB2).2 hrow hO h0 h1
 clear h7 hb1 hb2 hrow hO
 simp only [List.length_nil] at *
 go_wp2_with fail
 refine h9.mono ?_
 rintro e w3 ⟨fo, fc, rfl, hof, hb3⟩
 have hB3 := hB2.trans (hb3.mono hB2.size)
 have hla : Calls Tryz.prog 49 #[.slice (some ⟨g, off, none⟩) 0 cap, .slice fo 0 fc] w3 fun e w' => e = .returned (.int .i64 (-1)) ∧ ∃ n, w' = w3.drewN n := Fm.l9Last g off cap [] fo fc [] w3 (fun x hx => absurd hx (by simp)) (by simp) (HN.out w3) (.inl rfl)
 clear h9 hof hb3 hB2
 simp only [List.length_nil] at *
 go_wp2_with fail
 refine hla.mono ?_
 rintro e w4 ⟨rfl, n4, rfl⟩
 have HB4 : Hid (Below w.heap.size w (w3.drewN n4)) := Db.below_drewN hB3 n4
 clear hla hB3
 generalize w3.drewN n4 = V at HB4 ⊢
 have HP : Hid _ := Ch.nums_nil HB4.out
 go_wp2
 go_ret
 exact ⟨some ⟨V.heap.size, 0, none⟩, 0, rfl, HP.out.1, HP.out.2⟩
set_option maxHeartbeats 1600000 in
theorem specOutOf (g off cap : Nat) (L : List K) (ao : Option Addr) (cc : Nat) (C : List Int) (s : Int) (w : World) (hcap : L.length ≤ cap) (hw : WordsOk L) (hg : g < w.heap.size) (hr : RdK w (some ⟨g, off, none⟩) L) (hC : C.length ≤ 1048576) (hrd : Lst.Rd w ao C) (hao : ∀ c, ao = some ⟨c, 0, none⟩ → c < w.heap.size) :
   Calls Tryz.prog 7 #[.slice (some ⟨g, off, none⟩) L.length cap, .slice ao C.length cc, .int .i64 s] w (NumsPost (outI L C s) w) := by
 have HRD : Hid (∀ W : World, Below w.heap.size w W → Lst.Rd W ao C ∧ ∀ c, ao = some ⟨c, 0, none⟩ → c < W.heap.size) := fun W hW => ⟨Ch.rd_below hrd hao hW, fun c e => Nat.lt_of_lt_of_le (hao c e) hW.size⟩
 have hcall := Fm.l9Right g off cap L ao cc C s w hcap hw hr hC hrd hao
 have HR : Hid (RdK w (some ⟨g, off, none⟩) L) := hr
 clear hrd hao hr
 go_enter Tryz.func7, Tryz.ntmps7
 go_wp2_with fail
 refine hcall.mono ?_
 rintro e w1 ⟨rfl, hb1⟩
 clear hcall
 cases hq : Fm.rightB L C s
 · have HT : Hid (outI L C s = []) := by show _ = _; unfold outI; rw [hq]; rfl
   have HP : Hid _ := Ch.nums_nil hb1
   clear hq
   go_wp2
   go_ret
   rw [HT.out]
   exact ⟨some ⟨w1.heap.size, 0, none⟩, 0, rfl, HP.out.1, HP.out.2⟩
 · have HT : Hid (outI L C s = outL L C s) := by show _ = _; unfold outI; rw [hq]; rfl
   unfold Fm.rightB at hq
   rw [Bool.and_eq_true] at hq
   obtain ⟨hlc, s0, s1⟩ := Fm.closed_set hq.1
   have hE : Calls Tryz.prog 27 #[.slice (some ⟨g, off, none⟩) L.length cap, .slice ao C.length cc, .int .i64 s] w1 (NumsPost (outL L C s) w1) := by
     by_cases hN : 0 < L.length
     · exact l12Out g off cap L ao cc C s w1 hlc hN (Nat.lt_of_lt_of_le hg hb1.size) (HR.out.below hb1) (HRD.out w1 hb1).1 (HRD.out w1 hb1).2 s0 s1
     · obtain rfl : L = [] := List.length_eq_zero_iff.1 (by omega)
       exact l12OutE g off cap ao cc C s w1 (Nat.lt_of_lt_of_le hg hb1.size) (HRD.out w1 hb1).1 (HRD.out w1 hb1).2 s0 s1
   clear hq hlc
   generalize hol : outL L C s = ol at hE HT
   have HOL : Hid (outL L C s = ol) := hol
   clear hol
   go_wp2_with fail
   refine hE.mono ?_
   rintro e w4 ⟨ro, rc, rfl, hown, hb4⟩
   have HP : Hid (Memb.Own w.heap.size w4 ro rc ol ∧ Below w.heap.size w w4) := ⟨Ch.own_base hown hb1.size, hb1.trans (hb4.mono hb1.size)⟩
   clear hE hb4 hown
   go_wp2
   go_ret
   rw [HT.out]
   exact ⟨ro, rc, rfl, HP.out.1, HP.out.2⟩
def beginsB (a b : List Int) : Bool := decide (b.length ≤ a.length) && (List.range b.length).all fun i => a.getD i 0 == b.getD i 0
theorem begins_long {a b : List Int} (h : a.length < b.length) : beginsB a b = false := by
 unfold beginsB; rw [decide_eq_false (by omega)]; rfl
theorem begins_no {a b : List Int} (j : Nat) (hj : j < b.length) (h : (a.getD j 0 == b.getD j 0) = false) : beginsB a b = false := by
 rw [Bool.eq_false_iff]
 intro hb
 unfold beginsB at hb
 rw [Bool.and_eq_true, List.all_eq_true] at hb
 have := hb.2 j (by simpa using hj)
 rw [h] at this; exact Bool.noConfusion this
theorem begins_yes {a b : List Int} (hl : b.length ≤ a.length) (h : ∀ j, j < b.length → (a.getD j 0 == b.getD j 0) = true) : beginsB a b = true := by
 unfold beginsB
 rw [decide_eq_true hl, Bool.true_and, List.all_eq_true]
 intro j hj
 exact h j (by simpa using hj)
set_option maxHeartbeats 1600000 in
theorem specBegins (ao : Option Addr) (ca : Nat) (A : List Int) (bo : Option Addr) (cb : Nat) (D : List Int) (w : World) (hA : A.length ≤ 1048576) (hD : D.length ≤ 1048576) (ha : Lst.Rd w ao A) (hb : Lst.Rd w bo D) :
   Calls Tryz.prog 39 #[.slice ao A.length ca, .slice bo D.length cb] w fun e w' => e = .returned (.bool (beginsB A D)) ∧ Below w.heap.size w w' := by
 by_cases hlong : A.length < D.length
 · have HT : Hid (beginsB A D = false) := begins_long hlong
   have hl' : (A.length : Int) < (D.length : Int) := by omega
   go_enter Tryz.func39, Tryz.ntmps39
   go_wp2
   go_ret
   exact ⟨by rw [HT.out]; rfl, Below.refl _ _⟩
 · have hl' : ¬ (A.length : Int) < (D.length : Int) := by omega
   have hle : D.length ≤ A.length := by omega
   clear hlong
   go_enter Tryz.func39, Tryz.ntmps39
   go_wp2
   go_loopw [5] (fun i wr => ∃ j n : Nat, j ≤ D.length ∧ i = .int .i64 j ∧ wr = w.drewN n ∧ Hid (∀ q, q < j → (A.getD q 0 == D.getD q 0) = true)) (fun i _ => D.length - (intOf i).toNat)
   case atStart => exact ⟨0, 0, by omega, rfl, rfl, fun q hq => absurd hq (by omega)⟩
   case round =>
     obtain ⟨j, n, hj, rfl, rfl, HE⟩ := hrel
     by_cases hlt : j < D.length
     · rcases ha with h | ⟨g, rfl, hc⟩
       · exfalso; rw [h] at hle; simp at hle; rw [hle] at hlt; simp at hlt
       rcases hb with h | ⟨g', rfl, hc'⟩
       · exfalso; rw [h] at hlt; simp at hlt
       have h1 := hc j (by omega)
       have h2 := hc' j hlt
       have HNO : Hid ((A.getD j 0 == D.getD j 0) = false → beginsB A D = false) := begins_no j hlt
       have HST : Hid ((A.getD j 0 == D.getD j 0) = true → ∀ q, q < j + 1 → (A.getD q 0 == D.getD q 0) = true) := fun h q hq => by
         by_cases e : q = j
         · subst e; exact h
         · exact HE.out q (by omega)
       have hjA : (j : Int) < (A.length : Int) := by omega
       clear hc hc' HE
       generalize A.getD j 0 = x at h1 HNO HST
       generalize D.getD j 0 = y at h2 HNO HST
       cases hxy : (x == y)
       · have HT : Hid (beginsB A D = false) := HNO.out hxy
         clear HNO HST
         go_wp2_with fail
         go_quiet (fail)
         go_wp2
         go_ret
         exact ⟨by rw [HT.out]; rfl, by first | exact Nu.below_drewN (Below.refl _ _) _ | exact Nu.below_drewN (Nu.below_drewN (Below.refl _ _) _) _⟩
       · have HS2 : Hid (_) := HST.out hxy
         clear HNO HST
         go_wp2_with fail
         go_quiet (fail)
         go_wp2
         go_roundw
         case rel => exact ⟨j + 1, _, by omega, by go_num, rfl, HS2⟩
         case measure => simp [intOf]; omega
     · obtain rfl : j = D.length := by omega
       have HT : Hid (beginsB A D = true) := begins_yes hle HE.out
       clear HE
       go_wp2
       go_ret
       exact ⟨by rw [HT.out]; rfl, by first | exact Nu.below_drewN (Below.refl _ _) _ | exact Nu.below_drewN (Nu.below_drewN (Below.refl _ _) _) _⟩
end Tl
namespace Lc
open Kn (K okK)
open Bit (bit withB)
def cellsOf (k : K) : List Value := [.int .i64 k.hand, .int .i64 k.round, .int .i64 k.frm, .string k.word]
def flat (L : List K) : List Value := L.flatMap cellsOf
theorem flat_snoc (L : List K) (k : K) : flat (L ++ [k]) = flat L ++ cellsOf k := by unfold flat; simp
theorem flat_one (L : List K) : ∀ u ∈ flat L, u.oneCell' = true := by
 intro u hu
 unfold flat at hu
 obtain ⟨k, _, hk⟩ := List.mem_flatMap.1 hu
 simp [cellsOf] at hk
 rcases hk with rfl | rfl | rfl | rfl <;> rfl
theorem flat_at (L : List K) (i c : Nat) (hi : i < L.length) (hc : c < 4) : (flat L)[i * 4 + c]? = (cellsOf (at' L i))[c]? := by
 induction L generalizing i with
 | nil => simp at hi
 | cons k L ih =>
   have e : flat (k :: L) = cellsOf k ++ flat L := by unfold flat; simp
   rw [e]
   cases i with
   | zero =>
     rw [List.getElem?_append_left (by simp [cellsOf]; omega)]
     simp [at', List.getD]
   | succ i =>
     rw [List.getElem?_append_right (by simp [cellsOf]; omega)]
     have : (i + 1) * 4 + c - (cellsOf k).length = i * 4 + c := by simp [cellsOf]; omega
     rw [this, ih i (by simpa using hi)]
     simp [at', List.getD]
def OwnK (t : TypeId) (base : Nat) (w : World) (v : Value) (L : List K) : Prop := w.ownsRow base t 4 v L.length (flat L) ∧ v ≠ .slice none 0 0
theorem ownK_shape {t : TypeId} {base : Nat} {w : World} {v : Value} {L : List K} (h : OwnK t base w v L) : ∃ g cap, v = .slice (some ⟨g, 0, none⟩) L.length cap ∧ L.length ≤ cap ∧ cap ≤ maxLen ∧ base ≤ g ∧ g < w.heap.size ∧ RdK w (some ⟨g, 0, none⟩) L ∧ ∀ i, i < L.length * 4 → w.frozen? ⟨g, i, none⟩ = false := by
 obtain ⟨hown, hne⟩ := h
 have hlt := World.ownsRow.lt hown
 have hown' := hown
 obtain ⟨hl, ⟨hv0, _⟩ | ⟨g, cap, cur, hvs, hbg, hcur, hmc, hm, _, htake⟩⟩ := hown
 · exact absurd hv0 hne
 · subst hvs
   have hg := (hlt g rfl).2
   have hcell : ∀ j u, (flat L)[j]? = some u → w.cell? ⟨g, j, none⟩ = some u := by
     intro j u hj
     have := World.ownsRow.cells hown' (g := g) rfl j u hj
     by_cases hj0 : j = 0
     · subst hj0; simpa [Addr.add] using this
     · simpa [Addr.add, hj0] using this
   refine ⟨g, cap, rfl, hmc, hm, hbg, hg, ?_, fun i _ => World.ownsRow.frozenAt hown' i⟩
   refine .inr ⟨g, 0, rfl, hg, fun i hi => ?_⟩
   rw [Nat.zero_add]
   exact ⟨hcell (i * 4) _ (by have := flat_at L i 0 hi (by omega); simpa [cellsOf] using this), hcell (i * 4 + 1) _ (by have := flat_at L i 1 hi (by omega); simpa [cellsOf] using this),
     hcell (i * 4 + 2) _ (by have := flat_at L i 2 hi (by omega); simpa [cellsOf] using this), hcell (i * 4 + 3) _ (by have := flat_at L i 3 hi (by omega); simpa [cellsOf] using this)⟩
theorem ownK_below {t : TypeId} {base : Nat} {w w' : World} {v : Value} {L : List K} (h : OwnK t base w v L) (hb : Below w.heap.size w w') : OwnK t base w' v L := by
 refine ⟨?_, h.2⟩
 have hlt := World.ownsRow.lt h.1
 obtain ⟨h1, h2⟩ := h.1
 refine ⟨h1, ?_⟩
 rcases h2 with h2 | ⟨g, cap', cur, hv, hB, hg, rest⟩
 · exact .inl h2
 · refine .inr ⟨g, cap', cur, hv, hB, ?_, rest⟩
   rw [hb.block g (hlt g (by rw [hv]; rfl)).2]
   exact hg
theorem infoK : (Tryz.prog.info? 114).map (fun i => (i.zero, i.size, i.bytes)) = some (some (.agg #[.int .i64 0, .int .i64 0, .int .i64 0, .string ⟨#[]⟩]), 4, 40) := by kernel_rfl
theorem ownK_made (t : TypeId) (W : World) (z : Array Value) (c : Nat) (hc : c ≤ 1000) : OwnK t W.heap.size (W.alloc (.cells (madeCells z (c * 4)) t)) (.slice (some ⟨W.heap.size, 0, none⟩) 0 c) [] := by
 refine ⟨⟨rfl, .inr ⟨W.heap.size, c, madeCells z (c * 4), rfl, Nat.le_refl _, ?_, by simp, by unfold maxLen; omega, by rw [size_madeCells], rfl⟩⟩, by simp⟩
 show (W.heap.push _)[W.heap.size]? = _
 rw [Array.getElem?_push_size]
theorem new_cells (W : World) (k : K) (t : TypeId) : ∀ (j : Nat) u, (cellsOf k)[j]? = some u → (W.alloc (.cells #[.int .i64 k.hand, .int .i64 k.round, .int .i64 k.frm, .string k.word] t)).cell? ((⟨W.heap.size, 0, none⟩ : Addr).add j) = some u := by
 intro j u hj
 match j, hj with
 | 0, hj => simp [cellsOf] at hj; subst hj; simp [Addr.add]
 | 1, hj => simp [cellsOf] at hj; subst hj; simp [Addr.add]
 | 2, hj => simp [cellsOf] at hj; subst hj; simp [Addr.add]
 | 3, hj => simp [cellsOf] at hj; subst hj; simp [Addr.add]
theorem ownK_step {t : TypeId} {L : List K} {j : Nat} {w w4 w5 : World} {v v' : Value} {o : Obj} (hlt : j < L.length) (h : OwnK t w.heap.size w4 v (L.take j)) (hb : Below w.heap.size w w4)
   (hown : w5.ownsRow w.heap.size t 4 v' (j + 1) (flat (L.take j) ++ cellsOf (at' L j))) (hgrow : (w4.alloc o).grownBy w5 v.ownBlock) (hnil : ¬ v' = .slice none 0 0) :
   OwnK t w.heap.size w5 v' (L.take (j + 1)) ∧ Below w.heap.size w w5 := by
 refine ⟨⟨?_, hnil⟩, ?_⟩
 · have e : (L.take (j + 1)).length = j + 1 := by simp; omega
   rw [e, take_snoc L j hlt, flat_snoc]; exact hown
 · exact (hb.alloc hb.size o).grown hgrow (by have := hb.size; simp; omega) (fun i hi => (World.ownsRow.lt h.1 i hi).1)
def LacePost (L : List K) (w : World) (e : Ending) (w' : World) : Prop :=
 (laceB L = true ∧ ∃ g, e = .returned (.tuple #[.slice (some ⟨g, 0, none⟩) L.length L.length, .bool true]) ∧ g < w'.heap.size ∧ RdK w' (some ⟨g, 0, none⟩) L ∧ Below w.heap.size w w') ∨
 (laceB L = false ∧ e = .returned (.tuple #[.slice none 0 0, .bool false]) ∧ Below w.heap.size w w')
set_option maxHeartbeats 3200000 in
theorem laceOf (g off cap : Nat) (L : List K) (w : World) (hlen : L.length ≤ 1099511627776) (hw : WordsOk L) (hr : RdK w (some ⟨g, off, none⟩) L) :
   Calls Tryz.prog 53 #[.slice (some ⟨g, off, none⟩) L.length cap] w (LacePost L w) := by
 obtain ⟨i0, hi, hz0, hz1, hz2⟩ := info_parts infoK
 have hmk : ∀ W : World, (Instr.makeSlice 54 (.int .i64 0) (.int .i64 60)).run Tryz.prog W = .ok (.slice (some ⟨W.heap.size, 0, none⟩) 0 60) (W.alloc (.cells (madeCells (Value.agg #[.int .i64 0, .int .i64 0, .int .i64 0, .string ⟨#[]⟩]).cells (60 * 4)) 114)) := by
   intro W
   have := run_make (P := Tryz.prog) W 54 114 i0 _ Tryz.underlying54 hi hz0 .i64 .i64 0 60 (by omega) (by omega) (by rw [hz2]; omega) (by omega)
   rw [hz1] at this
   exact this
 have P0 := ownK_made 114 w (Value.agg #[.int .i64 0, .int .i64 0, .int .i64 0, .string ⟨#[]⟩]).cells 60 (by omega)
 have HP : Hid (OwnK 114 w.heap.size (w.alloc (.cells (madeCells (Value.agg #[.int .i64 0, .int .i64 0, .int .i64 0, .string ⟨#[]⟩]).cells (60 * 4)) 114)) (.slice (some ⟨w.heap.size, 0, none⟩) 0 60) [] ∧ Below w.heap.size w (w.alloc (.cells (madeCells (Value.agg #[.int .i64 0, .int .i64 0, .int .i64 0, .string ⟨#[]⟩]).cells (60 * 4)) 114))) := ⟨P0, (Below.refl _ _).alloc (Nat.le_refl _) _⟩
 clear P0
 generalize (Value.agg #[.int .i64 0, .int .i64 0, .int .i64 0, .string ⟨#[]⟩]).cells = zc at hmk HP
 generalize madeCells zc (60 * 4) = mc at hmk HP
 go_enter Tryz.func53, Tryz.ntmps53
 go_wp2
 go_loopw [4, 10] (fun v i wr => ∃ j : Nat, j ≤ L.length ∧ j ≤ 60 ∧ i = .int .i64 j ∧ Hid (UpTo L j) ∧ Hid (OwnK 114 w.heap.size wr v (L.take j)) ∧ Hid (Below w.heap.size w wr)) (fun _ i _ => L.length - (intOf i).toNat)
 case atStart => exact ⟨0, by omega, by omega, rfl, fun i hi => by omega, HP.out.1, HP.out.2⟩
 case round =>
   obtain ⟨j, hj, hj60, rfl, HU, HO, HB⟩ := hrel
   have hlenj : (L.take j).length = j := by simp; omega
   obtain ⟨g', cap', hv, hcap', hcm, hbg, hgl, hrd', hfz⟩ := ownK_shape HO.out
   rw [hlenj] at hv hcap' hfz
   subst hv
   have hbw := HB.out.size
   by_cases hlt : j < L.length
   · have hrj := hr.below HB.out
     obtain ⟨hgw, c0, c1, c2, c3⟩ := hrj.on j hlt
     have hwj := hw _ (at_mem L j hlt)
     have P1 : Hid (Below wr.heap.size wr (wr.alloc (.cells #[.int .i64 (at' L j).hand, .int .i64 (at' L j).round, .int .i64 (at' L j).frm, .string (at' L j).word] 51)) ∧ CellsK (wr.alloc (.cells #[.int .i64 (at' L j).hand, .int .i64 (at' L j).round, .int .i64 (at' L j).frm, .string (at' L j).word] 51)) wr.heap.size 0 (at' L j) ∧ wr.heap.size < (wr.alloc (.cells #[.int .i64 (at' L j).hand, .int .i64 (at' L j).round, .int .i64 (at' L j).frm, .string (at' L j).word] 51)).heap.size) :=
       ⟨(Below.refl _ _).alloc (Nat.le_refl _) _, ⟨by simp, by simp, by simp, by simp⟩, by simp⟩
     clear hrj hfz
     go_wp2_with fail
     generalize wr.alloc (.cells #[.int .i64 (at' L j).hand, .int .i64 (at' L j).round, .int .i64 (at' L j).frm, .string (at' L j).word] 51) = w1 at P1 ⊢
     obtain ⟨B1, C1, S1⟩ := P1
     generalize hbb : wr.heap.size = b at *
     refine (Kn.knotOf _ _ _ _ _).mono ?_
     rintro e w2 ⟨rfl, hb2⟩
     have C2 := C1.below hb2 S1
     have S2 : b < w2.heap.size := Nat.lt_of_lt_of_le S1 hb2.size
     have B2 := B1.trans (hb2.mono (Nat.le_of_lt S1))
     have B2' : Below wr.heap.size wr w2 := by rw [hbb]; exact B2
     clear hb2 B1 S1 C1
     go_wp2_with fail
     have hT : Calls Tryz.prog 79 #[.slice (some ⟨g', 0, none⟩) j cap', .agg #[.int .i64 (at' L j).hand, .int .i64 (at' L j).round, .int .i64 (at' L j).frm, .string (at' L j).word]] w2 fun e w' => e = .returned (.bool (takesB (L.take j) (at' L j))) ∧ Below w2.heap.size w2 w' := by
       have := takes g' 0 cap' (L.take j) (at' L j) w2 (by omega) hwj (upTo_hands HU.out) (hrd'.below B2')
       rwa [hlenj] at this
     refine hT.mono ?_
     clear hT
     rintro e w3 ⟨rfl, hb3⟩
     have C3 := C2.below hb3 S2
     have S3 : b < w3.heap.size := Nat.lt_of_lt_of_le S2 hb3.size
     have B3 := B2.trans (hb3.mono (Nat.le_of_lt S2))
     have B3' : Below wr.heap.size wr w3 := by rw [hbb]; exact B3
     clear hb3 B2 B2' S2 C2
     obtain ⟨d0, d1, d2, d3⟩ := C3
     rw [Nat.zero_add] at d1 d2 d3
     cases ht : takesB (L.take j) (at' L j)
     · have HT : Hid (laceB L = false) := by
         show _ = _
         unfold takesB at ht
         rw [hlenj] at ht
         by_cases h60 : j < 60
         · simp [h60] at ht; exact lace_no j hlt ht
         · exact lace_long (by omega)
       clear ht
       have HBE : Hid (Below w.heap.size w w3) := HB.out.trans (B3'.mono HB.out.size)
       go_wp2
       go_ret2
       exact .inr ⟨HT.out, rfl, HBE.out⟩
     · have hcan : j < 60 ∧ canB (L.take j) (at' L j) = true := by
         unfold takesB at ht
         rw [hlenj] at ht
         simpa using ht
       obtain ⟨h60, hcan⟩ := hcan
       have HU1 : Hid (UpTo L (j + 1)) := by
         intro i hi
         by_cases he : i = j
         · rw [he]; exact hcan
         · exact HU.out i (by omega)
       clear ht hcan HU
       go_wp2_with fail
       refine (Kn.knotOf _ _ _ _ _).mono ?_
       rintro e w4 ⟨rfl, hb4⟩
       have B4 := B3.trans (hb4.mono (Nat.le_of_lt S3))
       have B4' : Below wr.heap.size wr w4 := by rw [hbb]; exact B4
       clear hb4 B3 B3' d0 d1 d2 d3
       have O4 := ownK_below HO.out B4'
       go_wp2_with (at_builtin; refine wpList_append_own _ rfl _ _ 54 rfl w.heap.size 114 i0 (.agg #[.int .i64 0, .int .i64 0, .int .i64 0, .string ⟨#[]⟩]) 4 40 Tryz.underlying54 hi hz0 hz1 hz2 rfl (by decide) _ _ _ rfl (O4.1.alloc _) ⟨w4.heap.size, 0, none⟩ 1 1 (cellsOf (at' L j)) rfl rfl ?c1 ?c2 ?c3 ?c4 ?c5 ?_)
       case c1 => exact new_cells w4 (at' L j) _
       case c2 => intro u hu; exact flat_one [at' L j] u (by simpa [flat] using hu)
       case c3 => unfold maxLen; omega
       case c4 => omega
       case c5 => have := B4'.size; simp; omega
       intro v' w5 hown' hgrow hnil
       have R := ownK_step hlt O4 (HB.out.trans (B4'.mono (by rw [hbb]; exact hbw))) hown' hgrow hnil
       have HO5 : Hid _ := R.1
       have HB5 : Hid _ := R.2
       clear hown' hgrow hnil O4 HO HB R hrd' hgl hcap' hcm
       go_wp2
       go_roundw
       case rel => exact ⟨j + 1, by omega, by omega, by go_num, HU1, HO5, HB5⟩
       case measure => simp [intOf]; omega
   · obtain rfl : j = L.length := by omega
     have HT : Hid (laceB L = true) := lace_of_upTo hj60 HU.out
     rw [List.take_length] at hrd'
     go_wp2
     go_ret2
     exact .inl ⟨HT.out, g', rfl, hgl, hrd', HB.out⟩
end Lc
namespace Lc
open Kn (K okK)
open Bit (bit withB)
theorem ofInt_toNat (s : Int) (h0 : -9223372036854775808 ≤ s) (h1 : s ≤ 9223372036854775807) : ((BitVec.ofInt 64 s).toNat : Int) = if 0 ≤ s then s else s + 18446744073709551616 := by
 rw [BitVec.toNat_ofInt]
 split <;> omega
theorem mask_bit (n i : Nat) (hn : n ≤ 60) : (BitVec.ofInt 64 ((2 : Int) ^ n - 1)).getLsbD i = decide (i < n) := by
 have hp : 1 ≤ 2 ^ n := Nat.one_le_two_pow
 have hq : 2 ^ n ≤ 2 ^ 60 := Nat.pow_le_pow_right (by decide) hn
 have e : ((2 : Int) ^ n - 1) = ((2 ^ n - 1 : Nat) : Int) := by rw [Int.ofNat_sub hp]; simp
 have : (BitVec.ofInt 64 ((2 : Int) ^ n - 1)).toNat = 2 ^ n - 1 := by rw [e]; exact ofInt_u64 _ (by omega)
 rw [BitVec.getLsbD, this, Nat.testBit_two_pow_sub_one]
theorem wrap_zero (x : Nat) (hx : x < 18446744073709551616) (h : IntKind.i64.wrap (x : Int) = 0) : x = 0 := by
 simp only [IntKind.wrap, IntKind.bits, IntKind.signed] at h
 simp at h
 omega
theorem andNot_zero (s : Int) (n : Nat) (hn : n ≤ 60) (h0 : -9223372036854775808 ≤ s) (h1 : s ≤ 9223372036854775807) : (bits .andNot .i64 s (2 ^ n - 1) == 0) = (decide (0 ≤ s) && decide (s / 2 ^ n = 0)) := by
 have e : bits .andNot .i64 s (2 ^ n - 1) = IntKind.i64.wrap ((BitVec.ofInt 64 s &&& ~~~ BitVec.ofInt 64 ((2 : Int) ^ n - 1)).toNat : Int) := rfl
 have hq : 2 ^ n ≤ 2 ^ 60 := Nat.pow_le_pow_right (by decide) hn
 have hx := ofInt_toNat s h0 h1
 have hlt : (BitVec.ofInt 64 s &&& ~~~ BitVec.ofInt 64 ((2 : Int) ^ n - 1)).toNat < 18446744073709551616 := BitVec.isLt _
 have hz : (bits .andNot .i64 s (2 ^ n - 1) == 0) = true ↔ (BitVec.ofInt 64 s &&& ~~~ BitVec.ofInt 64 ((2 : Int) ^ n - 1)) = 0#64 := by
   rw [e, beq_iff_eq]
   constructor
   · intro h
     exact BitVec.eq_of_toNat_eq ((wrap_zero _ hlt h).trans rfl)
   · intro h; rw [h]; rfl
 have hk : (BitVec.ofInt 64 s &&& ~~~ BitVec.ofInt 64 ((2 : Int) ^ n - 1)) = 0#64 ↔ (BitVec.ofInt 64 s).toNat < 2 ^ n := by
   constructor
   · intro h
     apply Nat.lt_pow_two_of_testBit
     intro i hi
     by_cases h64 : i < 64
     · have hb := congrArg (fun v => v.getLsbD i) h
       simp only [BitVec.getLsbD_and, BitVec.getLsbD_not, mask_bit n i hn] at hb
       have : decide (i < n) = false := by simp; omega
       rw [this] at hb
       simp [h64] at hb
       exact hb
     · exact BitVec.getLsbD_of_ge _ _ (by omega)
   · intro h
     apply BitVec.eq_of_getLsbD_eq
     intro i hi
     simp only [BitVec.getLsbD_and, BitVec.getLsbD_not, mask_bit n i hn]
     by_cases hin : i < n
     · simp [hin]
     · have : (BitVec.ofInt 64 s).getLsbD i = false := Nat.testBit_lt_two_pow (Nat.lt_of_lt_of_le h (Nat.pow_le_pow_right (by decide) (by omega)))
       rw [this]; simp
 rw [Bool.eq_iff_iff, hz, hk]
 simp only [Bool.and_eq_true, decide_eq_true_eq]
 have hpi : (0 : Int) < 2 ^ n := Bit.pow_pos' n
 have hpc : ((2 ^ n : Nat) : Int) = (2 : Int) ^ n := by simp
 have hq' : ((2 ^ n : Nat) : Int) ≤ 1152921504606846976 := by omega
 constructor
 · intro h
   by_cases hs : 0 ≤ s
   · rw [if_pos hs] at hx
     refine ⟨hs, Int.ediv_eq_zero_of_lt hs (by rw [← hpc]; omega)⟩
   · rw [if_neg hs] at hx; omega
 · rintro ⟨hs, hd⟩
   rw [if_pos hs] at hx
   have h2 := Int.emod_lt_of_pos s hpi
   have h3 := Int.emod_add_mul_ediv s (2 ^ n)
   rw [hd, Int.mul_zero, Int.add_zero] at h3
   rw [h3, ← hpc] at h2
   omega
end Lc
namespace Kn
def szI (left : Int) (n : Nat) : Int := if left < (n : Int) then -1 else left - (n : Int)
set_option maxHeartbeats 400000 in
theorem szKnot (h r f : Int) (s : ByteArray) (left : Int) (w : World) (hs : s.size ≤ maxLen) (hl0 : 0 ≤ left) (hl1 : left ≤ 1048576) :
   Calls Tryz.prog 25 #[.agg #[.int .i64 h, .int .i64 r, .int .i64 f, .string s], .int .i64 left] w fun e w' => e = .returned (.int .i64 (szI left s.size)) ∧ Below w.heap.size w w' := by
 unfold maxLen at hs
 have B1 : ∀ o : Obj, Below w.heap.size w (w.alloc o) := fun o => (Below.refl _ _).alloc (Nat.le_refl _) o
 by_cases hlt : left < (s.size : Int)
 · have HS : Hid (szI left s.size = -1) := if_pos hlt
   have hlt' : left - (s.size : Int) < 0 := by omega
   go_enter Tryz.func25, Tryz.ntmps25
   go_wp2
   go_ret
   exact ⟨by rw [HS.out]; rfl, B1 _⟩
 · have HS : Hid (szI left s.size = left - (s.size : Int)) := if_neg hlt
   have hlt' : ¬ left - (s.size : Int) < 0 := by omega
   go_enter Tryz.func25, Tryz.ntmps25
   go_wp2
   go_ret
   exact ⟨by rw [HS.out]; rfl, B1 _⟩
set_option maxHeartbeats 400000 in
theorem toKnot (h r f : Int) (s : ByteArray) (w : World) :
   Calls Tryz.prog 28 #[.agg #[.int .i64 h, .int .i64 r, .int .i64 f, .string s]] w fun e w' => e = .returned (.agg #[.int .i64 h, .int .i64 r, .int .i64 f, .string s]) ∧ Below w.heap.size w w' := by
 go_enter Tryz.func28, Tryz.ntmps28
 go_wp2
 exact bodyPost_ret (v := .agg #[.int .i64 h, .int .i64 r, .int .i64 f, .string s]) (by simp [results, Tryz.results28, go_sem]) rfl ⟨rfl, (((Below.refl _ _).alloc (Nat.le_refl _) _).alloc (by simp) _).alloc (by simp; omega) _⟩
set_option maxHeartbeats 800000 in
theorem eqSame (h r f : Int) (s : ByteArray) (w : World) :
   Calls Tryz.prog 32 #[.agg #[.int .i64 h, .int .i64 r, .int .i64 f, .string s], .agg #[.int .i64 h, .int .i64 r, .int .i64 f, .string s]] w fun e w' => e = .returned (.bool true) ∧ Below w.heap.size w w' := by
 go_enter Tryz.func32, Tryz.ntmps32
 go_wp2
 go_ret
 exact ⟨rfl, ((Below.refl _ _).alloc (Nat.le_refl _) _).alloc (by simp) _⟩
end Kn
namespace Lc
open Kn (K okK)
def Small (L : List K) : Prop := L.length ≤ 1048576 ∧ ∀ k ∈ L, k.word.size ≤ 1048576
theorem szI_lo (x : Int) (n : Nat) (h : x < (n : Int)) : Kn.szI x n = -1 := if_pos h
theorem szI_hi (x : Int) (n : Nat) (h : ¬ x < (n : Int)) : Kn.szI x n = x - (n : Int) := if_neg h
def SzPost (L : List K) (left : Int) (w : World) (e : Ending) (w' : World) : Prop := ∃ r : Int, e = .returned (.int .i64 r) ∧ -1 ≤ r ∧ r ≤ left ∧ (0 ≤ r → Small L) ∧ Below w.heap.size w w'
set_option maxHeartbeats 1600000 in
theorem szKnotS (ao : Option Addr) (cap : Nat) (L : List K) (left : Int) (w : World) (hl : L.length ≤ maxLen) (hws : ∀ k ∈ L, k.word.size ≤ maxLen) (hl0 : 0 ≤ left) (hl1 : left ≤ 1048576) (hr : RdK w ao L) :
   Calls Tryz.prog 6 #[.slice ao L.length cap, .int .i64 left] w (SzPost L left w) := by
 unfold maxLen at hl
 by_cases hbig : left < (L.length : Int)
 · have hb' : left - (L.length : Int) < 0 := by omega
   go_enter Tryz.func6, Tryz.ntmps6
   go_wp2
   go_ret
   exact ⟨-1, rfl, by omega, by omega, fun h => by omega, Below.refl _ _⟩
 · have hb' : ¬ left - (L.length : Int) < 0 := by omega
   have hlen : L.length ≤ 1048576 := by omega
   clear hbig
   go_enter Tryz.func6, Tryz.ntmps6
   go_wp2
   go_loopw [1, 5] (fun x i wr => ∃ (j : Nat) (y : Int), j ≤ L.length ∧ i = .int .i64 j ∧ x = .int .i64 y ∧ 0 ≤ y ∧ y ≤ left ∧ Hid (∀ k ∈ L.take j, k.word.size ≤ 1048576) ∧ Hid (Below w.heap.size w wr)) (fun _ i _ => L.length - (intOf i).toNat)
   case atStart => exact ⟨0, left - (L.length : Int), by omega, rfl, rfl, by omega, by omega, fun k hk => by simp at hk, Below.refl _ _⟩
   case round =>
     obtain ⟨j, y, hj, rfl, rfl, hy0, hy1, HW, HB⟩ := hrel
     by_cases hlt : j < L.length
     · obtain ⟨g, off, rfl, hg, hc⟩ := hr.at j hlt
       obtain ⟨c0, c1, c2, c3⟩ := hc.below HB.out hg
       have hwm := hws _ (at_mem L j hlt)
       clear hc
       go_wp2_with fail
       refine (Kn.szKnot _ _ _ _ y _ hwm hy0 (by omega)).mono ?_
       rintro e w1 ⟨rfl, hb1⟩
       have HB1 : Hid (Below w.heap.size w w1) := HB.out.trans (hb1.mono HB.out.size)
       clear hb1 HB hwm
       by_cases hq : y < ((at' L j).word.size : Int)
       · rw [szI_lo _ _ hq]
         clear hq
         go_wp2
         go_ret
         exact ⟨-1, rfl, by omega, by omega, fun h => by omega, HB1.out⟩
       · rw [szI_hi _ _ hq]
         have hq' : ¬ y - ((at' L j).word.size : Int) < 0 := by omega
         have HW1 : Hid (∀ k ∈ L.take (j + 1), k.word.size ≤ 1048576) := by
           intro k hk
           rw [take_snoc L j hlt, List.mem_append] at hk
           rcases hk with hk | hk
           · exact HW.out k hk
           · simp at hk; rw [hk]; omega
         clear hq HW
         go_wp2
         go_roundw
         case rel => exact ⟨j + 1, _, by omega, by go_num, rfl, by omega, by omega, HW1, HB1⟩
         case measure => simp [intOf]; omega
     · obtain rfl : j = L.length := by omega
       have HS : Hid (Small L) := ⟨hlen, by have := HW.out; rwa [List.take_length] at this⟩
       go_wp2
       go_ret
       exact ⟨y, rfl, by omega, hy1, fun _ => HS.out, HB.out⟩
structure Made (w : World) (B n : Nat) (L : List K) (j : Nat) : Prop where
 lt : B < w.heap.size
 rd : ∀ i, i < j → CellsK w B (i * 4) (at' L i)
 ex : ∀ i, i < n * 4 → ∃ v, w.cell? ⟨B, i, none⟩ = some v
 fr : ∀ i, i < n * 4 → w.frozen? ⟨B, i, none⟩ = false
theorem Made.below {w w' : World} {B n j : Nat} {L : List K} (h : Made w B n L j) (hb : Below w.heap.size w w') : Made w' B n L j where
 lt := Nat.lt_of_lt_of_le h.lt hb.size
 rd := fun i hi => (h.rd i hi).below hb h.lt
 ex := fun i hi => by obtain ⟨v, hv⟩ := h.ex i hi; exact ⟨v, (hb.cell (p := ⟨B, i, none⟩) h.lt).trans hv⟩
 fr := fun i hi => (hb.frozen (p := ⟨B, i, none⟩) h.lt).trans (h.fr i hi)
def put4 (w : World) (B o : Nat) (k : K) : World := (((w.setCell ⟨B, o, none⟩ (.int .i64 k.hand)).setCell ⟨B, o + 1, none⟩ (.int .i64 k.round)).setCell ⟨B, o + 2, none⟩ (.int .i64 k.frm)).setCell ⟨B, o + 3, none⟩ (.string k.word)
theorem ne_off {B i o : Nat} (h : i ≠ o) : (⟨B, o, none⟩ : Addr) ≠ ⟨B, i, none⟩ := by intro e; injection e with _ e; exact h e.symm
theorem put4_other (w : World) (B o : Nat) (k : K) (i : Nat) (h : i < o ∨ o + 4 ≤ i) : (put4 w B o k).cell? ⟨B, i, none⟩ = w.cell? ⟨B, i, none⟩ := by
 unfold put4
 rw [World.cell?_setCell_other _ _ _ _ (ne_off (by omega)), World.cell?_setCell_other _ _ _ _ (ne_off (by omega)), World.cell?_setCell_other _ _ _ _ (ne_off (by omega)), World.cell?_setCell_other _ _ _ _ (ne_off (by omega))]
theorem put4_there {w : World} {B o : Nat} (k : K) {v0 v1 v2 v3 : Value} (h0 : w.cell? ⟨B, o, none⟩ = some v0) (h1 : w.cell? ⟨B, o + 1, none⟩ = some v1) (h2 : w.cell? ⟨B, o + 2, none⟩ = some v2) (h3 : w.cell? ⟨B, o + 3, none⟩ = some v3) : CellsK (put4 w B o k) B o k := by
 unfold put4
 refine ⟨?_, ?_, ?_, ?_⟩
 · rw [World.cell?_setCell_other _ _ _ _ (ne_off (by omega)), World.cell?_setCell_other _ _ _ _ (ne_off (by omega)), World.cell?_setCell_other _ _ _ _ (ne_off (by omega))]
   exact World.cell?_setCell_same _ _ _ h0
 · rw [World.cell?_setCell_other _ _ _ _ (ne_off (by omega)), World.cell?_setCell_other _ _ _ _ (ne_off (by omega))]
   exact World.cell?_setCell_same _ _ _ ((World.cell?_setCell_other _ _ _ _ (ne_off (by omega))).trans h1)
 · rw [World.cell?_setCell_other _ _ _ _ (ne_off (by omega))]
   exact World.cell?_setCell_same _ _ _ ((World.cell?_setCell_other _ _ _ _ (ne_off (by omega))).trans ((World.cell?_setCell_other _ _ _ _ (ne_off (by omega))).trans h2))
 · exact World.cell?_setCell_same _ _ _ ((World.cell?_setCell_other _ _ _ _ (ne_off (by omega))).trans ((World.cell?_setCell_other _ _ _ _ (ne_off (by omega))).trans ((World.cell?_setCell_other _ _ _ _ (ne_off (by omega))).trans h3)))
theorem put4_frozen (w : World) (B o : Nat) (k : K) (p : Addr) : (put4 w B o k).frozen? p = w.frozen? p := by unfold put4; simp
theorem put4_size (w : World) (B o : Nat) (k : K) : (put4 w B o k).heap.size = w.heap.size := by unfold put4; simp
theorem Made.put {w : World} {B n j : Nat} {L : List K} (h : Made w B n L j) (hj : j < n) : Made (put4 w B (j * 4) (at' L j)) B n L (j + 1) := by
 obtain ⟨v0, e0⟩ := h.ex (j * 4) (by omega)
 obtain ⟨v1, e1⟩ := h.ex (j * 4 + 1) (by omega)
 obtain ⟨v2, e2⟩ := h.ex (j * 4 + 2) (by omega)
 obtain ⟨v3, e3⟩ := h.ex (j * 4 + 3) (by omega)
 have hk := put4_there (at' L j) e0 e1 e2 e3
 refine ⟨by rw [put4_size]; exact h.lt, fun i hi => ?_, fun i hi => ?_, fun i hi => by rw [put4_frozen]; exact h.fr i hi⟩
 · by_cases he : i = j
   · rw [he]; exact hk
   · have hc := h.rd i (by omega)
     exact ⟨(put4_other w B _ _ _ (by omega)).trans hc.c0, (put4_other w B _ _ _ (by omega)).trans hc.c1, (put4_other w B _ _ _ (by omega)).trans hc.c2, (put4_other w B _ _ _ (by omega)).trans hc.c3⟩
 · by_cases he : i < j * 4 ∨ j * 4 + 4 ≤ i
   · rw [put4_other w B _ _ i he]; exact h.ex i hi
   · rcases (show i = j * 4 ∨ i = j * 4 + 1 ∨ i = j * 4 + 2 ∨ i = j * 4 + 3 by omega) with rfl | rfl | rfl | rfl
     · exact ⟨_, hk.c0⟩
     · exact ⟨_, hk.c1⟩
     · exact ⟨_, hk.c2⟩
     · exact ⟨_, hk.c3⟩
theorem below_put4 {b B : Nat} {a w : World} (h : Below b a w) (hB : b ≤ B) (o : Nat) (k : K) : Below b a (put4 w B o k) :=
 (((h.setCell (p := ⟨B, o, none⟩) hB _).setCell (p := ⟨B, o + 1, none⟩) hB _).setCell (p := ⟨B, o + 2, none⟩) hB _).setCell (p := ⟨B, o + 3, none⟩) hB _
theorem made_new (w : World) (t : TypeId) (z : Array Value) (n : Nat) (L : List K) : Made (w.alloc (.cells (madeCells z (n * 4)) t)) w.heap.size n L 0 where
 lt := by simp
 rd := fun i hi => by omega
 ex := fun i hi => by
   rw [World.cell?_alloc_new]
   have : i < (madeCells z (n * 4)).size := by rw [size_madeCells]; exact hi
   exact ⟨_, Array.getElem?_eq_getElem this⟩
 fr := fun i hi => by simp
theorem infoKn : (Tryz.prog.info? 51).map (fun i => (i.zero, i.size, i.bytes)) = some (some (.agg #[.int .i64 0, .int .i64 0, .int .i64 0, .string ⟨#[]⟩]), 4, 40) := by kernel_rfl
def ToPost (L : List K) (w : World) (e : Ending) (w' : World) : Prop := e = .returned (.slice (some ⟨w.heap.size, 0, none⟩) L.length L.length) ∧ Made w' w.heap.size L.length L L.length ∧ Below w.heap.size w w'
theorem made_rd {w : World} {B n : Nat} {L : List K} (h : Made w B n L L.length) : RdK w (some ⟨B, 0, none⟩) L :=
 .inr ⟨B, 0, rfl, h.lt, fun i hi => by rw [Nat.zero_add]; exact h.rd i hi⟩
set_option maxHeartbeats 1600000 in
theorem toKnotS (ao : Option Addr) (cap : Nat) (L : List K) (w : World) (hl : L.length ≤ 1048576) (hr : RdK w ao L) :
   Calls Tryz.prog 8 #[.slice ao L.length cap] w (ToPost L w) := by
 obtain ⟨i0, hi, hz0, hz1, hz2⟩ := info_parts infoKn
 have hmk : ∀ W : World, (Instr.makeSlice 26 (.int .i64 (L.length : Int)) (.int .i64 (L.length : Int))).run Tryz.prog W = .ok (.slice (some ⟨W.heap.size, 0, none⟩) L.length L.length) (W.alloc (.cells (madeCells (Value.agg #[.int .i64 0, .int .i64 0, .int .i64 0, .string ⟨#[]⟩]).cells (L.length * 4)) 51)) := by
   intro W
   have := run_make (P := Tryz.prog) W 26 51 i0 _ Tryz.underlying26 hi hz0 .i64 .i64 (L.length : Int) (L.length : Int) (by omega) (by omega) (by rw [hz2]; omega) (by omega)
   rw [hz1] at this
   simpa using this
 have HP : Hid (Made (w.alloc (.cells (madeCells (Value.agg #[.int .i64 0, .int .i64 0, .int .i64 0, .string ⟨#[]⟩]).cells (L.length * 4)) 51)) w.heap.size L.length L 0 ∧ Below w.heap.size w (w.alloc (.cells (madeCells (Value.agg #[.int .i64 0, .int .i64 0, .int .i64 0, .string ⟨#[]⟩]).cells (L.length * 4)) 51))) := ⟨made_new _ _ _ _ _, (Below.refl _ _).alloc (Nat.le_refl _) _⟩
 clear hi hz0 hz1 hz2
 generalize (Value.agg #[.int .i64 0, .int .i64 0, .int .i64 0, .string ⟨#[]⟩]).cells = zc at hmk HP
 generalize madeCells zc (L.length * 4) = mc at hmk HP
 go_enter Tryz.func8, Tryz.ntmps8
 go_wp2
 clear hmk
 go_loopw [4] (fun i wr => ∃ j : Nat, j ≤ L.length ∧ i = .int .i64 j ∧ Hid (Made wr w.heap.size L.length L j) ∧ Hid (Below w.heap.size w wr)) (fun i _ => L.length - (intOf i).toNat)
 case atStart => exact ⟨0, by omega, rfl, HP.out.1, HP.out.2⟩
 case round =>
   obtain ⟨j, hj, rfl, HM, HB⟩ := hrel
   by_cases hlt : j < L.length
   · obtain ⟨g, off, rfl, hg, hc⟩ := hr.at j hlt
     obtain ⟨c0, c1, c2, c3⟩ := hc.below HB.out hg
     clear hc
     go_wp2_with fail
     refine (Kn.toKnot _ _ _ _ _).mono ?_
     rintro e w1 ⟨rfl, hb1⟩
     have M1 := HM.out.below hb1
     have B1 := HB.out.trans (hb1.mono HB.out.size)
     obtain ⟨v0, e0⟩ := M1.ex (j * 4) (by omega)
     obtain ⟨v1, e1⟩ := M1.ex (j * 4 + 1) (by omega)
     obtain ⟨v2, e2⟩ := M1.ex (j * 4 + 2) (by omega)
     obtain ⟨v3, e3⟩ := M1.ex (j * 4 + 3) (by omega)
     have f0 := M1.fr (j * 4) (by omega)
     have f1 := M1.fr (j * 4 + 1) (by omega)
     have f2 := M1.fr (j * 4 + 2) (by omega)
     have f3 := M1.fr (j * 4 + 3) (by omega)
     have HM1 : Hid (Made (put4 w1 w.heap.size (j * 4) (at' L j)) w.heap.size L.length L (j + 1)) := M1.put hlt
     have HB1 : Hid (Below w.heap.size w (put4 w1 w.heap.size (j * 4) (at' L j))) := below_put4 B1 (Nat.le_refl _) _ _
     clear M1 B1 hb1 HM HB c0 c1 c2 c3
     go_wp2
     go_roundw
     case rel => exact ⟨j + 1, by omega, by go_num, HM1, HB1⟩
     case measure => simp [intOf]; omega
   · obtain rfl : j = L.length := by omega
     go_wp2
     go_ret
     exact ⟨rfl, HM.out, HB.out⟩
set_option maxHeartbeats 1600000 in
theorem eqKnotS (g off cap g' off' cap' : Nat) (L : List K) (w : World) (hl : L.length ≤ 1048576) (hr : RdK w (some ⟨g, off, none⟩) L) (hr' : RdK w (some ⟨g', off', none⟩) L) :
   Calls Tryz.prog 12 #[.slice (some ⟨g, off, none⟩) L.length cap, .slice (some ⟨g', off', none⟩) L.length cap'] w fun e w' => e = .returned (.bool true) ∧ Below w.heap.size w w' := by
 go_enter Tryz.func12, Tryz.ntmps12
 go_wp2
 go_loopw [5] (fun i wr => ∃ j : Nat, j ≤ L.length ∧ i = .int .i64 j ∧ Hid (Below w.heap.size w wr)) (fun i _ => L.length - (intOf i).toNat)
 case atStart => exact ⟨0, by omega, rfl, Below.refl _ _⟩
 case round =>
   obtain ⟨j, hj, rfl, HB⟩ := hrel
   by_cases hlt : j < L.length
   · have P1 := (hr.below HB.out).at j hlt
     have P2 := (hr'.below HB.out).at j hlt
     obtain ⟨q, o, hq, hg, hc⟩ := P1
     injection hq with hq
     injection hq with q1 q2
     subst q1 q2
     obtain ⟨q, o, hq, hg', hc'⟩ := P2
     injection hq with hq
     injection hq with q1 q2
     subst q1 q2
     obtain ⟨X, _, F, HF, HG⟩ := Fam.fam wr
     have HC : Hid (∀ z, CellsK (F z) g (off + j * 4) (at' L j)) := fun z => hc.below (HF.out z) hg
     have HC' : Hid (∀ z, CellsK (F z) g' (off' + j * 4) (at' L j)) := fun z => hc'.below (HF.out z) hg'
     clear hc hc'
     generalize at' L j = k at HC HC'
     have c0 := fun z => (HC.out z).c0
     have c1 := fun z => (HC.out z).c1
     have c2 := fun z => (HC.out z).c2
     have c3 := fun z => (HC.out z).c3
     have d0 := fun z => (HC'.out z).c0
     have d1 := fun z => (HC'.out z).c1
     have d2 := fun z => (HC'.out z).c2
     have d3 := fun z => (HC'.out z).c3
     go_wp2_with fail
     refine Fam.region (F := F) (by kernel_rfl) (by kernel_rfl) (HG.out _ (Below.refl _ wr).drew) ?_
     repeat (go_big_quiet_step (first
       | (go_at_call 32; exact (Kn.eqSame _ _ _ _ _).mono fun _ _ h => ⟨h.1, HG.out _ ((HF.out _).trans (h.2.mono (HF.out _).size))⟩)))
     refine wpQuiet_nil ?_
     intro w2 hw2
     obtain ⟨z, rfl⟩ := hw2
     have HB2 : Hid (Below w.heap.size w (F z)) := HB.out.trans ((HF.out z).mono HB.out.size)
     clear c0 c1 c2 c3 d0 d1 d2 d3
     go_wp2
     go_roundw
     case rel => exact ⟨j + 1, by omega, by go_num, HB2⟩
     case measure => simp [intOf]; omega
   · obtain rfl : j = L.length := by omega
     go_wp2
     go_ret
     exact ⟨rfl, HB.out⟩
end Lc
end Go.Proofs.YtjnhniffgeepjaaGreat
namespace Go.Proofs.YtjnhniffgeepjaaGreat
open Go.ChangeShapes Go.WideShapes Go.ChangeAt Go.RowKit
set_option maxRecDepth 100000
namespace Nu
theorem openI {H : Type} {enc : TypeId × Value → H} {W : World} {spare : Nat → Bool} {held : Bool} {a0 : Option Addr} {len0 cap0 fuel : Nat} {x : DataW H × List MemPlace}
   (h : DataW.trod enc Tryz.prog W 0 spare held fuel 23 [.slice a0 len0 cap0] = some x) : ∃ C : List Int, C.length = len0 ∧ RdI W a0 C ∧ (∀ z ∈ C, -9223372036854775808 ≤ z ∧ z ≤ 9223372036854775807) ∧ len0 ≤ maxLen := by
 rcases open_ints Tryz.underlying23 Tryz.underlying2 (by kernel_rfl) h with ⟨hcs, _⟩ | ⟨y, l, c, zs, hcs, _, hl, hm, hz, _, hcell, hwz⟩
 · simp at hcs
   obtain ⟨rfl, rfl, rfl⟩ := hcs
   exact ⟨[], rfl, .inl rfl, by simp, by simp⟩
 · simp at hcs
   obtain ⟨rfl, rfl, rfl⟩ := hcs
   have hzl : len0 ≤ zs.length := by rw [hz]; split <;> omega
   have hlen : (zs.take len0).length = len0 := by simp; omega
   refine ⟨zs.take len0, hlen, ?_, fun z hz' => ?_, by omega⟩
   · by_cases h0 : len0 = 0
     · subst h0; exact .inl (by simp)
     · obtain ⟨b, off, spot⟩ := y
       have hc := hcell 0 (by omega)
       have hspot : spot = none := by simpa [Addr.add] using World.cell?_spot hc
       subst hspot
       refine .inr ⟨b, off, rfl, ?_, fun j hj => ?_⟩
       · have := block_lt_of_cell hc; simpa [Addr.add] using this
       · rw [hlen] at hj
         have hcj := hcell j (by omega)
         rw [WideShapes.add_plain] at hcj
         rw [hcj]
         simp [List.getD, hj]
   · have := hwz z (List.mem_of_mem_take hz')
     simpa [Lit.wf, IntKind.min, IntKind.max, IntKind.signed, IntKind.bits] using this
end Nu
namespace Nd
open Kn (K okK)
open Bit (bit withB)
open Lc (at' RdK amongI HandsOk)
open Db (RowI)
def hf (L : List K) (s h : Int) (n : Nat) : Int := amongI (fun k => decide (k.hand = h)) L s n
theorem hf_step (L : List K) (s h : Int) (n : Nat) : hf L s h (n + 1) = if bit s n && decide ((at' L n).hand = h) then withB (hf L s h n) n else hf L s h n := rfl
theorem hf_bd (L : List K) (s h : Int) (n : Nat) (hn : n ≤ 60) : 0 ≤ hf L s h n ∧ hf L s h n < 1152921504606846976 := Lc.among_bd _ L s n hn
theorem hf_miss (L : List K) (s : Int) (n : Nat) (hb : bit s n = false) : (fun h : Nat => hf L s h (n + 1)) = fun h : Nat => hf L s h n := by
 funext h; rw [hf_step, hb]; simp
theorem hf_hit (L : List K) (s : Int) (n m : Nat) (hb : bit s n = true) (hm : (at' L n).hand = (m : Int)) : (fun h : Nat => if h = m then withB (hf L s m n) n else hf L s h n) = fun h : Nat => hf L s h (n + 1) := by
 funext h; rw [hf_step, hb, hm]
 by_cases e : h = m
 · subst e; simp
 · have : ¬ ((m : Int) = (h : Int)) := by omega
   rw [if_neg e, decide_eq_false this]; simp
theorem rowI_alloc {w : World} {g n : Nat} {D : Nat → Int} (h : RowI w g n D) (o : Obj) : RowI (w.alloc o) g n D where
 lt := by have := h.lt; simp; omega
 rd := fun i hi => by rw [World.cell?_alloc_lt _ _ _ h.lt]; exact h.rd i hi
 fr := fun i hi => by rw [World.frozen?_alloc_past _ _ _ h.lt]; exact h.fr i hi
theorem rowI_other {w : World} {g n : Nat} {D : Nat → Int} (h : RowI w g n D) (c i : Nat) (hc : g ≠ c) (v : Value) : RowI (w.setCell ⟨c, i, none⟩ v) g n D where
 lt := by simpa using h.lt
 rd := fun j hj => (World.cell?_of_block (w := w) (Below.heap_setCell w ⟨c, i, none⟩ v g hc)).trans (h.rd j hj)
 fr := fun j hj => by rw [World.frozen?_setCell]; exact h.fr j hj
theorem rowI_four (w : World) (t : TypeId) : RowI (w.alloc (.cells #[.int .i64 0, .int .i64 0, .int .i64 0, .int .i64 0] t)) w.heap.size 4 (fun _ => 0) where
 lt := by simp
 rd := fun i hi => by
   match i, hi with
   | 0, _ => simp
   | 1, _ => simp
   | 2, _ => simp
   | 3, _ => simp
 fr := fun i hi => by
   match i, hi with
   | 0, _ => simp
   | 1, _ => simp
   | 2, _ => simp
   | 3, _ => simp
set_option maxHeartbeats 1600000 in
theorem handfulsOf (g off cap : Nat) (L : List K) (s : Int) (w : World) (hL : L.length ≤ 60) (hs : Base.okB s = true) (hh : HandsOk L) (hr : RdK w (some ⟨g, off, none⟩) L) :
   Calls Tryz.prog 142 #[.slice (some ⟨g, off, none⟩) L.length cap, .int .i64 s] w fun e w' =>
     e = .returned (.agg #[.int .i64 (hf L s 0 L.length), .int .i64 (hf L s 1 L.length), .int .i64 (hf L s 2 L.length), .int .i64 (hf L s 3 L.length)]) ∧ Below w.heap.size w w' := by
 have HO : Hid (Base.okB s = true) := hs
 have P0 : Hid (RowI ((w.alloc (.cells #[.int .i64 0, .int .i64 0, .int .i64 0, .int .i64 0] 166)).alloc (.cells #[.int .i64 0, .int .i64 0, .int .i64 0, .int .i64 0] 166)) w.heap.size 4 (fun _ => 0) ∧
     RowI ((w.alloc (.cells #[.int .i64 0, .int .i64 0, .int .i64 0, .int .i64 0] 166)).alloc (.cells #[.int .i64 0, .int .i64 0, .int .i64 0, .int .i64 0] 166)) (w.heap.size + 1) 4 (fun _ => 0) ∧
     Below w.heap.size w ((w.alloc (.cells #[.int .i64 0, .int .i64 0, .int .i64 0, .int .i64 0] 166)).alloc (.cells #[.int .i64 0, .int .i64 0, .int .i64 0, .int .i64 0] 166))) :=
   ⟨rowI_alloc (rowI_four w _) _, by have := rowI_four (w.alloc (.cells #[.int .i64 0, .int .i64 0, .int .i64 0, .int .i64 0] 166)) 166; simpa using this, ((Below.refl _ w).alloc (Nat.le_refl _) _).alloc (by simp) _⟩
 clear hs
 go_enter Tryz.func142, Tryz.ntmps142
 go_wp2
 go_loopw [10] (fun i wr => ∃ j : Nat, j ≤ L.length ∧ i = .int .i64 j ∧ Hid (RowI wr w.heap.size 4 (fun _ => 0)) ∧ Hid (RowI wr (w.heap.size + 1) 4 (fun h => hf L s h j)) ∧ Hid (Below w.heap.size w wr)) (fun i _ => L.length - (intOf i).toNat)
 case atStart => exact ⟨0, by omega, rfl, P0.out.1, P0.out.2.1, P0.out.2.2⟩
 case round =>
   obtain ⟨j, hj, rfl, HR, HF, HB⟩ := hrel
   clear P0
   by_cases hlt : j < L.length
   · obtain ⟨hg, hc⟩ := hr.on j hlt
     obtain ⟨c0, c1, c2, c3⟩ := hc.below HB.out hg
     have hin : Base.inB (j : Int) = true := (Base.inB_iff _).2 ⟨by omega, by omega⟩
     have hk := hh _ (Lc.at_mem L j hlt)
     cases hb : bit s j
     · have HH : Hid ((Base.okB s && (Base.inB (j : Int) && bit s j)) = false) := by show _ = _; simp [hb]
       have HD : Hid ((fun h : Nat => hf L s h (j + 1)) = fun h : Nat => hf L s h j) := hf_miss L s j hb
       clear hb hin hk
       go_wp2_with (go_at_call 57; refine (Base.has _ _ _).mono ?_; rintro e w' ⟨rfl, rfl⟩; rw [Int.toNat_natCast, HH.out])
       go_roundw
       case rel => exact ⟨j + 1, by omega, by go_num, rowI_alloc HR.out _, by show RowI _ _ _ _; rw [HD.out]; exact rowI_alloc HF.out _, HB.out.alloc HB.out.size _⟩
       case measure => simp [intOf]; omega
     · have HH : Hid ((Base.okB s && (Base.inB (j : Int) && bit s j)) = true) := by show _ = _; simp [hb, hin, HO.out]
       obtain ⟨m, hm⟩ := Int.eq_ofNat_of_zero_le hk.1
       have hm4 : m < 4 := by omega
       have HD : Hid ((fun h : Nat => if h = m then withB (hf L s m j) j else hf L s h j) = fun h : Nat => hf L s h (j + 1)) := hf_hit L s j m hb hm
       have hbd := hf_bd L s m j (by omega)
       have HW : Hid (Base.withI (hf L s m j) (j : Int) = withB (hf L s m j) j) := by
         show _ = _
         unfold Base.withI
         rw [(Base.okB_iff _).2 hbd, hin]; simp
       have HR1 : Hid (RowI (wr.alloc (.cells #[.int .i64 m, .int .i64 (at' L j).round, .int .i64 (at' L j).frm, .string (at' L j).word] 114)) w.heap.size 4 (fun _ => 0)) := rowI_alloc HR.out _
       have HF1 : Hid (RowI (wr.alloc (.cells #[.int .i64 m, .int .i64 (at' L j).round, .int .i64 (at' L j).frm, .string (at' L j).word] 114)) (w.heap.size + 1) 4 (fun h => hf L s h j)) := rowI_alloc HF.out _
       have HB1 : Hid (Below w.heap.size w (wr.alloc (.cells #[.int .i64 m, .int .i64 (at' L j).round, .int .i64 (at' L j).frm, .string (at' L j).word] 114))) := HB.out.alloc HB.out.size _
       have HK1 : Hid ((wr.alloc (.cells #[.int .i64 m, .int .i64 (at' L j).round, .int .i64 (at' L j).frm, .string (at' L j).word] 114)).cell? ⟨wr.heap.size, 0, none⟩ = some (.int .i64 m)) := by show _ = _; simp
       rw [hm] at c0
       clear hb hin hk hbd hm HR HF
       go_wp2_with (first | (go_at_call 57; refine (Base.has _ _ _).mono ?_; rintro e w' ⟨rfl, rfl⟩; rw [Int.toNat_natCast, HH.out]) | fail)
       clear HH c0 c1 c2 c3 hc
       generalize wr.alloc (.cells #[.int .i64 m, .int .i64 (at' L j).round, .int .i64 (at' L j).frm, .string (at' L j).word] 114) = V at HR1 HF1 HB1 HK1 ⊢
       generalize wr.heap.size = kb at HK1 ⊢
       have d0 := HK1.out
       have e1 := HF1.out.rd m hm4
       have f1 := HF1.out.fr m hm4
       have hmi : (m : Int) < 4 := by omega
       have HR2 : Hid (RowI (V.setCell ⟨w.heap.size + 1, m, none⟩ (.int .i64 (withB (hf L s m j) j))) w.heap.size 4 (fun _ => 0)) := rowI_other HR1.out _ _ (by omega) _
       have HF2 : Hid (RowI (V.setCell ⟨w.heap.size + 1, m, none⟩ (.int .i64 (withB (hf L s m j) j))) (w.heap.size + 1) 4 (fun h => hf L s h (j + 1))) := by
         show RowI _ _ _ _
         rw [← HD.out]; exact HF1.out.put m hm4 _
       have HB2 : Hid (Below w.heap.size w (V.setCell ⟨w.heap.size + 1, m, none⟩ (.int .i64 (withB (hf L s m j) j)))) := HB1.out.setCell (p := ⟨w.heap.size + 1, m, none⟩) (by simp) _
       clear HR1 HF1 HB1 HK1 HD
       generalize hf L s m j = x at e1 HW HR2 HF2 HB2
       go_region_with (go_at_call 124; refine (Base.withM _ _ _).mono ?_; rintro e w' ⟨rfl, rfl⟩; rw [HW.out])
       all_goals
         go_wp2
         go_roundw
         case rel => exact ⟨j + 1, by omega, by go_num, HR2.out.drew, HF2.out.drew, HB2.out.drew⟩
         case measure => simp [intOf]; omega
   · obtain rfl : j = L.length := by omega
     have r0 := HR.out.rd 0 (by omega)
     have r1 := HR.out.rd 1 (by omega)
     have r2 := HR.out.rd 2 (by omega)
     have r3 := HR.out.rd 3 (by omega)
     have q0 := HR.out.fr 0 (by omega)
     have q1 := HR.out.fr 1 (by omega)
     have q2 := HR.out.fr 2 (by omega)
     have q3 := HR.out.fr 3 (by omega)
     have f0 := HF.out.rd 0 (by omega)
     have f1 := HF.out.rd 1 (by omega)
     have f2 := HF.out.rd 2 (by omega)
     have f3 := HF.out.rd 3 (by omega)
     have HP4 : Hid (∀ x0 x1 x2 x3 : Int, ∃ W4, W4 = ((((wr.setCell ⟨w.heap.size, 0, none⟩ (.int .i64 x0)).setCell ⟨w.heap.size, 1, none⟩ (.int .i64 x1)).setCell ⟨w.heap.size, 2, none⟩ (.int .i64 x2)).setCell ⟨w.heap.size, 3, none⟩ (.int .i64 x3)) ∧
         W4.cell? ⟨w.heap.size, 0, none⟩ = some (.int .i64 x0) ∧ W4.cell? ⟨w.heap.size, 1, none⟩ = some (.int .i64 x1) ∧ W4.cell? ⟨w.heap.size, 2, none⟩ = some (.int .i64 x2) ∧ W4.cell? ⟨w.heap.size, 3, none⟩ = some (.int .i64 x3) ∧ Below w.heap.size w W4) := fun x0 x1 x2 x3 => by
       have h1 := (((HR.out.put 0 (by omega) x0).put 1 (by omega) x1).put 2 (by omega) x2).put 3 (by omega) x3
       refine ⟨_, rfl, h1.rd 0 (by omega), h1.rd 1 (by omega), h1.rd 2 (by omega), h1.rd 3 (by omega), ?_⟩
       exact (((HB.out.setCell (p := ⟨w.heap.size, 0, none⟩) (Nat.le_refl _) _).setCell (p := ⟨w.heap.size, 1, none⟩) (Nat.le_refl _) _).setCell (p := ⟨w.heap.size, 2, none⟩) (Nat.le_refl _) _).setCell (p := ⟨w.heap.size, 3, none⟩) (Nat.le_refl _) _
     go_wp2
     obtain ⟨W4, hW4, k0, k1, k2, k3, hB4⟩ := HP4.out (hf L s 0 L.length) (hf L s 1 L.length) (hf L s 2 L.length) (hf L s 3 L.length)
     rw [← hW4]
     refine bodyPost_ret (v := .agg #[.int .i64 (hf L s 0 L.length), .int .i64 (hf L s 1 L.length), .int .i64 (hf L s 2 L.length), .int .i64 (hf L s 3 L.length)]) (by simp [results, Tryz.f142, go_sem, k0, k1, k2, k3]) rfl ?_
     exact ⟨rfl, hB4⟩
end Nd
namespace Lc
open Kn (K okK)
open Bit (bit withB)
theorem pow60 (n : Nat) (hn : n ≤ 60) : (1 : Int) ≤ 2 ^ n ∧ (2 : Int) ^ n ≤ 1152921504606846976 := by
 have hp : 1 ≤ 2 ^ n := Nat.one_le_two_pow
 have hq : 2 ^ n ≤ 2 ^ 60 := Nat.pow_le_pow_right (by decide) hn
 have hpc : ((2 ^ n : Nat) : Int) = (2 : Int) ^ n := by simp
 omega
theorem wrap60 (n : Nat) (hn : n ≤ 60) : IntKind.i64.wrap (2 ^ n) = 2 ^ n := by
 have := pow60 n hn
 rw [IntKind.wrap_i64]; omega
def inL (n : Nat) (s : Int) : Bool := decide (0 ≤ s) && decide (s / 2 ^ n = 0)
set_option maxHeartbeats 400000 in
theorem all (a : Option Addr) (cap n : Nat) (w : World) (hn : n ≤ 60) : Calls Tryz.prog 82 #[.slice a n cap] w fun e w' => e = .returned (.int .i64 (2 ^ n - 1)) ∧ w = w' := by
 have h1 := wrap60 n hn
 have h2 := pow60 n hn
 go_enter Tryz.func82, Tryz.ntmps82
 go_wp2
 go_ret
 exact ⟨rfl, rfl⟩
set_option maxHeartbeats 400000 in
theorem holds (a : Option Addr) (cap n : Nat) (s : Int) (w : World) (hn : n ≤ 60) (h0 : -9223372036854775808 ≤ s) (h1 : s ≤ 9223372036854775807) : Calls Tryz.prog 55 #[.slice a n cap, .int .i64 s] w fun e w' => e = .returned (.bool (inL n s)) ∧ w = w' := by
 have HA : Hid ((bits .andNot .i64 s (2 ^ n - 1) == 0) = inL n s) := andNot_zero s n hn h0 h1
 go_enter Tryz.func55, Tryz.ntmps55
 go_wp2_with fail
 refine (all _ _ _ _ hn).mono ?_
 rintro e w1 ⟨rfl, rfl⟩
 go_wp2
 go_ret
 exact ⟨by rw [← HA.out]; rfl, rfl⟩
theorem setB_eq (L : List K) (s : Int) : setB L s = (laceB L && inL L.length s) := rfl
end Lc
end Go.Proofs.YtjnhniffgeepjaaGreat
