/-
  FnExactTaleOf answers true at every argument, for TaleOf answers as its model does, writes into no argument, and its answer owns its memory; no condition.
  How long the lists of chapters 11 and 12 are at most; what the model answers for OutOf and BeginsWith.
  The walk of the program's tale: what is fresh of each of the chain, one behind the other.
  What the program's own TaleOf and OutOf answer, in the words of TaleS; for coins of at most 2^20 numbers and lists of knots whose words have at most 2^40 bytes.
-/
import Derived.Test.YtodgkhlnefggdaaGreatZTb
import Derived.Test.YtodgkhlnefggdaaGreatInts
import Derived.Test.YtodgkhlnefggdaaGreatZChain
import Derived.Test.YtodgkhlnefggdaaGreatZOr
import Derived.Laws.AppendOwnNone
import Derived.Test.YtodgkhlnefggdaaGreatZFm
import Derived.Test.YtodgkhlnefggdaaGreatRows
import Derived.WalkKit
import Derived.ProofKit
import Derived.OpenShut
import Derived.ChangeOld
import Derived.Below
import Derived.Lib.SmallJoins
import Derived.Test.YtodgkhlnefggdaaGreatLaceG
import Derived.Test.YtodgkhlnefggdaaGreatIntsG
import Derived.Test.YtodgkhlnefggdaaGreatMarkI
import Derived.Test.YtodgkhlnefggdaaGreatTieA
namespace Go.Proofs.YtodgkhlnefggdaaGreat
open Go.RowKit
set_option maxRecDepth 100000
namespace Tl
open Kn (K okK)
open Bit (bit withB memTo)
open Lc (at' RdK WordsOk laceB setB)
open Sg (isB bel belows NumsPost)
open Ch (chainL)

theorem orderedI_len (L : List K) (s : Int) : (orderedI L s).length ≤ 60 := by
  unfold orderedI
  split
  · rw [ord_len]; exact Bit.memTo_le _ 60
  · simp
theorem freshI_len (L : List K) (k e : Int) : (freshI L k e).length ≤ 60 := by
  unfold freshI
  split
  · exact fresh_len L k e
  · simp
theorem taleF_len (L : List K) : ∀ (l : List Int) (e : Int), (taleF L e l).length ≤ 60 * l.length := by
  intro l
  induction l with
  | nil => intro e; exact Nat.le_refl _
  | cons c r ih =>
    intro e
    show (freshL L c e ++ taleF L c r).length ≤ _
    have h1 := fresh_len L c e
    have h2 := ih c
    rw [List.length_append, List.length_cons]; omega
theorem taleI_len (L : List K) (C : List Int) (k : Int) : (taleI L C k).length ≤ 3660 := by
  have hc := @Ch.chainI_len L C k
  unfold taleI
  split
  · rename_i h
    have e : Ch.chainI L C k = chainL L C k := by unfold Ch.chainI; rw [if_pos h]
    rw [e] at hc
    have := taleF_len L (chainL L C k) (-1)
    unfold taleL
    omega
  · simp
theorem outI_len (L : List K) (C : List Int) (s : Int) : (outI L C s).length ≤ 3660 := by
  unfold outI
  split
  · rename_i h
    unfold Fm.rightB at h
    rw [Bool.and_eq_true] at h
    rcases last_spec L C s L.length with ⟨q, _⟩ | ⟨f, q, hf, _⟩
    · rw [out_none (by rw [q]; omega)]; simp
    · rw [out_some (by rw [q]; omega), q]
      have hl := (Fm.closed_set h.1).1
      have hon : Ch.onB L C (f : Int) = true := by
        unfold Ch.onB
        rw [h.2]
        unfold Sg.isB
        rw [hl]
        simp; omega
      have := taleI_len L C (f : Int)
      unfold taleI at this
      rw [if_pos hon] at this
      exact this
  · simp

set_option maxHeartbeats 1600000 in
/-- of an empty lace nothing is told -/
theorem l12OutE (g off cap : Nat) (ao : Option Addr) (cc : Nat) (C : List Int) (s : Int) (w : World) (hg : g < w.heap.size) (hrd : Lst.Rd w ao C) (hao : ∀ c, ao = some ⟨c, 0, none⟩ → c < w.heap.size) (h0 : 0 ≤ s) (h1 : s < 1152921504606846976) :
    Calls Tryz.prog 29 #[.slice (some ⟨g, off, none⟩) 0 cap, .slice ao C.length cc, .int .i64 s] w (NumsPost [] w) := by
  have hl : laceB ([] : List K) = true := rfl
  have HRD : Hid (∀ W : World, Below w.heap.size w W → Lst.Rd W ao C ∧ ∀ c, ao = some ⟨c, 0, none⟩ → c < W.heap.size) := fun W hW => ⟨Ch.rd_below hrd hao hW, fun c e => Nat.lt_of_lt_of_le (hao c e) hW.size⟩
  have HN : Hid (∀ W : World, RdK W (some ⟨g, off, none⟩) ([] : List K)) := fun W => .inl rfl
  have HB4 : Hid (Calls Tryz.prog 20 #[.slice (some ⟨g, off, none⟩) 0 cap] w (NumsPost [] w)) := Sg.l4All (some ⟨g, off, none⟩) cap [] w (by simp) (Sg.frm_lace hl) (HN.out w)
  clear hrd hao
  go_enter Tryz.func29, Tryz.ntmps29
  go_wp2_with fail
  refine HB4.out.mono ?_
  rintro e w1 ⟨bo, bc, rfl, hown, hb1⟩
  have h7 : Calls Tryz.prog 35 #[.slice (some ⟨g, off, none⟩) 0 cap, .slice bo 0 bc] w1 (Sl.SealPost [] w1) := Sl.l7All g off cap [] bo bc w1 hl (HN.out w1) (.inl rfl) (fun c e => by subst e; exact (World.ownsRow.lt hown c rfl).2)
  clear hown HB4
  simp only [List.length_nil] at *
  go_wp2_with fail
  refine h7.mono ?_
  rintro e w2 ⟨h, O, rfl, _, hrow, hO, hb2⟩
  have hB2 := hb1.trans (hb2.mono hb1.size)
  have h9 : Calls Tryz.prog 48 #[.slice (some ⟨g, off, none⟩) 0 cap, .slice ao C.length cc, .slice (some ⟨h, 0, none⟩) 0 0, .int .i64 s] w2 (NumsPost [] w2) := Fm.l9Firm g off cap [] ao cc C h O s w2 hl (HN.out w2) (Nat.lt_of_lt_of_le hg hB2.size) (HRD.out w2 hB2).1 (HRD.out w2 hB2).2 hrow hO h0 h1
  clear h7 hb1 hb2 hrow hO
  simp only [List.length_nil] at *
  go_wp2_with fail
  refine h9.mono ?_
  rintro e w3 ⟨fo, fc, rfl, hof, hb3⟩
  have hB3 := hB2.trans (hb3.mono hB2.size)
  have hla : Calls Tryz.prog 47 #[.slice (some ⟨g, off, none⟩) 0 cap, .slice fo 0 fc] w3 fun e w' => e = .returned (.int .i64 (-1)) ∧ ∃ n, w' = w3.drewN n := Fm.l9Last g off cap [] fo fc [] w3 (fun x hx => absurd hx (by simp)) (by simp) (HN.out w3) (.inl rfl)
  clear h9 hof hb3 hB2
  simp only [List.length_nil] at *
  go_wp2_with fail
  refine hla.mono ?_
  rintro e w4 ⟨rfl, n4, rfl⟩
  have HB4 : Hid (Below w.heap.size w (w3.drewN n4)) := Db.below_drewN hB3 n4
  clear hla hB3
  generalize w3.drewN n4 = V at HB4 ⊢
  have HP : Hid _ := Ch.nums_nil HB4.out
  go_wp2
  go_ret
  exact ⟨some ⟨V.heap.size, 0, none⟩, 0, rfl, HP.out.1, HP.out.2⟩

set_option maxHeartbeats 1600000 in
theorem specOutOf (g off cap : Nat) (L : List K) (ao : Option Addr) (cc : Nat) (C : List Int) (s : Int) (w : World) (hcap : L.length ≤ cap) (hw : WordsOk L) (hg : g < w.heap.size) (hr : RdK w (some ⟨g, off, none⟩) L) (hC : C.length ≤ 1048576) (hrd : Lst.Rd w ao C) (hao : ∀ c, ao = some ⟨c, 0, none⟩ → c < w.heap.size) :
    Calls Tryz.prog 15 #[.slice (some ⟨g, off, none⟩) L.length cap, .slice ao C.length cc, .int .i64 s] w (NumsPost (outI L C s) w) := by
  have HRD : Hid (∀ W : World, Below w.heap.size w W → Lst.Rd W ao C ∧ ∀ c, ao = some ⟨c, 0, none⟩ → c < W.heap.size) := fun W hW => ⟨Ch.rd_below hrd hao hW, fun c e => Nat.lt_of_lt_of_le (hao c e) hW.size⟩
  have hcall := Fm.l9Right g off cap L ao cc C s w hcap hw hr hC hrd hao
  have HR : Hid (RdK w (some ⟨g, off, none⟩) L) := hr
  clear hrd hao hr
  go_enter Tryz.func15, Tryz.ntmps15
  go_wp2_with fail
  refine hcall.mono ?_
  rintro e w1 ⟨rfl, hb1⟩
  clear hcall
  cases hq : Fm.rightB L C s
  · have HT : Hid (outI L C s = []) := by show _ = _; unfold outI; rw [hq]; rfl
    have HP : Hid _ := Ch.nums_nil hb1
    clear hq
    go_wp2
    go_ret
    rw [HT.out]
    exact ⟨some ⟨w1.heap.size, 0, none⟩, 0, rfl, HP.out.1, HP.out.2⟩
  · have HT : Hid (outI L C s = outL L C s) := by show _ = _; unfold outI; rw [hq]; rfl
    unfold Fm.rightB at hq
    rw [Bool.and_eq_true] at hq
    obtain ⟨hlc, s0, s1⟩ := Fm.closed_set hq.1
    have hE : Calls Tryz.prog 29 #[.slice (some ⟨g, off, none⟩) L.length cap, .slice ao C.length cc, .int .i64 s] w1 (NumsPost (outL L C s) w1) := by
      by_cases hN : 0 < L.length
      · exact l12Out g off cap L ao cc C s w1 hlc hN (Nat.lt_of_lt_of_le hg hb1.size) (HR.out.below hb1) (HRD.out w1 hb1).1 (HRD.out w1 hb1).2 s0 s1
      · obtain rfl : L = [] := List.length_eq_zero_iff.1 (by omega)
        exact l12OutE g off cap ao cc C s w1 (Nat.lt_of_lt_of_le hg hb1.size) (HRD.out w1 hb1).1 (HRD.out w1 hb1).2 s0 s1
    clear hq hlc
    generalize hol : outL L C s = ol at hE HT
    have HOL : Hid (outL L C s = ol) := hol
    clear hol
    go_wp2_with fail
    refine hE.mono ?_
    rintro e w4 ⟨ro, rc, rfl, hown, hb4⟩
    have HP : Hid (Memb.Own w.heap.size w4 ro rc ol ∧ Below w.heap.size w w4) := ⟨Ch.own_base hown hb1.size, hb1.trans (hb4.mono hb1.size)⟩
    clear hE hb4 hown
    go_wp2
    go_ret
    rw [HT.out]
    exact ⟨ro, rc, rfl, HP.out.1, HP.out.2⟩

/-- the document's BeginsWith -/
def beginsB (a b : List Int) : Bool := decide (b.length ≤ a.length) && (List.range b.length).all fun i => a.getD i 0 == b.getD i 0

theorem begins_long {a b : List Int} (h : a.length < b.length) : beginsB a b = false := by
  unfold beginsB; rw [decide_eq_false (by omega)]; rfl
theorem begins_no {a b : List Int} (j : Nat) (hj : j < b.length) (h : (a.getD j 0 == b.getD j 0) = false) : beginsB a b = false := by
  rw [Bool.eq_false_iff]
  intro hb
  unfold beginsB at hb
  rw [Bool.and_eq_true, List.all_eq_true] at hb
  have := hb.2 j (by simpa using hj)
  rw [h] at this; exact Bool.noConfusion this
theorem begins_yes {a b : List Int} (hl : b.length ≤ a.length) (h : ∀ j, j < b.length → (a.getD j 0 == b.getD j 0) = true) : beginsB a b = true := by
  unfold beginsB
  rw [decide_eq_true hl, Bool.true_and, List.all_eq_true]
  intro j hj
  exact h j (by simpa using hj)

end Tl
end Go.Proofs.YtodgkhlnefggdaaGreat

namespace Go.Proofs.YtodgkhlnefggdaaGreat
open Go.RowKit
set_option maxRecDepth 100000
set_option linter.unusedVariables false
namespace Tp
open Kn (K okK)
open Lc (at' RdK WordsOk laceB)
open Ch (chainL)
open Tl (taleF taleL freshL TlSt)

set_option maxHeartbeats 6400000 in
theorem tale (g off cap : Nat) (L : List K) (C : List Int) (k : Nat) (w : World) (hlc : laceB L = true) (hc : Rm.coinsB C = true) (hg : g < w.heap.size) (hr : RdK w (some ⟨g, off, none⟩) L) (hk : k < L.length) :
    Calls Tryz.prog 25 #[.slice (some ⟨g, off, none⟩) L.length cap, .agg #[.int .i64 (Ch.leadI C 0), .int .i64 (Ch.leadI C 1), .int .i64 (Ch.leadI C 2), .int .i64 (Ch.leadI C 3), .int .i64 (Ch.leadI C 4), .int .i64 (Ch.leadI C 5), .int .i64 (Ch.leadI C 6)], .int .i64 (k : Int)] w (Sg.NumsPost (taleL L C (k : Int)) w) := by
  obtain ⟨i0, hi, hz0, hz1, hz2⟩ := info_parts Memb.info2
  have h60 := ((Lc.lace_iff L).1 hlc).1
  have HCH : Hid (∀ W : World, Below w.heap.size w W → Calls Tryz.prog 44 #[.slice (some ⟨g, off, none⟩) L.length cap, .agg #[.int .i64 (Ch.leadI C 0), .int .i64 (Ch.leadI C 1), .int .i64 (Ch.leadI C 2), .int .i64 (Ch.leadI C 3), .int .i64 (Ch.leadI C 4), .int .i64 (Ch.leadI C 5), .int .i64 (Ch.leadI C 6)], .int .i64 (k : Int)] W fun e w' => ∃ ao ca, e = .returned (.slice ao (chainL L C (k : Int)).length ca) ∧ Memb.Own W.heap.size w' ao ca (chainL L C (k : Int)) ∧ Below W.heap.size W w') := fun W hW => Cn.chain g off cap L C k W hlc hc (Nat.lt_of_lt_of_le hg hW.size) (hr.below hW) hk
  have HFR : Hid (∀ (W : World) (q : Nat) (e : Int), q < L.length → -1 ≤ e → e < (L.length : Int) → Below w.heap.size w W → Calls Tryz.prog 45 #[.slice (some ⟨g, off, none⟩) L.length cap, .int .i64 (q : Int), .int .i64 e] W (Sg.NumsPost (freshL L (q : Int) e) W)) := fun W q e hq h0 h1 hW => So.fresh g off cap L q e W hlc hq h0 h1 (Nat.lt_of_lt_of_le hg hW.size) (hr.below hW)
  have hcl := Ch.chain_len L C (k : Int)
  have HCM : Hid (∀ x ∈ chainL L C (k : Int), 0 ≤ x ∧ x < (L.length : Int)) := fun x hx => by
    have := Tl.chF_mem L C _ _ _ hx
    omega
  have hcl2 : (chainL L C (k : Int)).length ≤ 60 := by omega
  have HTL : Hid (taleL L C (k : Int) = taleF L (-1) (chainL L C (k : Int))) := rfl
  obtain ⟨V0, hV0⟩ : ∃ V0, V0 = w.alloc (.cells #[.int .i64 (Ch.leadI C 0), .int .i64 (Ch.leadI C 1), .int .i64 (Ch.leadI C 2), .int .i64 (Ch.leadI C 3), .int .i64 (Ch.leadI C 4), .int .i64 (Ch.leadI C 5), .int .i64 (Ch.leadI C 6)] 46) := ⟨_, rfl⟩
  have HV0 : Hid (V0 = w.alloc (.cells #[.int .i64 (Ch.leadI C 0), .int .i64 (Ch.leadI C 1), .int .i64 (Ch.leadI C 2), .int .i64 (Ch.leadI C 3), .int .i64 (Ch.leadI C 4), .int .i64 (Ch.leadI C 5), .int .i64 (Ch.leadI C 6)] 46)) := hV0
  have HB0 : Hid (Below w.heap.size w (V0.alloc (.cells #[] 2))) := by rw [hV0]; exact ((Below.refl _ _).alloc (Nat.le_refl _) _).alloc (by simp) _
  have hs0 : V0.heap.size = w.heap.size + 1 := by rw [hV0]; simp
  have HR7 : Hid (Db.RowI V0 w.heap.size 7 (fun i => Ch.leadI C (i : Int))) := by rw [hV0]; exact Ch.rowI_seven w 46 (fun i => Ch.leadI C (i : Int))
  have HE0 : Hid ((V0.alloc (.cells #[] 2)).ownsRow w.heap.size 2 1 (.slice (some ⟨V0.heap.size, 0, none⟩) 0 0) 0 []) := by
    obtain ⟨a1, a2⟩ := Memb.own_empty V0
    refine ⟨a1, ?_⟩
    rcases a2 with a2 | ⟨g2, c2, cur, e1, e2, rest⟩
    · exact .inl a2
    · exact .inr ⟨g2, c2, cur, e1, Nat.le_trans (by omega) e2, rest⟩
  have f : ∀ i : Nat, i < 7 → (V0.alloc (.cells #[] 2)).cell? ⟨w.heap.size, i, none⟩ = some (.int .i64 (Ch.leadI C (i : Int))) := fun i hi => ((Below.refl V0.heap.size V0).alloc (Nat.le_refl _) _ |>.cell (p := ⟨w.heap.size, i, none⟩) (by show w.heap.size < V0.heap.size; omega)).trans (HR7.out.rd i hi)
  have p0 := f 0 (by omega)
  have p1 := f 1 (by omega)
  have p2 := f 2 (by omega)
  have p3 := f 3 (by omega)
  have p4 := f 4 (by omega)
  have p5 := f 5 (by omega)
  have p6 := f 6 (by omega)
  have hsz1 : V0.heap.size < (V0.alloc (.cells #[] 2)).heap.size := by simp
  clear hlc hr hcl hV0 HR7 f
  go_enter Tryz.func25, Tryz.ntmps25
  go_wp2_with fail
  rw [← HV0.out]
  clear HV0
  generalize V0.alloc (.cells #[] 2) = w2 at HB0 HE0 hsz1 p0 p1 p2 p3 p4 p5 p6 ⊢
  rw [hs0] at HE0 hsz1
  have hch := HCH.out w2 HB0.out
  clear HCH hs0
  go_wp2_with fail
  refine hch.mono ?_
  rintro en w3 ⟨co, ccp, rfl, hoc, hb3⟩
  have HS3 : Hid (TlSt w w3 w3 (w.heap.size + 1) (w.heap.size + 1) 0 []) := ⟨Fm.row_below HE0.out hb3, HB0.out.trans (hb3.mono HB0.out.size), World.grownBy.refl _ _, .inl rfl⟩
  have HCO : Hid (Ch.chainL L C (k : Int) = [] ∨ ∃ cb, co = some ⟨cb, 0, none⟩ ∧ cb ≠ (w.heap.size + 1) ∧ cb < w3.heap.size ∧ ∀ j, j < (Ch.chainL L C (k : Int)).length → w3.cell? ⟨cb, j, none⟩ = some (.int .i64 ((Ch.chainL L C (k : Int)).getD j 0))) := by
    rcases Lst.own_rd hoc with e | ⟨cb, e, hc⟩
    · exact .inl e
    · subst e
      have := World.ownsRow.lt hoc cb rfl
      exact .inr ⟨cb, rfl, by omega, this.2, hc⟩
  clear hoc hb3 HB0 HE0 hch p0 p1 p2 p3 p4 p5 p6 hsz1
  generalize Ch.chainL L C (k : Int) = ch at HCM HTL hcl2 HCO ⊢
  go_wp2
  go_loopw [7, 8, 17] (fun v ev iv wr => ∃ (i og cp : Nat), i ≤ ch.length ∧ iv = .int .i64 (i : Int) ∧ ev = .int .i64 ((ch.take i).getLastD (-1)) ∧ v = .slice (some ⟨og, 0, none⟩) (taleF L (-1) (ch.take i)).length cp ∧ (taleF L (-1) (ch.take i)).length ≤ 60 * i ∧ Hid (TlSt w w3 wr (w.heap.size + 1) og cp (taleF L (-1) (ch.take i)))) (fun _ _ iv _ => ch.length - (intOf iv).toNat)
  case atStart => exact ⟨0, (w.heap.size + 1), 0, by omega, rfl, rfl, rfl, by simp [taleF], HS3⟩
  case round =>
    obtain ⟨i, og, cp, hil, rfl, hev, hv, hln, HS⟩ := hrel
    clear HS3
    by_cases hlt : i < ch.length
    · subst hv hev
      have hii : (i : Int) < (ch.length : Int) := by omega
      rcases HCO.out with e | ⟨cb, rfl, hcb0, hcb3, hcc⟩
      · rw [e] at hlt; simp at hlt
      have HST : Hid (taleF L (-1) (ch.take (i + 1)) = taleF L (-1) (ch.take i) ++ freshL L (ch.getD i 0) ((ch.take i).getLastD (-1))) := by
        show _ = _; rw [Lc.take_snocI ch i hlt, Tl.taleF_snoc]
      have HLST : Hid ((ch.take (i + 1)).getLastD (-1) = ch.getD i 0) := by
        show _ = _; rw [Lc.take_snocI ch i hlt]; simp
      have hmem := HCM.out (ch.getD i 0) (by simp [List.getD, List.getElem?_eq_getElem hlt])
      have hlast : -1 ≤ (ch.take i).getLastD (-1) ∧ (ch.take i).getLastD (-1) < (L.length : Int) := by
        rcases hh : (ch.take i) with _ | ⟨y, ys⟩
        · simp; omega
        · have hm : (y :: ys).getLastD (-1) ∈ ch.take i := by rw [hh, List.getLastD_eq_getLast?, List.getLast?_eq_some_getLast (by simp)]; simp
          have := HCM.out _ (List.mem_of_mem_take hm)
          omega
      have cj := World.grownBy.cell HS.out.gr (hcc i hlt) (by intro q; injection q with q; exact hcb0 q)
      have hfl60 := Tl.fresh_len L (ch.getD i 0) ((ch.take i).getLastD (-1))
      generalize taleF L (-1) (ch.take i) = tl at HST HS hln ⊢
      generalize (ch.take i).getLastD (-1) = el at HST hlast hfl60 ⊢
      generalize ch.getD i 0 = cx at HST HLST hmem cj hfl60
      obtain ⟨q, rfl⟩ := Int.eq_ofNat_of_zero_le hmem.1
      have hfr := HFR.out wr q el (by omega) hlast.1 hlast.2 HS.out.bel
      clear hcc HFR
      generalize freshL L (q : Int) el = fl at HST hfr hfl60
      go_wp2_with fail
      refine hfr.mono ?_
      rintro en w6 ⟨fo, fc, rfl, hof, hb6⟩
      have HS6 : Hid (TlSt w w3 w6 (w.heap.size + 1) og cp tl) := HS.out.below hb6
      have cj6 := (hb6.cell (p := ⟨cb, i, none⟩) (Nat.lt_of_lt_of_le hcb3 HS.out.gr.size)).trans cj
      have hcb6 : cb < w6.heap.size := Nat.lt_of_lt_of_le (Nat.lt_of_lt_of_le hcb3 HS.out.gr.size) hb6.size
      have hogw := World.ownsRow.lt HS.out.own og rfl
      have hcog : cb ≠ og := by
        rcases HS.out.at' with q1 | q1
        · rw [q1]; exact hcb0
        · omega
      have HLN2 : Hid ((taleF L (-1) (ch.take (i + 1))).length ≤ 60 * (i + 1)) := by show _ ≤ _; rw [HST.out]; simp; omega
      have hwsz6 : w.heap.size ≤ w6.heap.size := HS6.out.bel.size
      clear hfr hb6 cj HS
      cases fo with
      | none =>
        obtain ⟨_, ⟨hq, hq2⟩ | ⟨fb, fcap, cur, hq, _⟩⟩ := hof
        · injection hq with _ _ hq3
          subst hq3
          have hfn : fl = [] := List.eq_nil_of_length_eq_zero hq2
          subst hfn
          have HST2 : Hid (taleF L (-1) (ch.take (i + 1)) = tl) := by show _ = _; rw [HST.out, List.append_nil]
          have HSN : Hid (TlSt w w3 w6 (w.heap.size + 1) og cp (taleF L (-1) (ch.take (i + 1)))) := by show TlSt _ _ _ _ _ _ _; rw [HST2.out]; exact HS6.out
          clear HST hq2
          go_wp2_with (first | (at_builtin; refine wpList_append_own_none rfl _ _ 23 rfl w.heap.size 2 i0 1 Tryz.underlying23 hi (.slice (some ⟨og, 0, none⟩) tl.length cp) tl.length (tl.map (Value.int .i64)) (by first | rfl | simp [Act.eval]) HS6.out.own (by first | rfl | simp [Act.eval]) ?_) | fail)
          go_wp2
          go_roundw
          case rel => exact ⟨i + 1, og, cp, by omega, by go_num, by rw [HLST.out], by rw [HST2.out], HLN2.out, HSN⟩
          case measure => simp [intOf]; omega
        · injection hq with hq _ _
          exact absurd hq (by simp)
      | some fa =>
        obtain ⟨fb, hfa, hfcell, hfb6⟩ : ∃ fb, fa = ⟨fb, 0, none⟩ ∧ (∀ j, j < fl.length → w6.cell? ⟨fb, j, none⟩ = some (.int .i64 (fl.getD j 0))) ∧ fb < w6.heap.size := by
          have hrdf := Lst.own_rd hof
          have hltf := World.ownsRow.lt hof fa.block rfl
          obtain ⟨_, ⟨hq, _⟩ | ⟨fb, fcap, cur, hq, _⟩⟩ := hof
          · injection hq with hq _ _
            exact absurd hq (by simp)
          · injection hq with hq _ _
            injection hq with hq
            subst hq
            refine ⟨fb, rfl, fun j hj => ?_, hltf.2⟩
            rcases hrdf with e | ⟨g5, e, hc5⟩
            · rw [e] at hj; simp at hj
            · injection e with e; injection e with e; subst e; exact hc5 j hj
        subst hfa
        have HNEW : Hid (∀ (j : Nat) u, (fl.map (Value.int .i64))[j]? = some u → w6.cell? ((⟨fb, 0, none⟩ : Addr).add j) = some u) := fun j u hu => by
          rw [List.getElem?_map] at hu
          rcases hj : fl[j]? with _ | y
          · rw [hj] at hu; simp at hu
          · rw [hj] at hu
            simp at hu
            subst hu
            have hjl : j < fl.length := (List.getElem?_eq_some_iff.1 hj).1
            have := hfcell j hjl
            rw [show fl.getD j 0 = y by simp [List.getD, hj]] at this
            rw [show (⟨fb, 0, none⟩ : Addr).add j = ⟨fb, j, none⟩ by simp [Addr.add]; intro e; exact e.symm]
            exact this
        have HONE : Hid (∀ u ∈ fl.map (Value.int .i64), u.oneCell' = true) := fun u hu => by
          obtain ⟨y, _, rfl⟩ := List.mem_map.1 hu; rfl
        clear hof hfcell
        go_wp2_with (first | (at_builtin; refine wpList_append_own_at _ rfl _ _ 23 rfl w.heap.size 2 i0 (.int .i64 0) 1 8 Tryz.underlying23 hi hz0 hz1 hz2 rfl (by decide) (.slice (some ⟨og, 0, none⟩) tl.length cp) tl.length (tl.map (Value.int .i64)) (by first | rfl | simp [Act.eval]) HS6.out.own ⟨fb, 0, none⟩ fl.length fc (fl.map (Value.int .i64)) (by first | rfl | simp [Act.eval]) (by simp) HNEW.out HONE.out ?c3 ?c4 ?c5 ?_) | fail)
        case c3 => unfold maxLen; omega
        case c4 => omega
        case c5 => exact hwsz6
        intro v' w7 hown' hgrow hnil hat
        obtain ⟨g2, c2, rfl, hS7⟩ := HS6.out.app hown' hgrow (by first | exact hnil | exact fun e => by have := hnil.1 e; simp at this) (by simpa [Value.ownBlock] using hat)
        have cj7 := World.grownBy.cell hgrow cj6 (by intro q1; injection q1 with q1; exact hcog q1)
        have HSN : Hid (TlSt w w3 w7 (w.heap.size + 1) g2 c2 (taleF L (-1) (ch.take (i + 1)))) := by show TlSt _ _ _ _ _ _ _; rw [HST.out]; exact hS7
        have HLE : Hid ((taleF L (-1) (ch.take (i + 1))).length = tl.length + fl.length) := by show _ = _; rw [HST.out]; simp
        clear hown' hgrow hnil hat HS6 HNEW HONE hS7 cj6 HST
        go_wp2
        go_roundw
        case rel => exact ⟨i + 1, g2, c2, by omega, by go_num, by rw [HLST.out], by rw [HLE.out], HLN2.out, HSN⟩
        case measure => simp [intOf]; omega
    · obtain rfl : i = ch.length := by omega
      have e : ch.take ch.length = ch := List.take_length
      rw [e] at HS hv
      have HV : Hid (u7 = .slice (some ⟨og, 0, none⟩) (taleF L (-1) ch).length cp) := hv
      have HF : Hid (Memb.Own w.heap.size wr (some ⟨og, 0, none⟩) cp (taleF L (-1) ch) ∧ Below w.heap.size w wr) := ⟨HS.out.own, HS.out.bel⟩
      clear hv HS e hln hev
      go_wp2
      go_ret
      exact ⟨some ⟨og, 0, none⟩, cp, by rw [HTL.out, ← HV.out]; rfl, by rw [HTL.out]; exact HF.out.1, HF.out.2⟩

end Tp
end Go.Proofs.YtodgkhlnefggdaaGreat

namespace Go.Proofs.YtodgkhlnefggdaaGreat
open Go.RowKit Go.Shelf
set_option maxRecDepth 100000
set_option linter.unusedVariables false
attribute [local go_sem] Oper.semAt_some
namespace Tp
open Kn (K okK)
open Lc (at' RdK WordsOk laceB)
open Tl (taleI taleL outI outL)
open Sg (isB)
open Fw (ledLace)

/-- what is told of a set is the tale of the last firm one -/
theorem out_tale (L : List K) (C : List Int) (s : Int) : taleI L C (Fm.lastI L C s) = outI L C s := by
  have hm1 : taleI L C (-1) = [] := by unfold Tl.taleI Ch.onB Sg.isB; simp
  cases hr : Fm.rightB L C s
  · have e1 : Fm.firmI L C s = [] := by unfold Fm.firmI; unfold Fm.rightB at hr; rw [hr]; rfl
    have e2 : outI L C s = [] := by unfold Tl.outI; rw [hr]; rfl
    rw [e2, ← hm1]
    unfold Fm.lastI
    rw [e1]
    rfl
  · have e2 : outI L C s = outL L C s := by unfold Tl.outI; rw [hr]; rfl
    unfold Fm.rightB at hr
    have hr' := hr
    rw [Bool.and_eq_true] at hr'
    have e1 : Fm.firmI L C s = Tl.firmL L C s L.length := by unfold Fm.firmI; rw [hr]; rfl
    rw [e2]
    unfold Fm.lastI
    rw [e1]
    rcases Tl.last_spec L C s L.length with ⟨q, _⟩ | ⟨f, q, hf, _⟩
    · rw [Tl.out_none (by rw [q]; omega), q, hm1]
    · rw [Tl.out_some (by rw [q]; omega), q]
      have hl := (Fm.closed_set hr'.1).1
      have hon : Ch.onB L C (f : Int) = true := by
        unfold Ch.onB
        rw [hr'.2]
        unfold Sg.isB
        rw [hl]
        simp; omega
      unfold Tl.taleI
      rw [if_pos hon]

set_option maxHeartbeats 1600000 in
theorem implTaleOf (g off cap : Nat) (L : List K) (ao : Option Addr) (cc : Nat) (C : List Int) (k : Int) (w : World) (hlen : L.length ≤ 1099511627776) (hw : WordsOk L) (hr : RdK w (some ⟨g, off, none⟩) L) (hl : C.length ≤ 1048576) (hrd : Lst.Rd w ao C) (hao : ∀ c, ao = some ⟨c, 0, none⟩ → c < w.heap.size) :
    Calls Tryz.prog 9 #[.slice (some ⟨g, off, none⟩) L.length cap, .slice ao C.length cc, .int .i64 k] w (Sg.NumsPost (taleI L C k) w) := by
  have hled := ledLace g off cap L ao cc C w hlen hw hr hl hrd hao
  clear hr hrd hao hw
  go_enter Tryz.func9, Tryz.ntmps9
  go_wp2_with fail
  refine hled.mono ?_
  clear hled
  rintro e w1 (⟨hlc, hc, g', rfl, hg', hrg, hb1⟩ | ⟨hn, v, y0, y1, y2, y3, y4, y5, y6, rfl, hb1⟩)
  · have HB0 : Hid (Below w.heap.size w (w1.alloc (.cells #[.int .i64 (Ch.leadI C 0), .int .i64 (Ch.leadI C 1), .int .i64 (Ch.leadI C 2), .int .i64 (Ch.leadI C 3), .int .i64 (Ch.leadI C 4), .int .i64 (Ch.leadI C 5), .int .i64 (Ch.leadI C 6)] 46))) := hb1.alloc hb1.size _
    have hB1 : Below w1.heap.size w1 (w1.alloc (.cells #[.int .i64 (Ch.leadI C 0), .int .i64 (Ch.leadI C 1), .int .i64 (Ch.leadI C 2), .int .i64 (Ch.leadI C 3), .int .i64 (Ch.leadI C 4), .int .i64 (Ch.leadI C 5), .int .i64 (Ch.leadI C 6)] 46)) := (Below.refl _ _).alloc (Nat.le_refl _) _
    have HRW : Hid (Db.RowI (w1.alloc (.cells #[.int .i64 (Ch.leadI C 0), .int .i64 (Ch.leadI C 1), .int .i64 (Ch.leadI C 2), .int .i64 (Ch.leadI C 3), .int .i64 (Ch.leadI C 4), .int .i64 (Ch.leadI C 5), .int .i64 (Ch.leadI C 6)] 46)) w1.heap.size 7 (fun i => Ch.leadI C (i : Int))) := Ch.rowI_seven w1 46 (fun i => Ch.leadI C (i : Int))
    generalize hv : w1.alloc (.cells #[.int .i64 (Ch.leadI C 0), .int .i64 (Ch.leadI C 1), .int .i64 (Ch.leadI C 2), .int .i64 (Ch.leadI C 3), .int .i64 (Ch.leadI C 4), .int .i64 (Ch.leadI C 5), .int .i64 (Ch.leadI C 6)] 46) = V at HB0 hB1 HRW
    have hgV := Nat.lt_of_lt_of_le hg' hB1.size
    have hrV := hrg.below hB1
    have HV : Hid (w1.alloc (.cells #[.int .i64 (Ch.leadI C 0), .int .i64 (Ch.leadI C 1), .int .i64 (Ch.leadI C 2), .int .i64 (Ch.leadI C 3), .int .i64 (Ch.leadI C 4), .int .i64 (Ch.leadI C 5), .int .i64 (Ch.leadI C 6)] 46) = V) := hv
    clear hv hg' hrg hb1 hB1
    have h60 := ((Lc.lace_iff L).1 hlc).1
    have HA : Hid ((Base.okB (2 ^ L.length - 1) && (Base.inB k && Bit.bit (2 ^ L.length - 1) k.toNat)) = (decide (0 ≤ k) && decide (k < (L.length : Int)))) := Sg.all_has h60 k
    have HON := Cn.on_yes hlc hc k
    cases hq : (decide (0 ≤ k) && decide (k < (L.length : Int)))
    · have HT : Hid (taleI L C k = []) := by show _ = _; unfold Tl.taleI; rw [HON, hq]; rfl
      have HAF : Hid ((Base.okB (2 ^ L.length - 1) && (Base.inB k && Bit.bit (2 ^ L.length - 1) k.toNat)) = false) := HA.out.trans hq
      have hp0 := Cn.nums_empty w V HB0.out
      have HP : Hid (_) := hp0
      clear HON HA hq hlc hc HRW hrV hgV hp0
      go_wp2_with fail
      rw [HV.out]
      clear HV
      go_wp2_with (first | (go_at_call 23; refine (Lc.all _ _ _ _ h60).mono ?_; rintro e w' ⟨rfl, rfl⟩) | (go_at_call 24; refine (Base.has _ _ _).mono ?_; rintro e w' ⟨rfl, rfl⟩; rw [HAF.out]))
      go_ret
      rw [HT.out]
      exact HP.out
    · have HAT : Hid ((Base.okB (2 ^ L.length - 1) && (Base.inB k && Bit.bit (2 ^ L.length - 1) k.toNat)) = true) := HA.out.trans hq
      have HT : Hid (taleI L C k = taleL L C k) := by show _ = _; unfold Tl.taleI; rw [HON, hq]; rfl
      rw [Bool.and_eq_true, decide_eq_true_eq, decide_eq_true_eq] at hq
      obtain ⟨p, rfl⟩ : ∃ p : Nat, k = (p : Int) := ⟨k.toNat, by omega⟩
      have hch := tale g' 0 L.length L C p V hlc hc hgV hrV (by omega)
      have p0 := HRW.out.rd 0 (by omega)
      have p1 := HRW.out.rd 1 (by omega)
      have p2 := HRW.out.rd 2 (by omega)
      have p3 := HRW.out.rd 3 (by omega)
      have p4 := HRW.out.rd 4 (by omega)
      have p5 := HRW.out.rd 5 (by omega)
      have p6 := HRW.out.rd 6 (by omega)
      generalize taleL L C (p : Int) = cl at hch HT
      clear HON HA hq hlc hc HRW hrV hgV
      go_wp2_with fail
      rw [HV.out]
      clear HV
      go_wp2_with (first | (go_at_call 23; refine (Lc.all _ _ _ _ h60).mono ?_; rintro e w' ⟨rfl, rfl⟩) | (go_at_call 24; refine (Base.has _ _ _).mono ?_; rintro e w' ⟨rfl, rfl⟩; rw [HAT.out]) | (go_at_call 25; refine hch.mono ?_; rintro e w3 ⟨ao3, ca3, rfl, ho3, hb3⟩))
      go_ret
      rw [HT.out]
      exact ⟨ao3, ca3, rfl, Cn.own_lower ho3 HB0.out.size, HB0.out.trans (hb3.mono HB0.out.size)⟩
  · have hp0 := Cn.nums_empty w (w1.alloc (.cells #[.int .i64 y0, .int .i64 y1, .int .i64 y2, .int .i64 y3, .int .i64 y4, .int .i64 y5, .int .i64 y6] 46)) (hb1.alloc hb1.size _)
    have HT : Hid (taleI L C k = []) := by show _ = _; unfold Tl.taleI; rw [Cn.on_no hn]; rfl
    rw [World.size_alloc] at hp0
    have HP : Hid (_) := hp0
    clear hn hb1 hp0
    go_wp2
    go_ret
    rw [HT.out]
    exact HP.out


set_option maxHeartbeats 1600000 in
theorem implOutOf (g off cap : Nat) (L : List K) (ao : Option Addr) (cc : Nat) (C : List Int) (s : Int) (w : World) (hlen : L.length ≤ 1099511627776) (hw : WordsOk L) (hs0 : -9223372036854775808 ≤ s) (hs1 : s ≤ 9223372036854775807) (hr : RdK w (some ⟨g, off, none⟩) L) (hl : C.length ≤ 1048576) (hrd : Lst.Rd w ao C) (hao : ∀ c, ao = some ⟨c, 0, none⟩ → c < w.heap.size) :
    Calls Tryz.prog 16 #[.slice (some ⟨g, off, none⟩) L.length cap, .slice ao C.length cc, .int .i64 s] w (Sg.NumsPost (outI L C s) w) := by
  have hla := Fw.implLastFirm g off cap L ao cc C s w hlen hw hs0 hs1 hr hl hrd hao
  have HTA : Hid (∀ W : World, Below w.heap.size w W → Calls Tryz.prog 9 #[.slice (some ⟨g, off, none⟩) L.length cap, .slice ao C.length cc, .int .i64 (Fm.lastI L C s)] W (Sg.NumsPost (outI L C s) W)) := fun W hW => by
    have := implTaleOf g off cap L ao cc C (Fm.lastI L C s) W hlen hw (hr.below hW) hl (Ch.rd_below hrd hao hW) (fun c e => Nat.lt_of_lt_of_le (hao c e) hW.size)
    rwa [out_tale] at this
  clear hw hr hrd hao
  generalize Fm.lastI L C s = lf at hla HTA
  generalize outI L C s = ol at HTA ⊢
  go_enter Tryz.func16, Tryz.ntmps16
  go_wp2_with fail
  refine hla.mono ?_
  rintro e w1 ⟨rfl, hb1⟩
  have hta := HTA.out w1 hb1
  clear hla HTA
  go_wp2_with fail
  refine hta.mono ?_
  rintro e w2 ⟨ro, rc, rfl, hown, hb2⟩
  have HP : Hid (Memb.Own w.heap.size w2 ro rc ol ∧ Below w.heap.size w w2) := ⟨Ch.own_base hown hb1.size, hb1.trans (hb2.mono hb1.size)⟩
  clear hta hown hb2 hb1
  go_wp2
  go_ret
  exact ⟨ro, rc, rfl, HP.out.1, HP.out.2⟩

end Tp
end Go.Proofs.YtodgkhlnefggdaaGreat

namespace Go.Proofs.YtodgkhlnefggdaaGreat.fnExactTaleOf
open Go.ChangeShapes Go.WideShapes Go.ChangeAt Go.RowKit Go.Joins
open Kn (K)
open Lc (RdK)
open Db (RowI)
set_option linter.unusedVariables false
set_option maxRecDepth 100000

theorem own : ownKnob Tryz.prog.godebug = none := by kernel_rfl
theorem laidOut : laidOutB Tryz.prog = true := by kernel_rfl
theorem words {L : List K} (h : Lc.Small L) : Lc.WordsOk L := fun k hk => by have := h.2 k hk; omega
theorem made_fill {w : World} {B n j : Nat} {L : List K} (h : Lc.Made w B n L j) (f : Nat → Value) : Lc.Fill w B n f 0 := ⟨h.lt, fun i hi => by omega, h.ex, h.fr⟩
theorem trI {H : Type} {enc : TypeId × Value → H} {w : World} {base : Nat} {spare : Nat → Bool} {held : Bool} (a : Int) (wa : (Lit.int .i64 a).wf = true) : ∃ n, DataW.trod enc Tryz.prog w base spare held n 2 [.int .i64 a] = some (.lit (.int .i64 a), []) :=
  ⟨1, by simp [DataW.trod, Tryz.underlying2, wa]⟩
theorem trS {H : Type} {enc : TypeId × Value → H} {w : World} {base : Nat} {spare : Nat → Bool} {held : Bool} (a : ByteArray) (wa : a.size ≤ maxLen) : ∃ n, DataW.trod enc Tryz.prog w base spare held n 9 [.string a] = some (.lit (.string a.data.toList), []) :=
  ⟨1, by simp [DataW.trod, Tryz.underlying9, wa]⟩
theorem int_bd {a : Int} (w : (Lit.int .i64 a).wf = true) : -9223372036854775808 ≤ a ∧ a ≤ 9223372036854775807 := by
  simpa [Lit.wf, IntKind.min, IntKind.max, IntKind.signed, IntKind.bits] using w

/-- what is asked of the program -/
def ImplT : Prop := ∀ (L : List K) (C : List Int) (k : Int), L.length ≤ 1048576 → Lc.WordsOk L → C.length ≤ 1048576 → (∀ z ∈ C, -9223372036854775808 ≤ z ∧ z ≤ 9223372036854775807) → -9223372036854775808 ≤ k → k ≤ 9223372036854775807 → 
    ∀ (W : World) (g0 : Nat) (g1 : Nat), RdK W (some ⟨g0, 0, none⟩) L → g0 < W.heap.size → Lst.Rd W (some ⟨g1, 0, none⟩) C → g1 < W.heap.size → Calls Tryz.prog 9 #[.slice (some ⟨g0, 0, none⟩) L.length L.length, .slice (some ⟨g1, 0, none⟩) C.length C.length, .int .i64 k] W (Sg.NumsPost (Tl.taleI L C k) W)
theorem specT : ∀ (L : List K) (C : List Int) (k : Int), L.length ≤ 1048576 → Lc.WordsOk L → C.length ≤ 1048576 → (∀ z ∈ C, -9223372036854775808 ≤ z ∧ z ≤ 9223372036854775807) → -9223372036854775808 ≤ k → k ≤ 9223372036854775807 → 
    ∀ (W : World) (g0 : Nat) (g1 : Nat), RdK W (some ⟨g0, 0, none⟩) L → g0 < W.heap.size → Lst.Rd W (some ⟨g1, 0, none⟩) C → g1 < W.heap.size → Calls Tryz.prog 6 #[.slice (some ⟨g0, 0, none⟩) L.length L.length, .slice (some ⟨g1, 0, none⟩) C.length C.length, .int .i64 k] W (Sg.NumsPost (Tl.taleI L C k) W) :=
  fun L C k hlL hwL hlC hzC h0k h1k W g0 g1 hr0 hg0 hr1 hg1 => Tl.specTaleOf _ _ _ L _ _ C k W (Nat.le_refl _) hwL hg0 hr0 hlC hr1 (Nu.at_block hg1)

set_option maxHeartbeats 6400000 in
theorem walk (HI : ImplT) (a0 : Option Addr) (cap0 : Nat) (L : List K) (a1 : Option Addr) (cap1 : Nat) (C : List Int) (k : Int) (w : World) (hl : L.length ≤ maxLen) (hws : ∀ k ∈ L, k.word.size ≤ maxLen) (hr0 : RdK w a0 L) (hmC : C.length ≤ maxLen) (hzC : ∀ z ∈ C, -9223372036854775808 ≤ z ∧ z ≤ 9223372036854775807) (hr1 : Nu.RdI w a1 C) (hnk : -9223372036854775808 ≤ k ∧ k ≤ 9223372036854775807) :
    Calls Tryz.prog 3 #[.slice a0 L.length cap0, .slice a1 C.length cap1, .int .i64 k] w fun e w' => e = .returned (.bool true) ∧ Below w.heap.size w w' := by
  unfold maxLen at hmC
  by_cases hbigC : 1048576 < C.length
  · have hbig' : (1048576 : Int) < (C.length : Int) := by omega
    go_enter Tryz.func3, Tryz.ntmps3
    go_wp2
    go_ret
    exact ⟨rfl, Below.refl _ _⟩
  have hbigC' : ¬ (1048576 : Int) < (C.length : Int) := by omega
  have hsC : C.length ≤ 1048576 := by omega
  clear hbigC hmC
  have HR0 : Hid (RdK w a0 L) := hr0
  have HR1 : Hid (Nu.RdI w a1 C) := hr1
  have HZC : Hid (∀ z ∈ C, -9223372036854775808 ≤ z ∧ z ≤ 9223372036854775807) := hzC
  clear hr1 hzC
  have HII : Hid ImplT := HI
  clear HI
  have hle' := Tl.taleI_len L C k
  go_enter Tryz.func3, Tryz.ntmps3
  go_wp2_with fail
  refine (Lc.szKnotS a0 cap0 L 1048576 _ hl hws (by omega) (by omega) hr0).mono ?_
  rintro e w0 ⟨r, rfl, hr0', hr1', hsm, hb0⟩
  have HSM : Hid (0 ≤ r → Lc.Small L) := hsm
  clear hsm hr0
  have HB : Hid (Below w.heap.size w w0) := hb0
  clear hb0
  by_cases hneg : r < 0
  · go_wp2
    go_ret
    exact ⟨rfl, HB.out⟩
  have hS := HSM.out (by omega)
  have HW : Hid (Lc.WordsOk L) := words hS
  have hlen := hS.1
  clear HSM hl hws hS
  have HSP : Hid (∀ (W : World) (g0 : Nat) (g1 : Nat), RdK W (some ⟨g0, 0, none⟩) L → g0 < W.heap.size → Lst.Rd W (some ⟨g1, 0, none⟩) C → g1 < W.heap.size → Calls Tryz.prog 6 #[.slice (some ⟨g0, 0, none⟩) L.length L.length, .slice (some ⟨g1, 0, none⟩) C.length C.length, .int .i64 k] W (Sg.NumsPost (Tl.taleI L C k) W)) := specT L C k hlen HW.out hsC HZC.out hnk.1 hnk.2
  have HIM : Hid (∀ (W : World) (g0 : Nat) (g1 : Nat), RdK W (some ⟨g0, 0, none⟩) L → g0 < W.heap.size → Lst.Rd W (some ⟨g1, 0, none⟩) C → g1 < W.heap.size → Calls Tryz.prog 9 #[.slice (some ⟨g0, 0, none⟩) L.length L.length, .slice (some ⟨g1, 0, none⟩) C.length C.length, .int .i64 k] W (Sg.NumsPost (Tl.taleI L C k) W)) := HII.out L C k hlen HW.out hsC HZC.out hnk.1 hnk.2
  clear HII
  generalize Tl.taleI L C k = l at HSP HIM hle'
  have ges0 : w.heap.size ≤ w0.heap.size := HB.out.size
  go_wp2_with fail
  refine (Lc.toKnotS a0 cap0 L _ hlen (HR0.out.below HB.out)).mono ?_
  rintro e w1 ⟨rfl, hm, hb⟩
  have QHB : Hid (Below w.heap.size w w1) := HB.out.trans (hb.mono HB.out.size)
  clear HB
  have HB := QHB
  clear QHB
  have Xs0 : Hid (Lc.Made w1 w0.heap.size L.length L L.length) := hm
  have lts0 : w0.heap.size < w1.heap.size := Xs0.out.lt
  clear hm hb
  generalize w0.heap.size = ps0 at Xs0 lts0 ges0 ⊢
  have ges1 : w.heap.size ≤ w1.heap.size := HB.out.size
  go_wp2_with fail
  refine (Nu.toInts a1 cap1 C _ hsC (HR1.out.below HB.out)).mono ?_
  rintro e w2 ⟨rfl, hm, hb⟩
  have QHB : Hid (Below w.heap.size w w2) := HB.out.trans (hb.mono HB.out.size)
  have QXs0 : Hid (Lc.Made w2 ps0 L.length L L.length) := Xs0.out.below hb
  clear HB Xs0
  have HB := QHB
  have Xs0 := QXs0
  clear QHB QXs0
  have Xs1 : Hid (RowI w2 w1.heap.size C.length (fun i => C.getD i 0)) := hm
  have lts1 : w1.heap.size < w2.heap.size := Xs1.out.lt
  clear hm hb
  generalize w1.heap.size = ps1 at Xs1 lts1 ges1 lts0 ⊢
  go_wp2_with fail
  refine (HSP.out _ _ _ (Lc.made_rd Xs0.out) Xs0.out.lt (Nu.row_rd Xs1.out) Xs1.out.lt).mono ?_
  rintro e w3 ⟨ao, ac, rfl, hown, hb⟩
  have QHB : Hid (Below w.heap.size w w3) := HB.out.trans (hb.mono HB.out.size)
  have QXs0 : Hid (Lc.Made w3 ps0 L.length L L.length) := Xs0.out.below hb
  have QXs1 : Hid (RowI w3 ps1 C.length (fun i => C.getD i 0)) := Nu.row_below Xs1.out hb
  clear HB Xs0 Xs1
  have HB := QHB
  have Xs0 := QXs0
  have Xs1 := QXs1
  clear QHB QXs0 QXs1
  have HO : Hid (Memb.Own w.heap.size w3 ao ac l) := Nu.own_base hown (Nat.le_of_lt (Nat.lt_of_le_of_lt ges1 lts1))
  have HF : Hid (∀ g, ao = some ⟨g, 0, none⟩ → g < w3.heap.size) := fun g e => (Nu.own_far hown g e).2
  clear hown hb HSP
  clear Xs0 Xs1
  clear lts0 ges0 lts1 ges1
  have gex0 : w.heap.size ≤ w3.heap.size := HB.out.size
  go_wp2_with fail
  refine (Lc.toKnotS a0 cap0 L _ hlen (HR0.out.below HB.out)).mono ?_
  rintro e w4 ⟨rfl, hm, hb⟩
  have QHB : Hid (Below w.heap.size w w4) := HB.out.trans (hb.mono HB.out.size)
  have QHO : Hid (Memb.Own w.heap.size w4 ao ac l) := Nu.own_below HO.out hb
  clear HB HO
  have HB := QHB
  have HO := QHO
  clear QHB QHO
  have Xx0 : Hid (Lc.Made w4 w3.heap.size L.length L L.length) := hm
  have ltx0 : w3.heap.size < w4.heap.size := Xx0.out.lt
  clear hm hb
  generalize w3.heap.size = px0 at Xx0 ltx0 gex0 HF ⊢
  have gex1 : w.heap.size ≤ w4.heap.size := HB.out.size
  go_wp2_with fail
  refine (Nu.toInts a1 cap1 C _ hsC (HR1.out.below HB.out)).mono ?_
  rintro e w5 ⟨rfl, hm, hb⟩
  have QHB : Hid (Below w.heap.size w w5) := HB.out.trans (hb.mono HB.out.size)
  have QHO : Hid (Memb.Own w.heap.size w5 ao ac l) := Nu.own_below HO.out hb
  have QXx0 : Hid (Lc.Made w5 px0 L.length L L.length) := Xx0.out.below hb
  clear HB HO Xx0
  have HB := QHB
  have HO := QHO
  have Xx0 := QXx0
  clear QHB QHO QXx0
  have Xx1 : Hid (RowI w5 w4.heap.size C.length (fun i => C.getD i 0)) := hm
  have ltx1 : w4.heap.size < w5.heap.size := Xx1.out.lt
  clear hm hb
  generalize w4.heap.size = px1 at Xx1 ltx1 gex1 ltx0 ⊢
  go_wp2_with fail
  refine (HIM.out _ _ _ (Lc.made_rd Xx0.out) Xx0.out.lt (Nu.row_rd Xx1.out) Xx1.out.lt).mono ?_
  rintro e w6 ⟨go, gc, rfl, hown, hb⟩
  have QHB : Hid (Below w.heap.size w w6) := HB.out.trans (hb.mono HB.out.size)
  have QHO : Hid (Memb.Own w.heap.size w6 ao ac l) := Nu.own_below HO.out hb
  have QXx0 : Hid (Lc.Made w6 px0 L.length L L.length) := Xx0.out.below hb
  have QXx1 : Hid (RowI w6 px1 C.length (fun i => C.getD i 0)) := Nu.row_below Xx1.out hb
  clear HB HO Xx0 Xx1
  have HB := QHB
  have HO := QHO
  have Xx0 := QXx0
  have Xx1 := QXx1
  clear QHB QHO QXx0 QXx1
  have HG : Hid (Memb.Own w5.heap.size w6 go gc l) := hown
  have HQ : Hid (w5.heap.size ≤ w6.heap.size) := hb.size
  clear hown hb
  generalize w5.heap.size = qb at HG HQ ltx1
  go_wp2_with fail
  refine (Nu.alikeB _ _ _ _ _ _ (by omega) (Nu.own_rd HG.out) (Nu.own_rd HO.out)).mono ?_
  rintro e w7 ⟨rfl, hb⟩
  have QHB : Hid (Below w.heap.size w w7) := HB.out.trans (hb.mono HB.out.size)
  have QHO : Hid (Memb.Own w.heap.size w7 ao ac l) := Nu.own_below HO.out hb
  have QXx0 : Hid (Lc.Made w7 px0 L.length L L.length) := Xx0.out.below hb
  have QXx1 : Hid (RowI w7 px1 C.length (fun i => C.getD i 0)) := Nu.row_below Xx1.out hb
  have QHG : Hid (Memb.Own qb w7 go gc l) := Nu.own_below HG.out hb
  have QHQ : Hid (qb ≤ w7.heap.size) := Nat.le_trans HQ.out hb.size
  clear HB HO Xx0 Xx1 HG HQ
  have HB := QHB
  have HO := QHO
  have Xx0 := QXx0
  have Xx1 := QXx1
  have HG := QHG
  have HQ := QHQ
  clear QHB QHO QXx0 QXx1 QHG QHQ
  clear hb
  have gey0 : w.heap.size ≤ w7.heap.size := HB.out.size
  go_wp2_with fail
  refine (Lc.toKnotS a0 cap0 L _ hlen (HR0.out.below HB.out)).mono ?_
  rintro e w8 ⟨rfl, hm, hb⟩
  have QHB : Hid (Below w.heap.size w w8) := HB.out.trans (hb.mono HB.out.size)
  have QHO : Hid (Memb.Own w.heap.size w8 ao ac l) := Nu.own_below HO.out hb
  have QXx0 : Hid (Lc.Made w8 px0 L.length L L.length) := Xx0.out.below hb
  have QXx1 : Hid (RowI w8 px1 C.length (fun i => C.getD i 0)) := Nu.row_below Xx1.out hb
  have QHG : Hid (Memb.Own qb w8 go gc l) := Nu.own_below HG.out hb
  have QHQ : Hid (qb ≤ w8.heap.size) := Nat.le_trans HQ.out hb.size
  clear HB HO Xx0 Xx1 HG HQ
  have HB := QHB
  have HO := QHO
  have Xx0 := QXx0
  have Xx1 := QXx1
  have HG := QHG
  have HQ := QHQ
  clear QHB QHO QXx0 QXx1 QHG QHQ
  have Xy0 : Hid (Lc.Made w8 w7.heap.size L.length L L.length) := hm
  have lty0 : w7.heap.size < w8.heap.size := Xy0.out.lt
  clear hm hb
  generalize w7.heap.size = py0 at Xy0 lty0 gey0 ⊢
  go_wp2_with fail
  refine (Lc.eqKnotS _ _ _ _ _ _ L _ hlen (Lc.made_rd Xx0.out) (Lc.made_rd Xy0.out)).mono ?_
  rintro e w9 ⟨rfl, hb⟩
  have QHB : Hid (Below w.heap.size w w9) := HB.out.trans (hb.mono HB.out.size)
  have QHO : Hid (Memb.Own w.heap.size w9 ao ac l) := Nu.own_below HO.out hb
  have QXx0 : Hid (Lc.Made w9 px0 L.length L L.length) := Xx0.out.below hb
  have QXx1 : Hid (RowI w9 px1 C.length (fun i => C.getD i 0)) := Nu.row_below Xx1.out hb
  have QHG : Hid (Memb.Own qb w9 go gc l) := Nu.own_below HG.out hb
  have QHQ : Hid (qb ≤ w9.heap.size) := Nat.le_trans HQ.out hb.size
  have QXy0 : Hid (Lc.Made w9 py0 L.length L L.length) := Xy0.out.below hb
  clear HB HO Xx0 Xx1 HG HQ Xy0
  have HB := QHB
  have HO := QHO
  have Xx0 := QXx0
  have Xx1 := QXx1
  have HG := QHG
  have HQ := QHQ
  have Xy0 := QXy0
  clear QHB QHO QXx0 QXx1 QHG QHQ QXy0
  clear hb lty0 gey0
  clear Xy0
  have gey1 : w.heap.size ≤ w9.heap.size := HB.out.size
  go_wp2_with fail
  refine (Nu.toInts a1 cap1 C _ hsC (HR1.out.below HB.out)).mono ?_
  rintro e w10 ⟨rfl, hm, hb⟩
  have QHB : Hid (Below w.heap.size w w10) := HB.out.trans (hb.mono HB.out.size)
  have QHO : Hid (Memb.Own w.heap.size w10 ao ac l) := Nu.own_below HO.out hb
  have QXx0 : Hid (Lc.Made w10 px0 L.length L L.length) := Xx0.out.below hb
  have QXx1 : Hid (RowI w10 px1 C.length (fun i => C.getD i 0)) := Nu.row_below Xx1.out hb
  have QHG : Hid (Memb.Own qb w10 go gc l) := Nu.own_below HG.out hb
  have QHQ : Hid (qb ≤ w10.heap.size) := Nat.le_trans HQ.out hb.size
  clear HB HO Xx0 Xx1 HG HQ
  have HB := QHB
  have HO := QHO
  have Xx0 := QXx0
  have Xx1 := QXx1
  have HG := QHG
  have HQ := QHQ
  clear QHB QHO QXx0 QXx1 QHG QHQ
  have Xy1 : Hid (RowI w10 w9.heap.size C.length (fun i => C.getD i 0)) := hm
  have lty1 : w9.heap.size < w10.heap.size := Xy1.out.lt
  clear hm hb
  generalize w9.heap.size = py1 at Xy1 lty1 gey1 ⊢
  go_wp2_with fail
  refine (Nu.alikeB _ _ _ _ _ _ hsC (Nu.row_rd Xx1.out) (Nu.row_rd Xy1.out)).mono ?_
  rintro e w11 ⟨rfl, hb⟩
  have QHB : Hid (Below w.heap.size w w11) := HB.out.trans (hb.mono HB.out.size)
  have QHO : Hid (Memb.Own w.heap.size w11 ao ac l) := Nu.own_below HO.out hb
  have QXx0 : Hid (Lc.Made w11 px0 L.length L L.length) := Xx0.out.below hb
  have QXx1 : Hid (RowI w11 px1 C.length (fun i => C.getD i 0)) := Nu.row_below Xx1.out hb
  have QHG : Hid (Memb.Own qb w11 go gc l) := Nu.own_below HG.out hb
  have QHQ : Hid (qb ≤ w11.heap.size) := Nat.le_trans HQ.out hb.size
  have QXy1 : Hid (RowI w11 py1 C.length (fun i => C.getD i 0)) := Nu.row_below Xy1.out hb
  clear HB HO Xx0 Xx1 HG HQ Xy1
  have HB := QHB
  have HO := QHO
  have Xx0 := QXx0
  have Xx1 := QXx1
  have HG := QHG
  have HQ := QHQ
  have Xy1 := QXy1
  clear QHB QHO QXx0 QXx1 QHG QHQ QXy1
  clear hb lty1 gey1
  clear Xy1
  go_wp2_with fail
  refine (Lc.markKnotS px0 L.length L.length _ (by omega) (made_fill Xx0.out _)).mono ?_
  rintro e w12 ⟨rfl, _, hg⟩
  have QHB : Hid (Below w.heap.size w w12) := HB.out.grown hg HB.out.size (fun j hj => by simp at hj; omega)
  have QHO : Hid (Memb.Own w.heap.size w12 ao ac l) := Nu.own_grown HO.out hg (fun g e => by have := Nu.own_far HO.out g e; first | omega | (have := HF.out g e; omega))
  have QXx1 : Hid (RowI w12 px1 C.length (fun i => C.getD i 0)) := Nu.row_grown Xx1.out hg (by omega)
  have QHG : Hid (Memb.Own qb w12 go gc l) := Nu.own_grown HG.out hg (fun g e => by have := Nu.own_far HG.out g e; first | omega | (have := HF.out g e; omega))
  have QHQ : Hid (qb ≤ w12.heap.size) := Nat.le_trans HQ.out hg.size
  clear HB HO Xx1 HG HQ
  have HB := QHB
  have HO := QHO
  have Xx1 := QXx1
  have HG := QHG
  have HQ := QHQ
  clear QHB QHO QXx1 QHG QHQ
  clear hg Xx0
  go_wp2_with fail
  refine (Nu.markInts px1 C.length _ _ _ _ hsC (by omega) (by omega) Xx1.out).mono ?_
  rintro e w13 ⟨rfl, _, hg⟩
  have QHB : Hid (Below w.heap.size w w13) := HB.out.grown hg HB.out.size (fun j hj => by simp at hj; omega)
  have QHO : Hid (Memb.Own w.heap.size w13 ao ac l) := Nu.own_grown HO.out hg (fun g e => by have := Nu.own_far HO.out g e; first | omega | (have := HF.out g e; omega))
  have QHG : Hid (Memb.Own qb w13 go gc l) := Nu.own_grown HG.out hg (fun g e => by have := Nu.own_far HG.out g e; first | omega | (have := HF.out g e; omega))
  have QHQ : Hid (qb ≤ w13.heap.size) := Nat.le_trans HQ.out hg.size
  clear HB HO HG HQ
  have HB := QHB
  have HO := QHO
  have HG := QHG
  have HQ := QHQ
  clear QHB QHO QHG QHQ
  clear hg Xx1
  have hnn : ¬ ((1 + (L.length : Int) * 4) + (C.length : Int)) < 0 := by omega
  go_wp2_with fail
  refine (Nu.alikeB _ _ _ _ _ _ (by omega) (Nu.own_rd HG.out) (Nu.own_rd HO.out)).mono ?_
  rintro e w14 ⟨rfl, hb⟩
  have QHB : Hid (Below w.heap.size w w14) := HB.out.trans (hb.mono HB.out.size)
  have QHO : Hid (Memb.Own w.heap.size w14 ao ac l) := Nu.own_below HO.out hb
  have QHG : Hid (Memb.Own qb w14 go gc l) := Nu.own_below HG.out hb
  have QHQ : Hid (qb ≤ w14.heap.size) := Nat.le_trans HQ.out hb.size
  clear HB HO HG HQ
  have HB := QHB
  have HO := QHO
  have HG := QHG
  have HQ := QHQ
  clear QHB QHO QHG QHQ
  clear hb
  go_wp2_with fail
  refine (Lsx.mark 1 _ _ _ _ _ (by omega) (by omega) (by omega) HG.out).mono ?_
  rintro e w15 ⟨rfl, hown, hb⟩
  have QHB : Hid (Below w.heap.size w w15) := HB.out.trans (hb.mono (by omega))
  have QHO : Hid (Memb.Own w.heap.size w15 ao ac l) := Nu.own_low HO.out (fun g e => by have := HF.out g e; omega) hb
  have QHQ : Hid (qb ≤ w15.heap.size) := Nat.le_trans HQ.out hb.size
  clear HB HO HQ
  have HB := QHB
  have HO := QHO
  have HQ := QHQ
  clear QHB QHO QHQ
  clear HG
  have HG : Hid (Memb.Own qb w15 go gc (Lsx.marks 1 l.length)) := hown
  clear hown hb
  go_wp2_with fail
  refine (Lsx.held 1 _ _ _ _ (by omega) (by omega) (by omega) (Nu.own_rd HG.out)).mono ?_
  rintro e w' ⟨rfl, rfl⟩
  have hnn2 : ¬ 1 + (l.length : Int) < 0 := by omega
  have gez0 : w.heap.size ≤ w15.heap.size := HB.out.size
  go_wp2_with fail
  refine (Lc.toKnotS a0 cap0 L _ hlen (HR0.out.below HB.out)).mono ?_
  rintro e w16 ⟨rfl, hm, hb⟩
  have QHB : Hid (Below w.heap.size w w16) := HB.out.trans (hb.mono HB.out.size)
  have QHO : Hid (Memb.Own w.heap.size w16 ao ac l) := Nu.own_below HO.out hb
  have QHQ : Hid (qb ≤ w16.heap.size) := Nat.le_trans HQ.out hb.size
  have QHG : Hid (Memb.Own qb w16 go gc (Lsx.marks 1 l.length)) := Nu.own_below HG.out hb
  clear HB HO HQ HG
  have HB := QHB
  have HO := QHO
  have HQ := QHQ
  have HG := QHG
  clear QHB QHO QHQ QHG
  have Xz0 : Hid (Lc.Made w16 w15.heap.size L.length L L.length) := hm
  have ltz0 : w15.heap.size < w16.heap.size := Xz0.out.lt
  clear hm hb
  generalize w15.heap.size = pz0 at Xz0 ltz0 gez0 ⊢
  have gez1 : w.heap.size ≤ w16.heap.size := HB.out.size
  go_wp2_with fail
  refine (Nu.toInts a1 cap1 C _ hsC (HR1.out.below HB.out)).mono ?_
  rintro e w17 ⟨rfl, hm, hb⟩
  have QHB : Hid (Below w.heap.size w w17) := HB.out.trans (hb.mono HB.out.size)
  have QHO : Hid (Memb.Own w.heap.size w17 ao ac l) := Nu.own_below HO.out hb
  have QHQ : Hid (qb ≤ w17.heap.size) := Nat.le_trans HQ.out hb.size
  have QHG : Hid (Memb.Own qb w17 go gc (Lsx.marks 1 l.length)) := Nu.own_below HG.out hb
  have QXz0 : Hid (Lc.Made w17 pz0 L.length L L.length) := Xz0.out.below hb
  clear HB HO HQ HG Xz0
  have HB := QHB
  have HO := QHO
  have HQ := QHQ
  have HG := QHG
  have Xz0 := QXz0
  clear QHB QHO QHQ QHG QXz0
  have Xz1 : Hid (RowI w17 w16.heap.size C.length (fun i => C.getD i 0)) := hm
  have ltz1 : w16.heap.size < w17.heap.size := Xz1.out.lt
  clear hm hb
  generalize w16.heap.size = pz1 at Xz1 ltz1 gez1 ltz0 ⊢
  go_wp2_with fail
  refine (HIM.out _ _ _ (Lc.made_rd Xz0.out) Xz0.out.lt (Nu.row_rd Xz1.out) Xz1.out.lt).mono ?_
  rintro e w18 ⟨ho, hc, rfl, hown, hb⟩
  have QHB : Hid (Below w.heap.size w w18) := HB.out.trans (hb.mono HB.out.size)
  have QHO : Hid (Memb.Own w.heap.size w18 ao ac l) := Nu.own_below HO.out hb
  have QHQ : Hid (qb ≤ w18.heap.size) := Nat.le_trans HQ.out hb.size
  have QHG : Hid (Memb.Own qb w18 go gc (Lsx.marks 1 l.length)) := Nu.own_below HG.out hb
  have QXz0 : Hid (Lc.Made w18 pz0 L.length L L.length) := Xz0.out.below hb
  have QXz1 : Hid (RowI w18 pz1 C.length (fun i => C.getD i 0)) := Nu.row_below Xz1.out hb
  clear HB HO HQ HG Xz0 Xz1
  have HB := QHB
  have HO := QHO
  have HQ := QHQ
  have HG := QHG
  have Xz0 := QXz0
  have Xz1 := QXz1
  clear QHB QHO QHQ QHG QXz0 QXz1
  have HH : Hid (Lst.Rd w18 ho l) := Nu.own_rd hown
  clear hown hb
  clear Xz0 Xz1
  clear ltz0 gez0 ltz1 gez1
  go_wp2_with fail
  refine (Nu.alikeB _ _ _ _ _ _ (by omega) HH.out (Nu.own_rd HO.out)).mono ?_
  rintro e w19 ⟨rfl, hb⟩
  have QHB : Hid (Below w.heap.size w w19) := HB.out.trans (hb.mono HB.out.size)
  have QHO : Hid (Memb.Own w.heap.size w19 ao ac l) := Nu.own_below HO.out hb
  have QHQ : Hid (qb ≤ w19.heap.size) := Nat.le_trans HQ.out hb.size
  have QHG : Hid (Memb.Own qb w19 go gc (Lsx.marks 1 l.length)) := Nu.own_below HG.out hb
  clear HB HO HQ HG
  have HB := QHB
  have HO := QHO
  have HQ := QHQ
  have HG := QHG
  clear QHB QHO QHQ QHG
  clear hb HH
  go_wp2_with fail
  refine (Lsx.held 1 _ _ _ _ (by omega) (by omega) (by omega) (Nu.own_rd HG.out)).mono ?_
  rintro e w' ⟨rfl, rfl⟩
  go_wp2
  go_ret
  exact ⟨rfl, HB.out⟩

theorem lifted (os : Os) (started : os.Started) (H : Type) (enc : TypeId × Value → H) :
    ReturnsInHanded {} Tryz.checked os 3 .any (Rows.fnExactTaleOfSpec.pre6 enc Tryz.prog Tryz.f3 Rows.fnExactTaleOfRow.domain false) (Rows.fnExactTaleOfSpec.post enc Tryz.prog Tryz.f3 false true false false) := by
  refine returnsInHanded_of_change (C := Tryz.checked) own started (by kernel_rfl) Tryz.func3
    (ChangeSpec.witness6 (enc := enc) (C := Tryz.checked) false ⟨#[], #[.slice none 0 0, .slice none 0 0, .int .i64 0], []⟩ 8 (by kernel_rfl) (by kernel_rfl) (by kernel_rfl) (by kernel_rfl)) ?_
  intro W base args ds gs before hval0 hW hcnd _
  have hval : ∀ (j : Nat) t v, Tryz.f3.params[j]? = some t → args[j]? = some v → Value.okWide Tryz.prog W .any base t v := hval0
  have hW' := hW
  obtain ⟨p, q, hA0, hV, rfl, hfz, hnd⟩ := hW
  have hA : DataW.TrodAll enc Tryz.prog W 0 (fun _ => true) true Tryz.f3.params.toList args.toList ds p := hA0
  rw [Tryz.params3] at hA hval
  obtain ⟨v0, vs0, d0, ds0, p0, q0, hargs, rfl, rfl, h0, r0⟩ := trodAll_cons hA
  obtain ⟨v1, vs1, d1, ds1, p1, q1, rfl, rfl, rfl, h1, r1⟩ := trodAll_cons r0
  obtain ⟨v2, vs2, d2, ds2, p2, q2, rfl, rfl, rfl, h2, r2⟩ := trodAll_cons r1
  obtain ⟨rfl, rfl, rfl⟩ := trodAll_nil r2
  obtain rfl : args = #[v0, v1, v2] := by cases args; simp_all
  obtain ⟨rfl, rfl⟩ := trodVars_none hV
  obtain ⟨a0, len0, cap0, rfl⟩ := okWide_slice Tryz.underlying22 (hval 0 22 v0 rfl rfl)
  have k0 := h0
  have lt0 : ∀ x ∈ p0, x.block < W.heap.size := by obtain ⟨m, hm⟩ := k0; exact DataW.trod_lt m _ _ _ hm
  obtain ⟨fuel0, hf0⟩ := h0
  obtain ⟨L, rfl, hrd0, hws, hl⟩ := Lc.openK (a0 := a0) (len0 := len0) (cap0 := cap0) hf0
  obtain ⟨a1, len1, cap1, rfl⟩ := okWide_slice Tryz.underlying23 (hval 1 23 v1 rfl rfl)
  have k1 := h1
  have lt1 : ∀ x ∈ p1, x.block < W.heap.size := by obtain ⟨m, hm⟩ := k1; exact DataW.trod_lt m _ _ _ hm
  obtain ⟨fuel1, hf1⟩ := h1
  obtain ⟨C, rfl, hrd1, hzC, hmC⟩ := Nu.openI (a0 := a1) (len0 := len1) (cap0 := cap1) hf1
  obtain ⟨x2, rfl, rfl, rfl, w2⟩ := open_int Tryz.underlying2 (hval 2 2 v2 rfl rfl) h2
  clear hA0 hval0
  simp only [List.append_nil] at hW'
  refine (walk (fun L C k hlL hwL hlC hzC h0k h1k W g0 g1 hr0 hg0 hr1 hg1 => Tp.implTaleOf _ _ _ L _ _ C k W (by omega) hwL hr0 hlC hr1 (Nu.at_block hg1)) a0 cap0 L a1 cap1 C x2 W hl hws hrd0 hmC hzC hrd1 (int_bd w2)).mono fun e W' ⟨he, bel⟩ => ?_
  subst he
  exact ⟨_, rfl, _, _, _, [], _, [], hW', trodAll_mk1 (shut_bool Tryz.underlying4 _), (trodAll_cons_mk (Below.trod laidOut (by kernel_rfl) (of_decide_eq_true (by kernel_rfl)) k0 bel lt0) (trodAll_cons_mk (Below.trod laidOut (by kernel_rfl) (of_decide_eq_true (by kernel_rfl)) k1 bel lt1) (trodAll_cons_mk (shut_int Tryz.underlying2 w2) trodAll_mk0))), rfl, bel.frame _, fun h => by cases h⟩

theorem over : Rows.fnExactTaleOfRow.holds Tryz.pinned (OpenSpec.ofChange Rows.fnExactTaleOfSpec) :=
  OpenClaim.holds_of_wide 3 Tryz.f3 rfl rfl rfl rfl rfl rfl rfl ⟨rfl, rfl, rfl, rfl, rfl⟩ rfl rfl rfl rfl rfl (by kernel_rfl) Tryz.func3 (by kernel_rfl)
    (of_decide_eq_true (by kernel_rfl)) (by unfold Func.isWrapper; first | (rw [if_pos (by decide +kernel)]; kernel_rfl) | (rw [if_neg (by decide +kernel)]; exact ⟨rfl, rfl⟩))
    (fun os started H enc _ => lifted os started H enc)

theorem proved : Rows.FnExactTaleOfSaid :=
  over
end Go.Proofs.YtodgkhlnefggdaaGreat.fnExactTaleOf
