/-
 What the model answers for LastTold, and how it copies a list that may be nil.
-/
import Derived.Test.YtjnhniffgeepjaaGreatezg7
import Derived.Deep.RegionHeld3
import Derived.Deep.CutBlock
import Derived.Deep.CutRange
set_option linter.unusedVariables false
namespace Go.Proofs.YtjnhniffgeepjaaGreat
open Go.RowKit
set_option maxRecDepth 100000
set_option linter.unusedVariables false
namespace Lg
open Kn (K okK)
open Lc (at' RdK WordsOk laceB setB)
open Sg (closedB NumsPost)
open Tl (outL beginsB)
abbrev At := Nat → Option Addr × Nat
structure RdL (w : World) (so qo : Option Addr) (S : List Int) (T : List (List Int)) (f : At) : Prop where
 seen : Lst.Rd w so S
 seenB : ∀ c, so = some ⟨c, 0, none⟩ → c < w.heap.size
 told : T = [] ∨ ∃ tb off, qo = some ⟨tb, off, none⟩ ∧ tb < w.heap.size ∧ ∀ i, i < T.length → w.cell? ⟨tb, off + i, none⟩ = some (.slice (f i).1 (T.getD i []).length (f i).2)
 row : ∀ i, i < T.length → Lst.Rd w (f i).1 (T.getD i [])
 rowB : ∀ i, i < T.length → ∀ c, (f i).1 = some ⟨c, 0, none⟩ → c < w.heap.size
theorem RdL.below {w w' : World} {so qo : Option Addr} {S : List Int} {T : List (List Int)} {f : At} (h : RdL w so qo S T f) (hb : Below w.heap.size w w') : RdL w' so qo S T f where
 seen := Ch.rd_below h.seen h.seenB hb
 seenB := fun c e => Nat.lt_of_lt_of_le (h.seenB c e) hb.size
 told := by
   rcases h.told with e | ⟨tb, off, e, hlt, hc⟩
   · exact .inl e
   · exact .inr ⟨tb, off, e, Nat.lt_of_lt_of_le hlt hb.size, fun i hi => (hb.cell (p := ⟨tb, off + i, none⟩) hlt).trans (hc i hi)⟩
 row := fun i hi => Ch.rd_below (h.row i hi) (h.rowB i hi) hb
 rowB := fun i hi c e => Nat.lt_of_lt_of_le (h.rowB i hi c e) hb.size
def sameB (a b : List Int) : Bool := decide (a.length = b.length) && beginsB a b
def stepB (L : List K) (C S : List Int) (T : List (List Int)) (i : Nat) : Bool :=
 (closedB L (S.getD i 0) && (decide (i = 0) || (decide (bits .andNot .i64 (S.getD (i - 1) 0) (S.getD i 0) = 0) && beginsB (T.getD i []) (T.getD (i - 1) [])))) && sameB (T.getD i []) (outL L C (S.getD i 0))
def logB (L : List K) (C S : List Int) (T : List (List Int)) : Bool := (decide (S.length ≤ 40) && decide (T.length = S.length)) && ((laceB L && Rm.coinsB C) && (List.range S.length).all (stepB L C S T))
theorem log_no {L : List K} {C S : List Int} {T : List (List Int)} (i : Nat) (hi : i < S.length) (h : stepB L C S T i = false) : logB L C S T = false := by
 rw [Bool.eq_false_iff]
 intro hb
 unfold logB at hb
 simp only [Bool.and_eq_true, List.all_eq_true] at hb
 have := hb.2.2 i (by simpa using hi)
 rw [h] at this; exact Bool.noConfusion this
theorem log_yes {L : List K} {C S : List Int} {T : List (List Int)} (h40 : S.length ≤ 40) (hT : T.length = S.length) (hl : laceB L = true) (hc : Rm.coinsB C = true) (h : ∀ i, i < S.length → stepB L C S T i = true) : logB L C S T = true := by
 unfold logB
 rw [decide_eq_true h40, decide_eq_true hT, hl, hc, Bool.true_and, Bool.true_and, Bool.true_and, List.all_eq_true]
 intro i hi
 exact h i (by simpa using hi)
theorem log_parts {L : List K} {C S : List Int} {T : List (List Int)} (h : logB L C S T = true) : S.length ≤ 40 ∧ T.length = S.length ∧ laceB L = true ∧ Rm.coinsB C = true ∧ ∀ i, i < S.length → stepB L C S T i = true := by
 unfold logB at h
 simp only [Bool.and_eq_true, List.all_eq_true, decide_eq_true_eq] at h
 exact ⟨h.1.1, h.1.2, h.2.1.1, h.2.1.2, fun i hi => h.2.2 i (by simpa using hi)⟩
theorem l12OutA (g off cap : Nat) (L : List K) (ao : Option Addr) (cc : Nat) (C : List Int) (s : Int) (w : World) (hl : laceB L = true) (hg : g < w.heap.size) (hr : RdK w (some ⟨g, off, none⟩) L) (hrd : Lst.Rd w ao C) (hao : ∀ c, ao = some ⟨c, 0, none⟩ → c < w.heap.size) (h0 : 0 ≤ s) (h1 : s < 1152921504606846976) :
   Calls Tryz.prog 27 #[.slice (some ⟨g, off, none⟩) L.length cap, .slice ao C.length cc, .int .i64 s] w (NumsPost (outL L C s) w) := by
 by_cases hN : 0 < L.length
 · exact Tl.l12Out g off cap L ao cc C s w hl hN hg hr hrd hao h0 h1
 · obtain rfl : L = [] := List.length_eq_zero_iff.1 (by omega)
   exact Tl.l12OutE g off cap ao cc C s w hg hrd hao h0 h1
set_option maxHeartbeats 1600000 in
theorem l15Same (ao : Option Addr) (ca : Nat) (A : List Int) (bo : Option Addr) (cb : Nat) (D : List Int) (w : World) (hA : A.length ≤ 1048576) (hD : D.length ≤ 1048576) (ha : Lst.Rd w ao A) (hb : Lst.Rd w bo D) :
   Calls Tryz.prog 40 #[.slice ao A.length ca, .slice bo D.length cb] w fun e w' => e = .returned (.bool (sameB A D)) ∧ Below w.heap.size w w' := by
 have hcall := Tl.specBegins ao ca A bo cb D w hA hD ha hb
 by_cases he : A.length = D.length
 · have HT : Hid (sameB A D = beginsB A D) := by show _ = _; unfold sameB; rw [decide_eq_true he]; rfl
   have he' : ((A.length : Int) == (D.length : Int)) = true := by simp [he]
   clear ha hb he
   go_enter Tryz.func40, Tryz.ntmps40
   go_wp2_with fail
   refine hcall.mono ?_
   rintro e w1 ⟨rfl, hb1⟩
   clear hcall
   go_wp2
   go_ret
   exact ⟨by rw [HT.out]; rfl, hb1⟩
 · have HT : Hid (sameB A D = false) := by show _ = _; unfold sameB; rw [decide_eq_false he]; rfl
   have he' : ((A.length : Int) == (D.length : Int)) = false := by simpa using (by omega : ¬ (A.length : Int) = (D.length : Int))
   clear ha hb hcall
   go_enter Tryz.func40, Tryz.ntmps40
   go_wp2
   go_ret
   exact ⟨by rw [HT.out]; rfl, Below.refl _ _⟩
end Lg
namespace Lg
open Kn (K okK)
open Lc (at' RdK WordsOk laceB setB)
open Sg (closedB NumsPost)
open Tl (outL beginsB)
theorem closed_bd {L : List K} {s : Int} (h : closedB L s = true) : laceB L = true ∧ 0 ≤ s ∧ s < 1152921504606846976 := Fm.closed_set h
theorem out_len {L : List K} {C : List Int} {s : Int} (hs : closedB L s = true) (hc : Rm.coinsB C = true) : (outL L C s).length ≤ 3660 := by
 have := Tl.outI_len L C s
 unfold Tl.outI Fm.rightB at this
 rw [hs, hc] at this
 exact this
structure Ask (w W : World) (bx g off cap : Nat) (L : List K) (ao : Option Addr) (cc : Nat) (C : List Int) (so qo : Option Addr) (sc tc : Nat) (S : List Int) (T : List (List Int)) (f : At) : Prop where
 bel : Below w.heap.size w W
 gl : g < W.heap.size
 rd : RdK W (some ⟨g, off, none⟩) L
 crd : Lst.Rd W ao C
 cat : ∀ c, ao = some ⟨c, 0, none⟩ → c < W.heap.size
 log : RdL W so qo S T f
 blt : bx < W.heap.size
 b0 : W.cell? ⟨bx, 0, none⟩ = some (.slice so S.length sc)
 b1 : W.cell? ⟨bx, 1, none⟩ = some (.slice qo T.length tc)
theorem Ask.below {w W W' : World} {bx g off cap : Nat} {L : List K} {ao : Option Addr} {cc : Nat} {C : List Int} {so qo : Option Addr} {sc tc : Nat} {S : List Int} {T : List (List Int)} {f : At} (h : Ask w W bx g off cap L ao cc C so qo sc tc S T f) (hb : Below W.heap.size W W') : Ask w W' bx g off cap L ao cc C so qo sc tc S T f :=
 ⟨h.bel.trans (hb.mono h.bel.size), Nat.lt_of_lt_of_le h.gl hb.size, h.rd.below hb, Ch.rd_below h.crd h.cat hb, fun c e => Nat.lt_of_lt_of_le (h.cat c e) hb.size, h.log.below hb, Nat.lt_of_lt_of_le h.blt hb.size, (hb.cell (p := ⟨bx, 0, none⟩) h.blt).trans h.b0, (hb.cell (p := ⟨bx, 1, none⟩) h.blt).trans h.b1⟩
theorem seen_at {w : World} {so qo : Option Addr} {S : List Int} {T : List (List Int)} {f : At} (h : RdL w so qo S T f) (hS : 0 < S.length) : ∃ sb, so = some ⟨sb, 0, none⟩ := by
 rcases h.seen with e | ⟨sb, e, _⟩
 · rw [e] at hS; simp at hS
 · exact ⟨sb, e⟩
theorem seen_cell {w : World} {sb : Nat} {qo : Option Addr} {S : List Int} {T : List (List Int)} {f : At} (h : RdL w (some ⟨sb, 0, none⟩) qo S T f) (i : Nat) (hi : i < S.length) : w.cell? ⟨sb, i, none⟩ = some (.int .i64 (S.getD i 0)) := by
 rcases h.seen with e | ⟨sb', e, hc⟩
 · rw [e] at hi; simp at hi
 · injection e with e; injection e with e; subst e; exact hc i hi
theorem told_at {w : World} {so qo : Option Addr} {S : List Int} {T : List (List Int)} {f : At} (h : RdL w so qo S T f) (hT : 0 < T.length) : ∃ tb toff, qo = some ⟨tb, toff, none⟩ := by
 rcases h.told with e | ⟨tb, toff, e, _⟩
 · rw [e] at hT; simp at hT
 · exact ⟨tb, toff, e⟩
theorem told_cell {w : World} {so : Option Addr} {tb toff : Nat} {S : List Int} {T : List (List Int)} {f : At} (h : RdL w so (some ⟨tb, toff, none⟩) S T f) (i : Nat) (hi : i < T.length) : w.cell? ⟨tb, toff + i, none⟩ = some (.slice (f i).1 (T.getD i []).length (f i).2) := by
 rcases h.told with e | ⟨tb', off', e, _, hc⟩
 · rw [e] at hi; simp at hi
 · injection e with e; injection e with e e'; subst e; subst e'; exact hc i hi
set_option maxHeartbeats 6400000 in
theorem specLogOk (g off cap : Nat) (L : List K) (ao : Option Addr) (cc : Nat) (C : List Int) (so qo : Option Addr) (sc tc : Nat) (S : List Int) (T : List (List Int)) (f : At) (w : World) (hcap : L.length ≤ cap) (hw : WordsOk L) (hg : g < w.heap.size) (hr : RdK w (some ⟨g, off, none⟩) L) (hC : C.length ≤ 1048576) (hrd : Lst.Rd w ao C) (hao : ∀ c, ao = some ⟨c, 0, none⟩ → c < w.heap.size) (hlog : RdL w so qo S T f) (hS : S.length ≤ 1048576) (hT : T.length ≤ 1048576) (hTT : ∀ i, i < T.length → (T.getD i []).length ≤ 1048576) :
   Calls Tryz.prog 17 #[.slice (some ⟨g, off, none⟩) L.length cap, .slice ao C.length cc, .agg #[.slice so S.length sc, .slice qo T.length tc]] w fun e w' => e = .returned (.bool (logB L C S T)) ∧ Below w.heap.size w w' := by
 have HTT : Hid (∀ i, i < T.length → (T.getD i []).length ≤ 1048576) := hTT
 have HA0 : Hid (Ask w (w.alloc (.cells #[.slice so S.length sc, .slice qo T.length tc] 39)) w.heap.size g off cap L ao cc C so qo sc tc S T f) := by
   have hb : Below w.heap.size w (w.alloc (.cells #[.slice so S.length sc, .slice qo T.length tc] 39)) := (Below.refl _ _).alloc (Nat.le_refl _) _
   exact ⟨hb, Nat.lt_of_lt_of_le hg hb.size, hr.below hb, Ch.rd_below hrd hao hb, fun c e => Nat.lt_of_lt_of_le (hao c e) hb.size, hlog.below hb, by simp, by simp, by simp⟩
 have HLO : Hid (∀ W : World, RdK W (some ⟨g, off, none⟩) L → Calls Tryz.prog 36 #[.slice (some ⟨g, off, none⟩) L.length cap] W fun e w' => e = .returned (.bool (laceB L)) ∧ Below W.heap.size W w') := fun W h => Lc.specLaceOk g off cap L W hcap hw h
 have HCO : Hid (∀ W : World, Lst.Rd W ao C → Calls Tryz.prog 37 #[.slice ao C.length cc] W fun e w' => e = .returned (.bool (Rm.coinsB C)) ∧ W = w') := fun W h => (Rm.specCoinsOk ao cc C W hC h).mono fun _ _ q => ⟨q.1, by first | exact q.2 | exact q.2.symm⟩
 have HCL : Hid (∀ (W : World) (s : Int), RdK W (some ⟨g, off, none⟩) L → Calls Tryz.prog 38 #[.slice (some ⟨g, off, none⟩) L.length cap, .int .i64 s] W fun e w' => e = .returned (.bool (closedB L s)) ∧ Below W.heap.size W w') := fun W s h => Sg.specClosed g off cap L s W hcap hw h
 clear hcap hw hg hr hrd hao hlog hTT
 go_enter Tryz.func17, Tryz.ntmps17
 go_upto_region 1 with fail
 generalize w.alloc (.cells #[.slice so S.length sc, .slice qo T.length tc] 39) = W0 at HA0 ⊢
 generalize w.heap.size = bx at HA0 ⊢
 have b0 := HA0.out.b0
 have b1 := HA0.out.b1
 have HNO : Hid (∀ P : Prop, (P → logB L C S T = false) → P → logB L C S T = false) := fun P h p => h p
 clear HNO
 by_cases h40 : S.length ≤ 40
 · have h40' : decide ((40 : Int) < (S.length : Int)) = false := by simp; omega
   by_cases hTS : T.length = S.length
   · have hTS' : ((T.length : Int) != (S.length : Int)) = false := by simp [hTS]
     have hcall := HLO.out W0 HA0.out.rd
     cases hl : laceB L
     · have HT : Hid (logB L C S T = false) := by show _ = _; unfold logB; rw [hl]; simp
       rw [hl] at hcall
       clear hl
       go_wp2_with (first | (go_at_call 36; refine hcall.mono ?_; rintro e w1 ⟨rfl, hb1⟩))
       go_ret
       exact ⟨by rw [HT.out]; rfl, (HA0.out.below hb1).bel⟩
     · rw [hl] at hcall
       go_wp2_with (first | (go_at_call 36; refine hcall.mono ?_; rintro e w1 ⟨rfl, hb1⟩))
       have HA1 : Hid (Ask w w1 bx g off cap L ao cc C so qo sc tc S T f) := HA0.out.below hb1
       have hcc := HCO.out w1 HA1.out.crd
       clear hcall hb1 HA0 b0 b1
       cases hc : Rm.coinsB C
       · have HT : Hid (logB L C S T = false) := by show _ = _; unfold logB; rw [hc]; simp
         rw [hc] at hcc
         clear hc hl
         go_wp2_with (first | (go_at_call 37; refine hcc.mono ?_; rintro e w1 ⟨rfl, rfl⟩))
         go_ret
         exact ⟨by rw [HT.out]; rfl, HA1.out.bel⟩
       · rw [hc] at hcc
         have HY : Hid ((∀ i, i < S.length → stepB L C S T i = true) → logB L C S T = true) := fun h => log_yes h40 hTS hl hc h
         have HLC : Hid (laceB L = true) := hl
         have HCN : Hid (Rm.coinsB C = true) := hc
         clear hc hl
         go_wp2_with (first | (go_at_call 37; refine hcc.mono ?_; rintro e w1 ⟨rfl, rfl⟩))
         clear hcc
         go_loopw [7] (fun iv wr => ∃ i : Nat, i ≤ S.length ∧ iv = .int .i64 i ∧ Hid (∀ q, q < i → stepB L C S T q = true) ∧ Hid (Ask w wr bx g off cap L ao cc C so qo sc tc S T f)) (fun iv _ => S.length - (intOf iv).toNat)
         case atStart => exact ⟨0, by omega, rfl, fun q hq => absurd hq (by omega), HA1⟩
         case round =>
           clear HA1
           obtain ⟨i, hi, rfl, HOK, HA⟩ := hrel
           by_cases hil : i < S.length
           · have hT0 : 0 < T.length := by omega
             obtain ⟨sb, rfl⟩ := seen_at HA.out.log (by omega)
             obtain ⟨tb, toff, rfl⟩ := told_at HA.out.log hT0
             have hii : (i : Int) < (S.length : Int) := by omega
             have hiT : (i : Int) < (T.length : Int) := by omega
             have HNO : Hid (stepB L C S T i = false → logB L C S T = false) := fun h => log_no i hil h
             have b0 := HA.out.b0
             go_upto_region 6 with fail
             clear b0
             go_cut [79] from 31 to 94 (fun tv wx => ∃ t : Bool, tv = .bool t ∧ Hid (t = true → stepB L C S T i = false) ∧ Hid (t = false → closedB L (S.getD i 0) = true ∧ stepB L C S T i = sameB (T.getD i []) (outL L C (S.getD i 0))) ∧ Hid (Ask w wx bx g off cap L ao cc C (some ⟨sb, 0, none⟩) (some ⟨tb, toff, none⟩) sc tc S T f))
             case first =>
               cases hcl : closedB L (S.getD i 0)
               · have HF1 : Hid (stepB L C S T i = false) := by show _ = _; unfold stepB; rw [hcl]; rfl
                 have HCI : Hid (∀ W : World, RdK W (some ⟨g, off, none⟩) L → Calls Tryz.prog 38 #[.slice (some ⟨g, off, none⟩) L.length cap, .int .i64 (S.getD i 0)] W fun e w' => e = .returned (.bool false) ∧ Below W.heap.size W w') := fun W h => by have := HCL.out W (S.getD i 0) h; rwa [hcl] at this
                 clear hcl
                 obtain ⟨X, _, F, HF, HG⟩ := Fam.fam wr
                 have HAF : Hid (∀ z, Ask w (F z) bx g off cap L ao cc C (some ⟨sb, 0, none⟩) (some ⟨tb, toff, none⟩) sc tc S T f) := fun z => HA.out.below (HF.out z)
                 have hb0 : ∀ z, (F z).cell? ⟨bx, 0, none⟩ = some (.slice (some ⟨sb, 0, none⟩) S.length sc) := fun z => (HAF.out z).b0
                 have hb1 : ∀ z, (F z).cell? ⟨bx, 1, none⟩ = some (.slice (some ⟨tb, toff, none⟩) T.length tc) := fun z => (HAF.out z).b1
                 have hs0 : ∀ z, (F z).cell? ⟨sb, i, none⟩ = some (.int .i64 (S.getD i 0)) := fun z => seen_cell (HAF.out z).log i hil
                 clear HA
                 generalize S.getD i 0 = si at hs0 HCI
                 refine Fam.region (F := F) (by kernel_rfl) (by kernel_rfl) (HG.out _ (Below.refl _ wr).drew) ?_
                 repeat (go_big_quiet_step (first
                   | (go_at_call 38; exact (HCI.out _ (HAF.out _).rd).mono fun _ _ h => ⟨h.1, HG.out _ ((HF.out _).trans (h.2.mono (HF.out _).size))⟩)))
                 refine wpQuiet_nil ?_
                 intro w2 hw2
                 obtain ⟨z, rfl⟩ := hw2
                 have HA2 : Hid (Ask w (F z) bx g off cap L ao cc C (some ⟨sb, 0, none⟩) (some ⟨tb, toff, none⟩) sc tc S T f) := HAF.out z
                 go_wp2_with fail
                 go_meet
                 exact ⟨true, rfl, fun _ => HF1.out, fun h => Bool.noConfusion h, HA2⟩
               · have HCI : Hid (∀ W : World, RdK W (some ⟨g, off, none⟩) L → Calls Tryz.prog 38 #[.slice (some ⟨g, off, none⟩) L.length cap, .int .i64 (S.getD i 0)] W fun e w' => e = .returned (.bool true) ∧ Below W.heap.size W w') := fun W h => by have := HCL.out W (S.getD i 0) h; rwa [hcl] at this
                 have HCLD : Hid (closedB L (S.getD i 0) = true) := hcl
                 by_cases hi0 : i = 0
                 · subst hi0
                   have HF2 : Hid (stepB L C S T 0 = sameB (T.getD 0 []) (outL L C (S.getD 0 0))) := by show _ = _; unfold stepB; rw [hcl]; simp
                   clear hcl
                   rw [show ((0 : Nat) : Int) = 0 from rfl]
                   obtain ⟨X, _, F, HF, HG⟩ := Fam.fam wr
                   have HAF : Hid (∀ z, Ask w (F z) bx g off cap L ao cc C (some ⟨sb, 0, none⟩) (some ⟨tb, toff, none⟩) sc tc S T f) := fun z => HA.out.below (HF.out z)
                   have hb0 : ∀ z, (F z).cell? ⟨bx, 0, none⟩ = some (.slice (some ⟨sb, 0, none⟩) S.length sc) := fun z => (HAF.out z).b0
                   have hb1 : ∀ z, (F z).cell? ⟨bx, 1, none⟩ = some (.slice (some ⟨tb, toff, none⟩) T.length tc) := fun z => (HAF.out z).b1
                   have hs0 : ∀ z, (F z).cell? ⟨sb, 0, none⟩ = some (.int .i64 (S.getD 0 0)) := fun z => seen_cell (HAF.out z).log 0 hil
                   clear HA
                   generalize S.getD 0 0 = si at hs0 HCI
                   refine Fam.region (F := F) (by kernel_rfl) (by kernel_rfl) (HG.out _ (Below.refl _ wr).drew) ?_
                   repeat (go_big_quiet_step (first
                     | (go_at_call 38; exact (HCI.out _ (HAF.out _).rd).mono fun _ _ h => ⟨h.1, HG.out _ ((HF.out _).trans (h.2.mono (HF.out _).size))⟩)))
                   refine wpQuiet_nil ?_
                   intro w2 hw2
                   obtain ⟨z, rfl⟩ := hw2
                   have HA2 : Hid (Ask w (F z) bx g off cap L ao cc C (some ⟨sb, 0, none⟩) (some ⟨tb, toff, none⟩) sc tc S T f) := HAF.out z
                   go_wp2_with fail
                   go_meet
                   exact ⟨false, rfl, fun h => Bool.noConfusion h, fun _ => ⟨HCLD.out, HF2.out⟩, HA2⟩
                 · obtain ⟨t, ht⟩ : ∃ t : Nat, t = i - 1 := ⟨_, rfl⟩
                   have hit : (i : Int) - 1 = (t : Int) := by omega
                   have hi1 : 0 < i := by omega
                   have hig : decide ((0 : Int) < (i : Int)) = true := by simp; omega
                   have htS : (t : Int) < (S.length : Int) := by omega
                   have htT : (t : Int) < (T.length : Int) := by omega
                   have HST : Hid (stepB L C S T i = ((decide (bits .andNot .i64 (S.getD t 0) (S.getD i 0) = 0) && beginsB (T.getD i []) (T.getD t [])) && sameB (T.getD i []) (outL L C (S.getD i 0)))) := by show _ = _; unfold stepB; rw [hcl, decide_eq_false hi0, ht]; rfl
                   have hti : t < i := by omega
                   clear ht hcl
                   by_cases hand0 : bits .andNot .i64 (S.getD t 0) (S.getD i 0) = 0
                   · have hand : (bits .andNot .i64 (S.getD t 0) (S.getD i 0) != 0) = false := by simpa using hand0
                     cases hbg : beginsB (T.getD i []) (T.getD t [])
                     · have HF1 : Hid (stepB L C S T i = false) := by show _ = _; rw [HST.out, hbg]; simp
                       clear HST hand0
                       obtain ⟨X, _, F, HF, HG⟩ := Fam.fam wr
                       have HAF : Hid (∀ z, Ask w (F z) bx g off cap L ao cc C (some ⟨sb, 0, none⟩) (some ⟨tb, toff, none⟩) sc tc S T f) := fun z => HA.out.below (HF.out z)
                       have hb0 : ∀ z, (F z).cell? ⟨bx, 0, none⟩ = some (.slice (some ⟨sb, 0, none⟩) S.length sc) := fun z => (HAF.out z).b0
                       have hb1 : ∀ z, (F z).cell? ⟨bx, 1, none⟩ = some (.slice (some ⟨tb, toff, none⟩) T.length tc) := fun z => (HAF.out z).b1
                       have hs0 : ∀ z, (F z).cell? ⟨sb, i, none⟩ = some (.int .i64 (S.getD i 0)) := fun z => seen_cell (HAF.out z).log i hil
                       have hs1 : ∀ z, (F z).cell? ⟨sb, t, none⟩ = some (.int .i64 (S.getD t 0)) := fun z => seen_cell (HAF.out z).log t (by omega)
                       have ht0 : ∀ z, (F z).cell? ⟨tb, toff + i, none⟩ = some (.slice (f i).1 (T.getD i []).length (f i).2) := fun z => told_cell (HAF.out z).log i (by omega)
                       have ht1 : ∀ z, (F z).cell? ⟨tb, toff + t, none⟩ = some (.slice (f t).1 (T.getD t []).length (f t).2) := fun z => told_cell (HAF.out z).log t (by omega)
                       have HBG : Hid (∀ z, Calls Tryz.prog 39 #[.slice (f i).1 (T.getD i []).length (f i).2, .slice (f t).1 (T.getD t []).length (f t).2] (F z) fun e w' => e = .returned (.bool (beginsB (T.getD i []) (T.getD t []))) ∧ Below (F z).heap.size (F z) w') := fun z => Tl.specBegins _ _ _ _ _ _ _ (HTT.out i (by omega)) (HTT.out t (by omega)) ((HAF.out z).log.row i (by omega)) ((HAF.out z).log.row t (by omega))
                       rw [hbg] at HBG
                       clear hbg
                       generalize (T.getD i []).length = ni at ht0 HBG
                       generalize (T.getD t []).length = nt at ht1 HBG
                       generalize (f i).1 = fi1 at ht0 HBG
                       generalize (f i).2 = fi2 at ht0 HBG
                       generalize (f t).1 = ft1 at ht1 HBG
                       generalize (f t).2 = ft2 at ht1 HBG
                       clear HA
                       generalize S.getD i 0 = si at hs0 HCI hand
                       generalize S.getD t 0 = st at hs1 hand
                       refine Fam.region (F := F) (by kernel_rfl) (by kernel_rfl) (HG.out _ (Below.refl _ wr).drew) ?_
                       repeat (go_big_quiet_step (first
                         | (go_at_call 38; exact (HCI.out _ (HAF.out _).rd).mono fun _ _ h => ⟨h.1, HG.out _ ((HF.out _).trans (h.2.mono (HF.out _).size))⟩)
                         | (go_at_call 39; exact (HBG.out _).mono fun _ _ h => ⟨h.1, HG.out _ ((HF.out _).trans (h.2.mono (HF.out _).size))⟩)))
                       refine wpQuiet_nil ?_
                       intro w2 hw2
                       obtain ⟨z, rfl⟩ := hw2
                       have HA2 : Hid (Ask w (F z) bx g off cap L ao cc C (some ⟨sb, 0, none⟩) (some ⟨tb, toff, none⟩) sc tc S T f) := HAF.out z
                       go_wp2_with fail
                       go_meet
                       exact ⟨true, rfl, fun _ => HF1.out, fun h => Bool.noConfusion h, HA2⟩
                     · have HF2 : Hid (stepB L C S T i = sameB (T.getD i []) (outL L C (S.getD i 0))) := by show _ = _; rw [HST.out, hbg, decide_eq_true hand0]; simp
                       clear HST hand0
                       obtain ⟨X, _, F, HF, HG⟩ := Fam.fam wr
                       have HAF : Hid (∀ z, Ask w (F z) bx g off cap L ao cc C (some ⟨sb, 0, none⟩) (some ⟨tb, toff, none⟩) sc tc S T f) := fun z => HA.out.below (HF.out z)
                       have hb0 : ∀ z, (F z).cell? ⟨bx, 0, none⟩ = some (.slice (some ⟨sb, 0, none⟩) S.length sc) := fun z => (HAF.out z).b0
                       have hb1 : ∀ z, (F z).cell? ⟨bx, 1, none⟩ = some (.slice (some ⟨tb, toff, none⟩) T.length tc) := fun z => (HAF.out z).b1
                       have hs0 : ∀ z, (F z).cell? ⟨sb, i, none⟩ = some (.int .i64 (S.getD i 0)) := fun z => seen_cell (HAF.out z).log i hil
                       have hs1 : ∀ z, (F z).cell? ⟨sb, t, none⟩ = some (.int .i64 (S.getD t 0)) := fun z => seen_cell (HAF.out z).log t (by omega)
                       have ht0 : ∀ z, (F z).cell? ⟨tb, toff + i, none⟩ = some (.slice (f i).1 (T.getD i []).length (f i).2) := fun z => told_cell (HAF.out z).log i (by omega)
                       have ht1 : ∀ z, (F z).cell? ⟨tb, toff + t, none⟩ = some (.slice (f t).1 (T.getD t []).length (f t).2) := fun z => told_cell (HAF.out z).log t (by omega)
                       have HBG : Hid (∀ z, Calls Tryz.prog 39 #[.slice (f i).1 (T.getD i []).length (f i).2, .slice (f t).1 (T.getD t []).length (f t).2] (F z) fun e w' => e = .returned (.bool (beginsB (T.getD i []) (T.getD t []))) ∧ Below (F z).heap.size (F z) w') := fun z => Tl.specBegins _ _ _ _ _ _ _ (HTT.out i (by omega)) (HTT.out t (by omega)) ((HAF.out z).log.row i (by omega)) ((HAF.out z).log.row t (by omega))
                       rw [hbg] at HBG
                       clear hbg
                       generalize (T.getD i []).length = ni at ht0 HBG
                       generalize (T.getD t []).length = nt at ht1 HBG
                       generalize (f i).1 = fi1 at ht0 HBG
                       generalize (f i).2 = fi2 at ht0 HBG
                       generalize (f t).1 = ft1 at ht1 HBG
                       generalize (f t).2 = ft2 at ht1 HBG
                       clear HA
                       generalize S.getD i 0 = si at hs0 HCI hand
                       generalize S.getD t 0 = st at hs1 hand
                       refine Fam.region (F := F) (by kernel_rfl) (by kernel_rfl) (HG.out _ (Below.refl _ wr).drew) ?_
                       repeat (go_big_quiet_step (first
                         | (go_at_call 38; exact (HCI.out _ (HAF.out _).rd).mono fun _ _ h => ⟨h.1, HG.out _ ((HF.out _).trans (h.2.mono (HF.out _).size))⟩)
                         | (go_at_call 39; exact (HBG.out _).mono fun _ _ h => ⟨h.1, HG.out _ ((HF.out _).trans (h.2.mono (HF.out _).size))⟩)))
                       refine wpQuiet_nil ?_
                       intro w2 hw2
                       obtain ⟨z, rfl⟩ := hw2
                       have HA2 : Hid (Ask w (F z) bx g off cap L ao cc C (some ⟨sb, 0, none⟩) (some ⟨tb, toff, none⟩) sc tc S T f) := HAF.out z
                       go_wp2_with fail
                       go_meet
                       exact ⟨false, rfl, fun h => Bool.noConfusion h, fun _ => ⟨HCLD.out, HF2.out⟩, HA2⟩
                   · have hand : (bits .andNot .i64 (S.getD t 0) (S.getD i 0) != 0) = true := by simpa using hand0
                     have HF1 : Hid (stepB L C S T i = false) := by show _ = _; rw [HST.out, decide_eq_false hand0]; simp
                     clear HST hand0
                     obtain ⟨X, _, F, HF, HG⟩ := Fam.fam wr
                     have HAF : Hid (∀ z, Ask w (F z) bx g off cap L ao cc C (some ⟨sb, 0, none⟩) (some ⟨tb, toff, none⟩) sc tc S T f) := fun z => HA.out.below (HF.out z)
                     have hb0 : ∀ z, (F z).cell? ⟨bx, 0, none⟩ = some (.slice (some ⟨sb, 0, none⟩) S.length sc) := fun z => (HAF.out z).b0
                     have hb1 : ∀ z, (F z).cell? ⟨bx, 1, none⟩ = some (.slice (some ⟨tb, toff, none⟩) T.length tc) := fun z => (HAF.out z).b1
                     have hs0 : ∀ z, (F z).cell? ⟨sb, i, none⟩ = some (.int .i64 (S.getD i 0)) := fun z => seen_cell (HAF.out z).log i hil
                     have hs1 : ∀ z, (F z).cell? ⟨sb, t, none⟩ = some (.int .i64 (S.getD t 0)) := fun z => seen_cell (HAF.out z).log t (by omega)
                     clear HA
                     generalize S.getD i 0 = si at hs0 HCI hand
                     generalize S.getD t 0 = st at hs1 hand
                     refine Fam.region (F := F) (by kernel_rfl) (by kernel_rfl) (HG.out _ (Below.refl _ wr).drew) ?_
                     repeat (go_big_quiet_step (first
                       | (go_at_call 38; exact (HCI.out _ (HAF.out _).rd).mono fun _ _ h => ⟨h.1, HG.out _ ((HF.out _).trans (h.2.mono (HF.out _).size))⟩)))
                     refine wpQuiet_nil ?_
                     intro w2 hw2
                     obtain ⟨z, rfl⟩ := hw2
                     have HA2 : Hid (Ask w (F z) bx g off cap L ao cc C (some ⟨sb, 0, none⟩) (some ⟨tb, toff, none⟩) sc tc S T f) := HAF.out z
                     go_wp2_with fail
                     go_meet
                     exact ⟨true, rfl, fun _ => HF1.out, fun h => Bool.noConfusion h, HA2⟩
             case rest =>
               obtain ⟨t, rfl, HT1, HT2, HA2⟩ := hcut
               clear HA
               cases t
               · have HC2 := HT2.out (by first | rfl | trivial)
                 obtain ⟨hl2, s0, s1⟩ := closed_bd HC2.1
                 have HSS : Hid (stepB L C S T i = sameB (T.getD i []) (outL L C (S.getD i 0))) := HC2.2
                 have HOUT : Hid (∀ W : World, Ask w W bx g off cap L ao cc C (some ⟨sb, 0, none⟩) (some ⟨tb, toff, none⟩) sc tc S T f → Calls Tryz.prog 27 #[.slice (some ⟨g, off, none⟩) L.length cap, .slice ao C.length cc, .int .i64 (S.getD i 0)] W (NumsPost (outL L C (S.getD i 0)) W)) := fun W h => l12OutA g off cap L ao cc C (S.getD i 0) W hl2 h.gl h.rd h.crd h.cat s0 s1
                 have hol : (outL L C (S.getD i 0)).length ≤ 3660 := out_len HC2.1 HCN.out
                 have HSM : Hid (∀ (W : World) (ro : Option Addr) (rc : Nat), Ask w W bx g off cap L ao cc C (some ⟨sb, 0, none⟩) (some ⟨tb, toff, none⟩) sc tc S T f → Lst.Rd W ro (outL L C (S.getD i 0)) → Calls Tryz.prog 40 #[.slice (f i).1 (T.getD i []).length (f i).2, .slice ro (outL L C (S.getD i 0)).length rc] W fun e w' => e = .returned (.bool (sameB (T.getD i []) (outL L C (S.getD i 0)))) ∧ Below W.heap.size W w') := fun W ro rc h hro => l15Same _ _ _ _ _ _ W (HTT.out i (by omega)) (by omega) (h.log.row i (by omega)) hro
                 have HCE : Hid (∀ W : World, Ask w W bx g off cap L ao cc C (some ⟨sb, 0, none⟩) (some ⟨tb, toff, none⟩) sc tc S T f → W.cell? ⟨bx, 0, none⟩ = some (.slice (some ⟨sb, 0, none⟩) S.length sc) ∧ W.cell? ⟨bx, 1, none⟩ = some (.slice (some ⟨tb, toff, none⟩) T.length tc) ∧ W.cell? ⟨sb, i, none⟩ = some (.int .i64 (S.getD i 0)) ∧ W.cell? ⟨tb, toff + i, none⟩ = some (.slice (f i).1 (T.getD i []).length (f i).2)) := fun W h => ⟨h.b0, h.b1, seen_cell h.log i hil, told_cell h.log i (by omega)⟩
                 clear HC2 hl2 s0 s1 HT1 HT2 hol
                 have HDR : Hid (Ask w wc.drew bx g off cap L ao cc C (some ⟨sb, 0, none⟩) (some ⟨tb, toff, none⟩) sc tc S T f) := HA2.out.below (Below.refl _ _).drew
                 obtain ⟨c0, c1, c2, c3⟩ := HCE.out wc HA2.out
                 cases hsm : sameB (T.getD i []) (outL L C (S.getD i 0))
                 · have HT : Hid (logB L C S T = false) := HNO.out (HSS.out.trans hsm)
                   rw [hsm] at HSM
                   clear hsm HSS HNO HOK HCL HCO HLO HTT HY HA2
                   generalize S.getD i 0 = si at HOUT HSM HCE c2
                   generalize (T.getD i []).length = ni at HSM HCE c3
                   generalize outL L C si = ol at HOUT HSM
                   generalize (f i).1 = fi1 at HSM HCE c3
                   generalize (f i).2 = fi2 at HSM HCE c3
                   go_wp2_with fail
                   go_region_held3 (fun W => W.cell? ⟨bx, 0, none⟩ = some (.slice (some ⟨sb, 0, none⟩) S.length sc) ∧ W.cell? ⟨bx, 1, none⟩ = some (.slice (some ⟨tb, toff, none⟩) T.length tc) ∧ W.cell? ⟨sb, i, none⟩ = some (.int .i64 si) ∧ W.cell? ⟨tb, toff + i, none⟩ = some (.slice fi1 ni fi2)) (first
                       | exact HCE.out _ HDR.out
                       | exact HCE.out _ A1
                       | exact HCE.out _ A2
                       | go_keep) (first
                     | (go_at_call 27
                        refine (HOUT.out _ HDR.out).mono ?_
                        rintro e V1 ⟨ro, rc, rfl, hO, hb1⟩
                        have A1 := HDR.out.below hb1
                        have hro := Lst.own_rd hO
                        obtain ⟨d0, d1, d2, d3⟩ := HCE.out V1 A1)
                     | (go_at_call 40
                        refine (HSM.out _ _ _ A1 hro).mono ?_
                        rintro e V2 ⟨rfl, hb2⟩
                        have A2 := A1.below hb2))
                   all_goals go_wp2
                   all_goals go_ret
                   all_goals exact ⟨by rw [HT.out]; rfl, A2.bel⟩
                 · have HOK2 : Hid (∀ q, q < i + 1 → stepB L C S T q = true) := fun q hq => by
                     by_cases e : q = i
                     · subst e; exact HSS.out.trans hsm
                     · exact HOK.out q (by omega)
                   rw [hsm] at HSM
                   clear hsm HSS HNO HOK HCL HCO HLO HTT HY HA2
                   generalize S.getD i 0 = si at HOUT HSM HCE c2
                   generalize (T.getD i []).length = ni at HSM HCE c3
                   generalize outL L C si = ol at HOUT HSM
                   generalize (f i).1 = fi1 at HSM HCE c3
                   generalize (f i).2 = fi2 at HSM HCE c3
                   go_wp2_with fail
                   go_region_held3 (fun W => W.cell? ⟨bx, 0, none⟩ = some (.slice (some ⟨sb, 0, none⟩) S.length sc) ∧ W.cell? ⟨bx, 1, none⟩ = some (.slice (some ⟨tb, toff, none⟩) T.length tc) ∧ W.cell? ⟨sb, i, none⟩ = some (.int .i64 si) ∧ W.cell? ⟨tb, toff + i, none⟩ = some (.slice fi1 ni fi2)) (first
                       | exact HCE.out _ HDR.out
                       | exact HCE.out _ A1
                       | exact HCE.out _ A2
                       | go_keep) (first
                     | (go_at_call 27
                        refine (HOUT.out _ HDR.out).mono ?_
                        rintro e V1 ⟨ro, rc, rfl, hO, hb1⟩
                        have A1 := HDR.out.below hb1
                        have hro := Lst.own_rd hO
                        obtain ⟨d0, d1, d2, d3⟩ := HCE.out V1 A1)
                     | (go_at_call 40
                        refine (HSM.out _ _ _ A1 hro).mono ?_
                        rintro e V2 ⟨rfl, hb2⟩
                        have A2 := A1.below hb2))
                   all_goals go_wp2
                   all_goals go_roundw
                   case rel => exact ⟨i + 1, by omega, by go_num, HOK2, A2⟩
                   case measure => simp [intOf]; omega
               · have HT : Hid (logB L C S T = false) := HNO.out (by first | exact HT1.out rfl | exact HT1.out trivial)
                 clear HT1 HT2 HNO HOK
                 go_wp2
                 go_ret
                 exact ⟨by rw [HT.out]; rfl, HA2.out.bel⟩
           · obtain rfl : i = S.length := by omega
             have HT : Hid (logB L C S T = true) := HY.out HOK.out
             have b0 := HA.out.b0
             clear HOK
             go_wp2
             go_ret
             exact ⟨by rw [HT.out]; rfl, HA.out.bel⟩
   · have HT : Hid (logB L C S T = false) := by show _ = _; unfold logB; rw [decide_eq_false hTS]; simp
     have hTS' : ((T.length : Int) != (S.length : Int)) = true := by simpa using (by omega : ¬ (T.length : Int) = (S.length : Int))
     go_wp2_with fail
     go_ret
     exact ⟨by rw [HT.out]; rfl, HA0.out.bel⟩
 · have HT : Hid (logB L C S T = false) := by show _ = _; unfold logB; rw [decide_eq_false h40]; simp
   have h40' : decide ((40 : Int) < (S.length : Int)) = true := by simp; omega
   go_wp2_with fail
   go_ret
   exact ⟨by rw [HT.out]; rfl, HA0.out.bel⟩
end Lg
namespace Lg
set_option maxHeartbeats 1600000 in
theorem eqSS (T : List (List Int)) (qo1 qo2 : Option Addr) (c1 c2 : Nat) (f1 f2 : At) (so1 so2 : Option Addr) (S1 S2 : List Int) (w : World) (hT : T.length ≤ 1048576) (hTT : ∀ i, i < T.length → (T.getD i []).length ≤ 1048576) (h1 : RdL w so1 qo1 S1 T f1) (h2 : RdL w so2 qo2 S2 T f2) :
   Calls Tryz.prog 43 #[.slice qo1 T.length c1, .slice qo2 T.length c2] w fun e w' => e = .returned (.bool true) ∧ Below w.heap.size w w' := by
 have H1 : Hid (RdL w so1 qo1 S1 T f1) := h1
 have H2 : Hid (RdL w so2 qo2 S2 T f2) := h2
 have HTT : Hid (∀ i, i < T.length → (T.getD i []).length ≤ 1048576) := hTT
 clear h1 h2 hTT
 go_enter Tryz.func43, Tryz.ntmps43
 go_wp2
 go_loopw [5] (fun iv wr => ∃ i : Nat, i ≤ T.length ∧ iv = .int .i64 i ∧ Hid (Below w.heap.size w wr)) (fun iv _ => T.length - (intOf iv).toNat)
 case atStart => exact ⟨0, by omega, rfl, Below.refl _ _⟩
 case round =>
   obtain ⟨i, hi, rfl, HB⟩ := hrel
   by_cases hil : i < T.length
   · have hii : (i : Int) < (T.length : Int) := by omega
     obtain ⟨tb1, o1, rfl⟩ := told_at H1.out (by omega)
     obtain ⟨tb2, o2, rfl⟩ := told_at H2.out (by omega)
     obtain ⟨X, _, F, HF, HG⟩ := Fam.fam wr
     have HBF : Hid (∀ z, Below w.heap.size w (F z)) := fun z => HB.out.trans ((HF.out z).mono HB.out.size)
     have hc1 : ∀ z, (F z).cell? ⟨tb1, o1 + i, none⟩ = some (.slice (f1 i).1 (T.getD i []).length (f1 i).2) := fun z => told_cell (H1.out.below (HBF.out z)) i hil
     have hc2 : ∀ z, (F z).cell? ⟨tb2, o2 + i, none⟩ = some (.slice (f2 i).1 (T.getD i []).length (f2 i).2) := fun z => told_cell (H2.out.below (HBF.out z)) i hil
     have HQ : Hid (∀ z, Calls Tryz.prog 11 #[.slice (f1 i).1 (T.getD i []).length (f1 i).2, .slice (f2 i).1 (T.getD i []).length (f2 i).2] (F z) fun e w' => e = .returned (.bool true) ∧ Below (F z).heap.size (F z) w') := fun z => Nu.alikeB _ _ _ _ _ _ (HTT.out i hil) ((H1.out.below (HBF.out z)).row i hil) ((H2.out.below (HBF.out z)).row i hil)
     clear HB
     generalize (T.getD i []).length = n at hc1 hc2 HQ
     generalize (f1 i).1 = a1 at hc1 HQ
     generalize (f1 i).2 = b1 at hc1 HQ
     generalize (f2 i).1 = a2 at hc2 HQ
     generalize (f2 i).2 = b2 at hc2 HQ
     go_wp2_with fail
     refine Fam.region (F := F) (by kernel_rfl) (by kernel_rfl) (HG.out _ (Below.refl _ wr).drew) ?_
     repeat (go_big_quiet_step (first
       | (go_at_call 11; exact (HQ.out _).mono fun _ _ h => ⟨h.1, HG.out _ ((HF.out _).trans (h.2.mono (HF.out _).size))⟩)))
     refine wpQuiet_nil ?_
     intro w2 hw2
     obtain ⟨z, rfl⟩ := hw2
     have HB2 : Hid (Below w.heap.size w (F z)) := HBF.out z
     go_wp2
     go_roundw
     case rel => exact ⟨i + 1, by omega, by go_num, HB2⟩
     case measure => simp [intOf]; omega
   · obtain rfl : i = T.length := by omega
     go_wp2
     go_ret
     exact ⟨rfl, HB.out⟩
theorem boxes (w : World) (x y u v : Value) (t : TypeId) : Below w.heap.size w ((w.alloc (.cells #[x, y] t)).alloc (.cells #[u, v] t)) ∧ ((w.alloc (.cells #[x, y] t)).alloc (.cells #[u, v] t)).cell? ⟨w.heap.size, 0, none⟩ = some x ∧ ((w.alloc (.cells #[x, y] t)).alloc (.cells #[u, v] t)).cell? ⟨w.heap.size, 1, none⟩ = some y ∧ ((w.alloc (.cells #[x, y] t)).alloc (.cells #[u, v] t)).cell? ⟨w.heap.size + 1, 0, none⟩ = some u ∧ ((w.alloc (.cells #[x, y] t)).alloc (.cells #[u, v] t)).cell? ⟨w.heap.size + 1, 1, none⟩ = some v ∧ w.heap.size + 1 < ((w.alloc (.cells #[x, y] t)).alloc (.cells #[u, v] t)).heap.size := by
 have e : (w.alloc (.cells #[x, y] t)).heap.size = w.heap.size + 1 := by simp
 refine ⟨((Below.refl _ _).alloc (Nat.le_refl _) _).alloc (by simp) _, ?_, ?_, ?_, ?_, by simp⟩
 · rw [World.cell?_alloc_lt _ _ _ (by simp)]; simp
 · rw [World.cell?_alloc_lt _ _ _ (by simp)]; simp
 · rw [← e]; simp
 · rw [← e]; simp
set_option maxHeartbeats 1600000 in
theorem eqLog (S : List Int) (T : List (List Int)) (so1 so2 qo1 qo2 : Option Addr) (sc1 sc2 tc1 tc2 : Nat) (f1 f2 : At) (w : World) (hS : S.length ≤ 1048576) (hT : T.length ≤ 1048576) (hTT : ∀ i, i < T.length → (T.getD i []).length ≤ 1048576) (h1 : RdL w so1 qo1 S T f1) (h2 : RdL w so2 qo2 S T f2) :
   Calls Tryz.prog 20 #[.agg #[.slice so1 S.length sc1, .slice qo1 T.length tc1], .agg #[.slice so2 S.length sc2, .slice qo2 T.length tc2]] w fun e w' => e = .returned (.bool true) ∧ Below w.heap.size w w' := by
 have P0 : Hid (_) := boxes w (.slice so1 S.length sc1) (.slice qo1 T.length tc1) (.slice so2 S.length sc2) (.slice qo2 T.length tc2) 39
 have HQ : Hid (∀ W : World, Below w.heap.size w W → Calls Tryz.prog 11 #[.slice so1 S.length sc1, .slice so2 S.length sc2] W fun e w' => e = .returned (.bool true) ∧ Below W.heap.size W w') := fun W hW => Nu.alikeB _ _ _ _ _ _ hS (h1.below hW).seen (h2.below hW).seen
 have HSS : Hid (∀ W : World, Below w.heap.size w W → Calls Tryz.prog 43 #[.slice qo1 T.length tc1, .slice qo2 T.length tc2] W fun e w' => e = .returned (.bool true) ∧ Below W.heap.size W w') := fun W hW => eqSS T qo1 qo2 tc1 tc2 f1 f2 so1 so2 S S W hT hTT (h1.below hW) (h2.below hW)
 clear h1 h2 hTT
 go_enter Tryz.func20, Tryz.ntmps20
 go_upto_region 1 with fail
 generalize (w.alloc (.cells #[.slice so1 S.length sc1, .slice qo1 T.length tc1] 39)).alloc (.cells #[.slice so2 S.length sc2, .slice qo2 T.length tc2] 39) = W0 at P0 ⊢
 obtain ⟨B0, x0, x1, y0, y1, hl⟩ := P0
 go_wp2_with fail
 refine (HQ.out W0 B0).mono ?_
 rintro e W1 ⟨rfl, hb1⟩
 have B1 := B0.trans (hb1.mono B0.size)
 have x1' := (hb1.cell (p := ⟨w.heap.size, 1, none⟩) (show w.heap.size < W0.heap.size by omega)).trans x1
 have y1' := (hb1.cell (p := ⟨w.heap.size + 1, 1, none⟩) hl).trans y1
 clear x0 x1 y0 y1 hb1 B0
 go_wp2_with fail
 refine (HSS.out W1 B1).mono ?_
 rintro e W2 ⟨rfl, hb2⟩
 have B2 := B1.trans (hb2.mono B1.size)
 clear hb2 x1' y1' B1
 go_wp2
 go_ret
 exact ⟨rfl, B2⟩
end Lg
namespace Lg
open Kn (K okK)
open Sg (NumsPost)
set_option maxHeartbeats 800000 in
theorem l1CopyN (w : World) : Calls Tryz.prog 66 #[.slice none 0 0] w (NumsPost [] w) := by
 obtain ⟨i0, hi, hz0, hz1, hz2⟩ := info_parts Memb.info2
 have HB : Hid (Memb.Own w.heap.size (w.alloc (.cells #[] 2)) (some ⟨w.heap.size, 0, none⟩) 0 [] ∧ Below w.heap.size w (w.alloc (.cells #[] 2))) := ⟨Memb.own_empty w, (Below.refl _ _).alloc (Nat.le_refl _) _⟩
 go_enter Tryz.func66, Tryz.ntmps66
 go_wp2_with (at_builtin; refine wpList_append_own_none rfl _ _ 23 rfl w.heap.size 2 i0 1 Tryz.underlying23 hi _ 0 [] rfl (Memb.own_empty w) rfl ?_)
 go_ret
 exact ⟨_, 0, rfl, HB.out.1, HB.out.2⟩
set_option maxHeartbeats 800000 in
/-- the copy of an empty list, wherever it is said to lie -/
theorem l1CopyE (ad : Addr) (cap : Nat) (w : World) : Calls Tryz.prog 66 #[.slice (some ad) 0 cap] w (NumsPost [] w) := by
 obtain ⟨i0, hi, hz0, hz1, hz2⟩ := info_parts Memb.info2
 go_enter Tryz.func66, Tryz.ntmps66
 go_wp2_with (at_builtin; refine wpList_append_own _ rfl _ _ 23 rfl w.heap.size 2 i0 (.int .i64 0) 1 8 Tryz.underlying23 hi hz0 hz1 hz2 rfl (by decide) _ 0 [] rfl (Memb.own_empty w) ad 0 cap [] rfl rfl (fun j u h => by simp at h) (fun u h => by simp at h) ?c3 ?c4 ?c5 ?_)
 case c3 => unfold maxLen; omega
 case c4 => omega
 case c5 => simp
 intro v' w5 hown' hgrow _
 have HR : Hid (w5.ownsRow w.heap.size 2 1 v' ([] : List Int).length (([] : List Int).map (Value.int .i64)) ∧ Below w.heap.size w w5) :=
   ⟨by simpa using hown', ((Below.refl w.heap.size w).alloc (Nat.le_refl _) _).grown hgrow (by simp) (fun i hi => by simp [Value.ownBlock] at hi; omega)⟩
 clear hown' hgrow hi hz0 hz1 hz2
 obtain ⟨ao, ca, hv, ho⟩ := Memb.own_shape HR.out.1
 subst hv
 go_wp2
 go_ret
 exact ⟨ao, ca, rfl, ho, HR.out.2⟩
theorem l1CopyA (ao : Option Addr) (cap : Nat) (l : List Int) (w : World) (hl : l.length ≤ 1048576) (hrd : Lst.Rd w ao l) (hat : ∀ c, ao = some ⟨c, 0, none⟩ → c < w.heap.size) (hn : ao = none → cap = 0) : Calls Tryz.prog 66 #[.slice ao l.length cap] w (NumsPost l w) := by
 rcases hrd with e | ⟨g, e, hc⟩
 · subst e
   cases ao with
   | none => rw [hn rfl]; exact l1CopyN w
   | some ad => exact l1CopyE ad cap w
 · subst e
   exact Rm.l1Copy g cap l w hl (hat g rfl) (.inr ⟨g, rfl, hc⟩)
end Lg
end Go.Proofs.YtjnhniffgeepjaaGreat
