/-
 What the model's Earlier, ChainOf and OnChain answer: from leader to leader; for coins of at most a million numbers and lists of knots whose words have at most 2^40 bytes.
-/
import Derived.Test.YtjnhniffgeepjaaGreatezg3
set_option linter.unusedVariables false
namespace Go.Proofs.YtjnhniffgeepjaaGreat
open Go.RowKit
set_option maxRecDepth 100000
namespace Sl
open Kn (K okK)
open Bit (bit withB)
open Lc (at' RdK WordsOk laceB setB Four ofH handsN)
open Sg (isB bel belows)
open Db (RowI)
open Nd (nodS)
def tabS (L : List K) (N b a i : Nat) : Int := if i < b then sealS L i N else if i = b then sealS L i a else 0
theorem sealS_low {L : List K} (hl : laceB L = true) (b n : Nat) (hn : n ≤ L.length) (h : n ≤ b) : sealS L b n = 0 := by
 induction n with
 | zero => rfl
 | succ n ih =>
   have hf : sealN L n b = false := by
     rw [Bool.eq_false_iff]
     intro hs
     have := seal_le hl (by omega) hs
     omega
   unfold sealS
   rw [hf, if_neg (by simp)]
   exact ih (by omega) (by omega)
theorem tabS_zero (L : List K) (N : Nat) : tabS L N 0 0 = fun _ => 0 := by
 funext i
 unfold tabS
 rw [if_neg (by omega)]
 split
 · rfl
 · rfl
theorem tabS_next {L : List K} (hl : laceB L = true) (b : Nat) (hb : b < L.length) (i : Nat) : tabS L L.length b L.length i = tabS L L.length (b + 1) (b + 1) i := by
 unfold tabS
 by_cases h1 : i < b
 · rw [if_pos h1, if_pos (by omega)]
 · by_cases h2 : i = b
   · rw [if_neg h1, if_pos h2, if_pos (by omega)]
   · rw [if_neg h1, if_neg h2, if_neg (by omega)]
     by_cases h3 : i = b + 1
     · rw [if_pos h3, sealS_low hl _ _ (by omega) (by omega)]
     · rw [if_neg h3]
theorem tabS_skip (L : List K) (N b a : Nat) (hp : sealN L a b = false) : tabS L N b (a + 1) = tabS L N b a := by
 funext i
 unfold tabS
 by_cases h2 : i = b
 · subst h2
   rw [if_neg (by omega), if_pos rfl, if_neg (by omega), if_pos rfl]
   show sealS L i (a + 1) = _
   conv => lhs; unfold sealS
   rw [hp, if_neg (by simp)]
 · rw [if_neg h2, if_neg h2]
theorem tabS_put (L : List K) (N b a : Nat) (hp : sealN L a b = true) : (fun i => if i = b then withB (sealS L b a) a else tabS L N b a i) = tabS L N b (a + 1) := by
 funext i
 unfold tabS
 by_cases h2 : i = b
 · subst h2
   rw [if_pos rfl, if_neg (by omega), if_pos rfl]
   show _ = sealS L i (a + 1)
   conv => rhs; unfold sealS
   rw [hp, if_pos rfl]
 · rw [if_neg h2, if_neg h2, if_neg h2]
theorem tabS_at (L : List K) (N b a : Nat) : tabS L N b a b = sealS L b a := by
 unfold tabS; rw [if_neg (by omega), if_pos rfl]
theorem rowI_eq {w : World} {g n : Nat} {D E : Nat → Int} (h : RowI w g n D) (e : ∀ i, i < n → D i = E i) : RowI w g n E := ⟨h.lt, fun i hi => by rw [← e i hi]; exact h.rd i hi, h.fr⟩
theorem four_below {w w' : World} {g : Nat} {x0 x1 x2 x3 : Int} (h : Four w g x0 x1 x2 x3) (hb : Below w.heap.size w w') : Four w' g x0 x1 x2 x3 where
 lt := Nat.lt_of_lt_of_le h.lt hb.size
 c0 := (hb.cell (p := ⟨g, 0, none⟩) h.lt).trans h.c0
 c1 := (hb.cell (p := ⟨g, 1, none⟩) h.lt).trans h.c1
 c2 := (hb.cell (p := ⟨g, 2, none⟩) h.lt).trans h.c2
 c3 := (hb.cell (p := ⟨g, 3, none⟩) h.lt).trans h.c3
 f := fun j hj => (hb.frozen (p := ⟨g, j, none⟩) h.lt).trans (h.f j hj)
def SealPost (L : List K) (w : World) (e : Ending) (w' : World) : Prop := ∃ h O, e = .returned (.slice (some ⟨h, 0, none⟩) L.length L.length) ∧ w.heap.size ≤ h ∧ RowI w' h L.length O ∧ (∀ i, i < L.length → O i = sealS L i L.length) ∧ Below w.heap.size w w'
set_option maxHeartbeats 6400000 in
theorem l7AllO (ao : Option Addr) (cap : Nat) (L : List K) (bo : Option Addr) (bc : Nat) (w : World) (hl : laceB L = true) (hr : RdK w ao L) (hrd : Lst.Rd w bo (belows L L.length)) (hbo : ∀ c, bo = some ⟨c, 0, none⟩ → c < w.heap.size) :
   Calls Tryz.prog 51 #[.slice ao L.length cap, .slice bo L.length bc] w (SealPost L w) := by
 have hL := ((Lc.lace_iff L).1 hl).1
 have hbl := Sg.belows_len L L.length
 have H6 : Hid (Calls Tryz.prog 73 #[.slice ao L.length cap, .slice bo L.length bc] w fun e2 w2 => ∃ h O, e2 = .returned (.slice (some ⟨h, 0, none⟩) L.length L.length) ∧ RowI w2 h L.length O ∧ (∀ i, i < L.length → O i = nodS L i L.length) ∧ Below w.heap.size w w2) := by
   have h6 := Nd.l6All ao cap L bo bc (belows L L.length) w hL hbl (Sg.belows_in L L.length hL) hr hrd hbo
   rw [hbl] at h6
   refine h6.mono ?_
   rintro e w2 ⟨h, D, O, rfl, _, hrow, hD, hO, hb2⟩
   exact ⟨h, O, rfl, hrow, fun i hi => by rw [hO i hi, Nd.nodR_eq hl hD hi _ (Nat.le_refl _)], hb2⟩
 have hmk : ∀ W : World, (Instr.makeSlice 23 (.int .i64 (L.length : Int)) (.int .i64 (L.length : Int))).run Tryz.prog W = .ok (.slice (some ⟨W.heap.size, 0, none⟩) L.length L.length) (W.alloc (.cells (madeCells #[.int .i64 0] L.length) 2)) :=
   fun W => run_make_row' (P := Tryz.prog) 23 2 (.int .i64 0) 8 Tryz.underlying23 Memb.info2 rfl .i64 .i64 L.length (by omega) (by omega) W
 have HL : Hid (laceB L = true) := hl
 have HBEL : Hid (∀ a, a < L.length → ∀ bb, bo = some ⟨bb, 0, none⟩ → bb < w.heap.size ∧ w.cell? ⟨bb, a, none⟩ = some (.int .i64 (bel L a))) := fun a ha bb hb => by
   rcases hrd with hrd | ⟨b2, e2, hcell⟩
   · rw [hrd] at hbl; simp at hbl; omega
   · rw [hb] at e2; injection e2 with e2; injection e2 with e2; subst e2
     refine ⟨hbo bb hb, ?_⟩
     have := hcell a (by rw [hbl]; exact ha)
     rwa [Sg.belows_get L L.length a ha] at this
 have HBN : Hid (∀ a, a < L.length → ∃ bb, bo = some ⟨bb, 0, none⟩) := fun a ha => by
   rcases hrd with hrd | ⟨b2, e2, hcell⟩
   · rw [hrd] at hbl; simp at hbl; omega
   · exact ⟨b2, e2⟩
 have HHO : Hid (Lc.HandsOk L) := Lc.lace_hands hl
 clear hl hrd hbo hbl
 go_enter Tryz.func51, Tryz.ntmps51
 go_wp2_with fail
 refine H6.out.mono ?_
 rintro e w1 ⟨h6, O6, rfl, hrow6, hO6, hb1⟩
 clear H6
 have HROW : Hid (∀ i, i < L.length → w1.cell? ⟨h6, i, none⟩ = some (.int .i64 (nodS L i L.length))) := fun i hi => by rw [← hO6 i hi]; exact hrow6.rd i hi
 have hlt6 : h6 < w1.heap.size := hrow6.lt
 have hr1 := hr.below hb1
 clear hrow6 hO6
 go_wp2_with fail
 refine (Lc.l3Of _ cap L _ hL hr1 HHO.out).mono ?_
 rintro e w2 ⟨oc, rfl, hfour, hb2⟩
 have HF2 : Hid (Four w2 w1.heap.size (ofH L 0 L.length) (ofH L 1 L.length) (ofH L 2 L.length) (ofH L 3 L.length)) := hfour
 have HB2 : Hid (Below w.heap.size w w2) := hb1.trans (hb2.mono hb1.size)
 have HROW2 : Hid (∀ i, i < L.length → w2.cell? ⟨h6, i, none⟩ = some (.int .i64 (nodS L i L.length))) := fun i hi => (hb2.cell (p := ⟨h6, i, none⟩) hlt6).trans (HROW.out i hi)
 have hlt62 : h6 < w2.heap.size := Nat.lt_of_lt_of_le hlt6 hb2.size
 have HW2 : Hid (w.heap.size ≤ w2.heap.size) := HB2.out.size
 generalize w1.heap.size = of at HF2 ⊢
 clear hb1 hb2 hr1 hr HROW hlt6 hfour
 have HP : Hid (RowI (w2.alloc (.cells (madeCells #[.int .i64 0] L.length) 2)) w2.heap.size L.length (fun _ => 0) ∧ Below w2.heap.size w2 (w2.alloc (.cells (madeCells #[.int .i64 0] L.length) 2))) := ⟨Db.rowI_made _ _ _, (Below.refl _ _).alloc (Nat.le_refl _) _⟩
 generalize madeCells #[Value.int .i64 0] L.length = mc at hmk HP
 go_wp2
 clear hmk
 go_loopw [8] (fun i wr => ∃ b : Nat, b ≤ L.length ∧ i = .int .i64 b ∧ Hid (RowI wr w2.heap.size L.length (tabS L L.length b b)) ∧ Hid (Below w2.heap.size w2 wr)) (fun i _ => L.length - (intOf i).toNat)
 case atStart => exact ⟨0, by omega, rfl, by show RowI _ _ _ _; rw [tabS_zero]; exact HP.out.1, HP.out.2⟩
 case round =>
   obtain ⟨b, hb, rfl, HR, HB⟩ := hrel
   clear HP
   by_cases hlt : b < L.length
   · have hbi : (b : Int) < (L.length : Int) := by omega
     go_wp2
     go_loopw [9] (fun i wr => ∃ a : Nat, b ≤ a ∧ a ≤ L.length ∧ i = .int .i64 a ∧ Hid (RowI wr w2.heap.size L.length (tabS L L.length b a)) ∧ Hid (Below w2.heap.size w2 wr)) (fun i _ => L.length - (intOf i).toNat)
     case atStart => exact ⟨b, by omega, by omega, rfl, HR, HB⟩
     case round =>
       obtain ⟨a, hba, ha, rfl, HR, HB⟩ := hrel
       by_cases hal : a < L.length
       · have hali : (a : Int) < (L.length : Int) := by omega
         obtain ⟨bb, rfl⟩ := HBN.out a hal
         obtain ⟨hbb, cy0⟩ := HBEL.out a hal bb rfl
         have cy := (HB.out.cell (p := ⟨bb, a, none⟩) (Nat.lt_of_lt_of_le hbb HW2.out)).trans ((HB2.out.cell (p := ⟨bb, a, none⟩) hbb).trans cy0)
         have cd := (HB.out.cell (p := ⟨h6, b, none⟩) hlt62).trans (HROW2.out b hlt)
         have HSN : Hid (sealN L a b = decide (3 ≤ handsN L (bits .and .i64 (bel L a) (nodS L b L.length)))) := rfl
         have hand := nodAt_bd (L := L) hL (a := a) (by omega) b
         unfold nodAt at hand
         have HZ : Hid (bits .and .i64 (bel L a) (nodS L b L.length) = 0 → sealN L a b = false) := fun hz => by
           rw [HSN.out, hz, hands_zero (fun i _ => Lc.bit_zero i)]; rfl
         clear cy0 hbb
         generalize bel L a = y at cy HSN hand HZ
         generalize nodS L b L.length = z at cd HSN hand HZ
         generalize hyz : bits .and .i64 y z = s at HSN hand HZ
         by_cases hs : s = 0
         · have hp := HZ.out hs
           have HT2 : Hid (tabS L L.length b (a + 1) = tabS L L.length b a) := tabS_skip L L.length b a hp
           subst hs
           have HYZ : Hid (bits .and .i64 y z = 0) := hyz
           clear hp HSN HZ hand hyz
           go_wp2_with fail
           go_quiet (fail)
           rw [HYZ.out]
           go_wp2
           go_roundw
           case rel => exact ⟨a + 1, by omega, by omega, by go_num, by show RowI _ _ _ _; rw [HT2.out]; exact HR.out.drewN nq, Db.below_drewN HB.out nq⟩
           case measure => simp [intOf]; omega
         · have hs1 : (s != 0) = true := by simpa using hs
           have HYZ : Hid (bits .and .i64 y z = s) := hyz
           have HCNT : Hid (∀ W : World, Below w2.heap.size w2 W → Calls Tryz.prog 75 #[.slice (some ⟨of, 0, none⟩) 4 oc, .int .i64 s] W fun e w' => e = .returned (.int .i64 (handsN L s)) ∧ W = w') := fun W hW => Lc.l3Count of oc L s W hL hand.1 (by omega) (four_below HF2.out hW)
           have hhb := Lc.handsN_bd L s
           clear hyz HZ hs
           generalize handsN L s = hn at HSN HCNT hhb
           go_wp2_with fail
           go_quiet (fail)
           rw [HYZ.out]
           clear cy cd HYZ
           have R1 := HR.out.drewN nq
           have HB1 : Hid (Below w2.heap.size w2 (wr.drewN nq)) := Db.below_drewN HB.out nq
           clear HR HB
           generalize wr.drewN nq = V at R1 HB1 ⊢
           have HR1 : Hid (RowI V w2.heap.size L.length (tabS L L.length b a)) := R1
           clear R1
           go_wp2_with fail
           refine (HCNT.out _ HB1.out).mono ?_
           rintro e V' ⟨rfl, rfl⟩
           clear HCNT
           by_cases h3 : 3 ≤ hn
           · have hp : sealN L a b = true := by rw [HSN.out]; exact decide_eq_true h3
             have HT2 : Hid ((fun i => if i = b then withB (sealS L b a) a else tabS L L.length b a i) = tabS L L.length b (a + 1)) := tabS_put L L.length b a hp
             have e1 := HR1.out.rd b hlt
             rw [tabS_at] at e1
             have f1 := HR1.out.fr b hlt
             have hda := sealS_bd L b a (by omega)
             have HO1 : Hid (bits .or .i64 (sealS L b a) (2 ^ a) = withB (sealS L b a) a) := Base.shl_or _ a hda.1 hda.2 (by omega)
             have HR2 : Hid (RowI (V.setCell ⟨w2.heap.size, b, none⟩ (.int .i64 (withB (sealS L b a) a))) w2.heap.size L.length (tabS L L.length b (a + 1))) := by
               show RowI _ _ _ _
               rw [← HT2.out]; exact HR1.out.put b hlt _
             have HB3 : Hid (Below w2.heap.size w2 (V.setCell ⟨w2.heap.size, b, none⟩ (.int .i64 (withB (sealS L b a) a)))) := HB1.out.setCell (p := ⟨w2.heap.size, b, none⟩) (Nat.le_refl _) _
             clear HR1 HB1 HT2 HSN hp
             generalize sealS L b a = x at e1 hda HO1 HR2 HB3
             go_wp2_with fail
             go_region_with (go_at_call 68; refine (Base.l1Bit _ _ (by omega) (by omega)).mono ?_; rintro e w' ⟨rfl, rfl⟩; rw [Int.toNat_natCast])
             all_goals
               rw [HO1.out]
               go_wp2
               go_roundw
               case rel => exact ⟨a + 1, by omega, by omega, by go_num, HR2.out.drew, HB3.out.drew⟩
               case measure => simp [intOf]; omega
           · have hp : sealN L a b = false := by rw [HSN.out]; exact decide_eq_false h3
             have HT2 : Hid (tabS L L.length b (a + 1) = tabS L L.length b a) := tabS_skip L L.length b a hp
             clear hp HSN
             go_wp2
             go_roundw
             case rel => exact ⟨a + 1, by omega, by omega, by go_num, by show RowI _ _ _ _; rw [HT2.out]; exact HR1.out, HB1⟩
             case measure => simp [intOf]; omega
       · obtain rfl : a = L.length := by omega
         go_wp2
         go_roundw
         case rel => exact ⟨b + 1, by omega, by go_num, rowI_eq HR.out fun i _ => tabS_next HL.out b hlt i, HB⟩
         case measure => simp [intOf]; omega
   · obtain rfl : b = L.length := by omega
     go_wp2
     go_ret
     exact ⟨_, _, rfl, HW2.out, HR.out, fun i hi => by unfold tabS; rw [if_pos hi], HB2.out.trans (HB.out.mono HB2.out.size)⟩
theorem l7All (g off cap : Nat) (L : List K) (bo : Option Addr) (bc : Nat) (w : World) (hl : laceB L = true) (hr : RdK w (some ⟨g, off, none⟩) L) (hrd : Lst.Rd w bo (belows L L.length)) (hbo : ∀ c, bo = some ⟨c, 0, none⟩ → c < w.heap.size) :
   Calls Tryz.prog 51 #[.slice (some ⟨g, off, none⟩) L.length cap, .slice bo L.length bc] w (SealPost L w) := l7AllO (some ⟨g, off, none⟩) cap L bo bc w hl hr hrd hbo
end Sl
namespace Fm
open Kn (K okK)
open Bit (bit withB)
open Lc (at' RdK WordsOk laceB setB handsN roundS)
open Sg (isB bel belows closedB NumsPost)
open Db (RowI)
open Sl (sealS sealN)
open Ch (leadK firmN sealAt)
open Rm (coinsB)
open Tl (firmL)
theorem row_below {base : Nat} {e : TypeId} {size : Nat} {w w' : World} {v : Value} {n : Nat} {xs : List Value} (h : w.ownsRow base e size v n xs) (hb : Below w.heap.size w w') : w'.ownsRow base e size v n xs := by
 have hlt := World.ownsRow.lt h
 obtain ⟨h1, h2⟩ := h
 refine ⟨h1, ?_⟩
 rcases h2 with h2 | ⟨g, cap, cur, rfl, hB, hg, rest⟩
 · exact .inl h2
 · exact .inr ⟨g, cap, cur, rfl, hB, (hb.block g (hlt g rfl).2).trans hg, rest⟩
theorem firmL_len (L : List K) (C : List Int) (s : Int) (n : Nat) : (firmL L C s n).length ≤ n := by
 induction n with
 | zero => exact Nat.le_refl 0
 | succ n ih =>
   show (if firmN L C s n then firmL L C s n ++ [(n : Int)] else firmL L C s n).length ≤ n + 1
   split
   · simp; omega
   · omega
theorem firmL_step (L : List K) (C : List Int) (s : Int) (n : Nat) : firmL L C s (n + 1) = if firmN L C s n then firmL L C s n ++ [(n : Int)] else firmL L C s n := rfl
set_option maxHeartbeats 6400000 in
theorem l9Firm (g off cap : Nat) (L : List K) (ao : Option Addr) (cc : Nat) (C : List Int) (h : Nat) (O : Nat → Int) (s : Int) (w : World) (hl : laceB L = true) (hr : RdK w (some ⟨g, off, none⟩) L) (hg : g < w.heap.size) (hrd : Lst.Rd w ao C) (hao : ∀ c, ao = some ⟨c, 0, none⟩ → c < w.heap.size) (hrow : RowI w h L.length O) (hO : ∀ i, i < L.length → O i = sealS L i L.length) (h0 : 0 ≤ s) (h1 : s < 1152921504606846976) :
   Calls Tryz.prog 50 #[.slice (some ⟨g, off, none⟩) L.length cap, .slice ao C.length cc, .slice (some ⟨h, 0, none⟩) L.length L.length, .int .i64 s] w (NumsPost (firmL L C s L.length) w) := by
 obtain ⟨i0, hi, hz0, hz1, hz2⟩ := info_parts Memb.info2
 have hL := ((Lc.lace_iff L).1 hl).1
 have HLC : Hid (laceB L = true) := hl
 have HRD : Hid (∀ W : World, Below w.heap.size w W → Lst.Rd W ao C ∧ ∀ c, ao = some ⟨c, 0, none⟩ → c < W.heap.size) := fun W hW => ⟨Ch.rd_below hrd hao hW, fun c e => Nat.lt_of_lt_of_le (hao c e) hW.size⟩
 have HROW : Hid (∀ i, i < L.length → h < w.heap.size ∧ w.cell? ⟨h, i, none⟩ = some (.int .i64 (sealS L i L.length))) := fun i hi => ⟨hrow.lt, by rw [← hO i hi]; exact hrow.rd i hi⟩
 have HH : Hid (Lc.HandsOk L) := Lc.lace_hands hl
 have HR : Hid (RdK w (some ⟨g, off, none⟩) L) := hr
 clear hl hrd hao hrow hO hr
 go_enter Tryz.func50, Tryz.ntmps50
 go_wp2
 go_loopw [9, 10] (fun v i wr => ∃ k : Nat, k ≤ L.length ∧ i = .int .i64 k ∧ Hid (wr.ownsRow w.heap.size 2 1 v (firmL L C s k).length ((firmL L C s k).map (Value.int .i64))) ∧ Hid (Below w.heap.size w wr)) (fun _ i _ => L.length - (intOf i).toNat)
 case atStart => exact ⟨0, by omega, rfl, Memb.own_empty w, (Below.refl _ _).alloc (Nat.le_refl _) _⟩
 case round =>
   obtain ⟨k, hk, rfl, HOW, HB⟩ := hrel
   by_cases hlt : k < L.length
   · have hki : (k : Int) < (L.length : Int) := by omega
     have hcall : ∀ W : World, Calls Tryz.prog 69 #[.int .i64 s, .int .i64 (k : Int)] W fun e w' => e = .returned (.bool (bit s k)) ∧ W = w' := fun W => (Db.has_call s k (bit s k) h0 h1 (by omega) rfl W).mono fun _ _ q => ⟨q.1, q.2.symm⟩
     have HST : Hid (firmL L C s (k + 1) = if firmN L C s k then firmL L C s k ++ [(k : Int)] else firmL L C s k) := firmL_step L C s k
     have HFN : Hid (firmN L C s k = (bit s k && (leadK C (at' L k) && decide (3 ≤ handsN L (roundS L (sealAt L s k) ((at' L k).round + 2)))))) := rfl
     have hfl := firmL_len L C s k
     cases hb : bit s k
     · have HD : Hid (firmL L C s (k + 1) = firmL L C s k) := by show _ = _; rw [HST.out, HFN.out, hb]; rfl
       rw [hb] at hcall
       clear hb HST HFN
       go_wp2_with (go_at_call 69; refine (hcall _).mono ?_; rintro e w' ⟨rfl, rfl⟩)
       go_roundw
       case rel => exact ⟨k + 1, by omega, by go_num, by show World.ownsRow _ _ _ _ _ _ _; rw [HD.out]; exact HOW.out, HB⟩
       case measure => simp [intOf]; omega
     · rw [hb] at hcall
       obtain ⟨_, c0, c1, c2, c3⟩ := (HR.out.below HB.out).on k hlt
       have hrb := Lc.ok_round (Lc.can_ok (Lc.lace_upTo HLC.out k hlt))
       have hld := Ch.l8Leads ao cc C (at' L k) wr hrb.1 (by omega) (HRD.out wr HB.out).1 (HRD.out wr HB.out).2
       cases hlk : leadK C (at' L k)
       · have HD : Hid (firmL L C s (k + 1) = firmL L C s k) := by show _ = _; rw [HST.out, HFN.out, hlk]; simp
         rw [hlk] at hld
         clear hb HST HFN hlk
         generalize at' L k = kk at c0 c1 c2 c3 hld
         go_wp2_with (first | (go_at_call 69; refine (hcall _).mono ?_; rintro e w' ⟨rfl, rfl⟩) | fail)
         refine hld.mono ?_
         rintro e w1 ⟨rfl, hb1⟩
         have HO1 : Hid (w1.ownsRow w.heap.size 2 1 u9 (firmL L C s k).length ((firmL L C s k).map (Value.int .i64))) := row_below HOW.out hb1
         have HB1 : Hid (Below w.heap.size w w1) := HB.out.trans (hb1.mono HB.out.size)
         clear hld hb1 c0 c1 c2 c3 HOW HB
         go_wp2
         go_roundw
         case rel => exact ⟨k + 1, by omega, by go_num, by show World.ownsRow _ _ _ _ _ _ _; rw [HD.out]; exact HO1.out, HB1⟩
         case measure => simp [intOf]; omega
       · rw [hlk] at hld
         have HF2 : Hid (firmN L C s k = decide (3 ≤ handsN L (roundS L (sealAt L s k) ((at' L k).round + 2)))) := by show _ = _; rw [HFN.out, hb, hlk]; rfl
         have hsb := Sl.sealS_bd L k L.length hL
         have hab := Sl.and_bd s (sealS L k L.length) h0 h1 hsb.1 hsb.2
         have HSA : Hid (sealAt L s k = bits .and .i64 s (sealS L k L.length)) := rfl
         have hrbd := Lc.round_bd L (bits .and .i64 s (sealS L k L.length)) ((at' L k).round + 2) hL
         rw [HSA.out] at HF2
         clear hb HFN hlk HSA
         generalize hkk : at' L k = kk at c0 c1 c2 c3 hld HF2 hrb hrbd
         have c1' := c1
         go_wp2_with (first | (go_at_call 69; refine (hcall _).mono ?_; rintro e w' ⟨rfl, rfl⟩) | fail)
         refine hld.mono ?_
         rintro e w1 ⟨rfl, hb1⟩
         have HO1 : Hid (w1.ownsRow w.heap.size 2 1 u9 (firmL L C s k).length ((firmL L C s k).map (Value.int .i64))) := row_below HOW.out hb1
         have HB1 : Hid (Below w.heap.size w w1) := HB.out.trans (hb1.mono HB.out.size)
         have hgr : g < wr.heap.size := Nat.lt_of_lt_of_le hg HB.out.size
         have cr := (hb1.cell (p := ⟨g, off + k * 4 + 1, none⟩) hgr).trans c1
         have hgr1 : g < w1.heap.size := Nat.lt_of_lt_of_le hgr hb1.size
         have hhw := (HROW.out k hlt).1
         have cs := (HB1.out.cell (p := ⟨h, k, none⟩) hhw).trans (HROW.out k hlt).2
         have hh1 : h < w1.heap.size := Nat.lt_of_lt_of_le hhw HB1.out.size
         clear hld hb1 c0 c1 c2 c3 HOW HB hcall c1'
         go_wp2_with fail
         have HRN : Hid (∀ W : World, Below w1.heap.size w1 W → Calls Tryz.prog 72 #[.slice (some ⟨g, off, none⟩) L.length cap, .int .i64 (bits .and .i64 s (sealS L k L.length)), .int .i64 (kk.round + 2)] W fun e w' => e = .returned (.int .i64 (roundS L (bits .and .i64 s (sealS L k L.length)) (kk.round + 2))) ∧ W = w') := fun W hW => Lc.l3Round g off cap L _ _ W hL (HR.out.below (HB1.out.trans (hW.mono HB1.out.size))) hab.1 hab.2
         have HHN : Hid (∀ W : World, Below w1.heap.size w1 W → Calls Tryz.prog 71 #[.slice (some ⟨g, off, none⟩) L.length cap, .int .i64 (roundS L (bits .and .i64 s (sealS L k L.length)) (kk.round + 2))] W fun e w' => e = .returned (.int .i64 (handsN L (roundS L (bits .and .i64 s (sealS L k L.length)) (kk.round + 2)))) ∧ Below W.heap.size W w') := fun W hW => Lc.l3Hands _ cap L _ W hL (HR.out.below (HB1.out.trans (hW.mono HB1.out.size))) HH.out hrbd.1 (by omega)
         generalize roundS L (bits .and .i64 s (sealS L k L.length)) (kk.round + 2) = rs at HF2 HRN HHN hrbd
         generalize handsN L rs = hn at HF2 HHN
         generalize sealS L k L.length = z at cs hab HRN
         have hw2 : IntKind.i64.wrap (kk.round + 2) = kk.round + 2 := by rw [IntKind.wrap_i64]; omega
         generalize hrr : kk.round = rr at cr HRN hrb hw2
         obtain ⟨X, _, F, HF, HG⟩ := Fam.fam w1
         have hc1 : ∀ z, (F z).cell? ⟨g, off + k * 4 + 1, none⟩ = some (.int .i64 rr) := fun y => ((HF.out y).cell (p := ⟨g, off + k * 4 + 1, none⟩) hgr1).trans cr
         have hc2 : ∀ y, (F y).cell? ⟨h, k, none⟩ = some (.int .i64 z) := fun y => ((HF.out y).cell (p := ⟨h, k, none⟩) hh1).trans cs
         clear cr cs hrr hkk
         refine Fam.region (F := F) (by kernel_rfl) (by kernel_rfl) (HG.out _ (Below.refl _ w1).drew) ?_
         repeat (go_big_quiet_step (first
           | (go_at_call 72; exact (HRN.out _ (HF.out _)).mono fun _ _ h => ⟨h.1, _, h.2.symm⟩)
           | (go_at_call 71; exact (HHN.out _ (HF.out _)).mono fun _ _ h => ⟨h.1, HG.out _ ((HF.out _).trans (h.2.mono (HF.out _).size))⟩)))
         refine wpQuiet_nil ?_
         intro w2 hw2'
         obtain ⟨y, rfl⟩ := hw2'
         have HB2 : Hid (Below w.heap.size w (F y)) := HB1.out.trans ((HF.out y).mono HB1.out.size)
         have HO2 : Hid ((F y).ownsRow w.heap.size 2 1 u9 (firmL L C s k).length ((firmL L C s k).map (Value.int .i64))) := row_below HO1.out (HF.out y)
         clear HO1 HB1 hc1 hc2 HRN HHN
         generalize F y = V at HB2 HO2 ⊢
         by_cases h3 : 3 ≤ hn
         · have HD : Hid (firmL L C s (k + 1) = firmL L C s k ++ [(k : Int)]) := by show _ = _; rw [HST.out, HF2.out, decide_eq_true h3]; rfl
           have HOA : Hid (∀ o : Obj, (V.alloc o).ownsRow w.heap.size 2 1 u9 (firmL L C s k).length ((firmL L C s k).map (Value.int .i64))) := fun o => HO2.out.alloc o
           clear HF2 HST
           go_wp2_with (at_builtin; refine wpList_append_own _ rfl _ _ 23 rfl w.heap.size 2 i0 (.int .i64 0) 1 8 Tryz.underlying23 hi hz0 hz1 hz2 rfl (by decide) _ _ _ rfl (HOA.out _) ⟨V.heap.size, 0, none⟩ 1 1 [.int .i64 (k : Int)] rfl rfl (Sg.one_new V (k : Int) _) (Sg.one_one (k : Int)) ?c3 ?c4 ?c5 ?_)
           case c3 => unfold maxLen; omega
           case c4 => omega
           case c5 => have := HB2.out.size; simp; omega
           intro v' w3 hown' hgrow _
           have R := Memb.rel_put HD.out HB2.out.size HO2.out HB2.out hown' hgrow
           have HO3 : Hid _ := R.1
           have HB3 : Hid _ := R.2.1
           clear hown' hgrow R HO2 HB2 HOA
           go_wp2
           go_roundw
           case rel => exact ⟨k + 1, by omega, by go_num, HO3, HB3⟩
           case measure => simp [intOf]; omega
         · have HD : Hid (firmL L C s (k + 1) = firmL L C s k) := by show _ = _; rw [HST.out, HF2.out, decide_eq_false h3]; rfl
           clear HF2 HST
           go_wp2
           go_roundw
           case rel => exact ⟨k + 1, by omega, by go_num, by show World.ownsRow _ _ _ _ _ _ _; rw [HD.out]; exact HO2.out, HB2⟩
           case measure => simp [intOf]; omega
   · obtain rfl : k = L.length := by omega
     obtain ⟨bo, bc, hv, hown⟩ := Memb.own_shape HOW.out
     have HV : Hid (u9 = .slice bo (firmL L C s L.length).length bc) := hv
     clear hv
     go_wp2
     go_ret
     exact ⟨bo, bc, by rw [← HV.out]; rfl, hown, HB.out⟩
def rightB (L : List K) (C : List Int) (s : Int) : Bool := closedB L s && coinsB C
set_option maxHeartbeats 800000 in
theorem l9Right (g off cap : Nat) (L : List K) (ao : Option Addr) (cc : Nat) (C : List Int) (s : Int) (w : World) (hcap : L.length ≤ cap) (hw : WordsOk L) (hr : RdK w (some ⟨g, off, none⟩) L) (hC : C.length ≤ 1048576) (hrd : Lst.Rd w ao C) (hao : ∀ c, ao = some ⟨c, 0, none⟩ → c < w.heap.size) :
   Calls Tryz.prog 26 #[.slice (some ⟨g, off, none⟩) L.length cap, .slice ao C.length cc, .int .i64 s] w fun e w' => e = .returned (.bool (rightB L C s)) ∧ Below w.heap.size w w' := by
 go_enter Tryz.func26, Tryz.ntmps26
 go_wp2_with fail
 refine (Sg.specClosed g off cap L s _ hcap hw hr).mono ?_
 rintro e w1 ⟨rfl, hb1⟩
 have hcall := Rm.specCoinsOk ao cc C w1 hC (Ch.rd_below hrd hao hb1)
 have HT : Hid (rightB L C s = (closedB L s && coinsB C)) := rfl
 clear hrd hao hr
 generalize closedB L s = b1 at HT ⊢
 generalize coinsB C = b2 at HT hcall
 cases b1
 · clear hcall
   go_wp2
   go_ret
   exact ⟨by rw [HT.out]; rfl, hb1⟩
 · go_wp2_with (go_at_call 37; refine hcall.mono ?_; rintro e w' ⟨rfl, rfl⟩)
   go_ret
   exact ⟨by rw [HT.out]; rfl, hb1⟩
theorem closed_set {L : List K} {s : Int} (h : closedB L s = true) : laceB L = true ∧ 0 ≤ s ∧ s < 1152921504606846976 := by
 unfold Sg.closedB at h
 rw [Bool.and_eq_true] at h
 obtain ⟨hl, q0, q1, _⟩ := Lc.setB_parts h.1
 exact ⟨hl, q0, q1⟩
theorem has_step (l : List Int) (k : Int) (j : Nat) (hj : j < l.length) : (l.take (j + 1)).contains k = ((l.take j).contains k || (l.getD j 0 == k)) := by
 rw [Lc.take_snocI l j hj]
 generalize l.getD j 0 = y
 generalize l.take j = t
 rw [Bool.eq_iff_iff]
 simp only [List.contains_iff_mem, List.mem_append, List.mem_singleton, Bool.or_eq_true, beq_iff_eq]
 exact or_congr Iff.rfl eq_comm
theorem last_mem (L : List K) (l : List Int) : Tl.lastT L l = -1 ∨ Tl.lastT L l ∈ l := by
 suffices H : ∀ n, n ≤ l.length → Tl.lastT L (l.take n) = -1 ∨ Tl.lastT L (l.take n) ∈ l.take n by
   have := H l.length (Nat.le_refl _)
   rwa [List.take_length] at this
 intro n
 induction n with
 | zero => intro _; exact .inl rfl
 | succ n ih =>
   intro hn
   rw [Lc.take_snocI l n (by omega), Tl.lastT_snoc]
   split
   · exact .inr (by simp)
   · rcases ih (by omega) with e | e
     · rename_i hc
       exact absurd (.inl (by rw [e]; omega)) hc
     · exact .inr (by simp only [List.mem_append]; exact .inl e)
set_option maxHeartbeats 1600000 in
theorem l9Last (g off cap : Nat) (L : List K) (lo : Option Addr) (lc : Nat) (l : List Int) (w : World) (hin : ∀ x ∈ l, 0 ≤ x ∧ x < (L.length : Int)) (hll : l.length ≤ 1048576) (hr : RdK w (some ⟨g, off, none⟩) L) (hrd : Lst.Rd w lo l) :
   Calls Tryz.prog 49 #[.slice (some ⟨g, off, none⟩) L.length cap, .slice lo l.length lc] w fun e w' => e = .returned (.int .i64 (Tl.lastT L l)) ∧ ∃ n, w' = w.drewN n := by
 have HIN : Hid (∀ x ∈ l, 0 ≤ x ∧ x < (L.length : Int)) := hin
 clear hin
 go_enter Tryz.func49, Tryz.ntmps49
 go_wp2
 go_loopw [5, 6] (fun o i wr => ∃ j : Nat, j ≤ l.length ∧ i = .int .i64 j ∧ o = .int .i64 (Tl.lastT L (l.take j)) ∧ ∃ n, wr = w.drewN n) (fun _ i _ => l.length - (intOf i).toNat)
 case atStart => exact ⟨0, by omega, rfl, rfl, 0, rfl⟩
 case round =>
   obtain ⟨j, hj, rfl, rfl, n, rfl⟩ := hrel
   by_cases hlt : j < l.length
   · have hji : (j : Int) < (l.length : Int) := by omega
     have HST : Hid (Tl.lastT L (l.take (j + 1)) = if Tl.lastT L (l.take j) < 0 ∨ (at' L (Tl.lastT L (l.take j)).toNat).round < (at' L (l.getD j 0).toNat).round then l.getD j 0 else Tl.lastT L (l.take j)) := by
       show _ = _; rw [Lc.take_snocI l j hlt, Tl.lastT_snoc]
     have hmem : l.getD j 0 ∈ l := by simp [List.getD, List.getElem?_eq_getElem hlt]
     have hx := HIN.out _ hmem
     have HO : Hid (Tl.lastT L (l.take j) = -1 ∨ ∃ e : Nat, Tl.lastT L (l.take j) = (e : Int) ∧ e < L.length) := by
       rcases last_mem L (l.take j) with e | e
       · exact .inl e
       · have hb := HIN.out _ (List.mem_of_mem_take e)
         exact .inr ⟨(Tl.lastT L (l.take j)).toNat, by omega, by omega⟩
     rcases hrd with hrd | ⟨lb, rfl, hcell⟩
     · rw [hrd] at hlt; simp at hlt
     have cj := hcell j hlt
     clear hcell hmem
     generalize l.getD j 0 = xx at cj hx HST
     obtain ⟨p, rfl⟩ := Int.eq_ofNat_of_zero_le hx.1
     have hp : p < L.length := by omega
     have hpi : (p : Int) < (L.length : Int) := by omega
     rw [Int.toNat_natCast] at HST
     obtain ⟨_, _, c1, _, _⟩ := hr.on p hp
     have HRO : Hid (∀ e : Nat, e < L.length → w.cell? ⟨g, off + e * 4 + 1, none⟩ = some (.int .i64 (at' L e).round)) := fun e he => by obtain ⟨_, _, q, _, _⟩ := hr.on e he; exact q
     generalize Tl.lastT L (l.take j) = oo at HST HO ⊢
     generalize (at' L p).round = rp at c1 HST
     rcases HO.out with e | ⟨e, rfl, hex⟩
     · subst e
       have HD : Hid (Tl.lastT L (l.take (j + 1)) = (p : Int)) := by show _ = _; rw [HST.out, if_pos (.inl (by omega))]
       clear HST HO HRO
       go_wp2_with fail
       go_quiet (fail)
       go_wp2
       go_roundw
       case rel => exact ⟨j + 1, by omega, by go_num, by rw [HD.out], n + nq, rfl⟩
       case measure => simp [intOf]; omega
     · have ce := HRO.out e hex
       have hei : (e : Int) < (L.length : Int) := by omega
       have he0 : decide ((e : Int) < 0) = false := decide_eq_false (by omega)
       rw [Int.toNat_natCast] at HST
       generalize (at' L e).round = er at ce HST
       clear HO HRO
       by_cases hrr : er < rp
       · have HD : Hid (Tl.lastT L (l.take (j + 1)) = (p : Int)) := by show _ = _; rw [HST.out, if_pos (.inr hrr)]
         clear HST
         go_wp2_with fail
         go_quiet (fail)
         go_wp2
         go_roundw
         case rel => exact ⟨j + 1, by omega, by go_num, by rw [HD.out], n + nq, rfl⟩
         case measure => simp [intOf]; omega
       · have HD : Hid (Tl.lastT L (l.take (j + 1)) = (e : Int)) := by show _ = _; rw [HST.out, if_neg (by omega)]
         clear HST
         go_wp2_with fail
         go_quiet (fail)
         go_wp2
         go_roundw
         case rel => exact ⟨j + 1, by omega, by go_num, by rw [HD.out], n + nq, rfl⟩
         case measure => simp [intOf]; omega
   · obtain rfl : j = l.length := by omega
     have e : l.take l.length = l := List.take_length
     rw [e]
     go_wp2
     go_ret
     exact ⟨rfl, n, rfl⟩
end Fm
namespace Ch
open Kn (K okK)
open Bit (bit withB)
open Lc (at' RdK WordsOk laceB)
open Sg (isB bel belows NumsPost)
open Db (RowI)
open Sl (sealS sealN)
open Rm (coinsB)
structure TabsL (w : World) (L : List K) (bb h : Nat) : Prop where
 bel : ∀ i, i < L.length → w.cell? ⟨bb, i, none⟩ = some (.int .i64 (Sg.bel L i))
 sl : ∀ i, i < L.length → w.cell? ⟨h, i, none⟩ = some (.int .i64 (sealS L i L.length))
 lb : bb < w.heap.size
 lh : h < w.heap.size
theorem TabsL.below {w w' : World} {L : List K} {bb h : Nat} (t : TabsL w L bb h) (hb : Below w.heap.size w w') : TabsL w' L bb h :=
 ⟨fun i hi => (hb.cell (p := ⟨bb, i, none⟩) t.lb).trans (t.bel i hi), fun i hi => (hb.cell (p := ⟨h, i, none⟩) t.lh).trans (t.sl i hi), Nat.lt_of_lt_of_le t.lb hb.size, Nat.lt_of_lt_of_le t.lh hb.size⟩
theorem earI_step (L : List K) (C : List Int) (k n : Nat) : earI L C k (n + 1) = if earN L C k n && (decide (earI L C k n < 0) || decide ((at' L (earI L C k n).toNat).round < (at' L n).round)) then (n : Int) else earI L C k n := rfl
theorem earI_bd (L : List K) (C : List Int) (k n : Nat) : earI L C k n = -1 ∨ ∃ e : Nat, earI L C k n = (e : Int) ∧ e < n := by
 rcases ear_spec L C k n with ⟨h, _⟩ | ⟨e, h, he, _⟩
 · exact .inl h
 · exact .inr ⟨e, h, he⟩
set_option maxHeartbeats 12800000 in
theorem l10Earlier (g off cap : Nat) (L : List K) (ao : Option Addr) (cc : Nat) (C : List Int) (bb bc h hc : Nat) (k : Nat) (w : World) (hl : laceB L = true) (hg : g < w.heap.size) (hr : RdK w (some ⟨g, off, none⟩) L) (hrd : Lst.Rd w ao C) (hao : ∀ c, ao = some ⟨c, 0, none⟩ → c < w.heap.size) (ht : TabsL w L bb h) (hk : k < L.length) :
   Calls Tryz.prog 92 #[.slice (some ⟨g, off, none⟩) L.length cap, .slice ao C.length cc, .slice (some ⟨bb, 0, none⟩) L.length bc, .slice (some ⟨h, 0, none⟩) L.length hc, .int .i64 (k : Int)] w fun e w' => e = .returned (.int .i64 (earlierN L C k)) ∧ Below w.heap.size w w' := by
 have hL := ((Lc.lace_iff L).1 hl).1
 have HLC : Hid (laceB L = true) := hl
 have HRD : Hid (∀ W : World, Below w.heap.size w W → Lst.Rd W ao C ∧ ∀ c, ao = some ⟨c, 0, none⟩ → c < W.heap.size) := fun W hW => ⟨rd_below hrd hao hW, fun c e => Nat.lt_of_lt_of_le (hao c e) hW.size⟩
 have HR : Hid (RdK w (some ⟨g, off, none⟩) L) := hr
 have HT : Hid (TabsL w L bb h) := ht
 have hki : (k : Int) < (L.length : Int) := by omega
 clear hl hrd hao hr ht
 go_enter Tryz.func92, Tryz.ntmps92
 go_wp2
 go_loopw [11, 12] (fun o i wr => ∃ x : Nat, x ≤ k ∧ i = .int .i64 x ∧ o = .int .i64 (earI L C k x) ∧ Hid (Below w.heap.size w wr)) (fun _ i _ => k - (intOf i).toNat)
 case atStart => exact ⟨0, by omega, rfl, rfl, Below.refl _ _⟩
 case round =>
   obtain ⟨x, hx, rfl, rfl, HB⟩ := hrel
   by_cases hlt : x < k
   · have hxk : (x : Int) < (k : Int) := by omega
     have hxL : x < L.length := by omega
     have hxi : (x : Int) < (L.length : Int) := by omega
     have HST : Hid (earI L C k (x + 1) = if earN L C k x && (decide (earI L C k x < 0) || decide ((at' L (earI L C k x).toNat).round < (at' L x).round)) then (x : Int) else earI L C k x) := earI_step L C k x
     have HEN : Hid (earN L C k x = (bit (bel L k) x && (leadK C (at' L x) && sealN L k x))) := rfl
     have hbd := earI_bd L C k x
     have hgw : g < wr.heap.size := Nat.lt_of_lt_of_le hg HB.out.size
     obtain ⟨_, c0, c1, c2, c3⟩ := (HR.out.below HB.out).on x hxL
     have hrb := Lc.ok_round (Lc.can_ok (Lc.lace_upTo HLC.out x hxL))
     have HT1 := HT.out.below HB.out
     have t1 := HT1.bel k hk
     have t2 := HT1.sl x hxL
     have tl1 := HT1.lb
     have tl2 := HT1.lh
     have hbb := Sg.bel_bd L k (by omega)
     have hsb := Sl.sealS_bd L x L.length hL
     have HHA : Hid (∀ (W : World) (f : Int) (i : Nat) (v : Bool), ((f = bel L k ∧ i = x ∧ v = bit (bel L k) x) ∨ (f = sealS L x L.length ∧ i = k ∧ v = sealN L k x)) → Calls Tryz.prog 69 #[.int .i64 f, .int .i64 (i : Int)] W fun e w' => e = .returned (.bool v) ∧ W = w') := fun W f i v hq => by
       rcases hq with ⟨rfl, rfl, rfl⟩ | ⟨rfl, rfl, rfl⟩
       · exact (Db.has_call _ i _ hbb.1 hbb.2 (by omega) rfl W).mono fun _ _ q => ⟨q.1, q.2.symm⟩
       · exact (Db.has_call _ i _ hsb.1 hsb.2 (by omega) (by rw [Sl.bit_sealS L x _ hL, decide_eq_true hk]; rfl) W).mono fun _ _ q => ⟨q.1, q.2.symm⟩
     have HLD : Hid (∀ W : World, Below wr.heap.size wr W → Calls Tryz.prog 70 #[.slice ao C.length cc, .agg #[.int .i64 (at' L x).hand, .int .i64 (at' L x).round, .int .i64 (at' L x).frm, .string (at' L x).word]] W fun e w' => e = .returned (.bool (leadK C (at' L x))) ∧ Below W.heap.size W w') := fun W hW => by
       have hB := HB.out.trans (hW.mono HB.out.size)
       exact l8Leads ao cc C (at' L x) W hrb.1 (by omega) (HRD.out W hB).1 (HRD.out W hB).2
     clear HT1 hbb hsb
     generalize bel L k = yb at t1 HHA HEN
     generalize sealS L x L.length = ys at t2 HHA
     generalize bit yb x = b1 at HEN HHA
     generalize sealN L k x = b3 at HEN HHA
     have HRO : Hid (∀ e : Nat, e < x → wr.cell? ⟨g, off + e * 4 + 1, none⟩ = some (.int .i64 (at' L e).round)) := fun e he => by obtain ⟨_, _, q, _, _⟩ := (HR.out.below HB.out).on e (by omega); exact q
     generalize hkk : at' L x = kk at c0 c1 c2 c3 HLD HEN HST hrb
     generalize leadK C kk = b2 at HEN HLD
     have HCASE : Hid (earI L C k x = -1 ∨ ∃ e : Nat, earI L C k x = (e : Int) ∧ e < x) := hbd
     generalize earI L C k x = eo at HST HCASE ⊢
     clear hbd hkk
     obtain ⟨X, _, F, HF, HG⟩ := Fam.fam wr
     have d0 : ∀ z, (F z).cell? ⟨g, off + x * 4, none⟩ = some (.int .i64 kk.hand) := fun z => ((HF.out z).cell (p := ⟨g, off + x * 4, none⟩) hgw).trans c0
     have d1 : ∀ z, (F z).cell? ⟨g, off + x * 4 + 1, none⟩ = some (.int .i64 kk.round) := fun z => ((HF.out z).cell (p := ⟨g, off + x * 4 + 1, none⟩) hgw).trans c1
     have d2 : ∀ z, (F z).cell? ⟨g, off + x * 4 + 2, none⟩ = some (.int .i64 kk.frm) := fun z => ((HF.out z).cell (p := ⟨g, off + x * 4 + 2, none⟩) hgw).trans c2
     have d3 : ∀ z, (F z).cell? ⟨g, off + x * 4 + 3, none⟩ = some (.string kk.word) := fun z => ((HF.out z).cell (p := ⟨g, off + x * 4 + 3, none⟩) hgw).trans c3
     have s1 : ∀ z, (F z).cell? ⟨bb, k, none⟩ = some (.int .i64 yb) := fun z => ((HF.out z).cell (p := ⟨bb, k, none⟩) tl1).trans t1
     have s2 : ∀ z, (F z).cell? ⟨h, x, none⟩ = some (.int .i64 ys) := fun z => ((HF.out z).cell (p := ⟨h, x, none⟩) tl2).trans t2
     clear c0 c1 c2 c3 t1 t2
     cases b1
     · have HD : Hid (earI L C k (x + 1) = eo) := by show _ = _; rw [HST.out, HEN.out]; simp
       clear HST HEN HCASE HLD
       go_wp2_with fail
       refine Fam.region (F := F) (by kernel_rfl) (by kernel_rfl) (HG.out _ (Below.refl _ wr).drew) ?_
       repeat (go_big_quiet_step (first
         | (go_at_call 69; exact (HHA.out _ _ _ _ (by first | exact .inl ⟨rfl, rfl, rfl⟩ | exact .inr ⟨rfl, rfl, rfl⟩)).mono fun _ _ q => ⟨q.1, _, q.2.symm⟩)))
       refine wpQuiet_nil ?_
       intro w2 hw2
       obtain ⟨z, rfl⟩ := hw2
       have HB2 : Hid (Below w.heap.size w (F z)) := HB.out.trans ((HF.out z).mono HB.out.size)
       clear HB
       go_wp2
       go_roundw
       case rel => exact ⟨x + 1, by omega, by go_num, by rw [HD.out], HB2⟩
       case measure => simp [intOf]; omega
     · cases b2
       · have HD : Hid (earI L C k (x + 1) = eo) := by show _ = _; rw [HST.out, HEN.out]; simp
         clear HST HEN HCASE
         go_wp2_with fail
         refine Fam.region (F := F) (by kernel_rfl) (by kernel_rfl) (HG.out _ (Below.refl _ wr).drew) ?_
         repeat (go_big_quiet_step (first
           | (go_at_call 69; exact (HHA.out _ _ _ _ (by first | exact .inl ⟨rfl, rfl, rfl⟩ | exact .inr ⟨rfl, rfl, rfl⟩)).mono fun _ _ q => ⟨q.1, _, q.2.symm⟩)
           | (go_at_call 70; exact (HLD.out _ (HF.out _)).mono fun _ _ q => ⟨q.1, HG.out _ ((HF.out _).trans (q.2.mono (HF.out _).size))⟩)))
         refine wpQuiet_nil ?_
         intro w2 hw2
         obtain ⟨z, rfl⟩ := hw2
         have HB2 : Hid (Below w.heap.size w (F z)) := HB.out.trans ((HF.out z).mono HB.out.size)
         clear HB
         go_wp2
         go_roundw
         case rel => exact ⟨x + 1, by omega, by go_num, by rw [HD.out], HB2⟩
         case measure => simp [intOf]; omega
       · cases b3
         · have HD : Hid (earI L C k (x + 1) = eo) := by show _ = _; rw [HST.out, HEN.out]; simp
           clear HST HEN HCASE
           go_wp2_with fail
           refine Fam.region (F := F) (by kernel_rfl) (by kernel_rfl) (HG.out _ (Below.refl _ wr).drew) ?_
           repeat (go_big_quiet_step (first
             | (go_at_call 69; exact (HHA.out _ _ _ _ (by first | exact .inl ⟨rfl, rfl, rfl⟩ | exact .inr ⟨rfl, rfl, rfl⟩)).mono fun _ _ q => ⟨q.1, _, q.2.symm⟩)
             | (go_at_call 70; exact (HLD.out _ (HF.out _)).mono fun _ _ q => ⟨q.1, HG.out _ ((HF.out _).trans (q.2.mono (HF.out _).size))⟩)))
           refine wpQuiet_nil ?_
           intro w2 hw2
           obtain ⟨z, rfl⟩ := hw2
           have HB2 : Hid (Below w.heap.size w (F z)) := HB.out.trans ((HF.out z).mono HB.out.size)
           clear HB
           go_wp2
           go_roundw
           case rel => exact ⟨x + 1, by omega, by go_num, by rw [HD.out], HB2⟩
           case measure => simp [intOf]; omega
         · rcases HCASE.out with e | ⟨e, rfl, hex⟩
           · subst e
             have HD : Hid (earI L C k (x + 1) = (x : Int)) := by show _ = _; rw [HST.out, HEN.out]; simp
             clear HST HEN HCASE
             go_wp2_with fail
             refine Fam.region (F := F) (by kernel_rfl) (by kernel_rfl) (HG.out _ (Below.refl _ wr).drew) ?_
             repeat (go_big_quiet_step (first
               | (go_at_call 69; exact (HHA.out _ _ _ _ (by first | exact .inl ⟨rfl, rfl, rfl⟩ | exact .inr ⟨rfl, rfl, rfl⟩)).mono fun _ _ q => ⟨q.1, _, q.2.symm⟩)
               | (go_at_call 70; exact (HLD.out _ (HF.out _)).mono fun _ _ q => ⟨q.1, HG.out _ ((HF.out _).trans (q.2.mono (HF.out _).size))⟩)))
             refine wpQuiet_nil ?_
             intro w2 hw2
             obtain ⟨z, rfl⟩ := hw2
             have HB2 : Hid (Below w.heap.size w (F z)) := HB.out.trans ((HF.out z).mono HB.out.size)
             clear HB
             go_wp2
             go_roundw
             case rel => exact ⟨x + 1, by omega, by go_num, by rw [HD.out], HB2⟩
             case measure => simp [intOf]; omega
           · have ce := HRO.out e hex
             have d5 : ∀ z, (F z).cell? ⟨g, off + e * 4 + 1, none⟩ = some (.int .i64 (at' L e).round) := fun z => ((HF.out z).cell (p := ⟨g, off + e * 4 + 1, none⟩) hgw).trans ce
             have hei : (e : Int) < (L.length : Int) := by omega
             have he0 : decide ((e : Int) < 0) = false := decide_eq_false (by omega)
             rw [Int.toNat_natCast] at HST
             generalize (at' L e).round = er at HST d5
             clear ce
             by_cases hrr : er < kk.round
             · have HD : Hid (earI L C k (x + 1) = (x : Int)) := by show _ = _; rw [HST.out, HEN.out]; simp [hrr]
               clear HST HEN HCASE HRO
               go_wp2_with fail
               refine Fam.region (F := F) (by kernel_rfl) (by kernel_rfl) (HG.out _ (Below.refl _ wr).drew) ?_
               repeat (go_big_quiet_step (first
                 | (go_at_call 69; exact (HHA.out _ _ _ _ (by first | exact .inl ⟨rfl, rfl, rfl⟩ | exact .inr ⟨rfl, rfl, rfl⟩)).mono fun _ _ q => ⟨q.1, _, q.2.symm⟩)
                 | (go_at_call 70; exact (HLD.out _ (HF.out _)).mono fun _ _ q => ⟨q.1, HG.out _ ((HF.out _).trans (q.2.mono (HF.out _).size))⟩)))
               refine wpQuiet_nil ?_
               intro w2 hw2
               obtain ⟨z, rfl⟩ := hw2
               have HB2 : Hid (Below w.heap.size w (F z)) := HB.out.trans ((HF.out z).mono HB.out.size)
               clear HB
               go_wp2
               go_roundw
               case rel => exact ⟨x + 1, by omega, by go_num, by rw [HD.out], HB2⟩
               case measure => simp [intOf]; omega
             · have HD : Hid (earI L C k (x + 1) = (e : Int)) := by show _ = _; rw [HST.out, HEN.out]; simp; omega
               clear HST HEN HCASE HRO
               go_wp2_with fail
               refine Fam.region (F := F) (by kernel_rfl) (by kernel_rfl) (HG.out _ (Below.refl _ wr).drew) ?_
               repeat (go_big_quiet_step (first
                 | (go_at_call 69; exact (HHA.out _ _ _ _ (by first | exact .inl ⟨rfl, rfl, rfl⟩ | exact .inr ⟨rfl, rfl, rfl⟩)).mono fun _ _ q => ⟨q.1, _, q.2.symm⟩)
                 | (go_at_call 70; exact (HLD.out _ (HF.out _)).mono fun _ _ q => ⟨q.1, HG.out _ ((HF.out _).trans (q.2.mono (HF.out _).size))⟩)))
               refine wpQuiet_nil ?_
               intro w2 hw2
               obtain ⟨z, rfl⟩ := hw2
               have HB2 : Hid (Below w.heap.size w (F z)) := HB.out.trans ((HF.out z).mono HB.out.size)
               clear HB
               go_wp2
               go_roundw
               case rel => exact ⟨x + 1, by omega, by go_num, by rw [HD.out], HB2⟩
               case measure => simp [intOf]; omega
   · obtain rfl : x = k := by omega
     have HE : Hid (earI L C x x = earlierN L C x) := rfl
     rw [HE.out]
     go_wp2
     go_ret
     exact ⟨rfl, HB.out⟩
structure ChSt (w wr : World) (v : Value) (l : List Int) : Prop where
 shape : ∃ gg cp, v = .slice (some ⟨gg, 0, none⟩) l.length cp ∧ Memb.Own w.heap.size wr (some ⟨gg, 0, none⟩) cp l
 bel : Below w.heap.size w wr
theorem chSt_start (w : World) : ChSt w (w.alloc (.cells #[] 2)) (.slice (some ⟨w.heap.size, 0, none⟩) 0 0) [] := ⟨⟨_, _, rfl, Memb.own_empty w⟩, (Below.refl _ _).alloc (Nat.le_refl _) _⟩
theorem chSt_put {w wr w3 : World} {v' : Value} {l : List Int} {x : Int} {o : Obj} (hB : Below w.heap.size w wr) (ho : w3.ownsRow w.heap.size 2 1 v' (1 + l.length) ([.int .i64 x] ++ l.map (Value.int .i64))) (hg : (wr.alloc o).grownBy w3 (some wr.heap.size)) (hn : ¬ v' = .slice none 0 0) : ChSt w w3 v' (x :: l) := by
 refine ⟨?_, (hB.alloc hB.size o).grown hg (by simp; have := hB.size; omega) (fun j hj => by cases hj; exact hB.size)⟩
 have ho' : w3.ownsRow w.heap.size 2 1 v' (x :: l).length ((x :: l).map (Value.int .i64)) := by
   rw [show (x :: l).length = 1 + l.length by simp; omega]; exact ho
 obtain ⟨ao, cap, hv, hown⟩ := Memb.own_shape ho'
 rcases ao with _ | a
 · obtain ⟨_, ⟨hx, _⟩ | ⟨gg, cp, cur, hx, _⟩⟩ := ho'
   · exact absurd hx hn
   · rw [hv] at hx; injection hx with hx _; exact absurd hx (by simp)
 · obtain ⟨_, ⟨hx, _⟩ | ⟨gg, cp, cur, hx, _⟩⟩ := ho'
   · exact absurd hx hn
   · rw [hv] at hx
     injection hx with hx _ hc
     injection hx with hx
     subst hx hc
     exact ⟨gg, cap, hv, hown⟩
set_option maxHeartbeats 3200000 in
theorem l10Chain (g off cap : Nat) (L : List K) (ao : Option Addr) (cc : Nat) (C : List Int) (bb bc h hc : Nat) (k : Nat) (w : World) (hl : laceB L = true) (hg : g < w.heap.size) (hr : RdK w (some ⟨g, off, none⟩) L) (hrd : Lst.Rd w ao C) (hao : ∀ c, ao = some ⟨c, 0, none⟩ → c < w.heap.size) (ht : TabsL w L bb h) (hk : k < L.length) :
   Calls Tryz.prog 76 #[.slice (some ⟨g, off, none⟩) L.length cap, .slice ao C.length cc, .slice (some ⟨bb, 0, none⟩) L.length bc, .slice (some ⟨h, 0, none⟩) L.length hc, .int .i64 (k : Int)] w (NumsPost (chainL L C (k : Int)) w) := by
 obtain ⟨i0, hi, hz0, hz1, hz2⟩ := info_parts Memb.info2
 have hL := ((Lc.lace_iff L).1 hl).1
 have HEAR : Hid (∀ (W : World) (p : Nat), Below w.heap.size w W → p < L.length → Calls Tryz.prog 92 #[.slice (some ⟨g, off, none⟩) L.length cap, .slice ao C.length cc, .slice (some ⟨bb, 0, none⟩) L.length bc, .slice (some ⟨h, 0, none⟩) L.length hc, .int .i64 (p : Int)] W fun e w' => e = .returned (.int .i64 (earlierN L C p)) ∧ Below W.heap.size W w') := fun W p hW hp =>
   l10Earlier g off cap L ao cc C bb bc h hc p W hl (Nat.lt_of_lt_of_le hg hW.size) (hr.below hW) (rd_below hrd hao hW) (fun c e => Nat.lt_of_lt_of_le (hao c e) hW.size) (ht.below hW) hp
 have HLEN : Hid (∀ (kc : Int) (l : List Int), chainL L C (k : Int) = chainL L C kc ++ l → l.length ≤ k + 1) := fun kc l e => by
   have h1 := chain_len L C (k : Int)
   rw [e] at h1
   simp at h1
   omega
 clear hl hr hrd hao ht
 go_enter Tryz.func76, Tryz.ntmps76
 go_wp2
 go_loopw [4, 11] (fun kv v wr => ∃ (kc : Int) (l : List Int), kv = .int .i64 kc ∧ (-1 ≤ kc ∧ kc < (L.length : Int)) ∧ Hid (chainL L C (k : Int) = chainL L C kc ++ l) ∧ Hid (ChSt w wr v l)) (fun kv _ _ => (intOf kv + 1).toNat)
 case atStart => exact ⟨(k : Int), [], rfl, by omega, by show _ = _; rw [List.append_nil], chSt_start w⟩
 case round =>
   obtain ⟨kc, l, rfl, hkc, HCH, HS⟩ := hrel
   have hll := HLEN.out kc l HCH.out
   by_cases hn : 0 ≤ kc
   · obtain ⟨p, rfl⟩ := Int.eq_ofNat_of_zero_le hn
     have hp : p < L.length := by omega
     have hlt := earlier_lt L C p
     have hge : -1 ≤ earlierN L C p := by rcases earI_bd L C p p with e | ⟨e, he, _⟩ <;> unfold earlierN <;> omega
     have HCH2 : Hid (chainL L C (k : Int) = chainL L C (earlierN L C p) ++ ((p : Int) :: l)) := by
       show _ = _; rw [HCH.out, chain_step, List.append_assoc]; rfl
     obtain ⟨gg, cp, hv, hown⟩ := HS.out.shape
     subst hv
     have hrd1 := Lst.own_rd hown
     have hgg := (World.ownsRow.lt hown gg rfl).2
     have HLIT : Hid ((wr.alloc (.cells #[.int .i64 (p : Int)] 2)).ownsRow w.heap.size 2 1 (.slice (some ⟨wr.heap.size, 0, none⟩) 1 1) 1 [.int .i64 (p : Int)]) := World.ownsRow_lit wr #[.int .i64 (p : Int)] 1 HS.out.bel.size (by unfold maxLen; omega) rfl
     have HNEW : Hid (∀ (j : Nat) u, (l.map (Value.int .i64))[j]? = some u → (wr.alloc (.cells #[.int .i64 (p : Int)] 2)).cell? ((⟨gg, 0, none⟩ : Addr).add j) = some u) := fun j u hu => by
       rw [List.getElem?_map] at hu
       rcases hj : l[j]? with _ | y
       · rw [hj] at hu; simp at hu
       · rw [hj] at hu
         simp at hu
         subst hu
         have hjl : j < l.length := (List.getElem?_eq_some_iff.1 hj).1
         rcases hrd1 with e | ⟨g2, e, hcell⟩
         · rw [e] at hjl; simp at hjl
         · injection e with e; injection e with e; subst e
           have := hcell j hjl
           rw [show l.getD j 0 = y by simp [List.getD, hj]] at this
           rw [show (⟨gg, 0, none⟩ : Addr).add j = ⟨gg, j, none⟩ by simp [Addr.add]; intro e; exact e.symm, World.cell?_alloc_lt _ _ _ hgg]
           exact this
     have HONE : Hid (∀ u ∈ l.map (Value.int .i64), u.oneCell' = true) := fun u hu => by
       obtain ⟨y, _, rfl⟩ := List.mem_map.1 hu; rfl
     have HBW : Hid (Below w.heap.size w wr) := HS.out.bel
     clear hown hrd1
     go_wp2_with (first | (at_builtin; refine wpList_append_own _ rfl _ _ 23 rfl w.heap.size 2 i0 (.int .i64 0) 1 8 Tryz.underlying23 hi hz0 hz1 hz2 rfl (by decide) (.slice (some ⟨wr.heap.size, 0, none⟩) 1 1) 1 [.int .i64 (p : Int)] (by first | rfl | simp [Act.eval]) HLIT.out ⟨gg, 0, none⟩ l.length cp (l.map (Value.int .i64)) (by first | rfl | simp [Act.eval]) (by simp) HNEW.out HONE.out ?c3 ?c4 ?c5 ?_) | fail)
     case c3 => unfold maxLen; omega
     case c4 => omega
     case c5 => have := HBW.out.size; simp; omega
     intro v' w3 hown' hgrow hnil
     have HS3 : Hid (ChSt w w3 v' ((p : Int) :: l)) := chSt_put HBW.out hown' hgrow hnil
     clear hown' hgrow hnil HS HLIT HNEW HONE HBW
     have hcall := HEAR.out w3 p HS3.out.bel hp
     go_wp2_with fail
     refine hcall.mono ?_
     rintro e w4 ⟨rfl, hb4⟩
     have HS4 : Hid (ChSt w w4 v' ((p : Int) :: l)) := by
       obtain ⟨g4, c4, e4, o4⟩ := HS3.out.shape
       exact ⟨⟨g4, c4, e4, Lst.own_below o4 hb4⟩, HS3.out.bel.trans (hb4.mono HS3.out.bel.size)⟩
     clear hb4 HS3 hcall
     go_wp2
     go_roundw
     case rel => exact ⟨earlierN L C p, (p : Int) :: l, rfl, by omega, HCH2, HS4⟩
     case measure => simp [intOf]; omega
   · have HE : Hid (chainL L C (k : Int) = l) := by show _ = _; rw [HCH.out, chain_neg L C (by omega)]; rfl
     obtain ⟨gg, cp, hv, hown⟩ := HS.out.shape
     have HV : Hid (u11 = .slice (some ⟨gg, 0, none⟩) l.length cp) := hv
     have HF : Hid (Memb.Own w.heap.size wr (some ⟨gg, 0, none⟩) cp l ∧ Below w.heap.size w wr) := ⟨hown, HS.out.bel⟩
     clear hv hown HS HCH
     go_wp2
     go_ret
     exact ⟨some ⟨gg, 0, none⟩, cp, by rw [HE.out, ← HV.out]; rfl, by rw [HE.out]; exact HF.out.1, HF.out.2⟩
def onB (L : List K) (C : List Int) (k : Int) : Bool := isB L k && coinsB C
def chainI (L : List K) (C : List Int) (k : Int) : List Int := if onB L C k then chainL L C k else []
theorem own_base {B B' : Nat} {w : World} {ao : Option Addr} {cap : Nat} {l : List Int} (h : Memb.Own B w ao cap l) (hb : B' ≤ B) : Memb.Own B' w ao cap l := by
 obtain ⟨a1, a2⟩ := h
 refine ⟨a1, ?_⟩
 rcases a2 with a2 | ⟨g2, c2, cur, e1, e2, rest⟩
 · exact .inl a2
 · exact .inr ⟨g2, c2, cur, e1, Nat.le_trans hb e2, rest⟩
theorem nums_nil {w w1 : World} (hb1 : Below w.heap.size w w1) : Memb.Own w.heap.size (w1.alloc (.cells #[] 2)) (some ⟨w1.heap.size, 0, none⟩) 0 [] ∧ Below w.heap.size w (w1.alloc (.cells #[] 2)) := ⟨own_base (Memb.own_empty w1) hb1.size, hb1.alloc hb1.size _⟩
theorem chainI_len {L : List K} {C : List Int} {k : Int} : (chainI L C k).length ≤ 61 := by
 unfold chainI
 split
 · rename_i h
   unfold onB at h
   rw [Bool.and_eq_true] at h
   obtain ⟨k0, k1, hlc⟩ := Sg.isB_parts h.1
   have h60 := ((Lc.lace_iff L).1 hlc).1
   have := chain_len L C k
   omega
 · simp
end Ch
end Go.Proofs.YtjnhniffgeepjaaGreat
