/-
 Lists and logs of the laws' own, each in blocks between two bounds: how they stay, how they are marked; for the exact laws over logs.
-/
import Derived.Test.YtjnhniffgeepjaaGreatezg20
import Derived.Laws.CopyOwn
set_option linter.unusedVariables false
namespace Go.Proofs.YtjnhniffgeepjaaGreat
open Go.RowKit
set_option maxRecDepth 100000
set_option linter.unusedVariables false
namespace Lg
open Kn (K okK)
open Sg (NumsPost)
def CopyPost (S : List Int) (T : List (List Int)) (w : World) (e : Ending) (w' : World) : Prop :=
 ∃ (so : Option Addr) (sc : Nat) (vo : Option Addr) (vc : Nat) (f : At), e = .returned (.agg #[.slice so S.length sc, .slice vo T.length vc]) ∧ Memb.Own w.heap.size w' so sc S ∧ OwnLL w.heap.size w' (.slice vo T.length vc) T f ∧ (∀ i, i < T.length → ∀ g, (f i).1 = some ⟨g, 0, none⟩ → so ≠ some ⟨g, 0, none⟩) ∧ Below w.heap.size w w'
theorem cell2 (w : World) (o : Obj) (a b : Value) (t : TypeId) : ((w.alloc (.cells #[a, b] t)).alloc o).cell? ⟨w.heap.size, 1, none⟩ = some b := by
 rw [World.cell?_alloc_lt _ _ _ (by simp)]; simp
theorem cp_start {w W1 : World} {so qo : Option Addr} {sc tc : Nat} {S : List Int} {T : List (List Int)} {f : At} {so1 : Option Addr} {sc1 : Nat}
   (hb : Below w.heap.size w ((w.alloc (.cells #[.slice so S.length sc, .slice qo T.length tc] 39)).alloc (.cells #[.slice none 0 0, .slice none 0 0] 39)))
   (hL : RdL ((w.alloc (.cells #[.slice so S.length sc, .slice qo T.length tc] 39)).alloc (.cells #[.slice none 0 0, .slice none 0 0] 39)) so qo S T f)
   (hO : Memb.Own ((w.alloc (.cells #[.slice so S.length sc, .slice qo T.length tc] 39)).alloc (.cells #[.slice none 0 0, .slice none 0 0] 39)).heap.size W1 so1 sc1 S)
   (hb1 : Below ((w.alloc (.cells #[.slice so S.length sc, .slice qo T.length tc] 39)).alloc (.cells #[.slice none 0 0, .slice none 0 0] 39)).heap.size ((w.alloc (.cells #[.slice so S.length sc, .slice qo T.length tc] 39)).alloc (.cells #[.slice none 0 0, .slice none 0 0] 39)) W1) :
   CpSt w (W1.alloc (.cells #[.slice so1 S.length sc1, .slice none 0 0] 39)) (w.heap.size + 1) W1.heap.size so qo sc tc S T f so1 sc1 none 0 0 (fun _ => (none, 0)) := by
 have hsz : w.heap.size + 2 ≤ W1.heap.size := by have := hb1.size; simp at this; omega
 have hbA : Below W1.heap.size W1 (W1.alloc (.cells #[.slice so1 S.length sc1, .slice none 0 0] 39)) := (Below.refl _ _).alloc (Nat.le_refl _) _
 have c1 := (hb1.cell (p := ⟨w.heap.size, 1, none⟩) (by simp; omega)).trans (cell2 w _ _ _ _)
 have r0 : ((w.alloc (.cells #[.slice so S.length sc, .slice qo T.length tc] 39)).alloc (.cells #[.slice none 0 0, .slice none 0 0] 39)).cell? ⟨w.heap.size + 1, 0, none⟩ = some (.slice none 0 0) ∧ ((w.alloc (.cells #[.slice so S.length sc, .slice qo T.length tc] 39)).alloc (.cells #[.slice none 0 0, .slice none 0 0] 39)).cell? ⟨w.heap.size + 1, 1, none⟩ = some (.slice none 0 0) ∧ ((w.alloc (.cells #[.slice so S.length sc, .slice qo T.length tc] 39)).alloc (.cells #[.slice none 0 0, .slice none 0 0] 39)).frozen? ⟨w.heap.size + 1, 0, none⟩ = false ∧ ((w.alloc (.cells #[.slice so S.length sc, .slice qo T.length tc] 39)).alloc (.cells #[.slice none 0 0, .slice none 0 0] 39)).frozen? ⟨w.heap.size + 1, 1, none⟩ = false := by
   have e : (w.alloc (.cells #[.slice so S.length sc, .slice qo T.length tc] 39)).heap.size = w.heap.size + 1 := by simp
   rw [← e]
   exact ⟨by simp, by simp, by simp, by simp⟩
 have hlt1 : w.heap.size + 1 < ((w.alloc (.cells #[.slice so S.length sc, .slice qo T.length tc] 39)).alloc (.cells #[.slice none 0 0, .slice none 0 0] 39)).heap.size := by simp
 have k0 : ∀ j, (W1.alloc (.cells #[.slice so1 S.length sc1, .slice none 0 0] 39)).cell? ⟨w.heap.size + 1, j, none⟩ = ((w.alloc (.cells #[.slice so S.length sc, .slice qo T.length tc] 39)).alloc (.cells #[.slice none 0 0, .slice none 0 0] 39)).cell? ⟨w.heap.size + 1, j, none⟩ := fun j => (hbA.cell (p := ⟨w.heap.size + 1, j, none⟩) (show w.heap.size + 1 < W1.heap.size by omega)).trans (hb1.cell (p := ⟨w.heap.size + 1, j, none⟩) hlt1)
 have k1 : ∀ j, (W1.alloc (.cells #[.slice so1 S.length sc1, .slice none 0 0] 39)).frozen? ⟨w.heap.size + 1, j, none⟩ = ((w.alloc (.cells #[.slice so S.length sc, .slice qo T.length tc] 39)).alloc (.cells #[.slice none 0 0, .slice none 0 0] 39)).frozen? ⟨w.heap.size + 1, j, none⟩ := fun j => (World.frozen?_of_block (a := ⟨w.heap.size + 1, j, none⟩) (hbA.block (w.heap.size + 1) (by omega))).trans (World.frozen?_of_block (a := ⟨w.heap.size + 1, j, none⟩) (hb1.block (w.heap.size + 1) hlt1))
 refine ⟨(hb.trans (hb1.mono hb.size)).trans (hbA.mono (by omega)), by omega, by omega, by simp, (hbA.cell (p := ⟨w.heap.size, 1, none⟩) (show w.heap.size < W1.heap.size by omega)).trans c1, ⟨⟨_, (k0 0).trans r0.1⟩, ⟨_, (k0 1).trans r0.2.1⟩, (k1 0).trans r0.2.2.1, (k1 1).trans r0.2.2.2⟩, by simp, by simp, ⟨by simp, by simp⟩, ?_, ?_, ⟨⟨by simp [vals], .inl ⟨rfl, rfl⟩⟩, fun i hi => by simp at hi, fun i j hij hj => by simp at hj⟩⟩
 · have h2 : Memb.Own (w.heap.size + 1 + 1) W1 so1 sc1 S := own_lift hO (by simp)
   exact own_kept h2 (World.grownBy_alloc W1 _ none) (fun g e q => by cases q)
 · intro g e
   subst e
   exact (World.ownsRow.lt hO g rfl).2
theorem grown_two (w : World) (b : Nat) (x y : Value) : w.grownBy ((w.setCell ⟨b, 0, none⟩ x).setCell ⟨b, 1, none⟩ y) (some b) := by
 refine ⟨rfl, rfl, rfl, by simp, fun k hk hne => ?_⟩
 have hkb : k ≠ b := fun e => hne (by rw [e])
 exact (Below.heap_setCell _ ⟨b, 1, none⟩ y k hkb).trans (Below.heap_setCell w ⟨b, 0, none⟩ x k hkb)
theorem row_lift {B B' : Nat} {W : World} {t : TypeId} {n : Nat} {v : Value} {xs : List Value} (h : W.ownsRow B t 1 v n xs) (hb : B' ≤ B) : W.ownsRow B' t 1 v n xs := by
 obtain ⟨h1, ⟨h2, h3⟩ | ⟨g3, c3, cur, e3, hB3, hrest⟩⟩ := h
 · exact ⟨h1, .inl ⟨h2, h3⟩⟩
 · exact ⟨h1, .inr ⟨g3, c3, cur, e3, Nat.le_trans hb hB3, hrest⟩⟩
theorem row_kept {B : Nat} {w w' : World} {t : TypeId} {n b : Nat} {v : Value} {xs : List Value} (h : w.ownsRow B t 1 v n xs) (hg : w.grownBy w' (some b)) (hb : b < B) : w'.ownsRow B t 1 v n xs := by
 refine World.ownsRow.kept h hg ?_
 rcases h.2 with ⟨e, _⟩ | ⟨g, cap, cur, e, hB, _⟩
 · rw [e]; exact .inl rfl
 · right; rw [e]; intro q; simp [Value.ownBlock] at q; omega
theorem ll_kept {B : Nat} {w w' : World} {b : Nat} {v : Value} {T : List (List Int)} {f : At} (h : OwnLL B w v T f) (hg : w.grownBy w' (some b)) (hb : b < B) : OwnLL B w' v T f := ⟨row_kept h.row hg hb, fun i hi => row_kept (h.each i hi) hg hb, h.ap⟩
theorem ll_lift {B B' : Nat} {W : World} {v : Value} {T : List (List Int)} {f : At} (h : OwnLL B W v T f) (hb : B' ≤ B) : OwnLL B' W v T f := ⟨row_lift h.row hb, fun i hi => own_lift (h.each i hi) hb, h.ap⟩
theorem cp_end {w wr : World} {xb : Nat} {so qo : Option Addr} {sc tc : Nat} {S : List Int} {T : List (List Int)} {f : At} {so1 : Option Addr} {sc1 : Nat} {vo : Option Addr} {vc : Nat} {h : At} (hs : CpSt w wr (w.heap.size + 1) xb so qo sc tc S T f so1 sc1 vo vc T.length h) :
   Memb.Own w.heap.size ((wr.setCell ⟨w.heap.size + 1, 0, none⟩ (.slice so1 S.length sc1)).setCell ⟨w.heap.size + 1, 1, none⟩ (.slice vo T.length vc)) so1 sc1 S ∧ OwnLL w.heap.size ((wr.setCell ⟨w.heap.size + 1, 0, none⟩ (.slice so1 S.length sc1)).setCell ⟨w.heap.size + 1, 1, none⟩ (.slice vo T.length vc)) (.slice vo T.length vc) T h ∧ (∀ i, i < T.length → ∀ g, (h i).1 = some ⟨g, 0, none⟩ → so1 ≠ some ⟨g, 0, none⟩) ∧ Below w.heap.size w ((wr.setCell ⟨w.heap.size + 1, 0, none⟩ (.slice so1 S.length sc1)).setCell ⟨w.heap.size + 1, 1, none⟩ (.slice vo T.length vc)) := by
 have hg := grown_two wr (w.heap.size + 1) (.slice so1 S.length sc1) (.slice vo T.length vc)
 have hll := hs.ll
 rw [List.take_length] at hll
 have h1 : Memb.Own (w.heap.size + 1 + 1) ((wr.setCell ⟨w.heap.size + 1, 0, none⟩ (.slice so1 S.length sc1)).setCell ⟨w.heap.size + 1, 1, none⟩ (.slice vo T.length vc)) so1 sc1 S := row_kept hs.own hg (by omega)
 refine ⟨own_lift h1 (by omega), ll_lift (ll_kept hll hg (by have := hs.o2; omega)) (by have := hs.o2; omega), ?_, ?_⟩
 · intro i hi g e1 e2
   have h3 := hll.each i hi
   rw [e1] at h3
   have := (World.ownsRow.lt h3 g rfl).1
   have := hs.far g e2
   omega
 exact (hs.bel.setCell (p := ⟨w.heap.size + 1, 0, none⟩) (by show _ ≤ w.heap.size + 1; omega) _).setCell (p := ⟨w.heap.size + 1, 1, none⟩) (by show _ ≤ w.heap.size + 1; omega) _
set_option maxHeartbeats 3200000 in
theorem l15Copy (so qo : Option Addr) (sc tc : Nat) (S : List Int) (T : List (List Int)) (f : At) (w : World) (hlog : RdL w so qo S T f) (hSN : so = none → sc = 0) (hN : ∀ i, i < T.length → (f i).1 = none → (f i).2 = 0) (hS : S.length ≤ 1048576) (hT : T.length ≤ 1048576) (hTT : ∀ i, i < T.length → (T.getD i []).length ≤ 1048576) :
   Calls Tryz.prog 44 #[.agg #[.slice so S.length sc, .slice qo T.length tc]] w (CopyPost S T w) := by
 have HN : Hid (∀ i, i < T.length → (f i).1 = none → (f i).2 = 0) := hN
 have HTT : Hid (∀ i, i < T.length → (T.getD i []).length ≤ 1048576) := hTT
 have hb : Below w.heap.size w ((w.alloc (.cells #[.slice so S.length sc, .slice qo T.length tc] 39)).alloc (.cells #[.slice none 0 0, .slice none 0 0] 39)) := ((Below.refl _ _).alloc (Nat.le_refl _) _).alloc (by simp) _
 have HL0 : Hid (RdL ((w.alloc (.cells #[.slice so S.length sc, .slice qo T.length tc] 39)).alloc (.cells #[.slice none 0 0, .slice none 0 0] 39)) so qo S T f) := hlog.below hb
 have hcall := l1CopyA so sc S _ hS HL0.out.seen HL0.out.seenB hSN
 have HLW : Hid (RdL w so qo S T f) := hlog
 obtain ⟨i0, hi0, hz0, hz1, hz2⟩ := info_parts infoS
 clear hN hTT hlog hSN
 go_enter Tryz.func44, Tryz.ntmps44
 go_wp2_with fail
 refine hcall.mono ?_
 rintro e W1 ⟨so1, sc1, rfl, hO, hb1⟩
 have HS0 : Hid (CpSt w (W1.alloc (.cells #[.slice so1 S.length sc1, .slice none 0 0] 39)) (w.heap.size + 1) W1.heap.size so qo sc tc S T f so1 sc1 none 0 0 (fun _ => (none, 0))) := cp_start hb HL0.out hO hb1
 clear hcall hO hb1 hb HL0
 go_wp2_with fail
 generalize W1.alloc (.cells #[.slice so1 S.length sc1, .slice none 0 0] 39) = U0 at HS0 ⊢
 generalize W1.heap.size = xb at HS0 ⊢
 go_loopw [4] (fun iv wr => ∃ (i : Nat) (vo : Option Addr) (vc : Nat) (h : At), i ≤ T.length ∧ iv = .int .i64 i ∧ Hid (CpSt w wr (w.heap.size + 1) xb so qo sc tc S T f so1 sc1 vo vc i h)) (fun iv _ => T.length - (intOf iv).toNat)
 case atStart => exact ⟨0, _, _, _, by omega, rfl, HS0⟩
 case round =>
   clear HS0
   obtain ⟨i, vo, vc, h, hi, rfl, HS⟩ := hrel
   have b1 := HS.out.b1
   by_cases hil : i < T.length
   · have hii : (i : Int) < (T.length : Int) := by omega
     obtain ⟨tb, toff, rfl⟩ := told_at HLW.out (by omega)
     have HCE : Hid (∀ X : World, Below w.heap.size w X ∧ X.cell? ⟨w.heap.size, 1, none⟩ = some (.slice (some ⟨tb, toff, none⟩) T.length tc) ∧ X.cell? ⟨xb, 1, none⟩ = some (.slice vo i vc) → X.cell? ⟨w.heap.size, 1, none⟩ = some (.slice (some ⟨tb, toff, none⟩) T.length tc) ∧ X.cell? ⟨xb, 1, none⟩ = some (.slice vo i vc) ∧ X.cell? ⟨tb, toff + i, none⟩ = some (.slice (f i).1 (T.getD i []).length (f i).2)) := fun X s => ⟨s.2.1, s.2.2, told_cell (HLW.out.below s.1) i hil⟩
     have HCP : Hid (∀ X : World, CpSt w X (w.heap.size + 1) xb so (some ⟨tb, toff, none⟩) sc tc S T f so1 sc1 vo vc i h → Calls Tryz.prog 66 #[.slice (f i).1 (T.getD i []).length (f i).2] X (NumsPost (T.getD i []) X)) := fun X s => l1CopyA (f i).1 (f i).2 (T.getD i []) X (HTT.out i hil) ((HLW.out.below s.bel).row i hil) ((HLW.out.below s.bel).rowB i hil) (HN.out i hil)
     have HDR : Hid (CpSt w wr.drew (w.heap.size + 1) xb so (some ⟨tb, toff, none⟩) sc tc S T f so1 sc1 vo vc i h) := HS.out.below (Below.refl _ _).drew
     have HST : Hid (∀ (V1 V3 : World) (ro : Option Addr) (rc : Nat) (o : Obj) (v3 : Value), Below wr.drew.heap.size wr.drew V1 → Memb.Own wr.drew.heap.size V1 ro rc (T.getD i []) → V3.ownsRow (xb + 1) 23 1 v3 (i + 1) (vals h (T.take i) ++ [.slice ro (T.getD i []).length rc]) → (V1.alloc o).grownBy V3 (Value.slice vo i vc).ownBlock → ∃ vo3 vc3, v3 = .slice vo3 (i + 1) vc3 ∧ CpSt w (V3.setCell ⟨xb, 1, none⟩ (.slice vo3 (i + 1) vc3)) (w.heap.size + 1) xb so (some ⟨tb, toff, none⟩) sc tc S T f so1 sc1 vo3 vc3 (i + 1) (put h i (ro, rc)) ∧ V3.cell? ⟨xb, 1, none⟩ = some (.slice vo i vc) ∧ V3.frozen? ⟨xb, 1, none⟩ = false ∧ Below w.heap.size w V3 ∧ V3.cell? ⟨w.heap.size, 1, none⟩ = some (.slice (some ⟨tb, toff, none⟩) T.length tc)) := fun V1 V3 ro rc o v3 b1 hO h3 hg => cp_step HDR.out hil b1 hO h3 hg
     have HRW : Hid (∀ X : World, CpSt w X (w.heap.size + 1) xb so (some ⟨tb, toff, none⟩) sc tc S T f so1 sc1 vo vc i h → X.ownsRow (xb + 1) 23 1 (.slice vo i vc) i (vals h (T.take i))) := fun X s => by
       have := s.ll.row
       rwa [show (T.take i).length = i by simp; omega] at this
     have HXL : Hid (xb < wr.heap.size) := HS.out.lt
     obtain ⟨c1, c2, c3⟩ := HCE.out wr ⟨HS.out.bel, HS.out.b1, HS.out.x1⟩
     clear HN HTT HLW HS b1
     generalize T.getD i [] = tl at HCE HCP HST c3
     generalize (f i).1 = f1 at HCE HCP c3
     generalize (f i).2 = f2 at HCE HCP c3
     generalize vals h (T.take i) = xs at HST HRW
     go_wp2_with fail
     go_region_law (first
         | (refine step_own_at rfl (.tmp 17) (.tmp 24) 34 rfl (xb + 1) 23 i0 (.slice none 0 0) 1 24 Tryz.underlying34 hi0 hz0 hz1 hz2 rfl (by decide) (.slice vo i vc) i xs (by simp [Act.eval]) (HRW.out _ A2) ⟨V1.heap.size, 0, none⟩ 1 1 [.slice ro tl.length rc] (by simp [Act.eval]) rfl (one_newV V1 _ _) (one_sl _ _ _) (by unfold maxLen; omega) (by omega) (by have := A2.lt; omega) ?_
            intro v3 V3 h3 hg3 _
            obtain ⟨vo3, vc3, rfl, HS3, x3, f3, B3, b3⟩ := HST.out V1 V3 ro rc _ v3 bV hO h3 hg3)
         | (rw [if_pos (by simp [Region.wanted])]
            go_simp
            refine (HCP.out _ HDR.out).mono ?_
            rintro e V1 ⟨ro, rc, rfl, hO, bV⟩
            have A1 := HDR.out.below bV
            have A2 := A1.below ((Below.refl _ V1).alloc (Nat.le_refl _) (.cells #[.slice ro tl.length rc] 23))
            have d2 := A1.x1
            have e2 := A2.x1))
     all_goals (go_wp2)
     all_goals go_roundw
     all_goals first | exact ⟨i + 1, vo3, vc3, _, by omega, by go_num, HS3⟩ | (simp [intOf]; omega)
   · obtain rfl : i = T.length := by omega
     have x0 := HS.out.x0
     have x1 := HS.out.x1
     obtain ⟨u0, r0⟩ := HS.out.r.1
     obtain ⟨u1, r1⟩ := HS.out.r.2.1
     have f0 := HS.out.r.2.2.1
     have f1 := HS.out.r.2.2.2
     have r1' : (wr.setCell ⟨w.heap.size + 1, 0, none⟩ (.slice so1 S.length sc1)).cell? ⟨w.heap.size + 1, 1, none⟩ = some u1 := (World.cell?_setCell_other _ _ _ _ (by intro e; simp at e)).trans r1
     have f1' : (wr.setCell ⟨w.heap.size + 1, 0, none⟩ (.slice so1 S.length sc1)).frozen? ⟨w.heap.size + 1, 1, none⟩ = false := by simpa using f1
     have HE : Hid (Memb.Own w.heap.size ((wr.setCell ⟨w.heap.size + 1, 0, none⟩ (.slice so1 S.length sc1)).setCell ⟨w.heap.size + 1, 1, none⟩ (.slice vo T.length vc)) so1 sc1 S ∧ OwnLL w.heap.size ((wr.setCell ⟨w.heap.size + 1, 0, none⟩ (.slice so1 S.length sc1)).setCell ⟨w.heap.size + 1, 1, none⟩ (.slice vo T.length vc)) (.slice vo T.length vc) T h ∧ (∀ i, i < T.length → ∀ g, (h i).1 = some ⟨g, 0, none⟩ → so1 ≠ some ⟨g, 0, none⟩) ∧ Below w.heap.size w ((wr.setCell ⟨w.heap.size + 1, 0, none⟩ (.slice so1 S.length sc1)).setCell ⟨w.heap.size + 1, 1, none⟩ (.slice vo T.length vc))) := cp_end HS.out
     have c0 : ((wr.setCell ⟨w.heap.size + 1, 0, none⟩ (.slice so1 S.length sc1)).setCell ⟨w.heap.size + 1, 1, none⟩ (.slice vo T.length vc)).cell? ⟨w.heap.size + 1, 0, none⟩ = some (.slice so1 S.length sc1) := (World.cell?_setCell_other _ _ _ _ (by intro e; simp at e)).trans (World.cell?_setCell_same _ _ _ r0)
     have c1 : ((wr.setCell ⟨w.heap.size + 1, 0, none⟩ (.slice so1 S.length sc1)).setCell ⟨w.heap.size + 1, 1, none⟩ (.slice vo T.length vc)).cell? ⟨w.heap.size + 1, 1, none⟩ = some (.slice vo T.length vc) := World.cell?_setCell_same _ _ _ r1'
     clear HS
     go_wp2_with fail
     refine bodyPost_ret (v := .agg #[.slice so1 S.length sc1, .slice vo T.length vc]) (by simp [results, Tryz.f44, go_sem, c0, c1]) rfl ?_
     exact ⟨so1, sc1, vo, vc, h, rfl, HE.out.1, HE.out.2.1, HE.out.2.2.1, HE.out.2.2.2⟩
end Lg
namespace Lg
open Kn (K okK)
open Lc (at' RdK WordsOk laceB setB)
open Sg (closedB NumsPost)
open Tl (outL beginsB)
def goesB (L : List K) (C S : List Int) (T : List (List Int)) (s : Int) : Bool := logB L C S T && (closedB L s && logB L C (S ++ [s]) (T ++ [outL L C s]))
def seenL (L : List K) (C S : List Int) (T : List (List Int)) (s : Int) : List Int := if logB L C S T then (if goesB L C S T s then S ++ [s] else S) else []
def toldL (L : List K) (C S : List Int) (T : List (List Int)) (s : Int) : List (List Int) := if logB L C S T then (if goesB L C S T s then T ++ [outL L C s] else T) else []
def LoggedPost (L : List K) (C S : List Int) (T : List (List Int)) (s : Int) (w : World) (e : Ending) (w' : World) : Prop :=
 ∃ (so : Option Addr) (sc : Nat) (vo : Option Addr) (vc : Nat) (f : At), e = .returned (.tuple #[.agg #[.slice so (seenL L C S T s).length sc, .slice vo (toldL L C S T s).length vc], .bool (goesB L C S T s)]) ∧ Memb.Own w.heap.size w' so sc (seenL L C S T s) ∧ OwnLL w.heap.size w' (.slice vo (toldL L C S T s).length vc) (toldL L C S T s) f ∧ (∀ i, i < (toldL L C S T s).length → ∀ g, (f i).1 = some ⟨g, 0, none⟩ → so ≠ some ⟨g, 0, none⟩) ∧ Below w.heap.size w w'
theorem own_log {B : Nat} {W : World} {so vo : Option Addr} {sc vc : Nat} {S : List Int} {T : List (List Int)} {f : At} (h1 : Memb.Own B W so sc S) (h2 : OwnLL B W (.slice vo T.length vc) T f) : RdL W so vo S T f ∧ (so = none → sc = 0) ∧ ∀ i, i < T.length → (f i).1 = none → (f i).2 = 0 := by
 have nil0 : ∀ {a : Option Addr} {c : Nat} {l : List Int}, Memb.Own B W a c l → a = none → c = 0 := fun {a c l} h e => by
   subst e
   rcases h.2 with ⟨e, _⟩ | ⟨g, cap, cur, e, _⟩
   · injection e
   · injection e with e _ _; cases e
 have blt : ∀ {a : Option Addr} {c : Nat} {l : List Int}, Memb.Own B W a c l → ∀ g, a = some ⟨g, 0, none⟩ → g < W.heap.size := fun {a c l} h g e => by subst e; exact (World.ownsRow.lt h g rfl).2
 refine ⟨⟨Lst.own_rd h1, blt h1, ?_, fun i hi => Lst.own_rd (h2.each i hi), fun i hi => blt (h2.each i hi)⟩, nil0 h1, fun i hi => nil0 (h2.each i hi)⟩
 rcases h2.row.2 with ⟨e, e'⟩ | ⟨g, cap, cur, e, hB, hg, hn, hm, hs, ht⟩
 · exact .inl (List.length_eq_zero_iff.1 e')
 · injection e with e _ e3
   subst e
   refine .inr ⟨g, 0, rfl, (World.ownsRow.lt h2.row g rfl).2, fun i hi => ?_⟩
   rw [Nat.zero_add]
   have hv := vals_get f T i hi
   have h3 := World.ownsRow.cellAt h2.row i (by omega)
   rw [h3, hv]
end Lg
end Go.Proofs.YtjnhniffgeepjaaGreat
namespace Go.Proofs.YtjnhniffgeepjaaGreat
open Go.RowKit
set_option maxRecDepth 100000
namespace Rm
open Kn (K okK)
open Bit (bit)
open Lc (at' RdK roundS handsN HandsOk amongI)
end Rm
end Go.Proofs.YtjnhniffgeepjaaGreat
namespace Go.Proofs.YtjnhniffgeepjaaGreat
open Go.RowKit
set_option maxRecDepth 100000
namespace Rm
open Kn (K okK)
open Bit (bit)
open Sg (orB)
open Lc (at' RdK)
end Rm
end Go.Proofs.YtjnhniffgeepjaaGreat
namespace Go.Proofs.YtjnhniffgeepjaaGreat
open Go.RowKit
set_option maxRecDepth 100000
namespace Lc
open Kn (K okK)
end Lc
end Go.Proofs.YtjnhniffgeepjaaGreat
namespace Go.Proofs.YtjnhniffgeepjaaGreat
open Go.RowKit
set_option maxRecDepth 100000
namespace Rm
open Kn (K okK)
open Lc (at' RdK laceB flat OwnK)
structure Fr (S : Nat → Prop) (w w' : World) : Prop where
 os : w'.os = w.os
 tape : w'.tape = w.tape
 output : w'.output = w.output
 size : w.heap.size ≤ w'.heap.size
 block : ∀ k, k < w.heap.size → ¬ S k → w'.heap[k]? = w.heap[k]?
theorem Fr.refl (S : Nat → Prop) (w : World) : Fr S w w := ⟨rfl, rfl, rfl, Nat.le_refl _, fun _ _ _ => rfl⟩
theorem Fr.trans {S T : Nat → Prop} {a b c : World} (h : Fr S a b) (k : Fr T b c) (hs : ∀ x, T x → x < a.heap.size → S x) : Fr S a c :=
 ⟨k.os.trans h.os, k.tape.trans h.tape, k.output.trans h.output, Nat.le_trans h.size k.size, fun x hx hn => (k.block x (Nat.lt_of_lt_of_le hx h.size) (fun ht => hn (hs x ht hx))).trans (h.block x hx hn)⟩
theorem Fr.mono {S T : Nat → Prop} {a b : World} (h : Fr S a b) (hs : ∀ x, S x → x < a.heap.size → T x) : Fr T a b :=
 ⟨h.os, h.tape, h.output, h.size, fun x hx hn => h.block x hx (fun hh => hn (hs x hh hx))⟩
theorem Fr.of_below {w w' : World} (h : Below w.heap.size w w') (S : Nat → Prop) : Fr S w w' := ⟨h.os, h.tape, h.output, h.size, fun k hk _ => h.block k hk⟩
theorem Fr.of_grown {w w' : World} {c : Nat} (h : w.grownBy w' (some c)) : Fr (fun x => x = c) w w' := ⟨h.os, h.tape, h.output, h.size, fun k hk hn => h.block k hk (fun e => hn (by cases e; rfl))⟩
theorem Fr.set (w : World) (p : Addr) (u : Value) : Fr (fun x => x = p.block) w (w.setCell p u) := ⟨rfl, rfl, rfl, by simp, fun k _ hn => Below.heap_setCell w p u k hn⟩
theorem Fr.alloc (S : Nat → Prop) (w : World) (o : Obj) : Fr S w (w.alloc o) := Fr.of_below ((Below.refl _ _).alloc (Nat.le_refl _) o) S
theorem Fr.drew {S : Nat → Prop} {a b : World} (h : Fr S a b) : Fr S a b.drew := ⟨h.os, h.tape, h.output, h.size, h.block⟩
theorem Fr.cell {S : Nat → Prop} {w w' : World} (h : Fr S w w') {p : Addr} (hp : p.block < w.heap.size) (hn : ¬ S p.block) : w'.cell? p = w.cell? p := World.cell?_of_block (w := w) (h.block p.block hp hn)
theorem Fr.frozen {S : Nat → Prop} {w w' : World} (h : Fr S w w') {p : Addr} (hp : p.block < w.heap.size) (hn : ¬ S p.block) : w'.frozen? p = w.frozen? p := World.frozen?_of_block (w := w) (h.block p.block hp hn)
theorem Fr.toBelow {S : Nat → Prop} {w w' : World} (h : Fr S w w') {B : Nat} (hB : B ≤ w.heap.size) (hs : ∀ x, S x → B ≤ x) : Below B w w' := ⟨h.os, h.tape, h.output, h.size, fun k hk => h.block k (by omega) (fun hh => by have := hs k hh; omega)⟩
structure Hd where
 who : Int
 has : Int
 kept : Int
 last : Int
structure HdOk (n : Nat) (h : Hd) : Prop where
 h0 : 0 ≤ h.has
 h1 : h.has < 1152921504606846976
 k0 : 0 ≤ h.kept
 k1 : h.kept < 1152921504606846976
 la : h.last < (n : Int)
theorem HdOk.mono {n m : Nat} {h : Hd} (x : HdOk n h) (hm : n ≤ m) : HdOk m h := ⟨x.h0, x.h1, x.k0, x.k1, by have := x.la; omega⟩
end Rm
namespace Lg
open Db (RowI)
open Rm (Fr)
def Mk (w : World) (a : Option Addr) (n : Nat) (D : Nat → Int) : Prop := n = 0 ∨ ∃ b, a = some ⟨b, 0, none⟩ ∧ RowI w b n D
theorem Mk.below {w w' : World} {a : Option Addr} {n : Nat} {D : Nat → Int} (h : Mk w a n D) (hb : Below w.heap.size w w') : Mk w' a n D := by
 rcases h with h | ⟨b, e, h⟩
 · exact .inl h
 · exact .inr ⟨b, e, Nu.row_below h hb⟩
theorem Mk.eq {w : World} {a : Option Addr} {n : Nat} {D E : Nat → Int} (h : Mk w a n D) (e : ∀ i, i < n → D i = E i) : Mk w a n E := by
 rcases h with h | ⟨b, q, h⟩
 · exact .inl h
 · exact .inr ⟨b, q, Nu.row_eq h e⟩
theorem Mk.fr {Z : Nat → Prop} {w w' : World} {a : Option Addr} {n : Nat} {D : Nat → Int} (h : Mk w a n D) (hf : Fr Z w w') (hz : ∀ b, a = some ⟨b, 0, none⟩ → ¬ Z b) : Mk w' a n D := by
 rcases h with h | ⟨b, e, h⟩
 · exact .inl h
 · have hn := hz b e
   exact .inr ⟨b, e, ⟨Nat.lt_of_lt_of_le h.lt hf.size, fun i hi => (hf.cell (p := ⟨b, i, none⟩) h.lt hn).trans (h.rd i hi), fun i hi => (hf.frozen (p := ⟨b, i, none⟩) h.lt hn).trans (h.fr i hi)⟩⟩
theorem Mk.rd {w : World} {a : Option Addr} {l : List Int} {D : Nat → Int} (h : Mk w a l.length D) (e : ∀ i, i < l.length → D i = l.getD i 0) : Lst.Rd w a l := by
 rcases h with h | ⟨b, q, h⟩
 · exact .inl (List.length_eq_zero_iff.1 h)
 · exact .inr ⟨b, q, fun i hi => by rw [← e i hi]; exact h.rd i hi⟩
theorem mk_own {B : Nat} {w : World} {a : Option Addr} {c : Nat} {l : List Int} (h : Memb.Own B w a c l) : Mk w a l.length (fun i => l.getD i 0) := by
 rcases h.2 with ⟨_, e⟩ | ⟨g, c1, u1, e, hB, hg, _⟩
 · exact .inl e
 · injection e with e _ _
   subst e
   refine .inr ⟨g, rfl, ⟨(World.ownsRow.lt h g rfl).2, fun i hi => ?_, fun i hi => World.ownsRow.frozenAt h i⟩⟩
   rw [World.ownsRow.cellAt h i (by omega), List.getElem?_map]
   simp [List.getD, hi]
set_option maxHeartbeats 1600000 in
theorem markB (b n cap : Nat) (D : Nat → Int) (k0 : Int) (w : World) (hn : n ≤ 1048576) (hk0 : 0 ≤ k0) (hk1 : k0 ≤ 4611686018427387904) (hr : RowI w b n D) :
   Calls Tryz.prog 14 #[.slice (some ⟨b, 0, none⟩) n cap, .int .i64 k0] w (Nu.MarkPost b n k0 w) := by
 have HR0 : Hid (RowI w b n D) := hr
 clear hr
 go_enter Tryz.func14, Tryz.ntmps14
 go_wp2
 go_loopw [1, 5] (fun q i wr => ∃ j : Nat, j ≤ n ∧ i = .int .i64 j ∧ q = .int .i64 (k0 + (j : Int)) ∧ Hid (RowI wr b n (Nu.markD D k0 j)) ∧ Hid (w.grownBy wr (some b))) (fun _ i _ => n - (intOf i).toNat)
 case atStart => exact ⟨0, by omega, rfl, by simp, Nu.row_eq HR0.out (fun i _ => by unfold Nu.markD; rw [if_neg (by omega)]), World.grownBy.refl _ _⟩
 case round =>
   obtain ⟨j, hj, rfl, rfl, HR, HG⟩ := hrel
   by_cases hlt : j < n
   · have dj := HR.out.rd j hlt
     have fj := HR.out.fr j hlt
     have HR1 : Hid (RowI (wr.setCell ⟨b, j, none⟩ (.int .i64 (k0 + (j : Int)))) b n (Nu.markD D k0 (j + 1))) := Nu.row_eq (HR.out.put j hlt (k0 + (j : Int))) (fun i _ => by
       unfold Nu.markD
       by_cases e : i = j
       · subst e; rw [if_pos rfl, if_pos (by omega)]
       · rw [if_neg e]
         by_cases q : i < j
         · rw [if_pos q, if_pos (by omega)]
         · rw [if_neg q, if_neg (by omega)])
     have HG1 : Hid (w.grownBy (wr.setCell ⟨b, j, none⟩ (.int .i64 (k0 + (j : Int)))) (some b)) := Cur.grownBy_set HG.out _ _
     generalize Nu.markD D k0 j j = y at dj
     clear HR HG
     go_wp2
     go_roundw
     case rel => exact ⟨j + 1, by omega, by go_num, by go_num, HR1, HG1⟩
     case measure => simp [intOf]; omega
   · obtain rfl : j = n := by omega
     have HR2 : Hid (RowI wr b j (fun i => k0 + (i : Int))) := Nu.row_eq HR.out (fun i hi => by unfold Nu.markD; rw [if_pos hi])
     clear HR
     go_wp2
     go_ret
     exact ⟨rfl, HR2.out, HG.out⟩
def MkPost (a : Option Addr) (n : Nat) (k0 : Int) (w : World) (e : Ending) (w' : World) : Prop := e = .returned (.int .i64 (k0 + (n : Int))) ∧ Mk w' a n (fun i => k0 + (i : Int)) ∧ Fr (fun x => 0 < n ∧ a = some ⟨x, 0, none⟩) w w'
theorem markAny (a : Option Addr) (n cap : Nat) (D : Nat → Int) (k0 : Int) (w : World) (hn : n ≤ 1048576) (hk0 : 0 ≤ k0) (hk1 : k0 ≤ 4611686018427387904) (h : Mk w a n D) :
   Calls Tryz.prog 14 #[.slice a n cap, .int .i64 k0] w (MkPost a n k0 w) := by
 rcases h with h | ⟨b, e, h⟩
 · subst h
   have HF : Hid (Mk w a 0 (fun i => k0 + (i : Int)) ∧ Fr (fun x => 0 < 0 ∧ a = some ⟨x, 0, none⟩) w w) := ⟨.inl rfl, Fr.refl _ _⟩
   go_enter Tryz.func14, Tryz.ntmps14
   go_wp2
   refine wp_loop_rounds 1 ?_
   rw [rounds_succ]
   go_wp2
   go_ret
   exact ⟨by simp, HF.out⟩
 · subst e
   by_cases h0 : n = 0
   · subst h0
     have HF : Hid (Mk w (some ⟨b, 0, none⟩) 0 (fun i => k0 + (i : Int)) ∧ Fr (fun x => 0 < 0 ∧ some (⟨b, 0, none⟩ : Addr) = some ⟨x, 0, none⟩) w w) := ⟨.inl rfl, Fr.refl _ _⟩
     go_enter Tryz.func14, Tryz.ntmps14
     go_wp2
     refine wp_loop_rounds 1 ?_
     rw [rounds_succ]
     go_wp2
     go_ret
     exact ⟨by simp, HF.out⟩
   refine (markB b n cap D k0 w hn hk0 hk1 h).mono fun e w' q => ?_
   obtain ⟨e1, e2, e3⟩ := q
   exact ⟨e1, .inr ⟨b, rfl, e2⟩, (Rm.Fr.of_grown e3).mono fun x hx _ => by have q : x = b := hx; exact ⟨by omega, by rw [q]⟩⟩
def ahead (T : List (List Int)) : Nat → Nat
 | 0 => 0
 | i + 1 => ahead T i + (T.getD i []).length
theorem ahead_le (T : List (List Int)) (m : Nat) (h : ∀ i, i < T.length → (T.getD i []).length ≤ m) : ∀ i, i ≤ T.length → ahead T i ≤ i * m := by
 intro i
 induction i with
 | zero => intro _; simp [ahead]
 | succ i ih =>
   intro hi
   have := ih (by omega)
   have := h i (by omega)
   rw [ahead, Nat.succ_mul]; omega
structure Ml (w : World) (so qo : Option Addr) (n : Nat) (T : List (List Int)) (f : At) (D : Nat → Int) (E : Nat → Nat → Int) : Prop where
 seen : Mk w so n D
 head : T.length = 0 ∨ ∃ tb, qo = some ⟨tb, 0, none⟩ ∧ tb < w.heap.size ∧ ∀ i, i < T.length → w.cell? ⟨tb, i, none⟩ = some (.slice (f i).1 (T.getD i []).length (f i).2)
 row : ∀ i, i < T.length → Mk w (f i).1 (T.getD i []).length (E i)
 s1 : ∀ i, i < T.length → ∀ b, (f i).1 = some ⟨b, 0, none⟩ → so ≠ some ⟨b, 0, none⟩ ∧ qo ≠ some ⟨b, 0, none⟩
 s2 : ∀ i k, i < T.length → k < T.length → i ≠ k → ∀ b, (f i).1 = some ⟨b, 0, none⟩ → (f k).1 ≠ some ⟨b, 0, none⟩
 s3 : 0 < T.length → ∀ b, so = some ⟨b, 0, none⟩ → qo ≠ some ⟨b, 0, none⟩
section
variable {w : World} {so qo : Option Addr} {n : Nat} {T : List (List Int)} {f : At} {D : Nat → Int} {E : Nat → Nat → Int}
theorem Ml.below {w' : World} (h : Ml w so qo n T f D E) (hb : Below w.heap.size w w') : Ml w' so qo n T f D E where
 seen := h.seen.below hb
 head := by
   rcases h.head with e | ⟨tb, e, hlt, hc⟩
   · exact .inl e
   · exact .inr ⟨tb, e, Nat.lt_of_lt_of_le hlt hb.size, fun i hi => (hb.cell (p := ⟨tb, i, none⟩) hlt).trans (hc i hi)⟩
 row := fun i hi => (h.row i hi).below hb
 s1 := h.s1
 s2 := h.s2
 s3 := h.s3
def rowM (T : List (List Int)) (E : Nat → Nat → Int) (k0 : Int) (j i q : Nat) : Int := if i < j then k0 + (ahead T i : Int) + (q : Int) else E i q
theorem ml_step {w' : World} {k0 : Int} {j : Nat} (h : Ml w so qo n T f D (rowM T E k0 j)) (hj : j < T.length) (hm : Mk w' (f j).1 (T.getD j []).length (fun i => k0 + (ahead T j : Int) + (i : Int))) (hf : Fr (fun x => (f j).1 = some ⟨x, 0, none⟩) w w') :
   Ml w' so qo n T f D (rowM T E k0 (j + 1)) where
 seen := h.seen.fr hf (fun b e q => (h.s1 j hj b q).1 e)
 head := by
   rcases h.head with e | ⟨tb, e, hlt, hc⟩
   · exact .inl e
   · exact .inr ⟨tb, e, Nat.lt_of_lt_of_le hlt hf.size, fun i hi => (hf.cell (p := ⟨tb, i, none⟩) hlt (fun q => (h.s1 j hj tb q).2 e)).trans (hc i hi)⟩
 row := fun i hi => by
   by_cases e : i = j
   · subst e
     exact hm.eq fun q _ => by unfold rowM; rw [if_pos (by omega)]
   · refine ((h.row i hi).fr hf (fun b q q' => h.s2 i j hi hj e b q q')).eq fun q _ => ?_
     unfold rowM
     by_cases k : i < j
     · rw [if_pos k, if_pos (by omega)]
     · rw [if_neg k, if_neg (by omega)]
 s1 := h.s1
 s2 := h.s2
 s3 := h.s3
end
set_option maxHeartbeats 1600000 in
theorem markSS (so qo : Option Addr) (n tc : Nat) (T : List (List Int)) (f : At) (D : Nat → Int) (E : Nat → Nat → Int) (k0 : Int) (w : World) (hT : T.length ≤ 1048576) (hTT : ∀ i, i < T.length → (T.getD i []).length ≤ 1048576) (hk0 : 0 ≤ k0) (hk1 : k0 ≤ 1000000000) (h : Ml w so qo n T f D E) :
   Calls Tryz.prog 46 #[.slice qo T.length tc, .int .i64 k0] w fun e w' => e = .returned (.int .i64 (k0 + (ahead T T.length : Int))) ∧ Ml w' so qo n T f D (rowM T E k0 T.length) ∧ Fr (fun x => ∃ i, i < T.length ∧ (f i).1 = some ⟨x, 0, none⟩) w w' := by
 have HAH : Hid (∀ i, i ≤ T.length → ahead T i ≤ 1048576 * 1048576) := fun i hi => Nat.le_trans (ahead_le T 1048576 hTT i hi) (Nat.mul_le_mul_right _ (by omega))
 have HTT : Hid (∀ i, i < T.length → (T.getD i []).length ≤ 1048576) := hTT
 have HSU : Hid (∀ i, i < T.length → (ahead T (i + 1) : Int) = (ahead T i : Int) + ((T.getD i []).length : Int)) := fun i _ => by rw [ahead]; omega
 have H0 : Hid (Ml w so qo n T f D (rowM T E k0 0)) := ⟨h.seen, h.head, fun i hi => (h.row i hi).eq fun q _ => by unfold rowM; rw [if_neg (by omega)], h.s1, h.s2, h.s3⟩
 have HF0 : Hid (Fr (fun x => ∃ i, i < T.length ∧ (f i).1 = some ⟨x, 0, none⟩) w w) := Fr.refl _ _
 have HA0 : Hid ((ahead T 0 : Int) = 0) := rfl
 clear h hTT
 go_enter Tryz.func46, Tryz.ntmps46
 go_wp2
 go_loopw [1, 5] (fun q i wr => ∃ j : Nat, j ≤ T.length ∧ i = .int .i64 j ∧ (∃ s : Int, s = (ahead T j : Int) ∧ q = .int .i64 (k0 + s)) ∧ Hid (Ml wr so qo n T f D (rowM T E k0 j)) ∧ Hid (Fr (fun x => ∃ i, i < T.length ∧ (f i).1 = some ⟨x, 0, none⟩) w wr)) (fun _ i _ => T.length - (intOf i).toNat)
 case atStart => exact ⟨0, by omega, rfl, ⟨0, HA0.out.symm, by simp⟩, H0, HF0⟩
 case round =>
   obtain ⟨j, hj, rfl, ⟨s, hs, rfl⟩, HM, HF⟩ := hrel
   have hsb : 0 ≤ s ∧ s ≤ 1099511627776 := by have := HAH.out j hj; omega
   have HS : Hid (s = (ahead T j : Int)) := hs
   clear hs
   by_cases hlt : j < T.length
   · have hji : (j : Int) < (T.length : Int) := by omega
     obtain ⟨tb, rfl, htl, hc⟩ : ∃ tb, qo = some ⟨tb, 0, none⟩ ∧ tb < wr.heap.size ∧ ∀ i, i < T.length → wr.cell? ⟨tb, i, none⟩ = some (.slice (f i).1 (T.getD i []).length (f i).2) := by
       rcases HM.out.head with e | q
       · omega
       · exact q
     have cj := hc j hlt
     have hln := HTT.out j hlt
     have hmk := markAny (f j).1 (T.getD j []).length (f j).2 (rowM T E k0 j j) (k0 + s) wr hln (by omega) (by omega) (HM.out.row j hlt)
     have HMX : Hid (∀ w' : World, Mk w' (f j).1 (T.getD j []).length (fun i => k0 + s + (i : Int)) → Fr (fun x => 0 < (T.getD j []).length ∧ (f j).1 = some ⟨x, 0, none⟩) wr w' → Ml w' so (some ⟨tb, 0, none⟩) n T f D (rowM T E k0 (j + 1)) ∧ Fr (fun x => ∃ i, i < T.length ∧ (f i).1 = some ⟨x, 0, none⟩) w w') := fun w' q1 q2 => by
       rw [HS.out] at q1
       exact ⟨ml_step HM.out hlt q1 (q2.mono fun x hx _ => hx.2), HF.out.trans q2 (fun x hx _ => ⟨j, hlt, hx.2⟩)⟩
     have HSN : Hid (s + ((T.getD j []).length : Int) = (ahead T (j + 1) : Int)) := by show _ = _; rw [HSU.out j hlt, HS.out]
     generalize f j = p at cj hmk HMX
     generalize (T.getD j []).length = nj at cj hmk HMX HSN hln
     obtain ⟨pa, pc⟩ := p
     dsimp only at cj hmk HMX
     clear hc HM HF HS
     go_wp2_with fail
     refine hmk.mono ?_
     rintro e w2 ⟨rfl, hm, hf⟩
     have HM2 : Hid _ := HMX.out w2 hm hf
     have hw : IntKind.i64.wrap (k0 + s + (nj : Int)) = k0 + s + (nj : Int) := by rw [IntKind.wrap_i64]; omega
     clear hmk HMX hm hf cj
     go_wp2
     go_roundw
     case rel => exact ⟨j + 1, by omega, by go_num, ⟨s + (nj : Int), HSN.out, by rw [Int.add_assoc]⟩, HM2.out.1, HM2.out.2⟩
     case measure => simp [intOf]; omega
   · obtain rfl : j = T.length := by omega
     go_wp2
     go_ret
     exact ⟨by rw [HS.out]; rfl, HM.out, HF.out⟩
theorem mk_marks {w : World} {a : Option Addr} {n : Nat} {k : Int} (h : Mk w a n (fun i => k + (i : Int))) : Lst.Rd w a (Lsx.marks k n) := by
 rcases h with h | ⟨b, q, h⟩
 · left; subst h; rfl
 · exact .inr ⟨b, q, fun i hi => by rw [Lsx.marks_length] at hi; rw [Lsx.marks_get k n i hi]; exact h.rd i hi⟩
theorem ahead_mono (T : List (List Int)) : ∀ i k, i ≤ k → ahead T i ≤ ahead T k := by
 intro i k h
 induction k with
 | zero => obtain rfl : i = 0 := by omega
           exact Nat.le_refl _
 | succ k ih =>
   by_cases e : i = k + 1
   · subst e; exact Nat.le_refl _
   · have := ih (by omega); rw [ahead]; omega
set_option maxHeartbeats 1600000 in
theorem heldSS (so qo : Option Addr) (n tc : Nat) (T : List (List Int)) (f : At) (D : Nat → Int) (E : Nat → Nat → Int) (k0 : Int) (w : World) (hT : T.length ≤ 1048576) (hk0 : 0 ≤ k0) (hk1 : k0 + (ahead T T.length : Int) ≤ 1048576) (h : Ml w so qo n T f D E) (he : ∀ i q, i < T.length → q < (T.getD i []).length → E i q = k0 + (ahead T i : Int) + (q : Int)) :
   Calls Tryz.prog 47 #[.slice qo T.length tc, .int .i64 k0] w fun e w' => e = .returned (.int .i64 (k0 + (ahead T T.length : Int))) ∧ Below w.heap.size w w' := by
 have HSU : Hid (∀ i, i < T.length → (ahead T (i + 1) : Int) = (ahead T i : Int) + ((T.getD i []).length : Int)) := fun i _ => by rw [ahead]; omega
 have HMO : Hid (∀ i, i ≤ T.length → (ahead T i : Int) ≤ (ahead T T.length : Int)) := fun i hi => by have := ahead_mono T i T.length hi; omega
 have HA0 : Hid ((ahead T 0 : Int) = 0) := rfl
 have HRW : Hid (∀ (X : World) (i : Nat), Below w.heap.size w X → i < T.length → Lst.Rd X (f i).1 (Lsx.marks (k0 + (ahead T i : Int)) (T.getD i []).length)) := fun X i hX hi => mk_marks (((h.row i hi).eq fun q hq => he i q hi hq).below hX)
 have HHD : Hid (T.length = 0 ∨ ∃ tb, qo = some ⟨tb, 0, none⟩ ∧ tb < w.heap.size ∧ ∀ i, i < T.length → w.cell? ⟨tb, i, none⟩ = some (.slice (f i).1 (T.getD i []).length (f i).2)) := h.head
 have HBR : Hid (Below w.heap.size w w) := Below.refl _ _
 clear h he
 go_enter Tryz.func47, Tryz.ntmps47
 go_wp2
 go_loopw [1, 5] (fun q i wr => ∃ j : Nat, j ≤ T.length ∧ i = .int .i64 j ∧ (∃ s : Int, s = (ahead T j : Int) ∧ q = .int .i64 (k0 + s)) ∧ Hid (Below w.heap.size w wr)) (fun _ i _ => T.length - (intOf i).toNat)
 case atStart => exact ⟨0, by omega, rfl, ⟨0, HA0.out.symm, by simp⟩, HBR⟩
 case round =>
   obtain ⟨j, hj, rfl, ⟨s, hs, rfl⟩, HB⟩ := hrel
   have hsb : 0 ≤ s ∧ k0 + s ≤ 1048576 := by have := HMO.out j hj; omega
   have HS : Hid (s = (ahead T j : Int)) := hs
   clear hs
   by_cases hlt : j < T.length
   · have hji : (j : Int) < (T.length : Int) := by omega
     obtain ⟨tb, rfl, htl, hc⟩ : ∃ tb, qo = some ⟨tb, 0, none⟩ ∧ tb < w.heap.size ∧ ∀ i, i < T.length → w.cell? ⟨tb, i, none⟩ = some (.slice (f i).1 (T.getD i []).length (f i).2) := by
       rcases HHD.out with e | q
       · omega
       · exact q
     have cj := (HB.out.cell (p := ⟨tb, j, none⟩) htl).trans (hc j hlt)
     have HSN : Hid (s + ((T.getD j []).length : Int) = (ahead T (j + 1) : Int)) := by show _ = _; rw [HSU.out j hlt, HS.out]
     have hln : k0 + s + ((T.getD j []).length : Int) ≤ 1048576 := by have := HMO.out (j + 1) hlt; have := HSN.out; omega
     have hrd := HRW.out wr j HB.out hlt
     rw [← HS.out] at hrd
     generalize f j = p at cj hrd
     generalize (T.getD j []).length = nj at cj hrd HSN hln
     obtain ⟨pa, pc⟩ := p
     dsimp only at cj hrd
     have hh := Lsx.held (k0 + s) nj pa pc wr (by omega) (by omega) (by omega) hrd
     clear hc hrd HS
     go_wp2_with fail
     refine hh.mono ?_
     rintro e w2 ⟨rfl, rfl⟩
     have hw : IntKind.i64.wrap (k0 + s + (nj : Int)) = k0 + s + (nj : Int) := by rw [IntKind.wrap_i64]; omega
     have hnn : ¬ k0 + s + (nj : Int) < 0 := by omega
     clear hh cj
     go_wp2
     go_roundw
     case rel => exact ⟨j + 1, by omega, by go_num, ⟨s + (nj : Int), HSN.out, by rw [Int.add_assoc]⟩, HB⟩
     case measure => simp [intOf]; omega
   · obtain rfl : j = T.length := by omega
     go_wp2
     go_ret
     exact ⟨by rw [HS.out]; rfl, HB.out⟩
theorem ml_seen {w w' : World} {so qo : Option Addr} {n : Nat} {T : List (List Int)} {f : At} {D : Nat → Int} {E : Nat → Nat → Int} {D' : Nat → Int} (h : Ml w so qo n T f D E) (hm : Mk w' so n D') (hf : Fr (fun x => 0 < n ∧ so = some ⟨x, 0, none⟩) w w') : Ml w' so qo n T f D' E where
 seen := hm
 head := by
   rcases h.head with e | ⟨tb, e, hlt, hc⟩
   · exact .inl e
   · refine .inr ⟨tb, e, Nat.lt_of_lt_of_le hlt hf.size, fun i hi => (hf.cell (p := ⟨tb, i, none⟩) hlt (fun q => h.s3 (by omega) tb q.2 e)).trans (hc i hi)⟩
 row := fun i hi => (h.row i hi).fr hf (fun b e q => (h.s1 i hi b e).1 q.2)
 s1 := h.s1
 s2 := h.s2
 s3 := h.s3
set_option maxHeartbeats 1600000 in
theorem markLog (so qo : Option Addr) (n sc tc : Nat) (T : List (List Int)) (f : At) (D : Nat → Int) (E : Nat → Nat → Int) (k0 : Int) (w : World) (hn : n ≤ 1048576) (hT : T.length ≤ 1048576) (hTT : ∀ i, i < T.length → (T.getD i []).length ≤ 1048576) (hk0 : 0 ≤ k0) (hk1 : k0 ≤ 100000000) (h : Ml w so qo n T f D E) :
   Calls Tryz.prog 23 #[.agg #[.slice so n sc, .slice qo T.length tc], .int .i64 k0] w fun e w' => e = .returned (.int .i64 (k0 + (n : Int) + (ahead T T.length : Int))) ∧ Ml w' so qo n T f (fun i => k0 + (i : Int)) (fun i q => k0 + (n : Int) + (ahead T i : Int) + (q : Int)) ∧ Fr (fun x => (0 < n ∧ so = some ⟨x, 0, none⟩) ∨ ∃ i, i < T.length ∧ (f i).1 = some ⟨x, 0, none⟩) w w' := by
 have P0 : Hid (_) := box1 w (.slice so n sc) (.slice qo T.length tc) 39
 have H0 : Hid (Ml w so qo n T f D E) := h
 have HMX : Hid (∀ W : World, Ml W so qo n T f (fun i => k0 + (i : Int)) E → Calls Tryz.prog 46 #[.slice qo T.length tc, .int .i64 (k0 + (n : Int))] W fun e w' => e = .returned (.int .i64 (k0 + (n : Int) + (ahead T T.length : Int))) ∧ Ml w' so qo n T f (fun i => k0 + (i : Int)) (rowM T E (k0 + (n : Int)) T.length) ∧ Fr (fun x => ∃ i, i < T.length ∧ (f i).1 = some ⟨x, 0, none⟩) W w') := fun W q => markSS so qo n tc T f _ E (k0 + (n : Int)) W hT hTT (by omega) (by omega) q
 have hsl : ∀ b, 0 < n → so = some ⟨b, 0, none⟩ → b < w.heap.size := fun b h0 e => by
   rcases h.seen with q | ⟨b', q, hr⟩
   · omega
   · rw [e] at q; injection q with q; injection q with q; subst q; exact hr.lt
 have HSL : Hid (∀ b, 0 < n → so = some ⟨b, 0, none⟩ → b < w.heap.size) := hsl
 clear h hTT hsl
 go_enter Tryz.func23, Tryz.ntmps23
 go_upto_region 1 with fail
 generalize w.alloc (.cells #[.slice so n sc, .slice qo T.length tc] 39) = W0 at P0 ⊢
 obtain ⟨B0, x0, x1, hl⟩ := P0
 have HM0 : Hid (Ml W0 so qo n T f D E) := H0.out.below B0
 have HB0 : Hid (Below w.heap.size w W0) := B0
 have hmk := markAny so n sc D k0 W0 hn hk0 (by omega) HM0.out.seen
 clear B0 H0
 go_wp2_with fail
 refine hmk.mono ?_
 rintro e w1 ⟨rfl, hm, hf⟩
 have HM1 : Hid (Ml w1 so qo n T f (fun i => k0 + (i : Int)) E) := ml_seen HM0.out hm hf
 have y1 : w1.cell? ⟨w.heap.size, 1, none⟩ = some (.slice qo T.length tc) := (hf.cell (p := ⟨w.heap.size, 1, none⟩) hl (fun q => by have := HSL.out _ q.1 q.2; simp at this)).trans x1
 have HF1 : Hid (Fr (fun x => 0 < n ∧ so = some ⟨x, 0, none⟩) w w1) := (Fr.of_below HB0.out (fun x => 0 < n ∧ so = some ⟨x, 0, none⟩)).trans hf (fun x hx _ => hx)
 clear hm hf hmk HM0 HB0 x0 x1
 go_wp2_with fail
 refine (HMX.out w1 HM1.out).mono ?_
 rintro e w2 ⟨rfl, hm, hf⟩
 have HR : Hid (Ml w2 so qo n T f (fun i => k0 + (i : Int)) (fun i q => k0 + (n : Int) + (ahead T i : Int) + (q : Int)) ∧ Fr (fun x => (0 < n ∧ so = some ⟨x, 0, none⟩) ∨ ∃ i, i < T.length ∧ (f i).1 = some ⟨x, 0, none⟩) w w2) :=
   ⟨⟨hm.seen, hm.head, fun i hi => (hm.row i hi).eq (fun q _ => by unfold rowM; rw [if_pos hi]), hm.s1, hm.s2, hm.s3⟩, (HF1.out.mono (fun x hx _ => .inl hx)).trans hf (fun x hx _ => .inr hx)⟩
 clear hm hf HM1 HF1 HMX y1
 go_wp2
 go_ret
 exact ⟨rfl, HR.out⟩
set_option maxHeartbeats 1600000 in
theorem heldLog (so qo : Option Addr) (n sc tc : Nat) (T : List (List Int)) (f : At) (k0 : Int) (w : World) (hT : T.length ≤ 1048576) (hk0 : 0 ≤ k0) (hk1 : k0 + (n : Int) + (ahead T T.length : Int) ≤ 1048576) (h : Ml w so qo n T f (fun i => k0 + (i : Int)) (fun i q => k0 + (n : Int) + (ahead T i : Int) + (q : Int))) :
   Calls Tryz.prog 24 #[.agg #[.slice so n sc, .slice qo T.length tc], .int .i64 k0] w fun e w' => e = .returned (.int .i64 (k0 + (n : Int) + (ahead T T.length : Int))) ∧ Below w.heap.size w w' := by
 have P0 : Hid (_) := box1 w (.slice so n sc) (.slice qo T.length tc) 39
 have H0 : Hid (Ml w so qo n T f (fun i => k0 + (i : Int)) (fun i q => k0 + (n : Int) + (ahead T i : Int) + (q : Int))) := h
 have ha : (0 : Int) ≤ (ahead T T.length : Int) := by omega
 have HSS : Hid (∀ W : World, Below w.heap.size w W → Calls Tryz.prog 47 #[.slice qo T.length tc, .int .i64 (k0 + (n : Int))] W fun e w' => e = .returned (.int .i64 (k0 + (n : Int) + (ahead T T.length : Int))) ∧ Below W.heap.size W w') := fun W hW => heldSS so qo n tc T f _ _ (k0 + (n : Int)) W hT (by omega) hk1 (H0.out.below hW) (fun i q _ _ => rfl)
 generalize (ahead T T.length : Int) = hi at HSS hk1 ha ⊢
 clear h
 go_enter Tryz.func24, Tryz.ntmps24
 go_upto_region 1 with fail
 generalize w.alloc (.cells #[.slice so n sc, .slice qo T.length tc] 39) = W0 at P0 ⊢
 obtain ⟨B0, x0, x1, hl⟩ := P0
 have HB0 : Hid (Below w.heap.size w W0) := B0
 have hh := Lsx.held k0 n so sc W0 hk0 (by omega) (by omega) (mk_marks (H0.out.seen.below B0))
 have hnn : ¬ k0 + (n : Int) < 0 := by omega
 have hnn2 : ¬ k0 + (n : Int) + hi < 0 := by omega
 clear B0 H0
 go_wp2_with fail
 refine hh.mono ?_
 rintro e w1 ⟨rfl, rfl⟩
 clear hh
 go_wp2_with fail
 refine (HSS.out _ HB0.out).mono ?_
 rintro e w2 ⟨rfl, hb⟩
 have HB2 : Hid (Below w.heap.size w w2) := HB0.out.trans (hb.mono HB0.out.size)
 clear hb HSS HB0 x0 x1
 go_wp2
 go_ret
 exact ⟨rfl, HB2.out⟩
end Lg
namespace Gx
open Db (RowI)
open Rm (Fr)
open Lg (At Mk Ml RdL OwnLL CopyL atL)
open Kn (K)
def Rg (lo hi x : Nat) : Prop := lo ≤ x ∧ x < hi
structure CpI (lo hi : Nat) (W : World) (a : Option Addr) (l : List Int) : Prop where
 r : Mk W a l.length (fun i => l.getD i 0)
 bl : ∀ b, a = some ⟨b, 0, none⟩ → Rg lo hi b
 hw : hi ≤ W.heap.size
section
variable {lo hi : Nat} {W W' : World} {a : Option Addr} {l : List Int}
theorem CpI.below (h : CpI lo hi W a l) (hb : Below W.heap.size W W') : CpI lo hi W' a l := ⟨h.r.below hb, h.bl, Nat.le_trans h.hw hb.size⟩
theorem CpI.fr {Z : Nat → Prop} (h : CpI lo hi W a l) (hf : Fr Z W W') (hz : ∀ x, Z x → x < lo ∨ hi ≤ x) : CpI lo hi W' a l := ⟨h.r.fr hf (fun b e q => by have := h.bl b e; have := hz b q; unfold Rg at *; omega), h.bl, Nat.le_trans h.hw hf.size⟩
theorem CpI.rd (h : CpI lo hi W a l) : Lst.Rd W a l := h.r.rd (fun _ _ => rfl)
theorem CpI.lt (h : CpI lo hi W a l) : ∀ c, a = some ⟨c, 0, none⟩ → c < W.heap.size := fun c e => by have := h.bl c e; have := h.hw; unfold Rg at *; omega
end
theorem cpI_to {w w' : World} {l : List Int} (h : RowI w' w.heap.size l.length (fun i => l.getD i 0)) (hb : Below w.heap.size w w') : CpI w.heap.size w'.heap.size w' (some ⟨w.heap.size, 0, none⟩) l :=
 ⟨.inr ⟨_, rfl, h⟩, fun b e => by injection e with e; injection e with e; subst e; exact ⟨Nat.le_refl _, h.lt⟩, Nat.le_refl _⟩
theorem markI {lo hi : Nat} (a : Option Addr) (cap : Nat) (l : List Int) (k0 : Int) (w : World) (hn : l.length ≤ 1048576) (hk0 : 0 ≤ k0) (hk1 : k0 ≤ 4611686018427387904) (h : CpI lo hi w a l) :
   Calls Tryz.prog 14 #[.slice a l.length cap, .int .i64 k0] w fun e w' => e = .returned (.int .i64 (k0 + (l.length : Int))) ∧ Mk w' a l.length (fun i => k0 + (i : Int)) ∧ Fr (Rg lo hi) w w' :=
 (Lg.markAny a l.length cap _ k0 w hn hk0 hk1 h.r).mono fun e w' q => ⟨q.1, q.2.1, q.2.2.mono fun x hx _ => h.bl x hx.2⟩
structure CpK (lo hi : Nat) (W : World) (g : Nat) (L : List K) : Prop where
 m : Lc.Made W g L.length L L.length
 bl : Rg lo hi g
 hw : hi ≤ W.heap.size
theorem CpK.below {lo hi : Nat} {W W' : World} {g : Nat} {L : List K} (h : CpK lo hi W g L) (hb : Below W.heap.size W W') : CpK lo hi W' g L := ⟨h.m.below hb, h.bl, Nat.le_trans h.hw hb.size⟩
theorem CpK.lt {lo hi : Nat} {W : World} {g : Nat} {L : List K} (h : CpK lo hi W g L) : g < W.heap.size := h.m.lt
theorem cpK_to {w w' : World} {L : List K} (h : Lc.Made w' w.heap.size L.length L L.length) (hb : Below w.heap.size w w') : CpK w.heap.size w'.heap.size w' w.heap.size L := ⟨h, ⟨Nat.le_refl _, h.lt⟩, Nat.le_refl _⟩
structure CpL (lo hi : Nat) (W : World) (so : Option Addr) (sc : Nat) (S : List Int) (qo : Option Addr) (tc : Nat) (T : List (List Int)) (f : At) : Prop where
 ml : Ml W so qo S.length T f (fun i => S.getD i 0) (fun i q => (T.getD i []).getD q 0)
 sn : so = none → sc = 0
 tn : ∀ i, i < T.length → (f i).1 = none → (f i).2 = 0
 fit : S.length ≤ sc
 b1 : ∀ b, so = some ⟨b, 0, none⟩ → Rg lo hi b
 b2 : ∀ b o, qo = some ⟨b, o, none⟩ → Rg lo hi b
 b3 : ∀ i, i < T.length → ∀ b, (f i).1 = some ⟨b, 0, none⟩ → Rg lo hi b
 hw : hi ≤ W.heap.size
section
variable {lo hi : Nat} {W W' : World} {so : Option Addr} {sc : Nat} {S : List Int} {qo : Option Addr} {tc : Nat} {T : List (List Int)} {f : At}
theorem ml_fr {Z : Nat → Prop} {n : Nat} {D : Nat → Int} {E : Nat → Nat → Int} (h : Ml W so qo n T f D E) (hf : Fr Z W W') (h1 : ∀ b, so = some ⟨b, 0, none⟩ → ¬ Z b) (h2 : ∀ b, qo = some ⟨b, 0, none⟩ → ¬ Z b) (h3 : ∀ i, i < T.length → ∀ b, (f i).1 = some ⟨b, 0, none⟩ → ¬ Z b) : Ml W' so qo n T f D E where
 seen := h.seen.fr hf h1
 head := by
   rcases h.head with e | ⟨tb, e, hlt, hc⟩
   · exact .inl e
   · exact .inr ⟨tb, e, Nat.lt_of_lt_of_le hlt hf.size, fun i hi => (hf.cell (p := ⟨tb, i, none⟩) hlt (h2 tb e)).trans (hc i hi)⟩
 row := fun i hi => (h.row i hi).fr hf (h3 i hi)
 s1 := h.s1
 s2 := h.s2
 s3 := h.s3
theorem CpL.below (h : CpL lo hi W so sc S qo tc T f) (hb : Below W.heap.size W W') : CpL lo hi W' so sc S qo tc T f := ⟨h.ml.below hb, h.sn, h.tn, h.fit, h.b1, h.b2, h.b3, Nat.le_trans h.hw hb.size⟩
theorem CpL.fr {Z : Nat → Prop} (h : CpL lo hi W so sc S qo tc T f) (hf : Fr Z W W') (hz : ∀ x, Z x → x < lo ∨ hi ≤ x) : CpL lo hi W' so sc S qo tc T f := by
 have k : ∀ b, Rg lo hi b → ¬ Z b := fun b hb q => by have := hz b q; unfold Rg at *; omega
 exact ⟨ml_fr h.ml hf (fun b e => k b (h.b1 b e)) (fun b e => k b (h.b2 b 0 e)) (fun i hi b e => k b (h.b3 i hi b e)), h.sn, h.tn, h.fit, h.b1, h.b2, h.b3, Nat.le_trans h.hw hf.size⟩
theorem CpL.rd (h : CpL lo hi W so sc S qo tc T f) : RdL W so qo S T f := by
 have k : ∀ b, Rg lo hi b → b < W.heap.size := fun b hb => by have := h.hw; unfold Rg at *; omega
 refine ⟨h.ml.seen.rd (fun _ _ => rfl), fun c e => k c (h.b1 c e), ?_, fun i hi => (h.ml.row i hi).rd (fun _ _ => rfl), fun i hi c e => k c (h.b3 i hi c e)⟩
 rcases h.ml.head with e | ⟨tb, e, hlt, hc⟩
 · exact .inl (List.length_eq_zero_iff.1 e)
 · exact .inr ⟨tb, 0, e, hlt, fun i hi => by rw [Nat.zero_add]; exact hc i hi⟩
end
theorem cpL_to {w w' : World} {S : List Int} {T : List (List Int)} {s p : Nat} {q : Nat → Nat} (h : CopyL w w' S T s p q) : CpL w.heap.size w'.heap.size w' (some ⟨s, 0, none⟩) S.length S (some ⟨p, 0, none⟩) T.length T (atL q T) := by
 have hq : ∀ i, i < T.length → p < q i := fun i hi => h.told.ne i hi
 have hql : ∀ i, i < T.length → q i < w'.heap.size := fun i hi => (h.told.row i hi).lt
 have hs := h.seen.lt
 have hp := h.told.lt
 have hlo := h.lo
 have hsp := h.sp
 have inj : ∀ (x y : Nat), (some ⟨x, 0, none⟩ : Option Addr) = some ⟨y, 0, none⟩ → x = y := fun x y e => by injection e with e; injection e with e
 refine ⟨⟨.inr ⟨s, rfl, h.seen⟩, .inr ⟨p, rfl, hp, fun i hi => h.told.hd i hi⟩, fun i hi => .inr ⟨q i, rfl, h.told.row i hi⟩, fun i hi b e => ?_, fun i k hi hk hik b e e' => ?_, fun _ b e e' => ?_⟩, (fun e => by cases e), (fun i hi e => by cases e), Nat.le_refl _, fun b e => ?_, fun b o e => ?_, fun i hi b e => ?_, Nat.le_refl _⟩
 · have e1 := inj _ _ e
   have := hq i hi
   exact ⟨fun z => by have := inj _ _ z; omega, fun z => by have := inj _ _ z; omega⟩
 · have e1 := inj _ _ e
   have e2 := inj _ _ e'
   rcases Nat.lt_or_gt_of_ne hik with z | z
   · have := h.told.up i k z hk; omega
   · have := h.told.up k i z hi; omega
 · have e1 := inj _ _ e
   have e2 := inj _ _ e'
   omega
 · have e1 := inj _ _ e; unfold Rg; omega
 · injection e with e; injection e with e; unfold Rg; omega
 · have e1 := inj _ _ e; have := hq i hi; have := hql i hi; unfold Rg; omega
theorem cpL_own {B : Nat} {w : World} {so : Option Addr} {sc : Nat} {S : List Int} {vo : Option Addr} {vc : Nat} {T : List (List Int)} {f : At} (h1 : Memb.Own B w so sc S) (h2 : OwnLL B w (.slice vo T.length vc) T f) (h3 : ∀ i, i < T.length → ∀ g, (f i).1 = some ⟨g, 0, none⟩ → so ≠ some ⟨g, 0, none⟩) (hs : S.length ≤ sc) : CpL B w.heap.size w so sc S vo vc T f := by
 obtain ⟨k1, k2, k3⟩ := Lg.own_log h1 h2
 have ne : ∀ {t t' : TypeId} {v v' : Value} {n n' : Nat} {xs xs' : List Value}, w.ownsRow B t 1 v n xs → w.ownsRow B t' 1 v' n' xs' → t ≠ t' → ∀ g, v.ownBlock = some g → v'.ownBlock ≠ some g := by
   intro t t' v v' n n' xs xs' h h' ht g e e'
   rcases h.2 with ⟨q, _⟩ | ⟨g1, c1, u1, q, _, k1, _⟩
   · rw [q] at e; simp [Value.ownBlock] at e
   rcases h'.2 with ⟨q', _⟩ | ⟨g2, c2, u2, q', _, k2, _⟩
   · rw [q'] at e'; simp [Value.ownBlock] at e'
   rw [q] at e; rw [q'] at e'
   simp [Value.ownBlock] at e e'
   subst e e'
   rw [k1] at k2; simp at k2; exact ht k2.2
 refine ⟨⟨Lg.mk_own h1, ?_, fun i hi => Lg.mk_own (h2.each i hi), fun i hi b e => ⟨h3 i hi b e, fun q => ne (h2.each i hi) h2.row (by decide) b (by rw [e]; rfl) (by rw [q]; rfl)⟩, fun i k hi hk hik b e e' => ?_, fun _ b e q => ne h1 h2.row (by decide) b (by rw [e]; rfl) (by rw [q]; rfl)⟩, k2, k3, hs, fun b e => World.ownsRow.lt h1 b (by rw [e]; rfl), fun b o e => World.ownsRow.lt h2.row b (by rw [e]; rfl), fun i hi b e => World.ownsRow.lt (h2.each i hi) b (by rw [e]; rfl), Nat.le_refl _⟩
 · rcases k1.told with e | ⟨tb, off, e, hlt, hc⟩
   · exact .inl (by rw [e]; rfl)
   · by_cases h0 : T.length = 0
     · exact .inl h0
     · have : off = 0 := by
         rcases h2.row.2 with ⟨_, z⟩ | ⟨g, _, _, z, _⟩
         · omega
         · injection z with z _ _
           rw [e] at z; injection z with z; injection z
       subst this
       exact .inr ⟨tb, e, hlt, fun i hi => by have := hc i hi; rwa [Nat.zero_add] at this⟩
 · rcases Nat.lt_or_gt_of_ne hik with z | z
   · exact h2.ap i k z hk b e e'
   · exact h2.ap k i z hi b e' e
theorem markL {lo hi : Nat} (so qo : Option Addr) (sc tc : Nat) (S : List Int) (T : List (List Int)) (f : At) (k0 : Int) (w : World) (hn : S.length ≤ 1048576) (hT : T.length ≤ 1048576) (hTT : ∀ i, i < T.length → (T.getD i []).length ≤ 1048576) (hk0 : 0 ≤ k0) (hk1 : k0 ≤ 100000000) (h : CpL lo hi w so sc S qo tc T f) :
   Calls Tryz.prog 23 #[.agg #[.slice so S.length sc, .slice qo T.length tc], .int .i64 k0] w fun e w' => e = .returned (.int .i64 (k0 + (S.length : Int) + (Lg.ahead T T.length : Int))) ∧ Ml w' so qo S.length T f (fun i => k0 + (i : Int)) (fun i q => k0 + (S.length : Int) + (Lg.ahead T i : Int) + (q : Int)) ∧ Fr (Rg lo hi) w w' :=
 (Lg.markLog so qo S.length sc tc T f _ _ k0 w hn hT hTT hk0 hk1 h.ml).mono fun e w' q => ⟨q.1, q.2.1, q.2.2.mono fun x hx _ => by
   rcases hx with ⟨_, e⟩ | ⟨i, hi, e⟩
   · exact h.b1 x e
   · exact h.b3 i hi x e⟩
end Gx
end Go.Proofs.YtjnhniffgeepjaaGreat
