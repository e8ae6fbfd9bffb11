/-
 A log in a block of its own: how it grows at its end.
 The walk of the program's recordOf.
-/
import Derived.Test.YtjnhniffgeepjaaGreatezg22
set_option linter.unusedVariables false
namespace Go.Proofs.YtjnhniffgeepjaaGreat
open Go.RowKit Go.Shelf
set_option maxRecDepth 100000
set_option linter.unusedVariables false
namespace Lo
open Kn (K okK)
open Lc (at' RdK WordsOk laceB)
open Lg (At sameB stepB logB RdL put seen_at seen_cell told_at told_cell)
open Sg (closedB NumsPost)
open Tl (outL beginsB)
set_option maxHeartbeats 6400000 in
theorem recordOf (g off cap : Nat) (L : List K) (C : List Int) (so qo : Option Addr) (sc tc : Nat) (S : List Int) (T : List (List Int)) (f : At) (w : World) (hlc : laceB L = true) (hc : Rm.coinsB C = true) (hg : g < w.heap.size) (hr : RdK w (some ⟨g, off, none⟩) L) (hlog : RdL w so qo S T f) (hS20 : S.length ≤ 1048576) (hT20 : T.length ≤ 1048576) (hsb : ∀ i, i < S.length → -9223372036854775808 ≤ S.getD i 0 ∧ S.getD i 0 ≤ 9223372036854775807) :
   Calls Tryz.prog 42 #[.slice (some ⟨g, off, none⟩) L.length cap, .agg #[.int .i64 (Ch.leadI C 0), .int .i64 (Ch.leadI C 1), .int .i64 (Ch.leadI C 2), .int .i64 (Ch.leadI C 3), .int .i64 (Ch.leadI C 4), .int .i64 (Ch.leadI C 5), .int .i64 (Ch.leadI C 6)], .agg #[.slice so S.length sc, .slice qo T.length tc]] w (RecP L C S T w) := by
 have HB0 : Hid (Below w.heap.size w ((w.alloc (.cells #[.int .i64 (Ch.leadI C 0), .int .i64 (Ch.leadI C 1), .int .i64 (Ch.leadI C 2), .int .i64 (Ch.leadI C 3), .int .i64 (Ch.leadI C 4), .int .i64 (Ch.leadI C 5), .int .i64 (Ch.leadI C 6)] 57)).alloc (.cells #[.slice so S.length sc, .slice qo T.length tc] 39))) := ((Below.refl _ _).alloc (Nat.le_refl _) _).alloc (by simp) _
 have HRW : Hid (Db.RowI ((w.alloc (.cells #[.int .i64 (Ch.leadI C 0), .int .i64 (Ch.leadI C 1), .int .i64 (Ch.leadI C 2), .int .i64 (Ch.leadI C 3), .int .i64 (Ch.leadI C 4), .int .i64 (Ch.leadI C 5), .int .i64 (Ch.leadI C 6)] 57)).alloc (.cells #[.slice so S.length sc, .slice qo T.length tc] 39)) w.heap.size 7 (fun i => Ch.leadI C (i : Int))) := Nd.rowI_alloc (Ch.rowI_seven w 57 (fun i => Ch.leadI C (i : Int))) _
 have HBX : Hid (w.heap.size + 1 < ((w.alloc (.cells #[.int .i64 (Ch.leadI C 0), .int .i64 (Ch.leadI C 1), .int .i64 (Ch.leadI C 2), .int .i64 (Ch.leadI C 3), .int .i64 (Ch.leadI C 4), .int .i64 (Ch.leadI C 5), .int .i64 (Ch.leadI C 6)] 57)).alloc (.cells #[.slice so S.length sc, .slice qo T.length tc] 39)).heap.size ∧ ((w.alloc (.cells #[.int .i64 (Ch.leadI C 0), .int .i64 (Ch.leadI C 1), .int .i64 (Ch.leadI C 2), .int .i64 (Ch.leadI C 3), .int .i64 (Ch.leadI C 4), .int .i64 (Ch.leadI C 5), .int .i64 (Ch.leadI C 6)] 57)).alloc (.cells #[.slice so S.length sc, .slice qo T.length tc] 39)).cell? ⟨w.heap.size + 1, 0, none⟩ = some (.slice so S.length sc) ∧ ((w.alloc (.cells #[.int .i64 (Ch.leadI C 0), .int .i64 (Ch.leadI C 1), .int .i64 (Ch.leadI C 2), .int .i64 (Ch.leadI C 3), .int .i64 (Ch.leadI C 4), .int .i64 (Ch.leadI C 5), .int .i64 (Ch.leadI C 6)] 57)).alloc (.cells #[.slice so S.length sc, .slice qo T.length tc] 39)).cell? ⟨w.heap.size + 1, 1, none⟩ = some (.slice qo T.length tc)) := by
   have e : (w.alloc (.cells #[.int .i64 (Ch.leadI C 0), .int .i64 (Ch.leadI C 1), .int .i64 (Ch.leadI C 2), .int .i64 (Ch.leadI C 3), .int .i64 (Ch.leadI C 4), .int .i64 (Ch.leadI C 5), .int .i64 (Ch.leadI C 6)] 57)).heap.size = w.heap.size + 1 := by simp
   refine ⟨by simp, ?_, ?_⟩
   · rw [← e]; simp
   · rw [← e]; simp
 generalize hv : ((w.alloc (.cells #[.int .i64 (Ch.leadI C 0), .int .i64 (Ch.leadI C 1), .int .i64 (Ch.leadI C 2), .int .i64 (Ch.leadI C 3), .int .i64 (Ch.leadI C 4), .int .i64 (Ch.leadI C 5), .int .i64 (Ch.leadI C 6)] 57)).alloc (.cells #[.slice so S.length sc, .slice qo T.length tc] 39)) = V at HB0 HRW HBX
 have HV : Hid (((w.alloc (.cells #[.int .i64 (Ch.leadI C 0), .int .i64 (Ch.leadI C 1), .int .i64 (Ch.leadI C 2), .int .i64 (Ch.leadI C 3), .int .i64 (Ch.leadI C 4), .int .i64 (Ch.leadI C 5), .int .i64 (Ch.leadI C 6)] 57)).alloc (.cells #[.slice so S.length sc, .slice qo T.length tc] 39)) = V) := hv
 have HLG : Hid (∀ (W : World) (rv : Value) (n : Nat) (u : Int) (l : List Int) (s : Int), Below V.heap.size V W → Rec W rv n u l → l.length ≤ 1048576 → -9223372036854775808 ≤ s ∧ s ≤ 9223372036854775807 → Calls Tryz.prog 45 #[.slice (some ⟨g, off, none⟩) L.length cap, .agg #[.int .i64 (Ch.leadI C 0), .int .i64 (Ch.leadI C 1), .int .i64 (Ch.leadI C 2), .int .i64 (Ch.leadI C 3), .int .i64 (Ch.leadI C 4), .int .i64 (Ch.leadI C 5), .int .i64 (Ch.leadI C 6)], rv, .int .i64 s] W (LoggedP L C rv n u l s W)) := fun W rv n u l s hW h1 h2 h3 => by
   have hB := HB0.out.trans (hW.mono HB0.out.size)
   exact logged g off cap L C s rv n u l W hlc hc (Nat.lt_of_lt_of_le hg hB.size) (hr.below hB) h3.1 h3.2 h1 h2
 have HLW : Hid (∀ W, Below V.heap.size V W → RdL W so qo S T f) := fun W hW => (hlog.below HB0.out).below hW
 have HCE : Hid (∀ W, Below V.heap.size V W → W.cell? ⟨w.heap.size + 1, 0, none⟩ = some (.slice so S.length sc) ∧ W.cell? ⟨w.heap.size + 1, 1, none⟩ = some (.slice qo T.length tc)) := fun W hW => ⟨(hW.cell (p := ⟨w.heap.size + 1, 0, none⟩) HBX.out.1).trans HBX.out.2.1, (hW.cell (p := ⟨w.heap.size + 1, 1, none⟩) HBX.out.1).trans HBX.out.2.2⟩
 have HLC : Hid (laceB L = true ∧ Rm.coinsB C = true) := ⟨hlc, hc⟩
 have HSB : Hid (∀ i, i < S.length → -9223372036854775808 ≤ S.getD i 0 ∧ S.getD i 0 ≤ 9223372036854775807) := hsb
 have HOL : Hid (∀ s, closedB L s = true → (outL L C s).length ≤ 3660) := fun s hq => Lg.out_len hq hc
 clear hv hlc hc hg hr hlog hsb HBX
 obtain ⟨b0, b1⟩ := HCE.out V (Below.refl _ _)
 go_enter Tryz.func42, Tryz.ntmps42
 go_upto_region 1 with fail
 rw [HV.out]
 clear HV
 generalize w.heap.size + 1 = bx at HCE b0 b1 ⊢
 by_cases hTS : T.length = S.length
 · have hTS' : ((S.length : Int) != (T.length : Int)) = false := by simp [hTS]
   have HTS : Hid (T.length = S.length) := hTS
   clear hTS
   go_wp2_with fail
   go_loopw [8, 26] (fun rv iv wr => ∃ (i : Nat) (h : At), i ≤ S.length ∧ iv = .int .i64 i ∧ rv = recV h S T i ∧ Hid (i ≤ 40 ∧ ∀ q, q < i → stepB L C S T q = true) ∧ Hid (Pg V.heap.size wr i T h) ∧ Hid (Below V.heap.size V wr)) (fun _ iv _ => S.length - (intOf iv).toNat)
   case atStart => exact ⟨0, fun _ => (none, 0), by omega, rfl, rfl, ⟨by omega, fun q hq => absurd hq (by omega)⟩, ⟨fun j hj => absurd hj (by omega), fun j hj => absurd hj (by omega)⟩, Below.refl _ _⟩
   case round =>
     obtain ⟨i, h, hi, rfl, hrv, HOK, HPG, HBW⟩ := hrel
     obtain ⟨t, x, hx⟩ := recV_if h S T i
     rw [hx] at hrv
     have HRV : Hid (recV h S T i = .iface t x) := hx
     clear hx b0 b1
     subst hrv
     by_cases hil : i < S.length
     · obtain ⟨sb, rfl⟩ := seen_at (HLW.out _ HBW.out) (by omega)
       have hii : (i : Int) < (S.length : Int) := by omega
       have hiT : (i : Int) < (T.length : Int) := by have := HTS.out; omega
       have cs := seen_cell (HLW.out _ HBW.out) i hil
       have hcall := HLG.out _ _ i (lastS S i) (lastL T i) (S.getD i 0) HBW.out (rec_of HPG.out (by have := HOK.out.1; omega)) (lastL_len HPG.out) (HSB.out i hil)
       rw [HRV.out] at hcall
       have HNO : Hid (goB L C i (lastS S i) (lastL T i) (S.getD i 0) = false ∨ sameB (outL L C (S.getD i 0)) (T.getD i []) = false → logB L C S T = false) := rec_no i hil
       have HYES : Hid (_) := rec_yes (L := L) (C := C) (S := S) (T := T) i
       have HRP : Hid (∀ (ro : Option Addr) (rc : Nat), T.getD i [] = outL L C (S.getD i 0) → recV (put h i (ro, rc)) S T (i + 1) = .iface 102 (.agg #[.iface t x, .int .i64 (S.getD i 0), .slice ro (outL L C (S.getD i 0)).length rc])) := fun ro rc e => by
         show _ = _
         rw [recV_put, HRV.out, e]
       have HR7 : Hid (_) := Fw.rowI_kept HRW.out HBW.out
       have hR7 := HR7.out
       have p0 := hR7.rd 0 (by omega)
       have p1 := hR7.rd 1 (by omega)
       have p2 := hR7.rd 2 (by omega)
       have p3 := hR7.rd 3 (by omega)
       have p4 := hR7.rd 4 (by omega)
       have p5 := hR7.rd 5 (by omega)
       have p6 := hR7.rd 6 (by omega)
       clear hR7 HR7
       generalize S.getD i 0 = si at cs hcall HNO HYES HRP
       go_wp2_with fail
       refine hcall.mono ?_
       rintro e w1 ⟨hpost, hb1⟩
       have HB1 : Hid (Below V.heap.size V w1) := HBW.out.trans (hb1.mono HBW.out.size)
       have HP1 : Hid (Pg V.heap.size w1 i T h) := HPG.out.below hb1
       clear hcall hb1 cs p0 p1 p2 p3 p4 p5 p6
       rcases hpost with ⟨hgo, ro, rc, rfl, hO⟩ | ⟨hgo, rfl⟩
       · obtain ⟨tb, toff, rfl⟩ := told_at (HLW.out _ HB1.out) (by omega)
         have HTC : Hid (∀ W, Below V.heap.size V W → W.cell? ⟨bx, 1, none⟩ = some (.slice (some ⟨tb, toff, none⟩) T.length tc) ∧ W.cell? ⟨tb, toff + i, none⟩ = some (.slice (f i).1 (T.getD i []).length (f i).2)) := fun W hW => ⟨(HCE.out W hW).2, told_cell (HLW.out W hW) i (by omega)⟩
         have hol : (outL L C si).length ≤ 3660 := HOL.out si (by
           unfold goB at hgo
           simp only [Bool.and_eq_true] at hgo
           exact hgo.2.1)
         have HEQ : Hid (∀ W, Below w1.heap.size w1 W → Calls Tryz.prog 64 #[.slice ro (outL L C si).length rc, .slice (f i).1 (T.getD i []).length (f i).2] W fun e w' => e = .returned (.bool (sameB (outL L C si) (T.getD i []))) ∧ Below W.heap.size W w') := fun W hW => equalN ro rc _ _ _ _ W (by omega) (Lst.own_rd (Lst.own_below hO hW)) ((HLW.out W (HB1.out.trans (hW.mono HB1.out.size))).row i (by omega))
         have HO1 : Hid (_) := hO
         have HGO : Hid (_) := hgo
         have HOL3 : Hid ((outL L C si).length ≤ 3660) := hol
         clear hO hgo hol HCE HLG
         obtain ⟨X, _, F, HF, HG⟩ := Fam.fam w1
         have HBF : Hid (∀ z, Below V.heap.size V (F z)) := fun z => HB1.out.trans ((HF.out z).mono HB1.out.size)
         have hb1 : ∀ z, (F z).cell? ⟨bx, 1, none⟩ = some (.slice (some ⟨tb, toff, none⟩) T.length tc) := fun z => (HTC.out _ (HBF.out z)).1
         have ht1 : ∀ z, (F z).cell? ⟨tb, toff + i, none⟩ = some (.slice (f i).1 (T.getD i []).length (f i).2) := fun z => (HTC.out _ (HBF.out z)).2
         generalize hff : f i = fi at HEQ ht1
         clear hff HTC
         obtain ⟨f1, f2⟩ := fi
         dsimp only at HEQ ht1
         generalize (T.getD i []).length = tn at HEQ ht1
         cases heq : sameB (outL L C si) (T.getD i [])
         · have HT : Hid (logB L C S T = false) := HNO.out (.inr heq)
           rw [heq] at HEQ
           clear heq HNO HYES HRP HGO HO1
           generalize (outL L C si).length = on at HEQ ⊢
           go_upto_region 8 with fail
           refine Fam.region (F := F) (by kernel_rfl) (by kernel_rfl) (HG.out _ (Below.refl _ w1).drew) ?_
           repeat (go_big_quiet_step (first
             | (go_at_call 65; exact (last1x _ _ _ _ _ _ _).mono fun _ _ h => ⟨h.1, HG.out _ ((HF.out _).trans (h.2.mono (HF.out _).size))⟩)
             | (go_at_call 64; exact (HEQ.out _ (HF.out _)).mono fun _ _ h => ⟨h.1, HG.out _ ((HF.out _).trans (h.2.mono (HF.out _).size))⟩)))
           refine wpQuiet_nil ?_
           intro w2 hw2
           obtain ⟨z, rfl⟩ := hw2
           have HB2 : Hid (_) := HBF.out z
           clear hb1 ht1
           go_wp2_with fail
           refine bodyPost_ret (v := .tuple #[.iface t x, .bool false]) (by simp [results, Tryz.f42, go_sem]) rfl ?_
           exact ⟨.inr ⟨HT.out, _, rfl⟩, HB0.out.trans (HB2.out.mono HB0.out.size)⟩
         · have HY : Hid (_) := HYES.out HGO.out heq
           rw [heq] at HEQ
           have HRN : Hid (_) := HRP.out ro rc HY.out.2.2
           have HTL : Hid (T.getD i [] = outL L C si) := HY.out.2.2
           clear heq HNO HYES HRP HGO
           generalize hon : (outL L C si).length = on at HEQ HRN ⊢
           have HON : Hid ((outL L C si).length = on) := hon
           clear hon
           go_upto_region 8 with fail
           refine Fam.region (F := F) (by kernel_rfl) (by kernel_rfl) (HG.out _ (Below.refl _ w1).drew) ?_
           repeat (go_big_quiet_step (first
             | (go_at_call 65; exact (last1x _ _ _ _ _ _ _).mono fun _ _ h => ⟨h.1, HG.out _ ((HF.out _).trans (h.2.mono (HF.out _).size))⟩)
             | (go_at_call 64; exact (HEQ.out _ (HF.out _)).mono fun _ _ h => ⟨h.1, HG.out _ ((HF.out _).trans (h.2.mono (HF.out _).size))⟩)))
           refine wpQuiet_nil ?_
           intro w2 hw2
           obtain ⟨z, rfl⟩ := hw2
           have HB2 : Hid (Below V.heap.size V (F z)) := HBF.out z
           have HP2 : Hid (Pg V.heap.size (F z) (i + 1) T (put h i (ro, rc))) := by
             have o2 := Ch.own_base (Lst.own_below HO1.out (HF.out z)) HBW.out.size
             exact (HP1.out.below (HF.out z)).snoc (by rw [HTL.out]; exact o2) (by rw [HTL.out]; exact HOL3.out)
           have HOK2 : Hid (i + 1 ≤ 40 ∧ ∀ q, q < i + 1 → stepB L C S T q = true) := ⟨by have := HY.out.1; omega, fun q hq => by
             by_cases e : q = i
             · rw [e]; exact HY.out.2.1
             · exact HOK.out.2 q (by omega)⟩
           clear hb1 ht1 HO1 HP1
           generalize F z = w2 at HB2 HP2 ⊢
           go_wp2_with fail
           go_roundw
           case rel => exact ⟨i + 1, _, by omega, by go_num, HRN.out.symm, HOK2, HP2, HB2⟩
           case measure => simp [intOf]; omega
       · have HT : Hid (logB L C S T = false) := HNO.out (.inl hgo)
         clear hgo HNO HYES HRP
         go_wp2_with fail
         go_quiet (fail)
         go_wp2
         refine bodyPost_ret (v := .tuple #[.iface t x, .bool false]) (by simp [results, Tryz.f42, go_sem]) rfl ?_
         exact ⟨.inr ⟨HT.out, _, rfl⟩, Nu.below_drewN (HB0.out.trans (HB1.out.mono HB0.out.size)) _⟩
     · obtain rfl : i = S.length := by omega
       have HT : Hid (logB L C S T = true) := Lg.log_yes HOK.out.1 HTS.out HLC.out.1 HLC.out.2 HOK.out.2
       clear HCE
       go_wp2_with fail
       refine bodyPost_ret (v := .tuple #[.iface t x, .bool true]) (by simp [results, Tryz.f42, go_sem]) rfl ?_
       exact ⟨.inl ⟨HT.out, h, by rw [HRV.out], fun j hj => Ch.own_base (HPG.out.each j hj) HB0.out.size, HPG.out.row⟩, HB0.out.trans (HBW.out.mono HB0.out.size)⟩
 · have hTS' : ((S.length : Int) != (T.length : Int)) = true := by simpa using (by omega : ¬ (S.length : Int) = (T.length : Int))
   have HT : Hid (logB L C S T = false) := by show _ = _; unfold Lg.logB; rw [decide_eq_false hTS]; simp
   go_wp2_with fail
   refine bodyPost_ret (v := .tuple #[.iface 97 (.agg #[]), .bool false]) (by simp [results, Tryz.f42, go_sem]) rfl ?_
   exact ⟨.inr ⟨HT.out, _, rfl⟩, HB0.out⟩
end Lo
end Go.Proofs.YtjnhniffgeepjaaGreat
namespace Go.Proofs.YtjnhniffgeepjaaGreat
open Go.RowKit
set_option maxRecDepth 100000
set_option linter.unusedVariables false
namespace Lg
structure XSt (W : World) (B xb : Nat) (a : Option Addr) (c : Nat) (S : List Int) (vo : Option Addr) (vc : Nat) (T : List (List Int)) (f : At) : Prop where
 bx : B ≤ xb
 lt : xb < W.heap.size
 ty : ∃ cur, W.heap[xb]? = some (.cells cur 39)
 x0 : W.cell? ⟨xb, 0, none⟩ = some (.slice a S.length c)
 x1 : W.cell? ⟨xb, 1, none⟩ = some (.slice vo T.length vc)
 f0 : W.frozen? ⟨xb, 0, none⟩ = false
 f1 : W.frozen? ⟨xb, 1, none⟩ = false
 own : Memb.Own B W a c S
 ll : OwnLL B W (.slice vo T.length vc) T f
 ap : ∀ i, i < T.length → ∀ g, (f i).1 = some ⟨g, 0, none⟩ → a ≠ some ⟨g, 0, none⟩
variable {W : World} {B xb : Nat} {a : Option Addr} {c : Nat} {S : List Int} {vo : Option Addr} {vc : Nat} {T : List (List Int)} {f : At}
theorem XSt.below {W' : World} (s : XSt W B xb a c S vo vc T f) (hb : Below W.heap.size W W') : XSt W' B xb a c S vo vc T f := by
 have hg : W.grownBy W' none := ⟨hb.os, hb.tape, hb.output, hb.size, fun k hk _ => hb.block k hk⟩
 obtain ⟨cur, ht⟩ := s.ty
 refine ⟨s.bx, Nat.lt_of_lt_of_le s.lt hb.size, ⟨cur, (hb.block xb s.lt).trans ht⟩, (hb.cell (p := ⟨xb, 0, none⟩) s.lt).trans s.x0, (hb.cell (p := ⟨xb, 1, none⟩) s.lt).trans s.x1, (World.frozen?_of_block (a := ⟨xb, 0, none⟩) (hb.block xb s.lt)).trans s.f0, (World.frozen?_of_block (a := ⟨xb, 1, none⟩) (hb.block xb s.lt)).trans s.f1, own_kept s.own hg (fun g e q => by cases q), ⟨?_, fun j hj => own_kept (s.ll.each j hj) hg (fun g e q => by cases q), s.ll.ap⟩, s.ap⟩
 exact World.ownsRow.kept s.ll.row hg (by cases hv : (Value.slice vo T.length vc).ownBlock <;> simp)
theorem x_new {W1 : World} (hB : B ≤ W1.heap.size) (h1 : Memb.Own B W1 a c S) (h2 : OwnLL B W1 (.slice vo T.length vc) T f) (h3 : ∀ i, i < T.length → ∀ g, (f i).1 = some ⟨g, 0, none⟩ → a ≠ some ⟨g, 0, none⟩) :
   XSt (W1.alloc (.cells #[.slice a S.length c, .slice vo T.length vc] 39)) B W1.heap.size a c S vo vc T f := by
 have hg := World.grownBy_alloc W1 (.cells #[.slice a S.length c, .slice vo T.length vc] 39) none
 refine ⟨hB, by simp, ⟨_, Array.getElem?_push_size⟩, by simp, by simp, by simp, by simp, own_kept h1 hg (fun g e q => by cases q), ⟨?_, fun j hj => own_kept (h2.each j hj) hg (fun g e q => by cases q), h2.ap⟩, h3⟩
 exact World.ownsRow.kept h2.row hg (by cases hv : (Value.slice vo T.length vc).ownBlock <;> simp)
theorem ty_ne {t : TypeId} {v : Value} {n : Nat} {xs : List Value} (h : W.ownsRow B t 1 v n xs) (ht : t ≠ 39) (hx : ∃ cur, W.heap[xb]? = some (.cells cur 39)) : v.ownBlock ≠ some xb := by
 obtain ⟨cur, hx⟩ := hx
 intro q
 rcases h.2 with ⟨e, _⟩ | ⟨g, cap, cur2, e, _, hg, _⟩
 · rw [e] at q; simp [Value.ownBlock] at q
 · rw [e] at q; simp [Value.ownBlock] at q; subst q
   rw [hg] at hx; simp at hx; exact ht hx.2
theorem own_put {W3 : World} {j : Nat} {u : Value} {a' : Option Addr} {c' : Nat} {l : List Int} (h : Memb.Own B W3 a' c' l) (hx : ∃ cur, W3.heap[xb]? = some (.cells cur 39)) : Memb.Own B (W3.setCell ⟨xb, j, none⟩ u) a' c' l :=
 own_kept h (gr_one W3 xb j u) (fun g e q => by
   subst e
   injection q with q
   have := ty_ne h (by decide) hx
   exact this (by rw [q]; rfl))
theorem row_put {W3 : World} {j : Nat} {u v : Value} {n : Nat} {xs : List Value} (h : W3.ownsRow B 23 1 v n xs) (hx : ∃ cur, W3.heap[xb]? = some (.cells cur 39)) : (W3.setCell ⟨xb, j, none⟩ u).ownsRow B 23 1 v n xs :=
 World.ownsRow.kept h (gr_one W3 xb j u) (.inr (ty_ne h (by decide) hx))
theorem ty_put {W3 : World} {j : Nat} {u : Value} (hx : ∃ cur, W3.heap[xb]? = some (.cells cur 39)) : ∃ cur, (W3.setCell ⟨xb, j, none⟩ u).heap[xb]? = some (.cells cur 39) := by
 obtain ⟨cur, hx⟩ := hx
 exact ⟨_, heap_setCell_same W3 xb j cur _ _ hx⟩
theorem x_seen {V3 : World} {o : Obj} {v3 : Value} {x : Int} (s : XSt W B xb a c S vo vc T f) (hBW : B ≤ W.heap.size) (h3 : V3.ownsRow B 2 1 v3 (S.length + 1) (S.map (Value.int .i64) ++ [.int .i64 x])) (hg : (W.alloc o).grownBy V3 (Value.slice a S.length c).ownBlock) (hat : v3.ownBlock = (Value.slice a S.length c).ownBlock ∨ v3.ownBlock = some (W.alloc o).heap.size) :
   ∃ a3 c3, v3 = .slice a3 (S ++ [x]).length c3 ∧ XSt (V3.setCell ⟨xb, 0, none⟩ (.slice a3 (S ++ [x]).length c3)) B xb a3 c3 (S ++ [x]) vo vc T f ∧ (∃ u, V3.cell? ⟨xb, 0, none⟩ = some u) ∧ V3.frozen? ⟨xb, 0, none⟩ = false ∧ Below B W (V3.setCell ⟨xb, 0, none⟩ (.slice a3 (S ++ [x]).length c3)) := by
 have sA := s.below ((Below.refl _ W).alloc (Nat.le_refl _) o)
 have hlt := sA.lt
 have hrow : ∀ k, (Value.slice a S.length c).ownBlock = some k → B ≤ k := fun k hk => (World.ownsRow.lt sA.own k hk).1
 have hnx : (Value.slice a S.length c).ownBlock ≠ some xb := ty_ne sA.own (by decide) sA.ty
 have hblk : V3.heap[xb]? = (W.alloc o).heap[xb]? := hg.block xb hlt (fun e => hnx e.symm)
 have hty : ∃ cur, V3.heap[xb]? = some (.cells cur 39) := by obtain ⟨cur, h⟩ := sA.ty; exact ⟨cur, hblk.trans h⟩
 obtain ⟨g3, c3, e3⟩ : ∃ g3 c3, v3 = .slice (some ⟨g3, 0, none⟩) (S ++ [x]).length c3 := by
   rcases h3.2 with ⟨_, e⟩ | ⟨g, c, cur, e, _⟩
   · omega
   · exact ⟨g, c, by rw [e]; simp⟩
 subst e3
 have h3' : Memb.Own B V3 (some ⟨g3, 0, none⟩) c3 (S ++ [x]) := by
   unfold Memb.Own
   rw [List.map_append, List.length_append, List.length_singleton]
   rw [List.length_append, List.length_singleton] at h3
   exact h3
 have hE : ∀ i, i < T.length → Memb.Own B V3 (f i).1 (f i).2 (T.getD i []) := fun i hi => own_kept (sA.ll.each i hi) hg (fun g e q => by
   have h5 := s.ap i hi g e
   rcases (sA.own).2 with ⟨e6, _⟩ | ⟨g6, c6, cur6, e6, _⟩
   · rw [e6] at q; simp [Value.ownBlock] at q
   · injection e6 with e6 _ _
     rw [e6] at q; simp [Value.ownBlock] at q
     rw [e6] at h5; exact h5 (by rw [q]))
 have hR : V3.ownsRow B 23 1 (.slice vo T.length vc) T.length (vals f T) := World.ownsRow.kept sA.ll.row hg (by
   cases hv : (Value.slice vo T.length vc).ownBlock with
   | none => exact .inl rfl
   | some k =>
     right
     intro q
     rcases (sA.own).2 with ⟨e6, _⟩ | ⟨g6, c6, cur6, e6, _⟩
     · rw [e6] at q; simp [Value.ownBlock] at q
     · injection e6 with e6 _ _
       have := rows_apart sA.own sA.ll.row g6 e6
       rw [e6] at q; simp [Value.ownBlock] at q
       rw [hv, q] at this; exact this rfl)
 have u0 : V3.cell? ⟨xb, 0, none⟩ = some (.slice a S.length c) := (World.cell?_of_block (a := ⟨xb, 0, none⟩) hblk).trans sA.x0
 have u1 : V3.cell? ⟨xb, 1, none⟩ = some (.slice vo T.length vc) := (World.cell?_of_block (a := ⟨xb, 1, none⟩) hblk).trans sA.x1
 have fr0 : V3.frozen? ⟨xb, 0, none⟩ = false := (World.frozen?_of_block (a := ⟨xb, 0, none⟩) hblk).trans sA.f0
 have fr1 : V3.frozen? ⟨xb, 1, none⟩ = false := (World.frozen?_of_block (a := ⟨xb, 1, none⟩) hblk).trans sA.f1
 have hB3 : Below B W V3 := ((Below.refl B W).alloc hBW o).grown hg (by simp; omega) hrow
 refine ⟨some ⟨g3, 0, none⟩, c3, rfl, ⟨s.bx, ?_, ty_put hty, World.cell?_setCell_same _ _ _ u0, (World.cell?_setCell_other _ _ _ _ (by intro e; simp at e)).trans u1, by simpa using fr0, by simpa using fr1, own_put h3' hty, ⟨row_put hR hty, fun i hi => own_put (hE i hi) hty, s.ll.ap⟩, ?_⟩, ⟨_, u0⟩, fr0, hB3.setCell (p := ⟨xb, 0, none⟩) s.bx _⟩
 · have := hg.size; simp at this ⊢; have := s.lt; omega
 · intro i hi g e1 e2
   injection e2 with e2; injection e2 with e2; subst e2
   have h5 := s.ap i hi g3 e1
   have h6 := s.ll.each i hi
   rw [e1] at h6
   have h7 := (World.ownsRow.lt h6 g3 rfl).2
   rcases hat with q | q
   · simp [Value.ownBlock] at q
     rcases (sA.own).2 with ⟨e6, _⟩ | ⟨g6, c6, cur6, e6, _⟩
     · injection e6 with e6 _ _; rw [e6] at q; simp at q
     · injection e6 with e6 _ _
       rw [e6] at q h5; simp at q; exact h5 (by rw [q])
   · simp [Value.ownBlock] at q; omega
theorem x_told {V1 V3 : World} {o : Obj} {v3 : Value} {ro : Option Addr} {rc : Nat} {l : List Int} (s : XSt W B xb a c S vo vc T f) (hBW : B ≤ W.heap.size) (hb1 : Below W.heap.size W V1) (hO : Memb.Own W.heap.size V1 ro rc l) (h3 : V3.ownsRow B 23 1 v3 (T.length + 1) (vals f T ++ [.slice ro l.length rc])) (hg : (V1.alloc o).grownBy V3 (Value.slice vo T.length vc).ownBlock) :
   ∃ vo3 vc3, v3 = .slice vo3 (T ++ [l]).length vc3 ∧ XSt (V3.setCell ⟨xb, 1, none⟩ (.slice vo3 (T ++ [l]).length vc3)) B xb a c S vo3 vc3 (T ++ [l]) (put f T.length (ro, rc)) ∧ (∃ u, V3.cell? ⟨xb, 1, none⟩ = some u) ∧ V3.frozen? ⟨xb, 1, none⟩ = false ∧ Below B W (V3.setCell ⟨xb, 1, none⟩ (.slice vo3 (T ++ [l]).length vc3)) := by
 have hbA : Below W.heap.size W (V1.alloc o) := hb1.alloc hb1.size o
 have sA := s.below hbA
 have hlt := sA.lt
 have hrow : ∀ k, (Value.slice vo T.length vc).ownBlock = some k → B ≤ k := fun k hk => (World.ownsRow.lt sA.ll.row k hk).1
 have hnx : (Value.slice vo T.length vc).ownBlock ≠ some xb := ty_ne sA.ll.row (by decide) sA.ty
 have hblk : V3.heap[xb]? = (V1.alloc o).heap[xb]? := hg.block xb hlt (fun e => hnx e.symm)
 have hty : ∃ cur, V3.heap[xb]? = some (.cells cur 39) := by obtain ⟨cur, h⟩ := sA.ty; exact ⟨cur, hblk.trans h⟩
 obtain ⟨g3, c3, e3⟩ : ∃ g3 c3, v3 = .slice (some ⟨g3, 0, none⟩) (T ++ [l]).length c3 := by
   rcases h3.2 with ⟨_, e⟩ | ⟨g, c, cur, e, _⟩
   · omega
   · exact ⟨g, c, by rw [e]; simp⟩
 subst e3
 have hOA : Memb.Own B (V1.alloc o) ro rc l := own_lift (own_kept hO (World.grownBy_alloc V1 o none) (fun g e q => by cases q)) hBW
 have hO3 : Memb.Own B V3 ro rc l := own_kept hOA hg (rows_apart hOA sA.ll.row)
 have hS3 : Memb.Own B V3 a c S := own_kept sA.own hg (rows_apart sA.own sA.ll.row)
 have hE : ∀ i, i < T.length → Memb.Own B V3 (f i).1 (f i).2 (T.getD i []) := fun i hi => own_kept (sA.ll.each i hi) hg (rows_apart (sA.ll.each i hi) sA.ll.row)
 have u0 : V3.cell? ⟨xb, 0, none⟩ = some (.slice a S.length c) := (World.cell?_of_block (a := ⟨xb, 0, none⟩) hblk).trans sA.x0
 have u1 : V3.cell? ⟨xb, 1, none⟩ = some (.slice vo T.length vc) := (World.cell?_of_block (a := ⟨xb, 1, none⟩) hblk).trans sA.x1
 have fr0 : V3.frozen? ⟨xb, 0, none⟩ = false := (World.frozen?_of_block (a := ⟨xb, 0, none⟩) hblk).trans sA.f0
 have fr1 : V3.frozen? ⟨xb, 1, none⟩ = false := (World.frozen?_of_block (a := ⟨xb, 1, none⟩) hblk).trans sA.f1
 have hB3 : Below B W V3 := (hbA.mono hBW).grown hg (by have := hbA.size; omega) hrow
 have hold : ∀ {a' : Option Addr} {c' : Nat} {l' : List Int}, Memb.Own B W a' c' l' → ∀ g, a' = some ⟨g, 0, none⟩ → g < W.heap.size := fun {a' c' l'} h g e => by subst e; exact (World.ownsRow.lt h g rfl).2
 have hnew : ∀ g, ro = some ⟨g, 0, none⟩ → W.heap.size ≤ g := fun g e => by subst e; exact (World.ownsRow.lt hO g rfl).1
 refine ⟨some ⟨g3, 0, none⟩, c3, rfl, ⟨s.bx, ?_, ty_put hty, (World.cell?_setCell_other _ _ _ _ (by intro e; simp at e)).trans u0, World.cell?_setCell_same _ _ _ u1, by simpa using fr0, by simpa using fr1, own_put hS3 hty, ⟨?_, ?_, ?_⟩, ?_⟩, ⟨_, u1⟩, fr1, hB3.setCell (p := ⟨xb, 1, none⟩) s.bx _⟩
 · have := hg.size; simp at this ⊢; have := s.lt; have := hb1.size; omega
 · rw [vals_snoc f T l (ro, rc)]
   have := row_put (j := 1) (u := .slice (some ⟨g3, 0, none⟩) (T ++ [l]).length c3) h3 hty
   rw [List.length_append, List.length_singleton] at this ⊢
   exact this
 · intro i hi
   rw [List.length_append, List.length_singleton] at hi
   unfold put
   by_cases e : i = T.length
   · subst e; rw [if_pos rfl, getD_last]; exact own_put hO3 hty
   · rw [if_neg e, getD_snoc _ _ i (by omega)]; exact own_put (hE i (by omega)) hty
 · intro i j hij hj g e1 e2
   rw [List.length_append, List.length_singleton] at hj
   unfold put at e1 e2
   rw [if_neg (by omega)] at e1
   by_cases e : j = T.length
   · rw [if_pos e] at e2
     have := hold (s.ll.each i (by omega)) g e1
     have := hnew g e2
     omega
   · rw [if_neg e] at e2; exact s.ll.ap i j hij (by omega) g e1 e2
 · intro i hi g e1 e2
   rw [List.length_append, List.length_singleton] at hi
   unfold put at e1
   by_cases e : i = T.length
   · rw [if_pos e] at e1
     have := hold s.own g e2
     have := hnew g e1
     omega
   · rw [if_neg e] at e1; exact s.ap i (by omega) g e1 e2
theorem fin_put {w W : World} {rb : Nat} {x y u0 u1 : Value} (hw : w.heap.size ≤ rb) (hb : Below w.heap.size w W) (r0 : W.cell? ⟨rb, 0, none⟩ = some u0) (r1 : W.cell? ⟨rb, 1, none⟩ = some u1) (f1 : W.frozen? ⟨rb, 1, none⟩ = false) :
   (W.setCell ⟨rb, 0, none⟩ x).cell? ⟨rb, 1, none⟩ = some u1 ∧ (W.setCell ⟨rb, 0, none⟩ x).frozen? ⟨rb, 1, none⟩ = false ∧ ((W.setCell ⟨rb, 0, none⟩ x).setCell ⟨rb, 1, none⟩ y).cell? ⟨rb, 0, none⟩ = some x ∧ ((W.setCell ⟨rb, 0, none⟩ x).setCell ⟨rb, 1, none⟩ y).cell? ⟨rb, 1, none⟩ = some y ∧ Below w.heap.size w ((W.setCell ⟨rb, 0, none⟩ x).setCell ⟨rb, 1, none⟩ y) := by
 have r1' : (W.setCell ⟨rb, 0, none⟩ x).cell? ⟨rb, 1, none⟩ = some u1 := (World.cell?_setCell_other _ _ _ _ (by intro e; simp at e)).trans r1
 exact ⟨r1', by simpa using f1, (World.cell?_setCell_other _ _ _ _ (by intro e; simp at e)).trans (World.cell?_setCell_same _ _ _ r0), World.cell?_setCell_same _ _ _ r1', (hb.setCell (p := ⟨rb, 0, none⟩) hw _).setCell (p := ⟨rb, 1, none⟩) hw _⟩
theorem fin_own {w W : World} {rb : Nat} {x y : Value} (hb : rb < B) (hB : w.heap.size ≤ B) (s : XSt W B xb a c S vo vc T f) : Memb.Own w.heap.size ((W.setCell ⟨rb, 0, none⟩ x).setCell ⟨rb, 1, none⟩ y) a c S ∧ OwnLL w.heap.size ((W.setCell ⟨rb, 0, none⟩ x).setCell ⟨rb, 1, none⟩ y) (.slice vo T.length vc) T f := by
 have hg := grown_two W rb x y
 exact ⟨own_lift (row_kept s.own hg hb) hB, ll_lift (ll_kept s.ll hg hb) hB⟩
end Lg
end Go.Proofs.YtjnhniffgeepjaaGreat
