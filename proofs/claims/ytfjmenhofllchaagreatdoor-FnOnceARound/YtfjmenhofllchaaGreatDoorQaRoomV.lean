/-
 What the model's drawing of the bad hand's act hands back: an act with a short word; it changes the cursor alone.
-/
import Derived.Test.YtfjmenhofllchaaGreatDoorQag19
namespace Go.Proofs.YtfjmenhofllchaaGreatDoor
open Go.RowKit
set_option maxRecDepth 100000
namespace Rm
open Kn (K okK in3)
open Lc (at' RdK laceB takesB flat OwnK CellsK cellsOf)
open Cur (At)
set_option maxHeartbeats 400000 in
theorem min6 (n : Int) (w : World) : Calls Tryz.prog 158 #[.int .i64 n, .int .i64 6] w fun e w' => e = .returned (.int .i64 (if n < 6 then n else 6)) ∧ w' = w := by
 by_cases h : n < 6
 · rw [if_pos h]
   go_enter Tryz.func158, Tryz.ntmps158
   go_wp2
   go_ret
   exact ⟨rfl, rfl⟩
 · rw [if_neg h]
   go_enter Tryz.func158, Tryz.ntmps158
   go_wp2
   go_ret
   exact ⟨rfl, rfl⟩
theorem ac_frm {c : Nat} {a : Option Addr} {len cap : Nat} {w V : World} {v0 v1 v2 v3 : Value} {ab : Nat} {x : Ac} (h : AcSt c a len cap w V v0 v1 v2 v3 ab x) (hcb : CurB c a len w.heap.size) (y : Int) : AcSt c a len cap w (V.setCell ⟨ab, 4, none⟩ (.int .i64 y)).drew v0 v1 v2 v3 ab { x with frm := y } :=
 ac_put h hcb (Fr.set V ⟨ab, 4, none⟩ _).drew (q6_fr (S := fun _ => False) (q6_4 h.act y) ((Fr.refl _ _).drew) (fun h => h))
theorem ac_rnd {c : Nat} {a : Option Addr} {len cap : Nat} {w V : World} {v0 v1 v2 v3 : Value} {ab : Nat} {x : Ac} (h : AcSt c a len cap w V v0 v1 v2 v3 ab x) (hcb : CurB c a len w.heap.size) (y : Int) : AcSt c a len cap w (V.setCell ⟨ab, 3, none⟩ (.int .i64 y)) v0 v1 v2 v3 ab { x with round := y } :=
 ac_put h hcb (Fr.set V ⟨ab, 3, none⟩ _) (q6_3 h.act y)
theorem ac_drewN {c : Nat} {a : Option Addr} {len cap : Nat} {w V : World} {v0 v1 v2 v3 : Value} {ab : Nat} {x : Ac} (h : AcSt c a len cap w V v0 v1 v2 v3 ab x) (hcb : CurB c a len w.heap.size) (n : Nat) : AcSt c a len cap w (V.drewN n) v0 v1 v2 v3 ab x := ac_below h hcb (Lc.below_drewN' (Below.refl _ _) n)
theorem takeD {P : Program} {md : Region.Mode} {ops : Array Oper} {Q : Exit → Act → World → Prop} {S : World → Prop} (d : Option Tmp) {i : Nat} {oi : Oper} {v : Value} {fuel : Nat} {listed : Array Bool} {a : Act} {w : World} (hi : ops[i]? = some oi) (hd : oi.dst = d)
   (hs : Region.noSelect ops = true) (hf : Region.free md ops listed i = true) (hr : (Region.ready md ops listed).contains i = true)
   (hQ : ∀ c a w, Q (.panic c) (a.put d v) w → Q (.panic c) a w) (hy : YieldsIf P ops S oi v a) (hS : S w)
   (h : wpAnyH P md ops Q S fuel (listed.setIfInBounds i true) (a.put d v) w) : wpAnyH P md ops Q S (fuel + 1) listed a w := by
 subst hd
 exact wpAnyH_take hi hs hf hr hQ hy hS h
set_option maxHeartbeats 6400000 in
theorem l18DrawBad (c : Nat) (a : Option Addr) (len cap : Nat) (ao : Option Addr) (cp : Nat) (L : List K) (co : Option Addr) (nc cc : Nat) (go : Option Addr) (nh hc : Nat) (bad : Int) (w : World) (hl : len ≤ 4096) (hca : At c a len cap w) (hlc : laceB L = true) (hr : RdK w ao L) (hn : ∀ x, ao = some x → ¬ x.block = c) :
   Calls Tryz.prog 154 #[.pointer (some ⟨c, 0, none⟩), .agg #[.slice ao L.length cp, .slice co nc cc, .slice go nh hc, .int .i64 bad]] w (AcPost c a len cap w) := by
 have hcb := curB_of hca
 have hcw : c < w.heap.size := hca.lt
 have h60 := ((Lc.lace_iff L).1 hlc).1
 have P0 : Hid (Below w.heap.size w ((w.alloc (.cells #[.slice ao L.length cp, .slice co nc cc, .slice go nh hc, .int .i64 bad] 107)).alloc (.cells #[.int .i64 0, .int .i64 0, .int .i64 0, .int .i64 0, .int .i64 0, .string ⟨#[]⟩] 137)) ∧ Q4 ((w.alloc (.cells #[.slice ao L.length cp, .slice co nc cc, .slice go nh hc, .int .i64 bad] 107)).alloc (.cells #[.int .i64 0, .int .i64 0, .int .i64 0, .int .i64 0, .int .i64 0, .string ⟨#[]⟩] 137)) w.heap.size (.slice ao L.length cp) (.slice co nc cc) (.slice go nh hc) (.int .i64 bad) ∧ Q6 ((w.alloc (.cells #[.slice ao L.length cp, .slice co nc cc, .slice go nh hc, .int .i64 bad] 107)).alloc (.cells #[.int .i64 0, .int .i64 0, .int .i64 0, .int .i64 0, .int .i64 0, .string ⟨#[]⟩] 137)) (w.heap.size + 1) zeroA) := by
   refine ⟨((Below.refl _ w).alloc (Nat.le_refl _) _).alloc (by simp) _, q4_below (q4_new w _ _ _ _ _) ((Below.refl _ _).alloc (Nat.le_refl _) _), ?_⟩
   have := q6_new (w.alloc (.cells #[.slice ao L.length cp, .slice co nc cc, .slice go nh hc, .int .i64 bad] 107)) zeroA 137
   rw [World.size_alloc] at this
   exact this
 have HRD : Hid (∀ X : World, FrC c w X → RdK X ao L) := fun X hX => rdK_fr hr hX hn
 have HLC : Hid (laceB L = true) := hlc
 clear hlc hr hn
 go_enter Tryz.func154, Tryz.ntmps154
 go_upto_region 1 with fail
 generalize (w.alloc (.cells #[.slice ao L.length cp, .slice co nc cc, .slice go nh hc, .int .i64 bad] 107)).alloc (.cells #[.int .i64 0, .int .i64 0, .int .i64 0, .int .i64 0, .int .i64 0, .string ⟨#[]⟩] 137) = W at P0 ⊢
 have HAW : Hid (At c a len cap W) := at_belowB hca hcb P0.out.1
 go_wp2_with fail
 refine (Kn.drawWord c a len cap _ hl HAW.out).mono ?_
 rintro e w1 ⟨s, rfl, hs13, hA1, hG1⟩
 have HS : Hid (AcSt c a len cap w (w1.alloc (.cells #[.int .i64 5, .int .i64 0, .int .i64 0, .int .i64 0, .int .i64 0, .string s] 137)) (.slice ao L.length cp) (.slice co nc cc) (.slice go nh hc) (.int .i64 bad) w1.heap.size ⟨5, 0, 0, 0, 0, s⟩) := ac_beg hcw hcb P0.out.1 P0.out.2.1 P0.out.2.2 hA1 (Fr.of_grown hG1) ⟨5, 0, 0, 0, 0, s⟩ _
 clear hA1 hG1 HAW
 go_upto_region 2 with fail
 generalize w1.alloc (.cells #[.int .i64 5, .int .i64 0, .int .i64 0, .int .i64 0, .int .i64 0, .string s] 137) = W2 at HS ⊢
 generalize w1.heap.size = ab at HS ⊢
 have c0 := HS.out.box.c0
 by_cases h0 : L.length = 0
 · have h0' : ((L.length : Int) == 0) = true := by simp [h0]
   clear c0
   have c0 := HS.out.box.c0
   have HF : Hid (AcPost c a len cap w (.returned (acV ⟨5, 0, 0, 0, 0, s⟩)) (set6 W2 (w.heap.size + 1) ⟨5, 0, 0, 0, 0, s⟩)) := ac_fin HS.out hcb hs13
   have HQ : Hid (Q6 (set6 W2 (w.heap.size + 1) ⟨5, 0, 0, 0, 0, s⟩) (w.heap.size + 1) ⟨5, 0, 0, 0, 0, s⟩) := set6_at HS.out.res
   obtain ⟨_, b0, b1, b2, b3, b4, b5, _, _, _, _, _, _⟩ := HS.out.act
   obtain ⟨_, r0, r1, r2, r3, r4, r5, f0, f1, f2, f3, f4, f5⟩ := HS.out.res
   go_wp2
   obtain ⟨_, y0, y1, y2, y3, y4, y5, _, _, _, _, _, _⟩ := HQ.out
   unfold set6 at y0 y1 y2 y3 y4 y5
   exact bodyPost_ret (v := acV ⟨5, 0, 0, 0, 0, s⟩) (by simp [results, Tryz.results154, go_sem, y0, y1, y2, y3, y4, y5]) rfl HF.out
 · have h0' : ((L.length : Int) == 0) = false := by rw [beq_eq_false_iff_ne]; omega
   obtain ⟨g, off, hao, _, _⟩ := (HRD.out W2 HS.out.fr).at 0 (by omega)
   subst hao
   go_wp2_with fail
   refine (Cur.once c a len cap 6 _ hl (by omega) HS.out.at').mono ?_
   rintro e w3 ⟨b, rfl, hA3, hG3⟩
   have HS3 : Hid (AcSt c a len cap w w3 (.slice (some ⟨g, off, none⟩) L.length cp) (.slice co nc cc) (.slice go nh hc) (.int .i64 bad) ab ⟨5, 0, 0, 0, 0, s⟩) := ac_cur HS.out hcw hA3 hG3
   clear hA3 hG3 HS c0
   cases b
   · have HSB : Hid (∀ X : World, ∀ x, AcSt c a len cap w X (.slice (some ⟨g, off, none⟩) L.length cp) (.slice co nc cc) (.slice go nh hc) (.int .i64 bad) ab x → X.cell? ⟨w.heap.size, 0, none⟩ = some (.slice (some ⟨g, off, none⟩) L.length cp) ∧ ∀ i, i < L.length → X.cell? ⟨g, off + i * 4 + 1, none⟩ = some (.int .i64 (at' L i).round)) := fun X x h => ⟨h.box.c0, fun i hi => ((HRD.out X h.fr).on i hi).2.c1⟩
     have HS30 : Hid (AcSt c a len cap w w3.drew (.slice (some ⟨g, off, none⟩) L.length cp) (.slice co nc cc) (.slice go nh hc) (.int .i64 bad) ab ⟨5, 0, 0, 0, 0, s⟩) := ac_drewN HS3.out hcb 1
     have hmm : 0 < (if (L.length : Int) < 6 then (L.length : Int) else 6) ∧ (if (L.length : Int) < 6 then (L.length : Int) else 6) ≤ (L.length : Int) := by split <;> omega
     have hme : (if (L.length : Int) < 6 then (L.length : Int) else 6) ≤ 1000000000000 := by omega
     generalize hmi : (if (L.length : Int) < 6 then (L.length : Int) else 6) = mi at hmm hme
     have hmin : ∀ V : World, Calls Tryz.prog 158 #[.int .i64 (L.length : Int), .int .i64 6] V fun e w' => e = .returned (.int .i64 mi) ∧ w' = V := fun V => by have := min6 (L.length : Int) V; rwa [hmi] at this
     clear hmi
     have HB3 := HS3.out.act.c3
     have f3 := HS3.out.act.f3
     have hw1 : IntKind.i64.wrap ((L.length : Int) - 1) = (L.length : Int) - 1 := by rw [IntKind.wrap_i64]; omega
     go_upto_region 5 with fail
     go_cut [6] (fun n wx => n = .int .i64 (L.length : Int) ∧ ∃ rd : Int, 0 ≤ rd ∧ rd ≤ 20 ∧ Hid (AcSt c a len cap w wx (.slice (some ⟨g, off, none⟩) L.length cp) (.slice co nc cc) (.slice go nh hc) (.int .i64 bad) ab ⟨5, 0, 0, rd, 0, s⟩))
     case first =>
       go_region_held3 (fun X => X.cell? ⟨w.heap.size, 0, none⟩ = some (.slice (some ⟨g, off, none⟩) L.length cp) ∧ ∀ i, i < L.length → X.cell? ⟨g, off + i * 4 + 1, none⟩ = some (.int .i64 (at' L i).round)) (first | exact HSB.out _ _ (ac_rnd HT2.out hcb _) | exact HSB.out _ _ HT2.out | exact HSB.out _ _ HT1.out | exact HSB.out _ _ HS30.out | go_keep) (first
         | (go_at_call 158
            refine (hmin _).mono ?_
            rintro e w' ⟨rfl, rfl⟩)
         | (go_at_call 63
            refine (Cur.below c a len cap 2 _ hl (by omega) HT1.out.at').mono ?_
            rintro e V2 ⟨y, rfl, hy0, hy1, hA2, hG2⟩
            have hy2 := hy1 (by omega)
            have HT2 : Hid (AcSt c a len cap w V2 (.slice (some ⟨g, off, none⟩) L.length cp) (.slice co nc cc) (.slice go nh hc) (.int .i64 bad) ab ⟨5, 0, 0, 0, 0, s⟩) := ac_cur HT1.out hcw hA2 hG2
            have e2 := ((HRD.out V2 HT2.out.fr).on p hpl).2.c1
            have q3 := HT2.out.act.c3
            have hwy : IntKind.i64.wrap ((at' L p).round + y) = (at' L p).round + y := by rw [IntKind.wrap_i64]; omega
            have g3 := HT2.out.act.f3
            clear hA2 hG2 hy1)
         | (go_at_call 63
            refine (Cur.below c a len cap mi _ hl hme HS30.out.at').mono ?_
            rintro e V1 ⟨x, rfl, hx0, hx1, hA1, hG1⟩
            have hx2 := hx1 hmm.1
            have HT1 : Hid (AcSt c a len cap w V1 (.slice (some ⟨g, off, none⟩) L.length cp) (.slice co nc cc) (.slice go nh hc) (.int .i64 bad) ab ⟨5, 0, 0, 0, 0, s⟩) := ac_cur HS30.out hcw hA1 hG1
            obtain ⟨p, rfl, hpl⟩ : ∃ p : Nat, x = (L.length : Int) - 1 - (p : Int) ∧ p < L.length := ⟨((L.length : Int) - 1 - x).toNat, by omega, by omega⟩
            have hpi : (p : Int) < (L.length : Int) := by omega
            have hwp : (L.length : Int) - 1 - ((L.length : Int) - 1 - (p : Int)) = (p : Int) := by omega
            have hwpp : IntKind.i64.wrap (p : Int) = (p : Int) := by rw [IntKind.wrap_i64]; omega
            have hwq : IntKind.i64.wrap ((L.length : Int) - 1 - ((L.length : Int) - 1 - (p : Int))) = (p : Int) := by rw [IntKind.wrap_i64]; omega
            have e1 := ((HRD.out V1 HT1.out.fr).on p hpl).2.c1
            have hrb := Lc.ok_round (Lc.can_ok (Lc.lace_upTo HLC.out p hpl))
            clear hA1 hG1 hx1))
       all_goals (go_wp2_with fail)
       all_goals go_meet
       all_goals exact ⟨rfl, (at' L p).round + y, by omega, by omega, ac_rnd HT2.out hcb _⟩
     case rest =>
       obtain ⟨rfl, rd, hrd0, hrd1, HS5⟩ := hcut
       clear HS30 HS3 HB3 f3 HSB hmin hmm hme
       have b3 := HS5.out.act.c3
       by_cases hz : rd = 0
       · subst hz
         have hz' : ((0 : Int) == 0) = true := rfl
         clear b3
         have HF : Hid (AcPost c a len cap w (.returned (acV ⟨5, 0, 0, 0, 0, s⟩)) (set6 wc (w.heap.size + 1) ⟨5, 0, 0, 0, 0, s⟩)) := ac_fin HS5.out hcb hs13
         have HQ : Hid (Q6 (set6 wc (w.heap.size + 1) ⟨5, 0, 0, 0, 0, s⟩) (w.heap.size + 1) ⟨5, 0, 0, 0, 0, s⟩) := set6_at HS5.out.res
         obtain ⟨_, b0, b1, b2, b3, b4, b5, _, _, _, _, _, _⟩ := HS5.out.act
         obtain ⟨_, r0, r1, r2, r3, r4, r5, f0, f1, f2, f3, f4, f5⟩ := HS5.out.res
         go_wp2
         obtain ⟨_, y0, y1, y2, y3, y4, y5, _, _, _, _, _, _⟩ := HQ.out
         unfold set6 at y0 y1 y2 y3 y4 y5
         exact bodyPost_ret (v := acV ⟨5, 0, 0, 0, 0, s⟩) (by simp [results, Tryz.results154, go_sem, y0, y1, y2, y3, y4, y5]) rfl HF.out
       · have hz' : (rd == 0) = false := by simpa using hz
         clear hz
         go_wp2_with fail
         go_loopw [7] (fun i wr => ∃ (j : Nat) (f : Int), j ≤ L.length ∧ i = .int .i64 j ∧ Hid (AcSt c a len cap w wr (.slice (some ⟨g, off, none⟩) L.length cp) (.slice co nc cc) (.slice go nh hc) (.int .i64 bad) ab ⟨5, 0, 0, rd, f, s⟩)) (fun i _ => L.length - (intOf i).toNat)
         case atStart => exact ⟨0, 0, by omega, rfl, HS5.out⟩
         case round =>
           clear b3 HS5
           obtain ⟨j, f, hj, rfl, HSR⟩ := hrel
           by_cases hlt : j < L.length
           · have hji : (j : Int) < (L.length : Int) := by omega
             have hrj := Lc.ok_round (Lc.can_ok (Lc.lace_upTo HLC.out j hlt))
             have hwr : IntKind.i64.wrap (rd - 1) = rd - 1 := by rw [IntKind.wrap_i64]; omega
             have HSS : Hid (∀ X : World, ∀ x, AcSt c a len cap w X (.slice (some ⟨g, off, none⟩) L.length cp) (.slice co nc cc) (.slice go nh hc) (.int .i64 bad) ab x → x.round = rd → X.cell? ⟨w.heap.size, 0, none⟩ = some (.slice (some ⟨g, off, none⟩) L.length cp) ∧ X.cell? ⟨w.heap.size, 3, none⟩ = some (.int .i64 bad) ∧ X.cell? ⟨ab, 3, none⟩ = some (.int .i64 rd) ∧ X.cell? ⟨g, off + j * 4, none⟩ = some (.int .i64 (at' L j).hand) ∧ X.cell? ⟨g, off + j * 4 + 1, none⟩ = some (.int .i64 (at' L j).round)) := fun X x h hx => ⟨h.box.c0, h.box.c3, by have := h.act.c3; rwa [hx] at this, ((HRD.out X h.fr).on j hlt).2.c0, ((HRD.out X h.fr).on j hlt).2.c1⟩
             obtain ⟨c0, c3, b3, d0, d1⟩ := HSS.out wr _ HSR.out rfl
             generalize (at' L j).round = rj at HSS d1 hrj
             generalize (at' L j).hand = hj' at HSS d0
             have HSRd : Hid (AcSt c a len cap w wr.drew (.slice (some ⟨g, off, none⟩) L.length cp) (.slice co nc cc) (.slice go nh hc) (.int .i64 bad) ab ⟨5, 0, 0, rd, f, s⟩) := ac_drewN HSR.out hcb 1
             go_upto_region 11 with fail
             go_cut [86] (fun bb wx => ∃ x : Bool, bb = .bool x ∧ Hid (AcSt c a len cap w wx (.slice (some ⟨g, off, none⟩) L.length cp) (.slice co nc cc) (.slice go nh hc) (.int .i64 bad) ab ⟨5, 0, 0, rd, f, s⟩))
             case first =>
               by_cases e1 : rj = rd - 1
               · have e1' : (rj == rd - 1) = true := by simpa using e1
                 have e3' : decide (rj < rd - 1) = false := decide_eq_false (by omega)
                 by_cases e2 : hj' = bad
                 · have e2' : (hj' != bad) = false := by simpa using e2
                   clear e1 e2
                   obtain ⟨b, hcall⟩ := Cur.once_fixed c a len cap 2 wr hl (by omega) (by omega) HSR.out.at'
                   have hcall1 := hcall 1
                   clear hcall
                   cases b
                   · skip
                     refine wp_region_held_drew (S := fun X => X.cell? ⟨w.heap.size, 0, none⟩ = some (.slice (some ⟨g, off, none⟩) L.length cp) ∧ X.cell? ⟨w.heap.size, 3, none⟩ = some (.int .i64 bad) ∧ X.cell? ⟨ab, 3, none⟩ = some (.int .i64 rd) ∧ X.cell? ⟨g, off + j * 4, none⟩ = some (.int .i64 hj') ∧ X.cell? ⟨g, off + j * 4 + 1, none⟩ = some (.int .i64 rj)) (by kernel_rfl) (HSS.out _ _ HSRd.out rfl) (fun hHeld => ?_)
                     refine takeD (some 46) (i := 0) (v := ?_) rfl rfl (by kernel_rfl) (by kernel_rfl) (by kernel_rfl) (fun _ _ _ h => h) (Or.inl ⟨by kernel_rfl, ?_⟩) (by assumption) ?_
                     rotate_left
                     · (intro w hSw; (try dsimp only at hSw); go_simp; (try with_reducible rfl))
                     (try simp only [Act.put]); (try simp only [List.setIfInBounds_toArray]); (try simp only [List.set_cons_succ]); (try simp only [List.set_cons_zero])
                     refine takeD (some 47) (i := 1) (v := ?_) rfl rfl (by kernel_rfl) (by kernel_rfl) (by kernel_rfl) (fun _ _ _ h => h) (Or.inl ⟨by kernel_rfl, ?_⟩) (by assumption) ?_
                     rotate_left
                     · (intro w hSw; (try dsimp only at hSw); go_simp; (try with_reducible rfl))
                     (try simp only [Act.put]); (try simp only [List.setIfInBounds_toArray]); (try simp only [List.set_cons_succ]); (try simp only [List.set_cons_zero])
                     refine takeD (some 48) (i := 2) (v := ?_) rfl rfl (by kernel_rfl) (by kernel_rfl) (by kernel_rfl) (fun _ _ _ h => h) (Or.inl ⟨by kernel_rfl, ?_⟩) (by assumption) ?_
                     rotate_left
                     · (intro w hSw; (try dsimp only at hSw); go_simp; (try with_reducible rfl))
                     (try simp only [Act.put]); (try simp only [List.setIfInBounds_toArray]); (try simp only [List.set_cons_succ]); (try simp only [List.set_cons_zero])
                     refine takeD (some 49) (i := 3) (v := ?_) rfl rfl (by kernel_rfl) (by kernel_rfl) (by kernel_rfl) (fun _ _ _ h => h) (Or.inl ⟨by kernel_rfl, ?_⟩) (by assumption) ?_
                     rotate_left
                     · (intro w hSw; (try dsimp only at hSw); go_simp; (try with_reducible rfl))
                     (try simp only [Act.put]); (try simp only [List.setIfInBounds_toArray]); (try simp only [List.set_cons_succ]); (try simp only [List.set_cons_zero])
                     refine takeD (some 50) (i := 4) (v := ?_) rfl rfl (by kernel_rfl) (by kernel_rfl) (by kernel_rfl) (fun _ _ _ h => h) (Or.inl ⟨by kernel_rfl, ?_⟩) (by assumption) ?_
                     rotate_left
                     · (intro w hSw; (try dsimp only at hSw); go_simp; (try with_reducible rfl))
                     (try simp only [Act.put]); (try simp only [List.setIfInBounds_toArray]); (try simp only [List.set_cons_succ]); (try simp only [List.set_cons_zero])
                     refine takeD (some 51) (i := 5) (v := ?_) rfl rfl (by kernel_rfl) (by kernel_rfl) (by kernel_rfl) (fun _ _ _ h => h) (Or.inl ⟨by kernel_rfl, ?_⟩) (by assumption) ?_
                     rotate_left
                     · (intro w hSw; (try dsimp only at hSw); go_simp; (try with_reducible rfl))
                     (try simp only [Act.put]); (try simp only [List.setIfInBounds_toArray]); (try simp only [List.set_cons_succ]); (try simp only [List.set_cons_zero])
                     refine takeD (some 52) (i := 6) (v := ?_) rfl rfl (by kernel_rfl) (by kernel_rfl) (by kernel_rfl) (fun _ _ _ h => h) (Or.inl ⟨by kernel_rfl, ?_⟩) (by assumption) ?_
                     rotate_left
                     · (intro w hSw; (try dsimp only at hSw); go_simp; (try with_reducible rfl))
                     (try simp only [Act.put]); (try simp only [List.setIfInBounds_toArray]); (try simp only [List.set_cons_succ]); (try simp only [List.set_cons_zero])
                     refine takeD (some 53) (i := 7) (v := ?_) rfl rfl (by kernel_rfl) (by kernel_rfl) (by kernel_rfl) (fun _ _ _ h => h) (Or.inl ⟨by kernel_rfl, ?_⟩) (by assumption) ?_
                     rotate_left
                     · (intro w hSw; (try dsimp only at hSw); go_simp; (try with_reducible rfl))
                     (try simp only [Act.put]); (try simp only [List.setIfInBounds_toArray]); (try simp only [List.set_cons_succ]); (try simp only [List.set_cons_zero])
                     refine takeD (some 54) (i := 8) (v := ?_) rfl rfl (by kernel_rfl) (by kernel_rfl) (by kernel_rfl) (fun _ _ _ h => h) (Or.inl ⟨by kernel_rfl, ?_⟩) (by assumption) ?_
                     rotate_left
                     · (intro w hSw; (try dsimp only at hSw); go_simp; (try with_reducible rfl))
                     (try simp only [Act.put]); (try simp only [List.setIfInBounds_toArray]); (try simp only [List.set_cons_succ]); (try simp only [List.set_cons_zero])
                     refine takeD (some 55) (i := 9) (v := ?_) rfl rfl (by kernel_rfl) (by kernel_rfl) (by kernel_rfl) (fun _ _ _ h => h) (Or.inl ⟨by kernel_rfl, ?_⟩) (by assumption) ?_
                     rotate_left
                     · (intro w hSw; (try dsimp only at hSw); go_simp; (try with_reducible rfl))
                     (try simp only [Act.put]); (try simp only [List.setIfInBounds_toArray]); (try simp only [List.set_cons_succ]); (try simp only [List.set_cons_zero])
                     refine takeD (some 56) (i := 10) (v := ?_) rfl rfl (by kernel_rfl) (by kernel_rfl) (by kernel_rfl) (fun _ _ _ h => h) (Or.inl ⟨by kernel_rfl, ?_⟩) (by assumption) ?_
                     rotate_left
                     · (intro w hSw; (try dsimp only at hSw); go_simp; (try with_reducible rfl))
                     (try simp only [Act.put]); (try simp only [List.setIfInBounds_toArray]); (try simp only [List.set_cons_succ]); (try simp only [List.set_cons_zero])
                     refine takeD (some 57) (i := 11) (v := ?_) rfl rfl (by kernel_rfl) (by kernel_rfl) (by kernel_rfl) (fun _ _ _ h => h) (Or.inl ⟨by kernel_rfl, ?_⟩) (by assumption) ?_
                     rotate_left
                     · (intro w hSw; (try dsimp only at hSw); go_simp; (try with_reducible rfl))
                     (try simp only [Act.put]); (try simp only [List.setIfInBounds_toArray]); (try simp only [List.set_cons_succ]); (try simp only [List.set_cons_zero])
                     refine takeD (some 58) (i := 12) (v := ?_) rfl rfl (by kernel_rfl) (by kernel_rfl) (by kernel_rfl) (fun _ _ _ h => h) (Or.inl ⟨by kernel_rfl, ?_⟩) (by assumption) ?_
                     rotate_left
                     · (intro w hSw; (try dsimp only at hSw); go_simp; (try with_reducible rfl))
                     (try simp only [Act.put]); (try simp only [List.setIfInBounds_toArray]); (try simp only [List.set_cons_succ]); (try simp only [List.set_cons_zero])
                     refine takeD (some 59) (i := 13) (v := ?_) rfl rfl (by kernel_rfl) (by kernel_rfl) (by kernel_rfl) (fun _ _ _ h => h) (Or.inl ⟨by kernel_rfl, ?_⟩) (by assumption) ?_
                     rotate_left
                     · (intro w hSw; (try dsimp only at hSw); go_simp; (try with_reducible rfl))
                     (try simp only [Act.put]); (try simp only [List.setIfInBounds_toArray]); (try simp only [List.set_cons_succ]); (try simp only [List.set_cons_zero])
                     refine takeD (some 60) (i := 14) (v := ?_) rfl rfl (by kernel_rfl) (by kernel_rfl) (by kernel_rfl) (fun _ _ _ h => h) (Or.inl ⟨by kernel_rfl, ?_⟩) (by assumption) ?_
                     rotate_left
                     · (intro w hSw; (try dsimp only at hSw); go_simp; (try with_reducible rfl))
                     (try simp only [Act.put]); (try simp only [List.setIfInBounds_toArray]); (try simp only [List.set_cons_succ]); (try simp only [List.set_cons_zero])
                     refine takeD (some 61) (i := 15) (v := ?_) rfl rfl (by kernel_rfl) (by kernel_rfl) (by kernel_rfl) (fun _ _ _ h => h) (Or.inl ⟨by kernel_rfl, ?_⟩) (by assumption) ?_
                     rotate_left
                     · (intro w hSw; (try dsimp only at hSw); go_simp; (try with_reducible rfl))
                     (try simp only [Act.put]); (try simp only [List.setIfInBounds_toArray]); (try simp only [List.set_cons_succ]); (try simp only [List.set_cons_zero])
                     refine takeD (some 62) (i := 16) (v := ?_) rfl rfl (by kernel_rfl) (by kernel_rfl) (by kernel_rfl) (fun _ _ _ h => h) (Or.inl ⟨by kernel_rfl, ?_⟩) (by assumption) ?_
                     rotate_left
                     · (intro w hSw; (try dsimp only at hSw); go_simp; (try with_reducible rfl))
                     (try simp only [Act.put]); (try simp only [List.setIfInBounds_toArray]); (try simp only [List.set_cons_succ]); (try simp only [List.set_cons_zero])
                     refine takeD (some 63) (i := 17) (v := ?_) rfl rfl (by kernel_rfl) (by kernel_rfl) (by kernel_rfl) (fun _ _ _ h => h) (Or.inl ⟨by kernel_rfl, ?_⟩) (by assumption) ?_
                     rotate_left
                     · (intro w hSw; (try dsimp only at hSw); go_simp; (try with_reducible rfl))
                     (try simp only [Act.put]); (try simp only [List.setIfInBounds_toArray]); (try simp only [List.set_cons_succ]); (try simp only [List.set_cons_zero])
                     refine takeD (some 64) (i := 18) (v := ?_) rfl rfl (by kernel_rfl) (by kernel_rfl) (by kernel_rfl) (fun _ _ _ h => h) (Or.inl ⟨by kernel_rfl, ?_⟩) (by assumption) ?_
                     rotate_left
                     · (intro w hSw; (try dsimp only at hSw); go_simp; (try with_reducible rfl))
                     (try simp only [Act.put]); (try simp only [List.setIfInBounds_toArray]); (try simp only [List.set_cons_succ]); (try simp only [List.set_cons_zero])
                     refine takeD (some 65) (i := 19) (v := ?_) rfl rfl (by kernel_rfl) (by kernel_rfl) (by kernel_rfl) (fun _ _ _ h => h) (Or.inl ⟨by kernel_rfl, ?_⟩) (by assumption) ?_
                     rotate_left
                     · (intro w hSw; (try dsimp only at hSw); go_simp; (try with_reducible rfl))
                     (try simp only [Act.put]); (try simp only [List.setIfInBounds_toArray]); (try simp only [List.set_cons_succ]); (try simp only [List.set_cons_zero])
                     refine takeD (some 66) (i := 20) (v := ?_) rfl rfl (by kernel_rfl) (by kernel_rfl) (by kernel_rfl) (fun _ _ _ h => h) (Or.inl ⟨by kernel_rfl, ?_⟩) (by assumption) ?_
                     rotate_left
                     · (intro w hSw; (try dsimp only at hSw); go_simp; (try with_reducible rfl))
                     (try simp only [Act.put]); (try simp only [List.setIfInBounds_toArray]); (try simp only [List.set_cons_succ]); (try simp only [List.set_cons_zero])
                     refine takeD (some 67) (i := 21) (v := ?_) rfl rfl (by kernel_rfl) (by kernel_rfl) (by kernel_rfl) (fun _ _ _ h => h) (Or.inl ⟨by kernel_rfl, ?_⟩) (by assumption) ?_
                     rotate_left
                     · (intro w hSw; (try dsimp only at hSw); go_simp; (try with_reducible rfl))
                     (try simp only [Act.put]); (try simp only [List.setIfInBounds_toArray]); (try simp only [List.set_cons_succ]); (try simp only [List.set_cons_zero])
                     refine wpAnyH_ready (rs := [22]) (by kernel_rfl) (by simp) ?_
                     refine AllReadyH.cons rfl (fun K hK => ?_) AllReadyH.nil
                     go_simp
                     refine hcall1.mono ?_
                     rintro e V1 ⟨rfl, hA1, hG1⟩
                     have HT : Hid (AcSt c a len cap w V1 (.slice (some ⟨g, off, none⟩) L.length cp) (.slice co nc cc) (.slice go nh hc) (.int .i64 bad) ab ⟨5, 0, 0, rd, f, s⟩) := ac_cur HSRd.out hcw hA1 hG1
                     clear hA1 hG1
                     go_wp2_with fail
                     refine hK.out _ _ (HSS.out _ _ HT.out rfl) (fun hHeld => ?_)
                     clear hK K
                     (try simp only [Act.put]); (try simp only [List.setIfInBounds_toArray]); (try simp only [List.set_cons_succ]); (try simp only [List.set_cons_zero])
                     refine takeD (some 69) (i := 23) (v := ?_) rfl rfl (by kernel_rfl) (by kernel_rfl) (by kernel_rfl) (fun _ _ _ h => h) (Or.inl ⟨by kernel_rfl, ?_⟩) (by assumption) ?_
                     rotate_left
                     · (intro w hSw; (try dsimp only at hSw); go_simp; (try with_reducible rfl))
                     (try simp only [Act.put]); (try simp only [List.setIfInBounds_toArray]); (try simp only [List.set_cons_succ]); (try simp only [List.set_cons_zero])
                     refine takeD (some 70) (i := 24) (v := ?_) rfl rfl (by kernel_rfl) (by kernel_rfl) (by kernel_rfl) (fun _ _ _ h => h) (Or.inl ⟨by kernel_rfl, ?_⟩) (by assumption) ?_
                     rotate_left
                     · (intro w hSw; (try dsimp only at hSw); go_simp; (try with_reducible rfl))
                     (try simp only [Act.put]); (try simp only [List.setIfInBounds_toArray]); (try simp only [List.set_cons_succ]); (try simp only [List.set_cons_zero])
                     refine takeD (some 71) (i := 25) (v := ?_) rfl rfl (by kernel_rfl) (by kernel_rfl) (by kernel_rfl) (fun _ _ _ h => h) (Or.inl ⟨by kernel_rfl, ?_⟩) (by assumption) ?_
                     rotate_left
                     · (intro w hSw; (try dsimp only at hSw); go_simp; (try with_reducible rfl))
                     (try simp only [Act.put]); (try simp only [List.setIfInBounds_toArray]); (try simp only [List.set_cons_succ]); (try simp only [List.set_cons_zero])
                     refine takeD (some 72) (i := 26) (v := ?_) rfl rfl (by kernel_rfl) (by kernel_rfl) (by kernel_rfl) (fun _ _ _ h => h) (Or.inl ⟨by kernel_rfl, ?_⟩) (by assumption) ?_
                     rotate_left
                     · (intro w hSw; (try dsimp only at hSw); go_simp; (try with_reducible rfl))
                     (try simp only [Act.put]); (try simp only [List.setIfInBounds_toArray]); (try simp only [List.set_cons_succ]); (try simp only [List.set_cons_zero])
                     refine takeD (some 73) (i := 27) (v := ?_) rfl rfl (by kernel_rfl) (by kernel_rfl) (by kernel_rfl) (fun _ _ _ h => h) (Or.inl ⟨by kernel_rfl, ?_⟩) (by assumption) ?_
                     rotate_left
                     · (intro w hSw; (try dsimp only at hSw); go_simp; (try with_reducible rfl))
                     (try simp only [Act.put]); (try simp only [List.setIfInBounds_toArray]); (try simp only [List.set_cons_succ]); (try simp only [List.set_cons_zero])
                     refine takeD (some 74) (i := 28) (v := ?_) rfl rfl (by kernel_rfl) (by kernel_rfl) (by kernel_rfl) (fun _ _ _ h => h) (Or.inl ⟨by kernel_rfl, ?_⟩) (by assumption) ?_
                     rotate_left
                     · (intro w hSw; (try dsimp only at hSw); go_simp; (try with_reducible rfl))
                     (try simp only [Act.put]); (try simp only [List.setIfInBounds_toArray]); (try simp only [List.set_cons_succ]); (try simp only [List.set_cons_zero])
                     refine takeD (some 75) (i := 29) (v := ?_) rfl rfl (by kernel_rfl) (by kernel_rfl) (by kernel_rfl) (fun _ _ _ h => h) (Or.inl ⟨by kernel_rfl, ?_⟩) (by assumption) ?_
                     rotate_left
                     · (intro w hSw; (try dsimp only at hSw); go_simp; (try with_reducible rfl))
                     (try simp only [Act.put]); (try simp only [List.setIfInBounds_toArray]); (try simp only [List.set_cons_succ]); (try simp only [List.set_cons_zero])
                     refine takeD (some 76) (i := 30) (v := ?_) rfl rfl (by kernel_rfl) (by kernel_rfl) (by kernel_rfl) (fun _ _ _ h => h) (Or.inl ⟨by kernel_rfl, ?_⟩) (by assumption) ?_
                     rotate_left
                     · (intro w hSw; (try dsimp only at hSw); go_simp; (try with_reducible rfl))
                     (try simp only [Act.put]); (try simp only [List.setIfInBounds_toArray]); (try simp only [List.set_cons_succ]); (try simp only [List.set_cons_zero])
                     refine takeD (some 77) (i := 31) (v := ?_) rfl rfl (by kernel_rfl) (by kernel_rfl) (by kernel_rfl) (fun _ _ _ h => h) (Or.inl ⟨by kernel_rfl, ?_⟩) (by assumption) ?_
                     rotate_left
                     · (intro w hSw; (try dsimp only at hSw); go_simp; (try with_reducible rfl))
                     (try simp only [Act.put]); (try simp only [List.setIfInBounds_toArray]); (try simp only [List.set_cons_succ]); (try simp only [List.set_cons_zero])
                     refine takeD (some 78) (i := 32) (v := ?_) rfl rfl (by kernel_rfl) (by kernel_rfl) (by kernel_rfl) (fun _ _ _ h => h) (Or.inl ⟨by kernel_rfl, ?_⟩) (by assumption) ?_
                     rotate_left
                     · (intro w hSw; (try dsimp only at hSw); go_simp; (try with_reducible rfl))
                     (try simp only [Act.put]); (try simp only [List.setIfInBounds_toArray]); (try simp only [List.set_cons_succ]); (try simp only [List.set_cons_zero])
                     refine takeD (some 79) (i := 33) (v := ?_) rfl rfl (by kernel_rfl) (by kernel_rfl) (by kernel_rfl) (fun _ _ _ h => h) (Or.inl ⟨by kernel_rfl, ?_⟩) (by assumption) ?_
                     rotate_left
                     · (intro w hSw; (try dsimp only at hSw); go_simp; (try with_reducible rfl))
                     (try simp only [Act.put]); (try simp only [List.setIfInBounds_toArray]); (try simp only [List.set_cons_succ]); (try simp only [List.set_cons_zero])
                     refine takeD (some 80) (i := 34) (v := ?_) rfl rfl (by kernel_rfl) (by kernel_rfl) (by kernel_rfl) (fun _ _ _ h => h) (Or.inl ⟨by kernel_rfl, ?_⟩) (by assumption) ?_
                     rotate_left
                     · (intro w hSw; (try dsimp only at hSw); go_simp; (try with_reducible rfl))
                     (try simp only [Act.put]); (try simp only [List.setIfInBounds_toArray]); (try simp only [List.set_cons_succ]); (try simp only [List.set_cons_zero])
                     refine takeD (some 81) (i := 35) (v := ?_) rfl rfl (by kernel_rfl) (by kernel_rfl) (by kernel_rfl) (fun _ _ _ h => h) (Or.inl ⟨by kernel_rfl, ?_⟩) (by assumption) ?_
                     rotate_left
                     · (intro w hSw; (try dsimp only at hSw); go_simp; (try with_reducible rfl))
                     (try simp only [Act.put]); (try simp only [List.setIfInBounds_toArray]); (try simp only [List.set_cons_succ]); (try simp only [List.set_cons_zero])
                     refine takeD (some 82) (i := 36) (v := ?_) rfl rfl (by kernel_rfl) (by kernel_rfl) (by kernel_rfl) (fun _ _ _ h => h) (Or.inl ⟨by kernel_rfl, ?_⟩) (by assumption) ?_
                     rotate_left
                     · (intro w hSw; (try dsimp only at hSw); go_simp; (try with_reducible rfl))
                     (try simp only [Act.put]); (try simp only [List.setIfInBounds_toArray]); (try simp only [List.set_cons_succ]); (try simp only [List.set_cons_zero])
                     refine takeD (some 83) (i := 37) (v := undef) rfl rfl (by kernel_rfl) (by kernel_rfl) (by kernel_rfl) (fun _ _ _ h => h) (Or.inr ⟨by kernel_rfl, rfl⟩) (by assumption) ?_
                     (try simp only [Act.put]); (try simp only [List.setIfInBounds_toArray]); (try simp only [List.set_cons_succ]); (try simp only [List.set_cons_zero])
                     refine takeD (some 84) (i := 38) (v := undef) rfl rfl (by kernel_rfl) (by kernel_rfl) (by kernel_rfl) (fun _ _ _ h => h) (Or.inr ⟨by kernel_rfl, rfl⟩) (by assumption) ?_
                     (try simp only [Act.put]); (try simp only [List.setIfInBounds_toArray]); (try simp only [List.set_cons_succ]); (try simp only [List.set_cons_zero])
                     refine takeD (some 85) (i := 39) (v := ?_) rfl rfl (by kernel_rfl) (by kernel_rfl) (by kernel_rfl) (fun _ _ _ h => h) (Or.inl ⟨by kernel_rfl, ?_⟩) (by assumption) ?_
                     rotate_left
                     · (intro w hSw; (try dsimp only at hSw); go_simp; (try with_reducible rfl))
                     (try simp only [Act.put]); (try simp only [List.setIfInBounds_toArray]); (try simp only [List.set_cons_succ]); (try simp only [List.set_cons_zero])
                     refine takeD (some 86) (i := 40) (v := ?_) rfl rfl (by kernel_rfl) (by kernel_rfl) (by kernel_rfl) (fun _ _ _ h => h) (Or.inl ⟨by kernel_rfl, ?_⟩) (by assumption) ?_
                     rotate_left
                     · (intro w hSw; (try dsimp only at hSw); go_simp; (try with_reducible rfl))
                     (try simp only [Act.put]); (try simp only [List.setIfInBounds_toArray]); (try simp only [List.set_cons_succ]); (try simp only [List.set_cons_zero])
                     refine wpAnyH_done (by kernel_rfl) ?_ _
                     go_wp2_with fail
                     go_meet
                     exact ⟨_, rfl, HT.out⟩
                   · skip
                     refine wp_region_held_drew (S := fun X => X.cell? ⟨w.heap.size, 0, none⟩ = some (.slice (some ⟨g, off, none⟩) L.length cp) ∧ X.cell? ⟨w.heap.size, 3, none⟩ = some (.int .i64 bad) ∧ X.cell? ⟨ab, 3, none⟩ = some (.int .i64 rd) ∧ X.cell? ⟨g, off + j * 4, none⟩ = some (.int .i64 hj') ∧ X.cell? ⟨g, off + j * 4 + 1, none⟩ = some (.int .i64 rj)) (by kernel_rfl) (HSS.out _ _ HSRd.out rfl) (fun hHeld => ?_)
                     refine takeD (some 46) (i := 0) (v := ?_) rfl rfl (by kernel_rfl) (by kernel_rfl) (by kernel_rfl) (fun _ _ _ h => h) (Or.inl ⟨by kernel_rfl, ?_⟩) (by assumption) ?_
                     rotate_left
                     · (intro w hSw; (try dsimp only at hSw); go_simp; (try with_reducible rfl))
                     (try simp only [Act.put]); (try simp only [List.setIfInBounds_toArray]); (try simp only [List.set_cons_succ]); (try simp only [List.set_cons_zero])
                     refine takeD (some 47) (i := 1) (v := ?_) rfl rfl (by kernel_rfl) (by kernel_rfl) (by kernel_rfl) (fun _ _ _ h => h) (Or.inl ⟨by kernel_rfl, ?_⟩) (by assumption) ?_
                     rotate_left
                     · (intro w hSw; (try dsimp only at hSw); go_simp; (try with_reducible rfl))
                     (try simp only [Act.put]); (try simp only [List.setIfInBounds_toArray]); (try simp only [List.set_cons_succ]); (try simp only [List.set_cons_zero])
                     refine takeD (some 48) (i := 2) (v := ?_) rfl rfl (by kernel_rfl) (by kernel_rfl) (by kernel_rfl) (fun _ _ _ h => h) (Or.inl ⟨by kernel_rfl, ?_⟩) (by assumption) ?_
                     rotate_left
                     · (intro w hSw; (try dsimp only at hSw); go_simp; (try with_reducible rfl))
                     (try simp only [Act.put]); (try simp only [List.setIfInBounds_toArray]); (try simp only [List.set_cons_succ]); (try simp only [List.set_cons_zero])
                     refine takeD (some 49) (i := 3) (v := ?_) rfl rfl (by kernel_rfl) (by kernel_rfl) (by kernel_rfl) (fun _ _ _ h => h) (Or.inl ⟨by kernel_rfl, ?_⟩) (by assumption) ?_
                     rotate_left
                     · (intro w hSw; (try dsimp only at hSw); go_simp; (try with_reducible rfl))
                     (try simp only [Act.put]); (try simp only [List.setIfInBounds_toArray]); (try simp only [List.set_cons_succ]); (try simp only [List.set_cons_zero])
                     refine takeD (some 50) (i := 4) (v := ?_) rfl rfl (by kernel_rfl) (by kernel_rfl) (by kernel_rfl) (fun _ _ _ h => h) (Or.inl ⟨by kernel_rfl, ?_⟩) (by assumption) ?_
                     rotate_left
                     · (intro w hSw; (try dsimp only at hSw); go_simp; (try with_reducible rfl))
                     (try simp only [Act.put]); (try simp only [List.setIfInBounds_toArray]); (try simp only [List.set_cons_succ]); (try simp only [List.set_cons_zero])
                     refine takeD (some 51) (i := 5) (v := ?_) rfl rfl (by kernel_rfl) (by kernel_rfl) (by kernel_rfl) (fun _ _ _ h => h) (Or.inl ⟨by kernel_rfl, ?_⟩) (by assumption) ?_
                     rotate_left
                     · (intro w hSw; (try dsimp only at hSw); go_simp; (try with_reducible rfl))
                     (try simp only [Act.put]); (try simp only [List.setIfInBounds_toArray]); (try simp only [List.set_cons_succ]); (try simp only [List.set_cons_zero])
                     refine takeD (some 52) (i := 6) (v := ?_) rfl rfl (by kernel_rfl) (by kernel_rfl) (by kernel_rfl) (fun _ _ _ h => h) (Or.inl ⟨by kernel_rfl, ?_⟩) (by assumption) ?_
                     rotate_left
                     · (intro w hSw; (try dsimp only at hSw); go_simp; (try with_reducible rfl))
                     (try simp only [Act.put]); (try simp only [List.setIfInBounds_toArray]); (try simp only [List.set_cons_succ]); (try simp only [List.set_cons_zero])
                     refine takeD (some 53) (i := 7) (v := ?_) rfl rfl (by kernel_rfl) (by kernel_rfl) (by kernel_rfl) (fun _ _ _ h => h) (Or.inl ⟨by kernel_rfl, ?_⟩) (by assumption) ?_
                     rotate_left
                     · (intro w hSw; (try dsimp only at hSw); go_simp; (try with_reducible rfl))
                     (try simp only [Act.put]); (try simp only [List.setIfInBounds_toArray]); (try simp only [List.set_cons_succ]); (try simp only [List.set_cons_zero])
                     refine takeD (some 54) (i := 8) (v := ?_) rfl rfl (by kernel_rfl) (by kernel_rfl) (by kernel_rfl) (fun _ _ _ h => h) (Or.inl ⟨by kernel_rfl, ?_⟩) (by assumption) ?_
                     rotate_left
                     · (intro w hSw; (try dsimp only at hSw); go_simp; (try with_reducible rfl))
                     (try simp only [Act.put]); (try simp only [List.setIfInBounds_toArray]); (try simp only [List.set_cons_succ]); (try simp only [List.set_cons_zero])
                     refine takeD (some 55) (i := 9) (v := ?_) rfl rfl (by kernel_rfl) (by kernel_rfl) (by kernel_rfl) (fun _ _ _ h => h) (Or.inl ⟨by kernel_rfl, ?_⟩) (by assumption) ?_
                     rotate_left
                     · (intro w hSw; (try dsimp only at hSw); go_simp; (try with_reducible rfl))
                     (try simp only [Act.put]); (try simp only [List.setIfInBounds_toArray]); (try simp only [List.set_cons_succ]); (try simp only [List.set_cons_zero])
                     refine takeD (some 56) (i := 10) (v := ?_) rfl rfl (by kernel_rfl) (by kernel_rfl) (by kernel_rfl) (fun _ _ _ h => h) (Or.inl ⟨by kernel_rfl, ?_⟩) (by assumption) ?_
                     rotate_left
                     · (intro w hSw; (try dsimp only at hSw); go_simp; (try with_reducible rfl))
                     (try simp only [Act.put]); (try simp only [List.setIfInBounds_toArray]); (try simp only [List.set_cons_succ]); (try simp only [List.set_cons_zero])
                     refine takeD (some 57) (i := 11) (v := ?_) rfl rfl (by kernel_rfl) (by kernel_rfl) (by kernel_rfl) (fun _ _ _ h => h) (Or.inl ⟨by kernel_rfl, ?_⟩) (by assumption) ?_
                     rotate_left
                     · (intro w hSw; (try dsimp only at hSw); go_simp; (try with_reducible rfl))
                     (try simp only [Act.put]); (try simp only [List.setIfInBounds_toArray]); (try simp only [List.set_cons_succ]); (try simp only [List.set_cons_zero])
                     refine takeD (some 58) (i := 12) (v := ?_) rfl rfl (by kernel_rfl) (by kernel_rfl) (by kernel_rfl) (fun _ _ _ h => h) (Or.inl ⟨by kernel_rfl, ?_⟩) (by assumption) ?_
                     rotate_left
                     · (intro w hSw; (try dsimp only at hSw); go_simp; (try with_reducible rfl))
                     (try simp only [Act.put]); (try simp only [List.setIfInBounds_toArray]); (try simp only [List.set_cons_succ]); (try simp only [List.set_cons_zero])
                     refine takeD (some 59) (i := 13) (v := ?_) rfl rfl (by kernel_rfl) (by kernel_rfl) (by kernel_rfl) (fun _ _ _ h => h) (Or.inl ⟨by kernel_rfl, ?_⟩) (by assumption) ?_
                     rotate_left
                     · (intro w hSw; (try dsimp only at hSw); go_simp; (try with_reducible rfl))
                     (try simp only [Act.put]); (try simp only [List.setIfInBounds_toArray]); (try simp only [List.set_cons_succ]); (try simp only [List.set_cons_zero])
                     refine takeD (some 60) (i := 14) (v := ?_) rfl rfl (by kernel_rfl) (by kernel_rfl) (by kernel_rfl) (fun _ _ _ h => h) (Or.inl ⟨by kernel_rfl, ?_⟩) (by assumption) ?_
                     rotate_left
                     · (intro w hSw; (try dsimp only at hSw); go_simp; (try with_reducible rfl))
                     (try simp only [Act.put]); (try simp only [List.setIfInBounds_toArray]); (try simp only [List.set_cons_succ]); (try simp only [List.set_cons_zero])
                     refine takeD (some 61) (i := 15) (v := ?_) rfl rfl (by kernel_rfl) (by kernel_rfl) (by kernel_rfl) (fun _ _ _ h => h) (Or.inl ⟨by kernel_rfl, ?_⟩) (by assumption) ?_
                     rotate_left
                     · (intro w hSw; (try dsimp only at hSw); go_simp; (try with_reducible rfl))
                     (try simp only [Act.put]); (try simp only [List.setIfInBounds_toArray]); (try simp only [List.set_cons_succ]); (try simp only [List.set_cons_zero])
                     refine takeD (some 62) (i := 16) (v := ?_) rfl rfl (by kernel_rfl) (by kernel_rfl) (by kernel_rfl) (fun _ _ _ h => h) (Or.inl ⟨by kernel_rfl, ?_⟩) (by assumption) ?_
                     rotate_left
                     · (intro w hSw; (try dsimp only at hSw); go_simp; (try with_reducible rfl))
                     (try simp only [Act.put]); (try simp only [List.setIfInBounds_toArray]); (try simp only [List.set_cons_succ]); (try simp only [List.set_cons_zero])
                     refine takeD (some 63) (i := 17) (v := ?_) rfl rfl (by kernel_rfl) (by kernel_rfl) (by kernel_rfl) (fun _ _ _ h => h) (Or.inl ⟨by kernel_rfl, ?_⟩) (by assumption) ?_
                     rotate_left
                     · (intro w hSw; (try dsimp only at hSw); go_simp; (try with_reducible rfl))
                     (try simp only [Act.put]); (try simp only [List.setIfInBounds_toArray]); (try simp only [List.set_cons_succ]); (try simp only [List.set_cons_zero])
                     refine takeD (some 64) (i := 18) (v := ?_) rfl rfl (by kernel_rfl) (by kernel_rfl) (by kernel_rfl) (fun _ _ _ h => h) (Or.inl ⟨by kernel_rfl, ?_⟩) (by assumption) ?_
                     rotate_left
                     · (intro w hSw; (try dsimp only at hSw); go_simp; (try with_reducible rfl))
                     (try simp only [Act.put]); (try simp only [List.setIfInBounds_toArray]); (try simp only [List.set_cons_succ]); (try simp only [List.set_cons_zero])
                     refine takeD (some 65) (i := 19) (v := ?_) rfl rfl (by kernel_rfl) (by kernel_rfl) (by kernel_rfl) (fun _ _ _ h => h) (Or.inl ⟨by kernel_rfl, ?_⟩) (by assumption) ?_
                     rotate_left
                     · (intro w hSw; (try dsimp only at hSw); go_simp; (try with_reducible rfl))
                     (try simp only [Act.put]); (try simp only [List.setIfInBounds_toArray]); (try simp only [List.set_cons_succ]); (try simp only [List.set_cons_zero])
                     refine takeD (some 66) (i := 20) (v := ?_) rfl rfl (by kernel_rfl) (by kernel_rfl) (by kernel_rfl) (fun _ _ _ h => h) (Or.inl ⟨by kernel_rfl, ?_⟩) (by assumption) ?_
                     rotate_left
                     · (intro w hSw; (try dsimp only at hSw); go_simp; (try with_reducible rfl))
                     (try simp only [Act.put]); (try simp only [List.setIfInBounds_toArray]); (try simp only [List.set_cons_succ]); (try simp only [List.set_cons_zero])
                     refine takeD (some 67) (i := 21) (v := ?_) rfl rfl (by kernel_rfl) (by kernel_rfl) (by kernel_rfl) (fun _ _ _ h => h) (Or.inl ⟨by kernel_rfl, ?_⟩) (by assumption) ?_
                     rotate_left
                     · (intro w hSw; (try dsimp only at hSw); go_simp; (try with_reducible rfl))
                     (try simp only [Act.put]); (try simp only [List.setIfInBounds_toArray]); (try simp only [List.set_cons_succ]); (try simp only [List.set_cons_zero])
                     refine wpAnyH_ready (rs := [22]) (by kernel_rfl) (by simp) ?_
                     refine AllReadyH.cons rfl (fun K hK => ?_) AllReadyH.nil
                     go_simp
                     refine hcall1.mono ?_
                     rintro e V1 ⟨rfl, hA1, hG1⟩
                     have HT : Hid (AcSt c a len cap w V1 (.slice (some ⟨g, off, none⟩) L.length cp) (.slice co nc cc) (.slice go nh hc) (.int .i64 bad) ab ⟨5, 0, 0, rd, f, s⟩) := ac_cur HSRd.out hcw hA1 hG1
                     clear hA1 hG1
                     go_wp2_with fail
                     refine hK.out _ _ (HSS.out _ _ HT.out rfl) (fun hHeld => ?_)
                     clear hK K
                     (try simp only [Act.put]); (try simp only [List.setIfInBounds_toArray]); (try simp only [List.set_cons_succ]); (try simp only [List.set_cons_zero])
                     refine takeD (some 69) (i := 23) (v := ?_) rfl rfl (by kernel_rfl) (by kernel_rfl) (by kernel_rfl) (fun _ _ _ h => h) (Or.inl ⟨by kernel_rfl, ?_⟩) (by assumption) ?_
                     rotate_left
                     · (intro w hSw; (try dsimp only at hSw); go_simp; (try with_reducible rfl))
                     (try simp only [Act.put]); (try simp only [List.setIfInBounds_toArray]); (try simp only [List.set_cons_succ]); (try simp only [List.set_cons_zero])
                     refine takeD (some 70) (i := 24) (v := ?_) rfl rfl (by kernel_rfl) (by kernel_rfl) (by kernel_rfl) (fun _ _ _ h => h) (Or.inl ⟨by kernel_rfl, ?_⟩) (by assumption) ?_
                     rotate_left
                     · (intro w hSw; (try dsimp only at hSw); go_simp; (try with_reducible rfl))
                     (try simp only [Act.put]); (try simp only [List.setIfInBounds_toArray]); (try simp only [List.set_cons_succ]); (try simp only [List.set_cons_zero])
                     refine takeD (some 71) (i := 25) (v := ?_) rfl rfl (by kernel_rfl) (by kernel_rfl) (by kernel_rfl) (fun _ _ _ h => h) (Or.inl ⟨by kernel_rfl, ?_⟩) (by assumption) ?_
                     rotate_left
                     · (intro w hSw; (try dsimp only at hSw); go_simp; (try with_reducible rfl))
                     (try simp only [Act.put]); (try simp only [List.setIfInBounds_toArray]); (try simp only [List.set_cons_succ]); (try simp only [List.set_cons_zero])
                     refine takeD (some 72) (i := 26) (v := undef) rfl rfl (by kernel_rfl) (by kernel_rfl) (by kernel_rfl) (fun _ _ _ h => h) (Or.inr ⟨by kernel_rfl, rfl⟩) (by assumption) ?_
                     (try simp only [Act.put]); (try simp only [List.setIfInBounds_toArray]); (try simp only [List.set_cons_succ]); (try simp only [List.set_cons_zero])
                     refine takeD (some 73) (i := 27) (v := undef) rfl rfl (by kernel_rfl) (by kernel_rfl) (by kernel_rfl) (fun _ _ _ h => h) (Or.inr ⟨by kernel_rfl, rfl⟩) (by assumption) ?_
                     (try simp only [Act.put]); (try simp only [List.setIfInBounds_toArray]); (try simp only [List.set_cons_succ]); (try simp only [List.set_cons_zero])
                     refine takeD (some 74) (i := 28) (v := undef) rfl rfl (by kernel_rfl) (by kernel_rfl) (by kernel_rfl) (fun _ _ _ h => h) (Or.inr ⟨by kernel_rfl, rfl⟩) (by assumption) ?_
                     (try simp only [Act.put]); (try simp only [List.setIfInBounds_toArray]); (try simp only [List.set_cons_succ]); (try simp only [List.set_cons_zero])
                     refine takeD (some 75) (i := 29) (v := undef) rfl rfl (by kernel_rfl) (by kernel_rfl) (by kernel_rfl) (fun _ _ _ h => h) (Or.inr ⟨by kernel_rfl, rfl⟩) (by assumption) ?_
                     (try simp only [Act.put]); (try simp only [List.setIfInBounds_toArray]); (try simp only [List.set_cons_succ]); (try simp only [List.set_cons_zero])
                     refine takeD (some 76) (i := 30) (v := undef) rfl rfl (by kernel_rfl) (by kernel_rfl) (by kernel_rfl) (fun _ _ _ h => h) (Or.inr ⟨by kernel_rfl, rfl⟩) (by assumption) ?_
                     (try simp only [Act.put]); (try simp only [List.setIfInBounds_toArray]); (try simp only [List.set_cons_succ]); (try simp only [List.set_cons_zero])
                     refine takeD (some 77) (i := 31) (v := undef) rfl rfl (by kernel_rfl) (by kernel_rfl) (by kernel_rfl) (fun _ _ _ h => h) (Or.inr ⟨by kernel_rfl, rfl⟩) (by assumption) ?_
                     (try simp only [Act.put]); (try simp only [List.setIfInBounds_toArray]); (try simp only [List.set_cons_succ]); (try simp only [List.set_cons_zero])
                     refine takeD (some 78) (i := 32) (v := undef) rfl rfl (by kernel_rfl) (by kernel_rfl) (by kernel_rfl) (fun _ _ _ h => h) (Or.inr ⟨by kernel_rfl, rfl⟩) (by assumption) ?_
                     (try simp only [Act.put]); (try simp only [List.setIfInBounds_toArray]); (try simp only [List.set_cons_succ]); (try simp only [List.set_cons_zero])
                     refine takeD (some 79) (i := 33) (v := undef) rfl rfl (by kernel_rfl) (by kernel_rfl) (by kernel_rfl) (fun _ _ _ h => h) (Or.inr ⟨by kernel_rfl, rfl⟩) (by assumption) ?_
                     (try simp only [Act.put]); (try simp only [List.setIfInBounds_toArray]); (try simp only [List.set_cons_succ]); (try simp only [List.set_cons_zero])
                     refine takeD (some 80) (i := 34) (v := undef) rfl rfl (by kernel_rfl) (by kernel_rfl) (by kernel_rfl) (fun _ _ _ h => h) (Or.inr ⟨by kernel_rfl, rfl⟩) (by assumption) ?_
                     (try simp only [Act.put]); (try simp only [List.setIfInBounds_toArray]); (try simp only [List.set_cons_succ]); (try simp only [List.set_cons_zero])
                     refine takeD (some 81) (i := 35) (v := undef) rfl rfl (by kernel_rfl) (by kernel_rfl) (by kernel_rfl) (fun _ _ _ h => h) (Or.inr ⟨by kernel_rfl, rfl⟩) (by assumption) ?_
                     (try simp only [Act.put]); (try simp only [List.setIfInBounds_toArray]); (try simp only [List.set_cons_succ]); (try simp only [List.set_cons_zero])
                     refine takeD (some 82) (i := 36) (v := undef) rfl rfl (by kernel_rfl) (by kernel_rfl) (by kernel_rfl) (fun _ _ _ h => h) (Or.inr ⟨by kernel_rfl, rfl⟩) (by assumption) ?_
                     (try simp only [Act.put]); (try simp only [List.setIfInBounds_toArray]); (try simp only [List.set_cons_succ]); (try simp only [List.set_cons_zero])
                     refine takeD (some 83) (i := 37) (v := undef) rfl rfl (by kernel_rfl) (by kernel_rfl) (by kernel_rfl) (fun _ _ _ h => h) (Or.inr ⟨by kernel_rfl, rfl⟩) (by assumption) ?_
                     (try simp only [Act.put]); (try simp only [List.setIfInBounds_toArray]); (try simp only [List.set_cons_succ]); (try simp only [List.set_cons_zero])
                     refine takeD (some 84) (i := 38) (v := undef) rfl rfl (by kernel_rfl) (by kernel_rfl) (by kernel_rfl) (fun _ _ _ h => h) (Or.inr ⟨by kernel_rfl, rfl⟩) (by assumption) ?_
                     (try simp only [Act.put]); (try simp only [List.setIfInBounds_toArray]); (try simp only [List.set_cons_succ]); (try simp only [List.set_cons_zero])
                     refine takeD (some 85) (i := 39) (v := undef) rfl rfl (by kernel_rfl) (by kernel_rfl) (by kernel_rfl) (fun _ _ _ h => h) (Or.inr ⟨by kernel_rfl, rfl⟩) (by assumption) ?_
                     (try simp only [Act.put]); (try simp only [List.setIfInBounds_toArray]); (try simp only [List.set_cons_succ]); (try simp only [List.set_cons_zero])
                     refine takeD (some 86) (i := 40) (v := ?_) rfl rfl (by kernel_rfl) (by kernel_rfl) (by kernel_rfl) (fun _ _ _ h => h) (Or.inl ⟨by kernel_rfl, ?_⟩) (by assumption) ?_
                     rotate_left
                     · (intro w hSw; (try dsimp only at hSw); go_simp; (try with_reducible rfl))
                     (try simp only [Act.put]); (try simp only [List.setIfInBounds_toArray]); (try simp only [List.set_cons_succ]); (try simp only [List.set_cons_zero])
                     refine wpAnyH_done (by kernel_rfl) ?_ _
                     go_wp2_with fail
                     go_meet
                     exact ⟨_, rfl, HT.out⟩
                 · have e2' : (hj' != bad) = true := by simpa using e2
                   clear e1 e2
                   go_quiet (fail)
                   go_wp2
                   go_meet
                   exact ⟨_, rfl, ac_drewN HSR.out hcb _⟩
               · have e1' : (rj == rd - 1) = false := by simpa using e1
                 by_cases e3 : rj < rd - 1
                 · have e3' : decide (rj < rd - 1) = true := decide_eq_true e3
                   clear e1
                   obtain ⟨b, hcall⟩ := Cur.once_fixed c a len cap 8 wr hl (by omega) (by omega) HSR.out.at'
                   have hcall1 := hcall 1
                   clear hcall
                   refine wp_region_held_drew (S := fun X => X.cell? ⟨w.heap.size, 0, none⟩ = some (.slice (some ⟨g, off, none⟩) L.length cp) ∧ X.cell? ⟨w.heap.size, 3, none⟩ = some (.int .i64 bad) ∧ X.cell? ⟨ab, 3, none⟩ = some (.int .i64 rd) ∧ X.cell? ⟨g, off + j * 4, none⟩ = some (.int .i64 hj') ∧ X.cell? ⟨g, off + j * 4 + 1, none⟩ = some (.int .i64 rj)) (by kernel_rfl) (HSS.out _ _ HSRd.out rfl) (fun hHeld => ?_)
                   refine takeD (some 46) (i := 0) (v := ?_) rfl rfl (by kernel_rfl) (by kernel_rfl) (by kernel_rfl) (fun _ _ _ h => h) (Or.inl ⟨by kernel_rfl, ?_⟩) (by assumption) ?_
                   rotate_left
                   · (intro w hSw; (try dsimp only at hSw); go_simp; (try with_reducible rfl))
                   (try simp only [Act.put]); (try simp only [List.setIfInBounds_toArray]); (try simp only [List.set_cons_succ]); (try simp only [List.set_cons_zero])
                   refine takeD (some 47) (i := 1) (v := ?_) rfl rfl (by kernel_rfl) (by kernel_rfl) (by kernel_rfl) (fun _ _ _ h => h) (Or.inl ⟨by kernel_rfl, ?_⟩) (by assumption) ?_
                   rotate_left
                   · (intro w hSw; (try dsimp only at hSw); go_simp; (try with_reducible rfl))
                   (try simp only [Act.put]); (try simp only [List.setIfInBounds_toArray]); (try simp only [List.set_cons_succ]); (try simp only [List.set_cons_zero])
                   refine takeD (some 48) (i := 2) (v := ?_) rfl rfl (by kernel_rfl) (by kernel_rfl) (by kernel_rfl) (fun _ _ _ h => h) (Or.inl ⟨by kernel_rfl, ?_⟩) (by assumption) ?_
                   rotate_left
                   · (intro w hSw; (try dsimp only at hSw); go_simp; (try with_reducible rfl))
                   (try simp only [Act.put]); (try simp only [List.setIfInBounds_toArray]); (try simp only [List.set_cons_succ]); (try simp only [List.set_cons_zero])
                   refine takeD (some 49) (i := 3) (v := ?_) rfl rfl (by kernel_rfl) (by kernel_rfl) (by kernel_rfl) (fun _ _ _ h => h) (Or.inl ⟨by kernel_rfl, ?_⟩) (by assumption) ?_
                   rotate_left
                   · (intro w hSw; (try dsimp only at hSw); go_simp; (try with_reducible rfl))
                   (try simp only [Act.put]); (try simp only [List.setIfInBounds_toArray]); (try simp only [List.set_cons_succ]); (try simp only [List.set_cons_zero])
                   refine takeD (some 50) (i := 4) (v := ?_) rfl rfl (by kernel_rfl) (by kernel_rfl) (by kernel_rfl) (fun _ _ _ h => h) (Or.inl ⟨by kernel_rfl, ?_⟩) (by assumption) ?_
                   rotate_left
                   · (intro w hSw; (try dsimp only at hSw); go_simp; (try with_reducible rfl))
                   (try simp only [Act.put]); (try simp only [List.setIfInBounds_toArray]); (try simp only [List.set_cons_succ]); (try simp only [List.set_cons_zero])
                   refine takeD (some 51) (i := 5) (v := ?_) rfl rfl (by kernel_rfl) (by kernel_rfl) (by kernel_rfl) (fun _ _ _ h => h) (Or.inl ⟨by kernel_rfl, ?_⟩) (by assumption) ?_
                   rotate_left
                   · (intro w hSw; (try dsimp only at hSw); go_simp; (try with_reducible rfl))
                   (try simp only [Act.put]); (try simp only [List.setIfInBounds_toArray]); (try simp only [List.set_cons_succ]); (try simp only [List.set_cons_zero])
                   refine takeD (some 52) (i := 6) (v := ?_) rfl rfl (by kernel_rfl) (by kernel_rfl) (by kernel_rfl) (fun _ _ _ h => h) (Or.inl ⟨by kernel_rfl, ?_⟩) (by assumption) ?_
                   rotate_left
                   · (intro w hSw; (try dsimp only at hSw); go_simp; (try with_reducible rfl))
                   (try simp only [Act.put]); (try simp only [List.setIfInBounds_toArray]); (try simp only [List.set_cons_succ]); (try simp only [List.set_cons_zero])
                   refine takeD (some 53) (i := 7) (v := ?_) rfl rfl (by kernel_rfl) (by kernel_rfl) (by kernel_rfl) (fun _ _ _ h => h) (Or.inl ⟨by kernel_rfl, ?_⟩) (by assumption) ?_
                   rotate_left
                   · (intro w hSw; (try dsimp only at hSw); go_simp; (try with_reducible rfl))
                   (try simp only [Act.put]); (try simp only [List.setIfInBounds_toArray]); (try simp only [List.set_cons_succ]); (try simp only [List.set_cons_zero])
                   refine takeD (some 54) (i := 8) (v := ?_) rfl rfl (by kernel_rfl) (by kernel_rfl) (by kernel_rfl) (fun _ _ _ h => h) (Or.inl ⟨by kernel_rfl, ?_⟩) (by assumption) ?_
                   rotate_left
                   · (intro w hSw; (try dsimp only at hSw); go_simp; (try with_reducible rfl))
                   (try simp only [Act.put]); (try simp only [List.setIfInBounds_toArray]); (try simp only [List.set_cons_succ]); (try simp only [List.set_cons_zero])
                   refine takeD (some 55) (i := 9) (v := ?_) rfl rfl (by kernel_rfl) (by kernel_rfl) (by kernel_rfl) (fun _ _ _ h => h) (Or.inl ⟨by kernel_rfl, ?_⟩) (by assumption) ?_
                   rotate_left
                   · (intro w hSw; (try dsimp only at hSw); go_simp; (try with_reducible rfl))
                   (try simp only [Act.put]); (try simp only [List.setIfInBounds_toArray]); (try simp only [List.set_cons_succ]); (try simp only [List.set_cons_zero])
                   refine takeD (some 56) (i := 10) (v := ?_) rfl rfl (by kernel_rfl) (by kernel_rfl) (by kernel_rfl) (fun _ _ _ h => h) (Or.inl ⟨by kernel_rfl, ?_⟩) (by assumption) ?_
                   rotate_left
                   · (intro w hSw; (try dsimp only at hSw); go_simp; (try with_reducible rfl))
                   (try simp only [Act.put]); (try simp only [List.setIfInBounds_toArray]); (try simp only [List.set_cons_succ]); (try simp only [List.set_cons_zero])
                   refine takeD (some 57) (i := 11) (v := undef) rfl rfl (by kernel_rfl) (by kernel_rfl) (by kernel_rfl) (fun _ _ _ h => h) (Or.inr ⟨by kernel_rfl, rfl⟩) (by assumption) ?_
                   (try simp only [Act.put]); (try simp only [List.setIfInBounds_toArray]); (try simp only [List.set_cons_succ]); (try simp only [List.set_cons_zero])
                   refine takeD (some 58) (i := 12) (v := undef) rfl rfl (by kernel_rfl) (by kernel_rfl) (by kernel_rfl) (fun _ _ _ h => h) (Or.inr ⟨by kernel_rfl, rfl⟩) (by assumption) ?_
                   (try simp only [Act.put]); (try simp only [List.setIfInBounds_toArray]); (try simp only [List.set_cons_succ]); (try simp only [List.set_cons_zero])
                   refine takeD (some 59) (i := 13) (v := undef) rfl rfl (by kernel_rfl) (by kernel_rfl) (by kernel_rfl) (fun _ _ _ h => h) (Or.inr ⟨by kernel_rfl, rfl⟩) (by assumption) ?_
                   (try simp only [Act.put]); (try simp only [List.setIfInBounds_toArray]); (try simp only [List.set_cons_succ]); (try simp only [List.set_cons_zero])
                   refine takeD (some 60) (i := 14) (v := undef) rfl rfl (by kernel_rfl) (by kernel_rfl) (by kernel_rfl) (fun _ _ _ h => h) (Or.inr ⟨by kernel_rfl, rfl⟩) (by assumption) ?_
                   (try simp only [Act.put]); (try simp only [List.setIfInBounds_toArray]); (try simp only [List.set_cons_succ]); (try simp only [List.set_cons_zero])
                   refine takeD (some 61) (i := 15) (v := undef) rfl rfl (by kernel_rfl) (by kernel_rfl) (by kernel_rfl) (fun _ _ _ h => h) (Or.inr ⟨by kernel_rfl, rfl⟩) (by assumption) ?_
                   (try simp only [Act.put]); (try simp only [List.setIfInBounds_toArray]); (try simp only [List.set_cons_succ]); (try simp only [List.set_cons_zero])
                   refine takeD (some 62) (i := 16) (v := undef) rfl rfl (by kernel_rfl) (by kernel_rfl) (by kernel_rfl) (fun _ _ _ h => h) (Or.inr ⟨by kernel_rfl, rfl⟩) (by assumption) ?_
                   (try simp only [Act.put]); (try simp only [List.setIfInBounds_toArray]); (try simp only [List.set_cons_succ]); (try simp only [List.set_cons_zero])
                   refine takeD (some 63) (i := 17) (v := undef) rfl rfl (by kernel_rfl) (by kernel_rfl) (by kernel_rfl) (fun _ _ _ h => h) (Or.inr ⟨by kernel_rfl, rfl⟩) (by assumption) ?_
                   (try simp only [Act.put]); (try simp only [List.setIfInBounds_toArray]); (try simp only [List.set_cons_succ]); (try simp only [List.set_cons_zero])
                   refine takeD (some 64) (i := 18) (v := undef) rfl rfl (by kernel_rfl) (by kernel_rfl) (by kernel_rfl) (fun _ _ _ h => h) (Or.inr ⟨by kernel_rfl, rfl⟩) (by assumption) ?_
                   (try simp only [Act.put]); (try simp only [List.setIfInBounds_toArray]); (try simp only [List.set_cons_succ]); (try simp only [List.set_cons_zero])
                   refine takeD (some 65) (i := 19) (v := undef) rfl rfl (by kernel_rfl) (by kernel_rfl) (by kernel_rfl) (fun _ _ _ h => h) (Or.inr ⟨by kernel_rfl, rfl⟩) (by assumption) ?_
                   (try simp only [Act.put]); (try simp only [List.setIfInBounds_toArray]); (try simp only [List.set_cons_succ]); (try simp only [List.set_cons_zero])
                   refine takeD (some 66) (i := 20) (v := undef) rfl rfl (by kernel_rfl) (by kernel_rfl) (by kernel_rfl) (fun _ _ _ h => h) (Or.inr ⟨by kernel_rfl, rfl⟩) (by assumption) ?_
                   (try simp only [Act.put]); (try simp only [List.setIfInBounds_toArray]); (try simp only [List.set_cons_succ]); (try simp only [List.set_cons_zero])
                   refine takeD (some 67) (i := 21) (v := undef) rfl rfl (by kernel_rfl) (by kernel_rfl) (by kernel_rfl) (fun _ _ _ h => h) (Or.inr ⟨by kernel_rfl, rfl⟩) (by assumption) ?_
                   (try simp only [Act.put]); (try simp only [List.setIfInBounds_toArray]); (try simp only [List.set_cons_succ]); (try simp only [List.set_cons_zero])
                   refine takeD (some 68) (i := 22) (v := undef) rfl rfl (by kernel_rfl) (by kernel_rfl) (by kernel_rfl) (fun _ _ _ h => h) (Or.inr ⟨by kernel_rfl, rfl⟩) (by assumption) ?_
                   (try simp only [Act.put]); (try simp only [List.setIfInBounds_toArray]); (try simp only [List.set_cons_succ]); (try simp only [List.set_cons_zero])
                   refine takeD (some 69) (i := 23) (v := undef) rfl rfl (by kernel_rfl) (by kernel_rfl) (by kernel_rfl) (fun _ _ _ h => h) (Or.inr ⟨by kernel_rfl, rfl⟩) (by assumption) ?_
                   (try simp only [Act.put]); (try simp only [List.setIfInBounds_toArray]); (try simp only [List.set_cons_succ]); (try simp only [List.set_cons_zero])
                   refine takeD (some 70) (i := 24) (v := ?_) rfl rfl (by kernel_rfl) (by kernel_rfl) (by kernel_rfl) (fun _ _ _ h => h) (Or.inl ⟨by kernel_rfl, ?_⟩) (by assumption) ?_
                   rotate_left
                   · (intro w hSw; (try dsimp only at hSw); go_simp; (try with_reducible rfl))
                   (try simp only [Act.put]); (try simp only [List.setIfInBounds_toArray]); (try simp only [List.set_cons_succ]); (try simp only [List.set_cons_zero])
                   refine takeD (some 71) (i := 25) (v := ?_) rfl rfl (by kernel_rfl) (by kernel_rfl) (by kernel_rfl) (fun _ _ _ h => h) (Or.inl ⟨by kernel_rfl, ?_⟩) (by assumption) ?_
                   rotate_left
                   · (intro w hSw; (try dsimp only at hSw); go_simp; (try with_reducible rfl))
                   (try simp only [Act.put]); (try simp only [List.setIfInBounds_toArray]); (try simp only [List.set_cons_succ]); (try simp only [List.set_cons_zero])
                   refine takeD (some 72) (i := 26) (v := ?_) rfl rfl (by kernel_rfl) (by kernel_rfl) (by kernel_rfl) (fun _ _ _ h => h) (Or.inl ⟨by kernel_rfl, ?_⟩) (by assumption) ?_
                   rotate_left
                   · (intro w hSw; (try dsimp only at hSw); go_simp; (try with_reducible rfl))
                   (try simp only [Act.put]); (try simp only [List.setIfInBounds_toArray]); (try simp only [List.set_cons_succ]); (try simp only [List.set_cons_zero])
                   refine takeD (some 73) (i := 27) (v := ?_) rfl rfl (by kernel_rfl) (by kernel_rfl) (by kernel_rfl) (fun _ _ _ h => h) (Or.inl ⟨by kernel_rfl, ?_⟩) (by assumption) ?_
                   rotate_left
                   · (intro w hSw; (try dsimp only at hSw); go_simp; (try with_reducible rfl))
                   (try simp only [Act.put]); (try simp only [List.setIfInBounds_toArray]); (try simp only [List.set_cons_succ]); (try simp only [List.set_cons_zero])
                   refine takeD (some 74) (i := 28) (v := ?_) rfl rfl (by kernel_rfl) (by kernel_rfl) (by kernel_rfl) (fun _ _ _ h => h) (Or.inl ⟨by kernel_rfl, ?_⟩) (by assumption) ?_
                   rotate_left
                   · (intro w hSw; (try dsimp only at hSw); go_simp; (try with_reducible rfl))
                   (try simp only [Act.put]); (try simp only [List.setIfInBounds_toArray]); (try simp only [List.set_cons_succ]); (try simp only [List.set_cons_zero])
                   refine takeD (some 75) (i := 29) (v := ?_) rfl rfl (by kernel_rfl) (by kernel_rfl) (by kernel_rfl) (fun _ _ _ h => h) (Or.inl ⟨by kernel_rfl, ?_⟩) (by assumption) ?_
                   rotate_left
                   · (intro w hSw; (try dsimp only at hSw); go_simp; (try with_reducible rfl))
                   (try simp only [Act.put]); (try simp only [List.setIfInBounds_toArray]); (try simp only [List.set_cons_succ]); (try simp only [List.set_cons_zero])
                   refine takeD (some 76) (i := 30) (v := ?_) rfl rfl (by kernel_rfl) (by kernel_rfl) (by kernel_rfl) (fun _ _ _ h => h) (Or.inl ⟨by kernel_rfl, ?_⟩) (by assumption) ?_
                   rotate_left
                   · (intro w hSw; (try dsimp only at hSw); go_simp; (try with_reducible rfl))
                   (try simp only [Act.put]); (try simp only [List.setIfInBounds_toArray]); (try simp only [List.set_cons_succ]); (try simp only [List.set_cons_zero])
                   refine takeD (some 77) (i := 31) (v := ?_) rfl rfl (by kernel_rfl) (by kernel_rfl) (by kernel_rfl) (fun _ _ _ h => h) (Or.inl ⟨by kernel_rfl, ?_⟩) (by assumption) ?_
                   rotate_left
                   · (intro w hSw; (try dsimp only at hSw); go_simp; (try with_reducible rfl))
                   (try simp only [Act.put]); (try simp only [List.setIfInBounds_toArray]); (try simp only [List.set_cons_succ]); (try simp only [List.set_cons_zero])
                   refine takeD (some 78) (i := 32) (v := ?_) rfl rfl (by kernel_rfl) (by kernel_rfl) (by kernel_rfl) (fun _ _ _ h => h) (Or.inl ⟨by kernel_rfl, ?_⟩) (by assumption) ?_
                   rotate_left
                   · (intro w hSw; (try dsimp only at hSw); go_simp; (try with_reducible rfl))
                   (try simp only [Act.put]); (try simp only [List.setIfInBounds_toArray]); (try simp only [List.set_cons_succ]); (try simp only [List.set_cons_zero])
                   refine takeD (some 79) (i := 33) (v := ?_) rfl rfl (by kernel_rfl) (by kernel_rfl) (by kernel_rfl) (fun _ _ _ h => h) (Or.inl ⟨by kernel_rfl, ?_⟩) (by assumption) ?_
                   rotate_left
                   · (intro w hSw; (try dsimp only at hSw); go_simp; (try with_reducible rfl))
                   (try simp only [Act.put]); (try simp only [List.setIfInBounds_toArray]); (try simp only [List.set_cons_succ]); (try simp only [List.set_cons_zero])
                   refine takeD (some 80) (i := 34) (v := ?_) rfl rfl (by kernel_rfl) (by kernel_rfl) (by kernel_rfl) (fun _ _ _ h => h) (Or.inl ⟨by kernel_rfl, ?_⟩) (by assumption) ?_
                   rotate_left
                   · (intro w hSw; (try dsimp only at hSw); go_simp; (try with_reducible rfl))
                   (try simp only [Act.put]); (try simp only [List.setIfInBounds_toArray]); (try simp only [List.set_cons_succ]); (try simp only [List.set_cons_zero])
                   refine takeD (some 81) (i := 35) (v := ?_) rfl rfl (by kernel_rfl) (by kernel_rfl) (by kernel_rfl) (fun _ _ _ h => h) (Or.inl ⟨by kernel_rfl, ?_⟩) (by assumption) ?_
                   rotate_left
                   · (intro w hSw; (try dsimp only at hSw); go_simp; (try with_reducible rfl))
                   (try simp only [Act.put]); (try simp only [List.setIfInBounds_toArray]); (try simp only [List.set_cons_succ]); (try simp only [List.set_cons_zero])
                   refine takeD (some 82) (i := 36) (v := ?_) rfl rfl (by kernel_rfl) (by kernel_rfl) (by kernel_rfl) (fun _ _ _ h => h) (Or.inl ⟨by kernel_rfl, ?_⟩) (by assumption) ?_
                   rotate_left
                   · (intro w hSw; (try dsimp only at hSw); go_simp; (try with_reducible rfl))
                   (try simp only [Act.put]); (try simp only [List.setIfInBounds_toArray]); (try simp only [List.set_cons_succ]); (try simp only [List.set_cons_zero])
                   refine takeD (some 83) (i := 37) (v := ?_) rfl rfl (by kernel_rfl) (by kernel_rfl) (by kernel_rfl) (fun _ _ _ h => h) (Or.inl ⟨by kernel_rfl, ?_⟩) (by assumption) ?_
                   rotate_left
                   · (intro w hSw; (try dsimp only at hSw); go_simp; (try with_reducible rfl))
                   (try simp only [Act.put]); (try simp only [List.setIfInBounds_toArray]); (try simp only [List.set_cons_succ]); (try simp only [List.set_cons_zero])
                   refine wpAnyH_ready (rs := [38]) (by kernel_rfl) (by simp) ?_
                   refine AllReadyH.cons rfl (fun K hK => ?_) AllReadyH.nil
                   go_simp
                   refine hcall1.mono ?_
                   rintro e V1 ⟨rfl, hA1, hG1⟩
                   have HT : Hid (AcSt c a len cap w V1 (.slice (some ⟨g, off, none⟩) L.length cp) (.slice co nc cc) (.slice go nh hc) (.int .i64 bad) ab ⟨5, 0, 0, rd, f, s⟩) := ac_cur HSRd.out hcw hA1 hG1
                   clear hA1 hG1
                   go_wp2_with fail
                   refine hK.out _ _ (HSS.out _ _ HT.out rfl) (fun hHeld => ?_)
                   clear hK K
                   (try simp only [Act.put]); (try simp only [List.setIfInBounds_toArray]); (try simp only [List.set_cons_succ]); (try simp only [List.set_cons_zero])
                   refine takeD (some 85) (i := 39) (v := ?_) rfl rfl (by kernel_rfl) (by kernel_rfl) (by kernel_rfl) (fun _ _ _ h => h) (Or.inl ⟨by kernel_rfl, ?_⟩) (by assumption) ?_
                   rotate_left
                   · (intro w hSw; (try dsimp only at hSw); go_simp; (try with_reducible rfl))
                   (try simp only [Act.put]); (try simp only [List.setIfInBounds_toArray]); (try simp only [List.set_cons_succ]); (try simp only [List.set_cons_zero])
                   refine takeD (some 86) (i := 40) (v := ?_) rfl rfl (by kernel_rfl) (by kernel_rfl) (by kernel_rfl) (fun _ _ _ h => h) (Or.inl ⟨by kernel_rfl, ?_⟩) (by assumption) ?_
                   rotate_left
                   · (intro w hSw; (try dsimp only at hSw); go_simp; (try with_reducible rfl))
                   (try simp only [Act.put]); (try simp only [List.setIfInBounds_toArray]); (try simp only [List.set_cons_succ]); (try simp only [List.set_cons_zero])
                   refine wpAnyH_done (by kernel_rfl) ?_ _
                   go_wp2_with fail
                   go_meet
                   exact ⟨_, rfl, HT.out⟩
                 · have e3' : decide (rj < rd - 1) = false := decide_eq_false e3
                   clear e1 e3
                   go_quiet (fail)
                   go_wp2
                   go_meet
                   exact ⟨_, rfl, ac_drewN HSR.out hcb _⟩
             case rest =>
               obtain ⟨bb, rfl, HSX⟩ := hcut
               clear c0 c3 b3 d0 d1 HSS HSRd HSR
               cases bb
               · go_wp2
                 go_roundw
                 case rel => exact ⟨j + 1, f, by omega, by go_num, HSX⟩
                 case measure => simp [intOf]; omega
               · have b4 := HSX.out.act.c4
                 have g4 := HSX.out.act.f4
                 have HS9 : Hid (AcSt c a len cap w (wc.setCell ⟨ab, 4, none⟩ (.int .i64 (bits .or .i64 f (2 ^ j)))).drew (.slice (some ⟨g, off, none⟩) L.length cp) (.slice co nc cc) (.slice go nh hc) (.int .i64 bad) ab ⟨5, 0, 0, rd, bits .or .i64 f (2 ^ j), s⟩) := ac_frm HSX.out hcb _
                 go_wp2_with fail
                 go_region_with (go_at_call 50; refine (Base.l1Bit _ _ (by omega) (by omega)).mono ?_; rintro e w' ⟨rfl, rfl⟩; rw [Int.toNat_natCast])
                 all_goals
                   go_wp2
                   go_roundw
                   case rel => exact ⟨j + 1, _, by omega, by go_num, HS9⟩
                   case measure => simp [intOf]; omega
           · obtain rfl : j = L.length := by omega
             have hjj : ¬ (L.length : Int) < (L.length : Int) := by omega
             have HF : Hid (AcPost c a len cap w (.returned (acV ⟨5, 0, 0, rd, f, s⟩)) (set6 wr (w.heap.size + 1) ⟨5, 0, 0, rd, f, s⟩)) := ac_fin HSR.out hcb hs13
             have HQ : Hid (Q6 (set6 wr (w.heap.size + 1) ⟨5, 0, 0, rd, f, s⟩) (w.heap.size + 1) ⟨5, 0, 0, rd, f, s⟩) := set6_at HSR.out.res
             obtain ⟨_, b0, b1, b2, b3, b4, b5, _, _, _, _, _, _⟩ := HSR.out.act
             obtain ⟨_, r0, r1, r2, r3, r4, r5, f0, f1, f2, f3, f4, f5⟩ := HSR.out.res
             go_wp2
             obtain ⟨_, y0, y1, y2, y3, y4, y5, _, _, _, _, _, _⟩ := HQ.out
             unfold set6 at y0 y1 y2 y3 y4 y5
             exact bodyPost_ret (v := acV ⟨5, 0, 0, rd, f, s⟩) (by simp [results, Tryz.results154, go_sem, y0, y1, y2, y3, y4, y5]) rfl HF.out
   · have HF : Hid (AcPost c a len cap w (.returned (acV ⟨5, 0, 0, 0, 0, s⟩)) (set6 w3 (w.heap.size + 1) ⟨5, 0, 0, 0, 0, s⟩)) := ac_fin HS3.out hcb hs13
     have HQ : Hid (Q6 (set6 w3 (w.heap.size + 1) ⟨5, 0, 0, 0, 0, s⟩) (w.heap.size + 1) ⟨5, 0, 0, 0, 0, s⟩) := set6_at HS3.out.res
     obtain ⟨_, b0, b1, b2, b3, b4, b5, _, _, _, _, _, _⟩ := HS3.out.act
     obtain ⟨_, r0, r1, r2, r3, r4, r5, f0, f1, f2, f3, f4, f5⟩ := HS3.out.res
     go_wp2
     obtain ⟨_, y0, y1, y2, y3, y4, y5, _, _, _, _, _, _⟩ := HQ.out
     unfold set6 at y0 y1 y2 y3 y4 y5
     exact bodyPost_ret (v := acV ⟨5, 0, 0, 0, 0, s⟩) (by simp [results, Tryz.results154, go_sem, y0, y1, y2, y3, y4, y5]) rfl HF.out
end Rm
end Go.Proofs.YtfjmenhofllchaaGreatDoor
