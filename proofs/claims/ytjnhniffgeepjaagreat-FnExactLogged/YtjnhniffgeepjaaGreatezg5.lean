/-
 Plain mathematics of a walk back along the threads: it goes through the numbers from the last to the first, keeps the set of those reached, and adds a reached one's threads; what it meets is what hangs below the set; for laces.
 What the model's order answers: by rounds, then by hands, then by numbers; for laces.
-/
import Derived.Test.YtjnhniffgeepjaaGreatezg4
import Derived.Maps.AppendAt
set_option linter.unusedVariables false
namespace Go.Proofs.YtjnhniffgeepjaaGreat
open Go.RowKit
set_option maxRecDepth 100000
namespace Tl
open Kn (K okK)
open Bit (bit withB memTo)
open Lc (at' RdK WordsOk laceB setB)
open Sg (isB bel belows NumsPost)
theorem insR_pass (L : List K) (x : Int) : ∀ (a b : List Int), (∀ y ∈ a, gtB L y x = true) → insR L x (a ++ b) = a ++ insR L x b := by
 intro a
 induction a with
 | nil => intro b _; rfl
 | cons y a ih =>
   intro b h
   show insR L x (y :: (a ++ b)) = y :: (a ++ insR L x b)
   conv => lhs; unfold insR
   rw [h y (by simp), if_pos rfl, ih b (fun z hz => h z (by simp [hz]))]
theorem insB_at (L : List K) (out : List Int) (x : Int) (k : Nat) (hk : k ≤ out.length) (h1 : ∀ j, k ≤ j → j < out.length → gtB L (out.getD j 0) x = true) (h2 : k = 0 ∨ gtB L (out.getD (k - 1) 0) x = false) : insB L out x = out.take k ++ ([x] ++ out.drop k) := by
 unfold insB
 have e : out.reverse = (out.drop k).reverse ++ (out.take k).reverse := by rw [← List.reverse_append, List.take_append_drop]
 rw [e, insR_pass]
 · have : insR L x (out.take k).reverse = x :: (out.take k).reverse := by
     rcases h2 with h2 | h2
     · subst h2; simp [insR]
     · by_cases hk0 : k = 0
       · subst hk0; simp [insR]
       · have hk1 : k - 1 < out.length := by omega
         have e2 : out.take k = out.take (k - 1) ++ [out.getD (k - 1) 0] := by
           have := Lc.take_snocI out (k - 1) hk1
           rwa [show k - 1 + 1 = k by omega] at this
         rw [e2, List.reverse_append]
         show insR L x (out.getD (k - 1) 0 :: (out.take (k - 1)).reverse) = _
         unfold insR
         rw [h2, if_neg (by simp)]
         rfl
   rw [this, List.reverse_append, List.reverse_reverse, List.reverse_cons, List.reverse_reverse, List.append_assoc]
 · intro y hy
   rw [List.mem_reverse] at hy
   obtain ⟨j, hj, rfl⟩ := List.mem_iff_getElem.1 hy
   have hj' : k + j < out.length := by simp at hj; omega
   have := h1 (k + j) (by omega) hj'
   rw [List.getElem_drop]
   simpa [List.getD, List.getElem?_eq_getElem hj'] using this
theorem ord_step (L : List K) (m : List Int) (i : Nat) (hi : i < m.length) : ordL L (m.take (i + 1)) = insB L (ordL L (m.take i)) (m.getD i 0) := by
 rw [Lc.take_snocI m i hi]
 unfold ordL
 rw [List.foldl_append]; rfl
theorem ord_len (L : List K) (m : List Int) : (ordL L m).length = m.length := (ord_perm L m).length_eq
theorem own_put {B : Nat} {w : World} {g n cap : Nat} {a : List Int} (h : w.ownsRow B 2 1 (.slice (some ⟨g, 0, none⟩) n cap) n (a.map (Value.int .i64))) (j : Nat) (y : Int) : (w.setCell ⟨g, j, none⟩ (.int .i64 y)).ownsRow B 2 1 (.slice (some ⟨g, 0, none⟩) n cap) n ((a.set j y).map (Value.int .i64)) := by
 obtain ⟨h1, h2⟩ := h
 refine ⟨by simpa using h1, ?_⟩
 rcases h2 with ⟨h2, _⟩ | ⟨g2, c2, cur, e1, hB, hg, hn, hm, hs, ht⟩
 · injection h2 with h2 _; exact absurd h2 (by simp)
 · injection e1 with e1 _ e3
   injection e1 with e1
   injection e1 with e1
   subst e1 e3
   refine .inr ⟨g, cap, cur.setIfInBounds j (.int .i64 y), rfl, hB, heap_setCell_same w g j cur _ _ hg, hn, hm, by simpa using hs, ?_⟩
   rw [Array.toList_setIfInBounds, List.take_set, ht, List.map_set]
theorem own_frozen {B : Nat} {w : World} {g n cap : Nat} {xs : List Value} {t : TypeId} (h : w.ownsRow B t 1 (.slice (some ⟨g, 0, none⟩) n cap) n xs) (j : Nat) : w.frozen? ⟨g, j, none⟩ = false := by
 obtain ⟨_, ⟨h2, _⟩ | ⟨g2, c2, cur, e1, hB, hg, _⟩⟩ := h
 · injection h2 with h2 _; exact absurd h2 (by simp)
 · injection e1 with e1 _ _
   injection e1 with e1
   injection e1 with e1
   subst e1
   simp [World.frozen?, hg]
theorem shift_set (out : List Int) (k : Nat) (y : Int) (hk : k + 1 ≤ out.length) : (out.take (k + 1) ++ ([y] ++ out.drop (k + 1))).set (k + 1) (out.getD k 0) = out.take k ++ ([out.getD k 0] ++ out.drop k) := by
 have e1 : out.take (k + 1) = out.take k ++ [out.getD k 0] := Lc.take_snocI out k (by omega)
 have e2 : out.drop k = out.getD k 0 :: out.drop (k + 1) := by
   rw [List.drop_eq_getElem_cons (by omega : k < out.length)]
   simp [List.getD, List.getElem?_eq_getElem (by omega : k < out.length)]
 rw [e2, e1]
 have hl : (out.take k ++ [out.getD k 0]).length = k + 1 := by simp; omega
 rw [List.set_append_right _ _ (by rw [hl]; omega), hl]
 simp
theorem last_set (out : List Int) (k : Nat) (x y : Int) (hk : k ≤ out.length) : (out.take k ++ ([y] ++ out.drop k)).set k x = out.take k ++ ([x] ++ out.drop k) := by
 have hl : (out.take k).length = k := by simp; omega
 rw [List.set_append_right _ _ (by rw [hl]; omega), hl]
 simp
theorem shift_get (out : List Int) (k j : Nat) (rest : List Int) (hj : j < k) (hk : k ≤ out.length) : (out.take k ++ rest).getD j 0 = out.getD j 0 := by
 have h1 : j < (out.take k).length := by simp <;> omega
 simp [List.getD, List.getElem?_append_left h1, hj]
structure OrSt (w wr : World) (mb : Nat) (m : List Int) (og cp : Nat) (o : List Int) : Prop where
 own : wr.ownsRow w.heap.size 2 1 (.slice (some ⟨og, 0, none⟩) o.length cp) o.length (o.map (Value.int .i64))
 bel : Below w.heap.size w wr
 mc : ∀ j, j < m.length → wr.cell? ⟨mb, j, none⟩ = some (.int .i64 (m.getD j 0))
 ne : 0 < m.length → og ≠ mb
 ml : 0 < m.length → mb < wr.heap.size
theorem OrSt.cell {w wr : World} {mb : Nat} {m : List Int} {og cp : Nat} {o : List Int} (s : OrSt w wr mb m og cp o) {j : Nat} (hj : j < o.length) : wr.cell? ⟨og, j, none⟩ = some (.int .i64 (o.getD j 0)) := by
 have : Memb.Own w.heap.size wr (some ⟨og, 0, none⟩) cp o := s.own
 rcases Lst.own_rd this with e | ⟨g, e, hc⟩
 · rw [e] at hj; simp at hj
 · injection e with e; injection e with e; subst e; exact hc j hj
theorem OrSt.lt {w wr : World} {mb : Nat} {m : List Int} {og cp : Nat} {o : List Int} (s : OrSt w wr mb m og cp o) : w.heap.size ≤ og ∧ og < wr.heap.size := World.ownsRow.lt s.own og rfl
theorem OrSt.put {w wr : World} {mb : Nat} {m : List Int} {og cp : Nat} {o : List Int} (s : OrSt w wr mb m og cp o) (j : Nat) (y : Int) : OrSt w (wr.setCell ⟨og, j, none⟩ (.int .i64 y)) mb m og cp (o.set j y) where
 own := by have := own_put s.own j y; simpa using this
 bel := s.bel.setCell (p := ⟨og, j, none⟩) s.lt.1 _
 mc := fun i hi => (World.cell?_of_block (w := wr) (Below.heap_setCell wr ⟨og, j, none⟩ _ mb (fun e => s.ne (by omega) e.symm))).trans (s.mc i hi)
 ne := s.ne
 ml := fun h => by simpa using s.ml h
theorem OrSt.drewN {w wr : World} {mb : Nat} {m : List Int} {og cp : Nat} {o : List Int} (s : OrSt w wr mb m og cp o) (n : Nat) : OrSt w (wr.drewN n) mb m og cp o := ⟨s.own, Db.below_drewN s.bel n, s.mc, s.ne, s.ml⟩
theorem OrSt.app {w wr w1 : World} {mb : Nat} {m : List Int} {og cp : Nat} {o : List Int} {x : Int} {v' : Value} {ob : Obj} (s : OrSt w wr mb m og cp o) (ho : w1.ownsRow w.heap.size 2 1 v' (o.length + 1) (o.map (Value.int .i64) ++ [.int .i64 x])) (hg : (wr.alloc ob).grownBy w1 (some og)) (hn : ¬ v' = .slice none 0 0) (ha : v'.ownBlock = some og ∨ v'.ownBlock = some (wr.alloc ob).heap.size) : ∃ g2 c2, v' = .slice (some ⟨g2, 0, none⟩) (o.length + 1) c2 ∧ OrSt w w1 mb m g2 c2 (o ++ [x]) := by
 have ho' := ho
 obtain ⟨_, ⟨hx, _⟩ | ⟨g2, c2, cur, hx, _⟩⟩ := ho'
 · exact absurd hx hn
 · subst hx
   have hb : Below w.heap.size w w1 := (s.bel.alloc s.bel.size ob).grown hg (by simp; have := s.bel.size; omega) (fun k hk => by cases hk; exact s.lt.1)
   refine ⟨g2, c2, rfl, by simpa using ho, hb, fun j hj => ?_, fun hm => ?_, fun hm => ?_⟩
   · have h1 : (wr.alloc ob).cell? ⟨mb, j, none⟩ = some (.int .i64 (m.getD j 0)) := by rw [World.cell?_alloc_lt _ _ _ (s.ml (by omega))]; exact s.mc j hj
     exact World.grownBy.cell hg h1 (by intro e; injection e with e; exact s.ne (by omega) e.symm)
   · have hml := s.ml hm
     have hne := s.ne hm
     simp [Value.ownBlock] at ha
     rcases ha with e | e
     · subst e; exact hne
     · omega
   · have h1 := hg.size
     have h2 := s.ml hm
     simp at h1; omega
set_option maxHeartbeats 6400000 in
theorem l11Order (g off cap : Nat) (L : List K) (s : Int) (w : World) (hl : laceB L = true) (hr : RdK w (some ⟨g, off, none⟩) L) (h0 : 0 ≤ s) (h1 : s < 1152921504606846976) (hin : ∀ i, bit s i = true → i < L.length) :
   Calls Tryz.prog 77 #[.slice (some ⟨g, off, none⟩) L.length cap, .int .i64 s] w (NumsPost (ordL L (memTo s 60)) w) := by
 obtain ⟨i0, hi, hz0, hz1, hz2⟩ := info_parts Memb.info2
 have hL := ((Lc.lace_iff L).1 hl).1
 have HMEM : Hid (∀ x ∈ memTo s 60, ∃ p : Nat, x = (p : Int) ∧ p < L.length) := fun x hx => by
   obtain ⟨j, _, rfl, hb⟩ := (Bit.mem_memTo _ _ _).1 hx
   exact ⟨j, rfl, hin j hb⟩
 have HKN : Hid (∀ (W : World) (p : Nat), Below w.heap.size w W → p < L.length → W.cell? ⟨g, off + p * 4, none⟩ = some (.int .i64 (at' L p).hand) ∧ W.cell? ⟨g, off + p * 4 + 1, none⟩ = some (.int .i64 (at' L p).round)) := fun W p hW hp => by
   obtain ⟨_, q0, q1, _, _⟩ := (hr.below hW).on p hp
   exact ⟨q0, q1⟩
 have hml : (memTo s 60).length ≤ 60 := Bit.memTo_le s 60
 clear hl hr hin
 have HB0 : Hid (Below w.heap.size w (w.alloc (.cells #[] 2))) := (Below.refl _ _).alloc (Nat.le_refl _) _
 have HE0 : Hid ((w.alloc (.cells #[] 2)).ownsRow w.heap.size 2 1 (.slice (some ⟨w.heap.size, 0, none⟩) 0 0) 0 []) := Memb.own_empty w
 have hsz0 : w.heap.size < (w.alloc (.cells #[] 2)).heap.size := by simp
 go_enter Tryz.func77, Tryz.ntmps77
 go_wp2_with fail
 generalize w.alloc (.cells #[] 2) = w0 at HB0 HE0 hsz0 ⊢
 refine (Memb.l1Members' s _ h0 h1).mono ?_
 rintro e w1 ⟨mo, mc, rfl, hown, hb1⟩
 obtain ⟨mb, HMO, HS1⟩ : ∃ mb, Hid (0 < (memTo s 60).length → mo = some ⟨mb, 0, none⟩) ∧ Hid (OrSt w w1 mb (memTo s 60) w.heap.size 0 []) := by
   have hE1 : w1.ownsRow w.heap.size 2 1 (.slice (some ⟨w.heap.size, 0, none⟩) 0 0) 0 [] := Fm.row_below HE0.out hb1
   have hB1 : Below w.heap.size w w1 := HB0.out.trans (hb1.mono HB0.out.size)
   rcases Lst.own_rd hown with e | ⟨mb, e, hc⟩
   · have hz : (memTo s 60).length = 0 := by rw [e]; rfl
     exact ⟨0, fun hh => by omega, ⟨hE1, hB1, fun j hj => by omega, fun hh => by omega, fun hh => by omega⟩⟩
   · subst e
     have := World.ownsRow.lt hown mb rfl
     exact ⟨mb, fun _ => rfl, ⟨hE1, hB1, hc, fun _ => by omega, fun _ => this.2⟩⟩
 clear hb1 hown HB0 HE0 hsz0
 generalize hmm : memTo s 60 = m at HMEM hml HMO HS1 ⊢
 have HMM : Hid (memTo s 60 = m) := hmm
 clear hmm
 go_wp2
 go_loopw [5, 7] (fun v iv wr => ∃ (i : Nat) (og ocp : Nat), i ≤ m.length ∧ iv = .int .i64 (i : Int) ∧ v = .slice (some ⟨og, 0, none⟩) (ordL L (m.take i)).length ocp ∧ Hid (OrSt w wr mb m og ocp (ordL L (m.take i)))) (fun _ iv _ => m.length - (intOf iv).toNat)
 case atStart => exact ⟨0, w.heap.size, 0, by omega, rfl, rfl, HS1⟩
 case round =>
   obtain ⟨i, og, ocp, hil, rfl, hv, HS⟩ := hrel
   clear HS1
   by_cases hlt : i < m.length
   · subst hv
     have hii : (i : Int) < (m.length : Int) := by omega
     have hmo := HMO.out (by omega)
     have HST : Hid (ordL L (m.take (i + 1)) = insB L (ordL L (m.take i)) (m.getD i 0)) := ord_step L m i hlt
     have hol : (ordL L (m.take i)).length = i := by rw [ord_len]; simp; omega
     have HIN : Hid (∀ j, j < i → ∃ r : Nat, (ordL L (m.take i)).getD j 0 = (r : Int) ∧ r < L.length) := fun j hj => by
       have hmem : (ordL L (m.take i)).getD j 0 ∈ ordL L (m.take i) := by simp [List.getD, List.getElem?_eq_getElem (show j < (ordL L (m.take i)).length by omega)]
       exact HMEM.out _ (List.mem_of_mem_take ((mem_ord L _ _).1 hmem))
     obtain ⟨p, hxp, hp⟩ := HMEM.out (m.getD i 0) (by simp [List.getD, List.getElem?_eq_getElem hlt])
     rw [hxp] at HST
     generalize ordL L (m.take i) = o at HST hol HIN HS ⊢
     have cm := HS.out.mc i hlt
     rw [hxp] at cm
     subst hmo
     have HOL : Hid (o.length = i) := hol
     have hol1 : o.length ≤ 60 := by omega
     have HXP : Hid (m.getD i 0 = (p : Int)) := hxp
     clear hol hxp
     have HOA : Hid (∀ ob : Obj, (wr.alloc ob).ownsRow w.heap.size 2 1 (.slice (some ⟨og, 0, none⟩) o.length ocp) o.length (o.map (Value.int .i64))) := fun ob => HS.out.own.alloc ob
     have hwsz := HS.out.bel.size
     go_wp2_with (first | (at_builtin; refine wpList_append_own_at _ rfl _ _ 23 rfl w.heap.size 2 i0 (.int .i64 0) 1 8 Tryz.underlying23 hi hz0 hz1 hz2 rfl (by decide) (.slice (some ⟨og, 0, none⟩) o.length ocp) o.length (o.map (Value.int .i64)) (by first | rfl | simp [Act.eval]) (HOA.out _) ⟨wr.heap.size, 0, none⟩ 1 1 [.int .i64 (p : Int)] (by first | rfl | simp [Act.eval]) rfl (Sg.one_new wr (p : Int) _) (Sg.one_one (p : Int)) ?c3 ?c4 ?c5 ?_) | fail)
     case c3 => unfold maxLen; omega
     case c4 => omega
     case c5 => first | omega | (simp; omega)
     intro v' w3 hown' hgrow hnil hat
     obtain ⟨g2, c2, rfl, hS3⟩ := HS.out.app hown' hgrow (by first | exact hnil | exact fun e => by have := hnil.1 e; simp at this) (by simpa [Value.ownBlock] using hat)
     have HS3 : Hid (OrSt w w3 mb m g2 c2 (o.take o.length ++ ([(p : Int)] ++ o.drop o.length))) := by
       show OrSt _ _ _ _ _ _ _
       rw [List.take_length, List.drop_length]; exact hS3
     clear hown' hgrow hnil hat HS HOA hS3 cm
     go_wp2_with fail
     go_loopw [8] (fun kv wk => ∃ (k : Nat) (y : Int), k ≤ o.length ∧ kv = .int .i64 (k : Int) ∧ Hid (OrSt w wk mb m g2 c2 (o.take k ++ ([y] ++ o.drop k))) ∧ Hid (∀ j, k ≤ j → j < o.length → gtB L (o.getD j 0) (p : Int) = true)) (fun kv _ => (intOf kv).toNat)
     case atStart => exact ⟨o.length, (p : Int), Nat.le_refl _, rfl, HS3, fun j h1 h2 => by omega⟩
     case round =>
       obtain ⟨k, y, hk, rfl, HSk, HG⟩ := hrel
       clear HS3
       have hpi : (p : Int) < (L.length : Int) := by omega
       by_cases hk0 : k = 0
       · subst hk0
         go_wp2_with fail
         go_quiet (fail)
         have HNEW : Hid (ordL L (m.take (i + 1)) = o.take 0 ++ ([(p : Int)] ++ o.drop 0)) := HST.out.trans (insB_at L o (p : Int) 0 (by omega) HG.out (.inl rfl))
         have HP : Hid (OrSt w ((wr.drewN nq).setCell ⟨g2, 0, none⟩ (.int .i64 (p : Int))) mb m g2 c2 (ordL L (m.take (i + 1)))) := by
           show OrSt _ _ _ _ _ _ _
           rw [HNEW.out, ← last_set o 0 (p : Int) y (by omega)]
           exact (HSk.out.drewN nq).put 0 (p : Int)
         have HLN : Hid ((ordL L (m.take (i + 1))).length = o.length + 1) := by show _ = _; rw [HNEW.out]; simp <;> omega
         have cm : (wr.drewN nq).cell? ⟨mb, i, none⟩ = some (.int .i64 (p : Int)) := by have := HSk.out.mc i hlt; rw [HXP.out] at this; exact this
         have fz : (wr.drewN nq).frozen? ⟨g2, 0, none⟩ = false := own_frozen HSk.out.own 0
         have hkl : 0 < (o.take 0 ++ ([y] ++ o.drop 0)).length := by simp <;> omega
         have ck : (wr.drewN nq).cell? ⟨g2, 0, none⟩ = some (.int .i64 ((o.take 0 ++ ([y] ++ o.drop 0)).getD 0 0)) := HSk.out.cell hkl
         generalize (o.take 0 ++ ([y] ++ o.drop 0)).getD 0 0 = yk at ck
         clear hkl HNEW
         generalize wr.drewN nq = V at HP cm fz ck ⊢
         go_wp2
         go_roundw
         case rel => exact ⟨i + 1, g2, c2, by omega, by go_num, by rw [HLN.out], HP⟩
         case measure => simp [intOf]; omega
       · obtain ⟨q, rfl⟩ : ∃ q, k = q + 1 := ⟨k - 1, by omega⟩
         have hq : q < o.length := by omega
         obtain ⟨r, hor, hrl⟩ := HIN.out q (by rw [← HOL.out]; exact hq)
         have co : wr.cell? ⟨g2, q, none⟩ = some (.int .i64 (r : Int)) := by
           have := HSk.out.cell (j := q) (by simp; omega)
           rwa [shift_get o (q + 1) q _ (by omega) hk, hor] at this
         have cm0 : wr.cell? ⟨mb, i, none⟩ = some (.int .i64 (p : Int)) := by have := HSk.out.mc i hlt; rw [HXP.out] at this; exact this
         obtain ⟨ph, pr⟩ := HKN.out wr p HSk.out.bel hp
         obtain ⟨rh, rr⟩ := HKN.out wr r HSk.out.bel hrl
         have HGT : Hid (gtB L (r : Int) (p : Int) = (decide ((at' L p).round < (at' L r).round) || (decide ((at' L r).round = (at' L p).round) && decide ((at' L p).hand < (at' L r).hand)))) := rfl
         have HOR : Hid (o.getD q 0 = (r : Int)) := hor
         have hri : (r : Int) < (L.length : Int) := by omega
         have hk1 : ((q + 1 : Nat) : Int) - 1 = (q : Int) := by omega
         have hq1 : (q : Int) < (o.length : Int) + 1 := by omega
         clear hor hk0
         generalize (at' L p).hand = hp0 at ph HGT
         generalize (at' L p).round = hp1 at pr HGT
         generalize (at' L r).hand = hr0 at rh HGT
         generalize (at' L r).round = hr1 at rr HGT
         by_cases g1 : hp1 < hr1
         · have HGQ : Hid (gtB L (r : Int) (p : Int) = true) := by show _ = _; rw [HGT.out, decide_eq_true g1]; rfl
           have g1b : decide (hp1 < hr1) = true := decide_eq_true g1
           clear HGT
           have HQP : Hid (∀ nq : Nat, OrSt w ((wr.drewN nq).setCell ⟨g2, q + 1, none⟩ (.int .i64 (r : Int))) mb m g2 c2 (o.take q ++ ([(r : Int)] ++ o.drop q))) := fun nq => by
             have := (HSk.out.drewN nq).put (q + 1) (r : Int)
             rwa [← HOR.out, shift_set o q y hk, HOR.out] at this
           have HGP : Hid (∀ j, q ≤ j → j < o.length → gtB L (o.getD j 0) (p : Int) = true) := fun j j1 j2 => by
             by_cases e : j = q
             · subst e; rw [HOR.out]; exact HGQ.out
             · exact HG.out j (by omega) j2
           have fz : wr.frozen? ⟨g2, q + 1, none⟩ = false := own_frozen HSk.out.own (q + 1)
           have hkl : q + 1 < (o.take (q + 1) ++ ([y] ++ o.drop (q + 1))).length := by simp <;> omega
           have ck : wr.cell? ⟨g2, q + 1, none⟩ = some (.int .i64 ((o.take (q + 1) ++ ([y] ++ o.drop (q + 1))).getD (q + 1) 0)) := HSk.out.cell hkl
           generalize (o.take (q + 1) ++ ([y] ++ o.drop (q + 1))).getD (q + 1) 0 = yk at ck
           clear hkl
           go_wp2_with fail
           go_quiet (fail)
           go_wp2
           go_roundw
           case rel => exact ⟨q, (r : Int), by omega, by go_num, HQP.out nq, HGP⟩
           case measure => simp [intOf]
         · have g1b : decide (hp1 < hr1) = false := decide_eq_false g1
           by_cases g2' : hr1 = hp1
           · have g2b : (hr1 == hp1) = true := by simpa using g2'
             by_cases g3 : hp0 < hr0
             · have HGQ : Hid (gtB L (r : Int) (p : Int) = true) := by show _ = _; rw [HGT.out, decide_eq_true g2', decide_eq_true g3]; simp
               have g3b : decide (hp0 < hr0) = true := decide_eq_true g3
               clear HGT g1 g2' g3
               have HQP : Hid (∀ nq : Nat, OrSt w ((wr.drewN nq).setCell ⟨g2, q + 1, none⟩ (.int .i64 (r : Int))) mb m g2 c2 (o.take q ++ ([(r : Int)] ++ o.drop q))) := fun nq => by
                 have := (HSk.out.drewN nq).put (q + 1) (r : Int)
                 rwa [← HOR.out, shift_set o q y hk, HOR.out] at this
               have HGP : Hid (∀ j, q ≤ j → j < o.length → gtB L (o.getD j 0) (p : Int) = true) := fun j j1 j2 => by
                 by_cases e : j = q
                 · subst e; rw [HOR.out]; exact HGQ.out
                 · exact HG.out j (by omega) j2
               have fz : wr.frozen? ⟨g2, q + 1, none⟩ = false := own_frozen HSk.out.own (q + 1)
               have hkl : q + 1 < (o.take (q + 1) ++ ([y] ++ o.drop (q + 1))).length := by simp <;> omega
               have ck : wr.cell? ⟨g2, q + 1, none⟩ = some (.int .i64 ((o.take (q + 1) ++ ([y] ++ o.drop (q + 1))).getD (q + 1) 0)) := HSk.out.cell hkl
               generalize (o.take (q + 1) ++ ([y] ++ o.drop (q + 1))).getD (q + 1) 0 = yk at ck
               clear hkl
               go_wp2_with fail
               go_quiet (fail)
               go_wp2
               go_roundw
               case rel => exact ⟨q, (r : Int), by omega, by go_num, HQP.out nq, HGP⟩
               case measure => simp [intOf]
             · have HGQ : Hid (gtB L (r : Int) (p : Int) = false) := by show _ = _; rw [HGT.out, decide_eq_false g1, decide_eq_false g3]; simp
               have g3b : decide (hp0 < hr0) = false := decide_eq_false g3
               clear HGT g1 g2' g3
               go_wp2_with fail
               go_quiet (fail)
               have HNEW : Hid (ordL L (m.take (i + 1)) = o.take (q + 1) ++ ([(p : Int)] ++ o.drop (q + 1))) := HST.out.trans (insB_at L o (p : Int) (q + 1) (by omega) HG.out (.inr (by show gtB L (o.getD q 0) (p : Int) = false; rw [HOR.out]; exact HGQ.out)))
               have HP : Hid (OrSt w ((wr.drewN nq).setCell ⟨g2, q + 1, none⟩ (.int .i64 (p : Int))) mb m g2 c2 (ordL L (m.take (i + 1)))) := by
                 show OrSt _ _ _ _ _ _ _
                 rw [HNEW.out, ← last_set o (q + 1) (p : Int) y (by omega)]
                 exact (HSk.out.drewN nq).put (q + 1) (p : Int)
               have HLN : Hid ((ordL L (m.take (i + 1))).length = o.length + 1) := by show _ = _; rw [HNEW.out]; simp <;> omega
               have cm : (wr.drewN nq).cell? ⟨mb, i, none⟩ = some (.int .i64 (p : Int)) := by have := HSk.out.mc i hlt; rw [HXP.out] at this; exact this
               have fz : (wr.drewN nq).frozen? ⟨g2, q + 1, none⟩ = false := own_frozen HSk.out.own (q + 1)
               have hkl : q + 1 < (o.take (q + 1) ++ ([y] ++ o.drop (q + 1))).length := by simp <;> omega
               have ck : (wr.drewN nq).cell? ⟨g2, q + 1, none⟩ = some (.int .i64 ((o.take (q + 1) ++ ([y] ++ o.drop (q + 1))).getD (q + 1) 0)) := HSk.out.cell hkl
               generalize (o.take (q + 1) ++ ([y] ++ o.drop (q + 1))).getD (q + 1) 0 = yk at ck
               clear hkl HNEW
               generalize wr.drewN nq = V at HP cm fz ck ⊢
               go_wp2
               go_roundw
               case rel => exact ⟨i + 1, g2, c2, by omega, by go_num, by rw [HLN.out], HP⟩
               case measure => simp [intOf]; omega
           · have g2b : (hr1 == hp1) = false := by simpa using g2'
             have HGQ : Hid (gtB L (r : Int) (p : Int) = false) := by show _ = _; rw [HGT.out, decide_eq_false g1, decide_eq_false g2']; simp
             clear HGT g1 g2'
             go_wp2_with fail
             go_quiet (fail)
             have HNEW : Hid (ordL L (m.take (i + 1)) = o.take (q + 1) ++ ([(p : Int)] ++ o.drop (q + 1))) := HST.out.trans (insB_at L o (p : Int) (q + 1) (by omega) HG.out (.inr (by show gtB L (o.getD q 0) (p : Int) = false; rw [HOR.out]; exact HGQ.out)))
             have HP : Hid (OrSt w ((wr.drewN nq).setCell ⟨g2, q + 1, none⟩ (.int .i64 (p : Int))) mb m g2 c2 (ordL L (m.take (i + 1)))) := by
               show OrSt _ _ _ _ _ _ _
               rw [HNEW.out, ← last_set o (q + 1) (p : Int) y (by omega)]
               exact (HSk.out.drewN nq).put (q + 1) (p : Int)
             have HLN : Hid ((ordL L (m.take (i + 1))).length = o.length + 1) := by show _ = _; rw [HNEW.out]; simp <;> omega
             have cm : (wr.drewN nq).cell? ⟨mb, i, none⟩ = some (.int .i64 (p : Int)) := by have := HSk.out.mc i hlt; rw [HXP.out] at this; exact this
             have fz : (wr.drewN nq).frozen? ⟨g2, q + 1, none⟩ = false := own_frozen HSk.out.own (q + 1)
             have hkl : q + 1 < (o.take (q + 1) ++ ([y] ++ o.drop (q + 1))).length := by simp <;> omega
             have ck : (wr.drewN nq).cell? ⟨g2, q + 1, none⟩ = some (.int .i64 ((o.take (q + 1) ++ ([y] ++ o.drop (q + 1))).getD (q + 1) 0)) := HSk.out.cell hkl
             generalize (o.take (q + 1) ++ ([y] ++ o.drop (q + 1))).getD (q + 1) 0 = yk at ck
             clear hkl HNEW
             generalize wr.drewN nq = V at HP cm fz ck ⊢
             go_wp2
             go_roundw
             case rel => exact ⟨i + 1, g2, c2, by omega, by go_num, by rw [HLN.out], HP⟩
             case measure => simp [intOf]; omega
   · obtain rfl : i = m.length := by omega
     have e : m.take m.length = m := List.take_length
     rw [e] at HS hv
     have HV : Hid (u5 = .slice (some ⟨og, 0, none⟩) (ordL L m).length ocp) := hv
     have HF : Hid (Memb.Own w.heap.size wr (some ⟨og, 0, none⟩) ocp (ordL L m) ∧ Below w.heap.size w wr) := ⟨HS.out.own, HS.out.bel⟩
     clear hv HS e
     go_wp2
     go_ret
     exact ⟨some ⟨og, 0, none⟩, ocp, by rw [HMM.out, ← HV.out]; rfl, by rw [HMM.out]; exact HF.out.1, HF.out.2⟩
end Tl
namespace Sg
open Kn (K okK)
open Bit (bit withB)
open Lc (at')
structure Inv (L : List K) (s : Int) (m : Nat) (r : Int) : Prop where
 lo : 0 ≤ r
 hi : r < 1152921504606846976
 start : ∀ j, bit s j = true → bit r j = true
 sound : ∀ j, bit r j = true → bit s j = true ∨ ∃ i, i < L.length ∧ bit s i = true ∧ Reach L i j
 done : ∀ i, m ≤ i → i < L.length → bit r i = true → ∀ j, bit (at' L i).frm j = true → bit r j = true
theorem inv_start (L : List K) (s : Int) (h0 : 0 ≤ s) (h1 : s < 1152921504606846976) : Inv L s L.length s :=
 ⟨h0, h1, fun _ h => h, fun _ h => .inl h, fun i h1 h2 => by omega⟩
theorem inv_skip {L : List K} {s r : Int} {m : Nat} (h : Inv L s (m + 1) r) (hb : bit r m = false) : Inv L s m r :=
 ⟨h.lo, h.hi, h.start, h.sound, fun i hi hl hr j hj => by
   by_cases e : i = m
   · subst e; rw [hb] at hr; exact Bool.noConfusion hr
   · exact h.done i (by omega) hl hr j hj⟩
theorem inv_take {L : List K} (hl : Lc.laceB L = true) {s r : Int} {m : Nat} (hm : m < L.length) (h : Inv L s (m + 1) r) (hb : bit r m = true) : Inv L s m (orB r (at' L m).frm) := by
 have hf := frm_lace hl _ (Lc.at_mem L m hm)
 have hbd := orB_bd r (at' L m).frm h.lo h.hi hf.1 hf.2
 refine ⟨hbd.1, hbd.2, ?_, ?_, ?_⟩
 · intro j hj; rw [bit_orB _ _ h.lo hf.1, h.start j hj]; rfl
 · intro j hj
   rw [bit_orB _ _ h.lo hf.1, Bool.or_eq_true] at hj
   rcases hj with hj | hj
   · exact h.sound j hj
   · rcases h.sound m hb with hs | ⟨i, hi, hs, hr⟩
     · exact .inr ⟨m, hm, hs, .step hj (.self _)⟩
     · exact .inr ⟨i, hi, hs, hr.trans (.step hj (.self _))⟩
 · intro i hi hil hr j hj
   rw [bit_orB _ _ h.lo hf.1, Bool.or_eq_true] at hr ⊢
   by_cases e : i = m
   · subst e; exact .inr hj
   · rcases hr with hr | hr
     · exact .inl (h.done i (by omega) hil hr j hj)
     · have := thread_lt hl hm hr; omega
theorem inv_reach {L : List K} (hl : Lc.laceB L = true) {s r : Int} (h : Inv L s 0 r) {i j : Nat} (hi : i < L.length) (hb : bit r i = true) (hr : Reach L i j) : bit r j = true := by
 induction hr with
 | self => exact hb
 | step hm _ ih => exact ih (Nat.lt_trans (thread_lt hl hi hm) hi) (h.done _ (Nat.zero_le _) hi hb _ hm)
structure Met (L : List K) (m : Nat) (r f : Int) : Prop where
 lo : 0 ≤ f
 hi : f < 1152921504606846976
 has : ∀ j, bit f j = true ↔ m ≤ j ∧ j < L.length ∧ bit r j = true
theorem met_start (L : List K) (s : Int) : Met L L.length s 0 := ⟨by omega, by omega, fun j => by rw [Lc.bit_zero]; simp; omega⟩
theorem met_skip {L : List K} {r f : Int} {m : Nat} (h : Met L (m + 1) r f) (hb : bit r m = false) : Met L m r f :=
 ⟨h.lo, h.hi, fun j => by
   rw [h.has j]
   constructor
   · rintro ⟨a, b, c⟩; exact ⟨by omega, b, c⟩
   · rintro ⟨a, b, c⟩
     refine ⟨?_, b, c⟩
     apply Classical.byContradiction
     intro hn
     obtain rfl : j = m := by omega
     rw [hb] at c; exact Bool.noConfusion c⟩
theorem met_take {L : List K} (hl : Lc.laceB L = true) {s r f : Int} {m : Nat} (hm : m < L.length) (hi : Inv L s (m + 1) r) (h : Met L (m + 1) r f) (hb : bit r m = true) : Met L m (orB r (at' L m).frm) (withB f m) := by
 have h60 := ((Lc.lace_iff L).1 hl).1
 have hf := frm_lace hl _ (Lc.at_mem L m hm)
 have hbd := Bit.withB_bd f h.lo h.hi m (by omega)
 refine ⟨hbd.1, hbd.2, fun j => ?_⟩
 rw [Bit.bit_withB f h.lo, bit_orB _ _ hi.lo hf.1]
 simp only [Bool.or_eq_true, decide_eq_true_eq]
 rw [h.has j]
 constructor
 · rintro (rfl | ⟨a, b, c⟩)
   · exact ⟨Nat.le_refl _, hm, .inl hb⟩
   · exact ⟨by omega, b, .inl c⟩
 · rintro ⟨a, b, c | c⟩
   · by_cases e : j = m
     · exact .inl e
     · exact .inr ⟨by omega, b, c⟩
   · have := thread_lt hl hm c; omega
def oneI (k : Int) : Int := if 0 ≤ k ∧ k < 60 then 2 ^ k.toNat else 0
theorem oneI_bd (k : Int) : 0 ≤ oneI k ∧ oneI k < 1152921504606846976 := by
 unfold oneI
 split
 · rename_i h; have := Base.pow_bd k.toNat (by omega); exact ⟨by omega, this.2⟩
 · omega
theorem bit_oneI (k : Int) (j : Nat) : bit (oneI k) j = true ↔ k = (j : Int) ∧ j < 60 := by
 unfold oneI
 split
 · rename_i h; rw [bit_pow]; simp; omega
 · rw [Lc.bit_zero]; simp; omega
def metI (L : List K) (k : Int) : Int := if 0 ≤ k ∧ k < (L.length : Int) then bel L k.toNat else 0
theorem met_end {L : List K} (hl : Lc.laceB L = true) {k r f : Int} (hi : Inv L (oneI k) 0 r) (h : Met L 0 r f) : f = metI L k := by
 have h60 := ((Lc.lace_iff L).1 hl).1
 unfold metI
 split
 · rename_i hk
   obtain ⟨p, rfl⟩ := Int.eq_ofNat_of_zero_le hk.1
   rw [Int.toNat_natCast]
   have hp : p < L.length := by omega
   have hbd := bel_bd L p (by omega)
   refine Lc.eq_of_bits _ _ h.lo hbd.1 fun j => ?_
   rw [Bool.eq_iff_iff, h.has j, bel_reach hl p hp j]
   constructor
   · rintro ⟨_, _, c⟩
     rcases hi.sound j c with hs | ⟨i, _, hs, hr⟩
     · have := ((bit_oneI _ _).1 hs).1
       obtain rfl : p = j := by omega
       exact .self _
     · have := ((bit_oneI _ _).1 hs).1
       obtain rfl : p = i := by omega
       exact hr
   · intro hr
     have := reach_le hl hp hr
     refine ⟨Nat.zero_le _, by omega, ?_⟩
     exact inv_reach hl hi hp (hi.start p ((bit_oneI _ _).2 ⟨rfl, by omega⟩)) hr
 · rename_i hk
   refine Lc.eq_of_bits _ _ h.lo (Int.le_refl _) fun j => ?_
   rw [Lc.bit_zero, Bool.eq_false_iff]
   intro hj
   obtain ⟨_, hjl, c⟩ := (h.has j).1 hj
   rcases hi.sound j c with hs | ⟨i, hil, hs, _⟩
   · have := ((bit_oneI _ _).1 hs).1; omega
   · have := ((bit_oneI _ _).1 hs).1; omega
/-! ### closed -/
def Kept (L : List K) (s : Int) (m : Nat) (r : Int) : Prop := ∀ j, m ≤ j → j < L.length → bit r j = true → bit s j = true
theorem kept_start (L : List K) (s r : Int) : Kept L s L.length r := fun j h1 h2 => by omega
theorem kept_skip {L : List K} {s r : Int} {m : Nat} (h : Kept L s (m + 1) r) (hb : bit r m = false) : Kept L s m r := fun j h1 h2 h3 => by
 by_cases e : j = m
 · subst e; rw [hb] at h3; exact Bool.noConfusion h3
 · exact h j (by omega) h2 h3
theorem kept_take {L : List K} (hl : Lc.laceB L = true) {s r : Int} {m : Nat} (hm : m < L.length) (hi : Inv L s (m + 1) r) (h : Kept L s (m + 1) r) (hs : bit s m = true) : Kept L s m (orB r (at' L m).frm) := fun j h1 h2 h3 => by
 have hf := frm_lace hl _ (Lc.at_mem L m hm)
 by_cases e : j = m
 · subst e; exact hs
 · rw [bit_orB _ _ hi.lo hf.1, Bool.or_eq_true] at h3
   rcases h3 with h3 | h3
   · exact h j (by omega) h2 h3
   · have := thread_lt hl hm h3; omega
theorem reach_in {L : List K} (hl : Lc.laceB L = true) {s : Int} (h : ∀ i, i < L.length → bit s i = true → ∀ m, bit (at' L i).frm m = true → bit s m = true) {i j : Nat} (hi : i < L.length) (hb : bit s i = true) (hr : Reach L i j) : bit s j = true := by
 induction hr with
 | self => exact hb
 | step hm _ ih => exact ih (Nat.lt_trans (thread_lt hl hi hm) hi) (h _ hi hb _ hm)
theorem closed_end {L : List K} (hl : Lc.laceB L = true) {s r : Int} (h0 : 0 ≤ s) (h1 : s < 1152921504606846976) (hi : Inv L s 0 r) (h : Kept L s 0 r) : closedTo (belows L L.length) s L.length = true := by
 rw [closed_threads hl s h0 h1]
 intro i hil hb m hm
 have := thread_lt hl hil hm
 exact h m (Nat.zero_le _) (by omega) (hi.done i (Nat.zero_le _) hil (hi.start i hb) m hm)
theorem closed_not {L : List K} (hl : Lc.laceB L = true) {s r : Int} (h0 : 0 ≤ s) (h1 : s < 1152921504606846976) {m j : Nat} (hi : Inv L s m r) (hr : bit r j = true) (hs : bit s j = false) : closedTo (belows L L.length) s L.length = false := by
 rw [Bool.eq_false_iff]
 intro hc
 rw [closed_threads hl s h0 h1] at hc
 rcases hi.sound j hr with h | ⟨i, hil, hb, hre⟩
 · rw [hs] at h; exact Bool.noConfusion h
 · have := reach_in hl hc hil hb hre
   rw [hs] at this; exact Bool.noConfusion this
/-! ### tips -/
theorem bit_andNot (a s : Int) (h0 : 0 ≤ a) (h1 : a < 1152921504606846976) (h2 : 0 ≤ s) (h3 : s < 1152921504606846976) (i : Nat) : bit (bits .andNot .i64 a s) i = (bit a i && !bit s i) := by
 obtain ⟨A, rfl⟩ := Int.eq_ofNat_of_zero_le h0
 obtain ⟨S, rfl⟩ := Int.eq_ofNat_of_zero_le h2
 have hA : (BitVec.ofInt 64 (A : Int)).toNat = A := ofInt_u64 A (by omega)
 have hS : (BitVec.ofInt 64 (S : Int)).toNat = S := ofInt_u64 S (by omega)
 have hx : (BitVec.ofInt 64 (A : Int) &&& ~~~ BitVec.ofInt 64 (S : Int)).toNat ≤ A := by
   rw [BitVec.toNat_and, hA]; exact Nat.and_le_left
 have e : bits .andNot .i64 (A : Int) (S : Int) = ((BitVec.ofInt 64 (A : Int) &&& ~~~ BitVec.ofInt 64 (S : Int)).toNat : Int) := by
   show IntKind.i64.wrap ((BitVec.ofInt 64 (A : Int) &&& ~~~ BitVec.ofInt 64 (S : Int)).toNat : Int) = _
   rw [IntKind.wrap_i64]; omega
 have hn : (0 : Int) ≤ ((BitVec.ofInt 64 (A : Int) &&& ~~~ BitVec.ofInt 64 (S : Int)).toNat : Int) := by omega
 rw [e, Bit.bit_testBit _ hn, Int.toNat_natCast, Bit.bit_testBit _ h0, Bit.bit_testBit _ h2, Int.toNat_natCast, Int.toNat_natCast]
 by_cases h64 : i < 64
 · show (BitVec.ofInt 64 (A : Int) &&& ~~~ BitVec.ofInt 64 (S : Int)).getLsbD i = _
   rw [BitVec.getLsbD_and, BitVec.getLsbD_not, BitVec.getLsbD, hA, BitVec.getLsbD, hS]
   simp [h64]
 · have ha : A.testBit i = false := Nat.testBit_lt_two_pow (Nat.lt_of_lt_of_le (show A < 2 ^ 64 by omega) (Nat.pow_le_pow_right (by decide) (by omega)))
   have hb : (BitVec.ofInt 64 (A : Int) &&& ~~~ BitVec.ofInt 64 (S : Int)).toNat.testBit i = false := Nat.testBit_lt_two_pow (Nat.lt_of_lt_of_le (show _ < 2 ^ 64 by omega) (Nat.pow_le_pow_right (by decide) (by omega)))
   rw [ha, hb]; rfl
theorem andNot_bd' (a s : Int) (h0 : 0 ≤ a) (h1 : a < 1152921504606846976) : 0 ≤ bits .andNot .i64 a s ∧ bits .andNot .i64 a s < 1152921504606846976 := by
 obtain ⟨A, rfl⟩ := Int.eq_ofNat_of_zero_le h0
 have hA : (BitVec.ofInt 64 (A : Int)).toNat = A := ofInt_u64 A (by omega)
 have hx : (BitVec.ofInt 64 (A : Int) &&& ~~~ BitVec.ofInt 64 s).toNat ≤ A := by
   rw [BitVec.toNat_and, hA]; exact Nat.and_le_left
 have e : bits .andNot .i64 (A : Int) s = ((BitVec.ofInt 64 (A : Int) &&& ~~~ BitVec.ofInt 64 s).toNat : Int) := by
   show IntKind.i64.wrap ((BitVec.ofInt 64 (A : Int) &&& ~~~ BitVec.ofInt 64 s).toNat : Int) = _
   rw [IntKind.wrap_i64]; omega
 rw [e]; omega
def visF (L : List K) : (m : Nat) → m ≤ L.length → Int → List (Fin L.length)
 | 0, _, _ => []
 | m + 1, h, r => if bit r m then ⟨m, h⟩ :: visF L m (Nat.le_of_succ_le h) (orB r (at' L m).frm) else visF L m (Nat.le_of_succ_le h) r
def vis (L : List K) (s : Int) : List (Fin L.length) := visF L L.length (Nat.le_refl _) s
theorem visF_yes (L : List K) (m : Nat) (h : m + 1 ≤ L.length) (r : Int) (hb : bit r m = true) : visF L (m + 1) h r = ⟨m, h⟩ :: visF L m (Nat.le_of_succ_le h) (orB r (at' L m).frm) := by
 show (if bit r m then _ else _) = _
 rw [hb]; rfl
theorem visF_no (L : List K) (m : Nat) (h : m + 1 ≤ L.length) (r : Int) (hb : bit r m = false) : visF L (m + 1) h r = visF L m (Nat.le_of_succ_le h) r := by
 show (if bit r m then _ else _) = _
 rw [hb]; rfl
theorem visF_len (L : List K) (m : Nat) (h : m ≤ L.length) (r : Int) : (visF L m h r).length ≤ m := by
 induction m generalizing r with
 | zero => exact Nat.le_refl _
 | succ m ih =>
   cases hb : bit r m
   · rw [visF_no L m h r hb]; have := ih (Nat.le_of_succ_le h) r; omega
   · rw [visF_yes L m h r hb]; have := ih (Nat.le_of_succ_le h) (orB r (at' L m).frm); simp; omega
theorem vis_len (L : List K) (s : Int) : (vis L s).length ≤ L.length := visF_len L _ _ s
def gath {n : Nat} (f : Int) (xs : List (Fin n)) : Int := xs.foldl (fun f x => withB f x.val) f
theorem gath_snoc {n : Nat} (f : Int) (xs : List (Fin n)) (x : Fin n) : gath f (xs ++ [x]) = withB (gath f xs) x.val := by simp [gath]
theorem gath_bd {n : Nat} (hn : n ≤ 60) (xs : List (Fin n)) : 0 ≤ gath 0 xs ∧ gath 0 xs < 1152921504606846976 := by
 have : ∀ (xs : List (Fin n)) (f : Int), 0 ≤ f → f < 1152921504606846976 → 0 ≤ gath f xs ∧ gath f xs < 1152921504606846976 := by
   intro xs
   induction xs with
   | nil => intro f h0 h1; exact ⟨h0, h1⟩
   | cons x xs ih =>
     intro f h0 h1
     have hx := x.isLt
     have hb := Bit.withB_bd f h0 h1 x.val (by omega)
     exact ih _ hb.1 hb.2
 exact this xs 0 (by omega) (by omega)
theorem gath_vis {L : List K} (hl : Lc.laceB L = true) (k : Int) : gath 0 (vis L (oneI k)) = metI L k := by
 have h60 := ((Lc.lace_iff L).1 hl).1
 have : ∀ (m : Nat) (h : m ≤ L.length) (r f : Int), Inv L (oneI k) m r → Met L m r f → gath f (visF L m h r) = metI L k := by
   intro m
   induction m with
   | zero => intro h r f hi hm; exact met_end hl hi hm
   | succ m ih =>
     intro h r f hi hm
     cases hb : bit r m
     · rw [visF_no L m h r hb]; exact ih _ r f (inv_skip hi hb) (met_skip hm hb)
     · rw [visF_yes L m h r hb]; exact ih _ _ _ (inv_take hl h hi hb) (met_take hl h hi hm hb)
 exact this L.length (Nat.le_refl _) (oneI k) 0 (inv_start L _ (oneI_bd k).1 (oneI_bd k).2) (met_start L _)
theorem vis_closed {L : List K} (hl : Lc.laceB L = true) (s : Int) (h0 : 0 ≤ s) (h1 : s < 1152921504606846976) : (∀ x ∈ vis L s, bit s x.val = true) ↔ closedTo (belows L L.length) s L.length = true := by
 have : ∀ (m : Nat) (h : m ≤ L.length) (r : Int), Inv L s m r → Kept L s m r → ((∀ x ∈ visF L m h r, bit s x.val = true) ↔ closedTo (belows L L.length) s L.length = true) := by
   intro m
   induction m with
   | zero => intro h r hi hk; exact ⟨fun _ => closed_end hl h0 h1 hi hk, fun _ x hx => by cases hx⟩
   | succ m ih =>
     intro h r hi hk
     cases hb : bit r m
     · rw [visF_no L m h r hb]; exact ih _ r (inv_skip hi hb) (kept_skip hk hb)
     · rw [visF_yes L m h r hb]
       cases hs : bit s m
       · constructor
         · intro hx
           have := hx ⟨m, h⟩ (List.mem_cons_self ..)
           rw [hs] at this; exact Bool.noConfusion this
         · intro hc
           rw [closed_not hl h0 h1 hi hb hs] at hc; exact Bool.noConfusion hc
       · have := ih (Nat.le_of_succ_le h) _ (inv_take hl h hi hb) (kept_take hl h hi hk hs)
         rw [← this]
         constructor
         · intro hx x hm; exact hx x (List.mem_cons_of_mem _ hm)
         · intro hx x hm
           rcases List.mem_cons.1 hm with rfl | hm
           · exact hs
           · exact hx x hm
 exact this L.length (Nat.le_refl _) s (inv_start L _ h0 h1) (kept_start L s s)
end Sg
end Go.Proofs.YtjnhniffgeepjaaGreat
