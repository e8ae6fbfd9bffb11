/-
 What the model's drawings for the laws on order and on what is fresh hand back, where the drawing of a room keeps its word.
-/
import Derived.Test.YtflhaiakhfmmmaaGreatOZb
namespace Go.Proofs.YtflhaiakhfmmmaaGreat
open Go.RowKit
set_option maxRecDepth 100000
namespace Tl
open Kn (K okK)
open Bit (bit withB memTo)
open Lc (at' RdK WordsOk laceB setB)
open Sg (isB bel belows NumsPost)
theorem insR_pass (L : List K) (x : Int) : ∀ (a b : List Int), (∀ y ∈ a, gtB L y x = true) → insR L x (a ++ b) = a ++ insR L x b := by
 intro a
 induction a with
 | nil => intro b _; rfl
 | cons y a ih =>
   intro b h
   show insR L x (y :: (a ++ b)) = y :: (a ++ insR L x b)
   conv => lhs; unfold insR
   rw [h y (by simp), if_pos rfl, ih b (fun z hz => h z (by simp [hz]))]
theorem insB_at (L : List K) (out : List Int) (x : Int) (k : Nat) (hk : k ≤ out.length) (h1 : ∀ j, k ≤ j → j < out.length → gtB L (out.getD j 0) x = true) (h2 : k = 0 ∨ gtB L (out.getD (k - 1) 0) x = false) : insB L out x = out.take k ++ ([x] ++ out.drop k) := by
 unfold insB
 have e : out.reverse = (out.drop k).reverse ++ (out.take k).reverse := by rw [← List.reverse_append, List.take_append_drop]
 rw [e, insR_pass]
 · have : insR L x (out.take k).reverse = x :: (out.take k).reverse := by
     rcases h2 with h2 | h2
     · subst h2; simp [insR]
     · by_cases hk0 : k = 0
       · subst hk0; simp [insR]
       · have hk1 : k - 1 < out.length := by omega
         have e2 : out.take k = out.take (k - 1) ++ [out.getD (k - 1) 0] := by
           have := Lc.take_snocI out (k - 1) hk1
           rwa [show k - 1 + 1 = k by omega] at this
         rw [e2, List.reverse_append]
         show insR L x (out.getD (k - 1) 0 :: (out.take (k - 1)).reverse) = _
         unfold insR
         rw [h2, if_neg (by simp)]
         rfl
   rw [this, List.reverse_append, List.reverse_reverse, List.reverse_cons, List.reverse_reverse, List.append_assoc]
 · intro y hy
   rw [List.mem_reverse] at hy
   obtain ⟨j, hj, rfl⟩ := List.mem_iff_getElem.1 hy
   have hj' : k + j < out.length := by simp at hj; omega
   have := h1 (k + j) (by omega) hj'
   rw [List.getElem_drop]
   simpa [List.getD, List.getElem?_eq_getElem hj'] using this
theorem ord_step (L : List K) (m : List Int) (i : Nat) (hi : i < m.length) : ordL L (m.take (i + 1)) = insB L (ordL L (m.take i)) (m.getD i 0) := by
 rw [Lc.take_snocI m i hi]
 unfold ordL
 rw [List.foldl_append]; rfl
theorem ord_len (L : List K) (m : List Int) : (ordL L m).length = m.length := (ord_perm L m).length_eq
theorem own_put {B : Nat} {w : World} {g n cap : Nat} {a : List Int} (h : w.ownsRow B 2 1 (.slice (some ⟨g, 0, none⟩) n cap) n (a.map (Value.int .i64))) (j : Nat) (y : Int) : (w.setCell ⟨g, j, none⟩ (.int .i64 y)).ownsRow B 2 1 (.slice (some ⟨g, 0, none⟩) n cap) n ((a.set j y).map (Value.int .i64)) := by
 obtain ⟨h1, h2⟩ := h
 refine ⟨by simpa using h1, ?_⟩
 rcases h2 with ⟨h2, _⟩ | ⟨g2, c2, cur, e1, hB, hg, hn, hm, hs, ht⟩
 · injection h2 with h2 _; exact absurd h2 (by simp)
 · injection e1 with e1 _ e3
   injection e1 with e1
   injection e1 with e1
   subst e1 e3
   refine .inr ⟨g, cap, cur.setIfInBounds j (.int .i64 y), rfl, hB, heap_setCell_same w g j cur _ _ hg, hn, hm, by simpa using hs, ?_⟩
   rw [Array.toList_setIfInBounds, List.take_set, ht, List.map_set]
theorem own_frozen {B : Nat} {w : World} {g n cap : Nat} {xs : List Value} {t : TypeId} (h : w.ownsRow B t 1 (.slice (some ⟨g, 0, none⟩) n cap) n xs) (j : Nat) : w.frozen? ⟨g, j, none⟩ = false := by
 obtain ⟨_, ⟨h2, _⟩ | ⟨g2, c2, cur, e1, hB, hg, _⟩⟩ := h
 · injection h2 with h2 _; exact absurd h2 (by simp)
 · injection e1 with e1 _ _
   injection e1 with e1
   injection e1 with e1
   subst e1
   simp [World.frozen?, hg]
theorem shift_set (out : List Int) (k : Nat) (y : Int) (hk : k + 1 ≤ out.length) : (out.take (k + 1) ++ ([y] ++ out.drop (k + 1))).set (k + 1) (out.getD k 0) = out.take k ++ ([out.getD k 0] ++ out.drop k) := by
 have e1 : out.take (k + 1) = out.take k ++ [out.getD k 0] := Lc.take_snocI out k (by omega)
 have e2 : out.drop k = out.getD k 0 :: out.drop (k + 1) := by
   rw [List.drop_eq_getElem_cons (by omega : k < out.length)]
   simp [List.getD, List.getElem?_eq_getElem (by omega : k < out.length)]
 rw [e2, e1]
 have hl : (out.take k ++ [out.getD k 0]).length = k + 1 := by simp; omega
 rw [List.set_append_right _ _ (by rw [hl]; omega), hl]
 simp
theorem last_set (out : List Int) (k : Nat) (x y : Int) (hk : k ≤ out.length) : (out.take k ++ ([y] ++ out.drop k)).set k x = out.take k ++ ([x] ++ out.drop k) := by
 have hl : (out.take k).length = k := by simp; omega
 rw [List.set_append_right _ _ (by rw [hl]; omega), hl]
 simp
theorem shift_get (out : List Int) (k j : Nat) (rest : List Int) (hj : j < k) (hk : k ≤ out.length) : (out.take k ++ rest).getD j 0 = out.getD j 0 := by
 have h1 : j < (out.take k).length := by simp <;> omega
 simp [List.getD, List.getElem?_append_left h1, hj]
structure OrSt (w wr : World) (mb : Nat) (m : List Int) (og cp : Nat) (o : List Int) : Prop where
 own : wr.ownsRow w.heap.size 2 1 (.slice (some ⟨og, 0, none⟩) o.length cp) o.length (o.map (Value.int .i64))
 bel : Below w.heap.size w wr
 mc : ∀ j, j < m.length → wr.cell? ⟨mb, j, none⟩ = some (.int .i64 (m.getD j 0))
 ne : 0 < m.length → og ≠ mb
 ml : 0 < m.length → mb < wr.heap.size
theorem OrSt.cell {w wr : World} {mb : Nat} {m : List Int} {og cp : Nat} {o : List Int} (s : OrSt w wr mb m og cp o) {j : Nat} (hj : j < o.length) : wr.cell? ⟨og, j, none⟩ = some (.int .i64 (o.getD j 0)) := by
 have : Memb.Own w.heap.size wr (some ⟨og, 0, none⟩) cp o := s.own
 rcases Lst.own_rd this with e | ⟨g, e, hc⟩
 · rw [e] at hj; simp at hj
 · injection e with e; injection e with e; subst e; exact hc j hj
theorem OrSt.lt {w wr : World} {mb : Nat} {m : List Int} {og cp : Nat} {o : List Int} (s : OrSt w wr mb m og cp o) : w.heap.size ≤ og ∧ og < wr.heap.size := World.ownsRow.lt s.own og rfl
theorem OrSt.put {w wr : World} {mb : Nat} {m : List Int} {og cp : Nat} {o : List Int} (s : OrSt w wr mb m og cp o) (j : Nat) (y : Int) : OrSt w (wr.setCell ⟨og, j, none⟩ (.int .i64 y)) mb m og cp (o.set j y) where
 own := by have := own_put s.own j y; simpa using this
 bel := s.bel.setCell (p := ⟨og, j, none⟩) s.lt.1 _
 mc := fun i hi => (World.cell?_of_block (w := wr) (Below.heap_setCell wr ⟨og, j, none⟩ _ mb (fun e => s.ne (by omega) e.symm))).trans (s.mc i hi)
 ne := s.ne
 ml := fun h => by simpa using s.ml h
theorem OrSt.drewN {w wr : World} {mb : Nat} {m : List Int} {og cp : Nat} {o : List Int} (s : OrSt w wr mb m og cp o) (n : Nat) : OrSt w (wr.drewN n) mb m og cp o := ⟨s.own, Db.below_drewN s.bel n, s.mc, s.ne, s.ml⟩
theorem OrSt.app {w wr w1 : World} {mb : Nat} {m : List Int} {og cp : Nat} {o : List Int} {x : Int} {v' : Value} {ob : Obj} (s : OrSt w wr mb m og cp o) (ho : w1.ownsRow w.heap.size 2 1 v' (o.length + 1) (o.map (Value.int .i64) ++ [.int .i64 x])) (hg : (wr.alloc ob).grownBy w1 (some og)) (hn : ¬ v' = .slice none 0 0) (ha : v'.ownBlock = some og ∨ v'.ownBlock = some (wr.alloc ob).heap.size) : ∃ g2 c2, v' = .slice (some ⟨g2, 0, none⟩) (o.length + 1) c2 ∧ OrSt w w1 mb m g2 c2 (o ++ [x]) := by
 have ho' := ho
 obtain ⟨_, ⟨hx, _⟩ | ⟨g2, c2, cur, hx, _⟩⟩ := ho'
 · exact absurd hx hn
 · subst hx
   have hb : Below w.heap.size w w1 := (s.bel.alloc s.bel.size ob).grown hg (by simp; have := s.bel.size; omega) (fun k hk => by cases hk; exact s.lt.1)
   refine ⟨g2, c2, rfl, by simpa using ho, hb, fun j hj => ?_, fun hm => ?_, fun hm => ?_⟩
   · have h1 : (wr.alloc ob).cell? ⟨mb, j, none⟩ = some (.int .i64 (m.getD j 0)) := by rw [World.cell?_alloc_lt _ _ _ (s.ml (by omega))]; exact s.mc j hj
     exact World.grownBy.cell hg h1 (by intro e; injection e with e; exact s.ne (by omega) e.symm)
   · have hml := s.ml hm
     have hne := s.ne hm
     simp [Value.ownBlock] at ha
     rcases ha with e | e
     · subst e; exact hne
     · omega
   · have h1 := hg.size
     have h2 := s.ml hm
     simp at h1; omega
set_option maxHeartbeats 6400000 in
theorem l11Order (g off cap : Nat) (L : List K) (s : Int) (w : World) (hl : laceB L = true) (hr : RdK w (some ⟨g, off, none⟩) L) (h0 : 0 ≤ s) (h1 : s < 1152921504606846976) (hin : ∀ i, bit s i = true → i < L.length) :
   Calls Tryz.prog 44 #[.slice (some ⟨g, off, none⟩) L.length cap, .int .i64 s] w (NumsPost (ordL L (memTo s 60)) w) := by
 obtain ⟨i0, hi, hz0, hz1, hz2⟩ := info_parts Memb.info2
 have hL := ((Lc.lace_iff L).1 hl).1
 have HMEM : Hid (∀ x ∈ memTo s 60, ∃ p : Nat, x = (p : Int) ∧ p < L.length) := fun x hx => by
   obtain ⟨j, _, rfl, hb⟩ := (Bit.mem_memTo _ _ _).1 hx
   exact ⟨j, rfl, hin j hb⟩
 have HKN : Hid (∀ (W : World) (p : Nat), Below w.heap.size w W → p < L.length → W.cell? ⟨g, off + p * 4, none⟩ = some (.int .i64 (at' L p).hand) ∧ W.cell? ⟨g, off + p * 4 + 1, none⟩ = some (.int .i64 (at' L p).round)) := fun W p hW hp => by
   obtain ⟨_, q0, q1, _, _⟩ := (hr.below hW).on p hp
   exact ⟨q0, q1⟩
 have hml : (memTo s 60).length ≤ 60 := Bit.memTo_le s 60
 clear hl hr hin
 have HB0 : Hid (Below w.heap.size w (w.alloc (.cells #[] 2))) := (Below.refl _ _).alloc (Nat.le_refl _) _
 have HE0 : Hid ((w.alloc (.cells #[] 2)).ownsRow w.heap.size 2 1 (.slice (some ⟨w.heap.size, 0, none⟩) 0 0) 0 []) := Memb.own_empty w
 have hsz0 : w.heap.size < (w.alloc (.cells #[] 2)).heap.size := by simp
 go_enter Tryz.func44, Tryz.ntmps44
 go_wp2_with fail
 generalize w.alloc (.cells #[] 2) = w0 at HB0 HE0 hsz0 ⊢
 refine (Memb.l1Members' s _ h0 h1).mono ?_
 rintro e w1 ⟨mo, mc, rfl, hown, hb1⟩
 obtain ⟨mb, HMO, HS1⟩ : ∃ mb, Hid (0 < (memTo s 60).length → mo = some ⟨mb, 0, none⟩) ∧ Hid (OrSt w w1 mb (memTo s 60) w.heap.size 0 []) := by
   have hE1 : w1.ownsRow w.heap.size 2 1 (.slice (some ⟨w.heap.size, 0, none⟩) 0 0) 0 [] := Fm.row_below HE0.out hb1
   have hB1 : Below w.heap.size w w1 := HB0.out.trans (hb1.mono HB0.out.size)
   rcases Lst.own_rd hown with e | ⟨mb, e, hc⟩
   · have hz : (memTo s 60).length = 0 := by rw [e]; rfl
     exact ⟨0, fun hh => by omega, ⟨hE1, hB1, fun j hj => by omega, fun hh => by omega, fun hh => by omega⟩⟩
   · subst e
     have := World.ownsRow.lt hown mb rfl
     exact ⟨mb, fun _ => rfl, ⟨hE1, hB1, hc, fun _ => by omega, fun _ => this.2⟩⟩
 clear hb1 hown HB0 HE0 hsz0
 generalize hmm : memTo s 60 = m at HMEM hml HMO HS1 ⊢
 have HMM : Hid (memTo s 60 = m) := hmm
 clear hmm
 go_wp2
 go_loopw [5, 7] (fun v iv wr => ∃ (i : Nat) (og ocp : Nat), i ≤ m.length ∧ iv = .int .i64 (i : Int) ∧ v = .slice (some ⟨og, 0, none⟩) (ordL L (m.take i)).length ocp ∧ Hid (OrSt w wr mb m og ocp (ordL L (m.take i)))) (fun _ iv _ => m.length - (intOf iv).toNat)
 case atStart => exact ⟨0, w.heap.size, 0, by omega, rfl, rfl, HS1⟩
 case round =>
   obtain ⟨i, og, ocp, hil, rfl, hv, HS⟩ := hrel
   clear HS1
   by_cases hlt : i < m.length
   · subst hv
     have hii : (i : Int) < (m.length : Int) := by omega
     have hmo := HMO.out (by omega)
     have HST : Hid (ordL L (m.take (i + 1)) = insB L (ordL L (m.take i)) (m.getD i 0)) := ord_step L m i hlt
     have hol : (ordL L (m.take i)).length = i := by rw [ord_len]; simp; omega
     have HIN : Hid (∀ j, j < i → ∃ r : Nat, (ordL L (m.take i)).getD j 0 = (r : Int) ∧ r < L.length) := fun j hj => by
       have hmem : (ordL L (m.take i)).getD j 0 ∈ ordL L (m.take i) := by simp [List.getD, List.getElem?_eq_getElem (show j < (ordL L (m.take i)).length by omega)]
       exact HMEM.out _ (List.mem_of_mem_take ((mem_ord L _ _).1 hmem))
     obtain ⟨p, hxp, hp⟩ := HMEM.out (m.getD i 0) (by simp [List.getD, List.getElem?_eq_getElem hlt])
     rw [hxp] at HST
     generalize ordL L (m.take i) = o at HST hol HIN HS ⊢
     have cm := HS.out.mc i hlt
     rw [hxp] at cm
     subst hmo
     have HOL : Hid (o.length = i) := hol
     have hol1 : o.length ≤ 60 := by omega
     have HXP : Hid (m.getD i 0 = (p : Int)) := hxp
     clear hol hxp
     have HOA : Hid (∀ ob : Obj, (wr.alloc ob).ownsRow w.heap.size 2 1 (.slice (some ⟨og, 0, none⟩) o.length ocp) o.length (o.map (Value.int .i64))) := fun ob => HS.out.own.alloc ob
     have hwsz := HS.out.bel.size
     go_wp2_with (first | (at_builtin; refine wpList_append_own_at _ rfl _ _ 25 rfl w.heap.size 2 i0 (.int .i64 0) 1 8 Tryz.underlying25 hi hz0 hz1 hz2 rfl (by decide) (.slice (some ⟨og, 0, none⟩) o.length ocp) o.length (o.map (Value.int .i64)) (by first | rfl | simp [Act.eval]) (HOA.out _) ⟨wr.heap.size, 0, none⟩ 1 1 [.int .i64 (p : Int)] (by first | rfl | simp [Act.eval]) rfl (Sg.one_new wr (p : Int) _) (Sg.one_one (p : Int)) ?c3 ?c4 ?c5 ?_) | fail)
     case c3 => unfold maxLen; omega
     case c4 => omega
     case c5 => first | omega | (simp; omega)
     intro v' w3 hown' hgrow hnil hat
     obtain ⟨g2, c2, rfl, hS3⟩ := HS.out.app hown' hgrow (by first | exact hnil | exact fun e => by have := hnil.1 e; simp at this) (by simpa [Value.ownBlock] using hat)
     have HS3 : Hid (OrSt w w3 mb m g2 c2 (o.take o.length ++ ([(p : Int)] ++ o.drop o.length))) := by
       show OrSt _ _ _ _ _ _ _
       rw [List.take_length, List.drop_length]; exact hS3
     clear hown' hgrow hnil hat HS HOA hS3 cm
     go_wp2_with fail
     go_loopw [8] (fun kv wk => ∃ (k : Nat) (y : Int), k ≤ o.length ∧ kv = .int .i64 (k : Int) ∧ Hid (OrSt w wk mb m g2 c2 (o.take k ++ ([y] ++ o.drop k))) ∧ Hid (∀ j, k ≤ j → j < o.length → gtB L (o.getD j 0) (p : Int) = true)) (fun kv _ => (intOf kv).toNat)
     case atStart => exact ⟨o.length, (p : Int), Nat.le_refl _, rfl, HS3, fun j h1 h2 => by omega⟩
     case round =>
       obtain ⟨k, y, hk, rfl, HSk, HG⟩ := hrel
       clear HS3
       have hpi : (p : Int) < (L.length : Int) := by omega
       by_cases hk0 : k = 0
       · subst hk0
         go_wp2_with fail
         go_quiet (fail)
         have HNEW : Hid (ordL L (m.take (i + 1)) = o.take 0 ++ ([(p : Int)] ++ o.drop 0)) := HST.out.trans (insB_at L o (p : Int) 0 (by omega) HG.out (.inl rfl))
         have HP : Hid (OrSt w ((wr.drewN nq).setCell ⟨g2, 0, none⟩ (.int .i64 (p : Int))) mb m g2 c2 (ordL L (m.take (i + 1)))) := by
           show OrSt _ _ _ _ _ _ _
           rw [HNEW.out, ← last_set o 0 (p : Int) y (by omega)]
           exact (HSk.out.drewN nq).put 0 (p : Int)
         have HLN : Hid ((ordL L (m.take (i + 1))).length = o.length + 1) := by show _ = _; rw [HNEW.out]; simp <;> omega
         have cm : (wr.drewN nq).cell? ⟨mb, i, none⟩ = some (.int .i64 (p : Int)) := by have := HSk.out.mc i hlt; rw [HXP.out] at this; exact this
         have fz : (wr.drewN nq).frozen? ⟨g2, 0, none⟩ = false := own_frozen HSk.out.own 0
         have hkl : 0 < (o.take 0 ++ ([y] ++ o.drop 0)).length := by simp <;> omega
         have ck : (wr.drewN nq).cell? ⟨g2, 0, none⟩ = some (.int .i64 ((o.take 0 ++ ([y] ++ o.drop 0)).getD 0 0)) := HSk.out.cell hkl
         generalize (o.take 0 ++ ([y] ++ o.drop 0)).getD 0 0 = yk at ck
         clear hkl HNEW
         generalize wr.drewN nq = V at HP cm fz ck ⊢
         go_wp2
         go_roundw
         case rel => exact ⟨i + 1, g2, c2, by omega, by go_num, by rw [HLN.out], HP⟩
         case measure => simp [intOf]; omega
       · obtain ⟨q, rfl⟩ : ∃ q, k = q + 1 := ⟨k - 1, by omega⟩
         have hq : q < o.length := by omega
         obtain ⟨r, hor, hrl⟩ := HIN.out q (by rw [← HOL.out]; exact hq)
         have co : wr.cell? ⟨g2, q, none⟩ = some (.int .i64 (r : Int)) := by
           have := HSk.out.cell (j := q) (by simp; omega)
           rwa [shift_get o (q + 1) q _ (by omega) hk, hor] at this
         have cm0 : wr.cell? ⟨mb, i, none⟩ = some (.int .i64 (p : Int)) := by have := HSk.out.mc i hlt; rw [HXP.out] at this; exact this
         obtain ⟨ph, pr⟩ := HKN.out wr p HSk.out.bel hp
         obtain ⟨rh, rr⟩ := HKN.out wr r HSk.out.bel hrl
         have HGT : Hid (gtB L (r : Int) (p : Int) = (decide ((at' L p).round < (at' L r).round) || (decide ((at' L r).round = (at' L p).round) && decide ((at' L p).hand < (at' L r).hand)))) := rfl
         have HOR : Hid (o.getD q 0 = (r : Int)) := hor
         have hri : (r : Int) < (L.length : Int) := by omega
         have hk1 : ((q + 1 : Nat) : Int) - 1 = (q : Int) := by omega
         have hq1 : (q : Int) < (o.length : Int) + 1 := by omega
         clear hor hk0
         generalize (at' L p).hand = hp0 at ph HGT
         generalize (at' L p).round = hp1 at pr HGT
         generalize (at' L r).hand = hr0 at rh HGT
         generalize (at' L r).round = hr1 at rr HGT
         by_cases g1 : hp1 < hr1
         · have HGQ : Hid (gtB L (r : Int) (p : Int) = true) := by show _ = _; rw [HGT.out, decide_eq_true g1]; rfl
           have g1b : decide (hp1 < hr1) = true := decide_eq_true g1
           clear HGT
           have HQP : Hid (∀ nq : Nat, OrSt w ((wr.drewN nq).setCell ⟨g2, q + 1, none⟩ (.int .i64 (r : Int))) mb m g2 c2 (o.take q ++ ([(r : Int)] ++ o.drop q))) := fun nq => by
             have := (HSk.out.drewN nq).put (q + 1) (r : Int)
             rwa [← HOR.out, shift_set o q y hk, HOR.out] at this
           have HGP : Hid (∀ j, q ≤ j → j < o.length → gtB L (o.getD j 0) (p : Int) = true) := fun j j1 j2 => by
             by_cases e : j = q
             · subst e; rw [HOR.out]; exact HGQ.out
             · exact HG.out j (by omega) j2
           have fz : wr.frozen? ⟨g2, q + 1, none⟩ = false := own_frozen HSk.out.own (q + 1)
           have hkl : q + 1 < (o.take (q + 1) ++ ([y] ++ o.drop (q + 1))).length := by simp <;> omega
           have ck : wr.cell? ⟨g2, q + 1, none⟩ = some (.int .i64 ((o.take (q + 1) ++ ([y] ++ o.drop (q + 1))).getD (q + 1) 0)) := HSk.out.cell hkl
           generalize (o.take (q + 1) ++ ([y] ++ o.drop (q + 1))).getD (q + 1) 0 = yk at ck
           clear hkl
           go_wp2_with fail
           go_quiet (fail)
           go_wp2
           go_roundw
           case rel => exact ⟨q, (r : Int), by omega, by go_num, HQP.out nq, HGP⟩
           case measure => simp [intOf]
         · have g1b : decide (hp1 < hr1) = false := decide_eq_false g1
           by_cases g2' : hr1 = hp1
           · have g2b : (hr1 == hp1) = true := by simpa using g2'
             by_cases g3 : hp0 < hr0
             · have HGQ : Hid (gtB L (r : Int) (p : Int) = true) := by show _ = _; rw [HGT.out, decide_eq_true g2', decide_eq_true g3]; simp
               have g3b : decide (hp0 < hr0) = true := decide_eq_true g3
               clear HGT g1 g2' g3
               have HQP : Hid (∀ nq : Nat, OrSt w ((wr.drewN nq).setCell ⟨g2, q + 1, none⟩ (.int .i64 (r : Int))) mb m g2 c2 (o.take q ++ ([(r : Int)] ++ o.drop q))) := fun nq => by
                 have := (HSk.out.drewN nq).put (q + 1) (r : Int)
                 rwa [← HOR.out, shift_set o q y hk, HOR.out] at this
               have HGP : Hid (∀ j, q ≤ j → j < o.length → gtB L (o.getD j 0) (p : Int) = true) := fun j j1 j2 => by
                 by_cases e : j = q
                 · subst e; rw [HOR.out]; exact HGQ.out
                 · exact HG.out j (by omega) j2
               have fz : wr.frozen? ⟨g2, q + 1, none⟩ = false := own_frozen HSk.out.own (q + 1)
               have hkl : q + 1 < (o.take (q + 1) ++ ([y] ++ o.drop (q + 1))).length := by simp <;> omega
               have ck : wr.cell? ⟨g2, q + 1, none⟩ = some (.int .i64 ((o.take (q + 1) ++ ([y] ++ o.drop (q + 1))).getD (q + 1) 0)) := HSk.out.cell hkl
               generalize (o.take (q + 1) ++ ([y] ++ o.drop (q + 1))).getD (q + 1) 0 = yk at ck
               clear hkl
               go_wp2_with fail
               go_quiet (fail)
               go_wp2
               go_roundw
               case rel => exact ⟨q, (r : Int), by omega, by go_num, HQP.out nq, HGP⟩
               case measure => simp [intOf]
             · have HGQ : Hid (gtB L (r : Int) (p : Int) = false) := by show _ = _; rw [HGT.out, decide_eq_false g1, decide_eq_false g3]; simp
               have g3b : decide (hp0 < hr0) = false := decide_eq_false g3
               clear HGT g1 g2' g3
               go_wp2_with fail
               go_quiet (fail)
               have HNEW : Hid (ordL L (m.take (i + 1)) = o.take (q + 1) ++ ([(p : Int)] ++ o.drop (q + 1))) := HST.out.trans (insB_at L o (p : Int) (q + 1) (by omega) HG.out (.inr (by show gtB L (o.getD q 0) (p : Int) = false; rw [HOR.out]; exact HGQ.out)))
               have HP : Hid (OrSt w ((wr.drewN nq).setCell ⟨g2, q + 1, none⟩ (.int .i64 (p : Int))) mb m g2 c2 (ordL L (m.take (i + 1)))) := by
                 show OrSt _ _ _ _ _ _ _
                 rw [HNEW.out, ← last_set o (q + 1) (p : Int) y (by omega)]
                 exact (HSk.out.drewN nq).put (q + 1) (p : Int)
               have HLN : Hid ((ordL L (m.take (i + 1))).length = o.length + 1) := by show _ = _; rw [HNEW.out]; simp <;> omega
               have cm : (wr.drewN nq).cell? ⟨mb, i, none⟩ = some (.int .i64 (p : Int)) := by have := HSk.out.mc i hlt; rw [HXP.out] at this; exact this
               have fz : (wr.drewN nq).frozen? ⟨g2, q + 1, none⟩ = false := own_frozen HSk.out.own (q + 1)
               have hkl : q + 1 < (o.take (q + 1) ++ ([y] ++ o.drop (q + 1))).length := by simp <;> omega
               have ck : (wr.drewN nq).cell? ⟨g2, q + 1, none⟩ = some (.int .i64 ((o.take (q + 1) ++ ([y] ++ o.drop (q + 1))).getD (q + 1) 0)) := HSk.out.cell hkl
               generalize (o.take (q + 1) ++ ([y] ++ o.drop (q + 1))).getD (q + 1) 0 = yk at ck
               clear hkl HNEW
               generalize wr.drewN nq = V at HP cm fz ck ⊢
               go_wp2
               go_roundw
               case rel => exact ⟨i + 1, g2, c2, by omega, by go_num, by rw [HLN.out], HP⟩
               case measure => simp [intOf]; omega
           · have g2b : (hr1 == hp1) = false := by simpa using g2'
             have HGQ : Hid (gtB L (r : Int) (p : Int) = false) := by show _ = _; rw [HGT.out, decide_eq_false g1, decide_eq_false g2']; simp
             clear HGT g1 g2'
             go_wp2_with fail
             go_quiet (fail)
             have HNEW : Hid (ordL L (m.take (i + 1)) = o.take (q + 1) ++ ([(p : Int)] ++ o.drop (q + 1))) := HST.out.trans (insB_at L o (p : Int) (q + 1) (by omega) HG.out (.inr (by show gtB L (o.getD q 0) (p : Int) = false; rw [HOR.out]; exact HGQ.out)))
             have HP : Hid (OrSt w ((wr.drewN nq).setCell ⟨g2, q + 1, none⟩ (.int .i64 (p : Int))) mb m g2 c2 (ordL L (m.take (i + 1)))) := by
               show OrSt _ _ _ _ _ _ _
               rw [HNEW.out, ← last_set o (q + 1) (p : Int) y (by omega)]
               exact (HSk.out.drewN nq).put (q + 1) (p : Int)
             have HLN : Hid ((ordL L (m.take (i + 1))).length = o.length + 1) := by show _ = _; rw [HNEW.out]; simp <;> omega
             have cm : (wr.drewN nq).cell? ⟨mb, i, none⟩ = some (.int .i64 (p : Int)) := by have := HSk.out.mc i hlt; rw [HXP.out] at this; exact this
             have fz : (wr.drewN nq).frozen? ⟨g2, q + 1, none⟩ = false := own_frozen HSk.out.own (q + 1)
             have hkl : q + 1 < (o.take (q + 1) ++ ([y] ++ o.drop (q + 1))).length := by simp <;> omega
             have ck : (wr.drewN nq).cell? ⟨g2, q + 1, none⟩ = some (.int .i64 ((o.take (q + 1) ++ ([y] ++ o.drop (q + 1))).getD (q + 1) 0)) := HSk.out.cell hkl
             generalize (o.take (q + 1) ++ ([y] ++ o.drop (q + 1))).getD (q + 1) 0 = yk at ck
             clear hkl HNEW
             generalize wr.drewN nq = V at HP cm fz ck ⊢
             go_wp2
             go_roundw
             case rel => exact ⟨i + 1, g2, c2, by omega, by go_num, by rw [HLN.out], HP⟩
             case measure => simp [intOf]; omega
   · obtain rfl : i = m.length := by omega
     have e : m.take m.length = m := List.take_length
     rw [e] at HS hv
     have HV : Hid (u5 = .slice (some ⟨og, 0, none⟩) (ordL L m).length ocp) := hv
     have HF : Hid (Memb.Own w.heap.size wr (some ⟨og, 0, none⟩) ocp (ordL L m) ∧ Below w.heap.size w wr) := ⟨HS.out.own, HS.out.bel⟩
     clear hv HS e
     go_wp2
     go_ret
     exact ⟨some ⟨og, 0, none⟩, ocp, by rw [HMM.out, ← HV.out]; rfl, by rw [HMM.out]; exact HF.out.1, HF.out.2⟩
end Tl
namespace Tl
open Kn (K okK)
open Bit (bit withB memTo)
open Lc (at' RdK WordsOk laceB setB)
open Sg (isB bel belows NumsPost)
open Nd (nodN nodS)
def baseS (L : List K) (k : Nat) (e : Int) : Int := if 0 ≤ e then bits .andNot .i64 (bel L k) (bel L e.toNat) else bel L k
def frP (L : List K) (k : Nat) (e : Int) : Nat → Int
 | 0 => baseS L k e
 | b + 1 => if bit (frP L k e b) b && !nodN L k b then bits .andNot .i64 (frP L k e b) (2 ^ b) else frP L k e b
theorem base_bd {L : List K} {k : Nat} (hk : k < 60) {e : Int} : 0 ≤ baseS L k e ∧ baseS L k e < 1152921504606846976 := by
 have h1 := Sg.bel_bd L k hk
 unfold baseS
 split
 · exact Sg.andNot_bd' _ _ h1.1 h1.2
 · exact h1
theorem bit_base {L : List K} {k : Nat} (hk : k < 60) {e : Int} (he : e < 60) (j : Nat) : bit (baseS L k e) j = (bit (bel L k) j && !(decide (0 ≤ e) && bit (bel L e.toNat) j)) := by
 have h1 := Sg.bel_bd L k hk
 unfold baseS
 by_cases h0 : 0 ≤ e
 · have h2 := Sg.bel_bd L e.toNat (by omega)
   rw [if_pos h0, Sg.bit_andNot _ _ h1.1 h1.2 h2.1 h2.2, decide_eq_true h0, Bool.true_and]
 · rw [if_neg h0, decide_eq_false h0]; simp
theorem pow_bd {b : Nat} (hb : b < 60) : (0 : Int) ≤ 2 ^ b ∧ (2 : Int) ^ b < 1152921504606846976 := by
 have h1 := Bit.pow_pos' b
 have h2 : (2 : Nat) ^ b < 2 ^ 60 := Nat.pow_lt_pow_right (by decide) hb
 have h3 : ((2 ^ b : Nat) : Int) = (2 : Int) ^ b := by simp
 omega
theorem frP_bits {L : List K} {k : Nat} (hk : k < 60) {e : Int} (b : Nat) (hb : b ≤ 60) : (0 ≤ frP L k e b ∧ frP L k e b < 1152921504606846976) ∧ ∀ j, bit (frP L k e b) j = (bit (baseS L k e) j && (!decide (j < b) || nodN L k j)) := by
 induction b with
 | zero => exact ⟨base_bd hk, fun j => by simp [frP]⟩
 | succ b ih =>
   have ih := ih (by omega)
   have pb := pow_bd (b := b) (by omega)
   unfold frP
   cases hq : (bit (frP L k e b) b && !nodN L k b)
   · rw [if_neg (by simp)]
     refine ⟨ih.1, fun j => ?_⟩
     rw [ih.2 j]
     by_cases ej : j = b
     · subst ej
       rw [ih.2 j] at hq
       cases h1 : bit (baseS L k e) j
       · rfl
       · rw [h1] at hq
         cases h2 : nodN L k j
         · rw [h2] at hq; simp at hq
         · simp
     · have : decide (j < b + 1) = decide (j < b) := by simp; omega
       rw [this]
   · rw [if_pos rfl]
     refine ⟨Sg.andNot_bd' _ _ ih.1.1 ih.1.2, fun j => ?_⟩
     rw [Sg.bit_andNot _ _ ih.1.1 ih.1.2 pb.1 pb.2, Sg.bit_pow, ih.2 j]
     rw [Bool.and_eq_true, Bool.not_eq_true'] at hq
     by_cases ej : j = b
     · subst ej
       rw [hq.2]; simp
     · have : decide (j < b + 1) = decide (j < b) := by simp; omega
       rw [this, decide_eq_false ej]; simp
theorem frP_end {L : List K} (hl : laceB L = true) {k : Nat} (hk : k < L.length) {e : Int} (he : e < (L.length : Int)) : frP L k e L.length = frS L k e L.length := by
 have h60 := ((Lc.lace_iff L).1 hl).1
 have h1 := frP_bits (L := L) (show k < 60 by omega) (e := e) L.length h60
 refine Lc.eq_of_bits _ _ h1.1.1 (frS_bd L k e _ h60).1 fun j => ?_
 rw [h1.2 j, bit_frS L k e _ h60, bit_base (by omega) (by omega)]
 unfold fresN
 by_cases hj : j < L.length
 · rw [decide_eq_true hj]; simp [Bool.and_assoc]
 · have hb : bit (bel L k) j = false := by
     rw [Bool.eq_false_iff]; intro q
     have := Ag.sees_le hl hk q
     omega
   rw [hb]; simp
set_option maxHeartbeats 1600000 in
theorem l11Fresh (bb bc nb nc : Nat) (L : List K) (k : Nat) (e : Int) (w : World) (hl : laceB L = true) (hk : k < L.length) (he0 : -1 ≤ e) (he : e < (L.length : Int)) (hbel : ∀ i, i < L.length → w.cell? ⟨bb, i, none⟩ = some (.int .i64 (bel L i))) (hnod : ∀ i, i < L.length → w.cell? ⟨nb, i, none⟩ = some (.int .i64 (nodS L i L.length))) :
   Calls Tryz.prog 45 #[.slice (some ⟨bb, 0, none⟩) L.length bc, .slice (some ⟨nb, 0, none⟩) L.length nc, .int .i64 (k : Int), .int .i64 e] w fun en w' => en = .returned (.int .i64 (frS L k e L.length)) ∧ w = w' := by
 have h60 := ((Lc.lace_iff L).1 hl).1
 have hki : (k : Int) < (L.length : Int) := by omega
 have ck := hbel k hk
 have HE : Hid (frP L k e L.length = frS L k e L.length) := frP_end hl hk he
 have HNOD : Hid (∀ i, i < L.length → w.cell? ⟨nb, i, none⟩ = some (.int .i64 (nodS L i L.length))) := hnod
 have HFB : Hid (∀ b, b ≤ 60 → 0 ≤ frP L k e b ∧ frP L k e b < 1152921504606846976) := fun b hb => (frP_bits (by omega) b hb).1
 have HST : Hid (∀ b, frP L k e (b + 1) = if bit (frP L k e b) b && !nodN L k b then bits .andNot .i64 (frP L k e b) (2 ^ b) else frP L k e b) := fun b => rfl
 have HB0 : Hid (frP L k e 0 = baseS L k e) := rfl
 clear hnod hl
 by_cases h0 : 0 ≤ e
 · obtain ⟨q, rfl⟩ := Int.eq_ofNat_of_zero_le h0
   have ce := hbel q (by omega)
   have HBQ : Hid (baseS L k (q : Int) = bits .andNot .i64 (bel L k) (bel L q)) := by show _ = _; unfold baseS; rw [if_pos h0, Int.toNat_natCast]
   clear hbel
   generalize bel L k = yk at ck HBQ
   generalize bel L q = yq at ce HBQ
   go_enter Tryz.func45, Tryz.ntmps45
   go_wp2
   go_loop [9, 10] (fun sv iv => ∃ b : Nat, b ≤ L.length ∧ iv = .int .i64 (b : Int) ∧ sv = .int .i64 (frP L k (q : Int) b)) (fun _ iv => L.length - (intOf iv).toNat)
   case atStart => exact ⟨0, by omega, rfl, by rw [HB0.out]; rw [HBQ.out]⟩
   case round =>
     obtain ⟨b, hb, rfl, rfl⟩ := hrel
     by_cases hlt : b < L.length
     · have hbi : (b : Int) < (L.length : Int) := by omega
       have hfb := HFB.out b (by omega)
       have HS := HST.out b
       have cn := HNOD.out b hlt
       have hnb := Nd.nodS_bd L b L.length h60
       have hc1 : ∀ W : World, Calls Tryz.prog 48 #[.int .i64 (frP L k (q : Int) b), .int .i64 (b : Int)] W fun en w' => en = .returned (.bool (bit (frP L k (q : Int) b) b)) ∧ W = w' := fun W => (Db.has_call _ b _ hfb.1 hfb.2 (by omega) rfl W).mono fun _ _ q => ⟨q.1, q.2.symm⟩
       have hc2 : ∀ W : World, Calls Tryz.prog 48 #[.int .i64 (nodS L b L.length), .int .i64 (k : Int)] W fun en w' => en = .returned (.bool (nodN L k b)) ∧ W = w' := fun W => (Db.has_call _ k _ hnb.1 hnb.2 (by omega) (by rw [Nd.bit_nodS L b _ h60, decide_eq_true hk]; rfl) W).mono fun _ _ q => ⟨q.1, q.2.symm⟩
       have HSS : Hid (frP L k (q : Int) (b + 1) = if bit (frP L k (q : Int) b) b && !nodN L k b then bits .andNot .i64 (frP L k (q : Int) b) (2 ^ b) else frP L k (q : Int) b) := HS
       clear HS hnb
       generalize bit (frP L k (q : Int) b) b = b1 at hc1 HSS
       generalize nodN L k b = b2 at hc2 HSS
       generalize frP L k (q : Int) b = fp at hc1 HSS hfb ⊢
       generalize nodS L b L.length = nv at cn hc2
       cases b1
       · have HD : Hid (frP L k (q : Int) (b + 1) = fp) := by show _ = _; rw [HSS.out]; rfl
         clear HSS hc2
         go_wp2_with (go_at_call 48; refine (hc1 _).mono ?_; rintro e' w' ⟨rfl, rfl⟩)
         go_round
         case rel => exact ⟨b + 1, by omega, by go_num, by rw [HD.out]⟩
         case measure => simp [intOf]; omega
       · go_wp2_with fail
         refine (hc1 _).mono ?_
         rintro e' w' ⟨rfl, rfl⟩
         go_wp2_with fail
         refine (hc2 _).mono ?_
         rintro e' w' ⟨rfl, rfl⟩
         cases b2
         · have HD : Hid (frP L k (q : Int) (b + 1) = bits .andNot .i64 fp (2 ^ b)) := by show _ = _; rw [HSS.out]; rfl
           clear HSS hc1 hc2
           go_wp2_with (go_at_call 49; refine (Base.l1Bit _ _ (by omega) (by omega)).mono ?_; rintro e' w' ⟨rfl, rfl⟩; rw [Int.toNat_natCast])
           go_round
           case rel => exact ⟨b + 1, by omega, by go_num, by rw [HD.out]⟩
           case measure => simp [intOf]; omega
         · have HD : Hid (frP L k (q : Int) (b + 1) = fp) := by show _ = _; rw [HSS.out]; rfl
           clear HSS hc1 hc2
           go_wp2
           go_round
           case rel => exact ⟨b + 1, by omega, by go_num, by rw [HD.out]⟩
           case measure => simp [intOf]; omega
     · obtain rfl : b = L.length := by omega
       rw [HE.out]
       go_wp2
       go_ret
       exact ⟨rfl, rfl⟩
 · have h0' : ¬ (0 : Int) ≤ e := h0
   have HBQ : Hid (baseS L k e = bel L k) := by show _ = _; unfold baseS; rw [if_neg h0]
   clear hbel h0
   generalize bel L k = yk at ck HBQ
   go_enter Tryz.func45, Tryz.ntmps45
   go_wp2
   go_loop [9, 10] (fun sv iv => ∃ b : Nat, b ≤ L.length ∧ iv = .int .i64 (b : Int) ∧ sv = .int .i64 (frP L k e b)) (fun _ iv => L.length - (intOf iv).toNat)
   case atStart => exact ⟨0, by omega, rfl, by rw [HB0.out]; rw [HBQ.out]⟩
   case round =>
     obtain ⟨b, hb, rfl, rfl⟩ := hrel
     by_cases hlt : b < L.length
     · have hbi : (b : Int) < (L.length : Int) := by omega
       have hfb := HFB.out b (by omega)
       have HS := HST.out b
       have cn := HNOD.out b hlt
       have hnb := Nd.nodS_bd L b L.length h60
       have hc1 : ∀ W : World, Calls Tryz.prog 48 #[.int .i64 (frP L k e b), .int .i64 (b : Int)] W fun en w' => en = .returned (.bool (bit (frP L k e b) b)) ∧ W = w' := fun W => (Db.has_call _ b _ hfb.1 hfb.2 (by omega) rfl W).mono fun _ _ q => ⟨q.1, q.2.symm⟩
       have hc2 : ∀ W : World, Calls Tryz.prog 48 #[.int .i64 (nodS L b L.length), .int .i64 (k : Int)] W fun en w' => en = .returned (.bool (nodN L k b)) ∧ W = w' := fun W => (Db.has_call _ k _ hnb.1 hnb.2 (by omega) (by rw [Nd.bit_nodS L b _ h60, decide_eq_true hk]; rfl) W).mono fun _ _ q => ⟨q.1, q.2.symm⟩
       have HSS : Hid (frP L k e (b + 1) = if bit (frP L k e b) b && !nodN L k b then bits .andNot .i64 (frP L k e b) (2 ^ b) else frP L k e b) := HS
       clear HS hnb
       generalize bit (frP L k e b) b = b1 at hc1 HSS
       generalize nodN L k b = b2 at hc2 HSS
       generalize frP L k e b = fp at hc1 HSS hfb ⊢
       generalize nodS L b L.length = nv at cn hc2
       cases b1
       · have HD : Hid (frP L k e (b + 1) = fp) := by show _ = _; rw [HSS.out]; rfl
         clear HSS hc2
         go_wp2_with (go_at_call 48; refine (hc1 _).mono ?_; rintro e' w' ⟨rfl, rfl⟩)
         go_round
         case rel => exact ⟨b + 1, by omega, by go_num, by rw [HD.out]⟩
         case measure => simp [intOf]; omega
       · go_wp2_with fail
         refine (hc1 _).mono ?_
         rintro e' w' ⟨rfl, rfl⟩
         go_wp2_with fail
         refine (hc2 _).mono ?_
         rintro e' w' ⟨rfl, rfl⟩
         cases b2
         · have HD : Hid (frP L k e (b + 1) = bits .andNot .i64 fp (2 ^ b)) := by show _ = _; rw [HSS.out]; rfl
           clear HSS hc1 hc2
           go_wp2_with (go_at_call 49; refine (Base.l1Bit _ _ (by omega) (by omega)).mono ?_; rintro e' w' ⟨rfl, rfl⟩; rw [Int.toNat_natCast])
           go_round
           case rel => exact ⟨b + 1, by omega, by go_num, by rw [HD.out]⟩
           case measure => simp [intOf]; omega
         · have HD : Hid (frP L k e (b + 1) = fp) := by show _ = _; rw [HSS.out]; rfl
           clear HSS hc1 hc2
           go_wp2
           go_round
           case rel => exact ⟨b + 1, by omega, by go_num, by rw [HD.out]⟩
           case measure => simp [intOf]; omega
     · obtain rfl : b = L.length := by omega
       rw [HE.out]
       go_wp2
       go_ret
       exact ⟨rfl, rfl⟩
theorem frS_in {L : List K} (h60 : L.length ≤ 60) (k : Nat) (e : Int) : ∀ i, bit (frS L k e L.length) i = true → i < L.length := fun i hi => by
 rw [bit_frS L k e _ h60, Bool.and_eq_true, decide_eq_true_eq] at hi
 exact hi.1
def orderedI (L : List K) (s : Int) : List Int := if setB L s then ordL L (memTo s 60) else []
set_option maxHeartbeats 1600000 in
theorem specOrdered (g off cap : Nat) (L : List K) (s : Int) (w : World) (hcap : L.length ≤ cap) (hw : WordsOk L) (hr : RdK w (some ⟨g, off, none⟩) L) :
   Calls Tryz.prog 81 #[.slice (some ⟨g, off, none⟩) L.length cap, .int .i64 s] w (NumsPost (orderedI L s) w) := by
 go_enter Tryz.func81, Tryz.ntmps81
 go_wp2_with fail
 refine (Lc.l3Set g off cap L s _ hcap hw hr).mono ?_
 rintro e w1 ⟨rfl, hb1⟩
 cases his : setB L s
 · have HT : Hid (orderedI L s = []) := by show _ = _; unfold orderedI; rw [his]; rfl
   have HP : Hid _ := Ch.nums_nil hb1
   clear his
   go_wp2
   go_ret
   rw [HT.out]
   exact ⟨some ⟨w1.heap.size, 0, none⟩, 0, rfl, HP.out.1, HP.out.2⟩
 · have HT : Hid (orderedI L s = ordL L (memTo s 60)) := by show _ = _; unfold orderedI; rw [his]; rfl
   obtain ⟨hl, q0, q1, qd, _, _⟩ := Lc.setB_parts his
   have ho := l11Order g off cap L s w1 hl (hr.below hb1) q0 q1 (fun i hi => by
     apply Classical.byContradiction
     intro hn
     rw [Lc.bit_hi s L.length q0 qd i (by omega)] at hi
     exact Bool.noConfusion hi)
   clear his hl qd hr
   go_wp2_with fail
   refine ho.mono ?_
   rintro e w2 ⟨ro, rc, rfl, hown, hb2⟩
   have HP : Hid (Memb.Own w.heap.size w2 ro rc (ordL L (memTo s 60)) ∧ Below w.heap.size w w2) := ⟨Ch.own_base hown hb1.size, hb1.trans (hb2.mono hb1.size)⟩
   clear ho hown hb2 hb1
   go_wp2
   go_ret
   rw [HT.out]
   exact ⟨ro, rc, rfl, HP.out.1, HP.out.2⟩
structure TabsN (w : World) (L : List K) (bb nb : Nat) : Prop where
 bel : ∀ i, i < L.length → w.cell? ⟨bb, i, none⟩ = some (.int .i64 (Sg.bel L i))
 nod : ∀ i, i < L.length → w.cell? ⟨nb, i, none⟩ = some (.int .i64 (nodS L i L.length))
 lb : bb < w.heap.size
 ln : nb < w.heap.size
theorem TabsN.below {w w' : World} {L : List K} {bb nb : Nat} (t : TabsN w L bb nb) (hb : Below w.heap.size w w') : TabsN w' L bb nb :=
 ⟨fun i hi => (hb.cell (p := ⟨bb, i, none⟩) t.lb).trans (t.bel i hi), fun i hi => (hb.cell (p := ⟨nb, i, none⟩) t.ln).trans (t.nod i hi), Nat.lt_of_lt_of_le t.lb hb.size, Nat.lt_of_lt_of_le t.ln hb.size⟩
structure TabB (w : World) (L : List K) (bb : Nat) : Prop where
 bel : ∀ i, i < L.length → w.cell? ⟨bb, i, none⟩ = some (.int .i64 (Sg.bel L i))
 lb : bb < w.heap.size
theorem TabB.below {w w' : World} {L : List K} {bb : Nat} (t : TabB w L bb) (hb : Below w.heap.size w w') : TabB w' L bb := ⟨fun i hi => (hb.cell (p := ⟨bb, i, none⟩) t.lb).trans (t.bel i hi), Nat.lt_of_lt_of_le t.lb hb.size⟩
theorem TabB.rd {w : World} {L : List K} {bb : Nat} (t : TabB w L bb) : Lst.Rd w (some ⟨bb, 0, none⟩) (belows L L.length) := .inr ⟨bb, rfl, fun j hj => by
 rw [Sg.belows_len] at hj
 rw [Sg.belows_get L L.length j hj]; exact t.bel j hj⟩
theorem allB (g off cap : Nat) (L : List K) (w : World) (hl : laceB L = true) (hN : 0 < L.length) (hr : RdK w (some ⟨g, off, none⟩) L) :
   Calls Tryz.prog 39 #[.slice (some ⟨g, off, none⟩) L.length cap] w fun e w' => ∃ bb bc, e = .returned (.slice (some ⟨bb, 0, none⟩) L.length bc) ∧ TabB w' L bb ∧ Below w.heap.size w w' := by
 have h60 := ((Lc.lace_iff L).1 hl).1
 refine (Sg.l4All (some ⟨g, off, none⟩) cap L w h60 (Sg.frm_lace hl) hr).mono ?_
 rintro e w1 ⟨bo, bc, rfl, hown, hb1⟩
 have hbl := Sg.belows_len L L.length
 rcases Lst.own_rd hown with e | ⟨bb, e, hcell⟩
 · rw [e] at hbl; simp at hbl; omega
 · subst e
   refine ⟨bb, bc, by rw [hbl], ⟨fun i hi => ?_, (World.ownsRow.lt hown bb rfl).2⟩, hb1⟩
   have := hcell i (by rw [hbl]; exact hi)
   rwa [Sg.belows_get L L.length i hi] at this
theorem allN (g off cap : Nat) (L : List K) (bb bc : Nat) (w : World) (hl : laceB L = true) (hr : RdK w (some ⟨g, off, none⟩) L) (ht : TabB w L bb) :
   Calls Tryz.prog 46 #[.slice (some ⟨g, off, none⟩) L.length cap, .slice (some ⟨bb, 0, none⟩) L.length bc] w fun e w' => ∃ nb, e = .returned (.slice (some ⟨nb, 0, none⟩) L.length L.length) ∧ w.heap.size ≤ nb ∧ TabsN w' L bb nb ∧ Below w.heap.size w w' := by
 have h60 := ((Lc.lace_iff L).1 hl).1
 have hbl := Sg.belows_len L L.length
 have h6 := Nd.l6All (some ⟨g, off, none⟩) cap L (some ⟨bb, 0, none⟩) bc (belows L L.length) w h60 hbl (Sg.belows_in L L.length h60) hr ht.rd (fun c e => by injection e with e; injection e with e; subst e; exact ht.lb)
 rw [hbl] at h6
 refine h6.mono ?_
 rintro e w2 ⟨h, D, O, rfl, hge, hrow, hD, hO, hb2⟩
 exact ⟨h, rfl, hge, ⟨(ht.below hb2).bel, fun i hi => by rw [← Nd.nodR_eq hl hD hi _ (Nat.le_refl _), ← hO i hi]; exact hrow.rd i hi, (ht.below hb2).lb, hrow.lt⟩, hb2⟩
structure TabsF (w : World) (L : List K) (bb h : Nat) : Prop extends Ch.TabsL w L bb h where
 fr : ∀ i, i < L.length → w.frozen? ⟨h, i, none⟩ = false
theorem allS (g off cap : Nat) (L : List K) (bb bc : Nat) (w : World) (hl : laceB L = true) (hr : RdK w (some ⟨g, off, none⟩) L) (ht : TabB w L bb) :
   Calls Tryz.prog 42 #[.slice (some ⟨g, off, none⟩) L.length cap, .slice (some ⟨bb, 0, none⟩) L.length bc] w fun e w' => ∃ h, e = .returned (.slice (some ⟨h, 0, none⟩) L.length L.length) ∧ TabsF w' L bb h ∧ Below w.heap.size w w' := by
 refine (Sl.l7All g off cap L (some ⟨bb, 0, none⟩) bc w hl hr ht.rd (fun g' e => by injection e with e; injection e with e; subst e; exact ht.lb)).mono ?_
 rintro e w2 ⟨h, O, rfl, _, hrow, hO, hb2⟩
 exact ⟨h, rfl, ⟨⟨(ht.below hb2).bel, fun i hi => by rw [← hO i hi]; exact hrow.rd i hi, (ht.below hb2).lb, hrow.lt⟩, hrow.fr⟩, hb2⟩
theorem chF_mem (L : List K) (C : List Int) : ∀ (f : Nat) (k x : Int), x ∈ Ch.chF L C f k → 0 ≤ x ∧ x ≤ k := by
 intro f
 induction f with
 | zero => intro k x h; simp [Ch.chF] at h
 | succ f ih =>
   intro k x h
   unfold Ch.chF at h
   by_cases hk : k < 0
   · rw [if_pos hk] at h; simp at h
   · rw [if_neg hk, List.mem_append] at h
     have hlt := Ch.earlier_lt L C k.toNat
     rcases h with h | h
     · have := ih _ _ h; omega
     · have : x = k := by simpa using h
       omega
theorem taleF_snoc (L : List K) : ∀ (l : List Int) (c e : Int), taleF L e (l ++ [c]) = taleF L e l ++ freshL L c (l.getLastD e) := by
 intro l
 induction l with
 | nil => intro c e; simp [taleF]
 | cons x l ih =>
   intro c e
   show freshL L x e ++ taleF L x (l ++ [c]) = (freshL L x e ++ taleF L x l) ++ freshL L c ((x :: l).getLastD e)
   rw [ih c x, List.getLastD_cons, List.append_assoc]
theorem fresh_len (L : List K) (k e : Int) : (freshL L k e).length ≤ 60 := by
 unfold freshL
 rw [ord_len]; exact Bit.memTo_le _ 60
structure TlSt (w w3 wr : World) (og0 og cp : Nat) (l : List Int) : Prop where
 own : wr.ownsRow w.heap.size 2 1 (.slice (some ⟨og, 0, none⟩) l.length cp) l.length (l.map (Value.int .i64))
 bel : Below w.heap.size w wr
 gr : w3.grownBy wr (some og0)
 at' : og = og0 ∨ w3.heap.size ≤ og
theorem TlSt.below {w w3 wr w' : World} {og0 og cp : Nat} {l : List Int} (s : TlSt w w3 wr og0 og cp l) (hb : Below wr.heap.size wr w') : TlSt w w3 w' og0 og cp l :=
 ⟨Fm.row_below s.own hb, s.bel.trans (hb.mono s.bel.size), World.grownBy.trans s.gr ⟨hb.os, hb.tape, hb.output, hb.size, fun i hi _ => hb.block i hi⟩, s.at'⟩
theorem TlSt.app {w w3 wr w1 : World} {og0 og cp : Nat} {l ns : List Int} {v' : Value} (s : TlSt w w3 wr og0 og cp l) (ho : w1.ownsRow w.heap.size 2 1 v' (l.length + ns.length) (l.map (Value.int .i64) ++ ns.map (Value.int .i64))) (hg : wr.grownBy w1 (some og)) (hn : ¬ v' = .slice none 0 0) (ha : v'.ownBlock = some og ∨ v'.ownBlock = some wr.heap.size) : ∃ g2 c2, v' = .slice (some ⟨g2, 0, none⟩) (l.length + ns.length) c2 ∧ TlSt w w3 w1 og0 g2 c2 (l ++ ns) := by
 have ho' := ho
 obtain ⟨_, ⟨hx, _⟩ | ⟨g2, c2, cur, hx, _⟩⟩ := ho'
 · exact absurd hx hn
 · subst hx
   have hlt := World.ownsRow.lt s.own og rfl
   refine ⟨g2, c2, rfl, by simpa using ho, s.bel.grown hg s.bel.size (fun k hk => by cases hk; exact hlt.1), ⟨hg.os.trans s.gr.os, hg.tape.trans s.gr.tape, hg.output.trans s.gr.output, Nat.le_trans s.gr.size hg.size, fun j hj hne => ?_⟩, ?_⟩
   · have h1 := s.gr.block j hj hne
     refine (hg.block j (Nat.lt_of_lt_of_le hj s.gr.size) (fun e => ?_)).trans h1
     injection e with e
     subst e
     rcases s.at' with q | q
     · exact hne (by rw [q])
     · omega
   · simp [Value.ownBlock] at ha
     rcases ha with e | e
     · subst e; exact s.at'
     · exact .inr (by have := s.gr.size; omega)
set_option maxHeartbeats 6400000 in
theorem l12Tale (g off cap : Nat) (L : List K) (ao : Option Addr) (cc : Nat) (C : List Int) (bb bc : Nat) (k : Nat) (w : World) (hl : laceB L = true) (hg : g < w.heap.size) (hr : RdK w (some ⟨g, off, none⟩) L) (hrd : Lst.Rd w ao C) (hao : ∀ c, ao = some ⟨c, 0, none⟩ → c < w.heap.size) (ht : TabB w L bb) (hk : k < L.length) :
   Calls Tryz.prog 38 #[.slice (some ⟨g, off, none⟩) L.length cap, .slice ao C.length cc, .slice (some ⟨bb, 0, none⟩) L.length bc, .int .i64 (k : Int)] w (NumsPost (taleL L C (k : Int)) w) := by
 obtain ⟨i0, hi, hz0, hz1, hz2⟩ := info_parts Memb.info2
 have h60 := ((Lc.lace_iff L).1 hl).1
 have HLC : Hid (laceB L = true) := hl
 have HR : Hid (∀ W : World, Below w.heap.size w W → RdK W (some ⟨g, off, none⟩) L) := fun W hW => hr.below hW
 have HT : Hid (∀ W : World, Below w.heap.size w W → TabB W L bb) := fun W hW => ht.below hW
 have HRD : Hid (∀ W : World, Below w.heap.size w W → Lst.Rd W ao C ∧ ∀ c, ao = some ⟨c, 0, none⟩ → c < W.heap.size) := fun W hW => ⟨Ch.rd_below hrd hao hW, fun c e => Nat.lt_of_lt_of_le (hao c e) hW.size⟩
 have HB0 : Hid (Below w.heap.size w (w.alloc (.cells #[] 2))) := (Below.refl _ _).alloc (Nat.le_refl _) _
 have HE0 : Hid ((w.alloc (.cells #[] 2)).ownsRow w.heap.size 2 1 (.slice (some ⟨w.heap.size, 0, none⟩) 0 0) 0 []) := Memb.own_empty w
 have hsz0 : w.heap.size < (w.alloc (.cells #[] 2)).heap.size := by simp
 clear hl hr hrd hao ht
 go_enter Tryz.func38, Tryz.ntmps38
 go_wp2_with fail
 generalize w.alloc (.cells #[] 2) = w0 at HB0 HE0 hsz0 ⊢
 refine (allN g off cap L bb bc w0 HLC.out (HR.out w0 HB0.out) (HT.out w0 HB0.out)).mono ?_
 rintro en w1 ⟨nb, rfl, hnb1, hT1, hb1⟩
 have HB1 : Hid (Below w.heap.size w w1) := HB0.out.trans (hb1.mono HB0.out.size)
 have HE1 : Hid (w1.ownsRow w.heap.size 2 1 (.slice (some ⟨w.heap.size, 0, none⟩) 0 0) 0 []) := Fm.row_below HE0.out hb1
 have hw01 := hb1.size
 have hn0 : nb ≠ w.heap.size := by omega
 clear hb1 HB0 HE0 hnb1
 go_wp2_with fail
 refine (allS g off cap L bb bc w1 HLC.out (HR.out w1 HB1.out) (HT.out w1 HB1.out)).mono ?_
 rintro en w2 ⟨h, rfl, hT2, hb2⟩
 have HB2 : Hid (Below w.heap.size w w2) := HB1.out.trans (hb2.mono HB1.out.size)
 have HE2 : Hid (w2.ownsRow w.heap.size 2 1 (.slice (some ⟨w.heap.size, 0, none⟩) 0 0) 0 []) := Fm.row_below HE1.out hb2
 have HN2 : Hid (TabsN w2 L bb nb) := hT1.below hb2
 have hw12 := hb2.size
 have hch := Ch.l10Chain g off cap L ao cc C bb bc h L.length k w2 HLC.out (Nat.lt_of_lt_of_le hg HB2.out.size) (HR.out w2 HB2.out) (HRD.out w2 HB2.out).1 (HRD.out w2 HB2.out).2 hT2.toTabsL hk
 clear hb2 HB1 HE1 hT1 hT2
 go_wp2_with fail
 refine hch.mono ?_
 rintro en w3 ⟨co, ccp, rfl, hoc, hb3⟩
 have HS3 : Hid (TlSt w w3 w3 w.heap.size w.heap.size 0 []) := ⟨Fm.row_below HE2.out hb3, HB2.out.trans (hb3.mono HB2.out.size), World.grownBy.refl _ _, .inl rfl⟩
 have HN3 : Hid (TabsN w3 L bb nb) := HN2.out.below hb3
 have hcl := Ch.chain_len L C (k : Int)
 have HCM : Hid (∀ x ∈ Ch.chainL L C (k : Int), 0 ≤ x ∧ x < (L.length : Int)) := fun x hx => by
   have := chF_mem L C _ _ _ hx
   omega
 have HTL : Hid (taleL L C (k : Int) = taleF L (-1) (Ch.chainL L C (k : Int))) := rfl
 have hcl2 : (Ch.chainL L C (k : Int)).length ≤ 60 := by omega
 have HCO : Hid (Ch.chainL L C (k : Int) = [] ∨ ∃ cb, co = some ⟨cb, 0, none⟩ ∧ cb ≠ w.heap.size ∧ cb < w3.heap.size ∧ ∀ j, j < (Ch.chainL L C (k : Int)).length → w3.cell? ⟨cb, j, none⟩ = some (.int .i64 ((Ch.chainL L C (k : Int)).getD j 0))) := by
   rcases Lst.own_rd hoc with e | ⟨cb, e, hc⟩
   · exact .inl e
   · subst e
     have := World.ownsRow.lt hoc cb rfl
     exact .inr ⟨cb, rfl, by omega, this.2, hc⟩
 clear hoc hb3 HB2 HE2 HN2 hch hcl
 generalize Ch.chainL L C (k : Int) = ch at HCM HTL hcl2 HCO ⊢
 go_wp2
 go_loopw [9, 11, 13] (fun v ev iv wr => ∃ (i og cp : Nat), i ≤ ch.length ∧ iv = .int .i64 (i : Int) ∧ ev = .int .i64 ((ch.take i).getLastD (-1)) ∧ v = .slice (some ⟨og, 0, none⟩) (taleF L (-1) (ch.take i)).length cp ∧ (taleF L (-1) (ch.take i)).length ≤ 60 * i ∧ Hid (TlSt w w3 wr w.heap.size og cp (taleF L (-1) (ch.take i)))) (fun _ _ iv _ => ch.length - (intOf iv).toNat)
 case atStart => exact ⟨0, w.heap.size, 0, by omega, rfl, rfl, rfl, by simp [taleF], HS3⟩
 case round =>
   obtain ⟨i, og, cp, hil, rfl, hev, hv, hln, HS⟩ := hrel
   clear HS3
   by_cases hlt : i < ch.length
   · subst hv hev
     have hii : (i : Int) < (ch.length : Int) := by omega
     rcases HCO.out with e | ⟨cb, rfl, hcb0, hcb3, hcc⟩
     · rw [e] at hlt; simp at hlt
     have HST : Hid (taleF L (-1) (ch.take (i + 1)) = taleF L (-1) (ch.take i) ++ freshL L (ch.getD i 0) ((ch.take i).getLastD (-1))) := by
       show _ = _; rw [Lc.take_snocI ch i hlt, taleF_snoc]
     have HLST : Hid ((ch.take (i + 1)).getLastD (-1) = ch.getD i 0) := by
       show _ = _; rw [Lc.take_snocI ch i hlt]; simp
     have hmem := HCM.out (ch.getD i 0) (by simp [List.getD, List.getElem?_eq_getElem hlt])
     have hlast : -1 ≤ (ch.take i).getLastD (-1) ∧ (ch.take i).getLastD (-1) < (L.length : Int) := by
       rcases hh : (ch.take i) with _ | ⟨y, ys⟩
       · simp; omega
       · have hm : (y :: ys).getLastD (-1) ∈ ch.take i := by rw [hh, List.getLastD_eq_getLast?, List.getLast?_eq_some_getLast (by simp)]; simp
         have := HCM.out _ (List.mem_of_mem_take hm)
         omega
     have cj := World.grownBy.cell HS.out.gr (hcc i hlt) (by intro q; injection q with q; exact hcb0 q)
     have HTN : Hid (TabsN wr L bb nb) := ⟨(HT.out wr HS.out.bel).bel, fun j hj => World.grownBy.cell HS.out.gr (HN3.out.nod j hj) (by intro q; injection q with q; exact hn0 q), (HT.out wr HS.out.bel).lb, Nat.lt_of_lt_of_le HN3.out.ln HS.out.gr.size⟩
     have hfl60 := fresh_len L (ch.getD i 0) ((ch.take i).getLastD (-1))
     generalize taleF L (-1) (ch.take i) = tl at HST HS hln ⊢
     have HFD : Hid (freshL L (ch.getD i 0) ((ch.take i).getLastD (-1)) = ordL L (memTo (frS L (ch.getD i 0).toNat ((ch.take i).getLastD (-1)) L.length) 60)) := rfl
     generalize (ch.take i).getLastD (-1) = el at HST hlast HFD hfl60 ⊢
     generalize ch.getD i 0 = cx at HST HLST hmem cj HFD hfl60
     obtain ⟨q, rfl⟩ := Int.eq_ofNat_of_zero_le hmem.1
     rw [Int.toNat_natCast] at HFD
     have hfr := l11Fresh bb bc nb L.length L q el wr HLC.out (by omega) hlast.1 hlast.2 HTN.out.bel HTN.out.nod
     have hfb := frS_bd L q el L.length h60
     have hor := l11Order g off cap L (frS L q el L.length) wr HLC.out (HR.out wr HS.out.bel) hfb.1 hfb.2 (frS_in h60 q el)
     rw [← HFD.out] at hor
     clear hcc HFD hfb HTN
     generalize frS L q el L.length = fr at hfr hor
     generalize freshL L (q : Int) el = fl at HST hor hfl60
     go_wp2_with fail
     refine hfr.mono ?_
     rintro en w5 ⟨rfl, rfl⟩
     clear hfr
     go_wp2_with fail
     refine hor.mono ?_
     rintro en w6 ⟨fo, fc, rfl, hof, hb6⟩
     have HS6 : Hid (TlSt w w3 w6 w.heap.size og cp tl) := HS.out.below hb6
     have cj6 := (hb6.cell (p := ⟨cb, i, none⟩) (Nat.lt_of_lt_of_le hcb3 HS.out.gr.size)).trans cj
     have hcb6 : cb < w6.heap.size := Nat.lt_of_lt_of_le (Nat.lt_of_lt_of_le hcb3 HS.out.gr.size) hb6.size
     have hogw := World.ownsRow.lt HS.out.own og rfl
     have hcog : cb ≠ og := by
       rcases HS.out.at' with q1 | q1
       · rw [q1]; exact hcb0
       · omega
     have HLN2 : Hid ((taleF L (-1) (ch.take (i + 1))).length ≤ 60 * (i + 1)) := by show _ ≤ _; rw [HST.out]; simp; omega
     have hwsz6 : w.heap.size ≤ w6.heap.size := HS6.out.bel.size
     clear hor hb6 cj HS
     cases fo with
     | none =>
       obtain ⟨_, ⟨hq, hq2⟩ | ⟨fb, fcap, cur, hq, _⟩⟩ := hof
       · injection hq with _ _ hq3
         subst hq3
         have hfn : fl = [] := List.eq_nil_of_length_eq_zero hq2
         subst hfn
         have HST2 : Hid (taleF L (-1) (ch.take (i + 1)) = tl) := by show _ = _; rw [HST.out, List.append_nil]
         have HSN : Hid (TlSt w w3 w6 w.heap.size og cp (taleF L (-1) (ch.take (i + 1)))) := by show TlSt _ _ _ _ _ _ _; rw [HST2.out]; exact HS6.out
         clear HST hq2
         go_wp2_with (first | (at_builtin; refine wpList_append_own_none rfl _ _ 25 rfl w.heap.size 2 i0 1 Tryz.underlying25 hi (.slice (some ⟨og, 0, none⟩) tl.length cp) tl.length (tl.map (Value.int .i64)) (by first | rfl | simp [Act.eval]) HS6.out.own (by first | rfl | simp [Act.eval]) ?_) | fail)
         go_wp2
         go_roundw
         case rel => exact ⟨i + 1, og, cp, by omega, by go_num, by rw [HLST.out], by rw [HST2.out], HLN2.out, HSN⟩
         case measure => simp [intOf]; omega
       · injection hq with hq _ _
         exact absurd hq (by simp)
     | some fa =>
       obtain ⟨fb, hfa, hfcell, hfb6⟩ : ∃ fb, fa = ⟨fb, 0, none⟩ ∧ (∀ j, j < fl.length → w6.cell? ⟨fb, j, none⟩ = some (.int .i64 (fl.getD j 0))) ∧ fb < w6.heap.size := by
         have hrdf := Lst.own_rd hof
         have hltf := World.ownsRow.lt hof fa.block rfl
         obtain ⟨_, ⟨hq, _⟩ | ⟨fb, fcap, cur, hq, _⟩⟩ := hof
         · injection hq with hq _ _
           exact absurd hq (by simp)
         · injection hq with hq _ _
           injection hq with hq
           subst hq
           refine ⟨fb, rfl, fun j hj => ?_, hltf.2⟩
           rcases hrdf with e | ⟨g5, e, hc5⟩
           · rw [e] at hj; simp at hj
           · injection e with e; injection e with e; subst e; exact hc5 j hj
       subst hfa
       have HNEW : Hid (∀ (j : Nat) u, (fl.map (Value.int .i64))[j]? = some u → w6.cell? ((⟨fb, 0, none⟩ : Addr).add j) = some u) := fun j u hu => by
         rw [List.getElem?_map] at hu
         rcases hj : fl[j]? with _ | y
         · rw [hj] at hu; simp at hu
         · rw [hj] at hu
           simp at hu
           subst hu
           have hjl : j < fl.length := (List.getElem?_eq_some_iff.1 hj).1
           have := hfcell j hjl
           rw [show fl.getD j 0 = y by simp [List.getD, hj]] at this
           rw [show (⟨fb, 0, none⟩ : Addr).add j = ⟨fb, j, none⟩ by simp [Addr.add]; intro e; exact e.symm]
           exact this
       have HONE : Hid (∀ u ∈ fl.map (Value.int .i64), u.oneCell' = true) := fun u hu => by
         obtain ⟨y, _, rfl⟩ := List.mem_map.1 hu; rfl
       clear hof hfcell
       go_wp2_with (first | (at_builtin; refine wpList_append_own_at _ rfl _ _ 25 rfl w.heap.size 2 i0 (.int .i64 0) 1 8 Tryz.underlying25 hi hz0 hz1 hz2 rfl (by decide) (.slice (some ⟨og, 0, none⟩) tl.length cp) tl.length (tl.map (Value.int .i64)) (by first | rfl | simp [Act.eval]) HS6.out.own ⟨fb, 0, none⟩ fl.length fc (fl.map (Value.int .i64)) (by first | rfl | simp [Act.eval]) (by simp) HNEW.out HONE.out ?c3 ?c4 ?c5 ?_) | fail)
       case c3 => unfold maxLen; omega
       case c4 => omega
       case c5 => exact hwsz6
       intro v' w7 hown' hgrow hnil hat
       obtain ⟨g2, c2, rfl, hS7⟩ := HS6.out.app hown' hgrow (by first | exact hnil | exact fun e => by have := hnil.1 e; simp at this) (by simpa [Value.ownBlock] using hat)
       have cj7 := World.grownBy.cell hgrow cj6 (by intro q1; injection q1 with q1; exact hcog q1)
       have HSN : Hid (TlSt w w3 w7 w.heap.size g2 c2 (taleF L (-1) (ch.take (i + 1)))) := by show TlSt _ _ _ _ _ _ _; rw [HST.out]; exact hS7
       have HLE : Hid ((taleF L (-1) (ch.take (i + 1))).length = tl.length + fl.length) := by show _ = _; rw [HST.out]; simp
       clear hown' hgrow hnil hat HS6 HNEW HONE hS7 cj6 HST
       go_wp2
       go_roundw
       case rel => exact ⟨i + 1, g2, c2, by omega, by go_num, by rw [HLST.out], by rw [HLE.out], HLN2.out, HSN⟩
       case measure => simp [intOf]; omega
   · obtain rfl : i = ch.length := by omega
     have e : ch.take ch.length = ch := List.take_length
     rw [e] at HS hv
     have HV : Hid (u9 = .slice (some ⟨og, 0, none⟩) (taleF L (-1) ch).length cp) := hv
     have HF : Hid (Memb.Own w.heap.size wr (some ⟨og, 0, none⟩) cp (taleF L (-1) ch) ∧ Below w.heap.size w wr) := ⟨HS.out.own, HS.out.bel⟩
     clear hv HS e hln hev
     go_wp2
     go_ret
     exact ⟨some ⟨og, 0, none⟩, cp, by rw [HTL.out, ← HV.out]; rfl, by rw [HTL.out]; exact HF.out.1, HF.out.2⟩
def taleI (L : List K) (C : List Int) (k : Int) : List Int := if Ch.onB L C k then taleL L C k else []
def outI (L : List K) (C : List Int) (s : Int) : List Int := if Fm.rightB L C s then outL L C s else []
set_option maxHeartbeats 1600000 in
theorem specTaleOf (g off cap : Nat) (L : List K) (ao : Option Addr) (cc : Nat) (C : List Int) (k : Int) (w : World) (hcap : L.length ≤ cap) (hw : WordsOk L) (hg : g < w.heap.size) (hr : RdK w (some ⟨g, off, none⟩) L) (hC : C.length ≤ 1048576) (hrd : Lst.Rd w ao C) (hao : ∀ c, ao = some ⟨c, 0, none⟩ → c < w.heap.size) :
   Calls Tryz.prog 10 #[.slice (some ⟨g, off, none⟩) L.length cap, .slice ao C.length cc, .int .i64 k] w (NumsPost (taleI L C k) w) := by
 have HRD : Hid (∀ W : World, Below w.heap.size w W → Lst.Rd W ao C ∧ ∀ c, ao = some ⟨c, 0, none⟩ → c < W.heap.size) := fun W hW => ⟨Ch.rd_below hrd hao hW, fun c e => Nat.lt_of_lt_of_le (hao c e) hW.size⟩
 have hcall := Ch.l10Right g off cap L ao cc C k w hcap hw hr hC hrd hao
 have HR : Hid (RdK w (some ⟨g, off, none⟩) L) := hr
 clear hrd hao hr
 go_enter Tryz.func10, Tryz.ntmps10
 go_wp2_with fail
 refine hcall.mono ?_
 rintro e w1 ⟨rfl, hb1⟩
 clear hcall
 cases hq : Ch.onB L C k
 · have HT : Hid (taleI L C k = []) := by show _ = _; unfold taleI; rw [hq]; rfl
   have HP : Hid _ := Ch.nums_nil hb1
   clear hq
   go_wp2
   go_ret
   rw [HT.out]
   exact ⟨some ⟨w1.heap.size, 0, none⟩, 0, rfl, HP.out.1, HP.out.2⟩
 · have HT : Hid (taleI L C k = taleL L C k) := by show _ = _; unfold taleI; rw [hq]; rfl
   unfold Ch.onB at hq
   rw [Bool.and_eq_true] at hq
   obtain ⟨k0, k1, hlc⟩ := Sg.isB_parts hq.1
   have HLC : Hid (laceB L = true) := hlc
   clear hq hlc
   obtain ⟨p, rfl⟩ := Int.eq_ofNat_of_zero_le k0
   have hp : p < L.length := by omega
   go_wp2_with fail
   refine (allB g off cap L _ HLC.out (by omega) (HR.out.below hb1)).mono ?_
   rintro e w2 ⟨bb, bc, rfl, hT2, hb2⟩
   have hB2 := hb1.trans (hb2.mono hb1.size)
   have hE := l12Tale g off cap L ao cc C bb bc p w2 HLC.out (Nat.lt_of_lt_of_le hg hB2.size) (HR.out.below hB2) (HRD.out w2 hB2).1 (HRD.out w2 hB2).2 hT2 hp
   clear hb1 hb2 hT2
   go_wp2_with fail
   refine hE.mono ?_
   rintro e w4 ⟨ro, rc, rfl, hown, hb4⟩
   have HP : Hid (Memb.Own w.heap.size w4 ro rc (taleL L C (p : Int)) ∧ Below w.heap.size w w4) := ⟨Ch.own_base hown hB2.size, hB2.trans (hb4.mono hB2.size)⟩
   clear hE hb4 hB2 hown
   go_wp2
   go_ret
   rw [HT.out]
   exact ⟨ro, rc, rfl, HP.out.1, HP.out.2⟩
theorem out_none {L : List K} {C : List Int} {s : Int} (h : lastT L (firmL L C s L.length) < 0) : outL L C s = [] := by unfold outL; rw [if_pos h]
theorem out_some {L : List K} {C : List Int} {s : Int} (h : ¬ lastT L (firmL L C s L.length) < 0) : outL L C s = taleL L C (lastT L (firmL L C s L.length)) := by unfold outL; rw [if_neg h]
set_option maxHeartbeats 1600000 in
theorem l12Out (g off cap : Nat) (L : List K) (ao : Option Addr) (cc : Nat) (C : List Int) (s : Int) (w : World) (hl : laceB L = true) (hN : 0 < L.length) (hg : g < w.heap.size) (hr : RdK w (some ⟨g, off, none⟩) L) (hrd : Lst.Rd w ao C) (hao : ∀ c, ao = some ⟨c, 0, none⟩ → c < w.heap.size) (h0 : 0 ≤ s) (h1 : s < 1152921504606846976) :
   Calls Tryz.prog 56 #[.slice (some ⟨g, off, none⟩) L.length cap, .slice ao C.length cc, .int .i64 s] w (NumsPost (outL L C s) w) := by
 have h60 := ((Lc.lace_iff L).1 hl).1
 have HLC : Hid (laceB L = true) := hl
 have HRD : Hid (∀ W : World, Below w.heap.size w W → Lst.Rd W ao C ∧ ∀ c, ao = some ⟨c, 0, none⟩ → c < W.heap.size) := fun W hW => ⟨Ch.rd_below hrd hao hW, fun c e => Nat.lt_of_lt_of_le (hao c e) hW.size⟩
 have HR : Hid (RdK w (some ⟨g, off, none⟩) L) := hr
 clear hl hrd hao hr
 go_enter Tryz.func56, Tryz.ntmps56
 go_wp2_with fail
 refine (allB g off cap L _ HLC.out hN HR.out).mono ?_
 rintro e w1 ⟨bb, bc, rfl, hT1, hb1⟩
 go_wp2_with fail
 refine (allS g off cap L bb bc w1 HLC.out (HR.out.below hb1) hT1).mono ?_
 rintro e w2 ⟨h, rfl, hT2, hb2⟩
 have hB2 := hb1.trans (hb2.mono hb1.size)
 have HT2 : Hid (TabB w2 L bb) := hT1.below hb2
 have hfm := Fm.l9Firm g off cap L ao cc C h (fun i => Sl.sealS L i L.length) s w2 HLC.out (HR.out.below hB2) (Nat.lt_of_lt_of_le hg hB2.size) (HRD.out w2 hB2).1 (HRD.out w2 hB2).2 ⟨hT2.lh, hT2.sl, hT2.fr⟩ (fun _ _ => rfl) h0 h1
 clear hb1 hb2 hT1 hT2
 go_wp2_with fail
 refine hfm.mono ?_
 rintro e w3 ⟨fo, fc, rfl, hof, hb3⟩
 have HB3 : Hid (Below w.heap.size w w3) := hB2.trans (hb3.mono hB2.size)
 have HT3 : Hid (TabB w3 L bb) := HT2.out.below hb3
 have hla := Fm.l9Last g off cap L fo fc (firmL L C s L.length) w3 (fun x hx => by obtain ⟨k, rfl, hk, _⟩ := (mem_firm L C s L.length x).1 hx; omega) (by have := Fm.firmL_len L C s L.length; omega) (HR.out.below HB3.out) (Lst.own_rd hof)
 have HLS : Hid ((lastT L (firmL L C s L.length) < 0 ∧ outL L C s = []) ∨ ∃ f : Nat, lastT L (firmL L C s L.length) = (f : Int) ∧ f < L.length ∧ outL L C s = taleL L C (f : Int)) := by
   rcases last_spec L C s L.length with ⟨q, _⟩ | ⟨f, q, hf, _⟩
   · exact .inl ⟨by rw [q]; omega, out_none (by rw [q]; omega)⟩
   · exact .inr ⟨f, q, hf, by rw [out_some (by rw [q]; omega), q]⟩
 clear hfm hof hb3 hB2 HT2
 generalize firmL L C s L.length = fl at hla HLS ⊢
 generalize lastT L fl = lt at hla HLS
 go_wp2_with fail
 refine hla.mono ?_
 rintro e w4 ⟨rfl, n4, rfl⟩
 have HB4 : Hid (Below w.heap.size w (w3.drewN n4)) := Db.below_drewN HB3.out n4
 have HT4 : Hid (TabB (w3.drewN n4) L bb) := HT3.out.below (Db.below_drewN (Below.refl _ w3) n4)
 clear hla HB3 HT3
 generalize w3.drewN n4 = V at HB4 HT4 ⊢
 rcases HLS.out with ⟨hneg, ho⟩ | ⟨f, rfl, hf, ho⟩
 · have HO : Hid (outL L C s = []) := ho
   have HP : Hid _ := Ch.nums_nil HB4.out
   clear ho HLS
   go_wp2
   go_ret
   rw [HO.out]
   exact ⟨some ⟨V.heap.size, 0, none⟩, 0, rfl, HP.out.1, HP.out.2⟩
 · have HO : Hid (outL L C s = taleL L C (f : Int)) := ho
   have hf0 : ¬ (f : Int) < 0 := by omega
   have hE := l12Tale g off cap L ao cc C bb bc f V HLC.out (Nat.lt_of_lt_of_le hg HB4.out.size) (HR.out.below HB4.out) (HRD.out V HB4.out).1 (HRD.out V HB4.out).2 HT4.out hf
   clear ho HLS
   go_wp2_with fail
   refine hE.mono ?_
   rintro e w5 ⟨ro, rc, rfl, hown, hb5⟩
   have HP : Hid (Memb.Own w.heap.size w5 ro rc (taleL L C (f : Int)) ∧ Below w.heap.size w w5) := ⟨Ch.own_base hown HB4.out.size, HB4.out.trans (hb5.mono HB4.out.size)⟩
   clear hE hb5 hown HB4
   go_wp2
   go_ret
   rw [HO.out]
   exact ⟨ro, rc, rfl, HP.out.1, HP.out.2⟩
end Tl
end Go.Proofs.YtflhaiakhfmmmaaGreat
namespace Go.Proofs.YtflhaiakhfmmmaaGreat
open Go.RowKit
set_option maxRecDepth 100000
set_option linter.unusedVariables false
namespace Tl
open Kn (K okK)
open Bit (bit withB memTo)
open Lc (at' RdK WordsOk laceB setB)
open Sg (isB bel belows)
def inR (L : List K) (x : Int) : Bool := decide (0 ≤ x) && decide (x < (L.length : Int))
theorem inR_iff (L : List K) (x : Int) : inR L x = true ↔ 0 ≤ x ∧ x < (L.length : Int) := by
 unfold inR; rw [Bool.and_eq_true, decide_eq_true_eq, decide_eq_true_eq]
end Tl
end Go.Proofs.YtflhaiakhfmmmaaGreat
namespace Go.Proofs.YtflhaiakhfmmmaaGreat
open Go.RowKit
set_option maxRecDepth 100000
set_option linter.unusedVariables false
namespace Tl
open Kn (K okK)
open Bit (bit withB memTo)
open Lc (at' laceB setB)
open Sg (isB bel seesB)
open Db (dblN doubledB)
open Nd (nodN nodsB)
open Ch (chainL earlierN earN leadK)
theorem getD_mem (l : List Int) (i : Nat) (h : i < l.length) : l.getD i 0 ∈ l := by
 unfold List.getD; rw [List.getElem?_eq_getElem h]; exact List.getElem_mem h
theorem getD_get (l : List Int) (i : Nat) (h : i < l.length) : l.getD i 0 = l[i] := by
 unfold List.getD; rw [List.getElem?_eq_getElem h]; rfl
theorem chain_lastD (L : List K) (C : List Int) (e : Int) (he : -1 ≤ e) : (chainL L C e).getLastD (-1) = e := by
 by_cases h : e < 0
 · obtain rfl : e = -1 := by omega
   rw [Ch.chain_neg L C (by omega)]; rfl
 · obtain ⟨q, rfl⟩ := Int.eq_ofNat_of_zero_le (by omega : 0 ≤ e)
   rw [Ch.chain_step]; simp
theorem earlier_ge (L : List K) (C : List Int) (k : Nat) : -1 ≤ earlierN L C k := by
 rcases Ch.earlier_cases L C k with ⟨h, _⟩ | ⟨e, h, _⟩ <;> rw [h] <;> omega
theorem tale_step (L : List K) (C : List Int) (k : Nat) : taleL L C (k : Int) = taleL L C (earlierN L C k) ++ freshL L (k : Int) (earlierN L C k) := by
 unfold taleL
 rw [Ch.chain_step, taleF_snoc, chain_lastD L C _ (earlier_ge L C k)]
theorem tale_neg (L : List K) (C : List Int) {k : Int} (h : k < 0) : taleL L C k = [] := by unfold taleL; rw [Ch.chain_neg L C h]; rfl
theorem tale_below {L : List K} (hl : laceB L = true) (C : List Int) : ∀ k, k < L.length → ∀ x ∈ taleL L C (k : Int), ∃ j : Nat, x = (j : Int) ∧ j < L.length ∧ bit (bel L k) j = true := by
 have h60 := ((Lc.lace_iff L).1 hl).1
 intro k
 induction k using Nat.strongRecOn with
 | _ k ih =>
   intro hk x hx
   rw [tale_step, List.mem_append] at hx
   rcases hx with hx | hx
   · rcases Ch.earlier_cases L C k with ⟨h, _⟩ | ⟨e, h, hek, hec, _⟩
     · rw [h, tale_neg L C (by omega)] at hx; simp at hx
     · rw [h] at hx
       obtain ⟨j, rfl, hj, hb⟩ := ih e hek (by omega) x hx
       refine ⟨j, rfl, hj, ?_⟩
       unfold Ch.earN at hec
       rw [Bool.and_eq_true] at hec
       exact Ag.sees_trans hl hk hec.1 hb
   · obtain ⟨j, rfl, hj, hf⟩ := (mem_fresh h60 _ _ _).1 hx
     rw [Int.toNat_natCast] at hf
     unfold fresN at hf
     rw [Bool.and_eq_true] at hf
     exact ⟨j, rfl, hj, hf.1⟩
theorem tale_self {L : List K} (hl : laceB L = true) (C : List Int) {k : Nat} (hk : k < L.length) : (taleL L C (k : Int)).contains (k : Int) = nodN L k k := by
 have h60 := ((Lc.lace_iff L).1 hl).1
 rw [Bool.eq_iff_iff, List.contains_iff_mem, tale_step, List.mem_append]
 have hm := mem_fresh h60 (k : Int) (earlierN L C k) (k : Int)
 rw [Int.toNat_natCast] at hm
 constructor
 · rintro (h | h)
   · rcases Ch.earlier_cases L C k with ⟨q, _⟩ | ⟨e, q, hek, _⟩
     · rw [q, tale_neg L C (by omega)] at h; simp at h
     · rw [q] at h
       obtain ⟨j, ej, hj, hb⟩ := tale_below hl C e (by omega) _ h
       have := Ag.sees_le hl (by omega : e < L.length) hb
       omega
   · obtain ⟨j, ej, _, hf⟩ := hm.1 h
     obtain rfl : k = j := by omega
     unfold fresN at hf
     simp only [Bool.and_eq_true] at hf
     exact hf.2.2
 · intro hn
   right
   refine hm.2 ⟨k, rfl, hk, ?_⟩
   unfold fresN
   rw [Db.bel_self hl hk, hn]
   rcases Ch.earlier_cases L C k with ⟨q, _⟩ | ⟨e, q, hek, _⟩
   · rw [q]; rfl
   · rw [q, Int.toNat_natCast, Db.bel_hi hl (by omega : e < L.length) hek]; simp
end Tl
namespace Lsx
open Memb (Own)
open Lst (Rd own_block own_rd own_below)
end Lsx
namespace Nu
open Kn (K)
open Db (RowI)
def RdI (w : World) (ao : Option Addr) (C : List Int) : Prop := C = [] ∨ ∃ g off, ao = some ⟨g, off, none⟩ ∧ g < w.heap.size ∧ ∀ j, j < C.length → w.cell? ⟨g, off + j, none⟩ = some (.int .i64 (C.getD j 0))
theorem RdI.below {w w' : World} {ao : Option Addr} {C : List Int} (h : RdI w ao C) (hb : Below w.heap.size w w') : RdI w' ao C := by
 rcases h with h | ⟨g, off, e, hg, hc⟩
 · exact .inl h
 · exact .inr ⟨g, off, e, Nat.lt_of_lt_of_le hg hb.size, fun j hj => (hb.cell (p := ⟨g, off + j, none⟩) hg).trans (hc j hj)⟩
theorem own_below {B : Nat} {w w' : World} {ao : Option Addr} {cap : Nat} {l : List Int} (h : Memb.Own B w ao cap l) (hb : Below w.heap.size w w') : Memb.Own B w' ao cap l := Lst.own_below h hb
theorem own_base {B B' : Nat} {w : World} {ao : Option Addr} {cap : Nat} {l : List Int} (h : Memb.Own B w ao cap l) (hB : B' ≤ B) : Memb.Own B' w ao cap l := by
 obtain ⟨h1, h2 | ⟨g, cp, cur, e, hg, r⟩⟩ := h
 · exact ⟨h1, .inl h2⟩
 · exact ⟨h1, .inr ⟨g, cp, cur, e, Nat.le_trans hB hg, r⟩⟩
end Nu
namespace Tl
open Kn (K okK)
open Bit (bit withB memTo)
open Lc (at' RdK WordsOk laceB setB)
open Sg (isB bel belows NumsPost)
open Ch (chainL)
theorem orderedI_len (L : List K) (s : Int) : (orderedI L s).length ≤ 60 := by
 unfold orderedI
 split
 · rw [ord_len]; exact Bit.memTo_le _ 60
 · simp
theorem taleF_len (L : List K) : ∀ (l : List Int) (e : Int), (taleF L e l).length ≤ 60 * l.length := by
 intro l
 induction l with
 | nil => intro e; exact Nat.le_refl _
 | cons c r ih =>
   intro e
   show (freshL L c e ++ taleF L c r).length ≤ _
   have h1 := fresh_len L c e
   have h2 := ih c
   rw [List.length_append, List.length_cons]; omega
theorem taleI_len (L : List K) (C : List Int) (k : Int) : (taleI L C k).length ≤ 3660 := by
 have hc := @Ch.chainI_len L C k
 unfold taleI
 split
 · rename_i h
   have e : Ch.chainI L C k = chainL L C k := by unfold Ch.chainI; rw [if_pos h]
   rw [e] at hc
   have := taleF_len L (chainL L C k) (-1)
   unfold taleL
   omega
 · simp
theorem outI_len (L : List K) (C : List Int) (s : Int) : (outI L C s).length ≤ 3660 := by
 unfold outI
 split
 · rename_i h
   unfold Fm.rightB at h
   rw [Bool.and_eq_true] at h
   rcases last_spec L C s L.length with ⟨q, _⟩ | ⟨f, q, hf, _⟩
   · rw [out_none (by rw [q]; omega)]; simp
   · rw [out_some (by rw [q]; omega), q]
     have hl := (Fm.closed_set h.1).1
     have hon : Ch.onB L C (f : Int) = true := by
       unfold Ch.onB
       rw [h.2]
       unfold Sg.isB
       rw [hl]
       simp; omega
     have := taleI_len L C (f : Int)
     unfold taleI at this
     rw [if_pos hon] at this
     exact this
 · simp
set_option maxHeartbeats 1600000 in
theorem l12OutE (g off cap : Nat) (ao : Option Addr) (cc : Nat) (C : List Int) (s : Int) (w : World) (hg : g < w.heap.size) (hrd : Lst.Rd w ao C) (hao : ∀ c, ao = some ⟨c, 0, none⟩ → c < w.heap.size) (h0 : 0 ≤ s) (h1 : s < 1152921504606846976) :
   Calls Tryz.prog 56 #[.slice (some ⟨g, off, none⟩) 0 cap, .slice ao C.length cc, .int .i64 s] w (NumsPost [] w) := by
 have hl : laceB ([] : List K) = true := rfl
 have HRD : Hid (∀ W : World, Below w.heap.size w W → Lst.Rd W ao C ∧ ∀ c, ao = some ⟨c, 0, none⟩ → c < W.heap.size) := fun W hW => ⟨Ch.rd_below hrd hao hW, fun c e => Nat.lt_of_lt_of_le (hao c e) hW.size⟩
 have HN : Hid (∀ W : World, RdK W (some ⟨g, off, none⟩) ([] : List K)) := fun W => .inl rfl
 have HB4 : Hid (Calls Tryz.prog 39 #[.slice (some ⟨g, off, none⟩) 0 cap] w (NumsPost [] w)) := Sg.l4All (some ⟨g, off, none⟩) cap [] w (by simp) (Sg.frm_lace hl) (HN.out w)
 clear hrd hao
 go_enter Tryz.func56, Tryz.ntmps56
 go_wp2_with fail
 refine HB4.out.mono ?_
 rintro e w1 ⟨bo, bc, rfl, hown, hb1⟩
 have h7 : Calls Tryz.prog 42 #[.slice (some ⟨g, off, none⟩) 0 cap, .slice bo 0 bc] w1 (Sl.SealPost [] w1) := Sl.l7All g off cap [] bo bc w1 hl (HN.out w1) (.inl rfl) (fun c e => by subst e; exact (World.ownsRow.lt hown c rfl).2)
 clear hown HB4
 simp only [List.length_nil] at *
 go_wp2_with fail
 refine h7.mono ?_
 rintro e w2 ⟨h, O, rfl, _, hrow, hO, hb2⟩
 have hB2 := hb1.trans (hb2.mono hb1.size)
 have h9 : Calls Tryz.prog 86 #[.slice (some ⟨g, off, none⟩) 0 cap, .slice ao C.length cc, .slice (some ⟨h, 0, none⟩) 0 0, .int .i64 s] w2 (NumsPost [] w2) := Fm.l9Firm g off cap [] ao cc C h O s w2 hl (HN.out w2) (Nat.lt_of_lt_of_le hg hB2.size) (HRD.out w2 hB2).1 (HRD.out w2 hB2).2 hrow hO h0 h1
 clear h7 hb1 hb2 hrow hO
 simp only [List.length_nil] at *
 go_wp2_with fail
 refine h9.mono ?_
 rintro e w3 ⟨fo, fc, rfl, hof, hb3⟩
 have hB3 := hB2.trans (hb3.mono hB2.size)
 have hla : Calls Tryz.prog 58 #[.slice (some ⟨g, off, none⟩) 0 cap, .slice fo 0 fc] w3 fun e w' => e = .returned (.int .i64 (-1)) ∧ ∃ n, w' = w3.drewN n := Fm.l9Last g off cap [] fo fc [] w3 (fun x hx => absurd hx (by simp)) (by simp) (HN.out w3) (.inl rfl)
 clear h9 hof hb3 hB2
 simp only [List.length_nil] at *
 go_wp2_with fail
 refine hla.mono ?_
 rintro e w4 ⟨rfl, n4, rfl⟩
 have HB4 : Hid (Below w.heap.size w (w3.drewN n4)) := Db.below_drewN hB3 n4
 clear hla hB3
 generalize w3.drewN n4 = V at HB4 ⊢
 have HP : Hid _ := Ch.nums_nil HB4.out
 go_wp2
 go_ret
 exact ⟨some ⟨V.heap.size, 0, none⟩, 0, rfl, HP.out.1, HP.out.2⟩
set_option maxHeartbeats 1600000 in
theorem specOutOf (g off cap : Nat) (L : List K) (ao : Option Addr) (cc : Nat) (C : List Int) (s : Int) (w : World) (hcap : L.length ≤ cap) (hw : WordsOk L) (hg : g < w.heap.size) (hr : RdK w (some ⟨g, off, none⟩) L) (hC : C.length ≤ 1048576) (hrd : Lst.Rd w ao C) (hao : ∀ c, ao = some ⟨c, 0, none⟩ → c < w.heap.size) :
   Calls Tryz.prog 21 #[.slice (some ⟨g, off, none⟩) L.length cap, .slice ao C.length cc, .int .i64 s] w (NumsPost (outI L C s) w) := by
 have HRD : Hid (∀ W : World, Below w.heap.size w W → Lst.Rd W ao C ∧ ∀ c, ao = some ⟨c, 0, none⟩ → c < W.heap.size) := fun W hW => ⟨Ch.rd_below hrd hao hW, fun c e => Nat.lt_of_lt_of_le (hao c e) hW.size⟩
 have hcall := Fm.l9Right g off cap L ao cc C s w hcap hw hr hC hrd hao
 have HR : Hid (RdK w (some ⟨g, off, none⟩) L) := hr
 clear hrd hao hr
 go_enter Tryz.func21, Tryz.ntmps21
 go_wp2_with fail
 refine hcall.mono ?_
 rintro e w1 ⟨rfl, hb1⟩
 clear hcall
 cases hq : Fm.rightB L C s
 · have HT : Hid (outI L C s = []) := by show _ = _; unfold outI; rw [hq]; rfl
   have HP : Hid _ := Ch.nums_nil hb1
   clear hq
   go_wp2
   go_ret
   rw [HT.out]
   exact ⟨some ⟨w1.heap.size, 0, none⟩, 0, rfl, HP.out.1, HP.out.2⟩
 · have HT : Hid (outI L C s = outL L C s) := by show _ = _; unfold outI; rw [hq]; rfl
   unfold Fm.rightB at hq
   rw [Bool.and_eq_true] at hq
   obtain ⟨hlc, s0, s1⟩ := Fm.closed_set hq.1
   have hE : Calls Tryz.prog 56 #[.slice (some ⟨g, off, none⟩) L.length cap, .slice ao C.length cc, .int .i64 s] w1 (NumsPost (outL L C s) w1) := by
     by_cases hN : 0 < L.length
     · exact l12Out g off cap L ao cc C s w1 hlc hN (Nat.lt_of_lt_of_le hg hb1.size) (HR.out.below hb1) (HRD.out w1 hb1).1 (HRD.out w1 hb1).2 s0 s1
     · obtain rfl : L = [] := List.length_eq_zero_iff.1 (by omega)
       exact l12OutE g off cap ao cc C s w1 (Nat.lt_of_lt_of_le hg hb1.size) (HRD.out w1 hb1).1 (HRD.out w1 hb1).2 s0 s1
   clear hq hlc
   generalize hol : outL L C s = ol at hE HT
   have HOL : Hid (outL L C s = ol) := hol
   clear hol
   go_wp2_with fail
   refine hE.mono ?_
   rintro e w4 ⟨ro, rc, rfl, hown, hb4⟩
   have HP : Hid (Memb.Own w.heap.size w4 ro rc ol ∧ Below w.heap.size w w4) := ⟨Ch.own_base hown hb1.size, hb1.trans (hb4.mono hb1.size)⟩
   clear hE hb4 hown
   go_wp2
   go_ret
   rw [HT.out]
   exact ⟨ro, rc, rfl, HP.out.1, HP.out.2⟩
end Tl
end Go.Proofs.YtflhaiakhfmmmaaGreat
namespace Go.Proofs.YtflhaiakhfmmmaaGreat
open Go.RowKit
set_option maxRecDepth 100000
set_option linter.unusedVariables false
namespace Rm
open Kn (K okK)
open Bit (bit memTo)
open Lc (at' RdK laceB flat OwnK cellsOf)
open Cur (At)
structure LoSt (c : Nat) (a : Option Addr) (len cap : Nat) (w wr : World) (v : Value) (L : List K) (o : Value) (X : List Int) : Prop where
 at' : At c a len cap wr
 gr : w.grownBy wr (some c)
 lo : OwnK 42 w.heap.size wr v L
 ow : wr.ownsRow w.heap.size 2 1 o X.length (X.map (Value.int .i64))
 zb : ∀ z ∈ X, -9223372036854775808 ≤ z ∧ z ≤ 9223372036854775807
 x61 : X.length ≤ 61
theorem LoSt.grown {c : Nat} {a : Option Addr} {len cap : Nat} {w wr w1 : World} {v : Value} {L : List K} {o : Value} {X : List Int} (s : LoSt c a len cap w wr v L o X) (hc : c < w.heap.size) (hA : At c a len cap w1) (hG : wr.grownBy w1 (some c)) : LoSt c a len cap w w1 v L o X :=
 ⟨hA, Cur.grownBy_trans s.gr hG, ownK_grown s.lo hG hc, own_fr (Fr.of_grown hG) s.ow (fun g hg e => by have := (World.ownsRow.lt s.ow g hg).1; omega), s.zb, s.x61⟩
theorem orderedI_in {L : List K} {s : Int} : ∀ z ∈ Tl.orderedI L s, -9223372036854775808 ≤ z ∧ z ≤ 9223372036854775807 := fun z hz => by
 unfold Tl.orderedI at hz
 split at hz
 · obtain ⟨j, hj, rfl, _⟩ := (Bit.mem_memTo s 60 z).1 ((Tl.mem_ord L _ _).1 hz)
   omega
 · simp at hz
theorem LoSt.put {c : Nat} {a : Option Addr} {len cap : Nat} {w wr : World} {v : Value} {L : List K} {g oc : Nat} {X : List Int} (s : LoSt c a len cap w wr v L (.slice (some ⟨g, 0, none⟩) X.length oc) X) (hcb : CurB c a len w.heap.size) (j : Nat) (y : Int) (hy : -9223372036854775808 ≤ y ∧ y ≤ 9223372036854775807) :
   LoSt c a len cap w (wr.setCell ⟨g, j, none⟩ (.int .i64 y)) v L (.slice (some ⟨g, 0, none⟩) (X.set j y).length oc) (X.set j y) := by
 have hgB := (World.ownsRow.lt s.ow g rfl).1
 have hl : (X.set j y).length = X.length := by simp
 have hfr : Fr (fun x => x = g) wr (wr.setCell ⟨g, j, none⟩ (.int .i64 y)) := Fr.set wr ⟨g, j, none⟩ _
 refine ⟨at_belowB s.at' hcb (hfr.toBelow s.gr.size (fun x e => by omega)), ?_, ⟨own_fr hfr s.lo.1 (fun q hq e => ?_), s.lo.2⟩, by rw [hl]; exact Tl.own_put s.ow j y, fun z hz => ?_, by rw [hl]; exact s.x61⟩
 · exact ((Fr.of_grown s.gr).trans hfr (fun x hx hl => by omega)).grown
 · subst e
   exact own_ne s.lo.1 s.ow (by decide) hq rfl
 · rcases List.mem_or_eq_of_mem_set hz with h | h
   · exact s.zb z h
   · rw [h]; exact hy
theorem LoSt.app {c : Nat} {a : Option Addr} {len cap : Nat} {w w1 w2 : World} {v o v' : Value} {L : List K} {X : List Int} {x : Int} {ob : Obj} (s : LoSt c a len cap w w1 v L o X) (hcb : CurB c a len w.heap.size) (ho : w2.ownsRow w.heap.size 2 1 v' (X.length + 1) (X.map (Value.int .i64) ++ [.int .i64 x])) (hg : (w1.alloc ob).grownBy w2 o.ownBlock) :
   At c a len cap w2 ∧ w.grownBy w2 (some c) ∧ OwnK 42 w.heap.size w2 v L ∧ w2.ownsRow w.heap.size 2 1 v' (X ++ [x]).length ((X ++ [x]).map (Value.int .i64)) := by
 have hlt := World.ownsRow.lt s.ow
 have hf1 : Fr (fun y => o.ownBlock = some y) w1 w2 := (Fr.alloc _ w1 ob).trans (Fr.of_own hg) (fun _ hx _ => hx)
 refine ⟨at_belowB s.at' hcb (hf1.toBelow s.gr.size (fun y hy => (hlt y hy).1)), ?_, ⟨own_fr hf1 s.lo.1 (fun q hq e => own_ne s.lo.1 s.ow (by decide) hq e), s.lo.2⟩, by simpa using ho⟩
 exact ((Fr.of_grown s.gr).trans hf1 (fun y hy hl => by have := (hlt y hy).1; omega)).grown
def TwoPost (w : World) (e : Ending) (w' : World) : Prop := ∃ v L ao cc X, e = .returned (.tuple #[v, .slice ao (X : List Int).length cc]) ∧ Drawn w.heap.size w w' v L ∧ Memb.Own w.heap.size w' ao cc X ∧ (∀ z ∈ X, -9223372036854775808 ≤ z ∧ z ≤ 9223372036854775807) ∧ X.length ≤ 62
theorem two_post {c : Nat} {a : Option Addr} {len cap : Nat} {w w1 wr : World} {v o : Value} {L : List K} {X : List Int} (hs : w.heap.size ≤ w1.heap.size) (hb : Below w.heap.size w wr) (hl : L.length ≤ 61) (hw : ∀ k ∈ L, k.word.size ≤ 13) (lo : OwnK 42 w1.heap.size wr v L) (ow : wr.ownsRow w1.heap.size 2 1 o X.length (X.map (Value.int .i64))) (hz : ∀ z ∈ X, -9223372036854775808 ≤ z ∧ z ≤ 9223372036854775807) (hx : X.length ≤ 62) :
   TwoPost w (.returned (.tuple #[v, o])) wr := by
 obtain ⟨ao, cc, rfl, hown⟩ := Memb.own_shape ow
 exact ⟨v, L, ao, cc, X, rfl, ⟨ownK_base lo hs, hl, hw, hb⟩, Nu.own_base hown hs, hz, hx⟩
set_option maxHeartbeats 3200000 in
theorem drawRespects (HD : DrawsRoom) (a : Option Addr) (len cap : Nat) (w : World) (hl : len ≤ 4096) (hc : Cur.Code w a len) :
   Calls Tryz.prog 52 #[.slice a len cap] w (TwoPost w) := by
 obtain ⟨i0, hi, hz0, hz1, hz2⟩ := info_parts Memb.info2
 have HDD : Hid DrawsRoom := HD
 clear HD
 go_enter Tryz.func52, Tryz.ntmps52
 go_wp2_with fail
 refine (Cur.new a len cap _ hl hc).mono ?_
 rintro e w1 ⟨rfl, hA1, hb1⟩
 have HCB : Hid (CurB w.heap.size a len w1.heap.size) := curB_of hA1
 go_wp2_with fail
 refine (l3DrawAny HDD.out _ a len cap _ hl hA1).mono ?_
 rintro e w2 ⟨v, L, rfl, hO, h61, hwd, hA2, hG2⟩
 obtain ⟨g, cp, rfl, hcp, _, hgB, _, hrd, _⟩ := Lc.ownK_shape hO
 have hB2 := Draw.below_of_grown hb1 (Nat.le_refl _) hG2
 have hs1 := hb1.size
 have hlt1 := hA1.lt
 have HWD : Hid (∀ k ∈ L, k.word.size ≤ 13) := hwd
 have hne : g ≠ w.heap.size := by omega
 have hww : Lc.WordsOk L := fun k hk => by have := hwd k hk; omega
 have HWW : Hid (Lc.WordsOk L) := hww
 have hset := l4DrawSet w.heap.size a len cap g cp L w2 hl hA2 hne h61 hcp hww hrd
 have HO : Hid (OwnK 42 w1.heap.size w2 (.slice (some ⟨g, 0, none⟩) L.length cp) L) := hO
 have HG2 : Hid (w1.grownBy w2 (some w.heap.size)) := hG2
 clear hO hwd hG2 hb1 hA1 hww hrd
 go_wp2_with fail
 refine hset.mono ?_
 rintro e w3 ⟨s, rfl, hs, hA3, hG3⟩
 have hO3 := ownK_grown HO.out hG3 hlt1
 have hB3 := Draw.below_of_grown hB2 (Nat.le_refl _) hG3
 have HG3 : Hid (w1.grownBy w3 (some w.heap.size)) := Cur.grownBy_trans HG2.out hG3
 have hrd3 : RdK w3 (some ⟨g, 0, none⟩) L := by
   obtain ⟨g', cp', hge, _, _, _, _, h, _⟩ := Lc.ownK_shape hO3
   injection hge with hge
   injection hge with hge
   injection hge with hge
   subst hge
   exact h
 have hord := Tl.specOrdered g 0 cp L s w3 hcp HWW.out hrd3
 clear HO hB2 hG3 hA2 hset HG2 hrd3
 have hlen := Tl.orderedI_len L s
 have hzb := orderedI_in (L := L) (s := s)
 generalize Tl.orderedI L s = X at hord hlen hzb
 go_wp2_with fail
 refine hord.mono ?_
 rintro e w4 ⟨ao, ac, rfl, hown, hb4⟩
 have HS4 : Hid (LoSt w.heap.size a len cap w1 w4 (.slice (some ⟨g, 0, none⟩) L.length cp) L (.slice ao X.length ac) X) :=
   ⟨hA3.below hb4, Cur.grownBy_trans HG3.out ⟨hb4.os, hb4.tape, hb4.output, hb4.size, fun i hi _ => hb4.block i hi⟩, Lc.ownK_below hO3 hb4, Nu.own_base hown HG3.out.size, hzb, by omega⟩
 have HB4 : Hid (Below w.heap.size w w4) := hB3.trans (hb4.mono hB3.size)
 clear hord hown hb4 hA3 hO3 hB3 HG3 hzb
 go_upto_region 5 with fail
 go_cut [26] (fun bv wx => ∃ b : Bool, bv = .bool b ∧ (b = true → 1 < X.length) ∧ Hid (LoSt w.heap.size a len cap w1 wx (.slice (some ⟨g, 0, none⟩) L.length cp) L (.slice ao X.length ac) X) ∧ Hid (Below w.heap.size w wx))
 case first =>
   by_cases h1 : 1 < X.length
   · have h1' : (1 : Int) < (X.length : Int) := by omega
     go_wp2_with fail
     refine (Cur.once _ a len cap 2 _ hl (by omega) HS4.out.at').mono ?_
     rintro e w5 ⟨b, rfl, hA5, hG5⟩
     have HS5 : Hid (LoSt w.heap.size a len cap w1 w5 (.slice (some ⟨g, 0, none⟩) L.length cp) L (.slice ao X.length ac) X) := HS4.out.grown hlt1 hA5 hG5
     have HB5 : Hid (Below w.heap.size w w5) := Draw.below_of_grown HB4.out (Nat.le_refl _) hG5
     clear hA5 hG5 HS4 HB4
     go_wp2_with fail
     go_meet
     exact ⟨b, rfl, fun _ => h1, HS5, HB5⟩
   · have h1' : ¬ (1 : Int) < (X.length : Int) := by omega
     go_wp2_with fail
     go_meet
     exact ⟨false, rfl, fun h => Bool.noConfusion h, HS4, HB4⟩
 case rest =>
   clear HS4 HB4
   obtain ⟨b, rfl, hb1, HS5, HB5⟩ := hcut
   go_upto_if 26 with fail
   go_cut [6] (fun o wx => ∃ X : List Int, Hid (LoSt w.heap.size a len cap w1 wx (.slice (some ⟨g, 0, none⟩) L.length cp) L o X) ∧ Hid (Below w.heap.size w wx))
   case first =>
     cases b
     · go_wp2_with fail
       go_meet
       exact ⟨X, HS5, HB5⟩
     · have h1 := hb1 rfl
       obtain ⟨og, rfl⟩ : ∃ og, ao = some ⟨og, 0, none⟩ := by
         rcases Lst.own_rd HS5.out.ow with e | ⟨b, e, _⟩
         · rw [e] at h1; simp at h1
         · exact ⟨b, e⟩
       go_wp2_with fail
       refine (Cur.below _ a len cap (X.length : Int) _ hl (by omega) HS5.out.at').mono ?_
       rintro e w6 ⟨x, rfl, hx0, hx1, hA6, hG6⟩
       have hx2 := hx1 (by omega)
       have HS6 : Hid (LoSt w.heap.size a len cap w1 w6 (.slice (some ⟨g, 0, none⟩) L.length cp) L (.slice (some ⟨og, 0, none⟩) X.length ac) X) := HS5.out.grown hlt1 hA6 hG6
       have HB6 : Hid (Below w.heap.size w w6) := Draw.below_of_grown HB5.out (Nat.le_refl _) hG6
       clear hA6 hG6 HS5 HB5 hx1
       obtain ⟨q, rfl⟩ := Int.eq_ofNat_of_zero_le hx0
       have hq : q < X.length := by omega
       have hrow : ∀ j, j < X.length → w6.cell? ⟨og, j, none⟩ = some (.int .i64 (X.getD j 0)) := by
         rcases Lst.own_rd HS6.out.ow with e | ⟨b, e, h⟩
         · rw [e] at h1; simp at h1
         · injection e with e; injection e with e; subst e; exact h
       have c0 := hrow 0 (by omega)
       have cq := hrow q hq
       have f0 := Tl.own_frozen HS6.out.ow 0
       have fq := Tl.own_frozen HS6.out.ow q
       have cq2 : (w6.setCell ⟨og, 0, none⟩ (.int .i64 (X.getD q 0))).cell? ⟨og, q, none⟩ = some (.int .i64 (X.getD q 0)) := by
         by_cases h : q = 0
         · rw [h]; exact World.cell?_setCell_same' _ _ _ (by rw [c0]; rfl)
         · exact (World.cell?_setCell_other w6 ⟨og, 0, none⟩ ⟨og, q, none⟩ _ (fun e => h (by injection e with _ e2 _; omega))).trans cq
       have hy := HS6.out.zb (X.getD q 0) (Tl.getD_mem X q hq)
       have hy0 := HS6.out.zb (X.getD 0 0) (Tl.getD_mem X 0 (by omega))
       have HS7 : Hid (LoSt w.heap.size a len cap w1 (w6.setCell ⟨og, 0, none⟩ (.int .i64 (X.getD q 0))) (.slice (some ⟨g, 0, none⟩) L.length cp) L (.slice (some ⟨og, 0, none⟩) (X.set 0 (X.getD q 0)).length ac) (X.set 0 (X.getD q 0))) := HS6.out.put HCB.out 0 _ hy
       have HS8 : Hid (LoSt w.heap.size a len cap w1 ((w6.setCell ⟨og, 0, none⟩ (.int .i64 (X.getD q 0))).setCell ⟨og, q, none⟩ (.int .i64 (X.getD 0 0))) (.slice (some ⟨g, 0, none⟩) L.length cp) L (.slice (some ⟨og, 0, none⟩) ((X.set 0 (X.getD q 0)).set q (X.getD 0 0)).length ac) ((X.set 0 (X.getD q 0)).set q (X.getD 0 0))) := HS7.out.put HCB.out q _ hy0
       have HB8 : Hid (Below w.heap.size w ((w6.setCell ⟨og, 0, none⟩ (.int .i64 (X.getD q 0))).setCell ⟨og, q, none⟩ (.int .i64 (X.getD 0 0)))) := by
         have hgB := (World.ownsRow.lt HS6.out.ow og rfl).1
         exact (HB6.out.setCell (p := ⟨og, 0, none⟩) (show w.heap.size ≤ og by omega) _).setCell (p := ⟨og, q, none⟩) (show w.heap.size ≤ og by omega) _
       have hqi : (q : Int) < (X.length : Int) := by omega
       have h0i : (0 : Int) < (X.length : Int) := by omega
       have hll : ((X.set 0 (X.getD q 0)).set q (X.getD 0 0)).length = X.length := by simp
       rw [hll] at HS8
       clear HS6 HS7 HB6 hrow hy hy0 hll
       generalize (X.set 0 (X.getD q 0)).set q (X.getD 0 0) = X2 at HS8
       generalize X.getD q 0 = yq at cq cq2 HS8 HB8
       generalize X.getD 0 0 = y0 at c0 HS8 HB8
       go_wp2_with fail
       go_meet
       exact ⟨X2, HS8, HB8⟩
   case rest =>
     clear HS5 HB5 hb1
     obtain ⟨X2, HS6, HB6⟩ := hcut
     have hx61 := HS6.out.x61
     go_wp2_with fail
     refine (Cur.once _ a len cap 10 _ hl (by omega) HS6.out.at').mono ?_
     rintro e w7 ⟨b7, rfl, hA7, hG7⟩
     have HS7 : Hid (LoSt w.heap.size a len cap w1 w7 (.slice (some ⟨g, 0, none⟩) L.length cp) L u6 X2) := HS6.out.grown hlt1 hA7 hG7
     have HB7 : Hid (Below w.heap.size w w7) := Draw.below_of_grown HB6.out (Nat.le_refl _) hG7
     clear hA7 hG7 HS6 HB6
     cases b7
     · have HT : Hid (TwoPost w (.returned (.tuple #[.slice (some ⟨g, 0, none⟩) L.length cp, u6])) w7) := two_post (c := w.heap.size) (a := a) (len := len) (cap := cap) hs1 HB7.out h61 HWD.out HS7.out.lo HS7.out.ow HS7.out.zb (by omega)
       clear HS7 HB7
       go_wp2
       refine bodyPost_ret (v := .tuple #[.slice (some ⟨g, 0, none⟩) L.length cp, u6]) (by simp [results, Tryz.f52, go_sem]) rfl ?_
       exact HT.out
     · go_wp2_with fail
       refine (l3DrawAt _ a len cap L.length _ hl h61 HS7.out.at').mono ?_
       rintro e w8 ⟨y, rfl, hy, hA8, hG8⟩
       have HS8 : Hid (LoSt w.heap.size a len cap w1 w8 (.slice (some ⟨g, 0, none⟩) L.length cp) L u6 X2) := HS7.out.grown hlt1 hA8 hG8
       have HB8 : Hid (Below w.heap.size w w8) := Draw.below_of_grown HB7.out (Nat.le_refl _) hG8
       clear hA8 hG8 HS7 HB7
       have own8 := HS8.out.ow
       have hW8 := HS8.out.gr.size
       go_wp2_with (at_builtin; refine wpList_append_own _ rfl _ _ 25 rfl w1.heap.size 2 i0 (.int .i64 0) 1 8 Tryz.underlying25 hi hz0 hz1 hz2 rfl (by decide) u6 X2.length (X2.map (Value.int .i64)) (by first | rfl | simp [Act.eval]) (own8.alloc _) ⟨w8.heap.size, 0, none⟩ 1 1 [.int .i64 y] (by first | rfl | simp [Act.eval]) rfl (Sg.one_new w8 y _) (Sg.one_one y) ?c3 ?c4 ?c5 ?_)
       case c3 => unfold maxLen; omega
       case c4 => omega
       case c5 => simp; omega
       intro v' w9 hown' hgrow hnil
       have HA := HS8.out.app HCB.out hown' hgrow
       have HB9 : Hid (Below w.heap.size w w9) := by
         have hlt := World.ownsRow.lt HS8.out.ow
         have hf1 : Fr (fun y => u6.ownBlock = some y) w8 w9 := (Fr.alloc _ w8 _).trans (Fr.of_own hgrow) (fun _ hx _ => hx)
         exact HB8.out.trans (hf1.toBelow HB8.out.size (fun q hq => by have := (hlt q hq).1; omega))
       have HT : Hid (TwoPost w (.returned (.tuple #[.slice (some ⟨g, 0, none⟩) L.length cp, v'])) w9) := two_post (c := w.heap.size) (a := a) (len := len) (cap := cap) hs1 HB9.out h61 HWD.out HA.2.2.1 HA.2.2.2 (fun z hz => by
         rcases List.mem_append.1 hz with h | h
         · exact HS8.out.zb z h
         · rw [List.mem_singleton.1 h]; exact hy) (by simp; omega)
       clear hown' hgrow hnil own8 HS8 HB8 HA HB9
       go_wp2
       refine bodyPost_ret (v := .tuple #[.slice (some ⟨g, 0, none⟩) L.length cp, v']) (by simp [results, Tryz.f52, go_sem]) rfl ?_
       exact HT.out
end Rm
end Go.Proofs.YtflhaiakhfmmmaaGreat
