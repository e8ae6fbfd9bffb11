/-
 The program hands a log out: the pages' sets and copies of their lists, in new memory.
-/
import Derived.Test.YtjnhniffgeepjaaGreatezg23
set_option linter.unusedVariables false
namespace Go.Proofs.YtjnhniffgeepjaaGreat
open Go.RowKit Go.Shelf
set_option maxRecDepth 100000
set_option linter.unusedVariables false
namespace Lo
open Kn (K okK)
open Lg
open Sg (NumsPost)
structure YSt (u0 : Value) (W : World) (B gb : Nat) (a : Option Addr) (c : Nat) (S : List Int) (vo : Option Addr) (vc : Nat) (T : List (List Int)) (f : At) : Prop where
 lt : gb < W.heap.size
 ty : ∃ cur, W.heap[gb]? = some (.cells cur 39)
 x0 : W.cell? ⟨gb, 0, none⟩ = some u0
 x1 : W.cell? ⟨gb, 1, none⟩ = some (.slice vo T.length vc)
 own : Memb.Own B W a c S
 ll : OwnLL B W (.slice vo T.length vc) T f
 ap : ∀ i, i < T.length → ∀ g, (f i).1 = some ⟨g, 0, none⟩ → a ≠ some ⟨g, 0, none⟩
section
variable {u0 : Value} {W : World} {B gb : Nat} {a : Option Addr} {c : Nat} {S : List Int} {vo : Option Addr} {vc : Nat} {T : List (List Int)} {f : At}
theorem YSt.below {W' : World} (s : YSt u0 W B gb a c S vo vc T f) (hb : Below W.heap.size W W') : YSt u0 W' B gb a c S vo vc T f := by
 have hg : W.grownBy W' none := ⟨hb.os, hb.tape, hb.output, hb.size, fun k hk _ => hb.block k hk⟩
 obtain ⟨cur, ht⟩ := s.ty
 refine ⟨Nat.lt_of_lt_of_le s.lt hb.size, ⟨cur, (hb.block gb s.lt).trans ht⟩, (hb.cell (p := ⟨gb, 0, none⟩) s.lt).trans s.x0, (hb.cell (p := ⟨gb, 1, none⟩) s.lt).trans s.x1, own_kept s.own hg (fun g e q => by cases q), ⟨?_, fun j hj => own_kept (s.ll.each j hj) hg (fun g e q => by cases q), s.ll.ap⟩, s.ap⟩
 exact World.ownsRow.kept s.ll.row hg (by cases hv : (Value.slice vo T.length vc).ownBlock <;> simp)
theorem y_seen {V3 : World} {o : Obj} {v3 : Value} {x : Int} (s : YSt u0 W B gb a c S vo vc T f) (hBW : B ≤ W.heap.size) (h3 : V3.ownsRow B 2 1 v3 (S.length + 1) (S.map (Value.int .i64) ++ [.int .i64 x])) (hg : (W.alloc o).grownBy V3 (Value.slice a S.length c).ownBlock) (hat : v3.ownBlock = (Value.slice a S.length c).ownBlock ∨ v3.ownBlock = some (W.alloc o).heap.size) :
   ∃ a3 c3, v3 = .slice a3 (S ++ [x]).length c3 ∧ YSt u0 V3 B gb a3 c3 (S ++ [x]) vo vc T f ∧ Below B W V3 := by
 have sA := s.below ((Below.refl _ W).alloc (Nat.le_refl _) o)
 have hlt := sA.lt
 have hrow : ∀ k, (Value.slice a S.length c).ownBlock = some k → B ≤ k := fun k hk => (World.ownsRow.lt sA.own k hk).1
 have hnx : (Value.slice a S.length c).ownBlock ≠ some gb := ty_ne sA.own (by decide) sA.ty
 have hblk : V3.heap[gb]? = (W.alloc o).heap[gb]? := hg.block gb hlt (fun e => hnx e.symm)
 have hty : ∃ cur, V3.heap[gb]? = some (.cells cur 39) := by obtain ⟨cur, h⟩ := sA.ty; exact ⟨cur, hblk.trans h⟩
 obtain ⟨g3, c3, e3⟩ : ∃ g3 c3, v3 = .slice (some ⟨g3, 0, none⟩) (S ++ [x]).length c3 := by
   rcases h3.2 with ⟨_, e⟩ | ⟨g, c, cur, e, _⟩
   · omega
   · exact ⟨g, c, by rw [e]; simp⟩
 subst e3
 have h3' : Memb.Own B V3 (some ⟨g3, 0, none⟩) c3 (S ++ [x]) := by
   unfold Memb.Own
   rw [List.map_append, List.length_append, List.length_singleton]
   rw [List.length_append, List.length_singleton] at h3
   exact h3
 have hE : ∀ i, i < T.length → Memb.Own B V3 (f i).1 (f i).2 (T.getD i []) := fun i hi => own_kept (sA.ll.each i hi) hg (fun g e q => by
   have h5 := s.ap i hi g e
   rcases (sA.own).2 with ⟨e6, _⟩ | ⟨g6, c6, cur6, e6, _⟩
   · rw [e6] at q; simp [Value.ownBlock] at q
   · injection e6 with e6 _ _
     rw [e6] at q; simp [Value.ownBlock] at q
     rw [e6] at h5; exact h5 (by rw [q]))
 have hR : V3.ownsRow B 23 1 (.slice vo T.length vc) T.length (vals f T) := World.ownsRow.kept sA.ll.row hg (by
   cases hv : (Value.slice vo T.length vc).ownBlock with
   | none => exact .inl rfl
   | some k =>
     right
     intro q
     rcases (sA.own).2 with ⟨e6, _⟩ | ⟨g6, c6, cur6, e6, _⟩
     · rw [e6] at q; simp [Value.ownBlock] at q
     · injection e6 with e6 _ _
       have := rows_apart sA.own sA.ll.row g6 e6
       rw [e6] at q; simp [Value.ownBlock] at q
       rw [hv, q] at this; exact this rfl)
 have hB3 : Below B W V3 := ((Below.refl B W).alloc hBW o).grown hg (by simp; omega) hrow
 refine ⟨some ⟨g3, 0, none⟩, c3, rfl, ⟨?_, hty, (World.cell?_of_block (a := ⟨gb, 0, none⟩) hblk).trans sA.x0, (World.cell?_of_block (a := ⟨gb, 1, none⟩) hblk).trans sA.x1, h3', ⟨hR, hE, s.ll.ap⟩, ?_⟩, hB3⟩
 · have := hg.size; simp at this ⊢; have := s.lt; omega
 · intro i hi g e1 e2
   injection e2 with e2; injection e2 with e2; subst e2
   have h5 := s.ap i hi g3 e1
   have h6 := s.ll.each i hi
   rw [e1] at h6
   have h7 := (World.ownsRow.lt h6 g3 rfl).2
   rcases hat with q | q
   · simp [Value.ownBlock] at q
     rcases (sA.own).2 with ⟨e6, _⟩ | ⟨g6, c6, cur6, e6, _⟩
     · injection e6 with e6 _ _; rw [e6] at q; simp at q
     · injection e6 with e6 _ _
       rw [e6] at q h5; simp at q; exact h5 (by rw [q])
   · simp [Value.ownBlock] at q; omega
theorem y_told {V1 V3 : World} {o : Obj} {v3 : Value} {ro : Option Addr} {rc : Nat} {l : List Int} (s : YSt u0 W B gb a c S vo vc T f) (hBW : B ≤ W.heap.size) (hb1 : Below W.heap.size W V1) (hO : Memb.Own W.heap.size V1 ro rc l) (h3 : V3.ownsRow B 23 1 v3 (T.length + 1) (vals f T ++ [.slice ro l.length rc])) (hg : (V1.alloc o).grownBy V3 (Value.slice vo T.length vc).ownBlock) :
   ∃ vo3 vc3, v3 = .slice vo3 (T ++ [l]).length vc3 ∧ Memb.Own B V3 a c S ∧ OwnLL B V3 (.slice vo3 (T ++ [l]).length vc3) (T ++ [l]) (put f T.length (ro, rc)) ∧ (∀ i, i < (T ++ [l]).length → ∀ g, (put f T.length (ro, rc) i).1 = some ⟨g, 0, none⟩ → a ≠ some ⟨g, 0, none⟩) ∧ Below B W V3 := by
 have hbA : Below W.heap.size W (V1.alloc o) := hb1.alloc hb1.size o
 have sA := s.below hbA
 have hrow : ∀ k, (Value.slice vo T.length vc).ownBlock = some k → B ≤ k := fun k hk => (World.ownsRow.lt sA.ll.row k hk).1
 obtain ⟨g3, c3, e3⟩ : ∃ g3 c3, v3 = .slice (some ⟨g3, 0, none⟩) (T ++ [l]).length c3 := by
   rcases h3.2 with ⟨_, e⟩ | ⟨g, c, cur, e, _⟩
   · omega
   · exact ⟨g, c, by rw [e]; simp⟩
 subst e3
 have hOA : Memb.Own B (V1.alloc o) ro rc l := own_lift (own_kept hO (World.grownBy_alloc V1 o none) (fun g e q => by cases q)) hBW
 have hO3 : Memb.Own B V3 ro rc l := own_kept hOA hg (rows_apart hOA sA.ll.row)
 have hS3 : Memb.Own B V3 a c S := own_kept sA.own hg (rows_apart sA.own sA.ll.row)
 have hE : ∀ i, i < T.length → Memb.Own B V3 (f i).1 (f i).2 (T.getD i []) := fun i hi => own_kept (sA.ll.each i hi) hg (rows_apart (sA.ll.each i hi) sA.ll.row)
 have hB3 : Below B W V3 := (hbA.mono hBW).grown hg (by have := hbA.size; omega) hrow
 have hold : ∀ {a' : Option Addr} {c' : Nat} {l' : List Int}, Memb.Own B W a' c' l' → ∀ g, a' = some ⟨g, 0, none⟩ → g < W.heap.size := fun {a' c' l'} h g e => by subst e; exact (World.ownsRow.lt h g rfl).2
 have hnew : ∀ g, ro = some ⟨g, 0, none⟩ → W.heap.size ≤ g := fun g e => by subst e; exact (World.ownsRow.lt hO g rfl).1
 refine ⟨some ⟨g3, 0, none⟩, c3, rfl, hS3, ⟨?_, ?_, ?_⟩, ?_, hB3⟩
 · rw [vals_snoc f T l (ro, rc)]
   rw [List.length_append, List.length_singleton] at h3 ⊢
   exact h3
 · intro i hi
   rw [List.length_append, List.length_singleton] at hi
   unfold put
   by_cases e : i = T.length
   · subst e; rw [if_pos rfl, getD_last]; exact hO3
   · rw [if_neg e, getD_snoc _ _ i (by omega)]; exact hE i (by omega)
 · intro i j hij hj g e1 e2
   rw [List.length_append, List.length_singleton] at hj
   unfold put at e1 e2
   rw [if_neg (by omega)] at e1
   by_cases e : j = T.length
   · rw [if_pos e] at e2
     have := hold (s.ll.each i (by omega)) g e1
     have := hnew g e2
     omega
   · rw [if_neg e] at e2; exact s.ll.ap i j hij (by omega) g e1 e2
 · intro i hi g e1 e2
   rw [List.length_append, List.length_singleton] at hi
   unfold put at e1
   by_cases e : i = T.length
   · rw [if_pos e] at e1
     have := hold s.own g e2
     have := hnew g e1
     omega
   · rw [if_neg e] at e1; exact s.ap i (by omega) g e1 e2
end
theorem empty_ll (W : World) : (W.alloc (.cells #[] 23)).ownsRow W.heap.size 23 1 (.slice (some ⟨W.heap.size, 0, none⟩) 0 0) 0 [] := World.ownsRow_lit W #[] 0 (Nat.le_refl _) (by unfold maxLen; omega) rfl
theorem two_new (w : World) (o : Obj) : w.heap.size + 1 < ((w.alloc o).alloc (.cells #[.slice none 0 0, .slice none 0 0] 39)).heap.size ∧ ((w.alloc o).alloc (.cells #[.slice none 0 0, .slice none 0 0] 39)).cell? ⟨w.heap.size + 1, 0, none⟩ = some (.slice none 0 0) ∧ ((w.alloc o).alloc (.cells #[.slice none 0 0, .slice none 0 0] 39)).cell? ⟨w.heap.size + 1, 1, none⟩ = some (.slice none 0 0) ∧ (∀ j, ((w.alloc o).alloc (.cells #[.slice none 0 0, .slice none 0 0] 39)).frozen? ⟨w.heap.size + 1, j, none⟩ = (w.alloc o |>.alloc (.cells #[.slice none 0 0, .slice none 0 0] 39)).frozen? ⟨w.heap.size + 1, j, none⟩) ∧ Below w.heap.size w ((w.alloc o).alloc (.cells #[.slice none 0 0, .slice none 0 0] 39)) := by
 have e : (w.alloc o).heap.size = w.heap.size + 1 := by simp
 refine ⟨by simp, ?_, ?_, fun j => rfl, ((Below.refl _ _).alloc (Nat.le_refl _) _).alloc (by simp) _⟩
 · rw [← e]; simp
 · rw [← e]; simp
theorem two_fr (w : World) (o : Obj) : ((w.alloc o).alloc (.cells #[.slice none 0 0, .slice none 0 0] 39)).frozen? ⟨w.heap.size + 1, 0, none⟩ = false ∧ ((w.alloc o).alloc (.cells #[.slice none 0 0, .slice none 0 0] 39)).frozen? ⟨w.heap.size + 1, 1, none⟩ = false := by
 have e : (w.alloc o).heap.size = w.heap.size + 1 := by simp
 rw [← e]; exact ⟨by simp, by simp⟩
theorem put_keep {W : World} {p gb r : Nat} {a b x y u v : Value} (h1 : gb ≠ r) (h2 : p ≠ r) (h : W.cell? ⟨gb, 0, none⟩ = some a ∧ W.cell? ⟨gb, 1, none⟩ = some b ∧ W.cell? ⟨p, 1, none⟩ = some u ∧ W.cell? ⟨p, 2, none⟩ = some v) :
   ((W.setCell ⟨r, 0, none⟩ x).setCell ⟨r, 1, none⟩ y).cell? ⟨gb, 0, none⟩ = some a ∧ ((W.setCell ⟨r, 0, none⟩ x).setCell ⟨r, 1, none⟩ y).cell? ⟨gb, 1, none⟩ = some b ∧ ((W.setCell ⟨r, 0, none⟩ x).setCell ⟨r, 1, none⟩ y).cell? ⟨p, 1, none⟩ = some u ∧ ((W.setCell ⟨r, 0, none⟩ x).setCell ⟨r, 1, none⟩ y).cell? ⟨p, 2, none⟩ = some v := by
 have k : ∀ (b j : Nat), b ≠ r → ((W.setCell ⟨r, 0, none⟩ x).setCell ⟨r, 1, none⟩ y).cell? ⟨b, j, none⟩ = W.cell? ⟨b, j, none⟩ := fun b j hb => World.cell?_of_block (a := ⟨b, j, none⟩) ((Below.heap_setCell _ ⟨r, 1, none⟩ _ _ hb).trans (Below.heap_setCell _ ⟨r, 0, none⟩ _ _ hb))
 exact ⟨(k _ _ h1).trans h.1, (k _ _ h1).trans h.2.1, (k _ _ h2).trans h.2.2.1, (k _ _ h2).trans h.2.2.2⟩
set_option maxHeartbeats 1600000 in
theorem handed0 (w : World) : Calls Tryz.prog 187 #[.agg #[]] w (CopyPost [] [] w) := by
 have H2 := two_new w (.cells #[] 97)
 have H3 := two_fr w (.cells #[] 97)
 go_enter Tryz.func187, Tryz.ntmps187
 go_upto_region 1 with fail
 generalize (w.alloc (.cells #[] 97)).alloc (.cells #[.slice none 0 0, .slice none 0 0] 39) = V at H2 H3 ⊢
 obtain ⟨hlt, r0, r1, _, hb⟩ := H2
 obtain ⟨f0, f1⟩ := H3
 have hb1 : Below V.heap.size V (V.alloc (.cells #[] 2)) := (Below.refl _ _).alloc (Nat.le_refl _) _
 have hb2 : Below V.heap.size V ((V.alloc (.cells #[] 2)).alloc (.cells #[] 23)) := hb1.alloc (by simp) _
 have s0 := (hb2.cell (p := ⟨w.heap.size + 1, 0, none⟩) hlt).trans r0
 have s1 := (hb2.cell (p := ⟨w.heap.size + 1, 1, none⟩) hlt).trans r1
 have g0 := (hb2.frozen (p := ⟨w.heap.size + 1, 0, none⟩) hlt).trans f0
 have g1 := (hb2.frozen (p := ⟨w.heap.size + 1, 1, none⟩) hlt).trans f1
 have hBW := hb.trans (hb2.mono hb.size)
 have hown : Memb.Own V.heap.size ((V.alloc (.cells #[] 2)).alloc (.cells #[] 23)) (some ⟨V.heap.size, 0, none⟩) 0 [] := own_kept (Memb.own_empty V) (World.grownBy_alloc _ _ none) (fun g e q => by cases q)
 have hrow := empty_ll (V.alloc (.cells #[] 2))
 have esz : (V.alloc (.cells #[] 2)).heap.size = V.heap.size + 1 := by simp
 rw [esz] at hrow
 obtain ⟨k1, k2, k3, k4, k5⟩ := fin_put (x := .slice (some ⟨V.heap.size, 0, none⟩) 0 0) (y := .slice (some ⟨V.heap.size + 1, 0, none⟩) 0 0) (Nat.le_succ w.heap.size) hBW s0 s1 g1
 have hg := grown_two ((V.alloc (.cells #[] 2)).alloc (.cells #[] 23)) (w.heap.size + 1) (.slice (some ⟨V.heap.size, 0, none⟩) 0 0) (.slice (some ⟨V.heap.size + 1, 0, none⟩) 0 0)
 have HF : Hid (_) := own_lift (row_kept hown hg hlt) hb.size
 have HR : Hid (OwnLL w.heap.size _ (.slice (some ⟨V.heap.size + 1, 0, none⟩) ([] : List (List Int)).length 0) [] (fun _ => (none, 0))) := ⟨row_lift (B' := w.heap.size) (row_kept hrow hg (by omega)) (by have := hb.size; omega), fun i hi => by simp at hi, fun i j hij hj => by simp at hj⟩
 have HK : Hid (_) := k5
 clear hown hrow hg k5 hBW hb hb1 r0 r1 f0 f1
 go_wp2_with fail
 refine bodyPost_ret (v := .agg #[.slice (some ⟨V.heap.size, 0, none⟩) 0 0, .slice (some ⟨V.heap.size + 1, 0, none⟩) 0 0]) (by simp [results, Tryz.f187, go_sem, k3, k4]) rfl ?_
 exact ⟨_, 0, some ⟨V.heap.size + 1, 0, none⟩, 0, fun _ => (none, 0), rfl, HF.out, HR.out, fun i hi => by simp at hi, HK.out⟩
set_option maxHeartbeats 6400000 in
theorem handedB {Bp : Nat} (s : Int) (ta : Option Addr) (tc : Nat) (tl : List Int) (S : List Int) (T : List (List Int)) (w : World) (hta : Memb.Own Bp w ta tc tl) (htl : tl.length ≤ 3660) (hS : S.length ≤ 40) (hT : T.length ≤ 40) (hcall : ∀ W, Below w.heap.size w W → Calls Tryz.prog 187 #[.agg #[]] W (CopyPost S T W)) :
   Calls Tryz.prog 190 #[.agg #[.iface 97 (.agg #[]), .int .i64 s, .slice ta tl.length tc]] w (CopyPost (S ++ [s]) (T ++ [tl]) w) := by
 obtain ⟨i0, hi0, hz0, hz1, hz2⟩ := info_parts Memb.info2
 obtain ⟨j0, hj0, hy0, hy1, hy2⟩ := info_parts infoS
 have H2 := two_new w (.cells #[.iface 97 (.agg #[]), .int .i64 s, .slice ta tl.length tc] 102)
 have H3 := two_fr w (.cells #[.iface 97 (.agg #[]), .int .i64 s, .slice ta tl.length tc] 102)
 have HP0 : Hid (∀ j v, (#[.iface 97 (.agg #[]), .int .i64 s, .slice ta tl.length tc] : Array Value)[j]? = some v → ((w.alloc (.cells #[.iface 97 (.agg #[]), .int .i64 s, .slice ta tl.length tc] 102)).alloc (.cells #[.slice none 0 0, .slice none 0 0] 39)).cell? ⟨w.heap.size, j, none⟩ = some v) := fun j v hj => by
   rw [World.cell?_alloc_lt _ _ _ (by simp)]
   match j, hj with
   | 0, hj => simp at hj; subst hj; simp
   | 1, hj => simp at hj; subst hj; simp
   | 2, hj => simp at hj; subst hj; simp
   | j + 3, hj => simp at hj
 have HTA : Hid (∀ W, Below w.heap.size w W → Memb.Own Bp W ta tc tl) := fun W hW => Lst.own_below hta hW
 have HCA : Hid (_) := hcall
 clear hta hcall
 go_enter Tryz.func190, Tryz.ntmps190
 go_upto_region 1 with fail
 generalize (w.alloc (.cells #[.iface 97 (.agg #[]), .int .i64 s, .slice ta tl.length tc] 102)).alloc (.cells #[.slice none 0 0, .slice none 0 0] 39) = V at H2 H3 HP0 ⊢
 obtain ⟨hlt, r0, r1, _, hb⟩ := H2
 obtain ⟨f0, f1⟩ := H3
 have HBV : Hid (Below w.heap.size w V) := hb
 have HLT : Hid (w.heap.size + 1 < V.heap.size) := hlt
 have HPC : Hid (∀ W, Below V.heap.size V W → W.cell? ⟨w.heap.size, 1, none⟩ = some (.int .i64 s) ∧ W.cell? ⟨w.heap.size, 2, none⟩ = some (.slice ta tl.length tc)) := fun W hW => ⟨(hW.cell (p := ⟨w.heap.size, 1, none⟩) (show w.heap.size < V.heap.size by omega)).trans (HP0.out 1 _ rfl), (hW.cell (p := ⟨w.heap.size, 2, none⟩) (show w.heap.size < V.heap.size by omega)).trans (HP0.out 2 _ rfl)⟩
 have HRC : Hid (∀ W, Below V.heap.size V W → W.cell? ⟨w.heap.size + 1, 0, none⟩ = some (.slice none 0 0) ∧ W.cell? ⟨w.heap.size + 1, 1, none⟩ = some (.slice none 0 0) ∧ W.frozen? ⟨w.heap.size + 1, 0, none⟩ = false ∧ W.frozen? ⟨w.heap.size + 1, 1, none⟩ = false) := fun W hW => ⟨(hW.cell (p := ⟨w.heap.size + 1, 0, none⟩) hlt).trans r0, (hW.cell (p := ⟨w.heap.size + 1, 1, none⟩) hlt).trans r1, (hW.frozen (p := ⟨w.heap.size + 1, 0, none⟩) hlt).trans f0, (hW.frozen (p := ⟨w.heap.size + 1, 1, none⟩) hlt).trans f1⟩
 have a0 := HP0.out 0 _ rfl
 have hcall := HCA.out V HBV.out
 clear hb hlt r0 r1 f0 f1 HP0 HCA
 go_wp2_with fail
 refine hcall.mono ?_
 rintro e w2 ⟨so, sc, vo, vc, f, rfl, hO, hL, hA, hb2⟩
 have HX3 : Hid (XSt (w2.alloc (.cells #[.slice so S.length sc, .slice vo T.length vc] 39)) V.heap.size w2.heap.size so sc S vo vc T f) := x_new hb2.size hO hL hA
 have HB3 : Hid (Below V.heap.size V (w2.alloc (.cells #[.slice so S.length sc, .slice vo T.length vc] 39))) := hb2.alloc hb2.size _
 clear hcall hO hL hA hb2 a0
 go_upto_region 2 with fail
 generalize w2.alloc (.cells #[.slice so S.length sc, .slice vo T.length vc] 39) = W3 at HX3 HB3 ⊢
 have HGB : Hid (V.heap.size ≤ w2.heap.size) := HX3.out.bx
 generalize w2.heap.size = gb at HX3 HGB ⊢
 have HY3 : Hid (YSt (.slice so S.length sc) W3.drew V.heap.size gb so sc S vo vc T f) := (⟨HX3.out.lt, HX3.out.ty, HX3.out.x0, HX3.out.x1, HX3.out.own, HX3.out.ll, HX3.out.ap⟩ : YSt (.slice so S.length sc) W3 V.heap.size gb so sc S vo vc T f).below (Below.refl _ _).drew
 have HBD : Hid (Below V.heap.size V W3.drew) := HB3.out.drew
 have HROW : Hid ((W3.drew.alloc (.cells #[.int .i64 s] 2)).ownsRow V.heap.size 2 1 (.slice so S.length sc) S.length (S.map (Value.int .i64))) := World.ownsRow.alloc HY3.out.own _
 have HNEW : Hid (∀ (j : Nat) u, ([.int .i64 s] : List Value)[j]? = some u → (W3.drew.alloc (.cells #[.int .i64 s] 2)).cell? ((⟨W3.drew.heap.size, 0, none⟩ : Addr).add j) = some u) := Sg.one_new W3.drew s _
 have HSC : Hid (∀ (X : World) (a : Option Addr) (c : Nat) (S' : List Int), YSt (.slice so S.length sc) X V.heap.size gb a c S' vo vc T f → Below V.heap.size V X → X.cell? ⟨gb, 0, none⟩ = some (.slice so S.length sc) ∧ X.cell? ⟨gb, 1, none⟩ = some (.slice vo T.length vc) ∧ X.cell? ⟨w.heap.size, 1, none⟩ = some (.int .i64 s) ∧ X.cell? ⟨w.heap.size, 2, none⟩ = some (.slice ta tl.length tc)) := fun X a c S' hY hB => ⟨hY.x0, hY.x1, (HPC.out X hB).1, (HPC.out X hB).2⟩
 have S3 := HSC.out _ _ _ _ HY3.out HBD.out
 have S3a := HSC.out _ _ _ _ (HY3.out.below ((Below.refl _ _).alloc (Nat.le_refl _) (.cells #[.int .i64 s] 2))) (HBD.out.alloc HBD.out.size _)
 have HSZ : Hid (V.heap.size ≤ W3.heap.size ∧ V.heap.size ≤ W3.drew.heap.size ∧ V.heap.size ≤ (W3.drew.alloc (.cells #[.int .i64 s] 2)).heap.size) := ⟨HB3.out.size, HBD.out.size, by have := HBD.out.size; simp at this ⊢; omega⟩
 have HVL : Hid ((vals f T).length = T.length) := vals_len f T
 generalize hS2 : S ++ [s] = S2
 have HS2 : Hid (S ++ [s] = S2) := hS2
 generalize hT2 : T ++ [tl] = T2
 have HT2 : Hid (T ++ [tl] = T2) := hT2
 have x0 := HX3.out.x0
 have x1 := HX3.out.x1
 obtain ⟨p1, p2⟩ := HPC.out W3 HB3.out
 clear hS2 hT2 HX3
 go_region_held3 (fun X => X.cell? ⟨gb, 0, none⟩ = some (.slice so S.length sc) ∧ X.cell? ⟨gb, 1, none⟩ = some (.slice vo T.length vc) ∧ X.cell? ⟨w.heap.size, 1, none⟩ = some (.int .i64 s) ∧ X.cell? ⟨w.heap.size, 2, none⟩ = some (.slice ta tl.length tc)) (first | exact S7 | exact S6 | exact S5a | exact S5 | exact S4 | exact S3a | exact S3 | go_keep) (first
   | (refine step_own_at rfl (.tmp 8) (.tmp 11) 23 rfl V.heap.size 2 i0 (.int .i64 0) 1 8 Tryz.underlying23 hi0 hz0 hz1 hz2 rfl (by decide) (.slice so S.length sc) S.length (S.map (Value.int .i64)) (by simp [Act.eval]) HROW.out ⟨W3.drew.heap.size, 0, none⟩ 1 1 [.int .i64 s] (by simp [Act.eval]) rfl HNEW.out (Sg.one_one s) (by unfold maxLen; omega) (by omega) HSZ.out.2.2 ?_
      intro v4 V4 h4 hg4 hat4
      obtain ⟨a4, c4, rfl, hY4, hB4⟩ := y_seen HY3.out HSZ.out.2.1 h4 hg4 hat4
      have HY4 : Hid (YSt (.slice so S.length sc) V4 V.heap.size gb a4 c4 (S ++ [s]) vo vc T f) := hY4
      have HB4 : Hid (Below V.heap.size V V4) := HBD.out.trans hB4
      clear h4 hg4 hat4 hY4 hB4
      rw [HS2.out] at HY4
      rw [HS2.out]
      have S4 := HSC.out _ _ _ _ HY4.out HB4.out)
   | (refine step_own_at rfl (.tmp 14) (.tmp 18) 34 rfl V.heap.size 23 j0 (.slice none 0 0) 1 24 Tryz.underlying34 hj0 hy0 hy1 hy2 rfl (by decide) (.slice vo T.length vc) T.length (vals f T) (by simp [Act.eval]) (HR5.out) ⟨V5.heap.size, 0, none⟩ 1 1 [.slice ro tl.length rc] (by simp [Act.eval]) rfl (one_newV V5 _ _) (one_sl _ _ _) (by unfold maxLen; omega) (by omega) HZ5.out ?_
      intro v6 V6 h6 hg6 _
      have hnx6 : (Value.slice vo T.length vc).ownBlock ≠ some gb := ty_ne HY4.out.ll.row (by decide) HY4.out.ty
      obtain ⟨vo6, vc6, rfl, hO6, hL6, hA6, hB6⟩ := y_told HY4.out HB4.out.size HB5.out HO5.out h6 hg6
      have HB6 : Hid (Below V.heap.size V V6) := HB4.out.trans hB6
      have hblk6 : V6.heap[gb]? = (V5.alloc (.cells #[.slice ro tl.length rc] 23)).heap[gb]? := hg6.block gb (by have := HY4.out.lt; have := HB5.out.size; simp; omega) (fun e => hnx6 e.symm)
      obtain ⟨q1, q2⟩ := HPC.out V6 HB6.out
      have S6 : V6.cell? ⟨gb, 0, none⟩ = some (.slice so S.length sc) ∧ V6.cell? ⟨gb, 1, none⟩ = some (.slice vo T.length vc) ∧ V6.cell? ⟨w.heap.size, 1, none⟩ = some (.int .i64 s) ∧ V6.cell? ⟨w.heap.size, 2, none⟩ = some (.slice ta tl.length tc) := ⟨(World.cell?_of_block (a := ⟨gb, 0, none⟩) hblk6).trans S5a.1, (World.cell?_of_block (a := ⟨gb, 1, none⟩) hblk6).trans S5a.2.1, q1, q2⟩
      obtain ⟨r0, r1, g0, g1⟩ := HRC.out V6 HB6.out
      obtain ⟨k1, k2, k3, k4, k5⟩ := fin_put (x := .slice a4 S2.length c4) (y := .slice vo6 T2.length vc6) (Nat.le_succ w.heap.size) (HBV.out.trans (HB6.out.mono HBV.out.size)) r0 r1 g1
      have HK : Hid (_) := k5
      have HK34 : Hid (_) := And.intro k3 k4
      clear k5 k3 k4
      have S7 := put_keep (r := w.heap.size + 1) (x := .slice a4 S2.length c4) (y := .slice vo6 T2.length vc6) (by have := HGB.out; have := HLT.out; omega) (by omega) S6
      have HF6 : Hid (Memb.Own V.heap.size V6 a4 c4 S2 ∧ OwnLL V.heap.size V6 (.slice vo6 (T ++ [tl]).length vc6) (T ++ [tl]) (put f T.length (ro, rc)) ∧ (∀ i, i < (T ++ [tl]).length → ∀ g, (put f T.length (ro, rc) i).1 = some ⟨g, 0, none⟩ → a4 ≠ some ⟨g, 0, none⟩)) := ⟨hO6, hL6, hA6⟩
      rw [HT2.out] at HF6
      rw [HT2.out]
      clear h6 hg6 hO6 hL6 hA6 hB6 hnx6 hblk6 q1 q2)
   | (go_at_call 194
      refine (clone ta tc tl V4 (by omega) (HTA.out V4 (HBV.out.trans (HB4.out.mono HBV.out.size)))).mono ?_
      rintro e V5 ⟨ro, rc, rfl, hO5, hb5⟩
      have HO5 : Hid (Memb.Own V4.heap.size V5 ro rc tl) := hO5
      have HB5 : Hid (Below V4.heap.size V4 V5) := hb5
      have hY5 := HY4.out.below (hb5.alloc hb5.size (.cells #[.slice ro tl.length rc] 23))
      have HR5 : Hid ((V5.alloc (.cells #[.slice ro tl.length rc] 23)).ownsRow V.heap.size 23 1 (.slice vo T.length vc) T.length (vals f T)) := hY5.ll.row
      have HZ5 : Hid (V.heap.size ≤ (V5.alloc (.cells #[.slice ro tl.length rc] 23)).heap.size) := Nat.le_trans HB4.out.size (Nat.le_trans hb5.size (by simp))
      have S5 := HSC.out _ _ _ _ (HY4.out.below hb5) (HB4.out.trans (hb5.mono HB4.out.size))
      have S5a := HSC.out _ _ _ _ hY5 (HB4.out.trans ((hb5.alloc hb5.size _).mono HB4.out.size))
      clear hO5 hb5 hY5)
   | fail)
 all_goals
   have hgt := grown_two V6 (w.heap.size + 1) (.slice a4 S2.length c4) (.slice vo6 T2.length vc6)
   have HE : Hid (_) := own_lift (row_kept HF6.out.1 hgt HLT.out) HBV.out.size
   have HE2 : Hid (_) := ll_lift (ll_kept HF6.out.2.1 hgt HLT.out) HBV.out.size
   obtain ⟨k3, k4⟩ := HK34.out
   clear hgt
   go_wp2_with fail
   refine bodyPost_ret (v := .agg #[.slice a4 S2.length c4, .slice vo6 T2.length vc6]) (by simp [results, Tryz.f190, go_sem, k3, k4]) rfl ?_
   rw [HS2.out, HT2.out]
   exact ⟨a4, c4, vo6, vc6, _, rfl, HE.out, HE2.out, HF6.out.2.2, HK.out⟩
set_option maxHeartbeats 6400000 in
theorem handedP {Bp : Nat} (x : Value) (s : Int) (ta : Option Addr) (tc : Nat) (tl : List Int) (S : List Int) (T : List (List Int)) (w : World) (hta : Memb.Own Bp w ta tc tl) (htl : tl.length ≤ 3660) (hS : S.length ≤ 40) (hT : T.length ≤ 40) (hcall : ∀ W, Below w.heap.size w W → Calls Tryz.prog 190 #[x] W (CopyPost S T W)) :
   Calls Tryz.prog 190 #[.agg #[.iface 102 x, .int .i64 s, .slice ta tl.length tc]] w (CopyPost (S ++ [s]) (T ++ [tl]) w) := by
 obtain ⟨i0, hi0, hz0, hz1, hz2⟩ := info_parts Memb.info2
 obtain ⟨j0, hj0, hy0, hy1, hy2⟩ := info_parts infoS
 have H2 := two_new w (.cells #[.iface 102 x, .int .i64 s, .slice ta tl.length tc] 102)
 have H3 := two_fr w (.cells #[.iface 102 x, .int .i64 s, .slice ta tl.length tc] 102)
 have HP0 : Hid (∀ j v, (#[.iface 102 x, .int .i64 s, .slice ta tl.length tc] : Array Value)[j]? = some v → ((w.alloc (.cells #[.iface 102 x, .int .i64 s, .slice ta tl.length tc] 102)).alloc (.cells #[.slice none 0 0, .slice none 0 0] 39)).cell? ⟨w.heap.size, j, none⟩ = some v) := fun j v hj => by
   rw [World.cell?_alloc_lt _ _ _ (by simp)]
   match j, hj with
   | 0, hj => simp at hj; subst hj; simp
   | 1, hj => simp at hj; subst hj; simp
   | 2, hj => simp at hj; subst hj; simp
   | j + 3, hj => simp at hj
 have HTA : Hid (∀ W, Below w.heap.size w W → Memb.Own Bp W ta tc tl) := fun W hW => Lst.own_below hta hW
 have HCA : Hid (_) := hcall
 clear hta hcall
 go_enter Tryz.func190, Tryz.ntmps190
 go_upto_region 1 with fail
 generalize (w.alloc (.cells #[.iface 102 x, .int .i64 s, .slice ta tl.length tc] 102)).alloc (.cells #[.slice none 0 0, .slice none 0 0] 39) = V at H2 H3 HP0 ⊢
 obtain ⟨hlt, r0, r1, _, hb⟩ := H2
 obtain ⟨f0, f1⟩ := H3
 have HBV : Hid (Below w.heap.size w V) := hb
 have HLT : Hid (w.heap.size + 1 < V.heap.size) := hlt
 have HPC : Hid (∀ W, Below V.heap.size V W → W.cell? ⟨w.heap.size, 1, none⟩ = some (.int .i64 s) ∧ W.cell? ⟨w.heap.size, 2, none⟩ = some (.slice ta tl.length tc)) := fun W hW => ⟨(hW.cell (p := ⟨w.heap.size, 1, none⟩) (show w.heap.size < V.heap.size by omega)).trans (HP0.out 1 _ rfl), (hW.cell (p := ⟨w.heap.size, 2, none⟩) (show w.heap.size < V.heap.size by omega)).trans (HP0.out 2 _ rfl)⟩
 have HRC : Hid (∀ W, Below V.heap.size V W → W.cell? ⟨w.heap.size + 1, 0, none⟩ = some (.slice none 0 0) ∧ W.cell? ⟨w.heap.size + 1, 1, none⟩ = some (.slice none 0 0) ∧ W.frozen? ⟨w.heap.size + 1, 0, none⟩ = false ∧ W.frozen? ⟨w.heap.size + 1, 1, none⟩ = false) := fun W hW => ⟨(hW.cell (p := ⟨w.heap.size + 1, 0, none⟩) hlt).trans r0, (hW.cell (p := ⟨w.heap.size + 1, 1, none⟩) hlt).trans r1, (hW.frozen (p := ⟨w.heap.size + 1, 0, none⟩) hlt).trans f0, (hW.frozen (p := ⟨w.heap.size + 1, 1, none⟩) hlt).trans f1⟩
 have a0 := HP0.out 0 _ rfl
 have hcall := HCA.out V HBV.out
 clear hb hlt r0 r1 f0 f1 HP0 HCA
 go_wp2_with fail
 refine hcall.mono ?_
 rintro e w2 ⟨so, sc, vo, vc, f, rfl, hO, hL, hA, hb2⟩
 have HX3 : Hid (XSt (w2.alloc (.cells #[.slice so S.length sc, .slice vo T.length vc] 39)) V.heap.size w2.heap.size so sc S vo vc T f) := x_new hb2.size hO hL hA
 have HB3 : Hid (Below V.heap.size V (w2.alloc (.cells #[.slice so S.length sc, .slice vo T.length vc] 39))) := hb2.alloc hb2.size _
 clear hcall hO hL hA hb2 a0
 go_upto_region 2 with fail
 generalize w2.alloc (.cells #[.slice so S.length sc, .slice vo T.length vc] 39) = W3 at HX3 HB3 ⊢
 have HGB : Hid (V.heap.size ≤ w2.heap.size) := HX3.out.bx
 generalize w2.heap.size = gb at HX3 HGB ⊢
 have HY3 : Hid (YSt (.slice so S.length sc) W3.drew V.heap.size gb so sc S vo vc T f) := (⟨HX3.out.lt, HX3.out.ty, HX3.out.x0, HX3.out.x1, HX3.out.own, HX3.out.ll, HX3.out.ap⟩ : YSt (.slice so S.length sc) W3 V.heap.size gb so sc S vo vc T f).below (Below.refl _ _).drew
 have HBD : Hid (Below V.heap.size V W3.drew) := HB3.out.drew
 have HROW : Hid ((W3.drew.alloc (.cells #[.int .i64 s] 2)).ownsRow V.heap.size 2 1 (.slice so S.length sc) S.length (S.map (Value.int .i64))) := World.ownsRow.alloc HY3.out.own _
 have HNEW : Hid (∀ (j : Nat) u, ([.int .i64 s] : List Value)[j]? = some u → (W3.drew.alloc (.cells #[.int .i64 s] 2)).cell? ((⟨W3.drew.heap.size, 0, none⟩ : Addr).add j) = some u) := Sg.one_new W3.drew s _
 have HSC : Hid (∀ (X : World) (a : Option Addr) (c : Nat) (S' : List Int), YSt (.slice so S.length sc) X V.heap.size gb a c S' vo vc T f → Below V.heap.size V X → X.cell? ⟨gb, 0, none⟩ = some (.slice so S.length sc) ∧ X.cell? ⟨gb, 1, none⟩ = some (.slice vo T.length vc) ∧ X.cell? ⟨w.heap.size, 1, none⟩ = some (.int .i64 s) ∧ X.cell? ⟨w.heap.size, 2, none⟩ = some (.slice ta tl.length tc)) := fun X a c S' hY hB => ⟨hY.x0, hY.x1, (HPC.out X hB).1, (HPC.out X hB).2⟩
 have S3 := HSC.out _ _ _ _ HY3.out HBD.out
 have S3a := HSC.out _ _ _ _ (HY3.out.below ((Below.refl _ _).alloc (Nat.le_refl _) (.cells #[.int .i64 s] 2))) (HBD.out.alloc HBD.out.size _)
 have HSZ : Hid (V.heap.size ≤ W3.heap.size ∧ V.heap.size ≤ W3.drew.heap.size ∧ V.heap.size ≤ (W3.drew.alloc (.cells #[.int .i64 s] 2)).heap.size) := ⟨HB3.out.size, HBD.out.size, by have := HBD.out.size; simp at this ⊢; omega⟩
 have HVL : Hid ((vals f T).length = T.length) := vals_len f T
 generalize hS2 : S ++ [s] = S2
 have HS2 : Hid (S ++ [s] = S2) := hS2
 generalize hT2 : T ++ [tl] = T2
 have HT2 : Hid (T ++ [tl] = T2) := hT2
 have x0 := HX3.out.x0
 have x1 := HX3.out.x1
 obtain ⟨p1, p2⟩ := HPC.out W3 HB3.out
 clear hS2 hT2 HX3
 go_region_held3 (fun X => X.cell? ⟨gb, 0, none⟩ = some (.slice so S.length sc) ∧ X.cell? ⟨gb, 1, none⟩ = some (.slice vo T.length vc) ∧ X.cell? ⟨w.heap.size, 1, none⟩ = some (.int .i64 s) ∧ X.cell? ⟨w.heap.size, 2, none⟩ = some (.slice ta tl.length tc)) (first | exact S7 | exact S6 | exact S5a | exact S5 | exact S4 | exact S3a | exact S3 | go_keep) (first
   | (refine step_own_at rfl (.tmp 8) (.tmp 11) 23 rfl V.heap.size 2 i0 (.int .i64 0) 1 8 Tryz.underlying23 hi0 hz0 hz1 hz2 rfl (by decide) (.slice so S.length sc) S.length (S.map (Value.int .i64)) (by simp [Act.eval]) HROW.out ⟨W3.drew.heap.size, 0, none⟩ 1 1 [.int .i64 s] (by simp [Act.eval]) rfl HNEW.out (Sg.one_one s) (by unfold maxLen; omega) (by omega) HSZ.out.2.2 ?_
      intro v4 V4 h4 hg4 hat4
      obtain ⟨a4, c4, rfl, hY4, hB4⟩ := y_seen HY3.out HSZ.out.2.1 h4 hg4 hat4
      have HY4 : Hid (YSt (.slice so S.length sc) V4 V.heap.size gb a4 c4 (S ++ [s]) vo vc T f) := hY4
      have HB4 : Hid (Below V.heap.size V V4) := HBD.out.trans hB4
      clear h4 hg4 hat4 hY4 hB4
      rw [HS2.out] at HY4
      rw [HS2.out]
      have S4 := HSC.out _ _ _ _ HY4.out HB4.out)
   | (refine step_own_at rfl (.tmp 14) (.tmp 18) 34 rfl V.heap.size 23 j0 (.slice none 0 0) 1 24 Tryz.underlying34 hj0 hy0 hy1 hy2 rfl (by decide) (.slice vo T.length vc) T.length (vals f T) (by simp [Act.eval]) (HR5.out) ⟨V5.heap.size, 0, none⟩ 1 1 [.slice ro tl.length rc] (by simp [Act.eval]) rfl (one_newV V5 _ _) (one_sl _ _ _) (by unfold maxLen; omega) (by omega) HZ5.out ?_
      intro v6 V6 h6 hg6 _
      have hnx6 : (Value.slice vo T.length vc).ownBlock ≠ some gb := ty_ne HY4.out.ll.row (by decide) HY4.out.ty
      obtain ⟨vo6, vc6, rfl, hO6, hL6, hA6, hB6⟩ := y_told HY4.out HB4.out.size HB5.out HO5.out h6 hg6
      have HB6 : Hid (Below V.heap.size V V6) := HB4.out.trans hB6
      have hblk6 : V6.heap[gb]? = (V5.alloc (.cells #[.slice ro tl.length rc] 23)).heap[gb]? := hg6.block gb (by have := HY4.out.lt; have := HB5.out.size; simp; omega) (fun e => hnx6 e.symm)
      obtain ⟨q1, q2⟩ := HPC.out V6 HB6.out
      have S6 : V6.cell? ⟨gb, 0, none⟩ = some (.slice so S.length sc) ∧ V6.cell? ⟨gb, 1, none⟩ = some (.slice vo T.length vc) ∧ V6.cell? ⟨w.heap.size, 1, none⟩ = some (.int .i64 s) ∧ V6.cell? ⟨w.heap.size, 2, none⟩ = some (.slice ta tl.length tc) := ⟨(World.cell?_of_block (a := ⟨gb, 0, none⟩) hblk6).trans S5a.1, (World.cell?_of_block (a := ⟨gb, 1, none⟩) hblk6).trans S5a.2.1, q1, q2⟩
      obtain ⟨r0, r1, g0, g1⟩ := HRC.out V6 HB6.out
      obtain ⟨k1, k2, k3, k4, k5⟩ := fin_put (x := .slice a4 S2.length c4) (y := .slice vo6 T2.length vc6) (Nat.le_succ w.heap.size) (HBV.out.trans (HB6.out.mono HBV.out.size)) r0 r1 g1
      have HK : Hid (_) := k5
      have HK34 : Hid (_) := And.intro k3 k4
      clear k5 k3 k4
      have S7 := put_keep (r := w.heap.size + 1) (x := .slice a4 S2.length c4) (y := .slice vo6 T2.length vc6) (by have := HGB.out; have := HLT.out; omega) (by omega) S6
      have HF6 : Hid (Memb.Own V.heap.size V6 a4 c4 S2 ∧ OwnLL V.heap.size V6 (.slice vo6 (T ++ [tl]).length vc6) (T ++ [tl]) (put f T.length (ro, rc)) ∧ (∀ i, i < (T ++ [tl]).length → ∀ g, (put f T.length (ro, rc) i).1 = some ⟨g, 0, none⟩ → a4 ≠ some ⟨g, 0, none⟩)) := ⟨hO6, hL6, hA6⟩
      rw [HT2.out] at HF6
      rw [HT2.out]
      clear h6 hg6 hO6 hL6 hA6 hB6 hnx6 hblk6 q1 q2)
   | (go_at_call 194
      refine (clone ta tc tl V4 (by omega) (HTA.out V4 (HBV.out.trans (HB4.out.mono HBV.out.size)))).mono ?_
      rintro e V5 ⟨ro, rc, rfl, hO5, hb5⟩
      have HO5 : Hid (Memb.Own V4.heap.size V5 ro rc tl) := hO5
      have HB5 : Hid (Below V4.heap.size V4 V5) := hb5
      have hY5 := HY4.out.below (hb5.alloc hb5.size (.cells #[.slice ro tl.length rc] 23))
      have HR5 : Hid ((V5.alloc (.cells #[.slice ro tl.length rc] 23)).ownsRow V.heap.size 23 1 (.slice vo T.length vc) T.length (vals f T)) := hY5.ll.row
      have HZ5 : Hid (V.heap.size ≤ (V5.alloc (.cells #[.slice ro tl.length rc] 23)).heap.size) := Nat.le_trans HB4.out.size (Nat.le_trans hb5.size (by simp))
      have S5 := HSC.out _ _ _ _ (HY4.out.below hb5) (HB4.out.trans (hb5.mono HB4.out.size))
      have S5a := HSC.out _ _ _ _ hY5 (HB4.out.trans ((hb5.alloc hb5.size _).mono HB4.out.size))
      clear hO5 hb5 hY5)
   | fail)
 all_goals
   have hgt := grown_two V6 (w.heap.size + 1) (.slice a4 S2.length c4) (.slice vo6 T2.length vc6)
   have HE : Hid (_) := own_lift (row_kept HF6.out.1 hgt HLT.out) HBV.out.size
   have HE2 : Hid (_) := ll_lift (ll_kept HF6.out.2.1 hgt HLT.out) HBV.out.size
   obtain ⟨k3, k4⟩ := HK34.out
   clear hgt
   go_wp2_with fail
   refine bodyPost_ret (v := .agg #[.slice a4 S2.length c4, .slice vo6 T2.length vc6]) (by simp [results, Tryz.f190, go_sem, k3, k4]) rfl ?_
   rw [HS2.out, HT2.out]
   exact ⟨a4, c4, vo6, vc6, _, rfl, HE.out, HE2.out, HF6.out.2.2, HK.out⟩
theorem take_succ {α : Type} (l : List α) (d : α) (n : Nat) (h : n < l.length) : l.take (n + 1) = l.take n ++ [l.getD n d] := by
 rw [List.take_add_one]; congr 1; simp [List.getD, List.getElem?_eq_getElem h]
theorem handed {B : Nat} (h : At) (S : List Int) (T : List (List Int)) : ∀ (n : Nat) (W : World), n < S.length → n < T.length → n ≤ 40 → Pg B W (n + 1) T h → Calls Tryz.prog 190 #[.agg #[recV h S T n, .int .i64 (S.getD n 0), .slice (h n).1 (T.getD n []).length (h n).2]] W (CopyPost (S.take (n + 1)) (T.take (n + 1)) W) := by
 intro n
 induction n with
 | zero =>
   intro W hS hT _ p
   rw [take_succ S 0 0 hS, take_succ T [] 0 hT]
   exact handedB (S.getD 0 0) (h 0).1 (h 0).2 (T.getD 0 []) [] [] W (p.each 0 (by omega)) (p.row 0 (by omega)) (by simp) (by simp) (fun V _ => handed0 V)
 | succ n ih =>
   intro W hS hT hn p
   rw [take_succ S 0 (n + 1) hS, take_succ T [] (n + 1) hT, recV_succ]
   exact handedP _ (S.getD (n + 1) 0) (h (n + 1)).1 (h (n + 1)).2 (T.getD (n + 1) []) (S.take (n + 1)) (T.take (n + 1)) W (p.each (n + 1) (by omega)) (p.row (n + 1) (by omega)) (by simp; omega) (by simp; omega) (fun V hV => ih V (by omega) (by omega) (by omega) ⟨fun j hj => Lst.own_below (p.each j (by omega)) hV, fun j hj => p.row j (by omega)⟩)
end Lo
end Go.Proofs.YtjnhniffgeepjaaGreat
