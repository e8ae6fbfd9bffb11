/-
 The laws' own count and copy of a log that came in.
-/
import Derived.Test.YtjnhniffgeepjaaGreatezg19
set_option linter.unusedVariables false
namespace Go.Proofs.YtjnhniffgeepjaaGreat
open Go.RowKit
set_option maxRecDepth 100000
set_option linter.unusedVariables false
namespace Lg
open Kn (K okK)
open Sg (NumsPost)
theorem step_own_at {P : Program} {ops : Array Oper} {o : Oper} {a : Act} {w : World} {K : Act → World → Prop} {Q : Exit → Act → World → Prop} {E : Prop}
   (hg : o.guard = none) (s x : Operand) (t : TypeId) (hop : o.op = Op.call { callee := Callee.builtin Builtin.append, args := #[s, x], argTypes := #[t, t] })
   (base : Nat) (e : TypeId) (i : TypeInfo) (z : Value) (size bytes : Nat) (ht : P.underlying t = some (.slice e)) (hi : P.info? e = some i) (hz : i.zero = some z) (hsize : i.size = size) (hby : i.bytes = bytes) (hzs : z.cells.size = size) (hsz : 0 < size)
   (v : Value) (n : Nat) (xs : List Value) (hs : a.eval s = v) (hown : w.ownsRow base e size v n xs)
   (ad : Addr) (m c : Nat) (news : List Value) (hx : a.eval x = .slice (some ad) m c) (hl : news.length = m * size) (hnews : ∀ j u, news[j]? = some u → w.cell? (ad.add j) = some u) (h1 : ∀ u ∈ news, u.oneCell' = true)
   (h63 : n + m ≤ maxLen) (hbytes : (n + m) * bytes ≤ 140737488355328) (hbase : base ≤ w.heap.size)
   (hK : ∀ v' w', w'.ownsRow base e size v' (n + m) (xs ++ news) → w.grownBy w' v.ownBlock → (v'.ownBlock = v.ownBlock ∨ v'.ownBlock = some w.heap.size) → K (a.put o.dst v') w') :
   if Region.wanted o (yielded ops a.tmps) = true then Oper.wp P o a w K Q else E := by
 rw [if_pos (by simp [Region.wanted, hg])]
 obtain ⟨v', w', hr, h2, h3, _, h5⟩ := run_append_own_at (P := P) w base t o.type e i z size bytes ht hi hz hsize hby hzs hsz v n xs hown ad m c news hl hnews h1 h63 hbytes hbase
 unfold Oper.wp execOp
 simp only [hop, resolve, invoke, builtin, Sem.run_bind, Sem.run_pure, Result.andThen_ok, List.map_toArray, List.map_cons, List.map_nil, hs, hx, hr]
 exact hK v' w' h2 h3 h5
def vals (f : At) (T : List (List Int)) : List Value := (List.range T.length).map fun i => .slice (f i).1 (T.getD i []).length (f i).2
theorem vals_len (f : At) (T : List (List Int)) : (vals f T).length = T.length := by simp [vals]
theorem vals_get (f : At) (T : List (List Int)) (i : Nat) (hi : i < T.length) : (vals f T)[i]? = some (.slice (f i).1 (T.getD i []).length (f i).2) := by simp [vals, hi]
structure OwnLL (B : Nat) (W : World) (v : Value) (T : List (List Int)) (f : At) : Prop where
 row : W.ownsRow B 23 1 v T.length (vals f T)
 each : ∀ i, i < T.length → Memb.Own B W (f i).1 (f i).2 (T.getD i [])
 ap : ∀ i j, i < j → j < T.length → ∀ g, (f i).1 = some ⟨g, 0, none⟩ → (f j).1 ≠ some ⟨g, 0, none⟩
theorem getD_snoc (T : List (List Int)) (l : List Int) (i : Nat) (hi : i < T.length) : (T ++ [l]).getD i [] = T.getD i [] := by
 simp [List.getD, List.getElem?_append_left hi]
theorem getD_last (T : List (List Int)) (l : List Int) : (T ++ [l]).getD T.length [] = l := by simp [List.getD]
def put (f : At) (n : Nat) (a : Option Addr × Nat) : At := fun i => if i = n then a else f i
theorem vals_snoc (f : At) (T : List (List Int)) (l : List Int) (a : Option Addr × Nat) : vals (put f T.length a) (T ++ [l]) = vals f T ++ [.slice a.1 l.length a.2] := by
 unfold vals
 rw [List.length_append, List.length_singleton, List.range_succ, List.map_append, List.map_singleton]
 congr 1
 · apply List.map_congr_left
   intro i hi
   have hi' := List.mem_range.1 hi
   unfold put
   rw [if_neg (by omega), getD_snoc T l i hi']
 · unfold put; rw [if_pos rfl, getD_last]
theorem infoS : (Tryz.prog.info? 23).map (fun i => (i.zero, i.size, i.bytes)) = some (some (.slice none 0 0), 1, 24) := by kernel_rfl
theorem one_newV (W : World) (v : Value) (t : TypeId) : ∀ (j : Nat) u, ([v])[j]? = some u → (W.alloc (.cells #[v] t)).cell? ((⟨W.heap.size, 0, none⟩ : Addr).add j) = some u := by
 intro q u hq
 match q, hq with
 | 0, hq => simp at hq; subst hq; simp [Addr.add]
theorem one_sl (a : Option Addr) (n c : Nat) : ∀ u ∈ [Value.slice a n c], u.oneCell' = true := by
 intro u hu; simp at hu; subst hu; rfl
theorem own_kept {B : Nat} {w w' : World} {a : Option Addr} {c : Nat} {l : List Int} {r : Option Nat} (h : Memb.Own B w a c l) (hg : w.grownBy w' r) (hne : ∀ g, a = some ⟨g, 0, none⟩ → r ≠ some g) : Memb.Own B w' a c l := by
 refine World.ownsRow.kept h hg ?_
 rcases h.2 with ⟨e, _⟩ | ⟨g, cap, cur, e, _⟩
 · rw [e]; exact .inl rfl
 · right
   injection e with e1 _ _
   subst e1
   intro q
   exact hne g rfl q.symm
theorem own_lift {B B' : Nat} {w : World} {a : Option Addr} {c : Nat} {l : List Int} (h : Memb.Own B w a c l) (hb : B' ≤ B) : Memb.Own B' w a c l := Ch.own_base h hb
theorem gr_one (w : World) (g j : Nat) (v : Value) : w.grownBy (w.setCell ⟨g, j, none⟩ v) (some g) := by
 refine ⟨rfl, rfl, rfl, by simp, fun k hk hne => ?_⟩
 exact Below.heap_setCell w ⟨g, j, none⟩ v k (fun e => hne (by rw [e]))
structure CpSt (w wr : World) (rb xb : Nat) (so qo : Option Addr) (sc tc : Nat) (S : List Int) (T : List (List Int)) (f : At) (so1 : Option Addr) (sc1 : Nat) (vo : Option Addr) (vc : Nat) (i : Nat) (h : At) : Prop where
 bel : Below w.heap.size w wr
 o1 : w.heap.size < rb
 o2 : rb < xb
 lt : xb < wr.heap.size
 b1 : wr.cell? ⟨w.heap.size, 1, none⟩ = some (.slice qo T.length tc)
 r : (∃ u, wr.cell? ⟨rb, 0, none⟩ = some u) ∧ (∃ u, wr.cell? ⟨rb, 1, none⟩ = some u) ∧ wr.frozen? ⟨rb, 0, none⟩ = false ∧ wr.frozen? ⟨rb, 1, none⟩ = false
 x0 : wr.cell? ⟨xb, 0, none⟩ = some (.slice so1 S.length sc1)
 x1 : wr.cell? ⟨xb, 1, none⟩ = some (.slice vo i vc)
 fx : wr.frozen? ⟨xb, 0, none⟩ = false ∧ wr.frozen? ⟨xb, 1, none⟩ = false
 own : Memb.Own (rb + 1) wr so1 sc1 S
 far : ∀ g, so1 = some ⟨g, 0, none⟩ → g < xb
 ll : OwnLL (xb + 1) wr (.slice vo i vc) (T.take i) h
theorem CpSt.below {w wr wr' : World} {rb xb : Nat} {so qo : Option Addr} {sc tc : Nat} {S : List Int} {T : List (List Int)} {f : At} {so1 : Option Addr} {sc1 : Nat} {vo : Option Addr} {vc i : Nat} {h : At} (s : CpSt w wr rb xb so qo sc tc S T f so1 sc1 vo vc i h) (hb : Below wr.heap.size wr wr') : CpSt w wr' rb xb so qo sc tc S T f so1 sc1 vo vc i h := by
 have hlt := s.lt
 have h1 := s.o1
 have h2 := s.o2
 have hc : ∀ b j, b ≤ xb → wr'.cell? ⟨b, j, none⟩ = wr.cell? ⟨b, j, none⟩ := fun b j hb' => hb.cell (p := ⟨b, j, none⟩) (show b < wr.heap.size by omega)
 have hf : ∀ b j, b ≤ xb → wr'.frozen? ⟨b, j, none⟩ = wr.frozen? ⟨b, j, none⟩ := fun b j hb' => World.frozen?_of_block (a := ⟨b, j, none⟩) (hb.block b (by omega))
 have hg : wr.grownBy wr' none := ⟨hb.os, hb.tape, hb.output, hb.size, fun k hk _ => hb.block k hk⟩
 obtain ⟨⟨u0, q0⟩, ⟨u1, q1⟩, q2, q3⟩ := s.r
 refine ⟨s.bel.trans (hb.mono s.bel.size), h1, h2, Nat.lt_of_lt_of_le hlt hb.size, (hc _ 1 (by omega)).trans s.b1, ⟨⟨u0, (hc _ 0 (by omega)).trans q0⟩, ⟨u1, (hc _ 1 (by omega)).trans q1⟩, (hf _ 0 (by omega)).trans q2, (hf _ 1 (by omega)).trans q3⟩, (hc _ 0 (by omega)).trans s.x0, (hc _ 1 (by omega)).trans s.x1, ⟨(hf _ 0 (by omega)).trans s.fx.1, (hf _ 1 (by omega)).trans s.fx.2⟩, own_kept s.own hg (fun g e q => by cases q), s.far, ⟨?_, fun j hj => own_kept (s.ll.each j hj) hg (fun g e q => by cases q), s.ll.ap⟩⟩
 exact World.ownsRow.kept s.ll.row hg (by cases hv : (Value.slice vo i vc).ownBlock <;> simp)
theorem rows_apart {B B' : Nat} {W : World} {a : Option Addr} {c : Nat} {l : List Int} {v : Value} {n : Nat} {xs : List Value} (h : Memb.Own B W a c l) (k : W.ownsRow B' 23 1 v n xs) : ∀ g, a = some ⟨g, 0, none⟩ → v.ownBlock ≠ some g := by
 intro g e q
 subst e
 rcases h.2 with ⟨e, _⟩ | ⟨g1, c1, cur1, e1, _, hg1, _⟩
 · injection e with e _ _; cases e
 · injection e1 with e1 _ _
   injection e1 with e1; injection e1 with e1; subst e1
   rcases k.2 with ⟨e2, _⟩ | ⟨g2, c2, cur2, e2, _, hg2, _⟩
   · rw [e2] at q; simp [Value.ownBlock] at q
   · rw [e2] at q; simp [Value.ownBlock] at q; subst q
     rw [hg1] at hg2; simp at hg2
theorem cp_step {w wr V1 V3 : World} {rb xb : Nat} {so qo : Option Addr} {sc tc : Nat} {S : List Int} {T : List (List Int)} {f : At} {so1 : Option Addr} {sc1 : Nat} {vo : Option Addr} {vc i : Nat} {h : At} {ro : Option Addr} {rc : Nat} {o : Obj} {v3 : Value} (s : CpSt w wr rb xb so qo sc tc S T f so1 sc1 vo vc i h) (hi : i < T.length) (hb1 : Below wr.heap.size wr V1) (hO : Memb.Own wr.heap.size V1 ro rc (T.getD i []))
   (h3 : V3.ownsRow (xb + 1) 23 1 v3 (i + 1) (vals h (T.take i) ++ [.slice ro (T.getD i []).length rc])) (hg : (V1.alloc o).grownBy V3 (Value.slice vo i vc).ownBlock) :
   ∃ vo3 vc3, v3 = .slice vo3 (i + 1) vc3 ∧ CpSt w (V3.setCell ⟨xb, 1, none⟩ (.slice vo3 (i + 1) vc3)) rb xb so qo sc tc S T f so1 sc1 vo3 vc3 (i + 1) (put h i (ro, rc)) ∧ V3.cell? ⟨xb, 1, none⟩ = some (.slice vo i vc) ∧ V3.frozen? ⟨xb, 1, none⟩ = false ∧ Below w.heap.size w V3 ∧ V3.cell? ⟨w.heap.size, 1, none⟩ = some (.slice qo T.length tc) := by
 have sA := (s.below hb1).below ((Below.refl _ V1).alloc (Nat.le_refl _) o)
 have hlt := sA.lt
 have h1 := sA.o1
 have h2 := sA.o2
 have hrow : ∀ k, (Value.slice vo i vc).ownBlock = some k → xb + 1 ≤ k := fun k hk => (World.ownsRow.lt sA.ll.row k hk).1
 have hblk : ∀ b, b ≤ xb → V3.heap[b]? = (V1.alloc o).heap[b]? := fun b hb => hg.block b (by omega) (fun e => by have := hrow b e.symm; omega)
 have hc : ∀ b j, b ≤ xb → V3.cell? ⟨b, j, none⟩ = (V1.alloc o).cell? ⟨b, j, none⟩ := fun b j hb => World.cell?_of_block (a := ⟨b, j, none⟩) (hblk b hb)
 have hf : ∀ b j, b ≤ xb → V3.frozen? ⟨b, j, none⟩ = (V1.alloc o).frozen? ⟨b, j, none⟩ := fun b j hb => World.frozen?_of_block (a := ⟨b, j, none⟩) (hblk b hb)
 have hlen : (T.take i).length = i := by simp; omega
 obtain ⟨g3, c3, e3⟩ : ∃ g3 c3, v3 = .slice (some ⟨g3, 0, none⟩) (i + 1) c3 := by
   rcases h3.2 with ⟨_, e⟩ | ⟨g, c, cur, e, _⟩
   · omega
   · exact ⟨g, c, e⟩
 subst e3
 have hgS := gr_one V3 xb 1 (.slice (some ⟨g3, 0, none⟩) (i + 1) c3)
 have hbel : Below w.heap.size w V3 := sA.bel.grown hg sA.bel.size (fun k hk => by have := hrow k hk; omega)
 have hOA : Memb.Own (xb + 1) (V1.alloc o) ro rc (T.getD i []) := own_lift (own_kept hO (World.grownBy_alloc V1 o none) (fun g e q => by cases q)) (by have := s.lt; omega)
 have hO3 : Memb.Own (xb + 1) V3 ro rc (T.getD i []) := own_kept hOA hg (rows_apart hOA sA.ll.row)
 have hE3 : ∀ j, j < (T.take i).length → Memb.Own (xb + 1) V3 (h j).1 (h j).2 ((T.take i).getD j []) := fun j hj => own_kept (sA.ll.each j hj) hg (rows_apart (sA.ll.each j hj) sA.ll.row)
 have hS3 : Memb.Own (rb + 1) V3 so1 sc1 S := own_kept sA.own hg (fun g e q => by have := sA.far g e; have := hrow g q; omega)
 have x1' : V3.cell? ⟨xb, 1, none⟩ = some (.slice vo i vc) := (hc xb 1 (Nat.le_refl _)).trans sA.x1
 have f1' : V3.frozen? ⟨xb, 1, none⟩ = false := (hf xb 1 (Nat.le_refl _)).trans sA.fx.2
 obtain ⟨⟨u0, q0⟩, ⟨u1, q1⟩, q2, q3⟩ := sA.r
 have hk : ∀ b j, b ≠ xb → (V3.setCell ⟨xb, 1, none⟩ (.slice (some ⟨g3, 0, none⟩) (i + 1) c3)).cell? ⟨b, j, none⟩ = V3.cell? ⟨b, j, none⟩ := fun b j hb => World.cell?_of_block (a := ⟨b, j, none⟩) (Below.heap_setCell V3 ⟨xb, 1, none⟩ _ b hb)
 have hkf : ∀ b j, (V3.setCell ⟨xb, 1, none⟩ (.slice (some ⟨g3, 0, none⟩) (i + 1) c3)).frozen? ⟨b, j, none⟩ = V3.frozen? ⟨b, j, none⟩ := fun b j => by simp
 refine ⟨_, _, rfl, ⟨?_, h1, h2, ?_, ?_, ⟨⟨u0, ?_⟩, ⟨u1, ?_⟩, ?_, ?_⟩, ?_, ?_, ⟨?_, ?_⟩, ?_, sA.far, ⟨?_, ?_, ?_⟩⟩, x1', f1', hbel, (hc _ 1 (by omega)).trans sA.b1⟩
 · exact hbel.setCell (p := ⟨xb, 1, none⟩) (show w.heap.size ≤ xb by omega) _
 · have := hg.size; simp at this ⊢; have := s.lt; have := hb1.size; omega
 · exact (hk _ 1 (by omega)).trans ((hc _ 1 (by omega)).trans sA.b1)
 · exact (hk _ 0 (by omega)).trans ((hc _ 0 (by omega)).trans q0)
 · exact (hk _ 1 (by omega)).trans ((hc _ 1 (by omega)).trans q1)
 · exact (hkf _ 0).trans ((hf _ 0 (by omega)).trans q2)
 · exact (hkf _ 1).trans ((hf _ 1 (by omega)).trans q3)
 · exact (World.cell?_setCell_other _ _ _ _ (by intro e; simp at e)).trans ((hc xb 0 (Nat.le_refl _)).trans sA.x0)
 · exact World.cell?_setCell_same _ _ _ x1'
 · exact (hkf _ 0).trans ((hf _ 0 (Nat.le_refl _)).trans sA.fx.1)
 · exact (hkf _ 1).trans f1'
 · exact own_kept hS3 hgS (fun g e q => by injection q with q; have := sA.far g e; omega)
 · have e : T.take (i + 1) = T.take i ++ [T.getD i []] := by
     rw [List.take_add_one]; congr 1; simp [List.getD, List.getElem?_eq_getElem hi]
   rw [e]
   have hv := vals_snoc h (T.take i) (T.getD i []) (ro, rc)
   rw [hlen] at hv
   rw [hv, List.length_append, hlen, List.length_singleton]
   refine World.ownsRow.kept h3 hgS (.inr ?_)
   intro q
   have := World.ownsRow.lt h3 g3 rfl
   simp [Value.ownBlock] at q; omega
 · intro j hj
   have e : T.take (i + 1) = T.take i ++ [T.getD i []] := by
     rw [List.take_add_one]; congr 1; simp [List.getD, List.getElem?_eq_getElem hi]
   rw [e] at hj ⊢
   rw [List.length_append, hlen, List.length_singleton] at hj
   unfold put
   have far' : ∀ {a : Option Addr} {c : Nat} {l : List Int}, Memb.Own (xb + 1) V3 a c l → Memb.Own (xb + 1) (V3.setCell ⟨xb, 1, none⟩ (.slice (some ⟨g3, 0, none⟩) (i + 1) c3)) a c l := fun {a c l} ho => own_kept ho hgS (fun g eg q => by subst eg; injection q with q; have := (World.ownsRow.lt ho g rfl).1; omega)
   by_cases ej : j = i
   · subst ej
     rw [if_pos rfl]
     have := getD_last (T.take j) (T.getD j [])
     rw [hlen] at this
     rw [this]
     exact far' hO3
   · rw [if_neg ej, getD_snoc _ _ j (by rw [hlen]; omega)]
     exact far' (hE3 j (by rw [hlen]; omega))
 · intro j k hjk hkl g ej ek
   have hkl' : k < i + 1 := by simp at hkl; omega
   unfold put at ej ek
   rw [if_neg (by omega)] at ej
   by_cases e : k = i
   · rw [if_pos e] at ek
     have hlo : g < wr.heap.size := by
       have := s.ll.each j (by rw [hlen]; omega)
       rw [ej] at this
       exact (World.ownsRow.lt this g rfl).2
     have hhi : wr.heap.size ≤ g := by
       have ek' : ro = some ⟨g, 0, none⟩ := ek
       subst ek'
       exact (World.ownsRow.lt hO g rfl).1
     omega
   · rw [if_neg e] at ek
     exact s.ll.ap j k hjk (by rw [hlen]; omega) g ej ek
end Lg
namespace Lg
open Db (RowI)
structure InL (w : World) (so qo : Option Addr) (S : List Int) (T : List (List Int)) (f : At) : Prop where
 seen : Nu.RdI w so S
 told : T = [] ∨ ∃ tb off, qo = some ⟨tb, off, none⟩ ∧ tb < w.heap.size ∧ ∀ i, i < T.length → w.cell? ⟨tb, off + i, none⟩ = some (.slice (f i).1 (T.getD i []).length (f i).2)
 row : ∀ i, i < T.length → Nu.RdI w (f i).1 (T.getD i [])
theorem InL.below {w w' : World} {so qo : Option Addr} {S : List Int} {T : List (List Int)} {f : At} (h : InL w so qo S T f) (hb : Below w.heap.size w w') : InL w' so qo S T f where
 seen := h.seen.below hb
 told := by
   rcases h.told with e | ⟨tb, off, e, hlt, hc⟩
   · exact .inl e
   · exact .inr ⟨tb, off, e, Nat.lt_of_lt_of_le hlt hb.size, fun i hi => (hb.cell (p := ⟨tb, off + i, none⟩) hlt).trans (hc i hi)⟩
 row := fun i hi => (h.row i hi).below hb
structure MadeL (w : World) (p : Nat) (T : List (List Int)) (j : Nat) (f : Nat → Nat) : Prop where
 lt : p < w.heap.size
 hd : ∀ i, i < j → w.cell? ⟨p, i, none⟩ = some (.slice (some ⟨f i, 0, none⟩) (T.getD i []).length (T.getD i []).length)
 ex : ∀ i, i < T.length → ∃ u, w.cell? ⟨p, i, none⟩ = some u
 fr : ∀ i, i < T.length → w.frozen? ⟨p, i, none⟩ = false
 row : ∀ i, i < j → RowI w (f i) (T.getD i []).length (fun q => (T.getD i []).getD q 0)
 ne : ∀ i, i < j → p < f i
 up : ∀ i k, i < k → k < j → f i < f k
theorem MadeL.below {w w' : World} {p j : Nat} {T : List (List Int)} {f : Nat → Nat} (h : MadeL w p T j f) (hb : Below w.heap.size w w') : MadeL w' p T j f :=
 ⟨Nat.lt_of_lt_of_le h.lt hb.size, fun i hi => (hb.cell (p := ⟨p, i, none⟩) h.lt).trans (h.hd i hi), fun i hi => by obtain ⟨u, hu⟩ := h.ex i hi; exact ⟨u, (hb.cell (p := ⟨p, i, none⟩) h.lt).trans hu⟩, fun i hi => (hb.frozen (p := ⟨p, i, none⟩) h.lt).trans (h.fr i hi), fun i hi => Nu.row_below (h.row i hi) hb, h.ne, h.up⟩
theorem row_off {w : World} {b n p j : Nat} {D : Nat → Int} {v : Value} (h : RowI w b n D) (hne : b ≠ p) : RowI (w.setCell ⟨p, j, none⟩ v) b n D :=
 ⟨by simpa using h.lt, fun i hi => (World.cell?_setCell_other _ _ _ _ (by intro e; injection e with e; exact hne e.symm)).trans (h.rd i hi), fun i hi => by simpa using h.fr i hi⟩
theorem MadeL.put {w V : World} {p j : Nat} {T : List (List Int)} {f : Nat → Nat} (h : MadeL w p T j f) (hb : Below w.heap.size w V) (hj : j < T.length) (hr : RowI V w.heap.size (T.getD j []).length (fun q => (T.getD j []).getD q 0)) :
   MadeL (V.setCell ⟨p, j, none⟩ (.slice (some ⟨w.heap.size, 0, none⟩) (T.getD j []).length (T.getD j []).length)) p T (j + 1) (fun i => if i = j then w.heap.size else f i) := by
 have k := h.below hb
 have hp := h.lt
 obtain ⟨u, hu⟩ := k.ex j hj
 refine ⟨by simpa using k.lt, fun i hi => ?_, fun i hi => ?_, fun i hi => by simpa using k.fr i hi, fun i hi => ?_, fun i hi => ?_, fun i q hiq hq => ?_⟩
 · by_cases e : i = j
   · subst e; simp only [if_pos]; exact World.cell?_setCell_same _ _ _ hu
   · rw [if_neg e]
     exact (World.cell?_setCell_other _ _ _ _ (by intro q; injection q with _ q; exact e q.symm)).trans (k.hd i (by omega))
 · by_cases e : i = j
   · subst e; exact ⟨_, World.cell?_setCell_same _ _ _ hu⟩
   · obtain ⟨x, hx⟩ := k.ex i hi
     exact ⟨x, (World.cell?_setCell_other _ _ _ _ (by intro q; injection q with _ q; exact e q.symm)).trans hx⟩
 · by_cases e : i = j
   · subst e; rw [if_pos rfl]; exact row_off hr (by omega)
   · rw [if_neg e]; exact row_off (k.row i (by omega)) (by have := h.ne i (by omega); omega)
 · by_cases e : i = j
   · subst e; rw [if_pos rfl]; exact hp
   · rw [if_neg e]; exact h.ne i (by omega)
 · rw [if_neg (by omega)]
   by_cases e : q = j
   · subst e; rw [if_pos rfl]; exact (h.row i (by omega)).lt
   · rw [if_neg e]; exact h.up i q hiq (by omega)
theorem made_new (w : World) (T : List (List Int)) (t : TypeId) (f : Nat → Nat) : MadeL (w.alloc (.cells (madeCells #[.slice none 0 0] T.length) t)) w.heap.size T 0 f := by
 refine ⟨by simp, fun i hi => by omega, fun i hi => ?_, fun i hi => by simp, fun i hi => by omega, fun i hi => by omega, fun i k _ hk => by omega⟩
 rw [World.cell?_alloc_new]
 have : i < (madeCells #[Value.slice none 0 0] T.length).size := by rw [size_madeCells]; exact hi
 rw [Array.getElem?_eq_getElem this]
 exact ⟨_, rfl⟩
def atL (f : Nat → Nat) (T : List (List Int)) : At := fun i => (some ⟨f i, 0, none⟩, (T.getD i []).length)
theorem in_at {w : World} {so qo : Option Addr} {S : List Int} {T : List (List Int)} {f : At} (h : InL w so qo S T f) (hT : 0 < T.length) : ∃ tb off, qo = some ⟨tb, off, none⟩ ∧ tb < w.heap.size ∧ ∀ i, i < T.length → w.cell? ⟨tb, off + i, none⟩ = some (.slice (f i).1 (T.getD i []).length (f i).2) := by
 rcases h.told with e | h
 · rw [e] at hT; simp at hT
 · exact h
set_option maxHeartbeats 1600000 in
theorem toSS (so qo : Option Addr) (tc : Nat) (S : List Int) (T : List (List Int)) (f : At) (w : World) (hT : T.length ≤ 1048576) (hTT : ∀ i, i < T.length → (T.getD i []).length ≤ 1048576) (h : InL w so qo S T f) :
   Calls Tryz.prog 41 #[.slice qo T.length tc] w fun e w' => e = .returned (.slice (some ⟨w.heap.size, 0, none⟩) T.length T.length) ∧ (∃ p, MadeL w' w.heap.size T T.length p) ∧ Below w.heap.size w w' := by
 have hmk : ∀ W : World, (Instr.makeSlice 34 (.int .i64 (T.length : Int)) (.int .i64 (T.length : Int))).run Tryz.prog W = .ok (.slice (some ⟨W.heap.size, 0, none⟩) T.length T.length) (W.alloc (.cells (madeCells #[.slice none 0 0] T.length) 23)) :=
   fun W => run_make_row' (P := Tryz.prog) 34 23 (.slice none 0 0) 24 Tryz.underlying34 infoS rfl .i64 .i64 T.length (by omega) (by omega) W
 have HP : Hid (MadeL (w.alloc (.cells (madeCells #[.slice none 0 0] T.length) 23)) w.heap.size T 0 (fun _ => 0) ∧ Below w.heap.size w (w.alloc (.cells (madeCells #[.slice none 0 0] T.length) 23))) := ⟨made_new _ _ _ _, (Below.refl _ _).alloc (Nat.le_refl _) _⟩
 have HIN : Hid (InL w so qo S T f) := h
 have HTT : Hid (∀ i, i < T.length → (T.getD i []).length ≤ 1048576) := hTT
 clear h hTT
 generalize madeCells #[Value.slice none 0 0] T.length = mc at hmk HP
 go_enter Tryz.func41, Tryz.ntmps41
 go_wp2
 clear hmk
 go_loopw [4] (fun i wr => ∃ (j : Nat) (p : Nat → Nat), j ≤ T.length ∧ i = .int .i64 j ∧ Hid (MadeL wr w.heap.size T j p) ∧ Hid (Below w.heap.size w wr)) (fun i _ => T.length - (intOf i).toNat)
 case atStart => exact ⟨0, _, by omega, rfl, HP.out.1, HP.out.2⟩
 case round =>
   obtain ⟨j, p, hj, rfl, HM, HB⟩ := hrel
   clear HP
   by_cases hlt : j < T.length
   · have hlti : (j : Int) < (T.length : Int) := by omega
     obtain ⟨tb, off, hqo, htb, hcl⟩ := in_at (HIN.out.below HB.out) (by omega)
     subst hqo
     have cj := hcl j hlt
     have hcall := Nu.toInts (f j).1 (f j).2 (T.getD j []) wr (HTT.out j hlt) ((HIN.out.below HB.out).row j hlt)
     have HST : Hid (∀ V : World, Below wr.heap.size wr V → RowI V wr.heap.size (T.getD j []).length (fun q => (T.getD j []).getD q 0) → MadeL (V.setCell ⟨w.heap.size, j, none⟩ (.slice (some ⟨wr.heap.size, 0, none⟩) (T.getD j []).length (T.getD j []).length)) w.heap.size T (j + 1) (fun i => if i = j then wr.heap.size else p i) ∧ Below w.heap.size w (V.setCell ⟨w.heap.size, j, none⟩ (.slice (some ⟨wr.heap.size, 0, none⟩) (T.getD j []).length (T.getD j []).length)) ∧ (∃ u, V.cell? ⟨w.heap.size, j, none⟩ = some u) ∧ V.frozen? ⟨w.heap.size, j, none⟩ = false) := fun V hV hR =>
       ⟨HM.out.put hV hlt hR, (HB.out.trans (hV.mono HB.out.size)).setCell (p := ⟨w.heap.size, j, none⟩) (Nat.le_refl _) _, (HM.out.below hV).ex j hlt, (HM.out.below hV).fr j hlt⟩
     clear hcl HM HB
     generalize T.getD j [] = row1 at cj hcall HST
     generalize (f j).1 = a1 at cj hcall
     generalize (f j).2 = b1 at cj hcall
     go_wp2_with fail
     refine hcall.mono ?_
     rintro e V ⟨rfl, hR, hV⟩
     obtain ⟨s1, s2, ⟨u, s3⟩, s4⟩ := HST.out V hV hR
     have S1 : Hid (_) := s1
     have S2 : Hid (_) := s2
     clear hcall HST hR hV cj s1 s2
     go_wp2
     go_roundw
     case rel => exact ⟨j + 1, _, by omega, by go_num, S1, S2⟩
     case measure => simp [intOf]; omega
   · obtain rfl : j = T.length := by omega
     go_wp2
     go_ret
     exact ⟨rfl, ⟨p, HM.out⟩, HB.out⟩
end Lg
namespace Lg
open Db (RowI)
set_option maxHeartbeats 800000 in
theorem szI (ao : Option Addr) (cap : Nat) (C : List Int) (left : Int) (w : World) (hC : C.length ≤ maxLen) (h0 : 0 ≤ left) (h1 : left ≤ 1048576) :
   Calls Tryz.prog 34 #[.slice ao C.length cap, .int .i64 left] w fun e w' => (∃ r : Int, e = .returned (.int .i64 r) ∧ r ≤ left ∧ -1 ≤ r ∧ (0 ≤ r → r = left - (C.length : Int))) ∧ w = w' := by
 unfold maxLen at hC
 by_cases hlt : left - (C.length : Int) < 0
 · go_enter Tryz.func34, Tryz.ntmps34
   go_wp2
   go_ret
   exact ⟨⟨-1, rfl, by omega, by omega, fun h => absurd h (by omega)⟩, rfl⟩
 · go_enter Tryz.func34, Tryz.ntmps34
   go_wp2
   go_ret
   exact ⟨⟨left - (C.length : Int), by go_num, by omega, by omega, fun _ => rfl⟩, rfl⟩
set_option maxHeartbeats 1600000 in
theorem szSS (so qo : Option Addr) (tc : Nat) (S : List Int) (T : List (List Int)) (f : At) (left : Int) (w : World) (hT : T.length ≤ maxLen) (hTT : ∀ i, i < T.length → (T.getD i []).length ≤ maxLen) (h0 : 0 ≤ left) (h1 : left ≤ 1048576) (h : InL w so qo S T f) :
   Calls Tryz.prog 35 #[.slice qo T.length tc, .int .i64 left] w fun e w' => (∃ r : Int, e = .returned (.int .i64 r) ∧ r ≤ left ∧ -1 ≤ r ∧ (0 ≤ r → T.length ≤ 1048576 ∧ ∀ i, i < T.length → (T.getD i []).length ≤ 1048576)) ∧ w = w' := by
 unfold maxLen at hT
 have HIN : Hid (InL w so qo S T f) := h
 have HTT : Hid (∀ i, i < T.length → (T.getD i []).length ≤ maxLen) := hTT
 clear h hTT
 by_cases hlt : left - (T.length : Int) < 0
 · go_enter Tryz.func35, Tryz.ntmps35
   go_wp2
   go_ret
   exact ⟨⟨-1, rfl, by omega, by omega, fun h => absurd h (by omega)⟩, rfl⟩
 · have hT2 : T.length ≤ 1048576 := by omega
   go_enter Tryz.func35, Tryz.ntmps35
   go_wp2
   go_loopw [1, 5] (fun lv i wr => ∃ (j : Nat) (r : Int), j ≤ T.length ∧ i = .int .i64 j ∧ lv = .int .i64 r ∧ 0 ≤ r ∧ r ≤ left ∧ wr = w ∧ Hid (∀ i, i < j → (T.getD i []).length ≤ 1048576)) (fun _ i _ => T.length - (intOf i).toNat)
   case atStart => exact ⟨0, left - (T.length : Int), by omega, rfl, by go_num, by omega, by omega, rfl, fun i hi => absurd hi (by omega)⟩
   case round =>
     obtain ⟨j, r, hj, rfl, rfl, hr0, hr1, rfl, HD⟩ := hrel
     by_cases hjt : j < T.length
     · have hji : (j : Int) < (T.length : Int) := by omega
       obtain ⟨tb, off, hqo, htb, hcl⟩ := in_at HIN.out (by omega)
       subst hqo
       have cj := hcl j hjt
       have hcall := szI (f j).1 (f j).2 (T.getD j []) r wr (HTT.out j hjt) hr0 (by omega)
       have HNX : Hid ((T.getD j []).length ≤ 1048576 → ∀ i, i < j + 1 → (T.getD i []).length ≤ 1048576) := fun h i hi => by
         by_cases e : i = j
         · subst e; exact h
         · exact HD.out i (by omega)
       generalize (T.getD j []).length = n at cj hcall HNX
       generalize (f j).1 = a1 at cj hcall
       generalize (f j).2 = b1 at cj hcall
       clear hcl HD
       go_wp2_with fail
       refine hcall.mono ?_
       rintro e w' ⟨⟨q, rfl, q1, q2, q3⟩, rfl⟩
       clear hcall cj
       by_cases hneg : q < 0
       · clear HNX q3
         go_wp2
         go_ret
         exact ⟨⟨-1, rfl, by omega, by omega, fun h => absurd h (by omega)⟩, rfl⟩
       · have HD2 : Hid (∀ i, i < j + 1 → (T.getD i []).length ≤ 1048576) := HNX.out (by have := q3 (by omega); omega)
         clear HNX q3
         go_wp2
         go_roundw
         case rel => exact ⟨j + 1, q, by omega, by go_num, rfl, by omega, by omega, by trivial, HD2⟩
         case measure => simp [intOf]; omega
     · obtain rfl : j = T.length := by omega
       go_wp2
       go_ret
       exact ⟨⟨r, rfl, by omega, by omega, fun _ => ⟨hT2, HD.out⟩⟩, rfl⟩
theorem box1 (w : World) (x y : Value) (t : TypeId) : Below w.heap.size w (w.alloc (.cells #[x, y] t)) ∧ (w.alloc (.cells #[x, y] t)).cell? ⟨w.heap.size, 0, none⟩ = some x ∧ (w.alloc (.cells #[x, y] t)).cell? ⟨w.heap.size, 1, none⟩ = some y ∧ w.heap.size < (w.alloc (.cells #[x, y] t)).heap.size :=
 ⟨(Below.refl _ _).alloc (Nat.le_refl _) _, by simp, by simp, by simp⟩
set_option maxHeartbeats 1600000 in
theorem szLog (so qo : Option Addr) (sc tc : Nat) (S : List Int) (T : List (List Int)) (f : At) (left : Int) (w : World) (hS : S.length ≤ maxLen) (hT : T.length ≤ maxLen) (hTT : ∀ i, i < T.length → (T.getD i []).length ≤ maxLen) (h0 : 0 ≤ left) (h1 : left ≤ 1048576) (h : InL w so qo S T f) :
   Calls Tryz.prog 16 #[.agg #[.slice so S.length sc, .slice qo T.length tc], .int .i64 left] w fun e w' => (∃ r : Int, e = .returned (.int .i64 r) ∧ r ≤ left ∧ -1 ≤ r ∧ (0 ≤ r → S.length ≤ 1048576 ∧ T.length ≤ 1048576 ∧ ∀ i, i < T.length → (T.getD i []).length ≤ 1048576)) ∧ Below w.heap.size w w' := by
 have P0 : Hid (_) := box1 w (.slice so S.length sc) (.slice qo T.length tc) 36
 have HI : Hid (∀ W : World, Calls Tryz.prog 34 #[.slice so S.length sc, .int .i64 left] W fun e w' => (∃ r : Int, e = .returned (.int .i64 r) ∧ r ≤ left ∧ -1 ≤ r ∧ (0 ≤ r → r = left - (S.length : Int))) ∧ W = w') := fun W => szI so sc S left W hS h0 h1
 have HSS : Hid (∀ (W : World) (r : Int), Below w.heap.size w W → 0 ≤ r → r ≤ left → Calls Tryz.prog 35 #[.slice qo T.length tc, .int .i64 r] W fun e w' => (∃ q : Int, e = .returned (.int .i64 q) ∧ q ≤ r ∧ -1 ≤ q ∧ (0 ≤ q → T.length ≤ 1048576 ∧ ∀ i, i < T.length → (T.getD i []).length ≤ 1048576)) ∧ W = w') := fun W r hW hr0 hr1 => szSS so qo tc S T f r W hT hTT hr0 (by omega) (h.below hW)
 clear h hTT hT hS
 go_enter Tryz.func16, Tryz.ntmps16
 go_upto_region 1 with fail
 generalize w.alloc (.cells #[.slice so S.length sc, .slice qo T.length tc] 36) = W0 at P0 ⊢
 obtain ⟨B0, x0, x1, hl⟩ := P0
 go_wp2_with fail
 refine (HI.out W0).mono ?_
 rintro e W1 ⟨⟨r, rfl, r1, r2, r3⟩, rfl⟩
 have HR3 : Hid (0 ≤ r → r = left - (S.length : Int)) := r3
 clear HI r3
 by_cases hneg : r < 0
 · go_wp2
   go_ret
   exact ⟨⟨-1, rfl, by omega, by omega, fun h => absurd h (by omega)⟩, B0⟩
 · have hss := HSS.out W0 r B0 (by omega) (by omega)
   clear HSS
   go_wp2_with fail
   refine hss.mono ?_
   rintro e W1 ⟨⟨q, rfl, q1, q2, q3⟩, rfl⟩
   have HQ3 : Hid (_) := q3
   clear q3 hss
   by_cases hq : q < 0
   · go_wp2
     go_ret
     exact ⟨⟨-1, rfl, by omega, by omega, fun h => absurd h (by omega)⟩, B0⟩
   · go_wp2
     go_ret
     exact ⟨⟨q, rfl, by omega, by omega, fun h => ⟨by have := HR3.out (by omega); omega, HQ3.out h⟩⟩, B0⟩
structure CopyL (w w' : World) (S : List Int) (T : List (List Int)) (s p : Nat) (f : Nat → Nat) : Prop where
 seen : RowI w' s S.length (fun i => S.getD i 0)
 told : MadeL w' p T T.length f
 lo : w.heap.size ≤ s
 sp : s < p
theorem MadeL.off {w : World} {p j q k : Nat} {T : List (List Int)} {f : Nat → Nat} {v : Value} (h : MadeL w p T j f) (hq : q < p) : MadeL (w.setCell ⟨q, k, none⟩ v) p T j f := by
 have ne : ∀ (b i : Nat), q < b → (⟨q, k, none⟩ : Addr) ≠ ⟨b, i, none⟩ := fun b i hb e => by injection e with e; omega
 exact ⟨by simpa using h.lt, fun i hi => (World.cell?_setCell_other _ _ _ _ (ne p i hq)).trans (h.hd i hi), fun i hi => by obtain ⟨u, hu⟩ := h.ex i hi; exact ⟨u, (World.cell?_setCell_other _ _ _ _ (ne p i hq)).trans hu⟩, fun i hi => by simpa using h.fr i hi, fun i hi => row_off (h.row i hi) (by have := h.ne i hi; omega), h.ne, h.up⟩
theorem froz_new (w : World) (a : Array Value) (t : TypeId) (j : Nat) : (w.alloc (.cells a t)).frozen? ⟨w.heap.size, j, none⟩ = false := by simp
theorem three (w : World) (x y z : Value) (t u : TypeId) (W : World) (hW : W = ((w.alloc (.cells #[x, y] t)).alloc (.cells #[z, z] u)).alloc (.cells #[z, z] u)) :
   Below w.heap.size w W ∧ W.heap.size = w.heap.size + 3 ∧ W.cell? ⟨w.heap.size, 0, none⟩ = some x ∧ W.cell? ⟨w.heap.size, 1, none⟩ = some y ∧ (∀ j, j < 2 → W.cell? ⟨w.heap.size + 1, j, none⟩ = some z ∧ W.cell? ⟨w.heap.size + 1 + 1, j, none⟩ = some z ∧ W.frozen? ⟨w.heap.size + 1, j, none⟩ = false ∧ W.frozen? ⟨w.heap.size + 1 + 1, j, none⟩ = false) := by
 subst hW
 have e1 : (w.alloc (.cells #[x, y] t)).heap.size = w.heap.size + 1 := by simp
 have e2 : ((w.alloc (.cells #[x, y] t)).alloc (.cells #[z, z] u)).heap.size = w.heap.size + 1 + 1 := by simp
 refine ⟨((Below.refl _ _).alloc (Nat.le_refl _) _ |>.alloc (by simp) _).alloc (by simp; omega) _, by simp, ?_, ?_, fun j hj => ?_⟩
 · rw [World.cell?_alloc_lt _ _ _ (by simp; omega), World.cell?_alloc_lt _ _ _ (by simp)]; simp
 · rw [World.cell?_alloc_lt _ _ _ (by simp; omega), World.cell?_alloc_lt _ _ _ (by simp)]; simp
 · have hj2 : j = 0 ∨ j = 1 := by omega
   refine ⟨?_, ?_, ?_, ?_⟩
   · rw [World.cell?_alloc_lt _ _ _ (by simp), ← e1]
     rcases hj2 with rfl | rfl <;> simp
   · have e3 : w.heap.size + 1 + 1 = ((w.alloc (.cells #[x, y] t)).alloc (.cells #[z, z] u)).heap.size := e2.symm
     rw [e3]
     refine (World.cell?_alloc_new _ _ _ j).trans ?_
     rcases hj2 with rfl | rfl <;> rfl
   · have k := ((Below.refl _ ((w.alloc (.cells #[x, y] t)).alloc (.cells #[z, z] u))).alloc (Nat.le_refl _) (.cells #[z, z] u)).frozen (p := ⟨w.heap.size + 1, j, none⟩) (by show w.heap.size + 1 < _; rw [e2]; omega)
     rw [k, ← e1]; simp
   · have e3 : w.heap.size + 1 + 1 = ((w.alloc (.cells #[x, y] t)).alloc (.cells #[z, z] u)).heap.size := e2.symm
     rw [e3]; exact froz_new _ _ _ j
theorem second {w W0 V1 : World} {y z sv : Value} {S : List Int} (B0 : Below w.heap.size w W0) (z0 : W0.heap.size = w.heap.size + 3) (x1 : W0.cell? ⟨w.heap.size, 1, none⟩ = some y)
   (hcl : ∀ j, j < 2 → W0.cell? ⟨w.heap.size + 1, j, none⟩ = some z ∧ W0.cell? ⟨w.heap.size + 1 + 1, j, none⟩ = some z ∧ W0.frozen? ⟨w.heap.size + 1, j, none⟩ = false ∧ W0.frozen? ⟨w.heap.size + 1 + 1, j, none⟩ = false)
   (hb : Below W0.heap.size W0 V1) (hR : RowI V1 W0.heap.size S.length (fun i => S.getD i 0)) :
   V1.cell? ⟨w.heap.size + 1 + 1, 0, none⟩ = some z ∧ V1.frozen? ⟨w.heap.size + 1 + 1, 0, none⟩ = false ∧ Hid (Below w.heap.size w (V1.setCell ⟨w.heap.size + 1 + 1, 0, none⟩ sv) ∧ (V1.setCell ⟨w.heap.size + 1 + 1, 0, none⟩ sv).cell? ⟨w.heap.size, 1, none⟩ = some y ∧ RowI (V1.setCell ⟨w.heap.size + 1 + 1, 0, none⟩ sv) W0.heap.size S.length (fun i => S.getD i 0) ∧ W0.heap.size < (V1.setCell ⟨w.heap.size + 1 + 1, 0, none⟩ sv).heap.size ∧
     ((V1.setCell ⟨w.heap.size + 1 + 1, 0, none⟩ sv).cell? ⟨w.heap.size + 1 + 1, 0, none⟩ = some sv ∧ (V1.setCell ⟨w.heap.size + 1 + 1, 0, none⟩ sv).cell? ⟨w.heap.size + 1 + 1, 1, none⟩ = some z ∧ ∀ j, j < 2 → (V1.setCell ⟨w.heap.size + 1 + 1, 0, none⟩ sv).cell? ⟨w.heap.size + 1, j, none⟩ = some z ∧ (V1.setCell ⟨w.heap.size + 1 + 1, 0, none⟩ sv).frozen? ⟨w.heap.size + 1, j, none⟩ = false ∧ (V1.setCell ⟨w.heap.size + 1 + 1, 0, none⟩ sv).frozen? ⟨w.heap.size + 1 + 1, j, none⟩ = false)) := by
 have c1 : ∀ b j u, b < w.heap.size + 3 → W0.cell? ⟨b, j, none⟩ = some u → V1.cell? ⟨b, j, none⟩ = some u := fun b j u hb' hc => (hb.cell (p := ⟨b, j, none⟩) (show b < W0.heap.size by omega)).trans hc
 have f1 : ∀ b j, b < w.heap.size + 3 → W0.frozen? ⟨b, j, none⟩ = false → V1.frozen? ⟨b, j, none⟩ = false := fun b j hb' hc => (hb.frozen (p := ⟨b, j, none⟩) (show b < W0.heap.size by omega)).trans hc
 have a1 := c1 _ 0 _ (by omega) (hcl 0 (by omega)).2.1
 refine ⟨a1, f1 _ 0 (by omega) (hcl 0 (by omega)).2.2.2, (B0.trans (hb.mono B0.size)).setCell (p := ⟨w.heap.size + 1 + 1, 0, none⟩) (show w.heap.size ≤ w.heap.size + 1 + 1 by omega) _, ?_, row_off hR (by omega), by simpa using hR.lt, World.cell?_setCell_same _ _ _ a1, ?_, fun j hj => ⟨?_, ?_, ?_⟩⟩
 · exact (World.cell?_setCell_other _ _ _ _ (by intro e; injection e with e; omega)).trans (c1 _ 1 _ (by omega) x1)
 · exact (World.cell?_setCell_other _ _ _ _ (by intro e; injection e with _ e; omega)).trans (c1 _ 1 _ (by omega) (hcl 1 (by omega)).2.1)
 · exact (World.cell?_setCell_other _ _ _ _ (by intro e; injection e with e; omega)).trans (c1 _ j _ (by omega) (hcl j hj).1)
 · simpa using f1 _ j (by omega) (hcl j hj).2.2.1
 · simpa using f1 _ j (by omega) (hcl j hj).2.2.2
theorem third {w V2 V3 : World} {s : Nat} {z sv tv : Value} {S : List Int} {T : List (List Int)} {pf : Nat → Nat} (B2 : Below w.heap.size w V2) (hR : RowI V2 s S.length (fun i => S.getD i 0)) (hs : s < V2.heap.size)
   (hcl : V2.cell? ⟨w.heap.size + 1 + 1, 0, none⟩ = some sv ∧ V2.cell? ⟨w.heap.size + 1 + 1, 1, none⟩ = some z ∧ ∀ j, j < 2 → V2.cell? ⟨w.heap.size + 1, j, none⟩ = some z ∧ V2.frozen? ⟨w.heap.size + 1, j, none⟩ = false ∧ V2.frozen? ⟨w.heap.size + 1 + 1, j, none⟩ = false)
   (h2 : w.heap.size + 3 ≤ s) (hM : MadeL V3 V2.heap.size T T.length pf) (hb : Below V2.heap.size V2 V3) :
   V3.cell? ⟨w.heap.size + 1 + 1, 1, none⟩ = some z ∧ V3.frozen? ⟨w.heap.size + 1 + 1, 1, none⟩ = false ∧
   ((V3.setCell ⟨w.heap.size + 1 + 1, 1, none⟩ tv).cell? ⟨w.heap.size + 1 + 1, 0, none⟩ = some sv ∧ (V3.setCell ⟨w.heap.size + 1 + 1, 1, none⟩ tv).cell? ⟨w.heap.size + 1 + 1, 1, none⟩ = some tv) ∧
   (∀ j, j < 2 → (V3.setCell ⟨w.heap.size + 1 + 1, 1, none⟩ tv).cell? ⟨w.heap.size + 1, j, none⟩ = some z ∧ (V3.setCell ⟨w.heap.size + 1 + 1, 1, none⟩ tv).frozen? ⟨w.heap.size + 1, j, none⟩ = false) ∧
   Hid (∀ V : World, V = ((V3.setCell ⟨w.heap.size + 1 + 1, 1, none⟩ tv).setCell ⟨w.heap.size + 1, 0, none⟩ sv).setCell ⟨w.heap.size + 1, 1, none⟩ tv → CopyL w V S T s V2.heap.size pf ∧ Below w.heap.size w V ∧ V.cell? ⟨w.heap.size + 1, 0, none⟩ = some sv ∧ V.cell? ⟨w.heap.size + 1, 1, none⟩ = some tv) := by
 have hs3 := hs
 have c1 : ∀ b j u, b < w.heap.size + 3 → V2.cell? ⟨b, j, none⟩ = some u → V3.cell? ⟨b, j, none⟩ = some u := fun b j u hb' hc => (hb.cell (p := ⟨b, j, none⟩) (show b < V2.heap.size by omega)).trans hc
 have f1 : ∀ b j, b < w.heap.size + 3 → V2.frozen? ⟨b, j, none⟩ = false → V3.frozen? ⟨b, j, none⟩ = false := fun b j hb' hc => (hb.frozen (p := ⟨b, j, none⟩) (show b < V2.heap.size by omega)).trans hc
 have a1 := c1 _ 1 _ (by omega) hcl.2.1
 have a0 := c1 _ 0 _ (by omega) hcl.1
 have r : ∀ j, j < 2 → (V3.setCell ⟨w.heap.size + 1 + 1, 1, none⟩ tv).cell? ⟨w.heap.size + 1, j, none⟩ = some z ∧ (V3.setCell ⟨w.heap.size + 1 + 1, 1, none⟩ tv).frozen? ⟨w.heap.size + 1, j, none⟩ = false := fun j hj =>
   ⟨(World.cell?_setCell_other _ _ _ _ (by intro e; injection e with e; omega)).trans (c1 _ j _ (by omega) (hcl.2.2 j hj).1), by simpa using f1 _ j (by omega) (hcl.2.2 j hj).2.1⟩
 refine ⟨a1, f1 _ 1 (by omega) (hcl.2.2 1 (by omega)).2.2, ⟨(World.cell?_setCell_other _ _ _ _ (by intro e; injection e with _ e; omega)).trans a0, World.cell?_setCell_same _ _ _ a1⟩, r, ?_⟩
 rintro V rfl
 refine ⟨⟨?_, ?_, by omega, hs⟩, ?_, ?_, ?_⟩
 · exact row_off (row_off (row_off (Nu.row_below hR hb) (by omega)) (by omega)) (by omega)
 · exact ((hM.off (by omega)).off (by omega)).off (by omega)
 · have := ((B2.trans (hb.mono B2.size)).setCell (p := ⟨w.heap.size + 1 + 1, 1, none⟩) (show w.heap.size ≤ w.heap.size + 1 + 1 by omega) tv).setCell (p := ⟨w.heap.size + 1, 0, none⟩) (show w.heap.size ≤ w.heap.size + 1 by omega) sv
   exact this.setCell (p := ⟨w.heap.size + 1, 1, none⟩) (show w.heap.size ≤ w.heap.size + 1 by omega) tv
 · exact (World.cell?_setCell_other _ _ _ _ (by intro e; injection e with _ e; omega)).trans (World.cell?_setCell_same _ _ _ (r 0 (by omega)).1)
 · exact World.cell?_setCell_same _ _ _ ((World.cell?_setCell_other _ _ _ _ (by intro e; injection e with _ e; omega)).trans (r 1 (by omega)).1)
set_option maxHeartbeats 1600000 in
theorem toLog (so qo : Option Addr) (sc tc : Nat) (S : List Int) (T : List (List Int)) (f : At) (w : World) (hS : S.length ≤ 1048576) (hT : T.length ≤ 1048576) (hTT : ∀ i, i < T.length → (T.getD i []).length ≤ 1048576) (h : InL w so qo S T f) :
   Calls Tryz.prog 18 #[.agg #[.slice so S.length sc, .slice qo T.length tc]] w fun e w' => ∃ s p q, e = .returned (.agg #[.slice (some ⟨s, 0, none⟩) S.length S.length, .slice (some ⟨p, 0, none⟩) T.length T.length]) ∧ CopyL w w' S T s p q ∧ Below w.heap.size w w' := by
 have HI : Hid (∀ W : World, Below w.heap.size w W → Calls Tryz.prog 9 #[.slice so S.length sc] W (Nu.ToPost S W)) := fun W hW => Nu.toInts so sc S W hS (h.seen.below hW)
 have HSS : Hid (∀ W : World, Below w.heap.size w W → Calls Tryz.prog 41 #[.slice qo T.length tc] W fun e w' => e = .returned (.slice (some ⟨W.heap.size, 0, none⟩) T.length T.length) ∧ (∃ p, MadeL w' W.heap.size T T.length p) ∧ Below W.heap.size W w') := fun W hW => toSS so qo tc S T f W hT hTT (h.below hW)
 obtain ⟨W0, hW0⟩ : ∃ W0, W0 = ((w.alloc (.cells #[.slice so S.length sc, .slice qo T.length tc] 36)).alloc (.cells #[.slice none 0 0, .slice none 0 0] 39)).alloc (.cells #[.slice none 0 0, .slice none 0 0] 39) := ⟨_, rfl⟩
 obtain ⟨B0, z0, x0, x1, hcl⟩ := three w (.slice so S.length sc) (.slice qo T.length tc) (.slice none 0 0) 36 39 W0 hW0
 have HW0 : Hid (W0 = _) := hW0
 have Z0 : Hid (W0.heap.size = w.heap.size + 3) := z0
 clear h hTT hW0 z0
 go_enter Tryz.func18, Tryz.ntmps18
 go_wp2_with fail
 rw [← HW0.out]
 refine (HI.out W0 B0).mono ?_
 rintro e V1 ⟨rfl, hR1, hb1⟩
 obtain ⟨q0, q1, HV2⟩ := second (sv := .slice (some ⟨W0.heap.size, 0, none⟩) S.length S.length) B0 Z0.out x1 hcl hb1 hR1
 clear HW0 HI hb1 hR1 x0 x1 hcl B0
 obtain ⟨V2, hV2⟩ : ∃ V2, V2 = V1.setCell ⟨w.heap.size + 1 + 1, 0, none⟩ (.slice (some ⟨W0.heap.size, 0, none⟩) S.length S.length) := ⟨_, rfl⟩
 rw [← hV2] at HV2
 have HE2 : Hid (V2 = _) := hV2
 clear hV2
 obtain ⟨B2, y1, hR2, hz2, hcl2⟩ := HV2.out
 go_upto_region 3 with fail
 rw [← HE2.out]
 go_wp2_with fail
 refine (HSS.out V2 B2).mono ?_
 rintro e V3 ⟨rfl, ⟨pf, hM⟩, hb3⟩
 obtain ⟨r0, r1, r2, r3, HF⟩ := third (tv := .slice (some ⟨V2.heap.size, 0, none⟩) T.length T.length) B2 hR2 hz2 hcl2 (by have := Z0.out; omega) hM hb3
 clear HSS HV2 hR2 hM hb3 B2 y1 hcl2
 obtain ⟨V4, hV4⟩ : ∃ V4, V4 = V3.setCell ⟨w.heap.size + 1 + 1, 1, none⟩ (.slice (some ⟨V2.heap.size, 0, none⟩) T.length T.length) := ⟨_, rfl⟩
 rw [← hV4] at r2 r3 HF
 have HE4 : Hid (V4 = _) := hV4
 clear hV4
 obtain ⟨r20, r21⟩ := r2
 obtain ⟨r30, r31⟩ := r3 0 (by omega)
 obtain ⟨r32, r33⟩ := r3 1 (by omega)
 have r34 : ∀ v, (V4.setCell ⟨w.heap.size + 1, 0, none⟩ v).cell? ⟨w.heap.size + 1, 1, none⟩ = some (.slice none 0 0) := fun v => (World.cell?_setCell_other _ _ _ _ (by intro e; injection e with _ e; omega)).trans r32
 clear r3 r32
 go_upto_region 4 with fail
 rw [← HE4.out]
 clear HE2 q0 q1
 go_wp2
 obtain ⟨F1, F2, F3, F4⟩ := HF.out _ rfl
 refine bodyPost_ret (v := .agg #[.slice (some ⟨W0.heap.size, 0, none⟩) S.length S.length, .slice (some ⟨V2.heap.size, 0, none⟩) T.length T.length]) (by simp [results, Tryz.results18, go_sem, F3, F4]) rfl ?_
 exact ⟨W0.heap.size, V2.heap.size, pf, rfl, F1, F2⟩
end Lg
end Go.Proofs.YtjnhniffgeepjaaGreat
