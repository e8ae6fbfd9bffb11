/-
  A map of pairs of knots' numbers that the call itself made: which pairs it holds; made, put, struck, cleared, counted. For numbers below 60.
-/
import Derived.Maps.OwnSet
import Derived.Maps.OwnIn
import Derived.DeepKeys4
import Derived.MapViews
import Derived.WideKeyEntry
import Derived.Lib.SmallJoins
import Derived.WalkKit
import Derived.Below
import Derived.Test.YtaoglifenjmecajBase
namespace Go.Proofs.Ytaoglifenjmecaj
open Go.RowKit Go.ChangeShapes Go.WideShapes Go.WideElems Go.Joins
open Go.ChangeMaps (setBlock heap_setBlock_same heap_setBlock_other)
open Go.Maps (Keyed)
set_option maxRecDepth 100000
namespace Db

theorem laidOutP : laidOutB Try.prog = true := by kernel_rfl
theorem rowPair : (89 : TypeId) < Try.prog.types.size := of_decide_eq_true (by kernel_rfl)
theorem widePair : (match Try.prog.underlying 89 with | some (.array _ _) | some (.struct _) => true | _ => false) = true := by rw [Try.underlying89]
theorem klaw : WideMaps.KeyLaw Try.prog 89 := deep_law_laid laidOutP (m := 2) (by omega) rowPair (by kernel_rfl) widePair
theorem keyed : Keyed Try.prog 89 := Keyed.of_law klaw
theorem deepPair : Try.prog.keyTypeAt (Try.prog.types.size + 1) 89 = true := by kernel_rfl
theorem cellsPair : Try.prog.cellsOf 89 = 2 := by kernel_rfl
theorem zeroI (w : World) : (zeroValue 2).run Try.prog w = .ok (.int .i64 0) w := by kernel_rfl

/-- a pair as a value -/
abbrev pv (a b : Nat) : Value := .agg #[.int .i64 (a : Int), .int .i64 (b : Int)]
/-- a pair as a key -/
def kl (a b : Nat) : Lit := (DataW.agg [.lit (.int .i64 (a : Int)), .lit (.int .i64 (b : Int))] : DataW Unit).asKey

theorem wfN (a : Nat) (ha : a < 60) : (Lit.int .i64 (a : Int)).wf = true := by
  simp [Lit.wf, IntKind.min, IntKind.max, IntKind.signed, IntKind.bits]; omega

theorem key_pv (a b : Nat) (ha : a < 60) (hb : b < 60) : keyOf Try.prog 89 (pv a b) = some (kl a b) := by
  have tr : ∀ x : Nat, x < 60 → ∃ n, DataW.trod (fun _ : TypeId × Value => ()) Try.prog (default : World) 0 (fun _ => true) true n 2 [.int .i64 (x : Int)] = some (.lit (.int .i64 (x : Int)), []) := fun x hx => ⟨1, by simp [DataW.trod, Try.underlying2, wfN x hx]⟩
  have ht := shut_agg2 (enc := fun _ : TypeId × Value => ()) (P := Try.prog) (w := (default : World)) (base := 0) (spare := fun _ => true) (held := true) (y0 := (.lit (.int .i64 (a : Int)), [])) (y1 := (.lit (.int .i64 (b : Int)), [])) Try.underlying89 (by kernel_rfl) cellsPair (tr a ha) (tr b hb)
  exact (keyOf_asKey deepPair widePair (by simp [Value.formed, Try.underlying89, cellsPair]) ht).1

theorem kl_inj {a b a' b' : Nat} (ha : a < 60) (hb : b < 60) (ha' : a' < 60) (hb' : b' < 60) (h : kl a b = kl a' b') : a = a' ∧ b = b' := by
  have := keyed.inj (key_pv a b ha hb) (h ▸ key_pv a' b' ha' hb')
  simp only [pv, Value.agg.injEq, Array.mk.injEq, List.cons.injEq, Value.int.injEq, true_and, and_true] at this
  omega

/-- block M is a map of at most n pairs: just those of S -/
def Apart (w : World) (M n : Nat) (S : Nat → Nat → Bool) : Prop :=
  ∃ D : DataW Unit, w.ownsMap Try.prog 89 (plainElem Try.prog 2) M n D ∧ (∀ i j, i < 60 → j < 60 → Maps.has D (kl i j) = S i j) ∧ (∀ k, Maps.has D k = true → ∃ i j, i < 60 ∧ j < 60 ∧ k = kl i j)

theorem Apart.lt {w : World} {M n : Nat} {S : Nat → Nat → Bool} (h : Apart w M n S) : M < w.heap.size := by
  obtain ⟨D, h, _⟩ := h
  exact h.lt
theorem Apart.kept {w w' : World} {row : Option Nat} {M n : Nat} {S : Nat → Nat → Bool} (h : Apart w M n S) (hg : w.grownBy w' row) (hne : some M ≠ row) : Apart w' M n S := by
  obtain ⟨D, h, r⟩ := h
  exact ⟨D, h.kept hg hne, r⟩
theorem Apart.mono {w : World} {M n n' : Nat} {S : Nat → Nat → Bool} (h : Apart w M n S) (hn : n ≤ n') : Apart w M n' S := by
  obtain ⟨D, h, r⟩ := h
  exact ⟨D, h.mono hn, r⟩
theorem Apart.of {w : World} {M n : Nat} {S S' : Nat → Nat → Bool} (h : Apart w M n S) (he : ∀ i j, i < 60 → j < 60 → S i j = S' i j) : Apart w M n S' := by
  obtain ⟨D, h, r1, r2⟩ := h
  exact ⟨D, h, fun i j hi hj => (r1 i j hi hj).trans (he i j hi hj), r2⟩

theorem apart_none {w : World} {M n : Nat} (h : w.ownsMap Try.prog 89 (plainElem (H := Unit) Try.prog 2) M n (.map [])) : Apart w M n (fun _ _ => false) :=
  ⟨_, h, fun i j _ _ => rfl, fun k hk => by cases hk⟩
theorem apart_made (w : World) : Apart (w.alloc (.map #[] 0)) w.heap.size 0 (fun _ _ => false) := apart_none (World.ownsMap_made w _ _ _)

/-- cleared -/
theorem apart_clear {w : World} {M n : Nat} {S : Nat → Nat → Bool} (h : Apart w M n S) (ty : TypeId) :
    ∃ w', (Builtin.clear_ #[74] ty #[.map (some M)]).run Try.prog w = .ok (.tuple #[]) w' ∧ Apart w' M 0 (fun _ _ => false) ∧ w.grownBy w' (some M) := by
  obtain ⟨D, ⟨es, clock, hb, F, hs, hD⟩, _⟩ := h
  refine ⟨setBlock w M (.map #[] clock), ?_, apart_none ⟨#[], clock, heap_setBlock_same hb _, ⟨by simp, ?_, by simp⟩, Nat.le_refl _, rfl⟩, ?_⟩
  · simp [Builtin.clear_, run_underlying Try.underlying74, MapKept.run_getObj_map hb, MapKept.run_setObj_map _ hb, Result.andThen, setBlock]
  · exact MapKept.stamped_empty clock
  · exact ⟨rfl, rfl, rfl, by simp [setBlock], fun i _ hi => heap_setBlock_other hb _ (fun e => hi (by rw [e]))⟩

/-- counted -/
theorem apart_len {w : World} {M n : Nat} {S : Nat → Nat → Bool} (h : Apart w M n S) (ty : TypeId) :
    ∃ c : Nat, (Builtin.len_ #[74] ty #[.map (some M)]).run Try.prog w = .ok (.int .i64 (c : Int)) w ∧ (0 < c ↔ ∃ i j, i < 60 ∧ j < 60 ∧ S i j = true) := by
  obtain ⟨D, h, r1, r2⟩ := h
  refine ⟨Maps.size D, h.len Try.underlying74 ty, ?_⟩
  obtain ⟨es, clock, hb, F, hs, rfl⟩ := h
  constructor
  · intro hc
    generalize hl : (es.toList.map (rg Try.prog 89 (plainElem (H := Unit) Try.prog 2))).foldr DataW.insert [] = l at hc r1 r2
    cases l with
    | nil => exact absurd hc (Nat.lt_irrefl 0)
    | cons p l =>
      have hp : p ∈ es.toList.map (rg Try.prog 89 (plainElem (H := Unit) Try.prog 2)) := (sorted_perm _).mem_iff.1 (hl ▸ List.mem_cons_self ..)
      obtain ⟨v, hv⟩ := Maps.fit_keys F p hp
      have hk : WideAt.IsKeyLit p.1 := keyed.key hv
      have hh : Maps.has (.map (p :: l) : DataW Unit) p.1 = true := by simp [Maps.has, WideAt.sameKey_self hk]
      obtain ⟨i, j, hi, hj, e⟩ := r2 _ hh
      exact ⟨i, j, hi, hj, by rw [← r1 i j hi hj, ← e]; exact hh⟩
  · rintro ⟨i, j, hi, hj, hS⟩
    have hh := (r1 i j hi hj).trans hS
    generalize (es.toList.map (rg Try.prog 89 (plainElem (H := Unit) Try.prog 2))).foldr DataW.insert [] = l at hh
    cases l with
    | nil => cases hh
    | cons p l => exact Nat.succ_pos _

theorem put_has {D : DataW Unit} {S : Nat → Nat → Bool} (hD : Maps.IsMap D) (r1 : ∀ i j, i < 60 → j < 60 → Maps.has D (kl i j) = S i j) (r2 : ∀ k, Maps.has D k = true → ∃ i j, i < 60 ∧ j < 60 ∧ k = kl i j) (a b : Nat) (ha : a < 60) (hb : b < 60) (d : DataW Unit) :
    (∀ i j, i < 60 → j < 60 → Maps.has (D.put (kl a b) d) (kl i j) = (S i j || (decide (i = a) && decide (j = b)))) ∧ (∀ k, Maps.has (D.put (kl a b) d) k = true → ∃ i j, i < 60 ∧ j < 60 ∧ k = kl i j) := by
  have hk : WideAt.IsKeyLit (kl a b) := keyed.key (key_pv a b ha hb)
  constructor
  · intro i j hi hj
    by_cases e : i = a ∧ j = b
    · obtain ⟨rfl, rfl⟩ := e
      rw [Maps.has_put_same hD hk]; simp
    · have hne : kl i j ≠ kl a b := fun e' => e (kl_inj hi hj ha hb e')
      rw [Maps.has_put_other hne, r1 i j hi hj]
      have : (decide (i = a) && decide (j = b)) = false := by rw [Bool.eq_false_iff]; intro h; simp at h; exact e h
      rw [this, Bool.or_false]
  · intro k h
    by_cases e : k = kl a b
    · exact ⟨a, b, ha, hb, e⟩
    · rw [Maps.has_put_other e] at h; exact r2 k h

theorem del_has {D : DataW Unit} {S : Nat → Nat → Bool} (r1 : ∀ i j, i < 60 → j < 60 → Maps.has D (kl i j) = S i j) (r2 : ∀ k, Maps.has D k = true → ∃ i j, i < 60 ∧ j < 60 ∧ k = kl i j) (a b : Nat) (ha : a < 60) (hb : b < 60) :
    (∀ i j, i < 60 → j < 60 → Maps.has (D.del (kl a b)) (kl i j) = (S i j && !(decide (i = a) && decide (j = b)))) ∧ (∀ k, Maps.has (D.del (kl a b)) k = true → ∃ i j, i < 60 ∧ j < 60 ∧ k = kl i j) := by
  constructor
  · intro i j hi hj
    by_cases e : i = a ∧ j = b
    · obtain ⟨rfl, rfl⟩ := e
      rw [Maps.has_del_same]; simp
    · have hne : kl i j ≠ kl a b := fun e' => e (kl_inj hi hj ha hb e')
      rw [Maps.has_del_other hne, r1 i j hi hj]
      have : (decide (i = a) && decide (j = b)) = false := by rw [Bool.eq_false_iff]; intro h; simp at h; exact e h
      rw [this]; simp
  · intro k h
    by_cases e : k = kl a b
    · exact ⟨a, b, ha, hb, e⟩
    · rw [Maps.has_del_other e] at h; exact r2 k h

/-- struck -/
theorem apart_drop {w : World} {M n : Nat} {S : Nat → Nat → Bool} (h : Apart w M n S) (a b : Nat) (ha : a < 60) (hb : b < 60) (ty : TypeId) :
    ∃ w', (Builtin.delete_ #[74, 89] ty #[.map (some M), pv a b]).run Try.prog w = .ok (.tuple #[]) w' ∧ Apart w' M n (fun i j => S i j && !(decide (i = a) && decide (j = b))) ∧ w.grownBy w' (some M) := by
  obtain ⟨D, h, r1, r2⟩ := h
  obtain ⟨w', hr, ho, ht⟩ := h.drop keyed Try.underlying74 (key_pv a b ha hb) ty
  exact ⟨w', hr, ⟨_, ho, (del_has r1 r2 a b ha hb).1, (del_has r1 r2 a b ha hb).2⟩, ht.grown⟩

/-- put: looked up, its entry made, its entry written -/
structure Puts (w : World) (M n : Nat) (S : Nat → Nat → Bool) (a b : Nat) (c : Int) (v0 : Value) (st : Nat) (o1 : Obj) : Prop where
  look : ∀ k, (Instr.lookup 74 (.map (some M)) (pv a b) false).run Try.prog (w.drewN k) = .ok (.int .i64 c) (w.drewN k)
  entry : ∀ k, (Instr.mapEntry 74 (.map (some M)) (pv a b)).run Try.prog (w.drewN k) = .ok (.tuple #[v0, .int .i64 (st : Int)]) (setBlock (w.drewN k) M o1)
  look1 : ∀ k, (Instr.lookup 74 (.map (some M)) (pv a b) false).run Try.prog (setBlock (w.drewN k) M o1) = .ok (.int .i64 c) (setBlock (w.drewN k) M o1)
  store : ∀ x : Int, (Lit.int .i64 x).wf = true → ∃ o2, (∀ k, (Instr.entryStore 74 (.map (some M)) (.int .i64 (st : Int)) (.int .i64 x)).run Try.prog (setBlock (w.drewN k) M o1) = .ok () (setBlock (w.drewN k) M o2)) ∧ Apart (setBlock w M o2) M (n + 1) (fun i j => S i j || (decide (i = a) && decide (j = b))) ∧ w.grownBy (setBlock w M o2) (some M)

theorem setBlock_twice (w : World) (M : Nat) (o o' : Obj) : setBlock (setBlock w M o) M o' = setBlock w M o' := by simp [setBlock]

theorem one_at {l : List MapEntry} (h : l.Pairwise (fun x y => x.key ≠ y.key)) {j j' : Nat} {e e' : MapEntry} (hj : l[j]? = some e) (hj' : l[j']? = some e') (hk : e.key = e'.key) : j = j' := by
  obtain ⟨h1, rfl⟩ := List.getElem?_eq_some_iff.1 hj
  obtain ⟨h2, rfl⟩ := List.getElem?_eq_some_iff.1 hj'
  rcases Nat.lt_trichotomy j j' with hlt | heq | hgt
  · exact absurd hk (List.pairwise_iff_getElem.1 h j j' h1 h2 hlt)
  · exact heq
  · exact absurd hk.symm (List.pairwise_iff_getElem.1 h j' j h2 h1 hgt)

theorem block_drewN (w : World) (k M : Nat) : (w.drewN k).heap[M]? = w.heap[M]? := rfl

theorem grown_setBlock (w : World) (M : Nat) (o' : Obj) : w.grownBy (setBlock w M o') (some M) := by
  refine ⟨rfl, rfl, rfl, by simp [setBlock], fun i _ hi => ?_⟩
  unfold setBlock
  simp only [Array.getElem?_setIfInBounds]
  rw [if_neg (fun e => hi (by rw [e]))]

theorem look_hit (V : World) (M : Nat) (es : Array MapEntry) (clock a b j : Nat) (ha : a < 60) (hb : b < 60) (c : Int) (hV : V.heap[M]? = some (.map es clock)) (hf : (Instr.findKey 89 (pv a b) es.toList).run Try.prog V = .ok (some (j, .int .i64 c)) V) :
    (Instr.lookup 74 (.map (some M)) (pv a b) false).run Try.prog V = .ok (.int .i64 c) V := by
  simp [Instr.lookup, run_underlying Try.underlying74, MapKept.run_getObj_map hV, keyed.check V _ (key_pv a b ha hb), hf, Result.andThen]

theorem store_hit (V : World) (M : Nat) (es es2 : Array MapEntry) (clock st i : Nat) (x : Int) (hV : V.heap[M]? = some (.map es clock)) (hi : es.findIdx? (fun e => ((e.born : Nat) : Int) == ((st : Nat) : Int)) = some i) (hm : es.modify i (fun e => { e with val := Value.int .i64 x }) = es2) :
    (Instr.entryStore 74 (.map (some M)) (.int .i64 (st : Int)) (.int .i64 x)).run Try.prog V = .ok () (setBlock V M (.map es2 clock)) := by
  simp [Instr.entryStore, MapKept.run_getObj_map hV, asInt, asIntOf, hi, hm, MapKept.run_setObj_map _ hV, Result.andThen, setBlock]

theorem apart_puts {w : World} {M n : Nat} {S : Nat → Nat → Bool} (h : Apart w M n S) (hn : n < 100000) (a b : Nat) (ha : a < 60) (hb : b < 60) : ∃ c v0 st o1, Puts w M n S a b c v0 st o1 := by
  obtain ⟨D, h, r1, r2⟩ := h
  have hkey := key_pv a b ha hb
  have hup := fun (x : Int) (wx : (Lit.int .i64 x).wf = true) => h.store (ps := []) keyed Try.underlying74 (show n < maxLen by unfold maxLen; omega) hkey (plainElem_int Try.underlying2 wx)
  have hD := h.isMap
  obtain ⟨es, clock, hbl, F, hs, _⟩ := h
  have hst := F.stamped
  obtain ⟨s1, s2, s3⟩ := hst
  have hpw : es.toList.Pairwise (fun x y => x.key ≠ y.key) := ((MapKept.stamped_iff es clock).1 F.stamped).2.2
  have hblk : ∀ k, (w.drewN k).heap[M]? = some (.map es clock) := fun k => hbl
  have fin : ∀ (es2 : Array MapEntry) (clock2 : Nat) (x : Int), (Lit.int .i64 x).wf = true → (Instr.mapUpdate 74 (.map (some M)) (pv a b) (.int .i64 x)).run Try.prog w = .ok () (setBlock w M (.map es2 clock2)) →
      Apart (setBlock w M (.map es2 clock2)) M (n + 1) (fun i j => S i j || (decide (i = a) && decide (j = b))) ∧ w.grownBy (setBlock w M (.map es2 clock2)) (some M) := by
    intro es2 clock2 x wx hrun
    obtain ⟨w', hr, ho, _⟩ := hup x wx
    rw [hrun] at hr
    injection hr with _ hr
    subst hr
    exact ⟨⟨_, ho, (put_has hD r1 r2 a b ha hb _).1, (put_has hD r1 r2 a b ha hb _).2⟩, grown_setBlock w M _⟩
  by_cases hex : ∃ j : Nat, ∃ e0 : MapEntry, es.toList[j]? = some e0 ∧ e0.key = pv a b
  · obtain ⟨j, e0, hj, h3⟩ := hex
    have hfind : ∀ V : World, (Instr.findKey 89 (pv a b) es.toList).run Try.prog V = .ok (some (j, e0.val)) V := by
      intro V
      rcases keyed.find V hkey es.toList F.keys with ⟨_, h2⟩ | ⟨j', e', f1, f2, f3⟩
      · exact absurd h3 (h2 e0 (List.mem_of_getElem? hj))
      · have e1 := one_at hpw hj f2 (h3.trans f3.symm)
        subst e1
        rw [hj] at f2
        injection f2 with f2
        subst f2
        exact f1
    obtain ⟨y, hy⟩ := F.reads e0 (List.mem_of_getElem? hj)
    obtain ⟨z, hz, _⟩ := rd_val hy
    obtain ⟨c, hc, _, _⟩ := plainElem_int_inv Try.underlying2 hz
    have hja : es[j]? = some e0 := by simpa using hj
    have hsame : es.modify j (fun e => { e with key := pv a b }) = es := by
      apply Array.ext'
      rw [Array.toList_modify, ChangeMaps.modify_eq_set _ _ _ _ hj]
      have : ({ e0 with key := pv a b } : MapEntry) = e0 := by rw [← h3]
      rw [this]
      exact set_self _ _ _ hj
    have hself : ∀ V : World, V.heap[M]? = some (.map es clock) → setBlock V M (.map es clock) = V := by
      intro V hV
      have : V.heap.setIfInBounds M (.map es clock) = V.heap := by
        apply Array.ext_getElem?
        intro i
        by_cases hi : i = M
        · subst hi; exact (heap_setBlock_same hV _).trans hV.symm
        · exact heap_setBlock_other hV _ hi
      unfold setBlock; rw [this]
    have hlook : ∀ V : World, V.heap[M]? = some (.map es clock) → (Instr.lookup 74 (.map (some M)) (pv a b) false).run Try.prog V = .ok (.int .i64 c) V := by
      intro V hV
      simp [Instr.lookup, run_underlying Try.underlying74, MapKept.run_getObj_map hV, keyed.check V _ hkey, hfind V, hc, Result.andThen]
    refine ⟨c, e0.val, e0.born, .map es clock, ⟨fun k => hlook _ (hblk k), fun k => ?_, fun k => ?_, fun x wx => ⟨.map (es.modify j (fun e => { e with val := .int .i64 x })) clock, fun k => ?_, ?_⟩⟩⟩
    · simp [Instr.mapEntry, run_underlying Try.underlying74, MapKept.run_getObj_map (hblk k), keyed.check _ false hkey, hfind, hja, h3, keyed.stays _ hkey, hsame, MapKept.run_setObj_map _ (hblk k), Result.andThen, setBlock, goInt]
    · rw [hself _ (hblk k)]; exact hlook _ (hblk k)
    · have hidx : es.findIdx? (fun e => ((e.born : Nat) : Int) == ((e0.born : Nat) : Int)) = some j := by
        rw [findIdx_arr]
        exact findIdx_born s2 hj
      rw [hself _ (hblk k)]
      simp [Instr.entryStore, MapKept.run_getObj_map (hblk k), asInt, asIntOf, hidx, MapKept.run_setObj_map _ (hblk k), Result.andThen, setBlock]
    · refine fin _ _ x wx ?_
      have hmod : es.modify j (fun e => { e with val := Value.int .i64 x }) = es.modify j (fun e' => { e' with key := pv a b, val := Value.int .i64 x }) := by
        apply Array.ext'
        rw [Array.toList_modify, Array.toList_modify, ChangeMaps.modify_eq_set _ _ _ _ hj, ChangeMaps.modify_eq_set _ _ _ _ hj, ← h3]
      rw [hmod]
      simp [Instr.mapUpdate, run_underlying Try.underlying74, MapKept.run_getObj_map hbl, keyed.check w false hkey, hfind w, hja, h3, keyed.stays w hkey, MapKept.run_setObj_map _ hbl, Result.andThen, setBlock]
  · have hno : ∀ e ∈ es.toList, e.key ≠ pv a b := fun e he hk => by
      obtain ⟨j, hj⟩ := List.getElem?_of_mem he
      exact hex ⟨j, e, hj, hk⟩
    have hfind : ∀ V : World, (Instr.findKey 89 (pv a b) es.toList).run Try.prog V = .ok none V := by
      intro V
      rcases keyed.find V hkey es.toList F.keys with ⟨f1, _⟩ | ⟨j', e', _, f2, f3⟩
      · exact f1
      · exact absurd f3 (hno e' (List.mem_of_getElem? f2))
    have hfind1 : ∀ V : World, ∃ j, (Instr.findKey 89 (pv a b) (es.push ⟨pv a b, .int .i64 0, clock⟩).toList).run Try.prog V = .ok (some (j, .int .i64 0)) V := by
      intro V
      have hks : ∀ e ∈ (es.push ⟨pv a b, .int .i64 0, clock⟩).toList, ∃ l, keyOf Try.prog 89 e.key = some l := by
        intro e he
        simp only [Array.toList_push, List.mem_append, List.mem_singleton] at he
        rcases he with he | rfl
        · exact F.keys e he
        · exact ⟨_, hkey⟩
      rcases keyed.find V hkey _ hks with ⟨_, h2⟩ | ⟨j', e', f1, f2, f3⟩
      · exact absurd rfl (h2 ⟨pv a b, .int .i64 0, clock⟩ (by simp))
      · have hm := List.mem_of_getElem? f2
        simp only [Array.toList_push, List.mem_append, List.mem_singleton] at hm
        rcases hm with hm | rfl
        · exact absurd f3 (hno e' hm)
        · exact ⟨j', f1⟩
    have hb1 : ∀ k, (setBlock (w.drewN k) M (.map (es.push ⟨pv a b, .int .i64 0, clock⟩) (clock + 1))).heap[M]? = some (.map (es.push ⟨pv a b, .int .i64 0, clock⟩) (clock + 1)) := fun k => heap_setBlock_same (hblk k) _
    refine ⟨0, .int .i64 0, clock, .map (es.push ⟨pv a b, .int .i64 0, clock⟩) (clock + 1), ⟨fun k => ?_, fun k => ?_, fun k => ?_, fun x wx => ⟨.map (es.push ⟨pv a b, .int .i64 x, clock⟩) (clock + 1), fun k => ?_, ?_⟩⟩⟩
    · simp [Instr.lookup, run_underlying Try.underlying74, MapKept.run_getObj_map (hblk k), keyed.check _ _ hkey, hfind, Result.andThen]
    · simp [Instr.mapEntry, run_underlying Try.underlying74, MapKept.run_getObj_map (hblk k), keyed.check _ false hkey, hfind, MapKept.run_setObj_map _ (hblk k), Result.andThen, setBlock, goInt]
    · obtain ⟨j, hj⟩ := hfind1 (setBlock (w.drewN k) M (.map (es.push ⟨pv a b, .int .i64 0, clock⟩) (clock + 1)))
      exact look_hit _ M _ _ a b j ha hb 0 (hb1 k) hj
    · have hidx : (es.push ⟨pv a b, .int .i64 0, clock⟩).findIdx? (fun e => ((e.born : Nat) : Int) == ((clock : Nat) : Int)) = some es.size := by
        rw [findIdx_arr]
        exact findIdx_born (l := (es.push ⟨pv a b, .int .i64 0, clock⟩).toList) (j := es.size) (e0 := ⟨pv a b, .int .i64 0, clock⟩) (by
          simp only [Array.toList_push, List.map_append, List.map_cons, List.map_nil]
          refine List.nodup_append.2 ⟨s2, by simp, fun x hx y hy e1 => ?_⟩
          simp only [List.mem_singleton] at hy
          obtain ⟨z, hz, rfl⟩ := List.mem_map.1 hx
          have := s1 z hz
          omega) (by simp)
      have hmod : (es.push ⟨pv a b, .int .i64 0, clock⟩).modify es.size (fun e => { e with val := Value.int .i64 x }) = es.push ⟨pv a b, .int .i64 x, clock⟩ := by
        apply Array.ext'
        rw [Array.toList_modify, Array.toList_push, Array.toList_push, ← Array.length_toList, modify_last]
      rw [store_hit _ M _ _ _ clock es.size x (hb1 k) hidx hmod, setBlock_twice]
    · refine fin _ _ x wx ?_
      simp [Instr.mapUpdate, run_underlying Try.underlying74, MapKept.run_getObj_map hbl, keyed.check w false hkey, hfind w, MapKept.run_setObj_map _ hbl, Result.andThen, setBlock]

end Db
end Go.Proofs.Ytaoglifenjmecaj
