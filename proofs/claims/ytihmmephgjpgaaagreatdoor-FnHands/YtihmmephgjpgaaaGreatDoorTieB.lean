/-
  What the model's copy of a list and the program's own handing out and tying answer: the knots in memory of their own; for lists of at most 2000000 knots.
-/
import Derived.Test.YtihmmephgjpgaaaGreatDoorLaceE
import Derived.Test.YtihmmephgjpgaaaGreatDoorLaceL
import Derived.Laws.CopyOwn
namespace Go.Proofs.YtihmmephgjpgaaaGreatDoor
open Go.RowKit
set_option maxRecDepth 100000
namespace Lc
open Kn (K okK)

theorem cells_at {w : World} {g o : Nat} {k : K} (h : CellsK w g o k) (c : Nat) (hc : c < 4) (u : Value) (hu : (cellsOf k)[c]? = some u) : w.cell? ⟨g, o + c, none⟩ = some u := by
  match c, hc with
  | 0, _ => simp [cellsOf] at hu; subst hu; exact h.c0
  | 1, _ => simp [cellsOf] at hu; subst hu; exact h.c1
  | 2, _ => simp [cellsOf] at hu; subst hu; exact h.c2
  | 3, _ => simp [cellsOf] at hu; subst hu; exact h.c3

theorem rd_news {w : World} {g off : Nat} {L : List K} (h : RdK w (some ⟨g, off, none⟩) L) : ∀ (j : Nat) u, (flat L)[j]? = some u → w.cell? ((⟨g, off, none⟩ : Addr).add j) = some u := by
  intro j u hj
  have hlt : j < L.length * 4 := by
    have := (List.getElem?_eq_some_iff.1 hj).1
    rwa [flat_len] at this
  have e : j = j / 4 * 4 + j % 4 := by omega
  have hc := (h.on (j / 4) (by omega)).2
  rw [e, flat_at L (j / 4) (j % 4) (by omega) (by omega)] at hj
  have := cells_at hc (j % 4) (by omega) u hj
  rw [WideShapes.add_plain]
  rwa [show off + j / 4 * 4 + j % 4 = off + j by omega] at this

theorem ownK_base {t : TypeId} {b b' : Nat} {w : World} {v : Value} {L : List K} (h : OwnK t b w v L) (hb : b' ≤ b) : OwnK t b' w v L := by
  refine ⟨?_, h.2⟩
  obtain ⟨h1, h2⟩ := h.1
  refine ⟨h1, ?_⟩
  rcases h2 with h2 | ⟨g, cap', cur, hv, hB, rest⟩
  · exact .inl h2
  · exact .inr ⟨g, cap', cur, hv, by omega, rest⟩

theorem own_nil (w : World) (t : TypeId) : (w.alloc (.cells #[] t)).ownsRow w.heap.size t 4 (.slice (some ⟨w.heap.size, 0, none⟩) 0 0) 0 [] := by
  refine ⟨rfl, .inr ⟨w.heap.size, 0, #[], rfl, Nat.le_refl _, ?_, Nat.le_refl _, by unfold maxLen; omega, rfl, rfl⟩⟩
  show (w.heap.push _)[w.heap.size]? = _
  rw [Array.getElem?_push_size]

/-- copied -/
def CopyPost (L : List K) (w : World) (e : Ending) (w' : World) : Prop := ∃ v, e = .returned v ∧ OwnK 41 w.heap.size w' v L ∧ Below w.heap.size w w'

set_option maxHeartbeats 800000 in
theorem l3Copy (g off cap : Nat) (L : List K) (w : World) (hl : L.length ≤ 2000000) (hr : RdK w (some ⟨g, off, none⟩) L) : Calls Tryz.prog 56 #[.slice (some ⟨g, off, none⟩) L.length cap] w (CopyPost L w) := by
  obtain ⟨i0, hi, hz0, hz1, hz2⟩ := info_parts infoKn
  go_enter Tryz.func56, Tryz.ntmps56
  go_wp2_with (at_builtin; refine wpList_append_own _ rfl _ _ 24 rfl w.heap.size 41 i0 (.agg #[.int .i64 0, .int .i64 0, .int .i64 0, .string ⟨#[]⟩]) 4 40 Tryz.underlying24 hi hz0 hz1 hz2 rfl (by decide) _ 0 [] rfl (own_nil w _) ⟨g, off, none⟩ L.length cap (flat L) rfl (flat_len L) ?c1 ?c2 ?c3 ?c4 ?c5 ?_)
  case c1 => exact rd_news (hr.below ((Below.refl _ _).alloc (Nat.le_refl _) _))
  case c2 => exact flat_one L
  case c3 => unfold maxLen; omega
  case c4 => omega
  case c5 => simp
  intro v' w5 hown' hgrow hnil
  have HR : Hid (OwnK 41 w.heap.size w5 v' L ∧ Below w.heap.size w w5) := by
    refine ⟨⟨by simpa using hown', ?_⟩, ?_⟩
    · intro e
      simp [e] at hnil
    · exact ((Below.refl w.heap.size w).alloc (Nat.le_refl _) _).grown hgrow (by simp) (fun i hi => by simp [Value.ownBlock] at hi; omega)
  clear hown' hgrow hnil hi hz0 hz1 hz2
  go_wp2
  go_ret
  exact ⟨v', rfl, HR.out.1, HR.out.2⟩

theorem run_copy4 {P : Program} (w : World) (dT sT ty elem : TypeId) (g dLen dCap : Nat) (a : Addr) (sLen sCap m : Nat) (cur : Array Value) (t : TypeId) (cs : List Value)
    (hu : P.underlying dT = some (.slice elem)) (hs : (P.info? elem).map (·.size) = some 4)
    (hg : w.heap[g]? = some (.cells cur t (0, 0))) (hm : Nat.min sLen dLen = m) (hn : cs.length = m * 4)
    (hsrc : ∀ j v, cs[j]? = some v → w.cell? (a.add j) = some v) (hfit : cs.length ≤ cur.size) (h1 : ∀ v ∈ cs, v.oneCell' = true) :
    (Builtin.copy_ #[dT, sT] ty #[.slice (some ⟨g, 0, none⟩) dLen dCap, .slice (some a) sLen sCap]).run P w =
      .ok (goInt m) (w.setRow g (cs ++ cur.toList.drop cs.length).toArray) := by
  have hl := run_loadCells_list (P := P) w a cs hsrc
  have hst := run_storeCells_at P g 0 t cs 0 cur w hg (by simpa using hfit) h1
  cases hq : P.info? elem with
  | none => simp [hq] at hs
  | some i =>
    have hi : i.size = 4 := by simpa [hq] using hs
    rw [hn] at hl
    simp [Builtin.copy_, run_underlying hu, Builtin.lenOf, Builtin.firstCells, sizeOf, typeInfo, hq, hi, hm, hl, hst]

theorem wpList_copy4 {P : Program} {w : World} {ops : Array Oper} {rest : List Oper} {o : Oper} {a : Act} {Q : Exit → Act → World → Prop} (hgd : o.guard = none) (d s : Operand) (dT sT : TypeId)
    (ho : o.op = .call { callee := .builtin .copy, args := #[d, s], argTypes := #[dT, sT] }) (elem : TypeId) (hu : P.underlying dT = some (.slice elem)) (hsz : (P.info? elem).map (·.size) = some 4)
    (g dLen dCap : Nat) (ad : Addr) (sLen sCap m : Nat) (hd : a.eval d = .slice (some ⟨g, 0, none⟩) dLen dCap) (hs : a.eval s = .slice (some ad) sLen sCap)
    (cur : Array Value) (t : TypeId) (hg : w.heap[g]? = some (.cells cur t (0, 0))) (cs : List Value) (hm : Nat.min sLen dLen = m) (hn : cs.length = m * 4)
    (hsrc : ∀ j v, cs[j]? = some v → w.cell? (ad.add j) = some v) (hfit : cs.length ≤ cur.size) (h1 : ∀ v ∈ cs, v.oneCell' = true) (B : Nat) (w0 : World) (hb : Below B w0 w) (hBg : B ≤ g)
    (h : ∀ w', w'.heap[g]? = some (.cells (cs ++ cur.toList.drop cs.length).toArray t (0, 0)) → Below B w0 w' → wpList P ops Q rest (a.put o.dst (goInt m)) w') : wpList P ops Q (o :: rest) a w := by
  refine wpList_plain hgd fun K hK => ?_
  have hrun := run_copy4 (P := P) w dT sT o.type elem g dLen dCap ad sLen sCap m cur t cs hu hsz hg hm hn hsrc hfit h1
  unfold Oper.wp
  simp [execOp, ho, resolve, invoke, builtin, hd, hs, hrun, Result.andThen]
  exact hK _ _ (h _ (setRow_heap w g _ _ t _ hg) (below_setRow hb hBg _))

theorem made_row {w : World} {g n : Nat} {L : List K} {k : K} {t : TypeId} {tail : List Value} (hn : L.length = n) (ht : tail.length = 4) (hg : w.heap[g]? = some (.cells (flat L ++ tail).toArray t (0, 0))) : Made w g (n + 1) (L ++ [k]) n where
  lt := (Array.getElem?_eq_some_iff.1 hg).1
  rd := fun i hi => by
    have hcell : ∀ j u, (flat L)[j]? = some u → w.cell? ⟨g, j, none⟩ = some u := by
      intro j u hj
      have hjl := (List.getElem?_eq_some_iff.1 hj).1
      simp [World.cell?, hg, List.getElem?_append_left hjl, hj]
    rw [at_left L [k] i (by omega)]
    exact ⟨hcell (i * 4) _ (by have := flat_at L i 0 (by omega) (by omega); simpa [cellsOf] using this), hcell (i * 4 + 1) _ (by have := flat_at L i 1 (by omega) (by omega); simpa [cellsOf] using this),
      hcell (i * 4 + 2) _ (by have := flat_at L i 2 (by omega) (by omega); simpa [cellsOf] using this), hcell (i * 4 + 3) _ (by have := flat_at L i 3 (by omega) (by omega); simpa [cellsOf] using this)⟩
  ex := fun i hi => by
    have hl : i < (flat L ++ tail).length := by rw [List.length_append, flat_len, ht, hn]; omega
    exact ⟨(flat L ++ tail)[i], by simp [World.cell?, hg]⟩
  fr := fun i hi => by simp [World.frozen?, hg]

theorem heap_two (w : World) (o : Obj) (o2 : Obj) : ((w.alloc o).alloc o2).heap[w.heap.size + 1]? = some o2 := by
  have e : (w.alloc o).heap.size = w.heap.size + 1 := by simp
  show ((w.alloc o).heap.push o2)[w.heap.size + 1]? = _
  rw [← e, Array.getElem?_push_size]

theorem sizeK : (Tryz.prog.info? 103).map (·.size) = some 4 := by kernel_rfl

/-- tied -/
def LacedPost (L : List K) (k : K) (w : World) (e : Ending) (w' : World) : Prop := ∃ g T, T = L ++ [k] ∧ e = .returned (.slice (some ⟨g, 0, none⟩) T.length T.length) ∧ RdK w' (some ⟨g, 0, none⟩) T ∧ Below w.heap.size w w'

end Lc
end Go.Proofs.YtihmmephgjpgaaaGreatDoor
