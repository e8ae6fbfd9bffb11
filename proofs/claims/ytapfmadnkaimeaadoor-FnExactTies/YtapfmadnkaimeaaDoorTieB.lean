/-
  What the model's copy of a list and the program's own handing out and tying answer: the knots in memory of their own; for lists of at most 2000000 knots.
-/
import Derived.Test.YtapfmadnkaimeaaDoorLaceE
import Derived.Test.YtapfmadnkaimeaaDoorLaceL
import Derived.Laws.CopyOwn
namespace Go.Proofs.YtapfmadnkaimeaaDoor
open Go.RowKit
set_option maxRecDepth 100000
namespace Lc
open Kn (K okK)

theorem cells_at {w : World} {g o : Nat} {k : K} (h : CellsK w g o k) (c : Nat) (hc : c < 4) (u : Value) (hu : (cellsOf k)[c]? = some u) : w.cell? ⟨g, o + c, none⟩ = some u := by
  match c, hc with
  | 0, _ => simp [cellsOf] at hu; subst hu; exact h.c0
  | 1, _ => simp [cellsOf] at hu; subst hu; exact h.c1
  | 2, _ => simp [cellsOf] at hu; subst hu; exact h.c2
  | 3, _ => simp [cellsOf] at hu; subst hu; exact h.c3

theorem rd_news {w : World} {g off : Nat} {L : List K} (h : RdK w (some ⟨g, off, none⟩) L) : ∀ (j : Nat) u, (flat L)[j]? = some u → w.cell? ((⟨g, off, none⟩ : Addr).add j) = some u := by
  intro j u hj
  have hlt : j < L.length * 4 := by
    have := (List.getElem?_eq_some_iff.1 hj).1
    rwa [flat_len] at this
  have e : j = j / 4 * 4 + j % 4 := by omega
  have hc := (h.on (j / 4) (by omega)).2
  rw [e, flat_at L (j / 4) (j % 4) (by omega) (by omega)] at hj
  have := cells_at hc (j % 4) (by omega) u hj
  rw [WideShapes.add_plain]
  rwa [show off + j / 4 * 4 + j % 4 = off + j by omega] at this

theorem ownK_base {t : TypeId} {b b' : Nat} {w : World} {v : Value} {L : List K} (h : OwnK t b w v L) (hb : b' ≤ b) : OwnK t b' w v L := by
  refine ⟨?_, h.2⟩
  obtain ⟨h1, h2⟩ := h.1
  refine ⟨h1, ?_⟩
  rcases h2 with h2 | ⟨g, cap', cur, hv, hB, rest⟩
  · exact .inl h2
  · exact .inr ⟨g, cap', cur, hv, by omega, rest⟩

theorem own_nil (w : World) (t : TypeId) : (w.alloc (.cells #[] t)).ownsRow w.heap.size t 4 (.slice (some ⟨w.heap.size, 0, none⟩) 0 0) 0 [] := by
  refine ⟨rfl, .inr ⟨w.heap.size, 0, #[], rfl, Nat.le_refl _, ?_, Nat.le_refl _, by unfold maxLen; omega, rfl, rfl⟩⟩
  show (w.heap.push _)[w.heap.size]? = _
  rw [Array.getElem?_push_size]

/-- copied -/
def CopyPost (L : List K) (w : World) (e : Ending) (w' : World) : Prop := ∃ v, e = .returned v ∧ OwnK 38 w.heap.size w' v L ∧ Below w.heap.size w w'

set_option maxHeartbeats 800000 in
theorem l3Copy (g off cap : Nat) (L : List K) (w : World) (hl : L.length ≤ 2000000) (hr : RdK w (some ⟨g, off, none⟩) L) : Calls Tryd.prog 45 #[.slice (some ⟨g, off, none⟩) L.length cap] w (CopyPost L w) := by
  obtain ⟨i0, hi, hz0, hz1, hz2⟩ := info_parts infoKn
  go_enter Tryd.func45, Tryd.ntmps45
  go_wp2_with (at_builtin; refine wpList_append_own _ rfl _ _ 29 rfl w.heap.size 38 i0 (.agg #[.int .i64 0, .int .i64 0, .int .i64 0, .string ⟨#[]⟩]) 4 40 Tryd.underlying29 hi hz0 hz1 hz2 rfl (by decide) _ 0 [] rfl (own_nil w _) ⟨g, off, none⟩ L.length cap (flat L) rfl (flat_len L) ?c1 ?c2 ?c3 ?c4 ?c5 ?_)
  case c1 => exact rd_news (hr.below ((Below.refl _ _).alloc (Nat.le_refl _) _))
  case c2 => exact flat_one L
  case c3 => unfold maxLen; omega
  case c4 => omega
  case c5 => simp
  intro v' w5 hown' hgrow hnil
  have HR : Hid (OwnK 38 w.heap.size w5 v' L ∧ Below w.heap.size w w5) := by
    refine ⟨⟨by simpa using hown', ?_⟩, ?_⟩
    · intro e
      simp [e] at hnil
    · exact ((Below.refl w.heap.size w).alloc (Nat.le_refl _) _).grown hgrow (by simp) (fun i hi => by simp [Value.ownBlock] at hi; omega)
  clear hown' hgrow hnil hi hz0 hz1 hz2
  go_wp2
  go_ret
  exact ⟨v', rfl, HR.out.1, HR.out.2⟩

set_option maxHeartbeats 1600000 in
theorem laceOut (g off cap : Nat) (L : List K) (w : World) (hl : L.length ≤ 1048577) (hr : RdK w (some ⟨g, off, none⟩) L) :
    Calls Tryd.prog 50 #[.slice (some ⟨g, off, none⟩) L.length cap] w (ToPost L w) := by
  obtain ⟨i0, hi, hz0, hz1, hz2⟩ := info_parts infoKn
  have hmk : ∀ W : World, (Instr.makeSlice 29 (.int .i64 (L.length : Int)) (.int .i64 (L.length : Int))).run Tryd.prog W = .ok (.slice (some ⟨W.heap.size, 0, none⟩) L.length L.length) (W.alloc (.cells (madeCells (Value.agg #[.int .i64 0, .int .i64 0, .int .i64 0, .string ⟨#[]⟩]).cells (L.length * 4)) 38)) := by
    intro W
    have := run_make (P := Tryd.prog) W 29 38 i0 _ Tryd.underlying29 hi hz0 .i64 .i64 (L.length : Int) (L.length : Int) (by omega) (by omega) (by rw [hz2]; omega) (by omega)
    rw [hz1] at this
    simpa using this
  have HP : Hid (Made (w.alloc (.cells (madeCells (Value.agg #[.int .i64 0, .int .i64 0, .int .i64 0, .string ⟨#[]⟩]).cells (L.length * 4)) 38)) w.heap.size L.length L 0 ∧ Below w.heap.size w (w.alloc (.cells (madeCells (Value.agg #[.int .i64 0, .int .i64 0, .int .i64 0, .string ⟨#[]⟩]).cells (L.length * 4)) 38))) := ⟨made_new _ _ _ _ _, (Below.refl _ _).alloc (Nat.le_refl _) _⟩
  clear hi hz0 hz1 hz2
  generalize (Value.agg #[.int .i64 0, .int .i64 0, .int .i64 0, .string ⟨#[]⟩]).cells = zc at hmk HP
  generalize madeCells zc (L.length * 4) = mc at hmk HP
  go_enter Tryd.func50, Tryd.ntmps50
  go_wp2
  clear hmk
  go_loopw [11] (fun i wr => ∃ j : Nat, j ≤ L.length ∧ i = .int .i64 j ∧ Hid (Made wr w.heap.size L.length L j) ∧ Hid (Below w.heap.size w wr)) (fun i _ => L.length - (intOf i).toNat)
  case atStart => exact ⟨0, by omega, rfl, HP.out.1, HP.out.2⟩
  case round =>
    obtain ⟨j, hj, rfl, HM, HB⟩ := hrel
    by_cases hlt : j < L.length
    · obtain ⟨hg, hc⟩ := hr.on j hlt
      obtain ⟨c0, c1, c2, c3⟩ := hc.below HB.out hg
      have HN : Hid (Below wr.heap.size wr (wr.alloc (.cells #[.int .i64 (at' L j).hand, .int .i64 (at' L j).round, .int .i64 (at' L j).frm, .string (at' L j).word] 69))) := (Below.refl _ _).alloc (Nat.le_refl _) _
      clear hc
      go_wp2_with fail
      refine (Kn.handedOut _ _ _ _ _).mono ?_
      rintro e w1 ⟨rfl, hb1⟩
      have hb01 := HN.out.trans (hb1.mono HN.out.size)
      have M1 := HM.out.below hb01
      have B1 := HB.out.trans (hb01.mono HB.out.size)
      obtain ⟨v0, e0⟩ := M1.ex (j * 4) (by omega)
      obtain ⟨v1, e1⟩ := M1.ex (j * 4 + 1) (by omega)
      obtain ⟨v2, e2⟩ := M1.ex (j * 4 + 2) (by omega)
      obtain ⟨v3, e3⟩ := M1.ex (j * 4 + 3) (by omega)
      have f0 := M1.fr (j * 4) (by omega)
      have f1 := M1.fr (j * 4 + 1) (by omega)
      have f2 := M1.fr (j * 4 + 2) (by omega)
      have f3 := M1.fr (j * 4 + 3) (by omega)
      have HM1 : Hid (Made (put4 w1 w.heap.size (j * 4) (at' L j)) w.heap.size L.length L (j + 1)) := M1.put hlt
      have HB1 : Hid (Below w.heap.size w (put4 w1 w.heap.size (j * 4) (at' L j))) := below_put4 B1 (Nat.le_refl _) _ _
      clear M1 B1 hb1 hb01 HM HB c0 c1 c2 c3 HN
      go_wp2
      go_roundw
      case rel => exact ⟨j + 1, by omega, by go_num, HM1, HB1⟩
      case measure => simp [intOf]; omega
    · obtain rfl : j = L.length := by omega
      go_wp2
      go_ret
      exact ⟨rfl, HM.out, HB.out⟩

/-! ### copy, of elements of four cells -/
theorem run_copy4 {P : Program} (w : World) (dT sT ty elem : TypeId) (g dLen dCap : Nat) (a : Addr) (sLen sCap m : Nat) (cur : Array Value) (t : TypeId) (cs : List Value)
    (hu : P.underlying dT = some (.slice elem)) (hs : (P.info? elem).map (·.size) = some 4)
    (hg : w.heap[g]? = some (.cells cur t (0, 0))) (hm : Nat.min sLen dLen = m) (hn : cs.length = m * 4)
    (hsrc : ∀ j v, cs[j]? = some v → w.cell? (a.add j) = some v) (hfit : cs.length ≤ cur.size) (h1 : ∀ v ∈ cs, v.oneCell' = true) :
    (Builtin.copy_ #[dT, sT] ty #[.slice (some ⟨g, 0, none⟩) dLen dCap, .slice (some a) sLen sCap]).run P w =
      .ok (goInt m) (w.setRow g (cs ++ cur.toList.drop cs.length).toArray) := by
  have hl := run_loadCells_list (P := P) w a cs hsrc
  have hst := run_storeCells_at P g 0 t cs 0 cur w hg (by simpa using hfit) h1
  cases hq : P.info? elem with
  | none => simp [hq] at hs
  | some i =>
    have hi : i.size = 4 := by simpa [hq] using hs
    rw [hn] at hl
    simp [Builtin.copy_, run_underlying hu, Builtin.lenOf, Builtin.firstCells, sizeOf, typeInfo, hq, hi, hm, hl, hst]

theorem wpList_copy4 {P : Program} {w : World} {ops : Array Oper} {rest : List Oper} {o : Oper} {a : Act} {Q : Exit → Act → World → Prop} (hgd : o.guard = none) (d s : Operand) (dT sT : TypeId)
    (ho : o.op = .call { callee := .builtin .copy, args := #[d, s], argTypes := #[dT, sT] }) (elem : TypeId) (hu : P.underlying dT = some (.slice elem)) (hsz : (P.info? elem).map (·.size) = some 4)
    (g dLen dCap : Nat) (ad : Addr) (sLen sCap m : Nat) (hd : a.eval d = .slice (some ⟨g, 0, none⟩) dLen dCap) (hs : a.eval s = .slice (some ad) sLen sCap)
    (cur : Array Value) (t : TypeId) (hg : w.heap[g]? = some (.cells cur t (0, 0))) (cs : List Value) (hm : Nat.min sLen dLen = m) (hn : cs.length = m * 4)
    (hsrc : ∀ j v, cs[j]? = some v → w.cell? (ad.add j) = some v) (hfit : cs.length ≤ cur.size) (h1 : ∀ v ∈ cs, v.oneCell' = true) (B : Nat) (w0 : World) (hb : Below B w0 w) (hBg : B ≤ g)
    (h : ∀ w', w'.heap[g]? = some (.cells (cs ++ cur.toList.drop cs.length).toArray t (0, 0)) → Below B w0 w' → wpList P ops Q rest (a.put o.dst (goInt m)) w') : wpList P ops Q (o :: rest) a w := by
  refine wpList_plain hgd fun K hK => ?_
  have hrun := run_copy4 (P := P) w dT sT o.type elem g dLen dCap ad sLen sCap m cur t cs hu hsz hg hm hn hsrc hfit h1
  unfold Oper.wp
  simp [execOp, ho, resolve, invoke, builtin, hd, hs, hrun, Result.andThen]
  exact hK _ _ (h _ (setRow_heap w g _ _ t _ hg) (below_setRow hb hBg _))

theorem made_row {w : World} {g n : Nat} {L : List K} {k : K} {t : TypeId} {tail : List Value} (hn : L.length = n) (ht : tail.length = 4) (hg : w.heap[g]? = some (.cells (flat L ++ tail).toArray t (0, 0))) : Made w g (n + 1) (L ++ [k]) n where
  lt := (Array.getElem?_eq_some_iff.1 hg).1
  rd := fun i hi => by
    have hcell : ∀ j u, (flat L)[j]? = some u → w.cell? ⟨g, j, none⟩ = some u := by
      intro j u hj
      have hjl := (List.getElem?_eq_some_iff.1 hj).1
      simp [World.cell?, hg, List.getElem?_append_left hjl, hj]
    rw [at_left L [k] i (by omega)]
    exact ⟨hcell (i * 4) _ (by have := flat_at L i 0 (by omega) (by omega); simpa [cellsOf] using this), hcell (i * 4 + 1) _ (by have := flat_at L i 1 (by omega) (by omega); simpa [cellsOf] using this),
      hcell (i * 4 + 2) _ (by have := flat_at L i 2 (by omega) (by omega); simpa [cellsOf] using this), hcell (i * 4 + 3) _ (by have := flat_at L i 3 (by omega) (by omega); simpa [cellsOf] using this)⟩
  ex := fun i hi => by
    have hl : i < (flat L ++ tail).length := by rw [List.length_append, flat_len, ht, hn]; omega
    exact ⟨(flat L ++ tail)[i], by simp [World.cell?, hg]⟩
  fr := fun i hi => by simp [World.frozen?, hg]

theorem heap_two (w : World) (o : Obj) (o2 : Obj) : ((w.alloc o).alloc o2).heap[w.heap.size + 1]? = some o2 := by
  have e : (w.alloc o).heap.size = w.heap.size + 1 := by simp
  show ((w.alloc o).heap.push o2)[w.heap.size + 1]? = _
  rw [← e, Array.getElem?_push_size]

theorem sizeK : (Tryd.prog.info? 69).map (·.size) = some 4 := by kernel_rfl

/-- tied -/
def LacedPost (L : List K) (k : K) (w : World) (e : Ending) (w' : World) : Prop := ∃ g T, T = L ++ [k] ∧ e = .returned (.slice (some ⟨g, 0, none⟩) T.length T.length) ∧ RdK w' (some ⟨g, 0, none⟩) T ∧ Below w.heap.size w w'

set_option maxHeartbeats 1600000 in
theorem laceTied (g off cap : Nat) (L : List K) (k : K) (w : World) (hl : L.length ≤ 1048576) (hr : RdK w (some ⟨g, off, none⟩) L) :
    Calls Tryd.prog 82 #[.slice (some ⟨g, off, none⟩) L.length cap, .agg #[.int .i64 k.hand, .int .i64 k.round, .int .i64 k.frm, .string k.word]] w (LacedPost L k w) := by
  obtain ⟨i0, hi, hz0, hz1, hz2⟩ := info_parts infoK
  have hmk : ∀ W : World, (Instr.makeSlice 58 (.int .i64 ((L.length : Int) + 1)) (.int .i64 ((L.length : Int) + 1))).run Tryd.prog W = .ok (.slice (some ⟨W.heap.size, 0, none⟩) (L.length + 1) (L.length + 1)) (W.alloc (.cells (madeCells (Value.agg #[.int .i64 0, .int .i64 0, .int .i64 0, .string ⟨#[]⟩]).cells ((L.length + 1) * 4)) 69)) := by
    intro W
    have := run_make (P := Tryd.prog) W 58 69 i0 _ Tryd.underlying58 hi hz0 .i64 .i64 ((L.length : Int) + 1) ((L.length : Int) + 1) (by omega) (by omega) (by rw [hz2]; omega) (by omega)
    have e : ((L.length : Int) + 1).toNat = L.length + 1 := by omega
    rw [hz1, e] at this
    exact this
  have P0 : Hid (Below w.heap.size w (w.alloc (.cells #[.int .i64 k.hand, .int .i64 k.round, .int .i64 k.frm, .string k.word] 69)) ∧ CellsK (w.alloc (.cells #[.int .i64 k.hand, .int .i64 k.round, .int .i64 k.frm, .string k.word] 69)) w.heap.size 0 k ∧ w.heap.size < (w.alloc (.cells #[.int .i64 k.hand, .int .i64 k.round, .int .i64 k.frm, .string k.word] 69)).heap.size) :=
    ⟨(Below.refl _ _).alloc (Nat.le_refl _) _, ⟨by simp, by simp, by simp, by simp⟩, by simp⟩
  have hmc : (madeCells (Value.agg #[.int .i64 0, .int .i64 0, .int .i64 0, .string ⟨#[]⟩]).cells ((L.length + 1) * 4)).size = (L.length + 1) * 4 := size_madeCells _ _
  clear hi hz0 hz1 hz2
  generalize madeCells (Value.agg #[.int .i64 0, .int .i64 0, .int .i64 0, .string ⟨#[]⟩]).cells ((L.length + 1) * 4) = mc at hmk hmc
  have hw1 : IntKind.i64.wrap ((L.length : Int) + 1) = (L.length : Int) + 1 := by rw [IntKind.wrap_i64]; omega
  go_enter Tryd.func82, Tryd.ntmps82
  go_wp2_with (refine wpList_copy4 rfl _ _ 58 58 rfl 69 Tryd.underlying58 sizeK (w.heap.size + 1) (L.length + 1) (L.length + 1) ⟨g, off, none⟩ L.length cap L.length rfl rfl mc 69 ?hg (flat L) ?hm (flat_len L) ?hs ?hf (flat_one L) (w.heap.size + 1) (w.alloc (.cells #[.int .i64 k.hand, .int .i64 k.round, .int .i64 k.frm, .string k.word] 69)) ?hb ?hbg ?_)
  case hg => exact heap_two w _ _
  case hm => exact Nat.min_eq_left (by omega)
  case hs => exact rd_news (hr.below (((Below.refl _ _).alloc (Nat.le_refl _) _).alloc (by simp) _))
  case hf => rw [flat_len, hmc]; omega
  case hb => exact (Below.refl _ _).alloc (by simp) _
  case hbg => exact Nat.le_refl _
  intro w2 hg2 hb2
  have M2 : Made w2 (w.heap.size + 1) (L.length + 1) (L ++ [k]) L.length := made_row (k := k) rfl (by rw [List.length_drop, flat_len]; simp [hmc]; omega) hg2
  obtain ⟨B0, C0, S0⟩ := P0
  have C2 : CellsK w2 w.heap.size 0 k := ⟨(hb2.cell (p := ⟨w.heap.size, 0, none⟩) (by simp)).trans C0.c0, (hb2.cell (p := ⟨w.heap.size, 0 + 1, none⟩) (by simp)).trans C0.c1, (hb2.cell (p := ⟨w.heap.size, 0 + 2, none⟩) (by simp)).trans C0.c2, (hb2.cell (p := ⟨w.heap.size, 0 + 3, none⟩) (by simp)).trans C0.c3⟩
  have B2 : Below w.heap.size w w2 := B0.trans (hb2.mono (by omega))
  obtain ⟨c0, c1, c2, c3⟩ := C2
  rw [Nat.zero_add] at c1 c2 c3
  obtain ⟨v0, e0⟩ := M2.ex (L.length * 4) (by omega)
  obtain ⟨v1, e1⟩ := M2.ex (L.length * 4 + 1) (by omega)
  obtain ⟨v2, e2⟩ := M2.ex (L.length * 4 + 2) (by omega)
  obtain ⟨v3, e3⟩ := M2.ex (L.length * 4 + 3) (by omega)
  have f0 := M2.fr (L.length * 4) (by omega)
  have f1 := M2.fr (L.length * 4 + 1) (by omega)
  have f2 := M2.fr (L.length * 4 + 2) (by omega)
  have f3 := M2.fr (L.length * 4 + 3) (by omega)
  have hlen : (L ++ [k]).length = L.length + 1 := by simp
  have HM3 : Hid (Made (put4 w2 (w.heap.size + 1) (L.length * 4) k) (w.heap.size + 1) (L.length + 1) (L ++ [k]) (L ++ [k]).length) := by
    have := M2.put (by omega)
    rw [at_end] at this
    rw [hlen]; exact this
  have HB3 : Hid (Below w.heap.size w (put4 w2 (w.heap.size + 1) (L.length * 4) k)) := below_put4 B2 (by omega) _ _
  clear M2 B2 hb2 hg2 B0 C0 S0 hmk hmc
  go_wp2
  go_ret
  exact ⟨w.heap.size + 1, L ++ [k], rfl, by rw [hlen]; rfl, made_rd HM3.out, HB3.out⟩

end Lc
end Go.Proofs.YtapfmadnkaimeaaDoor
