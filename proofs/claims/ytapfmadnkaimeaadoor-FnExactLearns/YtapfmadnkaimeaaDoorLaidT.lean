/-
  From a row's condition on the five listed errors, and on the handle of the type error, to what the walks ask.
-/
import Derived.Test.YtapfmadnkaimeaaDoorLaidS
import Derived.Test.YtapfmadnkaimeaaDoorHaF
import Derived.LaidHandle
namespace Go.Proofs.YtapfmadnkaimeaaDoor
open Go.RowKit Go.ChangeShapes Go.WideShapes Go.ChangeAt
set_option maxRecDepth 100000
namespace Ld

theorem gNoKnot : Tryd.prog.globalNamed "loop.example/g00418/impl.errNoKnot" = some 1 := by kernel_rfl
theorem tNoKnot : (Tryd.prog.globals[1]?).map (·.type) = some 89 := by kernel_rfl
theorem gThere : Tryd.prog.globalNamed "loop.example/g00418/impl.errThere" = some 2 := by kernel_rfl
theorem tThere : (Tryd.prog.globals[2]?).map (·.type) = some 89 := by kernel_rfl
theorem gOwn : Tryd.prog.globalNamed "loop.example/g00418/impl.errOwn" = some 4 := by kernel_rfl
theorem tOwn : (Tryd.prog.globals[4]?).map (·.type) = some 89 := by kernel_rfl
theorem gLoose : Tryd.prog.globalNamed "loop.example/g00418/impl.errLoose" = some 3 := by kernel_rfl
theorem tLoose : (Tryd.prog.globals[3]?).map (·.type) = some 89 := by kernel_rfl

/-- of two that lie in the list one behind the other, wherever -/
theorem two {W : World} {n0 n1 : String} {text0 text1 : List UInt8} {m r : List (String × DataW Unit)} {g0 g1 : Nat}
    (h : laidMet Tryd.prog ((n0, .iface "*errors.errorString" (.ptr (.agg [.lit (.string text0)]))) :: m ++ (n1, .iface "*errors.errorString" (.ptr (.agg [.lit (.string text1)]))) :: r) W)
    (hg0 : Tryd.prog.globalNamed n0 = some g0) (ht0 : (Tryd.prog.globals[g0]?).map (·.type) = some 89) (hg1 : Tryd.prog.globalNamed n1 = some g1) (ht1 : (Tryd.prog.globals[g1]?).map (·.type) = some 89) :
    ∃ a0 a1, W.var? Tryd.prog n0 = some #[.iface 159 (.pointer (some a0))] ∧ W.var? Tryd.prog n1 = some #[.iface 159 (.pointer (some a1))] ∧ a0 ≠ a1 ∧ Rm.RowE W a0 ∧ Rm.RowE W a1 := by
  induction m with
  | nil =>
    obtain ⟨a0, a1, s0, s1, c0, c1, t0, t1, hv0, hv1, hc0, hs0, hz0, hc1, hs1, hz1, hne, hb0, hb1⟩ := laid_sentinels2 h hg0 ht0 hg1 ht1 Tryd.underlying89 rowE Tryd.underlying159 Tryd.underlying182 rfl rfl Tryd.underlying9 cellsE cellsS
    exact ⟨a0, a1, hv0, hv1, hne, ⟨c0, t0, hb0⟩, ⟨c1, t1, hb1⟩⟩
  | cons x m ih =>
    apply ih
    obtain ⟨nx, dx⟩ := x
    obtain ⟨ps, ⟨ga, ta, cs, fa, p, q, e1, e2, e3, e4, ⟨gb, tb, cb, fb, pb, qb, e5, e6, e7, e8, hq, rfl⟩, rfl⟩, hnd, hrows⟩ := h
    refine ⟨_, ⟨ga, ta, cs, fa, p, qb, e1, e2, e3, e4, hq, rfl⟩, ?_, ?_⟩
    · refine List.Nodup.sublist ?_ hnd
      exact List.Sublist.append (List.Sublist.refl _) (List.sublist_append_right _ _)
    · intro b off hm
      apply hrows b off
      rcases List.mem_append.1 hm with q | q
      · exact List.mem_append_left _ q
      · exact List.mem_append_right _ (List.mem_append_right _ q)

theorem five {W : World} {t0 t1 t2 t3 t4 : List UInt8} {r : List (String × DataW Unit)}
    (h : laidMet Tryd.prog (("loop.example/g00418/impl.errNoHand", .iface "*errors.errorString" (.ptr (.agg [.lit (.string t0)]))) :: ("loop.example/g00418/impl.errNoKnot", .iface "*errors.errorString" (.ptr (.agg [.lit (.string t1)]))) :: ("loop.example/g00418/impl.errThere", .iface "*errors.errorString" (.ptr (.agg [.lit (.string t2)]))) :: ("loop.example/g00418/impl.errOwn", .iface "*errors.errorString" (.ptr (.agg [.lit (.string t3)]))) :: ("loop.example/g00418/impl.errLoose", .iface "*errors.errorString" (.ptr (.agg [.lit (.string t4)]))) :: r) W) :
    ∃ a0 a1 a2 a3 a4, W.var? Tryd.prog "loop.example/g00418/impl.errNoHand" = some #[.iface 159 (.pointer (some a0))] ∧ W.var? Tryd.prog "loop.example/g00418/impl.errNoKnot" = some #[.iface 159 (.pointer (some a1))] ∧ W.var? Tryd.prog "loop.example/g00418/impl.errThere" = some #[.iface 159 (.pointer (some a2))] ∧ W.var? Tryd.prog "loop.example/g00418/impl.errOwn" = some #[.iface 159 (.pointer (some a3))] ∧ W.var? Tryd.prog "loop.example/g00418/impl.errLoose" = some #[.iface 159 (.pointer (some a4))] ∧ Rm.Sen W ⟨a0, a1, a2, a3, a4⟩ := by
  obtain ⟨a0, a1, v0, v1, n01, r0, r1⟩ := two (m := []) h gNoHand tNoHand gNoKnot tNoKnot
  obtain ⟨b0, a2, u0, v2, n02, _, r2⟩ := two (m := [_]) h gNoHand tNoHand gThere tThere
  obtain ⟨b0', a3, u0', v3, n03, _, r3⟩ := two (m := [_, _]) h gNoHand tNoHand gOwn tOwn
  obtain ⟨b0'', a4, u0'', v4, n04, _, r4⟩ := two (m := [_, _, _]) h gNoHand tNoHand gLoose tLoose
  obtain ⟨c1, c4, x1, x4, m1, _, _⟩ := two (m := [_, _]) h.tail gNoKnot tNoKnot gLoose tLoose
  obtain ⟨c2, c4', x2, x4', m2, _, _⟩ := two (m := [_]) h.tail.tail gThere tThere gLoose tLoose
  obtain ⟨c3, c4'', x3, x4'', m3, _, _⟩ := two (m := []) h.tail.tail.tail gOwn tOwn gLoose tLoose
  have inj : ∀ {n : String} {p q : Addr}, W.var? Tryd.prog n = some #[.iface 159 (.pointer (some p))] → W.var? Tryd.prog n = some #[.iface 159 (.pointer (some q))] → p = q := fun {n p q} e f => by
    rw [e] at f; simpa using f
  obtain rfl := inj v0 u0
  obtain rfl := inj v0 u0'
  obtain rfl := inj v0 u0''
  obtain rfl := inj v1 x1
  obtain rfl := inj v2 x2
  obtain rfl := inj v3 x3
  obtain rfl := inj v4 x4
  obtain rfl := inj v4 x4'
  obtain rfl := inj v4 x4''
  refine ⟨a0, a1, a2, a3, a4, v0, v1, v2, v3, v4, ⟨?_, ?_, ?_, ?_, ?_, r0, r1, r2, r3, r4, Ne.symm n01, Ne.symm n02, Ne.symm n03, Ne.symm n04, m1, m2, m3⟩⟩
  · simpa using World.var?_cell gNoHand v0 0
  · simpa using World.var?_cell gNoKnot v1 0
  · simpa using World.var?_cell gThere v2 0
  · simpa using World.var?_cell gOwn v3 0
  · simpa using World.var?_cell gLoose v4 0

/-- five named variables of an interface type, read as tokens -/
theorem read5 {H : Type} (enc : TypeId × Value → H) {P : Program} {W : World} {n0 n1 n2 n3 n4 : String} {g0 g1 g2 g3 g4 : Nat} {t0 t1 t2 t3 t4 : TypeId} {ms0 ms1 ms2 ms3 ms4 : Array (String × TypeId)} {x0 x1 x2 x3 x4 : Value}
    (hg0 : P.globalNamed n0 = some g0) (ht0 : (P.globals[g0]?).map (·.type) = some t0) (hi0 : P.underlying t0 = some (.interface ms0)) (h0 : W.var? P n0 = some #[x0]) (i0 : IsIface x0)
    (hg1 : P.globalNamed n1 = some g1) (ht1 : (P.globals[g1]?).map (·.type) = some t1) (hi1 : P.underlying t1 = some (.interface ms1)) (h1 : W.var? P n1 = some #[x1]) (i1 : IsIface x1)
    (hg2 : P.globalNamed n2 = some g2) (ht2 : (P.globals[g2]?).map (·.type) = some t2) (hi2 : P.underlying t2 = some (.interface ms2)) (h2 : W.var? P n2 = some #[x2]) (i2 : IsIface x2)
    (hg3 : P.globalNamed n3 = some g3) (ht3 : (P.globals[g3]?).map (·.type) = some t3) (hi3 : P.underlying t3 = some (.interface ms3)) (h3 : W.var? P n3 = some #[x3]) (i3 : IsIface x3)
    (hg4 : P.globalNamed n4 = some g4) (ht4 : (P.globals[g4]?).map (·.type) = some t4) (hi4 : P.underlying t4 = some (.interface ms4)) (h4 : W.var? P n4 = some #[x4]) (i4 : IsIface x4) (sp : Nat → Bool) :
    DataW.TrodVars enc P W sp [n0, n1, n2, n3, n4] [tok enc x0, tok enc x1, tok enc x2, tok enc x3, tok enc x4] [.cell g0 0, .cell g1 0, .cell g2 0, .cell g3 0, .cell g4 0] :=
  ⟨g0, t0, #[x0], 1, [], _, hg0, ht0, h0, trod_held hi0 i0 0, ⟨g1, t1, #[x1], 1, [], _, hg1, ht1, h1, trod_held hi1 i1 0, ⟨g2, t2, #[x2], 1, [], _, hg2, ht2, h2, trod_held hi2 i2 0, ⟨g3, t3, #[x3], 1, [], _, hg3, ht3, h3, trod_held hi3 i3 0, ⟨g4, t4, #[x4], 1, [], [], hg4, ht4, h4, trod_held hi4 i4 0, rfl, rfl⟩, rfl⟩, rfl⟩, rfl⟩, rfl⟩

end Ld
end Go.Proofs.YtapfmadnkaimeaaDoor
