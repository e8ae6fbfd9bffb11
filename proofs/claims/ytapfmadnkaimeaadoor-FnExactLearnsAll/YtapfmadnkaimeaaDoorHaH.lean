/-
  What the library's errors.As answers at the program's own error: it is of the target's type, so it is written there; the variable errors.errorType holds the handle of the type error.
-/
import Derived.Test.YtapfmadnkaimeaaDoorHaE
namespace Go.Proofs.YtapfmadnkaimeaaDoor
open Go.RowKit Go.Extern.Stop Go.Stop Go.Extern
set_option maxRecDepth 100000
set_option linter.unusedVariables false
namespace Er

/-- the handle of the type error -/
def HandleE (W : World) : Prop := W.cell? ⟨8, 0, none⟩ = some (.iface 140 (.agg #[.pointer (some ⟨9, 89, none⟩)]))
theorem HandleE.below {W V : World} (h : HandleE W) (hb : Below W.heap.size W V) : HandleE V := (hb.cell (p := ⟨8, 0, none⟩) (Rm.cell_lt h)).trans h

theorem asValueOfP (t : Addr) (w : World) : (callFunc 95 #[.iface 101 (.pointer (some t))]).run Tryd.prog w = .ok (.value (.agg #[.pointer (some ⟨9, 101, none⟩), .pointer (some ⟨w.heap.size, 0, none⟩), .int .u64 150])) (w.alloc (.cells #[.pointer (some t)] 101)) := by kernel_rfl
theorem asType (a : Addr) (w : World) : (callFunc 96 #[.agg #[.pointer (some ⟨9, 101, none⟩), .pointer (some a), .int .u64 150]]).run Tryd.prog w = .ok (.value (.iface 140 (.agg #[.pointer (some ⟨9, 101, none⟩)]))) w := by kernel_rfl
theorem asMethodKind (h : Value) (w : World) : (Go.method 294 140 (.agg #[h]) "Kind").run Tryd.prog w = .ok (138, h) w := by kernel_rfl
theorem asKindP (w : World) : (callFunc 138 #[.pointer (some ⟨9, 101, none⟩)]).run Tryd.prog w = .ok (.value (.int .u8 22)) w := by kernel_rfl
theorem asKindR (w : World) : (callFunc 138 #[.pointer (some ⟨9, 97, none⟩)]).run Tryd.prog w = .ok (.value (.int .u8 25)) w := by kernel_rfl
theorem asMethodElem (h : Value) (w : World) : (Go.method 294 140 (.agg #[h]) "Elem").run Tryd.prog w = .ok (150, .agg #[h]) w := by kernel_rfl
theorem asMethodImplements (h : Value) (w : World) : (Go.method 294 140 (.agg #[h]) "Implements").run Tryd.prog w = .ok (151, .agg #[h]) w := by kernel_rfl
theorem asMethodAssignableTo (h : Value) (w : World) : (Go.method 294 140 (.agg #[h]) "AssignableTo").run Tryd.prog w = .ok (148, .agg #[h]) w := by kernel_rfl
theorem asElemT (w : World) : (callFunc 150 #[.agg #[.pointer (some ⟨9, 101, none⟩)]]).run Tryd.prog w = .ok (.value (.iface 140 (.agg #[.pointer (some ⟨9, 97, none⟩)]))) w := by kernel_rfl
theorem asImplements (w : World) : (callFunc 151 #[.agg #[.pointer (some ⟨9, 97, none⟩)], .iface 140 (.agg #[.pointer (some ⟨9, 89, none⟩)])]).run Tryd.prog w = .ok (.value (.bool true)) w := by kernel_rfl
theorem asTypeOf (v : Value) (w : World) : (callFunc 89 #[.iface 97 v]).run Tryd.prog w = .ok (.value (.iface 140 (.agg #[.pointer (some ⟨9, 97, none⟩)]))) w := by kernel_rfl
theorem asAssignable (w : World) : (callFunc 148 #[.agg #[.pointer (some ⟨9, 97, none⟩)], .iface 140 (.agg #[.pointer (some ⟨9, 97, none⟩)])]).run Tryd.prog w = .ok (.value (.bool true)) w := by kernel_rfl
theorem asValueOfR (v0 v1 v2 : Value) (w : World) : (callFunc 95 #[.iface 97 (.agg #[v0, v1, v2])]).run Tryd.prog w = .ok (.value (.agg #[.pointer (some ⟨9, 97, none⟩), .pointer (some ⟨w.heap.size, 0, none⟩), .int .u64 153])) (w.alloc (.cells #[v0, v1, v2] 97)) := by kernel_rfl

theorem rlm (z : Sem Value) (f : TypeId → Addr → Nat → Nat → Sem Value) (v : Value) :
    ReflectliteValue.method z f #[v] = (do match ← ReflectliteValue.parts v with | none => z | some (t, a, fl) => f t a fl (fl % 32)) := rfl
theorem asPartsP (a : Addr) (w : World) : (ReflectliteValue.parts (.agg #[.pointer (some ⟨9, 101, none⟩), .pointer (some a), .int .u64 150])).run Tryd.prog w = .ok (some (101, a, 150)) w := by kernel_rfl
theorem asIsNilP (a p : Addr) (W : World) (ha : W.cell? a = some (.pointer (some p))) :
    (ReflectliteValue.method (ReflectliteValue.valueError "reflectlite.Value.IsNil" 0) ReflectliteValue.isNil #[.agg #[.pointer (some ⟨9, 101, none⟩), .pointer (some a), .int .u64 150]]).run Tryd.prog W = .ok (.bool false) W := by
  rw [rlm]
  simp only [Sem.run_bind, asPartsP, Result.andThen]
  simp [ReflectliteValue.isNil, loadVar, isAgg, underlying, Tryd.underlying101, ha, Result.andThen]
theorem asElemOfP (w : World) : (Rtype.elem? 101).run Tryd.prog w = .ok (some 97) w := by kernel_rfl
theorem asMk (p : Addr) (w : World) : (ReflectliteValue.mk 97 p ReflectliteValue.flagAddr).run Tryd.prog w = .ok (.agg #[.pointer (some ⟨9, 97, none⟩), .pointer (some p), .int .u64 409]) w := by kernel_rfl
theorem asElemP (a p : Addr) (W : World) (ha : W.cell? a = some (.pointer (some p))) :
    (ReflectliteValue.method (ReflectliteValue.valueError "reflectlite.Value.Elem" 0) ReflectliteValue.elem #[.agg #[.pointer (some ⟨9, 101, none⟩), .pointer (some a), .int .u64 150]]).run Tryd.prog W
      = .ok (.agg #[.pointer (some ⟨9, 97, none⟩), .pointer (some p), .int .u64 409]) W := by
  rw [rlm]
  simp only [Sem.run_bind, asPartsP, Result.andThen]
  simp [ReflectliteValue.elem, loadVar, isAgg, underlying, Tryd.underlying101, ha, Result.andThen, asElemOfP, asMk]
theorem rls (v x : Value) : ReflectliteValue.set #[v, x] = (do
    let (some (dst, a, fl), some (src, b, _)) := (← ReflectliteValue.parts v, ← ReflectliteValue.parts x)
      | unsupported (.noEntry "extern/(internal/reflectlite.Value).Set.zeroValue")
    if fl / ReflectliteValue.flagAddr % 2 == 0 then unsupported (.noEntry "extern/(internal/reflectlite.Value).Set.unaddressable")
    let val ← loadVar src b
    if ← Rtype.directlyAssignable dst src then storeVar dst a val
    else if ← Rtype.implements dst src then
      if (← Rtype.kind src) == 20 then
        match val with
        | .nilIface => unsupported (.noEntry "extern/reflectlite: a nil value of one interface type handed on as a value of another")
        | _ => storeVar dst a val
      else storeVar dst a (.iface src val)
    else panicString ("reflectlite.Set: value of type " ++ (← Rtype.spelt src) ++ " is not assignable to type " ++ (← Rtype.spelt dst))
    pure (.tuple #[])) := rfl
theorem asPartsA (a : Addr) (w : World) : (ReflectliteValue.parts (.agg #[.pointer (some ⟨9, 97, none⟩), .pointer (some a), .int .u64 409])).run Tryd.prog w = .ok (some (97, a, 409)) w := by kernel_rfl
theorem asPartsR (a : Addr) (w : World) : (ReflectliteValue.parts (.agg #[.pointer (some ⟨9, 97, none⟩), .pointer (some a), .int .u64 153])).run Tryd.prog w = .ok (some (97, a, 153)) w := by kernel_rfl
theorem asDirect (w : World) : (Rtype.directlyAssignable 97 97).run Tryd.prog w = .ok true w := by kernel_rfl
theorem asSizeR (w : World) : (sizeOf 97).run Tryd.prog w = .ok 3 w := by kernel_rfl
theorem asAggR (w : World) : (isAgg 97).run Tryd.prog w = .ok true w := by kernel_rfl
theorem asLoadR (b : Nat) (v0 v1 v2 : Value) (W : World) (h0 : W.cell? ⟨b, 0, none⟩ = some v0) (h1 : W.cell? ⟨b, 1, none⟩ = some v1) (h2 : W.cell? ⟨b, 2, none⟩ = some v2) : (loadVar 97 ⟨b, 0, none⟩).run Tryd.prog W = .ok (.agg #[v0, v1, v2]) W := by
  simp [loadVar, Result.andThen, loadCells, loadCellsFrom, Addr.add, h0, h1, h2]
theorem asStoreR (b : Nat) (v0 v1 v2 o0 o1 o2 : Value) (W : World) (h0 : W.cell? ⟨b, 0, none⟩ = some o0) (h1 : W.cell? ⟨b, 1, none⟩ = some o1) (h2 : W.cell? ⟨b, 2, none⟩ = some o2) (f0 : W.frozen? ⟨b, 0, none⟩ = false) (f1 : W.frozen? ⟨b, 1, none⟩ = false) (f2 : W.frozen? ⟨b, 2, none⟩ = false) (q0 : v0.oneCell' = true) (q1 : v1.oneCell' = true) (q2 : v2.oneCell' = true) :
    (storeVar 97 ⟨b, 0, none⟩ (.agg #[v0, v1, v2])).run Tryd.prog W = .ok () (((W.setCell ⟨b, 0, none⟩ v0).setCell ⟨b, 1, none⟩ v1).setCell ⟨b, 2, none⟩ v2) := by
  have s0 := run_store Tryd.prog W ⟨b, 0, none⟩ v0 .plain q0
  have s1 := run_store Tryd.prog (W.setCell ⟨b, 0, none⟩ v0) ⟨b, 1, none⟩ v1 .plain q1
  have s2 := run_store Tryd.prog ((W.setCell ⟨b, 0, none⟩ v0).setCell ⟨b, 1, none⟩ v1) ⟨b, 2, none⟩ v2 .plain q2
  rw [World.cell?_setCell_other _ _ _ _ (by simp)] at s1
  rw [World.cell?_setCell_other _ _ _ _ (by simp), World.cell?_setCell_other _ _ _ _ (by simp)] at s2
  simp only [h0, f0] at s0
  simp only [h1, f1, World.frozen?_setCell] at s1
  simp only [h2, f2, World.frozen?_setCell] at s2
  simp [storeVar, Result.andThen, storeCells, Addr.add, Value.cells, s0, s1, s2]
theorem asSetR (t b : Nat) (v0 v1 v2 o0 o1 o2 : Value) (W : World) (h0 : W.cell? ⟨b, 0, none⟩ = some v0) (h1 : W.cell? ⟨b, 1, none⟩ = some v1) (h2 : W.cell? ⟨b, 2, none⟩ = some v2) (t0 : W.cell? ⟨t, 0, none⟩ = some o0) (t1 : W.cell? ⟨t, 1, none⟩ = some o1) (t2 : W.cell? ⟨t, 2, none⟩ = some o2) (f0 : W.frozen? ⟨t, 0, none⟩ = false) (f1 : W.frozen? ⟨t, 1, none⟩ = false) (f2 : W.frozen? ⟨t, 2, none⟩ = false) (q0 : v0.oneCell' = true) (q1 : v1.oneCell' = true) (q2 : v2.oneCell' = true) :
    (ReflectliteValue.set #[.agg #[.pointer (some ⟨9, 97, none⟩), .pointer (some ⟨t, 0, none⟩), .int .u64 409], .agg #[.pointer (some ⟨9, 97, none⟩), .pointer (some ⟨b, 0, none⟩), .int .u64 153]]).run Tryd.prog W
      = .ok (.tuple #[]) (((W.setCell ⟨t, 0, none⟩ v0).setCell ⟨t, 1, none⟩ v1).setCell ⟨t, 2, none⟩ v2) := by
  rw [rls]
  simp only [Sem.run_bind, asPartsA, asPartsR, Result.andThen]
  simp [ReflectliteValue.flagAddr, asLoadR b v0 v1 v2 W h0 h1 h2, Result.andThen, asDirect, asStoreR t v0 v1 v2 o0 o1 o2 W t0 t1 t2 f0 f1 f2 q0 q1 q2]

set_option maxHeartbeats 4000000 in
theorem as_hit (t : Nat) (v0 v1 v2 o0 o1 o2 : Value) (w : World) (hg : HandleE w) (t0 : w.cell? ⟨t, 0, none⟩ = some o0) (t1 : w.cell? ⟨t, 1, none⟩ = some o1) (t2 : w.cell? ⟨t, 2, none⟩ = some o2) (f0 : w.frozen? ⟨t, 0, none⟩ = false) (f1 : w.frozen? ⟨t, 1, none⟩ = false) (f2 : w.frozen? ⟨t, 2, none⟩ = false) (q0 : v0.oneCell' = true) (q1 : v1.oneCell' = true) (q2 : v2.oneCell' = true) :
    Calls Tryd.prog 66 #[.iface 97 (.agg #[v0, v1, v2]), .iface 101 (.pointer (some ⟨t, 0, none⟩))] w fun e w' => e = .returned (.bool true) ∧ w' = (((((((w.alloc (.cells #[.pointer (some ⟨t, 0, none⟩)] 101)).alloc (.cells #[.pointer (some ⟨9, 101, none⟩), .pointer (some ⟨w.heap.size, 0, none⟩), .int .u64 150] 127)).alloc (.cells #[.pointer (some ⟨9, 101, none⟩), .pointer (some ⟨w.heap.size, 0, none⟩), .int .u64 150] 127)).alloc (.cells #[v0, v1, v2] 97)).setCell ⟨t, 0, none⟩ v0).setCell ⟨t, 1, none⟩ v1).setCell ⟨t, 2, none⟩ v2) := by
  have tlt : t < w.heap.size := Rm.cell_lt t0
  have glt : 8 < w.heap.size := Rm.cell_lt hg
  have h1 := @run_callFunc_extern Tryd.prog 97 _ (ReflectliteValue.method (ReflectliteValue.valueError "reflectlite.Value.IsNil" 0) ReflectliteValue.isNil) Tryd.func97 (by kernel_rfl) (by kernel_rfl) (by kernel_rfl) (by kernel_rfl)
  have h2 := @run_callFunc_extern Tryd.prog 114 _ (ReflectliteValue.method (ReflectliteValue.valueError "reflectlite.Value.Elem" 0) ReflectliteValue.elem) Tryd.func114 (by kernel_rfl) (by kernel_rfl) (by kernel_rfl) (by kernel_rfl)
  have h3 := @run_callFunc_extern Tryd.prog 115 _ ReflectliteValue.set Tryd.func115 (by kernel_rfl) (by kernel_rfl) (by kernel_rfl) (by kernel_rfl)
  have a1 := asValueOfP
  have a2 := asType
  have a3 := asMethodKind
  have a4 := asKindP
  have a5 := asKindR
  have a6 := asMethodElem
  have a7 := asMethodImplements
  have a8 := asMethodAssignableTo
  have a9 := asElemT
  have a10 := asImplements
  have a11 := asTypeOf
  have a12 := asAssignable
  have a13 := asValueOfR
  have n1 := asIsNilP ⟨w.heap.size, 0, none⟩ ⟨t, 0, none⟩ ((w.alloc (.cells #[.pointer (some ⟨t, 0, none⟩)] 101)).alloc (.cells #[.pointer (some ⟨9, 101, none⟩), .pointer (some ⟨w.heap.size, 0, none⟩), .int .u64 150] 127)) (by simp)
  have hg2 : ((w.alloc (.cells #[.pointer (some ⟨t, 0, none⟩)] 101)).alloc (.cells #[.pointer (some ⟨9, 101, none⟩), .pointer (some ⟨w.heap.size, 0, none⟩), .int .u64 150] 127)).cell? ⟨8, 0, none⟩ = some (.iface 140 (.agg #[.pointer (some ⟨9, 89, none⟩)])) := by
    rw [World.cell?_alloc_lt _ _ ⟨8, 0, none⟩ (by simp; omega), World.cell?_alloc_lt _ _ ⟨8, 0, none⟩ glt]; exact hg
  have el := asElemP ⟨w.heap.size, 0, none⟩ ⟨t, 0, none⟩ (((w.alloc (.cells #[.pointer (some ⟨t, 0, none⟩)] 101)).alloc (.cells #[.pointer (some ⟨9, 101, none⟩), .pointer (some ⟨w.heap.size, 0, none⟩), .int .u64 150] 127)).alloc (.cells #[.pointer (some ⟨9, 101, none⟩), .pointer (some ⟨w.heap.size, 0, none⟩), .int .u64 150] 127)) (by rw [World.cell?_alloc_lt _ _ ⟨w.heap.size, 0, none⟩ (by simp; omega)]; simp)
  have up : ∀ i : Nat, ((((w.alloc (.cells #[.pointer (some ⟨t, 0, none⟩)] 101)).alloc (.cells #[.pointer (some ⟨9, 101, none⟩), .pointer (some ⟨w.heap.size, 0, none⟩), .int .u64 150] 127)).alloc (.cells #[.pointer (some ⟨9, 101, none⟩), .pointer (some ⟨w.heap.size, 0, none⟩), .int .u64 150] 127)).alloc (.cells #[v0, v1, v2] 97)).cell? ⟨t, i, none⟩ = w.cell? ⟨t, i, none⟩ := fun i => by rw [World.cell?_alloc_lt _ _ ⟨t, i, none⟩ (by simp; omega), World.cell?_alloc_lt _ _ ⟨t, i, none⟩ (by simp; omega), World.cell?_alloc_lt _ _ ⟨t, i, none⟩ (by simp; omega), World.cell?_alloc_lt _ _ ⟨t, i, none⟩ tlt]
  have uf : ∀ i : Nat, ((((w.alloc (.cells #[.pointer (some ⟨t, 0, none⟩)] 101)).alloc (.cells #[.pointer (some ⟨9, 101, none⟩), .pointer (some ⟨w.heap.size, 0, none⟩), .int .u64 150] 127)).alloc (.cells #[.pointer (some ⟨9, 101, none⟩), .pointer (some ⟨w.heap.size, 0, none⟩), .int .u64 150] 127)).alloc (.cells #[v0, v1, v2] 97)).frozen? ⟨t, i, none⟩ = w.frozen? ⟨t, i, none⟩ := fun i => by rw [World.frozen?_alloc_old _ _ ⟨t, i, none⟩ (by simp; omega), World.frozen?_alloc_old _ _ ⟨t, i, none⟩ (by simp; omega), World.frozen?_alloc_old _ _ ⟨t, i, none⟩ (by simp; omega), World.frozen?_alloc_old _ _ ⟨t, i, none⟩ (Nat.ne_of_lt tlt)]
  have st := asSetR t (w.heap.size + 1 + 1 + 1) v0 v1 v2 o0 o1 o2 ((((w.alloc (.cells #[.pointer (some ⟨t, 0, none⟩)] 101)).alloc (.cells #[.pointer (some ⟨9, 101, none⟩), .pointer (some ⟨w.heap.size, 0, none⟩), .int .u64 150] 127)).alloc (.cells #[.pointer (some ⟨9, 101, none⟩), .pointer (some ⟨w.heap.size, 0, none⟩), .int .u64 150] 127)).alloc (.cells #[v0, v1, v2] 97))
    (by rw [World.cell?_alloc_at _ _ _ _ (by simp)]; rfl) (by rw [World.cell?_alloc_at _ _ _ _ (by simp)]; rfl) (by rw [World.cell?_alloc_at _ _ _ _ (by simp)]; rfl)
    ((up 0).trans t0) ((up 1).trans t1) ((up 2).trans t2) ((uf 0).trans f0) ((uf 1).trans f1) ((uf 2).trans f2) q0 q1 q2
  clear up uf hg t0 t1 t2 f0 f1 f2
  go_enter Tryd.func66, Tryd.ntmps66
  go_wp2
  refine wp_loop_rounds 1 ?_
  rw [rounds_succ]
  go_wp2
  go_ret
  exact ⟨rfl, rfl⟩

end Er
end Go.Proofs.YtapfmadnkaimeaaDoor
