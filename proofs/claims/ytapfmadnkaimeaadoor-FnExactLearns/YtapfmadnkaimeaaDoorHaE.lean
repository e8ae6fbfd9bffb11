/-
  What the library's errors.Is answers at the program's errors: nil, an error of errors.New's make, and one that wraps such an error; the target of errors.New's make.
-/
import Derived.Test.YtapfmadnkaimeaaDoorHaT
import Derived.LaidEql
import Derived.Stop.Asserts
import Derived.RowKitTokens
namespace Go.Proofs.YtapfmadnkaimeaaDoor
open Go.RowKit Go.Extern.Stop Go.Stop Go.Extern
set_option maxRecDepth 100000
set_option linter.unusedVariables false
namespace Er

theorem isTypeOf (v : Value) (w : World) : (callFunc 89 #[.iface 159 v]).run Tryd.prog w = .ok (.value (.iface 140 (.agg #[.pointer (some ⟨9, 159, none⟩)]))) w := by kernel_rfl
theorem isComparable (w : World) : (callFunc 149 #[.agg #[.pointer (some ⟨9, 159, none⟩)]]).run Tryd.prog w = .ok (.value (.bool true)) w := by kernel_rfl
theorem isMethodComparable (v : Value) (w : World) : (Go.method 294 140 v "Comparable").run Tryd.prog w = .ok (149, v) w := by kernel_rfl
theorem isComp : (Tryd.prog.info? 159).map (·.comparable) = some true := by kernel_rfl
theorem isSize : (Tryd.prog.info? 182).map (·.size) = some 1 := by kernel_rfl
theorem noIsE (v : Value) (xT : TypeId) (w : World) : (Instr.typeAssert (.iface 159 v) xT 142 true).run Tryd.prog w = .ok (.tuple #[.nilIface, .bool false]) w := run_typeAssert_lacksB Tryd.underlying142 (by kernel_rfl) (by kernel_rfl) v xT w
theorem noUnwrapE (v : Value) (xT : TypeId) (w : World) : (Instr.typeAssert (.iface 159 v) xT 145 true).run Tryd.prog w = .ok (.tuple #[.nilIface, .bool false]) w := run_typeAssert_lacksB Tryd.underlying145 (by kernel_rfl) (by kernel_rfl) v xT w
theorem noUnwrapsE (v : Value) (xT : TypeId) (w : World) : (Instr.typeAssert (.iface 159 v) xT 147 true).run Tryd.prog w = .ok (.tuple #[.nilIface, .bool false]) w := run_typeAssert_lacksB Tryd.underlying147 (by kernel_rfl) (by kernel_rfl) v xT w
theorem noIsR (v : Value) (xT : TypeId) (w : World) : (Instr.typeAssert (.iface 97 v) xT 142 true).run Tryd.prog w = .ok (.tuple #[.nilIface, .bool false]) w := run_typeAssert_lacksB Tryd.underlying142 (by kernel_rfl) (by kernel_rfl) v xT w
theorem hasUnwrapR (v : Value) (xT : TypeId) (w : World) : (Instr.typeAssert (.iface 97 v) xT 145 true).run Tryd.prog w = .ok (.tuple #[.iface 97 v, .bool true]) w := run_typeAssert_hasB Tryd.underlying145 (by kernel_rfl) v xT w
theorem methodUnwrap (v : Value) (w : World) : (Go.method 294 97 v "Unwrap").run Tryd.prog w = .ok (143, v) w := by kernel_rfl

/-- errors.Is of nil -/
theorem is_nil (b : Addr) (w : World) : Calls Tryd.prog 59 #[.nilIface, .iface 159 (.pointer (some b))] w fun e w' => e = .returned (.bool false) ∧ w = w' := by
  have hn := run_eql_iface_nil_left (P := Tryd.prog) w 159 (.pointer (some b)) Tryd.underlying89
  go_enter Tryd.func59, Tryd.ntmps59
  go_wp2
  go_ret
  exact ⟨rfl, rfl⟩

/-- errors.Is of the error itself -/
theorem is_same (b : Addr) (w : World) : Calls Tryd.prog 59 #[.iface 159 (.pointer (some b)), .iface 159 (.pointer (some b))] w fun e w' => e = .returned (.bool true) ∧ w = w' := by
  obtain ⟨i, hi, hcmp⟩ := Option.map_eq_some_iff.1 isComp
  obtain ⟨j, hj, hjs⟩ := Option.map_eq_some_iff.1 isSize
  have tT := isTypeOf
  have cT := isComparable
  have mR := isMethodComparable
  have nE := noIsE
  have uE := noUnwrapE
  have vE := noUnwrapsE
  have nW := noIsR
  have uW := hasUnwrapR
  have mU := methodUnwrap
  have heq := run_eql_iface_ptr_same (P := Tryd.prog) w b Tryd.underlying89 Tryd.underlying159 hi hcmp hj
  go_enter Tryd.func59, Tryd.ntmps59
  go_wp2
  refine wp_loop_rounds 1 ?_
  rw [rounds_succ]
  go_wp2
  go_ret
  exact ⟨rfl, rfl⟩

set_option maxHeartbeats 1600000 in
/-- errors.Is of an error that wraps the target -/
theorem is_wrap (k l : Int) (b : Addr) (w : World) : Calls Tryd.prog 59 #[.iface 97 (.agg #[.int .i64 k, .int .i64 l, .iface 159 (.pointer (some b))]), .iface 159 (.pointer (some b))] w fun e w' => e = .returned (.bool true) ∧ Below w.heap.size w w' := by
  obtain ⟨i, hi, hcmp⟩ := Option.map_eq_some_iff.1 isComp
  obtain ⟨j, hj, hjs⟩ := Option.map_eq_some_iff.1 isSize
  have tT := isTypeOf
  have cT := isComparable
  have mR := isMethodComparable
  have nE := noIsE
  have uE := noUnwrapE
  have vE := noUnwrapsE
  have nW := noIsR
  have uW := hasUnwrapR
  have mU := methodUnwrap
  have heq := run_eql_iface_ptr_same (P := Tryd.prog) (w.alloc (.cells #[.int .i64 k, .int .i64 l, .iface 159 (.pointer (some b))] 97)) b Tryd.underlying89 Tryd.underlying159 hi hcmp hj
  have hty := run_eql_iface_types (P := Tryd.prog) 97 159 (.agg #[.int .i64 k, .int .i64 l, .iface 159 (.pointer (some b))]) (.pointer (some b)) Tryd.underlying89 (by decide) w
  go_enter Tryd.func59, Tryd.ntmps59
  go_wp2
  refine wp_loop_rounds 2 ?_
  rw [rounds_succ]
  go_wp2
  rw [rounds_succ]
  go_wp2
  go_ret
  exact ⟨rfl, (Below.refl _ _).alloc (Nat.le_refl _) _⟩

set_option maxHeartbeats 1600000 in
/-- errors.Is of an error that wraps another one -/
theorem is_other (k l : Int) (a b : Addr) (ca cb : Array Value) (ta tb : TypeId) (w : World) (hne : a ≠ b) (ha : w.heap[a.block]? = some (.cells ca ta (0, 0))) (hb : w.heap[b.block]? = some (.cells cb tb (0, 0))) : Calls Tryd.prog 59 #[.iface 97 (.agg #[.int .i64 k, .int .i64 l, .iface 159 (.pointer (some a))]), .iface 159 (.pointer (some b))] w fun e w' => e = .returned (.bool false) ∧ Below w.heap.size w w' := by
  obtain ⟨i, hi, hcmp⟩ := Option.map_eq_some_iff.1 isComp
  obtain ⟨j, hj, hjs⟩ := Option.map_eq_some_iff.1 isSize
  have tT := isTypeOf
  have cT := isComparable
  have mR := isMethodComparable
  have nE := noIsE
  have uE := noUnwrapE
  have vE := noUnwrapsE
  have nW := noIsR
  have uW := hasUnwrapR
  have mU := methodUnwrap
  have hup : ∀ {c : Nat} {x : Obj} (o : Obj), w.heap[c]? = some x → (w.alloc o).heap[c]? = some x := fun {c x} o h => by
    have hlt : c < w.heap.size := by
      rcases Nat.lt_or_ge c w.heap.size with q | q
      · exact q
      · rw [Array.getElem?_eq_none q] at h; cases h
    rw [Below.heap_alloc w o c hlt]; exact h
  have heq := run_eql_iface_ptr_other (P := Tryd.prog) (w.alloc (.cells #[.int .i64 k, .int .i64 l, .iface 159 (.pointer (some a))] 97)) Tryd.underlying89 Tryd.underlying159 hi hcmp hj (by rw [hjs]; decide) hne (hup _ ha) (hup _ hb)
  have hty := run_eql_iface_types (P := Tryd.prog) 97 159 (.agg #[.int .i64 k, .int .i64 l, .iface 159 (.pointer (some a))]) (.pointer (some b)) Tryd.underlying89 (by decide) w
  clear hup ha hb
  go_enter Tryd.func59, Tryd.ntmps59
  go_wp2
  refine wp_loop_rounds 2 ?_
  rw [rounds_succ]
  go_wp2
  rw [rounds_succ]
  go_wp2
  go_ret
  exact ⟨rfl, (Below.refl _ _).alloc (Nat.le_refl _) _⟩

end Er
end Go.Proofs.YtapfmadnkaimeaaDoor
