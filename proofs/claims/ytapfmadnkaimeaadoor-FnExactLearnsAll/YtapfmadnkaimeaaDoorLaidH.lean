/-
  From a row's condition on the handle of the type error to what the walks ask.
-/
import Derived.Test.YtapfmadnkaimeaaDoorLaidT
import Derived.Test.YtapfmadnkaimeaaDoorHaH
namespace Go.Proofs.YtapfmadnkaimeaaDoor
open Go.RowKit Go.ChangeShapes Go.WideShapes Go.ChangeAt
set_option maxRecDepth 100000
namespace Ld

theorem etG : Tryd.prog.globalNamed "errors.errorType" = some 8 := by kernel_rfl
theorem rtT : (Tryd.prog.cutTypes.find? (·.1 == "internal/reflectlite.rtype")).map (·.2) = some 140 := by kernel_rfl
theorem oneRow : ((List.range 194).filter fun t => Tryd.prog.rowNamed t [101, 114, 114, 111, 114]) = [89] := by kernel_rfl
theorem sizeT : Tryd.prog.types.size = 194 := by kernel_rfl
theorem handle {W : World} (h : handlesMet Tryd.prog [("errors.errorType", Rows.laid_errors_errorType)] W) : Er.HandleE W := by
  obtain ⟨name, u, ty, e1, e2, e3, e4, e5⟩ := h _ (List.mem_singleton.2 rfl)
  have en : name = [101, 114, 114, 111, 114] := (Option.some.inj e1).symm
  subst en
  obtain rfl := Option.some.inj (rtT.symm.trans e2)
  have hm : ty ∈ (List.range 194).filter fun t => Tryd.prog.rowNamed t [101, 114, 114, 111, 114] := List.mem_filter.2 ⟨List.mem_range.2 (by rw [← sizeT]; exact e3), e4⟩
  rw [oneRow] at hm
  obtain rfl := List.mem_singleton.1 hm
  have hh : typeHandle Tryd.prog 89 = .pointer (some ⟨9, 89, none⟩) := by kernel_rfl
  rw [hh] at e5
  have q := World.var?_cell etG e5 0
  unfold Er.HandleE
  simpa using q

end Ld
end Go.Proofs.YtapfmadnkaimeaaDoor
