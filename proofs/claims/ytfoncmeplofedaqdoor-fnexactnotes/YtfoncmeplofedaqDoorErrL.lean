/- errors.errorType (listed in the row): what the row's condition gives of it. -/
import Derived.Test.YtfoncmeplofedaqDoorNoA
import Derived.Test.YtfoncmeplofedaqDoorRows
import Derived.LaidMore
import Derived.LaidHandle
import Derived.LaidLaws
namespace Go.Proofs.YtfoncmeplofedaqDoor
open Go.RowKit Go.ChangeShapes Go.WideShapes
theorem errG : Tryd.prog.globalNamed "errors.errorType" = some 0 := by kernel_rfl
theorem errRT : (Tryd.prog.cutTypes.find? (·.1 == "internal/reflectlite.rtype")).map (·.2) = some 85 := by kernel_rfl
theorem errRow : ((List.range 150).filter fun t => Tryd.prog.rowNamed t [101, 114, 114, 111, 114]) = [33] := by kernel_rfl
theorem errSize : Tryd.prog.types.size = 150 := by kernel_rfl
theorem errT_of {W : World} (h2 : handlesMet Tryd.prog [("errors.errorType", Rows.laid_errors_errorType)] W) : ErrT W := by
  obtain ⟨name, u, ty, e1, e2, e3, e4, e5⟩ := h2 _ (List.mem_cons_self)
  have en : name = [101, 114, 114, 111, 114] := (Option.some.inj e1).symm
  subst en
  obtain rfl := Option.some.inj (errRT.symm.trans e2)
  have hm : ty ∈ (List.range 150).filter fun t => Tryd.prog.rowNamed t [101, 114, 114, 111, 114] := List.mem_filter.2 ⟨List.mem_range.2 (by rw [← errSize]; exact e3), e4⟩
  rw [errRow] at hm
  obtain rfl := List.mem_singleton.1 hm
  have hh : typeHandle Tryd.prog 33 = .pointer (some ⟨2, 33, none⟩) := by kernel_rfl
  rw [hh] at e5
  simpa [ErrT] using World.var?_cell errG e5 0
end Go.Proofs.YtfoncmeplofedaqDoor
