/- The package-level variables that the rows list hold what the typed data say. -/
import Derived.Test.YtinhcjeilebooaaDoorGlob0
import Derived.Test.YtinhcjeilebooaaDoorRows
import Derived.Test.YtinhcjeilebooaaDoorProg
import Derived.KernelRfl
namespace Go.Proofs.YtinhcjeilebooaaDoor
open Go.Lift
def glTy : List (TypeId × Ty) := [(5, (.int .u8)), (9, .str), (56, (.int .u8)), (57, (.arr 3 (.int .u8))), (58, (.pair .str (.pair (.arr 3 (.int .u8)) .unit))), (59, (.pair .str (.pair (.arr 3 (.int .u8)) .unit))), (60, (.arr 35 (.pair .str (.pair (.arr 3 (.int .u8)) .unit))))]
theorem glTyOk : TabOk Tryd.prog glTy := tabOk_of (by kernel_rfl) (by kernel_rfl) (by kernel_rfl)
theorem glOk {W : World} (h : laidMet Tryd.prog Rows.opsNamesRow.laid W) : GlOk (AllM W) W := by
  refine glOk_of ?_
  intro p hp
  simp only [glTab, List.mem_cons, List.not_mem_nil, or_false] at hp
  rcases hp with rfl
  · exact gl_data glTyOk h (.head _) (by kernel_rfl) (t := 60) (by kernel_rfl) (by kernel_rfl) (by kernel_rfl)
end Go.Proofs.YtinhcjeilebooaaDoor
