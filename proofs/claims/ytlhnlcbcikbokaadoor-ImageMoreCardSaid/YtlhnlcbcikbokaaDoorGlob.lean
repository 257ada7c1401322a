/- The package-level variables that the rows list hold what the typed data say. -/
import Derived.Test.YtlhnlcbcikbokaaDoorGlob0
import Derived.Test.YtlhnlcbcikbokaaDoorRows
import Derived.Test.YtlhnlcbcikbokaaDoorProg
import Derived.KernelRfl
namespace Go.Proofs.YtlhnlcbcikbokaaDoor
open Go.Lift
def glTy : List (TypeId × Ty) := [(5, (.int .u8)), (9, .str), (131, (.int .u8)), (138, (.arr 3 (.int .u8))), (139, (.pair .str (.pair (.arr 3 (.int .u8)) .unit))), (140, (.pair .str (.pair (.arr 3 (.int .u8)) .unit))), (141, (.arr 35 (.pair .str (.pair (.arr 3 (.int .u8)) .unit))))]
theorem glTyOk : TabOk Tryd.prog glTy := tabOk_of (by kernel_rfl) (by kernel_rfl) (by kernel_rfl)
theorem glOk {W : World} (h : laidMet Tryd.prog Rows.imageFindsRow.laid W) : GlOk (AllM W) W := by
  refine glOk_of ?_
  intro p hp
  simp only [glTab, List.mem_cons, List.not_mem_nil, or_false] at hp
  rcases hp with rfl
  · exact gl_data glTyOk h (.head _) (by kernel_rfl) (t := 141) (by kernel_rfl) (by kernel_rfl) (by kernel_rfl)
end Go.Proofs.YtlhnlcbcikbokaaDoor
