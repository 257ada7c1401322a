/- The package-level variables that the rows list hold what the typed data say. -/
import Derived.Test.YtlhnlcbcikbokaaGreatDoorGlob0
import Derived.Test.YtlhnlcbcikbokaaGreatDoorRows
import Derived.Test.YtlhnlcbcikbokaaGreatDoorProg
import Derived.KernelRfl
namespace Go.Proofs.YtlhnlcbcikbokaaGreatDoor
open Go.Lift
def glTy : List (TypeId × Ty) := [(5, (.int .u8)), (9, .str), (208, (.int .u8)), (209, (.arr 3 (.int .u8))), (210, (.pair .str (.pair (.arr 3 (.int .u8)) .unit))), (211, (.pair .str (.pair (.arr 3 (.int .u8)) .unit))), (212, (.arr 35 (.pair .str (.pair (.arr 3 (.int .u8)) .unit))))]
theorem glTyOk : TabOk Tryz.prog glTy := tabOk_of (by kernel_rfl) (by kernel_rfl) (by kernel_rfl)
theorem glOk {W : World} (h : laidMet Tryz.prog Rows.imageNamesRow.laid W) : GlOk (AllM W) W := by
  refine glOk_of ?_
  intro p hp
  simp only [glTab, List.mem_cons, List.not_mem_nil, or_false] at hp
  rcases hp with rfl
  · exact gl_data glTyOk h (.head _) (by kernel_rfl) (t := 212) (by kernel_rfl) (by kernel_rfl) (by kernel_rfl)
end Go.Proofs.YtlhnlcbcikbokaaGreatDoor
