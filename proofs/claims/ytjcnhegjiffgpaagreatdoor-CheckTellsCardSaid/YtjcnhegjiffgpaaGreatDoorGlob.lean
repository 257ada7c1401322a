/- The package-level variables that the rows list hold what the typed data say. -/
import Derived.Test.YtjcnhegjiffgpaaGreatDoorGlob0
import Derived.Test.YtjcnhegjiffgpaaGreatDoorRows
import Derived.Test.YtjcnhegjiffgpaaGreatDoorProg
import Derived.KernelRfl
set_option linter.unusedSimpArgs false
namespace Go.Proofs.YtjcnhegjiffgpaaGreatDoor
open Go.Lift
def Qcn : List (TypeId × Ty) := [(5, (.int .u8)), (9, .str), (130, (.int .u8)), (174, (.arr 3 (.int .u8))), (175, (.pair .str (.pair (.arr 3 (.int .u8)) .unit))), (176, (.pair .str (.pair (.arr 3 (.int .u8)) .unit))), (177, (.arr 35 (.pair .str (.pair (.arr 3 (.int .u8)) .unit))))]
theorem QTe : Ii Tryz.prog Qcn := uZ (by kernel_rfl) (by kernel_rfl) (by kernel_rfl)
theorem Qcm {W : World} (h : laidMet Tryz.prog Rows.checkNamesRow.laid W) : Ww (Xe W) W := by
  refine QON ?_
  intro p hp
  simp only [wW, List.mem_cons, List.not_mem_nil, or_false] at hp
  rcases hp with rfl
  · exact QOO QTe h (.head _) (by kernel_rfl) (t := 177) (by kernel_rfl) (by kernel_rfl) (by kernel_rfl)
end Go.Proofs.YtjcnhegjiffgpaaGreatDoor
