/- The package-level variables that the rows list hold what the typed data say. -/
import Derived.Test.YtbgmjjplddddnaaGreatDoorGlob0
import Derived.Test.YtbgmjjplddddnaaGreatDoorRows
import Derived.Test.YtbgmjjplddddnaaGreatDoorProg
import Derived.KernelRfl
namespace Go.Proofs.YtbgmjjplddddnaaGreatDoor
open Go.Lift
def QYZ : List (TypeId × Ty) := [(5, (.int .u8)), (9, .str), (145, (.int .u8)), (187, (.arr 3 (.int .u8))), (188, (.pair .str (.pair (.arr 3 (.int .u8)) .unit))), (189, (.pair .str (.pair (.arr 3 (.int .u8)) .unit))), (190, (.arr 35 (.pair .str (.pair (.arr 3 (.int .u8)) .unit))))]
theorem QR5 : BR Tryz.prog QYZ := XD (by kernel_rfl) (by kernel_rfl) (by kernel_rfl)
theorem QYY {W : World} (h : laidMet Tryz.prog Rows.checkNamesRow.laid W) : EK (EI W) W := by
  refine XV ?_
  intro p hp
  simp only [Nk, List.mem_cons, List.not_mem_nil, or_false] at hp
  rcases hp with rfl
  · exact XW QR5 h (.head _) (by kernel_rfl) (t := 190) (by kernel_rfl) (by kernel_rfl) (by kernel_rfl)
end Go.Proofs.YtbgmjjplddddnaaGreatDoor
