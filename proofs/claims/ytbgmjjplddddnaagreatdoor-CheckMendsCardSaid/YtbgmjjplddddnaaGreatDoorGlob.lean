import Derived.Test.YtbgmjjplddddnaaGreatDoorGlob0
import Derived.Test.YtbgmjjplddddnaaGreatDoorRows
import Derived.Test.YtbgmjjplddddnaaGreatDoorProg
import Derived.KernelRfl
set_option linter.unusedSimpArgs false
namespace Go.Proofs.YtbgmjjplddddnaaGreatDoor
open Go.Lift
def Yd:List (TypeId×Ty):=[(5,(.int .u8)),(9,.str),(145,(.int .u8)),(187,(.arr 3 (.int .u8))),(188,(.pair .str (.pair (.arr 3 (.int .u8)) .unit))),(189,(.pair .str (.pair (.arr 3 (.int .u8)) .unit))),(190,(.arr 35 (.pair .str (.pair (.arr 3 (.int .u8)) .unit))))]
theorem WQ:CY Tryz.prog Yd:=Uk (by kernel_rfl) (by kernel_rfl) (by kernel_rfl)
theorem ZU {W:World} (h:laidMet Tryz.prog Rows.checkNamesRow.laid W):E9 (E8 W) W:=by
 refine U7 ?_
 intro p hp
 simp only [Mi,List.mem_cons,List.not_mem_nil,or_false] at hp
 rcases hp with rfl
 ·exact U8 WQ h (.head _) (by kernel_rfl) (t:=190) (by kernel_rfl) (by kernel_rfl) (by kernel_rfl)
end Go.Proofs.YtbgmjjplddddnaaGreatDoor
