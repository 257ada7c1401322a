/- The package-level variables that the rows list hold what the typed data say. -/
import Derived.Test.YtcapedpcokhpjaaDoorGlob0
import Derived.Test.YtcapedpcokhpjaaDoorRows
import Derived.Test.YtcapedpcokhpjaaDoorProg
import Derived.KernelRfl
namespace Go.Proofs.YtcapedpcokhpjaaDoor
open Go.Lift
theorem glOk {W : World} (h : laidMet Tryd.prog Rows.textNamesRow.laid W) : GlOk (AllM W) W := by
  refine glOk_of ?_
  intro p hp
  simp only [glTab, List.mem_cons, List.not_mem_nil, or_false] at hp
  rcases hp with rfl | rfl | rfl | rfl | rfl
  · exact gl_ifc h (.tail _ (.tail _ (.tail _ (.tail _ (.head _))))) (by kernel_rfl) (t := 55) (by kernel_rfl) Tryd.underlying55
  · exact gl_ifc h (.tail _ (.tail _ (.tail _ (.head _)))) (by kernel_rfl) (t := 55) (by kernel_rfl) Tryd.underlying55
  · exact gl_ints (zs := gl2) h (.tail _ (.tail _ (.head _))) (by kernel_rfl) (t := 98) (by kernel_rfl) Tryd.underlying98 Tryd.underlying26 (by kernel_rfl) (by kernel_rfl) (by kernel_rfl) (by kernel_rfl)
  · exact gl_ints (zs := gl4) h (.head _) (by kernel_rfl) (t := 108) (by kernel_rfl) Tryd.underlying108 Tryd.underlying5 (by kernel_rfl) (by kernel_rfl) (by kernel_rfl) (by kernel_rfl)
  · exact gl_ints (zs := gl5) h (.tail _ (.head _)) (by kernel_rfl) (t := 109) (by kernel_rfl) Tryd.underlying109 Tryd.underlying5 (by kernel_rfl) (by kernel_rfl) (by kernel_rfl) (by kernel_rfl)
end Go.Proofs.YtcapedpcokhpjaaDoor
