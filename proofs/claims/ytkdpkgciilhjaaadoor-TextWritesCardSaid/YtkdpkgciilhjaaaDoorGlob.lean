/- The package-level variables that the rows list hold what the typed data say. -/
import Derived.Test.YtkdpkgciilhjaaaDoorGlob0
import Derived.Test.YtkdpkgciilhjaaaDoorRows
import Derived.Test.YtkdpkgciilhjaaaDoorProg
import Derived.KernelRfl
namespace Go.Proofs.YtkdpkgciilhjaaaDoor
open Go.Lift
theorem glOk {W : World} (h : laidMet Tryd.prog Rows.textWritesRow.laid W) : GlOk (AllM W) W := by
  refine glOk_of ?_
  intro p hp
  simp only [glTab, List.mem_cons, List.not_mem_nil, or_false] at hp
  rcases hp with rfl | rfl | rfl
  · exact gl_ints (zs := gl0) h (.tail _ (.tail _ (.head _))) (by kernel_rfl) (t := 53) (by kernel_rfl) Tryd.underlying53 Tryd.underlying22 (by kernel_rfl) (by kernel_rfl) (by kernel_rfl) (by kernel_rfl)
  · exact gl_ints (zs := gl1) h (.head _) (by kernel_rfl) (t := 59) (by kernel_rfl) Tryd.underlying59 Tryd.underlying5 (by kernel_rfl) (by kernel_rfl) (by kernel_rfl) (by kernel_rfl)
  · exact gl_ints (zs := gl2) h (.tail _ (.head _)) (by kernel_rfl) (t := 60) (by kernel_rfl) Tryd.underlying60 Tryd.underlying5 (by kernel_rfl) (by kernel_rfl) (by kernel_rfl) (by kernel_rfl)
end Go.Proofs.YtkdpkgciilhjaaaDoor
