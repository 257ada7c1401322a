/- Functions of the program, read as plain functions: each equation is checked by the kernel. -/
import Derived.Test.YtmmbfllpidolbaaRegL
set_option linter.unusedVariables false
set_option maxRecDepth 100000
namespace Go.Proofs.Ytmmbfllpidolbaa
open Go.Lift
def Tlaw13_RegionNames : LT := { live := [(3,[1,2])],keep := [] }
/-! ### wreckage/wreckagelaw13.RegionNames -/
noncomputable def Elaw13_RegionNames (mk : (α : Type) → Nat → α → List α) : Env2 := { tab := tab, fs := [(12, Gregion_New), (14, Gregion_Has), (16, Gregion_Load), (18, Gregion_Store), (21, Gregion_Check), (23, Gregion_Bytes), (25, Gregion_Write), (27, Gregion_Resize), (29, Gregion_Find), (31, Glaw13_alive)], inl := [], rep := mk }
theorem llaw13_RegionNames : rise (Elaw13_RegionNames (fun _ => List.replicate)) Tlaw13_RegionNames 6 big Try.f6 [] [.bool] [false] () = some (true : Bool) := by kernel_rfl
def claw13_RegionNames (x : Unit) : Option (Bool) := some (true : Bool)
def Glaw13_RegionNames : Fn2 := ⟨[], [.bool], [false], fun x => claw13_RegionNames x⟩
theorem Llaw13_RegionNames : Rises Try.prog 6 Glaw13_RegionNames := rises_of (E := Elaw13_RegionNames (fun _ => List.replicate)) ⟨tabOk, (fsCons2 Lregion_New (fsCons2 Lregion_Has (fsCons2 Lregion_Load (fsCons2 Lregion_Store (fsCons2 Lregion_Check (fsCons2 Lregion_Bytes (fsCons2 Lregion_Write (fsCons2 Lregion_Resize (fsCons2 Lregion_Find (fsCons2 Llaw13_alive fsNil2)))))))))), fun _ _ _ => rfl, mixed, inlNil, rcsNil, owsNil⟩ Try.func6 rfl (by decide) (by kernel_rfl) (by kernel_rfl) (by kernel_rfl) (by kernel_rfl) (fun x r _ h => ⟨Tlaw13_RegionNames, 6, big, llaw13_RegionNames.trans h⟩)

end Go.Proofs.Ytmmbfllpidolbaa
