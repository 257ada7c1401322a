/- Functions of the program, read as plain functions: each equation is checked by the kernel. -/
import Derived.Test.YtlmhokakghbciaaBmpT
set_option linter.unusedVariables false
set_option maxRecDepth 100000
namespace Go.Proofs.Ytlmhokakghbciaa
open Go.Lift
def Tlaw14_BumpNames : LT := { live := [(3,[1,2])],keep := [] }
/-! ### wreckage/wreckagelaw14.BumpNames -/
noncomputable def Elaw14_BumpNames (mk : (α : Type) → Nat → α → List α) : Env2 := { tab := tab, fs := [(11, Gbump_Room), (13, Gbump_Alloc), (15, Gref13_Same), (16, Gbump_New), (18, Gbump_Put), (20, Gbump_Texts), (22, Gref14_SameWords), (23, Glaw14_alive)], inl := [], rep := mk, vl := [53, 55, 136] }
theorem llaw14_BumpNames : rise (Elaw14_BumpNames (fun _ => List.replicate)) Tlaw14_BumpNames 6 big Try.f5 [] [.bool] [false] () = some (true : Bool) := by kernel_rfl
def claw14_BumpNames (x : Unit) : Option (Bool) := some (true : Bool)
def Glaw14_BumpNames : Fn2 := ⟨[], [.bool], [false], fun x => claw14_BumpNames x⟩
theorem Llaw14_BumpNames : Rises Try.prog 5 Glaw14_BumpNames := rises_of (E := Elaw14_BumpNames (fun _ => List.replicate)) ⟨tabOk, (fsCons2 Lbump_Room (fsCons2 Lbump_Alloc (fsCons2 Lref13_Same (fsCons2 Lbump_New (fsCons2 Lbump_Put (fsCons2 Lbump_Texts (fsCons2 Lref14_SameWords (fsCons2 Llaw14_alive fsNil2)))))))), fun _ _ _ => rfl, mixed, inlNil, rcsNil, owsNil⟩ Try.func5 rfl (by decide) (by kernel_rfl) (by kernel_rfl) (by kernel_rfl) (by kernel_rfl) (fun x r _ h => ⟨Tlaw14_BumpNames, 6, big, llaw14_BumpNames.trans h⟩)

end Go.Proofs.Ytlmhokakghbciaa
