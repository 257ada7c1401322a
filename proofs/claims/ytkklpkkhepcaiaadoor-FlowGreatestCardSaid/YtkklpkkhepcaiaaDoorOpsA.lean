/- Functions of the program, read as plain functions: each equation is checked by the kernel. -/
import Derived.Test.YtkklpkkhepcaiaaDoorRiP
import Derived.Test.YtkklpkkhepcaiaaDoorRiR
import Derived.Test.YtkklpkkhepcaiaaDoorProg
import Derived.KernelRfl
set_option linter.unusedVariables false
set_option maxRecDepth 100000
namespace Go.Proofs.YtkklpkkhepcaiaaDoor
open Go.Lift
def tab : List (TypeId × Ty) := [(3, (.int .i64)), (4, .bool), (5, (.int .u8)), (9, .str), (23, (.pair (.int .u8) (.pair (.int .i64) (.pair (.int .i64) (.pair (.int .i64) .unit))))), (24, (.slice (.pair (.int .u8) (.pair (.int .i64) (.pair (.int .i64) (.pair (.int .i64) .unit)))))), (26, (.slice (.slice (.pair (.int .u8) (.pair (.int .i64) (.pair (.int .i64) (.pair (.int .i64) .unit))))))), (27, (.slice (.int .i64))), (28, (.int .i64)), (31, (.slice .bool)), (34, (.slice (.int .u64))), (41, (.int .u64)), (66, .fn), (74, .fn), (76, .fn), (90, (.int .u8)), (92, .fn), (94, (.arr 3 (.int .i64))), (96, (.arr 3 (.int .u8))), (98, (.pair .str (.pair (.arr 3 (.int .u8)) .unit))), (99, (.arr 35 (.pair .str (.pair (.arr 3 (.int .u8)) .unit))))]
theorem mixed : Tryd.prog.follows .mixedOrders = true := by kernel_rfl
theorem tabOk : TabOk Tryd.prog tab := tabOk_of (by kernel_rfl) (by kernel_rfl) (by kernel_rfl)
abbrev Y0 : Type := List (Int × (Int × (Int × (Int × Unit))))
abbrev Y1 : Type := List Int
abbrev Y2 : Type := List Bool
abbrev Y3 : Type := Int × (Int × (Int × (Int × Unit)))
abbrev Y4 : Type := Y1 × Int
abbrev Z0 : Ty := .pair (.int .u8) (.pair (.int .i64) (.pair (.int .i64) (.pair (.int .i64) .unit)))
abbrev Z1 : Ty := .int .i64
abbrev Z2 : Ty := .slice (.int .u64)
abbrev Z3 : Ty := .slice Z0
abbrev Z4 : Ty := .slice Z1
abbrev Z5 : Ty := .int .u64
abbrev Z6 : Ty := .slice .bool
abbrev Y5 : Type := Int × Y1 × Int × Int × Y0 × Y1 × Y1 × Int × Y1 × Y2 × Y0 × Y2 × Y1
abbrev Y6 : Type := Int × Y1 × Int × Int × Y1 × Y1 × Bool × Y0 × Y2 × Y1 × Y0
abbrev Y7 : Type := Y0 × Y1 × Y1 × Int × Int × Int × Int × Int × Y1 × Y2 × Y1
abbrev Y8 : Type := Y0 × Int × Int × Nat × Nat × Int × Y1 × Y2 × Y1
abbrev Y9 : Type := Y0 × Y1 × Y1 × Int × Y1 × Y2 × Y0 × Y2 × Y1
abbrev Y10 : Type := Y1 × Int × Int × Y0 × Y1 × Y1 × Int × Bool
abbrev Y11 : Type := Y0 × Int × Int × Int × Int × Y1 × Y1 × Y2
abbrev Y12 : Type := Y0 × Int × Int × Y1 × Int × Y1 × Y2
abbrev Y13 : Type := Y0 × Int × Int × Int × Y2 × Y1
abbrev Y14 : Type := Y0 × Y1 × Bool × Int × Y1 × Y2
abbrev Y15 : Type := Y0 × Int × Int
def Tops_isOperation : LT := { live := [],keep := [(2,[0]),(3,[0]),(4,[0]),(5,[0]),(6,[5]),(7,[5]),(8,[])] }
/-! ### wreckage/ops.isOperation -/
noncomputable def Eops_isOperation : Env2 := { tab := tab, fs := [], inl := [] }
def nops_isOperation (x : Int) : Option (Bool) :=
  (bif (decide (x ≥ (1 : Int))) then (some (decide (x ≤ (34 : Int)))) else (some false))
def mops_isOperation (N : Nat) (x : Int) : Option (Bool) := nops_isOperation x
theorem jops_isOperation (N : Nat) (x : Int) : rise (Eops_isOperation) Tops_isOperation 6 N Tryd.f64 [(.int .u8)] [.bool] [false] x = nops_isOperation x := by kernel_rfl
theorem lops_isOperation (N : Nat) (x : Int) : rise (Eops_isOperation) Tops_isOperation 6 N Tryd.f64 [(.int .u8)] [.bool] [false] x = mops_isOperation N x := (jops_isOperation N x).trans rfl
def cops_isOperation (x : Int) : Option (Bool) := mops_isOperation big x
def Gops_isOperation : Fn2 := ⟨[(.int .u8)], [.bool], [false], fun x => cops_isOperation x⟩
theorem Lops_isOperation : Rises Tryd.prog 64 Gops_isOperation := rises_of (E := Eops_isOperation) ⟨tabOk, fsNil2, fun _ _ _ => rfl, mixed, inlNil, rcsNil⟩ Tryd.func64 rfl (by decide) (by kernel_rfl) (by kernel_rfl) (by kernel_rfl) (by kernel_rfl) (fun x r _ h => ⟨Tops_isOperation, 6, big, (lops_isOperation big x).trans h⟩)

def Tops_operands : LT := { live := [],keep := [(1,[]),(2,[1]),(3,[1,2]),(4,[1,2]),(5,[1,2,4]),(6,[1,2,4]),(7,[2,4,6]),(8,[2,4,6]),(9,[2])] }
/-! ### wreckage/ops.operands -/
noncomputable def Eops_operands : Env2 := { tab := tab, fs := [], inl := [] }
def nops_operands (x : Y3) : Option (Y1) :=
  (let x1 : Y1 := [x.2.1, x.2.2.1, x.2.2.2.1]; (some x1))
def mops_operands (N : Nat) (x : Y3) : Option (Y1) := nops_operands x
theorem jops_operands (N : Nat) (x : Y3) : rise (Eops_operands) Tops_operands 6 N Tryd.f65 [Z0] [(.arr 3 Z1)] [false] x = nops_operands x := by kernel_rfl
theorem lops_operands (N : Nat) (x : Y3) : rise (Eops_operands) Tops_operands 6 N Tryd.f65 [Z0] [(.arr 3 Z1)] [false] x = mops_operands N x := (jops_operands N x).trans rfl
def cops_operands (x : Y3) : Option (Y1) := mops_operands big x
def Gops_operands : Fn2 := ⟨[Z0], [(.arr 3 Z1)], [false], fun x => cops_operands x⟩
theorem Lops_operands : Rises Tryd.prog 65 Gops_operands := rises_of (E := Eops_operands) ⟨tabOk, fsNil2, fun _ _ _ => rfl, mixed, inlNil, rcsNil⟩ Tryd.func65 rfl (by decide) (by kernel_rfl) (by kernel_rfl) (by kernel_rfl) (by kernel_rfl) (fun x r _ h => ⟨Tops_operands, 6, big, (lops_operands big x).trans h⟩)

def Tops_isIndex : LT := { live := [],keep := [(4,[0,1]),(5,[0,1]),(6,[0,1]),(7,[0,1]),(8,[1,7]),(9,[7,8]),(10,[7]),(11,[])] }
/-! ### wreckage/ops.isIndex -/
noncomputable def Eops_isIndex : Env2 := { tab := tab, fs := [], inl := [] }
def nops_isIndex (x : Int × Int) : Option (Bool) :=
  (bif (decide (x.1 ≥ (0 : Int))) then (some (decide (x.1 < x.2))) else (some false))
def mops_isIndex (N : Nat) (x : Int × Int) : Option (Bool) := nops_isIndex x
theorem jops_isIndex (N : Nat) (x : Int × Int) : rise (Eops_isIndex) Tops_isIndex 6 N Tryd.f70 [Z1, Z1] [.bool] [false] x = nops_isIndex x := by kernel_rfl
theorem lops_isIndex (N : Nat) (x : Int × Int) : rise (Eops_isIndex) Tops_isIndex 6 N Tryd.f70 [Z1, Z1] [.bool] [false] x = mops_isIndex N x := (jops_isIndex N x).trans rfl
def cops_isIndex (x : Int × Int) : Option (Bool) := mops_isIndex big x
def Gops_isIndex : Fn2 := ⟨[Z1, Z1], [.bool], [false], fun x => cops_isIndex x⟩
theorem Lops_isIndex : Rises Tryd.prog 70 Gops_isIndex := rises_of (E := Eops_isIndex) ⟨tabOk, fsNil2, fun _ _ _ => rfl, mixed, inlNil, rcsNil⟩ Tryd.func70 rfl (by decide) (by kernel_rfl) (by kernel_rfl) (by kernel_rfl) (by kernel_rfl) (fun x r _ h => ⟨Tops_isIndex, 6, big, (lops_isIndex big x).trans h⟩)

def Tops_fits : LT := { live := [],keep := [(4,[0,1]),(5,[1]),(6,[1,5]),(7,[1,5]),(8,[1,5]),(9,[1,5]),(10,[1,5]),(11,[1,5]),(12,[1,5]),(13,[1,5]),(14,[1,5]),(15,[1,5]),(16,[1,5]),(17,[1,5]),(18,[1,5]),(19,[1,5]),(20,[1,5]),(21,[1,5]),(22,[1]),(23,[1]),(24,[1]),(25,[1]),(26,[]),(27,[]),(28,[]),(29,[]),(30,[]),(31,[]),(32,[]),(33,[]),(34,[]),(35,[]),(36,[]),(37,[]),(38,[]),(39,[])] }
/-! ### wreckage/ops.fits -/
noncomputable def Eops_fits : Env2 := { tab := tab, fs := [(70, Gops_isIndex)], inl := [] }
def nops_fits (x : Int × Int) : Option (Bool) :=
  (bif (x.1 == (5 : Int)) then (some true) else (bif (x.1 == (3 : Int)) then (bif (x.1 == (3 : Int)) then (bif (x.2 == (-1 : Int)) then (some true) else ((cops_isIndex (x.2, (16 : Int))).bind fun x1 => (some x1))) else (bif (x.1 == (1 : Int)) then (bif (x.1 == (1 : Int)) then ((cops_isIndex (x.2, (16 : Int))).bind fun x2 => (some x2)) else (bif (x.1 == (6 : Int)) then ((cops_isIndex (x.2, (2 : Int))).bind fun x3 => (some x3)) else (bif (x.1 == (7 : Int)) then ((cops_isIndex (x.2, (32 : Int))).bind fun x4 => (some x4)) else (bif (x.1 == (8 : Int)) then ((cops_isIndex (x.2, (8 : Int))).bind fun x5 => (some x5)) else (bif (x.1 == (9 : Int)) then ((cops_isIndex (x.2, (32 : Int))).bind fun x6 => (some x6)) else (bif (x.1 == (10 : Int)) then ((cops_isIndex (x.2, (200 : Int))).bind fun x7 => (some x7)) else (some (x.2 == (0 : Int))))))))) else (bif (x.1 == (2 : Int)) then ((cops_isIndex (x.2, (16 : Int))).bind fun x8 => (some x8)) else (bif (x.1 == (6 : Int)) then ((cops_isIndex (x.2, (2 : Int))).bind fun x9 => (some x9)) else (bif (x.1 == (7 : Int)) then ((cops_isIndex (x.2, (32 : Int))).bind fun x10 => (some x10)) else (bif (x.1 == (8 : Int)) then ((cops_isIndex (x.2, (8 : Int))).bind fun x11 => (some x11)) else (bif (x.1 == (9 : Int)) then ((cops_isIndex (x.2, (32 : Int))).bind fun x12 => (some x12)) else (bif (x.1 == (10 : Int)) then ((cops_isIndex (x.2, (200 : Int))).bind fun x13 => (some x13)) else (some (x.2 == (0 : Int))))))))))) else (bif (x.1 == (4 : Int)) then (bif (x.2 == (-1 : Int)) then (some true) else ((cops_isIndex (x.2, (16 : Int))).bind fun x14 => (some x14))) else (bif (x.1 == (1 : Int)) then (bif (x.1 == (1 : Int)) then ((cops_isIndex (x.2, (16 : Int))).bind fun x15 => (some x15)) else (bif (x.1 == (6 : Int)) then ((cops_isIndex (x.2, (2 : Int))).bind fun x16 => (some x16)) else (bif (x.1 == (7 : Int)) then ((cops_isIndex (x.2, (32 : Int))).bind fun x17 => (some x17)) else (bif (x.1 == (8 : Int)) then ((cops_isIndex (x.2, (8 : Int))).bind fun x18 => (some x18)) else (bif (x.1 == (9 : Int)) then ((cops_isIndex (x.2, (32 : Int))).bind fun x19 => (some x19)) else (bif (x.1 == (10 : Int)) then ((cops_isIndex (x.2, (200 : Int))).bind fun x20 => (some x20)) else (some (x.2 == (0 : Int))))))))) else (bif (x.1 == (2 : Int)) then ((cops_isIndex (x.2, (16 : Int))).bind fun x21 => (some x21)) else (bif (x.1 == (6 : Int)) then ((cops_isIndex (x.2, (2 : Int))).bind fun x22 => (some x22)) else (bif (x.1 == (7 : Int)) then ((cops_isIndex (x.2, (32 : Int))).bind fun x23 => (some x23)) else (bif (x.1 == (8 : Int)) then ((cops_isIndex (x.2, (8 : Int))).bind fun x24 => (some x24)) else (bif (x.1 == (9 : Int)) then ((cops_isIndex (x.2, (32 : Int))).bind fun x25 => (some x25)) else (bif (x.1 == (10 : Int)) then ((cops_isIndex (x.2, (200 : Int))).bind fun x26 => (some x26)) else (some (x.2 == (0 : Int)))))))))))))
def mops_fits (N : Nat) (x : Int × Int) : Option (Bool) := nops_fits x
theorem jops_fits (N : Nat) (x : Int × Int) : rise (Eops_fits) Tops_fits 6 N Tryd.f66 [(.int .u8), Z1] [.bool] [false] x = nops_fits x := by kernel_rfl
theorem lops_fits (N : Nat) (x : Int × Int) : rise (Eops_fits) Tops_fits 6 N Tryd.f66 [(.int .u8), Z1] [.bool] [false] x = mops_fits N x := (jops_fits N x).trans rfl
def cops_fits (x : Int × Int) : Option (Bool) := mops_fits big x
def Gops_fits : Fn2 := ⟨[(.int .u8), Z1], [.bool], [false], fun x => cops_fits x⟩
theorem Lops_fits : Rises Tryd.prog 66 Gops_fits := rises_of (E := Eops_fits) ⟨tabOk, (fsCons2 Lops_isIndex fsNil2), fun _ _ _ => rfl, mixed, inlNil, rcsNil⟩ Tryd.func66 rfl (by decide) (by kernel_rfl) (by kernel_rfl) (by kernel_rfl) (by kernel_rfl) (fun x r _ h => ⟨Tops_fits, 6, big, (lops_fits big x).trans h⟩)

def Tops_Check : LT := { live := [(5,[3,16,17])],keep := [(1,[]),(2,[1]),(3,[1,11]),(4,[3,16,17,20]),(5,[3,4,16,17]),(6,[1]),(7,[1]),(8,[1]),(9,[1]),(10,[1]),(11,[1]),(12,[3]),(13,[3]),(14,[3]),(15,[3]),(16,[3]),(17,[3,16]),(18,[3,16,17]),(19,[3,16,17]),(20,[3,16,17,19]),(21,[3,4,16,17]),(22,[3,16,17,21]),(23,[3,16,17,21]),(24,[3,16,17,21]),(25,[3,16,17]),(26,[3,16,17]),(27,[3,16])] }
/-! ### wreckage/ops.Check -/
noncomputable def Eops_Check : Env2 := { tab := tab, fs := [(64, Gops_isOperation), (65, Gops_operands), (66, Gops_fits)], inl := [] }
noncomputable def eops_Check_0 (v : Y1 × Int × Y1) : St := { s := [(3, (.loc 0 [])), (16, (.val ⟨(.arr 3 (.int .u8)), v.1⟩)), (17, (.val ⟨Z1, v.2.1⟩))], l := [(0, .var (.arr 3 Z1) (.val ⟨(.arr 3 Z1), v.2.2⟩))], k := [], b := 4096 }
def hops_Check_0 (self0 : Y1 × Int × Y1 → Option (Int)) (v : Y1 × Int × Y1) : Option (Int) :=
  (bif (decide (v.2.1 < (3 : Int))) then ((getI v.1 v.2.1).bind fun x4 => (bif (decide (0 ≤ v.2.1) && decide (v.2.1 < (3 : Int))) then ((nth v.2.2 (Int.toNat v.2.1)).bind fun x5 => ((cops_fits (x4, x5)).bind fun x6 => (bif (!x6) then (some (8 : Int)) else (let x7 : Int := (IntKind.i64.wrap (v.2.1 + (1 : Int))); (self0 (v.1, x7, v.2.2)))))) else none)) else (some (0 : Int)))
def gops_Check_0 (N : Nat) (self0 : Y1 × Int × Y1 → Option (Int)) (v : Y1 × Int × Y1) : Option (Int) := hops_Check_0 self0 v
theorem kops_Check_0 (N : Nat) (s0 : St → Option (Int)) (v) : (floc (Eops_Check) Tops_Check 6 N Tryd.f48 [Z1] [false] [] 0 nowhereR) s0 (eops_Check_0 v) = hops_Check_0 (fun v => s0 (eops_Check_0 v)) v := by kernel_rfl
theorem bops_Check_0 (N : Nat) (s0 : St → Option (Int)) (v) : (floc (Eops_Check) Tops_Check 6 N Tryd.f48 [Z1] [false] [] 0 nowhereR) s0 (eops_Check_0 v) = gops_Check_0 N (fun v => s0 (eops_Check_0 v)) v := kops_Check_0 N s0 v
def nops_Check (loop0 : Y1 × Int × Y1 → Option (Int)) (x : Y3) : Option (Int) :=
  ((cops_isOperation x.1).bind fun x1 => (bif (!x1) then (some (8 : Int)) else ((cops_operands x).bind fun x2 => ((getI gl0 x.1).bind fun x3 => (loop0 (x3.2.1, (0 : Int), x2))))))
def mops_Check (N : Nat) (x : Y3) : Option (Int) := nops_Check (iterV (gops_Check_0 N) N) x
theorem jops_Check (N : Nat) (x : Y3) : rise (Eops_Check) Tops_Check 6 N Tryd.f48 [Z0] [Z1] [false] x = nops_Check (fun v => iterR (floc (Eops_Check) Tops_Check 6 N Tryd.f48 [Z1] [false] [] 0 nowhereR) N (eops_Check_0 v)) x := by kernel_rfl
theorem lops_Check (N : Nat) (x : Y3) : rise (Eops_Check) Tops_Check 6 N Tryd.f48 [Z0] [Z1] [false] x = mops_Check N x := (jops_Check N x).trans (by rw [funext (iterR_eq eops_Check_0 (bops_Check_0 N) N)]; rfl)
def cops_Check (x : Y3) : Option (Int) := mops_Check big x
def Gops_Check : Fn2 := ⟨[Z0], [Z1], [false], fun x => cops_Check x⟩
theorem Lops_Check : Rises Tryd.prog 48 Gops_Check := rises_of (E := Eops_Check) ⟨tabOk, (fsCons2 Lops_isOperation (fsCons2 Lops_operands (fsCons2 Lops_fits fsNil2))), fun _ _ _ => rfl, mixed, inlNil, rcsNil⟩ Tryd.func48 rfl (by decide) (by kernel_rfl) (by kernel_rfl) (by kernel_rfl) (by kernel_rfl) (fun x r _ h => ⟨Tops_Check, 6, big, (lops_Check big x).trans h⟩)

def Tops_appendSlot : LT := { live := [],keep := [(4,[0,1]),(5,[0,1]),(6,[0,1]),(7,[]),(8,[1]),(9,[8]),(10,[8]),(11,[])] }


def Tops_Slots_1 : LT := { live := [],keep := [(6,[1,2,3]),(7,[1,2,3,6]),(8,[1,2,3,6]),(9,[1,2,3,6]),(10,[1,2]),(11,[2,10]),(12,[2]),(13,[1,3,6]),(14,[1,3,6]),(15,[1,3]),(16,[1,3]),(17,[3,16]),(18,[3])] }


def Tops_eachUsed : LT := { live := [(3,[1,4,13,14])],keep := [(2,[1]),(4,[1,2,8]),(5,[1,4,13,14,17]),(6,[1,4,5,13,14]),(7,[1,2]),(8,[1,2]),(9,[1,4]),(10,[1,4]),(11,[1,4]),(12,[1,4]),(13,[1,4]),(14,[1,4,13]),(15,[1,4,13,14]),(16,[1,4,13,14]),(17,[1,4,13,14,16]),(18,[1,4,5,6,13,14]),(19,[1,4,5,6,13,14]),(20,[1,4,5,6,13,14]),(21,[1,4,5,13,14,20]),(22,[1,4,13,14,20,21]),(23,[1,4,13,14,20,21]),(24,[1,4,13,14,20,21]),(25,[1,4,13,14]),(26,[1,4,13])] }


def Tops_Slots : LT := { live := [],keep := [(1,[]),(2,[1]),(3,[1,2]),(4,[1,2,3]),(5,[1,2,3]),(6,[1,2,3]),(7,[1,2,3]),(8,[1,2,3,5]),(9,[1,2,3,5]),(10,[2,3]),(11,[2,3]),(12,[2,3,11]),(13,[2,3]),(14,[2,3]),(15,[2,3,14])] }
/-! ### wreckage/ops.Slots -/
noncomputable def Eops_Slots : Env2 := { tab := tab, fs := [(48, Gops_Check), (65, Gops_operands)], inl := [(58, Tryd.f58, Tops_eachUsed), (59, Tryd.f59, Tops_Slots_1), (60, Tryd.f60, Tops_appendSlot)] }
noncomputable def eops_Slots_0 (v : Y1 × Int × Y1 × Y1 × Y1) : St := { s := [(1, (.clo 59 (.pair (.loc 0 []) (.pair (.loc 2 []) .unit)))), (4, (.loc 4 [])), (13, (.val ⟨(.arr 3 (.int .u8)), v.1⟩)), (14, (.val ⟨Z1, v.2.1⟩))], l := [(0, .var Z4 (.row 1)), (1, .row Z1 v.2.2.1), (2, .var Z4 (.row 3)), (3, .row Z1 v.2.2.2.1), (4, .var (.arr 3 Z1) (.val ⟨(.arr 3 Z1), v.2.2.2.2⟩))], k := [(4096, [(2, (.loc 0 [])), (3, (.loc 2 []))])], b := 16834560 }
def hops_Slots_0 (self0 : Y1 × Int × Y1 × Y1 × Y1 → Option (Y1 × Y1 × Int)) (v : Y1 × Int × Y1 × Y1 × Y1) : Option (Y1 × Y1 × Int) :=
  (bif (decide (v.2.1 < (3 : Int))) then ((getI v.1 v.2.1).bind fun x4 => (bif (x4 != (0 : Int)) then (bif (decide (0 ≤ v.2.1) && decide (v.2.1 < (3 : Int))) then ((nth v.2.2.2.2 (Int.toNat v.2.1)).bind fun x5 => (bif (x4 == (1 : Int)) then (bif (x4 == (1 : Int)) then (bif (x5 == (-1 : Int)) then (let x6 : Int := (IntKind.i64.wrap (v.2.1 + (1 : Int))); (self0 (v.1, x6, v.2.2.1, v.2.2.2.1, v.2.2.2.2))) else (bif (Nat.ble 1 1 && Nat.ble (List.length v.2.2.1 + List.length ([x5] : Y1)) lim) then (let x7 : Y1 := (List.append v.2.2.1 ([x5] : Y1)); (let x8 : Int := (IntKind.i64.wrap (v.2.1 + (1 : Int))); (self0 (v.1, x8, x7, v.2.2.2.1, v.2.2.2.2)))) else none)) else (bif (x4 == (2 : Int)) then (bif (x4 == (2 : Int)) then (bif (x5 == (-1 : Int)) then (let x9 : Int := (IntKind.i64.wrap (v.2.1 + (1 : Int))); (self0 (v.1, x9, v.2.2.1, v.2.2.2.1, v.2.2.2.2))) else (bif (Nat.ble 1 1 && Nat.ble (List.length v.2.2.2.1 + List.length ([x5] : Y1)) lim) then (let x10 : Y1 := (List.append v.2.2.2.1 ([x5] : Y1)); (let x11 : Int := (IntKind.i64.wrap (v.2.1 + (1 : Int))); (self0 (v.1, x11, v.2.2.1, x10, v.2.2.2.2)))) else none)) else (let x12 : Int := (IntKind.i64.wrap (v.2.1 + (1 : Int))); (self0 (v.1, x12, v.2.2.1, v.2.2.2.1, v.2.2.2.2)))) else (bif (x4 == (4 : Int)) then (bif (x5 == (-1 : Int)) then (let x13 : Int := (IntKind.i64.wrap (v.2.1 + (1 : Int))); (self0 (v.1, x13, v.2.2.1, v.2.2.2.1, v.2.2.2.2))) else (bif (Nat.ble 1 1 && Nat.ble (List.length v.2.2.2.1 + List.length ([x5] : Y1)) lim) then (let x14 : Y1 := (List.append v.2.2.2.1 ([x5] : Y1)); (let x15 : Int := (IntKind.i64.wrap (v.2.1 + (1 : Int))); (self0 (v.1, x15, v.2.2.1, x14, v.2.2.2.2)))) else none)) else (let x16 : Int := (IntKind.i64.wrap (v.2.1 + (1 : Int))); (self0 (v.1, x16, v.2.2.1, v.2.2.2.1, v.2.2.2.2)))))) else (bif (x4 == (3 : Int)) then (bif (x5 == (-1 : Int)) then (let x17 : Int := (IntKind.i64.wrap (v.2.1 + (1 : Int))); (self0 (v.1, x17, v.2.2.1, v.2.2.2.1, v.2.2.2.2))) else (bif (Nat.ble 1 1 && Nat.ble (List.length v.2.2.1 + List.length ([x5] : Y1)) lim) then (let x18 : Y1 := (List.append v.2.2.1 ([x5] : Y1)); (let x19 : Int := (IntKind.i64.wrap (v.2.1 + (1 : Int))); (self0 (v.1, x19, x18, v.2.2.2.1, v.2.2.2.2)))) else none)) else (bif (x4 == (2 : Int)) then (bif (x4 == (2 : Int)) then (bif (x5 == (-1 : Int)) then (let x20 : Int := (IntKind.i64.wrap (v.2.1 + (1 : Int))); (self0 (v.1, x20, v.2.2.1, v.2.2.2.1, v.2.2.2.2))) else (bif (Nat.ble 1 1 && Nat.ble (List.length v.2.2.2.1 + List.length ([x5] : Y1)) lim) then (let x21 : Y1 := (List.append v.2.2.2.1 ([x5] : Y1)); (let x22 : Int := (IntKind.i64.wrap (v.2.1 + (1 : Int))); (self0 (v.1, x22, v.2.2.1, x21, v.2.2.2.2)))) else none)) else (let x23 : Int := (IntKind.i64.wrap (v.2.1 + (1 : Int))); (self0 (v.1, x23, v.2.2.1, v.2.2.2.1, v.2.2.2.2)))) else (bif (x4 == (4 : Int)) then (bif (x5 == (-1 : Int)) then (let x24 : Int := (IntKind.i64.wrap (v.2.1 + (1 : Int))); (self0 (v.1, x24, v.2.2.1, v.2.2.2.1, v.2.2.2.2))) else (bif (Nat.ble 1 1 && Nat.ble (List.length v.2.2.2.1 + List.length ([x5] : Y1)) lim) then (let x25 : Y1 := (List.append v.2.2.2.1 ([x5] : Y1)); (let x26 : Int := (IntKind.i64.wrap (v.2.1 + (1 : Int))); (self0 (v.1, x26, v.2.2.1, x25, v.2.2.2.2)))) else none)) else (let x27 : Int := (IntKind.i64.wrap (v.2.1 + (1 : Int))); (self0 (v.1, x27, v.2.2.1, v.2.2.2.1, v.2.2.2.2)))))))) else none) else (let x28 : Int := (IntKind.i64.wrap (v.2.1 + (1 : Int))); (self0 (v.1, x28, v.2.2.1, v.2.2.2.1, v.2.2.2.2))))) else (some (v.2.2.1, v.2.2.2.1, (0 : Int))))
def gops_Slots_0 (N : Nat) (self0 : Y1 × Int × Y1 × Y1 × Y1 → Option (Y1 × Y1 × Int)) (v : Y1 × Int × Y1 × Y1 × Y1) : Option (Y1 × Y1 × Int) := hops_Slots_0 self0 v
theorem kops_Slots_0 (N : Nat) (s0 : St → Option (Y1 × Y1 × Int)) (v) : (floc (Eops_Slots) Tops_Slots 6 N Tryd.f39 [Z4, Z4, Z1] [true, false, false] [.call 4 2 58] 0 nowhereR) s0 (eops_Slots_0 v) = hops_Slots_0 (fun v => s0 (eops_Slots_0 v)) v := by kernel_rfl
theorem bops_Slots_0 (N : Nat) (s0 : St → Option (Y1 × Y1 × Int)) (v) : (floc (Eops_Slots) Tops_Slots 6 N Tryd.f39 [Z4, Z4, Z1] [true, false, false] [.call 4 2 58] 0 nowhereR) s0 (eops_Slots_0 v) = gops_Slots_0 N (fun v => s0 (eops_Slots_0 v)) v := kops_Slots_0 N s0 v
def nops_Slots (loop0 : Y1 × Int × Y1 × Y1 × Y1 → Option (Y1 × Y1 × Int)) (x : Y3) : Option (Y1 × Y1 × Int) :=
  ((cops_Check x).bind fun x1 => (bif (x1 != (0 : Int)) then (some (([] : List Int), ([] : List Int), x1)) else ((cops_operands x).bind fun x2 => ((getI gl0 x.1).bind fun x3 => (loop0 (x3.2.1, (0 : Int), ([] : List Int), ([] : List Int), x2))))))
def mops_Slots (N : Nat) (x : Y3) : Option (Y1 × Y1 × Int) := nops_Slots (iterV (gops_Slots_0 N) N) x
theorem jops_Slots (N : Nat) (x : Y3) : rise (Eops_Slots) Tops_Slots 6 N Tryd.f39 [Z0] [Z4, Z4, Z1] [true, false, false] x = nops_Slots (fun v => iterR (floc (Eops_Slots) Tops_Slots 6 N Tryd.f39 [Z4, Z4, Z1] [true, false, false] [.call 4 2 58] 0 nowhereR) N (eops_Slots_0 v)) x := by kernel_rfl
theorem lops_Slots (N : Nat) (x : Y3) : rise (Eops_Slots) Tops_Slots 6 N Tryd.f39 [Z0] [Z4, Z4, Z1] [true, false, false] x = mops_Slots N x := (jops_Slots N x).trans (by rw [funext (iterR_eq eops_Slots_0 (bops_Slots_0 N) N)]; rfl)
def cops_Slots (x : Y3) : Option (Y1 × Y1 × Int) := mops_Slots big x
def Gops_Slots : Fn2 := ⟨[Z0], [Z4, Z4, Z1], [true, false, false], fun x => cops_Slots x⟩
theorem Lops_Slots : Rises Tryd.prog 39 Gops_Slots := rises_of (E := Eops_Slots) ⟨tabOk, (fsCons2 Lops_Check (fsCons2 Lops_operands fsNil2)), fun _ _ _ => rfl, mixed, (inlCons (inlB_of Tryd.func58 rfl rfl (by kernel_rfl)) (inlCons (inlB_of Tryd.func59 rfl rfl (by kernel_rfl)) (inlCons (inlB_of Tryd.func60 rfl rfl (by kernel_rfl)) inlNil))), rcsNil⟩ Tryd.func39 rfl (by decide) (by kernel_rfl) (by kernel_rfl) (by kernel_rfl) (by kernel_rfl) (fun x r _ h => ⟨Tops_Slots, 6, big, (lops_Slots big x).trans h⟩)

end Go.Proofs.YtkklpkkhepcaiaaDoor
