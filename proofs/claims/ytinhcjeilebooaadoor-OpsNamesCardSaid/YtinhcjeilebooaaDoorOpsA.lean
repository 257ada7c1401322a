/- Functions of the program, read as plain functions: each equation is checked by the kernel. -/
import Derived.Test.YtinhcjeilebooaaDoorWireA
set_option linter.unusedVariables false
set_option maxRecDepth 100000
namespace Go.Proofs.YtinhcjeilebooaaDoor
open Go.Lift
def Tops_isOperation : LT := { live := [],keep := [(2,[0]),(3,[0]),(4,[0]),(5,[0]),(6,[5]),(7,[5]),(8,[])] }
/-! ### wreckage/ops.isOperation -/
noncomputable def Eops_isOperation : Env2 := { tab := tab, fs := [], inl := [] }
def nops_isOperation (x : Int) : Option (Bool) :=
  (bif (decide (x ≥ (1 : Int))) then (some (decide (x ≤ (34 : Int)))) else (some false))
def mops_isOperation (N : Nat) (x : Int) : Option (Bool) := nops_isOperation x
theorem jops_isOperation (N : Nat) (x : Int) : rise (Eops_isOperation) Tops_isOperation 6 N Tryd.f21 [Z4] [.bool] [false] x = nops_isOperation x := by kernel_rfl
theorem lops_isOperation (N : Nat) (x : Int) : rise (Eops_isOperation) Tops_isOperation 6 N Tryd.f21 [Z4] [.bool] [false] x = mops_isOperation N x := (jops_isOperation N x).trans rfl
def cops_isOperation (x : Int) : Option (Bool) := mops_isOperation big x
def Gops_isOperation : Fn2 := ⟨[Z4], [.bool], [false], fun x => cops_isOperation x⟩
theorem Lops_isOperation : Rises Tryd.prog 21 Gops_isOperation := rises_of (E := Eops_isOperation) ⟨tabOk, fsNil2, fun _ _ _ => rfl, mixed, inlNil, rcsNil⟩ Tryd.func21 rfl (by decide) (by kernel_rfl) (by kernel_rfl) (by kernel_rfl) (by kernel_rfl) (fun x r _ h => ⟨Tops_isOperation, 6, big, (lops_isOperation big x).trans h⟩)

def Tops_operands : LT := { live := [],keep := [(1,[]),(2,[1]),(3,[1,2]),(4,[1,2]),(5,[1,2,4]),(6,[1,2,4]),(7,[2,4,6]),(8,[2,4,6]),(9,[2])] }
/-! ### wreckage/ops.operands -/
noncomputable def Eops_operands : Env2 := { tab := tab, fs := [], inl := [] }
def nops_operands (x : Y1) : Option (Y2) :=
  (let x1 : Y2 := [x.2.1, x.2.2.1, x.2.2.2.1]; (some x1))
def mops_operands (N : Nat) (x : Y1) : Option (Y2) := nops_operands x
theorem jops_operands (N : Nat) (x : Y1) : rise (Eops_operands) Tops_operands 6 N Tryd.f22 [Z0] [(.arr 3 Z2)] [false] x = nops_operands x := by kernel_rfl
theorem lops_operands (N : Nat) (x : Y1) : rise (Eops_operands) Tops_operands 6 N Tryd.f22 [Z0] [(.arr 3 Z2)] [false] x = mops_operands N x := (jops_operands N x).trans rfl
def cops_operands (x : Y1) : Option (Y2) := mops_operands big x
def Gops_operands : Fn2 := ⟨[Z0], [(.arr 3 Z2)], [false], fun x => cops_operands x⟩
theorem Lops_operands : Rises Tryd.prog 22 Gops_operands := rises_of (E := Eops_operands) ⟨tabOk, fsNil2, fun _ _ _ => rfl, mixed, inlNil, rcsNil⟩ Tryd.func22 rfl (by decide) (by kernel_rfl) (by kernel_rfl) (by kernel_rfl) (by kernel_rfl) (fun x r _ h => ⟨Tops_operands, 6, big, (lops_operands big x).trans h⟩)

def Tops_isIndex : LT := { live := [],keep := [(4,[0,1]),(5,[0,1]),(6,[0,1]),(7,[0,1]),(8,[1,7]),(9,[7,8]),(10,[7]),(11,[])] }
/-! ### wreckage/ops.isIndex -/
noncomputable def Eops_isIndex : Env2 := { tab := tab, fs := [], inl := [] }
def nops_isIndex (x : Int × Int) : Option (Bool) :=
  (bif (decide (x.1 ≥ (0 : Int))) then (some (decide (x.1 < x.2))) else (some false))
def mops_isIndex (N : Nat) (x : Int × Int) : Option (Bool) := nops_isIndex x
theorem jops_isIndex (N : Nat) (x : Int × Int) : rise (Eops_isIndex) Tops_isIndex 6 N Tryd.f36 [Z2, Z2] [.bool] [false] x = nops_isIndex x := by kernel_rfl
theorem lops_isIndex (N : Nat) (x : Int × Int) : rise (Eops_isIndex) Tops_isIndex 6 N Tryd.f36 [Z2, Z2] [.bool] [false] x = mops_isIndex N x := (jops_isIndex N x).trans rfl
def cops_isIndex (x : Int × Int) : Option (Bool) := mops_isIndex big x
def Gops_isIndex : Fn2 := ⟨[Z2, Z2], [.bool], [false], fun x => cops_isIndex x⟩
theorem Lops_isIndex : Rises Tryd.prog 36 Gops_isIndex := rises_of (E := Eops_isIndex) ⟨tabOk, fsNil2, fun _ _ _ => rfl, mixed, inlNil, rcsNil⟩ Tryd.func36 rfl (by decide) (by kernel_rfl) (by kernel_rfl) (by kernel_rfl) (by kernel_rfl) (fun x r _ h => ⟨Tops_isIndex, 6, big, (lops_isIndex big x).trans h⟩)

def Tops_fits : LT := { live := [],keep := [(4,[0,1]),(5,[1]),(6,[1,5]),(7,[1,5]),(8,[1,5]),(9,[1,5]),(10,[1,5]),(11,[1,5]),(12,[1,5]),(13,[1,5]),(14,[1,5]),(15,[1,5]),(16,[1,5]),(17,[1,5]),(18,[1,5]),(19,[1,5]),(20,[1,5]),(21,[1,5]),(22,[1]),(23,[1]),(24,[1]),(25,[1]),(26,[]),(27,[]),(28,[]),(29,[]),(30,[]),(31,[]),(32,[]),(33,[]),(34,[]),(35,[]),(36,[]),(37,[]),(38,[]),(39,[])] }
/-! ### wreckage/ops.fits -/
noncomputable def Eops_fits : Env2 := { tab := tab, fs := [(36, Gops_isIndex)], inl := [] }
def nops_fits (x : Int × Int) : Option (Bool) :=
  (bif (x.1 == (5 : Int)) then (some true) else (bif (x.1 == (3 : Int)) then (bif (x.1 == (3 : Int)) then (bif (x.2 == (-1 : Int)) then (some true) else ((cops_isIndex (x.2, (16 : Int))).bind fun x1 => (some x1))) else (bif (x.1 == (1 : Int)) then (bif (x.1 == (1 : Int)) then ((cops_isIndex (x.2, (16 : Int))).bind fun x2 => (some x2)) else (bif (x.1 == (6 : Int)) then ((cops_isIndex (x.2, (2 : Int))).bind fun x3 => (some x3)) else (bif (x.1 == (7 : Int)) then ((cops_isIndex (x.2, (32 : Int))).bind fun x4 => (some x4)) else (bif (x.1 == (8 : Int)) then ((cops_isIndex (x.2, (8 : Int))).bind fun x5 => (some x5)) else (bif (x.1 == (9 : Int)) then ((cops_isIndex (x.2, (32 : Int))).bind fun x6 => (some x6)) else (bif (x.1 == (10 : Int)) then ((cops_isIndex (x.2, (200 : Int))).bind fun x7 => (some x7)) else (some (x.2 == (0 : Int))))))))) else (bif (x.1 == (2 : Int)) then ((cops_isIndex (x.2, (16 : Int))).bind fun x8 => (some x8)) else (bif (x.1 == (6 : Int)) then ((cops_isIndex (x.2, (2 : Int))).bind fun x9 => (some x9)) else (bif (x.1 == (7 : Int)) then ((cops_isIndex (x.2, (32 : Int))).bind fun x10 => (some x10)) else (bif (x.1 == (8 : Int)) then ((cops_isIndex (x.2, (8 : Int))).bind fun x11 => (some x11)) else (bif (x.1 == (9 : Int)) then ((cops_isIndex (x.2, (32 : Int))).bind fun x12 => (some x12)) else (bif (x.1 == (10 : Int)) then ((cops_isIndex (x.2, (200 : Int))).bind fun x13 => (some x13)) else (some (x.2 == (0 : Int))))))))))) else (bif (x.1 == (4 : Int)) then (bif (x.2 == (-1 : Int)) then (some true) else ((cops_isIndex (x.2, (16 : Int))).bind fun x14 => (some x14))) else (bif (x.1 == (1 : Int)) then (bif (x.1 == (1 : Int)) then ((cops_isIndex (x.2, (16 : Int))).bind fun x15 => (some x15)) else (bif (x.1 == (6 : Int)) then ((cops_isIndex (x.2, (2 : Int))).bind fun x16 => (some x16)) else (bif (x.1 == (7 : Int)) then ((cops_isIndex (x.2, (32 : Int))).bind fun x17 => (some x17)) else (bif (x.1 == (8 : Int)) then ((cops_isIndex (x.2, (8 : Int))).bind fun x18 => (some x18)) else (bif (x.1 == (9 : Int)) then ((cops_isIndex (x.2, (32 : Int))).bind fun x19 => (some x19)) else (bif (x.1 == (10 : Int)) then ((cops_isIndex (x.2, (200 : Int))).bind fun x20 => (some x20)) else (some (x.2 == (0 : Int))))))))) else (bif (x.1 == (2 : Int)) then ((cops_isIndex (x.2, (16 : Int))).bind fun x21 => (some x21)) else (bif (x.1 == (6 : Int)) then ((cops_isIndex (x.2, (2 : Int))).bind fun x22 => (some x22)) else (bif (x.1 == (7 : Int)) then ((cops_isIndex (x.2, (32 : Int))).bind fun x23 => (some x23)) else (bif (x.1 == (8 : Int)) then ((cops_isIndex (x.2, (8 : Int))).bind fun x24 => (some x24)) else (bif (x.1 == (9 : Int)) then ((cops_isIndex (x.2, (32 : Int))).bind fun x25 => (some x25)) else (bif (x.1 == (10 : Int)) then ((cops_isIndex (x.2, (200 : Int))).bind fun x26 => (some x26)) else (some (x.2 == (0 : Int)))))))))))))
def mops_fits (N : Nat) (x : Int × Int) : Option (Bool) := nops_fits x
theorem jops_fits (N : Nat) (x : Int × Int) : rise (Eops_fits) Tops_fits 6 N Tryd.f23 [Z4, Z2] [.bool] [false] x = nops_fits x := by kernel_rfl
theorem lops_fits (N : Nat) (x : Int × Int) : rise (Eops_fits) Tops_fits 6 N Tryd.f23 [Z4, Z2] [.bool] [false] x = mops_fits N x := (jops_fits N x).trans rfl
def cops_fits (x : Int × Int) : Option (Bool) := mops_fits big x
def Gops_fits : Fn2 := ⟨[Z4, Z2], [.bool], [false], fun x => cops_fits x⟩
theorem Lops_fits : Rises Tryd.prog 23 Gops_fits := rises_of (E := Eops_fits) ⟨tabOk, (fsCons2 Lops_isIndex fsNil2), fun _ _ _ => rfl, mixed, inlNil, rcsNil⟩ Tryd.func23 rfl (by decide) (by kernel_rfl) (by kernel_rfl) (by kernel_rfl) (by kernel_rfl) (fun x r _ h => ⟨Tops_fits, 6, big, (lops_fits big x).trans h⟩)

def Tops_Check : LT := { live := [(5,[3,16,17])],keep := [(1,[]),(2,[1]),(3,[1,11]),(4,[3,16,17,20]),(5,[3,4,16,17]),(6,[1]),(7,[1]),(8,[1]),(9,[1]),(10,[1]),(11,[1]),(12,[3]),(13,[3]),(14,[3]),(15,[3]),(16,[3]),(17,[3,16]),(18,[3,16,17]),(19,[3,16,17]),(20,[3,16,17,19]),(21,[3,4,16,17]),(22,[3,16,17,21]),(23,[3,16,17,21]),(24,[3,16,17,21]),(25,[3,16,17]),(26,[3,16,17]),(27,[3,16])] }
/-! ### wreckage/ops.Check -/
noncomputable def Eops_Check : Env2 := { tab := tab, fs := [(21, Gops_isOperation), (22, Gops_operands), (23, Gops_fits)], inl := [] }
noncomputable def eops_Check_0 (v : Y2 × Int × Y2) : St := { s := [(3, (.loc 0 [])), (16, (.val ⟨(.arr 3 Z4), v.1⟩)), (17, (.val ⟨Z2, v.2.1⟩))], l := [(0, .var (.arr 3 Z2) (.val ⟨(.arr 3 Z2), v.2.2⟩))], k := [], b := 4096 }
def hops_Check_0 (self0 : Y2 × Int × Y2 → Option (Int)) (v : Y2 × Int × Y2) : Option (Int) :=
  (bif (decide (v.2.1 < (3 : Int))) then ((getI v.1 v.2.1).bind fun x4 => (bif (decide (0 ≤ v.2.1) && decide (v.2.1 < (3 : Int))) then ((nth v.2.2 (Int.toNat v.2.1)).bind fun x5 => ((cops_fits (x4, x5)).bind fun x6 => (bif (!x6) then (some (8 : Int)) else (let x7 : Int := (IntKind.i64.wrap (v.2.1 + (1 : Int))); (self0 (v.1, x7, v.2.2)))))) else none)) else (some (0 : Int)))
def gops_Check_0 (N : Nat) (self0 : Y2 × Int × Y2 → Option (Int)) (v : Y2 × Int × Y2) : Option (Int) := hops_Check_0 self0 v
theorem kops_Check_0 (N : Nat) (s0 : St → Option (Int)) (v) : (floc (Eops_Check) Tops_Check 6 N Tryd.f9 [Z2] [false] [] 0 nowhereR) s0 (eops_Check_0 v) = hops_Check_0 (fun v => s0 (eops_Check_0 v)) v := by kernel_rfl
theorem bops_Check_0 (N : Nat) (s0 : St → Option (Int)) (v) : (floc (Eops_Check) Tops_Check 6 N Tryd.f9 [Z2] [false] [] 0 nowhereR) s0 (eops_Check_0 v) = gops_Check_0 N (fun v => s0 (eops_Check_0 v)) v := kops_Check_0 N s0 v
def nops_Check (loop0 : Y2 × Int × Y2 → Option (Int)) (x : Y1) : Option (Int) :=
  ((cops_isOperation x.1).bind fun x1 => (bif (!x1) then (some (8 : Int)) else ((cops_operands x).bind fun x2 => ((getI gl0 x.1).bind fun x3 => (loop0 (x3.2.1, (0 : Int), x2))))))
def mops_Check (N : Nat) (x : Y1) : Option (Int) := nops_Check (iterV (gops_Check_0 N) N) x
theorem jops_Check (N : Nat) (x : Y1) : rise (Eops_Check) Tops_Check 6 N Tryd.f9 [Z0] [Z2] [false] x = nops_Check (fun v => iterR (floc (Eops_Check) Tops_Check 6 N Tryd.f9 [Z2] [false] [] 0 nowhereR) N (eops_Check_0 v)) x := by kernel_rfl
theorem lops_Check (N : Nat) (x : Y1) : rise (Eops_Check) Tops_Check 6 N Tryd.f9 [Z0] [Z2] [false] x = mops_Check N x := (jops_Check N x).trans (by rw [funext (iterR_eq eops_Check_0 (bops_Check_0 N) N)]; rfl)
def cops_Check (x : Y1) : Option (Int) := mops_Check big x
def Gops_Check : Fn2 := ⟨[Z0], [Z2], [false], fun x => cops_Check x⟩
theorem Lops_Check : Rises Tryd.prog 9 Gops_Check := rises_of (E := Eops_Check) ⟨tabOk, (fsCons2 Lops_isOperation (fsCons2 Lops_operands (fsCons2 Lops_fits fsNil2))), fun _ _ _ => rfl, mixed, inlNil, rcsNil⟩ Tryd.func9 rfl (by decide) (by kernel_rfl) (by kernel_rfl) (by kernel_rfl) (by kernel_rfl) (fun x r _ h => ⟨Tops_Check, 6, big, (lops_Check big x).trans h⟩)

def Tops_isSigned : LT := { live := [],keep := [(2,[0]),(3,[0]),(4,[0]),(5,[0]),(6,[0,5]),(7,[0,5]),(8,[0]),(9,[0]),(10,[9]),(11,[9]),(12,[])] }
/-! ### wreckage/ops.isSigned -/
noncomputable def Eops_isSigned : Env2 := { tab := tab, fs := [], inl := [] }
def nops_isSigned (x : Int) : Option (Bool) :=
  (bif (x == (5 : Int)) then (some true) else (bif (x == (3 : Int)) then (some true) else (some (x == (4 : Int)))))
def mops_isSigned (N : Nat) (x : Int) : Option (Bool) := nops_isSigned x
theorem jops_isSigned (N : Nat) (x : Int) : rise (Eops_isSigned) Tops_isSigned 6 N Tryd.f26 [Z4] [.bool] [false] x = nops_isSigned x := by kernel_rfl
theorem lops_isSigned (N : Nat) (x : Int) : rise (Eops_isSigned) Tops_isSigned 6 N Tryd.f26 [Z4] [.bool] [false] x = mops_isSigned N x := (jops_isSigned N x).trans rfl
def cops_isSigned (x : Int) : Option (Bool) := mops_isSigned big x
def Gops_isSigned : Fn2 := ⟨[Z4], [.bool], [false], fun x => cops_isSigned x⟩
theorem Lops_isSigned : Rises Tryd.prog 26 Gops_isSigned := rises_of (E := Eops_isSigned) ⟨tabOk, fsNil2, fun _ _ _ => rfl, mixed, inlNil, rcsNil⟩ Tryd.func26 rfl (by decide) (by kernel_rfl) (by kernel_rfl) (by kernel_rfl) (by kernel_rfl) (fun x r _ h => ⟨Tops_isSigned, 6, big, (lops_isSigned big x).trans h⟩)

def Tops_Encode_1 : LT := { live := [],keep := [(5,[1,2]),(6,[1,2]),(7,[1,2]),(8,[2,7]),(9,[2,7]),(10,[2]),(11,[1,2]),(12,[2,11]),(13,[2,11]),(14,[2,11]),(15,[2])] }


def Tops_eachUsed : LT := { live := [(3,[1,4,13,14])],keep := [(2,[1]),(4,[1,2,8]),(5,[1,4,13,14,17]),(6,[1,4,5,13,14]),(7,[1,2]),(8,[1,2]),(9,[1,4]),(10,[1,4]),(11,[1,4]),(12,[1,4]),(13,[1,4]),(14,[1,4,13]),(15,[1,4,13,14]),(16,[1,4,13,14]),(17,[1,4,13,14,16]),(18,[1,4,5,6,13,14]),(19,[1,4,5,6,13,14]),(20,[1,4,5,6,13,14]),(21,[1,4,5,13,14,20]),(22,[1,4,13,14,20,21]),(23,[1,4,13,14,20,21]),(24,[1,4,13,14,20,21]),(25,[1,4,13,14]),(26,[1,4,13])] }


def Tops_Encode : LT := { live := [],keep := [(1,[]),(2,[1]),(3,[1]),(4,[1]),(5,[1,13]),(6,[1]),(7,[1]),(8,[1,4]),(9,[1,4]),(10,[]),(11,[1]),(12,[1]),(13,[1]),(14,[5]),(15,[5,14]),(16,[5]),(17,[])] }
/-! ### wreckage/ops.Encode -/
noncomputable def Eops_Encode : Env2 := { tab := tab, fs := [(9, Gops_Check), (22, Gops_operands), (26, Gops_isSigned), (27, Gwire_Signed), (28, Gwire_Vary)], inl := [(24, Tryd.f24, Tops_eachUsed), (25, Tryd.f25, Tops_Encode_1)] }
noncomputable def eops_Encode_0 (v : Y2 × Int × Y2 × Y2) : St := { s := [(1, (.clo 25 (.pair (.loc 0 []) .unit))), (4, (.loc 2 [])), (13, (.val ⟨(.arr 3 Z4), v.1⟩)), (14, (.val ⟨Z2, v.2.1⟩))], l := [(0, .var Z3 (.row 1)), (1, .row Z4 v.2.2.1), (2, .var (.arr 3 Z2) (.val ⟨(.arr 3 Z2), v.2.2.2⟩))], k := [(4096, [(5, (.loc 0 []))])], b := 16846848 }
def hops_Encode_0 (self0 : Y2 × Int × Y2 × Y2 → Option (Y2 × Int)) (v : Y2 × Int × Y2 × Y2) : Option (Y2 × Int) :=
  (bif (decide (v.2.1 < (3 : Int))) then ((getI v.1 v.2.1).bind fun x4 => (bif (x4 != (0 : Int)) then (bif (decide (0 ≤ v.2.1) && decide (v.2.1 < (3 : Int))) then ((nth v.2.2.2 (Int.toNat v.2.1)).bind fun x5 => ((cops_isSigned x4).bind fun x6 => (bif x6 then ((cwire_Signed x5).bind fun x7 => (bif (Nat.ble 1 1 && Nat.ble (List.length v.2.2.1 + List.length x7) lim) then (let x8 : Int := (IntKind.i64.wrap (v.2.1 + (1 : Int))); (self0 (v.1, x8, (List.append v.2.2.1 x7), v.2.2.2))) else none)) else ((cwire_Vary (IntKind.u64.wrap x5)).bind fun x9 => (bif (Nat.ble 1 1 && Nat.ble (List.length v.2.2.1 + List.length x9) lim) then (let x10 : Int := (IntKind.i64.wrap (v.2.1 + (1 : Int))); (self0 (v.1, x10, (List.append v.2.2.1 x9), v.2.2.2))) else none))))) else none) else (let x11 : Int := (IntKind.i64.wrap (v.2.1 + (1 : Int))); (self0 (v.1, x11, v.2.2.1, v.2.2.2))))) else (some (v.2.2.1, (0 : Int))))
def gops_Encode_0 (N : Nat) (self0 : Y2 × Int × Y2 × Y2 → Option (Y2 × Int)) (v : Y2 × Int × Y2 × Y2) : Option (Y2 × Int) := hops_Encode_0 self0 v
theorem kops_Encode_0 (N : Nat) (s0 : St → Option (Y2 × Int)) (v) : (floc (Eops_Encode) Tops_Encode 6 N Tryd.f10 [Z3, Z2] [true, false] [(5, 2, 24)] 0 nowhereR) s0 (eops_Encode_0 v) = hops_Encode_0 (fun v => s0 (eops_Encode_0 v)) v := by kernel_rfl
theorem bops_Encode_0 (N : Nat) (s0 : St → Option (Y2 × Int)) (v) : (floc (Eops_Encode) Tops_Encode 6 N Tryd.f10 [Z3, Z2] [true, false] [(5, 2, 24)] 0 nowhereR) s0 (eops_Encode_0 v) = gops_Encode_0 N (fun v => s0 (eops_Encode_0 v)) v := kops_Encode_0 N s0 v
def nops_Encode (loop0 : Y2 × Int × Y2 × Y2 → Option (Y2 × Int)) (x : Y1) : Option (Y2 × Int) :=
  ((cops_Check x).bind fun x1 => (bif (x1 != (0 : Int)) then (some (([] : List Int), x1)) else ((cops_operands x).bind fun x2 => ((getI gl0 x.1).bind fun x3 => (loop0 (x3.2.1, (0 : Int), ([x.1] : Y2), x2))))))
def mops_Encode (N : Nat) (x : Y1) : Option (Y2 × Int) := nops_Encode (iterV (gops_Encode_0 N) N) x
theorem jops_Encode (N : Nat) (x : Y1) : rise (Eops_Encode) Tops_Encode 6 N Tryd.f10 [Z0] [Z3, Z2] [true, false] x = nops_Encode (fun v => iterR (floc (Eops_Encode) Tops_Encode 6 N Tryd.f10 [Z3, Z2] [true, false] [(5, 2, 24)] 0 nowhereR) N (eops_Encode_0 v)) x := by kernel_rfl
theorem lops_Encode (N : Nat) (x : Y1) : rise (Eops_Encode) Tops_Encode 6 N Tryd.f10 [Z0] [Z3, Z2] [true, false] x = mops_Encode N x := (jops_Encode N x).trans (by rw [funext (iterR_eq eops_Encode_0 (bops_Encode_0 N) N)]; rfl)
def cops_Encode (x : Y1) : Option (Y2 × Int) := mops_Encode big x
def Gops_Encode : Fn2 := ⟨[Z0], [Z3, Z2], [true, false], fun x => cops_Encode x⟩
theorem Lops_Encode : Rises Tryd.prog 10 Gops_Encode := rises_of (E := Eops_Encode) ⟨tabOk, (fsCons2 Lops_Check (fsCons2 Lops_operands (fsCons2 Lops_isSigned (fsCons2 Lwire_Signed (fsCons2 Lwire_Vary fsNil2))))), fun _ _ _ => rfl, mixed, (inlCons (inlB_of Tryd.func24 rfl rfl (by kernel_rfl)) (inlCons (inlB_of Tryd.func25 rfl rfl (by kernel_rfl)) inlNil)), rcsNil⟩ Tryd.func10 rfl (by decide) (by kernel_rfl) (by kernel_rfl) (by kernel_rfl) (by kernel_rfl) (fun x r _ h => ⟨Tops_Encode, 6, big, (lops_Encode big x).trans h⟩)

def Tops_appendSlot : LT := { live := [],keep := [(4,[0,1]),(5,[0,1]),(6,[0,1]),(7,[]),(8,[1]),(9,[8]),(10,[8]),(11,[])] }


def Tops_Slots_1 : LT := { live := [],keep := [(6,[1,2,3]),(7,[1,2,3,6]),(8,[1,2,3,6]),(9,[1,2,3,6]),(10,[1,2]),(11,[2,10]),(12,[2]),(13,[1,3,6]),(14,[1,3,6]),(15,[1,3]),(16,[1,3]),(17,[3,16]),(18,[3])] }


def Tops_Slots : LT := { live := [],keep := [(1,[]),(2,[1]),(3,[1,2]),(4,[1,2,3]),(5,[1,2,3]),(6,[1,2,3]),(7,[1,2,3]),(8,[1,2,3,5]),(9,[1,2,3,5]),(10,[2,3]),(11,[2,3]),(12,[2,3,11]),(13,[2,3]),(14,[2,3]),(15,[2,3,14])] }
/-! ### wreckage/ops.Slots -/
noncomputable def Eops_Slots : Env2 := { tab := tab, fs := [(9, Gops_Check), (22, Gops_operands)], inl := [(24, Tryd.f24, Tops_eachUsed), (29, Tryd.f29, Tops_Slots_1), (30, Tryd.f30, Tops_appendSlot)] }
noncomputable def eops_Slots_0 (v : Y2 × Int × Y2 × Y2 × Y2) : St := { s := [(1, (.clo 29 (.pair (.loc 0 []) (.pair (.loc 2 []) .unit)))), (4, (.loc 4 [])), (13, (.val ⟨(.arr 3 Z4), v.1⟩)), (14, (.val ⟨Z2, v.2.1⟩))], l := [(0, .var (.slice Z2) (.row 1)), (1, .row Z2 v.2.2.1), (2, .var (.slice Z2) (.row 3)), (3, .row Z2 v.2.2.2.1), (4, .var (.arr 3 Z2) (.val ⟨(.arr 3 Z2), v.2.2.2.2⟩))], k := [(4096, [(2, (.loc 0 [])), (3, (.loc 2 []))])], b := 16834560 }
def hops_Slots_0 (self0 : Y2 × Int × Y2 × Y2 × Y2 → Option (Y2 × Y2 × Int)) (v : Y2 × Int × Y2 × Y2 × Y2) : Option (Y2 × Y2 × Int) :=
  (bif (decide (v.2.1 < (3 : Int))) then ((getI v.1 v.2.1).bind fun x4 => (bif (x4 != (0 : Int)) then (bif (decide (0 ≤ v.2.1) && decide (v.2.1 < (3 : Int))) then ((nth v.2.2.2.2 (Int.toNat v.2.1)).bind fun x5 => (bif (x4 == (1 : Int)) then (bif (x4 == (1 : Int)) then (bif (x5 == (-1 : Int)) then (let x6 : Int := (IntKind.i64.wrap (v.2.1 + (1 : Int))); (self0 (v.1, x6, v.2.2.1, v.2.2.2.1, v.2.2.2.2))) else (bif (Nat.ble 1 1 && Nat.ble (List.length v.2.2.1 + List.length ([x5] : Y2)) lim) then (let x7 : Y2 := (List.append v.2.2.1 ([x5] : Y2)); (let x8 : Int := (IntKind.i64.wrap (v.2.1 + (1 : Int))); (self0 (v.1, x8, x7, v.2.2.2.1, v.2.2.2.2)))) else none)) else (bif (x4 == (2 : Int)) then (bif (x4 == (2 : Int)) then (bif (x5 == (-1 : Int)) then (let x9 : Int := (IntKind.i64.wrap (v.2.1 + (1 : Int))); (self0 (v.1, x9, v.2.2.1, v.2.2.2.1, v.2.2.2.2))) else (bif (Nat.ble 1 1 && Nat.ble (List.length v.2.2.2.1 + List.length ([x5] : Y2)) lim) then (let x10 : Y2 := (List.append v.2.2.2.1 ([x5] : Y2)); (let x11 : Int := (IntKind.i64.wrap (v.2.1 + (1 : Int))); (self0 (v.1, x11, v.2.2.1, x10, v.2.2.2.2)))) else none)) else (let x12 : Int := (IntKind.i64.wrap (v.2.1 + (1 : Int))); (self0 (v.1, x12, v.2.2.1, v.2.2.2.1, v.2.2.2.2)))) else (bif (x4 == (4 : Int)) then (bif (x5 == (-1 : Int)) then (let x13 : Int := (IntKind.i64.wrap (v.2.1 + (1 : Int))); (self0 (v.1, x13, v.2.2.1, v.2.2.2.1, v.2.2.2.2))) else (bif (Nat.ble 1 1 && Nat.ble (List.length v.2.2.2.1 + List.length ([x5] : Y2)) lim) then (let x14 : Y2 := (List.append v.2.2.2.1 ([x5] : Y2)); (let x15 : Int := (IntKind.i64.wrap (v.2.1 + (1 : Int))); (self0 (v.1, x15, v.2.2.1, x14, v.2.2.2.2)))) else none)) else (let x16 : Int := (IntKind.i64.wrap (v.2.1 + (1 : Int))); (self0 (v.1, x16, v.2.2.1, v.2.2.2.1, v.2.2.2.2)))))) else (bif (x4 == (3 : Int)) then (bif (x5 == (-1 : Int)) then (let x17 : Int := (IntKind.i64.wrap (v.2.1 + (1 : Int))); (self0 (v.1, x17, v.2.2.1, v.2.2.2.1, v.2.2.2.2))) else (bif (Nat.ble 1 1 && Nat.ble (List.length v.2.2.1 + List.length ([x5] : Y2)) lim) then (let x18 : Y2 := (List.append v.2.2.1 ([x5] : Y2)); (let x19 : Int := (IntKind.i64.wrap (v.2.1 + (1 : Int))); (self0 (v.1, x19, x18, v.2.2.2.1, v.2.2.2.2)))) else none)) else (bif (x4 == (2 : Int)) then (bif (x4 == (2 : Int)) then (bif (x5 == (-1 : Int)) then (let x20 : Int := (IntKind.i64.wrap (v.2.1 + (1 : Int))); (self0 (v.1, x20, v.2.2.1, v.2.2.2.1, v.2.2.2.2))) else (bif (Nat.ble 1 1 && Nat.ble (List.length v.2.2.2.1 + List.length ([x5] : Y2)) lim) then (let x21 : Y2 := (List.append v.2.2.2.1 ([x5] : Y2)); (let x22 : Int := (IntKind.i64.wrap (v.2.1 + (1 : Int))); (self0 (v.1, x22, v.2.2.1, x21, v.2.2.2.2)))) else none)) else (let x23 : Int := (IntKind.i64.wrap (v.2.1 + (1 : Int))); (self0 (v.1, x23, v.2.2.1, v.2.2.2.1, v.2.2.2.2)))) else (bif (x4 == (4 : Int)) then (bif (x5 == (-1 : Int)) then (let x24 : Int := (IntKind.i64.wrap (v.2.1 + (1 : Int))); (self0 (v.1, x24, v.2.2.1, v.2.2.2.1, v.2.2.2.2))) else (bif (Nat.ble 1 1 && Nat.ble (List.length v.2.2.2.1 + List.length ([x5] : Y2)) lim) then (let x25 : Y2 := (List.append v.2.2.2.1 ([x5] : Y2)); (let x26 : Int := (IntKind.i64.wrap (v.2.1 + (1 : Int))); (self0 (v.1, x26, v.2.2.1, x25, v.2.2.2.2)))) else none)) else (let x27 : Int := (IntKind.i64.wrap (v.2.1 + (1 : Int))); (self0 (v.1, x27, v.2.2.1, v.2.2.2.1, v.2.2.2.2)))))))) else none) else (let x28 : Int := (IntKind.i64.wrap (v.2.1 + (1 : Int))); (self0 (v.1, x28, v.2.2.1, v.2.2.2.1, v.2.2.2.2))))) else (some (v.2.2.1, v.2.2.2.1, (0 : Int))))
def gops_Slots_0 (N : Nat) (self0 : Y2 × Int × Y2 × Y2 × Y2 → Option (Y2 × Y2 × Int)) (v : Y2 × Int × Y2 × Y2 × Y2) : Option (Y2 × Y2 × Int) := hops_Slots_0 self0 v
theorem kops_Slots_0 (N : Nat) (s0 : St → Option (Y2 × Y2 × Int)) (v) : (floc (Eops_Slots) Tops_Slots 6 N Tryd.f11 [(.slice Z2), (.slice Z2), Z2] [true, false, false] [(4, 2, 24)] 0 nowhereR) s0 (eops_Slots_0 v) = hops_Slots_0 (fun v => s0 (eops_Slots_0 v)) v := by kernel_rfl
theorem bops_Slots_0 (N : Nat) (s0 : St → Option (Y2 × Y2 × Int)) (v) : (floc (Eops_Slots) Tops_Slots 6 N Tryd.f11 [(.slice Z2), (.slice Z2), Z2] [true, false, false] [(4, 2, 24)] 0 nowhereR) s0 (eops_Slots_0 v) = gops_Slots_0 N (fun v => s0 (eops_Slots_0 v)) v := kops_Slots_0 N s0 v
def nops_Slots (loop0 : Y2 × Int × Y2 × Y2 × Y2 → Option (Y2 × Y2 × Int)) (x : Y1) : Option (Y2 × Y2 × Int) :=
  ((cops_Check x).bind fun x1 => (bif (x1 != (0 : Int)) then (some (([] : List Int), ([] : List Int), x1)) else ((cops_operands x).bind fun x2 => ((getI gl0 x.1).bind fun x3 => (loop0 (x3.2.1, (0 : Int), ([] : List Int), ([] : List Int), x2))))))
def mops_Slots (N : Nat) (x : Y1) : Option (Y2 × Y2 × Int) := nops_Slots (iterV (gops_Slots_0 N) N) x
theorem jops_Slots (N : Nat) (x : Y1) : rise (Eops_Slots) Tops_Slots 6 N Tryd.f11 [Z0] [(.slice Z2), (.slice Z2), Z2] [true, false, false] x = nops_Slots (fun v => iterR (floc (Eops_Slots) Tops_Slots 6 N Tryd.f11 [(.slice Z2), (.slice Z2), Z2] [true, false, false] [(4, 2, 24)] 0 nowhereR) N (eops_Slots_0 v)) x := by kernel_rfl
theorem lops_Slots (N : Nat) (x : Y1) : rise (Eops_Slots) Tops_Slots 6 N Tryd.f11 [Z0] [(.slice Z2), (.slice Z2), Z2] [true, false, false] x = mops_Slots N x := (jops_Slots N x).trans (by rw [funext (iterR_eq eops_Slots_0 (bops_Slots_0 N) N)]; rfl)
def cops_Slots (x : Y1) : Option (Y2 × Y2 × Int) := mops_Slots big x
def Gops_Slots : Fn2 := ⟨[Z0], [(.slice Z2), (.slice Z2), Z2], [true, false, false], fun x => cops_Slots x⟩
theorem Lops_Slots : Rises Tryd.prog 11 Gops_Slots := rises_of (E := Eops_Slots) ⟨tabOk, (fsCons2 Lops_Check (fsCons2 Lops_operands fsNil2)), fun _ _ _ => rfl, mixed, (inlCons (inlB_of Tryd.func24 rfl rfl (by kernel_rfl)) (inlCons (inlB_of Tryd.func29 rfl rfl (by kernel_rfl)) (inlCons (inlB_of Tryd.func30 rfl rfl (by kernel_rfl)) inlNil))), rcsNil⟩ Tryd.func11 rfl (by decide) (by kernel_rfl) (by kernel_rfl) (by kernel_rfl) (by kernel_rfl) (fun x r _ h => ⟨Tops_Slots, 6, big, (lops_Slots big x).trans h⟩)

def Tops_Name : LT := { live := [],keep := [(2,[0]),(3,[0]),(4,[0]),(5,[0]),(6,[0]),(7,[]),(8,[]),(9,[]),(10,[])] }
/-! ### wreckage/ops.Name -/
noncomputable def Eops_Name : Env2 := { tab := tab, fs := [(21, Gops_isOperation)], inl := [] }
def nops_Name (x : Int) : Option (Y2 × Int) :=
  ((cops_isOperation x).bind fun x1 => (bif (!x1) then (some (([] : List Int), (6 : Int))) else ((getI gl0 x).bind fun x2 => (some (x2.1, (0 : Int))))))
def mops_Name (N : Nat) (x : Int) : Option (Y2 × Int) := nops_Name x
theorem jops_Name (N : Nat) (x : Int) : rise (Eops_Name) Tops_Name 6 N Tryd.f12 [Z4] [.str, Z2] [false, false] x = nops_Name x := by kernel_rfl
theorem lops_Name (N : Nat) (x : Int) : rise (Eops_Name) Tops_Name 6 N Tryd.f12 [Z4] [.str, Z2] [false, false] x = mops_Name N x := (jops_Name N x).trans rfl
def cops_Name (x : Int) : Option (Y2 × Int) := mops_Name big x
def Gops_Name : Fn2 := ⟨[Z4], [.str, Z2], [false, false], fun x => cops_Name x⟩
theorem Lops_Name : Rises Tryd.prog 12 Gops_Name := rises_of (E := Eops_Name) ⟨tabOk, (fsCons2 Lops_isOperation fsNil2), fun _ _ _ => rfl, mixed, inlNil, rcsNil⟩ Tryd.func12 rfl (by decide) (by kernel_rfl) (by kernel_rfl) (by kernel_rfl) (by kernel_rfl) (fun x r _ h => ⟨Tops_Name, 6, big, (lops_Name big x).trans h⟩)

def Tops_Op : LT := { live := [(2,[0,4])],keep := [(2,[0]),(3,[0]),(4,[0]),(5,[0,4]),(6,[0,4]),(7,[0]),(8,[0]),(9,[0,4]),(10,[0,4]),(11,[0,4]),(12,[0,4]),(13,[0,4,12]),(14,[0,4]),(15,[])] }
/-! ### wreckage/ops.Op -/
noncomputable def Eops_Op : Env2 := { tab := tab, fs := [], inl := [] }
noncomputable def eops_Op_0 (v : Y2 × Int) : St := { s := [(0, (.val ⟨.str, v.1⟩)), (4, (.val ⟨Z4, v.2⟩))], l := [], k := [], b := 4096 }
def hops_Op_0 (self0 : Y2 × Int → Option (Int × Int)) (v : Y2 × Int) : Option (Int × Int) :=
  (bif (decide (v.2 ≤ (34 : Int))) then ((getI gl0 v.2).bind fun x1 => (bif (eqD .str x1.1 v.1) then (some (v.2, (0 : Int))) else (let x2 : Int := (IntKind.u8.wrap (v.2 + (1 : Int))); (self0 (v.1, x2))))) else (some ((0 : Int), (6 : Int))))
def gops_Op_0 (N : Nat) (self0 : Y2 × Int → Option (Int × Int)) (v : Y2 × Int) : Option (Int × Int) := hops_Op_0 self0 v
theorem kops_Op_0 (N : Nat) (s0 : St → Option (Int × Int)) (v) : (floc (Eops_Op) Tops_Op 6 N Tryd.f13 [Z4, Z2] [false, false] [] 0 nowhereR) s0 (eops_Op_0 v) = hops_Op_0 (fun v => s0 (eops_Op_0 v)) v := by kernel_rfl
theorem bops_Op_0 (N : Nat) (s0 : St → Option (Int × Int)) (v) : (floc (Eops_Op) Tops_Op 6 N Tryd.f13 [Z4, Z2] [false, false] [] 0 nowhereR) s0 (eops_Op_0 v) = gops_Op_0 N (fun v => s0 (eops_Op_0 v)) v := kops_Op_0 N s0 v
def nops_Op (loop0 : Y2 × Int → Option (Int × Int)) (x : Y2) : Option (Int × Int) :=
  (loop0 (x, (1 : Int)))
def mops_Op (N : Nat) (x : Y2) : Option (Int × Int) := nops_Op (iterV (gops_Op_0 N) N) x
theorem jops_Op (N : Nat) (x : Y2) : rise (Eops_Op) Tops_Op 6 N Tryd.f13 [.str] [Z4, Z2] [false, false] x = nops_Op (fun v => iterR (floc (Eops_Op) Tops_Op 6 N Tryd.f13 [Z4, Z2] [false, false] [] 0 nowhereR) N (eops_Op_0 v)) x := by kernel_rfl
theorem lops_Op (N : Nat) (x : Y2) : rise (Eops_Op) Tops_Op 6 N Tryd.f13 [.str] [Z4, Z2] [false, false] x = mops_Op N x := (jops_Op N x).trans (by rw [funext (iterR_eq eops_Op_0 (bops_Op_0 N) N)]; rfl)
def cops_Op (x : Y2) : Option (Int × Int) := mops_Op big x
def Gops_Op : Fn2 := ⟨[.str], [Z4, Z2], [false, false], fun x => cops_Op x⟩
theorem Lops_Op : Rises Tryd.prog 13 Gops_Op := rises_of (E := Eops_Op) ⟨tabOk, fsNil2, fun _ _ _ => rfl, mixed, inlNil, rcsNil⟩ Tryd.func13 rfl (by decide) (by kernel_rfl) (by kernel_rfl) (by kernel_rfl) (by kernel_rfl) (fun x r _ h => ⟨Tops_Op, 6, big, (lops_Op big x).trans h⟩)

def Tops_readOperand : LT := { live := [],keep := [(2,[1]),(4,[1,2]),(5,[1,2,4]),(6,[1,2,4]),(7,[4,17,18,19]),(8,[4,7,19]),(9,[4,7,8]),(10,[2,4,28]),(11,[2,4,10]),(12,[2,4]),(13,[2,4]),(14,[4]),(15,[4]),(16,[4]),(17,[4,14]),(18,[4,14,17]),(19,[4,17,18]),(20,[4,8,9]),(21,[4,9,20]),(22,[4,20,21]),(23,[2,4]),(24,[2,4]),(25,[2,4]),(26,[2,4,23]),(27,[2,4,23,26]),(28,[2,4,26,27]),(29,[4,10,11]),(30,[4,11,29]),(31,[4,11,29]),(32,[4,11,29]),(33,[4,29,32])] }
/-! ### wreckage/ops.readOperand -/
noncomputable def Eops_readOperand : Env2 := { tab := tab, fs := [(26, Gops_isSigned), (41, Gwire_Unsigned), (42, Gwire_Unvary)], inl := [] }
def nops_readOperand (x : Y0 × Int) : Option Y3 :=
  ((cops_isSigned x.2).bind fun x1 => (bif x1 then ((cwire_Unsigned x.1).bind fun x2 => (some (x2.1, x2.2.1, x2.2.2))) else ((cwire_Unvary (x.1, (18446744073709551615 : Int))).bind fun x3 => (let x4 : Int := (if (9223372036854775807 : Int) < x3.2.1 then (9223372036854775807 : Int) else x3.2.1); (some (x3.1, (IntKind.i64.wrap x4), x3.2.2))))))
def mops_readOperand (N : Nat) (x : Y0 × Int) : Option Y3 := nops_readOperand x
theorem jops_readOperand (N : Nat) (x : Y0 × Int) : rise (Eops_readOperand) Tops_readOperand 6 N Tryd.f32 [Z1, Z4] [Z1, Z2, Z2] [false, false, false] x = nops_readOperand x := by kernel_rfl
theorem lops_readOperand (N : Nat) (x : Y0 × Int) : rise (Eops_readOperand) Tops_readOperand 6 N Tryd.f32 [Z1, Z4] [Z1, Z2, Z2] [false, false, false] x = mops_readOperand N x := (jops_readOperand N x).trans rfl
def cops_readOperand (x : Y0 × Int) : Option Y3 := mops_readOperand big x
def Gops_readOperand : Fn2 := ⟨[Z1, Z4], [Z1, Z2, Z2], [false, false, false], fun x => cops_readOperand x⟩
theorem Lops_readOperand : Rises Tryd.prog 32 Gops_readOperand := rises_of (E := Eops_readOperand) ⟨tabOk, (fsCons2 Lops_isSigned (fsCons2 Lwire_Unsigned (fsCons2 Lwire_Unvary fsNil2))), fun _ _ _ => rfl, mixed, inlNil, rcsNil⟩ Tryd.func32 rfl (by decide) (by kernel_rfl) (by kernel_rfl) (by kernel_rfl) (by kernel_rfl) (fun x r _ h => ⟨Tops_readOperand, 6, big, (lops_readOperand big x).trans h⟩)

def Tops_Decode : LT := { live := [(9,[1,2,3,7,8,33,34])],keep := [(1,[]),(2,[1]),(3,[1,2]),(4,[1,2,3]),(5,[1,2,3,17]),(6,[1,2,3,5]),(7,[1,2,3]),(8,[1,2,3,7]),(9,[1,2,3,7,8,33,34,37]),(10,[1,2,3,7,8,9,33,34]),(11,[1,2,3,62]),(12,[1,2,3]),(13,[1,2,3]),(14,[1,2,3]),(15,[1,2,3,12]),(16,[1,2,3,12,15]),(17,[1,2,3,15,16]),(18,[1,2,3,5,6]),(19,[1,2,3,5,6]),(20,[2,3,6]),(21,[2,3,6,20]),(22,[2,3,20,21]),(23,[1,2,3]),(24,[1,2,3]),(25,[1,2,3,7]),(26,[1,2,3,7]),(27,[1,2,3,7]),(28,[2,3]),(29,[2,3,28]),(30,[1,2,3,7,8]),(31,[1,2,3,7,8]),(32,[1,2,3,7,8]),(33,[1,2,3,7,8]),(34,[1,2,3,7,8,33]),(35,[1,2,3,7,8,33,34]),(36,[1,2,3,7,8,33,34]),(37,[1,2,3,7,8,33,34,36]),(38,[1,2,3,7,8,9,10,33,34]),(39,[1,2,3,7,8,9,10,33,34]),(40,[1,2,3,7,8,33,34,41]),(41,[1,2,3,7,8,10,33,34]),(42,[1,2,3,7,8,10,33,34,41]),(43,[1,2,3,7,8,33,34,41,42]),(44,[1,2,3,7,8,33,34,41]),(45,[1,2,3,7,8,33,34,40,41]),(46,[1,2,3,7,8,33,34,40,41,45]),(47,[1,2,3,7,8,33,34,41,45,46]),(48,[1,2,3,7,8,33,34,46,47]),(49,[1,2,3,6,7,8,33,34]),(50,[1,2,3,6,7,8,33,34]),(51,[2,3,6]),(52,[2,3,6,51]),(53,[2,3,51,52]),(54,[1,2,3,7,8,33]),(55,[1,2,3,8]),(56,[1,2,3,8,55]),(57,[1,2,3,8,55]),(58,[1,2,3,8,55,57]),(59,[1,2,3,8,55,57]),(60,[1,2,3,55,57,59]),(61,[1,2,3,55,57,59]),(62,[1,2,3]),(63,[1,2,3,11]),(64,[1,2,3,11]),(65,[1,2,3,11]),(66,[2,3]),(67,[2,3,66]),(68,[2,3,11]),(69,[2,3,68])] }
/-! ### wreckage/ops.Decode -/
noncomputable def Eops_Decode : Env2 := { tab := tab, fs := [(9, Gops_Check), (21, Gops_isOperation), (31, Gwire_Unfixed), (32, Gops_readOperand)], inl := [] }
noncomputable def eops_Decode_0 (v : Int × Y2 × Int × Y0 × (Int × Unit) × Y2 × Y1 × Y2) : St := { s := [(1, (.loc 0 [])), (2, (.loc 1 [])), (3, (.loc 3 [])), (7, (.val ⟨Z4, v.1⟩)), (8, (.loc 4 [])), (33, (.val ⟨(.arr 3 Z4), v.2.1⟩)), (34, (.val ⟨Z2, v.2.2.1⟩))], l := [(0, .var Z1 (.val ⟨Z1, v.2.2.2.1⟩)), (1, .var Z1 (.pair (.row 2) (.val ⟨(.pair Z2 .unit), v.2.2.2.2.1⟩))), (2, .row Z4 v.2.2.2.2.2.1), (3, .var Z0 (.val ⟨Z0, v.2.2.2.2.2.2.1⟩)), (4, .var (.arr 3 Z2) (.val ⟨(.arr 3 Z2), v.2.2.2.2.2.2.2⟩))], k := [], b := 4096 }
def hops_Decode_0 (self0 : Int × Y2 × Int × Y0 × (Int × Unit) × Y2 × Y1 × Y2 → Option (Y0 × Y1 × Int)) (v : Int × Y2 × Int × Y0 × (Int × Unit) × Y2 × Y1 × Y2) : Option (Y0 × Y1 × Int) :=
  (bif (decide (v.2.2.1 < (3 : Int))) then ((getI v.2.1 v.2.2.1).bind fun x8 => (bif (x8 == (0 : Int)) then (let x9 : Int := (IntKind.i64.wrap (v.2.2.1 + (1 : Int))); (self0 (v.1, v.2.1, x9, v.2.2.2.1, v.2.2.2.2.1, v.2.2.2.2.2.1, v.2.2.2.2.2.2.1, v.2.2.2.2.2.2.2))) else ((cops_readOperand (v.2.2.2.1, x8)).bind fun x10 => (bif (decide (0 ≤ v.2.2.1) && decide (v.2.2.1 < (3 : Int))) then (let x11 : Y2 := (List.set v.2.2.2.2.2.2.2 (Int.toNat v.2.2.1) x10.2.1); (bif (x10.2.2 != (0 : Int)) then (let x12 : Y0 := (([] : Y2), ((0 : Int), ())); (let x13 : Y1 := ((0 : Int), ((0 : Int), ((0 : Int), ((0 : Int), ())))); (some (x12, x13, x10.2.2)))) else (let x14 : Int := (IntKind.i64.wrap (v.2.2.1 + (1 : Int))); (self0 (v.1, v.2.1, x14, x10.1, v.2.2.2.2.1, v.2.2.2.2.2.1, v.2.2.2.2.2.2.1, x11))))) else none)))) else (bif (decide (0 ≤ (0 : Int)) && decide ((0 : Int) < (3 : Int))) then ((nth v.2.2.2.2.2.2.2 (Int.toNat (0 : Int))).bind fun x15 => (bif (decide (0 ≤ (1 : Int)) && decide ((1 : Int) < (3 : Int))) then ((nth v.2.2.2.2.2.2.2 (Int.toNat (1 : Int))).bind fun x16 => (bif (decide (0 ≤ (2 : Int)) && decide ((2 : Int) < (3 : Int))) then ((nth v.2.2.2.2.2.2.2 (Int.toNat (2 : Int))).bind fun x17 => (let x18 : Y1 := (v.1, (x15, (x16, (x17, ())))); ((cops_Check x18).bind fun x19 => (bif (x19 != (0 : Int)) then (let x20 : Y0 := (([] : Y2), ((0 : Int), ())); (let x21 : Y1 := ((0 : Int), ((0 : Int), ((0 : Int), ((0 : Int), ())))); (some (x20, x21, (12 : Int))))) else (some (v.2.2.2.1, x18, (0 : Int))))))) else none)) else none)) else none))
def gops_Decode_0 (N : Nat) (self0 : Int × Y2 × Int × Y0 × (Int × Unit) × Y2 × Y1 × Y2 → Option (Y0 × Y1 × Int)) (v : Int × Y2 × Int × Y0 × (Int × Unit) × Y2 × Y1 × Y2) : Option (Y0 × Y1 × Int) := hops_Decode_0 self0 v
theorem kops_Decode_0 (N : Nat) (s0 : St → Option (Y0 × Y1 × Int)) (v) : (floc (Eops_Decode) Tops_Decode 6 N Tryd.f14 [Z1, Z0, Z2] [false, false, false] [] 0 nowhereR) s0 (eops_Decode_0 v) = hops_Decode_0 (fun v => s0 (eops_Decode_0 v)) v := by kernel_rfl
theorem bops_Decode_0 (N : Nat) (s0 : St → Option (Y0 × Y1 × Int)) (v) : (floc (Eops_Decode) Tops_Decode 6 N Tryd.f14 [Z1, Z0, Z2] [false, false, false] [] 0 nowhereR) s0 (eops_Decode_0 v) = gops_Decode_0 N (fun v => s0 (eops_Decode_0 v)) v := kops_Decode_0 N s0 v
def nops_Decode (loop0 : Int × Y2 × Int × Y0 × (Int × Unit) × Y2 × Y1 × Y2 → Option (Y0 × Y1 × Int)) (x : Y0) : Option (Y0 × Y1 × Int) :=
  ((cwire_Unfixed (x, (1 : Int))).bind fun x1 => (bif (x1.2.2 != (0 : Int)) then (let x2 : Y0 := (([] : Y2), ((0 : Int), ())); (let x3 : Y1 := ((0 : Int), ((0 : Int), ((0 : Int), ((0 : Int), ())))); (some (x2, x3, x1.2.2)))) else ((cops_isOperation (IntKind.u8.wrap x1.2.1)).bind fun x4 => (bif (!x4) then (let x5 : Y0 := (([] : Y2), ((0 : Int), ())); (let x6 : Y1 := ((0 : Int), ((0 : Int), ((0 : Int), ((0 : Int), ())))); (some (x5, x6, (12 : Int))))) else ((getI gl0 (IntKind.u8.wrap x1.2.1)).bind fun x7 => (loop0 ((IntKind.u8.wrap x1.2.1), x7.2.1, (0 : Int), x1.1, ((0 : Int), ()), ([] : List Int), ((0 : Int), ((0 : Int), ((0 : Int), ((0 : Int), ())))), (List.replicate 3 (0 : Int)))))))))
def mops_Decode (N : Nat) (x : Y0) : Option (Y0 × Y1 × Int) := nops_Decode (iterV (gops_Decode_0 N) N) x
theorem jops_Decode (N : Nat) (x : Y0) : rise (Eops_Decode) Tops_Decode 6 N Tryd.f14 [Z1] [Z1, Z0, Z2] [false, false, false] x = nops_Decode (fun v => iterR (floc (Eops_Decode) Tops_Decode 6 N Tryd.f14 [Z1, Z0, Z2] [false, false, false] [] 0 nowhereR) N (eops_Decode_0 v)) x := by kernel_rfl
theorem lops_Decode (N : Nat) (x : Y0) : rise (Eops_Decode) Tops_Decode 6 N Tryd.f14 [Z1] [Z1, Z0, Z2] [false, false, false] x = mops_Decode N x := (jops_Decode N x).trans (by rw [funext (iterR_eq eops_Decode_0 (bops_Decode_0 N) N)]; rfl)
def cops_Decode (x : Y0) : Option (Y0 × Y1 × Int) := mops_Decode big x
def Gops_Decode : Fn2 := ⟨[Z1], [Z1, Z0, Z2], [false, false, false], fun x => cops_Decode x⟩
theorem Lops_Decode : Rises Tryd.prog 14 Gops_Decode := rises_of (E := Eops_Decode) ⟨tabOk, (fsCons2 Lops_Check (fsCons2 Lops_isOperation (fsCons2 Lwire_Unfixed (fsCons2 Lops_readOperand fsNil2)))), fun _ _ _ => rfl, mixed, inlNil, rcsNil⟩ Tryd.func14 rfl (by decide) (by kernel_rfl) (by kernel_rfl) (by kernel_rfl) (by kernel_rfl) (fun x r _ h => ⟨Tops_Decode, 6, big, (lops_Decode big x).trans h⟩)

end Go.Proofs.YtinhcjeilebooaaDoor
