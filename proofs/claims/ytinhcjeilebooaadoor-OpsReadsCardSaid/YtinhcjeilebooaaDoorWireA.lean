/- Functions of the program, read as plain functions: each equation is checked by the kernel. -/
import Derived.Test.YtinhcjeilebooaaDoorRiP
import Derived.Test.YtinhcjeilebooaaDoorRiR
import Derived.Test.YtinhcjeilebooaaDoorProg
import Derived.KernelRfl
set_option linter.unusedVariables false
set_option maxRecDepth 100000
namespace Go.Proofs.YtinhcjeilebooaaDoor
open Go.Lift
def tab : List (TypeId × Ty) := [(2, (.int .i64)), (3, (.int .i64)), (4, .bool), (5, (.int .u8)), (9, .str), (23, (.pair (.int .u8) (.pair (.int .i64) (.pair (.int .i64) (.pair (.int .i64) .unit))))), (24, (.slice (.pair (.int .u8) (.pair (.int .i64) (.pair (.int .i64) (.pair (.int .i64) .unit)))))), (25, (.int .i64)), (27, (.slice (.int .u8))), (30, (.slice (.int .i64))), (38, (.pair (.slice (.int .u8)) (.pair (.int .i64) .unit))), (54, (.arr 3 (.int .i64))), (56, (.int .u8)), (57, (.arr 3 (.int .u8))), (59, (.pair .str (.pair (.arr 3 (.int .u8)) .unit))), (60, (.arr 35 (.pair .str (.pair (.arr 3 (.int .u8)) .unit)))), (66, (.int .u64)), (67, .fn), (76, (.int .u64)), (77, (.arr 10 (.int .u8))), (88, (.slice (.slice (.int .u8)))), (91, .fn), (93, (.ptr (.pair (.slice (.int .u8)) (.pair (.int .i64) .unit))))]
theorem mixed : Tryd.prog.follows .mixedOrders = true := by kernel_rfl
theorem tabOk : TabOk Tryd.prog tab := tabOk_of (by kernel_rfl) (by kernel_rfl) (by kernel_rfl)
abbrev Y0 : Type := (List Int) × (Int × Unit)
abbrev Y1 : Type := Int × (Int × (Int × (Int × Unit)))
abbrev Y2 : Type := List Int
abbrev Y3 : Type := Y0 × Int × Int
abbrev Z0 : Ty := .pair (.int .u8) (.pair (.int .i64) (.pair (.int .i64) (.pair (.int .i64) .unit)))
abbrev Z1 : Ty := .pair (.slice (.int .u8)) (.pair (.int .i64) .unit)
abbrev Z2 : Ty := .int .i64
abbrev Z3 : Ty := .slice (.int .u8)
abbrev Z4 : Ty := .int .u8
def Twire_joined : LT := { live := [(3,[0,3,9,10,11]),(9,[6,22,23,24])],keep := [(2,[0]),(3,[0]),(5,[0,3,9,10,11]),(6,[0]),(8,[6,22,23,24]),(9,[0,3]),(10,[0,3,9]),(11,[0,3,9,10]),(12,[0,3,9,10,11]),(13,[0,3,9,10,11]),(14,[0,3,9,10,11]),(15,[0,5,9,10,11]),(16,[0,9,10,11,15]),(17,[0,9,10,11,15]),(18,[0,9,10,11]),(19,[0,3,9,10]),(20,[0]),(21,[0]),(22,[6]),(23,[6,22]),(24,[6,22,23]),(25,[6,22,23,24]),(26,[6,22,23,24]),(27,[6,22,23,24]),(28,[8,22,23,24]),(29,[22,23,24,28]),(30,[22,23,24]),(31,[6,22,23]),(32,[])] }
/-! ### wreckage/wire.joined -/
noncomputable def Ewire_joined (mk : (α : Type) → Nat → α → List α) : Env2 := { tab := tab, fs := [], inl := [], rep := mk }
noncomputable def ewire_joined_1 (v : (List Y2) × Int × Int × Y2) : St := { s := [(6, (.row 0)), (22, (.val ⟨(.slice Z3), v.1⟩)), (23, (.val ⟨Z2, v.2.1⟩)), (24, (.val ⟨Z2, v.2.2.1⟩))], l := [(0, .row Z4 v.2.2.2)], k := [], b := 4096 }
noncomputable def ewire_joined_0 (v : (List Y2) × Int × (List Y2) × Int × Int) : St := { s := [(0, (.val ⟨(.slice Z3), v.1⟩)), (3, (.val ⟨Z2, v.2.1⟩)), (9, (.val ⟨(.slice Z3), v.2.2.1⟩)), (10, (.val ⟨Z2, v.2.2.2.1⟩)), (11, (.val ⟨Z2, v.2.2.2.2⟩))], l := [], k := [], b := 4096 }
def hwire_joined_1 (mk : (α : Type) → Nat → α → List α) (self0 : (List Y2) × Int × (List Y2) × Int × Int → Option (Y2)) (self1 : (List Y2) × Int × Int × Y2 → Option (Y2)) (v : (List Y2) × Int × Int × Y2) : Option (Y2) :=
  (bif (decide (v.2.2.1 < v.2.1)) then ((getI v.1 v.2.2.1).bind fun x5 => (bif (Nat.ble 1 1 && Nat.ble (List.length v.2.2.2 + List.length x5) lim) then (let x6 : Int := (IntKind.i64.wrap (v.2.2.1 + (1 : Int))); (self1 (v.1, v.2.1, x6, (List.append v.2.2.2 x5)))) else none)) else (some v.2.2.2))
def gwire_joined_1 (mk : (α : Type) → Nat → α → List α) (N : Nat) (self0 : (List Y2) × Int × (List Y2) × Int × Int → Option (Y2)) (self1 : (List Y2) × Int × Int × Y2 → Option (Y2)) (v : (List Y2) × Int × Int × Y2) : Option (Y2) := hwire_joined_1 mk self0 self1 v
theorem kwire_joined_1 (mk : (α : Type) → Nat → α → List α) (N : Nat) (s0 : St → Option (Y2)) (s1 : St → Option (Y2)) (v) : (floc (Ewire_joined mk) Twire_joined 6 N Tryd.f37 [Z3] [true] [] 1 nowhereR) s1 (ewire_joined_1 v) = hwire_joined_1 mk (fun v => s0 (ewire_joined_0 v)) (fun v => s1 (ewire_joined_1 v)) v := by kernel_rfl
theorem bwire_joined_1 (mk : (α : Type) → Nat → α → List α) (N : Nat) (s0 : St → Option (Y2)) (s1 : St → Option (Y2)) (v) : (floc (Ewire_joined mk) Twire_joined 6 N Tryd.f37 [Z3] [true] [] 1 nowhereR) s1 (ewire_joined_1 v) = gwire_joined_1 mk N (fun v => s0 (ewire_joined_0 v)) (fun v => s1 (ewire_joined_1 v)) v := kwire_joined_1 mk N s0 s1 v
def hwire_joined_0 (mk : (α : Type) → Nat → α → List α) (loop1 : (List Y2) × Int × Int × Y2 → Option (Y2)) (self0 : (List Y2) × Int × (List Y2) × Int × Int → Option (Y2)) (v : (List Y2) × Int × (List Y2) × Int × Int) : Option (Y2) :=
  (bif (decide (v.2.2.2.2 < v.2.2.2.1)) then ((getI v.2.2.1 v.2.2.2.2).bind fun x1 => (let x2 : Int := (IntKind.i64.wrap (v.2.1 + (List.length x1 : Int))); (let x3 : Int := (IntKind.i64.wrap (v.2.2.2.2 + (1 : Int))); (self0 (v.1, x2, v.2.2.1, v.2.2.2.1, x3))))) else (bif (decide (0 ≤ (0 : Int)) && (decide ((0 : Int) ≤ v.2.1) && (decide (v.2.1 ≤ 68719476736) && true))) then (let x4 : Y2 := (mk Int (Int.toNat (0 : Int)) (0 : Int)); (loop1 (v.1, (List.length v.1 : Int), (0 : Int), x4))) else none))
def gwire_joined_0 (mk : (α : Type) → Nat → α → List α) (N : Nat) (self0 : (List Y2) × Int × (List Y2) × Int × Int → Option (Y2)) (v : (List Y2) × Int × (List Y2) × Int × Int) : Option (Y2) := hwire_joined_0 mk (iterV (gwire_joined_1 mk N self0) N) self0 v
theorem kwire_joined_0 (mk : (α : Type) → Nat → α → List α) (N : Nat) (s0 : St → Option (Y2)) (v) : (floc (Ewire_joined mk) Twire_joined 6 N Tryd.f37 [Z3] [true] [] 0 nowhereR) s0 (ewire_joined_0 v) = hwire_joined_0 mk (fun v => iterR (floc (Ewire_joined mk) Twire_joined 6 N Tryd.f37 [Z3] [true] [] 1 nowhereR) N (ewire_joined_1 v)) (fun v => s0 (ewire_joined_0 v)) v := by kernel_rfl
theorem bwire_joined_0 (mk : (α : Type) → Nat → α → List α) (N : Nat) (s0 : St → Option (Y2)) (v) : (floc (Ewire_joined mk) Twire_joined 6 N Tryd.f37 [Z3] [true] [] 0 nowhereR) s0 (ewire_joined_0 v) = gwire_joined_0 mk N (fun v => s0 (ewire_joined_0 v)) v := (kwire_joined_0 mk N s0 v).trans (by rw [funext (iterR_eq ewire_joined_1 (bwire_joined_1 mk N s0) N)]; rfl)
def nwire_joined (mk : (α : Type) → Nat → α → List α) (loop0 : (List Y2) × Int × (List Y2) × Int × Int → Option (Y2)) (x : (List Y2)) : Option (Y2) :=
  (loop0 (x, (0 : Int), x, (List.length x : Int), (0 : Int)))
def mwire_joined (mk : (α : Type) → Nat → α → List α) (N : Nat) (x : (List Y2)) : Option (Y2) := nwire_joined mk (iterV (gwire_joined_0 mk N) N) x
theorem jwire_joined (mk : (α : Type) → Nat → α → List α) (N : Nat) (x : (List Y2)) : rise (Ewire_joined mk) Twire_joined 6 N Tryd.f37 [(.slice Z3)] [Z3] [true] x = nwire_joined mk (fun v => iterR (floc (Ewire_joined mk) Twire_joined 6 N Tryd.f37 [Z3] [true] [] 0 nowhereR) N (ewire_joined_0 v)) x := by kernel_rfl
theorem lwire_joined (mk : (α : Type) → Nat → α → List α) (N : Nat) (x : (List Y2)) : rise (Ewire_joined mk) Twire_joined 6 N Tryd.f37 [(.slice Z3)] [Z3] [true] x = mwire_joined mk N x := (jwire_joined mk N x).trans (by rw [funext (iterR_eq ewire_joined_0 (bwire_joined_0 mk N) N)]; rfl)
def cwire_joined (x : (List Y2)) : Option (Y2) := mwire_joined (fun _ => List.replicate) big x
def Gwire_joined : Fn2 := ⟨[(.slice Z3)], [Z3], [true], fun x => cwire_joined x⟩
theorem Lwire_joined : Rises Tryd.prog 37 Gwire_joined := rises_of (E := Ewire_joined (fun _ => List.replicate)) ⟨tabOk, fsNil2, fun _ _ _ => rfl, mixed, inlNil, rcsNil⟩ Tryd.func37 rfl (by decide) (by kernel_rfl) (by kernel_rfl) (by kernel_rfl) (by kernel_rfl) (fun x r _ h => ⟨Twire_joined, 6, big, (lwire_joined (fun _ => List.replicate) big x).trans h⟩)

def Twire_Vary : LT := { live := [(3,[0,3,4])],keep := [(0,[3,4]),(2,[0]),(3,[0]),(4,[0,3]),(5,[0,3,4]),(6,[0,3,4]),(7,[0,3,4]),(8,[0,3,4,7]),(9,[0,3,4,7]),(10,[0,3,4,7]),(11,[0,3,4,10]),(12,[3,4]),(13,[3,4]),(14,[0,3]),(15,[0,3]),(16,[0,3,4]),(17,[3,4,16]),(18,[3,4,16]),(19,[3,4,18]),(20,[3]),(21,[3]),(22,[]),(23,[]),(24,[])] }
/-! ### wreckage/wire.Vary -/
noncomputable def Ewire_Vary : Env2 := { tab := tab, fs := [(37, Gwire_joined)], inl := [] }
noncomputable def ewire_Vary_0 (v : Int × Int × Y2) : St := { s := [(0, (.val ⟨(.int .u64), v.1⟩)), (3, (.loc 0 [])), (4, (.val ⟨Z2, v.2.1⟩))], l := [(0, .var (.arr 10 Z4) (.val ⟨(.arr 10 Z4), v.2.2⟩))], k := [], b := 4096 }
def hwire_Vary_0 (self0 : Int × Int × Y2 → Option (Y2)) (v : Int × Int × Y2) : Option (Y2) :=
  (bif (decide (v.1 ≥ (128 : Int))) then (let x1 : Int := (bits .or .u8 (IntKind.u8.wrap v.1) (128 : Int)); (bif (decide (0 ≤ v.2.1) && decide (v.2.1 < (10 : Int))) then (let x2 : Y2 := (List.set v.2.2 (Int.toNat v.2.1) x1); (let x3 : Int := (IntKind.i64.wrap (v.2.1 + (1 : Int))); (self0 ((v.1.fdiv (2 ^ 7)), x3, x2)))) else none)) else (bif (decide (0 ≤ v.2.1) && decide (v.2.1 < (10 : Int))) then (let x4 : Y2 := (List.set v.2.2 (Int.toNat v.2.1) (IntKind.u8.wrap v.1)); (let x5 : Int := (IntKind.i64.wrap (v.2.1 + (1 : Int))); (bif (decide (0 ≤ x5) && decide (x5 ≤ (List.length x4 : Int))) then (let x6 : Y2 := (List.take (Int.toNat x5) x4); (let x7 : (List Y2) := ([x6] : (List Y2)); ((cwire_joined x7).bind fun x8 => (some x8)))) else none))) else none))
def gwire_Vary_0 (N : Nat) (self0 : Int × Int × Y2 → Option (Y2)) (v : Int × Int × Y2) : Option (Y2) := hwire_Vary_0 self0 v
theorem kwire_Vary_0 (N : Nat) (s0 : St → Option (Y2)) (v) : (floc (Ewire_Vary) Twire_Vary 6 N Tryd.f28 [Z3] [true] [] 0 nowhereR) s0 (ewire_Vary_0 v) = hwire_Vary_0 (fun v => s0 (ewire_Vary_0 v)) v := by kernel_rfl
theorem bwire_Vary_0 (N : Nat) (s0 : St → Option (Y2)) (v) : (floc (Ewire_Vary) Twire_Vary 6 N Tryd.f28 [Z3] [true] [] 0 nowhereR) s0 (ewire_Vary_0 v) = gwire_Vary_0 N (fun v => s0 (ewire_Vary_0 v)) v := kwire_Vary_0 N s0 v
def nwire_Vary (loop0 : Int × Int × Y2 → Option (Y2)) (x : Int) : Option (Y2) :=
  (loop0 (x, (0 : Int), (List.replicate 10 (0 : Int))))
def mwire_Vary (N : Nat) (x : Int) : Option (Y2) := nwire_Vary (iterV (gwire_Vary_0 N) N) x
theorem jwire_Vary (N : Nat) (x : Int) : rise (Ewire_Vary) Twire_Vary 6 N Tryd.f28 [(.int .u64)] [Z3] [true] x = nwire_Vary (fun v => iterR (floc (Ewire_Vary) Twire_Vary 6 N Tryd.f28 [Z3] [true] [] 0 nowhereR) N (ewire_Vary_0 v)) x := by kernel_rfl
theorem lwire_Vary (N : Nat) (x : Int) : rise (Ewire_Vary) Twire_Vary 6 N Tryd.f28 [(.int .u64)] [Z3] [true] x = mwire_Vary N x := (jwire_Vary N x).trans (by rw [funext (iterR_eq ewire_Vary_0 (bwire_Vary_0 N) N)]; rfl)
def cwire_Vary (x : Int) : Option (Y2) := mwire_Vary big x
def Gwire_Vary : Fn2 := ⟨[(.int .u64)], [Z3], [true], fun x => cwire_Vary x⟩
theorem Lwire_Vary : Rises Tryd.prog 28 Gwire_Vary := rises_of (E := Ewire_Vary) ⟨tabOk, (fsCons2 Lwire_joined fsNil2), fun _ _ _ => rfl, mixed, inlNil, rcsNil⟩ Tryd.func28 rfl (by decide) (by kernel_rfl) (by kernel_rfl) (by kernel_rfl) (by kernel_rfl) (fun x r _ h => ⟨Twire_Vary, 6, big, (lwire_Vary big x).trans h⟩)

def Twire_Signed : LT := { live := [],keep := [(2,[0]),(3,[0]),(4,[0]),(5,[]),(6,[]),(7,[]),(8,[]),(9,[]),(10,[]),(11,[]),(12,[]),(13,[]),(14,[])] }
/-! ### wreckage/wire.Signed -/
noncomputable def Ewire_Signed : Env2 := { tab := tab, fs := [(28, Gwire_Vary)], inl := [] }
def nwire_Signed (x : Int) : Option (Y2) :=
  (bif (decide (x < (0 : Int))) then (let x1 : Int := (bits .xor .i64 (if IntKind.signed .i64 then -1 else IntKind.max .i64) x); (let x2 : Int := (IntKind.u64.wrap ((IntKind.u64.wrap x1) * 2 ^ 1)); (let x3 : Int := (bits .or .u64 x2 (1 : Int)); ((cwire_Vary x3).bind fun x4 => (some x4))))) else (let x5 : Int := (IntKind.u64.wrap ((IntKind.u64.wrap x) * 2 ^ 1)); ((cwire_Vary x5).bind fun x6 => (some x6))))
def mwire_Signed (N : Nat) (x : Int) : Option (Y2) := nwire_Signed x
theorem jwire_Signed (N : Nat) (x : Int) : rise (Ewire_Signed) Twire_Signed 6 N Tryd.f27 [Z2] [Z3] [true] x = nwire_Signed x := by kernel_rfl
theorem lwire_Signed (N : Nat) (x : Int) : rise (Ewire_Signed) Twire_Signed 6 N Tryd.f27 [Z2] [Z3] [true] x = mwire_Signed N x := (jwire_Signed N x).trans rfl
def cwire_Signed (x : Int) : Option (Y2) := mwire_Signed big x
def Gwire_Signed : Fn2 := ⟨[Z2], [Z3], [true], fun x => cwire_Signed x⟩
theorem Lwire_Signed : Rises Tryd.prog 27 Gwire_Signed := rises_of (E := Ewire_Signed) ⟨tabOk, (fsCons2 Lwire_Vary fsNil2), fun _ _ _ => rfl, mixed, inlNil, rcsNil⟩ Tryd.func27 rfl (by decide) (by kernel_rfl) (by kernel_rfl) (by kernel_rfl) (by kernel_rfl) (fun x r _ h => ⟨Twire_Signed, 6, big, (lwire_Signed big x).trans h⟩)

def Twire_valid : LT := { live := [],keep := [(1,[]),(2,[1]),(3,[1]),(4,[1]),(5,[1]),(6,[1]),(7,[1]),(8,[1,7]),(9,[1,7]),(10,[1,7]),(11,[1]),(12,[1]),(13,[1,12]),(14,[1,12]),(15,[12,14]),(16,[12,14]),(17,[12,14]),(18,[12]),(19,[])] }
/-! ### wreckage/wire.valid -/
noncomputable def Ewire_valid : Env2 := { tab := tab, fs := [], inl := [] }
def nwire_valid (x : Y0) : Option (Bool) :=
  (bif (decide ((List.length x.1 : Int) ≤ (200000 : Int))) then (bif (decide (x.2.1 ≥ (0 : Int))) then (some (decide (x.2.1 ≤ (List.length x.1 : Int)))) else (some false)) else (some false))
def mwire_valid (N : Nat) (x : Y0) : Option (Bool) := nwire_valid x
theorem jwire_valid (N : Nat) (x : Y0) : rise (Ewire_valid) Twire_valid 6 N Tryd.f38 [Z1] [.bool] [false] x = nwire_valid x := by kernel_rfl
theorem lwire_valid (N : Nat) (x : Y0) : rise (Ewire_valid) Twire_valid 6 N Tryd.f38 [Z1] [.bool] [false] x = mwire_valid N x := (jwire_valid N x).trans rfl
def cwire_valid (x : Y0) : Option (Bool) := mwire_valid big x
def Gwire_valid : Fn2 := ⟨[Z1], [.bool], [false], fun x => cwire_valid x⟩
theorem Lwire_valid : Rises Tryd.prog 38 Gwire_valid := rises_of (E := Ewire_valid) ⟨tabOk, fsNil2, fun _ _ _ => rfl, mixed, inlNil, rcsNil⟩ Tryd.func38 rfl (by decide) (by kernel_rfl) (by kernel_rfl) (by kernel_rfl) (by kernel_rfl) (fun x r _ h => ⟨Twire_valid, 6, big, (lwire_valid big x).trans h⟩)

def Twire_isWidth : LT := { live := [],keep := [(2,[0]),(3,[0]),(4,[0]),(5,[0]),(6,[0,5]),(7,[0,5]),(8,[0]),(9,[0]),(10,[0,9]),(11,[0,9]),(12,[0]),(13,[0]),(14,[13]),(15,[13]),(16,[])] }
/-! ### wreckage/wire.isWidth -/
noncomputable def Ewire_isWidth : Env2 := { tab := tab, fs := [], inl := [] }
def nwire_isWidth (x : Int) : Option (Bool) :=
  (bif (x == (1 : Int)) then (some true) else (bif (x == (2 : Int)) then (some true) else (bif (x == (4 : Int)) then (some true) else (some (x == (8 : Int))))))
def mwire_isWidth (N : Nat) (x : Int) : Option (Bool) := nwire_isWidth x
theorem jwire_isWidth (N : Nat) (x : Int) : rise (Ewire_isWidth) Twire_isWidth 6 N Tryd.f39 [Z2] [.bool] [false] x = nwire_isWidth x := by kernel_rfl
theorem lwire_isWidth (N : Nat) (x : Int) : rise (Ewire_isWidth) Twire_isWidth 6 N Tryd.f39 [Z2] [.bool] [false] x = mwire_isWidth N x := (jwire_isWidth N x).trans rfl
def cwire_isWidth (x : Int) : Option (Bool) := mwire_isWidth big x
def Gwire_isWidth : Fn2 := ⟨[Z2], [.bool], [false], fun x => cwire_isWidth x⟩
theorem Lwire_isWidth : Rises Tryd.prog 39 Gwire_isWidth := rises_of (E := Ewire_isWidth) ⟨tabOk, fsNil2, fun _ _ _ => rfl, mixed, inlNil, rcsNil⟩ Tryd.func39 rfl (by decide) (by kernel_rfl) (by kernel_rfl) (by kernel_rfl) (by kernel_rfl) (fun x r _ h => ⟨Twire_isWidth, 6, big, (lwire_isWidth big x).trans h⟩)

def Twire_left : LT := { live := [],keep := [(1,[]),(2,[1]),(3,[1]),(4,[1]),(5,[1]),(6,[5]),(7,[5]),(8,[])] }
/-! ### wreckage/wire.left -/
noncomputable def Ewire_left : Env2 := { tab := tab, fs := [], inl := [] }
def nwire_left (x : Y0) : Option (Int) :=
  (let x1 : Int := (IntKind.i64.wrap ((List.length x.1 : Int) - x.2.1)); (some x1))
def mwire_left (N : Nat) (x : Y0) : Option (Int) := nwire_left x
theorem jwire_left (N : Nat) (x : Y0) : rise (Ewire_left) Twire_left 6 N Tryd.f40 [Z1] [Z2] [false] x = nwire_left x := by kernel_rfl
theorem lwire_left (N : Nat) (x : Y0) : rise (Ewire_left) Twire_left 6 N Tryd.f40 [Z1] [Z2] [false] x = mwire_left N x := (jwire_left N x).trans rfl
def cwire_left (x : Y0) : Option (Int) := mwire_left big x
def Gwire_left : Fn2 := ⟨[Z1], [Z2], [false], fun x => cwire_left x⟩
theorem Lwire_left : Rises Tryd.prog 40 Gwire_left := rises_of (E := Ewire_left) ⟨tabOk, fsNil2, fun _ _ _ => rfl, mixed, inlNil, rcsNil⟩ Tryd.func40 rfl (by decide) (by kernel_rfl) (by kernel_rfl) (by kernel_rfl) (by kernel_rfl) (fun x r _ h => ⟨Twire_left, 6, big, (lwire_left big x).trans h⟩)

def Twire_Unfixed : LT := { live := [(9,[1,2,4,7,22,23])],keep := [(2,[1]),(4,[1,2]),(5,[1,2,4]),(6,[1,2,4]),(7,[1,2,4]),(8,[1,2,4,7,22,23]),(9,[1,2,4]),(10,[1,2,4]),(11,[1,2,4]),(12,[4]),(13,[1,2,4]),(14,[1,2,4]),(15,[1,2,4]),(16,[4]),(17,[1,2,4]),(18,[1,2,4]),(19,[1,2,4,18]),(20,[1,2,4]),(21,[4]),(22,[1,2,4,7]),(23,[1,2,4,7,22]),(24,[1,2,4,7,22,23]),(25,[1,2,4,7,22,23]),(26,[1,2,4,8,22,23]),(27,[1,2,4,8,22,23,26]),(28,[1,2,4,8,22,23,26]),(29,[1,2,4,8,22,23,26,28]),(30,[1,2,4,8,22,23,26,28]),(31,[1,2,4,8,22,23,26,28,30]),(32,[1,2,4,8,22,23,26,28]),(33,[1,2,4,8,22,23,26]),(34,[1,2,4,8,22,23,26]),(35,[1,2,4,8,22,23,26]),(36,[1,2,4,22,23,26,35]),(37,[1,2,4,22,23,26,35]),(38,[1,2,4,22,23,26]),(39,[1,2,4,22,23]),(40,[1,2,4,7,22]),(41,[1,2,4,7]),(42,[1,2,4,7]),(43,[2,4,7,42]),(44,[2,4,7]),(45,[2,4,7,44]),(46,[4,7]),(47,[4,46])] }
/-! ### wreckage/wire.Unfixed -/
noncomputable def Ewire_Unfixed : Env2 := { tab := tab, fs := [(38, Gwire_valid), (39, Gwire_isWidth), (40, Gwire_left)], inl := [] }
noncomputable def ewire_Unfixed_0 (v : Int × Int × Int × Int × Y0 × (Int × Unit) × Y2) : St := { s := [(1, (.val ⟨Z2, v.1⟩)), (2, (.loc 0 [])), (4, (.loc 1 [])), (7, (.val ⟨(.int .u64), v.2.1⟩)), (22, (.val ⟨Z2, v.2.2.1⟩)), (23, (.val ⟨Z2, v.2.2.2.1⟩))], l := [(0, .var Z1 (.val ⟨Z1, v.2.2.2.2.1⟩)), (1, .var Z1 (.pair (.row 2) (.val ⟨(.pair Z2 .unit), v.2.2.2.2.2.1⟩))), (2, .row Z4 v.2.2.2.2.2.2)], k := [], b := 4096 }
def hwire_Unfixed_0 (self0 : Int × Int × Int × Int × Y0 × (Int × Unit) × Y2 → Option Y3) (v : Int × Int × Int × Int × Y0 × (Int × Unit) × Y2) : Option Y3 :=
  (bif (decide (v.2.2.2.1 < v.2.2.1)) then (let x7 : Int := (IntKind.i64.wrap (v.2.2.2.2.1.2.1 + v.2.2.2.1)); ((getI v.2.2.2.2.1.1 x7).bind fun x8 => (let x9 : Int := (IntKind.i64.wrap ((8 : Int) * v.2.2.2.1)); (bif (decide (x9 < 0)) then none else (let x10 : Int := (IntKind.u64.wrap ((IntKind.u64.wrap x8) * 2 ^ (min (Int.toNat x9) 64))); (let x11 : Int := (bits .or .u64 v.2.1 x10); (let x12 : Int := (IntKind.i64.wrap (v.2.2.2.1 + (1 : Int))); (self0 (v.1, x11, v.2.2.1, x12, v.2.2.2.2.1, v.2.2.2.2.2.1, v.2.2.2.2.2.2))))))))) else (let x13 : Int := (IntKind.i64.wrap (v.2.2.2.2.1.2.1 + v.1)); (let x14 : Y0 := (v.2.2.2.2.1.1, (x13, v.2.2.2.2.1.2.2)); (some (x14, v.2.1, (0 : Int))))))
def gwire_Unfixed_0 (N : Nat) (self0 : Int × Int × Int × Int × Y0 × (Int × Unit) × Y2 → Option Y3) (v : Int × Int × Int × Int × Y0 × (Int × Unit) × Y2) : Option Y3 := hwire_Unfixed_0 self0 v
theorem kwire_Unfixed_0 (N : Nat) (s0 : St → Option Y3) (v) : (floc (Ewire_Unfixed) Twire_Unfixed 6 N Tryd.f31 [Z1, (.int .u64), Z2] [false, false, false] [] 0 nowhereR) s0 (ewire_Unfixed_0 v) = hwire_Unfixed_0 (fun v => s0 (ewire_Unfixed_0 v)) v := by kernel_rfl
theorem bwire_Unfixed_0 (N : Nat) (s0 : St → Option Y3) (v) : (floc (Ewire_Unfixed) Twire_Unfixed 6 N Tryd.f31 [Z1, (.int .u64), Z2] [false, false, false] [] 0 nowhereR) s0 (ewire_Unfixed_0 v) = gwire_Unfixed_0 N (fun v => s0 (ewire_Unfixed_0 v)) v := kwire_Unfixed_0 N s0 v
def nwire_Unfixed (loop0 : Int × Int × Int × Int × Y0 × (Int × Unit) × Y2 → Option Y3) (x : Y0 × Int) : Option Y3 :=
  ((cwire_valid x.1).bind fun x1 => (bif (!x1) then (let x2 : Y0 := (([] : Y2), ((0 : Int), ())); (some (x2, (0 : Int), (8 : Int)))) else ((cwire_isWidth x.2).bind fun x3 => (bif (!x3) then (let x4 : Y0 := (([] : Y2), ((0 : Int), ())); (some (x4, (0 : Int), (2 : Int)))) else ((cwire_left x.1).bind fun x5 => (bif (decide (x5 < x.2)) then (let x6 : Y0 := (([] : Y2), ((0 : Int), ())); (some (x6, (0 : Int), (24 : Int)))) else (loop0 (x.2, (0 : Int), x.2, (0 : Int), x.1, ((0 : Int), ()), ([] : List Int)))))))))
def mwire_Unfixed (N : Nat) (x : Y0 × Int) : Option Y3 := nwire_Unfixed (iterV (gwire_Unfixed_0 N) N) x
theorem jwire_Unfixed (N : Nat) (x : Y0 × Int) : rise (Ewire_Unfixed) Twire_Unfixed 6 N Tryd.f31 [Z1, Z2] [Z1, (.int .u64), Z2] [false, false, false] x = nwire_Unfixed (fun v => iterR (floc (Ewire_Unfixed) Twire_Unfixed 6 N Tryd.f31 [Z1, (.int .u64), Z2] [false, false, false] [] 0 nowhereR) N (ewire_Unfixed_0 v)) x := by kernel_rfl
theorem lwire_Unfixed (N : Nat) (x : Y0 × Int) : rise (Ewire_Unfixed) Twire_Unfixed 6 N Tryd.f31 [Z1, Z2] [Z1, (.int .u64), Z2] [false, false, false] x = mwire_Unfixed N x := (jwire_Unfixed N x).trans (by rw [funext (iterR_eq ewire_Unfixed_0 (bwire_Unfixed_0 N) N)]; rfl)
def cwire_Unfixed (x : Y0 × Int) : Option Y3 := mwire_Unfixed big x
def Gwire_Unfixed : Fn2 := ⟨[Z1, Z2], [Z1, (.int .u64), Z2], [false, false, false], fun x => cwire_Unfixed x⟩
theorem Lwire_Unfixed : Rises Tryd.prog 31 Gwire_Unfixed := rises_of (E := Ewire_Unfixed) ⟨tabOk, (fsCons2 Lwire_valid (fsCons2 Lwire_isWidth (fsCons2 Lwire_left fsNil2))), fun _ _ _ => rfl, mixed, inlNil, rcsNil⟩ Tryd.func31 rfl (by decide) (by kernel_rfl) (by kernel_rfl) (by kernel_rfl) (by kernel_rfl) (fun x r _ h => ⟨Twire_Unfixed, 6, big, (lwire_Unfixed big x).trans h⟩)

def Twire_taker_1 : LT := { live := [],keep := [(1,[0]),(2,[0]),(3,[0]),(4,[0]),(5,[0]),(6,[0]),(7,[0]),(8,[0]),(9,[0]),(10,[0]),(11,[0]),(12,[0]),(13,[0,12]),(14,[0,12]),(15,[0,12]),(16,[0,12]),(17,[0]),(18,[0]),(19,[3]),(20,[3,19]),(21,[3,19]),(22,[3,19]),(23,[3,19]),(24,[3,23]),(25,[3,23]),(26,[])] }


def Twire_taker : LT := { live := [],keep := [(1,[]),(2,[1]),(3,[])] }


def Twire_minimal : LT := { live := [(3,[0,4,10])],keep := [(2,[0]),(3,[0]),(4,[0]),(5,[0,4,10]),(6,[0,4,5,10,17]),(7,[0,4,5,6,10]),(8,[0,4,5,6,10]),(9,[0,4,5,6,8,10]),(10,[0,4]),(11,[0,4,10]),(12,[0,4,10]),(13,[0,4,5,10]),(14,[0,4,5,10]),(15,[0,4,5,10]),(16,[0,4,5,10,13]),(17,[0,4,5,10,16]),(18,[0,4,5,6,10]),(19,[0,4,5,6,10]),(20,[0,4,5,6,10]),(21,[0,4,5,6,10]),(22,[0,4,5,6,10]),(23,[0,4,5,6,10,22]),(24,[0,4,5,6,10,22]),(25,[0,4,5,6,10]),(26,[0,4,5,6,8,10]),(27,[0,4,5,6,8,10]),(28,[0,4,5,6,8,10]),(29,[0,4,5,6,8,10,28]),(30,[0,4,5,6,8,10,28]),(31,[0,4,5,6,8,10]),(32,[0,4,5,6,9,10]),(33,[0,4,5,6,9,10]),(34,[0,4,5,6,10,33]),(35,[0,4,5,6,10]),(36,[0,5,6,10]),(37,[0,5,6,10,36]),(38,[0,5,6,10,36]),(39,[0,5,6,10,36]),(40,[0,6,10,36,39]),(41,[0,6,10,36,39]),(42,[0,6,10,36]),(43,[0,6,10]),(44,[0,4,10]),(45,[0,4,10]),(46,[]),(47,[0,4])] }


def Twire_Unvary : LT := { live := [],keep := [(2,[1]),(4,[1,2]),(5,[1,2,4]),(6,[1,2,4]),(7,[1,2,4,17]),(8,[1,2,4,7]),(9,[1,2,4]),(10,[1,2,4]),(11,[1,2,4]),(12,[4]),(13,[1,2,4]),(14,[1,2,4]),(15,[1,2,4]),(16,[1,2,4,13]),(17,[1,2,4,16]),(18,[1,2,4,7,8]),(19,[1,2,4,7,8]),(20,[4,8]),(21,[4,20]),(22,[1,2,4,7]),(23,[2,4,7,22]),(24,[2,4,7]),(25,[4]),(26,[4,7]),(27,[4,26])] }
/-! ### wreckage/wire.Unvary -/
noncomputable def Ewire_Unvary : Env2 := { tab := tab, fs := [(38, Gwire_valid), (40, Gwire_left)], inl := [(48, Tryd.f48, Twire_minimal), (49, Tryd.f49, Twire_taker), (51, Tryd.f51, Twire_taker_1)] }
noncomputable def ewire_Unvary_0 (v : Int × Int × Y0 × (Int × Unit) × Y2 × Int) : St := { s := [(0, (.clo 51 (.pair (.loc 0 []) .unit))), (4, (.val ⟨(.int .u64), v.1⟩)), (10, (.val ⟨Z2, v.2.1⟩))], l := [(0, .var (.ptr Z1) (.loc 1 [])), (1, .var Z1 (.val ⟨Z1, v.2.2.1⟩)), (2, .var Z1 (.pair (.row 3) (.val ⟨(.pair Z2 .unit), v.2.2.2.1⟩))), (3, .row Z4 v.2.2.2.2.1)], k := [(4096, [(1, (.val ⟨(.int .u64), v.2.2.2.2.2⟩)), (2, (.loc 1 [])), (4, (.loc 2 []))])], b := 16842752 }
def hwire_Unvary_0 (self0 : Int × Int × Y0 × (Int × Unit) × Y2 × Int → Option Y3) (v : Int × Int × Y0 × (Int × Unit) × Y2 × Int) : Option Y3 :=
  (bif (decide (v.2.1 < (10 : Int))) then ((cwire_left v.2.2.1).bind fun x3 => (bif (x3 == (0 : Int)) then (let x4 : Y0 := (([] : Y2), ((0 : Int), ())); (some (x4, (0 : Int), (24 : Int)))) else ((getI v.2.2.1.1 v.2.2.1.2.1).bind fun x5 => (let x6 : Int := (IntKind.i64.wrap (v.2.2.1.2.1 + (1 : Int))); (let x7 : Y0 := (v.2.2.1.1, (x6, v.2.2.1.2.2)); (bif (decide (v.2.1 > (0 : Int))) then (bif (v.2.1 == (9 : Int)) then (bif (x5 == (0 : Int)) then (let x8 : Y0 := (([] : Y2), ((0 : Int), ())); (some (x8, (0 : Int), (12 : Int)))) else (bif (decide (x5 > (1 : Int))) then (let x9 : Y0 := (([] : Y2), ((0 : Int), ())); (some (x9, (0 : Int), (12 : Int)))) else (let x10 : Int := (IntKind.u64.wrap (x5.tmod (128 : Int))); (let x11 : Int := (IntKind.i64.wrap ((7 : Int) * v.2.1)); (bif (decide (x11 < 0)) then none else (let x12 : Int := (IntKind.u64.wrap (x10 * 2 ^ (min (Int.toNat x11) 64))); (bif (decide (x5 < (128 : Int))) then (bif (decide ((bits .or .u64 v.1 x12) > v.2.2.2.2.2)) then (let x13 : Y0 := (([] : Y2), ((0 : Int), ())); (some (x13, (0 : Int), (4 : Int)))) else (some (x7, (bits .or .u64 v.1 x12), (0 : Int)))) else (let x14 : Int := (IntKind.i64.wrap (v.2.1 + (1 : Int))); (self0 ((bits .or .u64 v.1 x12), x14, x7, v.2.2.2.1, v.2.2.2.2.1, v.2.2.2.2.2)))))))))) else (bif (x5 == (0 : Int)) then (let x15 : Y0 := (([] : Y2), ((0 : Int), ())); (some (x15, (0 : Int), (12 : Int)))) else (let x16 : Int := (IntKind.u64.wrap (x5.tmod (128 : Int))); (let x17 : Int := (IntKind.i64.wrap ((7 : Int) * v.2.1)); (bif (decide (x17 < 0)) then none else (let x18 : Int := (IntKind.u64.wrap (x16 * 2 ^ (min (Int.toNat x17) 64))); (bif (decide (x5 < (128 : Int))) then (bif (decide ((bits .or .u64 v.1 x18) > v.2.2.2.2.2)) then (let x19 : Y0 := (([] : Y2), ((0 : Int), ())); (some (x19, (0 : Int), (4 : Int)))) else (some (x7, (bits .or .u64 v.1 x18), (0 : Int)))) else (let x20 : Int := (IntKind.i64.wrap (v.2.1 + (1 : Int))); (self0 ((bits .or .u64 v.1 x18), x20, x7, v.2.2.2.1, v.2.2.2.2.1, v.2.2.2.2.2)))))))))) else (bif (v.2.1 == (9 : Int)) then (bif (decide (x5 > (1 : Int))) then (let x21 : Y0 := (([] : Y2), ((0 : Int), ())); (some (x21, (0 : Int), (12 : Int)))) else (let x22 : Int := (IntKind.u64.wrap (x5.tmod (128 : Int))); (let x23 : Int := (IntKind.i64.wrap ((7 : Int) * v.2.1)); (bif (decide (x23 < 0)) then none else (let x24 : Int := (IntKind.u64.wrap (x22 * 2 ^ (min (Int.toNat x23) 64))); (bif (decide (x5 < (128 : Int))) then (bif (decide ((bits .or .u64 v.1 x24) > v.2.2.2.2.2)) then (let x25 : Y0 := (([] : Y2), ((0 : Int), ())); (some (x25, (0 : Int), (4 : Int)))) else (some (x7, (bits .or .u64 v.1 x24), (0 : Int)))) else (let x26 : Int := (IntKind.i64.wrap (v.2.1 + (1 : Int))); (self0 ((bits .or .u64 v.1 x24), x26, x7, v.2.2.2.1, v.2.2.2.2.1, v.2.2.2.2.2))))))))) else (let x27 : Int := (IntKind.u64.wrap (x5.tmod (128 : Int))); (let x28 : Int := (IntKind.i64.wrap ((7 : Int) * v.2.1)); (bif (decide (x28 < 0)) then none else (let x29 : Int := (IntKind.u64.wrap (x27 * 2 ^ (min (Int.toNat x28) 64))); (bif (decide (x5 < (128 : Int))) then (bif (decide ((bits .or .u64 v.1 x29) > v.2.2.2.2.2)) then (let x30 : Y0 := (([] : Y2), ((0 : Int), ())); (some (x30, (0 : Int), (4 : Int)))) else (some (x7, (bits .or .u64 v.1 x29), (0 : Int)))) else (let x31 : Int := (IntKind.i64.wrap (v.2.1 + (1 : Int))); (self0 ((bits .or .u64 v.1 x29), x31, x7, v.2.2.2.1, v.2.2.2.2.1, v.2.2.2.2.2))))))))))))))) else (let x32 : Y0 := (([] : Y2), ((0 : Int), ())); (some (x32, (0 : Int), (12 : Int)))))
def gwire_Unvary_0 (N : Nat) (self0 : Int × Int × Y0 × (Int × Unit) × Y2 × Int → Option Y3) (v : Int × Int × Y0 × (Int × Unit) × Y2 × Int) : Option Y3 := hwire_Unvary_0 self0 v
theorem kwire_Unvary_0 (N : Nat) (s0 : St → Option Y3) (v) : (floc (Ewire_Unvary) Twire_Unvary 6 N Tryd.f42 [Z1, (.int .u64), Z2] [false, false, false] [(3, 1, 48)] 0 nowhereR) s0 (ewire_Unvary_0 v) = hwire_Unvary_0 (fun v => s0 (ewire_Unvary_0 v)) v := by kernel_rfl
theorem bwire_Unvary_0 (N : Nat) (s0 : St → Option Y3) (v) : (floc (Ewire_Unvary) Twire_Unvary 6 N Tryd.f42 [Z1, (.int .u64), Z2] [false, false, false] [(3, 1, 48)] 0 nowhereR) s0 (ewire_Unvary_0 v) = gwire_Unvary_0 N (fun v => s0 (ewire_Unvary_0 v)) v := kwire_Unvary_0 N s0 v
def nwire_Unvary (loop0 : Int × Int × Y0 × (Int × Unit) × Y2 × Int → Option Y3) (x : Y0 × Int) : Option Y3 :=
  ((cwire_valid x.1).bind fun x1 => (bif (!x1) then (let x2 : Y0 := (([] : Y2), ((0 : Int), ())); (some (x2, (0 : Int), (8 : Int)))) else (loop0 ((0 : Int), (0 : Int), x.1, ((0 : Int), ()), ([] : List Int), x.2))))
def mwire_Unvary (N : Nat) (x : Y0 × Int) : Option Y3 := nwire_Unvary (iterV (gwire_Unvary_0 N) N) x
theorem jwire_Unvary (N : Nat) (x : Y0 × Int) : rise (Ewire_Unvary) Twire_Unvary 6 N Tryd.f42 [Z1, (.int .u64)] [Z1, (.int .u64), Z2] [false, false, false] x = nwire_Unvary (fun v => iterR (floc (Ewire_Unvary) Twire_Unvary 6 N Tryd.f42 [Z1, (.int .u64), Z2] [false, false, false] [(3, 1, 48)] 0 nowhereR) N (ewire_Unvary_0 v)) x := by kernel_rfl
theorem lwire_Unvary (N : Nat) (x : Y0 × Int) : rise (Ewire_Unvary) Twire_Unvary 6 N Tryd.f42 [Z1, (.int .u64)] [Z1, (.int .u64), Z2] [false, false, false] x = mwire_Unvary N x := (jwire_Unvary N x).trans (by rw [funext (iterR_eq ewire_Unvary_0 (bwire_Unvary_0 N) N)]; rfl)
def cwire_Unvary (x : Y0 × Int) : Option Y3 := mwire_Unvary big x
def Gwire_Unvary : Fn2 := ⟨[Z1, (.int .u64)], [Z1, (.int .u64), Z2], [false, false, false], fun x => cwire_Unvary x⟩
theorem Lwire_Unvary : Rises Tryd.prog 42 Gwire_Unvary := rises_of (E := Ewire_Unvary) ⟨tabOk, (fsCons2 Lwire_valid (fsCons2 Lwire_left fsNil2)), fun _ _ _ => rfl, mixed, (inlCons (inlB_of Tryd.func48 rfl rfl (by kernel_rfl)) (inlCons (inlB_of Tryd.func49 rfl rfl (by kernel_rfl)) (inlCons (inlB_of Tryd.func51 rfl rfl (by kernel_rfl)) inlNil))), rcsNil⟩ Tryd.func42 rfl (by decide) (by kernel_rfl) (by kernel_rfl) (by kernel_rfl) (by kernel_rfl) (fun x r _ h => ⟨Twire_Unvary, 6, big, (lwire_Unvary big x).trans h⟩)

def Twire_Unsigned : LT := { live := [],keep := [(1,[]),(2,[1]),(3,[1,2]),(4,[1,2]),(5,[2,12,13,14]),(6,[2,5,14]),(7,[2,5,6]),(8,[2,5,6]),(9,[2]),(10,[2]),(11,[2]),(12,[2,9]),(13,[2,9,12]),(14,[2,12,13]),(15,[2,5,6,7]),(16,[2,5,6,7]),(17,[2,7]),(18,[2,17]),(19,[2,5,6]),(20,[2,5,6]),(21,[2,5,6]),(22,[2,5,8]),(23,[2,5,8]),(24,[2,5,8]),(25,[2,8]),(26,[2,25]),(27,[2,25]),(28,[2,8]),(29,[2,28])] }
/-! ### wreckage/wire.Unsigned -/
noncomputable def Ewire_Unsigned : Env2 := { tab := tab, fs := [(42, Gwire_Unvary)], inl := [] }
def nwire_Unsigned (x : Y0) : Option Y3 :=
  ((cwire_Unvary (x, (18446744073709551615 : Int))).bind fun x1 => (bif (x1.2.2 != (0 : Int)) then (let x2 : Y0 := (([] : Y2), ((0 : Int), ())); (some (x2, (0 : Int), x1.2.2))) else (let x3 : Int := (IntKind.i64.wrap (x1.2.1.fdiv (2 ^ 1))); (let x4 : Int := (bits .and .u64 x1.2.1 (1 : Int)); (bif (x4 == (1 : Int)) then (let x5 : Int := (bits .xor .i64 (if IntKind.signed .i64 then -1 else IntKind.max .i64) x3); (some (x1.1, x5, (0 : Int)))) else (some (x1.1, x3, (0 : Int))))))))
def mwire_Unsigned (N : Nat) (x : Y0) : Option Y3 := nwire_Unsigned x
theorem jwire_Unsigned (N : Nat) (x : Y0) : rise (Ewire_Unsigned) Twire_Unsigned 6 N Tryd.f41 [Z1] [Z1, Z2, Z2] [false, false, false] x = nwire_Unsigned x := by kernel_rfl
theorem lwire_Unsigned (N : Nat) (x : Y0) : rise (Ewire_Unsigned) Twire_Unsigned 6 N Tryd.f41 [Z1] [Z1, Z2, Z2] [false, false, false] x = mwire_Unsigned N x := (jwire_Unsigned N x).trans rfl
def cwire_Unsigned (x : Y0) : Option Y3 := mwire_Unsigned big x
def Gwire_Unsigned : Fn2 := ⟨[Z1], [Z1, Z2, Z2], [false, false, false], fun x => cwire_Unsigned x⟩
theorem Lwire_Unsigned : Rises Tryd.prog 41 Gwire_Unsigned := rises_of (E := Ewire_Unsigned) ⟨tabOk, (fsCons2 Lwire_Unvary fsNil2), fun _ _ _ => rfl, mixed, inlNil, rcsNil⟩ Tryd.func41 rfl (by decide) (by kernel_rfl) (by kernel_rfl) (by kernel_rfl) (by kernel_rfl) (fun x r _ h => ⟨Twire_Unsigned, 6, big, (lwire_Unsigned big x).trans h⟩)

end Go.Proofs.YtinhcjeilebooaaDoor
