/- Functions of the program, read as plain functions: each equation is checked by the kernel. -/
import Derived.Test.YtlljcjapefljeaaRiP
import Derived.Test.YtlljcjapefljeaaRiR
import Derived.Test.YtlljcjapefljeaaProg
import Derived.KernelRfl
set_option linter.unusedVariables false
set_option maxRecDepth 100000
namespace Go.Proofs.Ytlljcjapefljeaa
open Go.Lift
def tab : List (TypeId × Ty) := [(3, (.int .i64)), (4, .bool), (5, (.int .u8)), (9, .str), (22, (.int .u64)), (24, (.pair (.int .i64) (.pair (.int .u64) .unit))), (25, (.slice (.pair (.int .i64) (.pair (.int .u64) .unit)))), (26, (.slice (.slice (.pair (.int .i64) (.pair (.int .u64) .unit))))), (27, (.int .i64)), (30, (.slice (.int .u64))), (33, (.slice (.int .u8))), (40, (.pair (.slice (.int .u8)) (.pair (.int .i64) .unit))), (65, .fn), (67, .fn), (83, (.int .u64)), (84, .fn), (85, (.arr 10 (.int .u8))), (89, .fn), (91, (.ptr (.pair (.slice (.int .u8)) (.pair (.int .i64) .unit)))), (94, (.slice (.slice (.int .u8))))]
theorem mixed : Try.prog.follows .mixedOrders = true := by kernel_rfl
theorem tabOk : TabOk Try.prog tab := tabOk_of (by kernel_rfl) (by kernel_rfl) (by kernel_rfl)
abbrev Y0 : Type := List (Int × (Int × Unit))
abbrev Y1 : Type := (List Int) × (Int × Unit)
abbrev Y2 : Type := List Int
abbrev Y3 : Type := Int × (Int × Unit)
abbrev Z0 : Ty := .slice (.pair (.int .i64) (.pair (.int .u64) .unit))
abbrev Z1 : Ty := .pair (.slice (.int .u8)) (.pair (.int .i64) .unit)
abbrev Z2 : Ty := .int .i64
abbrev Z3 : Ty := .int .u64
abbrev Z4 : Ty := .slice (.int .u8)
abbrev Z5 : Ty := .pair Z2 (.pair Z3 .unit)
abbrev Z6 : Ty := .slice Z3
abbrev Y4 : Type := Nat × Nat × Int × Int × Int × Y2 × Int × Y3 × Y0 × Int
abbrev Y5 : Type := Y0 × Int × Int
def Twire_joined : LT := { live := [(3,[0,3,9,10,11]),(9,[6,22,23,24])],keep := [(2,[0]),(3,[0]),(5,[0,3,9,10,11]),(6,[0]),(8,[6,22,23,24]),(9,[0,3]),(10,[0,3,9]),(11,[0,3,9,10]),(12,[0,3,9,10,11]),(13,[0,3,9,10,11]),(14,[0,3,9,10,11]),(15,[0,5,9,10,11]),(16,[0,9,10,11,15]),(17,[0,9,10,11,15]),(18,[0,9,10,11]),(19,[0,3,9,10]),(20,[0]),(21,[0]),(22,[6]),(23,[6,22]),(24,[6,22,23]),(25,[6,22,23,24]),(26,[6,22,23,24]),(27,[6,22,23,24]),(28,[8,22,23,24]),(29,[22,23,24,28]),(30,[22,23,24]),(31,[6,22,23]),(32,[])] }
/-! ### wreckage/wire.joined -/
noncomputable def Ewire_joined (mk : (α : Type) → Nat → α → List α) : Env2 := { tab := tab, fs := [], inl := [], rep := mk }
noncomputable def ewire_joined_1 (v : (List Y2) × Int × Int × Y2) : St := { s := [(6, (.row 0)), (22, (.val ⟨(.slice Z4), v.1⟩)), (23, (.val ⟨Z2, v.2.1⟩)), (24, (.val ⟨Z2, v.2.2.1⟩))], l := [(0, .row (.int .u8) v.2.2.2)], k := [], b := 4096 }
noncomputable def ewire_joined_0 (v : (List Y2) × Int × (List Y2) × Int × Int) : St := { s := [(0, (.val ⟨(.slice Z4), v.1⟩)), (3, (.val ⟨Z2, v.2.1⟩)), (9, (.val ⟨(.slice Z4), v.2.2.1⟩)), (10, (.val ⟨Z2, v.2.2.2.1⟩)), (11, (.val ⟨Z2, v.2.2.2.2⟩))], l := [], k := [], b := 4096 }
def hwire_joined_1 (mk : (α : Type) → Nat → α → List α) (self0 : (List Y2) × Int × (List Y2) × Int × Int → Option (Y2)) (self1 : (List Y2) × Int × Int × Y2 → Option (Y2)) (v : (List Y2) × Int × Int × Y2) : Option (Y2) :=
  (bif (decide (v.2.2.1 < v.2.1)) then ((getI v.1 v.2.2.1).bind fun x5 => (bif (Nat.ble 1 1 && Nat.ble (List.length v.2.2.2 + List.length x5) lim) then (let x6 : Int := (IntKind.i64.wrap (v.2.2.1 + (1 : Int))); (self1 (v.1, v.2.1, x6, (List.append v.2.2.2 x5)))) else none)) else (some v.2.2.2))
def gwire_joined_1 (mk : (α : Type) → Nat → α → List α) (N : Nat) (self0 : (List Y2) × Int × (List Y2) × Int × Int → Option (Y2)) (self1 : (List Y2) × Int × Int × Y2 → Option (Y2)) (v : (List Y2) × Int × Int × Y2) : Option (Y2) := hwire_joined_1 mk self0 self1 v
theorem kwire_joined_1 (mk : (α : Type) → Nat → α → List α) (N : Nat) (s0 : St → Option (Y2)) (s1 : St → Option (Y2)) (v) : (floc (Ewire_joined mk) Twire_joined 6 N Try.f45 [Z4] [true] [] 1 nowhereR) s1 (ewire_joined_1 v) = hwire_joined_1 mk (fun v => s0 (ewire_joined_0 v)) (fun v => s1 (ewire_joined_1 v)) v := by kernel_rfl
theorem bwire_joined_1 (mk : (α : Type) → Nat → α → List α) (N : Nat) (s0 : St → Option (Y2)) (s1 : St → Option (Y2)) (v) : (floc (Ewire_joined mk) Twire_joined 6 N Try.f45 [Z4] [true] [] 1 nowhereR) s1 (ewire_joined_1 v) = gwire_joined_1 mk N (fun v => s0 (ewire_joined_0 v)) (fun v => s1 (ewire_joined_1 v)) v := kwire_joined_1 mk N s0 s1 v
def hwire_joined_0 (mk : (α : Type) → Nat → α → List α) (loop1 : (List Y2) × Int × Int × Y2 → Option (Y2)) (self0 : (List Y2) × Int × (List Y2) × Int × Int → Option (Y2)) (v : (List Y2) × Int × (List Y2) × Int × Int) : Option (Y2) :=
  (bif (decide (v.2.2.2.2 < v.2.2.2.1)) then ((getI v.2.2.1 v.2.2.2.2).bind fun x1 => (let x2 : Int := (IntKind.i64.wrap (v.2.1 + (List.length x1 : Int))); (let x3 : Int := (IntKind.i64.wrap (v.2.2.2.2 + (1 : Int))); (self0 (v.1, x2, v.2.2.1, v.2.2.2.1, x3))))) else (bif (decide (0 ≤ (0 : Int)) && (decide ((0 : Int) ≤ v.2.1) && (decide (v.2.1 ≤ 68719476736) && true))) then (let x4 : Y2 := (mk Int (Int.toNat (0 : Int)) (0 : Int)); (loop1 (v.1, (List.length v.1 : Int), (0 : Int), x4))) else none))
def gwire_joined_0 (mk : (α : Type) → Nat → α → List α) (N : Nat) (self0 : (List Y2) × Int × (List Y2) × Int × Int → Option (Y2)) (v : (List Y2) × Int × (List Y2) × Int × Int) : Option (Y2) := hwire_joined_0 mk (iterV (gwire_joined_1 mk N self0) N) self0 v
theorem kwire_joined_0 (mk : (α : Type) → Nat → α → List α) (N : Nat) (s0 : St → Option (Y2)) (v) : (floc (Ewire_joined mk) Twire_joined 6 N Try.f45 [Z4] [true] [] 0 nowhereR) s0 (ewire_joined_0 v) = hwire_joined_0 mk (fun v => iterR (floc (Ewire_joined mk) Twire_joined 6 N Try.f45 [Z4] [true] [] 1 nowhereR) N (ewire_joined_1 v)) (fun v => s0 (ewire_joined_0 v)) v := by kernel_rfl
theorem bwire_joined_0 (mk : (α : Type) → Nat → α → List α) (N : Nat) (s0 : St → Option (Y2)) (v) : (floc (Ewire_joined mk) Twire_joined 6 N Try.f45 [Z4] [true] [] 0 nowhereR) s0 (ewire_joined_0 v) = gwire_joined_0 mk N (fun v => s0 (ewire_joined_0 v)) v := (kwire_joined_0 mk N s0 v).trans (by rw [funext (iterR_eq ewire_joined_1 (bwire_joined_1 mk N s0) N)]; rfl)
def nwire_joined (mk : (α : Type) → Nat → α → List α) (loop0 : (List Y2) × Int × (List Y2) × Int × Int → Option (Y2)) (x : (List Y2)) : Option (Y2) :=
  (loop0 (x, (0 : Int), x, (List.length x : Int), (0 : Int)))
def mwire_joined (mk : (α : Type) → Nat → α → List α) (N : Nat) (x : (List Y2)) : Option (Y2) := nwire_joined mk (iterV (gwire_joined_0 mk N) N) x
theorem jwire_joined (mk : (α : Type) → Nat → α → List α) (N : Nat) (x : (List Y2)) : rise (Ewire_joined mk) Twire_joined 6 N Try.f45 [(.slice Z4)] [Z4] [true] x = nwire_joined mk (fun v => iterR (floc (Ewire_joined mk) Twire_joined 6 N Try.f45 [Z4] [true] [] 0 nowhereR) N (ewire_joined_0 v)) x := by kernel_rfl
theorem lwire_joined (mk : (α : Type) → Nat → α → List α) (N : Nat) (x : (List Y2)) : rise (Ewire_joined mk) Twire_joined 6 N Try.f45 [(.slice Z4)] [Z4] [true] x = mwire_joined mk N x := (jwire_joined mk N x).trans (by rw [funext (iterR_eq ewire_joined_0 (bwire_joined_0 mk N) N)]; rfl)
def cwire_joined (x : (List Y2)) : Option (Y2) := mwire_joined (fun _ => List.replicate) big x
def Gwire_joined : Fn2 := ⟨[(.slice Z4)], [Z4], [true], fun x => cwire_joined x⟩
theorem Lwire_joined : Rises Try.prog 45 Gwire_joined := rises_of (E := Ewire_joined (fun _ => List.replicate)) ⟨tabOk, fsNil2, fun _ _ _ => rfl, mixed, inlNil, rcsNil⟩ Try.func45 rfl (by decide) (by kernel_rfl) (by kernel_rfl) (by kernel_rfl) (by kernel_rfl) (fun x r _ h => ⟨Twire_joined, 6, big, (lwire_joined (fun _ => List.replicate) big x).trans h⟩)

def Twire_Vary : LT := { live := [(3,[0,3,4])],keep := [(0,[3,4]),(2,[0]),(3,[0]),(4,[0,3]),(5,[0,3,4]),(6,[0,3,4]),(7,[0,3,4]),(8,[0,3,4,7]),(9,[0,3,4,7]),(10,[0,3,4,7]),(11,[0,3,4,10]),(12,[3,4]),(13,[3,4]),(14,[0,3]),(15,[0,3]),(16,[0,3,4]),(17,[3,4,16]),(18,[3,4,16]),(19,[3,4,18]),(20,[3]),(21,[3]),(22,[]),(23,[]),(24,[])] }
/-! ### wreckage/wire.Vary -/
noncomputable def Ewire_Vary : Env2 := { tab := tab, fs := [(45, Gwire_joined)], inl := [] }
noncomputable def ewire_Vary_0 (v : Int × Int × Y2) : St := { s := [(0, (.val ⟨Z3, v.1⟩)), (3, (.loc 0 [])), (4, (.val ⟨Z2, v.2.1⟩))], l := [(0, .var (.arr 10 (.int .u8)) (.val ⟨(.arr 10 (.int .u8)), v.2.2⟩))], k := [], b := 4096 }
def hwire_Vary_0 (self0 : Int × Int × Y2 → Option (Y2)) (v : Int × Int × Y2) : Option (Y2) :=
  (bif (decide (v.1 ≥ (128 : Int))) then (let x1 : Int := (bits .or .u8 (IntKind.u8.wrap v.1) (128 : Int)); (bif (decide (0 ≤ v.2.1) && decide (v.2.1 < (10 : Int))) then (let x2 : Y2 := (List.set v.2.2 (Int.toNat v.2.1) x1); (let x3 : Int := (IntKind.i64.wrap (v.2.1 + (1 : Int))); (self0 ((v.1.fdiv (2 ^ 7)), x3, x2)))) else none)) else (bif (decide (0 ≤ v.2.1) && decide (v.2.1 < (10 : Int))) then (let x4 : Y2 := (List.set v.2.2 (Int.toNat v.2.1) (IntKind.u8.wrap v.1)); (let x5 : Int := (IntKind.i64.wrap (v.2.1 + (1 : Int))); (bif (decide (0 ≤ x5) && decide (x5 ≤ (List.length x4 : Int))) then (let x6 : Y2 := (List.take (Int.toNat x5) x4); (let x7 : (List Y2) := ([x6] : (List Y2)); ((cwire_joined x7).bind fun x8 => (some x8)))) else none))) else none))
def gwire_Vary_0 (N : Nat) (self0 : Int × Int × Y2 → Option (Y2)) (v : Int × Int × Y2) : Option (Y2) := hwire_Vary_0 self0 v
theorem kwire_Vary_0 (N : Nat) (s0 : St → Option (Y2)) (v) : (floc (Ewire_Vary) Twire_Vary 6 N Try.f31 [Z4] [true] [] 0 nowhereR) s0 (ewire_Vary_0 v) = hwire_Vary_0 (fun v => s0 (ewire_Vary_0 v)) v := by kernel_rfl
theorem bwire_Vary_0 (N : Nat) (s0 : St → Option (Y2)) (v) : (floc (Ewire_Vary) Twire_Vary 6 N Try.f31 [Z4] [true] [] 0 nowhereR) s0 (ewire_Vary_0 v) = gwire_Vary_0 N (fun v => s0 (ewire_Vary_0 v)) v := kwire_Vary_0 N s0 v
def nwire_Vary (loop0 : Int × Int × Y2 → Option (Y2)) (x : Int) : Option (Y2) :=
  (loop0 (x, (0 : Int), (List.replicate 10 (0 : Int))))
def mwire_Vary (N : Nat) (x : Int) : Option (Y2) := nwire_Vary (iterV (gwire_Vary_0 N) N) x
theorem jwire_Vary (N : Nat) (x : Int) : rise (Ewire_Vary) Twire_Vary 6 N Try.f31 [Z3] [Z4] [true] x = nwire_Vary (fun v => iterR (floc (Ewire_Vary) Twire_Vary 6 N Try.f31 [Z4] [true] [] 0 nowhereR) N (ewire_Vary_0 v)) x := by kernel_rfl
theorem lwire_Vary (N : Nat) (x : Int) : rise (Ewire_Vary) Twire_Vary 6 N Try.f31 [Z3] [Z4] [true] x = mwire_Vary N x := (jwire_Vary N x).trans (by rw [funext (iterR_eq ewire_Vary_0 (bwire_Vary_0 N) N)]; rfl)
def cwire_Vary (x : Int) : Option (Y2) := mwire_Vary big x
def Gwire_Vary : Fn2 := ⟨[Z3], [Z4], [true], fun x => cwire_Vary x⟩
theorem Lwire_Vary : Rises Try.prog 31 Gwire_Vary := rises_of (E := Ewire_Vary) ⟨tabOk, (fsCons2 Lwire_joined fsNil2), fun _ _ _ => rfl, mixed, inlNil, rcsNil⟩ Try.func31 rfl (by decide) (by kernel_rfl) (by kernel_rfl) (by kernel_rfl) (by kernel_rfl) (fun x r _ h => ⟨Twire_Vary, 6, big, (lwire_Vary big x).trans h⟩)

def Twire_valid : LT := { live := [],keep := [(1,[]),(2,[1]),(3,[1]),(4,[1]),(5,[1]),(6,[1]),(7,[1]),(8,[1,7]),(9,[1,7]),(10,[1,7]),(11,[1]),(12,[1]),(13,[1,12]),(14,[1,12]),(15,[12,14]),(16,[12,14]),(17,[12,14]),(18,[12]),(19,[])] }
/-! ### wreckage/wire.valid -/
noncomputable def Ewire_valid : Env2 := { tab := tab, fs := [], inl := [] }
def nwire_valid (x : Y1) : Option (Bool) :=
  (bif (decide ((List.length x.1 : Int) ≤ (200000 : Int))) then (bif (decide (x.2.1 ≥ (0 : Int))) then (some (decide (x.2.1 ≤ (List.length x.1 : Int)))) else (some false)) else (some false))
def mwire_valid (N : Nat) (x : Y1) : Option (Bool) := nwire_valid x
theorem jwire_valid (N : Nat) (x : Y1) : rise (Ewire_valid) Twire_valid 6 N Try.f46 [Z1] [.bool] [false] x = nwire_valid x := by kernel_rfl
theorem lwire_valid (N : Nat) (x : Y1) : rise (Ewire_valid) Twire_valid 6 N Try.f46 [Z1] [.bool] [false] x = mwire_valid N x := (jwire_valid N x).trans rfl
def cwire_valid (x : Y1) : Option (Bool) := mwire_valid big x
def Gwire_valid : Fn2 := ⟨[Z1], [.bool], [false], fun x => cwire_valid x⟩
theorem Lwire_valid : Rises Try.prog 46 Gwire_valid := rises_of (E := Ewire_valid) ⟨tabOk, fsNil2, fun _ _ _ => rfl, mixed, inlNil, rcsNil⟩ Try.func46 rfl (by decide) (by kernel_rfl) (by kernel_rfl) (by kernel_rfl) (by kernel_rfl) (fun x r _ h => ⟨Twire_valid, 6, big, (lwire_valid big x).trans h⟩)

def Twire_left : LT := { live := [],keep := [(1,[]),(2,[1]),(3,[1]),(4,[1]),(5,[1]),(6,[5]),(7,[5]),(8,[])] }
/-! ### wreckage/wire.left -/
noncomputable def Ewire_left : Env2 := { tab := tab, fs := [], inl := [] }
def nwire_left (x : Y1) : Option (Int) :=
  (let x1 : Int := (IntKind.i64.wrap ((List.length x.1 : Int) - x.2.1)); (some x1))
def mwire_left (N : Nat) (x : Y1) : Option (Int) := nwire_left x
theorem jwire_left (N : Nat) (x : Y1) : rise (Ewire_left) Twire_left 6 N Try.f47 [Z1] [Z2] [false] x = nwire_left x := by kernel_rfl
theorem lwire_left (N : Nat) (x : Y1) : rise (Ewire_left) Twire_left 6 N Try.f47 [Z1] [Z2] [false] x = mwire_left N x := (jwire_left N x).trans rfl
def cwire_left (x : Y1) : Option (Int) := mwire_left big x
def Gwire_left : Fn2 := ⟨[Z1], [Z2], [false], fun x => cwire_left x⟩
theorem Lwire_left : Rises Try.prog 47 Gwire_left := rises_of (E := Ewire_left) ⟨tabOk, fsNil2, fun _ _ _ => rfl, mixed, inlNil, rcsNil⟩ Try.func47 rfl (by decide) (by kernel_rfl) (by kernel_rfl) (by kernel_rfl) (by kernel_rfl) (fun x r _ h => ⟨Twire_left, 6, big, (lwire_left big x).trans h⟩)

def Twire_Left : LT := { live := [],keep := [(1,[]),(2,[1]),(3,[1]),(4,[1]),(5,[1]),(6,[1]),(7,[]),(8,[])] }
/-! ### wreckage/wire.Left -/
noncomputable def Ewire_Left : Env2 := { tab := tab, fs := [(46, Gwire_valid), (47, Gwire_left)], inl := [] }
def nwire_Left (x : Y1) : Option (Int × Int) :=
  ((cwire_valid x).bind fun x1 => (bif (!x1) then (some ((0 : Int), (8 : Int))) else ((cwire_left x).bind fun x2 => (some (x2, (0 : Int))))))
def mwire_Left (N : Nat) (x : Y1) : Option (Int × Int) := nwire_Left x
theorem jwire_Left (N : Nat) (x : Y1) : rise (Ewire_Left) Twire_Left 6 N Try.f34 [Z1] [Z2, Z2] [false, false] x = nwire_Left x := by kernel_rfl
theorem lwire_Left (N : Nat) (x : Y1) : rise (Ewire_Left) Twire_Left 6 N Try.f34 [Z1] [Z2, Z2] [false, false] x = mwire_Left N x := (jwire_Left N x).trans rfl
def cwire_Left (x : Y1) : Option (Int × Int) := mwire_Left big x
def Gwire_Left : Fn2 := ⟨[Z1], [Z2, Z2], [false, false], fun x => cwire_Left x⟩
theorem Lwire_Left : Rises Try.prog 34 Gwire_Left := rises_of (E := Ewire_Left) ⟨tabOk, (fsCons2 Lwire_valid (fsCons2 Lwire_left fsNil2)), fun _ _ _ => rfl, mixed, inlNil, rcsNil⟩ Try.func34 rfl (by decide) (by kernel_rfl) (by kernel_rfl) (by kernel_rfl) (by kernel_rfl) (fun x r _ h => ⟨Twire_Left, 6, big, (lwire_Left big x).trans h⟩)

def Twire_taker_1 : LT := { live := [],keep := [(1,[0]),(2,[0]),(3,[0]),(4,[0]),(5,[0]),(6,[0]),(7,[0]),(8,[0]),(9,[0]),(10,[0]),(11,[0]),(12,[0]),(13,[0,12]),(14,[0,12]),(15,[0,12]),(16,[0,12]),(17,[0]),(18,[0]),(19,[3]),(20,[3,19]),(21,[3,19]),(22,[3,19]),(23,[3,19]),(24,[3,23]),(25,[3,23]),(26,[])] }


def Twire_taker : LT := { live := [],keep := [(1,[]),(2,[1]),(3,[])] }


def Twire_minimal : LT := { live := [(3,[0,4,10])],keep := [(2,[0]),(3,[0]),(4,[0]),(5,[0,4,10]),(6,[0,4,5,10,17]),(7,[0,4,5,6,10]),(8,[0,4,5,6,10]),(9,[0,4,5,6,8,10]),(10,[0,4]),(11,[0,4,10]),(12,[0,4,10]),(13,[0,4,5,10]),(14,[0,4,5,10]),(15,[0,4,5,10]),(16,[0,4,5,10,13]),(17,[0,4,5,10,16]),(18,[0,4,5,6,10]),(19,[0,4,5,6,10]),(20,[0,4,5,6,10]),(21,[0,4,5,6,10]),(22,[0,4,5,6,10]),(23,[0,4,5,6,10,22]),(24,[0,4,5,6,10,22]),(25,[0,4,5,6,10]),(26,[0,4,5,6,8,10]),(27,[0,4,5,6,8,10]),(28,[0,4,5,6,8,10]),(29,[0,4,5,6,8,10,28]),(30,[0,4,5,6,8,10,28]),(31,[0,4,5,6,8,10]),(32,[0,4,5,6,9,10]),(33,[0,4,5,6,9,10]),(34,[0,4,5,6,10,33]),(35,[0,4,5,6,10]),(36,[0,5,6,10]),(37,[0,5,6,10,36]),(38,[0,5,6,10,36]),(39,[0,5,6,10,36]),(40,[0,6,10,36,39]),(41,[0,6,10,36,39]),(42,[0,6,10,36]),(43,[0,6,10]),(44,[0,4,10]),(45,[0,4,10]),(46,[]),(47,[0,4])] }


def Twire_Unvary : LT := { live := [],keep := [(2,[1]),(4,[1,2]),(5,[1,2,4]),(6,[1,2,4]),(7,[1,2,4,17]),(8,[1,2,4,7]),(9,[1,2,4]),(10,[1,2,4]),(11,[1,2,4]),(12,[4]),(13,[1,2,4]),(14,[1,2,4]),(15,[1,2,4]),(16,[1,2,4,13]),(17,[1,2,4,16]),(18,[1,2,4,7,8]),(19,[1,2,4,7,8]),(20,[4,8]),(21,[4,20]),(22,[1,2,4,7]),(23,[2,4,7,22]),(24,[2,4,7]),(25,[4]),(26,[4,7]),(27,[4,26])] }
/-! ### wreckage/wire.Unvary -/
noncomputable def Ewire_Unvary : Env2 := { tab := tab, fs := [(46, Gwire_valid), (47, Gwire_left)], inl := [(48, Try.f48, Twire_minimal), (49, Try.f49, Twire_taker), (52, Try.f52, Twire_taker_1)] }
noncomputable def ewire_Unvary_0 (v : Int × Int × Y1 × (Int × Unit) × Y2 × Int) : St := { s := [(0, (.clo 52 (.pair (.loc 0 []) .unit))), (4, (.val ⟨Z3, v.1⟩)), (10, (.val ⟨Z2, v.2.1⟩))], l := [(0, .var (.ptr Z1) (.loc 1 [])), (1, .var Z1 (.val ⟨Z1, v.2.2.1⟩)), (2, .var Z1 (.pair (.row 3) (.val ⟨(.pair Z2 .unit), v.2.2.2.1⟩))), (3, .row (.int .u8) v.2.2.2.2.1)], k := [(4096, [(1, (.val ⟨Z3, v.2.2.2.2.2⟩)), (2, (.loc 1 [])), (4, (.loc 2 []))])], b := 16842752 }
def hwire_Unvary_0 (self0 : Int × Int × Y1 × (Int × Unit) × Y2 × Int → Option (Y1 × Int × Int)) (v : Int × Int × Y1 × (Int × Unit) × Y2 × Int) : Option (Y1 × Int × Int) :=
  (bif (decide (v.2.1 < (10 : Int))) then ((cwire_left v.2.2.1).bind fun x3 => (bif (x3 == (0 : Int)) then (let x4 : Y1 := (([] : Y2), ((0 : Int), ())); (some (x4, (0 : Int), (24 : Int)))) else ((getI v.2.2.1.1 v.2.2.1.2.1).bind fun x5 => (let x6 : Int := (IntKind.i64.wrap (v.2.2.1.2.1 + (1 : Int))); (let x7 : Y1 := (v.2.2.1.1, (x6, v.2.2.1.2.2)); (bif (decide (v.2.1 > (0 : Int))) then (bif (v.2.1 == (9 : Int)) then (bif (x5 == (0 : Int)) then (let x8 : Y1 := (([] : Y2), ((0 : Int), ())); (some (x8, (0 : Int), (12 : Int)))) else (bif (decide (x5 > (1 : Int))) then (let x9 : Y1 := (([] : Y2), ((0 : Int), ())); (some (x9, (0 : Int), (12 : Int)))) else (let x10 : Int := (IntKind.u64.wrap (x5.tmod (128 : Int))); (let x11 : Int := (IntKind.i64.wrap ((7 : Int) * v.2.1)); (bif (decide (x11 < 0)) then none else (let x12 : Int := (IntKind.u64.wrap (x10 * 2 ^ (min (Int.toNat x11) 64))); (bif (decide (x5 < (128 : Int))) then (bif (decide ((bits .or .u64 v.1 x12) > v.2.2.2.2.2)) then (let x13 : Y1 := (([] : Y2), ((0 : Int), ())); (some (x13, (0 : Int), (4 : Int)))) else (some (x7, (bits .or .u64 v.1 x12), (0 : Int)))) else (let x14 : Int := (IntKind.i64.wrap (v.2.1 + (1 : Int))); (self0 ((bits .or .u64 v.1 x12), x14, x7, v.2.2.2.1, v.2.2.2.2.1, v.2.2.2.2.2)))))))))) else (bif (x5 == (0 : Int)) then (let x15 : Y1 := (([] : Y2), ((0 : Int), ())); (some (x15, (0 : Int), (12 : Int)))) else (let x16 : Int := (IntKind.u64.wrap (x5.tmod (128 : Int))); (let x17 : Int := (IntKind.i64.wrap ((7 : Int) * v.2.1)); (bif (decide (x17 < 0)) then none else (let x18 : Int := (IntKind.u64.wrap (x16 * 2 ^ (min (Int.toNat x17) 64))); (bif (decide (x5 < (128 : Int))) then (bif (decide ((bits .or .u64 v.1 x18) > v.2.2.2.2.2)) then (let x19 : Y1 := (([] : Y2), ((0 : Int), ())); (some (x19, (0 : Int), (4 : Int)))) else (some (x7, (bits .or .u64 v.1 x18), (0 : Int)))) else (let x20 : Int := (IntKind.i64.wrap (v.2.1 + (1 : Int))); (self0 ((bits .or .u64 v.1 x18), x20, x7, v.2.2.2.1, v.2.2.2.2.1, v.2.2.2.2.2)))))))))) else (bif (v.2.1 == (9 : Int)) then (bif (decide (x5 > (1 : Int))) then (let x21 : Y1 := (([] : Y2), ((0 : Int), ())); (some (x21, (0 : Int), (12 : Int)))) else (let x22 : Int := (IntKind.u64.wrap (x5.tmod (128 : Int))); (let x23 : Int := (IntKind.i64.wrap ((7 : Int) * v.2.1)); (bif (decide (x23 < 0)) then none else (let x24 : Int := (IntKind.u64.wrap (x22 * 2 ^ (min (Int.toNat x23) 64))); (bif (decide (x5 < (128 : Int))) then (bif (decide ((bits .or .u64 v.1 x24) > v.2.2.2.2.2)) then (let x25 : Y1 := (([] : Y2), ((0 : Int), ())); (some (x25, (0 : Int), (4 : Int)))) else (some (x7, (bits .or .u64 v.1 x24), (0 : Int)))) else (let x26 : Int := (IntKind.i64.wrap (v.2.1 + (1 : Int))); (self0 ((bits .or .u64 v.1 x24), x26, x7, v.2.2.2.1, v.2.2.2.2.1, v.2.2.2.2.2))))))))) else (let x27 : Int := (IntKind.u64.wrap (x5.tmod (128 : Int))); (let x28 : Int := (IntKind.i64.wrap ((7 : Int) * v.2.1)); (bif (decide (x28 < 0)) then none else (let x29 : Int := (IntKind.u64.wrap (x27 * 2 ^ (min (Int.toNat x28) 64))); (bif (decide (x5 < (128 : Int))) then (bif (decide ((bits .or .u64 v.1 x29) > v.2.2.2.2.2)) then (let x30 : Y1 := (([] : Y2), ((0 : Int), ())); (some (x30, (0 : Int), (4 : Int)))) else (some (x7, (bits .or .u64 v.1 x29), (0 : Int)))) else (let x31 : Int := (IntKind.i64.wrap (v.2.1 + (1 : Int))); (self0 ((bits .or .u64 v.1 x29), x31, x7, v.2.2.2.1, v.2.2.2.2.1, v.2.2.2.2.2))))))))))))))) else (let x32 : Y1 := (([] : Y2), ((0 : Int), ())); (some (x32, (0 : Int), (12 : Int)))))
def gwire_Unvary_0 (N : Nat) (self0 : Int × Int × Y1 × (Int × Unit) × Y2 × Int → Option (Y1 × Int × Int)) (v : Int × Int × Y1 × (Int × Unit) × Y2 × Int) : Option (Y1 × Int × Int) := hwire_Unvary_0 self0 v
theorem kwire_Unvary_0 (N : Nat) (s0 : St → Option (Y1 × Int × Int)) (v) : (floc (Ewire_Unvary) Twire_Unvary 6 N Try.f35 [Z1, Z3, Z2] [false, false, false] [.call 3 1 48] 0 nowhereR) s0 (ewire_Unvary_0 v) = hwire_Unvary_0 (fun v => s0 (ewire_Unvary_0 v)) v := by kernel_rfl
theorem bwire_Unvary_0 (N : Nat) (s0 : St → Option (Y1 × Int × Int)) (v) : (floc (Ewire_Unvary) Twire_Unvary 6 N Try.f35 [Z1, Z3, Z2] [false, false, false] [.call 3 1 48] 0 nowhereR) s0 (ewire_Unvary_0 v) = gwire_Unvary_0 N (fun v => s0 (ewire_Unvary_0 v)) v := kwire_Unvary_0 N s0 v
def nwire_Unvary (loop0 : Int × Int × Y1 × (Int × Unit) × Y2 × Int → Option (Y1 × Int × Int)) (x : Y1 × Int) : Option (Y1 × Int × Int) :=
  ((cwire_valid x.1).bind fun x1 => (bif (!x1) then (let x2 : Y1 := (([] : Y2), ((0 : Int), ())); (some (x2, (0 : Int), (8 : Int)))) else (loop0 ((0 : Int), (0 : Int), x.1, ((0 : Int), ()), ([] : List Int), x.2))))
def mwire_Unvary (N : Nat) (x : Y1 × Int) : Option (Y1 × Int × Int) := nwire_Unvary (iterV (gwire_Unvary_0 N) N) x
theorem jwire_Unvary (N : Nat) (x : Y1 × Int) : rise (Ewire_Unvary) Twire_Unvary 6 N Try.f35 [Z1, Z3] [Z1, Z3, Z2] [false, false, false] x = nwire_Unvary (fun v => iterR (floc (Ewire_Unvary) Twire_Unvary 6 N Try.f35 [Z1, Z3, Z2] [false, false, false] [.call 3 1 48] 0 nowhereR) N (ewire_Unvary_0 v)) x := by kernel_rfl
theorem lwire_Unvary (N : Nat) (x : Y1 × Int) : rise (Ewire_Unvary) Twire_Unvary 6 N Try.f35 [Z1, Z3] [Z1, Z3, Z2] [false, false, false] x = mwire_Unvary N x := (jwire_Unvary N x).trans (by rw [funext (iterR_eq ewire_Unvary_0 (bwire_Unvary_0 N) N)]; rfl)
def cwire_Unvary (x : Y1 × Int) : Option (Y1 × Int × Int) := mwire_Unvary big x
def Gwire_Unvary : Fn2 := ⟨[Z1, Z3], [Z1, Z3, Z2], [false, false, false], fun x => cwire_Unvary x⟩
theorem Lwire_Unvary : Rises Try.prog 35 Gwire_Unvary := rises_of (E := Ewire_Unvary) ⟨tabOk, (fsCons2 Lwire_valid (fsCons2 Lwire_left fsNil2)), fun _ _ _ => rfl, mixed, (inlCons (inlB_of Try.func48 rfl rfl (by kernel_rfl)) (inlCons (inlB_of Try.func49 rfl rfl (by kernel_rfl)) (inlCons (inlB_of Try.func52 rfl rfl (by kernel_rfl)) inlNil))), rcsNil⟩ Try.func35 rfl (by decide) (by kernel_rfl) (by kernel_rfl) (by kernel_rfl) (by kernel_rfl) (fun x r _ h => ⟨Twire_Unvary, 6, big, (lwire_Unvary big x).trans h⟩)

end Go.Proofs.Ytlljcjapefljeaa
