/- Functions of the program, read as plain functions: each equation is checked by the kernel. -/
import Derived.Test.YtmioekkonoehpaaRiP
import Derived.Test.YtmioekkonoehpaaRiR
import Derived.Test.YtmioekkonoehpaaProg
import Derived.KernelRfl
set_option linter.unusedVariables false
set_option maxRecDepth 100000
namespace Go.Proofs.Ytmioekkonoehpaa
open Go.Lift
def tab : List (TypeId × Ty) := [(3, (.int .i64)), (4, .bool), (5, (.int .u8)), (9, .str), (23, (.pair (.int .i64) (.pair (.int .i64) (.pair (.int .i64) (.pair (.int .i64) .unit))))), (24, (.slice (.pair (.int .i64) (.pair (.int .i64) (.pair (.int .i64) (.pair (.int .i64) .unit)))))), (25, (.slice (.pair (.slice (.int .i64)) (.pair (.pair (.int .i64) (.pair (.int .i64) (.pair (.int .i64) (.pair (.int .i64) .unit)))) .unit)))), (26, (.slice (.int .i64))), (28, (.pair (.slice (.int .i64)) (.pair (.pair (.int .i64) (.pair (.int .i64) (.pair (.int .i64) (.pair (.int .i64) .unit)))) .unit))), (30, (.slice (.int .u8))), (31, (.int .i64)), (59, (.arr 5 (.int .i64))), (62, (.int .u64)), (66, (.pair (.slice (.int .u8)) (.pair (.int .i64) .unit))), (68, (.pair (.pair (.slice (.int .u8)) (.pair (.int .i64) .unit)) (.pair .bool .unit))), (72, (.arr 10 (.int .u8))), (73, (.int .u64)), (75, (.ptr (.pair (.pair (.slice (.int .u8)) (.pair (.int .i64) .unit)) (.pair .bool .unit)))), (79, (.slice (.slice (.int .u8)))), (87, .fn), (89, (.ptr (.pair (.slice (.int .u8)) (.pair (.int .i64) .unit))))]
theorem mixed : Try.prog.follows .mixedOrders = true := by kernel_rfl
theorem tabOk : TabOk Try.prog tab := tabOk_of (by kernel_rfl) (by kernel_rfl) (by kernel_rfl)
abbrev Y0 : Type := (List Int) × ((Int × (Int × (Int × (Int × Unit)))) × Unit)
abbrev Y1 : Type := List Int
abbrev Y2 : Type := Int × (Int × (Int × (Int × Unit)))
abbrev Y3 : Type := Y1 × (Int × Unit)
abbrev Y4 : Type := Y3 × (Bool × Unit)
abbrev Y5 : Type := Y3 × Int × Int
abbrev Y6 : Type := Int × Unit
abbrev Y7 : Type := Y2 × Unit
abbrev Y8 : Type := List Y1
abbrev Y9 : Type := List Y0
abbrev Y10 : Type := Y1 × Int
abbrev Y11 : Type := Y0 × Int
abbrev Z0 : Ty := .pair (.slice (.int .i64)) (.pair (.pair (.int .i64) (.pair (.int .i64) (.pair (.int .i64) (.pair (.int .i64) .unit)))) .unit)
abbrev Z1 : Ty := .pair (.slice (.int .u8)) (.pair (.int .i64) .unit)
abbrev Z2 : Ty := .int .i64
abbrev Z3 : Ty := .slice (.int .u8)
abbrev Z4 : Ty := .pair Z2 (.pair Z2 (.pair Z2 (.pair Z2 .unit)))
abbrev Z5 : Ty := .int .u64
abbrev Y12 : Type := Int × Int × Y4 × Y7 × Y1 × Y7 × Y1 × Y7 × Y1 × Y1
abbrev Y13 : Type := Int × Int × Y3 × Y6 × Y1 × Int
abbrev Y14 : Type := Int × Int × Int × Y3 × Y6 × Y1
abbrev Y15 : Type := Y8 × Int × Y8 × Int × Int
abbrev Y16 : Type := Y1 × Int × Y0 × Y1
def Twire_taker_1 : LT := { live := [],keep := [] }


def Twire_taker : LT := { live := [],keep := [] }


def Twire_minimal : LT := { live := [(3,[0,4,10])],keep := [(15,[0,4,5,10])] }


def Tscript_reader_number : LT := { live := [],keep := [] }


def Tscript_reader_script : LT := { live := [(8,[0,2,3,27,28])],keep := [] }


def Twire_joined : LT := { live := [(3,[0,3,9,10,11]),(9,[6,22,23,24])],keep := [] }
/-! ### wreckage/wire.joined -/
noncomputable def Ewire_joined (mk : (α : Type) → Nat → α → List α) : Env2 := { tab := tab, fs := [], inl := [], rep := mk }
noncomputable def ewire_joined_1 (v : Y8 × Int × Int × Y1) : St := ⟨[(6, (.row 0)), (22, (.val ⟨(.slice Z3), v.1⟩)), (23, (.val ⟨Z2, v.2.1⟩)), (24, (.val ⟨Z2, v.2.2.1⟩))], [(0, .row (.int .u8) v.2.2.2)], [], 4096⟩
noncomputable def ewire_joined_0 (v : Y15) : St := ⟨[(0, (.val ⟨(.slice Z3), v.1⟩)), (3, (.val ⟨Z2, v.2.1⟩)), (9, (.val ⟨(.slice Z3), v.2.2.1⟩)), (10, (.val ⟨Z2, v.2.2.2.1⟩)), (11, (.val ⟨Z2, v.2.2.2.2⟩))], [], [], 4096⟩
def hwire_joined_1 (mk : (α : Type) → Nat → α → List α) (self0 : Y15 → Option (Y1)) (self1 : Y8 × Int × Int × Y1 → Option (Y1)) (v : Y8 × Int × Int × Y1) : Option (Y1) :=
  (bif (decide (v.2.2.1 < v.2.1)) then ((getI v.1 v.2.2.1).bind fun x5 => (bif (Nat.ble 1 1 && Nat.ble (List.length v.2.2.2 + List.length x5) lim) then (let x6 : Int := (IntKind.i64.wrap (v.2.2.1 + (1 : Int))); (self1 (v.1, v.2.1, x6, (List.append v.2.2.2 x5)))) else none)) else (some v.2.2.2))
def gwire_joined_1 (mk : (α : Type) → Nat → α → List α) (N : Nat) (self0 : Y15 → Option (Y1)) (self1 : Y8 × Int × Int × Y1 → Option (Y1)) (v : Y8 × Int × Int × Y1) : Option (Y1) := hwire_joined_1 mk self0 self1 v
theorem bwire_joined_1 (mk : (α : Type) → Nat → α → List α) (N : Nat) (s0 : St → Option (Y1)) (s1) (v) : (floc (Ewire_joined mk) Twire_joined 6 N Try.f34 [Z3] [true] [] 1 nowhereR) s1 (ewire_joined_1 v) = gwire_joined_1 mk N (fun v => s0 (ewire_joined_0 v)) (fun v => s1 (ewire_joined_1 v)) v := by kernel_rfl
def hwire_joined_0 (mk : (α : Type) → Nat → α → List α) (loop1 : Y8 × Int × Int × Y1 → Option (Y1)) (self0 : Y15 → Option (Y1)) (v : Y15) : Option (Y1) :=
  (bif (decide (v.2.2.2.2 < v.2.2.2.1)) then ((getI v.2.2.1 v.2.2.2.2).bind fun x1 => (let x2 : Int := (IntKind.i64.wrap (v.2.1 + (List.length x1 : Int))); (let x3 : Int := (IntKind.i64.wrap (v.2.2.2.2 + (1 : Int))); (self0 (v.1, x2, v.2.2.1, v.2.2.2.1, x3))))) else (bif (decide (0 ≤ (0 : Int)) && (decide ((0 : Int) ≤ v.2.1) && (decide (v.2.1 ≤ 68719476736) && true))) then (let x4 : Y1 := (mk Int (Int.toNat (0 : Int)) (0 : Int)); (loop1 (v.1, (List.length v.1 : Int), (0 : Int), x4))) else none))
def gwire_joined_0 (mk : (α : Type) → Nat → α → List α) (N : Nat) (self0 : Y15 → Option (Y1)) (v : Y15) : Option (Y1) := hwire_joined_0 mk (iterV (gwire_joined_1 mk N self0) N) self0 v
theorem bwire_joined_0 (mk : (α : Type) → Nat → α → List α) (N : Nat) (s0) (v) : (floc (Ewire_joined mk) Twire_joined 6 N Try.f34 [Z3] [true] [] 0 nowhereR) s0 (ewire_joined_0 v) = gwire_joined_0 mk N (fun v => s0 (ewire_joined_0 v)) v := Eq.trans (b := hwire_joined_0 mk (fun v => iterR (floc (Ewire_joined mk) Twire_joined 6 N Try.f34 [Z3] [true] [] 1 nowhereR) N (ewire_joined_1 v)) (fun v => s0 (ewire_joined_0 v)) v) (by kernel_rfl) (by rw [funext (iterR_eq ewire_joined_1 (bwire_joined_1 mk N s0) N)]; rfl)
def nwire_joined (mk : (α : Type) → Nat → α → List α) (loop0 : Y15 → Option (Y1)) (x : Y8) : Option (Y1) :=
  (loop0 (x, (0 : Int), x, (List.length x : Int), (0 : Int)))
def mwire_joined (mk : (α : Type) → Nat → α → List α) (N : Nat) (x : Y8) : Option (Y1) := nwire_joined mk (iterV (gwire_joined_0 mk N) N) x
theorem lwire_joined (mk : (α : Type) → Nat → α → List α) (N : Nat) (x : Y8) : rise (Ewire_joined mk) Twire_joined 6 N Try.f34 [(.slice Z3)] [Z3] [true] x = mwire_joined mk N x := Eq.trans (b := nwire_joined mk (fun v => iterR (floc (Ewire_joined mk) Twire_joined 6 N Try.f34 [Z3] [true] [] 0 nowhereR) N (ewire_joined_0 v)) x) (by kernel_rfl) (by rw [funext (iterR_eq ewire_joined_0 (bwire_joined_0 mk N) N)]; rfl)
def cwire_joined (x : Y8) : Option (Y1) := mwire_joined (fun _ => List.replicate) big x
def Gwire_joined : Fn2 := ⟨[(.slice Z3)], [Z3], [true], fun x => cwire_joined x⟩
theorem Lwire_joined : Rises Try.prog 34 Gwire_joined := rzl (E := Ewire_joined (fun _ => List.replicate)) (mwire_joined (fun _ => List.replicate)) ⟨tabOk, fsNil2, fun _ _ _ => rfl, mixed, inlNil, rcsNil, owsNil⟩ Try.func34 (lwire_joined (fun _ => List.replicate))

def Twire_Vary : LT := { live := [(3,[0,3,4])],keep := [] }
/-! ### wreckage/wire.Vary -/
noncomputable def Ewire_Vary : Env2 := { tab := tab, fs := [(34, Gwire_joined)], inl := [] }
noncomputable def ewire_Vary_0 (v : Int × Int × Y1) : St := ⟨[(0, (.val ⟨Z5, v.1⟩)), (3, (.loc 0 [])), (4, (.val ⟨Z2, v.2.1⟩))], [(0, .var (.arr 10 (.int .u8)) (.val ⟨(.arr 10 (.int .u8)), v.2.2⟩))], [], 4096⟩
def hwire_Vary_0 (self0 : Int × Int × Y1 → Option (Y1)) (v : Int × Int × Y1) : Option (Y1) :=
  (bif (decide (v.1 ≥ (128 : Int))) then (let x1 : Int := (bits .or .u8 (IntKind.u8.wrap v.1) (128 : Int)); (bif (decide (0 ≤ v.2.1) && decide (v.2.1 < (10 : Int))) then (let x2 : Y1 := (List.set v.2.2 (Int.toNat v.2.1) x1); (let x3 : Int := (IntKind.i64.wrap (v.2.1 + (1 : Int))); (self0 ((v.1.fdiv (2 ^ 7)), x3, x2)))) else none)) else (bif (decide (0 ≤ v.2.1) && decide (v.2.1 < (10 : Int))) then (let x4 : Y1 := (List.set v.2.2 (Int.toNat v.2.1) (IntKind.u8.wrap v.1)); (let x5 : Int := (IntKind.i64.wrap (v.2.1 + (1 : Int))); (bif (decide (0 ≤ x5) && decide (x5 ≤ (List.length x4 : Int))) then (let x6 : Y1 := (List.take (Int.toNat x5) x4); (let x7 : Y8 := ([x6] : Y8); ((cwire_joined x7).bind fun x8 => (some x8)))) else none))) else none))
def gwire_Vary_0 (N : Nat) (self0 : Int × Int × Y1 → Option (Y1)) (v : Int × Int × Y1) : Option (Y1) := hwire_Vary_0 self0 v
theorem bwire_Vary_0 (N : Nat) (s0) (v) : (floc (Ewire_Vary) Twire_Vary 6 N Try.f27 [Z3] [true] [] 0 nowhereR) s0 (ewire_Vary_0 v) = gwire_Vary_0 N (fun v => s0 (ewire_Vary_0 v)) v := by kernel_rfl
def nwire_Vary (loop0 : Int × Int × Y1 → Option (Y1)) (x : Int) : Option (Y1) :=
  (loop0 (x, (0 : Int), (List.replicate 10 (0 : Int))))
def cwire_Vary (x : Int) : Option (Y1) := nwire_Vary (iterV (gwire_Vary_0 big) big) x
def Gwire_Vary : Fn2 := ⟨[Z5], [Z3], [true], fun x => cwire_Vary x⟩
theorem Lwire_Vary : Rises Try.prog 27 Gwire_Vary := rzl (E := Ewire_Vary) (lt := Twire_Vary) (lv := 6) (fun N x => nwire_Vary (iterV (gwire_Vary_0 N) N) x) ⟨tabOk, (fsCons2 Lwire_joined fsNil2), fun _ _ _ => rfl, mixed, inlNil, rcsNil, owsNil⟩ Try.func27 fun N x => Eq.trans (b := nwire_Vary (fun v => iterR (floc (Ewire_Vary) Twire_Vary 6 N Try.f27 [Z3] [true] [] 0 nowhereR) N (ewire_Vary_0 v)) x) (by kernel_rfl) (by rw [funext (iterR_eq ewire_Vary_0 (bwire_Vary_0 N) N)] <;> rfl)

def Twire_valid : LT := { live := [],keep := [] }
/-! ### wreckage/wire.valid -/
noncomputable def Ewire_valid : Env2 := { tab := tab, fs := [], inl := [] }
def nwire_valid (x : Y3) : Option (Bool) :=
  (bif (decide ((List.length x.1 : Int) ≤ (200000 : Int))) then (bif (decide (x.2.1 ≥ (0 : Int))) then (some (decide (x.2.1 ≤ (List.length x.1 : Int)))) else (some false)) else (some false))
def cwire_valid (x : Y3) : Option (Bool) := nwire_valid x
def Gwire_valid : Fn2 := ⟨[Z1], [.bool], [false], fun x => cwire_valid x⟩
theorem Lwire_valid : Rises Try.prog 41 Gwire_valid := rzl (E := Ewire_valid) (lt := Twire_valid) (lv := 6) (fun _ => cwire_valid) ⟨tabOk, fsNil2, fun _ _ _ => rfl, mixed, inlNil, rcsNil, owsNil⟩ Try.func41 fun N x => by kernel_rfl

def Twire_left : LT := { live := [],keep := [] }
/-! ### wreckage/wire.left -/
noncomputable def Ewire_left : Env2 := { tab := tab, fs := [], inl := [] }
def nwire_left (x : Y3) : Option (Int) :=
  (let x1 : Int := (IntKind.i64.wrap ((List.length x.1 : Int) - x.2.1)); (some x1))
def cwire_left (x : Y3) : Option (Int) := nwire_left x
def Gwire_left : Fn2 := ⟨[Z1], [Z2], [false], fun x => cwire_left x⟩
theorem Lwire_left : Rises Try.prog 46 Gwire_left := rzl (E := Ewire_left) (lt := Twire_left) (lv := 6) (fun _ => cwire_left) ⟨tabOk, fsNil2, fun _ _ _ => rfl, mixed, inlNil, rcsNil, owsNil⟩ Try.func46 fun N x => by kernel_rfl

def Twire_Unvary : LT := { live := [],keep := [(14,[1,2,4]),(15,[1,2,4])] }
/-! ### wreckage/wire.Unvary -/
noncomputable def Ewire_Unvary : Env2 := { tab := tab, fs := [(41, Gwire_valid), (46, Gwire_left)], inl := [(42, Try.f42, Twire_minimal), (43, Try.f43, Twire_taker), (45, Try.f45, Twire_taker_1)] }
noncomputable def ewire_Unvary_0 (v : Y13) : St := ⟨[(0, (.clo 45 (.pair (.loc 0 []) .unit))), (4, (.val ⟨Z5, v.1⟩)), (10, (.val ⟨Z2, v.2.1⟩))], [(0, .var (.ptr Z1) (.loc 1 [])), (1, .var Z1 (.val ⟨Z1, v.2.2.1⟩)), (2, .var Z1 (.pair (.row 3) (.val ⟨(.pair Z2 .unit), v.2.2.2.1⟩))), (3, .row (.int .u8) v.2.2.2.2.1)], [(4096, [(1, (.val ⟨Z5, v.2.2.2.2.2⟩)), (2, (.loc 1 [])), (4, (.loc 2 []))])], 16842752⟩
def hwire_Unvary_0 (self0 : Y13 → Option Y5) (v : Y13) : Option Y5 :=
  (bif (decide (v.2.1 < (10 : Int))) then ((cwire_left v.2.2.1).bind fun x3 => (bif (x3 == (0 : Int)) then (let x4 : Y3 := (([] : Y1), ((0 : Int), ())); (some (x4, (0 : Int), (24 : Int)))) else ((getI v.2.2.1.1 v.2.2.1.2.1).bind fun x5 => (let x6 : Int := (IntKind.i64.wrap (v.2.2.1.2.1 + (1 : Int))); (let x7 : Y3 := (v.2.2.1.1, (x6, v.2.2.1.2.2)); (bif (decide (v.2.1 > (0 : Int))) then (bif (v.2.1 == (9 : Int)) then (bif (x5 == (0 : Int)) then (let x8 : Y3 := (([] : Y1), ((0 : Int), ())); (some (x8, (0 : Int), (12 : Int)))) else (bif (decide (x5 > (1 : Int))) then (let x9 : Y3 := (([] : Y1), ((0 : Int), ())); (some (x9, (0 : Int), (12 : Int)))) else (let x10 : Int := (IntKind.u64.wrap (x5.tmod (128 : Int))); (let x11 : Int := (IntKind.i64.wrap ((7 : Int) * v.2.1)); (bif (decide (x11 < 0)) then none else (let x12 : Int := (IntKind.u64.wrap (x10 * 2 ^ (min (Int.toNat x11) 64))); (bif (decide (x5 < (128 : Int))) then (bif (decide ((bits .or .u64 v.1 x12) > v.2.2.2.2.2)) then (let x13 : Y3 := (([] : Y1), ((0 : Int), ())); (some (x13, (0 : Int), (4 : Int)))) else (some (x7, (bits .or .u64 v.1 x12), (0 : Int)))) else (let x14 : Int := (IntKind.i64.wrap (v.2.1 + (1 : Int))); (self0 ((bits .or .u64 v.1 x12), x14, x7, v.2.2.2.1, v.2.2.2.2.1, v.2.2.2.2.2)))))))))) else (bif (x5 == (0 : Int)) then (let x15 : Y3 := (([] : Y1), ((0 : Int), ())); (some (x15, (0 : Int), (12 : Int)))) else (let x16 : Int := (IntKind.u64.wrap (x5.tmod (128 : Int))); (let x17 : Int := (IntKind.i64.wrap ((7 : Int) * v.2.1)); (bif (decide (x17 < 0)) then none else (let x18 : Int := (IntKind.u64.wrap (x16 * 2 ^ (min (Int.toNat x17) 64))); (bif (decide (x5 < (128 : Int))) then (bif (decide ((bits .or .u64 v.1 x18) > v.2.2.2.2.2)) then (let x19 : Y3 := (([] : Y1), ((0 : Int), ())); (some (x19, (0 : Int), (4 : Int)))) else (some (x7, (bits .or .u64 v.1 x18), (0 : Int)))) else (let x20 : Int := (IntKind.i64.wrap (v.2.1 + (1 : Int))); (self0 ((bits .or .u64 v.1 x18), x20, x7, v.2.2.2.1, v.2.2.2.2.1, v.2.2.2.2.2)))))))))) else (bif (v.2.1 == (9 : Int)) then (bif (decide (x5 > (1 : Int))) then (let x21 : Y3 := (([] : Y1), ((0 : Int), ())); (some (x21, (0 : Int), (12 : Int)))) else (let x22 : Int := (IntKind.u64.wrap (x5.tmod (128 : Int))); (let x23 : Int := (IntKind.i64.wrap ((7 : Int) * v.2.1)); (bif (decide (x23 < 0)) then none else (let x24 : Int := (IntKind.u64.wrap (x22 * 2 ^ (min (Int.toNat x23) 64))); (bif (decide (x5 < (128 : Int))) then (bif (decide ((bits .or .u64 v.1 x24) > v.2.2.2.2.2)) then (let x25 : Y3 := (([] : Y1), ((0 : Int), ())); (some (x25, (0 : Int), (4 : Int)))) else (some (x7, (bits .or .u64 v.1 x24), (0 : Int)))) else (let x26 : Int := (IntKind.i64.wrap (v.2.1 + (1 : Int))); (self0 ((bits .or .u64 v.1 x24), x26, x7, v.2.2.2.1, v.2.2.2.2.1, v.2.2.2.2.2))))))))) else (let x27 : Int := (IntKind.u64.wrap (x5.tmod (128 : Int))); (let x28 : Int := (IntKind.i64.wrap ((7 : Int) * v.2.1)); (bif (decide (x28 < 0)) then none else (let x29 : Int := (IntKind.u64.wrap (x27 * 2 ^ (min (Int.toNat x28) 64))); (bif (decide (x5 < (128 : Int))) then (bif (decide ((bits .or .u64 v.1 x29) > v.2.2.2.2.2)) then (let x30 : Y3 := (([] : Y1), ((0 : Int), ())); (some (x30, (0 : Int), (4 : Int)))) else (some (x7, (bits .or .u64 v.1 x29), (0 : Int)))) else (let x31 : Int := (IntKind.i64.wrap (v.2.1 + (1 : Int))); (self0 ((bits .or .u64 v.1 x29), x31, x7, v.2.2.2.1, v.2.2.2.2.1, v.2.2.2.2.2))))))))))))))) else (let x32 : Y3 := (([] : Y1), ((0 : Int), ())); (some (x32, (0 : Int), (12 : Int)))))
def gwire_Unvary_0 (N : Nat) (self0 : Y13 → Option Y5) (v : Y13) : Option Y5 := hwire_Unvary_0 self0 v
theorem bwire_Unvary_0 (N : Nat) (s0) (v) : (floc (Ewire_Unvary) Twire_Unvary 6 N Try.f38 [Z1, Z5, Z2] [false, false, false] [.call 3 1 42] 0 nowhereR) s0 (ewire_Unvary_0 v) = gwire_Unvary_0 N (fun v => s0 (ewire_Unvary_0 v)) v := by kernel_rfl
def nwire_Unvary (loop0 : Y13 → Option Y5) (x : Y3 × Int) : Option Y5 :=
  ((cwire_valid x.1).bind fun x1 => (bif (!x1) then (let x2 : Y3 := (([] : Y1), ((0 : Int), ())); (some (x2, (0 : Int), (8 : Int)))) else (loop0 ((0 : Int), (0 : Int), x.1, ((0 : Int), ()), ([] : List Int), x.2))))
def cwire_Unvary (x : Y3 × Int) : Option Y5 := nwire_Unvary (iterV (gwire_Unvary_0 big) big) x
def Gwire_Unvary : Fn2 := ⟨[Z1, Z5], [Z1, Z5, Z2], [false, false, false], fun x => cwire_Unvary x⟩
theorem Lwire_Unvary : Rises Try.prog 38 Gwire_Unvary := rzl (E := Ewire_Unvary) (lt := Twire_Unvary) (lv := 6) (fun N x => nwire_Unvary (iterV (gwire_Unvary_0 N) N) x) ⟨tabOk, (fsCons2 Lwire_valid (fsCons2 Lwire_left fsNil2)), fun _ _ _ => rfl, mixed, (inlCons (inlB_of Try.func42 rfl rfl (by kernel_rfl)) (inlCons (inlB_of Try.func43 rfl rfl (by kernel_rfl)) (inlCons (inlB_of Try.func45 rfl rfl (by kernel_rfl)) inlNil))), rcsNil, owsNil⟩ Try.func38 fun N x => Eq.trans (b := nwire_Unvary (fun v => iterR (floc (Ewire_Unvary) Twire_Unvary 6 N Try.f38 [Z1, Z5, Z2] [false, false, false] [.call 3 1 42] 0 nowhereR) N (ewire_Unvary_0 v)) x) (by kernel_rfl) (by rw [funext (iterR_eq ewire_Unvary_0 (bwire_Unvary_0 N) N)] <;> rfl)

end Go.Proofs.Ytmioekkonoehpaa
