/- Functions of the program, read as plain functions: each equation is checked by the kernel. -/
import Derived.Test.YtlmhokakghbciaaRiP
import Derived.Test.YtlmhokakghbciaaRiR
import Derived.Test.YtlmhokakghbciaaProg
import Derived.KernelRfl
set_option linter.unusedVariables false
set_option maxRecDepth 100000
namespace Go.Proofs.Ytlmhokakghbciaa
open Go.Lift
def tab : List (TypeId × Ty) := [(3, (.int .i64)), (4, .bool), (5, (.int .u8)), (9, .str), (22, (.int .u64)), (23, (.slice (.int .u8))), (25, (.pair (.int .u64) (.pair (.slice (.int .u8)) .unit))), (28, (.int .i64)), (40, (.slice .str)), (43, (.slice (.int .u64))), (50, (.slice (.pair (.int .u64) (.pair (.slice (.int .u8)) .unit)))), (52, (.slice (.int .i64))), (70, (.pair (.pair (.int .u64) (.pair (.slice (.int .u8)) .unit)) (.pair (.int .i64) (.pair (.slice (.int .u64)) (.pair (.int .i64) .unit))))), (76, (.arr 8 (.int .u8))), (82, (.ptr (.pair (.pair (.int .u64) (.pair (.slice (.int .u8)) .unit)) (.pair (.int .i64) (.pair (.slice (.int .u64)) (.pair (.int .i64) .unit))))))]
theorem mixed : Try.prog.follows .mixedOrders = true := by kernel_rfl
theorem tabOk : TabOk Try.prog tab := tabOk_of (by kernel_rfl) (by kernel_rfl) (by kernel_rfl)
abbrev Y0 : Type := Int × ((List Int) × Unit)
abbrev Y1 : Type := List Int
abbrev Y2 : Type := List Y1
abbrev Y3 : Type := Y0 × Int × Int
abbrev Y4 : Type := Y0 × Y1 × Int
abbrev Z0 : Ty := .pair (.int .u64) (.pair (.slice (.int .u8)) .unit)
abbrev Z1 : Ty := .int .i64
abbrev Z2 : Ty := .int .u64
abbrev Z3 : Ty := .int .u8
abbrev Z4 : Ty := .slice .str
abbrev Y5 : Type := Int × Int × Y0 × Int × Unit × Y1 × Int × Y1 × Int × Unit × Y1 × Y0 × Int × Y1 × Y0 × Int × Int × Int × Int × Int × Int
abbrev Y6 : Type := Int × Int × Y0 × Int × Unit × Y1 × Int × Y1 × Int × Unit × Y1 × Y0 × Int × Unit × Y1 × Y1
abbrev Y7 : Type := Y1 × Int × Int × Y0 × Int × Unit × Y1 × Int × Y1
abbrev Y8 : Type := Y2 × Int × Bool × Y2 × Y1 × Y1 × Int × Y0 × Y0
abbrev Y9 : Type := Y1 × Int × Bool × Int × Int × Int × Y0 × Y0
abbrev Y10 : Type := Y1 × Int × Int × Y0 × Int × Unit × Y1 × Y0
abbrev Y11 : Type := Y2 × Int × Int × Int × Unit × Y1 × Y0 × Y1
abbrev Y12 : Type := Y2 × Int × Int × Int × Unit × Y1
abbrev Y13 : Type := Y1 × Int × Bool × Int × Int × Y0
abbrev Y14 : Type := Y2 × Int × Bool × Int × Y2
abbrev Y15 : Type := Y1 × Int × Y2 × Int × Y0
abbrev Y16 : Type := Y0 × Int × Int
def Tref13_Twin : LT := { live := [],keep := [] }


def Tref14_Grown : LT := { live := [(3,[1,2,4,6,7])],keep := [(9,[1,2,4])] }


def Tref14_Alloc : LT := { live := [],keep := [(35,[6])] }


def Tregion_part : LT := { live := [],keep := [] }


def Tbump_pile_put : LT := { live := [],keep := [] }


def Tregion_isBase : LT := { live := [],keep := [] }
/-! ### wreckage/region.isBase -/
noncomputable def Eregion_isBase : Env2 := { tab := tab, fs := [], inl := [] }
def nregion_isBase (x : Int) : Option (Bool) :=
  (bif ((x.tmod (8 : Int)) == (0 : Int)) then (bif (decide (x ≥ (8 : Int))) then (some (decide (x ≤ (1099511627776 : Int)))) else (some false)) else (some false))
def cregion_isBase (x : Int) : Option (Bool) := nregion_isBase x
def Gregion_isBase : Fn2 := ⟨[Z2], [.bool], [false], fun x => cregion_isBase x⟩
theorem Lregion_isBase : Rises Try.prog 46 Gregion_isBase := rzl (E := Eregion_isBase) (lt := Tregion_isBase) (lv := 6) (fun _ => cregion_isBase) ⟨tabOk, fsNil2, fun _ _ _ => rfl, mixed, inlNil, rcsNil, owsNil⟩ Try.func46 fun N x => by kernel_rfl

def Tregion_isCount : LT := { live := [],keep := [] }
/-! ### wreckage/region.isCount -/
noncomputable def Eregion_isCount : Env2 := { tab := tab, fs := [], inl := [] }
def nregion_isCount (x : Int) : Option (Bool) :=
  (bif (decide (x ≥ (0 : Int))) then (some (decide (x ≤ (20000 : Int)))) else (some false))
def cregion_isCount (x : Int) : Option (Bool) := nregion_isCount x
def Gregion_isCount : Fn2 := ⟨[Z1], [.bool], [false], fun x => cregion_isCount x⟩
theorem Lregion_isCount : Rises Try.prog 44 Gregion_isCount := rzl (E := Eregion_isCount) (lt := Tregion_isCount) (lv := 6) (fun _ => cregion_isCount) ⟨tabOk, fsNil2, fun _ _ _ => rfl, mixed, inlNil, rcsNil, owsNil⟩ Try.func44 fun N x => by kernel_rfl

def Tregion_Check : LT := { live := [],keep := [] }
/-! ### wreckage/region.Check -/
noncomputable def Eregion_Check : Env2 := { tab := tab, fs := [(44, Gregion_isCount), (46, Gregion_isBase)], inl := [] }
def nregion_Check (x : Y0) : Option (Int) :=
  ((cregion_isBase x.1).bind fun x1 => (bif (!x1) then (some (8 : Int)) else ((cregion_isCount (List.length x.2.1 : Int)).bind fun x2 => (bif (!x2) then (some (8 : Int)) else (some (0 : Int))))))
def cregion_Check (x : Y0) : Option (Int) := nregion_Check x
def Gregion_Check : Fn2 := ⟨[Z0], [Z1], [false], fun x => cregion_Check x⟩
theorem Lregion_Check : Rises Try.prog 37 Gregion_Check := rzl (E := Eregion_Check) (lt := Tregion_Check) (lv := 6) (fun _ => cregion_Check) ⟨tabOk, (fsCons2 Lregion_isCount (fsCons2 Lregion_isBase fsNil2)), fun _ _ _ => rfl, mixed, inlNil, rcsNil, owsNil⟩ Try.func37 fun N x => by kernel_rfl

def Tbump_isHeap : LT := { live := [],keep := [] }
/-! ### wreckage/bump.isHeap -/
noncomputable def Ebump_isHeap : Env2 := { tab := tab, fs := [(37, Gregion_Check)], inl := [] }
def nbump_isHeap (x : Y0) : Option (Bool) :=
  ((cregion_Check x).bind fun x1 => (bif (x1 == (0 : Int)) then (bif (x.1 == (65536 : Int)) then (let x2 : Int := ((List.length x.2.1 : Int).tmod (8 : Int)); (bif (x2 == (0 : Int)) then (some (decide ((List.length x.2.1 : Int) ≤ (16384 : Int)))) else (some false))) else (some false)) else (some false)))
def cbump_isHeap (x : Y0) : Option (Bool) := nbump_isHeap x
def Gbump_isHeap : Fn2 := ⟨[Z0], [.bool], [false], fun x => cbump_isHeap x⟩
theorem Lbump_isHeap : Rises Try.prog 43 Gbump_isHeap := rzl (E := Ebump_isHeap) (lt := Tbump_isHeap) (lv := 6) (fun _ => cbump_isHeap) ⟨tabOk, (fsCons2 Lregion_Check fsNil2), fun _ _ _ => rfl, mixed, inlNil, rcsNil, owsNil⟩ Try.func43 fun N x => by kernel_rfl

def Tbump_check : LT := { live := [],keep := [] }
/-! ### wreckage/bump.check -/
noncomputable def Ebump_check : Env2 := { tab := tab, fs := [(43, Gbump_isHeap)], inl := [] }
def nbump_check (x : Y0 × Int) : Option (Int) :=
  ((cbump_isHeap x.1).bind fun x1 => (bif (!x1) then (some (8 : Int)) else (bif (decide (x.2 < (0 : Int))) then (some (2 : Int)) else (bif (decide (x.2 > (16384 : Int))) then (some (2 : Int)) else (some (0 : Int))))))
def cbump_check (x : Y0 × Int) : Option (Int) := nbump_check x
def Gbump_check : Fn2 := ⟨[Z0, Z1], [Z1], [false], fun x => cbump_check x⟩
theorem Lbump_check : Rises Try.prog 29 Gbump_check := rzl (E := Ebump_check) (lt := Tbump_check) (lv := 6) (fun _ => cbump_check) ⟨tabOk, (fsCons2 Lbump_isHeap fsNil2), fun _ _ _ => rfl, mixed, inlNil, rcsNil, owsNil⟩ Try.func29 fun N x => by kernel_rfl

def Tbump_Room : LT := { live := [],keep := [] }
/-! ### wreckage/bump.Room -/
noncomputable def Ebump_Room : Env2 := { tab := tab, fs := [(29, Gbump_check)], inl := [] }
def nbump_Room (x : Y0 × Int) : Option (Int × Int) :=
  ((cbump_check (x.1, x.2)).bind fun x1 => (bif (x1 != (0 : Int)) then (some ((0 : Int), x1)) else (let x2 : Int := (IntKind.i64.wrap (x.2 - (List.length x.1.2.1 : Int))); (let x3 : Int := (if x2 > (0 : Int) then x2 else (0 : Int)); (let x4 : Int := (IntKind.i64.wrap (x3 - (x3.tmod (8 : Int)))); (some (x4, (0 : Int))))))))
def cbump_Room (x : Y0 × Int) : Option (Int × Int) := nbump_Room x
def Gbump_Room : Fn2 := ⟨[Z0, Z1], [Z1, Z1], [false, false], fun x => cbump_Room x⟩
theorem Lbump_Room : Rises Try.prog 11 Gbump_Room := rzl (E := Ebump_Room) (lt := Tbump_Room) (lv := 6) (fun _ => cbump_Room) ⟨tabOk, (fsCons2 Lbump_check fsNil2), fun _ _ _ => rfl, mixed, inlNil, rcsNil, owsNil⟩ Try.func11 fun N x => by kernel_rfl

def Tbump_size : LT := { live := [],keep := [] }
/-! ### wreckage/bump.size -/
noncomputable def Ebump_size : Env2 := { tab := tab, fs := [], inl := [] }
def nbump_size (x : Int) : Option (Int) :=
  (let x1 : Int := (IntKind.i64.wrap (x + (8 : Int))); (let x2 : Int := (IntKind.i64.wrap (x1 - (1 : Int))); (let x3 : Int := (IntKind.i64.wrap (x2.tdiv (8 : Int))); (let x4 : Int := (IntKind.i64.wrap (x3 * (8 : Int))); (let x5 : Int := (if x4 > (8 : Int) then x4 else (8 : Int)); (some x5))))))
def cbump_size (x : Int) : Option (Int) := nbump_size x
def Gbump_size : Fn2 := ⟨[Z1], [Z1], [false], fun x => cbump_size x⟩
theorem Lbump_size : Rises Try.prog 30 Gbump_size := rzl (E := Ebump_size) (lt := Tbump_size) (lv := 6) (fun _ => cbump_size) ⟨tabOk, fsNil2, fun _ _ _ => rfl, mixed, inlNil, rcsNil, owsNil⟩ Try.func30 fun N x => by kernel_rfl

def Tregion_first : LT := { live := [],keep := [] }
/-! ### wreckage/region.first -/
noncomputable def Eregion_first (mk : (α : Type) → Nat → α → List α) : Env2 := { tab := tab, fs := [], inl := [], rep := mk }
def nregion_first (mk : (α : Type) → Nat → α → List α) (x : Y1 × Int) : Option (Y1) :=
  (bif (decide (0 ≤ x.2) && (decide (x.2 ≤ x.2) && (decide (x.2 ≤ 68719476736) && true))) then (let x1 : Y1 := (mk Int (Int.toNat x.2) (0 : Int)); (let x2 : Y1 := (List.append (List.take 0 x1) (List.append (List.take ((List.length x1) - 0) x.1) (List.drop (0 + (Nat.min ((List.length x1) - 0) (List.length x.1))) x1))); (some x2))) else none)
def cregion_first (x : Y1 × Int) : Option (Y1) := nregion_first (fun _ => List.replicate) x
def Gregion_first : Fn2 := ⟨[(.slice Z3), Z1], [(.slice Z3)], [true], fun x => cregion_first x⟩
theorem Lregion_first : Rises Try.prog 42 Gregion_first := rzl (E := Eregion_first (fun _ => List.replicate)) (lt := Tregion_first) (lv := 6) (fun _ => cregion_first) ⟨tabOk, fsNil2, fun _ _ _ => rfl, mixed, inlNil, rcsNil, owsNil⟩ Try.func42 fun N x => by kernel_rfl

def Tregion_Resize : LT := { live := [],keep := [] }
/-! ### wreckage/region.Resize -/
noncomputable def Eregion_Resize : Env2 := { tab := tab, fs := [(37, Gregion_Check), (42, Gregion_first), (44, Gregion_isCount)], inl := [] }
def nregion_Resize (x : Y0 × Int) : Option (Y0 × Int) :=
  ((cregion_Check x.1).bind fun x1 => (bif (x1 != (0 : Int)) then (let x2 : Y0 := ((0 : Int), (([] : Y1), ())); (some (x2, x1))) else ((cregion_isCount x.2).bind fun x3 => (bif (!x3) then (let x4 : Y0 := ((0 : Int), (([] : Y1), ())); (some (x4, (2 : Int)))) else ((cregion_first (x.1.2.1, x.2)).bind fun x5 => (some ((x.1.1, (x5, x.1.2.2)), (0 : Int))))))))
def cregion_Resize (x : Y0 × Int) : Option (Y0 × Int) := nregion_Resize x
def Gregion_Resize : Fn2 := ⟨[Z0, Z1], [Z0, Z1], [false, false], fun x => cregion_Resize x⟩
theorem Lregion_Resize : Rises Try.prog 31 Gregion_Resize := rzl (E := Eregion_Resize) (lt := Tregion_Resize) (lv := 6) (fun _ => cregion_Resize) ⟨tabOk, (fsCons2 Lregion_Check (fsCons2 Lregion_first (fsCons2 Lregion_isCount fsNil2))), fun _ _ _ => rfl, mixed, inlNil, rcsNil, owsNil⟩ Try.func31 fun N x => by kernel_rfl

def Tbump_Alloc : LT := { live := [],keep := [] }
/-! ### wreckage/bump.Alloc -/
noncomputable def Ebump_Alloc : Env2 := { tab := tab, fs := [(11, Gbump_Room), (30, Gbump_size), (31, Gregion_Resize)], inl := [] }
def nbump_Alloc (x : Y16) : Option Y3 :=
  ((cbump_Room (x.1, x.2.2)).bind fun x1 => (bif (x1.2 != (0 : Int)) then (let x2 : Y0 := ((0 : Int), (([] : Y1), ())); (some (x2, (0 : Int), x1.2))) else (bif (decide (x.2.1 < (0 : Int))) then (let x3 : Y0 := ((0 : Int), (([] : Y1), ())); (some (x3, (0 : Int), (2 : Int)))) else (bif (decide (x.2.1 > (4096 : Int))) then (let x4 : Y0 := ((0 : Int), (([] : Y1), ())); (some (x4, (0 : Int), (2 : Int)))) else ((cbump_size x.2.1).bind fun x5 => (bif (decide (x5 > x1.1)) then (let x6 : Y0 := ((0 : Int), (([] : Y1), ())); (some (x6, (0 : Int), (18 : Int)))) else ((cbump_size x.2.1).bind fun x7 => (let x8 : Int := (IntKind.i64.wrap ((List.length x.1.2.1 : Int) + x7)); ((cregion_Resize (x.1, x8)).bind fun x9 => (bif (x9.2 != (0 : Int)) then (let x10 : Y0 := ((0 : Int), (([] : Y1), ())); (some (x10, (0 : Int), x9.2))) else (let x11 : Int := (IntKind.u64.wrap (List.length x.1.2.1 : Int)); (let x12 : Int := (IntKind.u64.wrap (x.1.1 + x11)); (some (x9.1, x12, (0 : Int)))))))))))))))
def cbump_Alloc (x : Y16) : Option Y3 := nbump_Alloc x
def Gbump_Alloc : Fn2 := ⟨[Z0, Z1, Z1], [Z0, Z2, Z1], [false, false, false], fun x => cbump_Alloc x⟩
theorem Lbump_Alloc : Rises Try.prog 13 Gbump_Alloc := rzl (E := Ebump_Alloc) (lt := Tbump_Alloc) (lv := 6) (fun _ => cbump_Alloc) ⟨tabOk, (fsCons2 Lbump_Room (fsCons2 Lbump_size (fsCons2 Lregion_Resize fsNil2))), fun _ _ _ => rfl, mixed, inlNil, rcsNil, owsNil⟩ Try.func13 fun N x => by kernel_rfl

def Tbump_New : LT := { live := [],keep := [] }
/-! ### wreckage/bump.New -/
noncomputable def Ebump_New : Env2 := { tab := tab, fs := [], inl := [] }
def nbump_New (x : Unit) : Option (Y0) :=
  (let x1 : Y0 := ((65536 : Int), (([] : Y1), ())); (some x1))
def cbump_New (x : Unit) : Option (Y0) := nbump_New x
def Gbump_New : Fn2 := ⟨[], [Z0], [false], fun x => cbump_New x⟩
theorem Lbump_New : Rises Try.prog 16 Gbump_New := rz (E := Ebump_New) (lt := Tbump_New) (lv := 6) (N := big) ⟨tabOk, fsNil2, fun _ _ _ => rfl, mixed, inlNil, rcsNil, owsNil⟩ Try.func16 fun x r => Eq.trans (b := cbump_New x) (by kernel_rfl)

def Tregion_end : LT := { live := [],keep := [] }
/-! ### wreckage/region.end -/
noncomputable def Eregion_end : Env2 := { tab := tab, fs := [], inl := [] }
def nregion_end (x : Y0) : Option (Int) :=
  (let x1 : Int := (IntKind.u64.wrap (List.length x.2.1 : Int)); (let x2 : Int := (IntKind.u64.wrap (x.1 + x1)); (some x2)))
def cregion_end (x : Y0) : Option (Int) := nregion_end x
def Gregion_end : Fn2 := ⟨[Z0], [Z2], [false], fun x => cregion_end x⟩
theorem Lregion_end : Rises Try.prog 47 Gregion_end := rzl (E := Eregion_end) (lt := Tregion_end) (lv := 6) (fun _ => cregion_end) ⟨tabOk, fsNil2, fun _ _ _ => rfl, mixed, inlNil, rcsNil, owsNil⟩ Try.func47 fun N x => by kernel_rfl

def Tregion_Write : LT := { live := [],keep := [(29,[2,3,6])] }
/-! ### wreckage/region.Write -/
noncomputable def Eregion_Write : Env2 := { tab := tab, fs := [(37, Gregion_Check), (42, Gregion_first), (47, Gregion_end)], inl := [(38, Try.f38, Tregion_part)] }
def nregion_Write (x : Y0 × Int × Y1) : Option (Y0 × Int) :=
  ((cregion_Check x.1).bind fun x1 => (bif (x1 != (0 : Int)) then (let x2 : Y0 := ((0 : Int), (([] : Y1), ())); (some (x2, x1))) else ((cregion_first (x.1.2.1, (List.length x.1.2.1 : Int))).bind fun x3 => (bif (decide (x.2.1 < x.1.1)) then (let x4 : Y0 := ((0 : Int), (([] : Y1), ())); (some (x4, (16 : Int)))) else ((cregion_end (x.1.1, (x3, x.1.2.2))).bind fun x5 => (bif (decide (x.2.1 > x5)) then (let x6 : Y0 := ((0 : Int), (([] : Y1), ())); (some (x6, (16 : Int)))) else (let x7 : Int := (IntKind.u64.wrap (x.2.1 - x.1.1)); (bif (decide (0 ≤ x7) && decide (x7 ≤ ((List.length x3) : Int))) then (bif (decide ((List.length x.2.2 : Int) > (List.length (List.drop (Int.toNat x7) (List.take (List.length x3) x3)) : Int))) then (let x8 : Y0 := ((0 : Int), (([] : Y1), ())); (some (x8, (16 : Int)))) else (bif (decide (0 ≤ (List.length x.2.2 : Int)) && decide ((List.length x.2.2 : Int) ≤ (((List.length x3) - (Int.toNat x7) : Nat) : Int))) then (let x9 : Y1 := (List.append (List.take ((Int.toNat x7) + 0 : Nat) x3) (List.append (List.take (((Int.toNat x7) + (Int.toNat (List.length x.2.2 : Int)) : Nat) - ((Int.toNat x7) + 0 : Nat)) x.2.2) (List.drop (((Int.toNat x7) + 0 : Nat) + (Nat.min (((Int.toNat x7) + (Int.toNat (List.length x.2.2 : Int)) : Nat) - ((Int.toNat x7) + 0 : Nat)) (List.length x.2.2))) x3))); (some ((x.1.1, (x9, x.1.2.2)), (0 : Int)))) else none)) else none))))))))
def cregion_Write (x : Y0 × Int × Y1) : Option (Y0 × Int) := nregion_Write x
def Gregion_Write : Fn2 := ⟨[Z0, Z2, (.slice Z3)], [Z0, Z1], [false, false], fun x => cregion_Write x⟩
theorem Lregion_Write : Rises Try.prog 34 Gregion_Write := rzl (E := Eregion_Write) (lt := Tregion_Write) (lv := 6) (fun _ => cregion_Write) ⟨tabOk, (fsCons2 Lregion_Check (fsCons2 Lregion_first (fsCons2 Lregion_end fsNil2))), fun _ _ _ => rfl, mixed, (inlCons (inlB_of Try.func38 rfl rfl (by kernel_rfl)) inlNil), rcsNil, owsNil⟩ Try.func34 fun N x => by kernel_rfl

def Tbump_Put : LT := { live := [],keep := [] }
/-! ### wreckage/bump.Put -/
noncomputable def Ebump_Put : Env2 := { tab := tab, fs := [(13, Gbump_Alloc), (34, Gregion_Write)], inl := [] }
def nbump_Put (x : Y0 × Y1 × Int) : Option Y3 :=
  ((cbump_Alloc (x.1, (List.length x.2.1 : Int), x.2.2)).bind fun x1 => (bif (x1.2.2 != (0 : Int)) then (let x2 : Y0 := ((0 : Int), (([] : Y1), ())); (some (x2, (0 : Int), x1.2.2))) else ((cregion_Write (x1.1, x1.2.1, x.2.1)).bind fun x3 => (bif (x3.2 != (0 : Int)) then (let x4 : Y0 := ((0 : Int), (([] : Y1), ())); (some (x4, (0 : Int), x3.2))) else (some (x3.1, x1.2.1, (0 : Int)))))))
def cbump_Put (x : Y0 × Y1 × Int) : Option Y3 := nbump_Put x
def Gbump_Put : Fn2 := ⟨[Z0, (.slice Z3), Z1], [Z0, Z2, Z1], [false, false, false], fun x => cbump_Put x⟩
theorem Lbump_Put : Rises Try.prog 18 Gbump_Put := rzl (E := Ebump_Put) (lt := Tbump_Put) (lv := 6) (fun _ => cbump_Put) ⟨tabOk, (fsCons2 Lbump_Alloc (fsCons2 Lregion_Write fsNil2)), fun _ _ _ => rfl, mixed, inlNil, rcsNil, owsNil⟩ Try.func18 fun N x => by kernel_rfl

def Tbump_checkTexts : LT := { live := [(7,[17,18,19])],keep := [] }
/-! ### wreckage/bump.checkTexts -/
noncomputable def Ebump_checkTexts : Env2 := { tab := tab, fs := [(16, Gbump_New), (29, Gbump_check)], inl := [] }
noncomputable def ebump_checkTexts_0 (v : Y2 × Int × Int) : St := ⟨[(17, (.val ⟨Z4, v.1⟩)), (18, (.val ⟨Z1, v.2.1⟩)), (19, (.val ⟨Z1, v.2.2⟩))], [], [], 4096⟩
def hbump_checkTexts_0 (self0 : Y2 × Int × Int → Option (Int)) (v : Y2 × Int × Int) : Option (Int) :=
  (bif (decide (v.2.2 < v.2.1)) then ((getI v.1 v.2.2).bind fun x3 => (bif (decide ((List.length x3 : Int) > (64 : Int))) then (some (2 : Int)) else (let x4 : Int := (IntKind.i64.wrap (v.2.2 + (1 : Int))); (self0 (v.1, v.2.1, x4))))) else (some (0 : Int)))
def gbump_checkTexts_0 (N : Nat) (self0 : Y2 × Int × Int → Option (Int)) (v : Y2 × Int × Int) : Option (Int) := hbump_checkTexts_0 self0 v
theorem bbump_checkTexts_0 (N : Nat) (s0) (v) : (floc (Ebump_checkTexts) Tbump_checkTexts 6 N Try.f35 [Z1] [false] [] 0 nowhereR) s0 (ebump_checkTexts_0 v) = gbump_checkTexts_0 N (fun v => s0 (ebump_checkTexts_0 v)) v := by kernel_rfl
def nbump_checkTexts (loop0 : Y2 × Int × Int → Option (Int)) (x : Y2 × Int) : Option (Int) :=
  ((cbump_New ()).bind fun x1 => ((cbump_check (x1, x.2)).bind fun x2 => (bif (x2 != (0 : Int)) then (some x2) else (bif (decide ((List.length x.1 : Int) > (32 : Int))) then (some (4 : Int)) else (loop0 (x.1, (List.length x.1 : Int), (0 : Int)))))))
def cbump_checkTexts (x : Y2 × Int) : Option (Int) := nbump_checkTexts (iterV (gbump_checkTexts_0 big) big) x
def Gbump_checkTexts : Fn2 := ⟨[Z4, Z1], [Z1], [false], fun x => cbump_checkTexts x⟩
theorem Lbump_checkTexts : Rises Try.prog 35 Gbump_checkTexts := rzl (E := Ebump_checkTexts) (lt := Tbump_checkTexts) (lv := 6) (fun N x => nbump_checkTexts (iterV (gbump_checkTexts_0 N) N) x) ⟨tabOk, (fsCons2 Lbump_New (fsCons2 Lbump_check fsNil2)), fun _ _ _ => rfl, mixed, inlNil, rcsNil, owsNil⟩ Try.func35 fun N x => Eq.trans (b := nbump_checkTexts (fun v => iterR (floc (Ebump_checkTexts) Tbump_checkTexts 6 N Try.f35 [Z1] [false] [] 0 nowhereR) N (ebump_checkTexts_0 v)) x) (by kernel_rfl) (by rw [funext (iterR_eq ebump_checkTexts_0 (bbump_checkTexts_0 N) N)] <;> rfl)

def Tregion_Has : LT := { live := [],keep := [(22,[])] }
/-! ### wreckage/region.Has -/
noncomputable def Eregion_Has : Env2 := { tab := tab, fs := [(37, Gregion_Check), (47, Gregion_end)], inl := [(38, Try.f38, Tregion_part)] }
def nregion_Has (x : Y16) : Option (Bool × Int) :=
  ((cregion_Check x.1).bind fun x1 => (bif (x1 != (0 : Int)) then (some (false, x1)) else (bif (decide (x.2.2 < (0 : Int))) then (some (false, (2 : Int))) else (bif (decide (x.2.1 < x.1.1)) then (some (false, (0 : Int))) else ((cregion_end x.1).bind fun x2 => (bif (decide (x.2.1 > x2)) then (some (false, (0 : Int))) else (let x3 : Int := (IntKind.u64.wrap (x.2.1 - x.1.1)); (bif (decide (0 ≤ x3) && decide (x3 ≤ (List.length x.1.2.1 : Int))) then (let x4 : Y1 := (List.drop (Int.toNat x3) x.1.2.1); (bif (decide (x.2.2 > (List.length x4 : Int))) then (some (false, (0 : Int))) else (bif (decide (0 ≤ x.2.2) && decide (x.2.2 ≤ (List.length x4 : Int))) then (let x5 : Y1 := (List.take (Int.toNat x.2.2) x4); (some (true, (0 : Int)))) else none))) else none))))))))
def cregion_Has (x : Y16) : Option (Bool × Int) := nregion_Has x
def Gregion_Has : Fn2 := ⟨[Z0, Z2, Z1], [.bool, Z1], [false, false], fun x => cregion_Has x⟩
theorem Lregion_Has : Rises Try.prog 24 Gregion_Has := rzl (E := Eregion_Has) (lt := Tregion_Has) (lv := 6) (fun _ => cregion_Has) ⟨tabOk, (fsCons2 Lregion_Check (fsCons2 Lregion_end fsNil2)), fun _ _ _ => rfl, mixed, (inlCons (inlB_of Try.func38 rfl rfl (by kernel_rfl)) inlNil), rcsNil, owsNil⟩ Try.func24 fun N x => by kernel_rfl

def Tregion_isWidth : LT := { live := [],keep := [] }
/-! ### wreckage/region.isWidth -/
noncomputable def Eregion_isWidth : Env2 := { tab := tab, fs := [], inl := [] }
def nregion_isWidth (x : Int) : Option (Bool) :=
  (bif (x == (1 : Int)) then (some true) else (some (x == (8 : Int))))
def cregion_isWidth (x : Int) : Option (Bool) := nregion_isWidth x
def Gregion_isWidth : Fn2 := ⟨[Z1], [.bool], [false], fun x => cregion_isWidth x⟩
theorem Lregion_isWidth : Rises Try.prog 39 Gregion_isWidth := rzl (E := Eregion_isWidth) (lt := Tregion_isWidth) (lv := 6) (fun _ => cregion_isWidth) ⟨tabOk, fsNil2, fun _ _ _ => rfl, mixed, inlNil, rcsNil, owsNil⟩ Try.func39 fun N x => by kernel_rfl

def Tregion_split : LT := { live := [(3,[0,2,3,5])],keep := [] }
/-! ### wreckage/region.split -/
noncomputable def Eregion_split : Env2 := { tab := tab, fs := [], inl := [] }
noncomputable def eregion_split_0 (v : Int × Int × Y1 × Y1) : St := ⟨[(0, (.val ⟨Z2, v.1⟩)), (2, (.loc 0 [])), (3, (.loc 1 [])), (5, (.val ⟨Z1, v.2.1⟩))], [(0, .var (.arr 8 Z3) (.val ⟨(.arr 8 Z3), v.2.2.1⟩)), (1, .var (.arr 8 Z3) (.val ⟨(.arr 8 Z3), v.2.2.2⟩))], [], 4096⟩
def hregion_split_0 (self0 : Int × Int × Y1 × Y1 → Option (Y1)) (v : Int × Int × Y1 × Y1) : Option (Y1) :=
  (bif (decide (v.2.1 < (8 : Int))) then (let x1 : Int := (IntKind.i64.wrap ((8 : Int) * v.2.1)); (bif (decide (x1 < 0)) then none else (let x2 : Int := (v.1.fdiv (2 ^ (min (Int.toNat x1) 64))); (bif (decide (0 ≤ v.2.1) && decide (v.2.1 < (8 : Int))) then (let x3 : Y1 := (List.set v.2.2.2 (Int.toNat v.2.1) (IntKind.u8.wrap x2)); (let x4 : Int := (IntKind.i64.wrap (v.2.1 + (1 : Int))); (self0 (v.1, x4, v.2.2.1, x3)))) else none)))) else (some v.2.2.2))
def gregion_split_0 (N : Nat) (self0 : Int × Int × Y1 × Y1 → Option (Y1)) (v : Int × Int × Y1 × Y1) : Option (Y1) := hregion_split_0 self0 v
theorem bregion_split_0 (N : Nat) (s0) (v) : (floc (Eregion_split) Tregion_split 6 N Try.f40 [(.arr 8 Z3)] [false] [] 0 nowhereR) s0 (eregion_split_0 v) = gregion_split_0 N (fun v => s0 (eregion_split_0 v)) v := by kernel_rfl
def nregion_split (loop0 : Int × Int × Y1 × Y1 → Option (Y1)) (x : Int) : Option (Y1) :=
  (loop0 (x, (0 : Int), (List.replicate 8 (0 : Int)), (List.replicate 8 (0 : Int))))
def cregion_split (x : Int) : Option (Y1) := nregion_split (iterV (gregion_split_0 big) big) x
def Gregion_split : Fn2 := ⟨[Z2], [(.arr 8 Z3)], [false], fun x => cregion_split x⟩
theorem Lregion_split : Rises Try.prog 40 Gregion_split := rzl (E := Eregion_split) (lt := Tregion_split) (lv := 6) (fun N x => nregion_split (iterV (gregion_split_0 N) N) x) ⟨tabOk, fsNil2, fun _ _ _ => rfl, mixed, inlNil, rcsNil, owsNil⟩ Try.func40 fun N x => Eq.trans (b := nregion_split (fun v => iterR (floc (Eregion_split) Tregion_split 6 N Try.f40 [(.arr 8 Z3)] [false] [] 0 nowhereR) N (eregion_split_0 v)) x) (by kernel_rfl) (by rw [funext (iterR_eq eregion_split_0 (bregion_split_0 N) N)] <;> rfl)

def Tregion_Store : LT := { live := [],keep := [] }
/-! ### wreckage/region.Store -/
noncomputable def Eregion_Store : Env2 := { tab := tab, fs := [(34, Gregion_Write), (37, Gregion_Check), (39, Gregion_isWidth), (40, Gregion_split)], inl := [] }
def nregion_Store (x : Y0 × Int × Int × Int) : Option (Y0 × Int) :=
  ((cregion_Check x.1).bind fun x1 => (bif (x1 != (0 : Int)) then (let x2 : Y0 := ((0 : Int), (([] : Y1), ())); (some (x2, x1))) else ((cregion_isWidth x.2.2.1).bind fun x3 => (bif (!x3) then (let x4 : Y0 := ((0 : Int), (([] : Y1), ())); (some (x4, (2 : Int)))) else (bif (x.2.2.1 == (1 : Int)) then (bif (decide (x.2.2.2 > (255 : Int))) then (let x5 : Y0 := ((0 : Int), (([] : Y1), ())); (some (x5, (2 : Int)))) else ((cregion_split x.2.2.2).bind fun x6 => (bif (decide (0 ≤ x.2.2.1) && decide (x.2.2.1 ≤ (List.length x6 : Int))) then (let x7 : Y1 := (List.take (Int.toNat x.2.2.1) x6); ((cregion_Write (x.1, x.2.1, x7)).bind fun x8 => (some (x8.1, x8.2)))) else none))) else ((cregion_split x.2.2.2).bind fun x9 => (bif (decide (0 ≤ x.2.2.1) && decide (x.2.2.1 ≤ (List.length x9 : Int))) then (let x10 : Y1 := (List.take (Int.toNat x.2.2.1) x9); ((cregion_Write (x.1, x.2.1, x10)).bind fun x11 => (some (x11.1, x11.2)))) else none)))))))
def cregion_Store (x : Y0 × Int × Int × Int) : Option (Y0 × Int) := nregion_Store x
def Gregion_Store : Fn2 := ⟨[Z0, Z2, Z1, Z2], [Z0, Z1], [false, false], fun x => cregion_Store x⟩
theorem Lregion_Store : Rises Try.prog 25 Gregion_Store := rzl (E := Eregion_Store) (lt := Tregion_Store) (lv := 6) (fun _ => cregion_Store) ⟨tabOk, (fsCons2 Lregion_Write (fsCons2 Lregion_Check (fsCons2 Lregion_isWidth (fsCons2 Lregion_split fsNil2)))), fun _ _ _ => rfl, mixed, inlNil, rcsNil, owsNil⟩ Try.func25 fun N x => by kernel_rfl

def Tregion_Bytes : LT := { live := [],keep := [(22,[2])] }
/-! ### wreckage/region.Bytes -/
noncomputable def Eregion_Bytes : Env2 := { tab := tab, fs := [(37, Gregion_Check), (42, Gregion_first), (47, Gregion_end)], inl := [(38, Try.f38, Tregion_part)] }
def nregion_Bytes (x : Y16) : Option (Y1 × Int) :=
  ((cregion_Check x.1).bind fun x1 => (bif (x1 != (0 : Int)) then (some (([] : List Int), x1)) else (bif (decide (x.2.2 < (0 : Int))) then (some (([] : List Int), (2 : Int))) else (bif (decide (x.2.1 < x.1.1)) then (some (([] : List Int), (16 : Int))) else ((cregion_end x.1).bind fun x2 => (bif (decide (x.2.1 > x2)) then (some (([] : List Int), (16 : Int))) else (let x3 : Int := (IntKind.u64.wrap (x.2.1 - x.1.1)); (bif (decide (0 ≤ x3) && decide (x3 ≤ (List.length x.1.2.1 : Int))) then (let x4 : Y1 := (List.drop (Int.toNat x3) x.1.2.1); (bif (decide (x.2.2 > (List.length x4 : Int))) then (some (([] : List Int), (16 : Int))) else (bif (decide (0 ≤ x.2.2) && decide (x.2.2 ≤ (List.length x4 : Int))) then (let x5 : Y1 := (List.take (Int.toNat x.2.2) x4); ((cregion_first (x5, x.2.2)).bind fun x6 => (some (x6, (0 : Int))))) else none))) else none))))))))
def cregion_Bytes (x : Y16) : Option (Y1 × Int) := nregion_Bytes x
def Gregion_Bytes : Fn2 := ⟨[Z0, Z2, Z1], [(.slice Z3), Z1], [true, false], fun x => cregion_Bytes x⟩
theorem Lregion_Bytes : Rises Try.prog 28 Gregion_Bytes := rzl (E := Eregion_Bytes) (lt := Tregion_Bytes) (lv := 6) (fun _ => cregion_Bytes) ⟨tabOk, (fsCons2 Lregion_Check (fsCons2 Lregion_first (fsCons2 Lregion_end fsNil2))), fun _ _ _ => rfl, mixed, (inlCons (inlB_of Try.func38 rfl rfl (by kernel_rfl)) inlNil), rcsNil, owsNil⟩ Try.func28 fun N x => by kernel_rfl

end Go.Proofs.Ytlmhokakghbciaa
