/- Functions of the program, read as plain functions: each equation is checked by the kernel. -/
import Derived.Test.YtmmbfllpidolbaaRiP
import Derived.Test.YtmmbfllpidolbaaRiR
import Derived.Test.YtmmbfllpidolbaaProg
import Derived.KernelRfl
set_option linter.unusedVariables false
set_option maxRecDepth 100000
namespace Go.Proofs.Ytmmbfllpidolbaa
open Go.Lift
def tab : List (TypeId × Ty) := [(3, (.int .i64)), (4, .bool), (5, (.int .u8)), (9, .str), (22, (.int .u64)), (23, (.slice (.int .u8))), (25, (.pair (.int .u64) (.pair (.slice (.int .u8)) .unit))), (28, (.int .i64)), (56, (.slice (.pair (.int .u64) (.pair (.slice (.int .u8)) .unit)))), (73, (.arr 8 (.int .u8)))]
theorem mixed : Try.prog.follows .mixedOrders = true := by kernel_rfl
theorem tabOk : TabOk Try.prog tab := tabOk_of (by kernel_rfl) (by kernel_rfl) (by kernel_rfl)
abbrev Y0 : Type := Int × ((List Int) × Unit)
abbrev Y1 : Type := List Int
abbrev Y2 : Type := List Y0
abbrev Y3 : Type := Y0 × Int
abbrev Y4 : Type := Int × Int
abbrev Z0 : Ty := .pair (.int .u64) (.pair (.slice (.int .u8)) .unit)
abbrev Z1 : Ty := .int .i64
abbrev Z2 : Ty := .int .u64
abbrev Z3 : Ty := .slice (.int .u8)
abbrev Z4 : Ty := .slice Z0
abbrev Z5 : Ty := .int .u8
abbrev Y5 : Type := Int × Int × Int × Int × Int × Y1 × Int × Unit × Y1 × Int
abbrev Y6 : Type := Int × Int × Bool × Int × Int × Int × Y0 × Y0 × Y1 × Y1
abbrev Y7 : Type := Int × Y1 × Int × Y0 × Int × Unit × Y1 × Int × Y1
abbrev Y8 : Type := Int × Int × Y0 × Int × Unit × Y1 × Int × Y1
abbrev Y9 : Type := Y2 × Y2 × Int × Int × Y2 × Int × Int × Y0
abbrev Y10 : Type := Int × Y1 × Int × Bool × Int × Y0 × Y0
abbrev Y11 : Type := Int × Int × Int × Int × Int × Y0
abbrev Y12 : Type := Int × Int × Y2 × Int × Int
abbrev Y13 : Type := Y2 × Int × Int × Int
abbrev Y14 : Type := Y2 × Y2 × Int × Int
abbrev Y15 : Type := Y0 × Int × Int
abbrev Y16 : Type := Y2 × Int × Int
def Tref13_Twin : LT := { live := [],keep := [] }


def Tregion_part : LT := { live := [],keep := [] }


def Tref13_Set : LT := { live := [(2,[1,2,3,4,8])],keep := [] }


def Tregion_isBase : LT := { live := [],keep := [] }
/-! ### wreckage/region.isBase -/
noncomputable def Eregion_isBase : Env2 := { tab := tab, fs := [], inl := [] }
def nregion_isBase (x : Int) : Option (Bool) :=
  (bif ((x.tmod (8 : Int)) == (0 : Int)) then (bif (decide (x ≥ (8 : Int))) then (some (decide (x ≤ (1099511627776 : Int)))) else (some false)) else (some false))
def cregion_isBase (x : Int) : Option (Bool) := nregion_isBase x
def Gregion_isBase : Fn2 := ⟨[Z2], [.bool], [false], fun x => cregion_isBase x⟩
theorem Lregion_isBase : Rises Try.prog 32 Gregion_isBase := rzl (E := Eregion_isBase) (lt := Tregion_isBase) (lv := 6) (fun _ => cregion_isBase) ⟨tabOk, fsNil2, fun _ _ _ => rfl, mixed, inlNil, rcsNil, owsNil⟩ Try.func32 fun N x => by kernel_rfl

def Tregion_isCount : LT := { live := [],keep := [] }
/-! ### wreckage/region.isCount -/
noncomputable def Eregion_isCount : Env2 := { tab := tab, fs := [], inl := [] }
def nregion_isCount (x : Int) : Option (Bool) :=
  (bif (decide (x ≥ (0 : Int))) then (some (decide (x ≤ (20000 : Int)))) else (some false))
def cregion_isCount (x : Int) : Option (Bool) := nregion_isCount x
def Gregion_isCount : Fn2 := ⟨[Z1], [.bool], [false], fun x => cregion_isCount x⟩
theorem Lregion_isCount : Rises Try.prog 33 Gregion_isCount := rzl (E := Eregion_isCount) (lt := Tregion_isCount) (lv := 6) (fun _ => cregion_isCount) ⟨tabOk, fsNil2, fun _ _ _ => rfl, mixed, inlNil, rcsNil, owsNil⟩ Try.func33 fun N x => by kernel_rfl

def Tregion_New : LT := { live := [],keep := [] }
/-! ### wreckage/region.New -/
noncomputable def Eregion_New (mk : (α : Type) → Nat → α → List α) : Env2 := { tab := tab, fs := [(32, Gregion_isBase), (33, Gregion_isCount)], inl := [], rep := mk }
def nregion_New (mk : (α : Type) → Nat → α → List α) (x : Int × Int) : Option Y3 :=
  ((cregion_isBase x.1).bind fun x1 => (bif (!x1) then (let x2 : Y0 := ((0 : Int), (([] : Y1), ())); (some (x2, (2 : Int)))) else ((cregion_isCount x.2).bind fun x3 => (bif (!x3) then (let x4 : Y0 := ((0 : Int), (([] : Y1), ())); (some (x4, (2 : Int)))) else (bif (decide (0 ≤ x.2) && (decide (x.2 ≤ x.2) && (decide (x.2 ≤ 68719476736) && true))) then (let x5 : Y1 := (mk Int (Int.toNat x.2) (0 : Int)); (some ((x.1, (x5, ())), (0 : Int)))) else none)))))
def cregion_New (x : Int × Int) : Option Y3 := nregion_New (fun _ => List.replicate) x
def Gregion_New : Fn2 := ⟨[Z2, Z1], [Z0, Z1], [false, false], fun x => cregion_New x⟩
theorem Lregion_New : Rises Try.prog 12 Gregion_New := rzl (E := Eregion_New (fun _ => List.replicate)) (lt := Tregion_New) (lv := 6) (fun _ => cregion_New) ⟨tabOk, (fsCons2 Lregion_isBase (fsCons2 Lregion_isCount fsNil2)), fun _ _ _ => rfl, mixed, inlNil, rcsNil, owsNil⟩ Try.func12 fun N x => by kernel_rfl

def Tregion_Check : LT := { live := [],keep := [] }
/-! ### wreckage/region.Check -/
noncomputable def Eregion_Check : Env2 := { tab := tab, fs := [(32, Gregion_isBase), (33, Gregion_isCount)], inl := [] }
def nregion_Check (x : Y0) : Option (Int) :=
  ((cregion_isBase x.1).bind fun x1 => (bif (!x1) then (some (8 : Int)) else ((cregion_isCount (List.length x.2.1 : Int)).bind fun x2 => (bif (!x2) then (some (8 : Int)) else (some (0 : Int))))))
def cregion_Check (x : Y0) : Option (Int) := nregion_Check x
def Gregion_Check : Fn2 := ⟨[Z0], [Z1], [false], fun x => cregion_Check x⟩
theorem Lregion_Check : Rises Try.prog 21 Gregion_Check := rzl (E := Eregion_Check) (lt := Tregion_Check) (lv := 6) (fun _ => cregion_Check) ⟨tabOk, (fsCons2 Lregion_isBase (fsCons2 Lregion_isCount fsNil2)), fun _ _ _ => rfl, mixed, inlNil, rcsNil, owsNil⟩ Try.func21 fun N x => by kernel_rfl

def Tregion_end : LT := { live := [],keep := [] }
/-! ### wreckage/region.end -/
noncomputable def Eregion_end : Env2 := { tab := tab, fs := [], inl := [] }
def nregion_end (x : Y0) : Option (Int) :=
  (let x1 : Int := (IntKind.u64.wrap (List.length x.2.1 : Int)); (let x2 : Int := (IntKind.u64.wrap (x.1 + x1)); (some x2)))
def cregion_end (x : Y0) : Option (Int) := nregion_end x
def Gregion_end : Fn2 := ⟨[Z0], [Z2], [false], fun x => cregion_end x⟩
theorem Lregion_end : Rises Try.prog 46 Gregion_end := rzl (E := Eregion_end) (lt := Tregion_end) (lv := 6) (fun _ => cregion_end) ⟨tabOk, fsNil2, fun _ _ _ => rfl, mixed, inlNil, rcsNil, owsNil⟩ Try.func46 fun N x => by kernel_rfl

def Tregion_Has : LT := { live := [],keep := [(22,[])] }
/-! ### wreckage/region.Has -/
noncomputable def Eregion_Has : Env2 := { tab := tab, fs := [(21, Gregion_Check), (46, Gregion_end)], inl := [(35, Try.f35, Tregion_part)] }
def nregion_Has (x : Y15) : Option (Bool × Int) :=
  ((cregion_Check x.1).bind fun x1 => (bif (x1 != (0 : Int)) then (some (false, x1)) else (bif (decide (x.2.2 < (0 : Int))) then (some (false, (2 : Int))) else (bif (decide (x.2.1 < x.1.1)) then (some (false, (0 : Int))) else ((cregion_end x.1).bind fun x2 => (bif (decide (x.2.1 > x2)) then (some (false, (0 : Int))) else (let x3 : Int := (IntKind.u64.wrap (x.2.1 - x.1.1)); (bif (decide (0 ≤ x3) && decide (x3 ≤ (List.length x.1.2.1 : Int))) then (let x4 : Y1 := (List.drop (Int.toNat x3) x.1.2.1); (bif (decide (x.2.2 > (List.length x4 : Int))) then (some (false, (0 : Int))) else (bif (decide (0 ≤ x.2.2) && decide (x.2.2 ≤ (List.length x4 : Int))) then (let x5 : Y1 := (List.take (Int.toNat x.2.2) x4); (some (true, (0 : Int)))) else none))) else none))))))))
def cregion_Has (x : Y15) : Option (Bool × Int) := nregion_Has x
def Gregion_Has : Fn2 := ⟨[Z0, Z2, Z1], [.bool, Z1], [false, false], fun x => cregion_Has x⟩
theorem Lregion_Has : Rises Try.prog 14 Gregion_Has := rzl (E := Eregion_Has) (lt := Tregion_Has) (lv := 6) (fun _ => cregion_Has) ⟨tabOk, (fsCons2 Lregion_Check (fsCons2 Lregion_end fsNil2)), fun _ _ _ => rfl, mixed, (inlCons (inlB_of Try.func35 rfl rfl (by kernel_rfl)) inlNil), rcsNil, owsNil⟩ Try.func14 fun N x => by kernel_rfl

def Tregion_isWidth : LT := { live := [],keep := [] }
/-! ### wreckage/region.isWidth -/
noncomputable def Eregion_isWidth : Env2 := { tab := tab, fs := [], inl := [] }
def nregion_isWidth (x : Int) : Option (Bool) :=
  (bif (x == (1 : Int)) then (some true) else (some (x == (8 : Int))))
def cregion_isWidth (x : Int) : Option (Bool) := nregion_isWidth x
def Gregion_isWidth : Fn2 := ⟨[Z1], [.bool], [false], fun x => cregion_isWidth x⟩
theorem Lregion_isWidth : Rises Try.prog 37 Gregion_isWidth := rzl (E := Eregion_isWidth) (lt := Tregion_isWidth) (lv := 6) (fun _ => cregion_isWidth) ⟨tabOk, fsNil2, fun _ _ _ => rfl, mixed, inlNil, rcsNil, owsNil⟩ Try.func37 fun N x => by kernel_rfl

def Tregion_join : LT := { live := [(3,[3,6,7,8])],keep := [] }
/-! ### wreckage/region.join -/
noncomputable def Eregion_join : Env2 := { tab := tab, fs := [], inl := [] }
noncomputable def eregion_join_0 (v : Int × Y1 × Int × Int) : St := ⟨[(3, (.val ⟨Z2, v.1⟩)), (6, (.val ⟨Z3, v.2.1⟩)), (7, (.val ⟨Z1, v.2.2.1⟩)), (8, (.val ⟨Z1, v.2.2.2⟩))], [], [], 4096⟩
def hregion_join_0 (self0 : Int × Y1 × Int × Int → Option (Int)) (v : Int × Y1 × Int × Int) : Option (Int) :=
  (bif (decide (v.2.2.2 < v.2.2.1)) then ((getI v.2.1 v.2.2.2).bind fun x1 => (let x2 : Int := (IntKind.i64.wrap ((8 : Int) * v.2.2.2)); (bif (decide (x2 < 0)) then none else (let x3 : Int := (IntKind.u64.wrap ((IntKind.u64.wrap x1) * 2 ^ (min (Int.toNat x2) 64))); (let x4 : Int := (IntKind.i64.wrap (v.2.2.2 + (1 : Int))); (self0 ((bits .or .u64 v.1 x3), v.2.1, v.2.2.1, x4))))))) else (some v.1))
def gregion_join_0 (N : Nat) (self0 : Int × Y1 × Int × Int → Option (Int)) (v : Int × Y1 × Int × Int) : Option (Int) := hregion_join_0 self0 v
theorem bregion_join_0 (N : Nat) (s0) (v) : (floc (Eregion_join) Tregion_join 6 N Try.f38 [Z2] [false] [] 0 nowhereR) s0 (eregion_join_0 v) = gregion_join_0 N (fun v => s0 (eregion_join_0 v)) v := by kernel_rfl
def nregion_join (loop0 : Int × Y1 × Int × Int → Option (Int)) (x : Y1) : Option (Int) :=
  (loop0 ((0 : Int), x, (List.length x : Int), (0 : Int)))
def cregion_join (x : Y1) : Option (Int) := nregion_join (iterV (gregion_join_0 big) big) x
def Gregion_join : Fn2 := ⟨[Z3], [Z2], [false], fun x => cregion_join x⟩
theorem Lregion_join : Rises Try.prog 38 Gregion_join := rzl (E := Eregion_join) (lt := Tregion_join) (lv := 6) (fun N x => nregion_join (iterV (gregion_join_0 N) N) x) ⟨tabOk, fsNil2, fun _ _ _ => rfl, mixed, inlNil, rcsNil, owsNil⟩ Try.func38 fun N x => Eq.trans (b := nregion_join (fun v => iterR (floc (Eregion_join) Tregion_join 6 N Try.f38 [Z2] [false] [] 0 nowhereR) N (eregion_join_0 v)) x) (by kernel_rfl) (by rw [funext (iterR_eq eregion_join_0 (bregion_join_0 N) N)] <;> rfl)

def Tregion_Load : LT := { live := [],keep := [(23,[])] }
/-! ### wreckage/region.Load -/
noncomputable def Eregion_Load : Env2 := { tab := tab, fs := [(21, Gregion_Check), (37, Gregion_isWidth), (38, Gregion_join), (46, Gregion_end)], inl := [(35, Try.f35, Tregion_part)] }
def nregion_Load (x : Y15) : Option Y4 :=
  ((cregion_Check x.1).bind fun x1 => (bif (x1 != (0 : Int)) then (some ((0 : Int), x1)) else ((cregion_isWidth x.2.2).bind fun x2 => (bif (!x2) then (some ((0 : Int), (2 : Int))) else (bif (decide (x.2.1 < x.1.1)) then (some ((0 : Int), (16 : Int))) else ((cregion_end x.1).bind fun x3 => (bif (decide (x.2.1 > x3)) then (some ((0 : Int), (16 : Int))) else (let x4 : Int := (IntKind.u64.wrap (x.2.1 - x.1.1)); (bif (decide (0 ≤ x4) && decide (x4 ≤ (List.length x.1.2.1 : Int))) then (let x5 : Y1 := (List.drop (Int.toNat x4) x.1.2.1); (bif (decide (x.2.2 > (List.length x5 : Int))) then (some ((0 : Int), (16 : Int))) else (bif (decide (0 ≤ x.2.2) && decide (x.2.2 ≤ (List.length x5 : Int))) then (let x6 : Y1 := (List.take (Int.toNat x.2.2) x5); ((cregion_join x6).bind fun x7 => (some (x7, (0 : Int))))) else none))) else none)))))))))
def cregion_Load (x : Y15) : Option Y4 := nregion_Load x
def Gregion_Load : Fn2 := ⟨[Z0, Z2, Z1], [Z2, Z1], [false, false], fun x => cregion_Load x⟩
theorem Lregion_Load : Rises Try.prog 16 Gregion_Load := rzl (E := Eregion_Load) (lt := Tregion_Load) (lv := 6) (fun _ => cregion_Load) ⟨tabOk, (fsCons2 Lregion_Check (fsCons2 Lregion_isWidth (fsCons2 Lregion_join (fsCons2 Lregion_end fsNil2)))), fun _ _ _ => rfl, mixed, (inlCons (inlB_of Try.func35 rfl rfl (by kernel_rfl)) inlNil), rcsNil, owsNil⟩ Try.func16 fun N x => by kernel_rfl

def Tregion_split : LT := { live := [(3,[0,2,3,5])],keep := [] }
/-! ### wreckage/region.split -/
noncomputable def Eregion_split : Env2 := { tab := tab, fs := [], inl := [] }
noncomputable def eregion_split_0 (v : Int × Int × Y1 × Y1) : St := ⟨[(0, (.val ⟨Z2, v.1⟩)), (2, (.loc 0 [])), (3, (.loc 1 [])), (5, (.val ⟨Z1, v.2.1⟩))], [(0, .var (.arr 8 Z5) (.val ⟨(.arr 8 Z5), v.2.2.1⟩)), (1, .var (.arr 8 Z5) (.val ⟨(.arr 8 Z5), v.2.2.2⟩))], [], 4096⟩
def hregion_split_0 (self0 : Int × Int × Y1 × Y1 → Option (Y1)) (v : Int × Int × Y1 × Y1) : Option (Y1) :=
  (bif (decide (v.2.1 < (8 : Int))) then (let x1 : Int := (IntKind.i64.wrap ((8 : Int) * v.2.1)); (bif (decide (x1 < 0)) then none else (let x2 : Int := (v.1.fdiv (2 ^ (min (Int.toNat x1) 64))); (bif (decide (0 ≤ v.2.1) && decide (v.2.1 < (8 : Int))) then (let x3 : Y1 := (List.set v.2.2.2 (Int.toNat v.2.1) (IntKind.u8.wrap x2)); (let x4 : Int := (IntKind.i64.wrap (v.2.1 + (1 : Int))); (self0 (v.1, x4, v.2.2.1, x3)))) else none)))) else (some v.2.2.2))
def gregion_split_0 (N : Nat) (self0 : Int × Int × Y1 × Y1 → Option (Y1)) (v : Int × Int × Y1 × Y1) : Option (Y1) := hregion_split_0 self0 v
theorem bregion_split_0 (N : Nat) (s0) (v) : (floc (Eregion_split) Tregion_split 6 N Try.f40 [(.arr 8 Z5)] [false] [] 0 nowhereR) s0 (eregion_split_0 v) = gregion_split_0 N (fun v => s0 (eregion_split_0 v)) v := by kernel_rfl
def nregion_split (loop0 : Int × Int × Y1 × Y1 → Option (Y1)) (x : Int) : Option (Y1) :=
  (loop0 (x, (0 : Int), (List.replicate 8 (0 : Int)), (List.replicate 8 (0 : Int))))
def cregion_split (x : Int) : Option (Y1) := nregion_split (iterV (gregion_split_0 big) big) x
def Gregion_split : Fn2 := ⟨[Z2], [(.arr 8 Z5)], [false], fun x => cregion_split x⟩
theorem Lregion_split : Rises Try.prog 40 Gregion_split := rzl (E := Eregion_split) (lt := Tregion_split) (lv := 6) (fun N x => nregion_split (iterV (gregion_split_0 N) N) x) ⟨tabOk, fsNil2, fun _ _ _ => rfl, mixed, inlNil, rcsNil, owsNil⟩ Try.func40 fun N x => Eq.trans (b := nregion_split (fun v => iterR (floc (Eregion_split) Tregion_split 6 N Try.f40 [(.arr 8 Z5)] [false] [] 0 nowhereR) N (eregion_split_0 v)) x) (by kernel_rfl) (by rw [funext (iterR_eq eregion_split_0 (bregion_split_0 N) N)] <;> rfl)

def Tregion_first : LT := { live := [],keep := [] }
/-! ### wreckage/region.first -/
noncomputable def Eregion_first (mk : (α : Type) → Nat → α → List α) : Env2 := { tab := tab, fs := [], inl := [], rep := mk }
def nregion_first (mk : (α : Type) → Nat → α → List α) (x : Y1 × Int) : Option (Y1) :=
  (bif (decide (0 ≤ x.2) && (decide (x.2 ≤ x.2) && (decide (x.2 ≤ 68719476736) && true))) then (let x1 : Y1 := (mk Int (Int.toNat x.2) (0 : Int)); (let x2 : Y1 := (List.append (List.take 0 x1) (List.append (List.take ((List.length x1) - 0) x.1) (List.drop (0 + (Nat.min ((List.length x1) - 0) (List.length x.1))) x1))); (some x2))) else none)
def cregion_first (x : Y1 × Int) : Option (Y1) := nregion_first (fun _ => List.replicate) x
def Gregion_first : Fn2 := ⟨[Z3, Z1], [Z3], [true], fun x => cregion_first x⟩
theorem Lregion_first : Rises Try.prog 42 Gregion_first := rzl (E := Eregion_first (fun _ => List.replicate)) (lt := Tregion_first) (lv := 6) (fun _ => cregion_first) ⟨tabOk, fsNil2, fun _ _ _ => rfl, mixed, inlNil, rcsNil, owsNil⟩ Try.func42 fun N x => by kernel_rfl

def Tregion_Write : LT := { live := [],keep := [(29,[2,3,6])] }
/-! ### wreckage/region.Write -/
noncomputable def Eregion_Write : Env2 := { tab := tab, fs := [(21, Gregion_Check), (42, Gregion_first), (46, Gregion_end)], inl := [(35, Try.f35, Tregion_part)] }
def nregion_Write (x : Y0 × Int × Y1) : Option Y3 :=
  ((cregion_Check x.1).bind fun x1 => (bif (x1 != (0 : Int)) then (let x2 : Y0 := ((0 : Int), (([] : Y1), ())); (some (x2, x1))) else ((cregion_first (x.1.2.1, (List.length x.1.2.1 : Int))).bind fun x3 => (bif (decide (x.2.1 < x.1.1)) then (let x4 : Y0 := ((0 : Int), (([] : Y1), ())); (some (x4, (16 : Int)))) else ((cregion_end (x.1.1, (x3, x.1.2.2))).bind fun x5 => (bif (decide (x.2.1 > x5)) then (let x6 : Y0 := ((0 : Int), (([] : Y1), ())); (some (x6, (16 : Int)))) else (let x7 : Int := (IntKind.u64.wrap (x.2.1 - x.1.1)); (bif (decide (0 ≤ x7) && decide (x7 ≤ ((List.length x3) : Int))) then (bif (decide ((List.length x.2.2 : Int) > (List.length (List.drop (Int.toNat x7) (List.take (List.length x3) x3)) : Int))) then (let x8 : Y0 := ((0 : Int), (([] : Y1), ())); (some (x8, (16 : Int)))) else (bif (decide (0 ≤ (List.length x.2.2 : Int)) && decide ((List.length x.2.2 : Int) ≤ (((List.length x3) - (Int.toNat x7) : Nat) : Int))) then (let x9 : Y1 := (List.append (List.take ((Int.toNat x7) + 0 : Nat) x3) (List.append (List.take (((Int.toNat x7) + (Int.toNat (List.length x.2.2 : Int)) : Nat) - ((Int.toNat x7) + 0 : Nat)) x.2.2) (List.drop (((Int.toNat x7) + 0 : Nat) + (Nat.min (((Int.toNat x7) + (Int.toNat (List.length x.2.2 : Int)) : Nat) - ((Int.toNat x7) + 0 : Nat)) (List.length x.2.2))) x3))); (some ((x.1.1, (x9, x.1.2.2)), (0 : Int)))) else none)) else none))))))))
def cregion_Write (x : Y0 × Int × Y1) : Option Y3 := nregion_Write x
def Gregion_Write : Fn2 := ⟨[Z0, Z2, Z3], [Z0, Z1], [false, false], fun x => cregion_Write x⟩
theorem Lregion_Write : Rises Try.prog 25 Gregion_Write := rzl (E := Eregion_Write) (lt := Tregion_Write) (lv := 6) (fun _ => cregion_Write) ⟨tabOk, (fsCons2 Lregion_Check (fsCons2 Lregion_first (fsCons2 Lregion_end fsNil2))), fun _ _ _ => rfl, mixed, (inlCons (inlB_of Try.func35 rfl rfl (by kernel_rfl)) inlNil), rcsNil, owsNil⟩ Try.func25 fun N x => by kernel_rfl

def Tregion_Store : LT := { live := [],keep := [] }
/-! ### wreckage/region.Store -/
noncomputable def Eregion_Store : Env2 := { tab := tab, fs := [(21, Gregion_Check), (25, Gregion_Write), (37, Gregion_isWidth), (40, Gregion_split)], inl := [] }
def nregion_Store (x : Y0 × Int × Int × Int) : Option Y3 :=
  ((cregion_Check x.1).bind fun x1 => (bif (x1 != (0 : Int)) then (let x2 : Y0 := ((0 : Int), (([] : Y1), ())); (some (x2, x1))) else ((cregion_isWidth x.2.2.1).bind fun x3 => (bif (!x3) then (let x4 : Y0 := ((0 : Int), (([] : Y1), ())); (some (x4, (2 : Int)))) else (bif (x.2.2.1 == (1 : Int)) then (bif (decide (x.2.2.2 > (255 : Int))) then (let x5 : Y0 := ((0 : Int), (([] : Y1), ())); (some (x5, (2 : Int)))) else ((cregion_split x.2.2.2).bind fun x6 => (bif (decide (0 ≤ x.2.2.1) && decide (x.2.2.1 ≤ (List.length x6 : Int))) then (let x7 : Y1 := (List.take (Int.toNat x.2.2.1) x6); ((cregion_Write (x.1, x.2.1, x7)).bind fun x8 => (some (x8.1, x8.2)))) else none))) else ((cregion_split x.2.2.2).bind fun x9 => (bif (decide (0 ≤ x.2.2.1) && decide (x.2.2.1 ≤ (List.length x9 : Int))) then (let x10 : Y1 := (List.take (Int.toNat x.2.2.1) x9); ((cregion_Write (x.1, x.2.1, x10)).bind fun x11 => (some (x11.1, x11.2)))) else none)))))))
def cregion_Store (x : Y0 × Int × Int × Int) : Option Y3 := nregion_Store x
def Gregion_Store : Fn2 := ⟨[Z0, Z2, Z1, Z2], [Z0, Z1], [false, false], fun x => cregion_Store x⟩
theorem Lregion_Store : Rises Try.prog 18 Gregion_Store := rzl (E := Eregion_Store) (lt := Tregion_Store) (lv := 6) (fun _ => cregion_Store) ⟨tabOk, (fsCons2 Lregion_Check (fsCons2 Lregion_Write (fsCons2 Lregion_isWidth (fsCons2 Lregion_split fsNil2)))), fun _ _ _ => rfl, mixed, inlNil, rcsNil, owsNil⟩ Try.func18 fun N x => by kernel_rfl

def Tregion_Bytes : LT := { live := [],keep := [(22,[2])] }
/-! ### wreckage/region.Bytes -/
noncomputable def Eregion_Bytes : Env2 := { tab := tab, fs := [(21, Gregion_Check), (42, Gregion_first), (46, Gregion_end)], inl := [(35, Try.f35, Tregion_part)] }
def nregion_Bytes (x : Y15) : Option (Y1 × Int) :=
  ((cregion_Check x.1).bind fun x1 => (bif (x1 != (0 : Int)) then (some (([] : List Int), x1)) else (bif (decide (x.2.2 < (0 : Int))) then (some (([] : List Int), (2 : Int))) else (bif (decide (x.2.1 < x.1.1)) then (some (([] : List Int), (16 : Int))) else ((cregion_end x.1).bind fun x2 => (bif (decide (x.2.1 > x2)) then (some (([] : List Int), (16 : Int))) else (let x3 : Int := (IntKind.u64.wrap (x.2.1 - x.1.1)); (bif (decide (0 ≤ x3) && decide (x3 ≤ (List.length x.1.2.1 : Int))) then (let x4 : Y1 := (List.drop (Int.toNat x3) x.1.2.1); (bif (decide (x.2.2 > (List.length x4 : Int))) then (some (([] : List Int), (16 : Int))) else (bif (decide (0 ≤ x.2.2) && decide (x.2.2 ≤ (List.length x4 : Int))) then (let x5 : Y1 := (List.take (Int.toNat x.2.2) x4); ((cregion_first (x5, x.2.2)).bind fun x6 => (some (x6, (0 : Int))))) else none))) else none))))))))
def cregion_Bytes (x : Y15) : Option (Y1 × Int) := nregion_Bytes x
def Gregion_Bytes : Fn2 := ⟨[Z0, Z2, Z1], [Z3, Z1], [true, false], fun x => cregion_Bytes x⟩
theorem Lregion_Bytes : Rises Try.prog 23 Gregion_Bytes := rzl (E := Eregion_Bytes) (lt := Tregion_Bytes) (lv := 6) (fun _ => cregion_Bytes) ⟨tabOk, (fsCons2 Lregion_Check (fsCons2 Lregion_first (fsCons2 Lregion_end fsNil2))), fun _ _ _ => rfl, mixed, (inlCons (inlB_of Try.func35 rfl rfl (by kernel_rfl)) inlNil), rcsNil, owsNil⟩ Try.func23 fun N x => by kernel_rfl

def Tregion_Resize : LT := { live := [],keep := [] }
/-! ### wreckage/region.Resize -/
noncomputable def Eregion_Resize : Env2 := { tab := tab, fs := [(21, Gregion_Check), (33, Gregion_isCount), (42, Gregion_first)], inl := [] }
def nregion_Resize (x : Y0 × Int) : Option Y3 :=
  ((cregion_Check x.1).bind fun x1 => (bif (x1 != (0 : Int)) then (let x2 : Y0 := ((0 : Int), (([] : Y1), ())); (some (x2, x1))) else ((cregion_isCount x.2).bind fun x3 => (bif (!x3) then (let x4 : Y0 := ((0 : Int), (([] : Y1), ())); (some (x4, (2 : Int)))) else ((cregion_first (x.1.2.1, x.2)).bind fun x5 => (some ((x.1.1, (x5, x.1.2.2)), (0 : Int))))))))
def cregion_Resize (x : Y0 × Int) : Option Y3 := nregion_Resize x
def Gregion_Resize : Fn2 := ⟨[Z0, Z1], [Z0, Z1], [false, false], fun x => cregion_Resize x⟩
theorem Lregion_Resize : Rises Try.prog 27 Gregion_Resize := rzl (E := Eregion_Resize) (lt := Tregion_Resize) (lv := 6) (fun _ => cregion_Resize) ⟨tabOk, (fsCons2 Lregion_Check (fsCons2 Lregion_isCount (fsCons2 Lregion_first fsNil2))), fun _ _ _ => rfl, mixed, inlNil, rcsNil, owsNil⟩ Try.func27 fun N x => by kernel_rfl

def Tregion_overlap : LT := { live := [],keep := [] }
/-! ### wreckage/region.overlap -/
noncomputable def Eregion_overlap : Env2 := { tab := tab, fs := [(46, Gregion_end)], inl := [] }
def nregion_overlap (x : Y0 × Y0) : Option (Bool) :=
  (let x1 : Int := (if x.2.1 > x.1.1 then x.2.1 else x.1.1); ((cregion_end x.1).bind fun x2 => ((cregion_end x.2).bind fun x3 => (let x4 : Int := (if x3 < x2 then x3 else x2); (some (decide (x1 < x4)))))))
def cregion_overlap (x : Y0 × Y0) : Option (Bool) := nregion_overlap x
def Gregion_overlap : Fn2 := ⟨[Z0, Z0], [.bool], [false], fun x => cregion_overlap x⟩
theorem Lregion_overlap : Rises Try.prog 47 Gregion_overlap := rzl (E := Eregion_overlap) (lt := Tregion_overlap) (lv := 6) (fun _ => cregion_overlap) ⟨tabOk, (fsCons2 Lregion_end fsNil2), fun _ _ _ => rfl, mixed, inlNil, rcsNil, owsNil⟩ Try.func47 fun N x => by kernel_rfl

def Tregion_checkList : LT := { live := [(4,[0,13,14,15]),(11,[0,25,26,27]),(14,[0,7,25,26,27,34,35,36])],keep := [] }
/-! ### wreckage/region.checkList -/
noncomputable def Eregion_checkList : Env2 := { tab := tab, fs := [(21, Gregion_Check), (47, Gregion_overlap)], inl := [] }
noncomputable def eregion_checkList_2 (v : Y9) : St := ⟨[(0, (.val ⟨Z4, v.1⟩)), (7, (.loc 0 [])), (25, (.val ⟨Z4, v.2.1⟩)), (26, (.val ⟨Z1, v.2.2.1⟩)), (27, (.val ⟨Z1, v.2.2.2.1⟩)), (34, (.val ⟨Z4, v.2.2.2.2.1⟩)), (35, (.val ⟨Z1, v.2.2.2.2.2.1⟩)), (36, (.val ⟨Z1, v.2.2.2.2.2.2.1⟩))], [(0, .var Z0 (.val ⟨Z0, v.2.2.2.2.2.2.2⟩))], [], 4096⟩
noncomputable def eregion_checkList_1 (v : Y14) : St := ⟨[(0, (.val ⟨Z4, v.1⟩)), (25, (.val ⟨Z4, v.2.1⟩)), (26, (.val ⟨Z1, v.2.2.1⟩)), (27, (.val ⟨Z1, v.2.2.2⟩))], [], [], 4096⟩
noncomputable def eregion_checkList_0 (v : Y14) : St := ⟨[(0, (.val ⟨Z4, v.1⟩)), (13, (.val ⟨Z4, v.2.1⟩)), (14, (.val ⟨Z1, v.2.2.1⟩)), (15, (.val ⟨Z1, v.2.2.2⟩))], [], [], 4096⟩
def hregion_checkList_2 (self0 : Y14 → Option (Int)) (self1 : Y14 → Option (Int)) (self2 : Y9 → Option (Int)) (v : Y9) : Option (Int) :=
  (bif (decide (v.2.2.2.2.2.2.1 < v.2.2.2.2.2.1)) then ((getI v.2.2.2.2.1 v.2.2.2.2.2.2.1).bind fun x6 => ((cregion_overlap (x6, v.2.2.2.2.2.2.2)).bind fun x7 => (bif x7 then (some (14 : Int)) else (let x8 : Int := (IntKind.i64.wrap (v.2.2.2.2.2.2.1 + (1 : Int))); (self2 (v.1, v.2.1, v.2.2.1, v.2.2.2.1, v.2.2.2.2.1, v.2.2.2.2.2.1, x8, v.2.2.2.2.2.2.2)))))) else (let x9 : Int := (IntKind.i64.wrap (v.2.2.2.1 + (1 : Int))); (self1 (v.1, v.2.1, v.2.2.1, x9))))
def gregion_checkList_2 (N : Nat) (self0 : Y14 → Option (Int)) (self1 : Y14 → Option (Int)) (self2 : Y9 → Option (Int)) (v : Y9) : Option (Int) := hregion_checkList_2 self0 self1 self2 v
theorem bregion_checkList_2 (N : Nat) (s0 : St → Option (Int)) (s1) (s2) (v) : (floc (Eregion_checkList) Tregion_checkList 6 N Try.f44 [Z1] [false] [] 2 (outerR s1 nowhereR)) s2 (eregion_checkList_2 v) = gregion_checkList_2 N (fun v => s0 (eregion_checkList_0 v)) (fun v => s1 (eregion_checkList_1 v)) (fun v => s2 (eregion_checkList_2 v)) v := by kernel_rfl
def hregion_checkList_1 (loop2 : Y9 → Option (Int)) (self0 : Y14 → Option (Int)) (self1 : Y14 → Option (Int)) (v : Y14) : Option (Int) :=
  (bif (decide (v.2.2.2 < v.2.2.1)) then ((getI v.2.1 v.2.2.2).bind fun x4 => (bif (decide (0 ≤ v.2.2.2) && decide (v.2.2.2 ≤ (List.length v.1 : Int))) then (let x5 : Y2 := (List.take (Int.toNat v.2.2.2) v.1); (loop2 (v.1, v.2.1, v.2.2.1, v.2.2.2, x5, (List.length x5 : Int), (0 : Int), x4))) else none)) else (some (0 : Int)))
def gregion_checkList_1 (N : Nat) (self0 : Y14 → Option (Int)) (self1 : Y14 → Option (Int)) (v : Y14) : Option (Int) := hregion_checkList_1 (iterV (gregion_checkList_2 N self0 self1) N) self0 self1 v
theorem bregion_checkList_1 (N : Nat) (s0 : St → Option (Int)) (s1) (v) : (floc (Eregion_checkList) Tregion_checkList 6 N Try.f44 [Z1] [false] [] 1 nowhereR) s1 (eregion_checkList_1 v) = gregion_checkList_1 N (fun v => s0 (eregion_checkList_0 v)) (fun v => s1 (eregion_checkList_1 v)) v := Eq.trans (b := hregion_checkList_1 (fun v => iterR (floc (Eregion_checkList) Tregion_checkList 6 N Try.f44 [Z1] [false] [] 2 (outerR s1 nowhereR)) N (eregion_checkList_2 v)) (fun v => s0 (eregion_checkList_0 v)) (fun v => s1 (eregion_checkList_1 v)) v) (by kernel_rfl) (by rw [funext (iterR_eq eregion_checkList_2 (bregion_checkList_2 N s0 s1) N)]; rfl)
def hregion_checkList_0 (loop1 : Y14 → Option (Int)) (self0 : Y14 → Option (Int)) (v : Y14) : Option (Int) :=
  (bif (decide (v.2.2.2 < v.2.2.1)) then ((getI v.2.1 v.2.2.2).bind fun x1 => ((cregion_Check x1).bind fun x2 => (bif (x2 != (0 : Int)) then (some x2) else (let x3 : Int := (IntKind.i64.wrap (v.2.2.2 + (1 : Int))); (self0 (v.1, v.2.1, v.2.2.1, x3)))))) else (loop1 (v.1, v.1, (List.length v.1 : Int), (0 : Int))))
def gregion_checkList_0 (N : Nat) (self0 : Y14 → Option (Int)) (v : Y14) : Option (Int) := hregion_checkList_0 (iterV (gregion_checkList_1 N self0) N) self0 v
theorem bregion_checkList_0 (N : Nat) (s0) (v) : (floc (Eregion_checkList) Tregion_checkList 6 N Try.f44 [Z1] [false] [] 0 nowhereR) s0 (eregion_checkList_0 v) = gregion_checkList_0 N (fun v => s0 (eregion_checkList_0 v)) v := Eq.trans (b := hregion_checkList_0 (fun v => iterR (floc (Eregion_checkList) Tregion_checkList 6 N Try.f44 [Z1] [false] [] 1 nowhereR) N (eregion_checkList_1 v)) (fun v => s0 (eregion_checkList_0 v)) v) (by kernel_rfl) (by rw [funext (iterR_eq eregion_checkList_1 (bregion_checkList_1 N s0) N)]; rfl)
def nregion_checkList (loop0 : Y14 → Option (Int)) (x : Y2) : Option (Int) :=
  (bif (decide ((List.length x : Int) > (17 : Int))) then (some (4 : Int)) else (loop0 (x, x, (List.length x : Int), (0 : Int))))
def cregion_checkList (x : Y2) : Option (Int) := nregion_checkList (iterV (gregion_checkList_0 big) big) x
def Gregion_checkList : Fn2 := ⟨[Z4], [Z1], [false], fun x => cregion_checkList x⟩
theorem Lregion_checkList : Rises Try.prog 44 Gregion_checkList := rzl (E := Eregion_checkList) (lt := Tregion_checkList) (lv := 6) (fun N x => nregion_checkList (iterV (gregion_checkList_0 N) N) x) ⟨tabOk, (fsCons2 Lregion_Check (fsCons2 Lregion_overlap fsNil2)), fun _ _ _ => rfl, mixed, inlNil, rcsNil, owsNil⟩ Try.func44 fun N x => Eq.trans (b := nregion_checkList (fun v => iterR (floc (Eregion_checkList) Tregion_checkList 6 N Try.f44 [Z1] [false] [] 0 nowhereR) N (eregion_checkList_0 v)) x) (by kernel_rfl) (by rw [funext (iterR_eq eregion_checkList_0 (bregion_checkList_0 N) N)] <;> rfl)

def Tregion_Find : LT := { live := [(7,[1,2,20,21,22])],keep := [(31,[1,2,9,20,21,22])] }
/-! ### wreckage/region.Find -/
noncomputable def Eregion_Find : Env2 := { tab := tab, fs := [(44, Gregion_checkList), (46, Gregion_end)], inl := [(35, Try.f35, Tregion_part)] }
noncomputable def eregion_Find_0 (v : Y12) : St := ⟨[(1, (.val ⟨Z2, v.1⟩)), (2, (.val ⟨Z1, v.2.1⟩)), (20, (.val ⟨Z4, v.2.2.1⟩)), (21, (.val ⟨Z1, v.2.2.2.1⟩)), (22, (.val ⟨Z1, v.2.2.2.2⟩))], [], [], 4096⟩
def hregion_Find_0 (self0 : Y12 → Option Y4) (v : Y12) : Option Y4 :=
  (bif (decide (v.2.2.2.2 < v.2.2.2.1)) then ((getI v.2.2.1 v.2.2.2.2).bind fun x2 => (bif (decide (v.1 < x2.1)) then (let x3 : Int := (IntKind.i64.wrap (v.2.2.2.2 + (1 : Int))); (self0 (v.1, v.2.1, v.2.2.1, v.2.2.2.1, x3))) else ((cregion_end x2).bind fun x4 => (bif (decide (v.1 > x4)) then (let x5 : Int := (IntKind.i64.wrap (v.2.2.2.2 + (1 : Int))); (self0 (v.1, v.2.1, v.2.2.1, v.2.2.2.1, x5))) else (let x6 : Int := (IntKind.u64.wrap (v.1 - x2.1)); (bif (decide (0 ≤ x6) && decide (x6 ≤ (List.length x2.2.1 : Int))) then (let x7 : Y1 := (List.drop (Int.toNat x6) x2.2.1); (bif (decide (v.2.1 > (List.length x7 : Int))) then (let x8 : Int := (IntKind.i64.wrap (v.2.2.2.2 + (1 : Int))); (self0 (v.1, v.2.1, v.2.2.1, v.2.2.2.1, x8))) else (bif (decide (0 ≤ v.2.1) && decide (v.2.1 ≤ (List.length x7 : Int))) then (let x9 : Y1 := (List.take (Int.toNat v.2.1) x7); (some (v.2.2.2.2, (0 : Int)))) else none))) else none)))))) else (some ((0 : Int), (6 : Int))))
def gregion_Find_0 (N : Nat) (self0 : Y12 → Option Y4) (v : Y12) : Option Y4 := hregion_Find_0 self0 v
theorem bregion_Find_0 (N : Nat) (s0) (v) : (floc (Eregion_Find) Tregion_Find 6 N Try.f29 [Z1, Z1] [false, false] [] 0 nowhereR) s0 (eregion_Find_0 v) = gregion_Find_0 N (fun v => s0 (eregion_Find_0 v)) v := by kernel_rfl
def nregion_Find (loop0 : Y12 → Option Y4) (x : Y16) : Option Y4 :=
  ((cregion_checkList x.1).bind fun x1 => (bif (x1 != (0 : Int)) then (some ((0 : Int), x1)) else (bif (decide (x.2.2 < (1 : Int))) then (some ((0 : Int), (2 : Int))) else (loop0 (x.2.1, x.2.2, x.1, (List.length x.1 : Int), (0 : Int))))))
def cregion_Find (x : Y16) : Option Y4 := nregion_Find (iterV (gregion_Find_0 big) big) x
def Gregion_Find : Fn2 := ⟨[Z4, Z2, Z1], [Z1, Z1], [false, false], fun x => cregion_Find x⟩
theorem Lregion_Find : Rises Try.prog 29 Gregion_Find := rzl (E := Eregion_Find) (lt := Tregion_Find) (lv := 6) (fun N x => nregion_Find (iterV (gregion_Find_0 N) N) x) ⟨tabOk, (fsCons2 Lregion_checkList (fsCons2 Lregion_end fsNil2)), fun _ _ _ => rfl, mixed, (inlCons (inlB_of Try.func35 rfl rfl (by kernel_rfl)) inlNil), rcsNil, owsNil⟩ Try.func29 fun N x => Eq.trans (b := nregion_Find (fun v => iterR (floc (Eregion_Find) Tregion_Find 6 N Try.f29 [Z1, Z1] [false, false] [] 0 nowhereR) N (eregion_Find_0 v)) x) (by kernel_rfl) (by rw [funext (iterR_eq eregion_Find_0 (bregion_Find_0 N) N)] <;> rfl)

end Go.Proofs.Ytmmbfllpidolbaa
