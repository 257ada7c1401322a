/- Functions of the program, read as plain functions: each equation is checked by the kernel. -/
import Derived.Test.YtmmbfllpidolbaaRegA
set_option linter.unusedVariables false
set_option maxRecDepth 100000
namespace Go.Proofs.Ytmmbfllpidolbaa
open Go.Lift
def Tref13_Great : LT := { live := [],keep := [] }
/-! ### wreckage/wreckageref13.Great -/
noncomputable def Eref13_Great : Env2 := { tab := tab, fs := [], inl := [] }
def nref13_Great (x : Y0) : Option (Bool) :=
  (bif (decide ((List.length x.2.1 : Int) > (500 : Int))) then (bif (decide ((List.length x.2.1 : Int) ≤ (20000 : Int))) then (some true) else (some (decide ((List.length x.2.1 : Int) > (20100 : Int))))) else (some (decide ((List.length x.2.1 : Int) > (20100 : Int)))))
def cref13_Great (x : Y0) : Option (Bool) := nref13_Great x
def Gref13_Great : Fn2 := ⟨[Z0], [.bool], [false], fun x => cref13_Great x⟩
theorem Lref13_Great : Rises Try.prog 10 Gref13_Great := rzl (E := Eref13_Great) (lt := Tref13_Great) (lv := 6) (fun _ => cref13_Great) ⟨tabOk, fsNil2, fun _ _ _ => rfl, mixed, inlNil, rcsNil, owsNil⟩ Try.func10 fun N x => by kernel_rfl

def Tref13_Base : LT := { live := [],keep := [] }
/-! ### wreckage/wreckageref13.Base -/
noncomputable def Eref13_Base : Env2 := { tab := tab, fs := [], inl := [] }
def nref13_Base (x : Int) : Option (Bool) :=
  (bif ((x.tmod (8 : Int)) == (0 : Int)) then (bif (decide (x > (0 : Int))) then (some (decide (x ≤ (1099511627776 : Int)))) else (some false)) else (some false))
def cref13_Base (x : Int) : Option (Bool) := nref13_Base x
def Gref13_Base : Fn2 := ⟨[Z2], [.bool], [false], fun x => cref13_Base x⟩
theorem Lref13_Base : Rises Try.prog 34 Gref13_Base := rzl (E := Eref13_Base) (lt := Tref13_Base) (lv := 6) (fun _ => cref13_Base) ⟨tabOk, fsNil2, fun _ _ _ => rfl, mixed, inlNil, rcsNil, owsNil⟩ Try.func34 fun N x => by kernel_rfl

def Tref13_New : LT := { live := [],keep := [] }
/-! ### wreckage/wreckageref13.New -/
noncomputable def Eref13_New (mk : (α : Type) → Nat → α → List α) : Env2 := { tab := tab, fs := [(34, Gref13_Base)], inl := [], rep := mk }
def nref13_New (mk : (α : Type) → Nat → α → List α) (x : Int × Int) : Option Y3 :=
  ((cref13_Base x.1).bind fun x1 => (bif (!x1) then (let x2 : Y0 := ((0 : Int), (([] : Y1), ())); (some (x2, (2 : Int)))) else (bif (decide (x.2 < (0 : Int))) then (let x3 : Y0 := ((0 : Int), (([] : Y1), ())); (some (x3, (2 : Int)))) else (bif (decide (x.2 > (20000 : Int))) then (let x4 : Y0 := ((0 : Int), (([] : Y1), ())); (some (x4, (2 : Int)))) else (bif (decide (0 ≤ x.2) && (decide (x.2 ≤ x.2) && (decide (x.2 ≤ 68719476736) && true))) then (let x5 : Y1 := (mk Int (Int.toNat x.2) (0 : Int)); (some ((x.1, (x5, ())), (0 : Int)))) else none)))))
def cref13_New (x : Int × Int) : Option Y3 := nref13_New (fun _ => List.replicate) x
def Gref13_New : Fn2 := ⟨[Z2, Z1], [Z0, Z1], [false, false], fun x => cref13_New x⟩
theorem Lref13_New : Rises Try.prog 13 Gref13_New := rzl (E := Eref13_New (fun _ => List.replicate)) (lt := Tref13_New) (lv := 6) (fun _ => cref13_New) ⟨tabOk, (fsCons2 Lref13_Base fsNil2), fun _ _ _ => rfl, mixed, inlNil, rcsNil, owsNil⟩ Try.func13 fun N x => by kernel_rfl

def Tref13_Check : LT := { live := [],keep := [] }
/-! ### wreckage/wreckageref13.Check -/
noncomputable def Eref13_Check : Env2 := { tab := tab, fs := [(34, Gref13_Base)], inl := [] }
def nref13_Check (x : Y0) : Option (Int) :=
  ((cref13_Base x.1).bind fun x1 => (bif (!x1) then (some (8 : Int)) else (bif (decide ((List.length x.2.1 : Int) > (20000 : Int))) then (some (8 : Int)) else (some (0 : Int)))))
def cref13_Check (x : Y0) : Option (Int) := nref13_Check x
def Gref13_Check : Fn2 := ⟨[Z0], [Z1], [false], fun x => cref13_Check x⟩
theorem Lref13_Check : Rises Try.prog 22 Gref13_Check := rzl (E := Eref13_Check) (lt := Tref13_Check) (lv := 6) (fun _ => cref13_Check) ⟨tabOk, (fsCons2 Lref13_Base fsNil2), fun _ _ _ => rfl, mixed, inlNil, rcsNil, owsNil⟩ Try.func22 fun N x => by kernel_rfl

def Tref13_In : LT := { live := [],keep := [] }
/-! ### wreckage/wreckageref13.In -/
noncomputable def Eref13_In : Env2 := { tab := tab, fs := [], inl := [] }
def nref13_In (x : Y15) : Option (Bool) :=
  (bif (decide (x.2.2 > (20000 : Int))) then (some false) else (bif (decide (x.2.1 > (2199023255552 : Int))) then (some false) else (bif (decide (x.2.1 ≥ x.1.1)) then (let x1 : Int := (IntKind.u64.wrap (x.2.1 + (IntKind.u64.wrap x.2.2))); (let x2 : Int := (IntKind.u64.wrap (List.length x.1.2.1 : Int)); (let x3 : Int := (IntKind.u64.wrap (x.1.1 + x2)); (some (decide (x1 ≤ x3)))))) else (some false))))
def cref13_In (x : Y15) : Option (Bool) := nref13_In x
def Gref13_In : Fn2 := ⟨[Z0, Z2, Z1], [.bool], [false], fun x => cref13_In x⟩
theorem Lref13_In : Rises Try.prog 36 Gref13_In := rzl (E := Eref13_In) (lt := Tref13_In) (lv := 6) (fun _ => cref13_In) ⟨tabOk, fsNil2, fun _ _ _ => rfl, mixed, inlNil, rcsNil, owsNil⟩ Try.func36 fun N x => by kernel_rfl

def Tref13_Has : LT := { live := [],keep := [] }
/-! ### wreckage/wreckageref13.Has -/
noncomputable def Eref13_Has : Env2 := { tab := tab, fs := [(22, Gref13_Check), (36, Gref13_In)], inl := [] }
def nref13_Has (x : Y15) : Option (Bool × Int) :=
  ((cref13_Check x.1).bind fun x1 => (bif (x1 != (0 : Int)) then ((cref13_Check x.1).bind fun x2 => (some (false, x2))) else (bif (decide (x.2.2 < (0 : Int))) then (some (false, (2 : Int))) else ((cref13_In (x.1, x.2.1, x.2.2)).bind fun x3 => (some (x3, (0 : Int)))))))
def cref13_Has (x : Y15) : Option (Bool × Int) := nref13_Has x
def Gref13_Has : Fn2 := ⟨[Z0, Z2, Z1], [.bool, Z1], [false, false], fun x => cref13_Has x⟩
theorem Lref13_Has : Rises Try.prog 15 Gref13_Has := rzl (E := Eref13_Has) (lt := Tref13_Has) (lv := 6) (fun _ => cref13_Has) ⟨tabOk, (fsCons2 Lref13_Check (fsCons2 Lref13_In fsNil2)), fun _ _ _ => rfl, mixed, inlNil, rcsNil, owsNil⟩ Try.func15 fun N x => by kernel_rfl

def Tref13_Word : LT := { live := [(3,[1,2,3,7,8,9])],keep := [] }
/-! ### wreckage/wreckageref13.Word -/
noncomputable def Eref13_Word : Env2 := { tab := tab, fs := [], inl := [] }
noncomputable def eref13_Word_0 (v : Y11) : St := ⟨[(1, (.val ⟨Z2, v.1⟩)), (2, (.val ⟨Z1, v.2.1⟩)), (3, (.loc 0 [])), (7, (.val ⟨Z2, v.2.2.1⟩)), (8, (.val ⟨Z2, v.2.2.2.1⟩)), (9, (.val ⟨Z1, v.2.2.2.2.1⟩))], [(0, .var Z0 (.val ⟨Z0, v.2.2.2.2.2⟩))], [], 4096⟩
def href13_Word_0 (self0 : Y11 → Option (Int)) (v : Y11) : Option (Int) :=
  (bif (decide (v.2.2.2.2.1 < v.2.1)) then (let x1 : Int := (IntKind.u64.wrap (v.1 - v.2.2.2.2.2.1)); (let x2 : Int := (IntKind.u64.wrap v.2.2.2.2.1); (let x3 : Int := (IntKind.u64.wrap (x1 + x2)); ((getI v.2.2.2.2.2.2.1 x3).bind fun x4 => (let x5 : Int := (IntKind.u64.wrap (v.2.2.2.1 * (IntKind.u64.wrap x4))); (let x6 : Int := (IntKind.u64.wrap (v.2.2.1 + x5)); (let x7 : Int := (IntKind.u64.wrap (v.2.2.2.1 * (256 : Int))); (let x8 : Int := (IntKind.i64.wrap (v.2.2.2.2.1 + (1 : Int))); (self0 (v.1, v.2.1, x6, x7, x8, v.2.2.2.2.2)))))))))) else (some v.2.2.1))
def gref13_Word_0 (N : Nat) (self0 : Y11 → Option (Int)) (v : Y11) : Option (Int) := href13_Word_0 self0 v
theorem bref13_Word_0 (N : Nat) (s0) (v) : (floc (Eref13_Word) Tref13_Word 6 N Try.f39 [Z2] [false] [] 0 nowhereR) s0 (eref13_Word_0 v) = gref13_Word_0 N (fun v => s0 (eref13_Word_0 v)) v := by kernel_rfl
def nref13_Word (loop0 : Y11 → Option (Int)) (x : Y15) : Option (Int) :=
  (loop0 (x.2.1, x.2.2, (0 : Int), (1 : Int), (0 : Int), x.1))
def cref13_Word (x : Y15) : Option (Int) := nref13_Word (iterV (gref13_Word_0 big) big) x
def Gref13_Word : Fn2 := ⟨[Z0, Z2, Z1], [Z2], [false], fun x => cref13_Word x⟩
theorem Lref13_Word : Rises Try.prog 39 Gref13_Word := rzl (E := Eref13_Word) (lt := Tref13_Word) (lv := 6) (fun N x => nref13_Word (iterV (gref13_Word_0 N) N) x) ⟨tabOk, fsNil2, fun _ _ _ => rfl, mixed, inlNil, rcsNil, owsNil⟩ Try.func39 fun N x => Eq.trans (b := nref13_Word (fun v => iterR (floc (Eref13_Word) Tref13_Word 6 N Try.f39 [Z2] [false] [] 0 nowhereR) N (eref13_Word_0 v)) x) (by kernel_rfl) (by rw [funext (iterR_eq eref13_Word_0 (bref13_Word_0 N) N)] <;> rfl)

def Tref13_Load : LT := { live := [],keep := [] }
/-! ### wreckage/wreckageref13.Load -/
noncomputable def Eref13_Load : Env2 := { tab := tab, fs := [(22, Gref13_Check), (36, Gref13_In), (39, Gref13_Word)], inl := [] }
def nref13_Load (x : Y15) : Option Y4 :=
  ((cref13_Check x.1).bind fun x1 => (bif (x1 != (0 : Int)) then ((cref13_Check x.1).bind fun x2 => (some ((0 : Int), x2))) else (bif (x.2.2 != (1 : Int)) then (bif (x.2.2 != (8 : Int)) then (some ((0 : Int), (2 : Int))) else ((cref13_In (x.1, x.2.1, x.2.2)).bind fun x3 => (bif (!x3) then (some ((0 : Int), (16 : Int))) else ((cref13_Word (x.1, x.2.1, x.2.2)).bind fun x4 => (some (x4, (0 : Int))))))) else ((cref13_In (x.1, x.2.1, x.2.2)).bind fun x5 => (bif (!x5) then (some ((0 : Int), (16 : Int))) else ((cref13_Word (x.1, x.2.1, x.2.2)).bind fun x6 => (some (x6, (0 : Int)))))))))
def cref13_Load (x : Y15) : Option Y4 := nref13_Load x
def Gref13_Load : Fn2 := ⟨[Z0, Z2, Z1], [Z2, Z1], [false, false], fun x => cref13_Load x⟩
theorem Lref13_Load : Rises Try.prog 17 Gref13_Load := rzl (E := Eref13_Load) (lt := Tref13_Load) (lv := 6) (fun _ => cref13_Load) ⟨tabOk, (fsCons2 Lref13_Check (fsCons2 Lref13_In (fsCons2 Lref13_Word fsNil2))), fun _ _ _ => rfl, mixed, inlNil, rcsNil, owsNil⟩ Try.func17 fun N x => by kernel_rfl

def Tref13_Store : LT := { live := [],keep := [(39,[1,2,3,8]),(44,[8,10])] }
/-! ### wreckage/wreckageref13.Store -/
noncomputable def Eref13_Store : Env2 := { tab := tab, fs := [(22, Gref13_Check), (36, Gref13_In)], inl := [(11, Try.f11, Tref13_Twin), (41, Try.f41, Tref13_Set)] }
noncomputable def eref13_Store_0 (v : Y5) : St := ⟨[(1, (.val ⟨Z2, v.1⟩)), (2, (.val ⟨Z1, v.2.1⟩)), (3, (.val ⟨Z2, v.2.2.1⟩)), (4, (.loc 0 [])), (8, (.val ⟨Z1, v.2.2.2.1⟩))], [(0, .var Z0 (.pair (.val ⟨Z2, v.2.2.2.2.1⟩) (.pair (.row 1) .unit))), (1, .row Z5 v.2.2.2.2.2.1), (2, .var Z0 (.pair (.val ⟨Z2, v.2.2.2.2.2.2.1⟩) (.pair (.row 3) (.val ⟨.unit, v.2.2.2.2.2.2.2.1⟩)))), (3, .row Z5 v.2.2.2.2.2.2.2.2.1), (4, .var Z0 (.pair (.val ⟨Z2, v.2.2.2.2.2.2.2.2.2⟩) (.pair (.row 1) .unit)))], [(4096, [(8, (.loc 2 [])), (10, (.loc 4 []))])], 16961536⟩
def href13_Store_0 (self0 : Y5 → Option Y3) (v : Y5) : Option Y3 :=
  (bif (decide (v.2.2.2.1 < v.2.1)) then (let x9 : Int := (IntKind.u64.wrap (v.1 - v.2.2.2.2.1)); (let x10 : Int := (IntKind.u64.wrap v.2.2.2.1); (let x11 : Int := (IntKind.u64.wrap (x9 + x10)); (let x12 : Int := (v.2.2.1.tmod (256 : Int)); (bif (decide (0 ≤ x11) && decide (x11 < (List.length v.2.2.2.2.2.1 : Int))) then (let x13 : Y1 := (List.set v.2.2.2.2.2.1 (Int.toNat x11) (IntKind.u8.wrap x12)); (let x14 : Int := (IntKind.u64.wrap (v.2.2.1.tdiv (256 : Int))); (let x15 : Int := (IntKind.i64.wrap (v.2.2.2.1 + (1 : Int))); (self0 (v.1, v.2.1, x14, x15, v.2.2.2.2.1, x13, v.2.2.2.2.2.2.1, v.2.2.2.2.2.2.2.1, v.2.2.2.2.2.2.2.2.1, v.2.2.2.2.2.2.2.2.2))))) else none))))) else (some ((v.2.2.2.2.2.2.2.2.2, (v.2.2.2.2.2.1, ())), (0 : Int))))
def gref13_Store_0 (N : Nat) (self0 : Y5 → Option Y3) (v : Y5) : Option Y3 := href13_Store_0 self0 v
theorem bref13_Store_0 (N : Nat) (s0) (v) : (floc (Eref13_Store) Tref13_Store 6 N Try.f19 [Z0, Z1] [false, false] [.call 8 4 41] 0 nowhereR) s0 (eref13_Store_0 v) = gref13_Store_0 N (fun v => s0 (eref13_Store_0 v)) v := by kernel_rfl
def nref13_Store (loop0 : Y5 → Option Y3) (x : Y0 × Int × Int × Int) : Option Y3 :=
  ((cref13_Check x.1).bind fun x1 => (bif (x1 != (0 : Int)) then (let x2 : Y0 := ((0 : Int), (([] : Y1), ())); ((cref13_Check x.1).bind fun x3 => (some (x2, x3)))) else (bif (x.2.2.1 != (1 : Int)) then (bif (x.2.2.1 != (8 : Int)) then (let x4 : Y0 := ((0 : Int), (([] : Y1), ())); (some (x4, (2 : Int)))) else (bif (x.2.2.1 == (1 : Int)) then (bif (decide (x.2.2.2 > (255 : Int))) then (let x5 : Y0 := ((0 : Int), (([] : Y1), ())); (some (x5, (2 : Int)))) else ((cref13_In (x.1, x.2.1, x.2.2.1)).bind fun x6 => (bif (!x6) then (let x7 : Y0 := ((0 : Int), (([] : Y1), ())); (some (x7, (16 : Int)))) else (bif (Nat.ble 1 1 && Nat.ble (List.length ([] : Y1) + List.length x.1.2.1) lim) then (let x8 : Y1 := (List.append ([] : Y1) x.1.2.1); (loop0 (x.2.1, x.2.2.1, x.2.2.2, (0 : Int), x.1.1, x8, (0 : Int), (), ([] : List Int), x.1.1))) else none)))) else ((cref13_In (x.1, x.2.1, x.2.2.1)).bind fun x16 => (bif (!x16) then (let x17 : Y0 := ((0 : Int), (([] : Y1), ())); (some (x17, (16 : Int)))) else (bif (Nat.ble 1 1 && Nat.ble (List.length ([] : Y1) + List.length x.1.2.1) lim) then (let x18 : Y1 := (List.append ([] : Y1) x.1.2.1); (loop0 (x.2.1, x.2.2.1, x.2.2.2, (0 : Int), x.1.1, x18, (0 : Int), (), ([] : List Int), x.1.1))) else none))))) else (bif (x.2.2.1 == (1 : Int)) then (bif (decide (x.2.2.2 > (255 : Int))) then (let x19 : Y0 := ((0 : Int), (([] : Y1), ())); (some (x19, (2 : Int)))) else ((cref13_In (x.1, x.2.1, x.2.2.1)).bind fun x20 => (bif (!x20) then (let x21 : Y0 := ((0 : Int), (([] : Y1), ())); (some (x21, (16 : Int)))) else (bif (Nat.ble 1 1 && Nat.ble (List.length ([] : Y1) + List.length x.1.2.1) lim) then (let x22 : Y1 := (List.append ([] : Y1) x.1.2.1); (loop0 (x.2.1, x.2.2.1, x.2.2.2, (0 : Int), x.1.1, x22, (0 : Int), (), ([] : List Int), x.1.1))) else none)))) else ((cref13_In (x.1, x.2.1, x.2.2.1)).bind fun x23 => (bif (!x23) then (let x24 : Y0 := ((0 : Int), (([] : Y1), ())); (some (x24, (16 : Int)))) else (bif (Nat.ble 1 1 && Nat.ble (List.length ([] : Y1) + List.length x.1.2.1) lim) then (let x25 : Y1 := (List.append ([] : Y1) x.1.2.1); (loop0 (x.2.1, x.2.2.1, x.2.2.2, (0 : Int), x.1.1, x25, (0 : Int), (), ([] : List Int), x.1.1))) else none)))))))
def cref13_Store (x : Y0 × Int × Int × Int) : Option Y3 := nref13_Store (iterV (gref13_Store_0 big) big) x
def Gref13_Store : Fn2 := ⟨[Z0, Z2, Z1, Z2], [Z0, Z1], [false, false], fun x => cref13_Store x⟩
theorem Lref13_Store : Rises Try.prog 19 Gref13_Store := rzl (E := Eref13_Store) (lt := Tref13_Store) (lv := 6) (fun N x => nref13_Store (iterV (gref13_Store_0 N) N) x) ⟨tabOk, (fsCons2 Lref13_Check (fsCons2 Lref13_In fsNil2)), fun _ _ _ => rfl, mixed, (inlCons (inlB_of Try.func11 rfl rfl (by kernel_rfl)) (inlCons (inlB_of Try.func41 rfl rfl (by kernel_rfl)) inlNil)), rcsNil, owsNil⟩ Try.func19 fun N x => Eq.trans (b := nref13_Store (fun v => iterR (floc (Eref13_Store) Tref13_Store 6 N Try.f19 [Z0, Z1] [false, false] [.call 8 4 41] 0 nowhereR) N (eref13_Store_0 v)) x) (by kernel_rfl) (by rw [funext (iterR_eq eref13_Store_0 (bref13_Store_0 N) N)] <;> rfl)

def Tref13_Same : LT := { live := [],keep := [] }
/-! ### wreckage/wreckageref13.Same -/
noncomputable def Eref13_Same : Env2 := { tab := tab, fs := [], inl := [] }
def nref13_Same (x : Y0 × Y0) : Option (Bool) :=
  (bif (x.1.1 == x.2.1) then (some (eqD .str x.1.2.1 x.2.2.1)) else (some false))
def cref13_Same (x : Y0 × Y0) : Option (Bool) := nref13_Same x
def Gref13_Same : Fn2 := ⟨[Z0, Z0], [.bool], [false], fun x => cref13_Same x⟩
theorem Lref13_Same : Rises Try.prog 20 Gref13_Same := rzl (E := Eref13_Same) (lt := Tref13_Same) (lv := 6) (fun _ => cref13_Same) ⟨tabOk, fsNil2, fun _ _ _ => rfl, mixed, inlNil, rcsNil, owsNil⟩ Try.func20 fun N x => by kernel_rfl

def Tref13_Cut : LT := { live := [],keep := [] }
/-! ### wreckage/wreckageref13.Cut -/
noncomputable def Eref13_Cut : Env2 := { tab := tab, fs := [], inl := [] }
def nref13_Cut (x : Y15) : Option (Y1) :=
  (let x1 : Int := (IntKind.u64.wrap (x.2.1 - x.1.1)); (let x2 : Int := (IntKind.i64.wrap ((IntKind.i64.wrap x1) + x.2.2)); (bif (decide (0 ≤ (IntKind.i64.wrap x1)) && (decide ((IntKind.i64.wrap x1) ≤ x2) && decide (x2 ≤ (List.length x.1.2.1 : Int)))) then (let x3 : Y1 := (List.drop (Int.toNat (IntKind.i64.wrap x1)) (List.take (Int.toNat x2) x.1.2.1)); (bif (Nat.ble 1 1 && Nat.ble (List.length ([] : Y1) + List.length x3) lim) then (let x4 : Y1 := (List.append ([] : Y1) x3); (some x4)) else none)) else none)))
def cref13_Cut (x : Y15) : Option (Y1) := nref13_Cut x
def Gref13_Cut : Fn2 := ⟨[Z0, Z2, Z1], [Z3], [true], fun x => cref13_Cut x⟩
theorem Lref13_Cut : Rises Try.prog 43 Gref13_Cut := rzl (E := Eref13_Cut) (lt := Tref13_Cut) (lv := 6) (fun _ => cref13_Cut) ⟨tabOk, fsNil2, fun _ _ _ => rfl, mixed, inlNil, rcsNil, owsNil⟩ Try.func43 fun N x => by kernel_rfl

def Tref13_Bytes : LT := { live := [],keep := [] }
/-! ### wreckage/wreckageref13.Bytes -/
noncomputable def Eref13_Bytes : Env2 := { tab := tab, fs := [(15, Gref13_Has), (43, Gref13_Cut)], inl := [] }
def nref13_Bytes (x : Y15) : Option (Y1 × Int) :=
  ((cref13_Has (x.1, x.2.1, x.2.2)).bind fun x1 => (bif (x1.2 != (0 : Int)) then (some (([] : List Int), x1.2)) else (bif (!x1.1) then (some (([] : List Int), (16 : Int))) else ((cref13_Cut (x.1, x.2.1, x.2.2)).bind fun x2 => (some (x2, (0 : Int)))))))
def cref13_Bytes (x : Y15) : Option (Y1 × Int) := nref13_Bytes x
def Gref13_Bytes : Fn2 := ⟨[Z0, Z2, Z1], [Z3, Z1], [true, false], fun x => cref13_Bytes x⟩
theorem Lref13_Bytes : Rises Try.prog 24 Gref13_Bytes := rzl (E := Eref13_Bytes) (lt := Tref13_Bytes) (lv := 6) (fun _ => cref13_Bytes) ⟨tabOk, (fsCons2 Lref13_Has (fsCons2 Lref13_Cut fsNil2)), fun _ _ _ => rfl, mixed, inlNil, rcsNil, owsNil⟩ Try.func24 fun N x => by kernel_rfl

def Tref13_Write : LT := { live := [(7,[1,2,3,6,8,9])],keep := [(24,[1,2,3,6])] }
/-! ### wreckage/wreckageref13.Write -/
noncomputable def Eref13_Write : Env2 := { tab := tab, fs := [(22, Gref13_Check), (36, Gref13_In)], inl := [(11, Try.f11, Tref13_Twin)] }
noncomputable def eref13_Write_0 (v : Y7) : St := ⟨[(1, (.val ⟨Z2, v.1⟩)), (2, (.val ⟨Z3, v.2.1⟩)), (3, (.loc 0 [])), (6, (.loc 1 [])), (8, (.loc 3 [])), (9, (.val ⟨Z1, v.2.2.1⟩))], [(0, .var Z0 (.val ⟨Z0, v.2.2.2.1⟩)), (1, .var Z0 (.pair (.val ⟨Z2, v.2.2.2.2.1⟩) (.pair (.row 2) (.val ⟨.unit, v.2.2.2.2.2.1⟩)))), (2, .row Z5 v.2.2.2.2.2.2.1), (3, .var Z0 (.pair (.val ⟨Z2, v.2.2.2.2.2.2.2.1⟩) (.pair (.row 4) .unit))), (4, .row Z5 v.2.2.2.2.2.2.2.2)], [], 4096⟩
def href13_Write_0 (self0 : Y7 → Option Y3) (v : Y7) : Option Y3 :=
  (bif (decide (v.2.2.1 < (List.length v.2.1 : Int))) then (let x7 : Int := (IntKind.u64.wrap (v.1 - v.2.2.2.1.1)); (let x8 : Int := (IntKind.i64.wrap ((IntKind.i64.wrap x7) + v.2.2.1)); ((getI v.2.1 v.2.2.1).bind fun x9 => (bif (decide (0 ≤ x8) && decide (x8 < (List.length v.2.2.2.2.2.2.2.2 : Int))) then (let x10 : Y1 := (List.set v.2.2.2.2.2.2.2.2 (Int.toNat x8) x9); (let x11 : Int := (IntKind.i64.wrap (v.2.2.1 + (1 : Int))); (self0 (v.1, v.2.1, x11, v.2.2.2.1, v.2.2.2.2.1, v.2.2.2.2.2.1, v.2.2.2.2.2.2.1, v.2.2.2.2.2.2.2.1, x10)))) else none)))) else (some ((v.2.2.2.2.2.2.2.1, (v.2.2.2.2.2.2.2.2, ())), (0 : Int))))
def gref13_Write_0 (N : Nat) (self0 : Y7 → Option Y3) (v : Y7) : Option Y3 := href13_Write_0 self0 v
theorem bref13_Write_0 (N : Nat) (s0) (v) : (floc (Eref13_Write) Tref13_Write 6 N Try.f26 [Z0, Z1] [false, false] [] 0 nowhereR) s0 (eref13_Write_0 v) = gref13_Write_0 N (fun v => s0 (eref13_Write_0 v)) v := by kernel_rfl
def nref13_Write (loop0 : Y7 → Option Y3) (x : Y0 × Int × Y1) : Option Y3 :=
  ((cref13_Check x.1).bind fun x1 => (bif (x1 != (0 : Int)) then (let x2 : Y0 := ((0 : Int), (([] : Y1), ())); ((cref13_Check x.1).bind fun x3 => (some (x2, x3)))) else ((cref13_In (x.1, x.2.1, (List.length x.2.2 : Int))).bind fun x4 => (bif (!x4) then (let x5 : Y0 := ((0 : Int), (([] : Y1), ())); (some (x5, (16 : Int)))) else (bif (Nat.ble 1 1 && Nat.ble (List.length ([] : Y1) + List.length x.1.2.1) lim) then (let x6 : Y1 := (List.append ([] : Y1) x.1.2.1); (loop0 (x.2.1, x.2.2, (0 : Int), x.1, (0 : Int), (), ([] : List Int), x.1.1, x6))) else none)))))
def cref13_Write (x : Y0 × Int × Y1) : Option Y3 := nref13_Write (iterV (gref13_Write_0 big) big) x
def Gref13_Write : Fn2 := ⟨[Z0, Z2, Z3], [Z0, Z1], [false, false], fun x => cref13_Write x⟩
theorem Lref13_Write : Rises Try.prog 26 Gref13_Write := rzl (E := Eref13_Write) (lt := Tref13_Write) (lv := 6) (fun N x => nref13_Write (iterV (gref13_Write_0 N) N) x) ⟨tabOk, (fsCons2 Lref13_Check (fsCons2 Lref13_In fsNil2)), fun _ _ _ => rfl, mixed, (inlCons (inlB_of Try.func11 rfl rfl (by kernel_rfl)) inlNil), rcsNil, owsNil⟩ Try.func26 fun N x => Eq.trans (b := nref13_Write (fun v => iterR (floc (Eref13_Write) Tref13_Write 6 N Try.f26 [Z0, Z1] [false, false] [] 0 nowhereR) N (eref13_Write_0 v)) x) (by kernel_rfl) (by rw [funext (iterR_eq eref13_Write_0 (bref13_Write_0 N) N)] <;> rfl)

def Tref13_Resize : LT := { live := [(7,[1,2,4,6,7])],keep := [] }
/-! ### wreckage/wreckageref13.Resize -/
noncomputable def Eref13_Resize (mk : (α : Type) → Nat → α → List α) : Env2 := { tab := tab, fs := [(22, Gref13_Check)], inl := [], rep := mk }
noncomputable def eref13_Resize_0 (v : Y8) : St := ⟨[(1, (.val ⟨Z1, v.1⟩)), (2, (.loc 0 [])), (4, (.loc 1 [])), (6, (.loc 3 [])), (7, (.val ⟨Z1, v.2.1⟩))], [(0, .var Z0 (.val ⟨Z0, v.2.2.1⟩)), (1, .var Z0 (.pair (.val ⟨Z2, v.2.2.2.1⟩) (.pair (.row 2) (.val ⟨.unit, v.2.2.2.2.1⟩)))), (2, .row Z5 v.2.2.2.2.2.1), (3, .var Z0 (.pair (.val ⟨Z2, v.2.2.2.2.2.2.1⟩) (.pair (.row 4) .unit))), (4, .row Z5 v.2.2.2.2.2.2.2)], [], 4096⟩
def href13_Resize_0 (mk : (α : Type) → Nat → α → List α) (self0 : Y8 → Option Y3) (v : Y8) : Option Y3 :=
  (bif (decide (v.2.1 < v.1)) then (bif (decide (v.2.1 < (List.length v.2.2.1.2.1 : Int))) then ((getI v.2.2.1.2.1 v.2.1).bind fun x7 => (bif (decide (0 ≤ v.2.1) && decide (v.2.1 < (List.length v.2.2.2.2.2.2.2 : Int))) then (let x8 : Y1 := (List.set v.2.2.2.2.2.2.2 (Int.toNat v.2.1) x7); (let x9 : Int := (IntKind.i64.wrap (v.2.1 + (1 : Int))); (self0 (v.1, x9, v.2.2.1, v.2.2.2.1, v.2.2.2.2.1, v.2.2.2.2.2.1, v.2.2.2.2.2.2.1, x8)))) else none)) else (some ((v.2.2.2.2.2.2.1, (v.2.2.2.2.2.2.2, ())), (0 : Int)))) else (some ((v.2.2.2.2.2.2.1, (v.2.2.2.2.2.2.2, ())), (0 : Int))))
def gref13_Resize_0 (mk : (α : Type) → Nat → α → List α) (N : Nat) (self0 : Y8 → Option Y3) (v : Y8) : Option Y3 := href13_Resize_0 mk self0 v
theorem bref13_Resize_0 (mk : (α : Type) → Nat → α → List α) (N : Nat) (s0) (v) : (floc (Eref13_Resize mk) Tref13_Resize 6 N Try.f28 [Z0, Z1] [false, false] [] 0 nowhereR) s0 (eref13_Resize_0 v) = gref13_Resize_0 mk N (fun v => s0 (eref13_Resize_0 v)) v := by kernel_rfl
def nref13_Resize (mk : (α : Type) → Nat → α → List α) (loop0 : Y8 → Option Y3) (x : Y0 × Int) : Option Y3 :=
  ((cref13_Check x.1).bind fun x1 => (bif (x1 != (0 : Int)) then (let x2 : Y0 := ((0 : Int), (([] : Y1), ())); ((cref13_Check x.1).bind fun x3 => (some (x2, x3)))) else (bif (decide (x.2 < (0 : Int))) then (let x4 : Y0 := ((0 : Int), (([] : Y1), ())); (some (x4, (2 : Int)))) else (bif (decide (x.2 > (20000 : Int))) then (let x5 : Y0 := ((0 : Int), (([] : Y1), ())); (some (x5, (2 : Int)))) else (bif (decide (0 ≤ x.2) && (decide (x.2 ≤ x.2) && (decide (x.2 ≤ 68719476736) && true))) then (let x6 : Y1 := (mk Int (Int.toNat x.2) (0 : Int)); (loop0 (x.2, (0 : Int), x.1, (0 : Int), (), ([] : List Int), x.1.1, x6))) else none)))))
def mref13_Resize (mk : (α : Type) → Nat → α → List α) (N : Nat) (x : Y0 × Int) : Option Y3 := nref13_Resize mk (iterV (gref13_Resize_0 mk N) N) x
theorem lref13_Resize (mk : (α : Type) → Nat → α → List α) (N : Nat) (x : Y0 × Int) : rise (Eref13_Resize mk) Tref13_Resize 6 N Try.f28 [Z0, Z1] [Z0, Z1] [false, false] x = mref13_Resize mk N x := Eq.trans (b := nref13_Resize mk (fun v => iterR (floc (Eref13_Resize mk) Tref13_Resize 6 N Try.f28 [Z0, Z1] [false, false] [] 0 nowhereR) N (eref13_Resize_0 v)) x) (by kernel_rfl) (by rw [funext (iterR_eq eref13_Resize_0 (bref13_Resize_0 mk N) N)]; rfl)
def cref13_Resize (x : Y0 × Int) : Option Y3 := mref13_Resize (fun _ => List.replicate) big x
def Gref13_Resize : Fn2 := ⟨[Z0, Z1], [Z0, Z1], [false, false], fun x => cref13_Resize x⟩
theorem Lref13_Resize : Rises Try.prog 28 Gref13_Resize := rzl (E := Eref13_Resize (fun _ => List.replicate)) (mref13_Resize (fun _ => List.replicate)) ⟨tabOk, (fsCons2 Lref13_Check fsNil2), fun _ _ _ => rfl, mixed, inlNil, rcsNil, owsNil⟩ Try.func28 (lref13_Resize (fun _ => List.replicate))

def Tref13_Meet : LT := { live := [(2,[2,3,5])],keep := [] }
/-! ### wreckage/wreckageref13.Meet -/
noncomputable def Eref13_Meet : Env2 := { tab := tab, fs := [(36, Gref13_In)], inl := [] }
noncomputable def eref13_Meet_0 (v : Int × Y0 × Y0) : St := ⟨[(2, (.loc 0 [])), (3, (.loc 1 [])), (5, (.val ⟨Z1, v.1⟩))], [(0, .var Z0 (.val ⟨Z0, v.2.1⟩)), (1, .var Z0 (.val ⟨Z0, v.2.2⟩))], [], 4096⟩
def href13_Meet_0 (self0 : Int × Y0 × Y0 → Option (Bool)) (v : Int × Y0 × Y0) : Option (Bool) :=
  (bif (decide (v.1 < (List.length v.2.1.2.1 : Int))) then (let x1 : Int := (IntKind.u64.wrap (v.2.1.1 + (IntKind.u64.wrap v.1))); ((cref13_In (v.2.2, x1, (1 : Int))).bind fun x2 => (bif x2 then (some true) else (let x3 : Int := (IntKind.i64.wrap (v.1 + (1 : Int))); (self0 (x3, v.2.1, v.2.2)))))) else (some false))
def gref13_Meet_0 (N : Nat) (self0 : Int × Y0 × Y0 → Option (Bool)) (v : Int × Y0 × Y0) : Option (Bool) := href13_Meet_0 self0 v
theorem bref13_Meet_0 (N : Nat) (s0) (v) : (floc (Eref13_Meet) Tref13_Meet 6 N Try.f48 [.bool] [false] [] 0 nowhereR) s0 (eref13_Meet_0 v) = gref13_Meet_0 N (fun v => s0 (eref13_Meet_0 v)) v := by kernel_rfl
def nref13_Meet (loop0 : Int × Y0 × Y0 → Option (Bool)) (x : Y0 × Y0) : Option (Bool) :=
  (loop0 ((0 : Int), x.1, x.2))
def cref13_Meet (x : Y0 × Y0) : Option (Bool) := nref13_Meet (iterV (gref13_Meet_0 big) big) x
def Gref13_Meet : Fn2 := ⟨[Z0, Z0], [.bool], [false], fun x => cref13_Meet x⟩
theorem Lref13_Meet : Rises Try.prog 48 Gref13_Meet := rzl (E := Eref13_Meet) (lt := Tref13_Meet) (lv := 6) (fun N x => nref13_Meet (iterV (gref13_Meet_0 N) N) x) ⟨tabOk, (fsCons2 Lref13_In fsNil2), fun _ _ _ => rfl, mixed, inlNil, rcsNil, owsNil⟩ Try.func48 fun N x => Eq.trans (b := nref13_Meet (fun v => iterR (floc (Eref13_Meet) Tref13_Meet 6 N Try.f48 [.bool] [false] [] 0 nowhereR) N (eref13_Meet_0 v)) x) (by kernel_rfl) (by rw [funext (iterR_eq eref13_Meet_0 (bref13_Meet_0 N) N)] <;> rfl)

def Tref13_Listed : LT := { live := [(4,[0,3]),(9,[0,4]),(12,[0,4,5])],keep := [] }
/-! ### wreckage/wreckageref13.Listed -/
noncomputable def Eref13_Listed : Env2 := { tab := tab, fs := [(22, Gref13_Check), (48, Gref13_Meet)], inl := [] }
noncomputable def eref13_Listed_2 (v : Y16) : St := ⟨[(0, (.val ⟨Z4, v.1⟩)), (4, (.val ⟨Z1, v.2.1⟩)), (5, (.val ⟨Z1, v.2.2⟩))], [], [], 4096⟩
noncomputable def eref13_Listed_1 (v : Y2 × Int) : St := ⟨[(0, (.val ⟨Z4, v.1⟩)), (4, (.val ⟨Z1, v.2⟩))], [], [], 4096⟩
noncomputable def eref13_Listed_0 (v : Y2 × Int) : St := ⟨[(0, (.val ⟨Z4, v.1⟩)), (3, (.val ⟨Z1, v.2⟩))], [], [], 4096⟩
def href13_Listed_2 (self0 : Y2 × Int → Option (Int)) (self1 : Y2 × Int → Option (Int)) (self2 : Y16 → Option (Int)) (v : Y16) : Option (Int) :=
  (bif (decide (v.2.2 < v.2.1)) then ((getI v.1 v.2.1).bind fun x4 => ((getI v.1 v.2.2).bind fun x5 => ((cref13_Meet (x4, x5)).bind fun x6 => (bif x6 then (some (14 : Int)) else (let x7 : Int := (IntKind.i64.wrap (v.2.2 + (1 : Int))); (self2 (v.1, v.2.1, x7))))))) else (let x8 : Int := (IntKind.i64.wrap (v.2.1 + (1 : Int))); (self1 (v.1, x8))))
def gref13_Listed_2 (N : Nat) (self0 : Y2 × Int → Option (Int)) (self1 : Y2 × Int → Option (Int)) (self2 : Y16 → Option (Int)) (v : Y16) : Option (Int) := href13_Listed_2 self0 self1 self2 v
theorem bref13_Listed_2 (N : Nat) (s0 : St → Option (Int)) (s1) (s2) (v) : (floc (Eref13_Listed) Tref13_Listed 6 N Try.f45 [Z1] [false] [] 2 (outerR s1 nowhereR)) s2 (eref13_Listed_2 v) = gref13_Listed_2 N (fun v => s0 (eref13_Listed_0 v)) (fun v => s1 (eref13_Listed_1 v)) (fun v => s2 (eref13_Listed_2 v)) v := by kernel_rfl
def href13_Listed_1 (loop2 : Y16 → Option (Int)) (self0 : Y2 × Int → Option (Int)) (self1 : Y2 × Int → Option (Int)) (v : Y2 × Int) : Option (Int) :=
  (bif (decide (v.2 < (List.length v.1 : Int))) then (loop2 (v.1, v.2, (0 : Int))) else (some (0 : Int)))
def gref13_Listed_1 (N : Nat) (self0 : Y2 × Int → Option (Int)) (self1 : Y2 × Int → Option (Int)) (v : Y2 × Int) : Option (Int) := href13_Listed_1 (iterV (gref13_Listed_2 N self0 self1) N) self0 self1 v
theorem bref13_Listed_1 (N : Nat) (s0 : St → Option (Int)) (s1) (v) : (floc (Eref13_Listed) Tref13_Listed 6 N Try.f45 [Z1] [false] [] 1 nowhereR) s1 (eref13_Listed_1 v) = gref13_Listed_1 N (fun v => s0 (eref13_Listed_0 v)) (fun v => s1 (eref13_Listed_1 v)) v := Eq.trans (b := href13_Listed_1 (fun v => iterR (floc (Eref13_Listed) Tref13_Listed 6 N Try.f45 [Z1] [false] [] 2 (outerR s1 nowhereR)) N (eref13_Listed_2 v)) (fun v => s0 (eref13_Listed_0 v)) (fun v => s1 (eref13_Listed_1 v)) v) (by kernel_rfl) (by rw [funext (iterR_eq eref13_Listed_2 (bref13_Listed_2 N s0 s1) N)]; rfl)
def href13_Listed_0 (loop1 : Y2 × Int → Option (Int)) (self0 : Y2 × Int → Option (Int)) (v : Y2 × Int) : Option (Int) :=
  (bif (decide (v.2 < (List.length v.1 : Int))) then ((getI v.1 v.2).bind fun x1 => ((cref13_Check x1).bind fun x2 => (bif (x2 != (0 : Int)) then (some (8 : Int)) else (let x3 : Int := (IntKind.i64.wrap (v.2 + (1 : Int))); (self0 (v.1, x3)))))) else (loop1 (v.1, (0 : Int))))
def gref13_Listed_0 (N : Nat) (self0 : Y2 × Int → Option (Int)) (v : Y2 × Int) : Option (Int) := href13_Listed_0 (iterV (gref13_Listed_1 N self0) N) self0 v
theorem bref13_Listed_0 (N : Nat) (s0) (v) : (floc (Eref13_Listed) Tref13_Listed 6 N Try.f45 [Z1] [false] [] 0 nowhereR) s0 (eref13_Listed_0 v) = gref13_Listed_0 N (fun v => s0 (eref13_Listed_0 v)) v := Eq.trans (b := href13_Listed_0 (fun v => iterR (floc (Eref13_Listed) Tref13_Listed 6 N Try.f45 [Z1] [false] [] 1 nowhereR) N (eref13_Listed_1 v)) (fun v => s0 (eref13_Listed_0 v)) v) (by kernel_rfl) (by rw [funext (iterR_eq eref13_Listed_1 (bref13_Listed_1 N s0) N)]; rfl)
def nref13_Listed (loop0 : Y2 × Int → Option (Int)) (x : Y2) : Option (Int) :=
  (bif (decide ((List.length x : Int) > (17 : Int))) then (some (4 : Int)) else (loop0 (x, (0 : Int))))
def cref13_Listed (x : Y2) : Option (Int) := nref13_Listed (iterV (gref13_Listed_0 big) big) x
def Gref13_Listed : Fn2 := ⟨[Z4], [Z1], [false], fun x => cref13_Listed x⟩
theorem Lref13_Listed : Rises Try.prog 45 Gref13_Listed := rzl (E := Eref13_Listed) (lt := Tref13_Listed) (lv := 6) (fun N x => nref13_Listed (iterV (gref13_Listed_0 N) N) x) ⟨tabOk, (fsCons2 Lref13_Check (fsCons2 Lref13_Meet fsNil2)), fun _ _ _ => rfl, mixed, inlNil, rcsNil, owsNil⟩ Try.func45 fun N x => Eq.trans (b := nref13_Listed (fun v => iterR (floc (Eref13_Listed) Tref13_Listed 6 N Try.f45 [Z1] [false] [] 0 nowhereR) N (eref13_Listed_0 v)) x) (by kernel_rfl) (by rw [funext (iterR_eq eref13_Listed_0 (bref13_Listed_0 N) N)] <;> rfl)

def Tref13_Find : LT := { live := [(6,[0,1,2,8])],keep := [] }
/-! ### wreckage/wreckageref13.Find -/
noncomputable def Eref13_Find : Env2 := { tab := tab, fs := [(36, Gref13_In), (45, Gref13_Listed)], inl := [] }
noncomputable def eref13_Find_0 (v : Y13) : St := ⟨[(0, (.val ⟨Z4, v.1⟩)), (1, (.val ⟨Z2, v.2.1⟩)), (2, (.val ⟨Z1, v.2.2.1⟩)), (8, (.val ⟨Z1, v.2.2.2⟩))], [], [], 4096⟩
def href13_Find_0 (self0 : Y13 → Option Y4) (v : Y13) : Option Y4 :=
  (bif (decide (v.2.2.2 < (List.length v.1 : Int))) then ((getI v.1 v.2.2.2).bind fun x3 => ((cref13_In (x3, v.2.1, v.2.2.1)).bind fun x4 => (bif x4 then (some (v.2.2.2, (0 : Int))) else (let x5 : Int := (IntKind.i64.wrap (v.2.2.2 + (1 : Int))); (self0 (v.1, v.2.1, v.2.2.1, x5)))))) else (some ((0 : Int), (6 : Int))))
def gref13_Find_0 (N : Nat) (self0 : Y13 → Option Y4) (v : Y13) : Option Y4 := href13_Find_0 self0 v
theorem bref13_Find_0 (N : Nat) (s0) (v) : (floc (Eref13_Find) Tref13_Find 6 N Try.f30 [Z1, Z1] [false, false] [] 0 nowhereR) s0 (eref13_Find_0 v) = gref13_Find_0 N (fun v => s0 (eref13_Find_0 v)) v := by kernel_rfl
def nref13_Find (loop0 : Y13 → Option Y4) (x : Y16) : Option Y4 :=
  ((cref13_Listed x.1).bind fun x1 => (bif (x1 != (0 : Int)) then ((cref13_Listed x.1).bind fun x2 => (some ((0 : Int), x2))) else (bif (decide (x.2.2 < (1 : Int))) then (some ((0 : Int), (2 : Int))) else (loop0 (x.1, x.2.1, x.2.2, (0 : Int))))))
def cref13_Find (x : Y16) : Option Y4 := nref13_Find (iterV (gref13_Find_0 big) big) x
def Gref13_Find : Fn2 := ⟨[Z4, Z2, Z1], [Z1, Z1], [false, false], fun x => cref13_Find x⟩
theorem Lref13_Find : Rises Try.prog 30 Gref13_Find := rzl (E := Eref13_Find) (lt := Tref13_Find) (lv := 6) (fun N x => nref13_Find (iterV (gref13_Find_0 N) N) x) ⟨tabOk, (fsCons2 Lref13_In (fsCons2 Lref13_Listed fsNil2)), fun _ _ _ => rfl, mixed, inlNil, rcsNil, owsNil⟩ Try.func30 fun N x => Eq.trans (b := nref13_Find (fun v => iterR (floc (Eref13_Find) Tref13_Find 6 N Try.f30 [Z1, Z1] [false, false] [] 0 nowhereR) N (eref13_Find_0 v)) x) (by kernel_rfl) (by rw [funext (iterR_eq eref13_Find_0 (bref13_Find_0 N) N)] <;> rfl)

end Go.Proofs.Ytmmbfllpidolbaa
