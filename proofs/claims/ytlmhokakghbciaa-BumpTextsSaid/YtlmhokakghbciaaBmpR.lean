/- Functions of the program, read as plain functions: each equation is checked by the kernel. -/
import Derived.Test.YtlmhokakghbciaaBmpA
set_option linter.unusedVariables false
set_option maxRecDepth 100000
namespace Go.Proofs.Ytlmhokakghbciaa
open Go.Lift
def Tref14_Great : LT := { live := [],keep := [] }
/-! ### wreckage/wreckageref14.Great -/
noncomputable def Eref14_Great : Env2 := { tab := tab, fs := [], inl := [] }
def nref14_Great (x : Y0) : Option (Bool) :=
  (bif (decide ((List.length x.2.1 : Int) > (2000 : Int))) then (bif (decide ((List.length x.2.1 : Int) < (16300 : Int))) then (some true) else (some (decide ((List.length x.2.1 : Int) > (16500 : Int))))) else (some (decide ((List.length x.2.1 : Int) > (16500 : Int)))))
def cref14_Great (x : Y0) : Option (Bool) := nref14_Great x
def Gref14_Great : Fn2 := ⟨[Z0], [.bool], [false], fun x => cref14_Great x⟩
theorem Lref14_Great : Rises Try.prog 9 Gref14_Great := rzl (E := Eref14_Great) (lt := Tref14_Great) (lv := 6) (fun _ => cref14_Great) ⟨tabOk, fsNil2, fun _ _ _ => rfl, mixed, inlNil, rcsNil, owsNil⟩ Try.func9 fun N x => by kernel_rfl

def Tref14_Is : LT := { live := [],keep := [] }
/-! ### wreckage/wreckageref14.Is -/
noncomputable def Eref14_Is : Env2 := { tab := tab, fs := [], inl := [] }
def nref14_Is (x : Y0) : Option (Bool) :=
  (bif (x.1 == (65536 : Int)) then (let x1 : Int := ((List.length x.2.1 : Int).tmod (8 : Int)); (bif (x1 == (0 : Int)) then (some (decide ((List.length x.2.1 : Int) ≤ (16384 : Int)))) else (some false))) else (some false))
def cref14_Is (x : Y0) : Option (Bool) := nref14_Is x
def Gref14_Is : Fn2 := ⟨[Z0], [.bool], [false], fun x => cref14_Is x⟩
theorem Lref14_Is : Rises Try.prog 41 Gref14_Is := rzl (E := Eref14_Is) (lt := Tref14_Is) (lv := 6) (fun _ => cref14_Is) ⟨tabOk, fsNil2, fun _ _ _ => rfl, mixed, inlNil, rcsNil, owsNil⟩ Try.func41 fun N x => by kernel_rfl

def Tref14_Limit : LT := { live := [],keep := [] }
/-! ### wreckage/wreckageref14.Limit -/
noncomputable def Eref14_Limit : Env2 := { tab := tab, fs := [(41, Gref14_Is)], inl := [] }
def nref14_Limit (x : Y0 × Int) : Option (Int) :=
  ((cref14_Is x.1).bind fun x1 => (bif (!x1) then (some (8 : Int)) else (bif (decide (x.2 < (0 : Int))) then (some (2 : Int)) else (bif (decide (x.2 > (16384 : Int))) then (some (2 : Int)) else (some (0 : Int))))))
def cref14_Limit (x : Y0 × Int) : Option (Int) := nref14_Limit x
def Gref14_Limit : Fn2 := ⟨[Z0, Z1], [Z1], [false], fun x => cref14_Limit x⟩
theorem Lref14_Limit : Rises Try.prog 26 Gref14_Limit := rzl (E := Eref14_Limit) (lt := Tref14_Limit) (lv := 6) (fun _ => cref14_Limit) ⟨tabOk, (fsCons2 Lref14_Is fsNil2), fun _ _ _ => rfl, mixed, inlNil, rcsNil, owsNil⟩ Try.func26 fun N x => by kernel_rfl

def Tref14_Room : LT := { live := [(4,[1,2,6])],keep := [] }
/-! ### wreckage/wreckageref14.Room -/
noncomputable def Eref14_Room : Env2 := { tab := tab, fs := [(26, Gref14_Limit)], inl := [] }
noncomputable def eref14_Room_0 (v : Int × Int × Y0) : St := ⟨[(1, (.val ⟨Z1, v.1⟩)), (2, (.loc 0 [])), (6, (.val ⟨Z1, v.2.1⟩))], [(0, .var Z0 (.val ⟨Z0, v.2.2⟩))], [], 4096⟩
def href14_Room_0 (self0 : Int × Int × Y0 → Option (Int × Int)) (v : Int × Int × Y0) : Option (Int × Int) :=
  (let x3 : Int := (IntKind.i64.wrap ((List.length v.2.2.2.1 : Int) + v.2.1)); (let x4 : Int := (IntKind.i64.wrap (x3 + (8 : Int))); (bif (decide (x4 ≤ v.1)) then (let x5 : Int := (IntKind.i64.wrap (v.2.1 + (8 : Int))); (self0 (v.1, x5, v.2.2))) else (some (v.2.1, (0 : Int))))))
def gref14_Room_0 (N : Nat) (self0 : Int × Int × Y0 → Option (Int × Int)) (v : Int × Int × Y0) : Option (Int × Int) := href14_Room_0 self0 v
theorem bref14_Room_0 (N : Nat) (s0) (v) : (floc (Eref14_Room) Tref14_Room 6 N Try.f12 [Z1, Z1] [false, false] [] 0 nowhereR) s0 (eref14_Room_0 v) = gref14_Room_0 N (fun v => s0 (eref14_Room_0 v)) v := by kernel_rfl
def nref14_Room (loop0 : Int × Int × Y0 → Option (Int × Int)) (x : Y0 × Int) : Option (Int × Int) :=
  ((cref14_Limit (x.1, x.2)).bind fun x1 => (bif (x1 != (0 : Int)) then ((cref14_Limit (x.1, x.2)).bind fun x2 => (some ((0 : Int), x2))) else (loop0 (x.2, (0 : Int), x.1))))
def cref14_Room (x : Y0 × Int) : Option (Int × Int) := nref14_Room (iterV (gref14_Room_0 big) big) x
def Gref14_Room : Fn2 := ⟨[Z0, Z1], [Z1, Z1], [false, false], fun x => cref14_Room x⟩
theorem Lref14_Room : Rises Try.prog 12 Gref14_Room := rzl (E := Eref14_Room) (lt := Tref14_Room) (lv := 6) (fun N x => nref14_Room (iterV (gref14_Room_0 N) N) x) ⟨tabOk, (fsCons2 Lref14_Limit fsNil2), fun _ _ _ => rfl, mixed, inlNil, rcsNil, owsNil⟩ Try.func12 fun N x => Eq.trans (b := nref14_Room (fun v => iterR (floc (Eref14_Room) Tref14_Room 6 N Try.f12 [Z1, Z1] [false, false] [] 0 nowhereR) N (eref14_Room_0 v)) x) (by kernel_rfl) (by rw [funext (iterR_eq eref14_Room_0 (bref14_Room_0 N) N)] <;> rfl)

def Tref14_Size : LT := { live := [(2,[0,3])],keep := [] }
/-! ### wreckage/wreckageref14.Size -/
noncomputable def Eref14_Size : Env2 := { tab := tab, fs := [], inl := [] }
noncomputable def eref14_Size_0 (v : Int × Int) : St := ⟨[(0, (.val ⟨Z1, v.1⟩)), (3, (.val ⟨Z1, v.2⟩))], [], [], 4096⟩
def href14_Size_0 (self0 : Int × Int → Option (Int)) (v : Int × Int) : Option (Int) :=
  (let x1 : Int := (IntKind.i64.wrap ((8 : Int) * v.2)); (bif (decide (x1 < v.1)) then (let x2 : Int := (IntKind.i64.wrap (v.2 + (1 : Int))); (self0 (v.1, x2))) else (let x3 : Int := (IntKind.i64.wrap ((8 : Int) * v.2)); (some x3))))
def gref14_Size_0 (N : Nat) (self0 : Int × Int → Option (Int)) (v : Int × Int) : Option (Int) := href14_Size_0 self0 v
theorem bref14_Size_0 (N : Nat) (s0) (v) : (floc (Eref14_Size) Tref14_Size 6 N Try.f27 [Z1] [false] [] 0 nowhereR) s0 (eref14_Size_0 v) = gref14_Size_0 N (fun v => s0 (eref14_Size_0 v)) v := by kernel_rfl
def nref14_Size (loop0 : Int × Int → Option (Int)) (x : Int) : Option (Int) :=
  (loop0 (x, (1 : Int)))
def cref14_Size (x : Int) : Option (Int) := nref14_Size (iterV (gref14_Size_0 big) big) x
def Gref14_Size : Fn2 := ⟨[Z1], [Z1], [false], fun x => cref14_Size x⟩
theorem Lref14_Size : Rises Try.prog 27 Gref14_Size := rzl (E := Eref14_Size) (lt := Tref14_Size) (lv := 6) (fun N x => nref14_Size (iterV (gref14_Size_0 N) N) x) ⟨tabOk, fsNil2, fun _ _ _ => rfl, mixed, inlNil, rcsNil, owsNil⟩ Try.func27 fun N x => Eq.trans (b := nref14_Size (fun v => iterR (floc (Eref14_Size) Tref14_Size 6 N Try.f27 [Z1] [false] [] 0 nowhereR) N (eref14_Size_0 v)) x) (by kernel_rfl) (by rw [funext (iterR_eq eref14_Size_0 (bref14_Size_0 N) N)] <;> rfl)

def Tref14_Fits : LT := { live := [],keep := [] }
/-! ### wreckage/wreckageref14.Fits -/
noncomputable def Eref14_Fits : Env2 := { tab := tab, fs := [(27, Gref14_Size)], inl := [] }
def nref14_Fits (x : Y16) : Option (Bool) :=
  ((cref14_Size x.2.1).bind fun x1 => (let x2 : Int := (IntKind.i64.wrap ((List.length x.1.2.1 : Int) + x1)); (some (decide (x2 ≤ x.2.2)))))
def cref14_Fits (x : Y16) : Option (Bool) := nref14_Fits x
def Gref14_Fits : Fn2 := ⟨[Z0, Z1, Z1], [.bool], [false], fun x => cref14_Fits x⟩
theorem Lref14_Fits : Rises Try.prog 32 Gref14_Fits := rzl (E := Eref14_Fits) (lt := Tref14_Fits) (lv := 6) (fun _ => cref14_Fits) ⟨tabOk, (fsCons2 Lref14_Size fsNil2), fun _ _ _ => rfl, mixed, inlNil, rcsNil, owsNil⟩ Try.func32 fun N x => by kernel_rfl

def Tref14_New : LT := { live := [],keep := [] }
/-! ### wreckage/wreckageref14.New -/
noncomputable def Eref14_New : Env2 := { tab := tab, fs := [], inl := [] }
def nref14_New (x : Unit) : Option (Y0) :=
  (let x1 : Y0 := ((65536 : Int), (([] : Y1), ())); (some x1))
def cref14_New (x : Unit) : Option (Y0) := nref14_New x
def Gref14_New : Fn2 := ⟨[], [Z0], [false], fun x => cref14_New x⟩
theorem Lref14_New : Rises Try.prog 17 Gref14_New := rz (E := Eref14_New) (lt := Tref14_New) (lv := 6) (N := big) ⟨tabOk, fsNil2, fun _ _ _ => rfl, mixed, inlNil, rcsNil, owsNil⟩ Try.func17 fun x r => Eq.trans (b := cref14_New x) (by kernel_rfl)

def Tref13_Same : LT := { live := [],keep := [] }
/-! ### wreckage/wreckageref13.Same -/
noncomputable def Eref13_Same : Env2 := { tab := tab, fs := [], inl := [] }
def nref13_Same (x : Y0 × Y0) : Option (Bool) :=
  (bif (x.1.1 == x.2.1) then (some (eqD .str x.1.2.1 x.2.2.1)) else (some false))
def cref13_Same (x : Y0 × Y0) : Option (Bool) := nref13_Same x
def Gref13_Same : Fn2 := ⟨[Z0, Z0], [.bool], [false], fun x => cref13_Same x⟩
theorem Lref13_Same : Rises Try.prog 15 Gref13_Same := rzl (E := Eref13_Same) (lt := Tref13_Same) (lv := 6) (fun _ => cref13_Same) ⟨tabOk, fsNil2, fun _ _ _ => rfl, mixed, inlNil, rcsNil, owsNil⟩ Try.func15 fun N x => by kernel_rfl

def Tref14_Put : LT := { live := [(5,[1,3,6,9,10,12])],keep := [(18,[1,3,6])] }
/-! ### wreckage/wreckageref14.Put -/
noncomputable def Eref14_Put : Env2 := { tab := tab, fs := [(26, Gref14_Limit), (27, Gref14_Size), (32, Gref14_Fits)], inl := [(10, Try.f10, Tref13_Twin), (14, Try.f14, Tref14_Alloc), (33, Try.f33, Tref14_Grown)] }
noncomputable def eref14_Put_0 (v : Y10) : St := ⟨[(1, (.val ⟨(.slice Z3), v.1⟩)), (3, (.loc 0 [])), (6, (.loc 1 [])), (9, (.loc 3 [])), (10, (.val ⟨Z2, v.2.1⟩)), (12, (.val ⟨Z1, v.2.2.1⟩))], [(0, .var Z0 (.val ⟨Z0, v.2.2.2.1⟩)), (1, .var Z0 (.pair (.val ⟨Z2, v.2.2.2.2.1⟩) (.pair (.row 2) (.val ⟨.unit, v.2.2.2.2.2.1⟩)))), (2, .row Z3 v.2.2.2.2.2.2.1), (3, .var Z0 (.val ⟨Z0, v.2.2.2.2.2.2.2⟩))], [], 4096⟩
noncomputable def eref14_Put_2 (v : Y7) : St := ⟨[(1, (.val ⟨(.slice Z3), v.1⟩)), (3, (.loc 0 [])), (6, (.loc 1 [])), (9, (.loc 3 [])), (10, (.val ⟨Z2, v.2.1⟩)), (12, (.val ⟨Z1, v.2.2.1⟩))], [(0, .var Z0 (.val ⟨Z0, v.2.2.2.1⟩)), (1, .var Z0 (.pair (.val ⟨Z2, v.2.2.2.2.1⟩) (.pair (.row 2) (.val ⟨.unit, v.2.2.2.2.2.1⟩)))), (2, .row Z3 v.2.2.2.2.2.2.1), (3, .var Z0 (.pair (.val ⟨Z2, v.2.2.2.2.2.2.2.1⟩) (.pair (.row 4) .unit))), (4, .row Z3 v.2.2.2.2.2.2.2.2)], [], 4096⟩
noncomputable def eref14_Put_1 (v : Y6) : St := ⟨[(1, (.val ⟨Z1, v.1⟩)), (2, (.loc 0 [])), (4, (.loc 1 [])), (6, (.loc 3 [])), (7, (.val ⟨Z1, v.2.1⟩))], [(0, .var Z0 (.val ⟨Z0, v.2.2.1⟩)), (1, .var Z0 (.pair (.val ⟨Z2, v.2.2.2.1⟩) (.pair (.row 2) (.val ⟨.unit, v.2.2.2.2.1⟩)))), (2, .row Z3 v.2.2.2.2.2.1), (3, .var Z0 (.pair (.val ⟨Z2, v.2.2.2.2.2.2.1⟩) (.pair (.row 4) .unit))), (4, .row Z3 v.2.2.2.2.2.2.2.1), (5, .var Z0 (.pair (.val ⟨Z2, v.2.2.2.2.2.2.2.2.1⟩) (.pair (.row 6) (.val ⟨.unit, v.2.2.2.2.2.2.2.2.2.1⟩)))), (6, .row Z3 v.2.2.2.2.2.2.2.2.2.2.1), (7, .var Z0 (.val ⟨Z0, v.2.2.2.2.2.2.2.2.2.2.2.1⟩)), (8, .var Z0 (.pair (.val ⟨Z2, v.2.2.2.2.2.2.2.2.2.2.2.2.1⟩) (.pair (.row 9) (.val ⟨.unit, v.2.2.2.2.2.2.2.2.2.2.2.2.2.1⟩)))), (9, .row Z3 v.2.2.2.2.2.2.2.2.2.2.2.2.2.2.1)], [(16855040, [(6, (.loc 5 []))]), (4096, [(1, (.val ⟨(.slice Z3), v.2.2.2.2.2.2.2.2.2.2.2.2.2.2.2⟩)), (3, (.loc 7 [])), (6, (.loc 8 []))])], 69038391296⟩
def href14_Put_0 (self0 : Y10 → Option Y3) (v : Y10) : Option Y3 :=
  (bif (decide (v.2.2.1 < (List.length v.1 : Int))) then (let x5 : Int := (IntKind.i64.wrap ((List.length v.2.2.2.1.2.1 : Int) + v.2.2.1)); ((getI v.1 v.2.2.1).bind fun x6 => ((getI v.2.2.2.2.2.2.2.2.1 x5).bind fun x7 => none))) else (some (v.2.2.2.2.2.2.2, v.2.1, (0 : Int))))
def gref14_Put_0 (N : Nat) (self0 : Y10 → Option Y3) (v : Y10) : Option Y3 := href14_Put_0 self0 v
theorem bref14_Put_0 (N : Nat) (s0) (v) : (floc (Eref14_Put) Tref14_Put 6 N Try.f19 [Z0, Z2, Z1] [false, false, false] [] 0 nowhereR) s0 (eref14_Put_0 v) = gref14_Put_0 N (fun v => s0 (eref14_Put_0 v)) v := by kernel_rfl
def href14_Put_2 (self0 : Y6 → Option Y3) (self1 : Y7 → Option Y3) (v : Y7) : Option Y3 :=
  (bif (decide (v.2.2.1 < (List.length v.1 : Int))) then (let x22 : Int := (IntKind.i64.wrap ((List.length v.2.2.2.1.2.1 : Int) + v.2.2.1)); ((getI v.1 v.2.2.1).bind fun x23 => (bif (decide (0 ≤ x22) && decide (x22 < (List.length v.2.2.2.2.2.2.2.2 : Int))) then (let x24 : Y1 := (List.set v.2.2.2.2.2.2.2.2 (Int.toNat x22) x23); (let x25 : Int := (IntKind.i64.wrap (v.2.2.1 + (1 : Int))); (self1 (v.1, v.2.1, x25, v.2.2.2.1, v.2.2.2.2.1, v.2.2.2.2.2.1, v.2.2.2.2.2.2.1, v.2.2.2.2.2.2.2.1, x24)))) else none))) else (some ((v.2.2.2.2.2.2.2.1, (v.2.2.2.2.2.2.2.2, ())), v.2.1, (0 : Int))))
def gref14_Put_2 (N : Nat) (self0 : Y6 → Option Y3) (self1 : Y7 → Option Y3) (v : Y7) : Option Y3 := href14_Put_2 self0 self1 v
theorem bref14_Put_2 (N : Nat) (s0 : St → Option Y3) (s1) (v) : (floc (Eref14_Put) Tref14_Put 6 N Try.f19 [Z0, Z2, Z1] [false, false, false] [] 0 nowhereR) s1 (eref14_Put_2 v) = gref14_Put_2 N (fun v => s0 (eref14_Put_1 v)) (fun v => s1 (eref14_Put_2 v)) v := by kernel_rfl
def href14_Put_1 (loop2 : Y7 → Option Y3) (self0 : Y6 → Option Y3) (v : Y6) : Option Y3 :=
  ((cref14_Size v.1).bind fun x16 => (bif (decide (v.2.1 < x16)) then (let x17 : Y1 := ([(0 : Int)] : Y1); (bif (Nat.ble 1 1 && Nat.ble (List.length v.2.2.2.2.2.2.2.1 + List.length x17) lim) then (let x18 : Y1 := (List.append v.2.2.2.2.2.2.2.1 x17); (let x19 : Int := (IntKind.i64.wrap (v.2.1 + (1 : Int))); (self0 (v.1, x19, v.2.2.1, v.2.2.2.1, v.2.2.2.2.1, v.2.2.2.2.2.1, v.2.2.2.2.2.2.1, x18, v.2.2.2.2.2.2.2.2.1, v.2.2.2.2.2.2.2.2.2.1, v.2.2.2.2.2.2.2.2.2.2.1, v.2.2.2.2.2.2.2.2.2.2.2.1, v.2.2.2.2.2.2.2.2.2.2.2.2.1, v.2.2.2.2.2.2.2.2.2.2.2.2.2.1, v.2.2.2.2.2.2.2.2.2.2.2.2.2.2.1, v.2.2.2.2.2.2.2.2.2.2.2.2.2.2.2)))) else none)) else (let x20 : Int := (IntKind.u64.wrap (List.length v.2.2.1.2.1 : Int)); (let x21 : Int := (IntKind.u64.wrap ((65536 : Int) + x20)); (loop2 (v.2.2.2.2.2.2.2.2.2.2.2.2.2.2.2, x21, (0 : Int), v.2.2.2.2.2.2.2.2.2.2.2.1, v.2.2.2.2.2.2.2.2.2.2.2.2.1, v.2.2.2.2.2.2.2.2.2.2.2.2.2.1, v.2.2.2.2.2.2.2.2.2.2.2.2.2.2.1, v.2.2.2.2.2.2.1, v.2.2.2.2.2.2.2.1))))))
def gref14_Put_1 (N : Nat) (self0 : Y6 → Option Y3) (v : Y6) : Option Y3 := href14_Put_1 (iterV (gref14_Put_2 N self0) N) self0 v
theorem bref14_Put_1 (N : Nat) (s0) (v) : (floc (Eref14_Put) Tref14_Put 6 N Try.f19 [Z0, Z2, Z1] [false, false, false] [.call 1 4 14, .call 7 2 33] 0 nowhereR) s0 (eref14_Put_1 v) = gref14_Put_1 N (fun v => s0 (eref14_Put_1 v)) v := Eq.trans (b := href14_Put_1 (fun v => iterR (floc (Eref14_Put) Tref14_Put 6 N Try.f19 [Z0, Z2, Z1] [false, false, false] [] 0 nowhereR) N (eref14_Put_2 v)) (fun v => s0 (eref14_Put_1 v)) v) (by kernel_rfl) (by rw [funext (iterR_eq eref14_Put_2 (bref14_Put_2 N s0) N)]; rfl)
def nref14_Put (loop0 : Y10 → Option Y3) (loop1 : Y6 → Option Y3) (x : Y0 × Y1 × Int) : Option Y3 :=
  ((cref14_Limit (x.1, x.2.2)).bind fun x1 => (bif (x1 != (0 : Int)) then (let x2 : Y0 := ((0 : Int), (([] : Y1), ())); ((cref14_Limit (x.1, x.2.2)).bind fun x3 => (bif (x3 != (0 : Int)) then (let x4 : Y0 := ((0 : Int), (([] : Y1), ())); (some (x4, (0 : Int), x3))) else (loop0 (x.2.1, (0 : Int), (0 : Int), x.1, (0 : Int), (), ([] : List Int), x2))))) else (bif (decide ((List.length x.2.1 : Int) < (0 : Int))) then (let x8 : Y0 := ((0 : Int), (([] : Y1), ())); (let x9 : Y0 := ((0 : Int), (([] : Y1), ())); (some (x9, (0 : Int), (2 : Int))))) else (bif (decide ((List.length x.2.1 : Int) > (4096 : Int))) then (let x10 : Y0 := ((0 : Int), (([] : Y1), ())); (let x11 : Y0 := ((0 : Int), (([] : Y1), ())); (some (x11, (0 : Int), (2 : Int))))) else ((cref14_Fits (x.1, (List.length x.2.1 : Int), x.2.2)).bind fun x12 => (bif (!x12) then (let x13 : Y0 := ((0 : Int), (([] : Y1), ())); (let x14 : Y0 := ((0 : Int), (([] : Y1), ())); (some (x14, (0 : Int), (18 : Int))))) else (bif (Nat.ble 1 1 && Nat.ble (List.length ([] : Y1) + List.length x.1.2.1) lim) then (let x15 : Y1 := (List.append ([] : Y1) x.1.2.1); (loop1 ((List.length x.2.1 : Int), (0 : Int), x.1, (0 : Int), (), ([] : List Int), x.1.1, x15, (0 : Int), (), ([] : List Int), x.1, (0 : Int), (), ([] : List Int), x.2.1))) else none)))))))
def cref14_Put (x : Y0 × Y1 × Int) : Option Y3 := nref14_Put (iterV (gref14_Put_0 big) big) (iterV (gref14_Put_1 big) big) x
def Gref14_Put : Fn2 := ⟨[Z0, (.slice Z3), Z1], [Z0, Z2, Z1], [false, false, false], fun x => cref14_Put x⟩
theorem Lref14_Put : Rises Try.prog 19 Gref14_Put := rzl (E := Eref14_Put) (lt := Tref14_Put) (lv := 6) (fun N x => nref14_Put (iterV (gref14_Put_0 N) N) (iterV (gref14_Put_1 N) N) x) ⟨tabOk, (fsCons2 Lref14_Limit (fsCons2 Lref14_Size (fsCons2 Lref14_Fits fsNil2))), fun _ _ _ => rfl, mixed, (inlCons (inlB_of Try.func10 rfl rfl (by kernel_rfl)) (inlCons (inlB_of Try.func14 rfl rfl (by kernel_rfl)) (inlCons (inlB_of Try.func33 rfl rfl (by kernel_rfl)) inlNil))), rcsNil, owsNil⟩ Try.func19 fun N x => Eq.trans (b := nref14_Put (fun v => iterR (floc (Eref14_Put) Tref14_Put 6 N Try.f19 [Z0, Z2, Z1] [false, false, false] [] 0 nowhereR) N (eref14_Put_0 v)) (fun v => iterR (floc (Eref14_Put) Tref14_Put 6 N Try.f19 [Z0, Z2, Z1] [false, false, false] [.call 1 4 14, .call 7 2 33] 0 nowhereR) N (eref14_Put_1 v)) x) (by kernel_rfl) (by rw [funext (iterR_eq eref14_Put_0 (bref14_Put_0 N) N), funext (iterR_eq eref14_Put_1 (bref14_Put_1 N) N)] <;> rfl)

def Tref14_Texts : LT := { live := [(6,[0,1,4,7]),(13,[0,1,4,8,9,10])],keep := [] }
/-! ### wreckage/wreckageref14.Texts -/
noncomputable def Eref14_Texts : Env2 := { tab := tab, fs := [(17, Gref14_New), (19, Gref14_Put)], inl := [], vl := [51] }
noncomputable def eref14_Texts_1 (v : Y11) : St := ⟨[(0, (.val ⟨Z4, v.1⟩)), (1, (.val ⟨Z1, v.2.1⟩)), (4, (.loc 0 [])), (8, (.loc 2 [])), (9, (.row 3)), (10, (.val ⟨Z1, v.2.2.1⟩))], [(0, .var Z0 (.pair (.val ⟨Z2, v.2.2.2.1⟩) (.pair (.row 1) (.val ⟨.unit, v.2.2.2.2.1⟩)))), (1, .row Z3 v.2.2.2.2.2.1), (2, .var Z0 (.val ⟨Z0, v.2.2.2.2.2.2.1⟩)), (3, .row Z2 v.2.2.2.2.2.2.2)], [], 4096⟩
noncomputable def eref14_Texts_0 (v : Y12) : St := ⟨[(0, (.val ⟨Z4, v.1⟩)), (1, (.val ⟨Z1, v.2.1⟩)), (4, (.loc 0 [])), (7, (.val ⟨Z1, v.2.2.1⟩))], [(0, .var Z0 (.pair (.val ⟨Z2, v.2.2.2.1⟩) (.pair (.row 1) (.val ⟨.unit, v.2.2.2.2.1⟩)))), (1, .row Z3 v.2.2.2.2.2)], [], 4096⟩
def href14_Texts_1 (self0 : Y12 → Option Y4) (self1 : Y11 → Option Y4) (v : Y11) : Option Y4 :=
  (bif (decide (v.2.2.1 < (List.length v.1 : Int))) then ((getI v.1 v.2.2.1).bind fun x8 => ((cref14_Put (v.2.2.2.2.2.2.1, x8, v.2.1)).bind fun x9 => (bif (x9.2.2 != (0 : Int)) then (let x10 : Y0 := ((0 : Int), (([] : Y1), ())); (some (x10, ([] : List Int), x9.2.2))) else (bif (Nat.ble 1 1 && Nat.ble (List.length v.2.2.2.2.2.2.2 + List.length ([x9.2.1] : Y1)) lim) then (let x11 : Y1 := (List.append v.2.2.2.2.2.2.2 ([x9.2.1] : Y1)); (let x12 : Int := (IntKind.i64.wrap (v.2.2.1 + (1 : Int))); (self1 (v.1, v.2.1, x12, v.2.2.2.1, v.2.2.2.2.1, v.2.2.2.2.2.1, x9.1, x11)))) else none)))) else (some (v.2.2.2.2.2.2.1, v.2.2.2.2.2.2.2, (0 : Int))))
def gref14_Texts_1 (N : Nat) (self0 : Y12 → Option Y4) (self1 : Y11 → Option Y4) (v : Y11) : Option Y4 := href14_Texts_1 self0 self1 v
theorem bref14_Texts_1 (N : Nat) (s0 : St → Option Y4) (s1) (v) : (floc (Eref14_Texts) Tref14_Texts 6 N Try.f21 [Z0, (.slice Z2), Z1] [false, true, false] [] 1 nowhereR) s1 (eref14_Texts_1 v) = gref14_Texts_1 N (fun v => s0 (eref14_Texts_0 v)) (fun v => s1 (eref14_Texts_1 v)) v := by kernel_rfl
def href14_Texts_0 (loop1 : Y11 → Option Y4) (self0 : Y12 → Option Y4) (v : Y12) : Option Y4 :=
  (bif (decide (v.2.2.1 < (List.length v.1 : Int))) then ((getI v.1 v.2.2.1).bind fun x4 => (bif (decide ((List.length x4 : Int) > (64 : Int))) then (let x5 : Y0 := ((0 : Int), (([] : Y1), ())); (some (x5, ([] : List Int), (2 : Int)))) else (let x6 : Int := (IntKind.i64.wrap (v.2.2.1 + (1 : Int))); (self0 (v.1, v.2.1, x6, v.2.2.2.1, v.2.2.2.2.1, v.2.2.2.2.2))))) else ((cref14_New ()).bind fun x7 => (loop1 (v.1, v.2.1, (0 : Int), v.2.2.2.1, v.2.2.2.2.1, v.2.2.2.2.2, x7, ([] : List Int)))))
def gref14_Texts_0 (N : Nat) (self0 : Y12 → Option Y4) (v : Y12) : Option Y4 := href14_Texts_0 (iterV (gref14_Texts_1 N self0) N) self0 v
theorem bref14_Texts_0 (N : Nat) (s0) (v) : (floc (Eref14_Texts) Tref14_Texts 6 N Try.f21 [Z0, (.slice Z2), Z1] [false, true, false] [] 0 nowhereR) s0 (eref14_Texts_0 v) = gref14_Texts_0 N (fun v => s0 (eref14_Texts_0 v)) v := Eq.trans (b := href14_Texts_0 (fun v => iterR (floc (Eref14_Texts) Tref14_Texts 6 N Try.f21 [Z0, (.slice Z2), Z1] [false, true, false] [] 1 nowhereR) N (eref14_Texts_1 v)) (fun v => s0 (eref14_Texts_0 v)) v) (by kernel_rfl) (by rw [funext (iterR_eq eref14_Texts_1 (bref14_Texts_1 N s0) N)]; rfl)
def nref14_Texts (loop0 : Y12 → Option Y4) (x : Y2 × Int) : Option Y4 :=
  (bif (decide (x.2 < (0 : Int))) then (let x1 : Y0 := ((0 : Int), (([] : Y1), ())); (some (x1, ([] : List Int), (2 : Int)))) else (bif (decide (x.2 > (16384 : Int))) then (let x2 : Y0 := ((0 : Int), (([] : Y1), ())); (some (x2, ([] : List Int), (2 : Int)))) else (bif (decide ((List.length x.1 : Int) > (32 : Int))) then (let x3 : Y0 := ((0 : Int), (([] : Y1), ())); (some (x3, ([] : List Int), (4 : Int)))) else (loop0 (x.1, x.2, (0 : Int), (0 : Int), (), ([] : List Int))))))
def cref14_Texts (x : Y2 × Int) : Option Y4 := nref14_Texts (iterV (gref14_Texts_0 big) big) x
def Gref14_Texts : Fn2 := ⟨[Z4, Z1], [Z0, (.slice Z2), Z1], [false, true, false], fun x => cref14_Texts x⟩
theorem Lref14_Texts : Rises Try.prog 21 Gref14_Texts := rzl (E := Eref14_Texts) (lt := Tref14_Texts) (lv := 6) (fun N x => nref14_Texts (iterV (gref14_Texts_0 N) N) x) ⟨tabOk, (fsCons2 Lref14_New (fsCons2 Lref14_Put fsNil2)), fun _ _ _ => rfl, mixed, inlNil, rcsNil, owsNil⟩ Try.func21 fun N x => Eq.trans (b := nref14_Texts (fun v => iterR (floc (Eref14_Texts) Tref14_Texts 6 N Try.f21 [Z0, (.slice Z2), Z1] [false, true, false] [] 0 nowhereR) N (eref14_Texts_0 v)) x) (by kernel_rfl) (by rw [funext (iterR_eq eref14_Texts_0 (bref14_Texts_0 N) N)] <;> rfl)

def Tref14_SameWords : LT := { live := [(4,[0,1,5])],keep := [] }
/-! ### wreckage/wreckageref14.SameWords -/
noncomputable def Eref14_SameWords : Env2 := { tab := tab, fs := [], inl := [] }
noncomputable def eref14_SameWords_0 (v : Y1 × Y1 × Int) : St := ⟨[(0, (.val ⟨(.slice Z2), v.1⟩)), (1, (.val ⟨(.slice Z2), v.2.1⟩)), (5, (.val ⟨Z1, v.2.2⟩))], [], [], 4096⟩
def href14_SameWords_0 (self0 : Y1 × Y1 × Int → Option (Bool)) (v : Y1 × Y1 × Int) : Option (Bool) :=
  (bif (decide (v.2.2 < (List.length v.1 : Int))) then ((getI v.1 v.2.2).bind fun x1 => ((getI v.2.1 v.2.2).bind fun x2 => (bif (x1 != x2) then (some false) else (let x3 : Int := (IntKind.i64.wrap (v.2.2 + (1 : Int))); (self0 (v.1, v.2.1, x3)))))) else (some true))
def gref14_SameWords_0 (N : Nat) (self0 : Y1 × Y1 × Int → Option (Bool)) (v : Y1 × Y1 × Int) : Option (Bool) := href14_SameWords_0 self0 v
theorem bref14_SameWords_0 (N : Nat) (s0) (v) : (floc (Eref14_SameWords) Tref14_SameWords 6 N Try.f22 [.bool] [false] [] 0 nowhereR) s0 (eref14_SameWords_0 v) = gref14_SameWords_0 N (fun v => s0 (eref14_SameWords_0 v)) v := by kernel_rfl
def nref14_SameWords (loop0 : Y1 × Y1 × Int → Option (Bool)) (x : Y1 × Y1) : Option (Bool) :=
  (bif ((List.length x.1 : Int) != (List.length x.2 : Int)) then (some false) else (loop0 (x.1, x.2, (0 : Int))))
def cref14_SameWords (x : Y1 × Y1) : Option (Bool) := nref14_SameWords (iterV (gref14_SameWords_0 big) big) x
def Gref14_SameWords : Fn2 := ⟨[(.slice Z2), (.slice Z2)], [.bool], [false], fun x => cref14_SameWords x⟩
theorem Lref14_SameWords : Rises Try.prog 22 Gref14_SameWords := rzl (E := Eref14_SameWords) (lt := Tref14_SameWords) (lv := 6) (fun N x => nref14_SameWords (iterV (gref14_SameWords_0 N) N) x) ⟨tabOk, fsNil2, fun _ _ _ => rfl, mixed, inlNil, rcsNil, owsNil⟩ Try.func22 fun N x => Eq.trans (b := nref14_SameWords (fun v => iterR (floc (Eref14_SameWords) Tref14_SameWords 6 N Try.f22 [.bool] [false] [] 0 nowhereR) N (eref14_SameWords_0 v)) x) (by kernel_rfl) (by rw [funext (iterR_eq eref14_SameWords_0 (bref14_SameWords_0 N) N)] <;> rfl)

end Go.Proofs.Ytlmhokakghbciaa
