/- Functions of the program, read as plain functions: each equation is checked by the kernel. -/
import Derived.Test.YtmioekkonoehpaaScrA
set_option linter.unusedVariables false
set_option maxRecDepth 100000
namespace Go.Proofs.Ytmioekkonoehpaa
open Go.Lift
def Tref04_SameInts : LT := { live := [(4,[0,1,5])],keep := [] }
/-! ### wreckage/wreckageref04.SameInts -/
noncomputable def Eref04_SameInts : Env2 := { tab := tab, fs := [], inl := [] }
noncomputable def eref04_SameInts_0 (v : Y1 × Y1 × Int) : St := ⟨[(0, (.val ⟨(.slice Z2), v.1⟩)), (1, (.val ⟨(.slice Z2), v.2.1⟩)), (5, (.val ⟨Z2, v.2.2⟩))], [], [], 4096⟩
def href04_SameInts_0 (self0 : Y1 × Y1 × Int → Option (Bool)) (v : Y1 × Y1 × Int) : Option (Bool) :=
  (bif (decide (v.2.2 < (List.length v.1 : Int))) then ((getI v.1 v.2.2).bind fun x1 => ((getI v.2.1 v.2.2).bind fun x2 => (bif (x1 != x2) then (some false) else (let x3 : Int := (IntKind.i64.wrap (v.2.2 + (1 : Int))); (self0 (v.1, v.2.1, x3)))))) else (some true))
def gref04_SameInts_0 (N : Nat) (self0 : Y1 × Y1 × Int → Option (Bool)) (v : Y1 × Y1 × Int) : Option (Bool) := href04_SameInts_0 self0 v
theorem bref04_SameInts_0 (N : Nat) (s0) (v) : (floc (Eref04_SameInts) Tref04_SameInts 6 N Try.f23 [.bool] [false] [] 0 nowhereR) s0 (eref04_SameInts_0 v) = gref04_SameInts_0 N (fun v => s0 (eref04_SameInts_0 v)) v := by kernel_rfl
def nref04_SameInts (loop0 : Y1 × Y1 × Int → Option (Bool)) (x : Y1 × Y1) : Option (Bool) :=
  (bif ((List.length x.1 : Int) != (List.length x.2 : Int)) then (some false) else (loop0 (x.1, x.2, (0 : Int))))
def cref04_SameInts (x : Y1 × Y1) : Option (Bool) := nref04_SameInts (iterV (gref04_SameInts_0 big) big) x
def Gref04_SameInts : Fn2 := ⟨[(.slice Z2), (.slice Z2)], [.bool], [false], fun x => cref04_SameInts x⟩
theorem Lref04_SameInts : Rises Try.prog 23 Gref04_SameInts := rzl (E := Eref04_SameInts) (lt := Tref04_SameInts) (lv := 6) (fun N x => nref04_SameInts (iterV (gref04_SameInts_0 N) N) x) ⟨tabOk, fsNil2, fun _ _ _ => rfl, mixed, inlNil, rcsNil, owsNil⟩ Try.func23 fun N x => Eq.trans (b := nref04_SameInts (fun v => iterR (floc (Eref04_SameInts) Tref04_SameInts 6 N Try.f23 [.bool] [false] [] 0 nowhereR) N (eref04_SameInts_0 v)) x) (by kernel_rfl) (by rw [funext (iterR_eq eref04_SameInts_0 (bref04_SameInts_0 N) N)] <;> rfl)

def Tref11_Same : LT := { live := [],keep := [] }
/-! ### wreckage/wreckageref11.Same -/
noncomputable def Eref11_Same : Env2 := { tab := tab, fs := [(23, Gref04_SameInts)], inl := [] }
def nref11_Same (x : Y0 × Y0) : Option (Bool) :=
  (bif (eqD Z4 x.1.2.1 x.2.2.1) then ((cref04_SameInts (x.1.1, x.2.1)).bind fun x1 => (some x1)) else (some false))
def cref11_Same (x : Y0 × Y0) : Option (Bool) := nref11_Same x
def Gref11_Same : Fn2 := ⟨[Z0, Z0], [.bool], [false], fun x => cref11_Same x⟩
theorem Lref11_Same : Rises Try.prog 16 Gref11_Same := rzl (E := Eref11_Same) (lt := Tref11_Same) (lv := 6) (fun _ => cref11_Same) ⟨tabOk, (fsCons2 Lref04_SameInts fsNil2), fun _ _ _ => rfl, mixed, inlNil, rcsNil, owsNil⟩ Try.func16 fun N x => by kernel_rfl

def Tref11_Great : LT := { live := [],keep := [] }
/-! ### wreckage/wreckageref11.Great -/
noncomputable def Eref11_Great : Env2 := { tab := tab, fs := [], inl := [] }
def nref11_Great (x : Y0) : Option (Bool) :=
  (bif (decide ((List.length x.1 : Int) > (300 : Int))) then (bif (decide ((List.length x.1 : Int) ≤ (2000 : Int))) then (some true) else (some (decide ((List.length x.1 : Int) > (2100 : Int))))) else (some (decide ((List.length x.1 : Int) > (2100 : Int)))))
def cref11_Great (x : Y0) : Option (Bool) := nref11_Great x
def Gref11_Great : Fn2 := ⟨[Z0], [.bool], [false], fun x => cref11_Great x⟩
theorem Lref11_Great : Rises Try.prog 18 Gref11_Great := rzl (E := Eref11_Great) (lt := Tref11_Great) (lv := 6) (fun _ => cref11_Great) ⟨tabOk, fsNil2, fun _ _ _ => rfl, mixed, inlNil, rcsNil, owsNil⟩ Try.func18 fun N x => by kernel_rfl

def Tref11_Limited : LT := { live := [],keep := [] }
/-! ### wreckage/wreckageref11.Limited -/
noncomputable def Eref11_Limited : Env2 := { tab := tab, fs := [], inl := [] }
def nref11_Limited (x : Y2) : Option (Bool) :=
  (bif (decide (x.1 ≥ (1 : Int))) then (bif (decide (x.1 ≤ (5000 : Int))) then (bif (decide (x.2.1 ≥ (0 : Int))) then (bif (decide (x.2.1 ≤ (4096 : Int))) then (bif (decide (x.2.2.1 ≥ (0 : Int))) then (bif (decide (x.2.2.1 ≤ (16384 : Int))) then (bif (decide (x.2.2.2.1 ≥ (1 : Int))) then (some (decide (x.2.2.2.1 ≤ (16 : Int)))) else (some false)) else (some false)) else (some false)) else (some false)) else (some false)) else (some false)) else (some false))
def cref11_Limited (x : Y2) : Option (Bool) := nref11_Limited x
def Gref11_Limited : Fn2 := ⟨[Z4], [.bool], [false], fun x => cref11_Limited x⟩
theorem Lref11_Limited : Rises Try.prog 32 Gref11_Limited := rzl (E := Eref11_Limited) (lt := Tref11_Limited) (lv := 6) (fun _ => cref11_Limited) ⟨tabOk, fsNil2, fun _ _ _ => rfl, mixed, inlNil, rcsNil, owsNil⟩ Try.func32 fun N x => by kernel_rfl

def Tref11_Check : LT := { live := [(4,[1,3])],keep := [] }
/-! ### wreckage/wreckageref11.Check -/
noncomputable def Eref11_Check : Env2 := { tab := tab, fs := [(32, Gref11_Limited)], inl := [] }
noncomputable def eref11_Check_0 (v : Int × Y0) : St := ⟨[(1, (.loc 0 [])), (3, (.val ⟨Z2, v.1⟩))], [(0, .var Z0 (.val ⟨Z0, v.2⟩))], [], 4096⟩
def href11_Check_0 (self0 : Int × Y0 → Option (Int)) (v : Int × Y0) : Option (Int) :=
  (bif (decide (v.1 < (List.length v.2.1 : Int))) then ((getI v.2.1 v.1).bind fun x2 => (bif (decide (x2 < (0 : Int))) then (some (8 : Int)) else ((getI v.2.1 v.1).bind fun x3 => (bif (decide (x3 > (65535 : Int))) then (some (8 : Int)) else (let x4 : Int := (IntKind.i64.wrap (v.1 + (1 : Int))); (self0 (x4, v.2))))))) else (some (0 : Int)))
def gref11_Check_0 (N : Nat) (self0 : Int × Y0 → Option (Int)) (v : Int × Y0) : Option (Int) := href11_Check_0 self0 v
theorem bref11_Check_0 (N : Nat) (s0) (v) : (floc (Eref11_Check) Tref11_Check 6 N Try.f22 [Z2] [false] [] 0 nowhereR) s0 (eref11_Check_0 v) = gref11_Check_0 N (fun v => s0 (eref11_Check_0 v)) v := by kernel_rfl
def nref11_Check (loop0 : Int × Y0 → Option (Int)) (x : Y0) : Option (Int) :=
  (bif (decide ((List.length x.1 : Int) > (2000 : Int))) then (some (8 : Int)) else ((cref11_Limited x.2.1).bind fun x1 => (bif (!x1) then (some (8 : Int)) else (loop0 ((0 : Int), x)))))
def cref11_Check (x : Y0) : Option (Int) := nref11_Check (iterV (gref11_Check_0 big) big) x
def Gref11_Check : Fn2 := ⟨[Z0], [Z2], [false], fun x => cref11_Check x⟩
theorem Lref11_Check : Rises Try.prog 22 Gref11_Check := rzl (E := Eref11_Check) (lt := Tref11_Check) (lv := 6) (fun N x => nref11_Check (iterV (gref11_Check_0 N) N) x) ⟨tabOk, (fsCons2 Lref11_Limited fsNil2), fun _ _ _ => rfl, mixed, inlNil, rcsNil, owsNil⟩ Try.func22 fun N x => Eq.trans (b := nref11_Check (fun v => iterR (floc (Eref11_Check) Tref11_Check 6 N Try.f22 [Z2] [false] [] 0 nowhereR) N (eref11_Check_0 v)) x) (by kernel_rfl) (by rw [funext (iterR_eq eref11_Check_0 (bref11_Check_0 N) N)] <;> rfl)

def Tref02_Minimal : LT := { live := [(2,[0,3])],keep := [] }
/-! ### wreckage/wreckageref02.Minimal -/
noncomputable def Eref02_Minimal : Env2 := { tab := tab, fs := [], inl := [] }
noncomputable def eref02_Minimal_0 (v : Int × Y1) : St := ⟨[(0, (.val ⟨Z5, v.1⟩)), (3, (.row 0))], [(0, .row (.int .u8) v.2)], [], 4096⟩
def href02_Minimal_0 (self0 : Int × Y1 → Option (Y1)) (v : Int × Y1) : Option (Y1) :=
  (bif (decide (v.1 ≥ (128 : Int))) then (let x1 : Int := (IntKind.u8.wrap (v.1.tmod (128 : Int))); (let x2 : Int := (IntKind.u8.wrap (x1 + (128 : Int))); (bif (Nat.ble 1 1 && Nat.ble (List.length v.2 + List.length ([x2] : Y1)) lim) then (let x3 : Y1 := (List.append v.2 ([x2] : Y1)); (let x4 : Int := (IntKind.u64.wrap (v.1.tdiv (128 : Int))); (self0 (x4, x3)))) else none))) else (let x5 : Y1 := ([(IntKind.u8.wrap v.1)] : Y1); (bif (Nat.ble 1 1 && Nat.ble (List.length v.2 + List.length x5) lim) then (some (List.append v.2 x5)) else none)))
def gref02_Minimal_0 (N : Nat) (self0 : Int × Y1 → Option (Y1)) (v : Int × Y1) : Option (Y1) := href02_Minimal_0 self0 v
theorem bref02_Minimal_0 (N : Nat) (s0) (v) : (floc (Eref02_Minimal) Tref02_Minimal 6 N Try.f36 [Z3] [true] [] 0 nowhereR) s0 (eref02_Minimal_0 v) = gref02_Minimal_0 N (fun v => s0 (eref02_Minimal_0 v)) v := by kernel_rfl
def nref02_Minimal (loop0 : Int × Y1 → Option (Y1)) (x : Int) : Option (Y1) :=
  (loop0 (x, ([] : List Int)))
def cref02_Minimal (x : Int) : Option (Y1) := nref02_Minimal (iterV (gref02_Minimal_0 big) big) x
def Gref02_Minimal : Fn2 := ⟨[Z5], [Z3], [true], fun x => cref02_Minimal x⟩
theorem Lref02_Minimal : Rises Try.prog 36 Gref02_Minimal := rzl (E := Eref02_Minimal) (lt := Tref02_Minimal) (lv := 6) (fun N x => nref02_Minimal (iterV (gref02_Minimal_0 N) N) x) ⟨tabOk, fsNil2, fun _ _ _ => rfl, mixed, inlNil, rcsNil, owsNil⟩ Try.func36 fun N x => Eq.trans (b := nref02_Minimal (fun v => iterR (floc (Eref02_Minimal) Tref02_Minimal 6 N Try.f36 [Z3] [true] [] 0 nowhereR) N (eref02_Minimal_0 v)) x) (by kernel_rfl) (by rw [funext (iterR_eq eref02_Minimal_0 (bref02_Minimal_0 N) N)] <;> rfl)

def Tref11_Coded : LT := { live := [(4,[3,4,5])],keep := [] }
/-! ### wreckage/wreckageref11.Coded -/
noncomputable def Eref11_Coded : Env2 := { tab := tab, fs := [(36, Gref02_Minimal)], inl := [] }
noncomputable def eref11_Coded_0 (v : Int × Y1 × Y1) : St := ⟨[(3, (.row 0)), (4, (.row 1)), (5, (.val ⟨Z2, v.1⟩))], [(0, .row Z2 v.2.1), (1, .row (.int .u8) v.2.2)], [], 4096⟩
def href11_Coded_0 (self0 : Int × Y1 × Y1 → Option (Y1)) (v : Int × Y1 × Y1) : Option (Y1) :=
  (bif (decide (v.1 < (List.length v.2.1 : Int))) then (bif (decide (0 ≤ v.1) && decide (v.1 < (List.length v.2.1 : Int))) then ((nth v.2.1 (Int.toNat v.1)).bind fun x2 => ((cref02_Minimal (IntKind.u64.wrap x2)).bind fun x3 => (bif (Nat.ble 1 1 && Nat.ble (List.length v.2.2 + List.length x3) lim) then (let x4 : Int := (IntKind.i64.wrap (v.1 + (1 : Int))); (self0 (x4, v.2.1, (List.append v.2.2 x3)))) else none))) else none) else (some v.2.2))
def gref11_Coded_0 (N : Nat) (self0 : Int × Y1 × Y1 → Option (Y1)) (v : Int × Y1 × Y1) : Option (Y1) := href11_Coded_0 self0 v
theorem bref11_Coded_0 (N : Nat) (s0) (v) : (floc (Eref11_Coded) Tref11_Coded 6 N Try.f31 [Z3] [true] [] 0 nowhereR) s0 (eref11_Coded_0 v) = gref11_Coded_0 N (fun v => s0 (eref11_Coded_0 v)) v := by kernel_rfl
def nref11_Coded (loop0 : Int × Y1 × Y1 → Option (Y1)) (x : Y0) : Option (Y1) :=
  (let x1 : Y1 := ([x.2.1.1, x.2.1.2.1, x.2.1.2.2.1, x.2.1.2.2.2.1, (List.length x.1 : Int)] : Y1); (bif (Nat.ble 1 1 && Nat.ble (List.length x1 + List.length x.1) lim) then (loop0 ((0 : Int), (List.append x1 x.1), ([] : List Int))) else none))
def cref11_Coded (x : Y0) : Option (Y1) := nref11_Coded (iterV (gref11_Coded_0 big) big) x
def Gref11_Coded : Fn2 := ⟨[Z0], [Z3], [true], fun x => cref11_Coded x⟩
theorem Lref11_Coded : Rises Try.prog 31 Gref11_Coded := rzl (E := Eref11_Coded) (lt := Tref11_Coded) (lv := 6) (fun N x => nref11_Coded (iterV (gref11_Coded_0 N) N) x) ⟨tabOk, (fsCons2 Lref02_Minimal fsNil2), fun _ _ _ => rfl, mixed, inlNil, rcsNil, owsNil⟩ Try.func31 fun N x => Eq.trans (b := nref11_Coded (fun v => iterR (floc (Eref11_Coded) Tref11_Coded 6 N Try.f31 [Z3] [true] [] 0 nowhereR) N (eref11_Coded_0 v)) x) (by kernel_rfl) (by rw [funext (iterR_eq eref11_Coded_0 (bref11_Coded_0 N) N)] <;> rfl)

def Tref11_Encode : LT := { live := [],keep := [] }
/-! ### wreckage/wreckageref11.Encode -/
noncomputable def Eref11_Encode : Env2 := { tab := tab, fs := [(22, Gref11_Check), (31, Gref11_Coded)], inl := [] }
def nref11_Encode (x : Y0) : Option Y10 :=
  ((cref11_Check x).bind fun x1 => (bif (x1 != (0 : Int)) then (some (([] : List Int), (8 : Int))) else ((cref11_Coded x).bind fun x2 => (some (x2, (0 : Int))))))
def cref11_Encode (x : Y0) : Option Y10 := nref11_Encode x
def Gref11_Encode : Fn2 := ⟨[Z0], [Z3, Z2], [true, false], fun x => cref11_Encode x⟩
theorem Lref11_Encode : Rises Try.prog 19 Gref11_Encode := rzl (E := Eref11_Encode) (lt := Tref11_Encode) (lv := 6) (fun _ => cref11_Encode) ⟨tabOk, (fsCons2 Lref11_Check (fsCons2 Lref11_Coded fsNil2)), fun _ _ _ => rfl, mixed, inlNil, rcsNil, owsNil⟩ Try.func19 fun N x => by kernel_rfl

def Tref11_Cut : LT := { live := [],keep := [] }
/-! ### wreckage/wreckageref11.Cut -/
noncomputable def Eref11_Cut : Env2 := { tab := tab, fs := [(22, Gref11_Check)], inl := [], ag := [28] }
def nref11_Cut (x : Y0 × Int) : Option Y11 :=
  ((cref11_Check x.1).bind fun x1 => (bif (x1 != (0 : Int)) then (let x2 : Y0 := (([] : Y1), (((0 : Int), ((0 : Int), ((0 : Int), ((0 : Int), ())))), ())); (some (x2, (8 : Int)))) else (bif (decide (x.2 < (0 : Int))) then (let x3 : Y0 := (([] : Y1), (((0 : Int), ((0 : Int), ((0 : Int), ((0 : Int), ())))), ())); (some (x3, (2 : Int)))) else (bif (decide (x.2 > (List.length x.1.1 : Int))) then (let x4 : Y0 := (([] : Y1), (((0 : Int), ((0 : Int), ((0 : Int), ((0 : Int), ())))), ())); (some (x4, (2 : Int)))) else (bif (decide (0 ≤ x.2) && decide (x.2 ≤ (List.length x.1.1 : Int))) then (let x5 : Y1 := (List.take (Int.toNat x.2) x.1.1); (bif (Nat.ble 1 1 && Nat.ble (List.length ([] : Y1) + List.length x5) lim) then (let x6 : Y1 := (List.append ([] : Y1) x5); (some ((x6, (x.1.2.1, ())), (0 : Int)))) else none)) else none)))))
def cref11_Cut (x : Y0 × Int) : Option Y11 := nref11_Cut x
def Gref11_Cut : Fn2 := ⟨[Z0, Z2], [Z0, Z2], [false, false], fun x => cref11_Cut x⟩
theorem Lref11_Cut : Rises Try.prog 20 Gref11_Cut := rzl (E := Eref11_Cut) (lt := Tref11_Cut) (lv := 6) (fun _ => cref11_Cut) ⟨tabOk, (fsCons2 Lref11_Check fsNil2), fun _ _ _ => rfl, mixed, inlNil, rcsNil, owsNil⟩ Try.func20 fun N x => by kernel_rfl

def Tref11_Pick : LT := { live := [],keep := [] }
/-! ### wreckage/wreckageref11.Pick -/
noncomputable def Eref11_Pick : Env2 := { tab := tab, fs := [], inl := [] }
def nref11_Pick (x : Int × Int) : Option (Int × Int) :=
  (bif (decide (x.1 < (0 : Int))) then (some ((0 : Int), (2 : Int))) else (bif (decide (x.1 > (65535 : Int))) then (some ((0 : Int), (2 : Int))) else (bif (decide (x.2 < (0 : Int))) then (some ((0 : Int), (2 : Int))) else (bif (decide (x.2 > (16 : Int))) then (some ((0 : Int), (2 : Int))) else (bif (x.2 == (0 : Int)) then (some ((0 : Int), (6 : Int))) else (bif (x.2 == 0) then none else (some ((x.1.tmod x.2), (0 : Int)))))))))
def cref11_Pick (x : Int × Int) : Option (Int × Int) := nref11_Pick x
def Gref11_Pick : Fn2 := ⟨[Z2, Z2], [Z2, Z2], [false, false], fun x => cref11_Pick x⟩
theorem Lref11_Pick : Rises Try.prog 21 Gref11_Pick := rzl (E := Eref11_Pick) (lt := Tref11_Pick) (lv := 6) (fun _ => cref11_Pick) ⟨tabOk, fsNil2, fun _ _ _ => rfl, mixed, inlNil, rcsNil, owsNil⟩ Try.func21 fun N x => by kernel_rfl

def Tref02_Check : LT := { live := [],keep := [] }
/-! ### wreckage/wreckageref02.Check -/
noncomputable def Eref02_Check : Env2 := { tab := tab, fs := [], inl := [] }
def nref02_Check (x : Y3) : Option (Int) :=
  (bif (decide ((List.length x.1 : Int) > (200000 : Int))) then (some (8 : Int)) else (bif (decide (x.2.1 < (0 : Int))) then (some (8 : Int)) else (bif (decide (x.2.1 > (List.length x.1 : Int))) then (some (8 : Int)) else (some (0 : Int)))))
def cref02_Check (x : Y3) : Option (Int) := nref02_Check x
def Gref02_Check : Fn2 := ⟨[Z1], [Z2], [false], fun x => cref02_Check x⟩
theorem Lref02_Check : Rises Try.prog 39 Gref02_Check := rzl (E := Eref02_Check) (lt := Tref02_Check) (lv := 6) (fun _ => cref02_Check) ⟨tabOk, fsNil2, fun _ _ _ => rfl, mixed, inlNil, rcsNil, owsNil⟩ Try.func39 fun N x => by kernel_rfl

def Tref02_on : LT := { live := [],keep := [] }
/-! ### wreckage/wreckageref02.on -/
noncomputable def Eref02_on : Env2 := { tab := tab, fs := [], inl := [] }
def nref02_on (x : Y3 × Int) : Option (Y3) :=
  (let x1 : Int := (IntKind.i64.wrap (x.1.2.1 + x.2)); (some (x.1.1, (x1, ()))))
def cref02_on (x : Y3 × Int) : Option (Y3) := nref02_on x
def Gref02_on : Fn2 := ⟨[Z1, Z2], [Z1], [false], fun x => cref02_on x⟩
theorem Lref02_on : Rises Try.prog 44 Gref02_on := rzl (E := Eref02_on) (lt := Tref02_on) (lv := 6) (fun _ => cref02_on) ⟨tabOk, fsNil2, fun _ _ _ => rfl, mixed, inlNil, rcsNil, owsNil⟩ Try.func44 fun N x => by kernel_rfl

def Tref02_Read : LT := { live := [(3,[1,2,5,6,7])],keep := [] }
/-! ### wreckage/wreckageref02.Read -/
noncomputable def Eref02_Read : Env2 := { tab := tab, fs := [(44, Gref02_on)], inl := [] }
noncomputable def eref02_Read_0 (v : Y14) : St := ⟨[(1, (.loc 0 [])), (2, (.loc 1 [])), (5, (.val ⟨Z5, v.1⟩)), (6, (.val ⟨Z5, v.2.1⟩)), (7, (.val ⟨Z2, v.2.2.1⟩))], [(0, .var Z1 (.val ⟨Z1, v.2.2.2.1⟩)), (1, .var Z1 (.pair (.row 2) (.val ⟨(.pair Z2 .unit), v.2.2.2.2.1⟩))), (2, .row (.int .u8) v.2.2.2.2.2)], [], 4096⟩
def href02_Read_0 (self0 : Y14 → Option Y5) (v : Y14) : Option Y5 :=
  (bif (decide (v.2.2.1 < (10 : Int))) then (let x1 : Int := (IntKind.i64.wrap (v.2.2.2.1.2.1 + v.2.2.1)); (bif (decide (x1 ≥ (List.length v.2.2.2.1.1 : Int))) then (let x2 : Y3 := (([] : Y1), ((0 : Int), ())); (some (x2, (0 : Int), (24 : Int)))) else (let x3 : Int := (IntKind.i64.wrap (v.2.2.2.1.2.1 + v.2.2.1)); ((getI v.2.2.2.1.1 x3).bind fun x4 => (bif (v.2.2.1 == (9 : Int)) then (bif (decide (x4 > (1 : Int))) then (let x5 : Y3 := (([] : Y1), ((0 : Int), ())); (some (x5, (0 : Int), (12 : Int)))) else (let x6 : Int := (IntKind.u64.wrap (x4.tmod (128 : Int))); (let x7 : Int := (IntKind.u64.wrap (v.2.1 * x6)); (let x8 : Int := (IntKind.u64.wrap (v.1 + x7)); (let x9 : Int := (IntKind.u64.wrap (v.2.1 * (128 : Int))); (bif (decide (x4 < (128 : Int))) then (bif (x4 == (0 : Int)) then (bif (decide (v.2.2.1 > (0 : Int))) then (let x10 : Y3 := (([] : Y1), ((0 : Int), ())); (some (x10, (0 : Int), (12 : Int)))) else (let x11 : Int := (IntKind.i64.wrap (v.2.2.1 + (1 : Int))); ((cref02_on (v.2.2.2.1, x11)).bind fun x12 => (some (x12, x8, (0 : Int)))))) else (let x13 : Int := (IntKind.i64.wrap (v.2.2.1 + (1 : Int))); ((cref02_on (v.2.2.2.1, x13)).bind fun x14 => (some (x14, x8, (0 : Int)))))) else (let x15 : Int := (IntKind.i64.wrap (v.2.2.1 + (1 : Int))); (self0 (x8, x9, x15, v.2.2.2.1, v.2.2.2.2.1, v.2.2.2.2.2))))))))) else (let x16 : Int := (IntKind.u64.wrap (x4.tmod (128 : Int))); (let x17 : Int := (IntKind.u64.wrap (v.2.1 * x16)); (let x18 : Int := (IntKind.u64.wrap (v.1 + x17)); (let x19 : Int := (IntKind.u64.wrap (v.2.1 * (128 : Int))); (bif (decide (x4 < (128 : Int))) then (bif (x4 == (0 : Int)) then (bif (decide (v.2.2.1 > (0 : Int))) then (let x20 : Y3 := (([] : Y1), ((0 : Int), ())); (some (x20, (0 : Int), (12 : Int)))) else (let x21 : Int := (IntKind.i64.wrap (v.2.2.1 + (1 : Int))); ((cref02_on (v.2.2.2.1, x21)).bind fun x22 => (some (x22, x18, (0 : Int)))))) else (let x23 : Int := (IntKind.i64.wrap (v.2.2.1 + (1 : Int))); ((cref02_on (v.2.2.2.1, x23)).bind fun x24 => (some (x24, x18, (0 : Int)))))) else (let x25 : Int := (IntKind.i64.wrap (v.2.2.1 + (1 : Int))); (self0 (x18, x19, x25, v.2.2.2.1, v.2.2.2.2.1, v.2.2.2.2.2))))))))))))) else (let x26 : Y3 := (([] : Y1), ((0 : Int), ())); (some (x26, (0 : Int), (12 : Int)))))
def gref02_Read_0 (N : Nat) (self0 : Y14 → Option Y5) (v : Y14) : Option Y5 := href02_Read_0 self0 v
theorem bref02_Read_0 (N : Nat) (s0) (v) : (floc (Eref02_Read) Tref02_Read 6 N Try.f40 [Z1, Z5, Z2] [false, false, false] [] 0 nowhereR) s0 (eref02_Read_0 v) = gref02_Read_0 N (fun v => s0 (eref02_Read_0 v)) v := by kernel_rfl
def nref02_Read (loop0 : Y14 → Option Y5) (x : Y3) : Option Y5 :=
  (loop0 ((0 : Int), (1 : Int), (0 : Int), x, ((0 : Int), ()), ([] : List Int)))
def cref02_Read (x : Y3) : Option Y5 := nref02_Read (iterV (gref02_Read_0 big) big) x
def Gref02_Read : Fn2 := ⟨[Z1], [Z1, Z5, Z2], [false, false, false], fun x => cref02_Read x⟩
theorem Lref02_Read : Rises Try.prog 40 Gref02_Read := rzl (E := Eref02_Read) (lt := Tref02_Read) (lv := 6) (fun N x => nref02_Read (iterV (gref02_Read_0 N) N) x) ⟨tabOk, (fsCons2 Lref02_on fsNil2), fun _ _ _ => rfl, mixed, inlNil, rcsNil, owsNil⟩ Try.func40 fun N x => Eq.trans (b := nref02_Read (fun v => iterR (floc (Eref02_Read) Tref02_Read 6 N Try.f40 [Z1, Z5, Z2] [false, false, false] [] 0 nowhereR) N (eref02_Read_0 v)) x) (by kernel_rfl) (by rw [funext (iterR_eq eref02_Read_0 (bref02_Read_0 N) N)] <;> rfl)

def Tref02_Unvary : LT := { live := [],keep := [] }
/-! ### wreckage/wreckageref02.Unvary -/
noncomputable def Eref02_Unvary : Env2 := { tab := tab, fs := [(39, Gref02_Check), (40, Gref02_Read)], inl := [] }
def nref02_Unvary (x : Y3 × Int) : Option Y5 :=
  ((cref02_Check x.1).bind fun x1 => (bif (x1 != (0 : Int)) then (let x2 : Y3 := (([] : Y1), ((0 : Int), ())); (some (x2, (0 : Int), (8 : Int)))) else ((cref02_Read x.1).bind fun x3 => (bif (x3.2.2 == (0 : Int)) then (bif (decide (x3.2.1 > x.2)) then (let x4 : Y3 := (([] : Y1), ((0 : Int), ())); (some (x4, (0 : Int), (4 : Int)))) else (bif (x3.2.2 != (0 : Int)) then (let x5 : Y3 := (([] : Y1), ((0 : Int), ())); (some (x5, (0 : Int), x3.2.2))) else (some (x3.1, x3.2.1, (0 : Int))))) else (bif (x3.2.2 != (0 : Int)) then (let x6 : Y3 := (([] : Y1), ((0 : Int), ())); (some (x6, (0 : Int), x3.2.2))) else (some (x3.1, x3.2.1, (0 : Int))))))))
def cref02_Unvary (x : Y3 × Int) : Option Y5 := nref02_Unvary x
def Gref02_Unvary : Fn2 := ⟨[Z1, Z5], [Z1, Z5, Z2], [false, false, false], fun x => cref02_Unvary x⟩
theorem Lref02_Unvary : Rises Try.prog 37 Gref02_Unvary := rzl (E := Eref02_Unvary) (lt := Tref02_Unvary) (lv := 6) (fun _ => cref02_Unvary) ⟨tabOk, (fsCons2 Lref02_Check (fsCons2 Lref02_Read fsNil2)), fun _ _ _ => rfl, mixed, inlNil, rcsNil, owsNil⟩ Try.func37 fun N x => by kernel_rfl

def Tref11_numbers : LT := { live := [(3,[0,4,5])],keep := [] }
/-! ### wreckage/wreckageref11.numbers -/
noncomputable def Eref11_numbers : Env2 := { tab := tab, fs := [(37, Gref02_Unvary)], inl := [] }
noncomputable def eref11_numbers_0 (v : Y1 × Y1 × Y3) : St := ⟨[(0, (.val ⟨Z3, v.1⟩)), (4, (.row 0)), (5, (.loc 1 []))], [(0, .row Z2 v.2.1), (1, .var Z1 (.val ⟨Z1, v.2.2⟩))], [], 4096⟩
def href11_numbers_0 (self0 : Y1 × Y1 × Y3 → Option (Y1 × Bool)) (v : Y1 × Y1 × Y3) : Option (Y1 × Bool) :=
  (bif (decide (v.2.2.2.1 < (List.length v.1 : Int))) then ((cref02_Unvary (v.2.2, (1000000 : Int))).bind fun x1 => (bif (x1.2.2 != (0 : Int)) then (some (([] : List Int), false)) else (let x2 : Int := (IntKind.i64.wrap x1.2.1); (bif (Nat.ble 1 1 && Nat.ble (List.length v.2.1 + List.length ([x2] : Y1)) lim) then (let x3 : Y1 := (List.append v.2.1 ([x2] : Y1)); (self0 (v.1, x3, x1.1))) else none)))) else (some (v.2.1, true)))
def gref11_numbers_0 (N : Nat) (self0 : Y1 × Y1 × Y3 → Option (Y1 × Bool)) (v : Y1 × Y1 × Y3) : Option (Y1 × Bool) := href11_numbers_0 self0 v
theorem bref11_numbers_0 (N : Nat) (s0) (v) : (floc (Eref11_numbers) Tref11_numbers 6 N Try.f33 [(.slice Z2), .bool] [true, false] [] 0 nowhereR) s0 (eref11_numbers_0 v) = gref11_numbers_0 N (fun v => s0 (eref11_numbers_0 v)) v := by kernel_rfl
def nref11_numbers (loop0 : Y1 × Y1 × Y3 → Option (Y1 × Bool)) (x : Y1) : Option (Y1 × Bool) :=
  (loop0 (x, ([] : List Int), (x, ((0 : Int), ()))))
def cref11_numbers (x : Y1) : Option (Y1 × Bool) := nref11_numbers (iterV (gref11_numbers_0 big) big) x
def Gref11_numbers : Fn2 := ⟨[Z3], [(.slice Z2), .bool], [true, false], fun x => cref11_numbers x⟩
theorem Lref11_numbers : Rises Try.prog 33 Gref11_numbers := rzl (E := Eref11_numbers) (lt := Tref11_numbers) (lv := 6) (fun N x => nref11_numbers (iterV (gref11_numbers_0 N) N) x) ⟨tabOk, (fsCons2 Lref02_Unvary fsNil2), fun _ _ _ => rfl, mixed, inlNil, rcsNil, owsNil⟩ Try.func33 fun N x => Eq.trans (b := nref11_numbers (fun v => iterR (floc (Eref11_numbers) Tref11_numbers 6 N Try.f33 [(.slice Z2), .bool] [true, false] [] 0 nowhereR) N (eref11_numbers_0 v)) x) (by kernel_rfl) (by rw [funext (iterR_eq eref11_numbers_0 (bref11_numbers_0 N) N)] <;> rfl)

def Tref11_Decode : LT := { live := [],keep := [] }
/-! ### wreckage/wreckageref11.Decode -/
noncomputable def Eref11_Decode : Env2 := { tab := tab, fs := [(22, Gref11_Check), (33, Gref11_numbers)], inl := [], ag := [50] }
def nref11_Decode (x : Y1) : Option Y11 :=
  (bif (decide ((List.length x : Int) > (6100 : Int))) then (let x1 : Y0 := (([] : Y1), (((0 : Int), ((0 : Int), ((0 : Int), ((0 : Int), ())))), ())); (some (x1, (4 : Int)))) else ((cref11_numbers x).bind fun x2 => (bif (!x2.2) then (let x3 : Y0 := (([] : Y1), (((0 : Int), ((0 : Int), ((0 : Int), ((0 : Int), ())))), ())); (some (x3, (12 : Int)))) else (bif (decide ((List.length x2.1 : Int) < (5 : Int))) then (let x4 : Y0 := (([] : Y1), (((0 : Int), ((0 : Int), ((0 : Int), ((0 : Int), ())))), ())); (some (x4, (12 : Int)))) else (bif (decide (0 ≤ (4 : Int)) && decide ((4 : Int) < (List.length x2.1 : Int))) then ((nth x2.1 (Int.toNat (4 : Int))).bind fun x5 => (let x6 : Int := (IntKind.i64.wrap ((5 : Int) + x5)); (bif ((List.length x2.1 : Int) != x6) then (let x7 : Y0 := (([] : Y1), (((0 : Int), ((0 : Int), ((0 : Int), ((0 : Int), ())))), ())); (some (x7, (12 : Int)))) else (bif (decide (0 ≤ (0 : Int)) && decide ((0 : Int) < (List.length x2.1 : Int))) then ((nth x2.1 (Int.toNat (0 : Int))).bind fun x8 => (bif (decide (0 ≤ (1 : Int)) && decide ((1 : Int) < (List.length x2.1 : Int))) then ((nth x2.1 (Int.toNat (1 : Int))).bind fun x9 => (bif (decide (0 ≤ (2 : Int)) && decide ((2 : Int) < (List.length x2.1 : Int))) then ((nth x2.1 (Int.toNat (2 : Int))).bind fun x10 => (bif (decide (0 ≤ (3 : Int)) && decide ((3 : Int) < (List.length x2.1 : Int))) then ((nth x2.1 (Int.toNat (3 : Int))).bind fun x11 => (let x12 : Y2 := (x8, (x9, (x10, (x11, ())))); (bif (decide (0 ≤ (5 : Int)) && decide ((5 : Int) ≤ ((List.length x2.1) : Int))) then (bif (Nat.ble 1 1 && Nat.ble (List.length ([] : Y1) + List.length (List.drop (Int.toNat (5 : Int)) (List.take (List.length x2.1) x2.1))) lim) then (let x13 : Y1 := (List.append ([] : Y1) (List.drop (Int.toNat (5 : Int)) (List.take (List.length x2.1) x2.1))); ((cref11_Check (x13, (x12, ()))).bind fun x14 => (bif (x14 != (0 : Int)) then (let x15 : Y0 := (([] : Y1), (((0 : Int), ((0 : Int), ((0 : Int), ((0 : Int), ())))), ())); (some (x15, (12 : Int)))) else (some ((x13, (x12, ())), (0 : Int)))))) else none) else none))) else none)) else none)) else none)) else none)))) else none)))))
def cref11_Decode (x : Y1) : Option Y11 := nref11_Decode x
def Gref11_Decode : Fn2 := ⟨[Z3], [Z0, Z2], [false, false], fun x => cref11_Decode x⟩
theorem Lref11_Decode : Rises Try.prog 24 Gref11_Decode := rzl (E := Eref11_Decode) (lt := Tref11_Decode) (lv := 6) (fun _ => cref11_Decode) ⟨tabOk, (fsCons2 Lref11_Check (fsCons2 Lref11_numbers fsNil2)), fun _ _ _ => rfl, mixed, inlNil, rcsNil, owsNil⟩ Try.func24 fun N x => by kernel_rfl

def Tref02_Begins : LT := { live := [],keep := [] }
/-! ### wreckage/wreckageref02.Begins -/
noncomputable def Eref02_Begins : Env2 := { tab := tab, fs := [], inl := [] }
def nref02_Begins (x : Y1 × Y1) : Option (Bool) :=
  (bif (decide ((List.length x.1 : Int) ≥ (List.length x.2 : Int))) then (bif (decide (0 ≤ (List.length x.2 : Int)) && decide ((List.length x.2 : Int) ≤ (List.length x.1 : Int))) then (let x1 : Y1 := (List.take (Int.toNat (List.length x.2 : Int)) x.1); (some (eqD .str x1 x.2))) else none) else (some false))
def cref02_Begins (x : Y1 × Y1) : Option (Bool) := nref02_Begins x
def Gref02_Begins : Fn2 := ⟨[Z3, Z3], [.bool], [false], fun x => cref02_Begins x⟩
theorem Lref02_Begins : Rises Try.prog 25 Gref02_Begins := rzl (E := Eref02_Begins) (lt := Tref02_Begins) (lv := 6) (fun _ => cref02_Begins) ⟨tabOk, fsNil2, fun _ _ _ => rfl, mixed, inlNil, rcsNil, owsNil⟩ Try.func25 fun N x => by kernel_rfl

end Go.Proofs.Ytmioekkonoehpaa
