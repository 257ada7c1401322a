/- Functions of the program, read as plain functions: each equation is checked by the kernel. -/
import Derived.Test.YtmioekkonoehpaaWireA
set_option linter.unusedVariables false
set_option maxRecDepth 100000
namespace Go.Proofs.Ytmioekkonoehpaa
open Go.Lift
def Tscript_valid : LT := { live := [],keep := [] }
/-! ### wreckage/script.valid -/
noncomputable def Escript_valid : Env2 := { tab := tab, fs := [], inl := [] }
def nscript_valid (x : Y2) : Option (Bool) :=
  (bif (decide (x.1 ≥ (1 : Int))) then (bif (decide (x.1 ≤ (5000 : Int))) then (bif (decide (x.2.1 ≥ (0 : Int))) then (bif (decide (x.2.1 ≤ (4096 : Int))) then (bif (decide (x.2.2.1 ≥ (0 : Int))) then (bif (decide (x.2.2.1 ≤ (16384 : Int))) then (bif (decide (x.2.2.2.1 ≥ (1 : Int))) then (some (decide (x.2.2.2.1 ≤ (16 : Int)))) else (some false)) else (some false)) else (some false)) else (some false)) else (some false)) else (some false)) else (some false))
def cscript_valid (x : Y2) : Option (Bool) := nscript_valid x
def Gscript_valid : Fn2 := ⟨[Z4], [.bool], [false], fun x => cscript_valid x⟩
theorem Lscript_valid : Rises Try.prog 28 Gscript_valid := rzl (E := Escript_valid) (lt := Tscript_valid) (lv := 6) (fun _ => cscript_valid) ⟨tabOk, fsNil2, fun _ _ _ => rfl, mixed, inlNil, rcsNil, owsNil⟩ Try.func28 fun N x => by kernel_rfl

def Tscript_isPick : LT := { live := [],keep := [] }
/-! ### wreckage/script.isPick -/
noncomputable def Escript_isPick : Env2 := { tab := tab, fs := [], inl := [] }
def nscript_isPick (x : Int) : Option (Bool) :=
  (bif (decide (x ≥ (0 : Int))) then (some (decide (x ≤ (65535 : Int)))) else (some false))
def cscript_isPick (x : Int) : Option (Bool) := nscript_isPick x
def Gscript_isPick : Fn2 := ⟨[Z2], [.bool], [false], fun x => cscript_isPick x⟩
theorem Lscript_isPick : Rises Try.prog 29 Gscript_isPick := rzl (E := Escript_isPick) (lt := Tscript_isPick) (lv := 6) (fun _ => cscript_isPick) ⟨tabOk, fsNil2, fun _ _ _ => rfl, mixed, inlNil, rcsNil, owsNil⟩ Try.func29 fun N x => by kernel_rfl

def Tscript_Check : LT := { live := [(4,[16,17,18])],keep := [] }
/-! ### wreckage/script.Check -/
noncomputable def Escript_Check : Env2 := { tab := tab, fs := [(28, Gscript_valid), (29, Gscript_isPick)], inl := [] }
noncomputable def escript_Check_0 (v : Y1 × Int × Int) : St := ⟨[(16, (.val ⟨(.slice Z2), v.1⟩)), (17, (.val ⟨Z2, v.2.1⟩)), (18, (.val ⟨Z2, v.2.2⟩))], [], [], 4096⟩
def hscript_Check_0 (self0 : Y1 × Int × Int → Option (Int)) (v : Y1 × Int × Int) : Option (Int) :=
  (bif (decide (v.2.2 < v.2.1)) then ((getI v.1 v.2.2).bind fun x2 => ((cscript_isPick x2).bind fun x3 => (bif (!x3) then (some (8 : Int)) else (let x4 : Int := (IntKind.i64.wrap (v.2.2 + (1 : Int))); (self0 (v.1, v.2.1, x4)))))) else (some (0 : Int)))
def gscript_Check_0 (N : Nat) (self0 : Y1 × Int × Int → Option (Int)) (v : Y1 × Int × Int) : Option (Int) := hscript_Check_0 self0 v
theorem bscript_Check_0 (N : Nat) (s0) (v) : (floc (Escript_Check) Tscript_Check 6 N Try.f13 [Z2] [false] [] 0 nowhereR) s0 (escript_Check_0 v) = gscript_Check_0 N (fun v => s0 (escript_Check_0 v)) v := by kernel_rfl
def nscript_Check (loop0 : Y1 × Int × Int → Option (Int)) (x : Y0) : Option (Int) :=
  (bif (decide ((List.length x.1 : Int) > (2000 : Int))) then (some (8 : Int)) else ((cscript_valid x.2.1).bind fun x1 => (bif (!x1) then (some (8 : Int)) else (loop0 (x.1, (List.length x.1 : Int), (0 : Int))))))
def cscript_Check (x : Y0) : Option (Int) := nscript_Check (iterV (gscript_Check_0 big) big) x
def Gscript_Check : Fn2 := ⟨[Z0], [Z2], [false], fun x => cscript_Check x⟩
theorem Lscript_Check : Rises Try.prog 13 Gscript_Check := rzl (E := Escript_Check) (lt := Tscript_Check) (lv := 6) (fun N x => nscript_Check (iterV (gscript_Check_0 N) N) x) ⟨tabOk, (fsCons2 Lscript_valid (fsCons2 Lscript_isPick fsNil2)), fun _ _ _ => rfl, mixed, inlNil, rcsNil, owsNil⟩ Try.func13 fun N x => Eq.trans (b := nscript_Check (fun v => iterR (floc (Escript_Check) Tscript_Check 6 N Try.f13 [Z2] [false] [] 0 nowhereR) N (escript_Check_0 v)) x) (by kernel_rfl) (by rw [funext (iterR_eq escript_Check_0 (bscript_Check_0 N) N)] <;> rfl)

def Tscript_head : LT := { live := [],keep := [] }
/-! ### wreckage/script.head -/
noncomputable def Escript_head : Env2 := { tab := tab, fs := [], inl := [] }
def nscript_head (x : Y0) : Option (Y1) :=
  (let x1 : Y1 := [x.2.1.1, x.2.1.2.1, x.2.1.2.2.1, x.2.1.2.2.2.1, (List.length x.1 : Int)]; (some x1))
def cscript_head (x : Y0) : Option (Y1) := nscript_head x
def Gscript_head : Fn2 := ⟨[Z0], [(.arr 5 Z2)], [false], fun x => cscript_head x⟩
theorem Lscript_head : Rises Try.prog 26 Gscript_head := rzl (E := Escript_head) (lt := Tscript_head) (lv := 6) (fun _ => cscript_head) ⟨tabOk, fsNil2, fun _ _ _ => rfl, mixed, inlNil, rcsNil, owsNil⟩ Try.func26 fun N x => by kernel_rfl

def Tscript_Encode : LT := { live := [(6,[1,5,16,17]),(11,[5,27,28,29])],keep := [] }
/-! ### wreckage/script.Encode -/
noncomputable def Escript_Encode : Env2 := { tab := tab, fs := [(13, Gscript_Check), (26, Gscript_head), (27, Gwire_Vary)], inl := [] }
noncomputable def escript_Encode_1 (v : Y1 × Int × Int × Y1) : St := ⟨[(5, (.row 0)), (27, (.val ⟨(.slice Z2), v.1⟩)), (28, (.val ⟨Z2, v.2.1⟩)), (29, (.val ⟨Z2, v.2.2.1⟩))], [(0, .row (.int .u8) v.2.2.2)], [], 4096⟩
noncomputable def escript_Encode_0 (v : Y16) : St := ⟨[(1, (.loc 0 [])), (5, (.row 1)), (16, (.val ⟨(.arr 5 Z2), v.1⟩)), (17, (.val ⟨Z2, v.2.1⟩))], [(0, .var Z0 (.val ⟨Z0, v.2.2.1⟩)), (1, .row (.int .u8) v.2.2.2)], [], 4096⟩
def hscript_Encode_1 (self0 : Y16 → Option Y10) (self1 : Y1 × Int × Int × Y1 → Option Y10) (v : Y1 × Int × Int × Y1) : Option Y10 :=
  (bif (decide (v.2.2.1 < v.2.1)) then ((getI v.1 v.2.2.1).bind fun x6 => ((cwire_Vary (IntKind.u64.wrap x6)).bind fun x7 => (bif (Nat.ble 1 1 && Nat.ble (List.length v.2.2.2 + List.length x7) lim) then (let x8 : Int := (IntKind.i64.wrap (v.2.2.1 + (1 : Int))); (self1 (v.1, v.2.1, x8, (List.append v.2.2.2 x7)))) else none))) else (some (v.2.2.2, (0 : Int))))
def gscript_Encode_1 (N : Nat) (self0 : Y16 → Option Y10) (self1 : Y1 × Int × Int × Y1 → Option Y10) (v : Y1 × Int × Int × Y1) : Option Y10 := hscript_Encode_1 self0 self1 v
theorem bscript_Encode_1 (N : Nat) (s0 : St → Option Y10) (s1) (v) : (floc (Escript_Encode) Tscript_Encode 6 N Try.f11 [Z3, Z2] [true, false] [] 1 nowhereR) s1 (escript_Encode_1 v) = gscript_Encode_1 N (fun v => s0 (escript_Encode_0 v)) (fun v => s1 (escript_Encode_1 v)) v := by kernel_rfl
def hscript_Encode_0 (loop1 : Y1 × Int × Int × Y1 → Option Y10) (self0 : Y16 → Option Y10) (v : Y16) : Option Y10 :=
  (bif (decide (v.2.1 < (5 : Int))) then ((getI v.1 v.2.1).bind fun x3 => ((cwire_Vary (IntKind.u64.wrap x3)).bind fun x4 => (bif (Nat.ble 1 1 && Nat.ble (List.length v.2.2.2 + List.length x4) lim) then (let x5 : Int := (IntKind.i64.wrap (v.2.1 + (1 : Int))); (self0 (v.1, x5, v.2.2.1, (List.append v.2.2.2 x4)))) else none))) else (loop1 (v.2.2.1.1, (List.length v.2.2.1.1 : Int), (0 : Int), v.2.2.2)))
def gscript_Encode_0 (N : Nat) (self0 : Y16 → Option Y10) (v : Y16) : Option Y10 := hscript_Encode_0 (iterV (gscript_Encode_1 N self0) N) self0 v
theorem bscript_Encode_0 (N : Nat) (s0) (v) : (floc (Escript_Encode) Tscript_Encode 6 N Try.f11 [Z3, Z2] [true, false] [] 0 nowhereR) s0 (escript_Encode_0 v) = gscript_Encode_0 N (fun v => s0 (escript_Encode_0 v)) v := Eq.trans (b := hscript_Encode_0 (fun v => iterR (floc (Escript_Encode) Tscript_Encode 6 N Try.f11 [Z3, Z2] [true, false] [] 1 nowhereR) N (escript_Encode_1 v)) (fun v => s0 (escript_Encode_0 v)) v) (by kernel_rfl) (by rw [funext (iterR_eq escript_Encode_1 (bscript_Encode_1 N s0) N)]; rfl)
def nscript_Encode (loop0 : Y16 → Option Y10) (x : Y0) : Option Y10 :=
  ((cscript_Check x).bind fun x1 => (bif (x1 != (0 : Int)) then (some (([] : List Int), x1)) else ((cscript_head x).bind fun x2 => (loop0 (x2, (0 : Int), x, ([] : List Int))))))
def cscript_Encode (x : Y0) : Option Y10 := nscript_Encode (iterV (gscript_Encode_0 big) big) x
def Gscript_Encode : Fn2 := ⟨[Z0], [Z3, Z2], [true, false], fun x => cscript_Encode x⟩
theorem Lscript_Encode : Rises Try.prog 11 Gscript_Encode := rzl (E := Escript_Encode) (lt := Tscript_Encode) (lv := 6) (fun N x => nscript_Encode (iterV (gscript_Encode_0 N) N) x) ⟨tabOk, (fsCons2 Lscript_Check (fsCons2 Lscript_head (fsCons2 Lwire_Vary fsNil2))), fun _ _ _ => rfl, mixed, inlNil, rcsNil, owsNil⟩ Try.func11 fun N x => Eq.trans (b := nscript_Encode (fun v => iterR (floc (Escript_Encode) Tscript_Encode 6 N Try.f11 [Z3, Z2] [true, false] [] 0 nowhereR) N (escript_Encode_0 v)) x) (by kernel_rfl) (by rw [funext (iterR_eq escript_Encode_0 (bscript_Encode_0 N) N)] <;> rfl)

def Tscript_Cut : LT := { live := [],keep := [] }
/-! ### wreckage/script.Cut -/
noncomputable def Escript_Cut : Env2 := { tab := tab, fs := [(13, Gscript_Check)], inl := [] }
def nscript_Cut (x : Y0 × Int) : Option Y11 :=
  ((cscript_Check x.1).bind fun x1 => (bif (x1 != (0 : Int)) then (let x2 : Y0 := (([] : Y1), (((0 : Int), ((0 : Int), ((0 : Int), ((0 : Int), ())))), ())); (some (x2, x1))) else (bif (decide (x.2 < (0 : Int))) then (let x3 : Y0 := (([] : Y1), (((0 : Int), ((0 : Int), ((0 : Int), ((0 : Int), ())))), ())); (some (x3, (2 : Int)))) else (bif (decide (x.2 > (List.length x.1.1 : Int))) then (let x4 : Y0 := (([] : Y1), (((0 : Int), ((0 : Int), ((0 : Int), ((0 : Int), ())))), ())); (some (x4, (2 : Int)))) else (bif (decide (0 ≤ x.2) && decide (x.2 ≤ (List.length x.1.1 : Int))) then (let x5 : Y1 := (List.take (Int.toNat x.2) x.1.1); (bif (Nat.ble 1 1 && Nat.ble (List.length ([] : List Int) + List.length x5) lim) then (let x6 : Y1 := (List.append ([] : List Int) x5); (some ((x6, x.1.2), (0 : Int)))) else none)) else none)))))
def cscript_Cut (x : Y0 × Int) : Option Y11 := nscript_Cut x
def Gscript_Cut : Fn2 := ⟨[Z0, Z2], [Z0, Z2], [false, false], fun x => cscript_Cut x⟩
theorem Lscript_Cut : Rises Try.prog 12 Gscript_Cut := rzl (E := Escript_Cut) (lt := Tscript_Cut) (lv := 6) (fun _ => cscript_Cut) ⟨tabOk, (fsCons2 Lscript_Check fsNil2), fun _ _ _ => rfl, mixed, inlNil, rcsNil, owsNil⟩ Try.func12 fun N x => by kernel_rfl

def Tscript_Decode : LT := { live := [],keep := [(13,[0,2,4])] }
@[reducible] def Pscript_reader_number (me : (Unit × Y6) → (Y4 × Unit) → Option (Y4 × Int)) : RecC := ⟨[.fix (.loc 0 []), .hole Z2], [.var (.pair Z1 (.pair .bool .unit)) (.hole (.pair Z1 (.pair .bool .unit)))], 0, [Z2], me⟩
/-! ### (*wreckage/script.reader).number -/
noncomputable def Escript_reader_number (me : (Unit × Y6) → (Y4 × Unit) → Option (Y4 × Int)) : Env2 := { tab := tab, fs := [(38, Gwire_Unvary)], inl := [], rcs := [(35, Pscript_reader_number me)] }
def nscript_reader_number (me : (Unit × Y6) → (Y4 × Unit) → Option (Y4 × Int)) (y : (Y4 × Unit)) (x : (Unit × Y6)) : Option (Y4 × Int) :=
  ((cwire_Unvary (y.1.1, (IntKind.u64.wrap x.2.1))).bind fun x1 => (bif (x1.1, y.1.2).2.1 then (let x2 : Y4 := ((x1.1, y.1.2).1, (true, (x1.1, y.1.2).2.2)); (let x3 : Int := (IntKind.i64.wrap x1.2.1); (some (x2, x3)))) else (let x4 : Y4 := ((x1.1, y.1.2).1, ((x1.2.2 != (0 : Int)), (x1.1, y.1.2).2.2)); (let x5 : Int := (IntKind.i64.wrap x1.2.1); (some (x4, x5))))))
def mscript_reader_number (me : (Unit × Y6) → (Y4 × Unit) → Option (Y4 × Int)) (y : (Y4 × Unit)) (N : Nat) (x : (Unit × Y6)) : Option (Y4 × Int) := nscript_reader_number me y x
theorem lscript_reader_number (me : (Unit × Y6) → (Y4 × Unit) → Option (Y4 × Int)) (y : (Y4 × Unit)) (N : Nat) (x : (Unit × Y6)) : riseR (Escript_reader_number me) Tscript_reader_number 6 N Try.f35 (Pscript_reader_number me) x y = nscript_reader_number me y x := by kernel_rfl
def rscript_reader_number : Nat → (Unit × Y6) → (Y4 × Unit) → Option (Y4 × Int)
  | 0, _, _ => none
  | k + 1, x, y => mscript_reader_number (rscript_reader_number k) y big x
def cscript_reader_number (x : (Unit × Y6)) (y : (Y4 × Unit)) : Option (Y4 × Int) := rscript_reader_number big x y
@[reducible] def Cscript_reader_number : RecC := Pscript_reader_number cscript_reader_number
theorem Rscript_reader_number : ∀ k, RecOk Try.prog 35 (Pscript_reader_number (rscript_reader_number k))
  | 0 => rec_none Try.func35 rfl (by decide)
  | k + 1 => by
    have ih := Rscript_reader_number k
    exact rec_of (E := Escript_reader_number (rscript_reader_number k)) ⟨tabOk, (fsCons2 Lwire_Unvary fsNil2), fun _ _ _ => rfl, mixed, inlNil, rcsCons ih rcsNil, owsNil⟩ Try.func35 rfl (by decide) (by kernel_rfl) (by kernel_rfl) (by kernel_rfl) (fun x y r h => ⟨Tscript_reader_number, 6, big, (lscript_reader_number (rscript_reader_number k) y big x).trans h⟩)
theorem Lscript_reader_number : RecOk Try.prog 35 Cscript_reader_number := Rscript_reader_number big
/-! ### wreckage/script.Decode -/
noncomputable def Escript_Decode (mk : (α : Type) → Nat → α → List α) : Env2 := { tab := tab, fs := [(13, Gscript_Check)], inl := [(30, Try.f30, Tscript_reader_script)], rep := mk, rcs := [(35, Cscript_reader_number)] }
noncomputable def escript_Decode_0 (v : Y12) : St := ⟨[(0, (.loc 0 [])), (2, (.loc 1 [])), (3, (.loc 3 [])), (27, (.val ⟨Z2, v.1⟩)), (28, (.val ⟨Z2, v.2.1⟩))], [(0, .var (.pair Z1 (.pair .bool .unit)) (.val ⟨(.pair Z1 (.pair .bool .unit)), v.2.2.1⟩)), (1, .var Z0 (.pair (.row 2) (.val ⟨(.pair Z4 .unit), v.2.2.2.1⟩))), (2, .row Z2 v.2.2.2.2.1), (3, .var Z0 (.pair (.row 4) (.val ⟨(.pair Z4 .unit), v.2.2.2.2.2.1⟩))), (4, .row Z2 v.2.2.2.2.2.2.1), (5, .var Z0 (.pair (.row 6) (.val ⟨(.pair Z4 .unit), v.2.2.2.2.2.2.2.1⟩))), (6, .row Z2 v.2.2.2.2.2.2.2.2.1)], [(4096, [(0, (.val ⟨Z3, v.2.2.2.2.2.2.2.2.2⟩)), (2, (.loc 5 [])), (4, (.loc 0 []))])], 16834560⟩
def hscript_Decode_0 (mk : (α : Type) → Nat → α → List α) (self0 : Y12 → Option Y11) (v : Y12) : Option Y11 :=
  (bif (decide (v.2.1 < v.1)) then ((cscript_reader_number ((), ((65535 : Int), ())) (v.2.2.1, ())).bind fun x13 => (bif (decide (0 ≤ v.2.1) && decide (v.2.1 < (List.length v.2.2.2.2.2.2.1 : Int))) then (let x14 : Y1 := (List.set v.2.2.2.2.2.2.1 (Int.toNat v.2.1) x13.2); (let x15 : Int := (IntKind.i64.wrap (v.2.1 + (1 : Int))); (self0 (v.1, x15, x13.1, v.2.2.2.1, v.2.2.2.2.1, v.2.2.2.2.2.1, x14, v.2.2.2.2.2.2.2.1, v.2.2.2.2.2.2.2.2.1, v.2.2.2.2.2.2.2.2.2)))) else none)) else (bif v.2.2.1.2.1 then (let x16 : Y0 := (([] : Y1), (((0 : Int), ((0 : Int), ((0 : Int), ((0 : Int), ())))), ())); (some (x16, (12 : Int)))) else (bif (v.2.2.1.1.2.1 != (List.length v.2.2.2.2.2.2.2.2.2 : Int)) then (let x17 : Y0 := (([] : Y1), (((0 : Int), ((0 : Int), ((0 : Int), ((0 : Int), ())))), ())); (some (x17, (12 : Int)))) else ((cscript_Check (v.2.2.2.2.2.2.1, v.2.2.2.2.2.1)).bind fun x18 => (bif (x18 != (0 : Int)) then (let x19 : Y0 := (([] : Y1), (((0 : Int), ((0 : Int), ((0 : Int), ((0 : Int), ())))), ())); (some (x19, (12 : Int)))) else (some ((v.2.2.2.2.2.2.1, v.2.2.2.2.2.1), (0 : Int))))))))
def gscript_Decode_0 (mk : (α : Type) → Nat → α → List α) (N : Nat) (self0 : Y12 → Option Y11) (v : Y12) : Option Y11 := hscript_Decode_0 mk self0 v
theorem bscript_Decode_0 (mk : (α : Type) → Nat → α → List α) (N : Nat) (s0) (v) : (floc (Escript_Decode mk) Tscript_Decode 6 N Try.f14 [Z0, Z2] [false, false] [.call 4 0 30] 0 nowhereR) s0 (escript_Decode_0 v) = gscript_Decode_0 mk N (fun v => s0 (escript_Decode_0 v)) v := by kernel_rfl
def nscript_Decode (mk : (α : Type) → Nat → α → List α) (loop0 : Y12 → Option Y11) (x : Y1) : Option Y11 :=
  (bif (decide ((List.length x : Int) > (6100 : Int))) then (let x1 : Y0 := (([] : Y1), (((0 : Int), ((0 : Int), ((0 : Int), ((0 : Int), ())))), ())); (some (x1, (4 : Int)))) else (let x2 : Y4 := ((x, ((0 : Int), ())), (false, ())); ((cscript_reader_number ((), ((5000 : Int), ())) (x2, ())).bind fun x3 => (let x4 : Y7 := ((x3.2, (((0 : Int), ((0 : Int), ((0 : Int), ((0 : Int), ())))), ()).1.2), (((0 : Int), ((0 : Int), ((0 : Int), ((0 : Int), ())))), ()).2); ((cscript_reader_number ((), ((4096 : Int), ())) (x3.1, ())).bind fun x5 => (let x6 : Y7 := ((x4.1.1, (x5.2, x4.1.2.2)), x4.2); ((cscript_reader_number ((), ((16384 : Int), ())) (x5.1, ())).bind fun x7 => (let x8 : Y7 := ((x6.1.1, (x6.1.2.1, (x7.2, x6.1.2.2.2))), x6.2); ((cscript_reader_number ((), ((16 : Int), ())) (x7.1, ())).bind fun x9 => (let x10 : Y7 := ((x8.1.1, (x8.1.2.1, (x8.1.2.2.1, (x9.2, x8.1.2.2.2.2)))), x8.2); ((cscript_reader_number ((), ((2000 : Int), ())) (x9.1, ())).bind fun x11 => (bif (decide (0 ≤ x11.2) && (decide (x11.2 ≤ x11.2) && (decide (x11.2 ≤ 68719476736) && true))) then (let x12 : Y1 := (mk Int (Int.toNat x11.2) (0 : Int)); (loop0 ((List.length x12 : Int), (0 : Int), x11.1, (((0 : Int), ((0 : Int), ((0 : Int), ((0 : Int), ())))), ()), ([] : List Int), x10, x12, (((0 : Int), ((0 : Int), ((0 : Int), ((0 : Int), ())))), ()), ([] : List Int), x))) else none))))))))))))
def mscript_Decode (mk : (α : Type) → Nat → α → List α) (N : Nat) (x : Y1) : Option Y11 := nscript_Decode mk (iterV (gscript_Decode_0 mk N) N) x
theorem lscript_Decode (mk : (α : Type) → Nat → α → List α) (N : Nat) (x : Y1) : rise (Escript_Decode mk) Tscript_Decode 6 N Try.f14 [Z3] [Z0, Z2] [false, false] x = mscript_Decode mk N x := Eq.trans (b := nscript_Decode mk (fun v => iterR (floc (Escript_Decode mk) Tscript_Decode 6 N Try.f14 [Z0, Z2] [false, false] [.call 4 0 30] 0 nowhereR) N (escript_Decode_0 v)) x) (by kernel_rfl) (by rw [funext (iterR_eq escript_Decode_0 (bscript_Decode_0 mk N) N)]; rfl)
def cscript_Decode (x : Y1) : Option Y11 := mscript_Decode (fun _ => List.replicate) big x
def Gscript_Decode : Fn2 := ⟨[Z3], [Z0, Z2], [false, false], fun x => cscript_Decode x⟩
theorem Lscript_Decode : Rises Try.prog 14 Gscript_Decode := rzl (E := Escript_Decode (fun _ => List.replicate)) (mscript_Decode (fun _ => List.replicate)) ⟨tabOk, (fsCons2 Lscript_Check fsNil2), fun _ _ _ => rfl, mixed, (inlCons (inlB_of Try.func30 rfl rfl (by kernel_rfl)) inlNil), (rcsCons Lscript_reader_number rcsNil), owsNil⟩ Try.func14 (lscript_Decode (fun _ => List.replicate))

def Tscript_Pick : LT := { live := [],keep := [] }
/-! ### wreckage/script.Pick -/
noncomputable def Escript_Pick : Env2 := { tab := tab, fs := [(29, Gscript_isPick)], inl := [] }
def nscript_Pick (x : Int × Int) : Option (Int × Int) :=
  ((cscript_isPick x.1).bind fun x1 => (bif (!x1) then (some ((0 : Int), (2 : Int))) else (bif (decide (x.2 < (0 : Int))) then (some ((0 : Int), (2 : Int))) else (bif (decide (x.2 > (16 : Int))) then (some ((0 : Int), (2 : Int))) else (bif (x.2 == (0 : Int)) then (some ((0 : Int), (6 : Int))) else (bif (x.2 == 0) then none else (some ((x.1.tmod x.2), (0 : Int)))))))))
def cscript_Pick (x : Int × Int) : Option (Int × Int) := nscript_Pick x
def Gscript_Pick : Fn2 := ⟨[Z2, Z2], [Z2, Z2], [false, false], fun x => cscript_Pick x⟩
theorem Lscript_Pick : Rises Try.prog 15 Gscript_Pick := rzl (E := Escript_Pick) (lt := Tscript_Pick) (lv := 6) (fun _ => cscript_Pick) ⟨tabOk, (fsCons2 Lscript_isPick fsNil2), fun _ _ _ => rfl, mixed, inlNil, rcsNil, owsNil⟩ Try.func15 fun N x => by kernel_rfl

end Go.Proofs.Ytmioekkonoehpaa
