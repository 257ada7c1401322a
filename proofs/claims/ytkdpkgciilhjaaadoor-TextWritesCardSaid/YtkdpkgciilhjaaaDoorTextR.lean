/- Functions of the program, read as plain functions: each equation is checked by the kernel. -/
import Derived.Test.YtkdpkgciilhjaaaDoorTextA
set_option linter.unusedVariables false
set_option maxRecDepth 100000
namespace Go.Proofs.YtkdpkgciilhjaaaDoor
open Go.Lift
def Tref03_Great : LT := { live := [(4, [0, 3])], keep := [(2, [0]), (3, [0]), (4, [0]), (5, [0]), (6, [0]), (7, [0, 3]), (8, [0, 3, 7]), (9, [0, 3, 7]), (10, [0, 3]), (11, [0]), (12, [0]), (13, [0, 3]), (14, [0, 3, 13]), (15, [0, 3]), (16, [0, 3]), (17, [0, 3]), (18, [0, 3])] }
/-! ### wreckage/wreckageref03.Great -/
noncomputable def Eref03_Great : Env2 := { tab := tab, fs := [], inl := [] }
noncomputable def eref03_Great_0 (v : (List (List Int)) × Int) : St := { s := [(0, (.val ⟨(.slice .str), v.1⟩)), (3, (.val ⟨(.int .i64), v.2⟩))], l := [], k := [], b := 4096 }
def href03_Great_0 (self0 : (List (List Int)) × Int → Option (Bool)) (v : (List (List Int)) × Int) : Option (Bool) :=
  (bif (decide (v.2 < (List.length v.1 : Int))) then ((getI v.1 v.2).bind fun x1 => (bif (decide ((List.length x1 : Int) > (500 : Int))) then (some true) else (let x2 : Int := (IntKind.i64.wrap (v.2 + (1 : Int))); (self0 (v.1, x2))))) else (some false))
def gref03_Great_0 (N : Nat) (self0 : (List (List Int)) × Int → Option (Bool)) (v : (List (List Int)) × Int) : Option (Bool) := href03_Great_0 self0 v
theorem kref03_Great_0 (N : Nat) (s0 : St → Option (Bool)) (v) : (floc (Eref03_Great) Tref03_Great 6 N Tryd.f4 [.bool] [false] [] 0 nowhereR) s0 (eref03_Great_0 v) = href03_Great_0 (fun v => s0 (eref03_Great_0 v)) v := by kernel_rfl
theorem bref03_Great_0 (N : Nat) (s0 : St → Option (Bool)) (v) : (floc (Eref03_Great) Tref03_Great 6 N Tryd.f4 [.bool] [false] [] 0 nowhereR) s0 (eref03_Great_0 v) = gref03_Great_0 N (fun v => s0 (eref03_Great_0 v)) v := kref03_Great_0 N s0 v
def nref03_Great (loop0 : (List (List Int)) × Int → Option (Bool)) (x : (List (List Int))) : Option (Bool) :=
  (bif (decide ((List.length x : Int) > (70 : Int))) then (some true) else (loop0 (x, (0 : Int))))
def mref03_Great (N : Nat) (x : (List (List Int))) : Option (Bool) := nref03_Great (iterV (gref03_Great_0 N) N) x
theorem jref03_Great (N : Nat) (x) : rise (Eref03_Great) Tref03_Great 6 N Tryd.f4 [(.slice .str)] [.bool] [false] x = nref03_Great (fun v => iterR (floc (Eref03_Great) Tref03_Great 6 N Tryd.f4 [.bool] [false] [] 0 nowhereR) N (eref03_Great_0 v)) x := by kernel_rfl
theorem lref03_Great (N : Nat) (x) : rise (Eref03_Great) Tref03_Great 6 N Tryd.f4 [(.slice .str)] [.bool] [false] x = mref03_Great N x := (jref03_Great N x).trans (by rw [funext (iterR_eq eref03_Great_0 (bref03_Great_0 N) N)]; rfl)
def cref03_Great (x : (List (List Int))) : Option (Bool) := mref03_Great big x
def Gref03_Great : Fn2 := ⟨[(.slice .str)], [.bool], [false], fun x => cref03_Great x⟩
theorem Lref03_Great : Rises Tryd.prog 4 Gref03_Great := rises_of (E := Eref03_Great) ⟨tabOk, fsNil2, fun _ _ _ => rfl, mixed, inlNil⟩ Tryd.func4 rfl (by decide) (by kernel_rfl) (by kernel_rfl) (by kernel_rfl) (by kernel_rfl) (fun x r _ h => ⟨Tref03_Great, 6, big, (lref03_Great big x).trans h⟩)

def Tref03_Char : LT := { live := [], keep := [(2, [0]), (3, [0]), (4, [0]), (5, [0]), (6, [0, 5]), (7, [0, 5]), (8, [0]), (9, []), (10, []), (11, []), (12, [0]), (13, [0]), (14, [0]), (15, [0]), (16, [0]), (17, [0, 16]), (18, [0, 16]), (19, [0]), (20, []), (21, []), (22, []), (23, [0]), (24, [0]), (25, [0, 24]), (26, [0, 24]), (27, [0, 24]), (28, [0]), (29, [0]), (30, [0, 29]), (31, [0, 29]), (32, [29, 31]), (33, [29, 31]), (34, [29, 31]), (35, [29]), (36, [])] }
/-! ### wreckage/wreckageref03.Char -/
noncomputable def Eref03_Char : Env2 := { tab := tab, fs := [], inl := [] }
def nref03_Char (x : Int) : Option ((List Int)) :=
  (bif (x == (34 : Int)) then (let x1 : (List Int) := ([(92 : Int), x] : (List Int)); (some x1)) else (bif (x == (92 : Int)) then (let x2 : (List Int) := ([(92 : Int), x] : (List Int)); (some x2)) else (bif (x == (10 : Int)) then (some ([92, 110] : List Int)) else (bif (decide (x ≥ (32 : Int))) then (bif (decide (x ≤ (126 : Int))) then (some ([x] : (List Int))) else (let x3 : Int := (IntKind.u8.wrap (x.tdiv (16 : Int))); (let x4 : Int := (IntKind.u8.wrap (x.tdiv (16 : Int))); (let x5 : Int := (IntKind.u8.wrap (x4 + (1 : Int))); (bif (decide (0 ≤ x3) && (decide (x3 ≤ x5) && decide (x5 ≤ (List.length ([48, 49, 50, 51, 52, 53, 54, 55, 56, 57, 97, 98, 99, 100, 101, 102] : List Int) : Int)))) then (let x6 : (List Int) := (List.drop (Int.toNat x3) (List.take (Int.toNat x5) ([48, 49, 50, 51, 52, 53, 54, 55, 56, 57, 97, 98, 99, 100, 101, 102] : List Int))); (bif (Nat.ble (List.length ([92, 120] : List Int) + List.length x6) lim) then (let x7 : (List Int) := (List.append ([92, 120] : List Int) x6); (let x8 : Int := (IntKind.u8.wrap ((x.tmod (16 : Int)) + (1 : Int))); (bif (decide (0 ≤ (x.tmod (16 : Int))) && (decide ((x.tmod (16 : Int)) ≤ x8) && decide (x8 ≤ (List.length ([48, 49, 50, 51, 52, 53, 54, 55, 56, 57, 97, 98, 99, 100, 101, 102] : List Int) : Int)))) then (let x9 : (List Int) := (List.drop (Int.toNat (x.tmod (16 : Int))) (List.take (Int.toNat x8) ([48, 49, 50, 51, 52, 53, 54, 55, 56, 57, 97, 98, 99, 100, 101, 102] : List Int))); (bif (Nat.ble (List.length x7 + List.length x9) lim) then (some (List.append x7 x9)) else none)) else none))) else none)) else none))))) else (let x10 : Int := (IntKind.u8.wrap (x.tdiv (16 : Int))); (let x11 : Int := (IntKind.u8.wrap (x.tdiv (16 : Int))); (let x12 : Int := (IntKind.u8.wrap (x11 + (1 : Int))); (bif (decide (0 ≤ x10) && (decide (x10 ≤ x12) && decide (x12 ≤ (List.length ([48, 49, 50, 51, 52, 53, 54, 55, 56, 57, 97, 98, 99, 100, 101, 102] : List Int) : Int)))) then (let x13 : (List Int) := (List.drop (Int.toNat x10) (List.take (Int.toNat x12) ([48, 49, 50, 51, 52, 53, 54, 55, 56, 57, 97, 98, 99, 100, 101, 102] : List Int))); (bif (Nat.ble (List.length ([92, 120] : List Int) + List.length x13) lim) then (let x14 : (List Int) := (List.append ([92, 120] : List Int) x13); (let x15 : Int := (IntKind.u8.wrap ((x.tmod (16 : Int)) + (1 : Int))); (bif (decide (0 ≤ (x.tmod (16 : Int))) && (decide ((x.tmod (16 : Int)) ≤ x15) && decide (x15 ≤ (List.length ([48, 49, 50, 51, 52, 53, 54, 55, 56, 57, 97, 98, 99, 100, 101, 102] : List Int) : Int)))) then (let x16 : (List Int) := (List.drop (Int.toNat (x.tmod (16 : Int))) (List.take (Int.toNat x15) ([48, 49, 50, 51, 52, 53, 54, 55, 56, 57, 97, 98, 99, 100, 101, 102] : List Int))); (bif (Nat.ble (List.length x14 + List.length x16) lim) then (some (List.append x14 x16)) else none)) else none))) else none)) else none))))))))
def mref03_Char (N : Nat) (x : Int) : Option ((List Int)) := nref03_Char x
theorem jref03_Char (N : Nat) (x) : rise (Eref03_Char) Tref03_Char 6 N Tryd.f22 [(.int .u8)] [.str] [false] x = nref03_Char x := by kernel_rfl
theorem lref03_Char (N : Nat) (x) : rise (Eref03_Char) Tref03_Char 6 N Tryd.f22 [(.int .u8)] [.str] [false] x = mref03_Char N x := (jref03_Char N x).trans rfl
def cref03_Char (x : Int) : Option ((List Int)) := mref03_Char big x
def Gref03_Char : Fn2 := ⟨[(.int .u8)], [.str], [false], fun x => cref03_Char x⟩
theorem Lref03_Char : Rises Tryd.prog 22 Gref03_Char := rises_of (E := Eref03_Char) ⟨tabOk, fsNil2, fun _ _ _ => rfl, mixed, inlNil⟩ Tryd.func22 rfl (by decide) (by kernel_rfl) (by kernel_rfl) (by kernel_rfl) (by kernel_rfl) (fun x r _ h => ⟨Tref03_Char, 6, big, (lref03_Char big x).trans h⟩)

def Tref03_Quoted : LT := { live := [(3, [0, 3, 4])], keep := [(2, [0]), (3, [0]), (4, [0, 3]), (5, [0, 3, 4]), (6, [0, 3, 4, 5]), (7, [0, 3, 4, 5]), (8, [0, 3, 4]), (9, [0, 3]), (10, [0, 3]), (11, [0, 4]), (12, [0, 4, 11]), (13, [0, 4, 11, 12]), (14, [0, 4, 11]), (15, [0, 4, 11]), (16, [0, 4]), (17, []), (18, [])] }
/-! ### wreckage/wreckageref03.Quoted -/
noncomputable def Eref03_Quoted : Env2 := { tab := tab, fs := [(22, Gref03_Char)], inl := [] }
noncomputable def eref03_Quoted_0 (v : (List Int) × (List Int) × Int) : St := { s := [(0, (.val ⟨.str, v.1⟩)), (3, (.val ⟨.str, v.2.1⟩)), (4, (.val ⟨(.int .i64), v.2.2⟩))], l := [], k := [], b := 4096 }
def href03_Quoted_0 (self0 : (List Int) × (List Int) × Int → Option ((List Int))) (v : (List Int) × (List Int) × Int) : Option ((List Int)) :=
  (bif (decide (v.2.2 < (List.length v.1 : Int))) then ((getI v.1 v.2.2).bind fun x1 => ((cref03_Char x1).bind fun x2 => (bif (Nat.ble (List.length v.2.1 + List.length x2) lim) then (let x3 : Int := (IntKind.i64.wrap (v.2.2 + (1 : Int))); (self0 (v.1, (List.append v.2.1 x2), x3))) else none))) else (bif (Nat.ble (List.length v.2.1 + List.length ([34] : List Int)) lim) then (let x4 : (List Int) := (List.append v.2.1 ([34] : List Int)); (some x4)) else none))
def gref03_Quoted_0 (N : Nat) (self0 : (List Int) × (List Int) × Int → Option ((List Int))) (v : (List Int) × (List Int) × Int) : Option ((List Int)) := href03_Quoted_0 self0 v
theorem kref03_Quoted_0 (N : Nat) (s0 : St → Option ((List Int))) (v) : (floc (Eref03_Quoted) Tref03_Quoted 6 N Tryd.f14 [.str] [false] [] 0 nowhereR) s0 (eref03_Quoted_0 v) = href03_Quoted_0 (fun v => s0 (eref03_Quoted_0 v)) v := by kernel_rfl
theorem bref03_Quoted_0 (N : Nat) (s0 : St → Option ((List Int))) (v) : (floc (Eref03_Quoted) Tref03_Quoted 6 N Tryd.f14 [.str] [false] [] 0 nowhereR) s0 (eref03_Quoted_0 v) = gref03_Quoted_0 N (fun v => s0 (eref03_Quoted_0 v)) v := kref03_Quoted_0 N s0 v
def nref03_Quoted (loop0 : (List Int) × (List Int) × Int → Option ((List Int))) (x : (List Int)) : Option ((List Int)) :=
  (loop0 (x, ([34] : List Int), (0 : Int)))
def mref03_Quoted (N : Nat) (x : (List Int)) : Option ((List Int)) := nref03_Quoted (iterV (gref03_Quoted_0 N) N) x
theorem jref03_Quoted (N : Nat) (x) : rise (Eref03_Quoted) Tref03_Quoted 6 N Tryd.f14 [.str] [.str] [false] x = nref03_Quoted (fun v => iterR (floc (Eref03_Quoted) Tref03_Quoted 6 N Tryd.f14 [.str] [false] [] 0 nowhereR) N (eref03_Quoted_0 v)) x := by kernel_rfl
theorem lref03_Quoted (N : Nat) (x) : rise (Eref03_Quoted) Tref03_Quoted 6 N Tryd.f14 [.str] [.str] [false] x = mref03_Quoted N x := (jref03_Quoted N x).trans (by rw [funext (iterR_eq eref03_Quoted_0 (bref03_Quoted_0 N) N)]; rfl)
def cref03_Quoted (x : (List Int)) : Option ((List Int)) := mref03_Quoted big x
def Gref03_Quoted : Fn2 := ⟨[.str], [.str], [false], fun x => cref03_Quoted x⟩
theorem Lref03_Quoted : Rises Tryd.prog 14 Gref03_Quoted := rises_of (E := Eref03_Quoted) ⟨tabOk, (fsCons2 Lref03_Char fsNil2), fun _ _ _ => rfl, mixed, inlNil⟩ Tryd.func14 rfl (by decide) (by kernel_rfl) (by kernel_rfl) (by kernel_rfl) (by kernel_rfl) (fun x r _ h => ⟨Tref03_Quoted, 6, big, (lref03_Quoted big x).trans h⟩)

def Tref03_Quote : LT := { live := [], keep := [(2, [0]), (3, [0]), (4, [0]), (5, [0]), (6, [0]), (7, []), (8, [])] }
/-! ### wreckage/wreckageref03.Quote -/
noncomputable def Eref03_Quote : Env2 := { tab := tab, fs := [(14, Gref03_Quoted)], inl := [] }
def nref03_Quote (x : (List Int)) : Option ((List Int) × Int) :=
  (bif (decide ((List.length x : Int) > (400 : Int))) then (some (([] : List Int), (4 : Int))) else ((cref03_Quoted x).bind fun x1 => (some (x1, (0 : Int)))))
def mref03_Quote (N : Nat) (x : (List Int)) : Option ((List Int) × Int) := nref03_Quote x
theorem jref03_Quote (N : Nat) (x) : rise (Eref03_Quote) Tref03_Quote 6 N Tryd.f6 [.str] [.str, (.int .i64)] [false, false] x = nref03_Quote x := by kernel_rfl
theorem lref03_Quote (N : Nat) (x) : rise (Eref03_Quote) Tref03_Quote 6 N Tryd.f6 [.str] [.str, (.int .i64)] [false, false] x = mref03_Quote N x := (jref03_Quote N x).trans rfl
def cref03_Quote (x : (List Int)) : Option ((List Int) × Int) := mref03_Quote big x
def Gref03_Quote : Fn2 := ⟨[.str], [.str, (.int .i64)], [false, false], fun x => cref03_Quote x⟩
theorem Lref03_Quote : Rises Tryd.prog 6 Gref03_Quote := rises_of (E := Eref03_Quote) ⟨tabOk, (fsCons2 Lref03_Quoted fsNil2), fun _ _ _ => rfl, mixed, inlNil⟩ Tryd.func6 rfl (by decide) (by kernel_rfl) (by kernel_rfl) (by kernel_rfl) (by kernel_rfl) (fun x r _ h => ⟨Tref03_Quote, 6, big, (lref03_Quote big x).trans h⟩)

def Tref03_Short : LT := { live := [(2, [0, 3])], keep := [(2, [0]), (3, [0]), (4, [0, 3]), (5, [0, 3, 4]), (6, [0, 3, 4]), (7, [0, 3]), (8, [0]), (9, [0]), (10, [0, 3]), (11, [0, 3, 10]), (12, [0, 3]), (13, [0, 3]), (14, [0, 3]), (15, [0, 3]), (16, []), (17, []), (18, [])] }
/-! ### wreckage/wreckageref03.Short -/
noncomputable def Eref03_Short : Env2 := { tab := tab, fs := [], inl := [] }
noncomputable def eref03_Short_0 (v : (List (List Int)) × Int) : St := { s := [(0, (.val ⟨(.slice .str), v.1⟩)), (3, (.val ⟨(.int .i64), v.2⟩))], l := [], k := [], b := 4096 }
def href03_Short_0 (self0 : (List (List Int)) × Int → Option (Bool)) (v : (List (List Int)) × Int) : Option (Bool) :=
  (bif (decide (v.2 < (List.length v.1 : Int))) then ((getI v.1 v.2).bind fun x1 => (bif (decide ((List.length x1 : Int) > (400 : Int))) then (some false) else (let x2 : Int := (IntKind.i64.wrap (v.2 + (1 : Int))); (self0 (v.1, x2))))) else (some (decide ((List.length v.1 : Int) ≤ (64 : Int)))))
def gref03_Short_0 (N : Nat) (self0 : (List (List Int)) × Int → Option (Bool)) (v : (List (List Int)) × Int) : Option (Bool) := href03_Short_0 self0 v
theorem kref03_Short_0 (N : Nat) (s0 : St → Option (Bool)) (v) : (floc (Eref03_Short) Tref03_Short 6 N Tryd.f16 [.bool] [false] [] 0 nowhereR) s0 (eref03_Short_0 v) = href03_Short_0 (fun v => s0 (eref03_Short_0 v)) v := by kernel_rfl
theorem bref03_Short_0 (N : Nat) (s0 : St → Option (Bool)) (v) : (floc (Eref03_Short) Tref03_Short 6 N Tryd.f16 [.bool] [false] [] 0 nowhereR) s0 (eref03_Short_0 v) = gref03_Short_0 N (fun v => s0 (eref03_Short_0 v)) v := kref03_Short_0 N s0 v
def nref03_Short (loop0 : (List (List Int)) × Int → Option (Bool)) (x : (List (List Int))) : Option (Bool) :=
  (loop0 (x, (0 : Int)))
def mref03_Short (N : Nat) (x : (List (List Int))) : Option (Bool) := nref03_Short (iterV (gref03_Short_0 N) N) x
theorem jref03_Short (N : Nat) (x) : rise (Eref03_Short) Tref03_Short 6 N Tryd.f16 [(.slice .str)] [.bool] [false] x = nref03_Short (fun v => iterR (floc (Eref03_Short) Tref03_Short 6 N Tryd.f16 [.bool] [false] [] 0 nowhereR) N (eref03_Short_0 v)) x := by kernel_rfl
theorem lref03_Short (N : Nat) (x) : rise (Eref03_Short) Tref03_Short 6 N Tryd.f16 [(.slice .str)] [.bool] [false] x = mref03_Short N x := (jref03_Short N x).trans (by rw [funext (iterR_eq eref03_Short_0 (bref03_Short_0 N) N)]; rfl)
def cref03_Short (x : (List (List Int))) : Option (Bool) := mref03_Short big x
def Gref03_Short : Fn2 := ⟨[(.slice .str)], [.bool], [false], fun x => cref03_Short x⟩
theorem Lref03_Short : Rises Tryd.prog 16 Gref03_Short := rises_of (E := Eref03_Short) ⟨tabOk, fsNil2, fun _ _ _ => rfl, mixed, inlNil⟩ Tryd.func16 rfl (by decide) (by kernel_rfl) (by kernel_rfl) (by kernel_rfl) (by kernel_rfl) (fun x r _ h => ⟨Tref03_Short, 6, big, (lref03_Short big x).trans h⟩)

def Tref03_Listed : LT := { live := [(3, [0, 3, 4])], keep := [(2, [0]), (3, [0]), (4, [0, 3]), (5, [0, 3, 4]), (6, [0, 3, 4, 5]), (7, [0, 3, 4, 5]), (8, [0, 3, 4]), (9, [0, 3]), (10, [0, 3]), (11, [0, 3, 4]), (12, [0, 3, 4]), (13, [0, 4]), (14, [0, 4]), (15, [0, 4]), (16, [0, 4, 15]), (17, [0, 4, 15, 16]), (18, [0, 4, 15]), (19, [0, 4, 15]), (20, [0, 4, 15]), (21, [0, 4]), (22, []), (23, [])] }
/-! ### wreckage/wreckageref03.Listed -/
noncomputable def Eref03_Listed : Env2 := { tab := tab, fs := [(14, Gref03_Quoted)], inl := [] }
noncomputable def eref03_Listed_0 (v : (List (List Int)) × (List Int) × Int) : St := { s := [(0, (.val ⟨(.slice .str), v.1⟩)), (3, (.val ⟨.str, v.2.1⟩)), (4, (.val ⟨(.int .i64), v.2.2⟩))], l := [], k := [], b := 4096 }
def href03_Listed_0 (self0 : (List (List Int)) × (List Int) × Int → Option ((List Int))) (v : (List (List Int)) × (List Int) × Int) : Option ((List Int)) :=
  (bif (decide (v.2.2 < (List.length v.1 : Int))) then (bif (decide (v.2.2 > (0 : Int))) then (bif (Nat.ble (List.length v.2.1 + List.length ([44, 32] : List Int)) lim) then (let x1 : (List Int) := (List.append v.2.1 ([44, 32] : List Int)); ((getI v.1 v.2.2).bind fun x2 => ((cref03_Quoted x2).bind fun x3 => (bif (Nat.ble (List.length x1 + List.length x3) lim) then (let x4 : Int := (IntKind.i64.wrap (v.2.2 + (1 : Int))); (self0 (v.1, (List.append x1 x3), x4))) else none)))) else none) else ((getI v.1 v.2.2).bind fun x5 => ((cref03_Quoted x5).bind fun x6 => (bif (Nat.ble (List.length v.2.1 + List.length x6) lim) then (let x7 : Int := (IntKind.i64.wrap (v.2.2 + (1 : Int))); (self0 (v.1, (List.append v.2.1 x6), x7))) else none)))) else (bif (Nat.ble (List.length v.2.1 + List.length ([93] : List Int)) lim) then (let x8 : (List Int) := (List.append v.2.1 ([93] : List Int)); (some x8)) else none))
def gref03_Listed_0 (N : Nat) (self0 : (List (List Int)) × (List Int) × Int → Option ((List Int))) (v : (List (List Int)) × (List Int) × Int) : Option ((List Int)) := href03_Listed_0 self0 v
theorem kref03_Listed_0 (N : Nat) (s0 : St → Option ((List Int))) (v) : (floc (Eref03_Listed) Tref03_Listed 6 N Tryd.f17 [.str] [false] [] 0 nowhereR) s0 (eref03_Listed_0 v) = href03_Listed_0 (fun v => s0 (eref03_Listed_0 v)) v := by kernel_rfl
theorem bref03_Listed_0 (N : Nat) (s0 : St → Option ((List Int))) (v) : (floc (Eref03_Listed) Tref03_Listed 6 N Tryd.f17 [.str] [false] [] 0 nowhereR) s0 (eref03_Listed_0 v) = gref03_Listed_0 N (fun v => s0 (eref03_Listed_0 v)) v := kref03_Listed_0 N s0 v
def nref03_Listed (loop0 : (List (List Int)) × (List Int) × Int → Option ((List Int))) (x : (List (List Int))) : Option ((List Int)) :=
  (loop0 (x, ([91] : List Int), (0 : Int)))
def mref03_Listed (N : Nat) (x : (List (List Int))) : Option ((List Int)) := nref03_Listed (iterV (gref03_Listed_0 N) N) x
theorem jref03_Listed (N : Nat) (x) : rise (Eref03_Listed) Tref03_Listed 6 N Tryd.f17 [(.slice .str)] [.str] [false] x = nref03_Listed (fun v => iterR (floc (Eref03_Listed) Tref03_Listed 6 N Tryd.f17 [.str] [false] [] 0 nowhereR) N (eref03_Listed_0 v)) x := by kernel_rfl
theorem lref03_Listed (N : Nat) (x) : rise (Eref03_Listed) Tref03_Listed 6 N Tryd.f17 [(.slice .str)] [.str] [false] x = mref03_Listed N x := (jref03_Listed N x).trans (by rw [funext (iterR_eq eref03_Listed_0 (bref03_Listed_0 N) N)]; rfl)
def cref03_Listed (x : (List (List Int))) : Option ((List Int)) := mref03_Listed big x
def Gref03_Listed : Fn2 := ⟨[(.slice .str)], [.str], [false], fun x => cref03_Listed x⟩
theorem Lref03_Listed : Rises Tryd.prog 17 Gref03_Listed := rises_of (E := Eref03_Listed) ⟨tabOk, (fsCons2 Lref03_Quoted fsNil2), fun _ _ _ => rfl, mixed, inlNil⟩ Tryd.func17 rfl (by decide) (by kernel_rfl) (by kernel_rfl) (by kernel_rfl) (by kernel_rfl) (fun x r _ h => ⟨Tref03_Listed, 6, big, (lref03_Listed big x).trans h⟩)

def Tref03_List : LT := { live := [], keep := [(2, [0]), (3, [0]), (4, [0]), (5, [0]), (6, [0]), (7, []), (8, [])] }
/-! ### wreckage/wreckageref03.List -/
noncomputable def Eref03_List : Env2 := { tab := tab, fs := [(16, Gref03_Short), (17, Gref03_Listed)], inl := [] }
def nref03_List (x : (List (List Int))) : Option ((List Int) × Int) :=
  ((cref03_Short x).bind fun x1 => (bif (!x1) then (some (([] : List Int), (4 : Int))) else ((cref03_Listed x).bind fun x2 => (some (x2, (0 : Int))))))
def mref03_List (N : Nat) (x : (List (List Int))) : Option ((List Int) × Int) := nref03_List x
theorem jref03_List (N : Nat) (x) : rise (Eref03_List) Tref03_List 6 N Tryd.f8 [(.slice .str)] [.str, (.int .i64)] [false, false] x = nref03_List x := by kernel_rfl
theorem lref03_List (N : Nat) (x) : rise (Eref03_List) Tref03_List 6 N Tryd.f8 [(.slice .str)] [.str, (.int .i64)] [false, false] x = mref03_List N x := (jref03_List N x).trans rfl
def cref03_List (x : (List (List Int))) : Option ((List Int) × Int) := mref03_List big x
def Gref03_List : Fn2 := ⟨[(.slice .str)], [.str, (.int .i64)], [false, false], fun x => cref03_List x⟩
theorem Lref03_List : Rises Tryd.prog 8 Gref03_List := rises_of (E := Eref03_List) ⟨tabOk, (fsCons2 Lref03_Short (fsCons2 Lref03_Listed fsNil2)), fun _ _ _ => rfl, mixed, inlNil⟩ Tryd.func8 rfl (by decide) (by kernel_rfl) (by kernel_rfl) (by kernel_rfl) (by kernel_rfl) (fun x r _ h => ⟨Tref03_List, 6, big, (lref03_List big x).trans h⟩)

def Tref03_Digits : LT := { live := [(2, [0, 1, 5])], keep := [(0, [1, 5]), (4, [0, 1]), (5, [0, 1]), (6, [0, 1, 5]), (7, [0, 1, 5, 6]), (8, [0, 1, 5]), (9, [0, 1, 5]), (10, [0, 1, 5, 9]), (11, [0, 1, 5]), (12, [0, 1, 5, 11]), (13, [0, 1, 5, 11, 12]), (14, [0, 1, 5, 11]), (15, [0, 1, 5, 11]), (16, [0, 1, 5]), (17, [0, 1, 16]), (18, [0, 1]), (19, [1, 5]), (20, [1, 5, 19]), (21, [1, 5]), (22, [0, 5]), (23, [5, 22]), (24, [5, 22]), (25, [5]), (26, [25]), (27, [])] }
/-! ### wreckage/wreckageref03.Digits -/
noncomputable def Eref03_Digits : Env2 := { tab := tab, fs := [], inl := [] }
noncomputable def eref03_Digits_0 (v : Int × Int × (List Int)) : St := { s := [(0, (.val ⟨(.int .u64), v.1⟩)), (1, (.val ⟨(.int .u64), v.2.1⟩)), (5, (.val ⟨.str, v.2.2⟩))], l := [], k := [], b := 4096 }
def href03_Digits_0 (self0 : Int × Int × (List Int) → Option ((List Int))) (v : Int × Int × (List Int)) : Option ((List Int)) :=
  (bif (decide (v.1 ≥ v.2.1)) then (bif (v.2.1 == 0) then none else (bif (v.2.1 == 0) then none else (let x1 : Int := (IntKind.u64.wrap ((v.1.tmod v.2.1) + (1 : Int))); (bif (decide (0 ≤ (v.1.tmod v.2.1)) && (decide ((v.1.tmod v.2.1) ≤ x1) && decide (x1 ≤ (List.length ([48, 49, 50, 51, 52, 53, 54, 55, 56, 57, 97, 98, 99, 100, 101, 102] : List Int) : Int)))) then (let x2 : (List Int) := (List.drop (Int.toNat (v.1.tmod v.2.1)) (List.take (Int.toNat x1) ([48, 49, 50, 51, 52, 53, 54, 55, 56, 57, 97, 98, 99, 100, 101, 102] : List Int))); (bif (Nat.ble (List.length x2 + List.length v.2.2) lim) then (bif (v.2.1 == 0) then none else (let x3 : Int := (IntKind.u64.wrap (v.1.tdiv v.2.1)); (self0 (x3, v.2.1, (List.append x2 v.2.2))))) else none)) else none)))) else (let x4 : Int := (IntKind.u64.wrap (v.1 + (1 : Int))); (bif (decide (0 ≤ v.1) && (decide (v.1 ≤ x4) && decide (x4 ≤ (List.length ([48, 49, 50, 51, 52, 53, 54, 55, 56, 57, 97, 98, 99, 100, 101, 102] : List Int) : Int)))) then (let x5 : (List Int) := (List.drop (Int.toNat v.1) (List.take (Int.toNat x4) ([48, 49, 50, 51, 52, 53, 54, 55, 56, 57, 97, 98, 99, 100, 101, 102] : List Int))); (bif (Nat.ble (List.length x5 + List.length v.2.2) lim) then (some (List.append x5 v.2.2)) else none)) else none)))
def gref03_Digits_0 (N : Nat) (self0 : Int × Int × (List Int) → Option ((List Int))) (v : Int × Int × (List Int)) : Option ((List Int)) := href03_Digits_0 self0 v
theorem kref03_Digits_0 (N : Nat) (s0 : St → Option ((List Int))) (v) : (floc (Eref03_Digits) Tref03_Digits 6 N Tryd.f19 [.str] [false] [] 0 nowhereR) s0 (eref03_Digits_0 v) = href03_Digits_0 (fun v => s0 (eref03_Digits_0 v)) v := by kernel_rfl
theorem bref03_Digits_0 (N : Nat) (s0 : St → Option ((List Int))) (v) : (floc (Eref03_Digits) Tref03_Digits 6 N Tryd.f19 [.str] [false] [] 0 nowhereR) s0 (eref03_Digits_0 v) = gref03_Digits_0 N (fun v => s0 (eref03_Digits_0 v)) v := kref03_Digits_0 N s0 v
def nref03_Digits (loop0 : Int × Int × (List Int) → Option ((List Int))) (x : Int × Int) : Option ((List Int)) :=
  (loop0 (x.1, x.2, ([] : List Int)))
def mref03_Digits (N : Nat) (x : Int × Int) : Option ((List Int)) := nref03_Digits (iterV (gref03_Digits_0 N) N) x
theorem jref03_Digits (N : Nat) (x) : rise (Eref03_Digits) Tref03_Digits 6 N Tryd.f19 [(.int .u64), (.int .u64)] [.str] [false] x = nref03_Digits (fun v => iterR (floc (Eref03_Digits) Tref03_Digits 6 N Tryd.f19 [.str] [false] [] 0 nowhereR) N (eref03_Digits_0 v)) x := by kernel_rfl
theorem lref03_Digits (N : Nat) (x) : rise (Eref03_Digits) Tref03_Digits 6 N Tryd.f19 [(.int .u64), (.int .u64)] [.str] [false] x = mref03_Digits N x := (jref03_Digits N x).trans (by rw [funext (iterR_eq eref03_Digits_0 (bref03_Digits_0 N) N)]; rfl)
def cref03_Digits (x : Int × Int) : Option ((List Int)) := mref03_Digits big x
def Gref03_Digits : Fn2 := ⟨[(.int .u64), (.int .u64)], [.str], [false], fun x => cref03_Digits x⟩
theorem Lref03_Digits : Rises Tryd.prog 19 Gref03_Digits := rises_of (E := Eref03_Digits) ⟨tabOk, fsNil2, fun _ _ _ => rfl, mixed, inlNil⟩ Tryd.func19 rfl (by decide) (by kernel_rfl) (by kernel_rfl) (by kernel_rfl) (by kernel_rfl) (fun x r _ h => ⟨Tref03_Digits, 6, big, (lref03_Digits big x).trans h⟩)

def Tref03_Number : LT := { live := [], keep := [(2, [0]), (3, [0]), (4, [0]), (5, []), (6, []), (7, []), (8, []), (9, []), (10, []), (11, []), (12, []), (13, []), (14, [])] }
/-! ### wreckage/wreckageref03.Number -/
noncomputable def Eref03_Number : Env2 := { tab := tab, fs := [(19, Gref03_Digits)], inl := [] }
def nref03_Number (x : Int) : Option ((List Int)) :=
  (bif (decide (x ≥ (0 : Int))) then ((cref03_Digits ((IntKind.u64.wrap x), (10 : Int))).bind fun x1 => (some x1)) else (let x2 : Int := (IntKind.i64.wrap (x + (1 : Int))); (let x3 : Int := (IntKind.i64.wrap (0 - x2)); (let x4 : Int := (IntKind.u64.wrap ((IntKind.u64.wrap x3) + (1 : Int))); ((cref03_Digits (x4, (10 : Int))).bind fun x5 => (bif (Nat.ble (List.length ([45] : List Int) + List.length x5) lim) then (let x6 : (List Int) := (List.append ([45] : List Int) x5); (some x6)) else none))))))
def mref03_Number (N : Nat) (x : Int) : Option ((List Int)) := nref03_Number x
theorem jref03_Number (N : Nat) (x) : rise (Eref03_Number) Tref03_Number 6 N Tryd.f10 [(.int .i64)] [.str] [false] x = nref03_Number x := by kernel_rfl
theorem lref03_Number (N : Nat) (x) : rise (Eref03_Number) Tref03_Number 6 N Tryd.f10 [(.int .i64)] [.str] [false] x = mref03_Number N x := (jref03_Number N x).trans rfl
def cref03_Number (x : Int) : Option ((List Int)) := mref03_Number big x
def Gref03_Number : Fn2 := ⟨[(.int .i64)], [.str], [false], fun x => cref03_Number x⟩
theorem Lref03_Number : Rises Tryd.prog 10 Gref03_Number := rises_of (E := Eref03_Number) ⟨tabOk, (fsCons2 Lref03_Digits fsNil2), fun _ _ _ => rfl, mixed, inlNil⟩ Tryd.func10 rfl (by decide) (by kernel_rfl) (by kernel_rfl) (by kernel_rfl) (by kernel_rfl) (fun x r _ h => ⟨Tref03_Number, 6, big, (lref03_Number big x).trans h⟩)

def Tref03_Hex : LT := { live := [], keep := [(2, [0]), (3, []), (4, []), (5, [])] }
/-! ### wreckage/wreckageref03.Hex -/
noncomputable def Eref03_Hex : Env2 := { tab := tab, fs := [(19, Gref03_Digits)], inl := [] }
def nref03_Hex (x : Int) : Option ((List Int)) :=
  ((cref03_Digits (x, (16 : Int))).bind fun x1 => (bif (Nat.ble (List.length ([48, 120] : List Int) + List.length x1) lim) then (let x2 : (List Int) := (List.append ([48, 120] : List Int) x1); (some x2)) else none))
def mref03_Hex (N : Nat) (x : Int) : Option ((List Int)) := nref03_Hex x
theorem jref03_Hex (N : Nat) (x) : rise (Eref03_Hex) Tref03_Hex 6 N Tryd.f12 [(.int .u64)] [.str] [false] x = nref03_Hex x := by kernel_rfl
theorem lref03_Hex (N : Nat) (x) : rise (Eref03_Hex) Tref03_Hex 6 N Tryd.f12 [(.int .u64)] [.str] [false] x = mref03_Hex N x := (jref03_Hex N x).trans rfl
def cref03_Hex (x : Int) : Option ((List Int)) := mref03_Hex big x
def Gref03_Hex : Fn2 := ⟨[(.int .u64)], [.str], [false], fun x => cref03_Hex x⟩
theorem Lref03_Hex : Rises Tryd.prog 12 Gref03_Hex := rises_of (E := Eref03_Hex) ⟨tabOk, (fsCons2 Lref03_Digits fsNil2), fun _ _ _ => rfl, mixed, inlNil⟩ Tryd.func12 rfl (by decide) (by kernel_rfl) (by kernel_rfl) (by kernel_rfl) (by kernel_rfl) (fun x r _ h => ⟨Tref03_Hex, 6, big, (lref03_Hex big x).trans h⟩)

end Go.Proofs.YtkdpkgciilhjaaaDoor
