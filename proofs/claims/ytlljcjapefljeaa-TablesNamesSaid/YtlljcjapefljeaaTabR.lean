/- Functions of the program, read as plain functions: each equation is checked by the kernel. -/
import Derived.Test.YtlljcjapefljeaaTabA
set_option linter.unusedVariables false
set_option maxRecDepth 100000
namespace Go.Proofs.Ytlljcjapefljeaa
open Go.Lift
def Tref08_Same : LT := { live := [(4,[0,1,5])],keep := [(4,[0,1]),(5,[0,1]),(6,[0,1]),(7,[0,1]),(8,[0,1,7]),(9,[0,1,7]),(10,[0,1]),(11,[0,1,5]),(12,[0,1,5,11]),(13,[0,1,5,11]),(14,[0,1,5]),(15,[0,1]),(16,[0,1]),(17,[0,1,5]),(18,[0,1,5,17]),(19,[0,1,5]),(20,[0,1,5]),(21,[0,1,5,20]),(22,[0,1,5,20,21]),(23,[0,1,5,20]),(24,[0,1,5,20]),(25,[0,1,5])] }
/-! ### wreckage/wreckageref08.Same -/
noncomputable def Eref08_Same : Env2 := { tab := tab, fs := [], inl := [] }
noncomputable def eref08_Same_0 (v : Y0 × Y0 × Int) : St := { s := [(0, (.val ⟨Z0, v.1⟩)), (1, (.val ⟨Z0, v.2.1⟩)), (5, (.val ⟨Z2, v.2.2⟩))], l := [], k := [], b := 4096 }
def href08_Same_0 (self0 : Y0 × Y0 × Int → Option (Bool)) (v : Y0 × Y0 × Int) : Option (Bool) :=
  (bif (decide (v.2.2 < (List.length v.1 : Int))) then ((getI v.1 v.2.2).bind fun x1 => ((getI v.2.1 v.2.2).bind fun x2 => (bif (!(eqD Z5 x1 x2)) then (some false) else (let x3 : Int := (IntKind.i64.wrap (v.2.2 + (1 : Int))); (self0 (v.1, v.2.1, x3)))))) else (some true))
def gref08_Same_0 (N : Nat) (self0 : Y0 × Y0 × Int → Option (Bool)) (v : Y0 × Y0 × Int) : Option (Bool) := href08_Same_0 self0 v
theorem kref08_Same_0 (N : Nat) (s0 : St → Option (Bool)) (v) : (floc (Eref08_Same) Tref08_Same 6 N Try.f23 [.bool] [false] [] 0 nowhereR) s0 (eref08_Same_0 v) = href08_Same_0 (fun v => s0 (eref08_Same_0 v)) v := by kernel_rfl
theorem bref08_Same_0 (N : Nat) (s0 : St → Option (Bool)) (v) : (floc (Eref08_Same) Tref08_Same 6 N Try.f23 [.bool] [false] [] 0 nowhereR) s0 (eref08_Same_0 v) = gref08_Same_0 N (fun v => s0 (eref08_Same_0 v)) v := kref08_Same_0 N s0 v
def nref08_Same (loop0 : Y0 × Y0 × Int → Option (Bool)) (x : Y0 × Y0) : Option (Bool) :=
  (bif ((List.length x.1 : Int) != (List.length x.2 : Int)) then (some false) else (loop0 (x.1, x.2, (0 : Int))))
def mref08_Same (N : Nat) (x : Y0 × Y0) : Option (Bool) := nref08_Same (iterV (gref08_Same_0 N) N) x
theorem jref08_Same (N : Nat) (x : Y0 × Y0) : rise (Eref08_Same) Tref08_Same 6 N Try.f23 [Z0, Z0] [.bool] [false] x = nref08_Same (fun v => iterR (floc (Eref08_Same) Tref08_Same 6 N Try.f23 [.bool] [false] [] 0 nowhereR) N (eref08_Same_0 v)) x := by kernel_rfl
theorem lref08_Same (N : Nat) (x : Y0 × Y0) : rise (Eref08_Same) Tref08_Same 6 N Try.f23 [Z0, Z0] [.bool] [false] x = mref08_Same N x := (jref08_Same N x).trans (by rw [funext (iterR_eq eref08_Same_0 (bref08_Same_0 N) N)]; rfl)
def cref08_Same (x : Y0 × Y0) : Option (Bool) := mref08_Same big x
def Gref08_Same : Fn2 := ⟨[Z0, Z0], [.bool], [false], fun x => cref08_Same x⟩
theorem Lref08_Same : Rises Try.prog 23 Gref08_Same := rises_of (E := Eref08_Same) ⟨tabOk, fsNil2, fun _ _ _ => rfl, mixed, inlNil, rcsNil⟩ Try.func23 rfl (by decide) (by kernel_rfl) (by kernel_rfl) (by kernel_rfl) (by kernel_rfl) (fun x r _ h => ⟨Tref08_Same, 6, big, (lref08_Same big x).trans h⟩)

def Tref08_Fine : LT := { live := [(4,[0,1,5])],keep := [(4,[0,1]),(5,[0,1]),(6,[0,1]),(7,[0,1]),(8,[0,1]),(9,[0,1]),(10,[0,1,9]),(11,[0,1,9]),(12,[0,1,9]),(13,[0,1,9]),(14,[0,1,9]),(15,[0,1]),(16,[0,1,5]),(17,[0,1,5,16]),(18,[0,1,5,16]),(19,[0,1,5]),(20,[0,1]),(21,[0,1]),(22,[0,1,5]),(23,[0,1,5,22]),(24,[0,1,5]),(25,[0,1,5]),(26,[0,1,5]),(27,[0,1,5,26]),(28,[0,1,5]),(29,[0,1,5]),(30,[0,1,5,29]),(31,[0,1,5,29]),(32,[0,1,5,29]),(33,[0,1,5,29,32]),(34,[0,1,5,29,32,33]),(35,[0,1,5,29,32,33]),(36,[0,1,5,29,32]),(37,[0,1,5,29,32]),(38,[0,1,5,29,32]),(39,[0,1,5,29,32,38]),(40,[0,1,5,29,32,38,39]),(41,[0,1,5,29,32,38]),(42,[0,1,5,29,32,38]),(43,[0,1,5,29,32,38]),(44,[0,1,5,29,32]),(45,[0,1,5,29,32]),(46,[0,1,5,29,32,45]),(47,[0,1,5,29,32,45,46]),(48,[0,1,5,29,32,45,46]),(49,[0,1,5,29,32,45]),(50,[0,1,5,29,32,45]),(51,[0,1,5,29,32,45]),(52,[0,1,5,29,32,45,51]),(53,[0,1,5,29,32,45,51,52]),(54,[0,1,5,29,32,45,51]),(55,[0,1,5,29,32,45,51]),(56,[0,1,5,29,32,45,51]),(57,[0,1,5,29,32,45]),(58,[0,1,5,29,32]),(59,[0,1,5,29]),(60,[0,1,5])] }
/-! ### wreckage/wreckageref08.Fine -/
noncomputable def Eref08_Fine : Env2 := { tab := tab, fs := [], inl := [] }
noncomputable def eref08_Fine_0 (v : Y5) : St := { s := [(0, (.val ⟨Z0, v.1⟩)), (1, (.val ⟨Z2, v.2.1⟩)), (5, (.val ⟨Z2, v.2.2⟩))], l := [], k := [], b := 4096 }
def href08_Fine_0 (self0 : Y5 → Option (Bool)) (v : Y5) : Option (Bool) :=
  (bif (decide (v.2.2 < (List.length v.1 : Int))) then ((getI v.1 v.2.2).bind fun x2 => (bif (decide (x2.1 ≥ v.2.1)) then (some false) else (bif (decide (v.2.2 > (0 : Int))) then (let x3 : Int := (IntKind.i64.wrap (v.2.2 - (1 : Int))); ((getI v.1 x3).bind fun x4 => ((getI v.1 v.2.2).bind fun x5 => (bif (decide (x4.1 ≥ x5.1)) then (some false) else (let x6 : Int := (IntKind.i64.wrap (v.2.2 - (1 : Int))); ((getI v.1 x6).bind fun x7 => ((getI v.1 v.2.2).bind fun x8 => (bif (x7.2.1 == x8.2.1) then (some false) else (let x9 : Int := (IntKind.i64.wrap (v.2.2 + (1 : Int))); (self0 (v.1, v.2.1, x9))))))))))) else (let x10 : Int := (IntKind.i64.wrap (v.2.2 + (1 : Int))); (self0 (v.1, v.2.1, x10)))))) else (some true))
def gref08_Fine_0 (N : Nat) (self0 : Y5 → Option (Bool)) (v : Y5) : Option (Bool) := href08_Fine_0 self0 v
theorem kref08_Fine_0 (N : Nat) (s0 : St → Option (Bool)) (v) : (floc (Eref08_Fine) Tref08_Fine 6 N Try.f40 [.bool] [false] [] 0 nowhereR) s0 (eref08_Fine_0 v) = href08_Fine_0 (fun v => s0 (eref08_Fine_0 v)) v := by kernel_rfl
theorem bref08_Fine_0 (N : Nat) (s0 : St → Option (Bool)) (v) : (floc (Eref08_Fine) Tref08_Fine 6 N Try.f40 [.bool] [false] [] 0 nowhereR) s0 (eref08_Fine_0 v) = gref08_Fine_0 N (fun v => s0 (eref08_Fine_0 v)) v := kref08_Fine_0 N s0 v
def nref08_Fine (loop0 : Y5 → Option (Bool)) (x : Y0 × Int) : Option (Bool) :=
  (bif (decide ((List.length x.1 : Int) < (1 : Int))) then (some false) else ((getI x.1 (0 : Int)).bind fun x1 => (bif (x1.1 != (0 : Int)) then (some false) else (loop0 (x.1, x.2, (0 : Int))))))
def mref08_Fine (N : Nat) (x : Y0 × Int) : Option (Bool) := nref08_Fine (iterV (gref08_Fine_0 N) N) x
theorem jref08_Fine (N : Nat) (x : Y0 × Int) : rise (Eref08_Fine) Tref08_Fine 6 N Try.f40 [Z0, Z2] [.bool] [false] x = nref08_Fine (fun v => iterR (floc (Eref08_Fine) Tref08_Fine 6 N Try.f40 [.bool] [false] [] 0 nowhereR) N (eref08_Fine_0 v)) x := by kernel_rfl
theorem lref08_Fine (N : Nat) (x : Y0 × Int) : rise (Eref08_Fine) Tref08_Fine 6 N Try.f40 [Z0, Z2] [.bool] [false] x = mref08_Fine N x := (jref08_Fine N x).trans (by rw [funext (iterR_eq eref08_Fine_0 (bref08_Fine_0 N) N)]; rfl)
def cref08_Fine (x : Y0 × Int) : Option (Bool) := mref08_Fine big x
def Gref08_Fine : Fn2 := ⟨[Z0, Z2], [.bool], [false], fun x => cref08_Fine x⟩
theorem Lref08_Fine : Rises Try.prog 40 Gref08_Fine := rises_of (E := Eref08_Fine) ⟨tabOk, fsNil2, fun _ _ _ => rfl, mixed, inlNil, rcsNil⟩ Try.func40 rfl (by decide) (by kernel_rfl) (by kernel_rfl) (by kernel_rfl) (by kernel_rfl) (fun x r _ h => ⟨Tref08_Fine, 6, big, (lref08_Fine big x).trans h⟩)

def Tref08_Check : LT := { live := [],keep := [(4,[0,1]),(5,[0,1]),(6,[0,1]),(7,[0,1]),(8,[0,1,7]),(9,[0,1,7]),(10,[0,1]),(11,[1]),(12,[11]),(13,[]),(14,[])] }
/-! ### wreckage/wreckageref08.Check -/
noncomputable def Eref08_Check : Env2 := { tab := tab, fs := [(40, Gref08_Fine)], inl := [] }
def nref08_Check (x : Y0 × Int) : Option (Int) :=
  (bif (decide (x.2 < (1 : Int))) then (some (2 : Int)) else (bif (decide (x.2 > (200 : Int))) then (some (2 : Int)) else ((cref08_Fine (x.1, x.2)).bind fun x1 => (bif (!x1) then (some (8 : Int)) else (some (0 : Int))))))
def mref08_Check (N : Nat) (x : Y0 × Int) : Option (Int) := nref08_Check x
theorem jref08_Check (N : Nat) (x : Y0 × Int) : rise (Eref08_Check) Tref08_Check 6 N Try.f21 [Z0, Z2] [Z2] [false] x = nref08_Check x := by kernel_rfl
theorem lref08_Check (N : Nat) (x : Y0 × Int) : rise (Eref08_Check) Tref08_Check 6 N Try.f21 [Z0, Z2] [Z2] [false] x = mref08_Check N x := (jref08_Check N x).trans rfl
def cref08_Check (x : Y0 × Int) : Option (Int) := mref08_Check big x
def Gref08_Check : Fn2 := ⟨[Z0, Z2], [Z2], [false], fun x => cref08_Check x⟩
theorem Lref08_Check : Rises Try.prog 21 Gref08_Check := rises_of (E := Eref08_Check) ⟨tabOk, (fsCons2 Lref08_Fine fsNil2), fun _ _ _ => rfl, mixed, inlNil, rcsNil⟩ Try.func21 rfl (by decide) (by kernel_rfl) (by kernel_rfl) (by kernel_rfl) (by kernel_rfl) (fun x r _ h => ⟨Tref08_Check, 6, big, (lref08_Check big x).trans h⟩)

def Tref08_Value : LT := { live := [(3,[0,1,5,6])],keep := [(4,[0,1]),(5,[0,1]),(6,[0,1,5]),(7,[0,1,5,6]),(8,[0,1,5,6,7]),(9,[0,1,5,6,7]),(10,[0,1,5,6]),(11,[0,1,5]),(12,[0,1,5]),(13,[0,1,5,6]),(14,[0,1,5,6,13]),(15,[0,1,5,6]),(16,[0,1,5,6]),(17,[0,1,5,6]),(18,[0,1,5,6,17]),(19,[0,1,5,6]),(20,[0,1,6]),(21,[0,1,6,20]),(22,[0,1,6]),(23,[0,1,6]),(24,[0,1,6]),(25,[])] }
/-! ### wreckage/wreckageref08.Value -/
noncomputable def Eref08_Value : Env2 := { tab := tab, fs := [], inl := [] }
noncomputable def eref08_Value_0 (v : Y0 × Int × Int × Int) : St := { s := [(0, (.val ⟨Z0, v.1⟩)), (1, (.val ⟨Z2, v.2.1⟩)), (5, (.val ⟨Z3, v.2.2.1⟩)), (6, (.val ⟨Z2, v.2.2.2⟩))], l := [], k := [], b := 4096 }
def href08_Value_0 (self0 : Y0 × Int × Int × Int → Option (Int)) (v : Y0 × Int × Int × Int) : Option (Int) :=
  (bif (decide (v.2.2.2 < (List.length v.1 : Int))) then ((getI v.1 v.2.2.2).bind fun x1 => (bif (decide (x1.1 ≤ v.2.1)) then ((getI v.1 v.2.2.2).bind fun x2 => (let x3 : Int := (IntKind.i64.wrap (v.2.2.2 + (1 : Int))); (self0 (v.1, v.2.1, x2.2.1, x3)))) else (let x4 : Int := (IntKind.i64.wrap (v.2.2.2 + (1 : Int))); (self0 (v.1, v.2.1, v.2.2.1, x4))))) else (some v.2.2.1))
def gref08_Value_0 (N : Nat) (self0 : Y0 × Int × Int × Int → Option (Int)) (v : Y0 × Int × Int × Int) : Option (Int) := href08_Value_0 self0 v
theorem kref08_Value_0 (N : Nat) (s0 : St → Option (Int)) (v) : (floc (Eref08_Value) Tref08_Value 6 N Try.f37 [Z3] [false] [] 0 nowhereR) s0 (eref08_Value_0 v) = href08_Value_0 (fun v => s0 (eref08_Value_0 v)) v := by kernel_rfl
theorem bref08_Value_0 (N : Nat) (s0 : St → Option (Int)) (v) : (floc (Eref08_Value) Tref08_Value 6 N Try.f37 [Z3] [false] [] 0 nowhereR) s0 (eref08_Value_0 v) = gref08_Value_0 N (fun v => s0 (eref08_Value_0 v)) v := kref08_Value_0 N s0 v
def nref08_Value (loop0 : Y0 × Int × Int × Int → Option (Int)) (x : Y0 × Int) : Option (Int) :=
  (loop0 (x.1, x.2, (0 : Int), (0 : Int)))
def mref08_Value (N : Nat) (x : Y0 × Int) : Option (Int) := nref08_Value (iterV (gref08_Value_0 N) N) x
theorem jref08_Value (N : Nat) (x : Y0 × Int) : rise (Eref08_Value) Tref08_Value 6 N Try.f37 [Z0, Z2] [Z3] [false] x = nref08_Value (fun v => iterR (floc (Eref08_Value) Tref08_Value 6 N Try.f37 [Z3] [false] [] 0 nowhereR) N (eref08_Value_0 v)) x := by kernel_rfl
theorem lref08_Value (N : Nat) (x : Y0 × Int) : rise (Eref08_Value) Tref08_Value 6 N Try.f37 [Z0, Z2] [Z3] [false] x = mref08_Value N x := (jref08_Value N x).trans (by rw [funext (iterR_eq eref08_Value_0 (bref08_Value_0 N) N)]; rfl)
def cref08_Value (x : Y0 × Int) : Option (Int) := mref08_Value big x
def Gref08_Value : Fn2 := ⟨[Z0, Z2], [Z3], [false], fun x => cref08_Value x⟩
theorem Lref08_Value : Rises Try.prog 37 Gref08_Value := rises_of (E := Eref08_Value) ⟨tabOk, fsNil2, fun _ _ _ => rfl, mixed, inlNil, rcsNil⟩ Try.func37 rfl (by decide) (by kernel_rfl) (by kernel_rfl) (by kernel_rfl) (by kernel_rfl) (fun x r _ h => ⟨Tref08_Value, 6, big, (lref08_Value big x).trans h⟩)

def Tref08_At : LT := { live := [],keep := [(6,[0,1,2]),(7,[0,1,2]),(8,[0,1,2]),(9,[0,1,2]),(10,[0,1,2,9]),(11,[0,1,2]),(12,[0,1,2,8]),(13,[0,1,2,8]),(14,[]),(15,[0,1,2]),(16,[0,1,2]),(17,[0,1,2]),(18,[0,1,2,17]),(19,[0,2,17,18]),(20,[0,2,17]),(21,[0,2]),(22,[2]),(23,[22]),(24,[])] }
/-! ### wreckage/wreckageref08.At -/
noncomputable def Eref08_At : Env2 := { tab := tab, fs := [(21, Gref08_Check), (37, Gref08_Value)], inl := [] }
def nref08_At (x : Y5) : Option (Int × Int) :=
  ((cref08_Check (x.1, x.2.1)).bind fun x1 => (bif (x1 != (0 : Int)) then (some ((0 : Int), x1)) else (bif (decide (x.2.2 < (0 : Int))) then (some ((0 : Int), (2 : Int))) else (bif (decide (x.2.2 ≥ x.2.1)) then (some ((0 : Int), (2 : Int))) else ((cref08_Value (x.1, x.2.2)).bind fun x2 => (some (x2, (0 : Int))))))))
def mref08_At (N : Nat) (x : Y5) : Option (Int × Int) := nref08_At x
theorem jref08_At (N : Nat) (x : Y5) : rise (Eref08_At) Tref08_At 6 N Try.f18 [Z0, Z2, Z2] [Z3, Z2] [false, false] x = nref08_At x := by kernel_rfl
theorem lref08_At (N : Nat) (x : Y5) : rise (Eref08_At) Tref08_At 6 N Try.f18 [Z0, Z2, Z2] [Z3, Z2] [false, false] x = mref08_At N x := (jref08_At N x).trans rfl
def cref08_At (x : Y5) : Option (Int × Int) := mref08_At big x
def Gref08_At : Fn2 := ⟨[Z0, Z2, Z2], [Z3, Z2], [false, false], fun x => cref08_At x⟩
theorem Lref08_At : Rises Try.prog 18 Gref08_At := rises_of (E := Eref08_At) ⟨tabOk, (fsCons2 Lref08_Check (fsCons2 Lref08_Value fsNil2)), fun _ _ _ => rfl, mixed, inlNil, rcsNil⟩ Try.func18 rfl (by decide) (by kernel_rfl) (by kernel_rfl) (by kernel_rfl) (by kernel_rfl) (fun x r _ h => ⟨Tref08_At, 6, big, (lref08_At big x).trans h⟩)

def Tref08_Listed : LT := { live := [(3,[0,1,5,6])],keep := [(4,[0,1]),(5,[0,1]),(6,[0,1,5]),(7,[0,1,5,6]),(8,[0,1,5,6,7]),(9,[0,1,5,6]),(10,[0,1,5]),(11,[0,1,5]),(12,[0,1,6]),(13,[0,1,6,12]),(14,[0,1,6,12,13]),(15,[0,1,6,12]),(16,[0,1,6,12]),(17,[0,1,6]),(18,[])] }
/-! ### wreckage/wreckageref08.Listed -/
noncomputable def Eref08_Listed : Env2 := { tab := tab, fs := [(37, Gref08_Value)], inl := [] }
noncomputable def eref08_Listed_0 (v : Y0 × Int × Int × Y2) : St := { s := [(0, (.val ⟨Z0, v.1⟩)), (1, (.val ⟨Z2, v.2.1⟩)), (5, (.row 0)), (6, (.val ⟨Z2, v.2.2.1⟩))], l := [(0, .row Z3 v.2.2.2)], k := [], b := 4096 }
def href08_Listed_0 (self0 : Y0 × Int × Int × Y2 → Option (Y2)) (v : Y0 × Int × Int × Y2) : Option (Y2) :=
  (bif (decide (v.2.2.1 < v.2.1)) then ((cref08_Value (v.1, v.2.2.1)).bind fun x1 => (bif (Nat.ble 1 1 && Nat.ble (List.length v.2.2.2 + List.length ([x1] : Y2)) lim) then (let x2 : Y2 := (List.append v.2.2.2 ([x1] : Y2)); (let x3 : Int := (IntKind.i64.wrap (v.2.2.1 + (1 : Int))); (self0 (v.1, v.2.1, x3, x2)))) else none)) else (some v.2.2.2))
def gref08_Listed_0 (N : Nat) (self0 : Y0 × Int × Int × Y2 → Option (Y2)) (v : Y0 × Int × Int × Y2) : Option (Y2) := href08_Listed_0 self0 v
theorem kref08_Listed_0 (N : Nat) (s0 : St → Option (Y2)) (v) : (floc (Eref08_Listed) Tref08_Listed 6 N Try.f38 [Z6] [true] [] 0 nowhereR) s0 (eref08_Listed_0 v) = href08_Listed_0 (fun v => s0 (eref08_Listed_0 v)) v := by kernel_rfl
theorem bref08_Listed_0 (N : Nat) (s0 : St → Option (Y2)) (v) : (floc (Eref08_Listed) Tref08_Listed 6 N Try.f38 [Z6] [true] [] 0 nowhereR) s0 (eref08_Listed_0 v) = gref08_Listed_0 N (fun v => s0 (eref08_Listed_0 v)) v := kref08_Listed_0 N s0 v
def nref08_Listed (loop0 : Y0 × Int × Int × Y2 → Option (Y2)) (x : Y0 × Int) : Option (Y2) :=
  (loop0 (x.1, x.2, (0 : Int), ([] : List Int)))
def mref08_Listed (N : Nat) (x : Y0 × Int) : Option (Y2) := nref08_Listed (iterV (gref08_Listed_0 N) N) x
theorem jref08_Listed (N : Nat) (x : Y0 × Int) : rise (Eref08_Listed) Tref08_Listed 6 N Try.f38 [Z0, Z2] [Z6] [true] x = nref08_Listed (fun v => iterR (floc (Eref08_Listed) Tref08_Listed 6 N Try.f38 [Z6] [true] [] 0 nowhereR) N (eref08_Listed_0 v)) x := by kernel_rfl
theorem lref08_Listed (N : Nat) (x : Y0 × Int) : rise (Eref08_Listed) Tref08_Listed 6 N Try.f38 [Z0, Z2] [Z6] [true] x = mref08_Listed N x := (jref08_Listed N x).trans (by rw [funext (iterR_eq eref08_Listed_0 (bref08_Listed_0 N) N)]; rfl)
def cref08_Listed (x : Y0 × Int) : Option (Y2) := mref08_Listed big x
def Gref08_Listed : Fn2 := ⟨[Z0, Z2], [Z6], [true], fun x => cref08_Listed x⟩
theorem Lref08_Listed : Rises Try.prog 38 Gref08_Listed := rises_of (E := Eref08_Listed) ⟨tabOk, (fsCons2 Lref08_Value fsNil2), fun _ _ _ => rfl, mixed, inlNil, rcsNil⟩ Try.func38 rfl (by decide) (by kernel_rfl) (by kernel_rfl) (by kernel_rfl) (by kernel_rfl) (fun x r _ h => ⟨Tref08_Listed, 6, big, (lref08_Listed big x).trans h⟩)

def Tref08_List : LT := { live := [],keep := [(4,[0,1]),(5,[0,1]),(6,[0,1]),(7,[0,1]),(8,[0,1,7]),(9,[0,1]),(10,[0,1,6]),(11,[0,1,6]),(12,[]),(13,[1]),(14,[13]),(15,[])] }
/-! ### wreckage/wreckageref08.List -/
noncomputable def Eref08_List : Env2 := { tab := tab, fs := [(21, Gref08_Check), (38, Gref08_Listed)], inl := [] }
def nref08_List (x : Y0 × Int) : Option (Y2 × Int) :=
  ((cref08_Check (x.1, x.2)).bind fun x1 => (bif (x1 != (0 : Int)) then (some (([] : List Int), x1)) else ((cref08_Listed (x.1, x.2)).bind fun x2 => (some (x2, (0 : Int))))))
def mref08_List (N : Nat) (x : Y0 × Int) : Option (Y2 × Int) := nref08_List x
theorem jref08_List (N : Nat) (x : Y0 × Int) : rise (Eref08_List) Tref08_List 6 N Try.f19 [Z0, Z2] [Z6, Z2] [true, false] x = nref08_List x := by kernel_rfl
theorem lref08_List (N : Nat) (x : Y0 × Int) : rise (Eref08_List) Tref08_List 6 N Try.f19 [Z0, Z2] [Z6, Z2] [true, false] x = mref08_List N x := (jref08_List N x).trans rfl
def cref08_List (x : Y0 × Int) : Option (Y2 × Int) := mref08_List big x
def Gref08_List : Fn2 := ⟨[Z0, Z2], [Z6, Z2], [true, false], fun x => cref08_List x⟩
theorem Lref08_List : Rises Try.prog 19 Gref08_List := rises_of (E := Eref08_List) ⟨tabOk, (fsCons2 Lref08_Check (fsCons2 Lref08_Listed fsNil2)), fun _ _ _ => rfl, mixed, inlNil, rcsNil⟩ Try.func19 rfl (by decide) (by kernel_rfl) (by kernel_rfl) (by kernel_rfl) (by kernel_rfl) (fun x r _ h => ⟨Tref08_List, 6, big, (lref08_List big x).trans h⟩)

def Tref02_Minimal : LT := { live := [(2,[0,3])],keep := [(0,[3]),(2,[0]),(3,[0]),(4,[0,3]),(5,[0,3]),(6,[0]),(7,[0,6]),(8,[0,6]),(9,[0,6]),(10,[0,6]),(11,[0,6]),(12,[0]),(13,[3]),(14,[3]),(15,[0]),(16,[15]),(17,[15]),(18,[15]),(19,[])] }
/-! ### wreckage/wreckageref02.Minimal -/
noncomputable def Eref02_Minimal : Env2 := { tab := tab, fs := [], inl := [] }
noncomputable def eref02_Minimal_0 (v : Int × Y2) : St := { s := [(0, (.val ⟨Z3, v.1⟩)), (3, (.row 0))], l := [(0, .row (.int .u8) v.2)], k := [], b := 4096 }
def href02_Minimal_0 (self0 : Int × Y2 → Option (Y2)) (v : Int × Y2) : Option (Y2) :=
  (bif (decide (v.1 ≥ (128 : Int))) then (let x1 : Int := (IntKind.u8.wrap (v.1.tmod (128 : Int))); (let x2 : Int := (IntKind.u8.wrap (x1 + (128 : Int))); (bif (Nat.ble 1 1 && Nat.ble (List.length v.2 + List.length ([x2] : Y2)) lim) then (let x3 : Y2 := (List.append v.2 ([x2] : Y2)); (let x4 : Int := (IntKind.u64.wrap (v.1.tdiv (128 : Int))); (self0 (x4, x3)))) else none))) else (let x5 : Y2 := ([(IntKind.u8.wrap v.1)] : Y2); (bif (Nat.ble 1 1 && Nat.ble (List.length v.2 + List.length x5) lim) then (some (List.append v.2 x5)) else none)))
def gref02_Minimal_0 (N : Nat) (self0 : Int × Y2 → Option (Y2)) (v : Int × Y2) : Option (Y2) := href02_Minimal_0 self0 v
theorem kref02_Minimal_0 (N : Nat) (s0 : St → Option (Y2)) (v) : (floc (Eref02_Minimal) Tref02_Minimal 6 N Try.f50 [Z4] [true] [] 0 nowhereR) s0 (eref02_Minimal_0 v) = href02_Minimal_0 (fun v => s0 (eref02_Minimal_0 v)) v := by kernel_rfl
theorem bref02_Minimal_0 (N : Nat) (s0 : St → Option (Y2)) (v) : (floc (Eref02_Minimal) Tref02_Minimal 6 N Try.f50 [Z4] [true] [] 0 nowhereR) s0 (eref02_Minimal_0 v) = gref02_Minimal_0 N (fun v => s0 (eref02_Minimal_0 v)) v := kref02_Minimal_0 N s0 v
def nref02_Minimal (loop0 : Int × Y2 → Option (Y2)) (x : Int) : Option (Y2) :=
  (loop0 (x, ([] : List Int)))
def mref02_Minimal (N : Nat) (x : Int) : Option (Y2) := nref02_Minimal (iterV (gref02_Minimal_0 N) N) x
theorem jref02_Minimal (N : Nat) (x : Int) : rise (Eref02_Minimal) Tref02_Minimal 6 N Try.f50 [Z3] [Z4] [true] x = nref02_Minimal (fun v => iterR (floc (Eref02_Minimal) Tref02_Minimal 6 N Try.f50 [Z4] [true] [] 0 nowhereR) N (eref02_Minimal_0 v)) x := by kernel_rfl
theorem lref02_Minimal (N : Nat) (x : Int) : rise (Eref02_Minimal) Tref02_Minimal 6 N Try.f50 [Z3] [Z4] [true] x = mref02_Minimal N x := (jref02_Minimal N x).trans (by rw [funext (iterR_eq eref02_Minimal_0 (bref02_Minimal_0 N) N)]; rfl)
def cref02_Minimal (x : Int) : Option (Y2) := mref02_Minimal big x
def Gref02_Minimal : Fn2 := ⟨[Z3], [Z4], [true], fun x => cref02_Minimal x⟩
theorem Lref02_Minimal : Rises Try.prog 50 Gref02_Minimal := rises_of (E := Eref02_Minimal) ⟨tabOk, fsNil2, fun _ _ _ => rfl, mixed, inlNil, rcsNil⟩ Try.func50 rfl (by decide) (by kernel_rfl) (by kernel_rfl) (by kernel_rfl) (by kernel_rfl) (fun x r _ h => ⟨Tref02_Minimal, 6, big, (lref02_Minimal big x).trans h⟩)

def Tref08_Coded : LT := { live := [(4,[0,3,4,5])],keep := [(2,[0]),(3,[0]),(4,[0,3]),(5,[0,3,4]),(6,[0]),(7,[0]),(8,[0]),(9,[0]),(10,[0,3,4,5]),(11,[0,3,4,5,10]),(12,[0,3,4,5,10]),(13,[0,3,4,5]),(14,[0,3,4]),(15,[0,3,4]),(16,[0,4,5]),(17,[0,4,5,16]),(18,[0,4,5,16,17]),(19,[0,4,5,16]),(20,[0,4,5,16]),(21,[0,4,5,16]),(22,[0,5,16,21]),(23,[0,5,16]),(24,[0,5,16]),(25,[0,5,16]),(26,[0,5]),(27,[0,5]),(28,[0,5,27]),(29,[0,5,27,28]),(30,[0,5,27]),(31,[0,5,27]),(32,[0,5,27]),(33,[0,5,27]),(34,[0,5]),(35,[0,3,5]),(36,[0,3,5,35]),(37,[0,3,5]),(38,[0,3,5]),(39,[0,3,5]),(40,[])] }
/-! ### wreckage/wreckageref08.Coded -/
noncomputable def Eref08_Coded : Env2 := { tab := tab, fs := [(50, Gref02_Minimal)], inl := [] }
noncomputable def eref08_Coded_0 (v : Y0 × Int × Int × Y2) : St := { s := [(0, (.val ⟨Z0, v.1⟩)), (3, (.row 0)), (4, (.val ⟨Z2, v.2.1⟩)), (5, (.val ⟨Z2, v.2.2.1⟩))], l := [(0, .row (.int .u8) v.2.2.2)], k := [], b := 4096 }
def href08_Coded_0 (self0 : Y0 × Int × Int × Y2 → Option (Y2)) (v : Y0 × Int × Int × Y2) : Option (Y2) :=
  (bif (decide (v.2.2.1 < (List.length v.1 : Int))) then ((getI v.1 v.2.2.1).bind fun x3 => (let x4 : Int := (IntKind.i64.wrap (x3.1 - v.2.1)); ((cref02_Minimal (IntKind.u64.wrap x4)).bind fun x5 => (bif (Nat.ble 1 1 && Nat.ble (List.length v.2.2.2 + List.length x5) lim) then ((getI v.1 v.2.2.1).bind fun x6 => ((cref02_Minimal x6.2.1).bind fun x7 => (bif (Nat.ble 1 1 && Nat.ble (List.length (List.append v.2.2.2 x5) + List.length x7) lim) then (let x8 : Y2 := (List.append (List.append v.2.2.2 x5) x7); ((getI v.1 v.2.2.1).bind fun x9 => (let x10 : Int := (IntKind.i64.wrap (v.2.2.1 + (1 : Int))); (self0 (v.1, x9.1, x10, x8))))) else none))) else none)))) else (some v.2.2.2))
def gref08_Coded_0 (N : Nat) (self0 : Y0 × Int × Int × Y2 → Option (Y2)) (v : Y0 × Int × Int × Y2) : Option (Y2) := href08_Coded_0 self0 v
theorem kref08_Coded_0 (N : Nat) (s0 : St → Option (Y2)) (v) : (floc (Eref08_Coded) Tref08_Coded 6 N Try.f39 [Z4] [true] [] 0 nowhereR) s0 (eref08_Coded_0 v) = href08_Coded_0 (fun v => s0 (eref08_Coded_0 v)) v := by kernel_rfl
theorem bref08_Coded_0 (N : Nat) (s0 : St → Option (Y2)) (v) : (floc (Eref08_Coded) Tref08_Coded 6 N Try.f39 [Z4] [true] [] 0 nowhereR) s0 (eref08_Coded_0 v) = gref08_Coded_0 N (fun v => s0 (eref08_Coded_0 v)) v := kref08_Coded_0 N s0 v
def nref08_Coded (loop0 : Y0 × Int × Int × Y2 → Option (Y2)) (x : Y0) : Option (Y2) :=
  (let x1 : Int := (IntKind.u64.wrap (List.length x : Int)); ((cref02_Minimal x1).bind fun x2 => (loop0 (x, (0 : Int), (0 : Int), x2))))
def mref08_Coded (N : Nat) (x : Y0) : Option (Y2) := nref08_Coded (iterV (gref08_Coded_0 N) N) x
theorem jref08_Coded (N : Nat) (x : Y0) : rise (Eref08_Coded) Tref08_Coded 6 N Try.f39 [Z0] [Z4] [true] x = nref08_Coded (fun v => iterR (floc (Eref08_Coded) Tref08_Coded 6 N Try.f39 [Z4] [true] [] 0 nowhereR) N (eref08_Coded_0 v)) x := by kernel_rfl
theorem lref08_Coded (N : Nat) (x : Y0) : rise (Eref08_Coded) Tref08_Coded 6 N Try.f39 [Z0] [Z4] [true] x = mref08_Coded N x := (jref08_Coded N x).trans (by rw [funext (iterR_eq eref08_Coded_0 (bref08_Coded_0 N) N)]; rfl)
def cref08_Coded (x : Y0) : Option (Y2) := mref08_Coded big x
def Gref08_Coded : Fn2 := ⟨[Z0], [Z4], [true], fun x => cref08_Coded x⟩
theorem Lref08_Coded : Rises Try.prog 39 Gref08_Coded := rises_of (E := Eref08_Coded) ⟨tabOk, (fsCons2 Lref02_Minimal fsNil2), fun _ _ _ => rfl, mixed, inlNil, rcsNil⟩ Try.func39 rfl (by decide) (by kernel_rfl) (by kernel_rfl) (by kernel_rfl) (by kernel_rfl) (fun x r _ h => ⟨Tref08_Coded, 6, big, (lref08_Coded big x).trans h⟩)

def Tref08_Encode : LT := { live := [],keep := [(4,[0,1]),(5,[0,1]),(6,[0]),(7,[0,1]),(8,[0,7]),(9,[0]),(10,[0,6]),(11,[0,6]),(12,[]),(13,[]),(14,[])] }
/-! ### wreckage/wreckageref08.Encode -/
noncomputable def Eref08_Encode : Env2 := { tab := tab, fs := [(21, Gref08_Check), (39, Gref08_Coded)], inl := [] }
def nref08_Encode (x : Y0 × Int) : Option (Y2 × Int) :=
  ((cref08_Check (x.1, x.2)).bind fun x1 => (bif (x1 != (0 : Int)) then (some (([] : List Int), x1)) else ((cref08_Coded x.1).bind fun x2 => (some (x2, (0 : Int))))))
def mref08_Encode (N : Nat) (x : Y0 × Int) : Option (Y2 × Int) := nref08_Encode x
theorem jref08_Encode (N : Nat) (x : Y0 × Int) : rise (Eref08_Encode) Tref08_Encode 6 N Try.f20 [Z0, Z2] [Z4, Z2] [true, false] x = nref08_Encode x := by kernel_rfl
theorem lref08_Encode (N : Nat) (x : Y0 × Int) : rise (Eref08_Encode) Tref08_Encode 6 N Try.f20 [Z0, Z2] [Z4, Z2] [true, false] x = mref08_Encode N x := (jref08_Encode N x).trans rfl
def cref08_Encode (x : Y0 × Int) : Option (Y2 × Int) := mref08_Encode big x
def Gref08_Encode : Fn2 := ⟨[Z0, Z2], [Z4, Z2], [true, false], fun x => cref08_Encode x⟩
theorem Lref08_Encode : Rises Try.prog 20 Gref08_Encode := rises_of (E := Eref08_Encode) ⟨tabOk, (fsCons2 Lref08_Check (fsCons2 Lref08_Coded fsNil2)), fun _ _ _ => rfl, mixed, inlNil, rcsNil⟩ Try.func20 rfl (by decide) (by kernel_rfl) (by kernel_rfl) (by kernel_rfl) (by kernel_rfl) (fun x r _ h => ⟨Tref08_Encode, 6, big, (lref08_Encode big x).trans h⟩)

def Tref08_SameValues : LT := { live := [(4,[0,1,5])],keep := [(4,[0,1]),(5,[0,1]),(6,[0,1]),(7,[0,1]),(8,[0,1,7]),(9,[0,1,7]),(10,[0,1]),(11,[0,1,5]),(12,[0,1,5,11]),(13,[0,1,5,11]),(14,[0,1,5]),(15,[0,1]),(16,[0,1]),(17,[0,1,5]),(18,[0,1,5,17]),(19,[0,1,5]),(20,[0,1,5]),(21,[0,1,5,20]),(22,[0,1,5,20,21]),(23,[0,1,5,20]),(24,[0,1,5,20]),(25,[0,1,5])] }
/-! ### wreckage/wreckageref08.SameValues -/
noncomputable def Eref08_SameValues : Env2 := { tab := tab, fs := [], inl := [] }
noncomputable def eref08_SameValues_0 (v : Y2 × Y2 × Int) : St := { s := [(0, (.val ⟨Z6, v.1⟩)), (1, (.val ⟨Z6, v.2.1⟩)), (5, (.val ⟨Z2, v.2.2⟩))], l := [], k := [], b := 4096 }
def href08_SameValues_0 (self0 : Y2 × Y2 × Int → Option (Bool)) (v : Y2 × Y2 × Int) : Option (Bool) :=
  (bif (decide (v.2.2 < (List.length v.1 : Int))) then ((getI v.1 v.2.2).bind fun x1 => ((getI v.2.1 v.2.2).bind fun x2 => (bif (x1 != x2) then (some false) else (let x3 : Int := (IntKind.i64.wrap (v.2.2 + (1 : Int))); (self0 (v.1, v.2.1, x3)))))) else (some true))
def gref08_SameValues_0 (N : Nat) (self0 : Y2 × Y2 × Int → Option (Bool)) (v : Y2 × Y2 × Int) : Option (Bool) := href08_SameValues_0 self0 v
theorem kref08_SameValues_0 (N : Nat) (s0 : St → Option (Bool)) (v) : (floc (Eref08_SameValues) Tref08_SameValues 6 N Try.f22 [.bool] [false] [] 0 nowhereR) s0 (eref08_SameValues_0 v) = href08_SameValues_0 (fun v => s0 (eref08_SameValues_0 v)) v := by kernel_rfl
theorem bref08_SameValues_0 (N : Nat) (s0 : St → Option (Bool)) (v) : (floc (Eref08_SameValues) Tref08_SameValues 6 N Try.f22 [.bool] [false] [] 0 nowhereR) s0 (eref08_SameValues_0 v) = gref08_SameValues_0 N (fun v => s0 (eref08_SameValues_0 v)) v := kref08_SameValues_0 N s0 v
def nref08_SameValues (loop0 : Y2 × Y2 × Int → Option (Bool)) (x : Y2 × Y2) : Option (Bool) :=
  (bif ((List.length x.1 : Int) != (List.length x.2 : Int)) then (some false) else (loop0 (x.1, x.2, (0 : Int))))
def mref08_SameValues (N : Nat) (x : Y2 × Y2) : Option (Bool) := nref08_SameValues (iterV (gref08_SameValues_0 N) N) x
theorem jref08_SameValues (N : Nat) (x : Y2 × Y2) : rise (Eref08_SameValues) Tref08_SameValues 6 N Try.f22 [Z6, Z6] [.bool] [false] x = nref08_SameValues (fun v => iterR (floc (Eref08_SameValues) Tref08_SameValues 6 N Try.f22 [.bool] [false] [] 0 nowhereR) N (eref08_SameValues_0 v)) x := by kernel_rfl
theorem lref08_SameValues (N : Nat) (x : Y2 × Y2) : rise (Eref08_SameValues) Tref08_SameValues 6 N Try.f22 [Z6, Z6] [.bool] [false] x = mref08_SameValues N x := (jref08_SameValues N x).trans (by rw [funext (iterR_eq eref08_SameValues_0 (bref08_SameValues_0 N) N)]; rfl)
def cref08_SameValues (x : Y2 × Y2) : Option (Bool) := mref08_SameValues big x
def Gref08_SameValues : Fn2 := ⟨[Z6, Z6], [.bool], [false], fun x => cref08_SameValues x⟩
theorem Lref08_SameValues : Rises Try.prog 22 Gref08_SameValues := rises_of (E := Eref08_SameValues) ⟨tabOk, fsNil2, fun _ _ _ => rfl, mixed, inlNil, rcsNil⟩ Try.func22 rfl (by decide) (by kernel_rfl) (by kernel_rfl) (by kernel_rfl) (by kernel_rfl) (fun x r _ h => ⟨Tref08_SameValues, 6, big, (lref08_SameValues big x).trans h⟩)

def Tref08_Made : LT := { live := [(3,[0,3,4])],keep := [(2,[0]),(3,[0]),(4,[0,3]),(5,[0,3,4]),(6,[0,3,4,5]),(7,[0,3,4,5]),(8,[0,3,4]),(9,[0,3]),(10,[0,3]),(11,[0,3,4]),(12,[0,3,4]),(13,[0,3,4]),(14,[0,3,4,13]),(15,[0,3,4,13,14]),(16,[0,3,4,13]),(17,[0,3,4,13]),(18,[0,3,4,13,17]),(19,[0,3,4,13,17,18]),(20,[0,3,4,13,17,18]),(21,[0,3,4,13,17]),(22,[0,3,4,13,17]),(23,[0,3,4,13]),(24,[0,3,4]),(25,[0,4]),(26,[0,4,25]),(27,[0,4,25,26]),(28,[0,4,25,26,27]),(29,[0,4,25,26]),(30,[0,4,25,26]),(31,[0,4,25]),(32,[0,4,25]),(33,[0,4]),(34,[])] }
/-! ### wreckage/wreckageref08.Made -/
noncomputable def Eref08_Made : Env2 := { tab := tab, fs := [], inl := [] }
noncomputable def eref08_Made_0 (v : Y2 × Int × Y0) : St := { s := [(0, (.val ⟨Z6, v.1⟩)), (3, (.row 0)), (4, (.val ⟨Z2, v.2.1⟩))], l := [(0, .row Z5 v.2.2)], k := [], b := 4096 }
def href08_Made_0 (self0 : Y2 × Int × Y0 → Option (Y0)) (v : Y2 × Int × Y0) : Option (Y0) :=
  (bif (decide (v.2.1 < (List.length v.1 : Int))) then (bif (v.2.1 == (0 : Int)) then ((getI v.1 v.2.1).bind fun x1 => (let x2 : Y0 := ([(v.2.1, (x1, ()))] : Y0); (bif (Nat.ble 1 2 && Nat.ble (List.length v.2.2 + List.length x2) lim) then (let x3 : Int := (IntKind.i64.wrap (v.2.1 + (1 : Int))); (self0 (v.1, x3, (List.append v.2.2 x2)))) else none))) else ((getI v.1 v.2.1).bind fun x4 => (let x5 : Int := (IntKind.i64.wrap (v.2.1 - (1 : Int))); ((getI v.1 x5).bind fun x6 => (bif (x4 != x6) then ((getI v.1 v.2.1).bind fun x7 => (let x8 : Y0 := ([(v.2.1, (x7, ()))] : Y0); (bif (Nat.ble 1 2 && Nat.ble (List.length v.2.2 + List.length x8) lim) then (let x9 : Int := (IntKind.i64.wrap (v.2.1 + (1 : Int))); (self0 (v.1, x9, (List.append v.2.2 x8)))) else none))) else (let x10 : Int := (IntKind.i64.wrap (v.2.1 + (1 : Int))); (self0 (v.1, x10, v.2.2)))))))) else (some v.2.2))
def gref08_Made_0 (N : Nat) (self0 : Y2 × Int × Y0 → Option (Y0)) (v : Y2 × Int × Y0) : Option (Y0) := href08_Made_0 self0 v
theorem kref08_Made_0 (N : Nat) (s0 : St → Option (Y0)) (v) : (floc (Eref08_Made) Tref08_Made 6 N Try.f41 [Z0] [true] [] 0 nowhereR) s0 (eref08_Made_0 v) = href08_Made_0 (fun v => s0 (eref08_Made_0 v)) v := by kernel_rfl
theorem bref08_Made_0 (N : Nat) (s0 : St → Option (Y0)) (v) : (floc (Eref08_Made) Tref08_Made 6 N Try.f41 [Z0] [true] [] 0 nowhereR) s0 (eref08_Made_0 v) = gref08_Made_0 N (fun v => s0 (eref08_Made_0 v)) v := kref08_Made_0 N s0 v
def nref08_Made (loop0 : Y2 × Int × Y0 → Option (Y0)) (x : Y2) : Option (Y0) :=
  (loop0 (x, (0 : Int), ([] : List Y3)))
def mref08_Made (N : Nat) (x : Y2) : Option (Y0) := nref08_Made (iterV (gref08_Made_0 N) N) x
theorem jref08_Made (N : Nat) (x : Y2) : rise (Eref08_Made) Tref08_Made 6 N Try.f41 [Z6] [Z0] [true] x = nref08_Made (fun v => iterR (floc (Eref08_Made) Tref08_Made 6 N Try.f41 [Z0] [true] [] 0 nowhereR) N (eref08_Made_0 v)) x := by kernel_rfl
theorem lref08_Made (N : Nat) (x : Y2) : rise (Eref08_Made) Tref08_Made 6 N Try.f41 [Z6] [Z0] [true] x = mref08_Made N x := (jref08_Made N x).trans (by rw [funext (iterR_eq eref08_Made_0 (bref08_Made_0 N) N)]; rfl)
def cref08_Made (x : Y2) : Option (Y0) := mref08_Made big x
def Gref08_Made : Fn2 := ⟨[Z6], [Z0], [true], fun x => cref08_Made x⟩
theorem Lref08_Made : Rises Try.prog 41 Gref08_Made := rises_of (E := Eref08_Made) ⟨tabOk, fsNil2, fun _ _ _ => rfl, mixed, inlNil, rcsNil⟩ Try.func41 rfl (by decide) (by kernel_rfl) (by kernel_rfl) (by kernel_rfl) (by kernel_rfl) (fun x r _ h => ⟨Tref08_Made, 6, big, (lref08_Made big x).trans h⟩)

def Tref08_Make : LT := { live := [],keep := [(2,[0]),(3,[0]),(4,[0]),(5,[0]),(6,[0]),(7,[0]),(8,[0,7]),(9,[0,7]),(10,[0,7]),(11,[0]),(12,[]),(13,[])] }
/-! ### wreckage/wreckageref08.Make -/
noncomputable def Eref08_Make : Env2 := { tab := tab, fs := [(41, Gref08_Made)], inl := [] }
def nref08_Make (x : Y2) : Option (Y0 × Int) :=
  (bif (decide ((List.length x : Int) < (1 : Int))) then (some (([] : List Y3), (2 : Int))) else (bif (decide ((List.length x : Int) > (200 : Int))) then (some (([] : List Y3), (2 : Int))) else ((cref08_Made x).bind fun x1 => (some (x1, (0 : Int))))))
def mref08_Make (N : Nat) (x : Y2) : Option (Y0 × Int) := nref08_Make x
theorem jref08_Make (N : Nat) (x : Y2) : rise (Eref08_Make) Tref08_Make 6 N Try.f24 [Z6] [Z0, Z2] [true, false] x = nref08_Make x := by kernel_rfl
theorem lref08_Make (N : Nat) (x : Y2) : rise (Eref08_Make) Tref08_Make 6 N Try.f24 [Z6] [Z0, Z2] [true, false] x = mref08_Make N x := (jref08_Make N x).trans rfl
def cref08_Make (x : Y2) : Option (Y0 × Int) := mref08_Make big x
def Gref08_Make : Fn2 := ⟨[Z6], [Z0, Z2], [true, false], fun x => cref08_Make x⟩
theorem Lref08_Make : Rises Try.prog 24 Gref08_Make := rises_of (E := Eref08_Make) ⟨tabOk, (fsCons2 Lref08_Made fsNil2), fun _ _ _ => rfl, mixed, inlNil, rcsNil⟩ Try.func24 rfl (by decide) (by kernel_rfl) (by kernel_rfl) (by kernel_rfl) (by kernel_rfl) (fun x r _ h => ⟨Tref08_Make, 6, big, (lref08_Make big x).trans h⟩)

def Tref02_Check : LT := { live := [],keep := [(1,[]),(2,[1]),(3,[1]),(4,[1]),(5,[1]),(6,[1]),(7,[1]),(8,[1,7]),(9,[1,7]),(10,[1,7]),(11,[1]),(12,[1]),(13,[1,12]),(14,[1,12]),(15,[12,14]),(16,[12,14]),(17,[12,14]),(18,[12]),(19,[])] }
/-! ### wreckage/wreckageref02.Check -/
noncomputable def Eref02_Check : Env2 := { tab := tab, fs := [], inl := [] }
def nref02_Check (x : Y1) : Option (Int) :=
  (bif (decide ((List.length x.1 : Int) > (200000 : Int))) then (some (8 : Int)) else (bif (decide (x.2.1 < (0 : Int))) then (some (8 : Int)) else (bif (decide (x.2.1 > (List.length x.1 : Int))) then (some (8 : Int)) else (some (0 : Int)))))
def mref02_Check (N : Nat) (x : Y1) : Option (Int) := nref02_Check x
theorem jref02_Check (N : Nat) (x : Y1) : rise (Eref02_Check) Tref02_Check 6 N Try.f42 [Z1] [Z2] [false] x = nref02_Check x := by kernel_rfl
theorem lref02_Check (N : Nat) (x : Y1) : rise (Eref02_Check) Tref02_Check 6 N Try.f42 [Z1] [Z2] [false] x = mref02_Check N x := (jref02_Check N x).trans rfl
def cref02_Check (x : Y1) : Option (Int) := mref02_Check big x
def Gref02_Check : Fn2 := ⟨[Z1], [Z2], [false], fun x => cref02_Check x⟩
theorem Lref02_Check : Rises Try.prog 42 Gref02_Check := rises_of (E := Eref02_Check) ⟨tabOk, fsNil2, fun _ _ _ => rfl, mixed, inlNil, rcsNil⟩ Try.func42 rfl (by decide) (by kernel_rfl) (by kernel_rfl) (by kernel_rfl) (by kernel_rfl) (fun x r _ h => ⟨Tref02_Check, 6, big, (lref02_Check big x).trans h⟩)

def Tref02_on : LT := { live := [],keep := [(2,[1]),(4,[1,2]),(5,[1,2,4]),(6,[1,2,4]),(7,[1,4,6]),(8,[1,4,6]),(9,[4,6,8]),(10,[4,6]),(11,[4])] }
/-! ### wreckage/wreckageref02.on -/
noncomputable def Eref02_on : Env2 := { tab := tab, fs := [], inl := [] }
def nref02_on (x : Y1 × Int) : Option (Y1) :=
  (let x1 : Int := (IntKind.i64.wrap (x.1.2.1 + x.2)); (some (x.1.1, (x1, ()))))
def mref02_on (N : Nat) (x : Y1 × Int) : Option (Y1) := nref02_on x
theorem jref02_on (N : Nat) (x : Y1 × Int) : rise (Eref02_on) Tref02_on 6 N Try.f53 [Z1, Z2] [Z1] [false] x = nref02_on x := by kernel_rfl
theorem lref02_on (N : Nat) (x : Y1 × Int) : rise (Eref02_on) Tref02_on 6 N Try.f53 [Z1, Z2] [Z1] [false] x = mref02_on N x := (jref02_on N x).trans rfl
def cref02_on (x : Y1 × Int) : Option (Y1) := mref02_on big x
def Gref02_on : Fn2 := ⟨[Z1, Z2], [Z1], [false], fun x => cref02_on x⟩
theorem Lref02_on : Rises Try.prog 53 Gref02_on := rises_of (E := Eref02_on) ⟨tabOk, fsNil2, fun _ _ _ => rfl, mixed, inlNil, rcsNil⟩ Try.func53 rfl (by decide) (by kernel_rfl) (by kernel_rfl) (by kernel_rfl) (by kernel_rfl) (fun x r _ h => ⟨Tref02_on, 6, big, (lref02_on big x).trans h⟩)

def Tref02_Read : LT := { live := [(3,[1,2,5,6,7])],keep := [(1,[]),(2,[1]),(3,[1,2]),(4,[1,2]),(5,[1,2]),(6,[1,2,5]),(7,[1,2,5,6]),(8,[1,2,5,6,7]),(9,[1,2,5,6,7]),(10,[1,2,5,6,7]),(11,[1,2,5,6]),(12,[1,2,5,6]),(13,[1,2,5,6,7]),(14,[1,2,5,6,7]),(15,[1,2,5,6,7,14]),(16,[1,2,5,6,7]),(17,[1,2,5,6,7,16]),(18,[1,2,5,6,7,16]),(19,[1,2,5,6,7,16]),(20,[1,2,5,6,7]),(21,[2]),(22,[1,2,5,6,7]),(23,[1,2,5,6,7]),(24,[1,2,5,6,7,23]),(25,[1,2,5,6,7,23]),(26,[1,2,5,6,7,23,25]),(27,[1,2,5,6,7,23]),(28,[1,2,5,6,7]),(29,[1,2,5,6,7]),(30,[1,2,5,6,7,8]),(31,[1,2,5,6,7,8]),(32,[1,2,5,6,7,8]),(33,[1,2,5,6,7,8,32]),(34,[1,2,5,6,7,8,32]),(35,[1,2,5,6,7,8]),(36,[2]),(37,[1,2,6,7,8]),(38,[1,2,6,7,8,37]),(39,[1,2,6,7,8,37,38]),(40,[1,2,6,7,8,37,38]),(41,[1,2,6,7,8,37,38]),(42,[1,2,6,7,8,37]),(43,[1,2,6,7,8]),(44,[1,2,5,7,8]),(45,[1,2,5,7,8]),(46,[1,2,5,6,7,8]),(47,[1,2,5,6,7,8]),(48,[1,2,5,7]),(49,[1,2,5,7]),(50,[1,2,5,7]),(51,[1,2,5,7,50]),(52,[1,2,5,7,50]),(53,[1,2,5,7]),(54,[2]),(55,[2,5,7]),(56,[2,5,55]),(57,[2,5,55]),(58,[2,5]),(59,[2,58]),(60,[2])] }
/-! ### wreckage/wreckageref02.Read -/
noncomputable def Eref02_Read : Env2 := { tab := tab, fs := [(53, Gref02_on)], inl := [] }
noncomputable def eref02_Read_0 (v : Int × Int × Int × Y1 × (Int × Unit) × Y2) : St := { s := [(1, (.loc 0 [])), (2, (.loc 1 [])), (5, (.val ⟨Z3, v.1⟩)), (6, (.val ⟨Z3, v.2.1⟩)), (7, (.val ⟨Z2, v.2.2.1⟩))], l := [(0, .var Z1 (.val ⟨Z1, v.2.2.2.1⟩)), (1, .var Z1 (.pair (.row 2) (.val ⟨(.pair Z2 .unit), v.2.2.2.2.1⟩))), (2, .row (.int .u8) v.2.2.2.2.2)], k := [], b := 4096 }
def href02_Read_0 (self0 : Int × Int × Int × Y1 × (Int × Unit) × Y2 → Option (Y1 × Int × Int)) (v : Int × Int × Int × Y1 × (Int × Unit) × Y2) : Option (Y1 × Int × Int) :=
  (bif (decide (v.2.2.1 < (10 : Int))) then (let x1 : Int := (IntKind.i64.wrap (v.2.2.2.1.2.1 + v.2.2.1)); (bif (decide (x1 ≥ (List.length v.2.2.2.1.1 : Int))) then (let x2 : Y1 := (([] : Y2), ((0 : Int), ())); (some (x2, (0 : Int), (24 : Int)))) else (let x3 : Int := (IntKind.i64.wrap (v.2.2.2.1.2.1 + v.2.2.1)); ((getI v.2.2.2.1.1 x3).bind fun x4 => (bif (v.2.2.1 == (9 : Int)) then (bif (decide (x4 > (1 : Int))) then (let x5 : Y1 := (([] : Y2), ((0 : Int), ())); (some (x5, (0 : Int), (12 : Int)))) else (let x6 : Int := (IntKind.u64.wrap (x4.tmod (128 : Int))); (let x7 : Int := (IntKind.u64.wrap (v.2.1 * x6)); (let x8 : Int := (IntKind.u64.wrap (v.1 + x7)); (let x9 : Int := (IntKind.u64.wrap (v.2.1 * (128 : Int))); (bif (decide (x4 < (128 : Int))) then (bif (x4 == (0 : Int)) then (bif (decide (v.2.2.1 > (0 : Int))) then (let x10 : Y1 := (([] : Y2), ((0 : Int), ())); (some (x10, (0 : Int), (12 : Int)))) else (let x11 : Int := (IntKind.i64.wrap (v.2.2.1 + (1 : Int))); ((cref02_on (v.2.2.2.1, x11)).bind fun x12 => (some (x12, x8, (0 : Int)))))) else (let x13 : Int := (IntKind.i64.wrap (v.2.2.1 + (1 : Int))); ((cref02_on (v.2.2.2.1, x13)).bind fun x14 => (some (x14, x8, (0 : Int)))))) else (let x15 : Int := (IntKind.i64.wrap (v.2.2.1 + (1 : Int))); (self0 (x8, x9, x15, v.2.2.2.1, v.2.2.2.2.1, v.2.2.2.2.2))))))))) else (let x16 : Int := (IntKind.u64.wrap (x4.tmod (128 : Int))); (let x17 : Int := (IntKind.u64.wrap (v.2.1 * x16)); (let x18 : Int := (IntKind.u64.wrap (v.1 + x17)); (let x19 : Int := (IntKind.u64.wrap (v.2.1 * (128 : Int))); (bif (decide (x4 < (128 : Int))) then (bif (x4 == (0 : Int)) then (bif (decide (v.2.2.1 > (0 : Int))) then (let x20 : Y1 := (([] : Y2), ((0 : Int), ())); (some (x20, (0 : Int), (12 : Int)))) else (let x21 : Int := (IntKind.i64.wrap (v.2.2.1 + (1 : Int))); ((cref02_on (v.2.2.2.1, x21)).bind fun x22 => (some (x22, x18, (0 : Int)))))) else (let x23 : Int := (IntKind.i64.wrap (v.2.2.1 + (1 : Int))); ((cref02_on (v.2.2.2.1, x23)).bind fun x24 => (some (x24, x18, (0 : Int)))))) else (let x25 : Int := (IntKind.i64.wrap (v.2.2.1 + (1 : Int))); (self0 (x18, x19, x25, v.2.2.2.1, v.2.2.2.2.1, v.2.2.2.2.2))))))))))))) else (let x26 : Y1 := (([] : Y2), ((0 : Int), ())); (some (x26, (0 : Int), (12 : Int)))))
def gref02_Read_0 (N : Nat) (self0 : Int × Int × Int × Y1 × (Int × Unit) × Y2 → Option (Y1 × Int × Int)) (v : Int × Int × Int × Y1 × (Int × Unit) × Y2) : Option (Y1 × Int × Int) := href02_Read_0 self0 v
theorem kref02_Read_0 (N : Nat) (s0 : St → Option (Y1 × Int × Int)) (v) : (floc (Eref02_Read) Tref02_Read 6 N Try.f51 [Z1, Z3, Z2] [false, false, false] [] 0 nowhereR) s0 (eref02_Read_0 v) = href02_Read_0 (fun v => s0 (eref02_Read_0 v)) v := by kernel_rfl
theorem bref02_Read_0 (N : Nat) (s0 : St → Option (Y1 × Int × Int)) (v) : (floc (Eref02_Read) Tref02_Read 6 N Try.f51 [Z1, Z3, Z2] [false, false, false] [] 0 nowhereR) s0 (eref02_Read_0 v) = gref02_Read_0 N (fun v => s0 (eref02_Read_0 v)) v := kref02_Read_0 N s0 v
def nref02_Read (loop0 : Int × Int × Int × Y1 × (Int × Unit) × Y2 → Option (Y1 × Int × Int)) (x : Y1) : Option (Y1 × Int × Int) :=
  (loop0 ((0 : Int), (1 : Int), (0 : Int), x, ((0 : Int), ()), ([] : List Int)))
def mref02_Read (N : Nat) (x : Y1) : Option (Y1 × Int × Int) := nref02_Read (iterV (gref02_Read_0 N) N) x
theorem jref02_Read (N : Nat) (x : Y1) : rise (Eref02_Read) Tref02_Read 6 N Try.f51 [Z1] [Z1, Z3, Z2] [false, false, false] x = nref02_Read (fun v => iterR (floc (Eref02_Read) Tref02_Read 6 N Try.f51 [Z1, Z3, Z2] [false, false, false] [] 0 nowhereR) N (eref02_Read_0 v)) x := by kernel_rfl
theorem lref02_Read (N : Nat) (x : Y1) : rise (Eref02_Read) Tref02_Read 6 N Try.f51 [Z1] [Z1, Z3, Z2] [false, false, false] x = mref02_Read N x := (jref02_Read N x).trans (by rw [funext (iterR_eq eref02_Read_0 (bref02_Read_0 N) N)]; rfl)
def cref02_Read (x : Y1) : Option (Y1 × Int × Int) := mref02_Read big x
def Gref02_Read : Fn2 := ⟨[Z1], [Z1, Z3, Z2], [false, false, false], fun x => cref02_Read x⟩
theorem Lref02_Read : Rises Try.prog 51 Gref02_Read := rises_of (E := Eref02_Read) ⟨tabOk, (fsCons2 Lref02_on fsNil2), fun _ _ _ => rfl, mixed, inlNil, rcsNil⟩ Try.func51 rfl (by decide) (by kernel_rfl) (by kernel_rfl) (by kernel_rfl) (by kernel_rfl) (fun x r _ h => ⟨Tref02_Read, 6, big, (lref02_Read big x).trans h⟩)

def Tref08_Read : LT := { live := [(9,[1,4,7,8,10,11,12])],keep := [(2,[1]),(4,[1,2]),(5,[1,2,4]),(6,[1,2,4]),(7,[1,4,22,23,24]),(8,[1,4,7,24]),(9,[1,4,7,8]),(10,[1,4,7,8]),(11,[1,4,7,8,10]),(12,[1,4,7,8,10,11]),(13,[1,4,7,8,10,11,12,45,46,47]),(14,[1,4,7,8,10,11,12,13,47]),(15,[1,4,7,8,10,11,12,13,14]),(16,[1,4,7,8,10,11,12,14,55,56,57]),(17,[1,4,7,8,10,11,12,14,16,57]),(18,[1,4,7,8,10,11,12,14,16,17]),(19,[1,4]),(20,[1,4]),(21,[1,4]),(22,[1,4,19]),(23,[1,4,19,22]),(24,[1,4,22,23]),(25,[1,4,7,8,9]),(26,[1,4,7,8,9]),(27,[1,4,7,8,9]),(28,[1,4,7,8,9,27]),(29,[1,4,7,8,9,27,28]),(30,[1,4,7,8,9,27,28]),(31,[1,4,7,8,9,27]),(32,[1,4,7,8,9]),(33,[1,4,7,8,9]),(34,[1,4,7,8,9]),(35,[4,9]),(36,[4,35]),(37,[1,4,7,8,10,11,12]),(38,[1,4,7,8,10,11,12,37]),(39,[1,4,7,8,10,11,12]),(40,[1,4,7,8,10,11]),(41,[1,4,7,8,10,11]),(42,[1,4,7,8,10,11,12]),(43,[1,4,7,8,10,11,12]),(44,[1,4,7,8,10,11,12]),(45,[1,4,7,8,10,11,12,42]),(46,[1,4,7,8,10,11,12,42,45]),(47,[1,4,7,8,10,11,12,45,46]),(48,[1,4,7,8,10,11,12,13,14,15]),(49,[1,4,7,8,10,11,12,13,14,15]),(50,[4,15]),(51,[4,50]),(52,[1,4,7,8,10,11,12,14]),(53,[1,4,7,8,10,11,12,14]),(54,[1,4,7,8,10,11,12,14]),(55,[1,4,7,8,10,11,12,14,52]),(56,[1,4,7,8,10,11,12,14,52,55]),(57,[1,4,7,8,10,11,12,14,55,56]),(58,[1,4,7,8,10,11,12,14,16,17,18]),(59,[1,4,7,8,10,11,12,14,16,17,18]),(60,[4,18]),(61,[4,60]),(62,[1,4,7,8,10,12,14,16,17]),(63,[1,4,7,8,10,12,16,17,62]),(64,[1,4,7,8,10,12,16,17,62]),(65,[1,4,7,8,10,12,16,17]),(66,[1,4,7,8,10,12,16,17]),(67,[1,4,7,8,11,12,16,17]),(68,[1,4,7,8,11,12,16,17,67]),(69,[1,4,7,8,11,12,16,17,67]),(70,[1,4,7,8,11,12,16,67,69]),(71,[1,4,7,8,11,12,16,67]),(72,[1,4,7,8,11,12,16,67]),(73,[1,4,7,8,11,12,16]),(74,[1,4,7,8,10,11,12]),(75,[1,4,7,10]),(76,[4,7,10,75]),(77,[4,7,10]),(78,[4,7,10]),(79,[4]),(80,[4,10]),(81,[4,80])] }
/-! ### wreckage/wreckageref08.Read -/
noncomputable def Eref08_Read : Env2 := { tab := tab, fs := [(40, Gref08_Fine), (51, Gref02_Read)], inl := [] }
noncomputable def eref08_Read_0 (v : Int × Int × Int × Int × (Int × Unit) × Y2 × Y1 × Y0) : St := { s := [(1, (.val ⟨Z2, v.1⟩)), (4, (.loc 0 [])), (7, (.loc 2 [])), (8, (.val ⟨Z3, v.2.1⟩)), (10, (.row 3)), (11, (.val ⟨Z3, v.2.2.1⟩)), (12, (.val ⟨Z3, v.2.2.2.1⟩))], l := [(0, .var Z1 (.pair (.row 1) (.val ⟨(.pair Z2 .unit), v.2.2.2.2.1⟩))), (1, .row (.int .u8) v.2.2.2.2.2.1), (2, .var Z1 (.val ⟨Z1, v.2.2.2.2.2.2.1⟩)), (3, .row Z5 v.2.2.2.2.2.2.2)], k := [], b := 4096 }
def href08_Read_0 (self0 : Int × Int × Int × Int × (Int × Unit) × Y2 × Y1 × Y0 → Option (Y1 × Y0 × Int)) (v : Int × Int × Int × Int × (Int × Unit) × Y2 × Y1 × Y0) : Option (Y1 × Y0 × Int) :=
  (bif (decide (v.2.2.2.1 < v.2.1)) then ((cref02_Read v.2.2.2.2.2.2.1).bind fun x4 => (bif (x4.2.2 != (0 : Int)) then (let x5 : Y1 := (([] : Y2), ((0 : Int), ())); (some (x5, ([] : List Y3), x4.2.2))) else ((cref02_Read x4.1).bind fun x6 => (bif (x6.2.2 != (0 : Int)) then (let x7 : Y1 := (([] : Y2), ((0 : Int), ())); (some (x7, ([] : List Y3), x6.2.2))) else (let x8 : Int := (if (1000 : Int) < x4.2.1 then (1000 : Int) else x4.2.1); (let x9 : Int := (IntKind.u64.wrap (v.2.2.1 + x8)); (let x10 : Int := (if (1000 : Int) < x9 then (1000 : Int) else x9); (let x11 : Y3 := ((IntKind.i64.wrap x10), (x6.2.1, ())); (let x12 : Y0 := ([x11] : Y0); (bif (Nat.ble 1 2 && Nat.ble (List.length v.2.2.2.2.2.2.2 + List.length x12) lim) then (let x13 : Y0 := (List.append v.2.2.2.2.2.2.2 x12); (let x14 : Int := (IntKind.u64.wrap (v.2.2.2.1 + (1 : Int))); (self0 (v.1, v.2.1, x10, x14, v.2.2.2.2.1, v.2.2.2.2.2.1, x6.1, x13)))) else none)))))))))) else ((cref08_Fine (v.2.2.2.2.2.2.2, v.1)).bind fun x15 => (bif (!x15) then (let x16 : Y1 := (([] : Y2), ((0 : Int), ())); (some (x16, ([] : List Y3), (12 : Int)))) else (some (v.2.2.2.2.2.2.1, v.2.2.2.2.2.2.2, (0 : Int))))))
def gref08_Read_0 (N : Nat) (self0 : Int × Int × Int × Int × (Int × Unit) × Y2 × Y1 × Y0 → Option (Y1 × Y0 × Int)) (v : Int × Int × Int × Int × (Int × Unit) × Y2 × Y1 × Y0) : Option (Y1 × Y0 × Int) := href08_Read_0 self0 v
theorem kref08_Read_0 (N : Nat) (s0 : St → Option (Y1 × Y0 × Int)) (v) : (floc (Eref08_Read) Tref08_Read 6 N Try.f43 [Z1, Z0, Z2] [false, true, false] [] 0 nowhereR) s0 (eref08_Read_0 v) = href08_Read_0 (fun v => s0 (eref08_Read_0 v)) v := by kernel_rfl
theorem bref08_Read_0 (N : Nat) (s0 : St → Option (Y1 × Y0 × Int)) (v) : (floc (Eref08_Read) Tref08_Read 6 N Try.f43 [Z1, Z0, Z2] [false, true, false] [] 0 nowhereR) s0 (eref08_Read_0 v) = gref08_Read_0 N (fun v => s0 (eref08_Read_0 v)) v := kref08_Read_0 N s0 v
def nref08_Read (loop0 : Int × Int × Int × Int × (Int × Unit) × Y2 × Y1 × Y0 → Option (Y1 × Y0 × Int)) (x : Y1 × Int) : Option (Y1 × Y0 × Int) :=
  ((cref02_Read x.1).bind fun x1 => (bif (x1.2.2 == (0 : Int)) then (bif (decide (x1.2.1 > (IntKind.u64.wrap x.2))) then (let x2 : Y1 := (([] : Y2), ((0 : Int), ())); (some (x2, ([] : List Y3), (4 : Int)))) else (bif (x1.2.2 != (0 : Int)) then (let x3 : Y1 := (([] : Y2), ((0 : Int), ())); (some (x3, ([] : List Y3), x1.2.2))) else (loop0 (x.2, x1.2.1, (0 : Int), (0 : Int), ((0 : Int), ()), ([] : List Int), x1.1, ([] : List Y3))))) else (bif (x1.2.2 != (0 : Int)) then (let x17 : Y1 := (([] : Y2), ((0 : Int), ())); (some (x17, ([] : List Y3), x1.2.2))) else (loop0 (x.2, x1.2.1, (0 : Int), (0 : Int), ((0 : Int), ()), ([] : List Int), x1.1, ([] : List Y3))))))
def mref08_Read (N : Nat) (x : Y1 × Int) : Option (Y1 × Y0 × Int) := nref08_Read (iterV (gref08_Read_0 N) N) x
theorem jref08_Read (N : Nat) (x : Y1 × Int) : rise (Eref08_Read) Tref08_Read 6 N Try.f43 [Z1, Z2] [Z1, Z0, Z2] [false, true, false] x = nref08_Read (fun v => iterR (floc (Eref08_Read) Tref08_Read 6 N Try.f43 [Z1, Z0, Z2] [false, true, false] [] 0 nowhereR) N (eref08_Read_0 v)) x := by kernel_rfl
theorem lref08_Read (N : Nat) (x : Y1 × Int) : rise (Eref08_Read) Tref08_Read 6 N Try.f43 [Z1, Z2] [Z1, Z0, Z2] [false, true, false] x = mref08_Read N x := (jref08_Read N x).trans (by rw [funext (iterR_eq eref08_Read_0 (bref08_Read_0 N) N)]; rfl)
def cref08_Read (x : Y1 × Int) : Option (Y1 × Y0 × Int) := mref08_Read big x
def Gref08_Read : Fn2 := ⟨[Z1, Z2], [Z1, Z0, Z2], [false, true, false], fun x => cref08_Read x⟩
theorem Lref08_Read : Rises Try.prog 43 Gref08_Read := rises_of (E := Eref08_Read) ⟨tabOk, (fsCons2 Lref08_Fine (fsCons2 Lref02_Read fsNil2)), fun _ _ _ => rfl, mixed, inlNil, rcsNil⟩ Try.func43 rfl (by decide) (by kernel_rfl) (by kernel_rfl) (by kernel_rfl) (by kernel_rfl) (fun x r _ h => ⟨Tref08_Read, 6, big, (lref08_Read big x).trans h⟩)

def Tref08_Decode : LT := { live := [],keep := [(2,[1]),(4,[1,2]),(5,[1,2,4]),(6,[1,2,4]),(7,[1,2,4]),(8,[1,2,4]),(9,[1,2,4]),(10,[4]),(11,[1,2,4]),(12,[1,2,4]),(13,[1,2,4]),(14,[1,2,4,13]),(15,[1,2,4,13]),(16,[1,2,4]),(17,[4]),(18,[1,4]),(19,[4,18]),(20,[4]),(21,[4,20]),(22,[4,20,21]),(23,[4,21,22])] }
/-! ### wreckage/wreckageref08.Decode -/
noncomputable def Eref08_Decode : Env2 := { tab := tab, fs := [(42, Gref02_Check), (43, Gref08_Read)], inl := [] }
def nref08_Decode (x : Y1 × Int) : Option (Y1 × Y0 × Int) :=
  ((cref02_Check x.1).bind fun x1 => (bif (x1 != (0 : Int)) then (let x2 : Y1 := (([] : Y2), ((0 : Int), ())); (some (x2, ([] : List Y3), (8 : Int)))) else (bif (decide (x.2 < (1 : Int))) then (let x3 : Y1 := (([] : Y2), ((0 : Int), ())); (some (x3, ([] : List Y3), (2 : Int)))) else (bif (decide (x.2 > (200 : Int))) then (let x4 : Y1 := (([] : Y2), ((0 : Int), ())); (some (x4, ([] : List Y3), (2 : Int)))) else ((cref08_Read (x.1, x.2)).bind fun x5 => (some (x5.1, x5.2.1, x5.2.2)))))))
def mref08_Decode (N : Nat) (x : Y1 × Int) : Option (Y1 × Y0 × Int) := nref08_Decode x
theorem jref08_Decode (N : Nat) (x : Y1 × Int) : rise (Eref08_Decode) Tref08_Decode 6 N Try.f25 [Z1, Z2] [Z1, Z0, Z2] [false, true, false] x = nref08_Decode x := by kernel_rfl
theorem lref08_Decode (N : Nat) (x : Y1 × Int) : rise (Eref08_Decode) Tref08_Decode 6 N Try.f25 [Z1, Z2] [Z1, Z0, Z2] [false, true, false] x = mref08_Decode N x := (jref08_Decode N x).trans rfl
def cref08_Decode (x : Y1 × Int) : Option (Y1 × Y0 × Int) := mref08_Decode big x
def Gref08_Decode : Fn2 := ⟨[Z1, Z2], [Z1, Z0, Z2], [false, true, false], fun x => cref08_Decode x⟩
theorem Lref08_Decode : Rises Try.prog 25 Gref08_Decode := rises_of (E := Eref08_Decode) ⟨tabOk, (fsCons2 Lref02_Check (fsCons2 Lref08_Read fsNil2)), fun _ _ _ => rfl, mixed, inlNil, rcsNil⟩ Try.func25 rfl (by decide) (by kernel_rfl) (by kernel_rfl) (by kernel_rfl) (by kernel_rfl) (fun x r _ h => ⟨Tref08_Decode, 6, big, (lref08_Decode big x).trans h⟩)

def Tref02_Same : LT := { live := [],keep := [(2,[1]),(3,[2]),(4,[2,3]),(5,[2,3]),(6,[2,3]),(7,[2,3,6]),(8,[2,3,6]),(9,[2,3]),(10,[2,3]),(11,[3,10]),(12,[3,10]),(13,[3,10]),(14,[10,13]),(15,[10,13]),(16,[10,13]),(17,[10]),(18,[])] }
/-! ### wreckage/wreckageref02.Same -/
noncomputable def Eref02_Same : Env2 := { tab := tab, fs := [], inl := [] }
def nref02_Same (x : Y1 × Y1) : Option (Bool) :=
  (bif (x.1.2.1 == x.2.2.1) then (some (eqD .str x.1.1 x.2.1)) else (some false))
def mref02_Same (N : Nat) (x : Y1 × Y1) : Option (Bool) := nref02_Same x
theorem jref02_Same (N : Nat) (x : Y1 × Y1) : rise (Eref02_Same) Tref02_Same 6 N Try.f26 [Z1, Z1] [.bool] [false] x = nref02_Same x := by kernel_rfl
theorem lref02_Same (N : Nat) (x : Y1 × Y1) : rise (Eref02_Same) Tref02_Same 6 N Try.f26 [Z1, Z1] [.bool] [false] x = mref02_Same N x := (jref02_Same N x).trans rfl
def cref02_Same (x : Y1 × Y1) : Option (Bool) := mref02_Same big x
def Gref02_Same : Fn2 := ⟨[Z1, Z1], [.bool], [false], fun x => cref02_Same x⟩
theorem Lref02_Same : Rises Try.prog 26 Gref02_Same := rises_of (E := Eref02_Same) ⟨tabOk, fsNil2, fun _ _ _ => rfl, mixed, inlNil, rcsNil⟩ Try.func26 rfl (by decide) (by kernel_rfl) (by kernel_rfl) (by kernel_rfl) (by kernel_rfl) (fun x r _ h => ⟨Tref02_Same, 6, big, (lref02_Same big x).trans h⟩)

end Go.Proofs.Ytlljcjapefljeaa
