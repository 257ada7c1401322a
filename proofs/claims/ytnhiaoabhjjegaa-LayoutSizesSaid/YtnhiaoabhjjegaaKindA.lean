/- Functions of the program, read as plain functions: each equation is checked by the kernel. -/
import Derived.Test.YtnhiaoabhjjegaaRiP
import Derived.Test.YtnhiaoabhjjegaaRiR
import Derived.Test.YtnhiaoabhjjegaaProg
import Derived.KernelRfl
set_option linter.unusedVariables false
set_option maxRecDepth 100000
namespace Go.Proofs.Ytnhiaoabhjjegaa
open Go.Lift
def tab : List (TypeId × Ty) := [(3, (.int .i64)), (4, .bool), (5, (.int .u8)), (9, .str), (22, (.slice (.pair (.int .u8) (.pair (.int .i64) (.pair (.int .i64) (.pair (.slice (.pair .str (.pair (.int .i64) .unit))) .unit)))))), (24, (.slice (.pair .str (.pair (.int .i64) .unit)))), (26, (.pair (.int .u8) (.pair (.int .i64) (.pair (.int .i64) (.pair (.slice (.pair .str (.pair (.int .i64) .unit))) .unit))))), (28, (.pair .str (.pair (.int .i64) .unit))), (29, (.int .i64)), (32, (.slice (.int .i64))), (35, (.slice (.pair (.int .i64) (.pair (.int .i64) .unit)))), (62, (.pair (.int .i64) (.pair (.int .i64) .unit))), (68, (.slice (.pair (.int .i64) (.pair (.int .i64) .unit)))), (72, (.pair (.int .i64) (.pair (.int .i64) .unit))), (74, .fn), (91, (.slice .bool)), (93, (.mp (.arr 2 (.int .i64)) .bool)), (94, (.arr 2 (.int .i64))), (104, .fn), (108, (.mp .str .bool))]
theorem mixed : Try.prog.follows .mixedOrders = true := by kernel_rfl
theorem tabOk : TabOk Try.prog tab := tabOk_of (by kernel_rfl) (by kernel_rfl) (by kernel_rfl)
abbrev Y0 : Type := Int × (Int × (Int × ((List ((List Int) × (Int × Unit))) × Unit)))
abbrev Y1 : Type := List (Int × (Int × Unit))
abbrev Y2 : Type := List Int
abbrev Y3 : Type := List (Y2 × (Int × Unit))
abbrev Y4 : Type := List Y0
abbrev Y5 : Type := Int × (Int × Unit)
abbrev Y6 : Type := Unit × ((List (Y2 × Bool)) × (Y4 × (Unit × Unit)))
abbrev Y7 : Type := Int × (Int × (Unit × (Unit × (Unit × Unit))))
abbrev Y8 : Type := List (Y2 × Bool)
abbrev Y9 : Type := Y2 × Int
abbrev Y10 : Type := Y2 × Int × Int × Int
abbrev Z0 : Ty := .pair (.int .u8) (.pair (.int .i64) (.pair (.int .i64) (.pair (.slice (.pair .str (.pair (.int .i64) .unit))) .unit)))
abbrev Z1 : Ty := .int .i64
abbrev Z2 : Ty := .pair Z1 (.pair Z1 .unit)
abbrev Z3 : Ty := .slice (.pair .str (.pair Z1 .unit))
abbrev Z4 : Ty := .slice Z0
abbrev Z5 : Ty := .slice Z1
abbrev Z6 : Ty := .slice Z2
abbrev Y11 : Type := Y2 × Int × Int × Y4 × Int × Int × Y3 × Int × Int × Y2
abbrev Y12 : Type := Int × Int × Int × Int × Y1 × Y2 × Y1
abbrev Y13 : Type := Y4 × Int × Int × Int × Y1 × Y2 × Y2
abbrev Y14 : Type := Y4 × Int × Int × Int × Y1
abbrev Y15 : Type := Y4 × Y1 × Int × Int
abbrev Y16 : Type := Y4 × Int × Int
def Tkinds_isIndex : LT := { live := [],keep := [(4,[0,1]),(5,[0,1]),(6,[0,1]),(7,[0,1]),(8,[1,7]),(9,[7,8]),(10,[7]),(11,[])] }
/-! ### wreckage/kinds.isIndex -/
noncomputable def Ekinds_isIndex : Env2 := { tab := tab, fs := [], inl := [] }
def nkinds_isIndex (x : Int × Int) : Option (Bool) :=
  (bif (decide (x.1 ≥ (0 : Int))) then (some (decide (x.1 < x.2))) else (some false))
def mkinds_isIndex (N : Nat) (x : Int × Int) : Option (Bool) := nkinds_isIndex x
theorem jkinds_isIndex (N : Nat) (x : Int × Int) : rise (Ekinds_isIndex) Tkinds_isIndex 6 N Try.f62 [Z1, Z1] [.bool] [false] x = nkinds_isIndex x := by kernel_rfl
theorem lkinds_isIndex (N : Nat) (x : Int × Int) : rise (Ekinds_isIndex) Tkinds_isIndex 6 N Try.f62 [Z1, Z1] [.bool] [false] x = mkinds_isIndex N x := (jkinds_isIndex N x).trans rfl
def ckinds_isIndex (x : Int × Int) : Option (Bool) := mkinds_isIndex big x
def Gkinds_isIndex : Fn2 := ⟨[Z1, Z1], [.bool], [false], fun x => ckinds_isIndex x⟩
theorem Lkinds_isIndex : Rises Try.prog 62 Gkinds_isIndex := rises_of (E := Ekinds_isIndex) ⟨tabOk, fsNil2, fun _ _ _ => rfl, mixed, inlNil, rcsNil⟩ Try.func62 rfl (by decide) (by kernel_rfl) (by kernel_rfl) (by kernel_rfl) (by kernel_rfl) (fun x r _ h => ⟨Tkinds_isIndex, 6, big, (lkinds_isIndex big x).trans h⟩)

def Tkinds_isLetter : LT := { live := [],keep := [(2,[0]),(3,[0]),(4,[0]),(5,[0]),(6,[0,5]),(7,[0,5]),(8,[0]),(9,[0]),(10,[0,9]),(11,[0,9]),(12,[0,9]),(13,[9,12]),(14,[9,12]),(15,[9]),(16,[])] }
/-! ### wreckage/kinds.isLetter -/
noncomputable def Ekinds_isLetter : Env2 := { tab := tab, fs := [], inl := [] }
def nkinds_isLetter (x : Int) : Option (Bool) :=
  (bif (decide (x ≥ (97 : Int))) then (bif (decide (x ≤ (122 : Int))) then (some true) else (bif (decide (x ≥ (65 : Int))) then (some (decide (x ≤ (90 : Int)))) else (some false))) else (bif (decide (x ≥ (65 : Int))) then (some (decide (x ≤ (90 : Int)))) else (some false)))
def mkinds_isLetter (N : Nat) (x : Int) : Option (Bool) := nkinds_isLetter x
theorem jkinds_isLetter (N : Nat) (x : Int) : rise (Ekinds_isLetter) Tkinds_isLetter 6 N Try.f72 [(.int .u8)] [.bool] [false] x = nkinds_isLetter x := by kernel_rfl
theorem lkinds_isLetter (N : Nat) (x : Int) : rise (Ekinds_isLetter) Tkinds_isLetter 6 N Try.f72 [(.int .u8)] [.bool] [false] x = mkinds_isLetter N x := (jkinds_isLetter N x).trans rfl
def ckinds_isLetter (x : Int) : Option (Bool) := mkinds_isLetter big x
def Gkinds_isLetter : Fn2 := ⟨[(.int .u8)], [.bool], [false], fun x => ckinds_isLetter x⟩
theorem Lkinds_isLetter : Rises Try.prog 72 Gkinds_isLetter := rises_of (E := Ekinds_isLetter) ⟨tabOk, fsNil2, fun _ _ _ => rfl, mixed, inlNil, rcsNil⟩ Try.func72 rfl (by decide) (by kernel_rfl) (by kernel_rfl) (by kernel_rfl) (by kernel_rfl) (fun x r _ h => ⟨Tkinds_isLetter, 6, big, (lkinds_isLetter big x).trans h⟩)

def Tkinds_isDigit : LT := { live := [],keep := [(2,[0]),(3,[0]),(4,[0]),(5,[0]),(6,[5]),(7,[5]),(8,[])] }
/-! ### wreckage/kinds.isDigit -/
noncomputable def Ekinds_isDigit : Env2 := { tab := tab, fs := [], inl := [] }
def nkinds_isDigit (x : Int) : Option (Bool) :=
  (bif (decide (x ≥ (48 : Int))) then (some (decide (x ≤ (57 : Int)))) else (some false))
def mkinds_isDigit (N : Nat) (x : Int) : Option (Bool) := nkinds_isDigit x
theorem jkinds_isDigit (N : Nat) (x : Int) : rise (Ekinds_isDigit) Tkinds_isDigit 6 N Try.f73 [(.int .u8)] [.bool] [false] x = nkinds_isDigit x := by kernel_rfl
theorem lkinds_isDigit (N : Nat) (x : Int) : rise (Ekinds_isDigit) Tkinds_isDigit 6 N Try.f73 [(.int .u8)] [.bool] [false] x = mkinds_isDigit N x := (jkinds_isDigit N x).trans rfl
def ckinds_isDigit (x : Int) : Option (Bool) := mkinds_isDigit big x
def Gkinds_isDigit : Fn2 := ⟨[(.int .u8)], [.bool], [false], fun x => ckinds_isDigit x⟩
theorem Lkinds_isDigit : Rises Try.prog 73 Gkinds_isDigit := rises_of (E := Ekinds_isDigit) ⟨tabOk, fsNil2, fun _ _ _ => rfl, mixed, inlNil, rcsNil⟩ Try.func73 rfl (by decide) (by kernel_rfl) (by kernel_rfl) (by kernel_rfl) (by kernel_rfl) (fun x r _ h => ⟨Tkinds_isDigit, 6, big, (lkinds_isDigit big x).trans h⟩)

def Tkinds_Named : LT := { live := [(4,[0,18,19])],keep := [(2,[0]),(3,[0,18,19]),(4,[0]),(5,[0]),(6,[0]),(7,[0,6]),(8,[0,6]),(9,[0,6]),(10,[0]),(11,[0]),(12,[0,11]),(13,[0,11]),(14,[0,11]),(15,[0,11]),(16,[0]),(17,[0]),(18,[0]),(19,[0,18]),(20,[0,18,19]),(21,[0,18,19]),(22,[0,3,18,19]),(23,[0,3,18,19,22]),(24,[0,3,18,19]),(25,[0,3,18,19]),(26,[0,3,18,19]),(27,[0,3,18,19]),(28,[0,3,18,19,27]),(29,[0,18,19,27,28]),(30,[0,18,19,27]),(31,[0,18,19,27]),(32,[0,18,19,27]),(33,[0,18,19]),(34,[0,18])] }
/-! ### wreckage/kinds.Named -/
noncomputable def Ekinds_Named : Env2 := { tab := tab, fs := [(72, Gkinds_isLetter), (73, Gkinds_isDigit)], inl := [] }
noncomputable def ekinds_Named_0 (v : Y2 × Int × Int) : St := { s := [(0, (.val ⟨.str, v.1⟩)), (18, (.val ⟨Z1, v.2.1⟩)), (19, (.val ⟨Z1, v.2.2⟩))], l := [], k := [], b := 4096 }
def hkinds_Named_0 (self0 : Y2 × Int × Int → Option (Bool)) (v : Y2 × Int × Int) : Option (Bool) :=
  (bif (decide (v.2.2 < v.2.1)) then ((getI v.1 v.2.2).bind fun x3 => ((ckinds_isLetter x3).bind fun x4 => (bif (!x4) then ((getI v.1 v.2.2).bind fun x5 => ((ckinds_isDigit x5).bind fun x6 => (bif (!x6) then (some false) else (let x7 : Int := (IntKind.i64.wrap (v.2.2 + (1 : Int))); (self0 (v.1, v.2.1, x7)))))) else (let x8 : Int := (IntKind.i64.wrap (v.2.2 + (1 : Int))); (self0 (v.1, v.2.1, x8)))))) else (some true))
def gkinds_Named_0 (N : Nat) (self0 : Y2 × Int × Int → Option (Bool)) (v : Y2 × Int × Int) : Option (Bool) := hkinds_Named_0 self0 v
theorem kkinds_Named_0 (N : Nat) (s0 : St → Option (Bool)) (v) : (floc (Ekinds_Named) Tkinds_Named 6 N Try.f70 [.bool] [false] [] 0 nowhereR) s0 (ekinds_Named_0 v) = hkinds_Named_0 (fun v => s0 (ekinds_Named_0 v)) v := by kernel_rfl
theorem bkinds_Named_0 (N : Nat) (s0 : St → Option (Bool)) (v) : (floc (Ekinds_Named) Tkinds_Named 6 N Try.f70 [.bool] [false] [] 0 nowhereR) s0 (ekinds_Named_0 v) = gkinds_Named_0 N (fun v => s0 (ekinds_Named_0 v)) v := kkinds_Named_0 N s0 v
def nkinds_Named (loop0 : Y2 × Int × Int → Option (Bool)) (x : Y2) : Option (Bool) :=
  (bif (eqD .str x ([] : List Int)) then (some false) else (bif (decide ((List.length x : Int) > (16 : Int))) then (some false) else ((getI x (0 : Int)).bind fun x1 => ((ckinds_isLetter x1).bind fun x2 => (bif (!x2) then (some false) else (loop0 (x, (List.length x : Int), (0 : Int))))))))
def mkinds_Named (N : Nat) (x : Y2) : Option (Bool) := nkinds_Named (iterV (gkinds_Named_0 N) N) x
theorem jkinds_Named (N : Nat) (x : Y2) : rise (Ekinds_Named) Tkinds_Named 6 N Try.f70 [.str] [.bool] [false] x = nkinds_Named (fun v => iterR (floc (Ekinds_Named) Tkinds_Named 6 N Try.f70 [.bool] [false] [] 0 nowhereR) N (ekinds_Named_0 v)) x := by kernel_rfl
theorem lkinds_Named (N : Nat) (x : Y2) : rise (Ekinds_Named) Tkinds_Named 6 N Try.f70 [.str] [.bool] [false] x = mkinds_Named N x := (jkinds_Named N x).trans (by rw [funext (iterR_eq ekinds_Named_0 (bkinds_Named_0 N) N)]; rfl)
def ckinds_Named (x : Y2) : Option (Bool) := mkinds_Named big x
def Gkinds_Named : Fn2 := ⟨[.str], [.bool], [false], fun x => ckinds_Named x⟩
theorem Lkinds_Named : Rises Try.prog 70 Gkinds_Named := rises_of (E := Ekinds_Named) ⟨tabOk, (fsCons2 Lkinds_isLetter (fsCons2 Lkinds_isDigit fsNil2)), fun _ _ _ => rfl, mixed, inlNil, rcsNil⟩ Try.func70 rfl (by decide) (by kernel_rfl) (by kernel_rfl) (by kernel_rfl) (by kernel_rfl) (fun x r _ h => ⟨Tkinds_Named, 6, big, (lkinds_Named big x).trans h⟩)

def Tkinds_areBuilt : LT := { live := [(5,[1,5,17,18,19])],keep := [(4,[0,1]),(5,[0,1]),(7,[1,5,17,18,19,22]),(8,[0,1]),(9,[0,1]),(10,[0,1]),(11,[0,1]),(12,[0,1,11]),(13,[0,1,11]),(14,[0,1,11]),(15,[0,1]),(16,[0,1]),(17,[1,5]),(18,[1,5,17]),(19,[1,5,17,18]),(20,[1,5,17,18,19]),(21,[1,5,17,18,19]),(22,[1,5,17,18,19]),(23,[1,5,7,17,18,19]),(24,[1,5,7,17,18,19]),(25,[1,5,7,17,18,19]),(26,[1,5,7,17,18,19]),(27,[1,5,7,17,18,19]),(28,[1,5,7,17,18,19,27]),(29,[1,5,7,17,18,19,27,28]),(30,[1,5,7,17,18,19,27,28]),(31,[1,5,7,17,18,19,27]),(32,[1,5,7,17,18,19]),(33,[1,5,7,17,18,19]),(34,[1,5,7,17,18,19,33]),(35,[1,5,7,17,18,19,33]),(36,[1,5,7,17,18,19,33,35]),(37,[1,5,7,17,18,19,33]),(38,[1,5,7,17,18,19,33]),(39,[1,5,7,17,18,19]),(40,[1,5,7,17,18,19]),(41,[1,5,17,18,19,40]),(42,[1,5,17,18,19,40]),(43,[1,5,17,18])] }
/-! ### wreckage/kinds.areBuilt -/
noncomputable def Ekinds_areBuilt : Env2 := { tab := tab, fs := [(62, Gkinds_isIndex), (70, Gkinds_Named)], inl := [] }
noncomputable def ekinds_areBuilt_0 (v : Int × Y3 × Int × Int × Y8) : St := { s := [(1, (.val ⟨Z1, v.1⟩)), (5, (.mp 0)), (17, (.val ⟨Z3, v.2.1⟩)), (18, (.val ⟨Z1, v.2.2.1⟩)), (19, (.val ⟨Z1, v.2.2.2.1⟩))], l := [(0, .mp .str .bool v.2.2.2.2)], k := [], b := 4096 }
def hkinds_areBuilt_0 (self0 : Int × Y3 × Int × Int × Y8 → Option (Bool)) (v : Int × Y3 × Int × Int × Y8) : Option (Bool) :=
  (bif (decide (v.2.2.2.1 < v.2.2.1)) then ((getI v.2.1 v.2.2.2.1).bind fun x1 => ((ckinds_Named x1.1).bind fun x2 => (bif (!x2) then (some false) else (bif (@atK .str .bool x1.1 false v.2.2.2.2).1 then (some false) else ((ckinds_isIndex (x1.2.1, v.1)).bind fun x3 => (bif (!x3) then (some false) else (let x4 : Y8 := (@putK .str .bool x1.1 true v.2.2.2.2); (let x5 : Int := (IntKind.i64.wrap (v.2.2.2.1 + (1 : Int))); (self0 (v.1, v.2.1, v.2.2.1, x5, x4)))))))))) else (some true))
def gkinds_areBuilt_0 (N : Nat) (self0 : Int × Y3 × Int × Int × Y8 → Option (Bool)) (v : Int × Y3 × Int × Int × Y8) : Option (Bool) := hkinds_areBuilt_0 self0 v
theorem kkinds_areBuilt_0 (N : Nat) (s0 : St → Option (Bool)) (v) : (floc (Ekinds_areBuilt) Tkinds_areBuilt 6 N Try.f66 [.bool] [false] [] 0 nowhereR) s0 (ekinds_areBuilt_0 v) = hkinds_areBuilt_0 (fun v => s0 (ekinds_areBuilt_0 v)) v := by kernel_rfl
theorem bkinds_areBuilt_0 (N : Nat) (s0 : St → Option (Bool)) (v) : (floc (Ekinds_areBuilt) Tkinds_areBuilt 6 N Try.f66 [.bool] [false] [] 0 nowhereR) s0 (ekinds_areBuilt_0 v) = gkinds_areBuilt_0 N (fun v => s0 (ekinds_areBuilt_0 v)) v := kkinds_areBuilt_0 N s0 v
def nkinds_areBuilt (loop0 : Int × Y3 × Int × Int × Y8 → Option (Bool)) (x : Y3 × Int) : Option (Bool) :=
  (bif (decide ((List.length x.1 : Int) < (1 : Int))) then (some false) else (bif (decide ((List.length x.1 : Int) > (8 : Int))) then (some false) else (loop0 (x.2, x.1, (List.length x.1 : Int), (0 : Int), ([] : List (Y2 × Bool))))))
def mkinds_areBuilt (N : Nat) (x : Y3 × Int) : Option (Bool) := nkinds_areBuilt (iterV (gkinds_areBuilt_0 N) N) x
theorem jkinds_areBuilt (N : Nat) (x : Y3 × Int) : rise (Ekinds_areBuilt) Tkinds_areBuilt 6 N Try.f66 [Z3, Z1] [.bool] [false] x = nkinds_areBuilt (fun v => iterR (floc (Ekinds_areBuilt) Tkinds_areBuilt 6 N Try.f66 [.bool] [false] [] 0 nowhereR) N (ekinds_areBuilt_0 v)) x := by kernel_rfl
theorem lkinds_areBuilt (N : Nat) (x : Y3 × Int) : rise (Ekinds_areBuilt) Tkinds_areBuilt 6 N Try.f66 [Z3, Z1] [.bool] [false] x = mkinds_areBuilt N x := (jkinds_areBuilt N x).trans (by rw [funext (iterR_eq ekinds_areBuilt_0 (bkinds_areBuilt_0 N) N)]; rfl)
def ckinds_areBuilt (x : Y3 × Int) : Option (Bool) := mkinds_areBuilt big x
def Gkinds_areBuilt : Fn2 := ⟨[Z3, Z1], [.bool], [false], fun x => ckinds_areBuilt x⟩
theorem Lkinds_areBuilt : Rises Try.prog 66 Gkinds_areBuilt := rises_of (E := Ekinds_areBuilt) ⟨tabOk, (fsCons2 Lkinds_isIndex (fsCons2 Lkinds_Named fsNil2)), fun _ _ _ => rfl, mixed, inlNil, rcsNil⟩ Try.func66 rfl (by decide) (by kernel_rfl) (by kernel_rfl) (by kernel_rfl) (by kernel_rfl) (fun x r _ h => ⟨Tkinds_areBuilt, 6, big, (lkinds_areBuilt big x).trans h⟩)

def Tkinds_isBuilt : LT := { live := [],keep := [(3,[1,2]),(6,[1,2,3]),(7,[1,2,3]),(8,[1,2,3]),(9,[1,2,3,8]),(10,[1,2,3,8]),(11,[1,2,3,8]),(12,[1,2,3,8]),(13,[3]),(14,[3]),(15,[3]),(16,[3]),(17,[3,16]),(18,[3,16]),(19,[3,16]),(20,[3]),(21,[3]),(22,[21]),(23,[21]),(24,[21]),(25,[21]),(26,[]),(27,[1,2,3,8]),(28,[1,2,3,8]),(29,[1,2,3,8]),(30,[2,3]),(31,[2,3]),(32,[3,31]),(33,[3]),(34,[3]),(35,[3,34]),(36,[3,34]),(37,[3,34]),(38,[3]),(39,[3]),(40,[39]),(41,[39]),(42,[39]),(43,[39]),(44,[]),(45,[1,3,8]),(46,[1,3,8]),(47,[1,3]),(48,[1,3]),(49,[3,48]),(50,[3]),(51,[3]),(52,[3,51]),(53,[3,51]),(54,[3,51]),(55,[3]),(56,[3]),(57,[3,56]),(58,[3,56]),(59,[3,56]),(60,[3]),(61,[3]),(62,[61]),(63,[61]),(64,[61]),(65,[61]),(66,[]),(67,[1,3]),(68,[1,3]),(69,[1,3]),(70,[1,3]),(71,[1,3]),(72,[1,3]),(73,[1,3,72]),(74,[1,3,72]),(75,[1,3,72]),(76,[1,3]),(77,[1,3]),(78,[1,77]),(79,[1,77]),(80,[77,79]),(81,[77]),(82,[])] }
/-! ### wreckage/kinds.isBuilt -/
noncomputable def Ekinds_isBuilt : Env2 := { tab := tab, fs := [(62, Gkinds_isIndex), (66, Gkinds_areBuilt)], inl := [] }
def nkinds_isBuilt (x : Y0 × Int × Int) : Option (Bool) :=
  (bif (x.1.1 == (1 : Int)) then (bif (x.1.1 == (1 : Int)) then (bif (x.1.2.1 == (0 : Int)) then (bif (x.1.2.2.1 == (0 : Int)) then (some ((List.length x.1.2.2.2.1 : Int) == (0 : Int))) else (some false)) else (some false)) else (bif (x.1.1 == (4 : Int)) then (bif (x.1.1 == (4 : Int)) then ((ckinds_isIndex (x.1.2.1, x.2.2)).bind fun x1 => (bif x1 then (bif (x.1.2.2.1 == (0 : Int)) then (some ((List.length x.1.2.2.2.1 : Int) == (0 : Int))) else (some false)) else (some false))) else (bif (x.1.1 == (6 : Int)) then ((ckinds_isIndex (x.1.2.1, x.2.1)).bind fun x2 => (bif x2 then (bif (decide (x.1.2.2.1 ≥ (1 : Int))) then (bif (decide (x.1.2.2.1 ≤ (16 : Int))) then (some ((List.length x.1.2.2.2.1 : Int) == (0 : Int))) else (some false)) else (some false)) else (some false))) else (bif (x.1.1 == (5 : Int)) then (bif (x.1.2.1 == (0 : Int)) then (bif (x.1.2.2.1 == (0 : Int)) then ((ckinds_areBuilt (x.1.2.2.2.1, x.2.1)).bind fun x3 => (some x3)) else (some false)) else (some false)) else (some false)))) else (bif (x.1.1 == (7 : Int)) then ((ckinds_isIndex (x.1.2.1, x.2.2)).bind fun x4 => (bif x4 then (bif (x.1.2.2.1 == (0 : Int)) then (some ((List.length x.1.2.2.2.1 : Int) == (0 : Int))) else (some false)) else (some false))) else (bif (x.1.1 == (6 : Int)) then ((ckinds_isIndex (x.1.2.1, x.2.1)).bind fun x5 => (bif x5 then (bif (decide (x.1.2.2.1 ≥ (1 : Int))) then (bif (decide (x.1.2.2.1 ≤ (16 : Int))) then (some ((List.length x.1.2.2.2.1 : Int) == (0 : Int))) else (some false)) else (some false)) else (some false))) else (bif (x.1.1 == (5 : Int)) then (bif (x.1.2.1 == (0 : Int)) then (bif (x.1.2.2.1 == (0 : Int)) then ((ckinds_areBuilt (x.1.2.2.2.1, x.2.1)).bind fun x6 => (some x6)) else (some false)) else (some false)) else (some false)))))) else (bif (x.1.1 == (2 : Int)) then (bif (x.1.1 == (2 : Int)) then (bif (x.1.2.1 == (0 : Int)) then (bif (x.1.2.2.1 == (0 : Int)) then (some ((List.length x.1.2.2.2.1 : Int) == (0 : Int))) else (some false)) else (some false)) else (bif (x.1.1 == (4 : Int)) then (bif (x.1.1 == (4 : Int)) then ((ckinds_isIndex (x.1.2.1, x.2.2)).bind fun x7 => (bif x7 then (bif (x.1.2.2.1 == (0 : Int)) then (some ((List.length x.1.2.2.2.1 : Int) == (0 : Int))) else (some false)) else (some false))) else (bif (x.1.1 == (6 : Int)) then ((ckinds_isIndex (x.1.2.1, x.2.1)).bind fun x8 => (bif x8 then (bif (decide (x.1.2.2.1 ≥ (1 : Int))) then (bif (decide (x.1.2.2.1 ≤ (16 : Int))) then (some ((List.length x.1.2.2.2.1 : Int) == (0 : Int))) else (some false)) else (some false)) else (some false))) else (bif (x.1.1 == (5 : Int)) then (bif (x.1.2.1 == (0 : Int)) then (bif (x.1.2.2.1 == (0 : Int)) then ((ckinds_areBuilt (x.1.2.2.2.1, x.2.1)).bind fun x9 => (some x9)) else (some false)) else (some false)) else (some false)))) else (bif (x.1.1 == (7 : Int)) then ((ckinds_isIndex (x.1.2.1, x.2.2)).bind fun x10 => (bif x10 then (bif (x.1.2.2.1 == (0 : Int)) then (some ((List.length x.1.2.2.2.1 : Int) == (0 : Int))) else (some false)) else (some false))) else (bif (x.1.1 == (6 : Int)) then ((ckinds_isIndex (x.1.2.1, x.2.1)).bind fun x11 => (bif x11 then (bif (decide (x.1.2.2.1 ≥ (1 : Int))) then (bif (decide (x.1.2.2.1 ≤ (16 : Int))) then (some ((List.length x.1.2.2.2.1 : Int) == (0 : Int))) else (some false)) else (some false)) else (some false))) else (bif (x.1.1 == (5 : Int)) then (bif (x.1.2.1 == (0 : Int)) then (bif (x.1.2.2.1 == (0 : Int)) then ((ckinds_areBuilt (x.1.2.2.2.1, x.2.1)).bind fun x12 => (some x12)) else (some false)) else (some false)) else (some false)))))) else (bif (x.1.1 == (3 : Int)) then (bif (x.1.2.1 == (0 : Int)) then (bif (x.1.2.2.1 == (0 : Int)) then (some ((List.length x.1.2.2.2.1 : Int) == (0 : Int))) else (some false)) else (some false)) else (bif (x.1.1 == (4 : Int)) then (bif (x.1.1 == (4 : Int)) then ((ckinds_isIndex (x.1.2.1, x.2.2)).bind fun x13 => (bif x13 then (bif (x.1.2.2.1 == (0 : Int)) then (some ((List.length x.1.2.2.2.1 : Int) == (0 : Int))) else (some false)) else (some false))) else (bif (x.1.1 == (6 : Int)) then ((ckinds_isIndex (x.1.2.1, x.2.1)).bind fun x14 => (bif x14 then (bif (decide (x.1.2.2.1 ≥ (1 : Int))) then (bif (decide (x.1.2.2.1 ≤ (16 : Int))) then (some ((List.length x.1.2.2.2.1 : Int) == (0 : Int))) else (some false)) else (some false)) else (some false))) else (bif (x.1.1 == (5 : Int)) then (bif (x.1.2.1 == (0 : Int)) then (bif (x.1.2.2.1 == (0 : Int)) then ((ckinds_areBuilt (x.1.2.2.2.1, x.2.1)).bind fun x15 => (some x15)) else (some false)) else (some false)) else (some false)))) else (bif (x.1.1 == (7 : Int)) then ((ckinds_isIndex (x.1.2.1, x.2.2)).bind fun x16 => (bif x16 then (bif (x.1.2.2.1 == (0 : Int)) then (some ((List.length x.1.2.2.2.1 : Int) == (0 : Int))) else (some false)) else (some false))) else (bif (x.1.1 == (6 : Int)) then ((ckinds_isIndex (x.1.2.1, x.2.1)).bind fun x17 => (bif x17 then (bif (decide (x.1.2.2.1 ≥ (1 : Int))) then (bif (decide (x.1.2.2.1 ≤ (16 : Int))) then (some ((List.length x.1.2.2.2.1 : Int) == (0 : Int))) else (some false)) else (some false)) else (some false))) else (bif (x.1.1 == (5 : Int)) then (bif (x.1.2.1 == (0 : Int)) then (bif (x.1.2.2.1 == (0 : Int)) then ((ckinds_areBuilt (x.1.2.2.2.1, x.2.1)).bind fun x18 => (some x18)) else (some false)) else (some false)) else (some false))))))))
def mkinds_isBuilt (N : Nat) (x : Y0 × Int × Int) : Option (Bool) := nkinds_isBuilt x
theorem jkinds_isBuilt (N : Nat) (x : Y0 × Int × Int) : rise (Ekinds_isBuilt) Tkinds_isBuilt 6 N Try.f52 [Z0, Z1, Z1] [.bool] [false] x = nkinds_isBuilt x := by kernel_rfl
theorem lkinds_isBuilt (N : Nat) (x : Y0 × Int × Int) : rise (Ekinds_isBuilt) Tkinds_isBuilt 6 N Try.f52 [Z0, Z1, Z1] [.bool] [false] x = mkinds_isBuilt N x := (jkinds_isBuilt N x).trans rfl
def ckinds_isBuilt (x : Y0 × Int × Int) : Option (Bool) := mkinds_isBuilt big x
def Gkinds_isBuilt : Fn2 := ⟨[Z0, Z1, Z1], [.bool], [false], fun x => ckinds_isBuilt x⟩
theorem Lkinds_isBuilt : Rises Try.prog 52 Gkinds_isBuilt := rises_of (E := Ekinds_isBuilt) ⟨tabOk, (fsCons2 Lkinds_isIndex (fsCons2 Lkinds_areBuilt fsNil2)), fun _ _ _ => rfl, mixed, inlNil, rcsNil⟩ Try.func52 rfl (by decide) (by kernel_rfl) (by kernel_rfl) (by kernel_rfl) (by kernel_rfl) (fun x r _ h => ⟨Tkinds_isBuilt, 6, big, (lkinds_isBuilt big x).trans h⟩)

def Tkinds_widened : LT := { live := [(3,[1,5,14,15,16]),(15,[1,5,6,8,14,15,16,57,58,59])],keep := [(4,[0,1]),(5,[0,1]),(6,[1,5,7,14,15,16,20]),(7,[1,5,14,15,16,18,20]),(8,[1,5,6,7,14,15,16]),(10,[1,5,6,8,14,15,16,57,58,59,62]),(11,[0,1]),(12,[0,1]),(13,[0,1]),(14,[1,5]),(15,[1,5,14]),(16,[1,5,14,15]),(17,[1,5,14,15,16]),(18,[1,5,14,15,16]),(19,[1,5,14,15,16,18]),(20,[1,5,14,15,16,18]),(21,[1,5,6,7,8,14,15,16]),(22,[1,5,6,7,8,14,15,16]),(23,[1,5,6,7,8,14,15,16,22]),(24,[1,5,6,7,8,14,15,16,22]),(25,[1,5,6,7,14,15,16]),(26,[1,5,6,7,14,15,16,25]),(27,[1,5,6,14,15,16,25,26]),(28,[1,5,6,14,15,16,25,26]),(29,[1,5,6,14,15,16,25]),(30,[1,5,6,14,15,16,25]),(31,[1,5,6,14,15,16]),(32,[1,5,6,7,8,14,15,16,22]),(33,[1,5,6,7,8,14,15,16,22]),(34,[1,5,6,7,14,15,16]),(35,[1,5,6,7,14,15,16,34]),(36,[1,5,6,14,15,16,34,35]),(37,[1,5,6,14,15,16,34,35]),(38,[1,5,6,14,15,16,34]),(39,[1,5,6,14,15,16,34]),(40,[1,5,6,14,15,16,34]),(41,[1,5,6,14,15,16]),(42,[1,5,6,7,8,14,15,16,22]),(43,[1,5,6,7,8,14,15,16,22]),(44,[1,5,6,7,14,15,16]),(45,[1,5,6,7,14,15,16,44]),(46,[1,5,6,7,14,15,16,44]),(47,[1,5,6,7,14,15,16,44,46]),(48,[1,5,6,14,15,16,44,46,47]),(49,[1,5,6,14,15,16,44,46,47]),(50,[1,5,6,14,15,16,44,46]),(51,[1,5,6,14,15,16,44,46]),(52,[1,5,6,14,15,16,44]),(53,[1,5,6,14,15,16]),(54,[1,5,6,7,8,14,15,16]),(55,[1,5,6,7,8,14,15,16]),(56,[1,5,6,8,14,15,16]),(57,[1,5,6,8,14,15,16]),(58,[1,5,6,8,14,15,16,57]),(59,[1,5,6,8,14,15,16,57,58]),(60,[1,5,6,8,14,15,16,57,58,59]),(61,[1,5,6,8,14,15,16,57,58,59]),(62,[1,5,6,8,14,15,16,57,58,59]),(63,[1,5,6,10,14,15,16,57,58,59]),(64,[1,5,6,10,14,15,16,57,58,59,63]),(65,[1,5,6,14,15,16,57,58,59,63,64]),(66,[1,5,6,14,15,16,57,58,59,63,64]),(67,[1,5,6,14,15,16,57,58,59,63]),(68,[1,5,6,14,15,16,57,58,59,63]),(69,[1,5,6,14,15,16,57,58,59]),(70,[1,5,6,8,14,15,16,57,58]),(71,[1,5,6,8,14,15,16]),(72,[1,5,8,14,15,16,71]),(73,[1,5,14,15,16,71,72]),(74,[1,5,14,15,16,71,72]),(75,[1,5,14,15,16,74]),(76,[1,5,14,15]),(77,[])] }
/-! ### wreckage/kinds.widened -/
noncomputable def Ekinds_widened (mk : (α : Type) → Nat → α → List α) : Env2 := { tab := tab, fs := [], inl := [], rep := mk }
noncomputable def ekinds_widened_1 (v : Y11) : St := { s := [(1, (.val ⟨Z5, v.1⟩)), (5, (.row 0)), (6, (.val ⟨Z1, v.2.1⟩)), (8, (.val ⟨Z1, v.2.2.1⟩)), (14, (.val ⟨Z4, v.2.2.2.1⟩)), (15, (.val ⟨Z1, v.2.2.2.2.1⟩)), (16, (.val ⟨Z1, v.2.2.2.2.2.1⟩)), (57, (.val ⟨Z3, v.2.2.2.2.2.2.1⟩)), (58, (.val ⟨Z1, v.2.2.2.2.2.2.2.1⟩)), (59, (.val ⟨Z1, v.2.2.2.2.2.2.2.2.1⟩))], l := [(0, .row Z1 v.2.2.2.2.2.2.2.2.2)], k := [], b := 4096 }
noncomputable def ekinds_widened_0 (v : Y2 × Y4 × Int × Int × Y2) : St := { s := [(1, (.val ⟨Z5, v.1⟩)), (5, (.row 0)), (14, (.val ⟨Z4, v.2.1⟩)), (15, (.val ⟨Z1, v.2.2.1⟩)), (16, (.val ⟨Z1, v.2.2.2.1⟩))], l := [(0, .row Z1 v.2.2.2.2)], k := [], b := 4096 }
def hkinds_widened_1 (mk : (α : Type) → Nat → α → List α) (self0 : Y2 × Y4 × Int × Int × Y2 → Option (Y2)) (self1 : Y11 → Option (Y2)) (v : Y11) : Option (Y2) :=
  (bif (decide (v.2.2.2.2.2.2.2.2.1 < v.2.2.2.2.2.2.2.1)) then ((getI v.2.2.2.2.2.2.1 v.2.2.2.2.2.2.2.2.1).bind fun x20 => (bif (decide (0 ≤ x20.2.1) && decide (x20.2.1 < (List.length v.2.2.2.2.2.2.2.2.2 : Int))) then ((nth v.2.2.2.2.2.2.2.2.2 (Int.toNat x20.2.1)).bind fun x21 => (let x22 : Int := (IntKind.i64.wrap (v.2.2.1 + x21)); (let x23 : Int := (IntKind.i64.wrap (v.2.2.2.2.2.2.2.2.1 + (1 : Int))); (self1 (v.1, v.2.1, x22, v.2.2.2.1, v.2.2.2.2.1, v.2.2.2.2.2.1, v.2.2.2.2.2.2.1, v.2.2.2.2.2.2.2.1, x23, v.2.2.2.2.2.2.2.2.2))))) else none)) else (let x24 : Int := (if (5001 : Int) < v.2.2.1 then (5001 : Int) else v.2.2.1); (bif (decide (0 ≤ v.2.1) && decide (v.2.1 < (List.length v.2.2.2.2.2.2.2.2.2 : Int))) then (let x25 : Y2 := (List.set v.2.2.2.2.2.2.2.2.2 (Int.toNat v.2.1) x24); (let x26 : Int := (IntKind.i64.wrap (v.2.2.2.2.2.1 + (1 : Int))); (self0 (v.1, v.2.2.2.1, v.2.2.2.2.1, x26, x25)))) else none)))
def gkinds_widened_1 (mk : (α : Type) → Nat → α → List α) (N : Nat) (self0 : Y2 × Y4 × Int × Int × Y2 → Option (Y2)) (self1 : Y11 → Option (Y2)) (v : Y11) : Option (Y2) := hkinds_widened_1 mk self0 self1 v
theorem kkinds_widened_1 (mk : (α : Type) → Nat → α → List α) (N : Nat) (s0 : St → Option (Y2)) (s1 : St → Option (Y2)) (v) : (floc (Ekinds_widened mk) Tkinds_widened 6 N Try.f68 [Z5] [true] [] 1 (outerR s0 nowhereR)) s1 (ekinds_widened_1 v) = hkinds_widened_1 mk (fun v => s0 (ekinds_widened_0 v)) (fun v => s1 (ekinds_widened_1 v)) v := by kernel_rfl
theorem bkinds_widened_1 (mk : (α : Type) → Nat → α → List α) (N : Nat) (s0 : St → Option (Y2)) (s1 : St → Option (Y2)) (v) : (floc (Ekinds_widened mk) Tkinds_widened 6 N Try.f68 [Z5] [true] [] 1 (outerR s0 nowhereR)) s1 (ekinds_widened_1 v) = gkinds_widened_1 mk N (fun v => s0 (ekinds_widened_0 v)) (fun v => s1 (ekinds_widened_1 v)) v := kkinds_widened_1 mk N s0 s1 v
def hkinds_widened_0 (mk : (α : Type) → Nat → α → List α) (loop1 : Y11 → Option (Y2)) (self0 : Y2 × Y4 × Int × Int × Y2 → Option (Y2)) (v : Y2 × Y4 × Int × Int × Y2) : Option (Y2) :=
  (bif (decide (v.2.2.2.1 < v.2.2.1)) then ((getI v.2.1 v.2.2.2.1).bind fun x2 => (bif (x2.1 == (4 : Int)) then ((getI v.1 x2.2.1).bind fun x3 => (let x4 : Int := (IntKind.i64.wrap ((1 : Int) + x3)); (let x5 : Int := (if (5001 : Int) < x4 then (5001 : Int) else x4); (bif (decide (0 ≤ v.2.2.2.1) && decide (v.2.2.2.1 < (List.length v.2.2.2.2 : Int))) then (let x6 : Y2 := (List.set v.2.2.2.2 (Int.toNat v.2.2.2.1) x5); (let x7 : Int := (IntKind.i64.wrap (v.2.2.2.1 + (1 : Int))); (self0 (v.1, v.2.1, v.2.2.1, x7, x6)))) else none)))) else (bif (x2.1 == (7 : Int)) then ((getI v.1 x2.2.1).bind fun x8 => (let x9 : Int := (IntKind.i64.wrap ((16 : Int) * x8)); (let x10 : Int := (IntKind.i64.wrap ((1 : Int) + x9)); (let x11 : Int := (if (5001 : Int) < x10 then (5001 : Int) else x10); (bif (decide (0 ≤ v.2.2.2.1) && decide (v.2.2.2.1 < (List.length v.2.2.2.2 : Int))) then (let x12 : Y2 := (List.set v.2.2.2.2 (Int.toNat v.2.2.2.1) x11); (let x13 : Int := (IntKind.i64.wrap (v.2.2.2.1 + (1 : Int))); (self0 (v.1, v.2.1, v.2.2.1, x13, x12)))) else none))))) else (bif (x2.1 == (6 : Int)) then (bif (decide (0 ≤ x2.2.1) && decide (x2.2.1 < (List.length v.2.2.2.2 : Int))) then ((nth v.2.2.2.2 (Int.toNat x2.2.1)).bind fun x14 => (let x15 : Int := (IntKind.i64.wrap (x2.2.2.1 * x14)); (let x16 : Int := (IntKind.i64.wrap ((1 : Int) + x15)); (let x17 : Int := (if (5001 : Int) < x16 then (5001 : Int) else x16); (bif (decide (0 ≤ v.2.2.2.1) && decide (v.2.2.2.1 < (List.length v.2.2.2.2 : Int))) then (let x18 : Y2 := (List.set v.2.2.2.2 (Int.toNat v.2.2.2.1) x17); (let x19 : Int := (IntKind.i64.wrap (v.2.2.2.1 + (1 : Int))); (self0 (v.1, v.2.1, v.2.2.1, x19, x18)))) else none))))) else none) else (bif (x2.1 == (5 : Int)) then (loop1 (v.1, v.2.2.2.1, (1 : Int), v.2.1, v.2.2.1, v.2.2.2.1, x2.2.2.2.1, (List.length x2.2.2.2.1 : Int), (0 : Int), v.2.2.2.2)) else (let x27 : Int := (if (5001 : Int) < (1 : Int) then (5001 : Int) else (1 : Int)); (bif (decide (0 ≤ v.2.2.2.1) && decide (v.2.2.2.1 < (List.length v.2.2.2.2 : Int))) then (let x28 : Y2 := (List.set v.2.2.2.2 (Int.toNat v.2.2.2.1) x27); (let x29 : Int := (IntKind.i64.wrap (v.2.2.2.1 + (1 : Int))); (self0 (v.1, v.2.1, v.2.2.1, x29, x28)))) else none))))))) else (some v.2.2.2.2))
def gkinds_widened_0 (mk : (α : Type) → Nat → α → List α) (N : Nat) (self0 : Y2 × Y4 × Int × Int × Y2 → Option (Y2)) (v : Y2 × Y4 × Int × Int × Y2) : Option (Y2) := hkinds_widened_0 mk (iterV (gkinds_widened_1 mk N self0) N) self0 v
theorem kkinds_widened_0 (mk : (α : Type) → Nat → α → List α) (N : Nat) (s0 : St → Option (Y2)) (v) : (floc (Ekinds_widened mk) Tkinds_widened 6 N Try.f68 [Z5] [true] [] 0 nowhereR) s0 (ekinds_widened_0 v) = hkinds_widened_0 mk (fun v => iterR (floc (Ekinds_widened mk) Tkinds_widened 6 N Try.f68 [Z5] [true] [] 1 (outerR s0 nowhereR)) N (ekinds_widened_1 v)) (fun v => s0 (ekinds_widened_0 v)) v := by kernel_rfl
theorem bkinds_widened_0 (mk : (α : Type) → Nat → α → List α) (N : Nat) (s0 : St → Option (Y2)) (v) : (floc (Ekinds_widened mk) Tkinds_widened 6 N Try.f68 [Z5] [true] [] 0 nowhereR) s0 (ekinds_widened_0 v) = gkinds_widened_0 mk N (fun v => s0 (ekinds_widened_0 v)) v := (kkinds_widened_0 mk N s0 v).trans (by rw [funext (iterR_eq ekinds_widened_1 (bkinds_widened_1 mk N s0) N)]; rfl)
def nkinds_widened (mk : (α : Type) → Nat → α → List α) (loop0 : Y2 × Y4 × Int × Int × Y2 → Option (Y2)) (x : Y4 × Y2) : Option (Y2) :=
  (bif (decide (0 ≤ (List.length x.1 : Int)) && (decide ((List.length x.1 : Int) ≤ (List.length x.1 : Int)) && (decide ((List.length x.1 : Int) ≤ 68719476736) && true))) then (let x1 : Y2 := (mk Int (Int.toNat (List.length x.1 : Int)) (0 : Int)); (loop0 (x.2, x.1, (List.length x.1 : Int), (0 : Int), x1))) else none)
def mkinds_widened (mk : (α : Type) → Nat → α → List α) (N : Nat) (x : Y4 × Y2) : Option (Y2) := nkinds_widened mk (iterV (gkinds_widened_0 mk N) N) x
theorem jkinds_widened (mk : (α : Type) → Nat → α → List α) (N : Nat) (x : Y4 × Y2) : rise (Ekinds_widened mk) Tkinds_widened 6 N Try.f68 [Z4, Z5] [Z5] [true] x = nkinds_widened mk (fun v => iterR (floc (Ekinds_widened mk) Tkinds_widened 6 N Try.f68 [Z5] [true] [] 0 nowhereR) N (ekinds_widened_0 v)) x := by kernel_rfl
theorem lkinds_widened (mk : (α : Type) → Nat → α → List α) (N : Nat) (x : Y4 × Y2) : rise (Ekinds_widened mk) Tkinds_widened 6 N Try.f68 [Z4, Z5] [Z5] [true] x = mkinds_widened mk N x := (jkinds_widened mk N x).trans (by rw [funext (iterR_eq ekinds_widened_0 (bkinds_widened_0 mk N) N)]; rfl)
def ckinds_widened (x : Y4 × Y2) : Option (Y2) := mkinds_widened (fun _ => List.replicate) big x
def Gkinds_widened : Fn2 := ⟨[Z4, Z5], [Z5], [true], fun x => ckinds_widened x⟩
theorem Lkinds_widened : Rises Try.prog 68 Gkinds_widened := rises_of (E := Ekinds_widened (fun _ => List.replicate)) ⟨tabOk, fsNil2, fun _ _ _ => rfl, mixed, inlNil, rcsNil⟩ Try.func68 rfl (by decide) (by kernel_rfl) (by kernel_rfl) (by kernel_rfl) (by kernel_rfl) (fun x r _ h => ⟨Tkinds_widened, 6, big, (lkinds_widened (fun _ => List.replicate) big x).trans h⟩)

def Tkinds_widths : LT := { live := [(3,[0,3,7])],keep := [(2,[0]),(3,[0]),(4,[0]),(5,[0]),(6,[0]),(7,[0,3]),(8,[0,3,7]),(9,[0,3,7]),(10,[0,7,9]),(11,[0,7]),(12,[0,3]),(13,[])] }
/-! ### wreckage/kinds.widths -/
noncomputable def Ekinds_widths (mk : (α : Type) → Nat → α → List α) : Env2 := { tab := tab, fs := [(68, Gkinds_widened)], inl := [], rep := mk }
noncomputable def ekinds_widths_0 (v : Y4 × Int × Y2) : St := { s := [(0, (.val ⟨Z4, v.1⟩)), (3, (.row 0)), (7, (.val ⟨Z1, v.2.1⟩))], l := [(0, .row Z1 v.2.2)], k := [], b := 4096 }
def hkinds_widths_0 (mk : (α : Type) → Nat → α → List α) (self0 : Y4 × Int × Y2 → Option (Y2)) (v : Y4 × Int × Y2) : Option (Y2) :=
  (bif (decide (v.2.1 < (4 : Int))) then ((ckinds_widened (v.1, v.2.2)).bind fun x2 => (let x3 : Int := (IntKind.i64.wrap (v.2.1 + (1 : Int))); (self0 (v.1, x3, x2)))) else (some v.2.2))
def gkinds_widths_0 (mk : (α : Type) → Nat → α → List α) (N : Nat) (self0 : Y4 × Int × Y2 → Option (Y2)) (v : Y4 × Int × Y2) : Option (Y2) := hkinds_widths_0 mk self0 v
theorem kkinds_widths_0 (mk : (α : Type) → Nat → α → List α) (N : Nat) (s0 : St → Option (Y2)) (v) : (floc (Ekinds_widths mk) Tkinds_widths 6 N Try.f54 [Z5] [true] [] 0 nowhereR) s0 (ekinds_widths_0 v) = hkinds_widths_0 mk (fun v => s0 (ekinds_widths_0 v)) v := by kernel_rfl
theorem bkinds_widths_0 (mk : (α : Type) → Nat → α → List α) (N : Nat) (s0 : St → Option (Y2)) (v) : (floc (Ekinds_widths mk) Tkinds_widths 6 N Try.f54 [Z5] [true] [] 0 nowhereR) s0 (ekinds_widths_0 v) = gkinds_widths_0 mk N (fun v => s0 (ekinds_widths_0 v)) v := kkinds_widths_0 mk N s0 v
def nkinds_widths (mk : (α : Type) → Nat → α → List α) (loop0 : Y4 × Int × Y2 → Option (Y2)) (x : Y4) : Option (Y2) :=
  (bif (decide (0 ≤ (List.length x : Int)) && (decide ((List.length x : Int) ≤ (List.length x : Int)) && (decide ((List.length x : Int) ≤ 68719476736) && true))) then (let x1 : Y2 := (mk Int (Int.toNat (List.length x : Int)) (0 : Int)); (loop0 (x, (0 : Int), x1))) else none)
def mkinds_widths (mk : (α : Type) → Nat → α → List α) (N : Nat) (x : Y4) : Option (Y2) := nkinds_widths mk (iterV (gkinds_widths_0 mk N) N) x
theorem jkinds_widths (mk : (α : Type) → Nat → α → List α) (N : Nat) (x : Y4) : rise (Ekinds_widths mk) Tkinds_widths 6 N Try.f54 [Z4] [Z5] [true] x = nkinds_widths mk (fun v => iterR (floc (Ekinds_widths mk) Tkinds_widths 6 N Try.f54 [Z5] [true] [] 0 nowhereR) N (ekinds_widths_0 v)) x := by kernel_rfl
theorem lkinds_widths (mk : (α : Type) → Nat → α → List α) (N : Nat) (x : Y4) : rise (Ekinds_widths mk) Tkinds_widths 6 N Try.f54 [Z4] [Z5] [true] x = mkinds_widths mk N x := (jkinds_widths mk N x).trans (by rw [funext (iterR_eq ekinds_widths_0 (bkinds_widths_0 mk N) N)]; rfl)
def ckinds_widths (x : Y4) : Option (Y2) := mkinds_widths (fun _ => List.replicate) big x
def Gkinds_widths : Fn2 := ⟨[Z4], [Z5], [true], fun x => ckinds_widths x⟩
theorem Lkinds_widths : Rises Try.prog 54 Gkinds_widths := rises_of (E := Ekinds_widths (fun _ => List.replicate)) ⟨tabOk, (fsCons2 Lkinds_widened fsNil2), fun _ _ _ => rfl, mixed, inlNil, rcsNil⟩ Try.func54 rfl (by decide) (by kernel_rfl) (by kernel_rfl) (by kernel_rfl) (by kernel_rfl) (fun x r _ h => ⟨Tkinds_widths, 6, big, (lkinds_widths (fun _ => List.replicate) big x).trans h⟩)

def Tslices_Index_int_int : LT := { live := [(2,[0,1,7,8])],keep := [(4,[0,1]),(5,[0,1,7,8]),(6,[0,1]),(7,[0,1]),(8,[0,1,7]),(9,[0,1,7,8]),(10,[0,1,7,8]),(11,[0,1,5,7,8]),(12,[0,1,5,7,8,11]),(13,[0,1,5,7,8,11,12]),(14,[0,1,5,7,8,11]),(15,[0,1,5,7,8,11]),(16,[0,1,5,7,8]),(17,[]),(18,[0,1,7])] }
/-! ### slices.Index[[]int,int] -/
noncomputable def Eslices_Index_int_int : Env2 := { tab := tab, fs := [], inl := [] }
noncomputable def eslices_Index_int_int_0 (v : Y2 × Int × Int × Int) : St := { s := [(0, (.val ⟨Z5, v.1⟩)), (1, (.val ⟨Z1, v.2.1⟩)), (7, (.val ⟨Z1, v.2.2.1⟩)), (8, (.val ⟨Z1, v.2.2.2⟩))], l := [], k := [], b := 4096 }
def hslices_Index_int_int_0 (self0 : Y2 × Int × Int × Int → Option (Int)) (v : Y2 × Int × Int × Int) : Option (Int) :=
  (bif (decide (v.2.2.2 < v.2.2.1)) then ((getI v.1 v.2.2.2).bind fun x1 => (bif (v.2.1 == x1) then (some v.2.2.2) else (let x2 : Int := (IntKind.i64.wrap (v.2.2.2 + (1 : Int))); (self0 (v.1, v.2.1, v.2.2.1, x2))))) else (some (-1 : Int)))
def gslices_Index_int_int_0 (N : Nat) (self0 : Y2 × Int × Int × Int → Option (Int)) (v : Y2 × Int × Int × Int) : Option (Int) := hslices_Index_int_int_0 self0 v
theorem kslices_Index_int_int_0 (N : Nat) (s0 : St → Option (Int)) (v) : (floc (Eslices_Index_int_int) Tslices_Index_int_int 6 N Try.f67 [Z1] [false] [] 0 nowhereR) s0 (eslices_Index_int_int_0 v) = hslices_Index_int_int_0 (fun v => s0 (eslices_Index_int_int_0 v)) v := by kernel_rfl
theorem bslices_Index_int_int_0 (N : Nat) (s0 : St → Option (Int)) (v) : (floc (Eslices_Index_int_int) Tslices_Index_int_int 6 N Try.f67 [Z1] [false] [] 0 nowhereR) s0 (eslices_Index_int_int_0 v) = gslices_Index_int_int_0 N (fun v => s0 (eslices_Index_int_int_0 v)) v := kslices_Index_int_int_0 N s0 v
def nslices_Index_int_int (loop0 : Y2 × Int × Int × Int → Option (Int)) (x : Y2 × Int) : Option (Int) :=
  (loop0 (x.1, x.2, (List.length x.1 : Int), (0 : Int)))
def mslices_Index_int_int (N : Nat) (x : Y2 × Int) : Option (Int) := nslices_Index_int_int (iterV (gslices_Index_int_int_0 N) N) x
theorem jslices_Index_int_int (N : Nat) (x : Y2 × Int) : rise (Eslices_Index_int_int) Tslices_Index_int_int 6 N Try.f67 [Z5, Z1] [Z1] [false] x = nslices_Index_int_int (fun v => iterR (floc (Eslices_Index_int_int) Tslices_Index_int_int 6 N Try.f67 [Z1] [false] [] 0 nowhereR) N (eslices_Index_int_int_0 v)) x := by kernel_rfl
theorem lslices_Index_int_int (N : Nat) (x : Y2 × Int) : rise (Eslices_Index_int_int) Tslices_Index_int_int 6 N Try.f67 [Z5, Z1] [Z1] [false] x = mslices_Index_int_int N x := (jslices_Index_int_int N x).trans (by rw [funext (iterR_eq eslices_Index_int_int_0 (bslices_Index_int_int_0 N) N)]; rfl)
def cslices_Index_int_int (x : Y2 × Int) : Option (Int) := mslices_Index_int_int big x
def Gslices_Index_int_int : Fn2 := ⟨[Z5, Z1], [Z1], [false], fun x => cslices_Index_int_int x⟩
theorem Lslices_Index_int_int : Rises Try.prog 67 Gslices_Index_int_int := rises_of (E := Eslices_Index_int_int) ⟨tabOk, fsNil2, fun _ _ _ => rfl, mixed, inlNil, rcsNil⟩ Try.func67 rfl (by decide) (by kernel_rfl) (by kernel_rfl) (by kernel_rfl) (by kernel_rfl) (fun x r _ h => ⟨Tslices_Index_int_int, 6, big, (lslices_Index_int_int big x).trans h⟩)

def Tslices_Contains_int_int : LT := { live := [],keep := [(4,[0,1]),(5,[1]),(6,[5]),(7,[]),(8,[])] }
/-! ### slices.Contains[[]int,int] -/
noncomputable def Eslices_Contains_int_int : Env2 := { tab := tab, fs := [(67, Gslices_Index_int_int)], inl := [] }
def nslices_Contains_int_int (x : Y2 × Int) : Option (Bool) :=
  ((cslices_Index_int_int (x.1, x.2)).bind fun x1 => (some (decide (x1 ≥ (0 : Int)))))
def mslices_Contains_int_int (N : Nat) (x : Y2 × Int) : Option (Bool) := nslices_Contains_int_int x
theorem jslices_Contains_int_int (N : Nat) (x : Y2 × Int) : rise (Eslices_Contains_int_int) Tslices_Contains_int_int 6 N Try.f53 [Z5, Z1] [.bool] [false] x = nslices_Contains_int_int x := by kernel_rfl
theorem lslices_Contains_int_int (N : Nat) (x : Y2 × Int) : rise (Eslices_Contains_int_int) Tslices_Contains_int_int 6 N Try.f53 [Z5, Z1] [.bool] [false] x = mslices_Contains_int_int N x := (jslices_Contains_int_int N x).trans rfl
def cslices_Contains_int_int (x : Y2 × Int) : Option (Bool) := mslices_Contains_int_int big x
def Gslices_Contains_int_int : Fn2 := ⟨[Z5, Z1], [.bool], [false], fun x => cslices_Contains_int_int x⟩
theorem Lslices_Contains_int_int : Rises Try.prog 53 Gslices_Contains_int_int := rises_of (E := Eslices_Contains_int_int) ⟨tabOk, (fsCons2 Lslices_Index_int_int fsNil2), fun _ _ _ => rfl, mixed, inlNil, rcsNil⟩ Try.func53 rfl (by decide) (by kernel_rfl) (by kernel_rfl) (by kernel_rfl) (by kernel_rfl) (fun x r _ h => ⟨Tslices_Contains_int_int, 6, big, (lslices_Contains_int_int big x).trans h⟩)

def Tkinds_Check : LT := { live := [(4,[0,8,9,10])],keep := [(2,[0]),(3,[0,4,8,9,10,14]),(4,[0,8,9,10,12,14]),(5,[0]),(6,[0]),(7,[0]),(8,[0]),(9,[0,8]),(10,[0,8,9]),(11,[0,8,9,10]),(12,[0,8,9,10]),(13,[0,8,9,10,12]),(14,[0,8,9,10,12]),(15,[0,3,8,9,10]),(16,[0,8,9,10,15]),(17,[0,8,9,10,15,16]),(18,[0,8,9,10,15,16]),(19,[0,8,9,10]),(20,[0,8,9,10]),(21,[0,8,9]),(22,[]),(23,[]),(24,[])] }
/-! ### wreckage/kinds.Check -/
noncomputable def Ekinds_Check : Env2 := { tab := tab, fs := [(52, Gkinds_isBuilt), (53, Gslices_Contains_int_int), (54, Gkinds_widths)], inl := [] }
noncomputable def ekinds_Check_0 (v : Y4 × Y4 × Int × Int) : St := { s := [(0, (.val ⟨Z4, v.1⟩)), (8, (.val ⟨Z4, v.2.1⟩)), (9, (.val ⟨Z1, v.2.2.1⟩)), (10, (.val ⟨Z1, v.2.2.2⟩))], l := [], k := [], b := 4096 }
def hkinds_Check_0 (self0 : Y4 × Y4 × Int × Int → Option (Int)) (v : Y4 × Y4 × Int × Int) : Option (Int) :=
  (bif (decide (v.2.2.2 < v.2.2.1)) then ((getI v.2.1 v.2.2.2).bind fun x1 => ((ckinds_isBuilt (x1, v.2.2.2, (List.length v.1 : Int))).bind fun x2 => (bif (!x2) then (some (8 : Int)) else (let x3 : Int := (IntKind.i64.wrap (v.2.2.2 + (1 : Int))); (self0 (v.1, v.2.1, v.2.2.1, x3)))))) else ((ckinds_widths v.1).bind fun x4 => ((cslices_Contains_int_int (x4, (5001 : Int))).bind fun x5 => (bif x5 then (some (8 : Int)) else (some (0 : Int))))))
def gkinds_Check_0 (N : Nat) (self0 : Y4 × Y4 × Int × Int → Option (Int)) (v : Y4 × Y4 × Int × Int) : Option (Int) := hkinds_Check_0 self0 v
theorem kkinds_Check_0 (N : Nat) (s0 : St → Option (Int)) (v) : (floc (Ekinds_Check) Tkinds_Check 6 N Try.f33 [Z1] [false] [] 0 nowhereR) s0 (ekinds_Check_0 v) = hkinds_Check_0 (fun v => s0 (ekinds_Check_0 v)) v := by kernel_rfl
theorem bkinds_Check_0 (N : Nat) (s0 : St → Option (Int)) (v) : (floc (Ekinds_Check) Tkinds_Check 6 N Try.f33 [Z1] [false] [] 0 nowhereR) s0 (ekinds_Check_0 v) = gkinds_Check_0 N (fun v => s0 (ekinds_Check_0 v)) v := kkinds_Check_0 N s0 v
def nkinds_Check (loop0 : Y4 × Y4 × Int × Int → Option (Int)) (x : Y4) : Option (Int) :=
  (bif (decide ((List.length x : Int) > (32 : Int))) then (some (8 : Int)) else (loop0 (x, x, (List.length x : Int), (0 : Int))))
def mkinds_Check (N : Nat) (x : Y4) : Option (Int) := nkinds_Check (iterV (gkinds_Check_0 N) N) x
theorem jkinds_Check (N : Nat) (x : Y4) : rise (Ekinds_Check) Tkinds_Check 6 N Try.f33 [Z4] [Z1] [false] x = nkinds_Check (fun v => iterR (floc (Ekinds_Check) Tkinds_Check 6 N Try.f33 [Z1] [false] [] 0 nowhereR) N (ekinds_Check_0 v)) x := by kernel_rfl
theorem lkinds_Check (N : Nat) (x : Y4) : rise (Ekinds_Check) Tkinds_Check 6 N Try.f33 [Z4] [Z1] [false] x = mkinds_Check N x := (jkinds_Check N x).trans (by rw [funext (iterR_eq ekinds_Check_0 (bkinds_Check_0 N) N)]; rfl)
def ckinds_Check (x : Y4) : Option (Int) := mkinds_Check big x
def Gkinds_Check : Fn2 := ⟨[Z4], [Z1], [false], fun x => ckinds_Check x⟩
theorem Lkinds_Check : Rises Try.prog 33 Gkinds_Check := rises_of (E := Ekinds_Check) ⟨tabOk, (fsCons2 Lkinds_isBuilt (fsCons2 Lslices_Contains_int_int (fsCons2 Lkinds_widths fsNil2))), fun _ _ _ => rfl, mixed, inlNil, rcsNil⟩ Try.func33 rfl (by decide) (by kernel_rfl) (by kernel_rfl) (by kernel_rfl) (by kernel_rfl) (fun x r _ h => ⟨Tkinds_Check, 6, big, (lkinds_Check big x).trans h⟩)

def Tkinds_checked : LT := { live := [(5,[0,13,14,15])],keep := [(4,[0,1]),(5,[0,1]),(7,[0,13,14,15]),(8,[0,1]),(9,[0,1]),(10,[0,1,5]),(11,[0,1,5]),(12,[]),(13,[0]),(14,[0,13]),(15,[0,13,14]),(16,[0,13,14,15]),(17,[0,13,14,15]),(18,[0,13,14,15]),(19,[0,13,14,15]),(20,[0,13,14,15,19]),(21,[0,13,14,15,19]),(22,[0,13,14,15]),(23,[0,13,14,15]),(24,[0,13,14])] }
/-! ### wreckage/kinds.checked -/
noncomputable def Ekinds_checked : Env2 := { tab := tab, fs := [(33, Gkinds_Check), (62, Gkinds_isIndex)], inl := [] }
noncomputable def ekinds_checked_0 (v : Y4 × Y2 × Int × Int) : St := { s := [(0, (.val ⟨Z4, v.1⟩)), (13, (.val ⟨Z5, v.2.1⟩)), (14, (.val ⟨Z1, v.2.2.1⟩)), (15, (.val ⟨Z1, v.2.2.2⟩))], l := [], k := [], b := 4096 }
def hkinds_checked_0 (self0 : Y4 × Y2 × Int × Int → Option (Int)) (v : Y4 × Y2 × Int × Int) : Option (Int) :=
  (bif (decide (v.2.2.2 < v.2.2.1)) then ((getI v.2.1 v.2.2.2).bind fun x2 => ((ckinds_isIndex (x2, (List.length v.1 : Int))).bind fun x3 => (bif (!x3) then (some (2 : Int)) else (let x4 : Int := (IntKind.i64.wrap (v.2.2.2 + (1 : Int))); (self0 (v.1, v.2.1, v.2.2.1, x4)))))) else (some (0 : Int)))
def gkinds_checked_0 (N : Nat) (self0 : Y4 × Y2 × Int × Int → Option (Int)) (v : Y4 × Y2 × Int × Int) : Option (Int) := hkinds_checked_0 self0 v
theorem kkinds_checked_0 (N : Nat) (s0 : St → Option (Int)) (v) : (floc (Ekinds_checked) Tkinds_checked 6 N Try.f48 [Z1] [false] [] 0 nowhereR) s0 (ekinds_checked_0 v) = hkinds_checked_0 (fun v => s0 (ekinds_checked_0 v)) v := by kernel_rfl
theorem bkinds_checked_0 (N : Nat) (s0 : St → Option (Int)) (v) : (floc (Ekinds_checked) Tkinds_checked 6 N Try.f48 [Z1] [false] [] 0 nowhereR) s0 (ekinds_checked_0 v) = gkinds_checked_0 N (fun v => s0 (ekinds_checked_0 v)) v := kkinds_checked_0 N s0 v
def nkinds_checked (loop0 : Y4 × Y2 × Int × Int → Option (Int)) (x : Y4 × Y2) : Option (Int) :=
  ((ckinds_Check x.1).bind fun x1 => (bif (x1 != (0 : Int)) then (some x1) else (loop0 (x.1, x.2, (List.length x.2 : Int), (0 : Int)))))
def mkinds_checked (N : Nat) (x : Y4 × Y2) : Option (Int) := nkinds_checked (iterV (gkinds_checked_0 N) N) x
theorem jkinds_checked (N : Nat) (x : Y4 × Y2) : rise (Ekinds_checked) Tkinds_checked 6 N Try.f48 [Z4, Z5] [Z1] [false] x = nkinds_checked (fun v => iterR (floc (Ekinds_checked) Tkinds_checked 6 N Try.f48 [Z1] [false] [] 0 nowhereR) N (ekinds_checked_0 v)) x := by kernel_rfl
theorem lkinds_checked (N : Nat) (x : Y4 × Y2) : rise (Ekinds_checked) Tkinds_checked 6 N Try.f48 [Z4, Z5] [Z1] [false] x = mkinds_checked N x := (jkinds_checked N x).trans (by rw [funext (iterR_eq ekinds_checked_0 (bkinds_checked_0 N) N)]; rfl)
def ckinds_checked (x : Y4 × Y2) : Option (Int) := mkinds_checked big x
def Gkinds_checked : Fn2 := ⟨[Z4, Z5], [Z1], [false], fun x => ckinds_checked x⟩
theorem Lkinds_checked : Rises Try.prog 48 Gkinds_checked := rises_of (E := Ekinds_checked) ⟨tabOk, (fsCons2 Lkinds_Check (fsCons2 Lkinds_isIndex fsNil2)), fun _ _ _ => rfl, mixed, inlNil, rcsNil⟩ Try.func48 rfl (by decide) (by kernel_rfl) (by kernel_rfl) (by kernel_rfl) (by kernel_rfl) (fun x r _ h => ⟨Tkinds_checked, 6, big, (lkinds_checked big x).trans h⟩)

def Tkinds_parts : LT := { live := [(7,[3,20,21,22])],keep := [(1,[]),(2,[1]),(3,[1]),(4,[3,5,20,21,22,26]),(5,[3,20,21,22,24,26]),(6,[1]),(7,[1]),(8,[1,7]),(9,[1,7]),(10,[]),(11,[]),(12,[]),(13,[1]),(14,[1]),(15,[1]),(16,[1]),(17,[1]),(18,[1]),(19,[3]),(20,[3]),(21,[3,20]),(22,[3,20,21]),(23,[3,20,21,22]),(24,[3,20,21,22]),(25,[3,20,21,22,24]),(26,[3,20,21,22,24]),(27,[3,4,5,20,21,22]),(28,[3,5,20,21,22,27]),(29,[3,20,21,22,27,28]),(30,[3,20,21,22,27,28]),(31,[3,20,21,22,30]),(32,[3,20,21]),(33,[])] }
/-! ### wreckage/kinds.parts -/
noncomputable def Ekinds_parts (mk : (α : Type) → Nat → α → List α) : Env2 := { tab := tab, fs := [], inl := [], rep := mk }
noncomputable def ekinds_parts_0 (v : Y3 × Int × Int × Y2) : St := { s := [(3, (.row 0)), (20, (.val ⟨Z3, v.1⟩)), (21, (.val ⟨Z1, v.2.1⟩)), (22, (.val ⟨Z1, v.2.2.1⟩))], l := [(0, .row Z1 v.2.2.2)], k := [], b := 4096 }
def hkinds_parts_0 (mk : (α : Type) → Nat → α → List α) (self0 : Y3 × Int × Int × Y2 → Option (Y2)) (v : Y3 × Int × Int × Y2) : Option (Y2) :=
  (bif (decide (v.2.2.1 < v.2.1)) then ((getI v.1 v.2.2.1).bind fun x2 => (bif (decide (0 ≤ v.2.2.1) && decide (v.2.2.1 < (List.length v.2.2.2 : Int))) then (let x3 : Y2 := (List.set v.2.2.2 (Int.toNat v.2.2.1) x2.2.1); (let x4 : Int := (IntKind.i64.wrap (v.2.2.1 + (1 : Int))); (self0 (v.1, v.2.1, x4, x3)))) else none)) else (some v.2.2.2))
def gkinds_parts_0 (mk : (α : Type) → Nat → α → List α) (N : Nat) (self0 : Y3 × Int × Int × Y2 → Option (Y2)) (v : Y3 × Int × Int × Y2) : Option (Y2) := hkinds_parts_0 mk self0 v
theorem kkinds_parts_0 (mk : (α : Type) → Nat → α → List α) (N : Nat) (s0 : St → Option (Y2)) (v) : (floc (Ekinds_parts mk) Tkinds_parts 6 N Try.f65 [Z5] [true] [] 0 nowhereR) s0 (ekinds_parts_0 v) = hkinds_parts_0 mk (fun v => s0 (ekinds_parts_0 v)) v := by kernel_rfl
theorem bkinds_parts_0 (mk : (α : Type) → Nat → α → List α) (N : Nat) (s0 : St → Option (Y2)) (v) : (floc (Ekinds_parts mk) Tkinds_parts 6 N Try.f65 [Z5] [true] [] 0 nowhereR) s0 (ekinds_parts_0 v) = gkinds_parts_0 mk N (fun v => s0 (ekinds_parts_0 v)) v := kkinds_parts_0 mk N s0 v
def nkinds_parts (mk : (α : Type) → Nat → α → List α) (loop0 : Y3 × Int × Int × Y2 → Option (Y2)) (x : Y0) : Option (Y2) :=
  (bif (x.1 == (6 : Int)) then (some ([x.2.1] : Y2)) else (bif (x.1 == (5 : Int)) then (bif (decide (0 ≤ (List.length x.2.2.2.1 : Int)) && (decide ((List.length x.2.2.2.1 : Int) ≤ (List.length x.2.2.2.1 : Int)) && (decide ((List.length x.2.2.2.1 : Int) ≤ 68719476736) && true))) then (let x1 : Y2 := (mk Int (Int.toNat (List.length x.2.2.2.1 : Int)) (0 : Int)); (loop0 (x.2.2.2.1, (List.length x.2.2.2.1 : Int), (0 : Int), x1))) else none) else (some ([] : List Int))))
def mkinds_parts (mk : (α : Type) → Nat → α → List α) (N : Nat) (x : Y0) : Option (Y2) := nkinds_parts mk (iterV (gkinds_parts_0 mk N) N) x
theorem jkinds_parts (mk : (α : Type) → Nat → α → List α) (N : Nat) (x : Y0) : rise (Ekinds_parts mk) Tkinds_parts 6 N Try.f65 [Z0] [Z5] [true] x = nkinds_parts mk (fun v => iterR (floc (Ekinds_parts mk) Tkinds_parts 6 N Try.f65 [Z5] [true] [] 0 nowhereR) N (ekinds_parts_0 v)) x := by kernel_rfl
theorem lkinds_parts (mk : (α : Type) → Nat → α → List α) (N : Nat) (x : Y0) : rise (Ekinds_parts mk) Tkinds_parts 6 N Try.f65 [Z0] [Z5] [true] x = mkinds_parts mk N x := (jkinds_parts mk N x).trans (by rw [funext (iterR_eq ekinds_parts_0 (bkinds_parts_0 mk N) N)]; rfl)
def ckinds_parts (x : Y0) : Option (Y2) := mkinds_parts (fun _ => List.replicate) big x
def Gkinds_parts : Fn2 := ⟨[Z0], [Z5], [true], fun x => ckinds_parts x⟩
theorem Lkinds_parts : Rises Try.prog 65 Gkinds_parts := rises_of (E := Ekinds_parts (fun _ => List.replicate)) ⟨tabOk, fsNil2, fun _ _ _ => rfl, mixed, inlNil, rcsNil⟩ Try.func65 rfl (by decide) (by kernel_rfl) (by kernel_rfl) (by kernel_rfl) (by kernel_rfl) (fun x r _ h => ⟨Tkinds_parts, 6, big, (lkinds_parts (fun _ => List.replicate) big x).trans h⟩)

def Tkinds_next : LT := { live := [],keep := [(1,[]),(2,[1]),(3,[1]),(4,[1]),(5,[1]),(6,[1]),(7,[1,6]),(8,[1,6]),(9,[1,6]),(10,[1]),(11,[]),(12,[]),(13,[]),(14,[]),(15,[])] }
/-! ### wreckage/kinds.next -/
noncomputable def Ekinds_next : Env2 := { tab := tab, fs := [(65, Gkinds_parts)], inl := [] }
def nkinds_next (x : Y0) : Option (Y2) :=
  (bif (x.1 == (4 : Int)) then (some ([x.2.1] : Y2)) else (bif (x.1 == (7 : Int)) then (some ([x.2.1] : Y2)) else ((ckinds_parts x).bind fun x1 => (some x1))))
def mkinds_next (N : Nat) (x : Y0) : Option (Y2) := nkinds_next x
theorem jkinds_next (N : Nat) (x : Y0) : rise (Ekinds_next) Tkinds_next 6 N Try.f51 [Z0] [Z5] [true] x = nkinds_next x := by kernel_rfl
theorem lkinds_next (N : Nat) (x : Y0) : rise (Ekinds_next) Tkinds_next 6 N Try.f51 [Z0] [Z5] [true] x = mkinds_next N x := (jkinds_next N x).trans rfl
def ckinds_next (x : Y0) : Option (Y2) := mkinds_next big x
def Gkinds_next : Fn2 := ⟨[Z0], [Z5], [true], fun x => ckinds_next x⟩
theorem Lkinds_next : Rises Try.prog 51 Gkinds_next := rises_of (E := Ekinds_next) ⟨tabOk, (fsCons2 Lkinds_parts fsNil2), fun _ _ _ => rfl, mixed, inlNil, rcsNil⟩ Try.func51 rfl (by decide) (by kernel_rfl) (by kernel_rfl) (by kernel_rfl) (by kernel_rfl) (fun x r _ h => ⟨Tkinds_next, 6, big, (lkinds_next big x).trans h⟩)

def Tapi_Field : LT := { live := [(4,[1,2,15,16,17])],keep := [(6,[0,1,2]),(7,[1,2,8,15,16,17,21]),(8,[1,2,15,16,17,19,21]),(9,[1,2,8,15,16,17,25]),(10,[0,1,2]),(11,[0,1,2]),(12,[0,1,2,11]),(13,[0,1,2,11]),(14,[0,1,2]),(15,[1,2]),(16,[1,2,15]),(17,[1,2,15,16]),(18,[1,2,15,16,17]),(19,[1,2,15,16,17]),(20,[1,2,15,16,17,19]),(21,[1,2,15,16,17,19]),(22,[1,2,7,8,15,16,17]),(23,[1,2,8,15,16,17,22]),(24,[1,2,8,15,16,17]),(25,[1,2,8,15,16,17]),(26,[1,2,8,9,15,16,17]),(27,[1,2,9,15,16,17,26]),(28,[1,2,15,16,17,26,27]),(29,[1,2,15,16,17]),(30,[1,2,15,16,17]),(31,[1,2,15,16])] }


def Tkinds_isOfOneForm_1 : LT := { live := [],keep := [(2,[1]),(3,[2]),(4,[2,3]),(5,[3]),(6,[3]),(7,[6]),(8,[6]),(9,[])] }
/-! ### wreckage/kinds.isOfOneForm$1 -/
noncomputable def Ekinds_isOfOneForm_1 : Env2 := { tab := tab, fs := [], inl := [] }
def nkinds_isOfOneForm_1 (x : (Y2 × (Int × Unit)) × (Y2 × (Int × Unit))) : Option (Bool) :=
  (some (eqD .str x.1.1 x.2.1))
def mkinds_isOfOneForm_1 (N : Nat) (x : (Y2 × (Int × Unit)) × (Y2 × (Int × Unit))) : Option (Bool) := nkinds_isOfOneForm_1 x
theorem jkinds_isOfOneForm_1 (N : Nat) (x : (Y2 × (Int × Unit)) × (Y2 × (Int × Unit))) : rise (Ekinds_isOfOneForm_1) Tkinds_isOfOneForm_1 6 N Try.f64 [(.pair .str (.pair Z1 .unit)), (.pair .str (.pair Z1 .unit))] [.bool] [false] x = nkinds_isOfOneForm_1 x := by kernel_rfl
theorem lkinds_isOfOneForm_1 (N : Nat) (x : (Y2 × (Int × Unit)) × (Y2 × (Int × Unit))) : rise (Ekinds_isOfOneForm_1) Tkinds_isOfOneForm_1 6 N Try.f64 [(.pair .str (.pair Z1 .unit)), (.pair .str (.pair Z1 .unit))] [.bool] [false] x = mkinds_isOfOneForm_1 N x := (jkinds_isOfOneForm_1 N x).trans rfl
def ckinds_isOfOneForm_1 (x : (Y2 × (Int × Unit)) × (Y2 × (Int × Unit))) : Option (Bool) := mkinds_isOfOneForm_1 big x
def Gkinds_isOfOneForm_1 : Fn2 := ⟨[(.pair .str (.pair Z1 .unit)), (.pair .str (.pair Z1 .unit))], [.bool], [false], fun x => ckinds_isOfOneForm_1 x⟩
theorem Lkinds_isOfOneForm_1 : Rises Try.prog 64 Gkinds_isOfOneForm_1 := rises_of (E := Ekinds_isOfOneForm_1) ⟨tabOk, fsNil2, fun _ _ _ => rfl, mixed, inlNil, rcsNil⟩ Try.func64 rfl (by decide) (by kernel_rfl) (by kernel_rfl) (by kernel_rfl) (by kernel_rfl) (fun x r _ h => ⟨Tkinds_isOfOneForm_1, 6, big, (lkinds_isOfOneForm_1 big x).trans h⟩)

def Tkinds_isOfOneForm : LT := { live := [],keep := [(2,[1]),(3,[2]),(4,[2,3]),(5,[2,3]),(6,[2,3]),(7,[2,3,6]),(8,[2,3,6]),(9,[2,3]),(10,[2,3]),(11,[2,3,10]),(12,[2,3,10]),(13,[2,3,10,12]),(14,[2,3,10,12]),(15,[2,3,10]),(16,[2,3]),(17,[2,3]),(18,[3,17]),(19,[3,17]),(20,[17,19]),(21,[17,19]),(22,[17]),(23,[])] }
/-! ### wreckage/kinds.isOfOneForm -/
noncomputable def Ekinds_isOfOneForm : Env2 := { tab := tab, fs := [(64, Gkinds_isOfOneForm_1)], inl := [(63, Try.f63, Tapi_Field)] }
noncomputable def ekinds_isOfOneForm_0 (v : Y3 × Y3 × Int × Int × Bool) : St := { s := [(1, (.val ⟨Z3, v.1⟩)), (2, (.clo 64 .unit)), (15, (.val ⟨Z3, v.2.1⟩)), (16, (.val ⟨Z1, v.2.2.1⟩)), (17, (.val ⟨Z1, v.2.2.2.1⟩))], l := [], k := [(4096, [(17, (.val ⟨.bool, v.2.2.2.2⟩))])], b := 16871424 }
def hkinds_isOfOneForm_0 (self0 : Y3 × Y3 × Int × Int × Bool → Option (Bool)) (v : Y3 × Y3 × Int × Int × Bool) : Option (Bool) :=
  (bif (decide (v.2.2.2.1 < v.2.2.1)) then ((getI v.2.1 v.2.2.2.1).bind fun x1 => ((getI v.1 v.2.2.2.1).bind fun x2 => ((ckinds_isOfOneForm_1 (x1, x2)).bind fun x3 => (bif (!x3) then (bif v.2.2.2.2 then (some false) else (some false)) else (let x4 : Int := (IntKind.i64.wrap (v.2.2.2.1 + (1 : Int))); (self0 (v.1, v.2.1, v.2.2.1, x4, v.2.2.2.2))))))) else (bif v.2.2.2.2 then (some true) else (some false)))
def gkinds_isOfOneForm_0 (N : Nat) (self0 : Y3 × Y3 × Int × Int × Bool → Option (Bool)) (v : Y3 × Y3 × Int × Int × Bool) : Option (Bool) := hkinds_isOfOneForm_0 self0 v
theorem kkinds_isOfOneForm_0 (N : Nat) (s0 : St → Option (Bool)) (v) : (floc (Ekinds_isOfOneForm) Tkinds_isOfOneForm 6 N Try.f50 [.bool] [false] [(1, 17, 63)] 0 nowhereR) s0 (ekinds_isOfOneForm_0 v) = hkinds_isOfOneForm_0 (fun v => s0 (ekinds_isOfOneForm_0 v)) v := by kernel_rfl
theorem bkinds_isOfOneForm_0 (N : Nat) (s0 : St → Option (Bool)) (v) : (floc (Ekinds_isOfOneForm) Tkinds_isOfOneForm 6 N Try.f50 [.bool] [false] [(1, 17, 63)] 0 nowhereR) s0 (ekinds_isOfOneForm_0 v) = gkinds_isOfOneForm_0 N (fun v => s0 (ekinds_isOfOneForm_0 v)) v := kkinds_isOfOneForm_0 N s0 v
def nkinds_isOfOneForm (loop0 : Y3 × Y3 × Int × Int × Bool → Option (Bool)) (x : Y0 × Y0) : Option (Bool) :=
  (bif (x.1.1 == x.2.1) then (bif (x.1.2.2.1 == x.2.2.2.1) then (bif ((List.length x.1.2.2.2.1 : Int) != (List.length x.2.2.2.2.1 : Int)) then (some false) else (loop0 (x.2.2.2.2.1, x.1.2.2.2.1, (List.length x.1.2.2.2.1 : Int), (0 : Int), true))) else (some false)) else (some false))
def mkinds_isOfOneForm (N : Nat) (x : Y0 × Y0) : Option (Bool) := nkinds_isOfOneForm (iterV (gkinds_isOfOneForm_0 N) N) x
theorem jkinds_isOfOneForm (N : Nat) (x : Y0 × Y0) : rise (Ekinds_isOfOneForm) Tkinds_isOfOneForm 6 N Try.f50 [Z0, Z0] [.bool] [false] x = nkinds_isOfOneForm (fun v => iterR (floc (Ekinds_isOfOneForm) Tkinds_isOfOneForm 6 N Try.f50 [.bool] [false] [(1, 17, 63)] 0 nowhereR) N (ekinds_isOfOneForm_0 v)) x := by kernel_rfl
theorem lkinds_isOfOneForm (N : Nat) (x : Y0 × Y0) : rise (Ekinds_isOfOneForm) Tkinds_isOfOneForm 6 N Try.f50 [Z0, Z0] [.bool] [false] x = mkinds_isOfOneForm N x := (jkinds_isOfOneForm N x).trans (by rw [funext (iterR_eq ekinds_isOfOneForm_0 (bkinds_isOfOneForm_0 N) N)]; rfl)
def ckinds_isOfOneForm (x : Y0 × Y0) : Option (Bool) := mkinds_isOfOneForm big x
def Gkinds_isOfOneForm : Fn2 := ⟨[Z0, Z0], [.bool], [false], fun x => ckinds_isOfOneForm x⟩
theorem Lkinds_isOfOneForm : Rises Try.prog 50 Gkinds_isOfOneForm := rises_of (E := Ekinds_isOfOneForm) ⟨tabOk, (fsCons2 Lkinds_isOfOneForm_1 fsNil2), fun _ _ _ => rfl, mixed, (inlCons (inlB_of Try.func63 rfl rfl (by kernel_rfl)) inlNil), rcsNil⟩ Try.func50 rfl (by decide) (by kernel_rfl) (by kernel_rfl) (by kernel_rfl) (by kernel_rfl) (fun x r _ h => ⟨Tkinds_isOfOneForm, 6, big, (lkinds_isOfOneForm big x).trans h⟩)

def Tkinds_Same_1 : LT := { live := [(9,[4,9,39,40,41])],keep := [(7,[0,1,2,3,4]),(8,[0,1,2,3,4,14]),(9,[0,3,4]),(10,[4,9,39,40,41,45]),(11,[4,9,10,39,40,41]),(12,[0,1,2,3,4]),(13,[0,1,2,3,4,12]),(14,[0,1,2,3,4]),(15,[0,1,2,3,4,8]),(16,[0,1,2,3,4,8,15]),(17,[0,1,2,3,4,8]),(18,[0,1,3,4,8]),(19,[0,1,3,4,18]),(20,[0,1,3,4]),(21,[0,1,3,4,20]),(22,[0,1,3,4]),(23,[0,1,3,4]),(24,[0,1,3,4,23]),(25,[0,1,3,4,23,24]),(26,[0,1,3,4,23]),(27,[0,1,3,4,23]),(28,[0,1,3,4]),(29,[0,1,3,4]),(30,[0,1,3,4]),(31,[0,3,4,30]),(32,[0,3,4]),(33,[0,3,4]),(34,[0,3,4]),(35,[0,4,9]),(36,[4,9,35]),(37,[4,9]),(38,[4,9]),(39,[4,9]),(40,[4,9,39]),(41,[4,9,39,40]),(42,[4,9,39,40,41]),(43,[4,9,39,40,41]),(44,[4,9,39,40,41,43]),(45,[4,9,39,40,41,43]),(46,[4,9,10,11,39,40,41]),(47,[4,9,10,39,40,41,46]),(48,[4,9,10,39,40,41,46,47]),(49,[4,9,39,40,41,46,47,48]),(50,[4,9,39,40,41,46,47]),(51,[4,9,39,40,41,46,47]),(52,[4,9,39,40,41]),(53,[4,9,39,40,41]),(54,[4,9,39,40])] }


def Tkinds_Same : LT := { live := [],keep := [(3,[1,2]),(6,[1,2,3]),(7,[1,2,3]),(8,[1,2,3]),(9,[1,2,3,19]),(10,[1,2,3,9]),(11,[1,2,3]),(12,[1,2,3,11]),(13,[1,2,3,11,12]),(14,[1,2,3,11]),(15,[1,2,3]),(16,[1,2,3,8]),(17,[1,2,3,8]),(18,[]),(19,[1,2,3]),(20,[1,2,10]),(21,[1,2]),(22,[2,21]),(23,[21,22]),(24,[])] }
@[reducible] def Pkinds_Same_1 (me : Y7 → Y6 → Option (Y8 × Bool)) : RecC := ⟨[.hole Z1, .hole Z1, .fix (.loc 0 []), .fix (.loc 2 []), .fix (.loc 3 [])], [.var (.mp (.arr 2 Z1) .bool) (.fix (.mp 1)), .mp (.arr 2 Z1) .bool, .var Z4 (.hole Z4), .var .fn (.fix (.clo 49 (.pair (.loc 0 []) (.pair (.loc 2 []) (.pair (.loc 3 []) .unit)))))], 1, [.bool], me⟩
/-! ### wreckage/kinds.Same$1 -/
noncomputable def Ekinds_Same_1 (me : Y7 → Y6 → Option (Y8 × Bool)) : Env2 := { tab := tab, fs := [(50, Gkinds_isOfOneForm), (51, Gkinds_next)], inl := [], rcs := [(49, Pkinds_Same_1 me)] }
noncomputable def ekinds_Same_1_0 (v : Int × Int × Y8 × Y4 × Y2 × Y2) : St := { s := [(4, (.loc 0 [])), (9, (.row 4)), (39, (.row 5)), (40, (.val ⟨Z1, v.1⟩)), (41, (.val ⟨Z1, v.2.1⟩))], l := [(0, .var .fn (.clo 49 (.pair (.loc 1 []) (.pair (.loc 3 []) (.pair (.loc 0 []) .unit))))), (1, .var (.mp (.arr 2 Z1) .bool) (.mp 2)), (2, .mp (.arr 2 Z1) .bool v.2.2.1), (3, .var Z4 (.val ⟨Z4, v.2.2.2.1⟩)), (4, .row Z1 v.2.2.2.2.1), (5, .row Z1 v.2.2.2.2.2)], k := [(0, [(0, (.loc 1 [])), (1, (.mp 2)), (2, (.loc 3 [])), (3, (.loc 0 []))])], b := 4096 }
def hkinds_Same_1_0 (me : Y7 → Y6 → Option (Y8 × Bool)) (y : Y6) (self0 : Int × Int × Y8 × Y4 × Y2 × Y2 → Option (Y8 × Bool)) (v : Int × Int × Y8 × Y4 × Y2 × Y2) : Option (Y8 × Bool) :=
  (bif (decide (v.2.1 < v.1)) then (bif (decide (0 ≤ v.2.1) && decide (v.2.1 < (List.length v.2.2.2.2.2 : Int))) then ((nth v.2.2.2.2.2 (Int.toNat v.2.1)).bind fun x9 => (bif (decide (0 ≤ v.2.1) && decide (v.2.1 < (List.length v.2.2.2.2.1 : Int))) then ((nth v.2.2.2.2.1 (Int.toNat v.2.1)).bind fun x10 => ((me (x9, (x10, ((), ((), ((), ()))))) ((), (v.2.2.1, (v.2.2.2.1, ((), ()))))).bind fun x11 => (bif (!x11.2) then (bif (@eqD Z4 y.2.2.1 v.2.2.2.1) then (some (x11.1, false)) else none) else (let x12 : Int := (IntKind.i64.wrap (v.2.1 + (1 : Int))); (self0 (v.1, x12, x11.1, v.2.2.2.1, v.2.2.2.2.1, v.2.2.2.2.2)))))) else none)) else none) else (bif (@eqD Z4 y.2.2.1 v.2.2.2.1) then (some (v.2.2.1, true)) else none))
def gkinds_Same_1_0 (me : Y7 → Y6 → Option (Y8 × Bool)) (y : Y6) (N : Nat) (self0 : Int × Int × Y8 × Y4 × Y2 × Y2 → Option (Y8 × Bool)) (v : Int × Int × Y8 × Y4 × Y2 × Y2) : Option (Y8 × Bool) := hkinds_Same_1_0 me y self0 v
theorem kkinds_Same_1_0 (me : Y7 → Y6 → Option (Y8 × Bool)) (y : Y6) (N : Nat) (s0 : St → Option (Y8 × Bool)) (v) : (flocR (Ekinds_Same_1 me) Tkinds_Same_1 6 N Try.f49 (Pkinds_Same_1 me) y [] 0 nowhereR) s0 (ekinds_Same_1_0 v) = hkinds_Same_1_0 me y (fun v => s0 (ekinds_Same_1_0 v)) v := by kernel_rfl
theorem bkinds_Same_1_0 (me : Y7 → Y6 → Option (Y8 × Bool)) (y : Y6) (N : Nat) (s0 : St → Option (Y8 × Bool)) (v) : (flocR (Ekinds_Same_1 me) Tkinds_Same_1 6 N Try.f49 (Pkinds_Same_1 me) y [] 0 nowhereR) s0 (ekinds_Same_1_0 v) = gkinds_Same_1_0 me y N (fun v => s0 (ekinds_Same_1_0 v)) v := kkinds_Same_1_0 me y N s0 v
def nkinds_Same_1 (me : Y7 → Y6 → Option (Y8 × Bool)) (y : Y6) (loop0 : Int × Int × Y8 × Y4 × Y2 × Y2 → Option (Y8 × Bool)) (x : Y7) : Option (Y8 × Bool) :=
  (bif (@atK (.arr 2 Z1) .bool [x.1, x.2.1] false y.2.1).1 then (bif (@eqD Z4 y.2.2.1 y.2.2.1) then (some (y.2.1, true)) else none) else (let x1 : Y8 := (@putK (.arr 2 Z1) .bool [x.1, x.2.1] true y.2.1); ((getI y.2.2.1 x.1).bind fun x2 => ((getI y.2.2.1 x.2.1).bind fun x3 => ((ckinds_isOfOneForm (x2, x3)).bind fun x4 => (bif (!x4) then (bif (@eqD Z4 y.2.2.1 y.2.2.1) then (some (x1, false)) else none) else ((getI y.2.2.1 x.2.1).bind fun x5 => ((ckinds_next x5).bind fun x6 => ((getI y.2.2.1 x.1).bind fun x7 => ((ckinds_next x7).bind fun x8 => (loop0 ((List.length x8 : Int), (0 : Int), x1, y.2.2.1, x6, x8))))))))))))
def mkinds_Same_1 (me : Y7 → Y6 → Option (Y8 × Bool)) (y : Y6) (N : Nat) (x : Y7) : Option (Y8 × Bool) := nkinds_Same_1 me y (iterV (gkinds_Same_1_0 me y N) N) x
theorem jkinds_Same_1 (me : Y7 → Y6 → Option (Y8 × Bool)) (y : Y6) (N : Nat) (x : Y7) : riseR (Ekinds_Same_1 me) Tkinds_Same_1 6 N Try.f49 (Pkinds_Same_1 me) x y = nkinds_Same_1 me y (fun v => iterR (flocR (Ekinds_Same_1 me) Tkinds_Same_1 6 N Try.f49 (Pkinds_Same_1 me) y [] 0 nowhereR) N (ekinds_Same_1_0 v)) x := by kernel_rfl
theorem lkinds_Same_1 (me : Y7 → Y6 → Option (Y8 × Bool)) (y : Y6) (N : Nat) (x : Y7) : riseR (Ekinds_Same_1 me) Tkinds_Same_1 6 N Try.f49 (Pkinds_Same_1 me) x y = mkinds_Same_1 me y N x := (jkinds_Same_1 me y N x).trans (by rw [funext (iterR_eq ekinds_Same_1_0 (bkinds_Same_1_0 me y N) N)]; rfl)
def rkinds_Same_1 : Nat → Y7 → Y6 → Option (Y8 × Bool)
  | 0, _, _ => none
  | k + 1, x, y => mkinds_Same_1 (rkinds_Same_1 k) y big x
def ckinds_Same_1 (x : Y7) (y : Y6) : Option (Y8 × Bool) := rkinds_Same_1 big x y
@[reducible] def Ckinds_Same_1 : RecC := Pkinds_Same_1 ckinds_Same_1
theorem Rkinds_Same_1 : ∀ k, RecOk Try.prog 49 (Pkinds_Same_1 (rkinds_Same_1 k))
  | 0 => rec_none Try.func49 rfl (by decide)
  | k + 1 => by
    have ih := Rkinds_Same_1 k
    exact rec_of (E := Ekinds_Same_1 (rkinds_Same_1 k)) ⟨tabOk, (fsCons2 Lkinds_isOfOneForm (fsCons2 Lkinds_next fsNil2)), fun _ _ _ => rfl, mixed, inlNil, rcsCons ih rcsNil⟩ Try.func49 rfl (by decide) (by kernel_rfl) (by kernel_rfl) (by kernel_rfl) (fun x y r h => ⟨Tkinds_Same_1, 6, big, (lkinds_Same_1 (rkinds_Same_1 k) y big x).trans h⟩)
theorem Lkinds_Same_1 : RecOk Try.prog 49 Ckinds_Same_1 := Rkinds_Same_1 big
/-! ### wreckage/kinds.Same -/
noncomputable def Ekinds_Same : Env2 := { tab := tab, fs := [(48, Gkinds_checked)], inl := [], rcs := [(49, Ckinds_Same_1)] }
def nkinds_Same (x : Y16) : Option (Bool × Int) :=
  (let x1 : Y2 := ([x.2.1, x.2.2] : Y2); ((ckinds_checked (x.1, x1)).bind fun x2 => (bif (x2 != (0 : Int)) then (some (false, x2)) else ((ckinds_Same_1 (x.2.1, (x.2.2, ((), ((), ((), ()))))) ((), (([] : List (Y2 × Bool)), (x.1, ((), ()))))).bind fun x3 => (some (x3.2, (0 : Int)))))))
def mkinds_Same (N : Nat) (x : Y16) : Option (Bool × Int) := nkinds_Same x
theorem jkinds_Same (N : Nat) (x : Y16) : rise (Ekinds_Same) Tkinds_Same 6 N Try.f31 [Z4, Z1, Z1] [.bool, Z1] [false, false] x = nkinds_Same x := by kernel_rfl
theorem lkinds_Same (N : Nat) (x : Y16) : rise (Ekinds_Same) Tkinds_Same 6 N Try.f31 [Z4, Z1, Z1] [.bool, Z1] [false, false] x = mkinds_Same N x := (jkinds_Same N x).trans rfl
def ckinds_Same (x : Y16) : Option (Bool × Int) := mkinds_Same big x
def Gkinds_Same : Fn2 := ⟨[Z4, Z1, Z1], [.bool, Z1], [false, false], fun x => ckinds_Same x⟩
theorem Lkinds_Same : Rises Try.prog 31 Gkinds_Same := rises_of (E := Ekinds_Same) ⟨tabOk, (fsCons2 Lkinds_checked fsNil2), fun _ _ _ => rfl, mixed, inlNil, (rcsCons Lkinds_Same_1 rcsNil)⟩ Try.func31 rfl (by decide) (by kernel_rfl) (by kernel_rfl) (by kernel_rfl) (by kernel_rfl) (fun x r _ h => ⟨Tkinds_Same, 6, big, (lkinds_Same big x).trans h⟩)

end Go.Proofs.Ytnhiaoabhjjegaa
