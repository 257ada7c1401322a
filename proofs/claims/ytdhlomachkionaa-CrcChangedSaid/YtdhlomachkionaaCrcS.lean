/- Functions of the program, read as plain functions: each equation is checked by the kernel. -/
import Derived.Test.YtdhlomachkionaaRiP
import Derived.Test.YtdhlomachkionaaProg
import Derived.KernelRfl
set_option linter.unusedVariables false
set_option maxRecDepth 100000
namespace Go.Proofs.Ytdhlomachkionaa
open Go.Lift
def tab : List (TypeId × Ty) := [(3, (.int .i64)), (4, .bool), (5, (.int .u8)), (9, .str), (22, (.int .u32)), (23, (.arr 256 (.int .u32))), (25, (.slice (.int .u8))), (26, (.int .i64)), (34, (.arr 4 (.int .u8))), (48, (.int .u64)), (94, (.ptr (.arr 256 (.int .u32))))]
theorem mixed : Try.prog.follows .mixedOrders = true := by kernel_rfl
theorem tabOk : TabOk Try.prog tab := tabOk_of (by kernel_rfl) (by kernel_rfl) (by kernel_rfl)
def Tref01_Long : LT := { live := [], keep := [(2, [0]), (3, [0]), (4, [0]), (5, [0]), (6, [0]), (7, [0, 6]), (8, [0, 6]), (9, [0, 6]), (10, [0]), (11, [0]), (12, [11]), (13, [11]), (14, [11]), (15, [])] }
/-! ### wreckage/wreckageref01.Long -/
noncomputable def Eref01_Long : Env2 := { tab := tab, fs := [], inl := [] }
def nref01_Long (x : (List Int)) : Option (Bool) :=
  (bif (decide ((List.length x : Int) > (700 : Int))) then (bif (decide ((List.length x : Int) ≤ (200000 : Int))) then (some true) else (some (decide ((List.length x : Int) > (200100 : Int))))) else (some (decide ((List.length x : Int) > (200100 : Int)))))
def mref01_Long (N : Nat) (x : (List Int)) : Option (Bool) := nref01_Long x
theorem jref01_Long (N : Nat) (x) : rise (Eref01_Long) Tref01_Long 6 N Try.f23 [(.slice (.int .u8))] [.bool] [false] x = nref01_Long x := by kernel_rfl
theorem lref01_Long (N : Nat) (x) : rise (Eref01_Long) Tref01_Long 6 N Try.f23 [(.slice (.int .u8))] [.bool] [false] x = mref01_Long N x := (jref01_Long N x).trans rfl
def cref01_Long (x : (List Int)) : Option (Bool) := mref01_Long big x
def Gref01_Long : Fn2 := ⟨[(.slice (.int .u8))], [.bool], [false], fun x => cref01_Long x⟩
theorem Lref01_Long : Rises Try.prog 23 Gref01_Long := rises_of (E := Eref01_Long) ⟨tabOk, fsNil2, fun _ _ _ => rfl, mixed, inlNil⟩ Try.func23 rfl (by decide) (by kernel_rfl) (by kernel_rfl) (by kernel_rfl) (by kernel_rfl) (fun x r _ h => ⟨Tref01_Long, 6, big, (lref01_Long big x).trans h⟩)

def Tref01_Element : LT := { live := [(2, [0, 3])], keep := [(0, [3, 4]), (2, [0]), (3, [0]), (4, [0, 3]), (5, [0, 3]), (6, [0, 3]), (7, [0]), (8, [0]), (9, [0, 3]), (10, [0, 3]), (11, [0, 3]), (12, [3, 4]), (13, [3, 4]), (14, [0, 3]), (15, [3]), (16, [3]), (17, [])] }
/-! ### wreckage/wreckageref01.Element -/
noncomputable def Eref01_Element : Env2 := { tab := tab, fs := [], inl := [] }
noncomputable def eref01_Element_0 (v : Int × Int) : St := { s := [(0, (.val ⟨(.int .u32), v.1⟩)), (3, (.val ⟨(.int .i64), v.2⟩))], l := [], k := [], b := 4096 }
def href01_Element_0 (self0 : Int × Int → Option (Int)) (v : Int × Int) : Option (Int) :=
  (bif (decide (v.2 < (8 : Int))) then (let x1 : Int := (IntKind.u32.wrap (v.1.tdiv (2 : Int))); (bif ((v.1.tmod (2 : Int)) == (1 : Int)) then (let x2 : Int := (bits .xor .u32 x1 (3988292384 : Int)); (let x3 : Int := (IntKind.i64.wrap (v.2 + (1 : Int))); (self0 (x2, x3)))) else (let x4 : Int := (IntKind.i64.wrap (v.2 + (1 : Int))); (self0 (x1, x4))))) else (some v.1))
def gref01_Element_0 (N : Nat) (self0 : Int × Int → Option (Int)) (v : Int × Int) : Option (Int) := href01_Element_0 self0 v
theorem kref01_Element_0 (N : Nat) (s0 : St → Option (Int)) (v) : (floc (Eref01_Element) Tref01_Element 6 N Try.f56 [(.int .u32)] [false] [] 0 nowhereR) s0 (eref01_Element_0 v) = href01_Element_0 (fun v => s0 (eref01_Element_0 v)) v := by kernel_rfl
theorem bref01_Element_0 (N : Nat) (s0 : St → Option (Int)) (v) : (floc (Eref01_Element) Tref01_Element 6 N Try.f56 [(.int .u32)] [false] [] 0 nowhereR) s0 (eref01_Element_0 v) = gref01_Element_0 N (fun v => s0 (eref01_Element_0 v)) v := kref01_Element_0 N s0 v
def nref01_Element (loop0 : Int × Int → Option (Int)) (x : Int) : Option (Int) :=
  (loop0 (x, (0 : Int)))
def mref01_Element (N : Nat) (x : Int) : Option (Int) := nref01_Element (iterV (gref01_Element_0 N) N) x
theorem jref01_Element (N : Nat) (x) : rise (Eref01_Element) Tref01_Element 6 N Try.f56 [(.int .u32)] [(.int .u32)] [false] x = nref01_Element (fun v => iterR (floc (Eref01_Element) Tref01_Element 6 N Try.f56 [(.int .u32)] [false] [] 0 nowhereR) N (eref01_Element_0 v)) x := by kernel_rfl
theorem lref01_Element (N : Nat) (x) : rise (Eref01_Element) Tref01_Element 6 N Try.f56 [(.int .u32)] [(.int .u32)] [false] x = mref01_Element N x := (jref01_Element N x).trans (by rw [funext (iterR_eq eref01_Element_0 (bref01_Element_0 N) N)]; rfl)
def cref01_Element (x : Int) : Option (Int) := mref01_Element big x
def Gref01_Element : Fn2 := ⟨[(.int .u32)], [(.int .u32)], [false], fun x => cref01_Element x⟩
theorem Lref01_Element : Rises Try.prog 56 Gref01_Element := rises_of (E := Eref01_Element) ⟨tabOk, fsNil2, fun _ _ _ => rfl, mixed, inlNil⟩ Try.func56 rfl (by decide) (by kernel_rfl) (by kernel_rfl) (by kernel_rfl) (by kernel_rfl) (fun x r _ h => ⟨Tref01_Element, 6, big, (lref01_Element big x).trans h⟩)

def Tref01_Table : LT := { live := [(3, [0, 1, 2])], keep := [(0, []), (1, [0]), (2, [0, 1]), (3, [0, 1, 2]), (4, [0, 1, 2]), (5, [0, 1]), (6, [0, 1]), (7, [0, 1, 2]), (8, [0, 1, 2, 7]), (9, [0, 1, 2, 7]), (10, [0, 1, 2, 7]), (11, [0, 1, 2, 10]), (12, [0])] }
/-! ### wreckage/wreckageref01.Table -/
noncomputable def Eref01_Table : Env2 := { tab := tab, fs := [(56, Gref01_Element)], inl := [] }
noncomputable def eref01_Table_0 (v : Int × (List Int) × (List Int)) : St := { s := [(0, (.loc 0 [])), (1, (.loc 1 [])), (2, (.val ⟨(.int .i64), v.1⟩))], l := [(0, .var (.arr 256 (.int .u32)) (.val ⟨(.arr 256 (.int .u32)), v.2.1⟩)), (1, .var (.arr 256 (.int .u32)) (.val ⟨(.arr 256 (.int .u32)), v.2.2⟩))], k := [], b := 4096 }
def href01_Table_0 (self0 : Int × (List Int) × (List Int) → Option ((List Int))) (v : Int × (List Int) × (List Int)) : Option ((List Int)) :=
  (bif (decide (v.1 < (256 : Int))) then ((cref01_Element (IntKind.u32.wrap v.1)).bind fun x1 => (bif (decide (0 ≤ v.1) && decide (v.1 < (256 : Int))) then (let x2 : (List Int) := (List.set v.2.2 (Int.toNat v.1) x1); (let x3 : Int := (IntKind.i64.wrap (v.1 + (1 : Int))); (self0 (x3, v.2.1, x2)))) else none)) else (some v.2.2))
def gref01_Table_0 (N : Nat) (self0 : Int × (List Int) × (List Int) → Option ((List Int))) (v : Int × (List Int) × (List Int)) : Option ((List Int)) := href01_Table_0 self0 v
theorem kref01_Table_0 (N : Nat) (s0 : St → Option ((List Int))) (v) : (floc (Eref01_Table) Tref01_Table 6 N Try.f15 [(.arr 256 (.int .u32))] [false] [] 0 nowhereR) s0 (eref01_Table_0 v) = href01_Table_0 (fun v => s0 (eref01_Table_0 v)) v := by kernel_rfl
theorem bref01_Table_0 (N : Nat) (s0 : St → Option ((List Int))) (v) : (floc (Eref01_Table) Tref01_Table 6 N Try.f15 [(.arr 256 (.int .u32))] [false] [] 0 nowhereR) s0 (eref01_Table_0 v) = gref01_Table_0 N (fun v => s0 (eref01_Table_0 v)) v := kref01_Table_0 N s0 v
def nref01_Table (loop0 : Int × (List Int) × (List Int) → Option ((List Int))) (x : Unit) : Option ((List Int)) :=
  (loop0 ((0 : Int), (List.replicate 256 (0 : Int)), (List.replicate 256 (0 : Int))))
def mref01_Table (N : Nat) (x : Unit) : Option ((List Int)) := nref01_Table (iterV (gref01_Table_0 N) N) x
theorem jref01_Table (N : Nat) (x) : rise (Eref01_Table) Tref01_Table 6 N Try.f15 [] [(.arr 256 (.int .u32))] [false] x = nref01_Table (fun v => iterR (floc (Eref01_Table) Tref01_Table 6 N Try.f15 [(.arr 256 (.int .u32))] [false] [] 0 nowhereR) N (eref01_Table_0 v)) x := by kernel_rfl
theorem lref01_Table (N : Nat) (x) : rise (Eref01_Table) Tref01_Table 6 N Try.f15 [] [(.arr 256 (.int .u32))] [false] x = mref01_Table N x := (jref01_Table N x).trans (by rw [funext (iterR_eq eref01_Table_0 (bref01_Table_0 N) N)]; rfl)
def cref01_Table (x : Unit) : Option ((List Int)) := mref01_Table big x
def Gref01_Table : Fn2 := ⟨[], [(.arr 256 (.int .u32))], [false], fun x => cref01_Table x⟩
theorem Lref01_Table : Rises Try.prog 15 Gref01_Table := rises_of (E := Eref01_Table) ⟨tabOk, (fsCons2 Lref01_Element fsNil2), fun _ _ _ => rfl, mixed, inlNil⟩ Try.func15 rfl (by decide) (by kernel_rfl) (by kernel_rfl) (by kernel_rfl) (by kernel_rfl) (fun x r _ h => ⟨Tref01_Table, 6, big, (lref01_Table big x).trans h⟩)

def Tlaw01_table : LT := { live := [], keep := [(4, [0, 1]), (5, [0, 1, 4, 6]), (6, [0, 1, 4]), (7, [0, 1, 4, 5]), (8, [0, 1, 4, 5]), (9, [0, 1, 4, 5]), (10, [0, 1, 4, 5, 9]), (11, [0, 1, 4, 5, 9]), (12, [0, 1, 4, 5]), (13, [1, 4, 5]), (14, [1, 4, 5, 13]), (15, [1, 4, 5, 13]), (16, [4, 5, 13, 15]), (17, [4, 5, 13]), (18, [4, 5, 17]), (19, [4])] }
/-! ### wreckage/wreckagelaw01.table -/
noncomputable def Elaw01_table : Env2 := { tab := tab, fs := [(15, Gref01_Table)], inl := [] }
def nlaw01_table (x : Int × Int) : Option ((List Int)) :=
  ((cref01_Table ()).bind fun x1 => (bif (decide (x.1 ≥ (0 : Int))) then (bif (decide (x.1 < (256 : Int))) then (bif (decide (0 ≤ x.1) && decide (x.1 < (256 : Int))) then ((nth x1 (Int.toNat x.1)).bind fun x2 => (bif (decide (0 ≤ x.1) && decide (x.1 < (256 : Int))) then (let x3 : (List Int) := (List.set x1 (Int.toNat x.1) (bits .xor .u32 x2 x.2)); (some x3)) else none)) else none) else (some x1)) else (some x1)))
def mlaw01_table (N : Nat) (x : Int × Int) : Option ((List Int)) := nlaw01_table x
theorem jlaw01_table (N : Nat) (x) : rise (Elaw01_table) Tlaw01_table 6 N Try.f18 [(.int .i64), (.int .u32)] [(.arr 256 (.int .u32))] [false] x = nlaw01_table x := by kernel_rfl
theorem llaw01_table (N : Nat) (x) : rise (Elaw01_table) Tlaw01_table 6 N Try.f18 [(.int .i64), (.int .u32)] [(.arr 256 (.int .u32))] [false] x = mlaw01_table N x := (jlaw01_table N x).trans rfl
def claw01_table (x : Int × Int) : Option ((List Int)) := mlaw01_table big x
def Glaw01_table : Fn2 := ⟨[(.int .i64), (.int .u32)], [(.arr 256 (.int .u32))], [false], fun x => claw01_table x⟩
theorem Llaw01_table : Rises Try.prog 18 Glaw01_table := rises_of (E := Elaw01_table) ⟨tabOk, (fsCons2 Lref01_Table fsNil2), fun _ _ _ => rfl, mixed, inlNil⟩ Try.func18 rfl (by decide) (by kernel_rfl) (by kernel_rfl) (by kernel_rfl) (by kernel_rfl) (fun x r _ h => ⟨Tlaw01_table, 6, big, (llaw01_table big x).trans h⟩)

def Tcrc_turn : LT := { live := [], keep := [(2, [0]), (3, [0]), (4, [0]), (5, [0]), (6, []), (7, []), (8, []), (9, []), (10, [])] }
/-! ### wreckage/crc.turn -/
noncomputable def Ecrc_turn : Env2 := { tab := tab, fs := [], inl := [] }
def ncrc_turn (x : Int) : Option (Int) :=
  (let x1 : Int := (bits .and .u32 x (1 : Int)); (bif (x1 == (1 : Int)) then (let x2 : Int := (bits .xor .u32 (x.fdiv (2 ^ 1)) (3988292384 : Int)); (some x2)) else (some (x.fdiv (2 ^ 1)))))
def mcrc_turn (N : Nat) (x : Int) : Option (Int) := ncrc_turn x
theorem jcrc_turn (N : Nat) (x) : rise (Ecrc_turn) Tcrc_turn 6 N Try.f64 [(.int .u32)] [(.int .u32)] [false] x = ncrc_turn x := by kernel_rfl
theorem lcrc_turn (N : Nat) (x) : rise (Ecrc_turn) Tcrc_turn 6 N Try.f64 [(.int .u32)] [(.int .u32)] [false] x = mcrc_turn N x := (jcrc_turn N x).trans rfl
def ccrc_turn (x : Int) : Option (Int) := mcrc_turn big x
def Gcrc_turn : Fn2 := ⟨[(.int .u32)], [(.int .u32)], [false], fun x => ccrc_turn x⟩
theorem Lcrc_turn : Rises Try.prog 64 Gcrc_turn := rises_of (E := Ecrc_turn) ⟨tabOk, fsNil2, fun _ _ _ => rfl, mixed, inlNil⟩ Try.func64 rfl (by decide) (by kernel_rfl) (by kernel_rfl) (by kernel_rfl) (by kernel_rfl) (fun x r _ h => ⟨Tcrc_turn, 6, big, (lcrc_turn big x).trans h⟩)

def Tcrc_Table : LT := { live := [(3, [0, 1, 4]), (7, [0, 1, 2, 3, 4, 9])], keep := [(0, []), (1, [0]), (2, [0, 1, 4]), (3, [0, 1, 2, 4]), (4, [0, 1]), (5, [0, 1, 4]), (6, [0, 1, 4]), (7, [0, 1, 2, 4]), (8, [0, 1, 2, 4]), (9, [0, 1, 2, 3, 4]), (10, [0, 1, 2, 3, 4, 9]), (11, [0, 1, 2, 4, 9]), (12, [0, 1, 2, 4, 9]), (13, [0, 1, 2, 3, 4]), (14, [0, 1, 3, 4]), (15, [0, 1, 4, 14]), (16, [0, 1, 4, 15]), (17, [0, 1]), (18, [0])] }
/-! ### wreckage/crc.Table -/
noncomputable def Ecrc_Table : Env2 := { tab := tab, fs := [(64, Gcrc_turn)], inl := [] }
noncomputable def ecrc_Table_1 (v : Int × Int × Int × Int × (List Int) × (List Int)) : St := { s := [(0, (.loc 0 [])), (1, (.loc 1 [])), (2, (.val ⟨(.int .i64), v.1⟩)), (3, (.val ⟨(.int .u32), v.2.1⟩)), (4, (.val ⟨(.int .i64), v.2.2.1⟩)), (9, (.val ⟨(.int .i64), v.2.2.2.1⟩))], l := [(0, .var (.arr 256 (.int .u32)) (.val ⟨(.arr 256 (.int .u32)), v.2.2.2.2.1⟩)), (1, .var (.arr 256 (.int .u32)) (.val ⟨(.arr 256 (.int .u32)), v.2.2.2.2.2⟩))], k := [], b := 4096 }
noncomputable def ecrc_Table_0 (v : Int × (List Int) × (List Int)) : St := { s := [(0, (.loc 0 [])), (1, (.loc 1 [])), (4, (.val ⟨(.int .i64), v.1⟩))], l := [(0, .var (.arr 256 (.int .u32)) (.val ⟨(.arr 256 (.int .u32)), v.2.1⟩)), (1, .var (.arr 256 (.int .u32)) (.val ⟨(.arr 256 (.int .u32)), v.2.2⟩))], k := [], b := 4096 }
def hcrc_Table_1 (self0 : Int × (List Int) × (List Int) → Option ((List Int))) (self1 : Int × Int × Int × Int × (List Int) × (List Int) → Option ((List Int))) (v : Int × Int × Int × Int × (List Int) × (List Int)) : Option ((List Int)) :=
  (bif (decide (v.2.2.2.1 < (8 : Int))) then ((ccrc_turn v.2.1).bind fun x1 => (let x2 : Int := (IntKind.i64.wrap (v.2.2.2.1 + (1 : Int))); (self1 (v.1, x1, v.2.2.1, x2, v.2.2.2.2.1, v.2.2.2.2.2)))) else (bif (decide (0 ≤ v.1) && decide (v.1 < (256 : Int))) then (let x3 : (List Int) := (List.set v.2.2.2.2.2 (Int.toNat v.1) v.2.1); (let x4 : Int := (IntKind.i64.wrap (v.2.2.1 + (1 : Int))); (self0 (x4, v.2.2.2.2.1, x3)))) else none))
def gcrc_Table_1 (N : Nat) (self0 : Int × (List Int) × (List Int) → Option ((List Int))) (self1 : Int × Int × Int × Int × (List Int) × (List Int) → Option ((List Int))) (v : Int × Int × Int × Int × (List Int) × (List Int)) : Option ((List Int)) := hcrc_Table_1 self0 self1 v
theorem kcrc_Table_1 (N : Nat) (s0 : St → Option ((List Int))) (s1 : St → Option ((List Int))) (v) : (floc (Ecrc_Table) Tcrc_Table 6 N Try.f26 [(.arr 256 (.int .u32))] [false] [] 1 (outerR s0 nowhereR)) s1 (ecrc_Table_1 v) = hcrc_Table_1 (fun v => s0 (ecrc_Table_0 v)) (fun v => s1 (ecrc_Table_1 v)) v := by kernel_rfl
theorem bcrc_Table_1 (N : Nat) (s0 : St → Option ((List Int))) (s1 : St → Option ((List Int))) (v) : (floc (Ecrc_Table) Tcrc_Table 6 N Try.f26 [(.arr 256 (.int .u32))] [false] [] 1 (outerR s0 nowhereR)) s1 (ecrc_Table_1 v) = gcrc_Table_1 N (fun v => s0 (ecrc_Table_0 v)) (fun v => s1 (ecrc_Table_1 v)) v := kcrc_Table_1 N s0 s1 v
def hcrc_Table_0 (loop1 : Int × Int × Int × Int × (List Int) × (List Int) → Option ((List Int))) (self0 : Int × (List Int) × (List Int) → Option ((List Int))) (v : Int × (List Int) × (List Int)) : Option ((List Int)) :=
  (bif (decide (v.1 < (256 : Int))) then (loop1 (v.1, (IntKind.u32.wrap v.1), v.1, (0 : Int), v.2.1, v.2.2)) else (some v.2.2))
def gcrc_Table_0 (N : Nat) (self0 : Int × (List Int) × (List Int) → Option ((List Int))) (v : Int × (List Int) × (List Int)) : Option ((List Int)) := hcrc_Table_0 (iterV (gcrc_Table_1 N self0) N) self0 v
theorem kcrc_Table_0 (N : Nat) (s0 : St → Option ((List Int))) (v) : (floc (Ecrc_Table) Tcrc_Table 6 N Try.f26 [(.arr 256 (.int .u32))] [false] [] 0 nowhereR) s0 (ecrc_Table_0 v) = hcrc_Table_0 (fun v => iterR (floc (Ecrc_Table) Tcrc_Table 6 N Try.f26 [(.arr 256 (.int .u32))] [false] [] 1 (outerR s0 nowhereR)) N (ecrc_Table_1 v)) (fun v => s0 (ecrc_Table_0 v)) v := by kernel_rfl
theorem bcrc_Table_0 (N : Nat) (s0 : St → Option ((List Int))) (v) : (floc (Ecrc_Table) Tcrc_Table 6 N Try.f26 [(.arr 256 (.int .u32))] [false] [] 0 nowhereR) s0 (ecrc_Table_0 v) = gcrc_Table_0 N (fun v => s0 (ecrc_Table_0 v)) v := (kcrc_Table_0 N s0 v).trans (by rw [funext (iterR_eq ecrc_Table_1 (bcrc_Table_1 N s0) N)]; rfl)
def ncrc_Table (loop0 : Int × (List Int) × (List Int) → Option ((List Int))) (x : Unit) : Option ((List Int)) :=
  (loop0 ((0 : Int), (List.replicate 256 (0 : Int)), (List.replicate 256 (0 : Int))))
def mcrc_Table (N : Nat) (x : Unit) : Option ((List Int)) := ncrc_Table (iterV (gcrc_Table_0 N) N) x
theorem jcrc_Table (N : Nat) (x) : rise (Ecrc_Table) Tcrc_Table 6 N Try.f26 [] [(.arr 256 (.int .u32))] [false] x = ncrc_Table (fun v => iterR (floc (Ecrc_Table) Tcrc_Table 6 N Try.f26 [(.arr 256 (.int .u32))] [false] [] 0 nowhereR) N (ecrc_Table_0 v)) x := by kernel_rfl
theorem lcrc_Table (N : Nat) (x) : rise (Ecrc_Table) Tcrc_Table 6 N Try.f26 [] [(.arr 256 (.int .u32))] [false] x = mcrc_Table N x := (jcrc_Table N x).trans (by rw [funext (iterR_eq ecrc_Table_0 (bcrc_Table_0 N) N)]; rfl)
def ccrc_Table (x : Unit) : Option ((List Int)) := mcrc_Table big x
def Gcrc_Table : Fn2 := ⟨[], [(.arr 256 (.int .u32))], [false], fun x => ccrc_Table x⟩
theorem Lcrc_Table : Rises Try.prog 26 Gcrc_Table := rises_of (E := Ecrc_Table) ⟨tabOk, (fsCons2 Lcrc_turn fsNil2), fun _ _ _ => rfl, mixed, inlNil⟩ Try.func26 rfl (by decide) (by kernel_rfl) (by kernel_rfl) (by kernel_rfl) (by kernel_rfl) (fun x r _ h => ⟨Tcrc_Table, 6, big, (lcrc_Table big x).trans h⟩)

def Tcrc_step : LT := { live := [], keep := [(6, [0, 1, 2]), (7, [0, 1, 2]), (8, [0, 1, 2]), (9, [1, 2, 8]), (10, [2, 8, 9]), (11, [2, 8, 9]), (12, [8, 9, 11]), (13, [8, 9]), (14, [8, 13]), (15, [8]), (16, [8]), (17, [])] }
/-! ### wreckage/crc.step -/
noncomputable def Ecrc_step : Env2 := { tab := tab, fs := [], inl := [] }
def ncrc_step (x : (List Int) × Int × Int) : Option (Int) :=
  (let x1 : Int := (bits .xor .u8 (IntKind.u8.wrap x.2.1) x.2.2); ((getI x.1 x1).bind fun x2 => (let x3 : Int := (bits .xor .u32 (x.2.1.fdiv (2 ^ 8)) x2); (some x3))))
def mcrc_step (N : Nat) (x : (List Int) × Int × Int) : Option (Int) := ncrc_step x
theorem jcrc_step (N : Nat) (x) : rise (Ecrc_step) Tcrc_step 6 N Try.f79 [(.ptr (.arr 256 (.int .u32))), (.int .u32), (.int .u8)] [(.int .u32)] [false] x = ncrc_step x := by kernel_rfl
theorem lcrc_step (N : Nat) (x) : rise (Ecrc_step) Tcrc_step 6 N Try.f79 [(.ptr (.arr 256 (.int .u32))), (.int .u32), (.int .u8)] [(.int .u32)] [false] x = mcrc_step N x := (jcrc_step N x).trans rfl
def ccrc_step (x : (List Int) × Int × Int) : Option (Int) := mcrc_step big x
def Gcrc_step : Fn2 := ⟨[(.ptr (.arr 256 (.int .u32))), (.int .u32), (.int .u8)], [(.int .u32)], [false], fun x => ccrc_step x⟩
theorem Lcrc_step : Rises Try.prog 79 Gcrc_step := rises_of (E := Ecrc_step) ⟨tabOk, fsNil2, fun _ _ _ => rfl, mixed, inlNil⟩ Try.func79 rfl (by decide) (by kernel_rfl) (by kernel_rfl) (by kernel_rfl) (by kernel_rfl) (fun x r _ h => ⟨Tcrc_step, 6, big, (lcrc_step big x).trans h⟩)

def Tcrc_steps : LT := { live := [(2, [0, 1, 9, 10, 11])], keep := [(1, [0, 9, 10, 11]), (6, [0, 1, 2]), (8, [0, 1, 9, 10, 11]), (9, [0, 1]), (10, [0, 1, 9]), (11, [0, 1, 9, 10]), (12, [0, 1, 9, 10, 11]), (13, [0, 1, 9, 10, 11]), (14, [0, 1, 9, 10, 11]), (15, [0, 1, 8, 9, 10, 11]), (16, [0, 8, 9, 10, 11, 15]), (17, [0, 9, 10, 11, 15, 16]), (18, [0, 9, 10, 11]), (19, [0, 1, 9, 10]), (20, [])] }
/-! ### wreckage/crc.steps -/
noncomputable def Ecrc_steps : Env2 := { tab := tab, fs := [(79, Gcrc_step)], inl := [] }
noncomputable def ecrc_steps_0 (v : (List Int) × Int × (List Int) × Int × Int) : St := { s := [(0, (.val ⟨(.ptr (.arr 256 (.int .u32))), v.1⟩)), (1, (.val ⟨(.int .u32), v.2.1⟩)), (9, (.val ⟨(.slice (.int .u8)), v.2.2.1⟩)), (10, (.val ⟨(.int .i64), v.2.2.2.1⟩)), (11, (.val ⟨(.int .i64), v.2.2.2.2⟩))], l := [], k := [], b := 4096 }
def hcrc_steps_0 (self0 : (List Int) × Int × (List Int) × Int × Int → Option (Int)) (v : (List Int) × Int × (List Int) × Int × Int) : Option (Int) :=
  (bif (decide (v.2.2.2.2 < v.2.2.2.1)) then ((getI v.2.2.1 v.2.2.2.2).bind fun x1 => ((ccrc_step (v.1, v.2.1, x1)).bind fun x2 => (let x3 : Int := (IntKind.i64.wrap (v.2.2.2.2 + (1 : Int))); (self0 (v.1, x2, v.2.2.1, v.2.2.2.1, x3))))) else (some v.2.1))
def gcrc_steps_0 (N : Nat) (self0 : (List Int) × Int × (List Int) × Int × Int → Option (Int)) (v : (List Int) × Int × (List Int) × Int × Int) : Option (Int) := hcrc_steps_0 self0 v
theorem kcrc_steps_0 (N : Nat) (s0 : St → Option (Int)) (v) : (floc (Ecrc_steps) Tcrc_steps 6 N Try.f57 [(.int .u32)] [false] [] 0 nowhereR) s0 (ecrc_steps_0 v) = hcrc_steps_0 (fun v => s0 (ecrc_steps_0 v)) v := by kernel_rfl
theorem bcrc_steps_0 (N : Nat) (s0 : St → Option (Int)) (v) : (floc (Ecrc_steps) Tcrc_steps 6 N Try.f57 [(.int .u32)] [false] [] 0 nowhereR) s0 (ecrc_steps_0 v) = gcrc_steps_0 N (fun v => s0 (ecrc_steps_0 v)) v := kcrc_steps_0 N s0 v
def ncrc_steps (loop0 : (List Int) × Int × (List Int) × Int × Int → Option (Int)) (x : (List Int) × Int × (List Int)) : Option (Int) :=
  (loop0 (x.1, x.2.1, x.2.2, (List.length x.2.2 : Int), (0 : Int)))
def mcrc_steps (N : Nat) (x : (List Int) × Int × (List Int)) : Option (Int) := ncrc_steps (iterV (gcrc_steps_0 N) N) x
theorem jcrc_steps (N : Nat) (x) : rise (Ecrc_steps) Tcrc_steps 6 N Try.f57 [(.ptr (.arr 256 (.int .u32))), (.int .u32), (.slice (.int .u8))] [(.int .u32)] [false] x = ncrc_steps (fun v => iterR (floc (Ecrc_steps) Tcrc_steps 6 N Try.f57 [(.int .u32)] [false] [] 0 nowhereR) N (ecrc_steps_0 v)) x := by kernel_rfl
theorem lcrc_steps (N : Nat) (x) : rise (Ecrc_steps) Tcrc_steps 6 N Try.f57 [(.ptr (.arr 256 (.int .u32))), (.int .u32), (.slice (.int .u8))] [(.int .u32)] [false] x = mcrc_steps N x := (jcrc_steps N x).trans (by rw [funext (iterR_eq ecrc_steps_0 (bcrc_steps_0 N) N)]; rfl)
def ccrc_steps (x : (List Int) × Int × (List Int)) : Option (Int) := mcrc_steps big x
def Gcrc_steps : Fn2 := ⟨[(.ptr (.arr 256 (.int .u32))), (.int .u32), (.slice (.int .u8))], [(.int .u32)], [false], fun x => ccrc_steps x⟩
theorem Lcrc_steps : Rises Try.prog 57 Gcrc_steps := rises_of (E := Ecrc_steps) ⟨tabOk, (fsCons2 Lcrc_step fsNil2), fun _ _ _ => rfl, mixed, inlNil⟩ Try.func57 rfl (by decide) (by kernel_rfl) (by kernel_rfl) (by kernel_rfl) (by kernel_rfl) (fun x r _ h => ⟨Tcrc_steps, 6, big, (lcrc_steps big x).trans h⟩)

def Tcrc_Next : LT := { live := [], keep := [(3, [1, 2]), (6, [1, 2, 3]), (7, [1, 2, 3]), (8, [1, 2, 3]), (9, [1, 2, 3, 8]), (10, [1, 2, 3]), (11, [1, 2, 3]), (12, [1, 2, 3]), (13, [1, 2, 3]), (14, [2, 3]), (15, [2, 3]), (16, [3, 15]), (17, []), (18, [])] }
/-! ### wreckage/crc.Next -/
noncomputable def Ecrc_Next : Env2 := { tab := tab, fs := [(26, Gcrc_Table), (57, Gcrc_steps)], inl := [] }
def ncrc_Next (x : (List Int) × Int × (List Int)) : Option (Int × Int) :=
  ((ccrc_Table ()).bind fun x1 => (bif (!(eqD (.arr 256 (.int .u32)) x.1 x1)) then (some ((0 : Int), (8 : Int))) else (bif (decide ((List.length x.2.2 : Int) > (200000 : Int))) then (some ((0 : Int), (4 : Int))) else (let x2 : Int := (bits .xor .u32 x.2.1 (4294967295 : Int)); ((ccrc_steps (x.1, x2, x.2.2)).bind fun x3 => (let x4 : Int := (bits .xor .u32 x3 (4294967295 : Int)); (some (x4, (0 : Int)))))))))
def mcrc_Next (N : Nat) (x : (List Int) × Int × (List Int)) : Option (Int × Int) := ncrc_Next x
theorem jcrc_Next (N : Nat) (x) : rise (Ecrc_Next) Tcrc_Next 6 N Try.f17 [(.arr 256 (.int .u32)), (.int .u32), (.slice (.int .u8))] [(.int .u32), (.int .i64)] [false, false] x = ncrc_Next x := by kernel_rfl
theorem lcrc_Next (N : Nat) (x) : rise (Ecrc_Next) Tcrc_Next 6 N Try.f17 [(.arr 256 (.int .u32)), (.int .u32), (.slice (.int .u8))] [(.int .u32), (.int .i64)] [false, false] x = mcrc_Next N x := (jcrc_Next N x).trans rfl
def ccrc_Next (x : (List Int) × Int × (List Int)) : Option (Int × Int) := mcrc_Next big x
def Gcrc_Next : Fn2 := ⟨[(.arr 256 (.int .u32)), (.int .u32), (.slice (.int .u8))], [(.int .u32), (.int .i64)], [false, false], fun x => ccrc_Next x⟩
theorem Lcrc_Next : Rises Try.prog 17 Gcrc_Next := rises_of (E := Ecrc_Next) ⟨tabOk, (fsCons2 Lcrc_Table (fsCons2 Lcrc_steps fsNil2)), fun _ _ _ => rfl, mixed, inlNil⟩ Try.func17 rfl (by decide) (by kernel_rfl) (by kernel_rfl) (by kernel_rfl) (by kernel_rfl) (fun x r _ h => ⟨Tcrc_Next, 6, big, (lcrc_Next big x).trans h⟩)

def Tcrc_Sum : LT := { live := [], keep := [(2, [1]), (4, [1, 2]), (5, [1, 2]), (6, [1]), (7, [6]), (8, []), (9, [8]), (10, [9])] }
/-! ### wreckage/crc.Sum -/
noncomputable def Ecrc_Sum : Env2 := { tab := tab, fs := [(17, Gcrc_Next)], inl := [] }
def ncrc_Sum (x : (List Int) × (List Int)) : Option (Int × Int) :=
  ((ccrc_Next (x.1, (0 : Int), x.2)).bind fun x1 => (some (x1.1, x1.2)))
def mcrc_Sum (N : Nat) (x : (List Int) × (List Int)) : Option (Int × Int) := ncrc_Sum x
theorem jcrc_Sum (N : Nat) (x) : rise (Ecrc_Sum) Tcrc_Sum 6 N Try.f16 [(.arr 256 (.int .u32)), (.slice (.int .u8))] [(.int .u32), (.int .i64)] [false, false] x = ncrc_Sum x := by kernel_rfl
theorem lcrc_Sum (N : Nat) (x) : rise (Ecrc_Sum) Tcrc_Sum 6 N Try.f16 [(.arr 256 (.int .u32)), (.slice (.int .u8))] [(.int .u32), (.int .i64)] [false, false] x = mcrc_Sum N x := (jcrc_Sum N x).trans rfl
def ccrc_Sum (x : (List Int) × (List Int)) : Option (Int × Int) := mcrc_Sum big x
def Gcrc_Sum : Fn2 := ⟨[(.arr 256 (.int .u32)), (.slice (.int .u8))], [(.int .u32), (.int .i64)], [false, false], fun x => ccrc_Sum x⟩
theorem Lcrc_Sum : Rises Try.prog 16 Gcrc_Sum := rises_of (E := Ecrc_Sum) ⟨tabOk, (fsCons2 Lcrc_Next fsNil2), fun _ _ _ => rfl, mixed, inlNil⟩ Try.func16 rfl (by decide) (by kernel_rfl) (by kernel_rfl) (by kernel_rfl) (by kernel_rfl) (fun x r _ h => ⟨Tcrc_Sum, 6, big, (lcrc_Sum big x).trans h⟩)

def Tref01_Right : LT := { live := [], keep := [(1, []), (2, [1]), (3, []), (4, [3]), (5, [])] }
/-! ### wreckage/wreckageref01.Right -/
noncomputable def Eref01_Right : Env2 := { tab := tab, fs := [(15, Gref01_Table)], inl := [] }
def nref01_Right (x : (List Int)) : Option (Bool) :=
  ((cref01_Table ()).bind fun x1 => (some (eqD (.arr 256 (.int .u32)) x x1)))
def mref01_Right (N : Nat) (x : (List Int)) : Option (Bool) := nref01_Right x
theorem jref01_Right (N : Nat) (x) : rise (Eref01_Right) Tref01_Right 6 N Try.f62 [(.arr 256 (.int .u32))] [.bool] [false] x = nref01_Right x := by kernel_rfl
theorem lref01_Right (N : Nat) (x) : rise (Eref01_Right) Tref01_Right 6 N Try.f62 [(.arr 256 (.int .u32))] [.bool] [false] x = mref01_Right N x := (jref01_Right N x).trans rfl
def cref01_Right (x : (List Int)) : Option (Bool) := mref01_Right big x
def Gref01_Right : Fn2 := ⟨[(.arr 256 (.int .u32))], [.bool], [false], fun x => cref01_Right x⟩
theorem Lref01_Right : Rises Try.prog 62 Gref01_Right := rises_of (E := Eref01_Right) ⟨tabOk, (fsCons2 Lref01_Table fsNil2), fun _ _ _ => rfl, mixed, inlNil⟩ Try.func62 rfl (by decide) (by kernel_rfl) (by kernel_rfl) (by kernel_rfl) (by kernel_rfl) (fun x r _ h => ⟨Tref01_Right, 6, big, (lref01_Right big x).trans h⟩)

def Tref01_On : LT := { live := [(4, [1, 5, 6, 7])], keep := [(4, [0, 1]), (5, [0, 1, 8]), (6, [1, 5]), (7, [1, 5, 6]), (8, [0, 1]), (9, [1, 5]), (10, [1, 5]), (11, [1, 5, 6, 7]), (12, [1, 5, 6, 7, 11]), (13, [1, 5, 6, 7, 11]), (14, [1, 5, 6, 7]), (15, [1, 5, 6]), (16, [1, 5, 6]), (17, [1, 5, 6, 7]), (18, [1, 5, 6, 7]), (19, [1, 5, 7, 18]), (20, [1, 5, 7, 18, 19]), (21, [1, 5, 7, 18, 19, 20]), (22, [1, 5, 7, 18, 19]), (23, [1, 5, 7, 18, 19]), (24, [1, 5, 7, 18, 19]), (25, [1, 5, 7, 18]), (26, [1, 5, 7, 18]), (27, [1, 5, 7, 18]), (28, [1, 5, 7, 18]), (29, [1, 5, 7]), (30, []), (31, [])] }
/-! ### wreckage/wreckageref01.On -/
noncomputable def Eref01_On : Env2 := { tab := tab, fs := [(15, Gref01_Table)], inl := [] }
noncomputable def eref01_On_0 (v : (List Int) × Int × Int × (List Int)) : St := { s := [(1, (.val ⟨(.slice (.int .u8)), v.1⟩)), (5, (.loc 0 [])), (6, (.val ⟨(.int .u32), v.2.1⟩)), (7, (.val ⟨(.int .i64), v.2.2.1⟩))], l := [(0, .var (.arr 256 (.int .u32)) (.val ⟨(.arr 256 (.int .u32)), v.2.2.2⟩))], k := [], b := 4096 }
def href01_On_0 (self0 : (List Int) × Int × Int × (List Int) → Option (Int)) (v : (List Int) × Int × Int × (List Int)) : Option (Int) :=
  (bif (decide (v.2.2.1 < (List.length v.1 : Int))) then (let x3 : Int := (IntKind.u32.wrap (v.2.1.tdiv (256 : Int))); ((getI v.1 v.2.2.1).bind fun x4 => (let x5 : Int := (bits .xor .u32 v.2.1 (IntKind.u32.wrap x4)); (bif (decide (0 ≤ (x5.tmod (256 : Int))) && decide ((x5.tmod (256 : Int)) < (256 : Int))) then ((nth v.2.2.2 (Int.toNat (x5.tmod (256 : Int)))).bind fun x6 => (let x7 : Int := (IntKind.i64.wrap (v.2.2.1 + (1 : Int))); (self0 (v.1, (bits .xor .u32 x3 x6), x7, v.2.2.2)))) else none)))) else (let x8 : Int := (bits .xor .u32 v.2.1 (4294967295 : Int)); (some x8)))
def gref01_On_0 (N : Nat) (self0 : (List Int) × Int × Int × (List Int) → Option (Int)) (v : (List Int) × Int × Int × (List Int)) : Option (Int) := href01_On_0 self0 v
theorem kref01_On_0 (N : Nat) (s0 : St → Option (Int)) (v) : (floc (Eref01_On) Tref01_On 6 N Try.f63 [(.int .u32)] [false] [] 0 nowhereR) s0 (eref01_On_0 v) = href01_On_0 (fun v => s0 (eref01_On_0 v)) v := by kernel_rfl
theorem bref01_On_0 (N : Nat) (s0 : St → Option (Int)) (v) : (floc (Eref01_On) Tref01_On 6 N Try.f63 [(.int .u32)] [false] [] 0 nowhereR) s0 (eref01_On_0 v) = gref01_On_0 N (fun v => s0 (eref01_On_0 v)) v := kref01_On_0 N s0 v
def nref01_On (loop0 : (List Int) × Int × Int × (List Int) → Option (Int)) (x : Int × (List Int)) : Option (Int) :=
  ((cref01_Table ()).bind fun x1 => (let x2 : Int := (bits .xor .u32 x.1 (4294967295 : Int)); (loop0 (x.2, x2, (0 : Int), x1))))
def mref01_On (N : Nat) (x : Int × (List Int)) : Option (Int) := nref01_On (iterV (gref01_On_0 N) N) x
theorem jref01_On (N : Nat) (x) : rise (Eref01_On) Tref01_On 6 N Try.f63 [(.int .u32), (.slice (.int .u8))] [(.int .u32)] [false] x = nref01_On (fun v => iterR (floc (Eref01_On) Tref01_On 6 N Try.f63 [(.int .u32)] [false] [] 0 nowhereR) N (eref01_On_0 v)) x := by kernel_rfl
theorem lref01_On (N : Nat) (x) : rise (Eref01_On) Tref01_On 6 N Try.f63 [(.int .u32), (.slice (.int .u8))] [(.int .u32)] [false] x = mref01_On N x := (jref01_On N x).trans (by rw [funext (iterR_eq eref01_On_0 (bref01_On_0 N) N)]; rfl)
def cref01_On (x : Int × (List Int)) : Option (Int) := mref01_On big x
def Gref01_On : Fn2 := ⟨[(.int .u32), (.slice (.int .u8))], [(.int .u32)], [false], fun x => cref01_On x⟩
theorem Lref01_On : Rises Try.prog 63 Gref01_On := rises_of (E := Eref01_On) ⟨tabOk, (fsCons2 Lref01_Table fsNil2), fun _ _ _ => rfl, mixed, inlNil⟩ Try.func63 rfl (by decide) (by kernel_rfl) (by kernel_rfl) (by kernel_rfl) (by kernel_rfl) (fun x r _ h => ⟨Tref01_On, 6, big, (lref01_On big x).trans h⟩)

def Tref01_Next : LT := { live := [], keep := [(3, [1, 2]), (6, [1, 2, 3]), (7, [1, 2, 3]), (8, [1, 2]), (9, [1, 2]), (10, [1, 2]), (11, [1, 2]), (12, [1, 2]), (13, [1, 2]), (14, [2]), (15, [14]), (16, [])] }
/-! ### wreckage/wreckageref01.Next -/
noncomputable def Eref01_Next : Env2 := { tab := tab, fs := [(62, Gref01_Right), (63, Gref01_On)], inl := [] }
def nref01_Next (x : (List Int) × Int × (List Int)) : Option (Int × Int) :=
  ((cref01_Right x.1).bind fun x1 => (bif (!x1) then (some ((0 : Int), (8 : Int))) else (bif (decide ((List.length x.2.2 : Int) > (200000 : Int))) then (some ((0 : Int), (4 : Int))) else ((cref01_On (x.2.1, x.2.2)).bind fun x2 => (some (x2, (0 : Int)))))))
def mref01_Next (N : Nat) (x : (List Int) × Int × (List Int)) : Option (Int × Int) := nref01_Next x
theorem jref01_Next (N : Nat) (x) : rise (Eref01_Next) Tref01_Next 6 N Try.f25 [(.arr 256 (.int .u32)), (.int .u32), (.slice (.int .u8))] [(.int .u32), (.int .i64)] [false, false] x = nref01_Next x := by kernel_rfl
theorem lref01_Next (N : Nat) (x) : rise (Eref01_Next) Tref01_Next 6 N Try.f25 [(.arr 256 (.int .u32)), (.int .u32), (.slice (.int .u8))] [(.int .u32), (.int .i64)] [false, false] x = mref01_Next N x := (jref01_Next N x).trans rfl
def cref01_Next (x : (List Int) × Int × (List Int)) : Option (Int × Int) := mref01_Next big x
def Gref01_Next : Fn2 := ⟨[(.arr 256 (.int .u32)), (.int .u32), (.slice (.int .u8))], [(.int .u32), (.int .i64)], [false, false], fun x => cref01_Next x⟩
theorem Lref01_Next : Rises Try.prog 25 Gref01_Next := rises_of (E := Eref01_Next) ⟨tabOk, (fsCons2 Lref01_Right (fsCons2 Lref01_On fsNil2)), fun _ _ _ => rfl, mixed, inlNil⟩ Try.func25 rfl (by decide) (by kernel_rfl) (by kernel_rfl) (by kernel_rfl) (by kernel_rfl) (fun x r _ h => ⟨Tref01_Next, 6, big, (lref01_Next big x).trans h⟩)

def Tref01_Sum : LT := { live := [], keep := [(2, [1]), (4, [1, 2]), (5, [1, 2]), (6, [1]), (7, [6]), (8, []), (9, [8]), (10, [9])] }
/-! ### wreckage/wreckageref01.Sum -/
noncomputable def Eref01_Sum : Env2 := { tab := tab, fs := [(25, Gref01_Next)], inl := [] }
def nref01_Sum (x : (List Int) × (List Int)) : Option (Int × Int) :=
  ((cref01_Next (x.1, (0 : Int), x.2)).bind fun x1 => (some (x1.1, x1.2)))
def mref01_Sum (N : Nat) (x : (List Int) × (List Int)) : Option (Int × Int) := nref01_Sum x
theorem jref01_Sum (N : Nat) (x) : rise (Eref01_Sum) Tref01_Sum 6 N Try.f24 [(.arr 256 (.int .u32)), (.slice (.int .u8))] [(.int .u32), (.int .i64)] [false, false] x = nref01_Sum x := by kernel_rfl
theorem lref01_Sum (N : Nat) (x) : rise (Eref01_Sum) Tref01_Sum 6 N Try.f24 [(.arr 256 (.int .u32)), (.slice (.int .u8))] [(.int .u32), (.int .i64)] [false, false] x = mref01_Sum N x := (jref01_Sum N x).trans rfl
def cref01_Sum (x : (List Int) × (List Int)) : Option (Int × Int) := mref01_Sum big x
def Gref01_Sum : Fn2 := ⟨[(.arr 256 (.int .u32)), (.slice (.int .u8))], [(.int .u32), (.int .i64)], [false, false], fun x => cref01_Sum x⟩
theorem Lref01_Sum : Rises Try.prog 24 Gref01_Sum := rises_of (E := Eref01_Sum) ⟨tabOk, (fsCons2 Lref01_Next fsNil2), fun _ _ _ => rfl, mixed, inlNil⟩ Try.func24 rfl (by decide) (by kernel_rfl) (by kernel_rfl) (by kernel_rfl) (by kernel_rfl) (fun x r _ h => ⟨Tref01_Sum, 6, big, (lref01_Sum big x).trans h⟩)

def Tlaw01_CrcSums : LT := { live := [], keep := [(8, [0, 1, 2, 3]), (9, [2, 3, 23, 25]), (10, [2, 3, 9]), (11, [2, 3, 9, 10, 31]), (12, [2, 3, 9, 10, 11]), (13, [2, 3, 9, 10, 11, 12, 37]), (14, [2, 3, 9, 10, 11, 12, 13]), (15, [2, 3, 9, 10, 11, 12, 13, 14, 44]), (16, [2, 3, 9, 10, 11, 12, 13, 14, 15]), (17, [3, 10, 11, 12, 13, 14, 15, 16, 51]), (18, [3, 10, 11, 12, 13, 14, 15, 16, 17]), (19, [0, 1, 2, 3]), (20, [0, 1, 2, 3]), (21, [1, 2, 3]), (22, [2, 3, 21]), (23, [2, 3]), (24, [2, 3, 23]), (25, [2, 3, 23]), (26, [2, 3, 9, 10]), (27, [2, 3, 9, 10]), (28, [2, 3, 9, 10, 27]), (29, [2, 3, 9, 10]), (30, [2, 3, 9, 10, 26]), (31, [2, 3, 9, 10, 30]), (32, [2, 3, 9, 10, 11, 12]), (33, [2, 3, 9, 10, 11, 12]), (34, [2, 3, 9, 10, 11, 12, 33]), (35, [2, 3, 9, 10, 11, 12]), (36, [2, 3, 9, 10, 11, 12, 32]), (37, [2, 3, 9, 10, 11, 12, 36]), (38, [2, 3, 9, 10, 11, 12, 13, 14]), (39, [2, 3, 9, 10, 11, 12, 13, 14]), (40, [2, 3, 9, 10, 11, 12, 13, 14, 39]), (41, [2, 3, 9, 10, 11, 12, 13, 14, 39, 40]), (42, [2, 3, 9, 10, 11, 12, 13, 14]), (43, [2, 3, 9, 10, 11, 12, 13, 14, 38]), (44, [2, 3, 9, 10, 11, 12, 13, 14, 43]), (45, [3, 10, 11, 12, 13, 14, 15, 16]), (46, [2, 3, 10, 11, 12, 13, 14, 15, 16]), (47, [3, 10, 11, 12, 13, 14, 15, 16, 46]), (48, [3, 10, 11, 12, 13, 14, 15, 16, 46, 47]), (49, [3, 10, 11, 12, 13, 14, 15, 16]), (50, [3, 10, 11, 12, 13, 14, 15, 16, 45]), (51, [3, 10, 11, 12, 13, 14, 15, 16, 50]), (52, [3, 10, 11, 12, 13, 14, 15, 16, 17, 18]), (53, [3, 10, 11, 12, 13, 14, 15, 16, 17, 18, 52]), (54, [3, 10, 11, 12, 13, 14, 15, 16, 17, 18]), (55, [3, 10, 11, 12, 13, 14, 15, 16, 17, 18]), (56, [3, 10, 12, 13, 14, 15, 16, 17, 18, 55]), (57, [3, 10, 12, 14, 15, 16, 17, 18, 55, 56]), (58, [3, 10, 12, 14, 15, 16, 17, 18, 55]), (59, [3, 10, 12, 14, 15, 16, 17, 18]), (60, [3, 10, 12, 14, 15, 16, 17, 18]), (61, [3, 10, 14, 15, 16, 17, 18, 60]), (62, [3, 10, 15, 16, 17, 18, 60, 61]), (63, [3, 10, 15, 16, 17, 18, 60]), (64, [3, 10, 15, 16, 17, 18]), (65, [3, 10, 15, 16, 17, 18]), (66, [3, 10, 16, 17, 18, 65]), (67, [3, 10, 16, 18, 65, 66]), (68, [3, 10, 16, 18, 65]), (69, [3, 10, 16, 18]), (70, [3, 10, 16, 18]), (71, [3, 10, 18, 70]), (72, [3, 10, 70, 71]), (73, [3, 10, 70]), (74, [3, 10]), (75, [3, 10]), (76, [10, 75]), (77, [10, 75]), (78, [75, 77]), (79, [75]), (80, [])] }
/-! ### wreckage/wreckagelaw01.CrcSums -/
noncomputable def Elaw01_CrcSums : Env2 := { tab := tab, fs := [(15, Gref01_Table), (16, Gcrc_Sum), (17, Gcrc_Next), (18, Glaw01_table), (23, Gref01_Long), (24, Gref01_Sum), (25, Gref01_Next), (26, Gcrc_Table)], inl := [] }
def nlaw01_CrcSums (x : Int × Int × Int × (List Int)) : Option (Bool) :=
  ((cref01_Long x.2.2.2).bind fun x1 => (bif x1 then (some true) else ((claw01_table (x.1, x.2.1)).bind fun x2 => ((ccrc_Sum (x2, x.2.2.2)).bind fun x3 => ((cref01_Sum (x2, x.2.2.2)).bind fun x4 => ((ccrc_Next (x2, x.2.2.1, x.2.2.2)).bind fun x5 => ((cref01_Next (x2, x.2.2.1, x.2.2.2)).bind fun x6 => ((ccrc_Table ()).bind fun x7 => ((cref01_Table ()).bind fun x8 => (bif (eqD (.arr 256 (.int .u32)) x7 x8) then (bif (x3.1 == x4.1) then (bif (x3.2 == x4.2) then (bif (x5.1 == x6.1) then (bif (x5.2 == x6.2) then (some (eqD .str x.2.2.2 x.2.2.2)) else (some false)) else (some false)) else (some false)) else (some false)) else (some false)))))))))))
def mlaw01_CrcSums (N : Nat) (x : Int × Int × Int × (List Int)) : Option (Bool) := nlaw01_CrcSums x
theorem jlaw01_CrcSums (N : Nat) (x) : rise (Elaw01_CrcSums) Tlaw01_CrcSums 6 N Try.f4 [(.int .i64), (.int .u32), (.int .u32), (.slice (.int .u8))] [.bool] [false] x = nlaw01_CrcSums x := by kernel_rfl
theorem llaw01_CrcSums (N : Nat) (x) : rise (Elaw01_CrcSums) Tlaw01_CrcSums 6 N Try.f4 [(.int .i64), (.int .u32), (.int .u32), (.slice (.int .u8))] [.bool] [false] x = mlaw01_CrcSums N x := (jlaw01_CrcSums N x).trans rfl
def claw01_CrcSums (x : Int × Int × Int × (List Int)) : Option (Bool) := mlaw01_CrcSums big x
def Glaw01_CrcSums : Fn2 := ⟨[(.int .i64), (.int .u32), (.int .u32), (.slice (.int .u8))], [.bool], [false], fun x => claw01_CrcSums x⟩
theorem Llaw01_CrcSums : Rises Try.prog 4 Glaw01_CrcSums := rises_of (E := Elaw01_CrcSums) ⟨tabOk, (fsCons2 Lref01_Table (fsCons2 Lcrc_Sum (fsCons2 Lcrc_Next (fsCons2 Llaw01_table (fsCons2 Lref01_Long (fsCons2 Lref01_Sum (fsCons2 Lref01_Next (fsCons2 Lcrc_Table fsNil2)))))))), fun _ _ _ => rfl, mixed, inlNil⟩ Try.func4 rfl (by decide) (by kernel_rfl) (by kernel_rfl) (by kernel_rfl) (by kernel_rfl) (fun x r _ h => ⟨Tlaw01_CrcSums, 6, big, (llaw01_CrcSums big x).trans h⟩)

def Tlaw01_sum : LT := { live := [], keep := [(4, [0, 1]), (5, [1, 13]), (6, [1, 5]), (7, [1]), (8, [0, 1]), (9, [1, 8]), (10, [1, 8]), (11, [1]), (12, [1, 7]), (13, [1, 12]), (14, [1, 5]), (15, [1, 5]), (16, [1, 5]), (17, [1, 16]), (18, [16, 17]), (19, [16]), (20, [])] }
/-! ### wreckage/wreckagelaw01.sum -/
noncomputable def Elaw01_sum : Env2 := { tab := tab, fs := [(16, Gcrc_Sum), (26, Gcrc_Table)], inl := [] }
def nlaw01_sum (x : (List Int) × Int) : Option (Bool) :=
  ((ccrc_Table ()).bind fun x1 => ((ccrc_Sum (x1, x.1)).bind fun x2 => (bif (x2.2 == (0 : Int)) then (some (x2.1 == x.2)) else (some false))))
def mlaw01_sum (N : Nat) (x : (List Int) × Int) : Option (Bool) := nlaw01_sum x
theorem jlaw01_sum (N : Nat) (x) : rise (Elaw01_sum) Tlaw01_sum 6 N Try.f61 [.str, (.int .u32)] [.bool] [false] x = nlaw01_sum x := by kernel_rfl
theorem llaw01_sum (N : Nat) (x) : rise (Elaw01_sum) Tlaw01_sum 6 N Try.f61 [.str, (.int .u32)] [.bool] [false] x = mlaw01_sum N x := (jlaw01_sum N x).trans rfl
def claw01_sum (x : (List Int) × Int) : Option (Bool) := mlaw01_sum big x
def Glaw01_sum : Fn2 := ⟨[.str, (.int .u32)], [.bool], [false], fun x => claw01_sum x⟩
theorem Llaw01_sum : Rises Try.prog 61 Glaw01_sum := rises_of (E := Elaw01_sum) ⟨tabOk, (fsCons2 Lcrc_Sum (fsCons2 Lcrc_Table fsNil2)), fun _ _ _ => rfl, mixed, inlNil⟩ Try.func61 rfl (by decide) (by kernel_rfl) (by kernel_rfl) (by kernel_rfl) (by kernel_rfl) (fun x r _ h => ⟨Tlaw01_sum, 6, big, (llaw01_sum big x).trans h⟩)

def Tlaw01_alive : LT := { live := [], keep := [(0, []), (1, [2]), (2, []), (3, [1]), (4, [1]), (5, [1]), (6, [1]), (7, [6]), (8, [6]), (9, [6]), (10, []), (11, []), (12, [11]), (13, []), (14, []), (15, [14]), (16, []), (17, []), (18, [17]), (19, []), (20, []), (21, [20]), (22, [])] }
/-! ### wreckage/wreckagelaw01.alive -/
noncomputable def Elaw01_alive : Env2 := { tab := tab, fs := [(26, Gcrc_Table), (61, Glaw01_sum)], inl := [] }
def nlaw01_alive (x : Unit) : Option (Bool) :=
  ((ccrc_Table ()).bind fun x1 => (bif (decide (0 ≤ (1 : Int)) && decide ((1 : Int) < (256 : Int))) then ((nth x1 (Int.toNat (1 : Int))).bind fun x2 => (bif (x2 == (1996959894 : Int)) then (bif (decide (0 ≤ (255 : Int)) && decide ((255 : Int) < (256 : Int))) then ((nth x1 (Int.toNat (255 : Int))).bind fun x3 => (bif (x3 == (755167117 : Int)) then ((claw01_sum (([] : List Int), (0 : Int))).bind fun x4 => (bif x4 then ((claw01_sum (([97] : List Int), (3904355907 : Int))).bind fun x5 => (bif x5 then ((claw01_sum (([97, 98, 99] : List Int), (891568578 : Int))).bind fun x6 => (bif x6 then ((claw01_sum (([49, 50, 51, 52, 53, 54, 55, 56, 57] : List Int), (3421780262 : Int))).bind fun x7 => (some x7)) else (some false))) else (some false))) else (some false))) else (some false))) else none) else (some false))) else none))
def mlaw01_alive (N : Nat) (x : Unit) : Option (Bool) := nlaw01_alive x
theorem jlaw01_alive (N : Nat) (x) : rise (Elaw01_alive) Tlaw01_alive 6 N Try.f22 [] [.bool] [false] x = nlaw01_alive x := by kernel_rfl
theorem llaw01_alive (N : Nat) (x) : rise (Elaw01_alive) Tlaw01_alive 6 N Try.f22 [] [.bool] [false] x = mlaw01_alive N x := (jlaw01_alive N x).trans rfl
def claw01_alive (x : Unit) : Option (Bool) := mlaw01_alive big x
def Glaw01_alive : Fn2 := ⟨[], [.bool], [false], fun x => claw01_alive x⟩
theorem Llaw01_alive : Rises Try.prog 22 Glaw01_alive := rises_of (E := Elaw01_alive) ⟨tabOk, (fsCons2 Lcrc_Table (fsCons2 Llaw01_sum fsNil2)), fun _ _ _ => rfl, mixed, inlNil⟩ Try.func22 rfl (by decide) (by kernel_rfl) (by kernel_rfl) (by kernel_rfl) (by kernel_rfl) (fun x r _ h => ⟨Tlaw01_alive, 6, big, (llaw01_alive big x).trans h⟩)

def Tref01_Same : LT := { live := [], keep := [(4, [0, 1]), (5, [1]), (6, [1]), (7, [6]), (8, [6]), (9, [])] }
/-! ### wreckage/wreckageref01.Same -/
noncomputable def Eref01_Same : Env2 := { tab := tab, fs := [], inl := [] }
def nref01_Same (x : (List Int) × (List Int)) : Option (Bool) :=
  (some (eqD .str x.1 x.2))
def mref01_Same (N : Nat) (x : (List Int) × (List Int)) : Option (Bool) := nref01_Same x
theorem jref01_Same (N : Nat) (x) : rise (Eref01_Same) Tref01_Same 6 N Try.f29 [(.slice (.int .u8)), (.slice (.int .u8))] [.bool] [false] x = nref01_Same x := by kernel_rfl
theorem lref01_Same (N : Nat) (x) : rise (Eref01_Same) Tref01_Same 6 N Try.f29 [(.slice (.int .u8)), (.slice (.int .u8))] [.bool] [false] x = mref01_Same N x := (jref01_Same N x).trans rfl
def cref01_Same (x : (List Int) × (List Int)) : Option (Bool) := mref01_Same big x
def Gref01_Same : Fn2 := ⟨[(.slice (.int .u8)), (.slice (.int .u8))], [.bool], [false], fun x => cref01_Same x⟩
theorem Lref01_Same : Rises Try.prog 29 Gref01_Same := rises_of (E := Eref01_Same) ⟨tabOk, fsNil2, fun _ _ _ => rfl, mixed, inlNil⟩ Try.func29 rfl (by decide) (by kernel_rfl) (by kernel_rfl) (by kernel_rfl) (by kernel_rfl) (fun x r _ h => ⟨Tref01_Same, 6, big, (lref01_Same big x).trans h⟩)

def Tlaw01_CrcChanged : LT := { live := [(5, [0, 1, 5, 7, 8])], keep := [(5, [0, 1]), (6, [0, 1, 5]), (7, [0, 1, 5]), (8, [0, 1, 5, 7]), (9, [0, 7, 51]), (10, [0, 7, 9, 57]), (11, [0, 7, 9, 10]), (12, [0, 7, 10, 11, 63]), (13, [0, 7, 10, 11, 12]), (14, [0, 1, 5]), (15, [0, 1, 5]), (16, [0, 1, 5]), (17, [0, 1, 5]), (18, [0, 1, 5, 17]), (19, [0, 1, 5, 17]), (20, [0, 1, 5]), (21, [0, 1, 5]), (22, [0, 1, 5, 21]), (23, [0, 1, 5, 21, 22]), (24, [0, 1, 5, 21, 22]), (25, [0, 1, 5, 21]), (26, [0, 1, 5]), (27, []), (28, [0, 1, 5]), (29, [0, 1, 5, 28]), (30, [0, 1, 5]), (31, [0, 1, 5, 7, 8]), (32, [0, 1, 5, 7, 8]), (33, [0, 1, 5, 7, 8]), (34, [0, 1, 5, 7, 8, 33]), (35, [0, 1, 5, 7, 8, 33, 34]), (36, [0, 1, 5, 7, 8, 33]), (37, [0, 1, 5, 7, 8, 33, 36]), (38, [0, 1, 5, 7, 8, 33, 36]), (39, [0, 1, 5, 7, 8, 33]), (40, [0, 1, 5, 7, 8]), (41, [0, 1, 5, 7]), (42, [0, 1, 5, 7]), (43, [0, 1, 5, 7, 8]), (44, [0, 1, 5, 7, 8, 43]), (45, [0, 1, 5, 7, 8, 43, 44]), (46, [0, 1, 5, 7, 8, 43]), (47, [0, 1, 5, 7, 8, 43, 46]), (48, [0, 1, 5, 7, 8, 43, 46]), (49, [0, 1, 5, 7, 8, 43, 46]), (50, [0, 1, 5, 7, 8, 49]), (51, [0, 7]), (52, [0, 7, 9]), (53, [0, 7, 9]), (54, [0, 7, 9, 53]), (55, [0, 7, 9]), (56, [0, 7, 9, 52]), (57, [0, 7, 9, 56]), (58, [0, 7, 10, 11]), (59, [0, 7, 10, 11]), (60, [0, 7, 10, 11, 59]), (61, [0, 7, 10, 11]), (62, [0, 7, 10, 11, 58]), (63, [0, 7, 10, 11, 62]), (64, [0, 7, 10, 12, 13]), (65, [0, 7, 10, 12, 13]), (66, [0, 7, 10, 12, 13]), (67, [0, 7, 10, 12, 66]), (68, [0, 7, 10, 12, 66]), (69, [0, 7, 10, 12]), (70, [0, 7, 10, 12]), (71, [0, 7, 12, 70]), (72, [0, 7, 70, 71]), (73, [0, 7, 70]), (74, [7, 70, 73]), (75, [70, 73, 74]), (76, [70, 73]), (77, [70]), (78, []), (79, []), (80, [79]), (81, [])] }
/-! ### wreckage/wreckagelaw01.CrcChanged -/
noncomputable def Elaw01_CrcChanged : Env2 := { tab := tab, fs := [(16, Gcrc_Sum), (22, Glaw01_alive), (26, Gcrc_Table), (29, Gref01_Same)], inl := [] }
noncomputable def elaw01_CrcChanged_0 (v : (List Int) × Int × Int × (List Int) × (List Int)) : St := { s := [(0, (.val ⟨(.slice (.int .u8)), v.1⟩)), (1, (.val ⟨(.int .i64), v.2.1⟩)), (5, (.loc 0 [])), (7, (.row 1)), (8, (.val ⟨(.int .i64), v.2.2.1⟩))], l := [(0, .var (.arr 4 (.int .u8)) (.val ⟨(.arr 4 (.int .u8)), v.2.2.2.1⟩)), (1, .row (.int .u8) v.2.2.2.2)], k := [], b := 4096 }
def hlaw01_CrcChanged_0 (self0 : (List Int) × Int × Int × (List Int) × (List Int) → Option (Bool)) (v : (List Int) × Int × Int × (List Int) × (List Int)) : Option (Bool) :=
  (bif (decide (v.2.2.1 < (4 : Int))) then (let x5 : Int := (IntKind.i64.wrap (v.2.1 + v.2.2.1)); (bif (decide (x5 < (List.length v.2.2.2.2 : Int))) then (let x6 : Int := (IntKind.i64.wrap (v.2.1 + v.2.2.1)); (bif (decide (0 ≤ v.2.2.1) && decide (v.2.2.1 < (4 : Int))) then ((nth v.2.2.2.1 (Int.toNat v.2.2.1)).bind fun x7 => (bif (decide (0 ≤ x6) && decide (x6 < (List.length v.2.2.2.2 : Int))) then (let x8 : (List Int) := (List.set v.2.2.2.2 (Int.toNat x6) x7); (let x9 : Int := (IntKind.i64.wrap (v.2.2.1 + (1 : Int))); (self0 (v.1, v.2.1, x9, v.2.2.2.1, x8)))) else none)) else none)) else ((ccrc_Table ()).bind fun x10 => ((ccrc_Sum (x10, v.1)).bind fun x11 => ((ccrc_Sum (x10, v.2.2.2.2)).bind fun x12 => (bif (x11.2 == (0 : Int)) then (bif (x12.2 == (0 : Int)) then ((cref01_Same (v.1, v.2.2.2.2)).bind fun x13 => (bif ((x11.1 == x12.1) == x13) then ((claw01_alive ()).bind fun x14 => (some x14)) else (some false))) else (some false)) else (some false))))))) else ((ccrc_Table ()).bind fun x15 => ((ccrc_Sum (x15, v.1)).bind fun x16 => ((ccrc_Sum (x15, v.2.2.2.2)).bind fun x17 => (bif (x16.2 == (0 : Int)) then (bif (x17.2 == (0 : Int)) then ((cref01_Same (v.1, v.2.2.2.2)).bind fun x18 => (bif ((x16.1 == x17.1) == x18) then ((claw01_alive ()).bind fun x19 => (some x19)) else (some false))) else (some false)) else (some false))))))
def glaw01_CrcChanged_0 (N : Nat) (self0 : (List Int) × Int × Int × (List Int) × (List Int) → Option (Bool)) (v : (List Int) × Int × Int × (List Int) × (List Int)) : Option (Bool) := hlaw01_CrcChanged_0 self0 v
theorem klaw01_CrcChanged_0 (N : Nat) (s0 : St → Option (Bool)) (v) : (floc (Elaw01_CrcChanged) Tlaw01_CrcChanged 6 N Try.f7 [.bool] [false] [] 0 nowhereR) s0 (elaw01_CrcChanged_0 v) = hlaw01_CrcChanged_0 (fun v => s0 (elaw01_CrcChanged_0 v)) v := by kernel_rfl
theorem blaw01_CrcChanged_0 (N : Nat) (s0 : St → Option (Bool)) (v) : (floc (Elaw01_CrcChanged) Tlaw01_CrcChanged 6 N Try.f7 [.bool] [false] [] 0 nowhereR) s0 (elaw01_CrcChanged_0 v) = glaw01_CrcChanged_0 N (fun v => s0 (elaw01_CrcChanged_0 v)) v := klaw01_CrcChanged_0 N s0 v
def nlaw01_CrcChanged (loop0 : (List Int) × Int × Int × (List Int) × (List Int) → Option (Bool)) (x : (List Int) × Int × (List Int)) : Option (Bool) :=
  (bif (decide ((List.length x.1 : Int) > (700 : Int))) then ((claw01_alive ()).bind fun x1 => (some x1)) else (bif (decide (x.2.1 < (0 : Int))) then ((claw01_alive ()).bind fun x2 => (some x2)) else (bif (decide (x.2.1 ≥ (List.length x.1 : Int))) then ((claw01_alive ()).bind fun x3 => (some x3)) else (bif (Nat.ble 1 1 && Nat.ble (List.length ([] : (List Int)) + List.length x.1) lim) then (let x4 : (List Int) := (List.append ([] : (List Int)) x.1); (loop0 (x.1, x.2.1, (0 : Int), x.2.2, x4))) else none))))
def mlaw01_CrcChanged (N : Nat) (x : (List Int) × Int × (List Int)) : Option (Bool) := nlaw01_CrcChanged (iterV (glaw01_CrcChanged_0 N) N) x
theorem jlaw01_CrcChanged (N : Nat) (x) : rise (Elaw01_CrcChanged) Tlaw01_CrcChanged 6 N Try.f7 [(.slice (.int .u8)), (.int .i64), (.arr 4 (.int .u8))] [.bool] [false] x = nlaw01_CrcChanged (fun v => iterR (floc (Elaw01_CrcChanged) Tlaw01_CrcChanged 6 N Try.f7 [.bool] [false] [] 0 nowhereR) N (elaw01_CrcChanged_0 v)) x := by kernel_rfl
theorem llaw01_CrcChanged (N : Nat) (x) : rise (Elaw01_CrcChanged) Tlaw01_CrcChanged 6 N Try.f7 [(.slice (.int .u8)), (.int .i64), (.arr 4 (.int .u8))] [.bool] [false] x = mlaw01_CrcChanged N x := (jlaw01_CrcChanged N x).trans (by rw [funext (iterR_eq elaw01_CrcChanged_0 (blaw01_CrcChanged_0 N) N)]; rfl)
def claw01_CrcChanged (x : (List Int) × Int × (List Int)) : Option (Bool) := mlaw01_CrcChanged big x
def Glaw01_CrcChanged : Fn2 := ⟨[(.slice (.int .u8)), (.int .i64), (.arr 4 (.int .u8))], [.bool], [false], fun x => claw01_CrcChanged x⟩
theorem Llaw01_CrcChanged : Rises Try.prog 7 Glaw01_CrcChanged := rises_of (E := Elaw01_CrcChanged) ⟨tabOk, (fsCons2 Lcrc_Sum (fsCons2 Llaw01_alive (fsCons2 Lcrc_Table (fsCons2 Lref01_Same fsNil2)))), fun _ _ _ => rfl, mixed, inlNil⟩ Try.func7 rfl (by decide) (by kernel_rfl) (by kernel_rfl) (by kernel_rfl) (by kernel_rfl) (fun x r _ h => ⟨Tlaw01_CrcChanged, 6, big, (llaw01_CrcChanged big x).trans h⟩)

end Go.Proofs.Ytdhlomachkionaa
