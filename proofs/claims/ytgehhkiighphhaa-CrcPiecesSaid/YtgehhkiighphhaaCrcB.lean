/- Functions of the program, read as typed functions: each equation is checked by the kernel. -/
import Derived.Test.YtgehhkiighphhaaLiftS
import Derived.Test.YtgehhkiighphhaaProg
import Derived.KernelRfl
set_option linter.unusedVariables false
namespace Go.Proofs.Ytgehhkiighphhaa
open Go.Lift
def tab : List (TypeId × Ty) := [(3, (.int .i64)), (4, .bool), (5, (.int .u8)), (9, .str), (22, (.int .u32)), (23, (.arr 256 (.int .u32))), (25, (.slice (.int .u8))), (26, (.int .i64)), (32, (.slice (.slice (.int .u8)))), (48, (.int .u64)), (52, (.ptr (.arr 256 (.int .u32))))]
def el : TypeId → Option TypeId := fun t => lk t [(25, 5)]

theorem tabOk : TabOk Try.prog tab := tabOk_of (by kernel_rfl) (by kernel_rfl) (by kernel_rfl)
theorem elOk : ∀ t e, el t = some e → Try.prog.underlying t = some (.slice e) := elOk_of (by kernel_rfl)
theorem mixed : Try.prog.follows .mixedOrders = true := by kernel_rfl

/-! ### wreckage/crc.turn -/
noncomputable def E32 : Env := { tab := tab, fs := [], live := [] }
def n32 (x : Int) : Option (Int) :=
  (let x1 : Int := (bits .and .u32 x (1 : Int)); (bif (x1 == (1 : Int)) then (let x2 : Int := (bits .xor .u32 (x.fdiv (2 ^ 1)) (3988292384 : Int)); (some x2)) else (some (x.fdiv (2 ^ 1)))))
def m32 (N : Nat) (x : Int) : Option (Int) := n32 x
theorem j32 (N : Nat) (x) : lift E32 el N Try.f32 [(.int .u32)] [(.int .u32)] x = n32 x := by kernel_rfl
theorem l32 (N : Nat) (x) : lift E32 el N Try.f32 [(.int .u32)] [(.int .u32)] x = m32 N x := (j32 N x).trans rfl
def c32 (x : Int) : Option (Int) := n32 x
def F32 : Lift.Fn := ⟨[(.int .u32)], [(.int .u32)], fun x => c32 x⟩
theorem r32 : ∀ x r, WfL [(.int .u32)] x → c32 x = some r → ∃ N, m32 N x = some r := fun x r _ h => ⟨0, h⟩
theorem L32 : Lifts Try.prog 32 F32 := lifts_of ⟨tabOk, elOk, fsNil⟩ mixed Try.func32 rfl (by decide) (by kernel_rfl) (by kernel_rfl) (fun x r w h => (r32 x r w h).imp fun N h => (l32 N x).trans h)

/-! ### wreckage/crc.step -/
noncomputable def E33 : Env := { tab := tab, fs := [], live := [] }
def n33 (x : (List Int) × Int × Int) : Option (Int) :=
  (let x1 : Int := (bits .xor .u8 (IntKind.u8.wrap x.2.1) x.2.2); ((getI x.1 x1).bind fun x2 => (let x3 : Int := (bits .xor .u32 (x.2.1.fdiv (2 ^ 8)) x2); (some x3))))
def m33 (N : Nat) (x : (List Int) × Int × Int) : Option (Int) := n33 x
theorem j33 (N : Nat) (x) : lift E33 el N Try.f33 [(.ptr (.arr 256 (.int .u32))), (.int .u32), (.int .u8)] [(.int .u32)] x = n33 x := by kernel_rfl
theorem l33 (N : Nat) (x) : lift E33 el N Try.f33 [(.ptr (.arr 256 (.int .u32))), (.int .u32), (.int .u8)] [(.int .u32)] x = m33 N x := (j33 N x).trans rfl
def c33 (x : (List Int) × Int × Int) : Option (Int) := n33 x
def F33 : Lift.Fn := ⟨[(.ptr (.arr 256 (.int .u32))), (.int .u32), (.int .u8)], [(.int .u32)], fun x => c33 x⟩
theorem r33 : ∀ x r, WfL [(.ptr (.arr 256 (.int .u32))), (.int .u32), (.int .u8)] x → c33 x = some r → ∃ N, m33 N x = some r := fun x r _ h => ⟨0, h⟩
theorem L33 : Lifts Try.prog 33 F33 := lifts_of ⟨tabOk, elOk, fsNil⟩ mixed Try.func33 rfl (by decide) (by kernel_rfl) (by kernel_rfl) (fun x r w h => (r33 x r w h).imp fun N h => (l33 N x).trans h)

/-! ### wreckage/crc.Table -/
noncomputable def E20 : Env := { tab := tab, fs := [(32, F32)], live := [(3, [0, 1, 4], [0, 1]), (7, [0, 1, 2, 3, 4, 9], [0, 1])] }
def e20_1 (v : Int × Int × Int × Int × (List Int) × (List Int)) : Fr := { s := [(0, .loc 0 []), (1, .loc 1 []), (2, .val ⟨(.int .i64), v.1⟩ .no), (3, .val ⟨(.int .u32), v.2.1⟩ .no), (4, .val ⟨(.int .i64), v.2.2.1⟩ .no), (9, .val ⟨(.int .i64), v.2.2.2.1⟩ .no)], l := [(0, true, ⟨(.arr 256 (.int .u32)), v.2.2.2.2.1⟩), (1, true, ⟨(.arr 256 (.int .u32)), v.2.2.2.2.2⟩)] }
def e20_0 (v : Int × (List Int) × (List Int)) : Fr := { s := [(0, .loc 0 []), (1, .loc 1 []), (4, .val ⟨(.int .i64), v.1⟩ .no)], l := [(0, true, ⟨(.arr 256 (.int .u32)), v.2.1⟩), (1, true, ⟨(.arr 256 (.int .u32)), v.2.2⟩)] }
def h20_1 (self0 : Int × (List Int) × (List Int) → Option ((List Int))) (self1 : Int × Int × Int × Int × (List Int) × (List Int) → Option ((List Int))) (v : Int × Int × Int × Int × (List Int) × (List Int)) : Option ((List Int)) :=
  (bif (decide (v.2.2.2.1 < (8 : Int))) then ((c32 v.2.1).bind fun x1 => (let x2 : Int := (IntKind.i64.wrap (v.2.2.2.1 + (1 : Int))); (self1 (v.1, x1, v.2.2.1, x2, v.2.2.2.2.1, v.2.2.2.2.2)))) else (bif (decide (0 ≤ v.1) && decide (v.1 < (256 : Int))) then (let x3 : (List Int) := (List.set v.2.2.2.2.2 (Int.toNat v.1) v.2.1); (let x4 : Int := (IntKind.i64.wrap (v.2.2.1 + (1 : Int))); (self0 (x4, v.2.2.2.2.1, x3)))) else none))
def g20_1 (N : Nat) (self0 : Int × (List Int) × (List Int) → Option ((List Int))) (self1 : Int × Int × Int × Int × (List Int) × (List Int) → Option ((List Int))) (v : Int × Int × Int × Int × (List Int) × (List Int)) : Option ((List Int)) := h20_1 self0 self1 v
theorem k20_1 (N : Nat) (s0 : Fr → Option ((List Int))) (s1 : Fr → Option ((List Int))) (v) : (fbody E20 el N Try.f20 [(.arr 256 (.int .u32))] 1 (outer s0 nowhere)) s1 (e20_1 v) = h20_1 (fun v => s0 (e20_0 v)) (fun v => s1 (e20_1 v)) v := by kernel_rfl
theorem b20_1 (N : Nat) (s0 : Fr → Option ((List Int))) (s1 : Fr → Option ((List Int))) (v) : (fbody E20 el N Try.f20 [(.arr 256 (.int .u32))] 1 (outer s0 nowhere)) s1 (e20_1 v) = g20_1 N (fun v => s0 (e20_0 v)) (fun v => s1 (e20_1 v)) v := k20_1 N s0 s1 v
def h20_0 (loop1 : Int × Int × Int × Int × (List Int) × (List Int) → Option ((List Int))) (self0 : Int × (List Int) × (List Int) → Option ((List Int))) (v : Int × (List Int) × (List Int)) : Option ((List Int)) :=
  (bif (decide (v.1 < (256 : Int))) then (loop1 (v.1, (IntKind.u32.wrap v.1), v.1, (0 : Int), v.2.1, v.2.2)) else (some v.2.2))
def g20_0 (N : Nat) (self0 : Int × (List Int) × (List Int) → Option ((List Int))) (v : Int × (List Int) × (List Int)) : Option ((List Int)) := h20_0 (iterV (g20_1 N self0) N) self0 v
theorem k20_0 (N : Nat) (s0 : Fr → Option ((List Int))) (v) : (fbody E20 el N Try.f20 [(.arr 256 (.int .u32))] 0 nowhere) s0 (e20_0 v) = h20_0 (fun v => iter (fbody E20 el N Try.f20 [(.arr 256 (.int .u32))] 1 (outer s0 nowhere)) N (e20_1 v)) (fun v => s0 (e20_0 v)) v := by kernel_rfl
theorem b20_0 (N : Nat) (s0 : Fr → Option ((List Int))) (v) : (fbody E20 el N Try.f20 [(.arr 256 (.int .u32))] 0 nowhere) s0 (e20_0 v) = g20_0 N (fun v => s0 (e20_0 v)) v := (k20_0 N s0 v).trans (by rw [funext (iter_eq e20_1 (b20_1 N s0) N)]; rfl)
def n20 (loop0 : Int × (List Int) × (List Int) → Option ((List Int))) (x : Unit) : Option ((List Int)) :=
  (loop0 ((0 : Int), (List.replicate 256 (0 : Int)), (List.replicate 256 (0 : Int))))
def m20 (N : Nat) (x : Unit) : Option ((List Int)) := n20 (iterV (g20_0 N) N) x
theorem j20 (N : Nat) (x) : lift E20 el N Try.f20 [] [(.arr 256 (.int .u32))] x = n20 (fun v => iter (fbody E20 el N Try.f20 [(.arr 256 (.int .u32))] 0 nowhere) N (e20_0 v)) x := by kernel_rfl
theorem l20 (N : Nat) (x) : lift E20 el N Try.f20 [] [(.arr 256 (.int .u32))] x = m20 N x := (j20 N x).trans (by rw [funext (iter_eq e20_0 (b20_0 N) N)]; rfl)
def turns : Nat → Int → Int
  | 0, x => x
  | n + 1, x => turns n ((c32 x).getD 0)
def tbl : List Int := (List.range 256).map fun (i : Nat) => turns 8 (Int.ofNat i)
def c20 (_ : Unit) : Option (List Int) := some tbl
def F20 : Lift.Fn := ⟨[], [(.arr 256 (.int .u32))], fun x => c20 x⟩
theorem r20 : ∀ x r, WfL [] x → c20 x = some r → ∃ N, m20 N x = some r := fun x r _ h => ⟨300, by
  cases h
  kernel_rfl⟩
theorem L20 : Lifts Try.prog 20 F20 := lifts_of ⟨tabOk, elOk, (fsCons L32 fsNil)⟩ mixed Try.func20 rfl (by decide) (by kernel_rfl) (by kernel_rfl) (fun x r w h => (r20 x r w h).imp fun N h => (l20 N x).trans h)

/-! ### wreckage/crc.steps -/
noncomputable def E25 : Env := { tab := tab, fs := [(33, F33)], live := [(2, [0, 1, 9, 10, 11], [])] }
def e25_0 (v : (List Int) × Int × (List Int) × Int × Int) : Fr := { s := [(0, .val ⟨(.ptr (.arr 256 (.int .u32))), v.1⟩ .no), (1, .val ⟨(.int .u32), v.2.1⟩ .no), (9, .val ⟨(.slice (.int .u8)), v.2.2.1⟩ .no), (10, .val ⟨(.int .i64), v.2.2.2.1⟩ .no), (11, .val ⟨(.int .i64), v.2.2.2.2⟩ .no)], l := [] }
def h25_0 (self0 : (List Int) × Int × (List Int) × Int × Int → Option (Int)) (v : (List Int) × Int × (List Int) × Int × Int) : Option (Int) :=
  (bif (decide (v.2.2.2.2 < v.2.2.2.1)) then ((getI v.2.2.1 v.2.2.2.2).bind fun x1 => ((c33 (v.1, v.2.1, x1)).bind fun x2 => (let x3 : Int := (IntKind.i64.wrap (v.2.2.2.2 + (1 : Int))); (self0 (v.1, x2, v.2.2.1, v.2.2.2.1, x3))))) else (some v.2.1))
def g25_0 (N : Nat) (self0 : (List Int) × Int × (List Int) × Int × Int → Option (Int)) (v : (List Int) × Int × (List Int) × Int × Int) : Option (Int) := h25_0 self0 v
theorem k25_0 (N : Nat) (s0 : Fr → Option (Int)) (v) : (fbody E25 el N Try.f25 [(.int .u32)] 0 nowhere) s0 (e25_0 v) = h25_0 (fun v => s0 (e25_0 v)) v := by kernel_rfl
theorem b25_0 (N : Nat) (s0 : Fr → Option (Int)) (v) : (fbody E25 el N Try.f25 [(.int .u32)] 0 nowhere) s0 (e25_0 v) = g25_0 N (fun v => s0 (e25_0 v)) v := k25_0 N s0 v
def n25 (loop0 : (List Int) × Int × (List Int) × Int × Int → Option (Int)) (x : (List Int) × Int × (List Int)) : Option (Int) :=
  (loop0 (x.1, x.2.1, x.2.2, (List.length x.2.2 : Int), (0 : Int)))
def m25 (N : Nat) (x : (List Int) × Int × (List Int)) : Option (Int) := n25 (iterV (g25_0 N) N) x
theorem j25 (N : Nat) (x) : lift E25 el N Try.f25 [(.ptr (.arr 256 (.int .u32))), (.int .u32), (.slice (.int .u8))] [(.int .u32)] x = n25 (fun v => iter (fbody E25 el N Try.f25 [(.int .u32)] 0 nowhere) N (e25_0 v)) x := by kernel_rfl
theorem l25 (N : Nat) (x) : lift E25 el N Try.f25 [(.ptr (.arr 256 (.int .u32))), (.int .u32), (.slice (.int .u8))] [(.int .u32)] x = m25 N x := (j25 N x).trans (by rw [funext (iter_eq e25_0 (b25_0 N) N)]; rfl)
def c25 (x : List Int × Int × List Int) : Option Int := foldC (fun c s k => (c33 (x.1, s, c)).bind k) some x.2.2 x.2.1
def F25 : Lift.Fn := ⟨[(.ptr (.arr 256 (.int .u32))), (.int .u32), (.slice (.int .u8))], [(.int .u32)], fun x => c25 x⟩
theorem r25 : ∀ x r, WfL [(.ptr (.arr 256 (.int .u32))), (.int .u32), (.slice (.int .u8))] x → c25 x = some r → ∃ N, m25 N x = some r := by
  intro x r w h
  refine ⟨x.2.2.length + 1, ?_⟩
  rw [← h]
  refine range_all (fun s i => (x.1, s, x.2.2, (x.2.2.length : Int), (i : Int))) _ _ (Nat.lt_succ_self _) ?_ ?_ x.2.1
  · intro self s
    simp [g25_0, h25_0]
  · intro self s i hi
    have e : decide ((i : Int) < (x.2.2.length : Int)) = true := decide_eq_true (by omega)
    simp only [g25_0, h25_0, e, cond_true, getI_nat, List.getElem?_eq_getElem hi, Option.bind_some, wrap_succ hi w.2.2.1]
theorem L25 : Lifts Try.prog 25 F25 := lifts_of ⟨tabOk, elOk, (fsCons L33 fsNil)⟩ mixed Try.func25 rfl (by decide) (by kernel_rfl) (by kernel_rfl) (fun x r w h => (r25 x r w h).imp fun N h => (l25 N x).trans h)

/-! ### wreckage/crc.Next -/
noncomputable def E11 : Env := { tab := tab, fs := [(20, F20), (25, F25)], live := [] }
def n11 (x : (List Int) × Int × (List Int)) : Option (Int × Int) :=
  ((c20 ()).bind fun x1 => (bif (!(eqD (.arr 256 (.int .u32)) x.1 x1)) then (some ((0 : Int), (8 : Int))) else (bif (decide ((List.length x.2.2 : Int) > (200000 : Int))) then (some ((0 : Int), (4 : Int))) else (let x2 : Int := (bits .xor .u32 x.2.1 (4294967295 : Int)); ((c25 (x.1, x2, x.2.2)).bind fun x3 => (let x4 : Int := (bits .xor .u32 x3 (4294967295 : Int)); (some (x4, (0 : Int)))))))))
def m11 (N : Nat) (x : (List Int) × Int × (List Int)) : Option (Int × Int) := n11 x
theorem j11 (N : Nat) (x) : lift E11 el N Try.f11 [(.arr 256 (.int .u32)), (.int .u32), (.slice (.int .u8))] [(.int .u32), (.int .i64)] x = n11 x := by kernel_rfl
theorem l11 (N : Nat) (x) : lift E11 el N Try.f11 [(.arr 256 (.int .u32)), (.int .u32), (.slice (.int .u8))] [(.int .u32), (.int .i64)] x = m11 N x := (j11 N x).trans rfl
def c11 (x : (List Int) × Int × (List Int)) : Option (Int × Int) := n11 x
def F11 : Lift.Fn := ⟨[(.arr 256 (.int .u32)), (.int .u32), (.slice (.int .u8))], [(.int .u32), (.int .i64)], fun x => c11 x⟩
theorem r11 : ∀ x r, WfL [(.arr 256 (.int .u32)), (.int .u32), (.slice (.int .u8))] x → c11 x = some r → ∃ N, m11 N x = some r := fun x r _ h => ⟨0, h⟩
theorem L11 : Lifts Try.prog 11 F11 := lifts_of ⟨tabOk, elOk, (fsCons L20 (fsCons L25 fsNil))⟩ mixed Try.func11 rfl (by decide) (by kernel_rfl) (by kernel_rfl) (fun x r w h => (r11 x r w h).imp fun N h => (l11 N x).trans h)

/-! ### wreckage/crc.Sum -/
noncomputable def E10 : Env := { tab := tab, fs := [(11, F11)], live := [] }
def n10 (x : (List Int) × (List Int)) : Option (Int × Int) :=
  ((c11 (x.1, (0 : Int), x.2)).bind fun x1 => (some (x1.1, x1.2)))
def m10 (N : Nat) (x : (List Int) × (List Int)) : Option (Int × Int) := n10 x
theorem j10 (N : Nat) (x) : lift E10 el N Try.f10 [(.arr 256 (.int .u32)), (.slice (.int .u8))] [(.int .u32), (.int .i64)] x = n10 x := by kernel_rfl
theorem l10 (N : Nat) (x) : lift E10 el N Try.f10 [(.arr 256 (.int .u32)), (.slice (.int .u8))] [(.int .u32), (.int .i64)] x = m10 N x := (j10 N x).trans rfl
def c10 (x : (List Int) × (List Int)) : Option (Int × Int) := n10 x
def F10 : Lift.Fn := ⟨[(.arr 256 (.int .u32)), (.slice (.int .u8))], [(.int .u32), (.int .i64)], fun x => c10 x⟩
theorem r10 : ∀ x r, WfL [(.arr 256 (.int .u32)), (.slice (.int .u8))] x → c10 x = some r → ∃ N, m10 N x = some r := fun x r _ h => ⟨0, h⟩
theorem L10 : Lifts Try.prog 10 F10 := lifts_of ⟨tabOk, elOk, (fsCons L11 fsNil)⟩ mixed Try.func10 rfl (by decide) (by kernel_rfl) (by kernel_rfl) (fun x r w h => (r10 x r w h).imp fun N h => (l10 N x).trans h)

/-! ### wreckage/wreckagelaw01.sum -/
noncomputable def E29 : Env := { tab := tab, fs := [(10, F10), (20, F20)], live := [] }
def n29 (x : (List Int) × Int) : Option (Bool) :=
  ((c20 ()).bind fun x1 => ((c10 (x1, x.1)).bind fun x2 => (bif (x2.2 == (0 : Int)) then (some (x2.1 == x.2)) else (some false))))
def m29 (N : Nat) (x : (List Int) × Int) : Option (Bool) := n29 x
theorem j29 (N : Nat) (x) : lift E29 el N Try.f29 [.str, (.int .u32)] [.bool] x = n29 x := by kernel_rfl
theorem l29 (N : Nat) (x) : lift E29 el N Try.f29 [.str, (.int .u32)] [.bool] x = m29 N x := (j29 N x).trans rfl
def c29 (x : (List Int) × Int) : Option (Bool) := n29 x
def F29 : Lift.Fn := ⟨[.str, (.int .u32)], [.bool], fun x => c29 x⟩
theorem r29 : ∀ x r, WfL [.str, (.int .u32)] x → c29 x = some r → ∃ N, m29 N x = some r := fun x r _ h => ⟨0, h⟩
theorem L29 : Lifts Try.prog 29 F29 := lifts_of ⟨tabOk, elOk, (fsCons L10 (fsCons L20 fsNil))⟩ mixed Try.func29 rfl (by decide) (by kernel_rfl) (by kernel_rfl) (fun x r w h => (r29 x r w h).imp fun N h => (l29 N x).trans h)

/-! ### wreckage/wreckagelaw01.alive -/
noncomputable def E16 : Env := { tab := tab, fs := [(20, F20), (29, F29)], live := [] }
def n16 (x : Unit) : Option (Bool) :=
  ((c20 ()).bind fun x1 => (bif (decide (0 ≤ (1 : Int)) && decide ((1 : Int) < (256 : Int))) then ((nth x1 (Int.toNat (1 : Int))).bind fun x2 => (bif (x2 == (1996959894 : Int)) then (bif (decide (0 ≤ (255 : Int)) && decide ((255 : Int) < (256 : Int))) then ((nth x1 (Int.toNat (255 : Int))).bind fun x3 => (bif (x3 == (755167117 : Int)) then ((c29 (([] : List Int), (0 : Int))).bind fun x4 => (bif x4 then ((c29 (([97] : List Int), (3904355907 : Int))).bind fun x5 => (bif x5 then ((c29 (([97, 98, 99] : List Int), (891568578 : Int))).bind fun x6 => (bif x6 then ((c29 (([49, 50, 51, 52, 53, 54, 55, 56, 57] : List Int), (3421780262 : Int))).bind fun x7 => (some x7)) else (some false))) else (some false))) else (some false))) else (some false))) else none) else (some false))) else none))
def m16 (N : Nat) (x : Unit) : Option (Bool) := n16 x
theorem j16 (N : Nat) (x) : lift E16 el N Try.f16 [] [.bool] x = n16 x := by kernel_rfl
theorem l16 (N : Nat) (x) : lift E16 el N Try.f16 [] [.bool] x = m16 N x := (j16 N x).trans rfl
def c16 (x : Unit) : Option (Bool) := n16 x
def F16 : Lift.Fn := ⟨[], [.bool], fun x => c16 x⟩
theorem r16 : ∀ x r, WfL [] x → c16 x = some r → ∃ N, m16 N x = some r := fun x r _ h => ⟨0, h⟩
theorem L16 : Lifts Try.prog 16 F16 := lifts_of ⟨tabOk, elOk, (fsCons L20 (fsCons L29 fsNil))⟩ mixed Try.func16 rfl (by decide) (by kernel_rfl) (by kernel_rfl) (fun x r w h => (r16 x r w h).imp fun N h => (l16 N x).trans h)

/-! ### wreckage/crc.fits -/
noncomputable def E26 : Env := { tab := tab, fs := [], live := [(3, [3, 6, 7, 8], [])] }
def e26_0 (v : Int × (List (List Int)) × Int × Int) : Fr := { s := [(3, .val ⟨(.int .i64), v.1⟩ .no), (6, .val ⟨(.slice (.slice (.int .u8))), v.2.1⟩ .no), (7, .val ⟨(.int .i64), v.2.2.1⟩ .no), (8, .val ⟨(.int .i64), v.2.2.2⟩ .no)], l := [] }
def h26_0 (self0 : Int × (List (List Int)) × Int × Int → Option (Bool)) (v : Int × (List (List Int)) × Int × Int) : Option (Bool) :=
  (bif (decide (v.2.2.2 < v.2.2.1)) then ((getI v.2.1 v.2.2.2).bind fun x1 => (bif (decide ((List.length x1 : Int) > v.1)) then (some false) else (let x2 : Int := (IntKind.i64.wrap (v.1 - (List.length x1 : Int))); (let x3 : Int := (IntKind.i64.wrap (v.2.2.2 + (1 : Int))); (self0 (x2, v.2.1, v.2.2.1, x3)))))) else (some true))
def g26_0 (N : Nat) (self0 : Int × (List (List Int)) × Int × Int → Option (Bool)) (v : Int × (List (List Int)) × Int × Int) : Option (Bool) := h26_0 self0 v
theorem k26_0 (N : Nat) (s0 : Fr → Option (Bool)) (v) : (fbody E26 el N Try.f26 [.bool] 0 nowhere) s0 (e26_0 v) = h26_0 (fun v => s0 (e26_0 v)) v := by kernel_rfl
theorem b26_0 (N : Nat) (s0 : Fr → Option (Bool)) (v) : (fbody E26 el N Try.f26 [.bool] 0 nowhere) s0 (e26_0 v) = g26_0 N (fun v => s0 (e26_0 v)) v := k26_0 N s0 v
def n26 (loop0 : Int × (List (List Int)) × Int × Int → Option (Bool)) (x : (List (List Int))) : Option (Bool) :=
  (loop0 ((200000 : Int), x, (List.length x : Int), (0 : Int)))
def m26 (N : Nat) (x : (List (List Int))) : Option (Bool) := n26 (iterV (g26_0 N) N) x
theorem j26 (N : Nat) (x) : lift E26 el N Try.f26 [(.slice (.slice (.int .u8)))] [.bool] x = n26 (fun v => iter (fbody E26 el N Try.f26 [.bool] 0 nowhere) N (e26_0 v)) x := by kernel_rfl
theorem l26 (N : Nat) (x) : lift E26 el N Try.f26 [(.slice (.slice (.int .u8)))] [.bool] x = m26 N x := (j26 N x).trans (by rw [funext (iter_eq e26_0 (b26_0 N) N)]; rfl)
def c26 (x : List (List Int)) : Option Bool := n26 (fun v => foldC (fun b left k => bif decide ((List.length b : Int) > left) then some false else k (IntKind.i64.wrap (left - (List.length b : Int)))) (fun _ => some true) v.2.1 v.1) x
def F26 : Lift.Fn := ⟨[(.slice (.slice (.int .u8)))], [.bool], fun x => c26 x⟩
theorem r26 : ∀ x r, WfL [(.slice (.slice (.int .u8)))] x → c26 x = some r → ∃ N, m26 N x = some r := by
  intro x r w h
  refine ⟨x.length + 1, ?_⟩
  rw [← h]
  refine range_all (fun s i => (s, x, (x.length : Int), (i : Int))) _ _ (Nat.lt_succ_self _) ?_ ?_ (200000 : Int)
  · intro self s
    simp [g26_0, h26_0]
  · intro self s i hi
    have e : decide ((i : Int) < (x.length : Int)) = true := decide_eq_true (by omega)
    simp only [g26_0, h26_0, e, cond_true, getI_nat, List.getElem?_eq_getElem hi, Option.bind_some, wrap_succ hi w.1]
theorem L26 : Lifts Try.prog 26 F26 := lifts_of ⟨tabOk, elOk, fsNil⟩ mixed Try.func26 rfl (by decide) (by kernel_rfl) (by kernel_rfl) (fun x r w h => (r26 x r w h).imp fun N h => (l26 N x).trans h)

/-! ### wreckage/wreckageref01.Long -/
noncomputable def E17 : Env := { tab := tab, fs := [], live := [] }
def n17 (x : (List Int)) : Option (Bool) :=
  (bif (decide ((List.length x : Int) > (700 : Int))) then (bif (decide ((List.length x : Int) ≤ (200000 : Int))) then (some true) else (some (decide ((List.length x : Int) > (200100 : Int))))) else (some (decide ((List.length x : Int) > (200100 : Int)))))
def m17 (N : Nat) (x : (List Int)) : Option (Bool) := n17 x
theorem j17 (N : Nat) (x) : lift E17 el N Try.f17 [(.slice (.int .u8))] [.bool] x = n17 x := by kernel_rfl
theorem l17 (N : Nat) (x) : lift E17 el N Try.f17 [(.slice (.int .u8))] [.bool] x = m17 N x := (j17 N x).trans rfl
def c17 (x : (List Int)) : Option (Bool) := n17 x
def F17 : Lift.Fn := ⟨[(.slice (.int .u8))], [.bool], fun x => c17 x⟩
theorem r17 : ∀ x r, WfL [(.slice (.int .u8))] x → c17 x = some r → ∃ N, m17 N x = some r := fun x r _ h => ⟨0, h⟩
theorem L17 : Lifts Try.prog 17 F17 := lifts_of ⟨tabOk, elOk, fsNil⟩ mixed Try.func17 rfl (by decide) (by kernel_rfl) (by kernel_rfl) (fun x r w h => (r17 x r w h).imp fun N h => (l17 N x).trans h)

/-! ### wreckage/wreckageref01.Great -/
noncomputable def E21 : Env := { tab := tab, fs := [(17, F17)], live := [(4, [0, 3], [])] }
def e21_0 (v : (List (List Int)) × Int) : Fr := { s := [(0, .val ⟨(.slice (.slice (.int .u8))), v.1⟩ .no), (3, .val ⟨(.int .i64), v.2⟩ .no)], l := [] }
def h21_0 (self0 : (List (List Int)) × Int → Option (Bool)) (v : (List (List Int)) × Int) : Option (Bool) :=
  (bif (decide (v.2 < (List.length v.1 : Int))) then ((getI v.1 v.2).bind fun x1 => ((c17 x1).bind fun x2 => (bif x2 then (some true) else (let x3 : Int := (IntKind.i64.wrap (v.2 + (1 : Int))); (self0 (v.1, x3)))))) else (some false))
def g21_0 (N : Nat) (self0 : (List (List Int)) × Int → Option (Bool)) (v : (List (List Int)) × Int) : Option (Bool) := h21_0 self0 v
theorem k21_0 (N : Nat) (s0 : Fr → Option (Bool)) (v) : (fbody E21 el N Try.f21 [.bool] 0 nowhere) s0 (e21_0 v) = h21_0 (fun v => s0 (e21_0 v)) v := by kernel_rfl
theorem b21_0 (N : Nat) (s0 : Fr → Option (Bool)) (v) : (fbody E21 el N Try.f21 [.bool] 0 nowhere) s0 (e21_0 v) = g21_0 N (fun v => s0 (e21_0 v)) v := k21_0 N s0 v
def n21 (loop0 : (List (List Int)) × Int → Option (Bool)) (x : (List (List Int))) : Option (Bool) :=
  (bif (decide ((List.length x : Int) > (100 : Int))) then (some true) else (loop0 (x, (0 : Int))))
def m21 (N : Nat) (x : (List (List Int))) : Option (Bool) := n21 (iterV (g21_0 N) N) x
theorem j21 (N : Nat) (x) : lift E21 el N Try.f21 [(.slice (.slice (.int .u8)))] [.bool] x = n21 (fun v => iter (fbody E21 el N Try.f21 [.bool] 0 nowhere) N (e21_0 v)) x := by kernel_rfl
theorem l21 (N : Nat) (x) : lift E21 el N Try.f21 [(.slice (.slice (.int .u8)))] [.bool] x = m21 N x := (j21 N x).trans (by rw [funext (iter_eq e21_0 (b21_0 N) N)]; rfl)
def c21 (x : List (List Int)) : Option Bool := n21 (fun v => foldC (fun b (_ : Unit) k => (c17 b).bind fun y => bif y then some true else k ()) (fun _ => some false) v.1 ()) x
def F21 : Lift.Fn := ⟨[(.slice (.slice (.int .u8)))], [.bool], fun x => c21 x⟩
theorem r21 : ∀ x r, WfL [(.slice (.slice (.int .u8)))] x → c21 x = some r → ∃ N, m21 N x = some r := by
  intro x r w h
  refine ⟨x.length + 1, ?_⟩
  rw [← h]
  have := range_all (g := g21_0 (x.length + 1)) (fun (s : Unit) i => (x, (i : Int))) (fun b (_ : Unit) k => (c17 b).bind fun y => bif y then some true else k ()) (fun _ => some false) (Nat.lt_succ_self x.length) (by
    intro self s
    simp [g21_0, h21_0]) (by
    intro self s i hi
    have e : decide ((i : Int) < (x.length : Int)) = true := decide_eq_true (by omega)
    simp only [g21_0, h21_0, e, cond_true, getI_nat, List.getElem?_eq_getElem hi, Option.bind_some, wrap_succ hi w.1]) ()
  simp only [c21, m21, n21]
  rw [← this]
  rfl
theorem L21 : Lifts Try.prog 21 F21 := lifts_of ⟨tabOk, elOk, (fsCons L17 fsNil)⟩ mixed Try.func21 rfl (by decide) (by kernel_rfl) (by kernel_rfl) (fun x r w h => (r21 x r w h).imp fun N h => (l21 N x).trans h)

/-! ### wreckage/wreckageref01.Whole -/
noncomputable def E22 : Env := { tab := tab, fs := [], live := [(3, [0, 3, 4], [])] }
def e22_0 (v : (List (List Int)) × (List Int) × Int) : Fr := { s := [(0, .val ⟨(.slice (.slice (.int .u8))), v.1⟩ .no), (3, .val ⟨(.slice (.int .u8)), v.2.1⟩ (.own 3 5)), (4, .val ⟨(.int .i64), v.2.2⟩ .no)], l := [] }
def h22_0 (self0 : (List (List Int)) × (List Int) × Int → Option ((List Int))) (v : (List (List Int)) × (List Int) × Int) : Option ((List Int)) :=
  (bif (decide (v.2.2 < (List.length v.1 : Int))) then ((getI v.1 v.2.2).bind fun x1 => (bif (Nat.ble (List.length v.2.1 + List.length x1) lim) then (let x2 : Int := (IntKind.i64.wrap (v.2.2 + (1 : Int))); (self0 (v.1, (List.append v.2.1 x1), x2))) else none)) else (some v.2.1))
def g22_0 (N : Nat) (self0 : (List (List Int)) × (List Int) × Int → Option ((List Int))) (v : (List (List Int)) × (List Int) × Int) : Option ((List Int)) := h22_0 self0 v
theorem k22_0 (N : Nat) (s0 : Fr → Option ((List Int))) (v) : (fbody E22 el N Try.f22 [(.slice (.int .u8))] 0 nowhere) s0 (e22_0 v) = h22_0 (fun v => s0 (e22_0 v)) v := by kernel_rfl
theorem b22_0 (N : Nat) (s0 : Fr → Option ((List Int))) (v) : (fbody E22 el N Try.f22 [(.slice (.int .u8))] 0 nowhere) s0 (e22_0 v) = g22_0 N (fun v => s0 (e22_0 v)) v := k22_0 N s0 v
def n22 (loop0 : (List (List Int)) × (List Int) × Int → Option ((List Int))) (x : (List (List Int))) : Option ((List Int)) :=
  (loop0 (x, ([] : (List Int)), (0 : Int)))
def m22 (N : Nat) (x : (List (List Int))) : Option ((List Int)) := n22 (iterV (g22_0 N) N) x
theorem j22 (N : Nat) (x) : lift E22 el N Try.f22 [(.slice (.slice (.int .u8)))] [(.slice (.int .u8))] x = n22 (fun v => iter (fbody E22 el N Try.f22 [(.slice (.int .u8))] 0 nowhere) N (e22_0 v)) x := by kernel_rfl
theorem l22 (N : Nat) (x) : lift E22 el N Try.f22 [(.slice (.slice (.int .u8)))] [(.slice (.int .u8))] x = m22 N x := (j22 N x).trans (by rw [funext (iter_eq e22_0 (b22_0 N) N)]; rfl)
def c22 (x : List (List Int)) : Option (List Int) := n22 (fun v => foldC (fun b out k => bif Nat.ble (List.length out + List.length b) lim then k (List.append out b) else none) some v.1 v.2.1) x
def F22 : Lift.Fn := ⟨[(.slice (.slice (.int .u8)))], [(.slice (.int .u8))], fun x => c22 x⟩
theorem r22 : ∀ x r, WfL [(.slice (.slice (.int .u8)))] x → c22 x = some r → ∃ N, m22 N x = some r := by
  intro x r w h
  refine ⟨x.length + 1, ?_⟩
  rw [← h]
  refine range_all (fun s i => (x, s, (i : Int))) _ _ (Nat.lt_succ_self _) ?_ ?_ ([] : List Int)
  · intro self s
    simp [g22_0, h22_0]
  · intro self s i hi
    have e : decide ((i : Int) < (x.length : Int)) = true := decide_eq_true (by omega)
    simp only [g22_0, h22_0, e, cond_true, getI_nat, List.getElem?_eq_getElem hi, Option.bind_some, wrap_succ hi w.1]
theorem L22 : Lifts Try.prog 22 F22 := lifts_of ⟨tabOk, elOk, fsNil⟩ mixed Try.func22 rfl (by decide) (by kernel_rfl) (by kernel_rfl) (fun x r w h => (r22 x r w h).imp fun N h => (l22 N x).trans h)

/-! ### wreckage/crc.Pieces -/
noncomputable def E13 : Env := { tab := tab, fs := [(20, F20), (25, F25), (26, F26)], live := [(7, [2, 6, 20, 21, 22], [2])] }
def e13_0 (v : Int × (List (List Int)) × Int × Int × (List Int)) : Fr := { s := [(2, .loc 2 []), (6, .val ⟨(.int .u32), v.1⟩ .no), (20, .val ⟨(.slice (.slice (.int .u8))), v.2.1⟩ .no), (21, .val ⟨(.int .i64), v.2.2.1⟩ .no), (22, .val ⟨(.int .i64), v.2.2.2.1⟩ .no)], l := [(2, true, ⟨(.arr 256 (.int .u32)), v.2.2.2.2⟩)] }
def h13_0 (self0 : Int × (List (List Int)) × Int × Int × (List Int) → Option (Int × Int)) (v : Int × (List (List Int)) × Int × Int × (List Int)) : Option (Int × Int) :=
  (bif (decide (v.2.2.2.1 < v.2.2.1)) then ((getI v.2.1 v.2.2.2.1).bind fun x3 => ((c25 (v.2.2.2.2, v.1, x3)).bind fun x4 => (let x5 : Int := (IntKind.i64.wrap (v.2.2.2.1 + (1 : Int))); (self0 (x4, v.2.1, v.2.2.1, x5, v.2.2.2.2))))) else (let x6 : Int := (bits .xor .u32 v.1 (4294967295 : Int)); (some (x6, (0 : Int)))))
def g13_0 (N : Nat) (self0 : Int × (List (List Int)) × Int × Int × (List Int) → Option (Int × Int)) (v : Int × (List (List Int)) × Int × Int × (List Int)) : Option (Int × Int) := h13_0 self0 v
theorem k13_0 (N : Nat) (s0 : Fr → Option (Int × Int)) (v) : (fbody E13 el N Try.f13 [(.int .u32), (.int .i64)] 0 nowhere) s0 (e13_0 v) = h13_0 (fun v => s0 (e13_0 v)) v := by kernel_rfl
theorem b13_0 (N : Nat) (s0 : Fr → Option (Int × Int)) (v) : (fbody E13 el N Try.f13 [(.int .u32), (.int .i64)] 0 nowhere) s0 (e13_0 v) = g13_0 N (fun v => s0 (e13_0 v)) v := k13_0 N s0 v
def n13 (loop0 : Int × (List (List Int)) × Int × Int × (List Int) → Option (Int × Int)) (x : (List Int) × (List (List Int))) : Option (Int × Int) :=
  ((c20 ()).bind fun x1 => (bif (!(eqD (.arr 256 (.int .u32)) x.1 x1)) then (some ((0 : Int), (8 : Int))) else (bif (decide ((List.length x.2 : Int) > (64 : Int))) then (some ((0 : Int), (4 : Int))) else ((c26 x.2).bind fun x2 => (bif (!x2) then (some ((0 : Int), (4 : Int))) else (loop0 ((4294967295 : Int), x.2, (List.length x.2 : Int), (0 : Int), x.1)))))))
def m13 (N : Nat) (x : (List Int) × (List (List Int))) : Option (Int × Int) := n13 (iterV (g13_0 N) N) x
theorem j13 (N : Nat) (x) : lift E13 el N Try.f13 [(.arr 256 (.int .u32)), (.slice (.slice (.int .u8)))] [(.int .u32), (.int .i64)] x = n13 (fun v => iter (fbody E13 el N Try.f13 [(.int .u32), (.int .i64)] 0 nowhere) N (e13_0 v)) x := by kernel_rfl
theorem l13 (N : Nat) (x) : lift E13 el N Try.f13 [(.arr 256 (.int .u32)), (.slice (.slice (.int .u8)))] [(.int .u32), (.int .i64)] x = m13 N x := (j13 N x).trans (by rw [funext (iter_eq e13_0 (b13_0 N) N)]; rfl)
def c13 (x : List Int × List (List Int)) : Option (Int × Int) := n13 (fun v => foldC (fun b s k => (c25 (v.2.2.2.2, s, b)).bind k) (fun s => some (bits .xor .u32 s 4294967295, 0)) v.2.1 v.1) x
def F13 : Lift.Fn := ⟨[(.arr 256 (.int .u32)), (.slice (.slice (.int .u8)))], [(.int .u32), (.int .i64)], fun x => c13 x⟩
theorem r13 : ∀ x r, WfL [(.arr 256 (.int .u32)), (.slice (.slice (.int .u8)))] x → c13 x = some r → ∃ N, m13 N x = some r := by
  intro x r w h
  refine ⟨x.2.length + 1, ?_⟩
  rw [← h]
  have := range_all (g := g13_0 (x.2.length + 1)) (fun s i => (s, x.2, (x.2.length : Int), (i : Int), x.1)) (fun b s k => (c25 (x.1, s, b)).bind k) (fun s => some (bits .xor .u32 s 4294967295, 0)) (Nat.lt_succ_self x.2.length) (by
    intro self s
    simp [g13_0, h13_0]) (by
    intro self s i hi
    have e : decide ((i : Int) < (x.2.length : Int)) = true := decide_eq_true (by omega)
    simp only [g13_0, h13_0, e, cond_true, getI_nat, List.getElem?_eq_getElem hi, Option.bind_some, wrap_succ hi w.2.1]) (4294967295 : Int)
  simp only [c13, m13, n13]
  rw [← this]
  rfl
theorem L13 : Lifts Try.prog 13 F13 := lifts_of ⟨tabOk, elOk, (fsCons L20 (fsCons L25 (fsCons L26 fsNil)))⟩ mixed Try.func13 rfl (by decide) (by kernel_rfl) (by kernel_rfl) (fun x r w h => (r13 x r w h).imp fun N h => (l13 N x).trans h)

/-! ### wreckage/wreckagelaw01.CrcPieces -/
noncomputable def E5 : Env := { tab := tab, fs := [(10, F10), (11, F11), (13, F13), (16, F16), (20, F20), (21, F21), (22, F22)], live := [(11, [0, 4, 5, 6, 7, 8, 9, 10], [4])] }
def e5_0 (v : (List (List Int)) × Int × Int × Int × Int × Int × Int × (List Int)) : Fr := { s := [(0, .val ⟨(.slice (.slice (.int .u8))), v.1⟩ .no), (4, .loc 4 []), (5, .val ⟨(.int .u32), v.2.1⟩ .no), (6, .val ⟨(.int .i64), v.2.2.1⟩ .no), (7, .val ⟨(.int .u32), v.2.2.2.1⟩ .no), (8, .val ⟨(.int .i64), v.2.2.2.2.1⟩ .no), (9, .val ⟨(.int .u32), v.2.2.2.2.2.1⟩ .no), (10, .val ⟨(.int .i64), v.2.2.2.2.2.2.1⟩ .no)], l := [(4, true, ⟨(.arr 256 (.int .u32)), v.2.2.2.2.2.2.2⟩)] }
def h5_0 (self0 : (List (List Int)) × Int × Int × Int × Int × Int × Int × (List Int) → Option (Bool)) (v : (List (List Int)) × Int × Int × Int × Int × Int × Int × (List Int)) : Option (Bool) :=
  (bif (decide (v.2.2.2.2.2.2.1 < (List.length v.1 : Int))) then ((getI v.1 v.2.2.2.2.2.2.1).bind fun x9 => ((c11 (v.2.2.2.2.2.2.2, v.2.2.2.2.2.1, x9)).bind fun x10 => (bif (x10.2 != (0 : Int)) then (some false) else (let x11 : Int := (IntKind.i64.wrap (v.2.2.2.2.2.2.1 + (1 : Int))); (self0 (v.1, v.2.1, v.2.2.1, v.2.2.2.1, v.2.2.2.2.1, x10.1, x11, v.2.2.2.2.2.2.2)))))) else (bif (v.2.2.1 == (0 : Int)) then (bif (v.2.2.2.2.1 == (0 : Int)) then (bif (v.2.1 == v.2.2.2.1) then (bif (v.2.2.2.2.2.1 == v.2.2.2.1) then ((c16 ()).bind fun x12 => (some x12)) else (some false)) else (some false)) else (some false)) else (some false)))
def g5_0 (N : Nat) (self0 : (List (List Int)) × Int × Int × Int × Int × Int × Int × (List Int) → Option (Bool)) (v : (List (List Int)) × Int × Int × Int × Int × Int × Int × (List Int)) : Option (Bool) := h5_0 self0 v
theorem k5_0 (N : Nat) (s0 : Fr → Option (Bool)) (v) : (fbody E5 el N Try.f5 [.bool] 0 nowhere) s0 (e5_0 v) = h5_0 (fun v => s0 (e5_0 v)) v := by kernel_rfl
theorem b5_0 (N : Nat) (s0 : Fr → Option (Bool)) (v) : (fbody E5 el N Try.f5 [.bool] 0 nowhere) s0 (e5_0 v) = g5_0 N (fun v => s0 (e5_0 v)) v := k5_0 N s0 v
def n5 (loop0 : (List (List Int)) × Int × Int × Int × Int × Int × Int × (List Int) → Option (Bool)) (x : (List (List Int))) : Option (Bool) :=
  (bif (decide ((List.length x : Int) > (64 : Int))) then ((c16 ()).bind fun x1 => (some x1)) else ((c21 x).bind fun x2 => (bif x2 then ((c16 ()).bind fun x3 => (some x3)) else ((c22 x).bind fun x4 => (bif (decide ((List.length x4 : Int) > (2000 : Int))) then ((c16 ()).bind fun x5 => (some x5)) else ((c20 ()).bind fun x6 => ((c13 (x6, x)).bind fun x7 => ((c10 (x6, x4)).bind fun x8 => (loop0 (x, x7.1, x7.2, x8.1, x8.2, (0 : Int), (0 : Int), x6))))))))))
def m5 (N : Nat) (x : (List (List Int))) : Option (Bool) := n5 (iterV (g5_0 N) N) x
theorem j5 (N : Nat) (x) : lift E5 el N Try.f5 [(.slice (.slice (.int .u8)))] [.bool] x = n5 (fun v => iter (fbody E5 el N Try.f5 [.bool] 0 nowhere) N (e5_0 v)) x := by kernel_rfl
theorem l5 (N : Nat) (x) : lift E5 el N Try.f5 [(.slice (.slice (.int .u8)))] [.bool] x = m5 N x := (j5 N x).trans (by rw [funext (iter_eq e5_0 (b5_0 N) N)]; rfl)
def c5 (x : List (List Int)) : Option Bool := n5 (fun v => foldC (fun b on k => (c11 (v.2.2.2.2.2.2.2, on, b)).bind fun r => bif (r.2 != (0 : Int)) then some false else k r.1)
  (fun on => (bif (v.2.2.1 == (0 : Int)) then (bif (v.2.2.2.2.1 == (0 : Int)) then (bif (v.2.1 == v.2.2.2.1) then (bif (on == v.2.2.2.1) then ((c16 ()).bind fun x12 => (some x12)) else (some false)) else (some false)) else (some false)) else (some false))) v.1 v.2.2.2.2.2.1) x
def F5 : Lift.Fn := ⟨[(.slice (.slice (.int .u8)))], [.bool], fun x => c5 x⟩
theorem r5 : ∀ x r, WfL [(.slice (.slice (.int .u8)))] x → c5 x = some r → ∃ N, m5 N x = some r := by
  intro x r w h
  refine ⟨x.length + 1, ?_⟩
  rw [← h]
  have := fun p1 p2 p3 p4 t => range_all (g := g5_0 (x.length + 1)) (fun on i => (x, p1, p2, p3, p4, on, (i : Int), t)) (fun b on k => (c11 (t, on, b)).bind fun r => bif (r.2 != (0 : Int)) then some false else k r.1)
    (fun on => (bif (p2 == (0 : Int)) then (bif (p4 == (0 : Int)) then (bif (p1 == p3) then (bif (on == p3) then ((c16 ()).bind fun x12 => (some x12)) else (some false)) else (some false)) else (some false)) else (some false))) (Nat.lt_succ_self x.length) (by
    intro self s
    simp [g5_0, h5_0]) (by
    intro self s i hi
    have e : decide ((i : Int) < (x.length : Int)) = true := decide_eq_true (by omega)
    simp only [g5_0, h5_0, e, cond_true, getI_nat, List.getElem?_eq_getElem hi, Option.bind_some, wrap_succ hi w.1]) (0 : Int)
  simp only [c5, m5, n5, ← this]
  rfl

theorem L5 : Lifts Try.prog 5 F5 := lifts_of ⟨tabOk, elOk, (fsCons L10 (fsCons L11 (fsCons L13 (fsCons L16 (fsCons L20 (fsCons L21 (fsCons L22 fsNil)))))))⟩ mixed Try.func5 rfl (by decide) (by kernel_rfl) (by kernel_rfl) (fun x r w h => (r5 x r w h).imp fun N h => (l5 N x).trans h)

end Go.Proofs.Ytgehhkiighphhaa
