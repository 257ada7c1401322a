/- Functions of the program, read as typed functions: each equation is checked by the kernel. -/
import Derived.Test.YtgehhkiighphhaaLiftS
import Derived.Test.YtgehhkiighphhaaProg
import Derived.KernelRfl
set_option linter.unusedVariables false
namespace Go.Proofs.Ytgehhkiighphhaa
open Go.Lift
def tab : List (TypeId × Ty) := [(3, (.int .i64)), (4, .bool), (5, (.int .u8)), (9, .str), (22, (.int .u32)), (23, (.arr 256 (.int .u32))), (25, (.slice (.int .u8))), (26, (.int .i64)), (32, (.slice (.slice (.int .u8)))), (34, (.arr 4 (.int .u8))), (48, (.int .u64)), (52, (.ptr (.arr 256 (.int .u32))))]
def el : TypeId → Option TypeId := fun t => lk t [(25, 5)]

theorem tabOk : TabOk Try.prog tab := tabOk_of (by kernel_rfl) (by kernel_rfl) (by kernel_rfl)
theorem elOk : ∀ t e, el t = some e → Try.prog.underlying t = some (.slice e) := elOk_of (by kernel_rfl)
theorem mixed : Try.prog.follows .mixedOrders = true := by kernel_rfl

/-! ### wreckage/crc.turn -/
noncomputable def E32 : Env := { tab := tab, fs := [], live := [] }
def n32 (x : Int) : Option (Int) :=
  (let x1 : Int := (bits .and .u32 x (1 : Int)); (bif (x1 == (1 : Int)) then (let x2 : Int := (bits .xor .u32 (x.fdiv (2 ^ 1)) (3988292384 : Int)); (some x2)) else (some (x.fdiv (2 ^ 1)))))
def m32 (N : Nat) (x : Int) : Option (Int) := n32 x
theorem j32 (N : Nat) (x) : lift (E32) el N Try.f32 [(.int .u32)] [(.int .u32)] x = n32 x := by kernel_rfl
theorem l32 (N : Nat) (x) : lift (E32) el N Try.f32 [(.int .u32)] [(.int .u32)] x = m32 N x := (j32 N x).trans rfl
def c32 (x : Int) : Option (Int) := n32 x
def F32 : Lift.Fn := ⟨[(.int .u32)], [(.int .u32)], fun x => c32 x⟩
theorem r32 : ∀ x r, WfL [(.int .u32)] x → c32 x = some r → ∃ N, m32 N x = some r := fun x r _ h => ⟨0, h⟩
theorem L32 : Lifts Try.prog 32 F32 := lifts_of ⟨tabOk, elOk, fsNil, fun _ _ _ => rfl⟩ mixed Try.func32 rfl (by decide) (by kernel_rfl) (by kernel_rfl) (fun x r w h => (r32 x r w h).imp fun N h => (l32 N x).trans h)

/-! ### wreckage/crc.step -/
noncomputable def E33 : Env := { tab := tab, fs := [], live := [] }
def n33 (x : (List Int) × Int × Int) : Option (Int) :=
  (let x1 : Int := (bits .xor .u8 (IntKind.u8.wrap x.2.1) x.2.2); ((getI x.1 x1).bind fun x2 => (let x3 : Int := (bits .xor .u32 (x.2.1.fdiv (2 ^ 8)) x2); (some x3))))
def m33 (N : Nat) (x : (List Int) × Int × Int) : Option (Int) := n33 x
theorem j33 (N : Nat) (x) : lift (E33) el N Try.f33 [(.ptr (.arr 256 (.int .u32))), (.int .u32), (.int .u8)] [(.int .u32)] x = n33 x := by kernel_rfl
theorem l33 (N : Nat) (x) : lift (E33) el N Try.f33 [(.ptr (.arr 256 (.int .u32))), (.int .u32), (.int .u8)] [(.int .u32)] x = m33 N x := (j33 N x).trans rfl
def c33 (x : (List Int) × Int × Int) : Option (Int) := n33 x
def F33 : Lift.Fn := ⟨[(.ptr (.arr 256 (.int .u32))), (.int .u32), (.int .u8)], [(.int .u32)], fun x => c33 x⟩
theorem r33 : ∀ x r, WfL [(.ptr (.arr 256 (.int .u32))), (.int .u32), (.int .u8)] x → c33 x = some r → ∃ N, m33 N x = some r := fun x r _ h => ⟨0, h⟩
theorem L33 : Lifts Try.prog 33 F33 := lifts_of ⟨tabOk, elOk, fsNil, fun _ _ _ => rfl⟩ mixed Try.func33 rfl (by decide) (by kernel_rfl) (by kernel_rfl) (fun x r w h => (r33 x r w h).imp fun N h => (l33 N x).trans h)

/-! ### wreckage/crc.Table -/
noncomputable def E20 : Env := { tab := tab, fs := [(32, F32)], live := [(3, [0, 1, 4], [0, 1]), (7, [0, 1, 2, 3, 4, 9], [0, 1])] }
def e20_1 (v : Int × Int × Int × Int × (List Int) × (List Int)) : Fr := { s := [(0, .loc 0 []), (1, .loc 1 []), (2, .val ⟨(.int .i64), v.1⟩ .no), (3, .val ⟨(.int .u32), v.2.1⟩ .no), (4, .val ⟨(.int .i64), v.2.2.1⟩ .no), (9, .val ⟨(.int .i64), v.2.2.2.1⟩ .no)], l := [(0, true, ⟨(.arr 256 (.int .u32)), v.2.2.2.2.1⟩), (1, true, ⟨(.arr 256 (.int .u32)), v.2.2.2.2.2⟩)] }
def e20_0 (v : Int × (List Int) × (List Int)) : Fr := { s := [(0, .loc 0 []), (1, .loc 1 []), (4, .val ⟨(.int .i64), v.1⟩ .no)], l := [(0, true, ⟨(.arr 256 (.int .u32)), v.2.1⟩), (1, true, ⟨(.arr 256 (.int .u32)), v.2.2⟩)] }
def h20_1 (self0 : Int × (List Int) × (List Int) → Option ((List Int))) (self1 : Int × Int × Int × Int × (List Int) × (List Int) → Option ((List Int))) (v : Int × Int × Int × Int × (List Int) × (List Int)) : Option ((List Int)) :=
  (bif (decide (v.2.2.2.1 < (8 : Int))) then ((c32 v.2.1).bind fun x1 => (let x2 : Int := (IntKind.i64.wrap (v.2.2.2.1 + (1 : Int))); (self1 (v.1, x1, v.2.2.1, x2, v.2.2.2.2.1, v.2.2.2.2.2)))) else (bif (decide (0 ≤ v.1) && decide (v.1 < (256 : Int))) then (let x3 : (List Int) := (List.set v.2.2.2.2.2 (Int.toNat v.1) v.2.1); (let x4 : Int := (IntKind.i64.wrap (v.2.2.1 + (1 : Int))); (self0 (x4, v.2.2.2.2.1, x3)))) else none))
def g20_1 (N : Nat) (self0 : Int × (List Int) × (List Int) → Option ((List Int))) (self1 : Int × Int × Int × Int × (List Int) × (List Int) → Option ((List Int))) (v : Int × Int × Int × Int × (List Int) × (List Int)) : Option ((List Int)) := h20_1 self0 self1 v
theorem k20_1 (N : Nat) (s0 : Fr → Option ((List Int))) (s1 : Fr → Option ((List Int))) (v) : (fbody E20 el N Try.f20 [(.arr 256 (.int .u32))] 1 (outer s0 nowhere)) s1 (e20_1 v) = h20_1 (fun v => s0 (e20_0 v)) (fun v => s1 (e20_1 v)) v := by kernel_rfl
theorem b20_1 (N : Nat) (s0 : Fr → Option ((List Int))) (s1 : Fr → Option ((List Int))) (v) : (fbody E20 el N Try.f20 [(.arr 256 (.int .u32))] 1 (outer s0 nowhere)) s1 (e20_1 v) = g20_1 N (fun v => s0 (e20_0 v)) (fun v => s1 (e20_1 v)) v := k20_1 N s0 s1 v
def h20_0 (loop1 : Int × Int × Int × Int × (List Int) × (List Int) → Option ((List Int))) (self0 : Int × (List Int) × (List Int) → Option ((List Int))) (v : Int × (List Int) × (List Int)) : Option ((List Int)) :=
  (bif (decide (v.1 < (256 : Int))) then (loop1 (v.1, (IntKind.u32.wrap v.1), v.1, (0 : Int), v.2.1, v.2.2)) else (some v.2.2))
def g20_0 (N : Nat) (self0 : Int × (List Int) × (List Int) → Option ((List Int))) (v : Int × (List Int) × (List Int)) : Option ((List Int)) := h20_0 (iterV (g20_1 N self0) N) self0 v
theorem k20_0 (N : Nat) (s0 : Fr → Option ((List Int))) (v) : (fbody E20 el N Try.f20 [(.arr 256 (.int .u32))] 0 nowhere) s0 (e20_0 v) = h20_0 (fun v => iter (fbody E20 el N Try.f20 [(.arr 256 (.int .u32))] 1 (outer s0 nowhere)) N (e20_1 v)) (fun v => s0 (e20_0 v)) v := by kernel_rfl
theorem b20_0 (N : Nat) (s0 : Fr → Option ((List Int))) (v) : (fbody E20 el N Try.f20 [(.arr 256 (.int .u32))] 0 nowhere) s0 (e20_0 v) = g20_0 N (fun v => s0 (e20_0 v)) v := (k20_0 N s0 v).trans (by rw [funext (iter_eq e20_1 (b20_1 N s0) N)]; rfl)
def n20 (loop0 : Int × (List Int) × (List Int) → Option ((List Int))) (x : Unit) : Option ((List Int)) :=
  (loop0 ((0 : Int), (List.replicate 256 (0 : Int)), (List.replicate 256 (0 : Int))))
def m20 (N : Nat) (x : Unit) : Option ((List Int)) := n20 (iterV (g20_0 N) N) x
theorem j20 (N : Nat) (x) : lift (E20) el N Try.f20 [] [(.arr 256 (.int .u32))] x = n20 (fun v => iter (fbody E20 el N Try.f20 [(.arr 256 (.int .u32))] 0 nowhere) N (e20_0 v)) x := by kernel_rfl
theorem l20 (N : Nat) (x) : lift (E20) el N Try.f20 [] [(.arr 256 (.int .u32))] x = m20 N x := (j20 N x).trans (by rw [funext (iter_eq e20_0 (b20_0 N) N)]; rfl)
def turns : Nat → Int → Int
  | 0, x => x
  | n + 1, x => turns n ((c32 x).getD 0)
def tbl : List Int := (List.range 256).map fun (i : Nat) => turns 8 (Int.ofNat i)
def c20 (_ : Unit) : Option (List Int) := some tbl
def F20 : Lift.Fn := ⟨[], [(.arr 256 (.int .u32))], fun x => c20 x⟩
theorem r20 : ∀ x r, WfL [] x → c20 x = some r → ∃ N, m20 N x = some r := fun x r _ h => ⟨300, by
  cases h
  kernel_rfl⟩
theorem L20 : Lifts Try.prog 20 F20 := lifts_of ⟨tabOk, elOk, (fsCons L32 fsNil), fun _ _ _ => rfl⟩ mixed Try.func20 rfl (by decide) (by kernel_rfl) (by kernel_rfl) (fun x r w h => (r20 x r w h).imp fun N h => (l20 N x).trans h)

/-! ### wreckage/crc.steps -/
noncomputable def E25 : Env := { tab := tab, fs := [(33, F33)], live := [(2, [0, 1, 9, 10, 11], [])] }
def e25_0 (v : (List Int) × Int × (List Int) × Int × Int) : Fr := { s := [(0, .val ⟨(.ptr (.arr 256 (.int .u32))), v.1⟩ .no), (1, .val ⟨(.int .u32), v.2.1⟩ .no), (9, .val ⟨(.slice (.int .u8)), v.2.2.1⟩ .no), (10, .val ⟨(.int .i64), v.2.2.2.1⟩ .no), (11, .val ⟨(.int .i64), v.2.2.2.2⟩ .no)], l := [] }
def h25_0 (self0 : (List Int) × Int × (List Int) × Int × Int → Option (Int)) (v : (List Int) × Int × (List Int) × Int × Int) : Option (Int) :=
  (bif (decide (v.2.2.2.2 < v.2.2.2.1)) then ((getI v.2.2.1 v.2.2.2.2).bind fun x1 => ((c33 (v.1, v.2.1, x1)).bind fun x2 => (let x3 : Int := (IntKind.i64.wrap (v.2.2.2.2 + (1 : Int))); (self0 (v.1, x2, v.2.2.1, v.2.2.2.1, x3))))) else (some v.2.1))
def g25_0 (N : Nat) (self0 : (List Int) × Int × (List Int) × Int × Int → Option (Int)) (v : (List Int) × Int × (List Int) × Int × Int) : Option (Int) := h25_0 self0 v
theorem k25_0 (N : Nat) (s0 : Fr → Option (Int)) (v) : (fbody E25 el N Try.f25 [(.int .u32)] 0 nowhere) s0 (e25_0 v) = h25_0 (fun v => s0 (e25_0 v)) v := by kernel_rfl
theorem b25_0 (N : Nat) (s0 : Fr → Option (Int)) (v) : (fbody E25 el N Try.f25 [(.int .u32)] 0 nowhere) s0 (e25_0 v) = g25_0 N (fun v => s0 (e25_0 v)) v := k25_0 N s0 v
def n25 (loop0 : (List Int) × Int × (List Int) × Int × Int → Option (Int)) (x : (List Int) × Int × (List Int)) : Option (Int) :=
  (loop0 (x.1, x.2.1, x.2.2, (List.length x.2.2 : Int), (0 : Int)))
def m25 (N : Nat) (x : (List Int) × Int × (List Int)) : Option (Int) := n25 (iterV (g25_0 N) N) x
theorem j25 (N : Nat) (x) : lift (E25) el N Try.f25 [(.ptr (.arr 256 (.int .u32))), (.int .u32), (.slice (.int .u8))] [(.int .u32)] x = n25 (fun v => iter (fbody E25 el N Try.f25 [(.int .u32)] 0 nowhere) N (e25_0 v)) x := by kernel_rfl
theorem l25 (N : Nat) (x) : lift (E25) el N Try.f25 [(.ptr (.arr 256 (.int .u32))), (.int .u32), (.slice (.int .u8))] [(.int .u32)] x = m25 N x := (j25 N x).trans (by rw [funext (iter_eq e25_0 (b25_0 N) N)]; rfl)
def c25 (x : List Int × Int × List Int) : Option Int := foldC (fun c s k => (c33 (x.1, s, c)).bind k) some x.2.2 x.2.1
def F25 : Lift.Fn := ⟨[(.ptr (.arr 256 (.int .u32))), (.int .u32), (.slice (.int .u8))], [(.int .u32)], fun x => c25 x⟩
theorem r25 : ∀ x r, WfL [(.ptr (.arr 256 (.int .u32))), (.int .u32), (.slice (.int .u8))] x → c25 x = some r → ∃ N, m25 N x = some r := by
  intro x r w h
  refine ⟨x.2.2.length + 1, ?_⟩
  rw [← h]
  refine range_all (fun s i => (x.1, s, x.2.2, (x.2.2.length : Int), (i : Int))) _ _ (Nat.lt_succ_self _) ?_ ?_ x.2.1
  · intro self s
    simp [g25_0, h25_0]
  · intro self s i hi
    have e : decide ((i : Int) < (x.2.2.length : Int)) = true := decide_eq_true (by omega)
    simp only [g25_0, h25_0, e, cond_true, getI_nat, List.getElem?_eq_getElem hi, Option.bind_some, wrap_succ hi w.2.2.1]
theorem L25 : Lifts Try.prog 25 F25 := lifts_of ⟨tabOk, elOk, (fsCons L33 fsNil), fun _ _ _ => rfl⟩ mixed Try.func25 rfl (by decide) (by kernel_rfl) (by kernel_rfl) (fun x r w h => (r25 x r w h).imp fun N h => (l25 N x).trans h)

/-! ### wreckage/crc.Next -/
noncomputable def E11 : Env := { tab := tab, fs := [(20, F20), (25, F25)], live := [] }
def n11 (x : (List Int) × Int × (List Int)) : Option (Int × Int) :=
  ((c20 ()).bind fun x1 => (bif (!(eqD (.arr 256 (.int .u32)) x.1 x1)) then (some ((0 : Int), (8 : Int))) else (bif (decide ((List.length x.2.2 : Int) > (200000 : Int))) then (some ((0 : Int), (4 : Int))) else (let x2 : Int := (bits .xor .u32 x.2.1 (4294967295 : Int)); ((c25 (x.1, x2, x.2.2)).bind fun x3 => (let x4 : Int := (bits .xor .u32 x3 (4294967295 : Int)); (some (x4, (0 : Int)))))))))
def m11 (N : Nat) (x : (List Int) × Int × (List Int)) : Option (Int × Int) := n11 x
theorem j11 (N : Nat) (x) : lift (E11) el N Try.f11 [(.arr 256 (.int .u32)), (.int .u32), (.slice (.int .u8))] [(.int .u32), (.int .i64)] x = n11 x := by kernel_rfl
theorem l11 (N : Nat) (x) : lift (E11) el N Try.f11 [(.arr 256 (.int .u32)), (.int .u32), (.slice (.int .u8))] [(.int .u32), (.int .i64)] x = m11 N x := (j11 N x).trans rfl
def c11 (x : (List Int) × Int × (List Int)) : Option (Int × Int) := n11 x
def F11 : Lift.Fn := ⟨[(.arr 256 (.int .u32)), (.int .u32), (.slice (.int .u8))], [(.int .u32), (.int .i64)], fun x => c11 x⟩
theorem r11 : ∀ x r, WfL [(.arr 256 (.int .u32)), (.int .u32), (.slice (.int .u8))] x → c11 x = some r → ∃ N, m11 N x = some r := fun x r _ h => ⟨0, h⟩
theorem L11 : Lifts Try.prog 11 F11 := lifts_of ⟨tabOk, elOk, (fsCons L20 (fsCons L25 fsNil)), fun _ _ _ => rfl⟩ mixed Try.func11 rfl (by decide) (by kernel_rfl) (by kernel_rfl) (fun x r w h => (r11 x r w h).imp fun N h => (l11 N x).trans h)

/-! ### wreckage/crc.Sum -/
noncomputable def E10 : Env := { tab := tab, fs := [(11, F11)], live := [] }
def n10 (x : (List Int) × (List Int)) : Option (Int × Int) :=
  ((c11 (x.1, (0 : Int), x.2)).bind fun x1 => (some (x1.1, x1.2)))
def m10 (N : Nat) (x : (List Int) × (List Int)) : Option (Int × Int) := n10 x
theorem j10 (N : Nat) (x) : lift (E10) el N Try.f10 [(.arr 256 (.int .u32)), (.slice (.int .u8))] [(.int .u32), (.int .i64)] x = n10 x := by kernel_rfl
theorem l10 (N : Nat) (x) : lift (E10) el N Try.f10 [(.arr 256 (.int .u32)), (.slice (.int .u8))] [(.int .u32), (.int .i64)] x = m10 N x := (j10 N x).trans rfl
def c10 (x : (List Int) × (List Int)) : Option (Int × Int) := n10 x
def F10 : Lift.Fn := ⟨[(.arr 256 (.int .u32)), (.slice (.int .u8))], [(.int .u32), (.int .i64)], fun x => c10 x⟩
theorem r10 : ∀ x r, WfL [(.arr 256 (.int .u32)), (.slice (.int .u8))] x → c10 x = some r → ∃ N, m10 N x = some r := fun x r _ h => ⟨0, h⟩
theorem L10 : Lifts Try.prog 10 F10 := lifts_of ⟨tabOk, elOk, (fsCons L11 fsNil), fun _ _ _ => rfl⟩ mixed Try.func10 rfl (by decide) (by kernel_rfl) (by kernel_rfl) (fun x r w h => (r10 x r w h).imp fun N h => (l10 N x).trans h)

/-! ### wreckage/wreckagelaw01.sum -/
noncomputable def E29 : Env := { tab := tab, fs := [(10, F10), (20, F20)], live := [] }
def n29 (x : (List Int) × Int) : Option (Bool) :=
  ((c20 ()).bind fun x1 => ((c10 (x1, x.1)).bind fun x2 => (bif (x2.2 == (0 : Int)) then (some (x2.1 == x.2)) else (some false))))
def m29 (N : Nat) (x : (List Int) × Int) : Option (Bool) := n29 x
theorem j29 (N : Nat) (x) : lift (E29) el N Try.f29 [.str, (.int .u32)] [.bool] x = n29 x := by kernel_rfl
theorem l29 (N : Nat) (x) : lift (E29) el N Try.f29 [.str, (.int .u32)] [.bool] x = m29 N x := (j29 N x).trans rfl
def c29 (x : (List Int) × Int) : Option (Bool) := n29 x
def F29 : Lift.Fn := ⟨[.str, (.int .u32)], [.bool], fun x => c29 x⟩
theorem r29 : ∀ x r, WfL [.str, (.int .u32)] x → c29 x = some r → ∃ N, m29 N x = some r := fun x r _ h => ⟨0, h⟩
theorem L29 : Lifts Try.prog 29 F29 := lifts_of ⟨tabOk, elOk, (fsCons L10 (fsCons L20 fsNil)), fun _ _ _ => rfl⟩ mixed Try.func29 rfl (by decide) (by kernel_rfl) (by kernel_rfl) (fun x r w h => (r29 x r w h).imp fun N h => (l29 N x).trans h)

/-! ### wreckage/wreckagelaw01.alive -/
noncomputable def E16 : Env := { tab := tab, fs := [(20, F20), (29, F29)], live := [] }
def n16 (x : Unit) : Option (Bool) :=
  ((c20 ()).bind fun x1 => (bif (decide (0 ≤ (1 : Int)) && decide ((1 : Int) < (256 : Int))) then ((nth x1 (Int.toNat (1 : Int))).bind fun x2 => (bif (x2 == (1996959894 : Int)) then (bif (decide (0 ≤ (255 : Int)) && decide ((255 : Int) < (256 : Int))) then ((nth x1 (Int.toNat (255 : Int))).bind fun x3 => (bif (x3 == (755167117 : Int)) then ((c29 (([] : List Int), (0 : Int))).bind fun x4 => (bif x4 then ((c29 (([97] : List Int), (3904355907 : Int))).bind fun x5 => (bif x5 then ((c29 (([97, 98, 99] : List Int), (891568578 : Int))).bind fun x6 => (bif x6 then ((c29 (([49, 50, 51, 52, 53, 54, 55, 56, 57] : List Int), (3421780262 : Int))).bind fun x7 => (some x7)) else (some false))) else (some false))) else (some false))) else (some false))) else none) else (some false))) else none))
def m16 (N : Nat) (x : Unit) : Option (Bool) := n16 x
theorem j16 (N : Nat) (x) : lift (E16) el N Try.f16 [] [.bool] x = n16 x := by kernel_rfl
theorem l16 (N : Nat) (x) : lift (E16) el N Try.f16 [] [.bool] x = m16 N x := (j16 N x).trans rfl
def c16 (x : Unit) : Option (Bool) := n16 x
def F16 : Lift.Fn := ⟨[], [.bool], fun x => c16 x⟩
theorem r16 : ∀ x r, WfL [] x → c16 x = some r → ∃ N, m16 N x = some r := fun x r _ h => ⟨0, h⟩
theorem L16 : Lifts Try.prog 16 F16 := lifts_of ⟨tabOk, elOk, (fsCons L20 (fsCons L29 fsNil)), fun _ _ _ => rfl⟩ mixed Try.func16 rfl (by decide) (by kernel_rfl) (by kernel_rfl) (fun x r w h => (r16 x r w h).imp fun N h => (l16 N x).trans h)

/-! ### wreckage/crc.fits -/
noncomputable def E26 : Env := { tab := tab, fs := [], live := [(3, [3, 6, 7, 8], [])] }
def e26_0 (v : Int × (List (List Int)) × Int × Int) : Fr := { s := [(3, .val ⟨(.int .i64), v.1⟩ .no), (6, .val ⟨(.slice (.slice (.int .u8))), v.2.1⟩ .no), (7, .val ⟨(.int .i64), v.2.2.1⟩ .no), (8, .val ⟨(.int .i64), v.2.2.2⟩ .no)], l := [] }
def h26_0 (self0 : Int × (List (List Int)) × Int × Int → Option (Bool)) (v : Int × (List (List Int)) × Int × Int) : Option (Bool) :=
  (bif (decide (v.2.2.2 < v.2.2.1)) then ((getI v.2.1 v.2.2.2).bind fun x1 => (bif (decide ((List.length x1 : Int) > v.1)) then (some false) else (let x2 : Int := (IntKind.i64.wrap (v.1 - (List.length x1 : Int))); (let x3 : Int := (IntKind.i64.wrap (v.2.2.2 + (1 : Int))); (self0 (x2, v.2.1, v.2.2.1, x3)))))) else (some true))
def g26_0 (N : Nat) (self0 : Int × (List (List Int)) × Int × Int → Option (Bool)) (v : Int × (List (List Int)) × Int × Int) : Option (Bool) := h26_0 self0 v
theorem k26_0 (N : Nat) (s0 : Fr → Option (Bool)) (v) : (fbody E26 el N Try.f26 [.bool] 0 nowhere) s0 (e26_0 v) = h26_0 (fun v => s0 (e26_0 v)) v := by kernel_rfl
theorem b26_0 (N : Nat) (s0 : Fr → Option (Bool)) (v) : (fbody E26 el N Try.f26 [.bool] 0 nowhere) s0 (e26_0 v) = g26_0 N (fun v => s0 (e26_0 v)) v := k26_0 N s0 v
def n26 (loop0 : Int × (List (List Int)) × Int × Int → Option (Bool)) (x : (List (List Int))) : Option (Bool) :=
  (loop0 ((200000 : Int), x, (List.length x : Int), (0 : Int)))
def m26 (N : Nat) (x : (List (List Int))) : Option (Bool) := n26 (iterV (g26_0 N) N) x
theorem j26 (N : Nat) (x) : lift (E26) el N Try.f26 [(.slice (.slice (.int .u8)))] [.bool] x = n26 (fun v => iter (fbody E26 el N Try.f26 [.bool] 0 nowhere) N (e26_0 v)) x := by kernel_rfl
theorem l26 (N : Nat) (x) : lift (E26) el N Try.f26 [(.slice (.slice (.int .u8)))] [.bool] x = m26 N x := (j26 N x).trans (by rw [funext (iter_eq e26_0 (b26_0 N) N)]; rfl)
def c26 (x : List (List Int)) : Option Bool := n26 (fun v => foldC (fun b left k => bif decide ((List.length b : Int) > left) then some false else k (IntKind.i64.wrap (left - (List.length b : Int)))) (fun _ => some true) v.2.1 v.1) x
def F26 : Lift.Fn := ⟨[(.slice (.slice (.int .u8)))], [.bool], fun x => c26 x⟩
theorem r26 : ∀ x r, WfL [(.slice (.slice (.int .u8)))] x → c26 x = some r → ∃ N, m26 N x = some r := by
  intro x r w h
  refine ⟨x.length + 1, ?_⟩
  rw [← h]
  refine range_all (fun s i => (s, x, (x.length : Int), (i : Int))) _ _ (Nat.lt_succ_self _) ?_ ?_ (200000 : Int)
  · intro self s
    simp [g26_0, h26_0]
  · intro self s i hi
    have e : decide ((i : Int) < (x.length : Int)) = true := decide_eq_true (by omega)
    simp only [g26_0, h26_0, e, cond_true, getI_nat, List.getElem?_eq_getElem hi, Option.bind_some, wrap_succ hi w.1]
theorem L26 : Lifts Try.prog 26 F26 := lifts_of ⟨tabOk, elOk, fsNil, fun _ _ _ => rfl⟩ mixed Try.func26 rfl (by decide) (by kernel_rfl) (by kernel_rfl) (fun x r w h => (r26 x r w h).imp fun N h => (l26 N x).trans h)

/-! ### wreckage/wreckageref01.Element -/
noncomputable def E24 : Env := { tab := tab, fs := [], live := [(2, [0, 3], [])] }
def e24_0 (v : Int × Int) : Fr := { s := [(0, .val ⟨(.int .u32), v.1⟩ .no), (3, .val ⟨(.int .i64), v.2⟩ .no)], l := [] }
def h24_0 (self0 : Int × Int → Option (Int)) (v : Int × Int) : Option (Int) :=
  (bif (decide (v.2 < (8 : Int))) then (let x1 : Int := (IntKind.u32.wrap (v.1.tdiv (2 : Int))); (bif ((v.1.tmod (2 : Int)) == (1 : Int)) then (let x2 : Int := (bits .xor .u32 x1 (3988292384 : Int)); (let x3 : Int := (IntKind.i64.wrap (v.2 + (1 : Int))); (self0 (x2, x3)))) else (let x4 : Int := (IntKind.i64.wrap (v.2 + (1 : Int))); (self0 (x1, x4))))) else (some v.1))
def g24_0 (N : Nat) (self0 : Int × Int → Option (Int)) (v : Int × Int) : Option (Int) := h24_0 self0 v
theorem k24_0 (N : Nat) (s0 : Fr → Option (Int)) (v) : (fbody E24 el N Try.f24 [(.int .u32)] 0 nowhere) s0 (e24_0 v) = h24_0 (fun v => s0 (e24_0 v)) v := by kernel_rfl
theorem b24_0 (N : Nat) (s0 : Fr → Option (Int)) (v) : (fbody E24 el N Try.f24 [(.int .u32)] 0 nowhere) s0 (e24_0 v) = g24_0 N (fun v => s0 (e24_0 v)) v := k24_0 N s0 v
def n24 (loop0 : Int × Int → Option (Int)) (x : Int) : Option (Int) :=
  (loop0 (x, (0 : Int)))
def m24 (N : Nat) (x : Int) : Option (Int) := n24 (iterV (g24_0 N) N) x
theorem j24 (N : Nat) (x) : lift (E24) el N Try.f24 [(.int .u32)] [(.int .u32)] x = n24 (fun v => iter (fbody E24 el N Try.f24 [(.int .u32)] 0 nowhere) N (e24_0 v)) x := by kernel_rfl
theorem l24 (N : Nat) (x) : lift (E24) el N Try.f24 [(.int .u32)] [(.int .u32)] x = m24 N x := (j24 N x).trans (by rw [funext (iter_eq e24_0 (b24_0 N) N)]; rfl)
def step24 (x : Int) : Int := bif (x.tmod 2 == 1) then bits .xor .u32 (IntKind.u32.wrap (x.tdiv 2)) 3988292384 else IntKind.u32.wrap (x.tdiv 2)
def c24 (x : Int) : Option Int := some (step24 (step24 (step24 (step24 (step24 (step24 (step24 (step24 x))))))))
def F24 : Lift.Fn := ⟨[(.int .u32)], [(.int .u32)], fun x => c24 x⟩
theorem r24 : ∀ x r, WfL [(.int .u32)] x → c24 x = some r → ∃ N, m24 N x = some r := by
  intro x r w h
  refine ⟨9, ?_⟩
  cases h
  have step : ∀ (j : Nat) (s : Int) self, j < 8 → g24_0 9 self (s, (j : Int)) = self (step24 s, ((j + 1 : Nat) : Int)) := by
    intro j s self hj
    have e : decide ((j : Int) < 8) = true := decide_eq_true (by omega)
    simp only [g24_0, h24_0, e, cond_true, wrap_i64 (n := (j : Int) + 1) (by omega) (by omega), step24]
    cases (s.tmod 2 == 1) <;> rfl
  show iterV (g24_0 9) 9 (x, ((0 : Nat) : Int)) = _
  rw [iterV, step 0 _ _ (by decide), iterV, step 1 _ _ (by decide), iterV, step 2 _ _ (by decide), iterV, step 3 _ _ (by decide), iterV, step 4 _ _ (by decide), iterV, step 5 _ _ (by decide), iterV, step 6 _ _ (by decide), iterV, step 7 _ _ (by decide)]
  rfl
theorem L24 : Lifts Try.prog 24 F24 := lifts_of ⟨tabOk, elOk, fsNil, fun _ _ _ => rfl⟩ mixed Try.func24 rfl (by decide) (by kernel_rfl) (by kernel_rfl) (fun x r w h => (r24 x r w h).imp fun N h => (l24 N x).trans h)

/-! ### wreckage/wreckageref01.Table -/
noncomputable def E9 : Env := { tab := tab, fs := [(24, F24)], live := [(3, [0, 1, 2], [0, 1])] }
def e9_0 (v : Int × (List Int) × (List Int)) : Fr := { s := [(0, .loc 0 []), (1, .loc 1 []), (2, .val ⟨(.int .i64), v.1⟩ .no)], l := [(0, true, ⟨(.arr 256 (.int .u32)), v.2.1⟩), (1, true, ⟨(.arr 256 (.int .u32)), v.2.2⟩)] }
def h9_0 (self0 : Int × (List Int) × (List Int) → Option ((List Int))) (v : Int × (List Int) × (List Int)) : Option ((List Int)) :=
  (bif (decide (v.1 < (256 : Int))) then ((c24 (IntKind.u32.wrap v.1)).bind fun x1 => (bif (decide (0 ≤ v.1) && decide (v.1 < (256 : Int))) then (let x2 : (List Int) := (List.set v.2.2 (Int.toNat v.1) x1); (let x3 : Int := (IntKind.i64.wrap (v.1 + (1 : Int))); (self0 (x3, v.2.1, x2)))) else none)) else (some v.2.2))
def g9_0 (N : Nat) (self0 : Int × (List Int) × (List Int) → Option ((List Int))) (v : Int × (List Int) × (List Int)) : Option ((List Int)) := h9_0 self0 v
theorem k9_0 (N : Nat) (s0 : Fr → Option ((List Int))) (v) : (fbody E9 el N Try.f9 [(.arr 256 (.int .u32))] 0 nowhere) s0 (e9_0 v) = h9_0 (fun v => s0 (e9_0 v)) v := by kernel_rfl
theorem b9_0 (N : Nat) (s0 : Fr → Option ((List Int))) (v) : (fbody E9 el N Try.f9 [(.arr 256 (.int .u32))] 0 nowhere) s0 (e9_0 v) = g9_0 N (fun v => s0 (e9_0 v)) v := k9_0 N s0 v
def n9 (loop0 : Int × (List Int) × (List Int) → Option ((List Int))) (x : Unit) : Option ((List Int)) :=
  (loop0 ((0 : Int), (List.replicate 256 (0 : Int)), (List.replicate 256 (0 : Int))))
def m9 (N : Nat) (x : Unit) : Option ((List Int)) := n9 (iterV (g9_0 N) N) x
theorem j9 (N : Nat) (x) : lift (E9) el N Try.f9 [] [(.arr 256 (.int .u32))] x = n9 (fun v => iter (fbody E9 el N Try.f9 [(.arr 256 (.int .u32))] 0 nowhere) N (e9_0 v)) x := by kernel_rfl
theorem l9 (N : Nat) (x) : lift (E9) el N Try.f9 [] [(.arr 256 (.int .u32))] x = m9 N x := (j9 N x).trans (by rw [funext (iter_eq e9_0 (b9_0 N) N)]; rfl)
def c9 (_ : Unit) : Option (List Int) := some tbl
def F9 : Lift.Fn := ⟨[], [(.arr 256 (.int .u32))], fun x => c9 x⟩
theorem r9 : ∀ x r, WfL [] x → c9 x = some r → ∃ N, m9 N x = some r := fun x r _ h => ⟨300, by
  cases h
  kernel_rfl⟩
theorem L9 : Lifts Try.prog 9 F9 := lifts_of ⟨tabOk, elOk, (fsCons L24 fsNil), fun _ _ _ => rfl⟩ mixed Try.func9 rfl (by decide) (by kernel_rfl) (by kernel_rfl) (fun x r w h => (r9 x r w h).imp fun N h => (l9 N x).trans h)

/-! ### wreckage/wreckagelaw01.table -/
noncomputable def E12 : Env := { tab := tab, fs := [(9, F9)], live := [] }
def n12 (x : Int × Int) : Option ((List Int)) :=
  ((c9 ()).bind fun x1 => (bif (decide (x.1 ≥ (0 : Int))) then (bif (decide (x.1 < (256 : Int))) then (bif (decide (0 ≤ x.1) && decide (x.1 < (256 : Int))) then ((nth x1 (Int.toNat x.1)).bind fun x2 => (bif (decide (0 ≤ x.1) && decide (x.1 < (256 : Int))) then (let x3 : (List Int) := (List.set x1 (Int.toNat x.1) (bits .xor .u32 x2 x.2)); (some x3)) else none)) else none) else (some x1)) else (some x1)))
def m12 (N : Nat) (x : Int × Int) : Option ((List Int)) := n12 x
theorem j12 (N : Nat) (x) : lift (E12) el N Try.f12 [(.int .i64), (.int .u32)] [(.arr 256 (.int .u32))] x = n12 x := by kernel_rfl
theorem l12 (N : Nat) (x) : lift (E12) el N Try.f12 [(.int .i64), (.int .u32)] [(.arr 256 (.int .u32))] x = m12 N x := (j12 N x).trans rfl
def c12 (x : Int × Int) : Option ((List Int)) := n12 x
def F12 : Lift.Fn := ⟨[(.int .i64), (.int .u32)], [(.arr 256 (.int .u32))], fun x => c12 x⟩
theorem r12 : ∀ x r, WfL [(.int .i64), (.int .u32)] x → c12 x = some r → ∃ N, m12 N x = some r := fun x r _ h => ⟨0, h⟩
theorem L12 : Lifts Try.prog 12 F12 := lifts_of ⟨tabOk, elOk, (fsCons L9 fsNil), fun _ _ _ => rfl⟩ mixed Try.func12 rfl (by decide) (by kernel_rfl) (by kernel_rfl) (fun x r w h => (r12 x r w h).imp fun N h => (l12 N x).trans h)

/-! ### wreckage/crc.Pieces -/
noncomputable def E13 : Env := { tab := tab, fs := [(20, F20), (25, F25), (26, F26)], live := [(7, [2, 6, 20, 21, 22], [2])] }
def e13_0 (v : Int × (List (List Int)) × Int × Int × (List Int)) : Fr := { s := [(2, .loc 2 []), (6, .val ⟨(.int .u32), v.1⟩ .no), (20, .val ⟨(.slice (.slice (.int .u8))), v.2.1⟩ .no), (21, .val ⟨(.int .i64), v.2.2.1⟩ .no), (22, .val ⟨(.int .i64), v.2.2.2.1⟩ .no)], l := [(2, true, ⟨(.arr 256 (.int .u32)), v.2.2.2.2⟩)] }
def h13_0 (self0 : Int × (List (List Int)) × Int × Int × (List Int) → Option (Int × Int)) (v : Int × (List (List Int)) × Int × Int × (List Int)) : Option (Int × Int) :=
  (bif (decide (v.2.2.2.1 < v.2.2.1)) then ((getI v.2.1 v.2.2.2.1).bind fun x3 => ((c25 (v.2.2.2.2, v.1, x3)).bind fun x4 => (let x5 : Int := (IntKind.i64.wrap (v.2.2.2.1 + (1 : Int))); (self0 (x4, v.2.1, v.2.2.1, x5, v.2.2.2.2))))) else (let x6 : Int := (bits .xor .u32 v.1 (4294967295 : Int)); (some (x6, (0 : Int)))))
def g13_0 (N : Nat) (self0 : Int × (List (List Int)) × Int × Int × (List Int) → Option (Int × Int)) (v : Int × (List (List Int)) × Int × Int × (List Int)) : Option (Int × Int) := h13_0 self0 v
theorem k13_0 (N : Nat) (s0 : Fr → Option (Int × Int)) (v) : (fbody E13 el N Try.f13 [(.int .u32), (.int .i64)] 0 nowhere) s0 (e13_0 v) = h13_0 (fun v => s0 (e13_0 v)) v := by kernel_rfl
theorem b13_0 (N : Nat) (s0 : Fr → Option (Int × Int)) (v) : (fbody E13 el N Try.f13 [(.int .u32), (.int .i64)] 0 nowhere) s0 (e13_0 v) = g13_0 N (fun v => s0 (e13_0 v)) v := k13_0 N s0 v
def n13 (loop0 : Int × (List (List Int)) × Int × Int × (List Int) → Option (Int × Int)) (x : (List Int) × (List (List Int))) : Option (Int × Int) :=
  ((c20 ()).bind fun x1 => (bif (!(eqD (.arr 256 (.int .u32)) x.1 x1)) then (some ((0 : Int), (8 : Int))) else (bif (decide ((List.length x.2 : Int) > (64 : Int))) then (some ((0 : Int), (4 : Int))) else ((c26 x.2).bind fun x2 => (bif (!x2) then (some ((0 : Int), (4 : Int))) else (loop0 ((4294967295 : Int), x.2, (List.length x.2 : Int), (0 : Int), x.1)))))))
def m13 (N : Nat) (x : (List Int) × (List (List Int))) : Option (Int × Int) := n13 (iterV (g13_0 N) N) x
theorem j13 (N : Nat) (x) : lift (E13) el N Try.f13 [(.arr 256 (.int .u32)), (.slice (.slice (.int .u8)))] [(.int .u32), (.int .i64)] x = n13 (fun v => iter (fbody E13 el N Try.f13 [(.int .u32), (.int .i64)] 0 nowhere) N (e13_0 v)) x := by kernel_rfl
theorem l13 (N : Nat) (x) : lift (E13) el N Try.f13 [(.arr 256 (.int .u32)), (.slice (.slice (.int .u8)))] [(.int .u32), (.int .i64)] x = m13 N x := (j13 N x).trans (by rw [funext (iter_eq e13_0 (b13_0 N) N)]; rfl)
def c13 (x : List Int × List (List Int)) : Option (Int × Int) := n13 (fun v => foldC (fun b s k => (c25 (v.2.2.2.2, s, b)).bind k) (fun s => some (bits .xor .u32 s 4294967295, 0)) v.2.1 v.1) x
def F13 : Lift.Fn := ⟨[(.arr 256 (.int .u32)), (.slice (.slice (.int .u8)))], [(.int .u32), (.int .i64)], fun x => c13 x⟩
theorem r13 : ∀ x r, WfL [(.arr 256 (.int .u32)), (.slice (.slice (.int .u8)))] x → c13 x = some r → ∃ N, m13 N x = some r := by
  intro x r w h
  refine ⟨x.2.length + 1, ?_⟩
  rw [← h]
  have := range_all (g := g13_0 (x.2.length + 1)) (fun s i => (s, x.2, (x.2.length : Int), (i : Int), x.1)) (fun b s k => (c25 (x.1, s, b)).bind k) (fun s => some (bits .xor .u32 s 4294967295, 0)) (Nat.lt_succ_self x.2.length) (by
    intro self s
    simp [g13_0, h13_0]) (by
    intro self s i hi
    have e : decide ((i : Int) < (x.2.length : Int)) = true := decide_eq_true (by omega)
    simp only [g13_0, h13_0, e, cond_true, getI_nat, List.getElem?_eq_getElem hi, Option.bind_some, wrap_succ hi w.2.1]) (4294967295 : Int)
  simp only [c13, m13, n13]
  rw [← this]
  rfl
theorem L13 : Lifts Try.prog 13 F13 := lifts_of ⟨tabOk, elOk, (fsCons L20 (fsCons L25 (fsCons L26 fsNil))), fun _ _ _ => rfl⟩ mixed Try.func13 rfl (by decide) (by kernel_rfl) (by kernel_rfl) (fun x r w h => (r13 x r w h).imp fun N h => (l13 N x).trans h)

/-! ### wreckage/crc.zeros -/
noncomputable def E27 : Env := { tab := tab, fs := [(33, F33)], live := [(2, [0, 1, 7, 8], [])] }
def e27_0 (v : (List Int) × Int × Int × Int) : Fr := { s := [(0, .val ⟨(.ptr (.arr 256 (.int .u32))), v.1⟩ .no), (1, .val ⟨(.int .u32), v.2.1⟩ .no), (7, .val ⟨(.int .i64), v.2.2.1⟩ .no), (8, .val ⟨(.int .i64), v.2.2.2⟩ .no)], l := [] }
def h27_0 (self0 : (List Int) × Int × Int × Int → Option (Int)) (v : (List Int) × Int × Int × Int) : Option (Int) :=
  (bif (decide (v.2.2.2 < v.2.2.1)) then ((c33 (v.1, v.2.1, (0 : Int))).bind fun x1 => (let x2 : Int := (IntKind.i64.wrap (v.2.2.2 + (1 : Int))); (self0 (v.1, x1, v.2.2.1, x2)))) else (some v.2.1))
def g27_0 (N : Nat) (self0 : (List Int) × Int × Int × Int → Option (Int)) (v : (List Int) × Int × Int × Int) : Option (Int) := h27_0 self0 v
theorem k27_0 (N : Nat) (s0 : Fr → Option (Int)) (v) : (fbody E27 el N Try.f27 [(.int .u32)] 0 nowhere) s0 (e27_0 v) = h27_0 (fun v => s0 (e27_0 v)) v := by kernel_rfl
theorem b27_0 (N : Nat) (s0 : Fr → Option (Int)) (v) : (fbody E27 el N Try.f27 [(.int .u32)] 0 nowhere) s0 (e27_0 v) = g27_0 N (fun v => s0 (e27_0 v)) v := k27_0 N s0 v
def n27 (loop0 : (List Int) × Int × Int × Int → Option (Int)) (x : (List Int) × Int × Int) : Option (Int) :=
  (loop0 (x.1, x.2.1, x.2.2, (0 : Int)))
def m27 (N : Nat) (x : (List Int) × Int × Int) : Option (Int) := n27 (iterV (g27_0 N) N) x
theorem j27 (N : Nat) (x) : lift (E27) el N Try.f27 [(.ptr (.arr 256 (.int .u32))), (.int .u32), (.int .i64)] [(.int .u32)] x = n27 (fun v => iter (fbody E27 el N Try.f27 [(.int .u32)] 0 nowhere) N (e27_0 v)) x := by kernel_rfl
theorem l27 (N : Nat) (x) : lift (E27) el N Try.f27 [(.ptr (.arr 256 (.int .u32))), (.int .u32), (.int .i64)] [(.int .u32)] x = m27 N x := (j27 N x).trans (by rw [funext (iter_eq e27_0 (b27_0 N) N)]; rfl)
def c27 (x : List Int × Int × Int) : Option Int := foldC (fun (_ : Nat) s k => (c33 (x.1, s, 0)).bind k) some (List.range x.2.2.toNat) x.2.1
def F27 : Lift.Fn := ⟨[(.ptr (.arr 256 (.int .u32))), (.int .u32), (.int .i64)], [(.int .u32)], fun x => c27 x⟩
theorem r27 : ∀ x r, WfL [(.ptr (.arr 256 (.int .u32))), (.int .u32), (.int .i64)] x → c27 x = some r → ∃ N, m27 N x = some r := by
  have key : ∀ (t : List Int) (s0 n : Int), n ≤ 9223372036854775807 → iterV (g27_0 (n.toNat + 1)) (n.toNat + 1) (t, s0, n, 0) = foldC (fun (_ : Nat) s k => (c33 (t, s, 0)).bind k) some (List.range n.toNat) s0 := by
    intro t s0 n hm
    refine range_all (xs := List.range n.toNat) (fun s i => (t, s, n, (i : Int))) _ _ (by simp) ?_ ?_ s0
    · intro self s
      have e : decide (((List.range n.toNat).length : Int) < n) = false := decide_eq_false (by rw [List.length_range]; omega)
      simp only [g27_0, h27_0, e, cond_false]
    · intro self s i hi
      rw [List.length_range] at hi
      have e : decide ((i : Int) < n) = true := decide_eq_true (by omega)
      simp only [g27_0, h27_0, e, cond_true, wrap_i64 (n := (i : Int) + 1) (by omega) (by omega)]
      rfl
  intro x r w h
  exact ⟨x.2.2.toNat + 1, (key x.1 x.2.1 x.2.2 w.2.2.2).trans h⟩

theorem L27 : Lifts Try.prog 27 F27 := lifts_of ⟨tabOk, elOk, (fsCons L33 fsNil), fun _ _ _ => rfl⟩ mixed Try.func27 rfl (by decide) (by kernel_rfl) (by kernel_rfl) (fun x r w h => (r27 x r w h).imp fun N h => (l27 N x).trans h)

/-! ### wreckage/crc.Join -/
noncomputable def E14 : Env := { tab := tab, fs := [(20, F20), (27, F27)], live := [] }
def n14 (x : (List Int) × Int × Int × Int) : Option (Int × Int) :=
  ((c20 ()).bind fun x1 => (bif (!(eqD (.arr 256 (.int .u32)) x.1 x1)) then (some ((0 : Int), (8 : Int))) else (bif (decide (x.2.2.2 < (0 : Int))) then (some ((0 : Int), (2 : Int))) else (bif (decide (x.2.2.2 > (200000 : Int))) then (some ((0 : Int), (2 : Int))) else ((c27 (x.1, x.2.1, x.2.2.2)).bind fun x2 => (let x3 : Int := (bits .xor .u32 x2 x.2.2.1); (some (x3, (0 : Int)))))))))
def m14 (N : Nat) (x : (List Int) × Int × Int × Int) : Option (Int × Int) := n14 x
theorem j14 (N : Nat) (x) : lift (E14) el N Try.f14 [(.arr 256 (.int .u32)), (.int .u32), (.int .u32), (.int .i64)] [(.int .u32), (.int .i64)] x = n14 x := by kernel_rfl
theorem l14 (N : Nat) (x) : lift (E14) el N Try.f14 [(.arr 256 (.int .u32)), (.int .u32), (.int .u32), (.int .i64)] [(.int .u32), (.int .i64)] x = m14 N x := (j14 N x).trans rfl
def c14 (x : (List Int) × Int × Int × Int) : Option (Int × Int) := n14 x
def F14 : Lift.Fn := ⟨[(.arr 256 (.int .u32)), (.int .u32), (.int .u32), (.int .i64)], [(.int .u32), (.int .i64)], fun x => c14 x⟩
theorem r14 : ∀ x r, WfL [(.arr 256 (.int .u32)), (.int .u32), (.int .u32), (.int .i64)] x → c14 x = some r → ∃ N, m14 N x = some r := fun x r _ h => ⟨0, h⟩
theorem L14 : Lifts Try.prog 14 F14 := lifts_of ⟨tabOk, elOk, (fsCons L20 (fsCons L27 fsNil)), fun _ _ _ => rfl⟩ mixed Try.func14 rfl (by decide) (by kernel_rfl) (by kernel_rfl) (fun x r w h => (r14 x r w h).imp fun N h => (l14 N x).trans h)

/-! ### wreckage/crc.indexOf -/
noncomputable def E34 : Env := { tab := tab, fs := [], live := [(2, [1, 7, 8], [])] }
def e34_0 (v : Int × (List Int) × Int) : Fr := { s := [(1, .val ⟨(.int .u8), v.1⟩ .no), (7, .val ⟨(.ptr (.arr 256 (.int .u32))), v.2.1⟩ .no), (8, .val ⟨(.int .i64), v.2.2⟩ .no)], l := [] }
def h34_0 (self0 : Int × (List Int) × Int → Option (Int)) (v : Int × (List Int) × Int) : Option (Int) :=
  (bif (decide (v.2.2 < (256 : Int))) then ((getI v.2.1 v.2.2).bind fun x1 => (let x2 : Int := (IntKind.u8.wrap (x1.fdiv (2 ^ 24))); (bif (x2 == v.1) then (some v.2.2) else (let x3 : Int := (IntKind.i64.wrap (v.2.2 + (1 : Int))); (self0 (v.1, v.2.1, x3)))))) else (some (0 : Int)))
def g34_0 (N : Nat) (self0 : Int × (List Int) × Int → Option (Int)) (v : Int × (List Int) × Int) : Option (Int) := h34_0 self0 v
theorem k34_0 (N : Nat) (s0 : Fr → Option (Int)) (v) : (fbody E34 el N Try.f34 [(.int .i64)] 0 nowhere) s0 (e34_0 v) = h34_0 (fun v => s0 (e34_0 v)) v := by kernel_rfl
theorem b34_0 (N : Nat) (s0 : Fr → Option (Int)) (v) : (fbody E34 el N Try.f34 [(.int .i64)] 0 nowhere) s0 (e34_0 v) = g34_0 N (fun v => s0 (e34_0 v)) v := k34_0 N s0 v
def n34 (loop0 : Int × (List Int) × Int → Option (Int)) (x : (List Int) × Int) : Option (Int) :=
  (loop0 (x.2, x.1, (0 : Int)))
def m34 (N : Nat) (x : (List Int) × Int) : Option (Int) := n34 (iterV (g34_0 N) N) x
theorem j34 (N : Nat) (x) : lift (E34) el N Try.f34 [(.ptr (.arr 256 (.int .u32))), (.int .u8)] [(.int .i64)] x = n34 (fun v => iter (fbody E34 el N Try.f34 [(.int .i64)] 0 nowhere) N (e34_0 v)) x := by kernel_rfl
theorem l34 (N : Nat) (x) : lift (E34) el N Try.f34 [(.ptr (.arr 256 (.int .u32))), (.int .u8)] [(.int .i64)] x = m34 N x := (j34 N x).trans (by rw [funext (iter_eq e34_0 (b34_0 N) N)]; rfl)
def c34 (x : List Int × Int) : Option Int := n34 (fun v => foldC (fun (i : Nat) (_ : Unit) k => (getI v.2.1 (i : Int)).bind fun y => bif (IntKind.u8.wrap (y.fdiv (2 ^ 24)) == v.1) then some (i : Int) else k ()) (fun _ => some 0) (List.range 256) ()) x
def F34 : Lift.Fn := ⟨[(.ptr (.arr 256 (.int .u32))), (.int .u8)], [(.int .i64)], fun x => c34 x⟩
theorem r34 : ∀ x r, WfL [(.ptr (.arr 256 (.int .u32))), (.int .u8)] x → c34 x = some r → ∃ N, m34 N x = some r := by
  intro x r w h
  refine ⟨257, ?_⟩
  rw [← h]
  have := range_all (g := g34_0 257) (N := 257) (xs := List.range 256) (fun (_ : Unit) i => (x.2, x.1, (i : Int))) (fun (i : Nat) (_ : Unit) k => (getI x.1 (i : Int)).bind fun y => bif (IntKind.u8.wrap (y.fdiv (2 ^ 24)) == x.2) then some (i : Int) else k ()) (fun _ => some 0) (by simp) (by
    intro self s
    simp [g34_0, h34_0]) (by
    intro self s i hi
    rw [List.length_range] at hi
    have e : decide ((i : Int) < 256) = true := decide_eq_true (by omega)
    simp only [g34_0, h34_0, e, cond_true, List.getElem_range, wrap_i64 (n := (i : Int) + 1) (by omega) (by omega)]
    rfl) ()
  simp only [c34, m34, n34]
  rw [← this]
  rfl
theorem L34 : Lifts Try.prog 34 F34 := lifts_of ⟨tabOk, elOk, fsNil, fun _ _ _ => rfl⟩ mixed Try.func34 rfl (by decide) (by kernel_rfl) (by kernel_rfl) (fun x r w h => (r34 x r w h).imp fun N h => (l34 N x).trans h)

/-! ### wreckage/crc.back -/
noncomputable def E28 : Env := { tab := tab, fs := [(34, F34)], live := [(2, [0, 1, 6], [])] }
def e28_0 (v : (List Int) × Int × Int) : Fr := { s := [(0, .val ⟨(.ptr (.arr 256 (.int .u32))), v.1⟩ .no), (1, .val ⟨(.int .u32), v.2.1⟩ .no), (6, .val ⟨(.int .i64), v.2.2⟩ .no)], l := [] }
def h28_0 (self0 : (List Int) × Int × Int → Option (Int)) (v : (List Int) × Int × Int) : Option (Int) :=
  (bif (decide (v.2.2 < (4 : Int))) then (let x1 : Int := (IntKind.u8.wrap (v.2.1.fdiv (2 ^ 24))); ((c34 (v.1, x1)).bind fun x2 => ((getI v.1 x2).bind fun x3 => (let x4 : Int := (bits .xor .u32 v.2.1 x3); (let x5 : Int := (IntKind.u32.wrap (x4 * 2 ^ 8)); (let x6 : Int := (bits .or .u32 x5 (IntKind.u32.wrap x2)); (let x7 : Int := (IntKind.i64.wrap (v.2.2 + (1 : Int))); (self0 (v.1, x6, x7))))))))) else (some v.2.1))
def g28_0 (N : Nat) (self0 : (List Int) × Int × Int → Option (Int)) (v : (List Int) × Int × Int) : Option (Int) := h28_0 self0 v
theorem k28_0 (N : Nat) (s0 : Fr → Option (Int)) (v) : (fbody E28 el N Try.f28 [(.int .u32)] 0 nowhere) s0 (e28_0 v) = h28_0 (fun v => s0 (e28_0 v)) v := by kernel_rfl
theorem b28_0 (N : Nat) (s0 : Fr → Option (Int)) (v) : (fbody E28 el N Try.f28 [(.int .u32)] 0 nowhere) s0 (e28_0 v) = g28_0 N (fun v => s0 (e28_0 v)) v := k28_0 N s0 v
def n28 (loop0 : (List Int) × Int × Int → Option (Int)) (x : (List Int) × Int) : Option (Int) :=
  (loop0 (x.1, x.2, (0 : Int)))
def m28 (N : Nat) (x : (List Int) × Int) : Option (Int) := n28 (iterV (g28_0 N) N) x
theorem j28 (N : Nat) (x) : lift (E28) el N Try.f28 [(.ptr (.arr 256 (.int .u32))), (.int .u32)] [(.int .u32)] x = n28 (fun v => iter (fbody E28 el N Try.f28 [(.int .u32)] 0 nowhere) N (e28_0 v)) x := by kernel_rfl
theorem l28 (N : Nat) (x) : lift (E28) el N Try.f28 [(.ptr (.arr 256 (.int .u32))), (.int .u32)] [(.int .u32)] x = m28 N x := (j28 N x).trans (by rw [funext (iter_eq e28_0 (b28_0 N) N)]; rfl)
def back1 (t : List Int) (x : Int) : Option Int := (c34 (t, IntKind.u8.wrap (x.fdiv (2 ^ 24)))).bind fun i => (getI t i).bind fun y => some (bits .or .u32 (IntKind.u32.wrap ((bits .xor .u32 x y) * 2 ^ 8)) (IntKind.u32.wrap i))
def c28 (x : List Int × Int) : Option Int := (back1 x.1 x.2).bind fun a => (back1 x.1 a).bind fun b => (back1 x.1 b).bind fun c => back1 x.1 c
def F28 : Lift.Fn := ⟨[(.ptr (.arr 256 (.int .u32))), (.int .u32)], [(.int .u32)], fun x => c28 x⟩
theorem r28 : ∀ x r, WfL [(.ptr (.arr 256 (.int .u32))), (.int .u32)] x → c28 x = some r → ∃ N, m28 N x = some r := by
  intro x r w h
  refine ⟨5, ?_⟩
  obtain ⟨a, ha, h⟩ := Option.bind_eq_some_iff.1 h
  obtain ⟨b, hb, h⟩ := Option.bind_eq_some_iff.1 h
  obtain ⟨c, hc, h⟩ := Option.bind_eq_some_iff.1 h
  have step : ∀ (j : Nat) (s y : Int) self, j < 4 → back1 x.1 s = some y → g28_0 5 self (x.1, s, (j : Int)) = self (x.1, y, ((j + 1 : Nat) : Int)) := by
    intro j s y self hj hs
    have e : decide ((j : Int) < 4) = true := decide_eq_true (by omega)
    obtain ⟨i, hi, hs⟩ := Option.bind_eq_some_iff.1 hs
    obtain ⟨z, hz, hs⟩ := Option.bind_eq_some_iff.1 hs
    cases hs
    simp only [g28_0, h28_0, e, cond_true, hi, hz, Option.bind_some, wrap_i64 (n := (j : Int) + 1) (by omega) (by omega)]
    rfl
  show iterV (g28_0 5) 5 (x.1, x.2, ((0 : Nat) : Int)) = some r
  rw [iterV, step 0 _ _ _ (by decide) ha, iterV, step 1 _ _ _ (by decide) hb, iterV, step 2 _ _ _ (by decide) hc, iterV, step 3 _ _ _ (by decide) h]
  rfl
theorem L28 : Lifts Try.prog 28 F28 := lifts_of ⟨tabOk, elOk, (fsCons L34 fsNil), fun _ _ _ => rfl⟩ mixed Try.func28 rfl (by decide) (by kernel_rfl) (by kernel_rfl) (fun x r w h => (r28 x r w h).imp fun N h => (l28 N x).trans h)

/-! ### wreckage/crc.Patch -/
noncomputable def E15 : Env := { tab := tab, fs := [(20, F20), (28, F28)], live := [] }
def n15 (x : (List Int) × Int × Int) : Option ((List Int) × Int) :=
  ((c20 ()).bind fun x1 => (bif (!(eqD (.arr 256 (.int .u32)) x.1 x1)) then (let x2 : (List Int) := (List.replicate 4 (0 : Int)); (some (x2, (8 : Int)))) else (let x3 : Int := (bits .xor .u32 x.2.1 (4294967295 : Int)); (let x4 : Int := (bits .xor .u32 x.2.2 (4294967295 : Int)); ((c28 (x.1, x4)).bind fun x5 => (let x6 : Int := (IntKind.u8.wrap (bits .xor .u32 x3 x5)); (let x7 : Int := ((bits .xor .u32 x3 x5).fdiv (2 ^ 8)); (let x8 : Int := ((bits .xor .u32 x3 x5).fdiv (2 ^ 16)); (let x9 : Int := ((bits .xor .u32 x3 x5).fdiv (2 ^ 24)); (let x10 : (List Int) := [x6, (IntKind.u8.wrap x7), (IntKind.u8.wrap x8), (IntKind.u8.wrap x9)]; (some (x10, (0 : Int)))))))))))))
def m15 (N : Nat) (x : (List Int) × Int × Int) : Option ((List Int) × Int) := n15 x
theorem j15 (N : Nat) (x) : lift (E15) el N Try.f15 [(.arr 256 (.int .u32)), (.int .u32), (.int .u32)] [(.arr 4 (.int .u8)), (.int .i64)] x = n15 x := by kernel_rfl
theorem l15 (N : Nat) (x) : lift (E15) el N Try.f15 [(.arr 256 (.int .u32)), (.int .u32), (.int .u32)] [(.arr 4 (.int .u8)), (.int .i64)] x = m15 N x := (j15 N x).trans rfl
def c15 (x : (List Int) × Int × Int) : Option ((List Int) × Int) := n15 x
def F15 : Lift.Fn := ⟨[(.arr 256 (.int .u32)), (.int .u32), (.int .u32)], [(.arr 4 (.int .u8)), (.int .i64)], fun x => c15 x⟩
theorem r15 : ∀ x r, WfL [(.arr 256 (.int .u32)), (.int .u32), (.int .u32)] x → c15 x = some r → ∃ N, m15 N x = some r := fun x r _ h => ⟨0, h⟩
theorem L15 : Lifts Try.prog 15 F15 := lifts_of ⟨tabOk, elOk, (fsCons L20 (fsCons L28 fsNil)), fun _ _ _ => rfl⟩ mixed Try.func15 rfl (by decide) (by kernel_rfl) (by kernel_rfl) (fun x r w h => (r15 x r w h).imp fun N h => (l15 N x).trans h)

/-! ### wreckage/wreckagelaw01.CrcNames -/
noncomputable def E3 (mk : (α : Type) → Nat → α → List α) : Env := { tab := tab, fs := [(9, F9), (10, F10), (11, F11), (12, F12), (13, F13), (14, F14), (15, F15), (16, F16)], live := [], rep := mk }
def n3 (mk : (α : Type) → Nat → α → List α) (x : Unit) : Option (Bool) :=
  ((c9 ()).bind fun x1 => (let x2 : (List Int) := (mk Int (Int.toNat (200001 : Int)) (0 : Int)); (let x3 : (List Int) := (List.replicate 256 (0 : Int)); ((c10 (x3, x2)).bind fun x4 => ((c12 ((255 : Int), (1 : Int))).bind fun x5 => ((c11 (x5, (0 : Int), ([] : (List Int)))).bind fun x6 => ((c12 ((0 : Int), (1 : Int))).bind fun x7 => (let x8 : (List (List Int)) := (mk (List Int) (Int.toNat (65 : Int)) ([] : (List Int))); ((c13 (x7, x8)).bind fun x9 => ((c12 ((7 : Int), (2147483648 : Int))).bind fun x10 => ((c14 (x10, (0 : Int), (0 : Int), (-1 : Int))).bind fun x11 => (let x12 : (List Int) := (List.replicate 256 (0 : Int)); ((c15 (x12, (0 : Int), (0 : Int))).bind fun x13 => ((c10 (x1, x2)).bind fun x14 => ((c11 (x1, (5 : Int), x2)).bind fun x15 => (let x16 : (List (List Int)) := (mk (List Int) (Int.toNat (65 : Int)) ([] : (List Int))); ((c13 (x1, x16)).bind fun x17 => (bif (decide (0 ≤ (100000 : Int)) && decide ((100000 : Int) ≤ (List.length x2 : Int))) then (let x18 : (List Int) := (List.take (Int.toNat (100000 : Int)) x2); (bif (decide (0 ≤ (100001 : Int)) && decide ((100001 : Int) ≤ (List.length x2 : Int))) then (let x19 : (List Int) := (List.take (Int.toNat (100001 : Int)) x2); (let x20 : (List (List Int)) := ([x18, x19] : (List (List Int))); ((c13 (x1, x20)).bind fun x21 => (let x22 : (List (List Int)) := (mk (List Int) (Int.toNat (64 : Int)) ([] : (List Int))); ((c13 (x1, x22)).bind fun x23 => (bif (decide (0 ≤ (100000 : Int)) && decide ((100000 : Int) ≤ (List.length x2 : Int))) then (let x24 : (List Int) := (List.take (Int.toNat (100000 : Int)) x2); (bif (decide (0 ≤ (100000 : Int)) && decide ((100000 : Int) ≤ (List.length x2 : Int))) then (let x25 : (List Int) := (List.take (Int.toNat (100000 : Int)) x2); (let x26 : (List (List Int)) := ([x24, x25] : (List (List Int))); ((c13 (x1, x26)).bind fun x27 => (bif (decide (0 ≤ (200000 : Int)) && decide ((200000 : Int) ≤ (List.length x2 : Int))) then (let x28 : (List Int) := (List.take (Int.toNat (200000 : Int)) x2); ((c10 (x1, x28)).bind fun x29 => ((c14 (x1, (1 : Int), (1 : Int), (-1 : Int))).bind fun x30 => ((c14 (x1, (1 : Int), (1 : Int), (200001 : Int))).bind fun x31 => ((c14 (x1, (77 : Int), (0 : Int), (0 : Int))).bind fun x32 => (let x33 : (List Int) := ([(0 : Int)] : (List Int)); ((c10 (x1, x33)).bind fun x34 => (bif (x4.2 == (8 : Int)) then (bif (x6.2 == (8 : Int)) then (bif (x9.2 == (8 : Int)) then (bif (x11.2 == (8 : Int)) then (bif (x13.2 == (8 : Int)) then (bif (x14.2 == (4 : Int)) then (bif (x15.2 == (4 : Int)) then (bif (x17.2 == (4 : Int)) then (bif (x21.2 == (4 : Int)) then (bif (x30.2 == (2 : Int)) then (bif (x31.2 == (2 : Int)) then (bif (x23.2 == (0 : Int)) then (bif (x23.1 == (0 : Int)) then (bif (x27.2 == (0 : Int)) then (bif (x29.2 == (0 : Int)) then (bif (x27.1 == x29.1) then (bif (x32.2 == (0 : Int)) then (bif (x32.1 == (77 : Int)) then (bif (x34.2 == (0 : Int)) then (bif (x34.1 == (3523407757 : Int)) then ((c16 ()).bind fun x35 => (some x35)) else (some false)) else (some false)) else (some false)) else (some false)) else (some false)) else (some false)) else (some false)) else (some false)) else (some false)) else (some false)) else (some false)) else (some false)) else (some false)) else (some false)) else (some false)) else (some false)) else (some false)) else (some false)) else (some false)) else (some false))))))))) else none)))) else none)) else none)))))) else none)) else none))))))))))))))))))
def m3 (N : Nat) (x : Unit) : Option (Bool) := n3 (fun _ => List.replicate) x
theorem j3 (mk : (α : Type) → Nat → α → List α) (N : Nat) (x) : lift (E3 mk) el N Try.f3 [] [.bool] x = n3 mk x := by kernel_rfl
theorem l3 (N : Nat) (x) : lift (E3 (fun _ => List.replicate)) el N Try.f3 [] [.bool] x = m3 N x := (j3 (fun _ => List.replicate) N x).trans rfl
def c3 (x : Unit) : Option (Bool) := n3 (fun _ => List.replicate) x
def F3 : Lift.Fn := ⟨[], [.bool], fun x => c3 x⟩
theorem r3 : ∀ x r, WfL [] x → c3 x = some r → ∃ N, m3 N x = some r := fun x r _ h => ⟨0, h⟩
theorem L3 : Lifts Try.prog 3 F3 := lifts_of ⟨tabOk, elOk, (fsCons L9 (fsCons L10 (fsCons L11 (fsCons L12 (fsCons L13 (fsCons L14 (fsCons L15 (fsCons L16 fsNil)))))))), fun _ _ _ => rfl⟩ mixed Try.func3 rfl (by decide) (by kernel_rfl) (by kernel_rfl) (fun x r w h => (r3 x r w h).imp fun N h => (l3 N x).trans h)

end Go.Proofs.Ytgehhkiighphhaa
