/- Names and slots of package ops: the laws. -/
import Derived.Test.YtinhcjeilebooaaDoorOpsD
set_option linter.unusedVariables false
set_option linter.unusedSimpArgs false
set_option maxRecDepth 100000
namespace Go.Proofs.YtinhcjeilebooaaDoor
open Go.Lift

/-! ### OpsNamed -/
theorem named_end (s : List Int) : ((cops_Op s).bind fun x5 => (bif (x5.2 != (0 : Int)) then (bif (x5.2 == (6 : Int)) then ((claw06_alive ()).bind fun x6 => (some x6)) else (some false)) else ((cops_Name x5.1).bind fun x7 => (bif (x7.2 == (0 : Int)) then (bif (eqD .str x7.1 s) then ((claw06_alive ()).bind fun x8 => (some x8)) else (some false)) else (some false))))) = some true := by
  rw [Op_eq, Option.bind_some]
  rcases fnd_some s 34 1 (by omega) (by omega) with ⟨j, h1, h2, h3, h4⟩ | ⟨h1, h2⟩
  · rw [h4, Name_eq, show isOp (j : Int) = true by simp [isOp]; omega, h3, alive06]
    simp [eqD_self]
  · rw [h1, alive06]
    rfl
theorem named_mid {a : Int} (h : isOp a = true) : cops_Op (nam a) = some (a, 0) := by
  obtain ⟨k, rfl, h1, h2⟩ := op_nat h
  rw [Op_eq]
  rcases fnd_some (nam (k : Int)) 34 1 (by omega) (by omega) with ⟨j, g1, g2, g3, g4⟩ | ⟨g1, g2⟩
  · rw [g4, nam_inj g2 h2 g3]
  · exact absurd rfl (g2 k h1 h2)
theorem named_same {a b : Int} (ha : isOp a = true) (hb : isOp b = true) : eqD .str (nam a) (nam b) = (a == b) := by
  obtain ⟨i, rfl, h1, h2⟩ := op_nat ha
  obtain ⟨j, rfl, h3, h4⟩ := op_nat hb
  by_cases e : i = j
  · subst e; rw [eqD_self]; simp
  · rw [eqD_false (fun h => e (nam_inj h2 h4 h)), beqd, decide_eq_false (by omega)]

theorem named_true6 (x : Int × Int × List Int) (w : WfL [(.int .u8), (.int .u8), .str] x) : claw06_OpsNamed x = some true := by
  obtain ⟨a, b, s⟩ := x
  show nlaw06_OpsNamed (a, b, s) = some true
  unfold nlaw06_OpsNamed
  dsimp only
  by_cases hl : s.length > 100
  · rw [decide_eq_true (by omega), alive06]; rfl
  · rw [decide_eq_false (show ¬ ((s.length : Int) > 100) by omega), cond_false, Name_eq, Option.bind_some, Name_eq, Option.bind_some]
    have he := named_end s
    have hA : isOp a = (decide (a ≥ 1) && decide (a ≤ 34)) := rfl
    have hB : isOp b = (decide (b ≥ 1) && decide (b ≤ 34)) := rfl
    have z0 : ((0 : Int) == 0) = true := rfl
    have z6 : ((6 : Int) == 0) = false := rfl
    have y0 : ((0 : Int) != 0) = false := rfl
    cases ha : isOp a with
    | true =>
      have ha' := ha
      rw [hA] at ha'
      simp only [Bool.and_eq_true] at ha'
      cases hb : isOp b with
      | true =>
        have hb' := hb
        rw [hB] at hb'
        simp only [Bool.and_eq_true] at hb'
        simp only [if_true, ha'.1, ha'.2, hb'.1, hb'.2, z0, y0, cond_true, cond_false, beq_self_eq_true, Bool.not_true, named_mid ha, named_same ha hb, Option.bind_some, bne_self_eq_false, he]
      | false =>
        have hb' := hb
        rw [hB] at hb'
        simp only [if_true, Bool.false_eq_true, if_false, ha'.1, ha'.2, z0, z6, y0, cond_true, cond_false, beq_self_eq_true, Bool.not_true, named_mid ha, Option.bind_some, bne_self_eq_false, he]
        cases hb1 : decide (b ≥ 1) with
        | false => simp only [cond_false, cond_true, beq_self_eq_true, Bool.not_true]
        | true =>
          rw [hb1, Bool.true_and] at hb'
          simp only [hb', cond_false, cond_true, beq_self_eq_true, Bool.not_true]
    | false =>
      have ha' := ha
      rw [hA] at ha'
      cases hb : isOp b with
      | true =>
        have hb' := hb
        rw [hB] at hb'
        simp only [Bool.and_eq_true] at hb'
        simp only [if_true, Bool.false_eq_true, if_false, hb'.1, hb'.2, z0, z6, y0, cond_true, cond_false, beq_self_eq_true, Bool.not_true, Option.bind_some, bne_self_eq_false, he]
        cases ha1 : decide (a ≥ 1) with
        | false => simp only [cond_false, cond_true, beq_self_eq_true, Bool.not_true]
        | true =>
          rw [ha1, Bool.true_and] at ha'
          simp only [ha', cond_false, cond_true, beq_self_eq_true, Bool.not_true]
      | false =>
        have hb' := hb
        rw [hB] at hb'
        simp only [if_true, Bool.false_eq_true, if_false, z0, z6, y0, cond_true, cond_false, beq_self_eq_true, Bool.not_true, Option.bind_some, bne_self_eq_false, he]
        cases ha1 : decide (a ≥ 1) with
        | false =>
          cases hb1 : decide (b ≥ 1) with
          | false => simp only [cond_false, cond_true, beq_self_eq_true, Bool.not_true]
          | true =>
            rw [hb1, Bool.true_and] at hb'
            simp only [hb', cond_false, cond_true, beq_self_eq_true, Bool.not_true]
        | true =>
          rw [ha1, Bool.true_and] at ha'
          cases hb1 : decide (b ≥ 1) with
          | false => simp only [ha', cond_false, cond_true, beq_self_eq_true, Bool.not_true]
          | true =>
            rw [hb1, Bool.true_and] at hb'
            simp only [ha', hb', cond_false, cond_true, beq_self_eq_true, Bool.not_true]

/-! ### OpsSlots -/
theorem slots_end {x y : Ins} {R W : List Int} (hx : okI x = true) (hR : R.length ≤ 1000) (hW : W.length ≤ 1000) (h : okI y = true → R = rsL (rol y.1) (vals y) ∧ W = wsL (rol y.1) (vals y)) :
    ((cops_Slots y).bind fun x15 => (bif (x15.2.2 != (0 : Int)) then (bif (!(eqD (.pair (.int .u8) (.pair (.int .i64) (.pair (.int .i64) (.pair (.int .i64) .unit)))) x y)) then ((cops_Check y).bind fun x16 => (bif (x16 == (8 : Int)) then ((claw06_alive ()).bind fun x17 => (some x17)) else (some false))) else (some false)) else ((cref04_SameInts (R, x15.1)).bind fun x18 => (bif x18 then ((cref04_SameInts (W, x15.2.1)).bind fun x19 => (bif x19 then ((claw06_alive ()).bind fun x20 => (some x20)) else (some false))) else (some false))))) = some true := by
  rw [Slots_eq, Option.bind_some, Check_eq, alive06]
  cases hy : okI y with
  | false =>
    have e : x ≠ y := fun e => by rw [e, hy] at hx; cases hx
    rw [eqD_false e]
    rfl
  | true =>
    obtain ⟨h1, h2⟩ := h hy
    simp only [if_true, bne_self_eq_false, cond_false]
    rw [rSameInts_eq _ _ hR, rSameInts_eq _ _ hW, h1, h2]
    simp

theorem rs1_mem {r n v : Int} (h : v ∈ rs1 r n) : v = n ∧ (r = 1 ∨ r = 3) ∧ n ≠ -1 := by
  unfold rs1 at h
  split at h
  · rename_i g; simp at h; exact ⟨h, g⟩
  · simp at h
theorem ws1_mem {r n v : Int} (h : v ∈ ws1 r n) : v = n ∧ (r = 2 ∨ r = 4) ∧ n ≠ -1 := by
  unfold ws1 at h
  split at h
  · rename_i g; simp at h; exact ⟨h, g⟩
  · simp at h
theorem slot_range {r n : Int} (h : fit r n = true) (hr : r = 1 ∨ r = 3 ∨ r = 2 ∨ r = 4) (hn : n ≠ -1) : 0 ≤ n ∧ n ≤ 15 := by
  rcases hr with rfl | rfl | rfl | rfl <;> simp [fit, idx, hn] at h <;> omega
theorem two_all : ((List.range 35).all fun k => match (opRow k).2.1 with | [a, b, c] => !((a == 2 || a == 4) && (b == 2 || b == 4) && (c == 2 || c == 4)) | _ => true) = true := by decide +kernel

theorem slots_len {x : Ins} (h : okI x = true) : (rsL (rol x.1) (vals x)).length + (wsL (rol x.1) (vals x)).length ≤ 3 ∧ (wsL (rol x.1) (vals x)).length ≤ 2 ∧
    ∀ v ∈ rsL (rol x.1) (vals x) ++ wsL (rol x.1) (vals x), 0 ≤ v ∧ v ≤ 15 ∧ (v = x.2.1 ∨ v = x.2.2.1 ∨ v = x.2.2.2.1) := by
  obtain ⟨a, b, c, ho, e, ha, hb, hc, fa, fb, fc⟩ := okI_three h
  have l1 := rs1_len a x.2.1
  have l2 := rs1_len b x.2.2.1
  have l3 := rs1_len c x.2.2.2.1
  refine ⟨?_, ?_, ?_⟩
  · simp only [e, vals, rsL, wsL, List.append_nil, List.length_append]
    omega
  · simp only [e, vals, rsL, wsL, List.append_nil, List.length_append]
    obtain ⟨k, hk, h1, h2⟩ := op_nat ho
    have h3 := List.all_eq_true.1 two_all k (List.mem_range.2 (by omega))
    have e' : (opRow k).2.1 = [a, b, c] := by rw [← e, hk]; rfl
    rw [e'] at h3
    have hz : ∀ r n : Int, ¬ (r = 2 ∨ r = 4) → (ws1 r n).length = 0 := fun r n h => by unfold ws1; rw [if_neg (fun g => h g.1)]; rfl
    have q1 : (ws1 a x.2.1).length ≤ 1 := by omega
    have q2 : (ws1 b x.2.2.1).length ≤ 1 := by omega
    have q3 : (ws1 c x.2.2.2.1).length ≤ 1 := by omega
    by_cases g1 : a = 2 ∨ a = 4
    · by_cases g2 : b = 2 ∨ b = 4
      · by_cases g3 : c = 2 ∨ c = 4
        · exfalso
          have : (a == 2 || a == 4) = true := by simpa [beqd] using g1
          have t2 : (b == 2 || b == 4) = true := by simpa [beqd] using g2
          have t3 : (c == 2 || c == 4) = true := by simpa [beqd] using g3
          simp [this, t2, t3] at h3
        · have := hz c x.2.2.2.1 g3; omega
      · have := hz b x.2.2.1 g2; omega
    · have := hz a x.2.1 g1; omega
  · intro v hv
    simp only [e, vals, rsL, wsL, List.append_nil, List.mem_append] at hv
    rcases hv with (hv | hv | hv) | hv | hv | hv
    · obtain ⟨rfl, h1, h2⟩ := rs1_mem hv
      have := slot_range fa (by omega) h2
      exact ⟨this.1, this.2, .inl rfl⟩
    · obtain ⟨rfl, h1, h2⟩ := rs1_mem hv
      have := slot_range fb (by omega) h2
      exact ⟨this.1, this.2, .inr (.inl rfl)⟩
    · obtain ⟨rfl, h1, h2⟩ := rs1_mem hv
      have := slot_range fc (by omega) h2
      exact ⟨this.1, this.2, .inr (.inr rfl)⟩
    · obtain ⟨rfl, h1, h2⟩ := ws1_mem hv
      have := slot_range fa (by omega) h2
      exact ⟨this.1, this.2, .inl rfl⟩
    · obtain ⟨rfl, h1, h2⟩ := ws1_mem hv
      have := slot_range fb (by omega) h2
      exact ⟨this.1, this.2, .inr (.inl rfl)⟩
    · obtain ⟨rfl, h1, h2⟩ := ws1_mem hv
      have := slot_range fc (by omega) h2
      exact ⟨this.1, this.2, .inr (.inr rfl)⟩

theorem op_cases {o : Int} (h : isOp o = true) : ∃ k : Nat, k < 34 ∧ o = (k : Int) + 1 := by
  obtain ⟨k, rfl, h1, h2⟩ := op_nat h
  exact ⟨k - 1, by omega, by omega⟩

theorem slots_last (N : Nat) (self0) {x : Ins} {n : Int} {R W all : List Int} {i : Int} (hx : okI x = true) (hR : R = rsL (rol x.1) (vals x)) (hW : W = wsL (rol x.1) (vals x)) (hi : ¬ i < (all.length : Int)) :
    glaw06_OpsSlots_0 N self0 (n, W, i, x, R, all) = some true := by
  obtain ⟨l1, l2, l3⟩ := slots_len hx
  have hR' : R.length ≤ 1000 := by rw [hR]; omega
  have hW' : W.length ≤ 1000 := by rw [hW]; omega
  have T := fun (y : Ins) (h : okI y = true → R = rsL (rol y.1) (vals y) ∧ W = wsL (rol y.1) (vals y)) => slots_end hx hR' hW' h
  have ho : isOp x.1 = true := by simp only [okI, Bool.and_eq_true] at hx; exact hx.1
  show hlaw06_OpsSlots_0 self0 _ = _
  unfold hlaw06_OpsSlots_0
  dsimp only
  rw [decide_eq_false hi, cond_false]
  obtain ⟨op, A, B, C, u⟩ := x
  obtain ⟨k, hk, rfl⟩ := op_cases ho
  clear hi l1 l2 l3 hR' hW' hx
  simp only at hR hW
  subst hR hW
  match k, hk with
  | 0, _ => exact T (1, A, n, C, u) (fun _ => ⟨rfl, rfl⟩)
  | 1, _ => exact T (2, A, n, C, u) (fun _ => ⟨rfl, rfl⟩)
  | 2, _ => exact T (3, A, n, C, u) (fun _ => ⟨rfl, rfl⟩)
  | 3, _ => exact T (4, A, B, C, u) (fun _ => ⟨rfl, rfl⟩)
  | 4, _ => exact T (5, A, B, C, u) (fun _ => ⟨rfl, rfl⟩)
  | 5, _ => exact T (6, A, B, C, u) (fun _ => ⟨rfl, rfl⟩)
  | 6, _ => exact T (7, A, B, C, u) (fun _ => ⟨rfl, rfl⟩)
  | 7, _ => exact T (8, A, B, C, u) (fun _ => ⟨rfl, rfl⟩)
  | 8, _ => exact T (9, A, B, C, u) (fun _ => ⟨rfl, rfl⟩)
  | 9, _ => exact T (10, A, B, C, u) (fun _ => ⟨rfl, rfl⟩)
  | 10, _ => exact T (11, A, B, C, u) (fun _ => ⟨rfl, rfl⟩)
  | 11, _ => exact T (12, A, B, C, u) (fun _ => ⟨rfl, rfl⟩)
  | 12, _ => exact T (13, A, B, n, u) (fun _ => ⟨rfl, rfl⟩)
  | 13, _ => exact T (14, A, n, C, u) (fun _ => ⟨rfl, rfl⟩)
  | 14, _ => exact T (15, A, B, C, u) (fun _ => ⟨rfl, rfl⟩)
  | 15, _ => exact T (16, A, B, C, u) (fun _ => ⟨rfl, rfl⟩)
  | 16, _ => exact T (17, A, B, C, u) (fun _ => ⟨rfl, rfl⟩)
  | 17, _ => exact T (18, A, B, C, u) (fun _ => ⟨rfl, rfl⟩)
  | 18, _ => exact T (19, A, B, C, u) (fun _ => ⟨rfl, rfl⟩)
  | 19, _ => exact T (20, A, B, C, u) (fun _ => ⟨rfl, rfl⟩)
  | 20, _ => exact T (21, A, B, C, u) (fun _ => ⟨rfl, rfl⟩)
  | 21, _ => exact T (22, n, B, C, u) (fun _ => ⟨rfl, rfl⟩)
  | 22, _ => exact T (23, A, n, C, u) (fun _ => ⟨rfl, rfl⟩)
  | 23, _ => exact T (24, A, B, C, u) (fun _ => ⟨rfl, rfl⟩)
  | 24, _ => exact T (25, A, n, C, u) (fun _ => ⟨rfl, rfl⟩)
  | 25, _ => exact T (26, n, B, C, u) (fun _ => ⟨rfl, rfl⟩)
  | 26, _ => exact T (27, n, B, C, u) (fun _ => ⟨rfl, rfl⟩)
  | 27, _ => exact T (28, A, B, C, u) (fun _ => ⟨rfl, rfl⟩)
  | 28, _ => exact T (29, A, B, C, u) (fun _ => ⟨rfl, rfl⟩)
  | 29, _ => exact T (30, A, B, C, u) (fun _ => ⟨rfl, rfl⟩)
  | 30, _ => exact T (31, A, B, C, u) (fun _ => ⟨rfl, rfl⟩)
  | 31, _ => exact T (32, A, B, C, u) (fun _ => ⟨rfl, rfl⟩)
  | 32, _ => exact T (33, A, B, C, u) (fun _ => ⟨rfl, rfl⟩)
  | 33, _ => exact T (34, A, B, C, u) (fun _ => ⟨rfl, rfl⟩)
  | k + 34, h => exact absurd h (by omega)

theorem slots_true6 (x : Ins × Int) (w : WfL [(.pair (.int .u8) (.pair (.int .i64) (.pair (.int .i64) (.pair (.int .i64) .unit)))), (.int .i64)] x) : claw06_OpsSlots x = some true := by
  obtain ⟨x, n⟩ := x
  show nlaw06_OpsSlots (iterV (glaw06_OpsSlots_0 big) big) (x, n) = some true
  unfold nlaw06_OpsSlots
  dsimp only
  rw [Slots_eq, Option.bind_some, Check_eq]
  cases hx : okI x with
  | false =>
    simp only [Bool.false_eq_true, if_false, alive06]
    rfl
  | true =>
    obtain ⟨l1, l2, l3⟩ := slots_len hx
    simp only [if_true, bne_self_eq_false, cond_false]
    generalize hR : rsL (rol x.1) (vals x) = R at *
    generalize hW : wsL (rol x.1) (vals x) = W at *
    rw [decide_eq_false (by omega), cond_false, decide_eq_false (by omega), cond_false]
    have e : IntKind.i64.wrap ((R.length : Int) + (W.length : Int)) = ((R.length + W.length : Nat) : Int) := by rw [wrap_i64 (by omega) (by omega)]; simp
    have c1 : (Nat.ble 1 1 && Nat.ble (List.length ([] : List Int) + List.length R) lim) = true := by rw [b11, ble_lim (by simp; omega)]; rfl
    have c2 : (Nat.ble 1 1 && Nat.ble (List.length R + List.length W) lim) = true := by rw [b11, ble_lim (by omega)]; rfl
    simp only [e, List.append_eq, List.nil_append, c1, c2, cond_true]
    rw [decide_eq_false (by omega), cond_false]
    refine range_post (g := glaw06_OpsSlots_0 big) (n := (R ++ W).length) (fun (_ : Unit) (i : Nat) => (n, W, (i : Int), x, R, R ++ W)) (fun _ _ => True) (fun r => r = some true) ?_ ?_
      (R ++ W).length 0 big (by simp) (by simp only [List.length_append]; unfold big; omega) () trivial
    · intro self _ _
      exact slots_last big self hx hR.symm hW.symm (by omega)
    · intro self _ i hi _
      left
      refine ⟨(), trivial, ?_⟩
      obtain ⟨m1, m2, m3⟩ := l3 (R ++ W)[i] (List.getElem_mem hi)
      show hlaw06_OpsSlots_0 self _ = _
      unfold hlaw06_OpsSlots_0
      dsimp only
      have hn : nth (R ++ W) (Int.toNat (i : Int)) = some (R ++ W)[i] := List.getElem?_eq_getElem hi
      rw [decide_eq_true (show (i : Int) < ((R ++ W).length : Int) by omega), cond_true, decide_eq_true (show (0 : Int) ≤ (i : Int) by omega), Bool.and_self, cond_true, hn, Option.bind_some, decide_eq_false (by omega), cond_false]
      simp only [cond_true, Option.bind_some]
      rw [decide_eq_false (show ¬ (R ++ W)[i] > 15 by omega), cond_false, wrap_succ hi (by have := maxLen_ge; simp only [List.length_append]; omega)]
      generalize (R ++ W)[i] = v at *
      by_cases v1 : v = x.2.1
      · rw [show (v != x.2.1) = false by rw [v1]; simp, cond_false]
      · rw [show (v != x.2.1) = true by simpa using v1, cond_true]
        by_cases v2 : v = x.2.2.1
        · rw [show (v != x.2.2.1) = false by rw [v2]; simp, cond_false]
        · rw [show (v != x.2.2.1) = true by simpa using v2, cond_true, show (v != x.2.2.2.1) = false by
            rw [(m3.resolve_left v1).resolve_left v2]; simp, cond_false]
end Go.Proofs.YtinhcjeilebooaaDoor
