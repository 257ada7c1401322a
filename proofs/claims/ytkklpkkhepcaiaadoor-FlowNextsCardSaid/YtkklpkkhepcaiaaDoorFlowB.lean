/- Code: what is valid, and what comes behind an instruction: package flow and the reference. -/
import Derived.Test.YtkklpkkhepcaiaaDoorFlowR
import Derived.Test.YtkklpkkhepcaiaaDoorOpsQ
set_option linter.unusedVariables false
set_option linter.unusedSimpArgs false
set_option maxRecDepth 100000
namespace Go.Proofs.YtkklpkkhepcaiaaDoor
open Go.Lift

theorem w64 {z : Int} (h : -9223372036854775808 ≤ z) (h' : z ≤ 9223372036854775807) : IntKind.i64.wrap z = z := wrap_i64 h h'
theorem big_2 : big = (big - 2) + 1 + 1 := by decide
theorem getI_lt {α : Type} {xs : List α} {i : Nat} {x : α} (h : xs[i]? = some x) : getI xs (i : Int) = some x := by rw [getI_nat]; exact h
theorem nth_get {α : Type} : ∀ (xs : List α) (i : Nat), nth xs i = xs[i]?
  | [], i => by cases i <;> rfl
  | x :: xs, 0 => rfl
  | x :: xs, i + 1 => (nth_get xs i).trans List.getElem?_cons_succ.symm
theorem in_range {i n : Nat} (h : i < n) : (decide ((0 : Int) ≤ (i : Int)) && decide ((i : Int) < (n : Int))) = true := by simp; omega
theorem getLast_at {α : Type} {l : List α} : l.getLast? = l[l.length - 1]? := List.getLast?_eq_getElem?

/-! ### Check -/
def endI : Ins := (34, (-1, (0, (0, ()))))
def lead (x : Ins) (n : Nat) : Bool := if x.1 = 22 then idx x.2.1 n else if x.1 = 23 then idx x.2.2.1 n else true
def okx (n : Nat) (x : Ins) : Bool := okI x && lead x n
def okC (l : List Ins) : Bool := decide (1 ≤ l.length) && (decide (l.length ≤ 200) && (l.all (okx l.length) && decide (l[l.length - 1]? = some endI)))

theorem flow_isIndex_eq (n k : Int) : cflow_isIndex (n, k) = some (idx n k) := by
  simp only [cflow_isIndex, mflow_isIndex, nflow_isIndex, idx]
  by_cases h : (0 : Int) ≤ n <;> simp [h]
theorem leadsInto_eq (x : Ins) (n : Nat) : cflow_leadsInto (x, (n : Int)) = some (lead x n) := by
  simp only [cflow_leadsInto, mflow_leadsInto, nflow_leadsInto, lead, flow_isIndex_eq]
  by_cases h : x.1 = 22
  · simp [h, beqd]
  · by_cases h2 : x.1 = 23 <;> simp [h, h2, beqd]

theorem end_ok {x : Ins} (h : okI x = true) : (x.1 = 34 ∧ x.2.1 = -1) ↔ x = endI := by
  constructor
  · rintro ⟨h1, h2⟩
    obtain ⟨a, b, c, ho, e, ha, hb, hc, fa, fb, fc⟩ := okI_three h
    have e34 : rol 34 = [3, 0, 0] := by decide +kernel
    rw [h1, e34] at e
    simp only [List.cons.injEq, and_true] at e
    obtain ⟨rfl, rfl, rfl⟩ := e
    simp [fit] at fb fc
    obtain ⟨p, q, r, s, u⟩ := x
    simp_all [endI]
  · rintro rfl; exact ⟨rfl, rfl⟩

theorem all_at {α : Type} {p : α → Bool} {l : List α} : l.all p = true ↔ ∀ (k : Nat) (x : α), l[k]? = some x → p x = true := by
  rw [List.all_eq_true]
  constructor
  · intro h k x hx; exact h x (List.mem_of_getElem? hx)
  · intro h x hx
    obtain ⟨k, hk, rfl⟩ := List.getElem_of_mem hx
    exact h k _ (List.getElem?_eq_getElem hk)

theorem Check7_eq (l : List Ins) : cflow_Check l = some (if okC l then 0 else 8) := by
  show nflow_Check (iterV (gflow_Check_0 big) big) l = _
  unfold nflow_Check
  by_cases h0 : l.length = 0
  · have : l = [] := List.eq_nil_of_length_eq_zero h0
    subst this
    rfl
  by_cases h1 : 200 < l.length
  · have e1 : ((l.length : Int) == 0) = false := by rw [beqd]; exact decide_eq_false (by omega)
    have e2 : decide ((l.length : Int) > 200) = true := decide_eq_true (by omega)
    rw [e1, e2, cond_false, cond_true]
    simp [okC, show ¬ l.length ≤ 200 by omega]
  have e1 : ((l.length : Int) == 0) = false := by rw [beqd]; exact decide_eq_false (by omega)
  have e2 : decide ((l.length : Int) > 200) = false := decide_eq_false (by omega)
  rw [e1, e2, cond_false, cond_false]
  refine range_post (σ := Unit) (g := gflow_Check_0 big) (n := l.length) (fun _ i => (l, l, (l.length : Int), (i : Int))) (fun i _ => ∀ k x, k < i → l[k]? = some x → okx l.length x = true) (fun r => r = some (if okC l then 0 else 8)) ?_ ?_ l.length 0 big (by simp) (big_gt (by have := maxLen_ge; omega)) () (fun k x hk => by omega)
  · intro self _ hI
    show hflow_Check_0 self (l, l, (l.length : Int), (l.length : Int)) = _
    unfold hflow_Check_0
    dsimp only
    rw [decide_eq_false (by omega), cond_false, w64 (by omega) (by omega)]
    have hlt : l.length - 1 < l.length := by omega
    have hx : l[l.length - 1]? = some l[l.length - 1] := List.getElem?_eq_getElem hlt
    rw [show ((l.length : Int) - 1) = ((l.length - 1 : Nat) : Int) by omega, getI_lt hx, Option.bind_some]
    have hall : l.all (okx l.length) = true := all_at.2 fun k x hk => hI k x (List.getElem?_eq_some_iff.1 hk).1 hk
    have hok : okI l[l.length - 1] = true := by
      have := hI _ _ hlt hx
      simp only [okx, Bool.and_eq_true] at this
      exact this.1
    have hend := end_ok hok
    generalize l[l.length - 1] = x at hx hok hend
    simp only [okC, hall, hx, Bool.true_and]
    rw [decide_eq_true (show 1 ≤ l.length by omega), decide_eq_true (show l.length ≤ 200 by omega)]
    simp only [Bool.true_and, decide_eq_true_eq, Option.some.injEq]
    by_cases a : x.1 = 34
    · by_cases b : x.2.1 = -1
      · rw [if_pos (hend.1 ⟨a, b⟩)]; simp [a, b]
      · rw [if_neg fun e => b (hend.2 e).2]; simp [a, b, bne, beqd]
    · rw [if_neg fun e => a (hend.2 e).1]; simp [a, bne, beqd]
  · intro self _ i hi hI
    have hx : l[i]? = some l[i] := List.getElem?_eq_getElem hi
    show (∃ s', _ ∧ hflow_Check_0 self (l, l, (l.length : Int), (i : Int)) = _) ∨ hflow_Check_0 self (l, l, (l.length : Int), (i : Int)) = _
    unfold hflow_Check_0
    dsimp only
    rw [decide_eq_true (by omega), cond_true, getI_lt hx, Option.bind_some, Check_eq, Option.bind_some, leadsInto_eq]
    have hbad : okx l.length l[i] = false → okC l = false := fun hb => by
      have : l.all (okx l.length) = false := by
        cases ha : l.all (okx l.length) with
        | false => rfl
        | true => rw [all_at.1 ha i _ hx] at hb; cases hb
      simp [okC, this]
    cases ho : okI l[i] with
    | false =>
      right
      rw [hbad (by simp [okx, ho])]
      rfl
    | true =>
      cases hl : lead l[i] l.length with
      | false =>
        right
        rw [hbad (by simp [okx, hl])]
        rfl
      | true =>
        left
        refine ⟨(), fun k x hk hx' => ?_, ?_⟩
        · by_cases e : k = i
          · subst e
            rw [hx] at hx'
            cases hx'
            simp [okx, ho, hl]
          · exact hI k x (by omega) hx'
        · simp only [if_true, Option.bind_some, Bool.not_true, cond_false]
          rw [w64 (by omega) (by omega)]
          rfl

/-! ### the reference's -/
theorem rc_step (N : Nat) (self0) {rs ns : List Int} {i r n : Int} (h0 : 0 ≤ i) (h3 : i < 3) (hr : getI rs i = some (ltr r)) (hn : nth ns i.toNat = some n) (hl : Rl r) :
    gref06_Check_0 N self0 (rs, i, ns) = if fit r n then self0 (rs, IntKind.i64.wrap (i + 1), ns) else some 8 := by
  show href06_Check_0 self0 _ = _
  unfold href06_Check_0
  dsimp only
  rw [decide_eq_true h3, decide_eq_true h0, cond_true, hr]
  simp only [Option.bind_some, Bool.and_self, cond_true, hn, rFits_eq r n hl]
  cases fit r n <;> rfl

theorem rCheck6_eq (x : Ins) (h0 : 0 ≤ x.1) (h1 : x.1 ≤ 255) : cref06_Check x = some (if okI x then 0 else 8) := by
  show nref06_Check (iterV (gref06_Check_0 big) big) x = _
  unfold nref06_Check
  rw [Shape_eq h0 h1, Option.bind_some, show cref06_Operands x = some (vals x) from rfl, Option.bind_some]
  cases h : isOp x.1 with
  | false => simp [okI, h]
  | true =>
    obtain ⟨a, b, c, e, ha, hb, hc⟩ := rol_three h
    simp only [if_true, e, List.map_cons, List.map_nil]
    show iterV (gref06_Check_0 big) big ([ltr a, ltr b, ltr c], 0, vals x) = _
    rw [big_4, iterV_succ, rc_step _ _ (by decide) (by decide) (getI_0 _ _) rfl ha, w01]
    simp only [okI, h, e, fitL, vals, Bool.true_and, Bool.and_true]
    cases fit a x.2.1 with
    | false => rfl
    | true =>
      rw [if_pos rfl, iterV_succ, rc_step _ _ (by decide) (by decide) (getI_1 _ _ _) rfl hb, w12]
      cases fit b x.2.2.1 with
      | false => rfl
      | true =>
        rw [if_pos rfl, iterV_succ, rc_step _ _ (by decide) (by decide) (getI_2 _ _ _ _) rfl hc, w23]
        cases fit c x.2.2.2.1 with
        | false => rfl
        | true => rfl

def WfC (l : List Ins) : Prop := ∀ x ∈ l, 0 ≤ x.1 ∧ x.1 ≤ 255

theorem fit10 {n : Int} (h : fit 10 n = true) : 0 ≤ n := by simp [fit, idx] at h; omega
theorem jump_A {x : Ins} (h : okI x = true) (e : x.1 = 22) : 0 ≤ x.2.1 := by
  obtain ⟨a, b, c, ho, er, ha, hb, hc, fa, fb, fc⟩ := okI_three h
  have e22 : rol 22 = [10, 0, 0] := by decide +kernel
  rw [e, e22] at er
  simp only [List.cons.injEq, and_true] at er
  obtain ⟨rfl, rfl, rfl⟩ := er
  exact fit10 fa
theorem branch_B {x : Ins} (h : okI x = true) (e : x.1 = 23) : 0 ≤ x.2.2.1 := by
  obtain ⟨a, b, c, ho, er, ha, hb, hc, fa, fb, fc⟩ := okI_three h
  have e23 : rol 23 = [1, 10, 0] := by decide +kernel
  rw [e, e23] at er
  simp only [List.cons.injEq, and_true] at er
  obtain ⟨rfl, rfl, rfl⟩ := er
  exact fit10 fb
theorem lead_ok {x : Ins} (h : okI x = true) (n : Nat) : lead x n = if x.1 = 22 then decide (x.2.1 < n) else if x.1 = 23 then decide (x.2.2.1 < n) else true := by
  unfold lead idx
  by_cases e : x.1 = 22
  · simp [e, jump_A h e]
  · by_cases e2 : x.1 = 23
    · simp [e, e2, branch_B h e2]
    · simp [e, e2]

theorem rCheck7_eq (l : List Ins) (hw : WfC l) : cref07_Check l = some (if okC l then 0 else 8) := by
  show nref07_Check (iterV (gref07_Check_0 big) big) l = _
  unfold nref07_Check
  by_cases h0 : l.length = 0
  · have : l = [] := List.eq_nil_of_length_eq_zero h0
    subst this
    rfl
  by_cases h1 : 200 < l.length
  · have e1 : decide ((l.length : Int) < 1) = false := by simp; omega
    have e2 : decide ((l.length : Int) > 200) = true := by simp; omega
    rw [e1, e2, cond_false, cond_true]
    simp [okC, show ¬ l.length ≤ 200 by omega]
  have e1 : decide ((l.length : Int) < 1) = false := decide_eq_false (by omega)
  have e2 : decide ((l.length : Int) > 200) = false := decide_eq_false (by omega)
  rw [e1, e2, cond_false, cond_false]
  refine range_post (σ := Unit) (g := gref07_Check_0 big) (n := l.length) (fun _ i => (l, (i : Int))) (fun i _ => ∀ k x, k < i → l[k]? = some x → okx l.length x = true) (fun r => r = some (if okC l then 0 else 8)) ?_ ?_ l.length 0 big (by simp) (big_gt (by have := maxLen_ge; omega)) () (fun k x hk => by omega)
  · intro self _ hI
    show href07_Check_0 self (l, (l.length : Int)) = _
    unfold href07_Check_0
    dsimp only
    rw [decide_eq_false (by omega), cond_false, w64 (by omega) (by omega)]
    have hlt : l.length - 1 < l.length := by omega
    have hx : l[l.length - 1]? = some l[l.length - 1] := List.getElem?_eq_getElem hlt
    rw [show ((l.length : Int) - 1) = ((l.length - 1 : Nat) : Int) by omega, getI_lt hx, Option.bind_some]
    have hall : l.all (okx l.length) = true := all_at.2 fun k x hk => hI k x (List.getElem?_eq_some_iff.1 hk).1 hk
    generalize l[l.length - 1] = x at hx
    simp only [okC, hall, hx, Bool.true_and]
    rw [decide_eq_true (show 1 ≤ l.length by omega), decide_eq_true (show l.length ≤ 200 by omega)]
    simp only [Bool.true_and, decide_eq_true_eq, Option.some.injEq]
    by_cases a : x = endI
    · subst a
      rfl
    · rw [eqD_false (t := Z0) (show x ≠ ((34 : Int), ((-1 : Int), ((0 : Int), ((0 : Int), ())))) from a), if_neg a]
      rfl
  · intro self _ i hi hI
    have hx : l[i]? = some l[i] := List.getElem?_eq_getElem hi
    have hm : l[i] ∈ l := List.getElem_mem hi
    show (∃ s', _ ∧ href07_Check_0 self (l, (i : Int)) = _) ∨ href07_Check_0 self (l, (i : Int)) = _
    unfold href07_Check_0
    dsimp only
    rw [decide_eq_true (by omega), cond_true, getI_lt hx, Option.bind_some, rCheck6_eq _ (hw _ hm).1 (hw _ hm).2, Option.bind_some]
    have hbad : okx l.length l[i] = false → okC l = false := fun hb => by
      have : l.all (okx l.length) = false := by
        cases ha : l.all (okx l.length) with
        | false => rfl
        | true => rw [all_at.1 ha i _ hx] at hb; cases hb
      simp [okC, this]
    cases ho : okI l[i] with
    | false =>
      right
      rw [hbad (by simp [okx, ho])]
      rfl
    | true =>
      have hlead := lead_ok ho l.length
      simp only [if_true, show ((0 : Int) != 0) = false from rfl, cond_false]
      have next : lead l[i] l.length = true → ∃ s' : Unit, (∀ k x, k < i + 1 → l[k]? = some x → okx l.length x = true) ∧ self (l, IntKind.i64.wrap ((i : Int) + 1)) = self (l, ((i + 1 : Nat) : Int)) := fun hl => by
        refine ⟨(), fun k x hk hx' => ?_, by rw [w64 (by omega) (by omega)]; rfl⟩
        by_cases e : k = i
        · subst e
          rw [hx] at hx'
          cases hx'
          simp [okx, ho, hl]
        · exact hI k x (by omega) hx'
      have fail : lead l[i] l.length = false → okC l = false := fun hl => hbad (by simp [okx, hl])
      generalize l[i] = x at *
      by_cases a : x.1 = 22
      · rw [if_pos a] at hlead
        have b : ¬ x.1 = 23 := by omega
        by_cases c : x.2.1 < (l.length : Int)
        · left
          have := next (by rw [hlead]; simp [c])
          have c' : decide (x.2.1 ≥ (l.length : Int)) = false := by simp; omega
          simpa only [a, b, c', beqd, decide_true, decide_false, cond_true, cond_false, if_true, if_false, show ¬ (22 : Int) = 23 by decide] using this
        · right
          have c' : decide (x.2.1 ≥ (l.length : Int)) = true := by simp; omega
          rw [fail (by rw [hlead]; simp [c])]
          simp only [a, c', beqd, decide_true, cond_true]
          rfl
      · by_cases b : x.1 = 23
        · rw [if_neg a, if_pos b] at hlead
          by_cases c : x.2.2.1 < (l.length : Int)
          · left
            have := next (by rw [hlead]; simp [c])
            have c' : decide (x.2.2.1 ≥ (l.length : Int)) = false := by simp; omega
            simpa only [a, b, c', beqd, decide_true, decide_false, cond_true, cond_false, show ¬ (23 : Int) = 22 by decide] using this
          · right
            have c' : decide (x.2.2.1 ≥ (l.length : Int)) = true := by simp; omega
            rw [fail (by rw [hlead]; simp [c])]
            simp only [a, b, c', beqd, decide_true, decide_false, cond_true, cond_false, show ¬ (23 : Int) = 22 by decide]
            rfl
        · left
          rw [if_neg a, if_neg b] at hlead
          have := next hlead
          simpa only [a, b, beqd, decide_false, cond_false] using this

/-! ### what comes behind -/
def bh (x : Ins) (i : Nat) : List Nat :=
  if x.1 = 22 then [x.2.1.toNat] else if x.1 = 23 then (if x.2.2.1 = (i : Int) + 1 then [i + 1] else [min (i + 1) x.2.2.1.toNat, max (i + 1) x.2.2.1.toNat]) else if x.1 = 34 ∨ x.1 = 28 ∨ x.1 = 30 then [] else [i + 1]
def G (l : List Ins) (i : Nat) : List Nat := match l[i]? with
  | some x => bh x i
  | none => []
abbrev ints (l : List Nat) : List Int := l.map fun (k : Nat) => (k : Int)

theorem okC_parts {l : List Ins} (h : okC l = true) : 1 ≤ l.length ∧ l.length ≤ 200 ∧ (∀ (k : Nat) (x : Ins), l[k]? = some x → okI x = true ∧ lead x l.length = true) ∧ l[l.length - 1]? = some endI := by
  simp only [okC, Bool.and_eq_true, decide_eq_true_eq] at h
  refine ⟨h.1, h.2.1, fun k x hx => ?_, h.2.2.2⟩
  have := all_at.1 h.2.2.1 k x hx
  simpa only [okx, Bool.and_eq_true] using this

theorem G_lt {l : List Ins} (h : okC l = true) {i j : Nat} (hi : i < l.length) (hj : j ∈ G l i) : j < l.length := by
  obtain ⟨h1, h2, h3, h4⟩ := okC_parts h
  have hx : l[i]? = some l[i] := List.getElem?_eq_getElem hi
  obtain ⟨ho, hl⟩ := h3 i _ hx
  rw [lead_ok ho] at hl
  simp only [G, hx, bh] at hj
  have hlast : i = l.length - 1 → l[i] = endI := fun e => by
    have : some l[i] = some endI := by rw [← hx, e]; exact h4
    exact Option.some.inj this
  by_cases e : i = l.length - 1
  · rw [hlast e] at hj
    simp [endI] at hj
  · by_cases a : l[i].1 = 22
    · simp [a] at hj hl
      have := jump_A ho a
      omega
    · by_cases b : l[i].1 = 23
      · have hB := branch_B ho b
        simp only [a, b, if_false, if_true, show ¬ (23 : Int) = 22 by decide, decide_eq_true_eq] at hj hl
        split at hj <;> simp at hj <;> omega
      · simp only [a, b, if_false] at hj
        split at hj <;> simp at hj
        omega

theorem compact2 (a b : Int) : iterV (gflow_behind_0 (fun _ => List.replicate) big) big (1, [a, b]) = some (if b = a then [a] else [a, b]) := by
  have key : ∀ N M, N = (N - 1) + 1 → M = (M - 2) + 1 + 1 → iterV (gflow_behind_0 (fun _ => List.replicate) N) M (1, [a, b]) = some (if b = a then [a] else [a, b]) := by
    intro N M hN hM
    rw [hM, iterV_succ]
    show hflow_behind_0 (fun _ => List.replicate) (iterV (gflow_behind_1 (fun _ => List.replicate) N (iterV (gflow_behind_0 (fun _ => List.replicate) N) (M - 2 + 1))) N) (iterV (gflow_behind_0 (fun _ => List.replicate) N) (M - 2 + 1)) (1, [a, b]) = _
    generalize hl : iterV (gflow_behind_1 (fun _ => List.replicate) N (iterV (gflow_behind_0 (fun _ => List.replicate) N) (M - 2 + 1))) N = loop1
    have h1 : loop1 (1, 1, 2, 1, [a, b]) = some [a] := by
      rw [← hl, hN, iterV_succ]
      show hflow_behind_1 (fun _ => List.replicate) _ _ (1, 1, 2, 1, [a, b]) = _
      unfold hflow_behind_1
      rfl
    have h2 : iterV (gflow_behind_0 (fun _ => List.replicate) N) (M - 2 + 1) (2, [a, b]) = some [a, b] := by
      rw [iterV_succ]
      show hflow_behind_0 (fun _ => List.replicate) _ _ (2, [a, b]) = _
      unfold hflow_behind_0
      rfl
    show (bif b == a then loop1 (1, 1, 2, 1, [a, b]) else iterV (gflow_behind_0 (fun _ => List.replicate) N) (M - 2 + 1) (2, [a, b])) = _
    rw [h1, h2, beqd]
    by_cases e : b = a <;> simp [e]
  exact key big big big_pos big_2

theorem behind_eq {l : List Ins} (h : okC l = true) {i : Nat} (hi : i < l.length) : cflow_behind (l, (i : Int)) = some (ints (G l i)) := by
  obtain ⟨h1, h2, h3, h4⟩ := okC_parts h
  have hx : l[i]? = some l[i] := List.getElem?_eq_getElem hi
  obtain ⟨ho, _⟩ := h3 i _ hx
  show nflow_behind (fun _ => List.replicate) (iterV (gflow_behind_0 (fun _ => List.replicate) big) big) (l, (i : Int)) = _
  unfold nflow_behind
  dsimp only
  rw [getI_lt hx, Option.bind_some]
  simp only [G, hx, bh]
  have hw : IntKind.i64.wrap ((i : Int) + 1) = (i : Int) + 1 := w64 (by omega) (by omega)
  rw [hw]
  have hA := jump_A ho
  have hB := branch_B ho
  generalize l[i] = x at *
  by_cases a : x.1 = 22
  · have := hA a
    simp [a, ints]
    omega
  by_cases b : x.1 = 23
  · have hB := hB b
    simp only [a, b, if_false, if_true, beqd, decide_true, decide_false, cond_true, cond_false, show ¬ (23 : Int) = 22 by decide]
    rw [show decide ((List.length ([if x.2.2.1 < (i : Int) + 1 then x.2.2.1 else (i : Int) + 1, if x.2.2.1 > (i : Int) + 1 then x.2.2.1 else (i : Int) + 1] : Y1) : Int) < 2) = false from rfl, cond_false]
    rw [compact2]
    by_cases c : x.2.2.1 = (i : Int) + 1
    · rw [if_pos c, c]
      simp [ints]
    · rw [if_neg c, if_neg (by split <;> split <;> omega)]
      simp only [ints, List.map_cons, List.map_nil, Option.some.injEq, List.cons.injEq, and_true]
      constructor
      · split <;> omega
      · split <;> omega
  simp only [a, b, if_false, beqd, decide_false, cond_false]
  by_cases c : x.1 = 34
  · simp [c]
  by_cases d : x.1 = 28
  · simp [c, d]
  by_cases e : x.1 = 30
  · simp [c, d, e]
  simp [c, d, e, ints]

theorem Behind_eq {l : List Ins} (h : okC l = true) {i : Nat} (hi : i < l.length) : cref07_Behind (l, (i : Int)) = some (ints (G l i)) := by
  obtain ⟨h1, h2, h3, h4⟩ := okC_parts h
  have hx : l[i]? = some l[i] := List.getElem?_eq_getElem hi
  obtain ⟨ho, _⟩ := h3 i _ hx
  show nref07_Behind (l, (i : Int)) = _
  unfold nref07_Behind
  dsimp only
  rw [getI_lt hx, Option.bind_some]
  simp only [G, hx, bh]
  have hw : IntKind.i64.wrap ((i : Int) + 1) = (i : Int) + 1 := w64 (by omega) (by omega)
  rw [hw]
  have hA := jump_A ho
  have hB := branch_B ho
  generalize l[i] = x at *
  by_cases a : x.1 = 22
  · have := hA a
    simp [a, ints]
    omega
  by_cases b : x.1 = 23
  · have hB := hB b
    by_cases c : x.2.2.1 = (i : Int) + 1
    · simp [a, b, c, ints]
    · simp only [a, b, c, if_false, if_true, beqd, decide_true, decide_false, cond_true, cond_false, show ¬ (23 : Int) = 22 by decide, show ¬ (23 : Int) = 34 by decide, show ¬ (23 : Int) = 28 by decide, show ¬ (23 : Int) = 30 by decide]
      simp only [ints, List.map_cons, List.map_nil, Option.some.injEq, List.cons.injEq, and_true]
      constructor
      · split <;> omega
      · split <;> omega
  simp only [a, b, if_false, beqd, decide_false, cond_false]
  by_cases c : x.1 = 34
  · simp [c]
  by_cases d : x.1 = 28
  · simp [c, d]
  by_cases e : x.1 = 30
  · simp [c, d, e]
  simp [c, d, e, ints]
end Go.Proofs.YtkklpkkhepcaiaaDoor
