/- Ways: what a way leads to; going through all steps; led and the reference's Led. -/
import Derived.Test.YtkklpkkhepcaiaaDoorFlowR
import Derived.Test.YtkklpkkhepcaiaaDoorOpsQ
set_option linter.unusedVariables false
set_option linter.unusedSimpArgs false
set_option maxRecDepth 100000
namespace Go.Proofs.YtkklpkkhepcaiaaDoor
open Go.Lift

theorem w64 {z : Int} (h : -9223372036854775808 ≤ z) (h' : z ≤ 9223372036854775807) : IntKind.i64.wrap z = z := wrap_i64 h h'
theorem big_2 : big = (big - 2) + 1 + 1 := by decide
theorem getI_lt {α : Type} {xs : List α} {i : Nat} {x : α} (h : xs[i]? = some x) : getI xs (i : Int) = some x := by rw [getI_nat]; exact h
theorem nth_get {α : Type} : ∀ (xs : List α) (i : Nat), nth xs i = xs[i]?
  | [], i => by cases i <;> rfl
  | x :: xs, 0 => rfl
  | x :: xs, i + 1 => (nth_get xs i).trans List.getElem?_cons_succ.symm
theorem in_range {i n : Nat} (h : i < n) : (decide ((0 : Int) ≤ (i : Int)) && decide ((i : Int) < (n : Int))) = true := by simp; omega
theorem getLast_at {α : Type} {l : List α} : l.getLast? = l[l.length - 1]? := List.getLast?_eq_getElem?

/-! ### Check -/
def endI : Ins := (34, (-1, (0, (0, ()))))
def lead (x : Ins) (n : Nat) : Bool := if x.1 = 22 then idx x.2.1 n else if x.1 = 23 then idx x.2.2.1 n else true
def okx (n : Nat) (x : Ins) : Bool := okI x && lead x n
def okC (l : List Ins) : Bool := decide (1 ≤ l.length) && (decide (l.length ≤ 200) && (l.all (okx l.length) && decide (l[l.length - 1]? = some endI)))

theorem flow_isIndex_eq (n k : Int) : cflow_isIndex (n, k) = some (idx n k) := by
  simp only [cflow_isIndex, mflow_isIndex, nflow_isIndex, idx]
  by_cases h : (0 : Int) ≤ n <;> simp [h]
theorem leadsInto_eq (x : Ins) (n : Nat) : cflow_leadsInto (x, (n : Int)) = some (lead x n) := by
  simp only [cflow_leadsInto, mflow_leadsInto, nflow_leadsInto, lead, flow_isIndex_eq]
  by_cases h : x.1 = 22
  · simp [h, beqd]
  · by_cases h2 : x.1 = 23 <;> simp [h, h2, beqd]

theorem end_ok {x : Ins} (h : okI x = true) : (x.1 = 34 ∧ x.2.1 = -1) ↔ x = endI := by
  constructor
  · rintro ⟨h1, h2⟩
    obtain ⟨a, b, c, ho, e, ha, hb, hc, fa, fb, fc⟩ := okI_three h
    have e34 : rol 34 = [3, 0, 0] := by decide +kernel
    rw [h1, e34] at e
    simp only [List.cons.injEq, and_true] at e
    obtain ⟨rfl, rfl, rfl⟩ := e
    simp [fit] at fb fc
    obtain ⟨p, q, r, s, u⟩ := x
    simp_all [endI]
  · rintro rfl; exact ⟨rfl, rfl⟩

theorem all_at {α : Type} {p : α → Bool} {l : List α} : l.all p = true ↔ ∀ (k : Nat) (x : α), l[k]? = some x → p x = true := by
  rw [List.all_eq_true]
  constructor
  · intro h k x hx; exact h x (List.mem_of_getElem? hx)
  · intro h x hx
    obtain ⟨k, hk, rfl⟩ := List.getElem_of_mem hx
    exact h k _ (List.getElem?_eq_getElem hk)

theorem Check7_eq (l : List Ins) : cflow_Check l = some (if okC l then 0 else 8) := by
  show nflow_Check (iterV (gflow_Check_0 big) big) l = _
  unfold nflow_Check
  by_cases h0 : l.length = 0
  · have : l = [] := List.eq_nil_of_length_eq_zero h0
    subst this
    rfl
  by_cases h1 : 200 < l.length
  · have e1 : ((l.length : Int) == 0) = false := by rw [beqd]; exact decide_eq_false (by omega)
    have e2 : decide ((l.length : Int) > 200) = true := decide_eq_true (by omega)
    rw [e1, e2, cond_false, cond_true]
    simp [okC, show ¬ l.length ≤ 200 by omega]
  have e1 : ((l.length : Int) == 0) = false := by rw [beqd]; exact decide_eq_false (by omega)
  have e2 : decide ((l.length : Int) > 200) = false := decide_eq_false (by omega)
  rw [e1, e2, cond_false, cond_false]
  refine range_post (σ := Unit) (g := gflow_Check_0 big) (n := l.length) (fun _ i => (l, l, (l.length : Int), (i : Int))) (fun i _ => ∀ k x, k < i → l[k]? = some x → okx l.length x = true) (fun r => r = some (if okC l then 0 else 8)) ?_ ?_ l.length 0 big (by simp) (big_gt (by have := maxLen_ge; omega)) () (fun k x hk => by omega)
  · intro self _ hI
    show hflow_Check_0 self (l, l, (l.length : Int), (l.length : Int)) = _
    unfold hflow_Check_0
    dsimp only
    rw [decide_eq_false (by omega), cond_false, w64 (by omega) (by omega)]
    have hlt : l.length - 1 < l.length := by omega
    have hx : l[l.length - 1]? = some l[l.length - 1] := List.getElem?_eq_getElem hlt
    rw [show ((l.length : Int) - 1) = ((l.length - 1 : Nat) : Int) by omega, getI_lt hx, Option.bind_some]
    have hall : l.all (okx l.length) = true := all_at.2 fun k x hk => hI k x (List.getElem?_eq_some_iff.1 hk).1 hk
    have hok : okI l[l.length - 1] = true := by
      have := hI _ _ hlt hx
      simp only [okx, Bool.and_eq_true] at this
      exact this.1
    have hend := end_ok hok
    generalize l[l.length - 1] = x at hx hok hend
    simp only [okC, hall, hx, Bool.true_and]
    rw [decide_eq_true (show 1 ≤ l.length by omega), decide_eq_true (show l.length ≤ 200 by omega)]
    simp only [Bool.true_and, decide_eq_true_eq, Option.some.injEq]
    by_cases a : x.1 = 34
    · by_cases b : x.2.1 = -1
      · rw [if_pos (hend.1 ⟨a, b⟩)]; simp [a, b]
      · rw [if_neg fun e => b (hend.2 e).2]; simp [a, b, bne, beqd]
    · rw [if_neg fun e => a (hend.2 e).1]; simp [a, bne, beqd]
  · intro self _ i hi hI
    have hx : l[i]? = some l[i] := List.getElem?_eq_getElem hi
    show (∃ s', _ ∧ hflow_Check_0 self (l, l, (l.length : Int), (i : Int)) = _) ∨ hflow_Check_0 self (l, l, (l.length : Int), (i : Int)) = _
    unfold hflow_Check_0
    dsimp only
    rw [decide_eq_true (by omega), cond_true, getI_lt hx, Option.bind_some, Check_eq, Option.bind_some, leadsInto_eq]
    have hbad : okx l.length l[i] = false → okC l = false := fun hb => by
      have : l.all (okx l.length) = false := by
        cases ha : l.all (okx l.length) with
        | false => rfl
        | true => rw [all_at.1 ha i _ hx] at hb; cases hb
      simp [okC, this]
    cases ho : okI l[i] with
    | false =>
      right
      rw [hbad (by simp [okx, ho])]
      rfl
    | true =>
      cases hl : lead l[i] l.length with
      | false =>
        right
        rw [hbad (by simp [okx, hl])]
        rfl
      | true =>
        left
        refine ⟨(), fun k x hk hx' => ?_, ?_⟩
        · by_cases e : k = i
          · subst e
            rw [hx] at hx'
            cases hx'
            simp [okx, ho, hl]
          · exact hI k x (by omega) hx'
        · simp only [if_true, Option.bind_some, Bool.not_true, cond_false]
          rw [w64 (by omega) (by omega)]
          rfl

/-! ### the reference's -/
theorem rc_step (N : Nat) (self0) {rs ns : List Int} {i r n : Int} (h0 : 0 ≤ i) (h3 : i < 3) (hr : getI rs i = some (ltr r)) (hn : nth ns i.toNat = some n) (hl : Rl r) :
    gref06_Check_0 N self0 (rs, i, ns) = if fit r n then self0 (rs, IntKind.i64.wrap (i + 1), ns) else some 8 := by
  show href06_Check_0 self0 _ = _
  unfold href06_Check_0
  dsimp only
  rw [decide_eq_true h3, decide_eq_true h0, cond_true, hr]
  simp only [Option.bind_some, Bool.and_self, cond_true, hn, rFits_eq r n hl]
  cases fit r n <;> rfl

theorem rCheck6_eq (x : Ins) (h0 : 0 ≤ x.1) (h1 : x.1 ≤ 255) : cref06_Check x = some (if okI x then 0 else 8) := by
  show nref06_Check (iterV (gref06_Check_0 big) big) x = _
  unfold nref06_Check
  rw [Shape_eq h0 h1, Option.bind_some, show cref06_Operands x = some (vals x) from rfl, Option.bind_some]
  cases h : isOp x.1 with
  | false => simp [okI, h]
  | true =>
    obtain ⟨a, b, c, e, ha, hb, hc⟩ := rol_three h
    simp only [if_true, e, List.map_cons, List.map_nil]
    show iterV (gref06_Check_0 big) big ([ltr a, ltr b, ltr c], 0, vals x) = _
    rw [big_4, iterV_succ, rc_step _ _ (by decide) (by decide) (getI_0 _ _) rfl ha, w01]
    simp only [okI, h, e, fitL, vals, Bool.true_and, Bool.and_true]
    cases fit a x.2.1 with
    | false => rfl
    | true =>
      rw [if_pos rfl, iterV_succ, rc_step _ _ (by decide) (by decide) (getI_1 _ _ _) rfl hb, w12]
      cases fit b x.2.2.1 with
      | false => rfl
      | true =>
        rw [if_pos rfl, iterV_succ, rc_step _ _ (by decide) (by decide) (getI_2 _ _ _ _) rfl hc, w23]
        cases fit c x.2.2.2.1 with
        | false => rfl
        | true => rfl

def WfC (l : List Ins) : Prop := ∀ x ∈ l, 0 ≤ x.1 ∧ x.1 ≤ 255

theorem fit10 {n : Int} (h : fit 10 n = true) : 0 ≤ n := by simp [fit, idx] at h; omega
theorem jump_A {x : Ins} (h : okI x = true) (e : x.1 = 22) : 0 ≤ x.2.1 := by
  obtain ⟨a, b, c, ho, er, ha, hb, hc, fa, fb, fc⟩ := okI_three h
  have e22 : rol 22 = [10, 0, 0] := by decide +kernel
  rw [e, e22] at er
  simp only [List.cons.injEq, and_true] at er
  obtain ⟨rfl, rfl, rfl⟩ := er
  exact fit10 fa
theorem branch_B {x : Ins} (h : okI x = true) (e : x.1 = 23) : 0 ≤ x.2.2.1 := by
  obtain ⟨a, b, c, ho, er, ha, hb, hc, fa, fb, fc⟩ := okI_three h
  have e23 : rol 23 = [1, 10, 0] := by decide +kernel
  rw [e, e23] at er
  simp only [List.cons.injEq, and_true] at er
  obtain ⟨rfl, rfl, rfl⟩ := er
  exact fit10 fb
theorem lead_ok {x : Ins} (h : okI x = true) (n : Nat) : lead x n = if x.1 = 22 then decide (x.2.1 < n) else if x.1 = 23 then decide (x.2.2.1 < n) else true := by
  unfold lead idx
  by_cases e : x.1 = 22
  · simp [e, jump_A h e]
  · by_cases e2 : x.1 = 23
    · simp [e, e2, branch_B h e2]
    · simp [e, e2]

theorem rCheck7_eq (l : List Ins) (hw : WfC l) : cref07_Check l = some (if okC l then 0 else 8) := by
  show nref07_Check (iterV (gref07_Check_0 big) big) l = _
  unfold nref07_Check
  by_cases h0 : l.length = 0
  · have : l = [] := List.eq_nil_of_length_eq_zero h0
    subst this
    rfl
  by_cases h1 : 200 < l.length
  · have e1 : decide ((l.length : Int) < 1) = false := by simp; omega
    have e2 : decide ((l.length : Int) > 200) = true := by simp; omega
    rw [e1, e2, cond_false, cond_true]
    simp [okC, show ¬ l.length ≤ 200 by omega]
  have e1 : decide ((l.length : Int) < 1) = false := decide_eq_false (by omega)
  have e2 : decide ((l.length : Int) > 200) = false := decide_eq_false (by omega)
  rw [e1, e2, cond_false, cond_false]
  refine range_post (σ := Unit) (g := gref07_Check_0 big) (n := l.length) (fun _ i => (l, (i : Int))) (fun i _ => ∀ k x, k < i → l[k]? = some x → okx l.length x = true) (fun r => r = some (if okC l then 0 else 8)) ?_ ?_ l.length 0 big (by simp) (big_gt (by have := maxLen_ge; omega)) () (fun k x hk => by omega)
  · intro self _ hI
    show href07_Check_0 self (l, (l.length : Int)) = _
    unfold href07_Check_0
    dsimp only
    rw [decide_eq_false (by omega), cond_false, w64 (by omega) (by omega)]
    have hlt : l.length - 1 < l.length := by omega
    have hx : l[l.length - 1]? = some l[l.length - 1] := List.getElem?_eq_getElem hlt
    rw [show ((l.length : Int) - 1) = ((l.length - 1 : Nat) : Int) by omega, getI_lt hx, Option.bind_some]
    have hall : l.all (okx l.length) = true := all_at.2 fun k x hk => hI k x (List.getElem?_eq_some_iff.1 hk).1 hk
    generalize l[l.length - 1] = x at hx
    simp only [okC, hall, hx, Bool.true_and]
    rw [decide_eq_true (show 1 ≤ l.length by omega), decide_eq_true (show l.length ≤ 200 by omega)]
    simp only [Bool.true_and, decide_eq_true_eq, Option.some.injEq]
    by_cases a : x = endI
    · subst a
      rfl
    · rw [eqD_false (t := Z0) (show x ≠ ((34 : Int), ((-1 : Int), ((0 : Int), ((0 : Int), ())))) from a), if_neg a]
      rfl
  · intro self _ i hi hI
    have hx : l[i]? = some l[i] := List.getElem?_eq_getElem hi
    have hm : l[i] ∈ l := List.getElem_mem hi
    show (∃ s', _ ∧ href07_Check_0 self (l, (i : Int)) = _) ∨ href07_Check_0 self (l, (i : Int)) = _
    unfold href07_Check_0
    dsimp only
    rw [decide_eq_true (by omega), cond_true, getI_lt hx, Option.bind_some, rCheck6_eq _ (hw _ hm).1 (hw _ hm).2, Option.bind_some]
    have hbad : okx l.length l[i] = false → okC l = false := fun hb => by
      have : l.all (okx l.length) = false := by
        cases ha : l.all (okx l.length) with
        | false => rfl
        | true => rw [all_at.1 ha i _ hx] at hb; cases hb
      simp [okC, this]
    cases ho : okI l[i] with
    | false =>
      right
      rw [hbad (by simp [okx, ho])]
      rfl
    | true =>
      have hlead := lead_ok ho l.length
      simp only [if_true, show ((0 : Int) != 0) = false from rfl, cond_false]
      have next : lead l[i] l.length = true → ∃ s' : Unit, (∀ k x, k < i + 1 → l[k]? = some x → okx l.length x = true) ∧ self (l, IntKind.i64.wrap ((i : Int) + 1)) = self (l, ((i + 1 : Nat) : Int)) := fun hl => by
        refine ⟨(), fun k x hk hx' => ?_, by rw [w64 (by omega) (by omega)]; rfl⟩
        by_cases e : k = i
        · subst e
          rw [hx] at hx'
          cases hx'
          simp [okx, ho, hl]
        · exact hI k x (by omega) hx'
      have fail : lead l[i] l.length = false → okC l = false := fun hl => hbad (by simp [okx, hl])
      generalize l[i] = x at *
      by_cases a : x.1 = 22
      · rw [if_pos a] at hlead
        have b : ¬ x.1 = 23 := by omega
        by_cases c : x.2.1 < (l.length : Int)
        · left
          have := next (by rw [hlead]; simp [c])
          have c' : decide (x.2.1 ≥ (l.length : Int)) = false := by simp; omega
          simpa only [a, b, c', beqd, decide_true, decide_false, cond_true, cond_false, if_true, if_false, show ¬ (22 : Int) = 23 by decide] using this
        · right
          have c' : decide (x.2.1 ≥ (l.length : Int)) = true := by simp; omega
          rw [fail (by rw [hlead]; simp [c])]
          simp only [a, c', beqd, decide_true, cond_true]
          rfl
      · by_cases b : x.1 = 23
        · rw [if_neg a, if_pos b] at hlead
          by_cases c : x.2.2.1 < (l.length : Int)
          · left
            have := next (by rw [hlead]; simp [c])
            have c' : decide (x.2.2.1 ≥ (l.length : Int)) = false := by simp; omega
            simpa only [a, b, c', beqd, decide_true, decide_false, cond_true, cond_false, show ¬ (23 : Int) = 22 by decide] using this
          · right
            have c' : decide (x.2.2.1 ≥ (l.length : Int)) = true := by simp; omega
            rw [fail (by rw [hlead]; simp [c])]
            simp only [a, b, c', beqd, decide_true, decide_false, cond_true, cond_false, show ¬ (23 : Int) = 22 by decide]
            rfl
        · left
          rw [if_neg a, if_neg b] at hlead
          have := next hlead
          simpa only [a, b, beqd, decide_false, cond_false] using this

/-! ### what comes behind -/
def bh (x : Ins) (i : Nat) : List Nat :=
  if x.1 = 22 then [x.2.1.toNat] else if x.1 = 23 then (if x.2.2.1 = (i : Int) + 1 then [i + 1] else [min (i + 1) x.2.2.1.toNat, max (i + 1) x.2.2.1.toNat]) else if x.1 = 34 ∨ x.1 = 28 ∨ x.1 = 30 then [] else [i + 1]
def G (l : List Ins) (i : Nat) : List Nat := match l[i]? with
  | some x => bh x i
  | none => []
abbrev ints (l : List Nat) : List Int := l.map fun (k : Nat) => (k : Int)

theorem okC_parts {l : List Ins} (h : okC l = true) : 1 ≤ l.length ∧ l.length ≤ 200 ∧ (∀ (k : Nat) (x : Ins), l[k]? = some x → okI x = true ∧ lead x l.length = true) ∧ l[l.length - 1]? = some endI := by
  simp only [okC, Bool.and_eq_true, decide_eq_true_eq] at h
  refine ⟨h.1, h.2.1, fun k x hx => ?_, h.2.2.2⟩
  have := all_at.1 h.2.2.1 k x hx
  simpa only [okx, Bool.and_eq_true] using this

theorem G_lt {l : List Ins} (h : okC l = true) {i j : Nat} (hi : i < l.length) (hj : j ∈ G l i) : j < l.length := by
  obtain ⟨h1, h2, h3, h4⟩ := okC_parts h
  have hx : l[i]? = some l[i] := List.getElem?_eq_getElem hi
  obtain ⟨ho, hl⟩ := h3 i _ hx
  rw [lead_ok ho] at hl
  simp only [G, hx, bh] at hj
  have hlast : i = l.length - 1 → l[i] = endI := fun e => by
    have : some l[i] = some endI := by rw [← hx, e]; exact h4
    exact Option.some.inj this
  by_cases e : i = l.length - 1
  · rw [hlast e] at hj
    simp [endI] at hj
  · by_cases a : l[i].1 = 22
    · simp [a] at hj hl
      have := jump_A ho a
      omega
    · by_cases b : l[i].1 = 23
      · have hB := branch_B ho b
        simp only [a, b, if_false, if_true, show ¬ (23 : Int) = 22 by decide, decide_eq_true_eq] at hj hl
        split at hj <;> simp at hj <;> omega
      · simp only [a, b, if_false] at hj
        split at hj <;> simp at hj
        omega

theorem compact2 (a b : Int) : iterV (gflow_behind_0 (fun _ => List.replicate) big) big (1, [a, b]) = some (if b = a then [a] else [a, b]) := by
  have key : ∀ N M, N = (N - 1) + 1 → M = (M - 2) + 1 + 1 → iterV (gflow_behind_0 (fun _ => List.replicate) N) M (1, [a, b]) = some (if b = a then [a] else [a, b]) := by
    intro N M hN hM
    rw [hM, iterV_succ]
    show hflow_behind_0 (fun _ => List.replicate) (iterV (gflow_behind_1 (fun _ => List.replicate) N (iterV (gflow_behind_0 (fun _ => List.replicate) N) (M - 2 + 1))) N) (iterV (gflow_behind_0 (fun _ => List.replicate) N) (M - 2 + 1)) (1, [a, b]) = _
    generalize hl : iterV (gflow_behind_1 (fun _ => List.replicate) N (iterV (gflow_behind_0 (fun _ => List.replicate) N) (M - 2 + 1))) N = loop1
    have h1 : loop1 (1, 1, 2, 1, [a, b]) = some [a] := by
      rw [← hl, hN, iterV_succ]
      show hflow_behind_1 (fun _ => List.replicate) _ _ (1, 1, 2, 1, [a, b]) = _
      unfold hflow_behind_1
      rfl
    have h2 : iterV (gflow_behind_0 (fun _ => List.replicate) N) (M - 2 + 1) (2, [a, b]) = some [a, b] := by
      rw [iterV_succ]
      show hflow_behind_0 (fun _ => List.replicate) _ _ (2, [a, b]) = _
      unfold hflow_behind_0
      rfl
    show (bif b == a then loop1 (1, 1, 2, 1, [a, b]) else iterV (gflow_behind_0 (fun _ => List.replicate) N) (M - 2 + 1) (2, [a, b])) = _
    rw [h1, h2, beqd]
    by_cases e : b = a <;> simp [e]
  exact key big big big_pos big_2

theorem behind_eq {l : List Ins} (h : okC l = true) {i : Nat} (hi : i < l.length) : cflow_behind (l, (i : Int)) = some (ints (G l i)) := by
  obtain ⟨h1, h2, h3, h4⟩ := okC_parts h
  have hx : l[i]? = some l[i] := List.getElem?_eq_getElem hi
  obtain ⟨ho, _⟩ := h3 i _ hx
  show nflow_behind (fun _ => List.replicate) (iterV (gflow_behind_0 (fun _ => List.replicate) big) big) (l, (i : Int)) = _
  unfold nflow_behind
  dsimp only
  rw [getI_lt hx, Option.bind_some]
  simp only [G, hx, bh]
  have hw : IntKind.i64.wrap ((i : Int) + 1) = (i : Int) + 1 := w64 (by omega) (by omega)
  rw [hw]
  have hA := jump_A ho
  have hB := branch_B ho
  generalize l[i] = x at *
  by_cases a : x.1 = 22
  · have := hA a
    simp [a, ints]
    omega
  by_cases b : x.1 = 23
  · have hB := hB b
    simp only [a, b, if_false, if_true, beqd, decide_true, decide_false, cond_true, cond_false, show ¬ (23 : Int) = 22 by decide]
    rw [show decide ((List.length ([if x.2.2.1 < (i : Int) + 1 then x.2.2.1 else (i : Int) + 1, if x.2.2.1 > (i : Int) + 1 then x.2.2.1 else (i : Int) + 1] : Y1) : Int) < 2) = false from rfl, cond_false]
    rw [compact2]
    by_cases c : x.2.2.1 = (i : Int) + 1
    · rw [if_pos c, c]
      simp [ints]
    · rw [if_neg c, if_neg (by split <;> split <;> omega)]
      simp only [ints, List.map_cons, List.map_nil, Option.some.injEq, List.cons.injEq, and_true]
      constructor
      · split <;> omega
      · split <;> omega
  simp only [a, b, if_false, beqd, decide_false, cond_false]
  by_cases c : x.1 = 34
  · simp [c]
  by_cases d : x.1 = 28
  · simp [c, d]
  by_cases e : x.1 = 30
  · simp [c, d, e]
  simp [c, d, e, ints]

theorem Behind_eq {l : List Ins} (h : okC l = true) {i : Nat} (hi : i < l.length) : cref07_Behind (l, (i : Int)) = some (ints (G l i)) := by
  obtain ⟨h1, h2, h3, h4⟩ := okC_parts h
  have hx : l[i]? = some l[i] := List.getElem?_eq_getElem hi
  obtain ⟨ho, _⟩ := h3 i _ hx
  show nref07_Behind (l, (i : Int)) = _
  unfold nref07_Behind
  dsimp only
  rw [getI_lt hx, Option.bind_some]
  simp only [G, hx, bh]
  have hw : IntKind.i64.wrap ((i : Int) + 1) = (i : Int) + 1 := w64 (by omega) (by omega)
  rw [hw]
  have hA := jump_A ho
  have hB := branch_B ho
  generalize l[i] = x at *
  by_cases a : x.1 = 22
  · have := hA a
    simp [a, ints]
    omega
  by_cases b : x.1 = 23
  · have hB := hB b
    by_cases c : x.2.2.1 = (i : Int) + 1
    · simp [a, b, c, ints]
    · simp only [a, b, c, if_false, if_true, beqd, decide_true, decide_false, cond_true, cond_false, show ¬ (23 : Int) = 22 by decide, show ¬ (23 : Int) = 34 by decide, show ¬ (23 : Int) = 28 by decide, show ¬ (23 : Int) = 30 by decide]
      simp only [ints, List.map_cons, List.map_nil, Option.some.injEq, List.cons.injEq, and_true]
      constructor
      · split <;> omega
      · split <;> omega
  simp only [a, b, if_false, beqd, decide_false, cond_false]
  by_cases c : x.1 = 34
  · simp [c]
  by_cases d : x.1 = 28
  · simp [c, d]
  by_cases e : x.1 = 30
  · simp [c, d, e]
  simp [c, d, e, ints]
end Go.Proofs.YtkklpkkhepcaiaaDoor

set_option linter.unusedVariables false
set_option linter.unusedSimpArgs false
set_option maxRecDepth 100000
namespace Go.Proofs.YtkklpkkhepcaiaaDoor
open Go.Lift

theorem while_post {V α : Type} {g : (V → Option α) → V → Option α} (I : V → Prop) (μ : V → Nat) (Post : Option α → Prop) (h : ∀ self v, I v → (∀ v', I v' → μ v' < μ v → Post (self v')) → Post (g self v)) : ∀ N v, I v → μ v < N → Post (iterV g N v)
  | 0, v, _, hm => by omega
  | n + 1, v, hI, hm => h (iterV g n) v hI fun v' h1 h2 => while_post I μ Post h n v' h1 (by omega)

inductive Rc (g : Nat → List Nat) : Nat → Prop
  | zero : Rc g 0
  | step {i j : Nat} : Rc g i → j ∈ g i → Rc g j

open Classical in
noncomputable def ledL (l : List Ins) : List Bool := (List.range l.length).map fun i => decide (Rc (G l) i)
theorem ledL_len (l : List Ins) : (ledL l).length = l.length := by simp [ledL]
theorem ledL_at {l : List Ins} {i : Nat} (h : i < l.length) : (ledL l)[i]? = some true ↔ Rc (G l) i := by
  simp [ledL, h]
theorem ledL_false {l : List Ins} {i : Nat} (h : i < l.length) : (ledL l)[i]? = some false ↔ ¬ Rc (G l) i := by
  simp [ledL, h]
theorem ledL_of {l : List Ins} {x : List Bool} (hl : x.length = l.length) (h : ∀ i, i < l.length → (x[i]? = some true ↔ Rc (G l) i)) : x = ledL l := by
  apply List.ext_getElem?
  intro i
  by_cases hi : i < l.length
  · have h1 := h i hi
    have h2 := ledL_at hi
    have hx : x[i]? = some x[i] := List.getElem?_eq_getElem (by omega)
    have hy : (ledL l)[i]? = some ((ledL l)[i]'(by rw [ledL_len]; exact hi)) := List.getElem?_eq_getElem (by rw [ledL_len]; exact hi)
    rw [hx] at h1
    rw [hy] at h2
    rw [hx, hy]
    generalize x[i] = a at *
    generalize (ledL l)[i]'(by rw [ledL_len]; exact hi) = b at *
    cases a <;> cases b <;> simp_all
  · rw [List.getElem?_eq_none (by omega), List.getElem?_eq_none (by rw [ledL_len]; omega)]

theorem Rc.lt {l : List Ins} (h : okC l = true) {i : Nat} (hi : Rc (G l) i) : i < l.length := by
  induction hi with
  | zero => exact (okC_parts h).1
  | step _ hj ih => exact G_lt h ih hj

theorem count_new : ∀ {m : List Bool} {j : Nat}, m[j]? = some false → (m.set j true).count false + 1 = m.count false
  | [], j, h => by simp at h
  | a :: m, 0, h => by simp at h; subst h; simp
  | a :: m, j + 1, h => by
    have := count_new (m := m) (j := j) (by simpa using h)
    simp only [List.set_cons_succ, List.count_cons]
    omega
theorem get_set {α : Type} {m : List α} {i j : Nat} {a : α} (h : j < m.length) : (m.set j a)[i]? = if i = j then some a else m[i]? := by
  by_cases e : i = j
  · subst e; simp [h]
  · rw [if_neg e, List.getElem?_set_ne (Ne.symm e)]
theorem bool_at {m : List Bool} {j : Nat} (h : j < m.length) : m[j]? = some true ∨ m[j]? = some false := by
  rw [List.getElem?_eq_getElem h]
  cases m[j] <;> simp

/-! ### all steps -/
structure DI (g : Nat → List Nat) (Eg : Nat → Nat → Prop) (K : Nat → Prop) (met : List Bool) (pend : List Nat) (cur : Option (Nat × Nat)) : Prop where
  m0 : met[0]? = some true
  rc : ∀ i, met[i]? = some true → Rc g i
  pm : ∀ i ∈ pend, met[i]? = some true
  kn : ∀ i, met[i]? = some true → K i
  cl : ∀ i, met[i]? = some true → i ∈ pend ∨ (∀ j ∈ g i, met[j]? = some true ∧ Eg i j) ∨ ∃ k, cur = some (i, k)
  cf : ∀ f k, cur = some (f, k) → met[f]? = some true ∧ ∀ j ∈ (g f).take k, met[j]? = some true ∧ Eg f j

section
variable {g : Nat → List Nat} {Eg Eg' : Nat → Nat → Prop} {K K' : Nat → Prop} {met : List Bool} {pend : List Nat} {cur : Option (Nat × Nat)} {f k j : Nat}

theorem DI.pop (h : DI g Eg K met (pend ++ [f]) none) : DI g Eg K met pend (some (f, 0)) where
  m0 := h.m0
  rc := h.rc
  pm := fun i hi => h.pm i (by simp [hi])
  kn := h.kn
  cl := fun i hi => by
    rcases h.cl i hi with h1 | h1 | ⟨k, h1⟩
    · rcases List.mem_append.1 h1 with h1 | h1
      · exact .inl h1
      · simp at h1; subst h1; exact .inr (.inr ⟨0, rfl⟩)
    · exact .inr (.inl h1)
    · cases h1
  cf := fun f' k' e => by
    cases e
    exact ⟨h.pm f (by simp), by simp⟩

theorem DI.fin (h : DI g Eg K met pend (some (f, (g f).length))) : DI g Eg K met pend none where
  m0 := h.m0
  rc := h.rc
  pm := h.pm
  kn := h.kn
  cl := fun i hi => by
    rcases h.cl i hi with h1 | h1 | ⟨k, h1⟩
    · exact .inl h1
    · exact .inr (.inl h1)
    · cases h1
      have := (h.cf _ _ rfl).2
      rw [List.take_length] at this
      exact .inr (.inl this)
  cf := fun f' k' e => by cases e

theorem take_mem {α : Type} {l : List α} {k : Nat} {j a : α} (hj : l[k]? = some j) (h : a ∈ l.take (k + 1)) : a ∈ l.take k ∨ a = j := by
  obtain ⟨hk, e⟩ := List.getElem?_eq_some_iff.1 hj
  rw [List.take_add_one, hj] at h
  rcases List.mem_append.1 h with h | h
  · exact .inl h
  · simp at h; exact .inr h

theorem DI.old (h : DI g Eg K met pend (some (f, k))) (hj : (g f)[k]? = some j) (hE : ∀ a b, Eg a b → Eg' a b) (hK : ∀ a, K a → K' a) (hEj : Eg' f j) (hm : met[j]? = some true) : DI g Eg' K' met pend (some (f, k + 1)) where
  m0 := h.m0
  rc := h.rc
  pm := h.pm
  kn := fun i hi => hK i (h.kn i hi)
  cl := fun i hi => by
    rcases h.cl i hi with h1 | h1 | ⟨k', h1⟩
    · exact .inl h1
    · exact .inr (.inl fun b hb => ⟨(h1 b hb).1, hE _ _ (h1 b hb).2⟩)
    · cases h1; exact .inr (.inr ⟨_, rfl⟩)
  cf := fun f' k' e => by
    cases e
    refine ⟨(h.cf _ _ rfl).1, fun a ha => ?_⟩
    rcases take_mem hj ha with h1 | rfl
    · have := (h.cf _ _ rfl).2 a h1
      exact ⟨this.1, hE _ _ this.2⟩
    · exact ⟨hm, hEj⟩

theorem DI.new (h : DI g Eg K met pend (some (f, k))) (hj : (g f)[k]? = some j) (hE : ∀ a b, Eg a b → Eg' a b) (hK : ∀ a, K a → K' a) (hEj : Eg' f j) (hKj : K' j) (hm : met[j]? = some false) : DI g Eg' K' (met.set j true) (pend ++ [j]) (some (f, k + 1)) := by
  have hlt : j < met.length := (List.getElem?_eq_some_iff.1 hm).1
  have up : ∀ i, met[i]? = some true → (met.set j true)[i]? = some true := fun i hi => by
    rw [get_set hlt]
    split
    · rfl
    · exact hi
  have dn : ∀ i, (met.set j true)[i]? = some true → i = j ∨ met[i]? = some true := fun i hi => by
    rw [get_set hlt] at hi
    split at hi
    · rename_i e; exact .inl e
    · exact .inr hi
  have hjm : j ∈ g f := List.mem_of_getElem? hj
  have hf := (h.cf _ _ rfl).1
  exact {
    m0 := up 0 h.m0
    rc := fun i hi => (dn i hi).elim (fun e => e ▸ .step (h.rc f hf) hjm) (h.rc i)
    pm := fun i hi => by
      rcases List.mem_append.1 hi with h1 | h1
      · exact up i (h.pm i h1)
      · simp at h1; subst h1; rw [get_set hlt, if_pos rfl]
    kn := fun i hi => (dn i hi).elim (fun e => e ▸ hKj) fun h1 => hK i (h.kn i h1)
    cl := fun i hi => by
      rcases dn i hi with rfl | hi
      · exact .inl (by simp)
      · rcases h.cl i hi with h1 | h1 | ⟨k', h1⟩
        · exact .inl (by simp [h1])
        · exact .inr (.inl fun b hb => ⟨up b (h1 b hb).1, hE _ _ (h1 b hb).2⟩)
        · cases h1; exact .inr (.inr ⟨_, rfl⟩)
    cf := fun f' k' e => by
      cases e
      refine ⟨up _ hf, fun a ha => ?_⟩
      rcases take_mem hj ha with h1 | rfl
      · have := (h.cf _ _ rfl).2 a h1
        exact ⟨up a this.1, hE _ _ this.2⟩
      · exact ⟨by rw [get_set hlt, if_pos rfl], hEj⟩ }

theorem DI.done (h : DI g Eg K met [] none) : ∀ i, Rc g i → met[i]? = some true ∧ K i ∧ ∀ j ∈ g i, Eg i j := by
  have cl : ∀ i, met[i]? = some true → ∀ j ∈ g i, met[j]? = some true ∧ Eg i j := fun i hi => by
    rcases h.cl i hi with h1 | h1 | ⟨k, h1⟩
    · cases h1
    · exact h1
    · cases h1
  have all : ∀ i, Rc g i → met[i]? = some true := fun i hi => by
    induction hi with
    | zero => exact h.m0
    | step _ hj ih => exact (cl _ ih _ hj).1
  exact fun i hi => ⟨all i hi, h.kn i (all i hi), fun j hj => (cl i (all i hi) j hj).2⟩
end

theorem DI.start {g : Nat → List Nat} {Eg : Nat → Nat → Prop} {K : Nat → Prop} {n : Nat} (hn : 0 < n) (hK : K 0) : DI g Eg K ((List.replicate n false).set 0 true) [0] none := by
  have dn : ∀ i, ((List.replicate n false).set 0 true)[i]? = some true → i = 0 := fun i hi => by
    rw [get_set (by simpa using hn)] at hi
    split at hi
    · assumption
    · rw [List.getElem?_replicate] at hi
      split at hi <;> simp at hi
  have m0 : ((List.replicate n false).set 0 true)[0]? = some true := by rw [get_set (by simpa using hn), if_pos rfl]
  exact {
    m0 := m0
    rc := fun i hi => by rw [dn i hi]; exact .zero
    pm := fun i hi => by simp at hi; subst hi; exact m0
    kn := fun i hi => by rw [dn i hi]; exact hK
    cl := fun i hi => .inl (by rw [dn i hi]; simp)
    cf := fun f k e => by cases e }

/-! ### the stack of what is to come, as the program has it -/
theorem ints_len (p : List Nat) : (ints p).length = p.length := by simp [ints]
theorem ints_snoc (p : List Nat) (f : Nat) : ints (p ++ [f]) = ints p ++ [(f : Int)] := by simp [ints]
theorem ints_at {p : List Nat} {k j : Nat} (h : p[k]? = some j) : (ints p)[k]? = some (j : Int) := by simp [ints, h]
theorem stack_last (p : List Nat) (f : Nat) (hp : p.length ≤ 1000000) : IntKind.i64.wrap ((List.length (ints (p ++ [f])) : Int) - 1) = (p.length : Int) ∧ nth (ints (p ++ [f])) (Int.toNat (p.length : Int)) = some (f : Int) ∧ List.take (Int.toNat (p.length : Int)) (ints (p ++ [f])) = ints p := by
  refine ⟨?_, ?_, ?_⟩
  · have hl : (ints (p ++ [f])).length = p.length + 1 := by rw [ints_len]; simp
    rw [hl, w64 (by omega) (by omega)]
    omega
  · rw [nth_get, ints_snoc, Int.toNat_natCast, ← ints_len p]
    simp
  · rw [ints_snoc, Int.toNat_natCast, ← ints_len p]
    simp

theorem nth_at {α : Type} {xs : List α} {i : Nat} {x : α} (h : xs[i]? = some x) : nth xs (Int.toNat (i : Int)) = some x := by rw [nth_get, Int.toNat_natCast]; exact h

/-! ### led -/
def μ2 (met : List Bool) (p : List Nat) : Nat := 2 * met.count false + p.length

theorem b_true {n : Nat} : (Nat.ble 1 1 && Nat.ble (n + List.length ([0] : List Int)) lim) = Nat.ble (n + 1) lim := by simp [b11]

theorem led_eq {l : List Ins} (h : okC l = true) : cflow_led l = some (ledL l) := by
  obtain ⟨h1, h2, _, _⟩ := okC_parts h
  show nflow_led (fun _ => List.replicate) (iterV (gflow_led_0 (fun _ => List.replicate) big) big) l = _
  unfold nflow_led
  have hmk : (decide ((0 : Int) ≤ (l.length : Int)) && (decide ((l.length : Int) ≤ (l.length : Int)) && (decide ((l.length : Int) ≤ 68719476736) && true))) = true := by simp; omega
  have hz : (decide ((0 : Int) ≤ 0) && decide ((0 : Int) < (List.length (List.replicate l.length false) : Int))) = true := by simp; omega
  simp only [hmk, hz, cond_true, Int.toNat_natCast, Int.toNat_zero]
  refine while_post (g := gflow_led_0 (fun _ => List.replicate) big)
    (fun v => ∃ leads met p, v = (leads, l, met, ints p) ∧ leads.length = l.length ∧ met.length = l.length ∧ DI (G l) (fun _ j => leads[j]? = some true) (fun _ => True) met p none ∧ leads[0]? = some true ∧ (∀ i, leads[i]? = some true → Rc (G l) i) ∧ μ2 met p ≤ 401)
    (fun v => 2 * v.2.2.1.count false + v.2.2.2.length) (fun r => r = some (ledL l)) ?_ big _ ?_ ?_
  · rintro self v ⟨leads, met, p, rfl, hl, hm, hd, hl0, hlr, hμ⟩ ih
    show hflow_led_0 (fun _ => List.replicate) (iterV (gflow_led_1 (fun _ => List.replicate) big self) big) self (leads, l, met, ints p) = _
    unfold hflow_led_0
    dsimp only
    rcases List.eq_nil_or_concat p with rfl | ⟨p, f, rfl⟩
    · have hdone := hd.done
      simp only [ints, List.map_nil, List.length_nil]
      rw [show decide (((0 : Nat) : Int) > 0) = false from rfl, cond_false]
      congr 1
      refine ledL_of hl fun i hi => ⟨hlr i, fun hr => ?_⟩
      cases hr with
      | zero => exact hl0
      | step hi' hj => exact (hdone _ hi').2.2 _ hj
    · have hp : p.length ≤ 1000 := by simp [μ2] at hμ; omega
      simp only [List.concat_eq_append] at hd hμ ih ⊢
      obtain ⟨e1, e2, e3⟩ := stack_last p f (by omega)
      have hf : f < l.length := (hd.rc f (hd.pm f (by simp))).lt h
      rw [e1]
      rw [decide_eq_true (show (List.length (ints (p ++ [f])) : Int) > 0 by rw [ints_len, List.length_append]; simp only [List.length_cons, List.length_nil]; omega), cond_true]
      rw [show (decide ((0 : Int) ≤ (p.length : Int)) && decide ((p.length : Int) < (List.length (ints (p ++ [f])) : Int))) = true by rw [ints_len]; simp; omega, cond_true]
      rw [e2, Option.bind_some]
      rw [show (decide ((0 : Int) ≤ (p.length : Int)) && decide ((p.length : Int) ≤ (List.length (ints (p ++ [f])) : Int))) = true by rw [ints_len]; simp; omega, cond_true]
      rw [behind_eq h hf, Option.bind_some, e3]
      have hs : (G l f).length ≤ 2 := by
        unfold G
        split
        · unfold bh; split <;> (try split) <;> (try split) <;> simp
        · simp
      rw [ints_len]
      refine range_post (σ := List Bool × List Bool × List Nat) (g := gflow_led_1 (fun _ => List.replicate) big self) (n := (G l f).length) (fun s k => ((f : Int), ints (G l f), ((G l f).length : Int), (k : Int), s.1, l, s.2.1, ints s.2.2))
        (fun k s => s.1.length = l.length ∧ s.2.1.length = l.length ∧ DI (G l) (fun _ j => s.1[j]? = some true) (fun _ => True) s.2.1 s.2.2 (some (f, k)) ∧ s.1[0]? = some true ∧ (∀ i, s.1[i]? = some true → Rc (G l) i) ∧ μ2 s.2.1 s.2.2 + 1 ≤ μ2 met (p ++ [f]))
        (fun r => r = some (ledL l)) ?_ ?_ (G l f).length 0 big (by simp) (big_gt (by have := maxLen_ge; omega)) (leads, met, p) ⟨hl, hm, hd.pop, hl0, hlr, by simp [μ2]; omega⟩
      · rintro self1 ⟨ld, mt, q⟩ ⟨g1, g2, g3, g4, g5, g6⟩
        show hflow_led_1 (fun _ => List.replicate) self self1 _ = _
        unfold hflow_led_1
        dsimp only at g1 g2 g3 g4 g5 g6 ⊢
        rw [decide_eq_false (by omega), cond_false]
        refine ih _ ⟨ld, mt, q, rfl, g1, g2, g3.fin, g4, g5, by omega⟩ ?_
        show 2 * mt.count false + (ints q).length < 2 * met.count false + (ints (p ++ [f])).length
        rw [ints_len, ints_len]
        unfold μ2 at g6
        omega
      · rintro self1 ⟨ld, mt, q⟩ k hk ⟨g1, g2, g3, g4, g5, g6⟩
        dsimp only at g1 g2 g3 g4 g5 g6 ⊢
        left
        have hj : (G l f)[k]? = some (G l f)[k] := List.getElem?_eq_getElem hk
        have hjm : (G l f)[k] ∈ G l f := List.getElem_mem hk
        have hjl := G_lt h hf hjm
        have hjr : Rc (G l) (G l f)[k] := .step (hd.rc f (hd.pm f (by simp))) hjm
        generalize (G l f)[k] = j at *
        have hset : (ld.set j true)[0]? = some true ∧ (∀ i, (ld.set j true)[i]? = some true → Rc (G l) i) ∧ (∀ a b : Nat, (fun (_ : Nat) (j : Nat) => ld[j]? = some true) a b → (fun (_ : Nat) (b : Nat) => (ld.set j true)[b]? = some true) a b) ∧ (ld.set j true)[j]? = some true := by
          refine ⟨?_, fun i hi => ?_, fun a b hb => ?_, ?_⟩
          · rw [get_set (by omega)]; split; rfl; exact g4
          · rw [get_set (by omega)] at hi; split at hi
            · rename_i e; rw [e]; exact hjr
            · exact g5 i hi
          · show (ld.set j true)[b]? = some true
            rw [get_set (by omega)]; split; rfl; exact hb
          · rw [get_set (by omega), if_pos rfl]
        obtain ⟨s1, s2, s3, s4⟩ := hset
        show ∃ s' : List Bool × List Bool × List Nat, _ ∧ hflow_led_1 (fun _ => List.replicate) self self1 ((f : Int), ints (G l f), ((G l f).length : Int), (k : Int), ld, l, mt, ints q) = _
        unfold hflow_led_1
        dsimp only
        rw [decide_eq_true (show (k : Int) < ((G l f).length : Int) by omega), cond_true, getI_lt (ints_at hj), Option.bind_some]
        rw [show (decide ((0 : Int) ≤ (j : Int)) && decide ((j : Int) < (ld.length : Int))) = true by simp; omega, show (decide ((0 : Int) ≤ (j : Int)) && decide ((j : Int) < (mt.length : Int))) = true by simp; omega]
        simp only [cond_true, Int.toNat_natCast]
        rw [w64 (z := (k : Int) + 1) (by omega) (by omega), nth_get]
        rcases bool_at (m := mt) (j := j) (by omega) with hb | hb
        · refine ⟨(ld.set j true, mt, q), ⟨by simp [g1], g2, g3.old hj s3 (fun _ h => h) s4 hb, s1, s2, g6⟩, ?_⟩
          rw [hb]
          rfl
        · have hc := count_new hb
          refine ⟨(ld.set j true, mt.set j true, q ++ [j]), ⟨by simp [g1], by simp [g2], g3.new hj s3 (fun _ h => h) s4 trivial hb, s1, s2, ?_⟩, ?_⟩
          · simp only [μ2, List.length_append, List.length_cons, List.length_nil] at g6 ⊢
            omega
          · rw [hb]
            have hq : q.length ≤ 1000 := by simp only [μ2] at g6 hμ; omega
            have hlim : (Nat.ble 1 1 && Nat.ble (List.length (ints q) + List.length ([(j : Int)] : List Int)) lim) = true := by
              rw [b11, ble_lim (by rw [ints_len]; simp; omega)]; rfl
            simp only [Option.bind_some, Bool.not_false, cond_true, hlim]
            rw [ints_snoc]
            rfl
  · refine ⟨_, _, [0], rfl, by simp, by simp, DI.start h1 trivial, ?_, fun i hi => ?_, ?_⟩
    · rw [get_set (by simp; omega), if_pos rfl]
    · rw [get_set (by simp; omega)] at hi
      split at hi
      · rename_i e; rw [e]; exact .zero
      · rw [List.getElem?_replicate] at hi
        split at hi <;> simp at hi
    · have := count_new (m := List.replicate l.length false) (j := 0) (by rw [List.getElem?_replicate, if_pos (by omega)])
      rw [List.count_replicate_self] at this
      simp only [μ2, List.length_cons, List.length_nil]
      omega
  · have := count_new (m := List.replicate l.length false) (j := 0) (by rw [List.getElem?_replicate, if_pos (by omega)])
    rw [List.count_replicate_self] at this
    refine big_gt ?_
    have := maxLen_ge
    show 2 * ((List.replicate l.length false).set 0 true).count false + 1 ≤ maxLen
    omega
end Go.Proofs.YtkklpkkhepcaiaaDoor
