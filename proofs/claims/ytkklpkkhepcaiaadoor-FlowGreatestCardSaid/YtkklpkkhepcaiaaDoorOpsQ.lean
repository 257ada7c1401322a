/- What later layers need of package ops: Check, Slots, and the same of the reference. -/
import Derived.Test.YtkklpkkhepcaiaaDoorOpsR
import Derived.Test.YtkklpkkhepcaiaaDoorBase
set_option linter.unusedVariables false
set_option linter.unusedSimpArgs false
set_option maxRecDepth 100000
namespace Go.Proofs.YtkklpkkhepcaiaaDoor
open Go.Lift
theorem b11 : Nat.ble 1 1 = true := rfl
theorem ble_lim {n : Nat} (h : n ≤ 68719476736) : Nat.ble n lim = true := Nat.ble_eq_true_of_le h
abbrev Cur := List Int × Int × Unit
def Valid (c : Cur) : Prop := c.1.length ≤ 200000 ∧ 0 ≤ c.2.1 ∧ c.2.1 ≤ c.1.length
instance (c : Cur) : Decidable (Valid c) := by unfold Valid; infer_instance
theorem rSameInts_eq (a b : List Int) (h : a.length ≤ 1000) : cref04_SameInts (a, b) = some (decide (a = b)) := by
  show nref04_SameInts (iterV (gref04_SameInts_0 big) big) _ = _
  unfold nref04_SameInts
  dsimp only
  by_cases hl : a.length = b.length
  · rw [show ((a.length : Int) != (b.length : Int)) = false by rw [hl]; simp, cond_false]
    refine range_post (g := gref04_SameInts_0 big) (n := a.length) (fun (_ : Unit) (i : Nat) => (a, b, (i : Int))) (fun i _ => a.take i = b.take i) (fun r => r = some (decide (a = b))) ?_ ?_
      a.length 0 big (by simp) (by unfold big; omega) () (by simp)
    · intro self s h
      rw [List.take_length, List.take_of_length_le (by omega)] at h
      show href04_SameInts_0 self _ = _
      unfold href04_SameInts_0
      dsimp only
      rw [decide_eq_false (by omega), cond_false, decide_eq_true h]
    · intro self s i hi h
      have hi' : i < b.length := by omega
      have hst : gref04_SameInts_0 big self (a, b, (i : Int)) = bif (a[i] != b[i]) then some false else self (a, b, ((i + 1 : Nat) : Int)) := by
        show href04_SameInts_0 self _ = _
        unfold href04_SameInts_0
        dsimp only
        rw [decide_eq_true (by omega), cond_true, getI_at hi, Option.bind_some, getI_at hi', Option.bind_some, wrap_succ hi (by have := maxLen_ge; omega)]
      by_cases e : a[i] = b[i]
      · left
        refine ⟨(), ?_, by rw [hst, show (a[i] != b[i]) = false by rw [e]; simp]; rfl⟩
        rw [List.take_succ_eq_append_getElem hi, List.take_succ_eq_append_getElem hi', h, e]
      · right
        rw [hst, show (a[i] != b[i]) = true by simpa using e, cond_true]
        congr 1
        symm
        apply decide_eq_false
        intro hh
        subst hh
        exact e rfl
  · rw [show ((a.length : Int) != (b.length : Int)) = true by simp; omega, cond_true, decide_eq_false (fun e => hl (by rw [e]))]
abbrev Ins := Int × Int × Int × Int × Unit
theorem big_4 : big = (big - 4) + 4 := by decide
theorem w01 : IntKind.i64.wrap ((0 : Int) + 1) = 1 := by decide
theorem w12 : IntKind.i64.wrap ((1 : Int) + 1) = 2 := by decide
theorem w23 : IntKind.i64.wrap ((2 : Int) + 1) = 3 := by decide
theorem getI_0 {α : Type} (a : α) (l : List α) : getI (a :: l) 0 = some a := rfl
theorem getI_1 {α : Type} (a b : α) (l : List α) : getI (a :: b :: l) 1 = some b := rfl
theorem getI_2 {α : Type} (a b c : α) (l : List α) : getI (a :: b :: c :: l) 2 = some c := rfl
theorem beqd (a b : Int) : (a == b) = decide (a = b) := rfl
def isOp (o : Int) : Bool := decide (1 ≤ o) && decide (o ≤ 34)
theorem isOperation_eq (o : Int) : cops_isOperation o = some (isOp o) := by
  simp only [cops_isOperation, mops_isOperation, nops_isOperation, isOp]
  by_cases h : (1 : Int) ≤ o <;> simp [h]
def opRow (k : Nat) : List Int × List Int × Unit := gl0.getD k ([], [], ())
def rol (o : Int) : List Int := (opRow o.toNat).2.1
def nam (o : Int) : List Int := (opRow o.toNat).1
theorem op_nat {o : Int} (h : isOp o = true) : ∃ k : Nat, o = (k : Int) ∧ 1 ≤ k ∧ k ≤ 34 := by
  simp only [isOp, Bool.and_eq_true, decide_eq_true_eq] at h
  exact ⟨o.toNat, by omega, by omega, by omega⟩
theorem ops_len : List.length gl0 = 35 := by decide +kernel
theorem ops_at {o : Int} (h : isOp o = true) : getI gl0 o = some (nam o, rol o, ()) := by
  obtain ⟨k, rfl, h1, h2⟩ := op_nat h
  rw [getI_nat, getD_at (by rw [ops_len]; omega) ([], [], ())]
  rfl
/-- what an operand is -/
def Rl (r : Int) : Prop := 0 ≤ r ∧ r ≤ 10
instance (r : Int) : Decidable (Rl r) := by unfold Rl; infer_instance
def three (l : List Int) : Bool := match l with | [a, b, c] => decide (Rl a) && decide (Rl b) && decide (Rl c) | _ => false
theorem three_all : ((List.range 35).all fun k => three (opRow k).2.1) = true := by decide +kernel
theorem rol_three {o : Int} (h : isOp o = true) : ∃ a b c, rol o = [a, b, c] ∧ Rl a ∧ Rl b ∧ Rl c := by
  obtain ⟨k, rfl, h1, h2⟩ := op_nat h
  have := List.all_eq_true.1 three_all k (List.mem_range.2 (by omega))
  unfold rol
  rw [Int.toNat_natCast]
  unfold three at this
  split at this
  · rename_i a b c e
    simp only [Bool.and_eq_true, decide_eq_true_eq] at this
    exact ⟨a, b, c, e, this.1.1, this.1.2, this.2⟩
  · cases this
theorem rl_cases {r : Int} (h : Rl r) : r = 0 ∨ r = 1 ∨ r = 2 ∨ r = 3 ∨ r = 4 ∨ r = 5 ∨ r = 6 ∨ r = 7 ∨ r = 8 ∨ r = 9 ∨ r = 10 := by
  unfold Rl at h; omega
def idx (n k : Int) : Bool := decide (0 ≤ n) && decide (n < k)
theorem isIndex_eq (n k : Int) : cops_isIndex (n, k) = some (idx n k) := by
  simp only [cops_isIndex, mops_isIndex, nops_isIndex, idx]
  by_cases h : (0 : Int) ≤ n <;> simp [h]
def fit (r n : Int) : Bool :=
  if r = 5 then true else if r = 3 ∨ r = 4 then decide (n = -1) || idx n 16 else if r = 1 ∨ r = 2 then idx n 16 else if r = 6 then idx n 2 else if r = 7 ∨ r = 9 then idx n 32 else if r = 8 then idx n 8 else if r = 10 then idx n 200 else decide (n = 0)
theorem fits_eq (r n : Int) (h : Rl r) : cops_fits (r, n) = some (fit r n) := by
  rcases rl_cases h with rfl | rfl | rfl | rfl | rfl | rfl | rfl | rfl | rfl | rfl | rfl <;>
    by_cases hn : n = -1 <;> simp [cops_fits, mops_fits, nops_fits, isIndex_eq, fit, beqd, hn]
def fitL : List Int → List Int → Bool
  | r :: rs, n :: ns => fit r n && fitL rs ns
  | _, _ => true
def vals (x : Ins) : List Int := [x.2.1, x.2.2.1, x.2.2.2.1]
def okI (x : Ins) : Bool := isOp x.1 && fitL (rol x.1) (vals x)
theorem operands_eq (x : Ins) : cops_operands x = some (vals x) := rfl
theorem chk_step (N : Nat) (self0) {rs ns : List Int} {i r n : Int} (h0 : 0 ≤ i) (h3 : i < 3) (hr : getI rs i = some r) (hn : nth ns i.toNat = some n) (hl : Rl r) :
    gops_Check_0 N self0 (rs, i, ns) = if fit r n then self0 (rs, IntKind.i64.wrap (i + 1), ns) else some 8 := by
  show hops_Check_0 self0 _ = _
  unfold hops_Check_0
  dsimp only
  rw [decide_eq_true h3, decide_eq_true h0, cond_true, hr]
  simp only [Option.bind_some, Bool.and_self, cond_true, hn, fits_eq r n hl]
  cases fit r n <;> rfl
theorem Check_eq (x : Ins) : cops_Check x = some (if okI x then 0 else 8) := by
  show nops_Check (iterV (gops_Check_0 big) big) x = _
  unfold nops_Check
  rw [isOperation_eq, Option.bind_some, operands_eq, Option.bind_some]
  cases h : isOp x.1 with
  | false => simp [okI, h]
  | true =>
    obtain ⟨a, b, c, e, ha, hb, hc⟩ := rol_three h
    rw [ops_at h]
    simp only [Option.bind_some, Bool.not_true, cond_false, e]
    rw [big_4, iterV_succ, chk_step _ _ (by decide) (by decide) (getI_0 _ _) rfl ha, w01]
    simp only [okI, h, e, fitL, vals, Bool.true_and, Bool.and_true]
    cases fit a x.2.1 with
    | false => rfl
    | true =>
      rw [if_pos rfl, iterV_succ, chk_step _ _ (by decide) (by decide) (getI_1 _ _ _) rfl hb, w12]
      cases fit b x.2.2.1 with
      | false => rfl
      | true =>
        rw [if_pos rfl, iterV_succ, chk_step _ _ (by decide) (by decide) (getI_2 _ _ _ _) rfl hc, w23]
        cases fit c x.2.2.2.1 with
        | false => rfl
        | true => rfl
theorem okI_three {x : Ins} (h : okI x = true) : ∃ a b c, isOp x.1 = true ∧ rol x.1 = [a, b, c] ∧ Rl a ∧ Rl b ∧ Rl c ∧ fit a x.2.1 = true ∧ fit b x.2.2.1 = true ∧ fit c x.2.2.2.1 = true := by
  simp only [okI, Bool.and_eq_true] at h
  obtain ⟨a, b, c, e, ha, hb, hc⟩ := rol_three h.1
  have h2 := h.2
  simp only [e, vals, fitL, Bool.and_eq_true, Bool.and_true] at h2
  exact ⟨a, b, c, h.1, e, ha, hb, hc, h2.1, h2.2.1, h2.2.2⟩
def rs1 (r n : Int) : List Int := if (r = 1 ∨ r = 3) ∧ n ≠ -1 then [n] else []
def ws1 (r n : Int) : List Int := if (r = 2 ∨ r = 4) ∧ n ≠ -1 then [n] else []
def rsL : List Int → List Int → List Int
  | r :: rs, n :: ns => rs1 r n ++ rsL rs ns
  | _, _ => []
def wsL : List Int → List Int → List Int
  | r :: rs, n :: ns => ws1 r n ++ wsL rs ns
  | _, _ => []
theorem rs1_len (r n : Int) : (rs1 r n).length + (ws1 r n).length ≤ 1 := by
  unfold rs1 ws1
  split <;> split <;> simp <;> omega
theorem slots_step (N : Nat) (self0) {rs R W ns : List Int} {i r n : Int} (h0 : 0 ≤ i) (h3 : i < 3) (hr : getI rs i = some r) (hn : nth ns i.toNat = some n) (hl : Rl r) (hR : R.length ≤ 100) (hW : W.length ≤ 100) :
    gops_Slots_0 N self0 (rs, i, R, W, ns) = self0 (rs, IntKind.i64.wrap (i + 1), R ++ rs1 r n, W ++ ws1 r n, ns) := by
  show hops_Slots_0 self0 _ = _
  unfold hops_Slots_0
  dsimp only
  rw [decide_eq_true h3, decide_eq_true h0, cond_true, hr]
  have c1 : (Nat.ble 1 1 && Nat.ble (R.length + List.length ([n] : List Int)) lim) = true := by rw [b11, ble_lim (by simp; omega)]; rfl
  have c2 : (Nat.ble 1 1 && Nat.ble (W.length + List.length ([n] : List Int)) lim) = true := by rw [b11, ble_lim (by simp; omega)]; rfl
  simp only [Option.bind_some, Bool.and_self, cond_true, hn, c1, c2]
  rcases rl_cases hl with rfl | rfl | rfl | rfl | rfl | rfl | rfl | rfl | rfl | rfl | rfl <;> by_cases hn1 : n = -1 <;> simp [rs1, ws1, hn1, beqd]
theorem Slots_eq (x : Ins) : cops_Slots x = some (if okI x then (rsL (rol x.1) (vals x), wsL (rol x.1) (vals x), 0) else ([], [], 8)) := by
  show nops_Slots (iterV (gops_Slots_0 big) big) x = _
  unfold nops_Slots
  rw [Check_eq, Option.bind_some, operands_eq, Option.bind_some]
  cases h : okI x with
  | false => rfl
  | true =>
    obtain ⟨a, b, c, ho, e, ha, hb, hc, fa, fb, fc⟩ := okI_three h
    rw [ops_at ho]
    simp only [Option.bind_some, if_true, e]
    have l1 := rs1_len a x.2.1
    have l2 := rs1_len b x.2.2.1
    show (bif (0 : Int) != 0 then _ else _) = _
    rw [show ((0 : Int) != 0) = false from rfl, cond_false]
    rw [big_4, iterV_succ, slots_step _ _ (by decide) (by decide) (getI_0 _ _) rfl ha (by simp) (by simp), w01]
    rw [iterV_succ, slots_step _ _ (by decide) (by decide) (getI_1 _ _ _) rfl hb (by simp only [List.length_append, List.length_nil]; omega) (by simp only [List.length_append, List.length_nil]; omega), w12]
    rw [iterV_succ, slots_step _ _ (by decide) (by decide) (getI_2 _ _ _ _) rfl hc (by simp only [List.length_append, List.length_nil]; omega) (by simp only [List.length_append, List.length_nil]; omega), w23]
    show some (_, _, (0 : Int)) = _
    simp [vals, rsL, wsL]
def ltr (r : Int) : Int := ([45, 114, 119, 101, 103, 110, 98, 116, 102, 99, 105] : List Int).getD r.toNat 0
theorem shape_all : ((List.range 256).all fun k => decide (cref06_Shape (k : Int) = some (if isOp k then (rol k).map ltr else []))) = true := by decide +kernel
theorem Shape_eq {o : Int} (h0 : 0 ≤ o) (h1 : o ≤ 255) : cref06_Shape o = some (if isOp o then (rol o).map ltr else []) := by
  obtain ⟨k, rfl⟩ := Int.eq_ofNat_of_zero_le h0
  simpa using List.all_eq_true.1 shape_all k (List.mem_range.2 (by omega))
theorem rFits_eq (r n : Int) (h : Rl r) : cref06_Fits (ltr r, n) = some (fit r n) := by
  rcases rl_cases h with rfl | rfl | rfl | rfl | rfl | rfl | rfl | rfl | rfl | rfl | rfl <;>
    simp [cref06_Fits, mref06_Fits, nref06_Fits, ltr, fit, idx, beqd]
  · by_cases h0 : 0 ≤ n <;> simp [h0]
  · by_cases h0 : 0 ≤ n <;> simp [h0]
  · by_cases h0 : n = -1
    · simp [h0]
    · by_cases h1 : 0 ≤ n
      · simp [h0, h1, show -1 ≤ n by omega]
      · simp [h0, h1, show ¬ -1 ≤ n by omega]
  · by_cases h0 : n = -1
    · simp [h0]
    · by_cases h1 : 0 ≤ n
      · simp [h0, h1, show -1 ≤ n by omega]
      · simp [h0, h1, show ¬ -1 ≤ n by omega]
  · by_cases h0 : 0 ≤ n <;> simp [h0]
  · by_cases h0 : 0 ≤ n <;> simp [h0]
  · by_cases h0 : 0 ≤ n <;> simp [h0]
  · by_cases h0 : 0 ≤ n <;> simp [h0]
  · by_cases h0 : 0 ≤ n <;> simp [h0]
theorem ltr_0 (r : Int) (h : Rl r) : (ltr r == (45 : Int)) = decide (r = 0) := by
  rcases rl_cases h with rfl | rfl | rfl | rfl | rfl | rfl | rfl | rfl | rfl | rfl | rfl <;> rfl
theorem rol_rl {o : Int} (h : isOp o = true) : (rol o).length = 3 ∧ ∀ x ∈ rol o, Rl x := by
  obtain ⟨p, q', r, e3, hp, hq, hr⟩ := rol_three h
  rw [e3]
  refine ⟨rfl, ?_⟩
  intro x hx
  simp at hx
  rcases hx with rfl | rfl | rfl <;> assumption
theorem rs1_mem {r n v : Int} (h : v ∈ rs1 r n) : v = n ∧ (r = 1 ∨ r = 3) ∧ n ≠ -1 := by
  unfold rs1 at h
  split at h
  · rename_i g; simp at h; exact ⟨h, g⟩
  · simp at h
theorem ws1_mem {r n v : Int} (h : v ∈ ws1 r n) : v = n ∧ (r = 2 ∨ r = 4) ∧ n ≠ -1 := by
  unfold ws1 at h
  split at h
  · rename_i g; simp at h; exact ⟨h, g⟩
  · simp at h
theorem slot_range {r n : Int} (h : fit r n = true) (hr : r = 1 ∨ r = 3 ∨ r = 2 ∨ r = 4) (hn : n ≠ -1) : 0 ≤ n ∧ n ≤ 15 := by
  rcases hr with rfl | rfl | rfl | rfl <;> simp [fit, idx, hn] at h <;> omega
theorem two_all : ((List.range 35).all fun k => match (opRow k).2.1 with | [a, b, c] => !((a == 2 || a == 4) && (b == 2 || b == 4) && (c == 2 || c == 4)) | _ => true) = true := by decide +kernel
theorem slots_len {x : Ins} (h : okI x = true) : (rsL (rol x.1) (vals x)).length + (wsL (rol x.1) (vals x)).length ≤ 3 ∧ (wsL (rol x.1) (vals x)).length ≤ 2 ∧
    ∀ v ∈ rsL (rol x.1) (vals x) ++ wsL (rol x.1) (vals x), 0 ≤ v ∧ v ≤ 15 ∧ (v = x.2.1 ∨ v = x.2.2.1 ∨ v = x.2.2.2.1) := by
  obtain ⟨a, b, c, ho, e, ha, hb, hc, fa, fb, fc⟩ := okI_three h
  have l1 := rs1_len a x.2.1
  have l2 := rs1_len b x.2.2.1
  have l3 := rs1_len c x.2.2.2.1
  refine ⟨?_, ?_, ?_⟩
  · simp only [e, vals, rsL, wsL, List.append_nil, List.length_append]
    omega
  · simp only [e, vals, rsL, wsL, List.append_nil, List.length_append]
    obtain ⟨k, hk, h1, h2⟩ := op_nat ho
    have h3 := List.all_eq_true.1 two_all k (List.mem_range.2 (by omega))
    have e' : (opRow k).2.1 = [a, b, c] := by rw [← e, hk]; rfl
    rw [e'] at h3
    have hz : ∀ r n : Int, ¬ (r = 2 ∨ r = 4) → (ws1 r n).length = 0 := fun r n h => by unfold ws1; rw [if_neg (fun g => h g.1)]; rfl
    have q1 : (ws1 a x.2.1).length ≤ 1 := by omega
    have q2 : (ws1 b x.2.2.1).length ≤ 1 := by omega
    have q3 : (ws1 c x.2.2.2.1).length ≤ 1 := by omega
    by_cases g1 : a = 2 ∨ a = 4
    · by_cases g2 : b = 2 ∨ b = 4
      · by_cases g3 : c = 2 ∨ c = 4
        · exfalso
          have : (a == 2 || a == 4) = true := by simpa [beqd] using g1
          have t2 : (b == 2 || b == 4) = true := by simpa [beqd] using g2
          have t3 : (c == 2 || c == 4) = true := by simpa [beqd] using g3
          simp [this, t2, t3] at h3
        · have := hz c x.2.2.2.1 g3; omega
      · have := hz b x.2.2.1 g2; omega
    · have := hz a x.2.1 g1; omega
  · intro v hv
    simp only [e, vals, rsL, wsL, List.append_nil, List.mem_append] at hv
    rcases hv with (hv | hv | hv) | hv | hv | hv
    · obtain ⟨rfl, h1, h2⟩ := rs1_mem hv
      have := slot_range fa (by omega) h2
      exact ⟨this.1, this.2, .inl rfl⟩
    · obtain ⟨rfl, h1, h2⟩ := rs1_mem hv
      have := slot_range fb (by omega) h2
      exact ⟨this.1, this.2, .inr (.inl rfl)⟩
    · obtain ⟨rfl, h1, h2⟩ := rs1_mem hv
      have := slot_range fc (by omega) h2
      exact ⟨this.1, this.2, .inr (.inr rfl)⟩
    · obtain ⟨rfl, h1, h2⟩ := ws1_mem hv
      have := slot_range fa (by omega) h2
      exact ⟨this.1, this.2, .inl rfl⟩
    · obtain ⟨rfl, h1, h2⟩ := ws1_mem hv
      have := slot_range fb (by omega) h2
      exact ⟨this.1, this.2, .inr (.inl rfl)⟩
    · obtain ⟨rfl, h1, h2⟩ := ws1_mem hv
      have := slot_range fc (by omega) h2
      exact ⟨this.1, this.2, .inr (.inr rfl)⟩
theorem op_cases {o : Int} (h : isOp o = true) : ∃ k : Nat, k < 34 ∧ o = (k : Int) + 1 := by
  obtain ⟨k, rfl, h1, h2⟩ := op_nat h
  exact ⟨k - 1, by omega, by omega⟩
end Go.Proofs.YtkklpkkhepcaiaaDoor
