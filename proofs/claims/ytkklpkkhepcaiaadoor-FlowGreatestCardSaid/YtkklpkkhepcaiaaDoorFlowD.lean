/- The reference's Led; Reached and Next of both; comparisons. -/
import Derived.Test.YtkklpkkhepcaiaaDoorFlowC
set_option linter.unusedVariables false
set_option linter.unusedSimpArgs false
set_option maxRecDepth 100000
namespace Go.Proofs.YtkklpkkhepcaiaaDoor
open Go.Lift

theorem G_len (l : List Ins) (i : Nat) : (G l i).length ≤ 2 := by
  unfold G
  split
  · unfold bh; split <;> (try split) <;> (try split) <;> simp
  · simp

theorem mk_ok {n : Nat} (h : n ≤ 68719476736) : (decide ((0 : Int) ≤ (n : Int)) && (decide ((n : Int) ≤ (n : Int)) && (decide ((n : Int) ≤ 68719476736) && true))) = true := by simp; omega
theorem start_lt {n : Nat} {a : Bool} (hn : 1 ≤ n) : (decide ((0 : Int) ≤ 0) && decide ((0 : Int) < (List.length (List.replicate n a) : Int))) = true := by simp; omega
theorem in_r {i n : Nat} (h : i < n) : (decide ((0 : Int) ≤ (i : Int)) && decide ((i : Int) < (n : Int))) = true := by simp; omega
theorem start_count (n : Nat) (h : 1 ≤ n) : ((List.replicate n false).set 0 true).count false + 1 = n := by
  have := count_new (m := List.replicate n false) (j := 0) (by rw [List.getElem?_replicate, if_pos (by omega)])
  rwa [List.count_replicate_self] at this
theorem start_at {n i : Nat} (h : 1 ≤ n) (hi : ((List.replicate n false).set 0 true)[i]? = some true) : i = 0 := by
  rw [get_set (by simp; omega)] at hi
  split at hi
  · assumption
  · rw [List.getElem?_replicate] at hi
    split at hi <;> simp at hi

theorem Led_eq {l : List Ins} (h : okC l = true) : cref07_Led l = some (ledL l) := by
  obtain ⟨h1, h2, _, _⟩ := okC_parts h
  show nref07_Led (fun _ => List.replicate) (iterV (gref07_Led_0 (fun _ => List.replicate) big) big) l = _
  unfold nref07_Led
  simp only [mk_ok (show l.length ≤ 68719476736 by omega), start_lt h1, cond_true, Int.toNat_natCast, Int.toNat_zero]
  refine while_post (g := gref07_Led_0 (fun _ => List.replicate) big)
    (fun v => ∃ ch inn, v = (l, ch, inn) ∧ inn.length = l.length ∧ inn[0]? = some true ∧ (∀ i, inn[i]? = some true → Rc (G l) i) ∧ (ch = false → ∀ a b, inn[a]? = some true → b ∈ G l a → inn[b]? = some true))
    (fun v => 2 * v.2.2.count false + (if v.2.1 then 1 else 0)) (fun r => r = some (ledL l)) ?_ big _ ?_ ?_
  · rintro self v ⟨ch, inn, rfl, hl, hz, hr, hc⟩ ih
    show href07_Led_0 (fun _ => List.replicate) (iterV (gref07_Led_1 (fun _ => List.replicate) big self) big) self (l, ch, inn) = _
    unfold href07_Led_0
    dsimp only
    cases ch with
    | false =>
      rw [cond_false]
      congr 1
      refine ledL_of hl fun i hi => ⟨hr i, fun hri => ?_⟩
      induction hri with
      | zero => exact hz
      | step hi' hj ih' => exact hc rfl _ _ (ih' (hi'.lt h)) hj
    | true =>
      rw [cond_true]
      refine range_post (σ := Bool × List Bool) (g := gref07_Led_1 (fun _ => List.replicate) big self) (n := l.length) (fun s i => (l, s.1, (i : Int), s.2))
        (fun i s => s.2.length = l.length ∧ s.2[0]? = some true ∧ (∀ i, s.2[i]? = some true → Rc (G l) i) ∧ s.2.count false ≤ inn.count false ∧ (s.1 = true → s.2.count false < inn.count false) ∧ (s.1 = false → ∀ a b, a < i → s.2[a]? = some true → b ∈ G l a → s.2[b]? = some true))
        (fun r => r = some (ledL l)) ?_ ?_ l.length 0 big (by simp) (big_gt (by have := maxLen_ge; omega)) (false, inn) ⟨hl, hz, hr, Nat.le_refl _, (fun e => nomatch e), fun _ a b ha => absurd ha (Nat.not_lt_zero _)⟩
      · rintro self1 ⟨c, s⟩ ⟨g1, g2, g3, g4, g5, g6⟩
        dsimp only at g1 g2 g3 g4 g5 g6
        show href07_Led_1 (fun _ => List.replicate) _ self self1 (l, c, (l.length : Int), s) = _
        unfold href07_Led_1
        dsimp only
        rw [decide_eq_false (by omega), cond_false]
        refine ih _ ⟨c, s, rfl, g1, g2, g3, fun hf a b ha hb => g6 hf a b ?_ ha hb⟩ ?_
        · exact (g3 a ha).lt h
        · show 2 * s.count false + (if c then 1 else 0) < 2 * inn.count false + 1
          cases c with
          | false => simp; omega
          | true => have := g5 rfl; simp; omega
      · rintro self1 ⟨c, s⟩ i hi ⟨g1, g2, g3, g4, g5, g6⟩
        dsimp only at g1 g2 g3 g4 g5 g6
        left
        show ∃ s' : Bool × List Bool, _ ∧ href07_Led_1 (fun _ => List.replicate) (iterV (gref07_Led_2 (fun _ => List.replicate) big self self1) big) self self1 (l, c, (i : Int), s) = _
        unfold href07_Led_1
        dsimp only
        rw [decide_eq_true (by omega), cond_true, Behind_eq h hi, Option.bind_some]
        refine range_post (σ := Bool × List Bool) (g := gref07_Led_2 (fun _ => List.replicate) big self self1) (n := (G l i).length) (fun s k => (l, s.1, (i : Int), (k : Int), s.2, ints (G l i)))
          (fun k s => (s.2.length = l.length ∧ s.2[0]? = some true ∧ (∀ i, s.2[i]? = some true → Rc (G l) i) ∧ s.2.count false ≤ inn.count false ∧ (s.1 = true → s.2.count false < inn.count false) ∧ (s.1 = false → ∀ a b, a < i → s.2[a]? = some true → b ∈ G l a → s.2[b]? = some true)) ∧ (s.1 = false → s.2[i]? = some true → ∀ b ∈ (G l i).take k, s.2[b]? = some true))
          (fun r => ∃ s' : Bool × List Bool, (s'.2.length = l.length ∧ s'.2[0]? = some true ∧ (∀ i, s'.2[i]? = some true → Rc (G l) i) ∧ s'.2.count false ≤ inn.count false ∧ (s'.1 = true → s'.2.count false < inn.count false) ∧ (s'.1 = false → ∀ a b, a < i + 1 → s'.2[a]? = some true → b ∈ G l a → s'.2[b]? = some true)) ∧ r = self1 (l, s'.1, ((i + 1 : Nat) : Int), s'.2))
          ?_ ?_ (G l i).length 0 big (by simp) (big_gt (by have := maxLen_ge; have := G_len l i; omega)) (c, s) ⟨⟨g1, g2, g3, g4, g5, g6⟩, fun _ _ b hb => by simp at hb⟩
        · rintro self2 ⟨c, s⟩ ⟨⟨g1, g2, g3, g4, g5, g6⟩, g7⟩
          dsimp only at g1 g2 g3 g4 g5 g6 g7
          show ∃ s' : Bool × List Bool, _ ∧ href07_Led_2 (fun _ => List.replicate) self self1 self2 (l, c, (i : Int), ((G l i).length : Int), s, ints (G l i)) = _
          unfold href07_Led_2
          dsimp only
          rw [ints_len, decide_eq_false (by omega), cond_false, w64 (by omega) (by omega)]
          refine ⟨(c, s), ⟨g1, g2, g3, g4, g5, fun hf a b ha h3 hb => ?_⟩, rfl⟩
          by_cases e : a = i
          · subst e
            exact g7 hf h3 b (by rw [List.take_length]; exact hb)
          · exact g6 hf a b (by omega) h3 hb
        · rintro self2 ⟨c, s⟩ k hk ⟨⟨g1, g2, g3, g4, g5, g6⟩, g7⟩
          have hgl := G_len l i
          dsimp only at g1 g2 g3 g4 g5 g6 g7
          have hj : (G l i)[k]? = some (G l i)[k] := List.getElem?_eq_getElem hk
          have hjm : (G l i)[k] ∈ G l i := List.getElem_mem hk
          have hjl := G_lt h hi hjm
          generalize (G l i)[k] = j at *
          have e0 : gref07_Led_2 (fun _ => List.replicate) big self self1 self2 (l, c, (i : Int), (k : Int), s, ints (G l i)) = href07_Led_2 (fun _ => List.replicate) self self1 self2 (l, c, (i : Int), (k : Int), s, ints (G l i)) := rfl
          have e1 := nth_at (ints_at hj)
          dsimp only
          rw [e0]
          unfold href07_Led_2
          dsimp only
          rw [ints_len, decide_eq_true (by omega), cond_true]
          simp only [in_r (show i < s.length by omega), in_r hk, in_r (show j < s.length by omega), cond_true]
          rw [w64 (z := (k : Int) + 1) (by omega) (by omega), w64 (z := (i : Int) + 1) (by omega) (by omega), e1]
          rcases bool_at (m := s) (j := i) (by omega) with hb | hb
          · left
            rw [nth_at hb]
            simp only [Option.bind_some, cond_true, in_r (show j < s.length by omega)]
            rcases bool_at (m := s) (j := j) (by omega) with hb2 | hb2
            · rw [nth_at hb2]
              refine ⟨(c, s), ⟨⟨g1, g2, g3, g4, g5, g6⟩, fun hf hi2 b hbm => ?_⟩, rfl⟩
              rcases take_mem hj hbm with h3 | rfl
              · exact g7 hf hi2 b h3
              · exact hb2
            · rw [nth_at hb2]
              have hcn := count_new hb2
              refine ⟨(true, s.set j true), ⟨⟨by simp [g1], ?_, fun t ht => ?_, (show (s.set j true).count false ≤ inn.count false by omega), (fun _ => show (s.set j true).count false < inn.count false by omega), (fun e => nomatch e)⟩, (fun e => nomatch e)⟩, rfl⟩
              · rw [get_set (by omega)]; split; rfl; exact g2
              · rw [get_set (by omega)] at ht
                split at ht
                · rename_i e; rw [e]; exact .step (g3 i hb) hjm
                · exact g3 t ht
          · right
            rw [nth_at hb]
            simp only [Option.bind_some, cond_false]
            refine ⟨(c, s), ⟨g1, g2, g3, g4, g5, fun hf a b ha h3 hbm => ?_⟩, rfl⟩
            by_cases e : a = i
            · subst e
              rw [hb] at h3
              cases h3
            · exact g6 hf a b (by omega) h3 hbm
  · refine ⟨true, _, rfl, by simp, ?_, fun i hi => ?_, fun e => by cases e⟩
    · rw [get_set (by simp; omega), if_pos rfl]
    · rw [start_at h1 hi]; exact .zero
  · have := start_count l.length h1
    refine big_gt ?_
    have := maxLen_ge
    show 2 * ((List.replicate l.length false).set 0 true).count false + 1 ≤ maxLen
    omega

/-! ### Next, Reached -/
noncomputable def reachL (l : List Ins) : List Bool := (ledL l).set (l.length - 1) true

theorem last_w {n : Nat} (h1 : 1 ≤ n) (h2 : n ≤ 1000000) : IntKind.i64.wrap ((n : Int) - 1) = ((n - 1 : Nat) : Int) := by rw [w64 (by omega) (by omega)]; omega
theorem Next_eq (l : List Ins) (i : Int) : cflow_Next (l, i) = some (if okC l = true then (if 0 ≤ i ∧ i < l.length then (ints (G l i.toNat), 0) else ([], 2)) else ([], 8)) := by
  show nflow_Next (l, i) = _
  unfold nflow_Next
  rw [Check7_eq, Option.bind_some]
  by_cases h : okC l = true
  · rw [if_pos h, if_pos h]
    dsimp only
    rw [flow_isIndex_eq, show ((0 : Int) != 0) = false from rfl, cond_false, Option.bind_some]
    by_cases hi : 0 ≤ i ∧ i < l.length
    · have e : i = ((i.toNat : Nat) : Int) := by omega
      rw [if_pos hi, show idx i (l.length : Int) = true by simp [idx]; omega]
      simp only [Bool.not_true, cond_false]
      have := behind_eq h (i := i.toNat) (by omega)
      rw [← e] at this
      rw [this]
      rfl
    · rw [if_neg hi, show idx i (l.length : Int) = false by simp [idx]; omega]
      rfl
  · rw [if_neg h, if_neg h]
    rfl
theorem rNext_eq (l : List Ins) (hw : WfC l) (i : Int) : cref07_Next (l, i) = some (if okC l = true then (if 0 ≤ i ∧ i < l.length then (ints (G l i.toNat), 0) else ([], 2)) else ([], 8)) := by
  show nref07_Next (l, i) = _
  unfold nref07_Next
  rw [rCheck7_eq l hw, Option.bind_some]
  by_cases h : okC l = true
  · rw [if_pos h, if_pos h]
    dsimp only
    rw [show ((0 : Int) != 0) = false from rfl, cond_false]
    by_cases h0 : i < 0
    · rw [decide_eq_true h0, if_neg (by omega)]; rfl
    · rw [decide_eq_false h0, cond_false]
      by_cases h3 : i ≥ (l.length : Int)
      · rw [decide_eq_true h3, if_neg (by omega)]; rfl
      · rw [decide_eq_false h3, cond_false, if_pos (by omega)]
        have e : i = ((i.toNat : Nat) : Int) := by omega
        have := Behind_eq h (i := i.toNat) (by omega)
        rw [← e] at this
        rw [this]
        rfl
  · rw [if_neg h, if_neg h]
    rfl

theorem Reached_eq (l : List Ins) : cflow_Reached l = some (if okC l = true then (reachL l, 0) else ([], 8)) := by
  show nflow_Reached l = _
  unfold nflow_Reached
  rw [Check7_eq, Option.bind_some]
  by_cases h : okC l = true
  · obtain ⟨h1, h2, _, _⟩ := okC_parts h
    rw [if_pos h, if_pos h, show ((0 : Int) != 0) = false from rfl, cond_false, led_eq h, Option.bind_some]
    simp only [last_w h1 (by omega), ledL_len]
    rw [in_r (show l.length - 1 < l.length by omega), cond_true, Int.toNat_natCast]
    rfl
  · rw [if_neg h, if_neg h]
    rfl
theorem rReached_eq (l : List Ins) (hw : WfC l) : cref07_Reached l = some (if okC l = true then (reachL l, 0) else ([], 8)) := by
  show nref07_Reached l = _
  unfold nref07_Reached
  rw [rCheck7_eq l hw, Option.bind_some]
  by_cases h : okC l = true
  · obtain ⟨h1, h2, _, _⟩ := okC_parts h
    rw [if_pos h, if_pos h, show ((0 : Int) != 0) = false from rfl, cond_false, Led_eq h, Option.bind_some]
    simp only [last_w h1 (by omega), ledL_len]
    rw [in_r (show l.length - 1 < l.length by omega), cond_true, Int.toNat_natCast]
    rfl
  · rw [if_neg h, if_neg h]
    rfl

/-! ### comparisons -/
theorem same_of {α : Type} {a b : List α} (hl : a.length = b.length) (h : ∀ k x y, k < a.length → a[k]? = some x → b[k]? = some y → x = y) : a = b := by
  apply List.ext_getElem?
  intro k
  by_cases hk : k < a.length
  · rw [List.getElem?_eq_getElem hk, List.getElem?_eq_getElem (show k < b.length by omega)]
    exact congrArg some (h k _ _ hk (List.getElem?_eq_getElem hk) (List.getElem?_eq_getElem (by omega)))
  · rw [List.getElem?_eq_none (by omega), List.getElem?_eq_none (by omega)]

theorem SameBools_eq (a b : List Bool) (h : a.length ≤ 1000) : cref07_SameBools (a, b) = some (decide (a = b)) := by
  show nref07_SameBools (iterV (gref07_SameBools_0 big) big) (a, b) = _
  unfold nref07_SameBools
  dsimp only
  by_cases hl : a.length = b.length
  · rw [show ((a.length : Int) != (b.length : Int)) = false by rw [hl]; simp, cond_false]
    refine range_post (σ := Unit) (g := gref07_SameBools_0 big) (n := a.length) (fun _ i => (a, b, (i : Int))) (fun i _ => ∀ k x y, k < i → a[k]? = some x → b[k]? = some y → x = y) (fun r => r = some (decide (a = b))) ?_ ?_ a.length 0 big (by simp) (big_gt (by have := maxLen_ge; omega)) () (fun k x y hk => by omega)
    · intro self _ hI
      show href07_SameBools_0 self (a, b, (a.length : Int)) = _
      unfold href07_SameBools_0
      dsimp only
      rw [decide_eq_false (by omega), cond_false, decide_eq_true (same_of hl hI)]
    · intro self _ i hi hI
      have hx : a[i]? = some a[i] := List.getElem?_eq_getElem hi
      have hy : b[i]? = some (b[i]'(by omega)) := List.getElem?_eq_getElem (by omega)
      show (∃ s', _ ∧ href07_SameBools_0 self (a, b, (i : Int)) = _) ∨ href07_SameBools_0 self (a, b, (i : Int)) = _
      unfold href07_SameBools_0
      dsimp only
      rw [decide_eq_true (by omega), cond_true, getI_lt hx, Option.bind_some, getI_lt hy, Option.bind_some, w64 (by omega) (by omega)]
      by_cases e : a[i] = b[i]'(by omega)
      · left
        refine ⟨(), fun k x y hk h3 h4 => ?_, by rw [e]; simp⟩
        by_cases e2 : k = i
        · subst e2
          rw [hx] at h3; rw [hy] at h4
          cases h3; cases h4
          exact e
        · exact hI k x y (by omega) h3 h4
      · right
        have : a ≠ b := fun he => by
          subst he
          exact e rfl
        rw [decide_eq_false this, show (a[i] == b[i]'(by omega)) = false by simpa using e]
        rfl
  · rw [show ((a.length : Int) != (b.length : Int)) = true by simp; omega, cond_true, decide_eq_false (fun e => hl (by rw [e]))]

theorem SameMasks_eq (a b : List Int) (h : a.length ≤ 1000) : cref07_SameMasks (a, b) = some (decide (a = b)) := by
  show nref07_SameMasks (iterV (gref07_SameMasks_0 big) big) (a, b) = _
  unfold nref07_SameMasks
  dsimp only
  by_cases hl : a.length = b.length
  · rw [show ((a.length : Int) != (b.length : Int)) = false by rw [hl]; simp, cond_false]
    refine range_post (σ := Unit) (g := gref07_SameMasks_0 big) (n := a.length) (fun _ i => (a, b, (i : Int))) (fun i _ => ∀ k x y, k < i → a[k]? = some x → b[k]? = some y → x = y) (fun r => r = some (decide (a = b))) ?_ ?_ a.length 0 big (by simp) (big_gt (by have := maxLen_ge; omega)) () (fun k x y hk => by omega)
    · intro self _ hI
      show href07_SameMasks_0 self (a, b, (a.length : Int)) = _
      unfold href07_SameMasks_0
      dsimp only
      rw [decide_eq_false (by omega), cond_false, decide_eq_true (same_of hl hI)]
    · intro self _ i hi hI
      have hx : a[i]? = some a[i] := List.getElem?_eq_getElem hi
      have hy : b[i]? = some (b[i]'(by omega)) := List.getElem?_eq_getElem (by omega)
      show (∃ s', _ ∧ href07_SameMasks_0 self (a, b, (i : Int)) = _) ∨ href07_SameMasks_0 self (a, b, (i : Int)) = _
      unfold href07_SameMasks_0
      dsimp only
      rw [decide_eq_true (by omega), cond_true, getI_lt hx, Option.bind_some, getI_lt hy, Option.bind_some, w64 (by omega) (by omega)]
      by_cases e : a[i] = b[i]'(by omega)
      · left
        refine ⟨(), fun k x y hk h3 h4 => ?_, by rw [e]; simp⟩
        by_cases e2 : k = i
        · subst e2
          rw [hx] at h3; rw [hy] at h4
          cases h3; cases h4
          exact e
        · exact hI k x y (by omega) h3 h4
      · right
        have : a ≠ b := fun he => by
          subst he
          exact e rfl
        rw [decide_eq_false this, show (a[i] != b[i]'(by omega)) = true by simpa using e]
        rfl
  · rw [show ((a.length : Int) != (b.length : Int)) = true by simp; omega, cond_true, decide_eq_false (fun e => hl (by rw [e]))]

theorem Same7_eq (a : List Ins) (h : a.length ≤ 1000) : cref07_Same (a, a) = some true := by
  show nref07_Same (iterV (gref07_Same_0 big) big) (a, a) = _
  unfold nref07_Same
  dsimp only
  rw [show ((a.length : Int) != (a.length : Int)) = false by simp, cond_false]
  refine range_post (σ := Unit) (g := gref07_Same_0 big) (n := a.length) (fun _ i => (a, a, (i : Int))) (fun i _ => True) (fun r => r = some true) ?_ ?_ a.length 0 big (by simp) (big_gt (by have := maxLen_ge; omega)) () trivial
  · intro self _ _
    show href07_Same_0 self (a, a, (a.length : Int)) = _
    unfold href07_Same_0
    dsimp only
    rw [decide_eq_false (by omega), cond_false]
  · intro self _ i hi _
    have hx : a[i]? = some a[i] := List.getElem?_eq_getElem hi
    left
    refine ⟨(), trivial, ?_⟩
    show href07_Same_0 self (a, a, (i : Int)) = _
    unfold href07_Same_0
    dsimp only
    rw [decide_eq_true (by omega), cond_true, getI_lt hx, Option.bind_some, Option.bind_some, eqD_self, w64 (by omega) (by omega)]
    rfl

def great (l : List Ins) : Bool := (decide (l.length > 60) && decide (l.length ≤ 200)) || decide (l.length > 210)
theorem Great_eq (l : List Ins) : cref07_Great l = some (great l) := by
  show nref07_Great l = _
  unfold nref07_Great great
  by_cases a : l.length > 60
  · by_cases b : l.length ≤ 200
    · simp [show (l.length : Int) > 60 by omega, show (l.length : Int) ≤ 200 by omega, a, b]
    · simp [show (l.length : Int) > 60 by omega, show ¬ (l.length : Int) ≤ 200 by omega, a, b]
      omega
  · simp [show ¬ (l.length : Int) > 60 by omega, a]
    omega
theorem great_len {l : List Ins} (h : great l = false) : l.length ≤ 210 := by
  simp [great] at h
  omega
theorem reachL_len (l : List Ins) : (reachL l).length = l.length := by simp [reachL, ledL_len]
end Go.Proofs.YtkklpkkhepcaiaaDoor
