/- The laws FlowNexts and FlowReached. -/
import Derived.Test.YtkklpkkhepcaiaaDoorFlowL
import Derived.Test.YtkklpkkhepcaiaaDoorFlowD
set_option linter.unusedVariables false
set_option linter.unusedSimpArgs false
set_option maxRecDepth 100000
namespace Go.Proofs.YtkklpkkhepcaiaaDoor
open Go.Lift

theorem alive07 : claw07_alive () = some true := by kernel_rfl
theorem wf_code {l : List Ins} (w : Wf Z3 l) : WfC l := fun x hx => by
  have := (w.2 x hx).1
  simpa [Wf] using this
theorem fit_eq (l : List Ins) (w : WfC l) : claw07_fit l = some (!great l && okC l) := by
  show nlaw07_fit l = _
  unfold nlaw07_fit
  rw [Great_eq, Option.bind_some, rCheck7_eq l w]
  cases great l with
  | true => rfl
  | false =>
    cases okC l <;> rfl
theorem copy_ok {l : List Ins} (h : l.length ≤ 1000) : (Nat.ble 1 4 && Nat.ble (List.length ([] : Y0) + List.length l) lim) = true := by
  rw [show Nat.ble 1 4 = true from rfl, ble_lim (by simp; omega)]; rfl
theorem copy1_ok {l : List Int} (h : l.length ≤ 1000) : (Nat.ble 1 1 && Nat.ble (List.length ([] : Y1) + List.length l) lim) = true := by
  rw [b11, ble_lim (by simp; omega)]; rfl

theorem nexts_true7 (x : Y0 × Int) (w : WfL [Z3, Z1] x) : claw07_FlowNexts x = some true := by
  obtain ⟨l, i⟩ := x
  have hw : WfC l := wf_code w.1
  show nlaw07_FlowNexts (l, i) = _
  unfold nlaw07_FlowNexts
  dsimp only
  rw [Great_eq, Option.bind_some]
  cases hg : great l with
  | true => rfl
  | false =>
    have hl := great_len hg
    rw [cond_false, copy_ok (by omega), cond_true, Next_eq, Option.bind_some, rNext_eq l hw, Option.bind_some, Reached_eq, Option.bind_some, rReached_eq l hw, Option.bind_some, Check7_eq, Option.bind_some, rCheck7_eq l hw, Option.bind_some]
    rw [show ((if okC l = true then (0 : Int) else 8) == (if okC l = true then (0 : Int) else 8)) = true by simp, cond_true]
    generalize hr : (if okC l = true then (if 0 ≤ i ∧ i < (l.length : Int) then (ints (G l i.toNat), (0 : Int)) else ([], 2)) else ([], 8)) = r
    have hr1 : r.1.length ≤ 1000 := by
      rw [← hr]
      split
      · split
        · have := G_len l i.toNat; simp only [ints_len]; omega
        · simp
      · simp
    generalize hs : (if okC l = true then (reachL l, (0 : Int)) else ([], 8)) = s
    have hs1 : s.1.length ≤ 1000 := by
      rw [← hs]
      split
      · simp only [reachL_len]; omega
      · simp
    rw [rSameInts_eq _ _ hr1, Option.bind_some, SameBools_eq _ _ hs1]
    simp only [decide_true, cond_true, beq_self_eq_true, Option.bind_some]
    show ((cref07_Same (l, List.append [] l)).bind fun x11 => some x11) = some true
    rw [show List.append [] l = l from rfl, Same7_eq l (by omega)]
    rfl

/-! ### Reached -/
theorem G_sorted {l : List Ins} (h : okC l = true) {i : Nat} (hi : i < l.length) {a b : Nat} (ha : (G l i)[0]? = some a) (hb : (G l i)[1]? = some b) : a < b := by
  obtain ⟨h1, h2, h3, h4⟩ := okC_parts h
  have hx : l[i]? = some l[i] := List.getElem?_eq_getElem hi
  obtain ⟨ho, _⟩ := h3 i _ hx
  have hB := branch_B ho
  simp only [G, hx, bh] at ha hb
  generalize l[i] = x at *
  by_cases e : x.1 = 22
  · simp [e] at hb
  · by_cases e2 : x.1 = 23
    · have := hB e2
      simp only [e, e2, if_false, if_true, show ¬ (23 : Int) = 22 by decide] at ha hb
      split at ha
      · rename_i e3; rw [if_pos e3] at hb; simp at hb
      · rename_i e3
        rw [if_neg e3] at hb
        simp at ha hb
        omega
    · simp only [e, e2, if_false] at hb
      split at hb <;> simp at hb
theorem ends_eq {l : List Ins} {i : Nat} {x : Ins} (hx : l[i]? = some x) : claw07_ends x.1 = some (decide ((G l i) = [])) := by
  show nlaw07_ends x.1 = _
  unfold nlaw07_ends
  simp only [G, hx, bh]
  by_cases a : x.1 = 34
  · simp [a, beqd]
  by_cases b : x.1 = 28
  · simp [a, b, beqd]
  by_cases c : x.1 = 30
  · simp [a, b, c, beqd]
  by_cases d : x.1 = 22
  · simp [d, beqd]
  by_cases e : x.1 = 23
  · simp only [a, b, c, d, e, beqd]
    by_cases f : x.2.2.1 = (i : Int) + 1 <;> simp [f]
  simp [a, b, c, d, e, beqd]

theorem reach_in (mk : (α : Type) → Nat → α → List α) (self0 self1) {l : List Ins} {g : List Nat} {i k j : Nat} {inn led : List Bool} {b1 b2 : Bool} (hn : l.length ≤ 1000) (hli : inn.length = l.length) (hll : led.length = l.length) (hi : i < l.length) (hj : g[k]? = some j) (hjl : j < l.length)
    (h1 : inn[i]? = some b1) (h2 : b1 = true → inn[j]? = some true) (h3 : led[j]? = some b2) (h4 : 0 < k → ∃ a, g[k - 1]? = some a ∧ a < j) (hk : k ≤ 10) :
    hlaw07_FlowReached_1 mk self0 self1 (l, (i : Int), ints g, (k : Int), inn, led) = self1 (l, (i : Int), ints g, ((k + 1 : Nat) : Int), inn, led.set j (b2 || b1)) := by
  have hkl : k < g.length := (List.getElem?_eq_some_iff.1 hj).1
  unfold hlaw07_FlowReached_1
  dsimp only
  have tail : ∀ (F : Option Bool), (bif decide ((0 : Int) ≤ (i : Int)) && decide ((i : Int) < (inn.length : Int)) then (some b1).bind (fun x16 => bif x16 then ((some (j : Int)).bind fun x17 => bif decide ((0 : Int) ≤ x17) && decide (x17 < (inn.length : Int)) then (nth inn (Int.toNat x17)).bind (fun x18 => bif !x18 then some false else F) else none) else F) else none) = F := by
    intro F
    rw [hli, in_r hi, cond_true, Option.bind_some]
    cases b1 with
    | false => rfl
    | true =>
      rw [cond_true, Option.bind_some, in_r hjl, cond_true, nth_at (h2 rfl)]
      rfl
  rw [ints_len, decide_eq_true (show (k : Int) < (g.length : Int) by omega), cond_true]
  rw [w64 (z := (k : Int) + 1) (by omega) (by omega)]
  simp only [getI_lt (ints_at hj), Option.bind_some, decide_eq_false (show ¬ (j : Int) < 0 by omega), decide_eq_false (show ¬ (j : Int) ≥ (l.length : Int) by omega), cond_false, nth_at h1, nth_at h3, hli, hll, in_r hi, in_r hjl, cond_true]
  by_cases hk0 : 0 < k
  · obtain ⟨a, ha, hlt⟩ := h4 hk0
    rw [decide_eq_true (show (k : Int) > 0 by omega), cond_true, w64 (by omega) (by omega), show (k : Int) - 1 = ((k - 1 : Nat) : Int) by omega]
    simp only [getI_lt (ints_at ha), Option.bind_some, decide_eq_false (show ¬ (a : Int) ≥ (j : Int) by omega), cond_false]
    cases b1 with
    | false => cases b2 <;> rfl
    | true =>
      simp only [nth_at (h2 rfl)]
      cases b2 <;> rfl
  · rw [decide_eq_false (show ¬ (k : Int) > 0 by omega), cond_false]
    cases b1 with
    | false => cases b2 <;> rfl
    | true =>
      simp only [nth_at (h2 rfl)]
      cases b2 <;> rfl

theorem reachL_at {l : List Ins} (h : okC l = true) {i : Nat} (hi : i < l.length) : (reachL l)[i]? = some true ↔ Rc (G l) i ∨ i = l.length - 1 := by
  obtain ⟨h1, _⟩ := okC_parts h
  unfold reachL
  rw [get_set (by rw [ledL_len]; omega)]
  split
  · rename_i e; simp [e]
  · rename_i e; rw [ledL_at hi]; simp [e]

theorem reached_true7 (x : Y0) (w : WfL [Z3] x) : claw07_FlowReached x = some true := by
  have hw : WfC x := wf_code w
  show nlaw07_FlowReached (fun _ => List.replicate) (iterV (glaw07_FlowReached_0 (fun _ => List.replicate) big) big) x = _
  unfold nlaw07_FlowReached
  rw [fit_eq x hw, Option.bind_some, alive07]
  cases hf : (!great x && okC x) with
  | false => rfl
  | true =>
    simp only [Bool.and_eq_true, Bool.not_eq_true'] at hf
    obtain ⟨hg, h⟩ := hf
    have hl := great_len hg
    obtain ⟨h1, h2, h3, h4⟩ := okC_parts h
    rw [Reached_eq, Option.bind_some, if_pos h]
    have z0 : (reachL x)[0]? = some true := (reachL_at h (by omega)).2 (.inl .zero)
    have zn : (reachL x)[x.length - 1]? = some true := (reachL_at h (by omega)).2 (.inr rfl)
    have e0 : nth (reachL x) (Int.toNat 0) = some true := by rw [nth_get]; exact z0
    simp only [Bool.not_true, cond_false, show ((0 : Int) != 0) = false from rfl, reachL_len, show ((x.length : Int) != (x.length : Int)) = false by simp, last_w h1 (show x.length ≤ 1000000 by omega), in_r (show x.length - 1 < x.length by omega), cond_true, e0, Option.bind_some, nth_at zn, mk_ok (show x.length ≤ 68719476736 by omega)]
    rw [Int.toNat_natCast, show (decide ((0 : Int) ≤ 0) && decide ((0 : Int) < (x.length : Int))) = true by simp; omega, cond_true]
    refine range_post (σ := List Bool) (g := glaw07_FlowReached_0 (fun _ => List.replicate) big) (n := x.length) (fun s i => (x, (i : Int), reachL x, s))
      (fun i s => s.length = x.length ∧ ∀ a b, a < i → (reachL x)[a]? = some true → b ∈ G x a → s[b]? = some true)
      (fun r => r = some true) ?_ ?_ x.length 0 big (by simp) (big_gt (by have := maxLen_ge; omega)) (List.replicate x.length false) ⟨by simp, fun a b ha => absurd ha (Nat.not_lt_zero _)⟩
    · rintro self s ⟨g1, g2⟩
      show hlaw07_FlowReached_0 (fun _ => List.replicate) (iterV (glaw07_FlowReached_1 (fun _ => List.replicate) big self) big) (iterV (glaw07_FlowReached_2 (fun _ => List.replicate) big self) big) self (x, (x.length : Int), reachL x, s) = _
      unfold hlaw07_FlowReached_0
      dsimp only
      rw [decide_eq_false (by omega), cond_false]
      by_cases hn1 : x.length = 1
      · rw [big_pos, iterV_succ]
        show hlaw07_FlowReached_2 (fun _ => List.replicate) _ _ (x, (1 : Int), reachL x, s) = _
        unfold hlaw07_FlowReached_2
        dsimp only
        rw [last_w h1 (by omega), decide_eq_false (by omega), cond_false, alive07]
        rfl
      refine range_post (σ := Unit) (g := glaw07_FlowReached_2 (fun _ => List.replicate) big self) (n := x.length - 1) (fun _ i => (x, (i : Int), reachL x, s)) (fun i _ => 1 ≤ i) (fun r => r = some true) ?_ ?_ (x.length - 1 - 1) 1 big (by omega) (big_gt (by have := maxLen_ge; omega)) () (by omega)
      · intro self1 _ _
        show hlaw07_FlowReached_2 (fun _ => List.replicate) _ _ (x, ((x.length - 1 : Nat) : Int), reachL x, s) = _
        unfold hlaw07_FlowReached_2
        dsimp only
        rw [last_w h1 (by omega), decide_eq_false (by omega), cond_false, alive07]
        rfl
      · intro self1 _ i hi hI
        left
        refine ⟨(), by omega, ?_⟩
        show hlaw07_FlowReached_2 (fun _ => List.replicate) _ _ (x, (i : Int), reachL x, s) = _
        unfold hlaw07_FlowReached_2
        dsimp only
        rw [last_w h1 (by omega), decide_eq_true (by omega), cond_true, reachL_len, in_r (show i < x.length by omega), cond_true, w64 (by omega) (by omega)]
        rcases bool_at (m := reachL x) (j := i) (by rw [reachL_len]; omega) with hb | hb
        · rw [nth_at hb, Option.bind_some, cond_true, g1, in_r (show i < x.length by omega), cond_true]
          have hr : Rc (G x) i := ((reachL_at h (by omega)).1 hb).elim (fun h => h) fun e => by omega
          have hs : s[i]? = some true := by
            cases hr with
            | zero => omega
            | step ha hj => exact g2 _ _ (ha.lt h) ((reachL_at h (ha.lt h)).2 (.inl ha)) hj
          rw [nth_at hs]
          rfl
        · rw [nth_at hb]
          rfl
    · rintro self s i hi ⟨g1, g2⟩
      left
      have hx : x[i]? = some x[i] := List.getElem?_eq_getElem hi
      have hlen := G_len x i
      show ∃ s' : List Bool, _ ∧ hlaw07_FlowReached_0 (fun _ => List.replicate) (iterV (glaw07_FlowReached_1 (fun _ => List.replicate) big self) big) (iterV (glaw07_FlowReached_2 (fun _ => List.replicate) big self) big) self (x, (i : Int), reachL x, s) = _
      unfold hlaw07_FlowReached_0
      dsimp only
      rw [decide_eq_true (by omega), cond_true, Next_eq, Option.bind_some, if_pos h, if_pos ⟨by omega, by omega⟩, Int.toNat_natCast]
      simp only [show ((0 : Int) != 0) = false from rfl, cond_false, getI_lt hx, Option.bind_some, ends_eq hx]
      rw [show (!(((List.length (ints (G x i)) : Int) == 0) == decide (G x i = []))) = false by
        rw [ints_len, beqd]
        cases G x i <;> simp
        omega, cond_false]
      obtain ⟨b1, hb1⟩ : ∃ b, (reachL x)[i]? = some b := ⟨_, List.getElem?_eq_getElem (by rw [reachL_len]; exact hi)⟩
      refine range_post (σ := List Bool) (g := glaw07_FlowReached_1 (fun _ => List.replicate) big self) (n := (G x i).length) (fun s k => (x, (i : Int), ints (G x i), (k : Int), reachL x, s))
        (fun k s => (s.length = x.length ∧ ∀ a b, a < i → (reachL x)[a]? = some true → b ∈ G x a → s[b]? = some true) ∧ (b1 = true → ∀ b ∈ (G x i).take k, s[b]? = some true))
        (fun r => ∃ s' : List Bool, (s'.length = x.length ∧ ∀ a b, a < i + 1 → (reachL x)[a]? = some true → b ∈ G x a → s'[b]? = some true) ∧ r = self (x, ((i + 1 : Nat) : Int), reachL x, s')) ?_ ?_ (G x i).length 0 big (by simp) (big_gt (by have := maxLen_ge; omega)) s ⟨⟨g1, g2⟩, fun _ b hb => by simp at hb⟩
      · rintro self1 s ⟨⟨g1, g2⟩, g3⟩
        show ∃ s' : List Bool, _ ∧ hlaw07_FlowReached_1 (fun _ => List.replicate) self self1 (x, (i : Int), ints (G x i), ((G x i).length : Int), reachL x, s) = _
        unfold hlaw07_FlowReached_1
        dsimp only
        rw [ints_len, decide_eq_false (by omega), cond_false, w64 (by omega) (by omega)]
        refine ⟨s, ⟨g1, fun a b ha h5 hb => ?_⟩, rfl⟩
        by_cases e : a = i
        · subst e
          rw [hb1] at h5
          cases h5
          exact g3 rfl b (by rw [List.take_length]; exact hb)
        · exact g2 a b (by omega) h5 hb
      · rintro self1 s k hk ⟨⟨g1, g2⟩, g3⟩
        left
        have hj : (G x i)[k]? = some (G x i)[k] := List.getElem?_eq_getElem hk
        have hjm : (G x i)[k] ∈ G x i := List.getElem_mem hk
        have hjl := G_lt h hi hjm
        generalize (G x i)[k] = j at *
        obtain ⟨b2, hb2⟩ : ∃ b, s[j]? = some b := ⟨_, List.getElem?_eq_getElem (by omega)⟩
        have hrj : b1 = true → (reachL x)[j]? = some true := fun hb => by
          subst hb
          rcases (reachL_at h hi).1 hb1 with hr | e
          · exact (reachL_at h hjl).2 (.inl (.step hr hjm))
          · exfalso
            have : G x i = [] := by
              simp only [G, e, h4]
              rfl
            rw [this] at hjm
            cases hjm
        have hsort : 0 < k → ∃ a, (G x i)[k - 1]? = some a ∧ a < j := fun hk0 => by
          have e1 : k = 1 := by omega
          subst e1
          exact ⟨_, List.getElem?_eq_getElem (show 1 - 1 < (G x i).length by omega), G_sorted h hi (List.getElem?_eq_getElem (by omega)) hj⟩
        refine ⟨s.set j (b2 || b1), ⟨⟨by simp [g1], fun a b ha h5 hb => ?_⟩, fun hb1 b hb => ?_⟩, reach_in _ _ _ (by omega) (reachL_len x) g1 hi hj hjl hb1 hrj hb2 hsort (by omega)⟩
        · have := g2 a b ha h5 hb
          rw [get_set (by omega)]
          split
          · rename_i e
            subst e
            rw [hb2] at this
            cases this
            rfl
          · exact this
        · rw [get_set (by omega)]
          split
          · rw [hb1]; simp
          · rename_i e
            rcases take_mem hj hb with h5 | h5
            · exact g3 hb1 b h5
            · exact absurd h5 e
end Go.Proofs.YtkklpkkhepcaiaaDoor
