/- What the functions of layer 4's reference compute: names, fields, types, parts, widths, tables. -/
import Derived.Test.YtegemaonfdfnbaaKindE
import Derived.Test.YtegemaonfdfnbaaKindR
set_option linter.unusedVariables false
set_option linter.unusedSimpArgs false
set_option maxRecDepth 100000
namespace Go.Proofs.Ytegemaonfdfnbaa
open Go.Lift

theorem rLetter_eq (c : Int) : cref04_Letter c = some (letB c) := by
  show nref04_Letter c = _
  unfold nref04_Letter letB
  simp only [ge_iff_le]
  cases decide (97 ≤ c) <;> cases decide (c ≤ 122) <;> cases decide (65 ≤ c) <;> cases decide (c ≤ 90) <;> rfl

theorem rNamed_eq (s : List Int) : cref04_Named s = some (namedB s) := by
  show nref04_Named (iterV (gref04_Named_0 big) big) s = _
  unfold nref04_Named
  cases s with
  | nil => rfl
  | cons c r =>
    rw [decide_eq_false (by simp; omega), cond_false]
    by_cases h : (c :: r).length ≤ 16
    · rw [decide_eq_false (by omega), cond_false]
      have h0 : getI (c :: r) (0 : Int) = some c := rfl
      rw [h0, Option.bind_some, rLetter_eq, Option.bind_some]
      simp only [namedB]
      rw [decide_eq_true h, Bool.true_and]
      cases hc : letB c with
      | false => rfl
      | true =>
        rw [Bool.not_true, cond_false, Bool.true_and]
        have := range_run (g := gref04_Named_0 big) (xs := c :: r) (fun (_ : Unit) (i : Nat) => (c :: r, (i : Int))) (fun x s k => bif (letB x || digB x) then k s else some false) (fun _ => some true)
          (fun self s => by
            show href04_Named_0 self _ = _
            unfold href04_Named_0
            dsimp only
            rw [decide_eq_false (by omega), cond_false])
          (fun self s i hi => by
            show href04_Named_0 self _ = _
            unfold href04_Named_0
            dsimp only
            rw [decide_eq_true (by omega), cond_true, getI_at hi, Option.bind_some, rLetter_eq, Option.bind_some, Option.bind_some, Option.bind_some]
            rw [wrap_succ hi (by have := maxLen_ge; omega)]
            unfold digB
            by_cases h1 : (c :: r)[i] < 48
            · rw [decide_eq_true h1, decide_eq_false (by omega : ¬ 48 ≤ (c :: r)[i])]
              cases letB (c :: r)[i] <;> rfl
            · rw [decide_eq_false h1, decide_eq_true (by omega : 48 ≤ (c :: r)[i])]
              by_cases h2 : (c :: r)[i] > 57
              · rw [decide_eq_true h2, decide_eq_false (by omega : ¬ (c :: r)[i] ≤ 57)]
                cases letB (c :: r)[i] <;> rfl
              · rw [decide_eq_false h2, decide_eq_true (by omega : (c :: r)[i] ≤ 57)]
                cases letB (c :: r)[i] <;> rfl)
          (c :: r).length 0 big (by simp) (by unfold big; omega) ()
        rw [List.drop_zero, foldC_all] at this
        exact this
    · rw [decide_eq_true (by omega), cond_true]
      simp only [namedB]
      rw [decide_eq_false h]; rfl

/-! ### fields -/
theorem nodup_take {l : List (List Int)} {i : Nat} (hi : i < l.length) : (l.take (i + 1)).Nodup ↔ (l.take i).Nodup ∧ ∀ k (hk : k < i), l[k] ≠ l[i] := by
  rw [List.take_succ_eq_append_getElem hi, List.nodup_append]
  simp only [List.nodup_cons, List.not_mem_nil, not_false_eq_true, List.nodup_nil, and_self, List.mem_singleton, forall_eq, true_and]
  constructor
  · rintro ⟨h1, h2⟩
    refine ⟨h1, fun k hk e => h2 l[k] ?_ e⟩
    exact List.mem_take_iff_getElem.2 ⟨k, by omega, rfl⟩
  · rintro ⟨h1, h2⟩
    refine ⟨h1, fun a ha e => ?_⟩
    obtain ⟨k, hk, rfl⟩ := List.mem_take_iff_getElem.1 ha
    exact h2 k (by omega) e

theorem rFields_eq (fs : List Fld) : cref04_Fields (fs, 8) = some (decide (fs.length ≤ 8) && (fs.all (fun f => namedB f.1) && decide ((fs.map (·.1)).Nodup))) := by
  show nref04_Fields (iterV (gref04_Fields_0 big) big) (fs, 8) = _
  unfold nref04_Fields
  dsimp only
  by_cases h : fs.length ≤ 8
  · rw [decide_eq_false (by omega), cond_false, decide_eq_true h, Bool.true_and]
    refine range_post (g := gref04_Fields_0 big) (n := fs.length) (fun (_ : Unit) (i : Nat) => (fs, (i : Int))) (fun i _ => (∀ f ∈ fs.take i, namedB f.1 = true) ∧ ((fs.map (·.1)).take i).Nodup) (fun r => r = some (fs.all (fun f => namedB f.1) && decide ((fs.map (·.1)).Nodup))) ?_ ?_
      fs.length 0 big (by simp) (by unfold big; omega) () (by simp)
    · rintro self s ⟨h1, h2⟩
      rw [List.take_length] at h1
      rw [List.take_of_length_le (by simp)] at h2
      show href04_Fields_0 _ self _ = _
      unfold href04_Fields_0
      dsimp only
      rw [decide_eq_false (by omega), cond_false, decide_eq_true h2, Bool.and_true, List.all_eq_true.2 h1]
    · rintro self s i hi ⟨h1, h2⟩
      cases hn : namedB fs[i].1 with
      | false =>
        right
        show href04_Fields_0 _ self _ = _
        unfold href04_Fields_0
        dsimp only
        rw [decide_eq_true (by omega), cond_true, getI_at hi, Option.bind_some, rNamed_eq, Option.bind_some, hn, Bool.not_false, cond_true]
        have : fs.all (fun f => namedB f.1) = false := by
          rw [Bool.eq_false_iff]
          intro hall
          have := List.all_eq_true.1 hall _ (List.getElem_mem hi)
          rw [hn] at this
          cases this
        rw [this]; rfl
      | true =>
        have inner : ∃ b : Bool, iterV (gref04_Fields_1 big self) big (fs, (i : Int), 0) = (bif b then self (fs, ((i + 1 : Nat) : Int)) else some false) ∧ (b = true ↔ ∀ k (hk : k < i), (fs.map (·.1))[k]'(by simp; omega) ≠ (fs.map (·.1))[i]'(by simpa using hi)) := by
          refine range_post (g := gref04_Fields_1 big self) (n := i) (fun (_ : Unit) (k : Nat) => (fs, (i : Int), (k : Int))) (fun j _ => ∀ k (hk : k < j) (hki : k < fs.length), (fs[k]).1 ≠ (fs[i]).1) (fun r => ∃ b : Bool, r = (bif b then self (fs, ((i + 1 : Nat) : Int)) else some false) ∧ (b = true ↔ ∀ k (hk : k < i), (fs.map (·.1))[k]'(by simp; omega) ≠ (fs.map (·.1))[i]'(by simpa using hi))) ?_ ?_
            i 0 big (by simp) (by unfold big; omega) () (by intro k hk; omega)
          · intro self1 s hs
            refine ⟨true, ?_, by simp only [true_iff, List.getElem_map]; exact fun k hk => hs k hk (by omega)⟩
            show href04_Fields_1 self self1 _ = _
            unfold href04_Fields_1
            dsimp only
            rw [decide_eq_false (by omega), cond_false, wrap_succ hi (by have := maxLen_ge; omega)]
            rfl
          · intro self1 s j hj hs
            have hj' : j < fs.length := by omega
            have hst : gref04_Fields_1 big self self1 (fs, (i : Int), (j : Int)) = bif eqD .str (fs[j]).1 (fs[i]).1 then some false else self1 (fs, (i : Int), ((j + 1 : Nat) : Int)) := by
              show href04_Fields_1 self self1 _ = _
              unfold href04_Fields_1
              dsimp only
              rw [decide_eq_true (by omega), cond_true, getI_at hj', Option.bind_some, getI_at hi, Option.bind_some, wrap_succ hj (by have := maxLen_ge; omega)]
            by_cases e : (fs[j]).1 = (fs[i]).1
            · right
              refine ⟨false, by rw [hst, e, eqD_self]; rfl, ?_⟩
              simp only [Bool.false_eq_true, false_iff, List.getElem_map]
              exact fun hh => hh j hj e
            · left
              refine ⟨(), fun k hk hki => ?_, by rw [hst, eqD_false e]; rfl⟩
              by_cases hkj : k = j
              · subst hkj; exact e
              · exact hs k (by omega) hki
        obtain ⟨b, hb1, hb2⟩ := inner
        have hst : gref04_Fields_0 big self (fs, (i : Int)) = (bif b then self (fs, ((i + 1 : Nat) : Int)) else some false) := by
          show href04_Fields_0 _ self _ = _
          unfold href04_Fields_0
          dsimp only
          rw [decide_eq_true (by omega), cond_true, getI_at hi, Option.bind_some, rNamed_eq, Option.bind_some, hn, Bool.not_true, cond_false]
          exact hb1
        cases b with
        | true =>
          left
          refine ⟨(), ⟨?_, (nodup_take (by simpa using hi)).2 ⟨h2, hb2.1 rfl⟩⟩, hst⟩
          rw [List.take_succ_eq_append_getElem hi]
          intro f hf
          rcases List.mem_append.1 hf with hf | hf
          · exact h1 f hf
          · rw [List.mem_singleton.1 hf]; exact hn
        | false =>
          right
          rw [hst, cond_false]
          congr 1
          symm
          have : ¬ (fs.map (·.1)).Nodup := by
            intro hnd
            have hnd2 : ((fs.map (·.1)).take (i + 1)).Nodup := (List.take_sublist _ _).nodup hnd
            have := hb2.2 ((nodup_take (by simpa using hi)).1 hnd2).2
            cases this
          rw [decide_eq_false this, Bool.and_false]
  · rw [decide_eq_true (by omega), cond_true, decide_eq_false h]; rfl

/-! ### types -/
theorem rfine_str (t : Typ) (i : Int) (hl : t.2.2.2.1.length ≤ 1000) : iterV (gref04_fine_0 big) big (i, 0, t) = some (decide (t.2.1 = 0) && (decide (t.2.2.1 = 0) && areB t.2.2.2.1 i)) := by
  have spec : ∀ b : Bool, (b = true ↔ (∀ f ∈ t.2.2.2.1, idxB f.2.1 i = true)) → (decide (t.2.1 = 0) && (decide (t.2.2.1 = 0) && areB t.2.2.2.1 i)) = (b && (decide (t.2.1 = 0) && (decide (t.2.2.1 = 0) && (decide (0 < t.2.2.2.1.length) && (decide (t.2.2.2.1.length ≤ 8) && (t.2.2.2.1.all (fun f => namedB f.1) && decide ((t.2.2.2.1.map (·.1)).Nodup))))))) := by
    intro b hb
    rw [Bool.eq_iff_iff]
    simp only [areB, Bool.and_eq_true, decide_eq_true_eq, List.all_eq_true, hb]
    constructor
    · rintro ⟨h1, h2, h3, h4, h5, h6⟩
      exact ⟨h6, h1, h2, by omega, h3.2, h4, h5⟩
    · rintro ⟨h6, h1, h2, h3, h3', h4, h5⟩
      exact ⟨h1, h2, ⟨by omega, h3'⟩, h4, h5, h6⟩
  refine range_post (g := gref04_fine_0 big) (n := t.2.2.2.1.length) (fun (_ : Unit) (k : Nat) => (i, (k : Int), t)) (fun k _ => ∀ f ∈ t.2.2.2.1.take k, idxB f.2.1 i = true) (fun r => r = some (decide (t.2.1 = 0) && (decide (t.2.2.1 = 0) && areB t.2.2.2.1 i))) ?_ ?_
    t.2.2.2.1.length 0 big (by simp) (by unfold big; omega) () (by simp)
  · intro self s h
    rw [List.take_length] at h
    rw [spec true (by simpa using h)]
    show href04_fine_0 self _ = _
    unfold href04_fine_0
    dsimp only
    rw [decide_eq_false (by omega), cond_false, rFields_eq, Option.bind_some, Bool.true_and]
    simp only [beq_dec, gt_iff_lt]
    have e : decide ((0 : Int) < (t.2.2.2.1.length : Int)) = decide (0 < t.2.2.2.1.length) := by
      by_cases h : 0 < t.2.2.2.1.length
      · rw [decide_eq_true h, decide_eq_true (by omega)]
      · rw [decide_eq_false h, decide_eq_false (by omega)]
    rw [e]
    cases decide (t.2.1 = 0) <;> cases decide (t.2.2.1 = 0) <;> cases decide (0 < t.2.2.2.1.length) <;> rfl
  · intro self s k hk h
    have hst : gref04_fine_0 big self (i, (k : Int), t) = bif idxB (t.2.2.2.1[k]).2.1 i then self (i, ((k + 1 : Nat) : Int), t) else some false := by
      show href04_fine_0 self _ = _
      unfold href04_fine_0 idxB
      dsimp only
      rw [decide_eq_true (by omega), cond_true, getI_at hk, Option.bind_some, Option.bind_some, wrap_succ hk (by have := maxLen_ge; omega)]
      by_cases h1 : (t.2.2.2.1[k]).2.1 < 0
      · rw [decide_eq_true h1, decide_eq_false (by omega : ¬ 0 ≤ (t.2.2.2.1[k]).2.1)]; rfl
      · rw [decide_eq_false h1, decide_eq_true (by omega : 0 ≤ (t.2.2.2.1[k]).2.1)]
        by_cases h2 : (t.2.2.2.1[k]).2.1 ≥ i
        · rw [decide_eq_true h2, decide_eq_false (by omega : ¬ (t.2.2.2.1[k]).2.1 < i)]; rfl
        · rw [decide_eq_false h2, decide_eq_true (by omega : (t.2.2.2.1[k]).2.1 < i)]; rfl
    cases hx : idxB (t.2.2.2.1[k]).2.1 i with
    | true =>
      left
      refine ⟨(), ?_, by rw [hst, hx]; rfl⟩
      rw [List.take_succ_eq_append_getElem hk]
      intro f hf
      rcases List.mem_append.1 hf with hf | hf
      · exact h f hf
      · rw [List.mem_singleton.1 hf]; exact hx
    | false =>
      right
      rw [hst, hx, cond_false, spec false (by
        simp only [Bool.false_eq_true, false_iff]
        intro hall
        have := hall _ (List.getElem_mem hk)
        rw [hx] at this
        cases this)]
      rfl

theorem rfine_eq {l : List Typ} {i : Nat} (hi : i < l.length) (hl : (l[i]).2.2.2.1.length ≤ 1000) : cref04_fine (l, (i : Int)) = some (builtB l[i] i l.length) := by
  show nref04_fine (iterV (gref04_fine_0 big) big) (l, (i : Int)) = _
  unfold nref04_fine
  dsimp only
  rw [getI_at hi, Option.bind_some]
  generalize l[i] = t at *
  simp only [rfine_str t i hl]
  unfold builtB
  simp only [len0]
  obtain ⟨k, e, n, fs, u⟩ := t
  dsimp only
  simp only [beq_dec, ge_iff_le, idxB]
  generalize areB fs i = A
  generalize decide (fs.length = 0) = D
  generalize decide (e = 0) = E
  generalize decide (n = 0) = F
  have hG : decide (1 ≤ n ∧ n ≤ 16) = (decide (1 ≤ n) && decide (n ≤ 16)) := by by_cases h : 1 ≤ n <;> by_cases h' : n ≤ 16 <;> simp [h, h']
  rw [hG]
  generalize decide (1 ≤ n) = G
  generalize decide (n ≤ 16) = H
  generalize decide (0 ≤ e) = I
  generalize decide (e < (l.length : Int)) = J
  generalize decide (e < (i : Int)) = K
  by_cases h1 : k = 1
  · subst h1; simp; cases E <;> cases F <;> cases D <;> rfl
  by_cases h2 : k = 2
  · subst h2; simp; cases E <;> cases F <;> cases D <;> rfl
  by_cases h3 : k = 3
  · subst h3; simp; cases E <;> cases F <;> cases D <;> rfl
  by_cases h4 : k = 4
  · subst h4; simp; cases I <;> cases J <;> cases F <;> cases D <;> rfl
  by_cases h5 : k = 5
  · subst h5; simp
  by_cases h6 : k = 6
  · subst h6; simp; cases I <;> cases K <;> cases G <;> cases H <;> cases D <;> rfl
  by_cases h7 : k = 7
  · subst h7; simp; cases I <;> cases J <;> cases F <;> cases D <;> rfl
  simp [h1, h2, h3, h4, h5, h6, h7]
end Go.Proofs.Ytegemaonfdfnbaa
