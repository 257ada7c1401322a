/- Runs of values: what is valid, the value at an index, the values and their runs (plain mathematics, no program). -/
import Derived.Test.YtlljcjapefljeaaBase
set_option linter.unusedVariables false
set_option linter.unusedSimpArgs false
namespace Go.Proofs.Ytlljcjapefljeaa
open Go.Lift

abbrev Rn := Int × Int × Unit
/-- the value of the last run that begins not behind i; d where none does -/
def valR (d : Int) (l : List Rn) (i : Int) : Int := l.foldl (fun v r => if r.1 ≤ i then r.2.1 else v) d
/-- runs behind one that begins at f and has the value v -/
def inc : Int → Int → List Rn → Int → Bool
  | _, _, [], _ => true
  | f, v, r :: l, n => (decide (r.1 < n) && (decide (f < r.1) && decide (v ≠ r.2.1))) && inc r.1 r.2.1 l n
def fineR : List Rn → Int → Bool
  | [], _ => false
  | r :: l, n => (decide (r.1 = 0) && decide (0 < n)) && inc 0 r.2.1 l n
def listR (l : List Rn) (n : Nat) : List Int := (List.range' 0 n).map fun (i : Nat) => valR 0 l (i : Int)
def mkR : Nat → Int → List Int → List Rn
  | _, _, [] => []
  | k, p, x :: v => if x = p then mkR (k + 1) p v else ((k : Int), x, ()) :: mkR (k + 1) x v
def madeR : List Int → List Rn
  | [] => []
  | x :: v => (0, x, ()) :: mkR 1 x v
def changesR : Int → List Int → Nat
  | _, [] => 0
  | p, x :: v => (if x = p then 0 else 1) + changesR x v

@[simp] theorem valR_nil (d i : Int) : valR d [] i = d := rfl
theorem valR_cons (d : Int) (r : Rn) (l : List Rn) (i : Int) : valR d (r :: l) i = valR (if r.1 ≤ i then r.2.1 else d) l i := rfl

theorem inc_cons {f v n : Int} {r : Rn} {l : List Rn} : inc f v (r :: l) n = true ↔ (r.1 < n ∧ f < r.1 ∧ v ≠ r.2.1) ∧ inc r.1 r.2.1 l n = true := by
  simp only [inc, Bool.and_eq_true, decide_eq_true_eq]
theorem inc_low : ∀ {l : List Rn} {f v n d i : Int}, inc f v l n = true → i ≤ f → valR d l i = d
  | [], _, _, _, _, _, _, _ => rfl
  | r :: l, f, v, n, d, i, h, hi => by
    obtain ⟨⟨_, h2, _⟩, h4⟩ := inc_cons.1 h
    rw [valR_cons, if_neg (by omega)]
    exact inc_low h4 (by omega)
theorem inc_high : ∀ {l : List Rn} {f v n d i : Int}, inc f v l n = true → n ≤ i + 1 → valR d l i = valR d l (n - 1)
  | [], _, _, _, _, _, _, _ => rfl
  | r :: l, f, v, n, d, i, h, hi => by
    obtain ⟨⟨h1, h2, _⟩, h4⟩ := inc_cons.1 h
    rw [valR_cons, valR_cons, if_pos (by omega), if_pos (by omega)]
    exact inc_high h4 hi
theorem inc_more : ∀ {l : List Rn} {f v n m : Int}, inc f v l n = true → n ≤ m → inc f v l m = true
  | [], _, _, _, _, _, _ => rfl
  | r :: l, f, v, n, m, h, hm => by
    obtain ⟨⟨h1, h2, h3⟩, h4⟩ := inc_cons.1 h
    exact inc_cons.2 ⟨⟨by omega, h2, h3⟩, inc_more h4 hm⟩

/-! ### the runs of a list -/
theorem mkR_inc : ∀ {v : List Int} {k : Nat} {p f n : Int}, f < k → (k : Int) + v.length ≤ n → inc f p (mkR k p v) n = true
  | [], _, _, _, _, _, _ => rfl
  | x :: v, k, p, f, n, hf, hn => by
    simp only [List.length_cons] at hn
    unfold mkR
    split
    · exact mkR_inc (by omega) (by omega)
    · rename_i e
      exact inc_cons.2 ⟨⟨by omega, hf, fun h => e h.symm⟩, mkR_inc (by omega) (by omega)⟩
theorem mkR_val : ∀ {v : List Int} {k i : Nat} {p : Int}, valR p (mkR k p v) (i : Int) = if i < k then p else (v[i - k]?).getD (valR p (mkR k p v) (i : Int))
  | [], k, i, p => by split <;> simp [mkR]
  | x :: v, k, i, p => by
    have low : ∀ q d : Int, i < k + 1 → valR d (mkR (k + 1) q v) (i : Int) = d := fun q d hi => inc_low (n := (k : Int) + 1 + v.length) (mkR_inc (f := (k : Int)) (by omega) (by omega)) (by omega)
    by_cases hi : i < k
    · rw [if_pos hi]
      unfold mkR
      split
      · exact low _ _ (by omega)
      · rw [valR_cons, if_neg (show ¬ (k : Int) ≤ (i : Int) by omega)]
        exact low _ _ (by omega)
    · rw [if_neg hi]
      by_cases he : i = k
      · subst he
        rw [show i - i = 0 by omega]
        simp only [List.getElem?_cons_zero, Option.getD_some]
        unfold mkR
        split
        · rename_i e; rw [low _ _ (by omega), e]
        · rw [valR_cons, if_pos (Int.le_refl _)]; exact low _ _ (by omega)
      · obtain ⟨j, hj⟩ : ∃ j, i - k = j + 1 := ⟨i - k - 1, by omega⟩
        rw [hj, List.getElem?_cons_succ]
        have hj2 : j = i - (k + 1) := by omega
        unfold mkR
        split
        · have := mkR_val (v := v) (k := k + 1) (i := i) (p := p)
          rw [if_neg (by omega), ← hj2] at this
          exact this
        · have := mkR_val (v := v) (k := k + 1) (i := i) (p := x)
          rw [if_neg (by omega), ← hj2] at this
          rw [valR_cons, if_pos (show (k : Int) ≤ (i : Int) by omega)]
          exact this
theorem madeR_fine {v : List Int} (h : v ≠ []) : fineR (madeR v) v.length = true := by
  cases v with
  | nil => exact absurd rfl h
  | cons x v =>
    simp only [madeR, fineR, Bool.and_eq_true, decide_eq_true_eq, List.length_cons]
    exact ⟨⟨trivial, by omega⟩, mkR_inc (by omega) (by omega)⟩
theorem madeR_val {v : List Int} {i : Nat} {x : Int} (h : v[i]? = some x) : valR 0 (madeR v) (i : Int) = x := by
  cases v with
  | nil => simp at h
  | cons y v =>
    unfold madeR
    rw [valR_cons, if_pos (by omega)]
    have := mkR_val (v := v) (k := 1) (i := i) (p := y)
    rw [this]
    cases i with
    | zero => simp at h; rw [if_pos (by omega)]; exact h
    | succ i =>
      rw [if_neg (by omega)]
      simp only [List.getElem?_cons_succ] at h
      simp [h]
theorem listR_len (l : List Rn) (n : Nat) : (listR l n).length = n := by simp [listR]
theorem listR_at {l : List Rn} {n i : Nat} (h : i < n) : (listR l n)[i]? = some (valR 0 l (i : Int)) := by
  simp [listR, h]
theorem list_made (v : List Int) : listR (madeR v) v.length = v := by
  apply List.ext_getElem?
  intro i
  by_cases hi : i < v.length
  · rw [listR_at hi, List.getElem?_eq_getElem hi, madeR_val (List.getElem?_eq_getElem hi)]
  · rw [List.getElem?_eq_none (by rw [listR_len]; omega), List.getElem?_eq_none (by omega)]

/-! ### one table for each list -/
theorem mkR_back : ∀ (m k : Nat) {t : List Rn} {f p : Int}, f < k → (∀ r ∈ t, (k : Int) ≤ r.1) → inc f p t ((k : Int) + m) = true → mkR k p ((List.range' k m).map fun (i : Nat) => valR p t (i : Int)) = t
  | 0, k, t, f, p, hf, ht, h => by
    cases t with
    | nil => rfl
    | cons r t =>
      obtain ⟨⟨h1, _⟩, _⟩ := inc_cons.1 h
      have := ht r (by simp)
      omega
  | m + 1, k, t, f, p, hf, ht, h => by
    rw [List.range'_succ, List.map_cons]
    cases t with
    | nil =>
      unfold mkR
      rw [valR_nil, if_pos rfl]
      exact mkR_back m (k + 1) (t := []) (f := f) (by omega) (by simp) rfl
    | cons r t =>
      obtain ⟨⟨h1, h2, h3⟩, h4⟩ := inc_cons.1 h
      have hk := ht r (by simp)
      by_cases e : r.1 = k
      · have hv : valR p (r :: t) (k : Int) = r.2.1 := by
          rw [valR_cons, if_pos (by omega)]
          exact inc_low h4 (by omega)
        have hin : ∀ r' ∈ t, ((k + 1 : Nat) : Int) ≤ r'.1 := by
          have : ∀ {l : List Rn} {f v n : Int}, inc f v l n = true → ∀ r' ∈ l, f < r'.1 := by
            intro l
            induction l with
            | nil => intro f v n _ r' hr; cases hr
            | cons a l ih =>
              intro f v n h r' hr
              obtain ⟨⟨_, g2, _⟩, g4⟩ := inc_cons.1 h
              rcases List.mem_cons.1 hr with rfl | hr
              · exact g2
              · have := ih g4 r' hr; omega
          intro r' hr
          have := this h4 r' hr
          omega
        have ih := mkR_back m (k + 1) (t := t) (f := r.1) (p := r.2.1) (by omega) hin (by rw [show (((k + 1 : Nat) : Int) + (m : Int)) = (k : Int) + ((m + 1 : Nat) : Int) by omega]; exact h4)
        unfold mkR
        rw [hv, if_neg fun e => h3 e.symm]
        have hm : (List.range' (k + 1) m).map (fun (i : Nat) => valR p (r :: t) (i : Int)) = (List.range' (k + 1) m).map fun (i : Nat) => valR r.2.1 t (i : Int) := by
          apply List.map_congr_left
          intro i hi
          have := (List.mem_range'_1.1 hi).1
          rw [valR_cons, if_pos (by omega)]
        rw [hm, ih]
        obtain ⟨a, b, c⟩ := r
        simp only at e ⊢
        rw [e]
      · have hv : valR p (r :: t) (k : Int) = p := by
          rw [valR_cons, if_neg (by omega)]
          exact inc_low h4 (by omega)
        unfold mkR
        rw [hv, if_pos rfl]
        refine mkR_back m (k + 1) (t := r :: t) (f := f) (p := p) (by omega) (fun r' hr => ?_) (by rw [show (((k + 1 : Nat) : Int) + (m : Int)) = (k : Int) + ((m + 1 : Nat) : Int) by omega]; exact h)
        have h5 := ht r' hr
        rcases List.mem_cons.1 hr with rfl | hr
        · omega
        · have : ∀ {l : List Rn} {f v n : Int}, inc f v l n = true → ∀ r' ∈ l, f < r'.1 := by
            intro l
            induction l with
            | nil => intro f v n _ r' hr; cases hr
            | cons a l ih =>
              intro f v n h r' hr
              obtain ⟨⟨_, g2, _⟩, g4⟩ := inc_cons.1 h
              rcases List.mem_cons.1 hr with rfl | hr
              · exact g2
              · have := ih g4 r' hr; omega
          have := this h4 r' hr
          omega

theorem inc_from : ∀ {l : List Rn} {f v n : Int}, inc f v l n = true → ∀ r ∈ l, f < r.1 ∧ r.1 < n
  | [], _, _, _, _, r, hr => by cases hr
  | a :: l, f, v, n, h, r, hr => by
    obtain ⟨⟨h1, h2, _⟩, h4⟩ := inc_cons.1 h
    rcases List.mem_cons.1 hr with rfl | hr
    · exact ⟨h2, h1⟩
    · have := inc_from h4 r hr; omega

theorem made_list {l : List Rn} {n : Nat} (h : fineR l n = true) : madeR (listR l n) = l := by
  cases l with
  | nil => cases h
  | cons r t =>
    simp only [fineR, Bool.and_eq_true, decide_eq_true_eq] at h
    obtain ⟨⟨h1, h2⟩, h3⟩ := h
    obtain ⟨m, rfl⟩ : ∃ m, n = m + 1 := ⟨n - 1, by omega⟩
    unfold listR
    rw [List.range'_succ, List.map_cons]
    have h0 : valR 0 (r :: t) ((0 : Nat) : Int) = r.2.1 := by
      rw [valR_cons, if_pos (by omega)]
      exact inc_low h3 (by omega)
    rw [h0]
    show (0, r.2.1, ()) :: mkR 1 r.2.1 ((List.range' (0 + 1) m).map fun (i : Nat) => valR 0 (r :: t) (i : Int)) = r :: t
    have hm : (List.range' (0 + 1) m).map (fun (i : Nat) => valR 0 (r :: t) (i : Int)) = (List.range' 1 m).map fun (i : Nat) => valR r.2.1 t (i : Int) := by
      apply List.map_congr_left
      intro i hi
      rw [valR_cons, if_pos (by omega)]
    rw [hm, mkR_back m 1 (t := t) (f := 0) (p := r.2.1) (by omega) (fun r' hr => by have := (inc_from h3 r' hr).1; omega) (by rw [show (((1 : Nat) : Int) + (m : Int)) = ((m + 1 : Nat) : Int) by omega]; exact h3)]
    obtain ⟨a, b, c⟩ := r
    simp only at h1 ⊢
    rw [h1]

theorem changes_len : ∀ {v : List Int} {k : Nat} {p : Int}, (mkR k p v).length = changesR p v
  | [], _, _ => rfl
  | x :: v, k, p => by
    unfold mkR changesR
    split
    · rename_i e; subst e; rw [changes_len]; omega
    · rw [List.length_cons, changes_len]; omega

/-! ### more instructions -/
theorem fineR_more {l : List Rn} {n m : Int} (h : fineR l n = true) (hm : n ≤ m) : fineR l m = true := by
  cases l with
  | nil => cases h
  | cons r t =>
    simp only [fineR, Bool.and_eq_true, decide_eq_true_eq] at h ⊢
    exact ⟨⟨h.1.1, by omega⟩, inc_more h.2 hm⟩
theorem valR_more {l : List Rn} {n : Int} (h : fineR l n = true) {i : Int} (hi : n ≤ i + 1) : valR 0 l i = valR 0 l (n - 1) := by
  cases l with
  | nil => cases h
  | cons r t =>
    simp only [fineR, Bool.and_eq_true, decide_eq_true_eq] at h
    rw [valR_cons, valR_cons, if_pos (by omega), if_pos (by omega)]
    exact inc_high h.2 hi
theorem fineR_len {l : List Rn} {n : Nat} (h : fineR l n = true) : l.length ≤ n := by
  have key : ∀ {t : List Rn} {f v : Int}, inc f v t n = true → (t.length : Int) + f < n ∨ t = [] := by
    intro t
    induction t with
    | nil => intro f v _; exact .inr rfl
    | cons r t ih =>
      intro f v h
      obtain ⟨⟨h1, h2, _⟩, h4⟩ := inc_cons.1 h
      left
      rcases ih h4 with h5 | rfl
      · simp only [List.length_cons]; omega
      · simp only [List.length_cons, List.length_nil]; omega
  cases l with
  | nil => simp
  | cons r t =>
    simp only [fineR, Bool.and_eq_true, decide_eq_true_eq] at h
    rcases key h.2 with h5 | rfl
    · simp only [List.length_cons]; omega
    · simp only [List.length_cons, List.length_nil]; omega
end Go.Proofs.Ytlljcjapefljeaa
