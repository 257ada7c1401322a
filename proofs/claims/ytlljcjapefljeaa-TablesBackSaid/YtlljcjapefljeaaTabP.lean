/- Package tables: what its functions compute. -/
import Derived.Test.YtlljcjapefljeaaTabD
set_option linter.unusedVariables false
set_option linter.unusedSimpArgs false
set_option maxRecDepth 100000
namespace Go.Proofs.Ytlljcjapefljeaa
open Go.Lift

theorem tnth {α : Type} : ∀ (xs : List α) (i : Nat), nth xs i = xs[i]?
  | [], 0 => rfl
  | [], i + 1 => rfl
  | _ :: _, 0 => rfl
  | x :: xs, i + 1 => (tnth xs i).trans List.getElem?_cons_succ.symm

theorem count_eq8 (n : Int) : ctables_isCount n = some (decide (1 ≤ n ∧ n ≤ 200)) := by
  show ntables_isCount n = _
  unfold ntables_isCount
  by_cases h : 1 ≤ n
  · rw [decide_eq_true (show n ≥ 1 by omega), cond_true]
    congr 1
    by_cases h2 : n ≤ 200 <;> simp [h, h2]
  · rw [decide_eq_false (show ¬ n ≥ 1 by omega), cond_false]
    simp [h]

theorem same_eq8 (a b : Rn) : ctables_sameValue (a, b) = some (decide (a.2.1 = b.2.1)) := by
  show some (eqD (.pair (.int .i64) (.pair (.int .u64) .unit)) (b.1, a.2) b) = _
  congr 1
  obtain ⟨a1, a2, a3⟩ := a
  obtain ⟨b1, b2, b3⟩ := b
  by_cases h : a2 = b2
  · subst h
    rw [decide_eq_true rfl]
    exact eqD_self _ _
  · rw [decide_eq_false h]
    refine eqD_false fun e => h ?_
    have := congrArg (fun z : Rn => z.2.1) e
    exact this

/-! ### what is valid -/
/-- runs that stand side by side -/
def incP : Int → Int → List Rn → Bool
  | _, _, [] => true
  | f, v, r :: l => (decide (f < r.1) && decide (v ≠ r.2.1)) && incP r.1 r.2.1 l
def lastF : Int → List Rn → Int
  | f, [] => f
  | _, r :: l => lastF r.1 l
theorem lastF_ge : ∀ {l : List Rn} {f v : Int}, incP f v l = true → f ≤ lastF f l
  | [], f, v, _ => Int.le_refl _
  | r :: l, f, v, h => by
    simp only [incP, Bool.and_eq_true, decide_eq_true_eq] at h
    have := lastF_ge h.2
    simp only [lastF]
    omega
theorem inc_split : ∀ {l : List Rn} {f v n : Int}, f < n → (inc f v l n = true ↔ incP f v l = true ∧ lastF f l < n)
  | [], f, v, n, hf => by simp [inc, incP, lastF, hf]
  | r :: l, f, v, n, hf => by
    rw [inc_cons]
    simp only [incP, lastF, Bool.and_eq_true, decide_eq_true_eq]
    constructor
    · rintro ⟨⟨h1, h2, h3⟩, h4⟩
      have := (inc_split h1).1 h4
      exact ⟨⟨⟨h2, h3⟩, this.1⟩, this.2⟩
    · rintro ⟨⟨⟨h2, h3⟩, h4⟩, h5⟩
      have := lastF_ge h4
      have h1 : r.1 < n := by omega
      exact ⟨⟨h1, h2, h3⟩, (inc_split h1).2 ⟨h4, h5⟩⟩
theorem lastF_at : ∀ (r : Rn) (t : List Rn), ∃ z, (r :: t)[t.length]? = some z ∧ z.1 = lastF r.1 t
  | r, [] => ⟨r, rfl, rfl⟩
  | r, b :: t => by
    obtain ⟨z, h1, h2⟩ := lastF_at b t
    exact ⟨z, by simpa using h1, h2⟩

theorem chk_loop8 (N : Nat) : ∀ (t pre : List Rn) (a : Rn) (M : Nat), pre.length + t.length + 1 ≤ 9223372036854775807 → t.length < M →
    iterV (gtables_Check_0 N) M (pre ++ a :: t, ((pre.length + t.length : Nat) : Int), ((pre.length : Nat) : Int)) = some (if incP a.1 a.2.1 t = true then 0 else 8)
  | [], pre, a, M + 1, hl, hM => by
    rw [iterV_succ]
    show htables_Check_0 _ _ = _
    unfold htables_Check_0
    dsimp only
    rw [decide_eq_false (by simp), cond_false]
    rfl
  | b :: t, pre, a, M + 1, hl, hM => by
    rw [iterV_succ]
    show htables_Check_0 _ _ = _
    unfold htables_Check_0
    dsimp only
    simp only [List.length_cons] at hl hM
    have e1 : getI (pre ++ a :: b :: t) ((pre.length + 1 : Nat) : Int) = some b := by
      rw [show pre ++ a :: b :: t = (pre ++ [a]) ++ b :: t by simp]
      exact tget (by simp)
    have e2 : getI (pre ++ a :: b :: t) ((pre.length : Nat) : Int) = some a := tget rfl
    have e4 : IntKind.i64.wrap (((pre.length : Nat) : Int) + 1) = ((pre.length + 1 : Nat) : Int) := by rw [t64 (by omega) (by omega)]; simp
    rw [decide_eq_true (show ((pre.length : Nat) : Int) < ((pre.length + (b :: t).length : Nat) : Int) by simp only [List.length_cons]; omega), cond_true]
    simp only [e1, e2, e4, Option.bind_some, same_eq8]
    have ih := chk_loop8 N t (pre ++ [a]) b M (by simp; omega) (by omega)
    rw [show (pre ++ [a]) ++ b :: t = pre ++ a :: b :: t by simp, show (pre ++ [a]).length + t.length = pre.length + (b :: t).length by simp; omega, show (pre ++ [a]).length = pre.length + 1 by simp] at ih
    unfold incP
    by_cases h1 : a.1 < b.1
    · rw [decide_eq_false (show ¬ a.1 ≥ b.1 by omega), cond_false, decide_eq_true h1, Bool.true_and]
      by_cases h2 : a.2.1 = b.2.1
      · rw [decide_eq_true h2, cond_true, decide_eq_false (not_not_intro h2), Bool.false_and]
        rfl
      · rw [decide_eq_false h2, cond_false, decide_eq_true h2, Bool.true_and]
        exact ih
    · rw [decide_eq_true (show a.1 ≥ b.1 by omega), cond_true, decide_eq_false h1]
      rfl

theorem pCheck_eq (l : List Rn) (n : Int) (hl : l.length ≤ 9223372036854775807) : ctables_Check (l, n) = some (checkR l n) := by
  show ntables_Check (iterV (gtables_Check_0 big) big) (l, n) = _
  unfold ntables_Check checkR
  dsimp only
  rw [count_eq8, Option.bind_some]
  by_cases hn : 1 ≤ n ∧ n ≤ 200
  · rw [decide_eq_true hn, Bool.not_true, cond_false, if_neg (by omega)]
    cases l with
    | nil => rfl
    | cons r t =>
      simp only [List.length_cons] at hl
      rw [show (((r :: t).length : Int) == 0) = false by simp; omega, cond_false, tget0, Option.bind_some]
      have hx : IntKind.i64.wrap (((r :: t).length : Int) - 1) = ((t.length : Nat) : Int) := by
        simp only [List.length_cons]
        rw [t64 (by omega) (by omega)]
        omega
      obtain ⟨z, hz1, hz2⟩ := lastF_at r t
      simp only [hx, getI_nat, hz1, Option.bind_some]
      show _ = some (if ((decide (r.1 = 0) && decide (0 < n)) && inc 0 r.2.1 t n) = true then 0 else 8)
      by_cases h0 : r.1 = 0
      · rw [show (r.1 != 0) = false by simp [h0], cond_false, decide_eq_true h0, decide_eq_true (show 0 < n by omega), Bool.true_and, Bool.true_and]
        have hs := inc_split (l := t) (f := r.1) (v := r.2.1) (n := n) (by omega)
        rw [h0] at hs hz2
        by_cases hlast : z.1 ≥ n
        · rw [decide_eq_true hlast, cond_true, if_neg (fun h => by have := (hs.1 h).2; omega)]
        · rw [decide_eq_false hlast, cond_false]
          have := chk_loop8 big t [] r big (by simp; omega) (tbigm (by omega))
          simp only [List.nil_append, List.length_nil, Nat.zero_add, h0] at this
          refine this.trans ?_
          congr 1
          by_cases hp : incP 0 r.2.1 t = true
          · rw [if_pos hp, if_pos (hs.2 ⟨hp, by omega⟩)]
          · rw [if_neg hp, if_neg (fun h => hp (hs.1 h).1)]
      · rw [show (r.1 != 0) = true by simp [h0], cond_true, decide_eq_false h0]
        rfl
  · rw [decide_eq_false hn, Bool.not_false, cond_true, if_pos (by omega)]

/-! ### looking up -/
theorem val_at {i : Int} : ∀ (l : List Rn) (d : Int) (p : Nat), p ≤ l.length → (∀ j x, l[j]? = some x → (x.1 ≤ i ↔ j < p)) → valR d l i = if p = 0 then d else ((l[p - 1]?).map fun x => x.2.1).getD d
  | [], d, p, hp, _ => by
    have : p = 0 := by simpa using hp
    simp [this]
  | r :: l, d, 0, hp, h => by
    have hr : ¬ r.1 ≤ i := fun hh => by have := (h 0 r rfl).1 hh; omega
    rw [valR_cons, if_neg hr]
    have := val_at (i := i) l d 0 (by omega) fun j x hx => by
      have := h (j + 1) x (by simpa using hx)
      omega
    simpa using this
  | r :: l, d, q + 1, hp, h => by
    have hr : r.1 ≤ i := (h 0 r rfl).2 (by omega)
    rw [valR_cons, if_pos hr]
    simp only [List.length_cons] at hp
    have := val_at (i := i) l r.2.1 q (by omega) fun j x hx => by
      have := h (j + 1) x (by simpa using hx)
      omega
    rw [this]
    cases q with
    | zero => simp
    | succ q =>
      have hq : q < l.length := by omega
      simp [hq]

theorem inc_mono : ∀ {l : List Rn} {f v n : Int}, inc f v l n = true → ∀ (j k : Nat) (x y : Rn), j < k → l[j]? = some x → l[k]? = some y → x.1 < y.1
  | [], _, _, _, _, _, _, _, _, _, h, _ => by simp at h
  | r :: l, f, v, n, h, j, k + 1, x, y, hjk, hx, hy => by
    have h4 := (inc_cons.1 h).2
    simp only [List.getElem?_cons_succ] at hy
    cases j with
    | zero =>
      simp only [List.getElem?_cons_zero, Option.some.injEq] at hx
      subst hx
      exact (inc_from h4 y (List.mem_of_getElem? hy)).1
    | succ j =>
      simp only [List.getElem?_cons_succ] at hx
      exact inc_mono h4 j k x y (by omega) hx hy
theorem fine_mono {l : List Rn} {n : Int} (h : fineR l n = true) {j k : Nat} {x y : Rn} (hjk : j < k) (hx : l[j]? = some x) (hy : l[k]? = some y) : x.1 < y.1 := by
  obtain ⟨v, hv⟩ := fine_inc h
  exact inc_mono hv j k x y hjk hx hy
theorem fine_range {l : List Rn} {n : Int} (h : fineR l n = true) {x : Rn} (hx : x ∈ l) : 0 ≤ x.1 ∧ x.1 < n := by
  obtain ⟨v, hv⟩ := fine_inc h
  have := inc_from hv x hx
  omega
theorem fine_first {l : List Rn} {n : Int} (h : fineR l n = true) : ∃ r t, l = r :: t ∧ r.1 = 0 := by
  cases l with
  | nil => cases h
  | cons r t => simp only [fineR, Bool.and_eq_true, decide_eq_true_eq] at h; exact ⟨r, t, rfl, h.1.1⟩

theorem at_loop8 (N : Nat) {l : List Rn} {n i : Int} (hf : fineR l n = true) (hl : l.length ≤ 1000000) (h0 : 0 ≤ i) : ∀ (M lo hi : Nat), lo ≤ hi → hi ≤ l.length → (∀ j x, l[j]? = some x → j < lo → x.1 ≤ i) → (∀ j x, l[j]? = some x → hi ≤ j → i < x.1) → hi - lo < M →
    iterV (gtables_At_0 N) M ((lo : Int), (hi : Int), l, i) = some (valR 0 l i, 0)
  | 0, _, _, _, _, _, _, hM => by omega
  | M + 1, lo, hi, hlh, hhl, hlow, hhigh, hM => by
    rw [iterV_succ]
    show htables_At_0 _ _ = _
    unfold htables_At_0
    dsimp only
    by_cases hlt : lo < hi
    · rw [decide_eq_true (show (lo : Int) < (hi : Int) by omega), cond_true]
      have hs : IntKind.i64.wrap ((lo : Int) + (hi : Int)) = ((lo + hi : Nat) : Int) := by rw [t64 (by omega) (by omega)]; simp
      have hu : IntKind.u64.wrap ((lo + hi : Nat) : Int) = ((lo + hi : Nat) : Int) := by rw [wrap_u64]; omega
      have hm : (((lo + hi : Nat) : Int)).fdiv (2 ^ 1) = (((lo + hi) / 2 : Nat) : Int) := fdiv_nat (lo + hi) 1
      have hw : IntKind.i64.wrap ((((lo + hi) / 2 : Nat)) : Int) = (((lo + hi) / 2 : Nat) : Int) := t64 (by omega) (by omega)
      have hk : (lo + hi) / 2 < l.length := by omega
      have hg : getI l (((lo + hi) / 2 : Nat) : Int) = some l[(lo + hi) / 2] := getI_at hk
      have hx : l[(lo + hi) / 2]? = some l[(lo + hi) / 2] := List.getElem?_eq_getElem hk
      simp only [hs, hu, hm, hw, hg, Option.bind_some]
      generalize l[(lo + hi) / 2] = x at hx hg
      have mono : ∀ j y, l[j]? = some y → j < (lo + hi) / 2 → y.1 < x.1 := fun j y hy hj => fine_mono hf hj hy hx
      have mono2 : ∀ j y, l[j]? = some y → (lo + hi) / 2 < j → x.1 < y.1 := fun j y hy hj => fine_mono hf hj hx hy
      by_cases hc : x.1 > i
      · rw [decide_eq_true hc, Bool.not_true, cond_false]
        refine at_loop8 N hf hl h0 M lo ((lo + hi) / 2) (by omega) (by omega) hlow (fun j y hy hj => ?_) (by omega)
        by_cases he : j = (lo + hi) / 2
        · subst he
          rw [hx] at hy
          cases hy
          omega
        · have := mono2 j y hy (by omega)
          omega
      · rw [decide_eq_false hc, Bool.not_false, cond_true]
        rw [show IntKind.i64.wrap ((((lo + hi) / 2 : Nat) : Int) + 1) = (((lo + hi) / 2 + 1 : Nat) : Int) by rw [t64 (by omega) (by omega)]; simp]
        refine at_loop8 N hf hl h0 M ((lo + hi) / 2 + 1) hi (by omega) hhl (fun j y hy hj => ?_) hhigh (by omega)
        by_cases he : j = (lo + hi) / 2
        · subst he
          rw [hx] at hy
          cases hy
          omega
        · have := mono j y hy (by omega)
          omega
    · rw [decide_eq_false (show ¬ (lo : Int) < (hi : Int) by omega), cond_false]
      have : lo = hi := by omega
      subst this
      obtain ⟨r, t, rfl, hr⟩ := fine_first hf
      have hpos : 0 < lo := by
        rcases Nat.eq_zero_or_pos lo with h | h
        · subst h
          have := hhigh 0 r rfl (Nat.le_refl _)
          omega
        · exact h
      have hk : lo - 1 < (r :: t).length := by omega
      rw [show IntKind.i64.wrap ((lo : Int) - 1) = ((lo - 1 : Nat) : Int) by rw [t64 (by omega) (by omega)]; omega, getI_at hk, Option.bind_some]
      rw [val_at (r :: t) 0 lo hhl fun j x hx => ⟨fun h => by
        apply Classical.byContradiction
        intro hn
        have := hhigh j x hx (by omega)
        omega, fun h => hlow j x hx h⟩, if_neg (by omega), List.getElem?_eq_getElem hk]
      rfl

theorem pAt_eq (l : List Rn) (n i : Int) (hl : l.length ≤ 9223372036854775807) : ctables_At (l, n, i) = some (atR l n i) := by
  show ntables_At (iterV (gtables_At_0 big) big) (l, n, i) = _
  unfold ntables_At atR
  dsimp only
  rw [pCheck_eq l n hl, Option.bind_some]
  by_cases h : checkR l n = 0
  · obtain ⟨hn, hf⟩ := checkR_zero.1 h
    have hlen := checkR_len h
    rw [h, show ((0 : Int) != 0) = false from rfl, cond_false, if_neg (by simp)]
    by_cases h1 : i < 0
    · rw [decide_eq_true h1, cond_true, if_neg (by omega)]
    · rw [decide_eq_false h1, cond_false]
      by_cases h2 : i ≥ n
      · rw [decide_eq_true h2, cond_true, if_neg (by omega)]
      · rw [decide_eq_false h2, cond_false, if_pos (by omega)]
        exact at_loop8 big hf (by omega) (by omega) big 0 l.length (Nat.zero_le _) (Nat.le_refl _) (fun j x _ hj => by omega) (fun j x hx hj => by
          have := (List.getElem?_eq_some_iff.1 hx).1
          omega) (tbig (by omega))
  · rw [show (checkR l n != 0) = true by simpa using h, cond_true, if_pos h]

/-! ### the values -/
theorem fill_loop8 (mk : (α : Type) → Nat → α → List α) (N : Nat) (self0 : Int × List Int × Int × List Rn → Option (List Int × Int)) (lo hi : Nat) (x e i : Int) (r : Rn) (l : List Rn) (hlh : lo ≤ hi) (hb : hi ≤ 1000000) :
    ∀ (m k : Nat) (vs : List Int) (M : Nat), k + m = hi - lo → hi ≤ vs.length → m < M →
      iterV (gtables_List_1 mk N self0) M (lo, hi, x, ((hi - lo : Nat) : Int), (k : Int), vs, e, r, l, i) = self0 (IntKind.i64.wrap (i - 1), vs.take (lo + k) ++ (List.replicate m x ++ vs.drop hi), r.1, l)
  | 0, k, vs, M + 1, hk, hv, hM => by
    rw [iterV_succ]
    show htables_List_1 _ _ _ _ = _
    unfold htables_List_1
    dsimp only
    rw [decide_eq_false (by omega), cond_false, show lo + k = hi by omega]
    simp
  | m + 1, k, vs, M + 1, hk, hv, hM => by
    rw [iterV_succ]
    show htables_List_1 _ _ _ _ = _
    unfold htables_List_1
    dsimp only
    rw [decide_eq_true (show (k : Int) < ((hi - lo : Nat) : Int) by omega), cond_true, decide_eq_true (show (0 : Int) ≤ (k : Int) by omega), decide_eq_true (show (k : Int) < (hi : Int) - (lo : Int) by omega), Bool.and_self, cond_true]
    rw [show Int.toNat ((lo : Int) + (k : Int)) = lo + k by omega, show IntKind.i64.wrap ((k : Int) + 1) = ((k + 1 : Nat) : Int) by rw [t64 (by omega) (by omega)]; simp]
    have ih := fill_loop8 mk N self0 lo hi x e i r l hlh hb m (k + 1) (vs.set (lo + k) x) M (by omega) (by simpa using hv) (by omega)
    refine ih.trans ?_
    congr 2
    rw [show lo + (k + 1) = lo + k + 1 by omega, take_set_self vs (lo + k) x (by omega), List.drop_set_of_lt (by omega)]
    simp [List.replicate_succ]

theorem list_loop8 (N : Nat) (hN : 1000 < N) {l : List Rn} {n : Nat} (hll : l.length ≤ 1000000) (hf : fineR l n = true) (hn : n ≤ 200) : ∀ (p : Nat) (e : Int) (vs : List Int) (M : Nat), p ≤ l.length → 0 ≤ e → e ≤ n → vs.length = n → vs.drop e.toNat = (listR l n).drop e.toNat → (p = 0 → e = 0) →
    (∀ j x, l[j]? = some x → j < p → x.1 < e) → (∀ j x, l[j]? = some x → p ≤ j → e ≤ x.1) → p < M →
    iterV (gtables_List_0 (fun _ => List.replicate) N) M ((p : Int) - 1, vs, e, l) = some (listR l n, 0)
  | 0, e, vs, M + 1, hp, h0, h1, hv, hd, hz, hlow, hhigh, hM => by
    rw [iterV_succ]
    show htables_List_0 _ _ _ _ = _
    unfold htables_List_0
    dsimp only
    rw [decide_eq_false (by omega), cond_false]
    have := hz rfl
    subst this
    simpa using hd
  | p + 1, e, vs, M + 1, hp, h0, h1, hv, hd, hz, hlow, hhigh, hM => by
    rw [iterV_succ]
    show htables_List_0 _ _ _ _ = _
    unfold htables_List_0
    dsimp only
    have hk : p < l.length := by omega
    have hx : l[p]? = some l[p] := List.getElem?_eq_getElem hk
    rw [show (((p + 1 : Nat) : Int) - 1) = (p : Int) by omega, decide_eq_true (show (p : Int) ≥ 0 by omega), cond_true, getI_at hk, Option.bind_some]
    have hrg := fine_range hf (List.mem_of_getElem? hx)
    have hlt := hlow p _ hx (by omega)
    have h0p : p = 0 → l[p].1 = 0 := by
      intro h
      subst h
      obtain ⟨r, t, rfl, hr⟩ := fine_first hf
      exact hr
    generalize l[p] = x at hx hrg hlt h0p
    obtain ⟨f, hfe⟩ := Int.eq_ofNat_of_zero_le hrg.1
    obtain ⟨E, rfl⟩ := Int.eq_ofNat_of_zero_le h0
    rw [decide_eq_true h0, decide_eq_true (show (E : Int) ≤ (vs.length : Int) by omega), Bool.and_self, cond_true, decide_eq_true hrg.1, decide_eq_true (show x.1 ≤ (E : Int) by omega), decide_eq_true (show (E : Int) ≤ ((Int.toNat (E : Int)) : Int) by omega), Bool.and_self, Bool.and_self, cond_true]
    have ef : Int.toNat x.1 = f := by omega
    rw [ef, show Int.toNat (E : Int) = E from rfl, show (List.length (List.drop f (List.take E vs)) : Int) = ((E - f : Nat) : Int) by simp; omega]
    have hfl := fill_loop8 (fun _ => List.replicate) N (iterV (gtables_List_0 (fun _ => List.replicate) N) M) f E x.2.1 (E : Int) (p : Int) x l (by omega) (by omega) (E - f) 0 vs N (by omega) (by omega)
    refine (hfl (by omega)).trans ?_
    rw [t64 (by omega) (by omega)]
    have hvf : ∀ j : Nat, f ≤ j → j < E → valR 0 l (j : Int) = x.2.1 := by
      intro j hj1 hj2
      rw [val_at l 0 (p + 1) hp fun k y hy => ⟨fun h => by
        apply Classical.byContradiction
        intro hn
        have := hhigh k y hy (by omega)
        omega, fun h => by
          by_cases he : k = p
          · subst he; rw [hx] at hy; cases hy; omega
          · have := fine_mono hf (show k < p by omega) hy hx; omega⟩, if_neg (by omega), Nat.add_sub_cancel, hx]
      rfl
    refine list_loop8 N hN hll hf hn p x.1 _ M (by omega) hrg.1 (by omega) ?_ ?_ h0p ?_ ?_ (by omega)
    · simp; omega
    · rw [ef]
      apply List.ext_getElem?
      intro j
      rw [List.getElem?_drop, List.getElem?_drop, Nat.add_zero, List.getElem?_append_right (by simp; omega), show (List.take f vs).length = f by simp; omega, Nat.add_sub_cancel_left]
      by_cases hj : j < E - f
      · rw [List.getElem?_append_left (by simpa using hj), List.getElem?_replicate, if_pos hj, listR_at (by omega), hvf (f + j) (by omega) (by omega)]
      · rw [List.getElem?_append_right (by simp; omega), List.length_replicate]
        have := congrArg (fun z => z[j - (E - f)]?) hd
        simp only [Int.toNat_natCast] at this
        rw [this, List.getElem?_drop]
        congr 1
        omega
    · intro j y hy hj
      exact fine_mono hf hj hy hx
    · intro j y hy hj
      by_cases he : j = p
      · subst he; rw [hx] at hy; cases hy; exact Int.le_refl _
      · exact Int.le_of_lt (fine_mono hf (show p < j by omega) hx hy)

theorem pList_eq (l : List Rn) (n : Int) (hl : l.length ≤ 9223372036854775807) : ctables_List (l, n) = some (listE l n) := by
  show ntables_List (fun _ => List.replicate) (iterV (gtables_List_0 (fun _ => List.replicate) big) big) (l, n) = _
  unfold ntables_List listE
  dsimp only
  rw [pCheck_eq l n hl, Option.bind_some]
  by_cases h : checkR l n = 0
  · obtain ⟨hn, hf⟩ := checkR_zero.1 h
    have hlen := checkR_len h
    obtain ⟨m, rfl⟩ := Int.eq_ofNat_of_zero_le (show 0 ≤ n by omega)
    rw [h, show ((0 : Int) != 0) = false from rfl, cond_false, if_neg (by simp), decide_eq_true (show (0 : Int) ≤ (m : Int) by omega), decide_eq_true (Int.le_refl _), decide_eq_true (show (m : Int) ≤ 68719476736 by omega), Bool.and_self, Bool.and_self, Bool.and_self, cond_true]
    rw [t64 (by omega) (by omega)]
    refine list_loop8 big (by decide) (by omega) hf (by omega) l.length (m : Int) _ big (Nat.le_refl _) (by omega) (Int.le_refl _) (by simp) ?_ (fun h => ?_) (fun j x hx _ => (fine_range hf (List.mem_of_getElem? hx)).2) (fun j x hx hj => by
      have := (List.getElem?_eq_some_iff.1 hx).1
      omega) (tbig (by omega))
    · rw [Int.toNat_natCast, List.drop_of_length_le (by simp), List.drop_of_length_le (by rw [listR_len]; exact Nat.le_refl _)]
    · obtain ⟨r, t, rfl, _⟩ := fine_first hf
      simp at h
  · rw [show (checkR l n != 0) = true by simpa using h, cond_true, if_pos h]

/-! ### the runs of a list -/
theorem make_loop8 (N : Nat) : ∀ (t pre : List Int) (q p : Int) (out : List Rn) (M : Nat), pre.length + t.length ≤ 1000000 → out.length + t.length + 1 ≤ 1000000 → t.length < M →
    iterV (gtables_Make_0 N) M (pre ++ t, ((pre ++ t).length : Int), ((pre.length : Nat) : Int), out ++ [(q, p, ())]) = some (out ++ ((q, p, ()) :: mkR pre.length p t), 0)
  | [], pre, q, p, out, M + 1, hl, ho, hM => by
    rw [iterV_succ]
    show htables_Make_0 _ _ = _
    unfold htables_Make_0
    dsimp only
    rw [decide_eq_false (by simp), cond_false]
    rfl
  | x :: t, pre, q, p, out, M + 1, hl, ho, hM => by
    rw [iterV_succ]
    show htables_Make_0 _ _ = _
    unfold htables_Make_0
    dsimp only
    simp only [List.length_cons] at hl ho hM
    have e1 : getI (pre ++ x :: t) ((pre.length : Nat) : Int) = some x := tget rfl
    have e2 : IntKind.i64.wrap (((out ++ [(q, p, ())]).length : Int) - 1) = ((out.length : Nat) : Int) := by
      simp only [List.length_append, List.length_cons, List.length_nil]
      rw [t64 (by omega) (by omega)]
      omega
    have e3 : nth (out ++ [(q, p, ())]) out.length = some (q, p, ()) := by
      rw [tnth]
      simp
    have e4 : IntKind.i64.wrap (((pre.length : Nat) : Int) + 1) = (((pre ++ [x]).length : Nat) : Int) := by rw [t64 (by omega) (by omega)]; simp
    rw [decide_eq_true (show ((pre.length : Nat) : Int) < ((pre ++ x :: t).length : Int) by simp; omega), cond_true]
    simp only [e1, e2, Option.bind_some]
    rw [decide_eq_true (show (0 : Int) ≤ ((out.length : Nat) : Int) by omega), decide_eq_true (show ((out.length : Nat) : Int) < (((out ++ [(q, p, ())]).length : Nat) : Int) by simp; omega), Bool.and_self, cond_true, Int.toNat_natCast, e3, Option.bind_some, same_eq8, Option.bind_some]
    unfold mkR
    by_cases h : p = x
    · rw [decide_eq_true h, Bool.not_true, cond_false, if_pos h.symm, e4]
      have ih := make_loop8 N t (pre ++ [x]) q p out M (by simp; omega) (by omega) (by omega)
      rw [show (pre ++ [x]) ++ t = pre ++ x :: t by simp] at ih
      rw [ih]
      simp
    · rw [decide_eq_false h, Bool.not_false, cond_true, if_neg (Ne.symm h), show Nat.ble 1 2 = true from rfl, ble_lim (by simp; omega), Bool.and_self, cond_true, e4]
      have ih := make_loop8 N t (pre ++ [x]) ((pre.length : Nat) : Int) x (out ++ [(q, p, ())]) M (by simp; omega) (by simp; omega) (by omega)
      rw [show (pre ++ [x]) ++ t = pre ++ x :: t by simp] at ih
      refine ih.trans ?_
      simp
theorem pMake_eq (v : List Int) : ctables_Make v = some (makeR v) := by
  show ntables_Make (iterV (gtables_Make_0 big) big) v = _
  unfold ntables_Make makeR
  dsimp only
  rw [count_eq8, Option.bind_some]
  by_cases h : v.length < 1 ∨ v.length > 200
  · rw [decide_eq_false (by omega), Bool.not_false, cond_true, if_pos h]
  · rw [decide_eq_true (by omega), Bool.not_true, cond_false, if_neg h]
    cases v with
    | nil => simp at h
    | cons x t =>
      simp only [List.length_cons] at h
      rw [tget0, Option.bind_some]
      rw [big_pos, iterV_succ]
      have := make_loop8 big (x :: t) [] 0 x [] big (by simp; omega) (by simp; omega) (tbig (by simp only [List.length_cons]; omega))
      rw [big_pos, iterV_succ] at this
      refine this.trans ?_
      simp [mkR, madeR]

/-! ### bytes -/
theorem enc_loop8 (N : Nat) {n : Int} (hn : n ≤ 200) : ∀ (t pre : List Rn) (f v : Int) (out : List Int) (M : Nat), inc f v t n = true → -1 ≤ f → (∀ r ∈ t, 0 ≤ r.2.1 ∧ r.2.1 < 18446744073709551616) → pre.length + t.length ≤ 1000000 → out.length + 20 * t.length ≤ 1000000 → t.length < M → ∀ w : Int, (0 ≤ w ∧ w ≤ 200 ∧ (w ≤ f + 1)) →
    iterV (gtables_Encode_0 N) M (w, pre ++ t, ((pre ++ t).length : Int), ((pre.length : Nat) : Int), out) = some (out ++ segR w t, 0)
  | [], pre, f, v, out, M + 1, hi, hf, hv, hl, ho, hM, w, hw => by
    rw [iterV_succ]
    show htables_Encode_0 _ _ = _
    unfold htables_Encode_0
    dsimp only
    rw [decide_eq_false (by simp), cond_false]
    simp [segR]
  | r :: t, pre, f, v, out, M + 1, hi, hf, hv, hl, ho, hM, w, hw => by
    rw [iterV_succ]
    show htables_Encode_0 _ _ = _
    unfold htables_Encode_0
    dsimp only
    simp only [List.length_cons] at hl ho hM
    obtain ⟨⟨h1, h2, h3⟩, h4⟩ := inc_cons.1 hi
    have hr := hv r (by simp)
    have e4 : IntKind.i64.wrap (((pre.length : Nat) : Int) + 1) = (((pre ++ [r]).length : Nat) : Int) := by rw [t64 (by omega) (by omega)]; simp
    have ea : IntKind.u64.wrap (IntKind.i64.wrap (r.1 - w)) = (((r.1 - w).toNat : Nat) : Int) := by rw [t64 (by omega) (by omega), wrap_u64]; omega
    have eb : cwire_Vary r.2.1 = some (vary r.2.1.toNat) := by
      have := vary_eq r.2.1.toNat (by omega)
      rwa [Int.toNat_of_nonneg hr.1] at this
    have la := vary_len (r.1 - w).toNat
    have lb := vary_len r.2.1.toNat
    have ih := enc_loop8 N hn t (pre ++ [r]) r.1 r.2.1 (out ++ vary (r.1 - w).toNat ++ vary r.2.1.toNat) M h4 (by omega) (fun x hx => hv x (by simp [hx])) (by simp; omega) (by simp only [List.length_append]; omega) (by omega) r.1 (by omega)
    simp only [List.append_assoc, List.singleton_append] at ih
    rw [decide_eq_true (show ((pre.length : Nat) : Int) < ((pre ++ r :: t).length : Int) by simp; omega), cond_true]
    simp only [tget rfl, Option.bind_some, e4, ea, vary_eq _ (show (r.1 - w).toNat < 18446744073709551616 by omega), eb]
    rw [b11, ble_lim (by omega), Bool.and_self, cond_true, show List.append out (vary (r.1 - w).toNat) = out ++ vary (r.1 - w).toNat from rfl, ble_lim (by simp only [List.length_append]; omega), Bool.and_self, cond_true]
    rw [show List.append (out ++ vary (r.1 - w).toNat) (vary r.2.1.toNat) = out ++ (vary (r.1 - w).toNat ++ vary r.2.1.toNat) by simp]
    rw [ih]
    simp [segR]
theorem pEncode_eq (l : List Rn) (n : Int) (hl : l.length ≤ 9223372036854775807) (hv : V64 l) : ctables_Encode (l, n) = some (encR l n) := by
  show ntables_Encode (iterV (gtables_Encode_0 big) big) (l, n) = _
  unfold ntables_Encode encR
  dsimp only
  rw [pCheck_eq l n hl, Option.bind_some]
  by_cases h : checkR l n = 0
  · obtain ⟨hn, hf⟩ := checkR_zero.1 h
    have hlen := checkR_len h
    have la := vary_len l.length
    rw [h, show ((0 : Int) != 0) = false from rfl, cond_false, if_neg (by simp), show IntKind.u64.wrap (l.length : Int) = (l.length : Int) by rw [wrap_u64]; omega, vary_eq _ (by omega), Option.bind_some]
    obtain ⟨r, t, rfl, hr0⟩ := fine_first hf
    have hinc : inc (-1) (r.2.1 - 1) (r :: t) n = true := by
      simp only [fineR, Bool.and_eq_true, decide_eq_true_eq] at hf
      exact inc_cons.2 ⟨⟨by omega, by omega, by omega⟩, by rw [hf.1.1]; exact hf.2⟩
    exact enc_loop8 big hn.2 (r :: t) [] (-1) _ (vary (r :: t).length) big hinc (by omega) hv (by simp only [List.length_nil]; omega) (by omega) (tbig (by omega)) 0 (by omega)
  · rw [show (checkR l n != 0) = true by simpa using h, cond_true, if_pos h]

/-! ### reading -/
def prg1 (n w : Int) (b : Nat) : Int := w + (if n < (b : Int) then n else (b : Int))
def prgR (n : Int) : Int → List (Nat × Nat) → List Rn
  | _, [] => []
  | w, p :: ps => (prg1 n w p.1, (p.2 : Int), ()) :: prgR n (prg1 n w p.1) ps
theorem prg_sat {n w : Int} {b : Nat} (h0 : 0 ≤ w) (hn : 0 ≤ n ∧ n ≤ 200) : (prg1 n w b < n → sat1 w b = prg1 n w b) ∧ (sat1 w b < n → sat1 w b = prg1 n w b) := by
  unfold prg1 sat1
  constructor <;> intro h <;> (split at * <;> split at * <;> (try split at *) <;> omega)
theorem prg_inc {n : Int} (hn : 0 ≤ n ∧ n ≤ 200) : ∀ (ps : List (Nat × Nat)) {f v w : Int}, 0 ≤ w → (inc f v (prgR n w ps) n = true ∨ inc f v (satR w ps) n = true) → prgR n w ps = satR w ps
  | [], _, _, _, _, _ => rfl
  | p :: ps, f, v, w, h0, h => by
    have hs := prg_sat (b := p.1) h0 hn
    have e : sat1 w (p.1 : Int) = prg1 n w p.1 := by
      rcases h with h | h
      · exact hs.1 (inc_cons.1 h).1.1
      · exact hs.2 (inc_cons.1 h).1.1
    have hw : 0 ≤ prg1 n w p.1 := by unfold prg1; split <;> omega
    simp only [prgR, satR, e]
    congr 1
    refine prg_inc hn ps (f := prg1 n w p.1) (v := (p.2 : Int)) hw ?_
    rcases h with h | h
    · exact .inl (inc_cons.1 h).2
    · have := (inc_cons.1 h).2
      rw [e] at this
      exact .inr this
theorem prg_fine {n : Int} (hn : 0 ≤ n ∧ n ≤ 200) (ps : List (Nat × Nat)) (h : fineR (prgR n 0 ps) n = true ∨ fineR (satR 0 ps) n = true) : prgR n 0 ps = satR 0 ps := by
  rcases h with h | h
  · obtain ⟨v, hv⟩ := fine_inc h
    exact prg_inc hn ps (Int.le_refl _) (.inl hv)
  · obtain ⟨v, hv⟩ := fine_inc h
    exact prg_inc hn ps (Int.le_refl _) (.inr hv)
theorem prgR_len (n : Int) : ∀ (w : Int) (ps : List (Nat × Nat)), (prgR n w ps).length = ps.length
  | w, [] => rfl
  | w, p :: ps => by simp [prgR, prgR_len]

def decP8 (bs : List Int) (n : Int) (out : List Rn) (w : Int) (z : Int × Nat × List (Nat × Nat)) : Cur × List Rn × Int :=
  if z.1 ≠ 0 then (zc, [], z.1) else if fineR (out ++ prgR n w z.2.2) n = true then ((bs, ((z.2.1 : Int), ())), out ++ prgR n w z.2.2, 0) else (zc, [], 12)

theorem readRun_eq8 (bs : List Int) (a : Nat) (w n : Int) (h1 : bs.length ≤ 200000) (h2 : a ≤ bs.length) (hb : Bytes bs) (hn : 1 ≤ n ∧ n ≤ 200) (hw : 0 ≤ w ∧ w ≤ 1000000) : ctables_readRun ((bs, ((a : Int), ())), w, n) =
    some (if (rd 10 0 (bs.drop a)).2.2 = 0 then (if (rd 10 0 (bs.drop (a + (rd 10 0 (bs.drop a)).2.1))).2.2 = 0 then
      ((bs, (((a + (rd 10 0 (bs.drop a)).2.1 + (rd 10 0 (bs.drop (a + (rd 10 0 (bs.drop a)).2.1))).2.1 : Nat) : Int), ())), (prg1 n w (rd 10 0 (bs.drop a)).1, ((rd 10 0 (bs.drop (a + (rd 10 0 (bs.drop a)).2.1))).1 : Int), ()), 0)
      else (zc, (0, 0, ()), (rd 10 0 (bs.drop (a + (rd 10 0 (bs.drop a)).2.1))).2.2)) else (zc, (0, 0, ()), (rd 10 0 (bs.drop a)).2.2)) := by
  show ntables_readRun _ = _
  unfold ntables_readRun
  dsimp only
  have va : Valid (bs, ((a : Int), ())) := ⟨h1, by simp, by simpa using h2⟩
  rw [unvary_eq _ _ hb, if_pos va, Option.bind_some]
  simp only [Int.toNat_natCast, outc, Nat.zero_add, Nat.pow_zero, Nat.mul_one]
  by_cases hx : (rd 10 0 (bs.drop a)).2.2 = 0
  · obtain ⟨x1, x2, x3, x4⟩ := rd_good (bytes_drop hb a) hx
    simp only [List.length_drop] at x2
    simp only [if_pos hx]
    rw [if_neg (by omega)]
    simp only
    rw [show ((0 : Int) != 0) = false from rfl, cond_false]
    have vb : Valid (bs, (((a + (rd 10 0 (bs.drop a)).2.1 : Nat) : Int), ())) := ⟨h1, by simp only; omega, by simp only; omega⟩
    rw [unvary_eq _ _ hb, if_pos vb, Option.bind_some]
    simp only [Int.toNat_natCast, outc, Nat.zero_add, Nat.pow_zero, Nat.mul_one]
    by_cases hy : (rd 10 0 (bs.drop (a + (rd 10 0 (bs.drop a)).2.1))).2.2 = 0
    · obtain ⟨y1, y2, y3, y4⟩ := rd_good (bytes_drop hb _) hy
      simp only [if_pos hy]
      rw [if_neg (by omega)]
      simp only
      rw [show ((0 : Int) != 0) = false from rfl, cond_false]
      congr 1
      rw [show IntKind.u64.wrap n = n by rw [wrap_u64]; omega]
      have e : IntKind.i64.wrap (w + IntKind.i64.wrap (if n < ((rd 10 0 (bs.drop a)).1 : Int) then n else ((rd 10 0 (bs.drop a)).1 : Int))) = prg1 n w (rd 10 0 (bs.drop a)).1 := by
        unfold prg1
        split
        · rw [t64 (z := n) (by omega) (by omega), t64 (by omega) (by omega)]
        · rw [t64 (z := ((rd 10 0 (bs.drop a)).1 : Int)) (by omega) (by omega), t64 (by omega) (by omega)]
      rw [e]
    · simp only [if_neg hy]
      rw [show ((rd 10 0 (bs.drop (a + (rd 10 0 (bs.drop a)).2.1))).2.2 != 0) = true by simpa using hy, cond_true]
      rfl
  · simp only [if_neg hx]
    rw [show ((rd 10 0 (bs.drop a)).2.2 != 0) = true by simpa using hx, cond_true]
    rfl

theorem dec_loop8 (N : Nat) (n : Int) (hn : 1 ≤ n ∧ n ≤ 200) (bs : List Int) (h1 : bs.length ≤ 200000) (hb : Bytes bs) (u : Int × Unit) (z : List Int) : ∀ (m a : Nat) (w : Int) (out : List Rn) (M : Nat), 0 ≤ w → w ≤ 200 * (out.length : Int) → a ≤ bs.length → out.length + m ≤ 200 → m < M →
    iterV (gtables_Decode_0 (fun _ => List.replicate) N) M (n, w, ((out.length + m : Nat) : Int), ((out.length : Nat) : Int), (bs, ((a : Int), ())), u, z, out ++ List.replicate m (0, 0, ())) = some (decP8 bs n out w (rdP bs m a))
  | 0, a, w, out, M + 1, hw0, hw1, ha, ho, hM => by
    rw [iterV_succ]
    show htables_Decode_0 _ _ _ = _
    unfold htables_Decode_0
    dsimp only
    rw [decide_eq_false (by omega), cond_false]
    simp only [List.replicate_zero, List.append_nil]
    rw [pCheck_eq out n (by omega), Option.bind_some]
    simp only [decP8, rdP, prgR, List.append_nil, ne_eq, not_true_eq_false, if_false]
    unfold checkR
    rw [if_neg (by omega)]
    by_cases hf : fineR out n = true
    · simp [hf]
    · simp [hf, zc]
  | m + 1, a, w, out, M + 1, hw0, hw1, ha, ho, hM => by
    rw [iterV_succ]
    show htables_Decode_0 _ _ _ = _
    unfold htables_Decode_0
    dsimp only
    rw [decide_eq_true (show ((out.length : Nat) : Int) < ((out.length + (m + 1) : Nat) : Int) by omega), cond_true, readRun_eq8 bs a w n h1 ha hb hn (by omega), Option.bind_some]
    rw [decide_eq_true (show (0 : Int) ≤ ((out.length : Nat) : Int) by omega), decide_eq_true (show ((out.length : Nat) : Int) < ((out ++ List.replicate (m + 1) ((0, 0, ()) : Rn)).length : Int) by simp; omega), Bool.and_self, cond_true, Int.toNat_natCast]
    have hset : ∀ r : Rn, List.set (out ++ List.replicate (m + 1) ((0, 0, ()) : Rn)) out.length r = (out ++ [r]) ++ List.replicate m (0, 0, ()) := by
      intro r
      rw [List.set_append_right _ _ (Nat.le_refl _), Nat.sub_self, List.replicate_succ]
      simp
    unfold rdP
    by_cases hx : (rd 10 0 (bs.drop a)).2.2 = 0
    · obtain ⟨x1, x2, x3, x4⟩ := rd_good (bytes_drop hb a) hx
      simp only [List.length_drop] at x2
      simp only [if_pos hx]
      by_cases hy : (rd 10 0 (bs.drop (a + (rd 10 0 (bs.drop a)).2.1))).2.2 = 0
      · obtain ⟨y1, y2, y3, y4⟩ := rd_good (bytes_drop hb _) hy
        simp only [List.length_drop] at y2
        simp only [if_pos hy]
        rw [show ((0 : Int) != 0) = false from rfl, cond_false, hset]
        have hp0 : 0 ≤ prg1 n w (rd 10 0 (bs.drop a)).1 ∧ prg1 n w (rd 10 0 (bs.drop a)).1 ≤ w + 200 := by unfold prg1; split <;> omega
        have ih := dec_loop8 N n hn bs h1 hb u z m (a + (rd 10 0 (bs.drop a)).2.1 + (rd 10 0 (bs.drop (a + (rd 10 0 (bs.drop a)).2.1))).2.1) (prg1 n w (rd 10 0 (bs.drop a)).1) (out ++ [(prg1 n w (rd 10 0 (bs.drop a)).1, ((rd 10 0 (bs.drop (a + (rd 10 0 (bs.drop a)).2.1))).1 : Int), ())]) M hp0.1 (by simp; omega) (by omega) (by simp; omega) (by omega)
        generalize rd 10 0 (bs.drop (a + (rd 10 0 (bs.drop a)).2.1)) = y at *
        generalize rd 10 0 (bs.drop a) = x at *
        rw [decide_eq_true (show ((out.length : Nat) : Int) < (((out ++ [(prg1 n w x.1, (y.1 : Int), ())]) ++ List.replicate m ((0, 0, ()) : Rn)).length : Int) by simp; omega), Bool.and_self, cond_true]
        have hnth : nth ((out ++ [(prg1 n w x.1, (y.1 : Int), ())]) ++ List.replicate m ((0, 0, ()) : Rn)) out.length = some (prg1 n w x.1, (y.1 : Int), ()) := by
          rw [tnth]
          simp
        rw [hnth, Option.bind_some]
        simp only [List.length_append, List.length_cons, List.length_nil] at ih
        rw [show IntKind.i64.wrap (((out.length : Nat) : Int) + 1) = ((out.length + 1 : Nat) : Int) by rw [t64 (by omega) (by omega)]; simp, show out.length + (m + 1) = out.length + (0 + 1) + m by omega]
        refine ih.trans ?_
        show some (decP8 bs n (out ++ [(prg1 n w x.1, (y.1 : Int), ())]) (prg1 n w x.1) (rdP bs m (a + x.2.1 + y.2.1))) = some (decP8 bs n out w ((rdP bs m (a + x.2.1 + y.2.1)).1, (rdP bs m (a + x.2.1 + y.2.1)).2.1, (x.1, y.1) :: (rdP bs m (a + x.2.1 + y.2.1)).2.2))
        simp only [decP8, prgR, List.append_assoc, List.singleton_append]
        rfl
      · simp only [if_neg hy]
        rw [show ((rd 10 0 (bs.drop (a + (rd 10 0 (bs.drop a)).2.1))).2.2 != 0) = true by simpa using hy, cond_true]
        simp only [decP8, ne_eq, hy, not_false_eq_true, if_true]
        rfl
    · simp only [if_neg hx]
      rw [show ((rd 10 0 (bs.drop a)).2.2 != 0) = true by simpa using hx, cond_true]
      simp only [decP8, ne_eq, hx, not_false_eq_true, if_true]
      rfl

theorem pDecode_eq (c : Cur) (n : Int) (hb : Bytes c.1) (hn : -9223372036854775808 ≤ n ∧ n ≤ 9223372036854775807) : ctables_Decode (c, n) = some (decR c n) := by
  show ntables_Decode (fun _ => List.replicate) (iterV (gtables_Decode_0 (fun _ => List.replicate) big) big) (c, n) = _
  unfold ntables_Decode decR
  dsimp only
  rw [Left_eq c, Option.bind_some]
  by_cases hv : Valid c
  · rw [if_pos hv, if_pos hv]
    simp only
    rw [show ((0 : Int) != 0) = false from rfl, cond_false, count_eq8, Option.bind_some]
    by_cases h1 : 1 ≤ n ∧ n ≤ 200
    · rw [decide_eq_true h1, Bool.not_true, cond_false, if_neg (by omega), unvary_eq c _ hb, if_pos hv, Option.bind_some]
      obtain ⟨bs, at_, u⟩ := c
      obtain ⟨g1, g2, g3⟩ := hv
      simp only at g1 g2 g3 hb
      obtain ⟨a, rfl⟩ := Int.eq_ofNat_of_zero_le g2
      rw [show IntKind.u64.wrap n = n by rw [wrap_u64]; omega]
      simp only [Int.toNat_natCast, outc, Nat.zero_add, Nat.pow_zero, Nat.mul_one, decT]
      by_cases hx : (rd 10 0 (bs.drop a)).2.2 = 0
      · obtain ⟨x1, x2, x3, x4⟩ := rd_good (bytes_drop hb a) hx
        simp only [List.length_drop] at x2
        simp only [if_pos hx]
        rw [if_neg (show ¬ (rd 10 0 (bs.drop a)).2.2 ≠ 0 from fun h => h hx)]
        by_cases hk : ((rd 10 0 (bs.drop a)).1 : Int) > n
        · rw [if_pos hk, if_pos hk]
          rfl
        · rw [if_neg hk, if_neg hk]
          simp only
          rw [show ((0 : Int) != 0) = false from rfl, cond_false, decide_eq_true (show (0 : Int) ≤ ((rd 10 0 (bs.drop a)).1 : Int) by omega), decide_eq_true (Int.le_refl _), decide_eq_true (show ((rd 10 0 (bs.drop a)).1 : Int) ≤ 68719476736 by omega), Bool.and_self, Bool.and_self, Bool.and_self, cond_true, Int.toNat_natCast, List.length_replicate]
          have := dec_loop8 big n h1 bs g1 hb (0, ()) [] (rd 10 0 (bs.drop a)).1 (a + (rd 10 0 (bs.drop a)).2.1) 0 [] big (Int.le_refl _) (by simp) (by omega) (by simp; omega) (tbig (by omega))
          simp only [List.length_nil, Nat.zero_add, List.nil_append] at this
          refine this.trans ?_
          congr 1
          unfold decP8 decF
          simp only [List.nil_append]
          split
          · rfl
          · have hp := prg_fine (n := n) (by omega) (rdP bs (rd 10 0 (bs.drop a)).1 (a + (rd 10 0 (bs.drop a)).2.1)).2.2
            split
            · rename_i hf
              rw [← hp (.inl hf), if_pos hf]
            · rename_i hf
              rw [if_neg fun h => hf (by rw [hp (.inr h)]; exact h)]
      · simp only [if_neg hx]
        rw [if_pos (show (rd 10 0 (bs.drop a)).2.2 ≠ 0 from hx), show ((rd 10 0 (bs.drop a)).2.2 != 0) = true by simpa using hx, cond_true]
        rfl
    · rw [decide_eq_false h1, Bool.not_false, cond_true, if_pos (by omega)]
      rfl
  · rw [if_neg hv, if_neg hv]
    rfl

theorem alive08 : claw08_alive () = some true := by kernel_rfl
end Go.Proofs.Ytlljcjapefljeaa
