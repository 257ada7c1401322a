/- What the functions of package kinds compute: Holds, Reach, Width, Same. -/
import Derived.Test.YtegemaonfdfnbaaKindD
set_option linter.unusedVariables false
set_option linter.unusedSimpArgs false
set_option maxRecDepth 100000
namespace Go.Proofs.Ytegemaonfdfnbaa
open Go.Lift

theorem getI_some {α : Type} {l : List α} {x : Int} {t : α} (h : getI l x = some t) : 0 ≤ x ∧ x < l.length ∧ ∃ (hx : x.toNat < l.length), t = l[x.toNat] := by
  unfold getI at h
  by_cases h0 : 0 ≤ x
  · rw [decide_eq_true h0] at h
    simp only [cond_true] at h
    have h' : l[x.toNat]? = some t := h
    obtain ⟨h1, h2⟩ := List.getElem?_eq_some_iff.1 h'
    exact ⟨h0, by omega, h1, h2.symm⟩
  · rw [decide_eq_false h0] at h
    cases h
theorem getI_in {l : List Typ} {x : Int} (h0 : 0 ≤ x) (h1 : x < l.length) : ∃ t, getI l x = some t := by
  obtain ⟨k, rfl⟩ := Int.eq_ofNat_of_zero_le h0
  exact ⟨_, getI_at (by omega)⟩
theorem built_at {l : List Typ} (hb : Built l) {x : Int} {t : Typ} (h : getI l x = some t) : builtB t x l.length = true := by
  obtain ⟨h0, h1, hx, rfl⟩ := getI_some h
  have := hb x.toNat hx
  rwa [Int.toNat_of_nonneg h0] at this

theorem r1_succ (k x y) : rkinds_found_1 (k + 1) x y = nkinds_found_1 (rkinds_found_1 k) y (iterV (gkinds_found_1_0 (rkinds_found_1 k) y big) big) x := rfl
theorem r1b_succ (k x y) : rkinds_found_1b (k + 1) x y = nkinds_found_1b (rkinds_found_1b k) y (iterV (gkinds_found_1b_0 (rkinds_found_1b k) y big) big) x := rfl
theorem rS_succ (k x y) : rkinds_Same_1 (k + 1) x y = nkinds_Same_1 (rkinds_Same_1 k) y (iterV (gkinds_Same_1_0 (rkinds_Same_1 k) y big) big) x := rfl

theorem found1 {l : List Typ} (hb : Built l) (hl : l.length ≤ 40) {i : Int} (h0 : 0 ≤ i) (h1 : i < l.length) : ∃ m, ckinds_found_1 (i, (), (), (), (), ()) ((), [], (), l, (), ()) = some (m, ()) ∧ ∀ x, Marked m x ↔ Rch l partsS i x := by
  have key := visit_ok (l := l) (ways := partsS) (fun x t h => by
      obtain ⟨g0, g1, hx, rfl⟩ := getI_some h
      have := parts_ix hb hx
      exact fun y hy => by have := this y hy; omega) (fun k i m => rkinds_found_1 k (i, (), (), (), (), ()) ((), m, (), l, (), ()))
    (fun k i m hm => by
      show rkinds_found_1 (k + 1) _ _ = _
      rw [r1_succ]
      unfold nkinds_found_1
      dsimp only
      rw [show (@atK (.int .i64) .bool i false m).1 = true from hm, cond_true, eqD_self, cond_true])
    (fun k i m t hm ht I hI hstep => by
      have hbt := built_at hb ht
      have hpl := parts_len hbt
      show ∃ m', I _ m' ∧ rkinds_found_1 (k + 1) _ _ = _
      rw [r1_succ]
      unfold nkinds_found_1
      dsimp only
      rw [show (@atK (.int .i64) .bool i false m).1 = false from Bool.eq_false_iff.2 hm, cond_false, ht, Option.bind_some, parts_eq t (by have := built_flen hbt; omega), Option.bind_some]
      refine range_post (g := gkinds_found_1_0 (rkinds_found_1 k) ((), m, (), l, (), ()) big) (n := (partsS t).length) (fun (m : List (Int × Bool)) (j : Nat) => (((partsS t).length : Int), (j : Int), m, l, partsS t)) I (fun r => ∃ m', I (partsS t).length m' ∧ r = some (m', ())) ?_ ?_
        (partsS t).length 0 big (by simp) (by unfold big; omega) _ hI
      · intro self s hs
        refine ⟨s, hs, ?_⟩
        show hkinds_found_1_0 _ _ self _ = _
        unfold hkinds_found_1_0
        dsimp only
        rw [decide_eq_false (by omega), cond_false, eqD_self, cond_true]
      · intro self s j hj hs
        left
        obtain ⟨m', h3, h4⟩ := hstep j hj s hs
        refine ⟨m', h3, ?_⟩
        show hkinds_found_1_0 _ _ self _ = _
        unfold hkinds_found_1_0
        dsimp only
        rw [decide_eq_true (by omega), cond_true, decide_eq_true (by omega), Bool.true_and, cond_true, show nth (partsS t) (Int.toNat (j : Int)) = some (partsS t)[j] from List.getElem?_eq_getElem hj, Option.bind_some, h4, Option.bind_some, wrap_succ hj (by have := maxLen_ge; omega)])
    big i [] h0 h1 (by have := unM_all l.length []; unfold big; omega)
  obtain ⟨m, h2, h3⟩ := key
  exact ⟨m, h2, seen_all h3⟩

theorem found2 {l : List Typ} (hb : Built l) (hl : l.length ≤ 40) {i : Int} (h0 : 0 ≤ i) (h1 : i < l.length) : ∃ m, ckinds_found_1b (i, (), (), (), (), ()) ((), [], (), l, (), ()) = some (m, ()) ∧ ∀ x, Marked m x ↔ Rch l nextS i x := by
  have key := visit_ok (l := l) (ways := nextS) (fun x t h => by
      obtain ⟨g0, g1, hx, rfl⟩ := getI_some h
      exact next_ix hb hx) (fun k i m => rkinds_found_1b k (i, (), (), (), (), ()) ((), m, (), l, (), ()))
    (fun k i m hm => by
      show rkinds_found_1b (k + 1) _ _ = _
      rw [r1b_succ]
      unfold nkinds_found_1b
      dsimp only
      rw [show (@atK (.int .i64) .bool i false m).1 = true from hm, cond_true, eqD_self, cond_true])
    (fun k i m t hm ht I hI hstep => by
      have hbt := built_at hb ht
      have hpl := next_len hbt
      show ∃ m', I _ m' ∧ rkinds_found_1b (k + 1) _ _ = _
      rw [r1b_succ]
      unfold nkinds_found_1b
      dsimp only
      rw [show (@atK (.int .i64) .bool i false m).1 = false from Bool.eq_false_iff.2 hm, cond_false, ht, Option.bind_some, next_eq t (by have := built_flen hbt; omega), Option.bind_some]
      refine range_post (g := gkinds_found_1b_0 (rkinds_found_1b k) ((), m, (), l, (), ()) big) (n := (nextS t).length) (fun (m : List (Int × Bool)) (j : Nat) => (((nextS t).length : Int), (j : Int), m, l, nextS t)) I (fun r => ∃ m', I (nextS t).length m' ∧ r = some (m', ())) ?_ ?_
        (nextS t).length 0 big (by simp) (by unfold big; omega) _ hI
      · intro self s hs
        refine ⟨s, hs, ?_⟩
        show hkinds_found_1b_0 _ _ self _ = _
        unfold hkinds_found_1b_0
        dsimp only
        rw [decide_eq_false (by omega), cond_false, eqD_self, cond_true]
      · intro self s j hj hs
        left
        obtain ⟨m', h3, h4⟩ := hstep j hj s hs
        refine ⟨m', h3, ?_⟩
        show hkinds_found_1b_0 _ _ self _ = _
        unfold hkinds_found_1b_0
        dsimp only
        rw [decide_eq_true (by omega), cond_true, decide_eq_true (by omega), Bool.true_and, cond_true, show nth (nextS t) (Int.toNat (j : Int)) = some (nextS t)[j] from List.getElem?_eq_getElem hj, Option.bind_some, h4, Option.bind_some, wrap_succ hj (by have := maxLen_ge; omega)])
    big i [] h0 h1 (by have := unM_all l.length []; unfold big; omega)
  obtain ⟨m, h2, h3⟩ := key
  exact ⟨m, h2, seen_all h3⟩

theorem Holds_eq {l : List Typ} (hv : Valid l) {i k : Int} (h0 : 0 ≤ i) (h1 : i < l.length) (h2 : 0 ≤ k) (h3 : k < l.length) : ∃ b, ckinds_Holds (l, i, k) = some (b, 0) ∧ (b = true ↔ Rch l partsS i k) := by
  obtain ⟨m, hm, hs⟩ := found1 hv.2.1 (by have := hv.1; omega) h0 h1
  refine ⟨_, ?_, hs k⟩
  show nkinds_Holds _ = _
  unfold nkinds_Holds
  dsimp only
  rw [checked_eq _ _ (by simp), if_pos hv, if_pos (by simp; omega), Option.bind_some, show ((0 : Int) != 0) = false from rfl, cond_false, hm, Option.bind_some]

theorem lim_ge : 1000000 ≤ lim := by decide

theorem Reach_eq {l : List Typ} (hv : Valid l) {i : Int} (h0 : 0 ≤ i) (h1 : i < l.length) : ∃ p : Int → Bool, ckinds_Reach (l, i) = some ((ixs l.length).filter p, 0) ∧ ∀ x, p x = true ↔ Rch l nextS i x := by
  have hlen := hv.1
  obtain ⟨m, hm, hs⟩ := found2 hv.2.1 (by omega) h0 h1
  refine ⟨fun x => (@atK (.int .i64) .bool x false m).1, ?_, hs⟩
  show nkinds_Reach (iterV (gkinds_Reach_0 big) big) _ = _
  unfold nkinds_Reach
  dsimp only
  rw [checked_eq _ _ (by simp), if_pos hv, if_pos (by simp; omega), Option.bind_some, show ((0 : Int) != 0) = false from rfl, cond_false, hm, Option.bind_some]
  refine range_post (g := gkinds_Reach_0 big) (n := l.length) (fun (r : List Int) (j : Nat) => ((l.length : Int), (j : Int), m, r)) (fun j r => r = (ixs j).filter fun x => (@atK (.int .i64) .bool x false m).1) (fun r => r = some ((ixs l.length).filter (fun x => (@atK (.int .i64) .bool x false m).1), 0)) ?_ ?_
    l.length 0 big (by simp) (by unfold big; omega) _ (by simp [ixs])
  · rintro self s rfl
    show hkinds_Reach_0 self _ = _
    unfold hkinds_Reach_0
    dsimp only
    rw [decide_eq_false (by omega), cond_false]
  · rintro self s j hj rfl
    left
    refine ⟨_, rfl, ?_⟩
    have hx : ixs (j + 1) = ixs j ++ [(j : Int)] := by simp [ixs, List.range_succ]
    have hle : ((ixs j).filter fun x => (@atK (.int .i64) .bool x false m).1).length ≤ j := by
      have := List.length_filter_le (fun x => (@atK (.int .i64) .bool x false m).1) (ixs j)
      simpa [ixs] using this
    show hkinds_Reach_0 self _ = _
    unfold hkinds_Reach_0
    dsimp only
    rw [decide_eq_true (by omega), cond_true, wrap_succ hj (by have := maxLen_ge; omega), hx, List.filter_append]
    cases hc : (@atK (.int .i64) .bool (j : Int) false m).1 with
    | true =>
      rw [cond_true]
      have hble : (Nat.ble 1 1 && Nat.ble (((ixs j).filter fun x => (@atK (.int .i64) .bool x false m).1).length + [(j : Int)].length) lim) = true := by
        rw [Bool.and_eq_true]
        refine ⟨rfl, Nat.ble_eq_true_of_le ?_⟩
        have := lim_ge
        simp only [List.length_singleton]
        omega
      rw [hble, cond_true]
      simp [hc]
    | false =>
      rw [cond_false]
      simp [hc]

theorem Width_eq {l : List Typ} (hv : Valid l) {i : Int} (h0 : 0 ≤ i) (h1 : i < l.length) : ckinds_Width (l, i) = some ((wN l 4).getD i.toNat 0, 0) := by
  have hlen := hv.1
  show nkinds_Width _ = _
  unfold nkinds_Width
  dsimp only
  have hw := (wN_ok hv.2.1 4).2
  rw [checked_eq _ _ (by simp), if_pos hv, if_pos (by simp; omega), Option.bind_some, show ((0 : Int) != 0) = false from rfl, cond_false, widths_eq (by omega) hv.2.1, Option.bind_some]
  rw [decide_eq_true h0, decide_eq_true (by omega), Bool.true_and, cond_true, nth_getD h0 (by omega), Option.bind_some]

/-! ### types that look the same -/
def formB (t u : Typ) : Bool := decide (t.1 = u.1) && (decide (t.2.2.1 = u.2.2.1) && decide (t.2.2.2.1.map (·.1) = u.2.2.2.1.map (·.1)))
theorem formB_iff {t u : Typ} : formB t u = true ↔ t.1 = u.1 ∧ t.2.2.1 = u.2.2.1 ∧ t.2.2.2.1.map (·.1) = u.2.2.2.1.map (·.1) := by simp [formB]

theorem form1_eq (f g : Fld) : ckinds_isOfOneForm_1 (f, g) = some (eqD .str f.1 g.1) := rfl

theorem form_eq (t u : Typ) (ht : t.2.2.2.1.length ≤ 1000) : ckinds_isOfOneForm (t, u) = some (formB t u) := by
  show nkinds_isOfOneForm (iterV (gkinds_isOfOneForm_0 big) big) (t, u) = _
  unfold nkinds_isOfOneForm formB
  dsimp only
  by_cases h1 : t.1 = u.1
  · rw [show (t.1 == u.1) = true from decide_eq_true h1, cond_true, decide_eq_true h1, Bool.true_and]
    by_cases h2 : t.2.2.1 = u.2.2.1
    · rw [show (t.2.2.1 == u.2.2.1) = true from decide_eq_true h2, cond_true, decide_eq_true h2, Bool.true_and]
      by_cases h3 : t.2.2.2.1.length = u.2.2.2.1.length
      · rw [show ((t.2.2.2.1.length : Int) != (u.2.2.2.1.length : Int)) = false by rw [h3]; simp, cond_false]
        refine range_post (g := gkinds_isOfOneForm_0 big) (n := t.2.2.2.1.length) (fun (_ : Unit) (j : Nat) => (u.2.2.2.1, t.2.2.2.1, (t.2.2.2.1.length : Int), (j : Int), true)) (fun j _ => (t.2.2.2.1.map (·.1)).take j = (u.2.2.2.1.map (·.1)).take j) (fun r => r = some (decide (t.2.2.2.1.map (·.1) = u.2.2.2.1.map (·.1)))) ?_ ?_
          t.2.2.2.1.length 0 big (by simp) (by unfold big; omega) () (by simp)
        · intro self s h
          rw [List.take_of_length_le (by simp), List.take_of_length_le (by simp; omega)] at h
          show hkinds_isOfOneForm_0 self _ = _
          unfold hkinds_isOfOneForm_0
          dsimp only
          rw [decide_eq_false (by omega), cond_false, cond_true, decide_eq_true h]
        · intro self s j hj h
          have hj' : j < u.2.2.2.1.length := by omega
          have hst : gkinds_isOfOneForm_0 big self (u.2.2.2.1, t.2.2.2.1, (t.2.2.2.1.length : Int), (j : Int), true) = bif !(eqD .str (t.2.2.2.1[j]).1 (u.2.2.2.1[j]).1) then some false else self (u.2.2.2.1, t.2.2.2.1, (t.2.2.2.1.length : Int), ((j + 1 : Nat) : Int), true) := by
            show hkinds_isOfOneForm_0 self _ = _
            unfold hkinds_isOfOneForm_0
            dsimp only
            rw [decide_eq_true (by omega), cond_true, getI_at hj, Option.bind_some, getI_at hj', Option.bind_some, form1_eq, Option.bind_some, wrap_succ hj (by have := maxLen_ge; omega)]
            rfl
          by_cases e : (t.2.2.2.1[j]).1 = (u.2.2.2.1[j]).1
          · left
            refine ⟨(), ?_, by rw [hst, e, eqD_self]; rfl⟩
            rw [List.take_succ_eq_append_getElem (by simpa using hj), List.take_succ_eq_append_getElem (by simpa using hj'), h]
            simp [e]
          · right
            rw [hst, eqD_false e, Bool.not_false, cond_true]
            congr 1
            symm
            apply decide_eq_false
            intro hh
            have h4 := congrArg (fun l => l[j]?) hh
            simp [hj, hj'] at h4
            exact e h4
      · rw [show ((t.2.2.2.1.length : Int) != (u.2.2.2.1.length : Int)) = true by simp; omega, cond_true]
        congr 1
        symm
        apply decide_eq_false
        intro hh
        have := congrArg List.length hh
        simp at this
        exact h3 this
    · rw [show (t.2.2.1 == u.2.2.1) = false from decide_eq_false h2, cond_false, decide_eq_false h2, Bool.false_and]
  · rw [show (t.1 == u.1) = false from decide_eq_false h1, cond_false, decide_eq_false h1, Bool.false_and]

theorem form_len {l : List Typ} (hb : Built l) {x y : Int} {t u : Typ} (ht : getI l x = some t) (hu : getI l y = some u) (h : formB t u = true) : (nextS t).length = (nextS u).length := by
  obtain ⟨h1, h2, h3⟩ := formB_iff.1 h
  have h4 := congrArg List.length h3
  simp at h4
  unfold nextS partsS
  rw [h1]
  split
  · rfl
  split
  · rfl
  split
  · simpa using h4
  · rfl

/-- pairs that are come to by the same ways -/
inductive Pch (l : List Typ) (a b : Int) : Int → Int → Prop
  | self : Pch l a b a b
  | step {x y x' y' : Int} (t u : Typ) (j : Nat) : Pch l a b x y → getI l x = some t → getI l y = some u → (nextS t)[j]? = some x' → (nextS u)[j]? = some y' → Pch l a b x' y'
theorem Pch.trans {l : List Typ} {a b c d e f : Int} (h : Pch l a b c d) (h' : Pch l c d e f) : Pch l a b e f := by
  induction h' with
  | self => exact h
  | step t u j _ h1 h2 h3 h4 ih => exact .step t u j ih h1 h2 h3 h4
/-- two types are alike -/
def Alike (l : List Typ) (a b : Int) : Prop := ∀ x y, Pch l a b x y → ∀ t u, getI l x = some t → getI l y = some u → formB t u = true

abbrev K2 : Ty := .arr 2 (.int .i64)
abbrev Marked2 (m : List (List Int × Bool)) (x y : Int) : Prop := MarkK K2 m [x, y]
theorem marked2_put (m : List (List Int × Bool)) (a b x y : Int) : Marked2 (@putK K2 .bool [a, b] true m) x y ↔ (x = a ∧ y = b) ∨ Marked2 m x y := by
  have := markK_put (kt := K2) m [a, b] [x, y]
  simpa using this
def prs (n : Nat) : List (List Int) := (ixs n).flatMap fun x => (ixs n).map fun y => [x, y]
theorem mem_prs {n : Nat} {x y : Int} (h0 : 0 ≤ x) (h1 : x < n) (h2 : 0 ≤ y) (h3 : y < n) : [x, y] ∈ prs n := by
  unfold prs
  rw [List.mem_flatMap]
  exact ⟨x, mem_ixs.2 ⟨h0, h1⟩, List.mem_map.2 ⟨y, mem_ixs.2 ⟨h2, h3⟩, rfl⟩⟩
def unP (n : Nat) (m : List (List Int × Bool)) : Nat := un K2 (prs n) m
theorem unP_le {n : Nat} {m m' : List (List Int × Bool)} (h : ∀ x, MarkK K2 m x → MarkK K2 m' x) : unP n m' ≤ unP n m := un_le (kt := K2) h
theorem unP_lt {n : Nat} {m : List (List Int × Bool)} {x y : Int} (h0 : 0 ≤ x) (h1 : x < n) (h2 : 0 ≤ y) (h3 : y < n) (h : ¬ Marked2 m x y) : unP n (@putK K2 .bool [x, y] true m) < unP n m := un_lt (kt := K2) (mem_prs h0 h1 h2 h3) h
theorem unP_all (n : Nat) (hn : n ≤ 40) (m : List (List Int × Bool)) : unP n m ≤ 1600 := by
  have h1 := un_all (kt := K2) (prs n) m
  have h2 : (prs n).length = n * n := by
    unfold prs
    rw [List.length_flatMap]
    have : ∀ l : List Int, (l.map fun x => ((ixs n).map fun y => [x, y]).length).sum = l.length * n := by
      intro l
      induction l with
      | nil => simp
      | cons a l ih => rw [List.map_cons, List.sum_cons, ih]; simp [ixs, Nat.add_mul, Nat.add_comm]
    rw [this]
    simp [ixs]
  have h3 : n * n ≤ 40 * 40 := Nat.mul_le_mul hn hn
  unfold unP
  rw [h2] at h1
  omega

structure Seen2 (l : List Typ) (a b : Int) (m m' : List (List Int × Bool)) : Prop where
  old : ∀ x, MarkK K2 m x → MarkK K2 m' x
  self : Marked2 m' a b
  new : ∀ x y, Marked2 m' x y → Marked2 m x y ∨ Pch l a b x y
  shut : ∀ x y t u, Marked2 m' x y → ¬ Marked2 m x y → getI l x = some t → getI l y = some u → formB t u = true ∧ ∀ (j : Nat) x' y', (nextS t)[j]? = some x' → (nextS u)[j]? = some y' → Marked2 m' x' y'

theorem visit2_ok {l : List Typ} (hb : Built l) (F : Nat → Int → Int → List (List Int × Bool) → Option (List (List Int × Bool) × Bool))
    (h1 : ∀ k a b m, Marked2 m a b → F (k + 1) a b m = some (m, true))
    (h0 : ∀ k a b m t u, ¬ Marked2 m a b → getI l a = some t → getI l b = some u → formB t u = false → ∃ m', F (k + 1) a b m = some (m', false))
    (h2 : ∀ k a b m t u, ¬ Marked2 m a b → getI l a = some t → getI l b = some u → formB t u = true → ∀ (I : Nat → List (List Int × Bool) → Prop), I 0 (@putK K2 .bool [a, b] true m) →
      (∀ j (hj : j < (nextS t).length) (hj' : j < (nextS u).length) mj, I j mj → ∃ m' r, F k (nextS t)[j] (nextS u)[j] mj = some (m', r) ∧ (r = true → I (j + 1) m') ∧ (r = false → ¬ Alike l a b)) →
      ∃ m' r, F (k + 1) a b m = some (m', r) ∧ (r = true → I (nextS t).length m') ∧ (r = false → ¬ Alike l a b)) :
    ∀ (k : Nat) (a b : Int) (m : List (List Int × Bool)), 0 ≤ a → a < l.length → 0 ≤ b → b < l.length → unP l.length m < k → ∃ m' r, F k a b m = some (m', r) ∧ (r = true → Seen2 l a b m m') ∧ (r = false → ¬ Alike l a b)
  | 0, _, _, _, _, _, _, _, h => by omega
  | k + 1, a, b, m, ha0, ha1, hb0, hb1, hk => by
    by_cases hm : Marked2 m a b
    · exact ⟨m, true, h1 k a b m hm, fun _ => ⟨fun _ h => h, hm, fun _ _ h => .inl h, fun x y t u h h' => absurd h h'⟩, fun h => by cases h⟩
    · obtain ⟨t, ht⟩ := getI_in ha0 ha1
      obtain ⟨u, hu⟩ := getI_in hb0 hb1
      cases hf : formB t u with
      | false =>
        obtain ⟨m', e⟩ := h0 k a b m t u hm ht hu hf
        refine ⟨m', false, e, (fun h => by cases h), fun _ hal => ?_⟩
        have := hal a b .self t u ht hu
        rw [hf] at this
        cases this
      | true =>
        have hlt := unP_lt ha0 ha1 hb0 hb1 hm
        have hlen := form_len hb ht hu hf
        obtain ⟨m', r, e, hI, hF⟩ := h2 k a b m t u hm ht hu hf (fun j mj => (∀ x, MarkK K2 (@putK K2 .bool [a, b] true m) x → MarkK K2 mj x) ∧ (∀ x y, Marked2 mj x y → Marked2 m x y ∨ Pch l a b x y) ∧
            (∀ i x' y', i < j → (nextS t)[i]? = some x' → (nextS u)[i]? = some y' → Marked2 mj x' y') ∧
            ∀ x y t' u', Marked2 mj x y → ¬ Marked2 m x y → ¬ (x = a ∧ y = b) → getI l x = some t' → getI l y = some u' → formB t' u' = true ∧ ∀ (i : Nat) x' y', (nextS t')[i]? = some x' → (nextS u')[i]? = some y' → Marked2 mj x' y')
          ⟨fun _ h => h, fun x y h => ((marked2_put m a b x y).1 h).elim (fun e => by obtain ⟨rfl, rfl⟩ := e; exact .inr .self) .inl, fun i x' y' hi => by omega, fun x y t' u' hx hx' hne => by
            rcases (marked2_put m a b x y).1 hx with e | e
            · exact absurd e hne
            · exact absurd e hx'⟩
          (fun j hj hj' mj ⟨g1, g2, g3, g4⟩ => by
            have hxt : 0 ≤ (nextS t)[j] ∧ (nextS t)[j] < l.length := by
              obtain ⟨_, _, hx, rfl⟩ := getI_some ht
              exact next_ix hb hx _ (List.getElem_mem hj)
            have hxu : 0 ≤ (nextS u)[j] ∧ (nextS u)[j] < l.length := by
              obtain ⟨_, _, hx, rfl⟩ := getI_some hu
              exact next_ix hb hx _ (List.getElem_mem hj')
            obtain ⟨m', r, e, hs, hr⟩ := visit2_ok hb F h1 h0 h2 k (nextS t)[j] (nextS u)[j] mj hxt.1 hxt.2 hxu.1 hxu.2 (by have := unP_le (n := l.length) g1; omega)
            have hstep : Pch l a b (nextS t)[j] (nextS u)[j] := .step t u j .self ht hu (List.getElem?_eq_getElem hj) (List.getElem?_eq_getElem hj')
            refine ⟨m', r, e, fun hr1 => ?_, fun hr0 hal => hr hr0 fun x y hp => hal x y (hstep.trans hp)⟩
            have s := hs hr1
            refine ⟨fun x h => s.old x (g1 x h), fun x y h => ?_, fun i x' y' hi hx hy => ?_, fun x y t' u' hx hx' hne hgt hgu => ?_⟩
            · rcases s.new x y h with h | h
              · exact g2 x y h
              · exact .inr (hstep.trans h)
            · by_cases hij : i < j
              · exact s.old _ (g3 i x' y' hij hx hy)
              · have : i = j := by omega
                subst this
                rw [List.getElem?_eq_getElem hj] at hx
                rw [List.getElem?_eq_getElem hj'] at hy
                cases hx
                cases hy
                exact s.self
            · by_cases hmj : Marked2 mj x y
              · obtain ⟨k1, k2⟩ := g4 x y t' u' hmj hx' hne hgt hgu
                exact ⟨k1, fun i x' y' h h' => s.old _ (k2 i x' y' h h')⟩
              · exact s.shut x y t' u' hx hmj hgt hgu)
        refine ⟨m', r, e, fun hr => ?_, hF⟩
        obtain ⟨g1, g2, g3, g4⟩ := hI hr
        refine ⟨fun x h => g1 x ((markK_put (kt := K2) m [a, b] x).2 (.inr h)), g1 [a, b] ((marked2_put m a b a b).2 (.inl ⟨rfl, rfl⟩)), g2, fun x y t' u' hx hx' hgt hgu => ?_⟩
        by_cases e : x = a ∧ y = b
        · obtain ⟨rfl, rfl⟩ := e
          rw [ht] at hgt
          rw [hu] at hgu
          cases hgt
          cases hgu
          exact ⟨hf, fun i x' y' h h' => g3 i x' y' (List.getElem?_eq_some_iff.1 h).1 h h'⟩
        · exact g4 x y t' u' hx hx' e hgt hgu

theorem seen2_all {l : List Typ} {a b : Int} {m' : List (List Int × Bool)} (s : Seen2 l a b [] m') : Alike l a b := by
  have no : ∀ x y, ¬ Marked2 ([] : List (List Int × Bool)) x y := fun x y h => by simp [MarkK, atK] at h
  have all : ∀ x y, Pch l a b x y → Marked2 m' x y := by
    intro x y h
    induction h with
    | self => exact s.self
    | step t u j _ h1 h2 h3 h4 ih => exact (s.shut _ _ t u ih (no _ _) h1 h2).2 j _ _ h3 h4
  exact fun x y h t u ht hu => (s.shut x y t u (all x y h) (no _ _) ht hu).1

theorem Same_eq {l : List Typ} (hv : Valid l) {i k : Int} (h0 : 0 ≤ i) (h1 : i < l.length) (h2 : 0 ≤ k) (h3 : k < l.length) : ∃ b, ckinds_Same (l, i, k) = some (b, 0) ∧ (b = true ↔ Alike l i k) := by
  have hlen := hv.1
  have hb := hv.2.1
  have key := visit2_ok hb (fun k a b m => rkinds_Same_1 k (a, b, (), (), (), ()) ((), m, l, (), ()))
    (fun k a b m hm => by
      show rkinds_Same_1 (k + 1) _ _ = _
      rw [rS_succ]
      unfold nkinds_Same_1
      dsimp only
      rw [show (@atK K2 .bool [a, b] false m).1 = true from hm, cond_true, eqD_self, cond_true])
    (fun k a b m t u hm ht hu hf => by
      refine ⟨@putK K2 .bool [a, b] true m, ?_⟩
      show rkinds_Same_1 (k + 1) _ _ = _
      rw [rS_succ]
      unfold nkinds_Same_1
      dsimp only
      rw [show (@atK K2 .bool [a, b] false m).1 = false from Bool.eq_false_iff.2 hm, cond_false, ht, Option.bind_some, hu, Option.bind_some, form_eq t u (by have := built_flen (built_at hb ht); omega), Option.bind_some, hf, Bool.not_false, cond_true, eqD_self, cond_true])
    (fun k a b m t u hm ht hu hf I hI hstep => by
      have hbt := built_at hb ht
      have hbu := built_at hb hu
      have hpl := next_len hbt
      have hln := form_len hb ht hu hf
      show ∃ m' r, rkinds_Same_1 (k + 1) _ _ = _ ∧ _
      rw [rS_succ]
      unfold nkinds_Same_1
      dsimp only
      rw [show (@atK K2 .bool [a, b] false m).1 = false from Bool.eq_false_iff.2 hm, cond_false, ht, Option.bind_some, hu, Option.bind_some, form_eq t u (by have := built_flen hbt; omega), Option.bind_some, hf, Bool.not_true, cond_false, Option.bind_some, next_eq u (by have := built_flen hbu; omega), Option.bind_some, Option.bind_some, next_eq t (by have := built_flen hbt; omega), Option.bind_some]
      refine range_post (g := gkinds_Same_1_0 (rkinds_Same_1 k) ((), m, l, (), ()) big) (n := (nextS t).length) (fun (m : List (List Int × Bool)) (j : Nat) => (((nextS t).length : Int), (j : Int), m, l, nextS u, nextS t)) I (fun q => ∃ m' r, q = some (m', r) ∧ (r = true → I (nextS t).length m') ∧ (r = false → ¬ Alike l a b)) ?_ ?_
        (nextS t).length 0 big (by simp) (by unfold big; omega) _ hI
      · intro self s hs
        refine ⟨s, true, ?_, fun _ => hs, fun h => by cases h⟩
        show hkinds_Same_1_0 _ _ self _ = _
        unfold hkinds_Same_1_0
        dsimp only
        rw [decide_eq_false (by omega), cond_false, eqD_self, cond_true]
      · intro self s j hj hs
        have hj' : j < (nextS u).length := by omega
        obtain ⟨m', r, g1, g2, g3⟩ := hstep j hj hj' s hs
        have hst : gkinds_Same_1_0 (rkinds_Same_1 k) ((), m, l, (), ()) big self (((nextS t).length : Int), (j : Int), s, l, nextS u, nextS t) = bif !r then some (m', false) else self (((nextS t).length : Int), ((j + 1 : Nat) : Int), m', l, nextS u, nextS t) := by
          show hkinds_Same_1_0 _ _ self _ = _
          unfold hkinds_Same_1_0
          dsimp only
          rw [decide_eq_true (by omega), cond_true, decide_eq_true (by omega), Bool.true_and, cond_true, show nth (nextS t) (Int.toNat (j : Int)) = some (nextS t)[j] from List.getElem?_eq_getElem hj, Option.bind_some, decide_eq_true (by omega), Bool.true_and, cond_true, show nth (nextS u) (Int.toNat (j : Int)) = some (nextS u)[j] from List.getElem?_eq_getElem hj', Option.bind_some, g1, Option.bind_some, wrap_succ hj (by have := maxLen_ge; omega), eqD_self, cond_true]
        cases r with
        | true => left; exact ⟨m', g2 rfl, hst⟩
        | false => right; exact ⟨m', false, hst, (fun h => by cases h), fun _ => g3 rfl⟩)
    big i k [] h0 h1 h2 h3 (by have := unP_all l.length (by omega) []; unfold big; omega)
  obtain ⟨m, r, e, g1, g2⟩ := key
  refine ⟨r, ?_, ?_⟩
  · show nkinds_Same _ = _
    unfold nkinds_Same
    dsimp only
    rw [checked_eq _ _ (by simp), if_pos hv, if_pos (by simp; omega), Option.bind_some, show ((0 : Int) != 0) = false from rfl, cond_false]
    rw [show ckinds_Same_1 (i, k, (), (), (), ()) ((), [], l, (), ()) = some (m, r) from e, Option.bind_some]
  · cases r with
    | true => simpa using seen2_all (g1 rfl)
    | false => simpa using g2 rfl
end Go.Proofs.Ytegemaonfdfnbaa
