/- Layer 4: more types at the end of a table change nothing about the ones before. -/
import Derived.Test.YtegemaonfdfnbaaKindJ
set_option linter.unusedVariables false
set_option linter.unusedSimpArgs false
set_option maxRecDepth 100000
namespace Go.Proofs.Ytegemaonfdfnbaa
open Go.Lift

theorem ble_k {k n : Nat} (hk : Nat.ble 1 k = true) (h : n ≤ 10000) : (Nat.ble 1 k && Nat.ble n lim) = true := by
  rw [Bool.and_eq_true]
  exact ⟨hk, Nat.ble_eq_true_of_le (by have := lim_ge; omega)⟩

theorem rTwin_eq (l : List Typ) (hl : l.length ≤ 1000) (hf : ∀ t ∈ l, t.2.2.2.1.length ≤ 1000) : cref04_Twin l = some l := by
  show nref04_Twin (iterV (gref04_Twin_0 big) big) l = _
  unfold nref04_Twin
  refine range_post (g := gref04_Twin_0 big) (n := l.length) (fun (r : List Typ) (i : Nat) => (l, (i : Int), r)) (fun i r => r = l.take i) (fun q => q = some l) ?_ ?_
    l.length 0 big (by simp) (by unfold big; omega) _ (by simp)
  · rintro self r rfl
    rw [List.take_length]
    show href04_Twin_0 self _ = _
    unfold href04_Twin_0
    dsimp only
    rw [decide_eq_false (by omega), cond_false]
  · rintro self r i hi rfl
    left
    refine ⟨_, rfl, ?_⟩
    have h1 := hf _ (List.getElem_mem hi)
    have hle : (l.take i).length ≤ 1000 := by simp; omega
    show href04_Twin_0 self _ = _
    unfold href04_Twin_0
    dsimp only
    rw [decide_eq_true (by omega), cond_true, getI_at hi, Option.bind_some, Option.bind_some]
    rw [ble_k rfl (by simp; omega), cond_true, ble_k rfl (by simp only [List.length_singleton]; omega), cond_true, wrap_succ hi (by have := maxLen_ge; omega), List.take_succ_eq_append_getElem hi]
    rfl

section
variable {l : List Typ} {t : Typ}

theorem getI_app {l : List Typ} {t : Typ} {x : Int} (h1 : x < l.length) : getI (l ++ [t]) x = getI l x := by
  unfold getI
  by_cases h0 : 0 ≤ x
  · rw [decide_eq_true h0, cond_true, cond_true]
    show (l ++ [t])[x.toNat]? = l[x.toNat]?
    rw [List.getElem?_append_left (by omega)]
  · rw [decide_eq_false h0, cond_false, cond_false]
theorem getI_last (l : List Typ) (t : Typ) : getI (l ++ [t]) (l.length : Int) = some t := by
  have := getI_at (xs := l ++ [t]) (i := l.length) (by simp)
  rw [this]
  simp

theorem builtB_mono {t : Typ} {i n i' n' : Int} (hi : i ≤ i') (hn : n ≤ n') (h : builtB t i n = true) : builtB t i' n' = true := by
  have ix : ∀ {x a b : Int}, a ≤ b → idxB x a = true → idxB x b = true := fun hab hx => by
    have := idxB_iff.1 hx
    exact idxB_iff.2 ⟨this.1, by omega⟩
  unfold builtB at h ⊢
  split
  · rename_i h1; rwa [if_pos h1] at h
  rename_i h1
  rw [if_neg h1] at h
  split
  · rename_i h2
    rw [if_pos h2] at h
    simp only [Bool.and_eq_true] at h ⊢
    exact ⟨ix hn h.1, h.2⟩
  rename_i h2
  rw [if_neg h2] at h
  split
  · rename_i h3
    rw [if_pos h3] at h
    simp only [Bool.and_eq_true] at h ⊢
    exact ⟨ix hi h.1, h.2⟩
  rename_i h3
  rw [if_neg h3] at h
  split
  · rename_i h4
    rw [if_pos h4] at h
    simp only [Bool.and_eq_true, areB, List.all_eq_true] at h ⊢
    exact ⟨h.1, h.2.1, h.2.2.1, h.2.2.2.1, h.2.2.2.2.1, fun f hf => ix hi (h.2.2.2.2.2 f hf)⟩
  · rename_i h4
    rw [if_neg h4] at h
    cases h

theorem more_built {l : List Typ} (hb : Built l) {i : Int} {t : Typ} (ht : getI l i = some t) : Built (l ++ [t]) := by
  intro j hj
  have hbt := built_at hb ht
  obtain ⟨h0, h1, _, _⟩ := getI_some ht
  by_cases hjl : j < l.length
  · rw [List.getElem_append_left hjl]
    exact builtB_mono (Int.le_refl _) (by simp; omega) (hb j hjl)
  · have : j = l.length := by simp at hj; omega
    subst this
    rw [List.getElem_append_right (Nat.le_refl _)]
    simp only [Nat.sub_self, List.getElem_cons_zero]
    exact builtB_mono (by omega) (by simp; omega) hbt

theorem wOne_pre {less less' acc : List Int} {t : Typ} {i n : Int} (hb : builtB t i n = true) (hl : ∀ p : Int, 0 ≤ p → p < n → less'.getD p.toNat 0 = less.getD p.toNat 0) : wOne less' acc t = wOne less acc t := by
  unfold wOne
  split
  · rename_i h4; have := built_ptr hb (.inl h4); rw [hl _ this.1 this.2]
  split
  · rename_i h7; have := built_ptr hb (.inr h7); rw [hl _ this.1 this.2]
  · rfl

theorem wGo_less {l : List Typ} (hb : Built l) {less less' : List Int} (hl : ∀ p : Int, 0 ≤ p → p < l.length → less'.getD p.toNat 0 = less.getD p.toNat 0) : ∀ i, i ≤ l.length → wGo less' (l.take i) [] = wGo less (l.take i) []
  | 0, _ => by simp [wGo]
  | i + 1, hi => by
    rw [List.take_succ_eq_append_getElem (by omega), wGo_snoc, wGo_snoc, wGo_less hb hl i (by omega), wOne_pre (hb i (by omega)) hl]

theorem more_widths {l : List Typ} (hb : Built l) {i : Int} {t : Typ} (ht : getI l i = some t) : ∀ n, wN (l ++ [t]) n = wN l n ++ [(wN l n).getD i.toNat 0]
  | 0 => by
    rw [w0_getD]
    show List.replicate (l ++ [t]).length (0 : Int) = List.replicate l.length 0 ++ [0]
    rw [List.length_append, List.length_singleton, List.replicate_succ']
  | n + 1 => by
    have ih := more_widths hb ht n
    have hlen := (wN_ok hb n).2
    have hless : ∀ p : Int, 0 ≤ p → p < l.length → (wN (l ++ [t]) n).getD p.toNat 0 = (wN l n).getD p.toNat 0 := fun p h0 h1 => by rw [ih, getD_app h0 (by omega)]
    have h1 := wGo_less hb hless l.length (Nat.le_refl _)
    rw [List.take_length] at h1
    have h2 : wN (l ++ [t]) (n + 1) = wN l (n + 1) ++ [cap (wOne (wN (l ++ [t]) n) (wN l (n + 1)) t)] := by
      show wGo (wN (l ++ [t]) n) (l ++ [t]) [] = _
      rw [wGo_snoc, h1]
      rfl
    rw [h2, wOne_pre (built_at hb ht) hless]
    obtain ⟨_, _, hx, rfl⟩ := getI_some ht
    rw [wN_at hb n hx]

theorem more_valid {l : List Typ} (hv : Valid l) (hl : l.length < 32) {i : Int} {t : Typ} (ht : getI l i = some t) : Valid (l ++ [t]) := by
  refine ⟨by simp; omega, more_built hv.2.1 ht, ?_⟩
  rw [more_widths hv.2.1 ht]
  obtain ⟨h0, h1, _, _⟩ := getI_some ht
  have hlen := (wN_ok hv.2.1 4).2
  intro hm
  rcases List.mem_append.1 hm with hm | hm
  · exact hv.2.2 hm
  · refine hv.2.2 ?_
    rw [List.mem_singleton.1 hm, List.getD_eq_getElem?_getD, List.getElem?_eq_getElem (by omega)]
    exact List.getElem_mem _

theorem more_rch {l : List Typ} {ways : Typ → List Int} (hw : ∀ x t, getI l x = some t → Ixs l.length (ways t)) {i : Int} (h0 : 0 ≤ i) (h1 : i < l.length) (t : Typ) (x : Int) : Rch (l ++ [t]) ways i x ↔ Rch l ways i x := by
  constructor
  · intro h
    have : Rch l ways i x ∧ 0 ≤ x ∧ x < l.length := by
      induction h with
      | self => exact ⟨.self, h0, h1⟩
      | step u _ g1 g2 ih =>
        obtain ⟨k1, k2, k3⟩ := ih
        rw [getI_app k3] at g1
        exact ⟨.step u k1 g1 g2, hw _ _ g1 _ g2⟩
    exact this.1
  · intro h
    induction h with
    | self => exact .self
    | step u _ g1 g2 ih =>
      refine .step u ih ?_ g2
      obtain ⟨_, k1, _⟩ := getI_some g1
      rw [getI_app k1]
      exact g1

theorem next_ways {l : List Typ} (hb : Built l) : ∀ x t, getI l x = some t → Ixs l.length (nextS t) := fun x t h => by
  obtain ⟨_, _, hx, rfl⟩ := getI_some h
  exact next_ix hb hx
theorem part_ways {l : List Typ} (hb : Built l) : ∀ x t, getI l x = some t → Ixs l.length (partsS t) := fun x t h => by
  obtain ⟨_, _, hx, rfl⟩ := getI_some h
  exact fun y hy => by have := parts_ix hb hx y hy; omega

theorem pch_in {l : List Typ} (hb : Built l) {a b x y : Int} (ha : 0 ≤ a ∧ a < l.length) (hb' : 0 ≤ b ∧ b < l.length) (h : Pch l a b x y) : (0 ≤ x ∧ x < l.length) ∧ 0 ≤ y ∧ y < l.length := by
  induction h with
  | self => exact ⟨ha, hb'⟩
  | step t u j _ h1 h2 h3 h4 ih =>
    obtain ⟨g1, g2⟩ := List.getElem?_eq_some_iff.1 h3
    obtain ⟨g3, g4⟩ := List.getElem?_eq_some_iff.1 h4
    exact ⟨next_ways hb _ _ h1 _ (g2 ▸ List.getElem_mem g1), next_ways hb _ _ h2 _ (g4 ▸ List.getElem_mem g3)⟩

theorem more_pch {l : List Typ} (hb : Built l) {a b : Int} (ha : 0 ≤ a ∧ a < l.length) (hb' : 0 ≤ b ∧ b < l.length) (t : Typ) {x y : Int} : Pch (l ++ [t]) a b x y ↔ Pch l a b x y := by
  constructor
  · intro h
    have : Pch l a b x y := by
      induction h with
      | self => exact .self
      | step t' u' j _ h1 h2 h3 h4 ih =>
        obtain ⟨g1, g2⟩ := pch_in hb ha hb' ih
        rw [getI_app g1.2] at h1
        rw [getI_app g2.2] at h2
        exact .step t' u' j ih h1 h2 h3 h4
    exact this
  · intro h
    induction h with
    | self => exact .self
    | step t' u' j hp h1 h2 h3 h4 ih =>
      obtain ⟨g1, g2⟩ := pch_in hb ha hb' hp
      exact .step t' u' j ih (by rw [getI_app g1.2]; exact h1) (by rw [getI_app g2.2]; exact h2) h3 h4

theorem more_alike {l : List Typ} (hb : Built l) {a b : Int} (ha : 0 ≤ a ∧ a < l.length) (hb' : 0 ≤ b ∧ b < l.length) (t : Typ) : Alike (l ++ [t]) a b ↔ Alike l a b := by
  constructor
  · intro h x y hp u v hu hv
    obtain ⟨g1, g2⟩ := pch_in hb ha hb' hp
    exact h x y ((more_pch hb ha hb' t).2 hp) u v (by rw [getI_app g1.2]; exact hu) (by rw [getI_app g2.2]; exact hv)
  · intro h x y hp u v hu hv
    have hp' := (more_pch hb ha hb' t).1 hp
    obtain ⟨g1, g2⟩ := pch_in hb ha hb' hp'
    rw [getI_app g1.2] at hu
    rw [getI_app g2.2] at hv
    exact h x y hp' u v hu hv

/-- two that are the same type -/
theorem same_alike {l : List Typ} {a b b' : Int} {t : Typ} (h1 : getI l b = some t) (h2 : getI l b' = some t) (h : Alike l a b) : Alike l a b' := by
  have key : ∀ x y, Pch l a b' x y → Pch l a b x y ∨ (x = a ∧ y = b') := by
    intro x y hp
    induction hp with
    | self => exact .inr ⟨rfl, rfl⟩
    | step u v j _ g1 g2 g3 g4 ih =>
      rcases ih with ih | ⟨rfl, rfl⟩
      · exact .inl (.step u v j ih g1 g2 g3 g4)
      · rw [h2] at g2
        cases g2
        exact .inl (.step u t j .self g1 h1 g3 g4)
  intro x y hp u v hu hv
  rcases key x y hp with hp | ⟨rfl, rfl⟩
  · exact h x y hp u v hu hv
  · rw [h2] at hv
    cases hv
    exact h x b .self u t hu h1
end

theorem more_true : ∀ x, claw04_KindsMore x = some true := by
  rintro ⟨l, i, k⟩
  show nlaw04_KindsMore _ = _
  unfold nlaw04_KindsMore
  dsimp only
  obtain ⟨b, hf, hfb⟩ := fit_eq l i k
  rw [hf, Option.bind_some]
  cases b with
  | false => rw [Bool.not_false, cond_true, alive_true]; rfl
  | true =>
    obtain ⟨hv, ⟨h0, h1⟩, h2, h3⟩ := hfb rfl
    rw [Bool.not_true, cond_false]
    by_cases hl : l.length < 32
    · have hb := hv.2.1
      obtain ⟨t, ht⟩ := getI_in h0 h1
      rw [decide_eq_false (by omega), cond_false, rTwin_eq l (by omega) (fun u hu => by
        obtain ⟨j, hj, rfl⟩ := List.getElem_of_mem hu
        have := built_flen (hb j hj)
        omega), Option.bind_some, ht, Option.bind_some, ble_k rfl (by simp; omega), cond_true]
      have hv' := more_valid hv hl ht
      have happ : List.append l [t] = l ++ [t] := rfl
      rw [happ]
      have hlen' : ((l ++ [t]).length : Int) = (l.length : Int) + 1 := by simp
      obtain ⟨b1, e1, i1⟩ := Holds_eq hv h0 h1 h2 h3
      obtain ⟨b2, e2, i2⟩ := Holds_eq hv' h0 (by omega : i < ((l ++ [t]).length : Int)) h2 (by omega)
      obtain ⟨p1, e3, i3⟩ := Reach_eq hv h0 h1
      obtain ⟨p2, e4, i4⟩ := Reach_eq hv' h0 (by omega : i < ((l ++ [t]).length : Int))
      obtain ⟨b3, e5, i5⟩ := Same_eq hv h0 h1 h2 h3
      obtain ⟨b4, e6, i6⟩ := Same_eq hv' h0 (by omega : i < ((l ++ [t]).length : Int)) h2 (by omega)
      obtain ⟨b5, e7, i7⟩ := Same_eq hv' h2 (by omega : k < ((l ++ [t]).length : Int)) (by omega : (0 : Int) ≤ (l.length : Int)) (by omega)
      have hb12 : b2 = b1 := by
        rw [Bool.eq_iff_iff, i2, i1]
        exact more_rch (part_ways hb) h0 h1 t k
      have hpp : (ixs (l ++ [t]).length).filter p2 = (ixs l.length).filter p1 := by
        have hx : ixs (l ++ [t]).length = ixs l.length ++ [(l.length : Int)] := by simp [ixs, List.range_succ]
        have hr : ∀ x, Rch l nextS i x → 0 ≤ x ∧ x < l.length := by
          intro x h
          induction h with
          | self => exact ⟨h0, h1⟩
          | step u _ g1 g2 _ => exact next_ways hb _ _ g1 _ g2
        have hlast : p2 (l.length : Int) = false := by
          rw [Bool.eq_false_iff]
          intro h
          have := hr _ ((more_rch (next_ways hb) h0 h1 t _).1 ((i4 _).1 h))
          omega
        rw [hx, List.filter_append]
        have e : [(l.length : Int)].filter p2 = [] := by simp [hlast]
        rw [e, List.append_nil]
        apply List.filter_congr
        intro x _
        rw [Bool.eq_iff_iff, i4, i3]
        exact more_rch (next_ways hb) h0 h1 t x
      have hb34 : b4 = b3 := by
        rw [Bool.eq_iff_iff, i6, i5]
        exact more_alike hb ⟨h0, h1⟩ ⟨h2, h3⟩ t
      have hb35 : b5 = b3 := by
        rw [Bool.eq_iff_iff, i7, i5, ← more_alike hb ⟨h0, h1⟩ ⟨h2, h3⟩ t]
        have g1 := getI_last l t
        have g2 : getI (l ++ [t]) i = some t := by rw [getI_app h1]; exact ht
        exact ⟨fun h => alike_symm (same_alike g1 g2 h), fun h => same_alike g2 g1 (alike_symm h)⟩
      subst hb12 hb34 hb35
      have hrl : ((ixs l.length).filter p1).length ≤ 1000 := by
        have := List.length_filter_le p1 (ixs l.length)
        simp [ixs] at this ⊢
        omega
      rw [hpp] at e4
      simp only [e1, e2, e3, e4, e5, e6, e7, Option.bind_some, Check_eq, if_pos hv', rSameInts_eq _ _ hrl, alive_true]
      simp
    · rw [decide_eq_true (by omega), cond_true, alive_true]; rfl
end Go.Proofs.Ytegemaonfdfnbaa
