/- Layer 4: being alike is an equivalence; alike types look the same, are as deep and as wide, and lead to alike ones. -/
import Derived.Test.YtegemaonfdfnbaaKindI
set_option linter.unusedVariables false
set_option linter.unusedSimpArgs false
set_option maxRecDepth 100000
namespace Go.Proofs.Ytegemaonfdfnbaa
open Go.Lift

theorem pch_diag {l : List Typ} {a x y : Int} (h : Pch l a a x y) : x = y := by
  induction h with
  | self => rfl
  | step t u j _ h1 h2 h3 h4 ih =>
    subst ih
    rw [h1] at h2
    cases h2
    rw [h3] at h4
    exact Option.some.inj h4
theorem formB_self (t : Typ) : formB t t = true := formB_iff.2 ⟨rfl, rfl, rfl⟩
theorem formB_symm {t u : Typ} (h : formB t u = true) : formB u t = true := by
  obtain ⟨h1, h2, h3⟩ := formB_iff.1 h
  exact formB_iff.2 ⟨h1.symm, h2.symm, h3.symm⟩
theorem formB_trans {t u v : Typ} (h : formB t u = true) (h' : formB u v = true) : formB t v = true := by
  obtain ⟨h1, h2, h3⟩ := formB_iff.1 h
  obtain ⟨g1, g2, g3⟩ := formB_iff.1 h'
  exact formB_iff.2 ⟨h1.trans g1, h2.trans g2, h3.trans g3⟩
theorem alike_refl (l : List Typ) (a : Int) : Alike l a a := by
  intro x y h t u ht hu
  have := pch_diag h
  subst this
  rw [ht] at hu
  cases hu
  exact formB_self t
theorem pch_symm {l : List Typ} {a b x y : Int} (h : Pch l a b x y) : Pch l b a y x := by
  induction h with
  | self => exact .self
  | step t u j _ h1 h2 h3 h4 ih => exact .step u t j ih h2 h1 h4 h3
theorem alike_symm {l : List Typ} {a b : Int} (h : Alike l a b) : Alike l b a := fun x y hp t u ht hu => formB_symm (h y x (pch_symm hp) u t hu ht)
theorem pch_mid {l : List Typ} (hb : Built l) {a b c : Int} (hb0 : 0 ≤ b) (hb1 : b < l.length) (h : Alike l a b) {x z : Int} (hp : Pch l a c x z) : ∃ y, Pch l a b x y ∧ Pch l b c y z ∧ 0 ≤ y ∧ y < l.length := by
  induction hp with
  | self => exact ⟨b, .self, .self, hb0, hb1⟩
  | step t u j _ h1 h2 h3 h4 ih =>
    obtain ⟨y, g1, g2, g3, g4⟩ := ih
    obtain ⟨s, hs⟩ := getI_in g3 g4
    have hf := h _ _ g1 t s h1 hs
    have hl := form_len hb h1 hs hf
    have hj : j < (nextS s).length := by rw [← hl]; exact (List.getElem?_eq_some_iff.1 h3).1
    have hy := List.getElem?_eq_getElem hj
    obtain ⟨_, _, hx, rfl⟩ := getI_some hs
    have hr := next_ix hb hx _ (List.getElem_mem hj)
    exact ⟨_, .step t _ j g1 h1 hs h3 hy, .step _ u j g2 hs h2 hy h4, hr.1, hr.2⟩
theorem alike_trans {l : List Typ} (hb : Built l) {a b c : Int} (hb0 : 0 ≤ b) (hb1 : b < l.length) (h : Alike l a b) (h' : Alike l b c) : Alike l a c := by
  intro x z hp t u ht hu
  obtain ⟨y, g1, g2, g3, g4⟩ := pch_mid hb hb0 hb1 h hp
  obtain ⟨s, hs⟩ := getI_in g3 g4
  exact formB_trans (h x y g1 t s ht hs) (h' y z g2 s u hs hu)
theorem alike_next {l : List Typ} {a b : Int} (h : Alike l a b) {t u : Typ} (ht : getI l a = some t) (hu : getI l b = some u) {j : Nat} {x y : Int} (hx : (nextS t)[j]? = some x) (hy : (nextS u)[j]? = some y) : Alike l x y :=
  fun x' y' hp => h x' y' ((Pch.step t u j .self ht hu hx hy).trans hp)

/-! ### depths -/
theorem maxT_map (acc : List Int) : ∀ (ps : List Int) (m : Int), maxT acc m ps = (ps.map fun p => acc.getD p.toNat 0).foldl max m
  | [], _ => rfl
  | p :: r, m => maxT_map acc r _

/-- parts of alike types, one by one -/
theorem parts_alike {l : List Typ} (hb : Built l) {i k : Int} {t u : Typ} (ht : getI l i = some t) (hu : getI l k = some u) (h : Alike l i k) (f : Int → Int) (hf : ∀ p q, p ∈ partsS t → q ∈ partsS u → Alike l p q → f p = f q) :
    (partsS t).map f = (partsS u).map f := by
  obtain ⟨h1, h2, h3⟩ := formB_iff.1 (h i k .self t u ht hu)
  have hl := form_len hb ht hu (h i k .self t u ht hu)
  by_cases hk : t.1 = 4 ∨ t.1 = 7
  · have e1 : partsS t = [] := by unfold partsS; rw [if_neg (by omega), if_neg (by omega)]
    have e2 : partsS u = [] := by unfold partsS; rw [if_neg (by omega), if_neg (by omega)]
    rw [e1, e2]
  · have e1 : nextS t = partsS t := by unfold nextS; rw [if_neg hk]
    have e2 : nextS u = partsS u := by unfold nextS; rw [if_neg (by rw [← h1]; exact hk)]
    rw [e1, e2] at hl
    apply List.ext_getElem (by simpa using hl)
    intro j g1 g2
    simp only [List.getElem_map]
    have g1' : j < (partsS t).length := by simpa using g1
    have g2' : j < (partsS u).length := by simpa using g2
    refine hf _ _ (List.getElem_mem _) (List.getElem_mem _) (alike_next h ht hu (j := j) ?_ ?_)
    · rw [e1]; exact List.getElem?_eq_getElem g1'
    · rw [e2]; exact List.getElem?_eq_getElem g2'

theorem alike_depth {l : List Typ} (hb : Built l) : ∀ (n : Nat) {i k : Int}, i < n → 0 ≤ i → i < l.length → 0 ≤ k → k < l.length → Alike l i k → (dS l).getD i.toNat 0 = (dS l).getD k.toNat 0
  | 0, i, k, h, h0, _, _, _, _ => by omega
  | n + 1, i, k, hn, h0, h1, h2, h3, ha => by
    obtain ⟨t, ht⟩ := getI_in h0 h1
    obtain ⟨u, hu⟩ := getI_in h2 h3
    have hm := parts_alike hb ht hu ha (fun p => (dS l).getD p.toNat 0) fun p q hp hq hal => by
      have g1 := depth_part hb ht hp
      have g2 := depth_part hb hu hq
      exact alike_depth hb n (by omega) g1.2.1 (by omega) g2.2.1 (by omega) hal
    obtain ⟨_, _, hx, rfl⟩ := getI_some ht
    obtain ⟨_, _, hy, rfl⟩ := getI_some hu
    rw [dS_at hb hx, dS_at hb hy, maxT_map, maxT_map, hm]

/-! ### widths -/
theorem wGo_append (less : List Int) : ∀ (a b : List Typ) (acc : List Int), wGo less (a ++ b) acc = wGo less b (wGo less a acc)
  | [], _, _ => rfl
  | t :: r, b, acc => wGo_append less r b _
theorem wGo_pre (less : List Int) : ∀ (b : List Typ) (acc : List Int), ∃ s, wGo less b acc = acc ++ s
  | [], acc => ⟨[], by simp [wGo]⟩
  | t :: r, acc => by
    obtain ⟨s, h⟩ := wGo_pre less r (acc ++ [cap (wOne less acc t)])
    exact ⟨[cap (wOne less acc t)] ++ s, by rw [wGo, h, List.append_assoc]⟩
theorem sumT_parts (acc : List Int) (t : Typ) (h : t.1 = 5) : sumT acc t.2.2.2.1 = ((partsS t).map fun p => acc.getD p.toNat 0).sum := by
  unfold sumT partsS
  rw [if_neg (by omega), if_pos h, List.map_map]
  rfl
theorem wOne_congr {less a b : List Int} {t : Typ} (h : ∀ p ∈ partsS t, a.getD p.toNat 0 = b.getD p.toNat 0) : wOne less a t = wOne less b t := by
  unfold wOne
  split
  · rfl
  split
  · rfl
  split
  · rename_i h6
    rw [h t.2.1 (by unfold partsS; rw [if_pos h6]; simp)]
  split
  · rename_i h5
    rw [sumT_parts _ _ h5, sumT_parts _ _ h5]
    congr 2
    exact List.map_congr_left h
  · rfl
theorem wN_at {l : List Typ} (hb : Built l) (n : Nat) {i : Nat} (hi : i < l.length) : (wN l (n + 1)).getD i 0 = cap (wOne (wN l n) (wN l (n + 1)) l[i]) := by
  have hpre : ∃ s, wN l (n + 1) = wGo (wN l n) (l.take (i + 1)) [] ++ s := by
    have : wN l (n + 1) = wGo (wN l n) (l.drop (i + 1)) (wGo (wN l n) (l.take (i + 1)) []) := by
      show wGo (wN l n) l [] = _
      rw [← wGo_append, List.take_append_drop]
    rw [this]
    exact wGo_pre _ _ _
  obtain ⟨s, hs⟩ := hpre
  rw [List.take_succ_eq_append_getElem hi, wGo_snoc] at hs
  have hl : (wGo (wN l n) (l.take i) []).length = i := by rw [wGo_len]; simp; omega
  have h1 : (wN l (n + 1)).getD i 0 = cap (wOne (wN l n) (wGo (wN l n) (l.take i) []) l[i]) := by
    rw [hs, List.append_assoc, List.getD_eq_getElem?_getD, List.getElem?_append_right (by omega), hl, Nat.sub_self]
    rfl
  rw [h1]
  congr 1
  apply wOne_congr
  intro p hp
  have := parts_ix hb hi p hp
  rw [hs, List.append_assoc, getD_app this.1 (by omega)]

theorem alike_width {l : List Typ} (hb : Built l) : ∀ (n : Nat) (m : Nat) {i k : Int}, i < m → 0 ≤ i → i < l.length → 0 ≤ k → k < l.length → Alike l i k → (wN l n).getD i.toNat 0 = (wN l n).getD k.toNat 0
  | 0, _, i, k, _, _, _, _, _, _ => by rw [w0_getD, w0_getD]
  | n + 1, 0, i, k, h, h0, _, _, _, _ => by omega
  | n + 1, m + 1, i, k, hm, h0, h1, h2, h3, ha => by
    obtain ⟨t, ht⟩ := getI_in h0 h1
    obtain ⟨u, hu⟩ := getI_in h2 h3
    have hf := ha i k .self t u ht hu
    obtain ⟨f1, f2, f3⟩ := formB_iff.1 hf
    have hparts := parts_alike hb ht hu ha (fun p => (wN l (n + 1)).getD p.toNat 0) fun p q hp hq hal => by
      have g1 := depth_part hb ht hp
      have g2 := depth_part hb hu hq
      exact alike_width hb (n + 1) m (by omega) g1.2.1 (by omega) g2.2.1 (by omega) hal
    have hptr : t.1 = 4 ∨ t.1 = 7 → (wN l n).getD t.2.1.toNat 0 = (wN l n).getD u.2.1.toNat 0 := by
      intro hk
      have e1 : nextS t = [t.2.1] := by unfold nextS; rw [if_pos hk]
      have e2 : nextS u = [u.2.1] := by unfold nextS; rw [if_pos (by rw [← f1]; exact hk)]
      have p1 := built_ptr (built_at hb ht) hk
      have p2 := built_ptr (built_at hb hu) (by rw [← f1]; exact hk)
      exact alike_width hb n (t.2.1.toNat + 1) (by omega) p1.1 p1.2 p2.1 p2.2 (alike_next ha ht hu (j := 0) (by rw [e1]; rfl) (by rw [e2]; rfl))
    have key : wOne (wN l n) (wN l (n + 1)) t = wOne (wN l n) (wN l (n + 1)) u := by
      unfold wOne
      rw [← f1]
      split
      · rename_i h4; rw [hptr (.inl h4)]
      split
      · rename_i h7; rw [hptr (.inr h7)]
      split
      · rename_i h6
        have e1 : partsS t = [t.2.1] := by unfold partsS; rw [if_pos h6]
        have e2 : partsS u = [u.2.1] := by unfold partsS; rw [if_pos (by rw [← f1]; exact h6)]
        rw [e1, e2] at hparts
        simp only [List.map_cons, List.map_nil, List.cons.injEq, and_true] at hparts
        rw [hparts, f2]
      split
      · rename_i h5
        rw [sumT_parts _ _ h5, sumT_parts _ _ (by rw [← f1]; exact h5), hparts]
      · rfl
    obtain ⟨_, _, hx, rfl⟩ := getI_some ht
    obtain ⟨_, _, hy, rfl⟩ := getI_some hu
    rw [wN_at hb n hx, wN_at hb n hy, key]

/-- a type is not less wide than deep -/
theorem width_depth {l : List Typ} (hv : Valid l) : ∀ (m : Nat) {i : Int}, i < m → 0 ≤ i → i < l.length → (dS l).getD i.toNat 0 ≤ (wN l 4).getD i.toNat 0
  | 0, i, h, h0, _ => by omega
  | m + 1, i, hm, h0, h1 => by
    have hb := hv.2.1
    have hx : i.toNat < l.length := by omega
    have hbx := hb _ hx
    have hwl := wN_ok hb 4
    have hne : (wN l 4).getD i.toNat 0 ≠ 5001 := fun e => hv.2.2 (by
      rw [← e, List.getD_eq_getElem?_getD, List.getElem?_eq_getElem (by omega)]
      exact List.getElem_mem _)
    have hw := wN_at hb 3 hx
    have hless := (wN_ok hb 3).1
    have hpos : 0 ≤ wOne (wN l 3) (wN l 4) l[i.toNat] := (wOne_bound hless hwl.1 hbx).1
    have hcap : (wN l 4).getD i.toNat 0 = wOne (wN l 3) (wN l 4) l[i.toNat] := by
      rw [hw] at hne ⊢
      unfold cap at hne ⊢
      split at hne
      · exact absurd rfl hne
      · rename_i hn; rw [if_neg hn]
    rw [hcap, dS_at hb hx]
    have hpart : ∀ p ∈ partsS l[i.toNat], (dS l).getD p.toNat 0 ≤ (wN l 4).getD p.toNat 0 := fun p hp => by
      have := parts_ix hb hx p hp
      exact width_depth hv m (by omega) this.1 (by omega)
    have hlw := fun x => hless.getD x
    have haw := fun x => hwl.1.getD x
    generalize l[i.toNat] = t at *
    unfold wOne
    split
    · rename_i h4
      have e : partsS t = [] := by unfold partsS; rw [if_neg (by omega), if_neg (by omega)]
      rw [e]
      have := hlw t.2.1.toNat
      show (0 : Int) + 1 ≤ _
      omega
    split
    · rename_i h7
      have e : partsS t = [] := by unfold partsS; rw [if_neg (by omega), if_neg (by omega)]
      rw [e]
      have := hlw t.2.1.toNat
      show (0 : Int) + 1 ≤ _
      omega
    split
    · rename_i h6
      have e : partsS t = [t.2.1] := by unfold partsS; rw [if_pos h6]
      rw [e] at hpart ⊢
      have h2 := hpart t.2.1 (by simp)
      have h3 := haw t.2.1.toNat
      have h4 := built_arr hbx h6
      have h5 : (wN l 4).getD t.2.1.toNat 0 ≤ t.2.2.1 * (wN l 4).getD t.2.1.toNat 0 := by
        have := Int.mul_le_mul_of_nonneg_right h4.2.2.1 h3.1
        omega
      show max 0 ((dS l).getD t.2.1.toNat 0) + 1 ≤ _
      omega
    split
    · rename_i h5
      rw [sumT_parts _ _ h5]
      have : ∀ (ps : List Int) (m : Int), 0 ≤ m → (∀ p ∈ ps, (dS l).getD p.toNat 0 ≤ (wN l 4).getD p.toNat 0) → maxT (dS l) m ps ≤ m + (ps.map fun p => (wN l 4).getD p.toNat 0).sum := by
        intro ps
        induction ps with
        | nil => intro m _ _; simp [maxT]
        | cons p r ih =>
          intro m hm h
          have h1 := h p (by simp)
          have h2 := haw p.toNat
          have h3 := ih (max m ((dS l).getD p.toNat 0)) (by omega) fun q hq => h q (by simp [hq])
          rw [List.map_cons, List.sum_cons]
          show maxT (dS l) (max m ((dS l).getD p.toNat 0)) r ≤ _
          omega
      have := this (partsS t) 0 (by omega) hpart
      omega
    · rename_i h4 h7 h6 h5
      have e : partsS t = [] := by unfold partsS; rw [if_neg h6, if_neg h5]
      rw [e]
      show (0 : Int) + 1 ≤ _
      omega

theorem alike_loop {l : List Typ} (hv : Valid l) {s t : List Int} (hs : s.length ≤ 8) (ht : t.length = s.length) (hal : ∀ (j : Nat) x y, s[j]? = some x → t[j]? = some y → (0 ≤ x ∧ x < l.length) ∧ (0 ≤ y ∧ y < l.length) ∧ Alike l x y) :
    iterV (glaw04_KindsAlike_0 big) big (l, 0, s, t) = some true := by
  refine range_post (g := glaw04_KindsAlike_0 big) (n := s.length) (fun (_ : Unit) (m : Nat) => (l, (m : Int), s, t)) (fun _ _ => True) (fun q => q = some true) ?_ ?_
    s.length 0 big (by simp) (by unfold big; omega) () trivial
  · intro self _ _
    show hlaw04_KindsAlike_0 self _ = _
    unfold hlaw04_KindsAlike_0
    dsimp only
    rw [decide_eq_false (by omega), cond_false, alive_true]; rfl
  · intro self _ m hm _
    left
    refine ⟨(), trivial, ?_⟩
    have hm' : m < t.length := by omega
    have e1 : nth s (Int.toNat (m : Int)) = some s[m] := List.getElem?_eq_getElem hm
    have e2 : nth t (Int.toNat (m : Int)) = some t[m] := List.getElem?_eq_getElem hm'
    obtain ⟨h1, h2, h3⟩ := hal m _ _ (List.getElem?_eq_getElem hm) (List.getElem?_eq_getElem hm')
    obtain ⟨b, g1, g2⟩ := Same_eq hv h1.1 h1.2 h2.1 h2.2
    have hb : b = true := g2.2 h3
    subst hb
    have d1 : decide ((m : Int) < (s.length : Int)) = true := decide_eq_true (by omega)
    have d2 : decide (0 ≤ (m : Int)) = true := decide_eq_true (by omega)
    have d3 : decide ((m : Int) < (t.length : Int)) = true := decide_eq_true (by omega)
    show hlaw04_KindsAlike_0 self _ = _
    unfold hlaw04_KindsAlike_0
    dsimp only
    simp only [d1, d2, d3, Bool.and_self, cond_true, e1, e2, Option.bind_some, g1]
    rw [show ((0 : Int) != 0) = false from rfl, cond_false, Bool.not_true, cond_false, wrap_succ hm (by have := maxLen_ge; omega)]

theorem alike_true : ∀ x, claw04_KindsAlike x = some true := by
  rintro ⟨l, i, k, n⟩
  show nlaw04_KindsAlike (iterV (glaw04_KindsAlike_0 big) big) _ = _
  unfold nlaw04_KindsAlike
  dsimp only
  obtain ⟨b, hf, hfb⟩ := fit_eq l i k
  rw [hf, Option.bind_some]
  cases b with
  | false => rw [Bool.not_false, cond_true, alive_true]; rfl
  | true =>
    obtain ⟨hv, ⟨h0, h1⟩, h2, h3⟩ := hfb rfl
    rw [Bool.not_true, cond_false]
    obtain ⟨b, hf, hfb⟩ := fit_eq l n n
    rw [hf, Option.bind_some]
    cases b with
    | false => rw [Bool.not_false, cond_true, alive_true]; rfl
    | true =>
      obtain ⟨_, ⟨h4, h5⟩, _, _⟩ := hfb rfl
      have hb := hv.2.1
      have hlen := hv.1
      obtain ⟨b1, e1, i1⟩ := Same_eq hv h0 h1 h0 h1
      obtain ⟨b2, e2, i2⟩ := Same_eq hv h0 h1 h2 h3
      obtain ⟨b3, e3, i3⟩ := Same_eq hv h2 h3 h0 h1
      obtain ⟨b4, e4, i4⟩ := Same_eq hv h2 h3 h4 h5
      obtain ⟨b5, e5, i5⟩ := Same_eq hv h0 h1 h4 h5
      have hb1 : b1 = true := i1.2 (alike_refl l i)
      have hb23 : b3 = b2 := by
        rw [Bool.eq_iff_iff, i3, i2]
        exact ⟨alike_symm, alike_symm⟩
      subst hb1 hb23
      rw [Bool.not_true, cond_false, e1, Option.bind_some, e2, Option.bind_some, e3, Option.bind_some, e4, Option.bind_some, e5, Option.bind_some]
      dsimp only
      rw [show ((0 : Int) != 0) = false from rfl]
      simp only [cond_false, Bool.not_true]
      rw [show (!(b3 == b3)) = false by simp, cond_false]
      cases hb3 : b3 with
      | false =>
        subst hb3
        have hne : i ≠ k := fun e => by
          have := i2.2 (e ▸ alike_refl l i)
          cases this
        rw [cond_false, Bool.not_false, cond_true, show (i != k) = true by simpa using hne, cond_true, alive_true]
        rfl
      | true =>
        subst hb3
        have hal := i2.1 rfl
        have hb45 : b4 = b5 := by
          rw [Bool.eq_iff_iff, i4, i5]
          exact ⟨fun h => alike_trans hb h2 h3 hal h, fun h => alike_trans hb h0 h1 (alike_symm hal) h⟩
        subst hb45
        obtain ⟨t, ht⟩ := getI_in h0 h1
        obtain ⟨u, hu⟩ := getI_in h2 h3
        have hform := hal i k .self t u ht hu
        have hbt := built_at hb ht
        have hbu := built_at hb hu
        have hdep := alike_depth hb l.length h1 h0 h1 h2 h3 hal
        have hwid := alike_width hb 4 l.length h1 h0 h1 h2 h3 hal
        have hwd := width_depth hv l.length h1 h0 h1
        have hloop := alike_loop hv (s := nextS t) (t := nextS u) (next_len hbt) (form_len hb ht hu hform).symm fun j x y hx hy => by
          obtain ⟨g1, g2⟩ := List.getElem?_eq_some_iff.1 hx
          obtain ⟨g3, g4⟩ := List.getElem?_eq_some_iff.1 hy
          have r1 : 0 ≤ x ∧ x < l.length := by
            obtain ⟨_, _, hh, rfl⟩ := getI_some ht
            exact next_ix hb hh x (g2 ▸ List.getElem_mem g1)
          have r2 : 0 ≤ y ∧ y < l.length := by
            obtain ⟨_, _, hh, rfl⟩ := getI_some hu
            exact next_ix hb hh y (g4 ▸ List.getElem_mem g3)
          exact ⟨r1, r2, alike_next hal ht hu hx hy⟩
        simp only [cond_true, cond_false, Bool.not_true, Depth_eq hv h0 h1, Depth_eq hv h2 h3, Option.bind_some, ht, hu, rShape_eq t u (by have := built_flen hbt; omega), hform, Width_eq hv h0 h1, Width_eq hv h2 h3, rLeads_ok hbt, rLeads_ok hbu, hloop]
        rw [show (!(b4 == b4)) = false by simp, ← hdep, ← hwid, show ((0 : Int) != 0) = false from rfl]
        rw [show ((dS l).getD i.toNat 0 != (dS l).getD i.toNat 0) = false by simp, show ((wN l 4).getD i.toNat 0 != (wN l 4).getD i.toNat 0) = false by simp, decide_eq_false (by omega)]
        rfl
end Go.Proofs.Ytegemaonfdfnbaa
