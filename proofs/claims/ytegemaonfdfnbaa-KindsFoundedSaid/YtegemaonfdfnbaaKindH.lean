/- Layer 4: tables that are not great; the examples; types are well-founded. -/
import Derived.Test.YtegemaonfdfnbaaKindG
import Derived.Test.YtegemaonfdfnbaaKindL
set_option linter.unusedVariables false
set_option linter.unusedSimpArgs false
set_option maxRecDepth 100000
namespace Go.Proofs.Ytegemaonfdfnbaa
open Go.Lift

theorem alive_true : claw04_alive () = some true := by decide +kernel

theorem rGreat_eq (l : List Typ) : ∃ b, cref04_Great l = some b ∧ (b = false → l.length ≤ 40 ∧ ∀ t ∈ l, t.2.2.2.1.length ≤ 20) := by
  show ∃ b, nref04_Great (iterV (gref04_Great_0 big) big) l = some b ∧ _
  unfold nref04_Great
  by_cases h : l.length ≤ 40
  · rw [decide_eq_false (by omega), cond_false]
    refine range_post (g := gref04_Great_0 big) (n := l.length) (fun (_ : Unit) (i : Nat) => (l, (i : Int))) (fun i _ => ∀ t ∈ l.take i, t.2.2.2.1.length ≤ 20) (fun r => ∃ b, r = some b ∧ (b = false → l.length ≤ 40 ∧ ∀ t ∈ l, t.2.2.2.1.length ≤ 20)) ?_ ?_
      l.length 0 big (by simp) (by unfold big; omega) () (by simp)
    · intro self s hb
      rw [List.take_length] at hb
      refine ⟨false, ?_, fun _ => ⟨h, hb⟩⟩
      show href04_Great_0 _ self _ = _
      unfold href04_Great_0
      dsimp only
      rw [decide_eq_false (by omega), cond_false]
    · intro self s i hi hb
      by_cases hg : (l[i]).2.2.2.1.length ≤ 20
      · have inner : iterV (gref04_Great_1 big self) big (l, (i : Int), 0) = self (l, ((i + 1 : Nat) : Int)) ∨ iterV (gref04_Great_1 big self) big (l, (i : Int), 0) = some true := by
          refine range_post (g := gref04_Great_1 big self) (n := (l[i]).2.2.2.1.length) (fun (_ : Unit) (k : Nat) => (l, (i : Int), (k : Int))) (fun _ _ => True) (fun r => r = self (l, ((i + 1 : Nat) : Int)) ∨ r = some true) ?_ ?_
            (l[i]).2.2.2.1.length 0 big (by simp) (by unfold big; omega) () trivial
          · intro self1 s _
            left
            show href04_Great_1 self self1 _ = _
            unfold href04_Great_1
            dsimp only
            rw [getI_at hi, Option.bind_some, decide_eq_false (by omega), cond_false, wrap_succ hi (by have := maxLen_ge; omega)]
          · intro self1 s k hk _
            have hst : gref04_Great_1 big self self1 (l, (i : Int), (k : Int)) = bif decide ((((l[i]).2.2.2.1[k]).1.length : Int) > 100) then some true else self1 (l, (i : Int), ((k + 1 : Nat) : Int)) := by
              show href04_Great_1 self self1 _ = _
              unfold href04_Great_1
              dsimp only
              rw [getI_at hi, Option.bind_some, decide_eq_true (by omega), cond_true, Option.bind_some, getI_at hk, Option.bind_some, wrap_succ hk (by have := maxLen_ge; omega)]
            rw [hst]
            cases decide ((((l[i]).2.2.2.1[k]).1.length : Int) > 100) with
            | true => right; right; rfl
            | false => left; exact ⟨(), trivial, rfl⟩
        have hst : gref04_Great_0 big self (l, (i : Int)) = iterV (gref04_Great_1 big self) big (l, (i : Int), 0) := by
          show href04_Great_0 _ self _ = _
          unfold href04_Great_0
          dsimp only
          rw [decide_eq_true (by omega), cond_true, getI_at hi, Option.bind_some, decide_eq_false (by omega), cond_false]
        rcases inner with e | e
        · left
          refine ⟨(), ?_, hst.trans e⟩
          rw [List.take_succ_eq_append_getElem hi]
          intro t ht
          rcases List.mem_append.1 ht with ht | ht
          · exact hb t ht
          · rw [List.mem_singleton.1 ht]; exact hg
        · right
          exact ⟨true, hst.trans e, fun h => by cases h⟩
      · right
        refine ⟨true, ?_, fun h => by cases h⟩
        show href04_Great_0 _ self _ = _
        unfold href04_Great_0
        dsimp only
        rw [decide_eq_true (by omega), cond_true, getI_at hi, Option.bind_some, decide_eq_true (by omega), cond_true]
  · refine ⟨true, ?_, fun h => by cases h⟩
    rw [decide_eq_true (by omega), cond_true]

theorem fit_eq (l : List Typ) (i k : Int) : ∃ b, claw04_fit (l, i, k) = some b ∧ (b = true → Valid l ∧ (0 ≤ i ∧ i < l.length) ∧ 0 ≤ k ∧ k < l.length) := by
  show ∃ b, nlaw04_fit _ = some b ∧ _
  unfold nlaw04_fit
  dsimp only
  obtain ⟨b, h1, h2⟩ := rGreat_eq l
  rw [h1, Option.bind_some]
  cases b with
  | true => exact ⟨false, rfl, fun h => by cases h⟩
  | false =>
    rw [Bool.not_false, cond_true, rAsked_eq l (fun t ht => by have := (h2 rfl).2 t ht; omega), Option.bind_some]
    refine ⟨_, rfl, fun h => ?_⟩
    by_cases hv : Valid l
    · rw [if_pos hv] at h
      by_cases hik : (0 ≤ i ∧ i < l.length) ∧ 0 ≤ k ∧ k < l.length
      · exact ⟨hv, hik⟩
      · rw [if_neg hik] at h; cases h
    · rw [if_neg hv] at h; cases h

theorem rSameInts_eq (a b : List Int) (h : a.length ≤ 1000) : cref04_SameInts (a, b) = some (decide (a = b)) := by
  show nref04_SameInts (iterV (gref04_SameInts_0 big) big) _ = _
  unfold nref04_SameInts
  dsimp only
  by_cases hl : a.length = b.length
  · rw [show ((a.length : Int) != (b.length : Int)) = false by rw [hl]; simp, cond_false]
    refine range_post (g := gref04_SameInts_0 big) (n := a.length) (fun (_ : Unit) (i : Nat) => (a, b, (i : Int))) (fun i _ => a.take i = b.take i) (fun r => r = some (decide (a = b))) ?_ ?_
      a.length 0 big (by simp) (by unfold big; omega) () (by simp)
    · intro self s h
      rw [List.take_length, List.take_of_length_le (by omega)] at h
      show href04_SameInts_0 self _ = _
      unfold href04_SameInts_0
      dsimp only
      rw [decide_eq_false (by omega), cond_false, decide_eq_true h]
    · intro self s i hi h
      have hi' : i < b.length := by omega
      have hst : gref04_SameInts_0 big self (a, b, (i : Int)) = bif (a[i] != b[i]) then some false else self (a, b, ((i + 1 : Nat) : Int)) := by
        show href04_SameInts_0 self _ = _
        unfold href04_SameInts_0
        dsimp only
        rw [decide_eq_true (by omega), cond_true, getI_at hi, Option.bind_some, getI_at hi', Option.bind_some, wrap_succ hi (by have := maxLen_ge; omega)]
      by_cases e : a[i] = b[i]
      · left
        refine ⟨(), ?_, by rw [hst, show (a[i] != b[i]) = false by rw [e]; simp]; rfl⟩
        rw [List.take_succ_eq_append_getElem hi, List.take_succ_eq_append_getElem hi', h, e]
      · right
        rw [hst, show (a[i] != b[i]) = true by simpa using e, cond_true]
        congr 1
        symm
        apply decide_eq_false
        intro hh
        subst hh
        exact e rfl
  · rw [show ((a.length : Int) != (b.length : Int)) = true by simp; omega, cond_true, decide_eq_false (fun e => hl (by rw [e]))]

theorem rShape_eq (t u : Typ) (ht : t.2.2.2.1.length ≤ 1000) : cref04_Shape (t, u) = some (formB t u) := by
  show nref04_Shape (iterV (gref04_Shape_0 big) big) (t, u) = _
  unfold nref04_Shape formB
  dsimp only
  by_cases h1 : t.1 = u.1
  · rw [show (t.1 != u.1) = false by simpa using h1, cond_false, decide_eq_true h1, Bool.true_and]
    by_cases h2 : t.2.2.1 = u.2.2.1
    · rw [show (t.2.2.1 != u.2.2.1) = false by simpa using h2, cond_false, decide_eq_true h2, Bool.true_and]
      by_cases h3 : t.2.2.2.1.length = u.2.2.2.1.length
      · rw [show ((t.2.2.2.1.length : Int) != (u.2.2.2.1.length : Int)) = false by rw [h3]; simp, cond_false]
        refine range_post (g := gref04_Shape_0 big) (n := t.2.2.2.1.length) (fun (_ : Unit) (j : Nat) => ((j : Int), t, u)) (fun j _ => (t.2.2.2.1.map (·.1)).take j = (u.2.2.2.1.map (·.1)).take j) (fun r => r = some (decide (t.2.2.2.1.map (·.1) = u.2.2.2.1.map (·.1)))) ?_ ?_
          t.2.2.2.1.length 0 big (by simp) (by unfold big; omega) () (by simp)
        · intro self s h
          rw [List.take_of_length_le (by simp), List.take_of_length_le (by simp; omega)] at h
          show href04_Shape_0 self _ = _
          unfold href04_Shape_0
          dsimp only
          rw [decide_eq_false (by omega), cond_false, decide_eq_true h]
        · intro self s j hj h
          have hj' : j < u.2.2.2.1.length := by omega
          have hst : gref04_Shape_0 big self ((j : Int), t, u) = bif !(eqD .str (t.2.2.2.1[j]).1 (u.2.2.2.1[j]).1) then some false else self (((j + 1 : Nat) : Int), t, u) := by
            show href04_Shape_0 self _ = _
            unfold href04_Shape_0
            dsimp only
            rw [decide_eq_true (by omega), cond_true, getI_at hj, Option.bind_some, getI_at hj', Option.bind_some, wrap_succ hj (by have := maxLen_ge; omega)]
          by_cases e : (t.2.2.2.1[j]).1 = (u.2.2.2.1[j]).1
          · left
            refine ⟨(), ?_, by rw [hst, e, eqD_self]; rfl⟩
            rw [List.take_succ_eq_append_getElem (by simpa using hj), List.take_succ_eq_append_getElem (by simpa using hj'), h]
            simp [e]
          · right
            rw [hst, eqD_false e, Bool.not_false, cond_true]
            congr 1
            symm
            apply decide_eq_false
            intro hh
            have h4 := congrArg (fun l => l[j]?) hh
            simp [hj, hj'] at h4
            exact e h4
      · rw [show ((t.2.2.2.1.length : Int) != (u.2.2.2.1.length : Int)) = true by simp; omega, cond_true]
        congr 1
        symm
        apply decide_eq_false
        intro hh
        have := congrArg List.length hh
        simp at this
        exact h3 this
    · rw [show (t.2.2.1 != u.2.2.1) = true by simpa using h2, cond_true, decide_eq_false h2, Bool.false_and]
  · rw [show (t.1 != u.1) = true by simpa using h1, cond_true, decide_eq_false h1, Bool.false_and]

/-! ### depths -/
theorem dGo_append : ∀ (a b : List Typ) (acc : List Int), dGo (a ++ b) acc = dGo b (dGo a acc)
  | [], _, _ => rfl
  | t :: r, b, acc => dGo_append r b _
theorem dGo_pre : ∀ (b : List Typ) (acc : List Int), ∃ s, dGo b acc = acc ++ s
  | [], acc => ⟨[], by simp [dGo]⟩
  | t :: r, acc => by
    obtain ⟨s, h⟩ := dGo_pre r (acc ++ [maxT acc 0 (partsS t) + 1])
    exact ⟨[maxT acc 0 (partsS t) + 1] ++ s, by rw [dGo, h, List.append_assoc]⟩
theorem maxT_congr {a b : List Int} : ∀ (ps : List Int) (m : Int), (∀ p ∈ ps, a.getD p.toNat 0 = b.getD p.toNat 0) → maxT a m ps = maxT b m ps
  | [], m, _ => rfl
  | p :: r, m, h => by
    show maxT a (max m (a.getD p.toNat 0)) r = maxT b (max m (b.getD p.toNat 0)) r
    rw [h p (by simp)]
    exact maxT_congr r _ fun q hq => h q (by simp [hq])
theorem dS_len (l : List Typ) : (dS l).length = l.length := by unfold dS; rw [dGo_len]; simp
theorem dS_at {l : List Typ} (hb : Built l) {i : Nat} (hi : i < l.length) : (dS l).getD i 0 = maxT (dS l) 0 (partsS l[i]) + 1 := by
  have hpre : ∃ s, dS l = dGo (l.take (i + 1)) [] ++ s := by
    have : dS l = dGo (l.drop (i + 1)) (dGo (l.take (i + 1)) []) := by
      unfold dS
      rw [← dGo_append, List.take_append_drop]
    rw [this]
    exact dGo_pre _ _
  obtain ⟨s, hs⟩ := hpre
  rw [List.take_succ_eq_append_getElem hi, dGo_snoc] at hs
  have hl : (dGo (l.take i) []).length = i := by rw [dGo_len]; simp; omega
  have h1 : (dS l).getD i 0 = maxT (dGo (l.take i) []) 0 (partsS l[i]) + 1 := by
    rw [hs, List.append_assoc, List.getD_eq_getElem?_getD, List.getElem?_append_right (by omega), hl, Nat.sub_self]
    rfl
  rw [h1]
  congr 1
  apply maxT_congr
  intro p hp
  have := parts_ix hb hi p hp
  rw [hs, List.append_assoc, getD_app this.1 (by omega)]
theorem maxT_ge {acc : List Int} : ∀ (ps : List Int) (m : Int), m ≤ maxT acc m ps ∧ ∀ p ∈ ps, acc.getD p.toNat 0 ≤ maxT acc m ps
  | [], m => ⟨Int.le_refl _, by simp⟩
  | p :: r, m => by
    obtain ⟨h1, h2⟩ := maxT_ge (acc := acc) r (max m (acc.getD p.toNat 0))
    refine ⟨by show m ≤ maxT acc (max m (acc.getD p.toNat 0)) r; omega, fun q hq => ?_⟩
    rcases List.mem_cons.1 hq with rfl | hq
    · show acc.getD q.toNat 0 ≤ maxT acc (max m (acc.getD q.toNat 0)) r; omega
    · exact h2 q hq
theorem depth_pos {l : List Typ} (hb : Built l) {i : Int} (h0 : 0 ≤ i) (h1 : i < l.length) : 1 ≤ (dS l).getD i.toNat 0 := by
  rw [dS_at hb (by omega : i.toNat < l.length)]
  have := (maxT_ge (acc := dS l) (partsS l[i.toNat]) 0).1
  omega
theorem depth_part {l : List Typ} (hb : Built l) {i : Int} {t : Typ} (ht : getI l i = some t) {p : Int} (hp : p ∈ partsS t) : p < i ∧ 0 ≤ p ∧ (dS l).getD p.toNat 0 < (dS l).getD i.toNat 0 := by
  obtain ⟨h0, h1, hx, rfl⟩ := getI_some ht
  have h2 := parts_ix hb hx p hp
  have h3 := (maxT_ge (acc := dS l) (partsS l[i.toNat]) 0).2 p hp
  rw [dS_at hb hx]
  exact ⟨by omega, h2.1, by omega⟩
theorem rch_depth {l : List Typ} (hb : Built l) {i k : Int} (h : Rch l partsS i k) : k = i ∨ (k < i ∧ (dS l).getD k.toNat 0 < (dS l).getD i.toNat 0) := by
  induction h with
  | self => exact .inl rfl
  | step t _ h1 h2 ih =>
    have := depth_part hb h1 h2
    rcases ih with rfl | ih
    · exact .inr ⟨this.1, this.2.2⟩
    · exact .inr ⟨by omega, by omega⟩
theorem rch_head {l : List Typ} {ways : Typ → List Int} {i k : Int} {t : Typ} (ht : getI l i = some t) : Rch l ways i k ↔ i = k ∨ ∃ p ∈ ways t, Rch l ways p k := by
  constructor
  · intro h
    induction h with
    | self => exact .inl rfl
    | step u _ h1 h2 ih =>
      rcases ih with rfl | ⟨p, hp, h⟩
      · rw [ht] at h1
        cases h1
        exact .inr ⟨_, h2, .self⟩
      · exact .inr ⟨p, hp, .step u h h1 h2⟩
  · rintro (rfl | ⟨p, hp, h⟩)
    · exact .self
    · exact .head t ht hp h

theorem founded_loop {l : List Typ} (hv : Valid l) {i k : Int} (h0 : 0 ≤ i) (h1 : i < l.length) (h2 : 0 ≤ k) (h3 : k < l.length) {t : Typ} (ht : getI l i = some t) {h : Bool} (hh : h = true ↔ Rch l partsS i k) :
    iterV (glaw04_KindsFounded_0 big) big (l, i, k, h, (dS l).getD i.toNat 0, 0, false, 0, partsS t) = some true := by
  have hb := hv.2.1
  have hlen := hv.1
  have hpl := parts_len (built_at hb ht)
  have hD := dGo_deep l l.length (Nat.le_refl _)
  rw [List.take_length] at hD
  refine range_post (g := glaw04_KindsFounded_0 big) (n := (partsS t).length) (fun (s : Int × Bool) (n : Nat) => (l, i, k, h, (dS l).getD i.toNat 0, s.1, s.2, (n : Int), partsS t)) (fun n s => s.1 = maxT (dS l) 0 ((partsS t).take n) ∧ (s.2 = true ↔ ∃ p ∈ (partsS t).take n, Rch l partsS p k)) (fun r => r = some true) ?_ ?_
    (partsS t).length 0 big (by simp) (by unfold big; omega) (0, false) ⟨rfl, by simp⟩
  · rintro self ⟨m, b⟩ ⟨e1, e2⟩
    dsimp only at e1 e2
    subst e1
    rw [List.take_length] at e2 ⊢
    have hm := maxT_bound (by omega) hD (partsS t) 0 (by omega) (by omega)
    have hda : (dS l).getD i.toNat 0 = maxT (dS l) 0 (partsS t) + 1 := by
      obtain ⟨_, _, hx, rfl⟩ := getI_some ht
      exact dS_at hb hx
    have hm' : 0 ≤ maxT (dS l) 0 (partsS t) ∧ maxT (dS l) 0 (partsS t) ≤ 32 := by
      have : maxT (dS l) 0 (partsS t) = maxT (dGo l []) 0 (partsS t) := rfl
      omega
    show hlaw04_KindsFounded_0 self _ = _
    unfold hlaw04_KindsFounded_0
    dsimp only
    rw [decide_eq_false (by omega), cond_false]
    have e3 : ((dS l).getD i.toNat 0 == IntKind.i64.wrap (maxT (dS l) 0 (partsS t) + 1)) = true := by
      rw [addw (by omega) (by omega)]
      exact decide_eq_true hda
    have key := rch_head (k := k) (ways := partsS) ht
    by_cases hik : i = k
    · have hht : h = true := hh.2 (key.2 (.inl hik))
      rw [show (i == k) = true from decide_eq_true hik, cond_true, hht, e3, alive_true]
      rfl
    · have hhb : h = b := by
        rw [Bool.eq_iff_iff, hh, key, e2]
        simp [hik]
      rw [show (i == k) = false from decide_eq_false hik, cond_false, hhb, e3, alive_true]
      cases b <;> rfl
  · rintro self ⟨m, b⟩ n hn ⟨e1, e2⟩
    dsimp only at e1 e2
    subst e1
    left
    have hpx := depth_part hb ht (List.getElem_mem hn)
    obtain ⟨c, g1, g2⟩ := Holds_eq hv hpx.2.1 (by omega) h2 h3
    have g3 := Depth_eq hv hpx.2.1 (show (partsS t)[n] < l.length by omega)
    have hmx : maxT (dS l) 0 ((partsS t).take (n + 1)) = max (maxT (dS l) 0 ((partsS t).take n)) ((dS l).getD ((partsS t)[n]).toNat 0) := by
      rw [List.take_succ_eq_append_getElem hn, maxT, List.foldl_append]
      rfl
    refine ⟨(maxT (dS l) 0 ((partsS t).take (n + 1)), b || c), ⟨rfl, ?_⟩, ?_⟩
    · dsimp only
      rw [List.take_succ_eq_append_getElem hn, Bool.or_eq_true, e2, g2]
      constructor
      · rintro (⟨p, hp, h⟩ | h)
        · exact ⟨p, List.mem_append_left _ hp, h⟩
        · exact ⟨_, List.mem_append_right _ (List.mem_singleton.2 rfl), h⟩
      · rintro ⟨p, hp, h⟩
        rcases List.mem_append.1 hp with hp | hp
        · exact .inl ⟨p, hp, h⟩
        · rw [List.mem_singleton.1 hp] at h
          exact .inr h
    · show hlaw04_KindsFounded_0 self _ = _
      unfold hlaw04_KindsFounded_0
      dsimp only
      have d1 : decide (0 ≤ (n : Int)) = true := decide_eq_true (by omega)
      have d2 : decide ((n : Int) < ((partsS t).length : Int)) = true := decide_eq_true (by omega)
      have e3 : nth (partsS t) (Int.toNat (n : Int)) = some (partsS t)[n] := List.getElem?_eq_getElem hn
      simp only [d1, d2, Bool.and_self, cond_true, e3, Option.bind_some, g1, g3]
      rw [show ((0 : Int) != 0) = false from rfl, cond_false, cond_false, wrap_succ hn (by have := maxLen_ge; omega), max_if, ← hmx]
      cases b <;> rfl

theorem founded_true : ∀ x, claw04_KindsFounded x = some true := by
  rintro ⟨l, i, k⟩
  show nlaw04_KindsFounded (iterV (glaw04_KindsFounded_0 big) big) _ = _
  unfold nlaw04_KindsFounded
  dsimp only
  obtain ⟨b, hf, hfb⟩ := fit_eq l i k
  rw [hf, Option.bind_some]
  cases b with
  | false => rw [Bool.not_false, cond_true, alive_true]; rfl
  | true =>
    obtain ⟨hv, ⟨h0, h1⟩, h2, h3⟩ := hfb rfl
    have hb := hv.2.1
    obtain ⟨t, ht⟩ := getI_in h0 h1
    obtain ⟨h, g1, g2⟩ := Holds_eq hv h0 h1 h2 h3
    have hpos := depth_pos hb h0 h1
    have hloop := founded_loop hv h0 h1 h2 h3 ht g2
    rw [Bool.not_true, cond_false, g1, Option.bind_some, Depth_eq hv h0 h1, Option.bind_some, Depth_eq hv h2 h3, Option.bind_some]
    dsimp only
    rw [show ((0 : Int) != 0) = false from rfl, cond_false, cond_false, cond_false, decide_eq_false (by omega), cond_false]
    simp only [ht, Option.bind_some, rParts_ok (built_at hb ht), hloop]
    cases h with
    | true =>
      have hd := rch_depth hb (g2.1 rfl)
      rw [cond_true, decide_eq_false (by omega), cond_false]
      by_cases hik : i = k
      · rw [show (i != k) = false by simpa using hik, show (i == k) = true from decide_eq_true hik]
        rfl
      · rw [show (i != k) = true by simpa using hik, show (i == k) = false from decide_eq_false hik, cond_true, decide_eq_false (by omega)]
        rfl
    | false =>
      have hik : i ≠ k := fun e => by
        have := g2.2 (e ▸ .self)
        cases this
      rw [cond_false, show (i == k) = false from decide_eq_false hik]
      rfl
end Go.Proofs.Ytegemaonfdfnbaa
