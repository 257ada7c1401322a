/- Layer 4: what is reached is closed, has nothing else, and is in order. -/
import Derived.Test.YtegemaonfdfnbaaKindH
set_option linter.unusedVariables false
set_option linter.unusedSimpArgs false
set_option maxRecDepth 100000
namespace Go.Proofs.Ytegemaonfdfnbaa
open Go.Lift

/-! ### lists of marks -/
def onB (b : List Bool) (x : Int) : Bool := b.getD x.toNat false
theorem nth_onB {b : List Bool} {x : Int} (h0 : 0 ≤ x) (h1 : x < (b.length : Int)) : nth b (Int.toNat x) = some (onB b x) := by
  have hk : x.toNat < b.length := by omega
  show b[x.toNat]? = _
  unfold onB
  simp [hk]
theorem onB_set {b : List Bool} {x y : Int} (h0 : 0 ≤ x) (h1 : x < (b.length : Int)) (hy : 0 ≤ y) : onB (List.set b (Int.toNat x) true) y = if y = x then true else onB b y := by
  unfold onB
  rw [List.getD_eq_getElem?_getD, List.getD_eq_getElem?_getD]
  by_cases e : y = x
  · subst e
    have : y.toNat < b.length := by omega
    simp [this]
  · rw [if_neg e, List.getElem?_set_ne (by omega)]
theorem onB_rep {n : Nat} {x : Int} : onB (List.replicate n false) x = false := by
  unfold onB
  rw [List.getD_eq_getElem?_getD]
  by_cases hx : x.toNat < n
  · simp [hx]
  · rw [List.getElem?_eq_none (by simpa using hx)]; rfl
def cntB (b : List Bool) : Nat := (b.filter id).length
theorem cntB_le (b : List Bool) : cntB b ≤ b.length := List.length_filter_le _ _
theorem cntB_mono : ∀ {a b : List Bool}, a.length = b.length → (∀ i : Nat, a.getD i false = true → b.getD i false = true) → cntB a ≤ cntB b
  | [], [], _, _ => Nat.le_refl _
  | x :: a, y :: b, hl, h => by
    have ih := cntB_mono (a := a) (b := b) (by simpa using hl) fun i hi => by have := h (i + 1); simpa using this (by simpa using hi)
    have h0 := h 0
    cases x <;> cases y <;> simp [cntB] at * <;> omega
  | [], _ :: _, h, _ => by simp at h
  | _ :: _, [], h, _ => by simp at h
theorem cntB_lt : ∀ {a b : List Bool}, a.length = b.length → (∀ i : Nat, a.getD i false = true → b.getD i false = true) → ∀ i : Nat, a.getD i false = false → b.getD i false = true → cntB a < cntB b
  | [], [], _, _, i, _, h => by simp at h
  | x :: a, y :: b, hl, h, 0, h1, h2 => by
    have ih := cntB_mono (a := a) (b := b) (by simpa using hl) fun i hi => by have := h (i + 1); simpa using this (by simpa using hi)
    have h1' : x = false := by simpa using h1
    have h2' : y = true := by simpa using h2
    subst h1' h2'
    simp [cntB] at ih ⊢
    omega
  | x :: a, y :: b, hl, h, i + 1, h1, h2 => by
    have ih := cntB_lt (a := a) (b := b) (by simpa using hl) (fun i hi => by have := h (i + 1); simpa using this (by simpa using hi)) i (by simpa using h1) (by simpa using h2)
    have h0 := h 0
    cases x <;> cases y <;> simp [cntB] at * <;> omega
  | [], _ :: _, h, _, _, _, _ => by simp at h
  | _ :: _, [], h, _, _, _, _ => by simp at h

abbrev mkL' : (α : Type) → Nat → α → List α := fun _ => List.replicate

theorem reach_loop7 (s0 s1 s2 s3) {l : List Typ} {k : Int} {inn : List Bool} {far : List Int} (hil : inn.length = l.length) (hfl : far.length ≤ 1000) (h2 : 0 ≤ k) (h3 : k < l.length) (hf : ∀ x ∈ far, (0 ≤ x ∧ x < l.length) ∧ (onB inn k = true → onB inn x = true)) :
    iterV (glaw04_KindsReach_7 mkL' big s0 s1 s2 s3) big (l, k, 0, inn, far) = some true := by
  refine range_post (g := glaw04_KindsReach_7 mkL' big s0 s1 s2 s3) (n := far.length) (fun (_ : Unit) (n : Nat) => (l, k, (n : Int), inn, far)) (fun _ _ => True) (fun r => r = some true) ?_ ?_
    far.length 0 big (by simp) (by unfold big; omega) () trivial
  · intro self s _
    show hlaw04_KindsReach_7 _ _ _ _ _ self _ = _
    unfold hlaw04_KindsReach_7
    dsimp only
    rw [decide_eq_false (by omega), cond_false, alive_true]; rfl
  · intro self s n hn _
    obtain ⟨hx, hc⟩ := hf far[n] (List.getElem_mem hn)
    have d1 : decide ((n : Int) < (far.length : Int)) = true := decide_eq_true (by omega)
    have d2 : decide (0 ≤ (n : Int)) = true := decide_eq_true (by omega)
    have d3 : decide (0 ≤ k) = true := decide_eq_true h2
    have d4 : decide (k < (inn.length : Int)) = true := decide_eq_true (by omega)
    have d5 : decide (far[n] < 0) = false := decide_eq_false (by omega)
    have d6 : decide (far[n] ≥ (l.length : Int)) = false := decide_eq_false (by omega)
    have d7 : decide (0 ≤ far[n]) = true := decide_eq_true hx.1
    have d8 : decide (far[n] < (inn.length : Int)) = true := decide_eq_true (by omega)
    have e1 : nth far (Int.toNat (n : Int)) = some far[n] := List.getElem?_eq_getElem hn
    have e2 := nth_onB (b := inn) h2 (by omega)
    have e3 := nth_onB (b := inn) hx.1 (by omega)
    cases hk : onB inn k with
    | false =>
      right
      show hlaw04_KindsReach_7 _ _ _ _ _ self _ = _
      unfold hlaw04_KindsReach_7
      dsimp only
      simp only [d1, d3, d4, Bool.and_self, cond_true, e2, Option.bind_some, hk, cond_false, alive_true]
    | true =>
      left
      refine ⟨(), trivial, ?_⟩
      show hlaw04_KindsReach_7 _ _ _ _ _ self _ = _
      unfold hlaw04_KindsReach_7
      dsimp only
      simp only [d1, d2, d3, d4, d5, d6, d7, d8, Bool.and_self, cond_true, e1, e2, e3, Option.bind_some, hk, cond_false, hc hk, Bool.not_true]
      rw [wrap_succ hn (by have := maxLen_ge; omega)]

theorem reach_loop6 (s0 s1 s2) {l : List Typ} (hv : Valid l) {i k : Int} (h0 : 0 ≤ i) (h1 : i < l.length) (h2 : 0 ≤ k) (h3 : k < l.length) {inn led : List Bool} (hil : inn.length = l.length) (hll : led.length = l.length)
    (hin : ∀ x : Int, 0 ≤ x → x < l.length → (onB inn x = true ↔ Rch l nextS i x)) (hled : ∀ x : Int, 0 ≤ x → x < l.length → (onB led x = true ↔ Rch l nextS i x)) :
    iterV (glaw04_KindsReach_6 mkL' big s0 s1 s2) big (l, i, k, 0, inn, led) = some true := by
  have hlen := hv.1
  refine range_post (g := glaw04_KindsReach_6 mkL' big s0 s1 s2) (n := l.length) (fun (_ : Unit) (n : Nat) => (l, i, k, (n : Int), inn, led)) (fun _ _ => True) (fun r => r = some true) ?_ ?_
    l.length 0 big (by simp) (by unfold big; omega) () trivial
  · intro self s _
    obtain ⟨p, g1, g2⟩ := Reach_eq hv h2 h3
    obtain ⟨b, g3, g4⟩ := Holds_eq hv h0 h1 h2 h3
    have hparts : ∀ x, Rch l partsS i x → Rch l nextS i x := by
      intro x h
      induction h with
      | self => exact .self
      | step t _ ha hb ih =>
        refine .step t ih ha ?_
        unfold nextS
        split
        · rename_i hk
          unfold partsS at hb
          rw [if_neg (by omega), if_neg (by omega)] at hb
          cases hb
        · exact hb
    have hl7 := reach_loop7 s0 s1 s2 self (l := l) (k := k) (inn := inn) (far := (ixs l.length).filter p) hil (by have := List.length_filter_le p (ixs l.length); simp [ixs] at this ⊢; omega) h2 h3 (fun x hx => by
      obtain ⟨hx1, hx2⟩ := List.mem_filter.1 hx
      have hx3 := mem_ixs.1 hx1
      exact ⟨hx3, fun hk => (hin x hx3.1 hx3.2).2 (((hin k h2 h3).1 hk).trans ((g2 x).1 hx2))⟩)
    show hlaw04_KindsReach_6 _ (iterV (glaw04_KindsReach_7 mkL' big s0 s1 s2 self) big) _ _ _ self _ = _
    unfold hlaw04_KindsReach_6
    dsimp only
    rw [decide_eq_false (by omega), cond_false, g1, Option.bind_some, g3, Option.bind_some]
    dsimp only
    rw [show ((0 : Int) != 0) = false from rfl, cond_false, cond_false]
    cases b with
    | false => exact hl7
    | true =>
      have hk := (hin k h2 h3).2 (hparts k (g4.1 rfl))
      rw [cond_true, decide_eq_true h2, decide_eq_true (by omega), Bool.and_self, cond_true, nth_onB h2 (by omega), Option.bind_some, hk]
      exact hl7
  · intro self s n hn _
    left
    refine ⟨(), trivial, ?_⟩
    have e : onB inn (n : Int) = onB led (n : Int) := by
      rw [Bool.eq_iff_iff, hin n (by omega) (by omega), hled n (by omega) (by omega)]
    show hlaw04_KindsReach_6 _ _ _ _ _ self _ = _
    unfold hlaw04_KindsReach_6
    dsimp only
    rw [decide_eq_true (by omega), cond_true, decide_eq_true (by omega), decide_eq_true (by omega), Bool.and_self, cond_true, nth_onB (by omega) (by omega), Option.bind_some, decide_eq_true (by omega), Bool.and_self, cond_true, nth_onB (by omega) (by omega), Option.bind_some, e]
    rw [show (onB led (n : Int) == onB led (n : Int)) = true by simp, wrap_succ hn (by have := maxLen_ge; omega)]
    rfl

/-- one pass over all types: what is led to by those that are marked, is marked -/
structure Pass (l : List Typ) (i : Int) (a b : List Bool) : Prop where
  len : b.length = l.length
  old : ∀ x : Int, 0 ≤ x → onB a x = true → onB b x = true
  new : ∀ x : Int, 0 ≤ x → x < l.length → onB b x = true → Rch l nextS i x

theorem reach_loop5 (s0 s1 s2 s3) {l : List Typ} (hv : Valid l) {i k r : Int} {n : Nat} (hn : n < l.length) {inn : List Bool} {a0 led : List Bool} (hp : Pass l i a0 led) :
    ∃ led', iterV (glaw04_KindsReach_5 mkL' big s0 s1 s2 s3) big (l, i, k, r, (n : Int), 0, inn, led, nextS l[n]) = s3 (l, i, k, r, ((n + 1 : Nat) : Int), inn, led') ∧ Pass l i a0 led' ∧ (∀ x : Int, 0 ≤ x → onB led x = true → onB led' x = true) ∧ (onB led n = true → ∀ y ∈ nextS l[n], onB led' y = true) := by
  have hlen := hv.1
  have hb := hv.2.1
  have hnl := next_len (hb n hn)
  have hni := next_ix hb hn
  refine range_post (g := glaw04_KindsReach_5 mkL' big s0 s1 s2 s3) (n := (nextS l[n]).length) (fun (b : List Bool) (m : Nat) => (l, i, k, r, (n : Int), (m : Int), inn, b, nextS l[n])) (fun m b => Pass l i a0 b ∧ (∀ x : Int, 0 ≤ x → onB led x = true → onB b x = true) ∧ (onB led n = true → ∀ y ∈ (nextS l[n]).take m, onB b y = true) ∧ (onB led n = false → m = 0 ∧ b = led))
    (fun q => ∃ led', q = s3 (l, i, k, r, ((n + 1 : Nat) : Int), inn, led') ∧ Pass l i a0 led' ∧ (∀ x : Int, 0 ≤ x → onB led x = true → onB led' x = true) ∧ (onB led n = true → ∀ y ∈ nextS l[n], onB led' y = true)) ?_ ?_
    (nextS l[n]).length 0 big (by simp) (by unfold big; omega) led ⟨hp, fun _ _ h => h, by simp, fun _ => ⟨rfl, rfl⟩⟩
  · rintro self b ⟨g1, g2, g3, _⟩
    rw [List.take_length] at g3
    refine ⟨b, ?_, g1, g2, g3⟩
    show hlaw04_KindsReach_5 _ _ _ _ _ self _ = _
    unfold hlaw04_KindsReach_5
    dsimp only
    rw [decide_eq_false (by omega), cond_false, wrap_succ hn (by have := maxLen_ge; omega)]
  · rintro self b m hm ⟨g1, g2, g3, g4⟩
    have hbl := g1.len
    have hx := hni _ (List.getElem_mem hm)
    have e0 := nth_onB (b := b) (x := (n : Int)) (by omega) (by omega)
    have e1 : nth (nextS l[n]) (Int.toNat (m : Int)) = some (nextS l[n])[m] := List.getElem?_eq_getElem hm
    have d1 : decide ((m : Int) < ((nextS l[n]).length : Int)) = true := decide_eq_true (by omega)
    have d2 : decide (0 ≤ (n : Int)) = true := decide_eq_true (by omega)
    have d3 : decide ((n : Int) < (b.length : Int)) = true := decide_eq_true (by omega)
    have d4 : decide (0 ≤ (m : Int)) = true := decide_eq_true (by omega)
    have d5 : decide (0 ≤ (nextS l[n])[m]) = true := decide_eq_true hx.1
    have d6 : decide ((nextS l[n])[m] < (b.length : Int)) = true := decide_eq_true (by omega)
    cases hon : onB led (n : Int) with
    | false =>
      right
      obtain ⟨rfl, rfl⟩ := g4 hon
      refine ⟨b, ?_, g1, g2, fun h => by cases h⟩
      show hlaw04_KindsReach_5 _ _ _ _ _ self _ = _
      unfold hlaw04_KindsReach_5
      dsimp only
      simp only [d1, d2, d3, Bool.and_self, cond_true, e0, Option.bind_some, hon, cond_false]
      rw [wrap_succ hn (by have := maxLen_ge; omega)]
    | true =>
      left
      have honb := g2 n (by omega) hon
      refine ⟨List.set b (Int.toNat (nextS l[n])[m]) true, ⟨⟨by simp [hbl], fun x hx0 h => ?_, fun x hx0 hx1 h => ?_⟩, fun x hx0 h => ?_, fun _ y hy => ?_, fun h => by cases h⟩, ?_⟩
      · rw [onB_set hx.1 (by omega) hx0]
        split
        · rfl
        · exact g1.old x hx0 h
      · rw [onB_set hx.1 (by omega) hx0] at h
        split at h
        · rename_i e
          subst e
          exact .step l[n] (g1.new n (by omega) (by omega) honb) (getI_at hn) (List.getElem_mem hm)
        · exact g1.new x hx0 hx1 h
      · rw [onB_set hx.1 (by omega) hx0]
        split
        · rfl
        · exact g2 x hx0 h
      · have hy0 : 0 ≤ y := by
          rw [List.take_succ_eq_append_getElem hm] at hy
          rcases List.mem_append.1 hy with hy | hy
          · exact (hni y (List.mem_of_mem_take hy)).1
          · rw [List.mem_singleton.1 hy]; exact hx.1
        rw [onB_set hx.1 (by omega) hy0]
        rw [List.take_succ_eq_append_getElem hm] at hy
        rcases List.mem_append.1 hy with hy | hy
        · split
          · rfl
          · exact g3 hon y hy
        · rw [if_pos (List.mem_singleton.1 hy)]
      · show hlaw04_KindsReach_5 _ _ _ _ _ self _ = _
        unfold hlaw04_KindsReach_5
        dsimp only
        simp only [d1, d2, d3, d4, d5, d6, Bool.and_self, cond_true, e0, e1, Option.bind_some, honb]
        rw [wrap_succ hm (by have := maxLen_ge; omega)]

theorem reach_loop4 (s0 s1 s2) {l : List Typ} (hv : Valid l) {i k : Int} {r : Nat} (hr : r < l.length) {inn led : List Bool} (hp : Pass l i led led) :
    ∃ led', iterV (glaw04_KindsReach_4 mkL' big s0 s1 s2) big (l, i, k, (r : Int), 0, inn, led) = s2 (l, i, k, ((r + 1 : Nat) : Int), inn, led') ∧ Pass l i led led' ∧ ∀ (n : Nat) (hn : n < l.length), onB led n = true → ∀ y ∈ nextS l[n], onB led' y = true := by
  have hlen := hv.1
  have hb := hv.2.1
  refine range_post (g := glaw04_KindsReach_4 mkL' big s0 s1 s2) (n := l.length) (fun (b : List Bool) (n : Nat) => (l, i, k, (r : Int), (n : Int), inn, b)) (fun j b => Pass l i led b ∧ ∀ (n : Nat) (hn : n < l.length), n < j → onB led n = true → ∀ y ∈ nextS l[n], onB b y = true)
    (fun q => ∃ led', q = s2 (l, i, k, ((r + 1 : Nat) : Int), inn, led') ∧ Pass l i led led' ∧ ∀ (n : Nat) (hn : n < l.length), onB led n = true → ∀ y ∈ nextS l[n], onB led' y = true) ?_ ?_
    l.length 0 big (by simp) (by unfold big; omega) led ⟨hp, fun n _ h => by omega⟩
  · rintro self b ⟨g1, g2⟩
    refine ⟨b, ?_, g1, fun n hn => g2 n hn hn⟩
    show hlaw04_KindsReach_4 _ _ _ _ _ self _ = _
    unfold hlaw04_KindsReach_4
    dsimp only
    rw [decide_eq_false (by omega), cond_false, wrap_succ hr (by have := maxLen_ge; omega)]
  · rintro self b n hn ⟨g1, g2⟩
    left
    obtain ⟨led', h1, h2, h3, h4⟩ := reach_loop5 s0 s1 s2 self hv (i := i) (k := k) (r := (r : Int)) hn (inn := inn) g1
    refine ⟨led', ⟨h2, fun m hm hmn hon y hy => ?_⟩, ?_⟩
    · by_cases e : m = n
      · subst e
        exact h4 (g1.old m (by omega) hon) y hy
      · exact h3 y (next_ix hb hm y hy).1 (g2 m hm (by omega) hon y hy)
    · show hlaw04_KindsReach_4 _ (iterV (glaw04_KindsReach_5 mkL' big s0 s1 s2 self) big) _ _ _ self _ = _
      unfold hlaw04_KindsReach_4
      dsimp only
      rw [decide_eq_true (by omega), cond_true, getI_at hn, Option.bind_some, rLeads_ok (hb n hn), Option.bind_some]
      exact h1

/-- what is marked is closed -/
def Shut (l : List Typ) (b : List Bool) : Prop := ∀ (n : Nat) (hn : n < l.length), onB b n = true → ∀ y ∈ nextS l[n], onB b y = true

theorem shut_rch {l : List Typ} {i : Int} {b : List Bool} (h : Shut l b) (hi : onB b i = true) {x : Int} (hx : Rch l nextS i x) : onB b x = true := by
  induction hx with
  | self => exact hi
  | step t _ h1 h2 ih =>
    obtain ⟨g0, g1, g2, rfl⟩ := getI_some h1
    refine h _ g2 ?_ _ h2
    rw [Int.toNat_of_nonneg g0]
    exact ih

theorem reach_loop3 (s0 s1) {l : List Typ} (hv : Valid l) {i k : Int} (h0 : 0 ≤ i) (h1 : i < l.length) (h2 : 0 ≤ k) (h3 : k < l.length) {inn led : List Bool} (hil : inn.length = l.length)
    (hin : ∀ x : Int, 0 ≤ x → x < l.length → (onB inn x = true ↔ Rch l nextS i x)) (hp : Pass l i led led) (hi : onB led i = true) :
    iterV (glaw04_KindsReach_3 mkL' big s0 s1) big (l, i, k, 0, inn, led) = some true := by
  have hlen := hv.1
  have hb := hv.2.1
  have hone : 1 ≤ cntB led := by
    have := cntB_lt (a := List.replicate l.length false) (b := led) (by simp [hp.len]) (fun j hj => by
      exfalso
      have := onB_rep (n := l.length) (x := (j : Int))
      unfold onB at this
      rw [Int.toNat_natCast, hj] at this
      cases this) i.toNat (onB_rep (n := l.length) (x := i)) hi
    omega
  refine range_post (g := glaw04_KindsReach_3 mkL' big s0 s1) (n := l.length) (fun (b : List Bool) (r : Nat) => (l, i, k, (r : Int), inn, b)) (fun r b => Pass l i b b ∧ onB b i = true ∧ (Shut l b ∨ r + 1 ≤ cntB b)) (fun q => q = some true) ?_ ?_
    l.length 0 big (by simp) (by unfold big; omega) led ⟨hp, hi, .inr hone⟩
  · rintro self b ⟨g1, g2, g3⟩
    have hs : Shut l b := by
      rcases g3 with h | h
      · exact h
      · have := cntB_le b
        have := g1.len
        omega
    have hl6 := reach_loop6 s0 s1 self hv h0 h1 h2 h3 hil g1.len hin fun x hx0 hx1 => ⟨g1.new x hx0 hx1, shut_rch hs g2⟩
    show hlaw04_KindsReach_3 _ _ (iterV (glaw04_KindsReach_6 mkL' big s0 s1 self) big) _ _ self _ = _
    unfold hlaw04_KindsReach_3
    dsimp only
    rw [decide_eq_false (by omega), cond_false]
    exact hl6
  · rintro self b r hr ⟨g1, g2, g3⟩
    left
    obtain ⟨b', e1, e2, e3⟩ := reach_loop4 s0 s1 self hv (i := i) (k := k) hr (inn := inn) g1
    refine ⟨b', ⟨⟨e2.len, fun _ _ h => h, e2.new⟩, e2.old i h0 g2, ?_⟩, ?_⟩
    · have hmono : ∀ j : Nat, b.getD j false = true → b'.getD j false = true := fun j hj => by
        have := e2.old (j : Int) (by omega) (by unfold onB; rw [Int.toNat_natCast]; exact hj)
        unfold onB at this
        rwa [Int.toNat_natCast] at this
      have hle := cntB_mono (a := b) (b := b') (by rw [g1.len, e2.len]) hmono
      by_cases hs : Shut l b
      · left
        have heq : ∀ x : Int, 0 ≤ x → x < l.length → onB b' x = true → onB b x = true := fun x hx0 hx1 h => shut_rch hs g2 (e2.new x hx0 hx1 h)
        intro n hn hon y hy
        have hy' := next_ix hb hn y hy
        exact e2.old y hy'.1 (hs n hn (heq n (by omega) (by omega) hon) y hy)
      · right
        obtain ⟨n, hn⟩ := Classical.not_forall.1 hs
        obtain ⟨hn, h4⟩ := Classical.not_forall.1 hn
        obtain ⟨hon, h4⟩ := Classical.not_forall.1 h4
        obtain ⟨y, h4⟩ := Classical.not_forall.1 h4
        obtain ⟨hy, h4⟩ := Classical.not_forall.1 h4
        have h5 := e3 n hn hon y hy
        have := cntB_lt (a := b) (b := b') (by rw [g1.len, e2.len]) hmono y.toNat (by
          unfold onB at h4
          simpa using h4) h5
        rcases g3 with g3 | g3
        · exact absurd g3 hs
        · omega
    · show hlaw04_KindsReach_3 _ (iterV (glaw04_KindsReach_4 mkL' big s0 s1 self) big) _ _ _ self _ = _
      unfold hlaw04_KindsReach_3
      dsimp only
      rw [decide_eq_true (by omega), cond_true]
      exact e1

theorem reach_loop1 (s0) {l : List Typ} (hv : Valid l) {i k : Int} (h0 : 0 ≤ i) (h1 : i < l.length) (h2 : 0 ≤ k) (h3 : k < l.length) {r : List Int} {inn led : List Bool} (hil : inn.length = l.length) (hr : r.length ≤ 1000)
    (hrx : ∀ x ∈ r, (0 ≤ x ∧ x < l.length) ∧ Rch l nextS i x) (hin : ∀ x : Int, 0 ≤ x → x < l.length → (onB inn x = true ↔ Rch l nextS i x)) (hp : Pass l i led led) (hi : onB led i = true) :
    iterV (glaw04_KindsReach_1 mkL' big s0) big (l, i, k, 0, r, inn, led) = some true := by
  have hb := hv.2.1
  refine range_post (g := glaw04_KindsReach_1 mkL' big s0) (n := r.length) (fun (_ : Unit) (n : Nat) => (l, i, k, (n : Int), r, inn, led)) (fun _ _ => True) (fun q => q = some true) ?_ ?_
    r.length 0 big (by simp) (by unfold big; omega) () trivial
  · intro self s _
    show hlaw04_KindsReach_1 _ _ (iterV (glaw04_KindsReach_3 mkL' big s0 self) big) _ self _ = _
    unfold hlaw04_KindsReach_1
    dsimp only
    rw [decide_eq_false (by omega), cond_false]
    exact reach_loop3 s0 self hv h0 h1 h2 h3 hil hin hp hi
  · intro self s n hn _
    left
    refine ⟨(), trivial, ?_⟩
    obtain ⟨hx, hxr⟩ := hrx r[n] (List.getElem_mem hn)
    have hn' : (r[n]).toNat < l.length := by omega
    have hget : getI l r[n] = some l[(r[n]).toNat] := by
      have := getI_at hn'
      rwa [Int.toNat_of_nonneg hx.1] at this
    have hni := next_ix hb hn'
    have hnl := next_len (hb _ hn')
    show hlaw04_KindsReach_1 _ (iterV (glaw04_KindsReach_2 mkL' big s0 self) big) _ _ self _ = _
    unfold hlaw04_KindsReach_1
    dsimp only
    rw [decide_eq_true (by omega), cond_true, decide_eq_true (by omega), Bool.and_self, cond_true, show nth r (Int.toNat (n : Int)) = some r[n] from List.getElem?_eq_getElem hn, Option.bind_some, hget, Option.bind_some, rLeads_ok (hb _ hn'), Option.bind_some]
    have hstep : ∀ y ∈ nextS l[(r[n]).toNat], onB inn y = true := fun y hy => by
      have := hni y hy
      exact (hin y this.1 this.2).2 (.step _ hxr hget hy)
    generalize nextS l[(r[n]).toNat] = to at *
    refine range_post (g := glaw04_KindsReach_2 mkL' big s0 self) (n := to.length) (fun (_ : Unit) (m : Nat) => (l, i, k, (n : Int), (m : Int), r, inn, led, to)) (fun _ _ => True) (fun q => q = self (l, i, k, ((n + 1 : Nat) : Int), r, inn, led)) ?_ ?_
      to.length 0 big (by simp) (by unfold big; omega) () trivial
    · intro self2 s _
      show hlaw04_KindsReach_2 _ _ _ self2 _ = _
      unfold hlaw04_KindsReach_2
      dsimp only
      rw [decide_eq_false (by omega), cond_false, wrap_succ hn (by have := maxLen_ge; omega)]
    · intro self2 s m hm _
      left
      refine ⟨(), trivial, ?_⟩
      have hy := hni _ (List.getElem_mem hm)
      have d1 : decide ((m : Int) < (to.length : Int)) = true := decide_eq_true (by omega)
      have d2 : decide (0 ≤ (m : Int)) = true := decide_eq_true (by omega)
      have d3 : decide (0 ≤ to[m]) = true := decide_eq_true hy.1
      have d4 : decide (to[m] < (inn.length : Int)) = true := decide_eq_true (by omega)
      have e1 : nth to (Int.toNat (m : Int)) = some to[m] := List.getElem?_eq_getElem hm
      have e2 := nth_onB (b := inn) hy.1 (by omega)
      show hlaw04_KindsReach_2 _ _ _ self2 _ = _
      unfold hlaw04_KindsReach_2
      dsimp only
      simp only [d1, d2, d3, d4, Bool.and_self, cond_true, e1, e2, Option.bind_some, hstep _ (List.getElem_mem hm), Bool.not_true, cond_false]
      rw [wrap_succ hm (by have := maxLen_ge; omega)]

theorem ixs_lt {n : Nat} (p : Int → Bool) {a b : Nat} {x y : Int} (hab : a < b) (ha : ((ixs n).filter p)[a]? = some x) (hb : ((ixs n).filter p)[b]? = some y) : x < y := by
  have hs : ((ixs n).filter p).Pairwise (· < ·) := by
    apply List.Pairwise.filter
    unfold ixs
    rw [List.pairwise_map]
    exact List.pairwise_lt_range.imp fun h => by omega
  obtain ⟨h1, rfl⟩ := List.getElem?_eq_some_iff.1 ha
  obtain ⟨h2, rfl⟩ := List.getElem?_eq_some_iff.1 hb
  exact List.pairwise_iff_getElem.1 hs a b h1 h2 hab

theorem reach_true : ∀ x, claw04_KindsReach x = some true := by
  rintro ⟨l, i, k⟩
  show nlaw04_KindsReach mkL' (iterV (glaw04_KindsReach_0 mkL' big) big) _ = _
  unfold nlaw04_KindsReach
  dsimp only
  obtain ⟨b, hf, hfb⟩ := fit_eq l i k
  rw [hf, Option.bind_some]
  cases b with
  | false => rw [Bool.not_false, cond_true, alive_true]; rfl
  | true =>
    obtain ⟨hv, ⟨h0, h1⟩, h2, h3⟩ := hfb rfl
    have hlen := hv.1
    obtain ⟨p, g1, g2⟩ := Reach_eq hv h0 h1
    rw [Bool.not_true, cond_false, g1, Option.bind_some]
    dsimp only
    rw [show ((0 : Int) != 0) = false from rfl, cond_false, decide_eq_true (by omega), decide_eq_true (by omega), decide_eq_true (by omega)]
    simp only [Bool.and_true, cond_true, Int.toNat_natCast]
    have hrl : ((ixs l.length).filter p).length ≤ 1000 := by
      have := List.length_filter_le p (ixs l.length)
      simp [ixs] at this ⊢
      omega
    have hrx : ∀ x ∈ (ixs l.length).filter p, (0 ≤ x ∧ x < l.length) ∧ Rch l nextS i x := fun x hx => by
      obtain ⟨h4, h5⟩ := List.mem_filter.1 hx
      exact ⟨mem_ixs.1 h4, (g2 x).1 h5⟩
    have hall : ∀ x : Int, 0 ≤ x → x < l.length → Rch l nextS i x → x ∈ (ixs l.length).filter p := fun x h4 h5 h6 => List.mem_filter.2 ⟨mem_ixs.2 ⟨h4, h5⟩, (g2 x).2 h6⟩
    have hord : ∀ (a b : Nat) (x y : Int), a < b → ((ixs l.length).filter p)[a]? = some x → ((ixs l.length).filter p)[b]? = some y → x < y := fun a b x y => ixs_lt p
    generalize (ixs l.length).filter p = r at *
    refine range_post (g := glaw04_KindsReach_0 mkL' big) (n := r.length) (fun (inn : List Bool) (n : Nat) => (l, i, k, (n : Int), r, inn)) (fun n inn => inn.length = l.length ∧ ∀ x : Int, 0 ≤ x → x < l.length → (onB inn x = true ↔ x ∈ r.take n)) (fun q => q = some true) ?_ ?_
      r.length 0 big (by simp) (by unfold big; omega) _ ⟨by simp, fun x _ _ => by rw [onB_rep]; simp⟩
    · rintro self inn ⟨e1, e2⟩
      rw [List.take_length] at e2
      have hloop := reach_loop1 self hv h0 h1 h2 h3 (r := r) (inn := inn) (led := List.set (List.replicate l.length false) (Int.toNat i) true) e1 hrl hrx (fun x hx0 hx1 => (e2 x hx0 hx1).trans ⟨fun h => (hrx x h).2, hall x hx0 hx1⟩)
        ⟨by simp, fun _ _ h => h, fun x hx0 hx1 h => by
          rw [onB_set h0 (by simpa using h1) hx0, onB_rep] at h
          split at h
          · rename_i e; subst e; exact .self
          · cases h⟩
        (by rw [onB_set h0 (by simpa using h1) h0, if_pos rfl])
      show hlaw04_KindsReach_0 _ (iterV (glaw04_KindsReach_1 mkL' big self) big) self _ = _
      unfold hlaw04_KindsReach_0
      dsimp only
      rw [decide_eq_false (by omega), cond_false, decide_eq_true (by omega), decide_eq_true (by omega), decide_eq_true (by omega)]
      simp only [Bool.and_true, cond_true, Int.toNat_natCast]
      rw [decide_eq_true h0, decide_eq_true (by simpa using h1), Bool.and_self, cond_true]
      exact hloop
    · rintro self inn n hn ⟨e1, e2⟩
      left
      have hx := (hrx r[n] (List.getElem_mem hn)).1
      refine ⟨List.set inn (Int.toNat r[n]) true, ⟨by simp [e1], fun x hx0 hx1 => ?_⟩, ?_⟩
      · rw [onB_set hx.1 (by omega) hx0, List.take_succ_eq_append_getElem hn]
        by_cases e : x = r[n]
        · rw [if_pos e]
          simp only [true_iff]
          exact List.mem_append_right _ (by rw [e]; exact List.mem_singleton.2 rfl)
        · rw [if_neg e, e2 x hx0 hx1]
          constructor
          · exact fun h => List.mem_append_left _ h
          · intro h
            rcases List.mem_append.1 h with h | h
            · exact h
            · exact absurd (List.mem_singleton.1 h) e
      · have d1 : decide ((n : Int) < (r.length : Int)) = true := decide_eq_true (by omega)
        have d2 : decide (0 ≤ (n : Int)) = true := decide_eq_true (by omega)
        have d3 : decide (r[n] < 0) = false := decide_eq_false (by omega)
        have d4 : decide (r[n] ≥ (l.length : Int)) = false := decide_eq_false (by omega)
        have d5 : decide (0 ≤ r[n]) = true := decide_eq_true hx.1
        have d6 : decide (r[n] < (inn.length : Int)) = true := decide_eq_true (by omega)
        have e3 : nth r (Int.toNat (n : Int)) = some r[n] := List.getElem?_eq_getElem hn
        have hw := wrap_succ hn (by have := maxLen_ge; omega : r.length ≤ maxLen)
        show hlaw04_KindsReach_0 _ _ self _ = _
        unfold hlaw04_KindsReach_0
        dsimp only
        by_cases hn0 : n = 0
        · have d7 : decide ((n : Int) > 0) = false := decide_eq_false (by omega)
          simp only [d1, d2, d3, d4, d5, d6, d7, Bool.and_self, cond_true, cond_false, e3, Option.bind_some, hw]
        · have d7 : decide ((n : Int) > 0) = true := decide_eq_true (by omega)
          have hw2 : IntKind.i64.wrap ((n : Int) - 1) = ((n - 1 : Nat) : Int) := by rw [wrap_i64 (by omega) (by omega)]; omega
          have hn1 : n - 1 < r.length := by omega
          have d8 : decide (0 ≤ ((n - 1 : Nat) : Int)) = true := decide_eq_true (by omega)
          have d9 : decide (((n - 1 : Nat) : Int) < (r.length : Int)) = true := decide_eq_true (by omega)
          have e4 : nth r (Int.toNat ((n - 1 : Nat) : Int)) = some r[n - 1] := List.getElem?_eq_getElem hn1
          have hlt := hord (n - 1) n r[n - 1] r[n] (by omega) (List.getElem?_eq_getElem hn1) (List.getElem?_eq_getElem hn)
          have d10 : decide (r[n - 1] ≥ r[n]) = false := decide_eq_false (by omega)
          simp only [d1, d2, d3, d4, d5, d6, d7, hw2, d8, d9, d10, Bool.and_self, cond_true, cond_false, e3, e4, Option.bind_some, hw]
end Go.Proofs.Ytegemaonfdfnbaa
