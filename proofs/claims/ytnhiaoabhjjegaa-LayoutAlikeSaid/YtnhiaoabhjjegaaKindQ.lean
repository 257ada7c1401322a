/- What the functions of package kinds and of layer 4's reference compute, as far as later layers need it: tables that are valid, types that are alike. -/
import Derived.Test.YtnhiaoabhjjegaaKindA
import Derived.Test.YtnhiaoabhjjegaaBase
import Derived.Test.YtnhiaoabhjjegaaKindR
set_option linter.unusedVariables false
set_option linter.unusedSimpArgs false
set_option maxRecDepth 100000
namespace Go.Proofs.Ytnhiaoabhjjegaa
open Go.Lift

abbrev Fld := List Int × (Int × Unit)
abbrev Typ := Int × (Int × (Int × (List Fld × Unit)))

/-! ### maps -/
theorem atK_putK {kt vt : Ty} (x y : kt.den) (z v : vt.den) : ∀ m : List (kt.den × vt.den), atK x z (putK y v m) = bif eqD kt x y then (v, true) else atK x z m
  | [] => rfl
  | p :: r => by
    simp only [putK]
    by_cases h : y = p.1
    · subst h
      rw [eqD_self, cond_true]
      simp only [atK]
      cases eqD kt x p.1 <;> rfl
    · rw [eqD_false h, cond_false]
      simp only [atK]
      rw [atK_putK x y z v r]
      by_cases h2 : x = p.1
      · subst h2
        rw [eqD_self, cond_true, eqD_false (fun e => h e.symm), cond_false, cond_true]
      · rw [eqD_false h2, cond_false, cond_false]

/-- a map of marks, and the keys that are marked -/
def Marks (kt : Ty) (m : List (kt.den × Bool)) (S : kt.den → Prop) : Prop := ∀ x, (@atK kt .bool x false m).1 = true ↔ S x
theorem Marks.nil {kt : Ty} : Marks kt [] (fun _ => False) := fun x => by simp [atK]
theorem Marks.put {kt : Ty} {m : List (kt.den × Bool)} {S : kt.den → Prop} (h : Marks kt m S) (y : kt.den) : Marks kt (@putK kt .bool y true m) (fun x => x = y ∨ S x) := by
  intro x
  rw [atK_putK]
  by_cases e : x = y
  · subst e; rw [eqD_self]; simp
  · rw [eqD_false e, cond_false, h x]; simp [e]

/-! ### names -/
def idxB (x n : Int) : Bool := decide (0 ≤ x) && decide (x < n)
theorem idxB_iff {x n : Int} : idxB x n = true ↔ 0 ≤ x ∧ x < n := by simp [idxB]
def letB (c : Int) : Bool := (decide (97 ≤ c) && decide (c ≤ 122)) || (decide (65 ≤ c) && decide (c ≤ 90))
def digB (c : Int) : Bool := decide (48 ≤ c) && decide (c ≤ 57)
def namedB (s : List Int) : Bool := match s with
  | [] => false
  | c :: _ => decide (s.length ≤ 16) && (letB c && s.all fun c => letB c || digB c)

theorem isIndex_eq (x n : Int) : ckinds_isIndex (x, n) = some (idxB x n) := by
  show nkinds_isIndex (x, n) = _
  unfold nkinds_isIndex idxB
  dsimp only
  by_cases h : 0 ≤ x
  · rw [decide_eq_true (show x ≥ 0 from h)]; rfl
  · rw [decide_eq_false (show ¬ x ≥ 0 from h)]; rfl

theorem isLetter_eq (c : Int) : ckinds_isLetter c = some (letB c) := by
  show nkinds_isLetter c = _
  unfold nkinds_isLetter letB
  simp only [ge_iff_le]
  cases decide (97 ≤ c) <;> cases decide (c ≤ 122) <;> cases decide (65 ≤ c) <;> cases decide (c ≤ 90) <;> rfl
theorem isDigit_eq (c : Int) : ckinds_isDigit c = some (digB c) := by
  show nkinds_isDigit c = _
  unfold nkinds_isDigit digB
  simp only [ge_iff_le]
  cases decide (48 ≤ c) <;> cases decide (c ≤ 57) <;> rfl

theorem foldC_all {β : Type} (p : β → Bool) : ∀ l : List β, foldC (fun x (s : Unit) k => bif p x then k s else some false) (fun _ => some true) l () = some (l.all p)
  | [] => rfl
  | x :: r => by
    simp only [foldC, List.all_cons]
    cases p x with
    | true => exact foldC_all p r
    | false => rfl

theorem Named_eq (s : List Int) : ckinds_Named s = some (namedB s) := by
  show nkinds_Named (iterV (gkinds_Named_0 big) big) s = _
  unfold nkinds_Named
  cases s with
  | nil => rfl
  | cons c r =>
    rw [eqD_false (by simp), cond_false]
    by_cases h : (c :: r).length ≤ 16
    · rw [decide_eq_false (by omega), cond_false]
      have h0 : getI (c :: r) (0 : Int) = some c := rfl
      rw [h0, Option.bind_some, isLetter_eq, Option.bind_some]
      simp only [namedB]
      rw [decide_eq_true h, Bool.true_and]
      cases hc : letB c with
      | false => rfl
      | true =>
        rw [Bool.not_true, cond_false, Bool.true_and]
        have := range_run (g := gkinds_Named_0 big) (xs := c :: r) (fun (_ : Unit) (i : Nat) => (c :: r, ((c :: r).length : Int), (i : Int))) (fun x s k => bif (letB x || digB x) then k s else some false) (fun _ => some true)
          (fun self s => by
            show hkinds_Named_0 self _ = _
            unfold hkinds_Named_0
            dsimp only
            rw [decide_eq_false (by omega), cond_false])
          (fun self s i hi => by
            show hkinds_Named_0 self _ = _
            unfold hkinds_Named_0
            dsimp only
            rw [decide_eq_true (by omega), cond_true, getI_at hi, Option.bind_some, isLetter_eq, Option.bind_some, Option.bind_some, isDigit_eq, Option.bind_some]
            rw [wrap_succ hi (by have := maxLen_ge; omega)]
            cases letB (c :: r)[i] <;> cases digB (c :: r)[i] <;> rfl)
          (c :: r).length 0 big (by simp) (by unfold big; omega) ()
        rw [List.drop_zero, foldC_all] at this
        exact this
    · rw [decide_eq_true (by omega), cond_true]
      simp only [namedB]
      rw [decide_eq_false h]; rfl

/-! ### fields -/
def areB (fs : List Fld) (n : Int) : Bool := decide (1 ≤ fs.length ∧ fs.length ≤ 8) && (fs.all (fun f => namedB f.1) && (decide ((fs.map (·.1)).Nodup) && fs.all fun f => idxB f.2.1 n))

theorem areBuilt_fold (n : Int) : ∀ (fs : List Fld) (m : List (List Int × Bool)) (S : List Int → Prop), Marks .str m S → ∃ b, foldC (fun (f : Fld) m k => bif namedB f.1 then (bif (@atK .str .bool f.1 false m).1 then some false else (bif idxB f.2.1 n then k (@putK .str .bool f.1 true m) else some false)) else some false) (fun _ => some true) fs m = some b ∧
    (b = true ↔ (∀ f ∈ fs, namedB f.1 = true ∧ idxB f.2.1 n = true ∧ ¬ S f.1) ∧ (fs.map (·.1)).Nodup)
  | [], m, S, _ => ⟨true, rfl, by simp⟩
  | f :: r, m, S, h => by
    simp only [foldC]
    cases h1 : namedB f.1 with
    | false => exact ⟨false, rfl, by simp [h1]⟩
    | true =>
      rw [cond_true]
      cases h2 : (@atK .str .bool f.1 false m).1 with
      | true => exact ⟨false, rfl, by simp [(h f.1).1 h2]⟩
      | false =>
        rw [cond_false]
        have h2' : ¬ S f.1 := fun hs => by rw [(h f.1).2 hs] at h2; cases h2
        cases h3 : idxB f.2.1 n with
        | false => exact ⟨false, rfl, by simp [h3]⟩
        | true =>
          rw [cond_true]
          obtain ⟨b, e, hb⟩ := areBuilt_fold n r _ _ (h.put f.1)
          refine ⟨b, e, hb.trans ?_⟩
          simp only [List.mem_cons, forall_eq_or_imp, List.map_cons, List.nodup_cons, List.mem_map, not_exists, not_and, not_or]
          constructor
          · rintro ⟨g1, g2⟩
            exact ⟨⟨⟨h1, h3, h2'⟩, fun x hx => ⟨(g1 x hx).1, (g1 x hx).2.1, (g1 x hx).2.2.2⟩⟩, fun x hx e => (g1 x hx).2.2.1 e, g2⟩
          · rintro ⟨⟨_, g1⟩, g2, g3⟩
            exact ⟨fun x hx => ⟨(g1 x hx).1, (g1 x hx).2.1, fun e => g2 x hx e, (g1 x hx).2.2⟩, g3⟩

theorem areBuilt_eq (fs : List Fld) (n : Int) : ckinds_areBuilt (fs, n) = some (areB fs n) := by
  show nkinds_areBuilt (iterV (gkinds_areBuilt_0 big) big) (fs, n) = _
  unfold nkinds_areBuilt areB
  dsimp only
  by_cases h1 : fs.length < 1
  · rw [decide_eq_true (by omega), cond_true, decide_eq_false (by omega)]; rfl
  rw [decide_eq_false (by omega), cond_false]
  by_cases h2 : fs.length > 8
  · rw [decide_eq_true (by omega), cond_true, decide_eq_false (by omega)]; rfl
  rw [decide_eq_false (by omega), cond_false]
  have := range_run (g := gkinds_areBuilt_0 big) (xs := fs) (fun (m : List (List Int × Bool)) (i : Nat) => (n, fs, (fs.length : Int), (i : Int), m)) (fun f m k => bif namedB f.1 then (bif (@atK .str .bool f.1 false m).1 then some false else (bif idxB f.2.1 n then k (@putK .str .bool f.1 true m) else some false)) else some false) (fun _ => some true)
    (fun self s => by
      show hkinds_areBuilt_0 self _ = _
      unfold hkinds_areBuilt_0
      dsimp only
      rw [decide_eq_false (by omega), cond_false])
    (fun self s i hi => by
      show hkinds_areBuilt_0 self _ = _
      unfold hkinds_areBuilt_0
      dsimp only
      rw [decide_eq_true (by omega), cond_true, getI_at hi, Option.bind_some, Named_eq, Option.bind_some, isIndex_eq, Option.bind_some]
      rw [wrap_succ hi (by have := maxLen_ge; omega)]
      cases namedB fs[i].1 <;> cases (@atK .str .bool fs[i].1 false s).1 <;> cases idxB fs[i].2.1 n <;> rfl)
    fs.length 0 big (by simp) (by unfold big; omega) []
  obtain ⟨b, e, hb⟩ := areBuilt_fold n fs [] _ Marks.nil
  rw [List.drop_zero, e] at this
  have this : iterV (gkinds_areBuilt_0 big) big (n, fs, (fs.length : Int), 0, []) = some b := this
  rw [this, decide_eq_true (by omega), Bool.true_and]
  congr 1
  rw [Bool.eq_iff_iff, hb]
  simp only [Bool.and_eq_true, decide_eq_true_eq, List.all_eq_true, not_false_eq_true, and_true]
  exact ⟨fun h => ⟨fun f hf => (h.1 f hf).1, h.2, fun f hf => (h.1 f hf).2⟩, fun h => ⟨fun f hf => ⟨h.1 f hf, h.2.2 f hf⟩, h.2.1⟩⟩

/-! ### types that are built -/
def builtB (t : Typ) (i n : Int) : Bool :=
  if t.1 = 1 ∨ t.1 = 2 ∨ t.1 = 3 then decide (t.2.1 = 0) && (decide (t.2.2.1 = 0) && decide (t.2.2.2.1.length = 0))
  else if t.1 = 4 ∨ t.1 = 7 then idxB t.2.1 n && (decide (t.2.2.1 = 0) && decide (t.2.2.2.1.length = 0))
  else if t.1 = 6 then idxB t.2.1 i && (decide (1 ≤ t.2.2.1 ∧ t.2.2.1 ≤ 16) && decide (t.2.2.2.1.length = 0))
  else if t.1 = 5 then decide (t.2.1 = 0) && (decide (t.2.2.1 = 0) && areB t.2.2.2.1 i)
  else false

theorem len0 {α : Type} (l : List α) : ((l.length : Int) == 0) = decide (l.length = 0) := by
  by_cases h : l.length = 0
  · rw [h]; rfl
  · rw [decide_eq_false h]; simp; intro e; exact h (by rw [e]; rfl)
theorem beq_dec (a b : Int) : (a == b) = decide (a = b) := rfl

theorem isBuilt_eq (t : Typ) (i n : Int) : ckinds_isBuilt (t, i, n) = some (builtB t i n) := by
  show nkinds_isBuilt (t, i, n) = _
  unfold nkinds_isBuilt builtB
  simp only [isIndex_eq, areBuilt_eq, len0, Option.bind_some]
  obtain ⟨k, e, l, fs, u⟩ := t
  dsimp only
  simp only [beq_dec, ge_iff_le]
  generalize areB fs i = A
  generalize idxB e n = B
  generalize idxB e i = C
  generalize decide (fs.length = 0) = D
  generalize decide (e = 0) = E
  generalize decide (l = 0) = F
  have hG : decide (1 ≤ l ∧ l ≤ 16) = (decide (1 ≤ l) && decide (l ≤ 16)) := by by_cases h : 1 ≤ l <;> by_cases h' : l ≤ 16 <;> simp [h, h']
  rw [hG]
  generalize decide (1 ≤ l) = G
  generalize decide (l ≤ 16) = H
  by_cases h1 : k = 1
  · subst h1; simp; cases A <;> cases B <;> cases C <;> cases D <;> cases E <;> cases F <;> cases G <;> cases H <;> rfl
  by_cases h2 : k = 2
  · subst h2; simp; cases A <;> cases B <;> cases C <;> cases D <;> cases E <;> cases F <;> cases G <;> cases H <;> rfl
  by_cases h3 : k = 3
  · subst h3; simp; cases A <;> cases B <;> cases C <;> cases D <;> cases E <;> cases F <;> cases G <;> cases H <;> rfl
  by_cases h4 : k = 4
  · subst h4; simp; cases A <;> cases B <;> cases C <;> cases D <;> cases E <;> cases F <;> cases G <;> cases H <;> rfl
  by_cases h5 : k = 5
  · subst h5; simp; cases A <;> cases B <;> cases C <;> cases D <;> cases E <;> cases F <;> cases G <;> cases H <;> rfl
  by_cases h6 : k = 6
  · subst h6; simp; cases A <;> cases B <;> cases C <;> cases D <;> cases E <;> cases F <;> cases G <;> cases H <;> rfl
  by_cases h7 : k = 7
  · subst h7; simp; cases A <;> cases B <;> cases C <;> cases D <;> cases E <;> cases F <;> cases G <;> cases H <;> rfl
  simp [h1, h2, h3, h4, h5, h6, h7]

/-! ### types that are built -/
theorem built_ptr {t : Typ} {i n : Int} (h : builtB t i n = true) (hk : t.1 = 4 ∨ t.1 = 7) : 0 ≤ t.2.1 ∧ t.2.1 < n := by
  unfold builtB at h
  rw [if_neg (by omega), if_pos hk] at h
  simp only [Bool.and_eq_true] at h
  exact idxB_iff.1 h.1
theorem built_arr {t : Typ} {i n : Int} (h : builtB t i n = true) (hk : t.1 = 6) : 0 ≤ t.2.1 ∧ t.2.1 < i ∧ 1 ≤ t.2.2.1 ∧ t.2.2.1 ≤ 16 := by
  unfold builtB at h
  rw [if_neg (by omega), if_neg (by omega), if_pos hk] at h
  simp only [Bool.and_eq_true, decide_eq_true_eq] at h
  have := idxB_iff.1 h.1
  exact ⟨this.1, this.2, h.2.1⟩
theorem built_str {t : Typ} {i n : Int} (h : builtB t i n = true) (hk : t.1 = 5) : (1 ≤ t.2.2.2.1.length ∧ t.2.2.2.1.length ≤ 8) ∧ ∀ f ∈ t.2.2.2.1, 0 ≤ f.2.1 ∧ f.2.1 < i := by
  unfold builtB at h
  rw [if_neg (by omega), if_neg (by omega), if_neg (by omega), if_pos hk] at h
  simp only [Bool.and_eq_true, decide_eq_true_eq, areB, List.all_eq_true] at h
  exact ⟨h.2.2.1, fun f hf => idxB_iff.1 (h.2.2.2.2.2 f hf)⟩
theorem built_none {t : Typ} {i n : Int} (h : builtB t i n = true) (hk : t.1 ≠ 5) : t.2.2.2.1 = [] := by
  unfold builtB at h
  have e : ∀ {l : List Fld}, decide (l.length = 0) = true → l = [] := fun h => List.eq_nil_of_length_eq_zero (of_decide_eq_true h)
  split at h
  · simp only [Bool.and_eq_true] at h; exact e h.2.2
  split at h
  · simp only [Bool.and_eq_true] at h; exact e h.2.2
  split at h
  · simp only [Bool.and_eq_true] at h; exact e h.2.2
  · simp [hk] at h
theorem built_kind {t : Typ} {i n : Int} (h : builtB t i n = true) : 1 ≤ t.1 ∧ t.1 ≤ 7 := by
  unfold builtB at h
  split at h
  · omega
  split at h
  · omega
  split at h
  · omega
  split at h
  · omega
  · cases h

/-! ### parts -/
def partsS (t : Typ) : List Int := if t.1 = 6 then [t.2.1] else if t.1 = 5 then t.2.2.2.1.map (·.2.1) else []
def nextS (t : Typ) : List Int := if t.1 = 4 ∨ t.1 = 7 then [t.2.1] else partsS t

theorem set_fill {α : Type} (xs : List α) (z : α) (i : Nat) (hi : i < xs.length) : (xs.take i ++ List.replicate (xs.length - i) z).set i xs[i] = xs.take (i + 1) ++ List.replicate (xs.length - (i + 1)) z := by
  have h1 : xs.length - i = (xs.length - (i + 1)) + 1 := by omega
  rw [h1, List.replicate_succ, List.set_append_right _ _ (by simp; omega)]
  have h2 : i - (xs.take i).length = 0 := by simp; omega
  rw [h2, List.set_cons_zero, List.take_succ_eq_append_getElem hi, List.append_assoc]
  rfl

theorem parts_eq (t : Typ) (hf : t.2.2.2.1.length ≤ 1000) : ckinds_parts t = some (partsS t) := by
  show nkinds_parts _ (iterV (gkinds_parts_0 _ big) big) t = _
  unfold nkinds_parts partsS
  by_cases h6 : t.1 = 6
  · rw [if_pos h6, h6]; rfl
  by_cases h5 : t.1 = 5
  · rw [if_neg h6, if_pos h5, h5]
    have e1 : ((5 : Int) == 6) = false := rfl
    have e2 : ((5 : Int) == 5) = true := rfl
    rw [e1, cond_false, e2, cond_true]
    rw [decide_eq_true (by omega), decide_eq_true (by omega), decide_eq_true (by omega)]
    simp only [Bool.and_true, cond_true]
    refine range_post (g := gkinds_parts_0 (fun _ => List.replicate) big) (n := t.2.2.2.1.length) (fun (r : List Int) (i : Nat) => (t.2.2.2.1, (t.2.2.2.1.length : Int), (i : Int), r)) (fun i r => r = (t.2.2.2.1.map (·.2.1)).take i ++ List.replicate (t.2.2.2.1.length - i) 0) (fun r => r = some (t.2.2.2.1.map (·.2.1))) ?_ ?_
      t.2.2.2.1.length 0 big (by simp) (by unfold big; omega) _ (by simp)
    · rintro self s rfl
      show hkinds_parts_0 _ self _ = _
      unfold hkinds_parts_0
      dsimp only
      rw [decide_eq_false (by omega), cond_false, List.take_of_length_le (by simp)]
      simp
    · rintro self s i hi rfl
      left
      refine ⟨_, rfl, ?_⟩
      show hkinds_parts_0 _ self _ = _
      unfold hkinds_parts_0
      dsimp only
      rw [decide_eq_true (by omega), cond_true, getI_at hi, Option.bind_some, decide_eq_true (by omega), decide_eq_true (by simp; omega), wrap_succ hi (by have := maxLen_ge; omega)]
      have := set_fill (t.2.2.2.1.map (·.2.1)) 0 i (by simpa using hi)
      simp only [List.length_map, List.getElem_map] at this
      simp [this]
  · rw [if_neg h6, if_neg h5]
    have e1 : (t.1 == 6) = false := decide_eq_false h6
    have e2 : (t.1 == 5) = false := decide_eq_false h5
    rw [e1, e2]; rfl

theorem next_eq (t : Typ) (hf : t.2.2.2.1.length ≤ 1000) : ckinds_next t = some (nextS t) := by
  show nkinds_next t = _
  unfold nkinds_next nextS
  rw [parts_eq t hf]
  by_cases h4 : t.1 = 4
  · rw [if_pos (.inl h4), h4]; rfl
  by_cases h7 : t.1 = 7
  · rw [if_pos (.inr h7), h7]; rfl
  rw [if_neg (by omega), show (t.1 == 4) = false from decide_eq_false h4, show (t.1 == 7) = false from decide_eq_false h7]
  rfl

/-! ### widths -/
def cap (w : Int) : Int := if 5001 < w then 5001 else w
def sumT (acc : List Int) (fs : List Fld) : Int := (fs.map fun f => acc.getD f.2.1.toNat 0).sum
def wOne (less acc : List Int) (t : Typ) : Int :=
  if t.1 = 4 then 1 + less.getD t.2.1.toNat 0
  else if t.1 = 7 then 1 + 16 * less.getD t.2.1.toNat 0
  else if t.1 = 6 then 1 + t.2.2.1 * acc.getD t.2.1.toNat 0
  else if t.1 = 5 then 1 + sumT acc t.2.2.2.1
  else 1
def wGo (less : List Int) : List Typ → List Int → List Int
  | [], acc => acc
  | t :: r, acc => wGo less r (acc ++ [cap (wOne less acc t)])

def Wide (l : List Int) : Prop := ∀ x ∈ l, 0 ≤ x ∧ x ≤ 5001
theorem Wide.getD {l : List Int} (h : Wide l) (i : Nat) : 0 ≤ l.getD i 0 ∧ l.getD i 0 ≤ 5001 := by
  by_cases hi : i < l.length
  · rw [List.getD_eq_getElem?_getD, List.getElem?_eq_getElem hi]
    exact h _ (List.getElem_mem hi)
  · rw [List.getD_eq_getElem?_getD, List.getElem?_eq_none (by omega)]
    simp
theorem cap_wide {w : Int} (h : 0 ≤ w) : 0 ≤ cap w ∧ cap w ≤ 5001 := by unfold cap; split <;> omega
theorem sumT_bound {acc : List Int} (h : Wide acc) : ∀ fs : List Fld, 0 ≤ sumT acc fs ∧ sumT acc fs ≤ 5001 * fs.length
  | [] => by simp [sumT]
  | f :: r => by
    have h1 := sumT_bound h r
    have h2 := h.getD f.2.1.toNat
    simp only [sumT, List.map_cons, List.sum_cons, List.length_cons] at h1 ⊢
    omega
theorem sumT_snoc (acc : List Int) (fs : List Fld) (f : Fld) : sumT acc (fs ++ [f]) = sumT acc fs + acc.getD f.2.1.toNat 0 := by simp [sumT]
theorem mul16 {a b : Int} (h0 : 1 ≤ a) (h1 : a ≤ 16) (h2 : 0 ≤ b) (h3 : b ≤ 5001) : 0 ≤ a * b ∧ a * b ≤ 80016 := by
  constructor
  · exact Int.mul_nonneg (by omega) h2
  · have := Int.mul_le_mul h1 h3 h2 (by omega : (0 : Int) ≤ 16)
    omega
theorem wOne_bound {less acc : List Int} {t : Typ} {i n : Int} (hl : Wide less) (ha : Wide acc) (h : builtB t i n = true) : 0 ≤ wOne less acc t ∧ wOne less acc t ≤ 100000 := by
  unfold wOne
  have h1 := hl.getD t.2.1.toNat
  have h2 := ha.getD t.2.1.toNat
  split
  · omega
  split
  · omega
  split
  · rename_i h6
    have h3 := built_arr h h6
    have := mul16 h3.2.2.1 h3.2.2.2 h2.1 h2.2
    omega
  split
  · rename_i h5
    have h3 := built_str h h5
    have := sumT_bound ha t.2.2.2.1
    omega
  · omega

theorem wGo_snoc (less : List Int) : ∀ (l : List Typ) (t : Typ) (acc : List Int), wGo less (l ++ [t]) acc = wGo less l acc ++ [cap (wOne less (wGo less l acc) t)]
  | [], t, acc => rfl
  | u :: r, t, acc => wGo_snoc less r t _
theorem wGo_len (less : List Int) : ∀ (l : List Typ) (acc : List Int), (wGo less l acc).length = acc.length + l.length
  | [], acc => rfl
  | u :: r, acc => by rw [wGo, wGo_len]; simp; omega

/-- all types of a table are built -/
def Built (l : List Typ) : Prop := ∀ i (h : i < l.length), builtB l[i] (i : Int) (l.length : Int) = true

theorem wGo_wide {l : List Typ} (hb : Built l) {less : List Int} (hl : Wide less) : ∀ i, i ≤ l.length → Wide (wGo less (l.take i) [])
  | 0, _ => by intro x hx; simp [wGo] at hx
  | i + 1, hi => by
    have ih := wGo_wide hb hl i (by omega)
    rw [List.take_succ_eq_append_getElem (by omega), wGo_snoc]
    intro x hx
    rcases List.mem_append.1 hx with hx | hx
    · exact ih x hx
    · simp at hx
      subst hx
      exact cap_wide (wOne_bound hl ih (hb i (by omega))).1

theorem getD_app {a b : List Int} {e : Int} (h0 : 0 ≤ e) (h : e < (a.length : Int)) : (a ++ b).getD e.toNat 0 = a.getD e.toNat 0 := by
  rw [List.getD_eq_getElem?_getD, List.getD_eq_getElem?_getD, List.getElem?_append_left (by omega)]
theorem getI_getD {a : List Int} {e : Int} (h0 : 0 ≤ e) (h : e < (a.length : Int)) : getI a e = some (a.getD e.toNat 0) := by
  obtain ⟨k, rfl⟩ := Int.eq_ofNat_of_zero_le h0
  have hk : k < a.length := by omega
  rw [getI_at hk]
  simp [hk]
theorem nth_getD {a : List Int} {e : Int} (h0 : 0 ≤ e) (h : e < (a.length : Int)) : nth a (Int.toNat e) = some (a.getD e.toNat 0) := by
  obtain ⟨k, rfl⟩ := Int.eq_ofNat_of_zero_le h0
  have hk : k < a.length := by omega
  show a[k]? = _
  simp [hk]

theorem addw {a b : Int} (h0 : -9223372036854775808 ≤ a + b) (h1 : a + b ≤ 9223372036854775807) : IntKind.i64.wrap (a + b) = a + b := wrap_i64 h0 h1

theorem cap_eq (w : Int) : (if (5001 : Int) < w then (5001 : Int) else w) = cap w := rfl

theorem widened_eq {l : List Typ} (hlen : l.length ≤ 40) (hb : Built l) {less : List Int} (hl : Wide less) (hll : less.length = l.length) : ckinds_widened (l, less) = some (wGo less l []) := by
  show nkinds_widened _ (iterV (gkinds_widened_0 _ big) big) (l, less) = _
  unfold nkinds_widened
  dsimp only
  rw [decide_eq_true (by omega), decide_eq_true (by omega), decide_eq_true (by omega)]
  simp only [Bool.and_true, cond_true]
  refine range_post (g := gkinds_widened_0 (fun _ => List.replicate) big) (n := l.length) (fun (r : List Int) (i : Nat) => (less, l, (l.length : Int), (i : Int), r)) (fun i r => r = wGo less (l.take i) [] ++ List.replicate (l.length - i) 0) (fun r => r = some (wGo less l [])) ?_ ?_
    l.length 0 big (by simp) (by unfold big; omega) _ (by simp [wGo])
  · rintro self s rfl
    show hkinds_widened_0 _ _ self _ = _
    unfold hkinds_widened_0
    dsimp only
    rw [decide_eq_false (by omega), cond_false]
    simp
  · rintro self s i hi rfl
    left
    refine ⟨_, rfl, ?_⟩
    have hw := wGo_wide hb hl i (by omega)
    have hwl : (wGo less (l.take i) []).length = i := by rw [wGo_len]; simp; omega
    have hsl : (wGo less (l.take i) [] ++ List.replicate (l.length - i) 0).length = l.length := by simp [hwl]; omega
    have hbd := wOne_bound hl hw (hb i hi)
    have hset : ∀ v : Int, (wGo less (l.take i) [] ++ List.replicate (l.length - i) 0).set i v = wGo less (l.take i) [] ++ [v] ++ List.replicate (l.length - (i + 1)) 0 := by
      intro v
      rw [show l.length - i = (l.length - (i + 1)) + 1 by omega, List.replicate_succ, List.set_append_right _ _ (by omega), hwl, Nat.sub_self, List.set_cons_zero, List.append_assoc]
      rfl
    have hgo : wGo less (l.take (i + 1)) [] = wGo less (l.take i) [] ++ [cap (wOne less (wGo less (l.take i) []) l[i])] := by
      rw [List.take_succ_eq_append_getElem hi, wGo_snoc]
    have hbi := hb i hi
    rw [hgo]
    show hkinds_widened_0 _ _ self _ = _
    unfold hkinds_widened_0
    dsimp only
    rw [decide_eq_true (by omega), cond_true, getI_at hi, Option.bind_some]
    have hin : (decide (0 ≤ (i : Int)) && decide ((i : Int) < ((wGo less (l.take i) [] ++ List.replicate (l.length - i) 0).length : Int))) = true := by
      rw [decide_eq_true (by omega), decide_eq_true (by omega)]; rfl
    have hsucc := wrap_succ hi (by have := maxLen_ge; omega : l.length ≤ maxLen)
    simp only [hin, cond_true, Int.toNat_natCast, hset, hsucc]
    generalize hacc : wGo less (l.take i) [] = acc at *
    generalize htt : l[i] = t at *
    have hlw := hl.getD t.2.1.toNat
    have haw := hw.getD t.2.1.toNat
    by_cases h4 : t.1 = 4
    · have hp := built_ptr hbi (.inl h4)
      rw [h4, show ((4 : Int) == 4) = true from rfl, cond_true, getI_getD hp.1 (by omega), Option.bind_some]
      rw [addw (by omega) (by omega), cap_eq]
      unfold wOne
      rw [if_pos h4]
    have e4 : (t.1 == 4) = false := decide_eq_false h4
    rw [e4, cond_false]
    by_cases h7 : t.1 = 7
    · have hp := built_ptr hbi (.inr h7)
      rw [h7, show ((7 : Int) == 7) = true from rfl, cond_true, getI_getD hp.1 (by omega), Option.bind_some]
      rw [wrap_i64 (n := 16 * _) (by omega) (by omega), addw (by omega) (by omega), cap_eq]
      unfold wOne
      rw [if_neg h4, if_pos h7]
    have e7 : (t.1 == 7) = false := decide_eq_false h7
    rw [e7, cond_false]
    by_cases h6 : t.1 = 6
    · have hp := built_arr hbi h6
      rw [h6, show ((6 : Int) == 6) = true from rfl, cond_true]
      rw [decide_eq_true (by omega), decide_eq_true (by omega), Bool.true_and, cond_true, nth_getD hp.1 (by omega), Option.bind_some, getD_app hp.1 (by omega)]
      have hm := mul16 hp.2.2.1 hp.2.2.2 haw.1 haw.2
      rw [wrap_i64 (n := t.2.2.1 * _) (by omega) (by omega), addw (by omega) (by omega), cap_eq]
      unfold wOne
      rw [if_neg h4, if_neg h7, if_pos h6]
    have e6 : (t.1 == 6) = false := decide_eq_false h6
    rw [e6, cond_false]
    by_cases h5 : t.1 = 5
    · have hp := built_str hbi h5
      rw [h5, show ((5 : Int) == 5) = true from rfl, cond_true]
      refine range_post (g := gkinds_widened_1 (fun _ => List.replicate) big self) (n := t.2.2.2.1.length) (fun (w : Int) (j : Nat) => (less, (i : Int), w, l, (l.length : Int), (i : Int), t.2.2.2.1, (t.2.2.2.1.length : Int), (j : Int), acc ++ List.replicate (l.length - i) 0)) (fun j w => w = 1 + sumT acc (t.2.2.2.1.take j)) (fun r => r = self (less, l, (l.length : Int), ((i + 1 : Nat) : Int), acc ++ [cap (wOne less acc t)] ++ List.replicate (l.length - (i + 1)) 0)) ?_ ?_
        t.2.2.2.1.length 0 big (by simp) (by unfold big; omega) _ (by simp [sumT])
      · rintro self1 s rfl
        show hkinds_widened_1 _ self self1 _ = _
        unfold hkinds_widened_1
        dsimp only
        rw [decide_eq_false (by omega), cond_false]
        simp only [hin, cond_true, Int.toNat_natCast, hset, hsucc, cap_eq]
        rw [List.take_length]
        unfold wOne
        rw [if_neg h4, if_neg h7, if_neg h6, if_pos h5]
      · rintro self1 s j hj rfl
        left
        refine ⟨_, rfl, ?_⟩
        have hf := hp.2 t.2.2.2.1[j] (List.getElem_mem hj)
        have hs := sumT_bound hw (t.2.2.2.1.take j)
        have hfw := hw.getD t.2.2.2.1[j].2.1.toNat
        have htl : (t.2.2.2.1.take j).length ≤ 8 := by simp; omega
        show hkinds_widened_1 _ self self1 _ = _
        unfold hkinds_widened_1
        dsimp only
        rw [decide_eq_true (by omega), cond_true, getI_at hj, Option.bind_some]
        rw [decide_eq_true (by omega), decide_eq_true (by omega), Bool.true_and, cond_true, nth_getD hf.1 (by omega), Option.bind_some, getD_app hf.1 (by omega), wrap_succ hj (by have := maxLen_ge; omega), addw (by omega) (by omega)]
        rw [List.take_succ_eq_append_getElem hj, sumT_snoc, Int.add_assoc]
    · have e5 : (t.1 == 5) = false := decide_eq_false h5
      rw [e5, cond_false]
      show self (less, l, (l.length : Int), ((i + 1 : Nat) : Int), acc ++ [_] ++ _) = _
      unfold wOne
      rw [if_neg h4, if_neg h7, if_neg h6, if_neg h5]
      rfl

def wN (l : List Typ) : Nat → List Int
  | 0 => List.replicate l.length 0
  | n + 1 => wGo (wN l n) l []
theorem wN_ok {l : List Typ} (hb : Built l) : ∀ n, Wide (wN l n) ∧ (wN l n).length = l.length
  | 0 => ⟨fun x hx => by simp [wN] at hx; omega, by simp [wN]⟩
  | n + 1 => by
    have ih := wN_ok hb n
    have := wGo_wide hb ih.1 l.length (Nat.le_refl _)
    rw [List.take_length] at this
    exact ⟨this, by rw [wN, wGo_len]; simp⟩

theorem widths_eq {l : List Typ} (hlen : l.length ≤ 40) (hb : Built l) : ckinds_widths l = some (wN l 4) := by
  show nkinds_widths _ (iterV (gkinds_widths_0 _ big) big) l = _
  unfold nkinds_widths
  rw [decide_eq_true (by omega), decide_eq_true (by omega), decide_eq_true (by omega)]
  simp only [Bool.and_true, cond_true]
  refine range_post (g := gkinds_widths_0 (fun _ => List.replicate) big) (n := 4) (fun (r : List Int) (i : Nat) => (l, (i : Int), r)) (fun i r => r = wN l i) (fun r => r = some (wN l 4)) ?_ ?_
    4 0 big (by simp) (by unfold big; omega) _ (by simp [wN])
  · rintro self s rfl
    rfl
  · rintro self s i hi rfl
    left
    refine ⟨_, rfl, ?_⟩
    show hkinds_widths_0 _ self _ = _
    unfold hkinds_widths_0
    dsimp only
    rw [decide_eq_true (by omega), cond_true, widened_eq hlen hb (wN_ok hb i).1 (wN_ok hb i).2, Option.bind_some, wrap_succ hi (by have := maxLen_ge; omega)]
    rfl

/-! ### whether a table is valid -/
theorem Index_eq (l : List Int) (y : Int) (hl : l.length ≤ 1000) : ∃ j, cslices_Index_int_int (l, y) = some j ∧ (0 ≤ j ↔ y ∈ l) := by
  show ∃ j, nslices_Index_int_int (iterV (gslices_Index_int_int_0 big) big) (l, y) = some j ∧ _
  unfold nslices_Index_int_int
  refine range_post (g := gslices_Index_int_int_0 big) (n := l.length) (fun (_ : Unit) (i : Nat) => (l, y, (l.length : Int), (i : Int))) (fun i _ => y ∉ l.take i) (fun r => ∃ j, r = some j ∧ (0 ≤ j ↔ y ∈ l)) ?_ ?_
    l.length 0 big (by simp) (by unfold big; omega) () (by simp)
  · intro self s h
    refine ⟨-1, ?_, ?_⟩
    · show hslices_Index_int_int_0 self _ = _
      unfold hslices_Index_int_int_0
      dsimp only
      rw [decide_eq_false (by omega), cond_false]
    · rw [List.take_length] at h
      simp [h]
  · intro self s i hi h
    by_cases e : y = l[i]
    · right
      refine ⟨i, ?_, by simp only [Int.natCast_nonneg, true_iff]; rw [e]; exact List.getElem_mem hi⟩
      show hslices_Index_int_int_0 self _ = _
      unfold hslices_Index_int_int_0
      dsimp only
      rw [decide_eq_true (by omega), cond_true, getI_at hi, Option.bind_some, show (y == l[i]) = true from decide_eq_true e, cond_true]
    · left
      refine ⟨(), ?_, ?_⟩
      · rw [List.take_succ_eq_append_getElem hi]
        intro hm
        rcases List.mem_append.1 hm with hm | hm
        · exact h hm
        · exact e (List.mem_singleton.1 hm)
      · show hslices_Index_int_int_0 self _ = _
        unfold hslices_Index_int_int_0
        dsimp only
        rw [decide_eq_true (by omega), cond_true, getI_at hi, Option.bind_some, show (y == l[i]) = false from decide_eq_false e, cond_false, wrap_succ hi (by have := maxLen_ge; omega)]

theorem Contains_eq (l : List Int) (y : Int) (hl : l.length ≤ 1000) : cslices_Contains_int_int (l, y) = some (decide (y ∈ l)) := by
  show nslices_Contains_int_int (l, y) = _
  unfold nslices_Contains_int_int
  obtain ⟨j, h1, h2⟩ := Index_eq l y hl
  rw [h1, Option.bind_some]
  congr 1
  rw [Bool.eq_iff_iff, decide_eq_true_eq, decide_eq_true_eq]
  exact h2

/-- a valid table -/
def Valid (l : List Typ) : Prop := l.length ≤ 32 ∧ Built l ∧ (5001 : Int) ∉ wN l 4
instance (l : List Typ) : Decidable (Built l) := by unfold Built; infer_instance
instance (l : List Typ) : Decidable (Valid l) := by unfold Valid; infer_instance

theorem Check_eq (l : List Typ) : ckinds_Check l = some (if Valid l then 0 else 8) := by
  show nkinds_Check (iterV (gkinds_Check_0 big) big) l = _
  unfold nkinds_Check
  by_cases h : l.length ≤ 32
  · rw [decide_eq_false (by omega), cond_false]
    refine range_post (g := gkinds_Check_0 big) (n := l.length) (fun (_ : Unit) (i : Nat) => (l, l, (l.length : Int), (i : Int))) (fun i _ => ∀ j (h : j < l.length), j < i → builtB l[j] j l.length = true) (fun r => r = some (if Valid l then 0 else 8)) ?_ ?_
      l.length 0 big (by simp) (by unfold big; omega) () (by intro j _ h; omega)
    · intro self s hb
      have hb' : Built l := fun i hi => hb i hi hi
      show hkinds_Check_0 self _ = _
      unfold hkinds_Check_0
      dsimp only
      rw [decide_eq_false (by omega), cond_false, widths_eq (by omega) hb', Option.bind_some, Contains_eq _ _ (by rw [(wN_ok hb' 4).2]; omega), Option.bind_some]
      by_cases hm : (5001 : Int) ∈ wN l 4
      · rw [decide_eq_true hm, cond_true, if_neg fun hv => hv.2.2 hm]
      · rw [decide_eq_false hm, cond_false, if_pos ⟨h, hb', hm⟩]
    · intro self s i hi hb
      cases hbi : builtB l[i] (i : Int) (l.length : Int) with
      | false =>
        right
        show hkinds_Check_0 self _ = _
        unfold hkinds_Check_0
        dsimp only
        rw [decide_eq_true (by omega), cond_true, getI_at hi, Option.bind_some, isBuilt_eq, Option.bind_some, hbi, Bool.not_false, cond_true, if_neg fun hv => by rw [hv.2.1 i hi] at hbi; cases hbi]
      | true =>
        left
        refine ⟨(), fun j hj hji => ?_, ?_⟩
        · by_cases e : j = i
          · subst e; exact hbi
          · exact hb j hj (by omega)
        · show hkinds_Check_0 self _ = _
          unfold hkinds_Check_0
          dsimp only
          rw [decide_eq_true (by omega), cond_true, getI_at hi, Option.bind_some, isBuilt_eq, Option.bind_some, hbi, Bool.not_true, cond_false, wrap_succ hi (by have := maxLen_ge; omega)]
  · rw [decide_eq_true (by omega), cond_true, if_neg fun hv => h hv.1]

theorem checked_eq (l : List Typ) (is : List Int) (hi : is.length ≤ 1000) : ckinds_checked (l, is) = some (if Valid l then (if ∀ i ∈ is, 0 ≤ i ∧ i < l.length then 0 else 2) else 8) := by
  show nkinds_checked (iterV (gkinds_checked_0 big) big) (l, is) = _
  unfold nkinds_checked
  dsimp only
  rw [Check_eq, Option.bind_some]
  by_cases hv : Valid l
  · rw [if_pos hv, if_pos hv]
    rw [show ((0 : Int) != 0) = false from rfl, cond_false]
    refine range_post (g := gkinds_checked_0 big) (n := is.length) (fun (_ : Unit) (i : Nat) => (l, is, (is.length : Int), (i : Int))) (fun k _ => ∀ i ∈ is.take k, 0 ≤ i ∧ i < l.length) (fun r => r = some (if ∀ i ∈ is, 0 ≤ i ∧ i < l.length then 0 else 2)) ?_ ?_
      is.length 0 big (by simp) (by unfold big; omega) () (by simp)
    · intro self s h
      rw [List.take_length] at h
      show hkinds_checked_0 self _ = _
      unfold hkinds_checked_0
      dsimp only
      rw [decide_eq_false (by omega), cond_false, if_pos h]
    · intro self s k hk h
      have hstep : gkinds_checked_0 big self (l, is, (is.length : Int), (k : Int)) = bif !(idxB is[k] l.length) then some 2 else self (l, is, (is.length : Int), ((k + 1 : Nat) : Int)) := by
        show hkinds_checked_0 self _ = _
        unfold hkinds_checked_0
        dsimp only
        rw [decide_eq_true (by omega), cond_true, getI_at hk, Option.bind_some, isIndex_eq, Option.bind_some, wrap_succ hk (by have := maxLen_ge; omega)]
      cases hx : idxB is[k] l.length with
      | false =>
        right
        rw [hstep, hx, if_neg]
        · rfl
        · intro hall
          have := idxB_iff.2 (hall is[k] (List.getElem_mem hk))
          rw [this] at hx
          cases hx
      | true =>
        left
        refine ⟨(), ?_, by rw [hstep, hx]; rfl⟩
        rw [List.take_succ_eq_append_getElem hk]
        intro i hi
        rcases List.mem_append.1 hi with hi | hi
        · exact h i hi
        · simp at hi; subst hi; exact idxB_iff.1 hx
  · rw [if_neg hv, if_neg hv]; rfl

/-! ### indices that lead on -/
def Ixs (n : Int) (l : List Int) : Prop := ∀ x ∈ l, 0 ≤ x ∧ x < n
theorem parts_ix {l : List Typ} (hb : Built l) {i : Nat} (hi : i < l.length) : Ixs i (partsS l[i]) := by
  intro x hx
  have h := hb i hi
  unfold partsS at hx
  split at hx
  · rename_i h6
    have := built_arr h h6
    simp at hx
    subst hx
    exact ⟨this.1, this.2.1⟩
  split at hx
  · rename_i h5
    obtain ⟨f, hf, rfl⟩ := List.mem_map.1 hx
    exact (built_str h h5).2 f hf
  · simp at hx
theorem next_ix {l : List Typ} (hb : Built l) {i : Nat} (hi : i < l.length) : Ixs l.length (nextS l[i]) := by
  intro x hx
  unfold nextS at hx
  split at hx
  · rename_i h
    simp at hx
    subst hx
    exact built_ptr (hb i hi) h
  · have := parts_ix hb hi x hx
    omega
theorem built_flen {t : Typ} {i n : Int} (h : builtB t i n = true) : t.2.2.2.1.length ≤ 8 := by
  by_cases h5 : t.1 = 5
  · exact (built_str h h5).1.2
  · rw [built_none h h5]; simp
theorem parts_len {t : Typ} {i n : Int} (h : builtB t i n = true) : (partsS t).length ≤ 8 := by
  have := built_flen h
  unfold partsS
  split
  · simp
  split
  · simpa using this
  · simp
theorem next_len {t : Typ} {i n : Int} (h : builtB t i n = true) : (nextS t).length ≤ 8 := by
  have := parts_len h
  unfold nextS
  split
  · simp
  · exact this

/-! ### depths -/
def maxT (acc : List Int) (m : Int) (ps : List Int) : Int := ps.foldl (fun m p => max m (acc.getD p.toNat 0)) m
def dGo : List Typ → List Int → List Int
  | [], acc => acc
  | t :: r, acc => dGo r (acc ++ [maxT acc 0 (partsS t) + 1])
theorem dGo_snoc : ∀ (l : List Typ) (t : Typ) (acc : List Int), dGo (l ++ [t]) acc = dGo l acc ++ [maxT (dGo l acc) 0 (partsS t) + 1]
  | [], t, acc => rfl
  | u :: r, t, acc => dGo_snoc r t _
theorem dGo_len : ∀ (l : List Typ) (acc : List Int), (dGo l acc).length = acc.length + l.length
  | [], acc => rfl
  | u :: r, acc => by rw [dGo, dGo_len]; simp; omega
def Deep (n : Int) (l : List Int) : Prop := ∀ x ∈ l, 0 ≤ x ∧ x ≤ n
theorem Deep.getD {n : Int} {l : List Int} (hn : 0 ≤ n) (h : Deep n l) (i : Nat) : 0 ≤ l.getD i 0 ∧ l.getD i 0 ≤ n := by
  by_cases hi : i < l.length
  · rw [List.getD_eq_getElem?_getD, List.getElem?_eq_getElem hi]
    exact h _ (List.getElem_mem hi)
  · rw [List.getD_eq_getElem?_getD, List.getElem?_eq_none (by omega)]
    simpa using hn
theorem maxT_bound {n : Int} {acc : List Int} (hn : 0 ≤ n) (h : Deep n acc) : ∀ (ps : List Int) (m : Int), 0 ≤ m → m ≤ n → 0 ≤ maxT acc m ps ∧ maxT acc m ps ≤ n
  | [], m, h0, h1 => ⟨h0, h1⟩
  | p :: r, m, h0, h1 => by
    have := h.getD hn p.toNat
    have h2 : 0 ≤ max m (acc.getD p.toNat 0) ∧ max m (acc.getD p.toNat 0) ≤ n := by omega
    exact maxT_bound hn h r _ h2.1 h2.2
theorem dGo_deep (l : List Typ) : ∀ i, i ≤ l.length → Deep i (dGo (l.take i) [])
  | 0, _ => by intro x hx; simp [dGo] at hx
  | i + 1, hi => by
    have ih := dGo_deep l i (by omega)
    rw [List.take_succ_eq_append_getElem (by omega), dGo_snoc]
    intro x hx
    rcases List.mem_append.1 hx with hx | hx
    · have := ih x hx; omega
    · simp at hx
      subst hx
      have := maxT_bound (by omega) ih (partsS l[i]) 0 (by omega) (by omega)
      omega

def dS (l : List Typ) : List Int := dGo l []

theorem max_if (a b : Int) : (if b > a then b else a) = max a b := by omega

/-! ### marks, and how many are left -/
def MarkK (kt : Ty) (m : List (kt.den × Bool)) (x : kt.den) : Prop := (@atK kt .bool x false m).1 = true
theorem markK_put {kt : Ty} (m : List (kt.den × Bool)) (y x : kt.den) : MarkK kt (@putK kt .bool y true m) x ↔ x = y ∨ MarkK kt m x :=
  (Marks.put (kt := kt) (S := MarkK kt m) (fun _ => Iff.rfl) y) x
def un (kt : Ty) (ks : List kt.den) (m : List (kt.den × Bool)) : Nat := (ks.filter fun k => !(@atK kt .bool k false m).1).length
theorem un_le {kt : Ty} {ks : List kt.den} {m m' : List (kt.den × Bool)} (h : ∀ x, MarkK kt m x → MarkK kt m' x) : un kt ks m' ≤ un kt ks m := by
  unfold un
  induction ks with
  | nil => simp
  | cons a l ih =>
    simp only [List.filter_cons]
    cases h1 : (@atK kt .bool a false m).1 with
    | true =>
      have h2 : (@atK kt .bool a false m').1 = true := h a h1
      rw [h2]
      exact ih
    | false =>
      rw [Bool.not_false, if_pos rfl]
      split
      · simpa using ih
      · simp; omega
theorem un_lt {kt : Ty} {ks : List kt.den} {m : List (kt.den × Bool)} {i : kt.den} (hi : i ∈ ks) (h : ¬ MarkK kt m i) : un kt ks (@putK kt .bool i true m) < un kt ks m := by
  induction ks with
  | nil => cases hi
  | cons a l ih =>
    have hle := un_le (kt := kt) (ks := l) (m := m) (m' := @putK kt .bool i true m) fun x hx => (markK_put m i x).2 (.inr hx)
    unfold un at ih hle ⊢
    simp only [List.filter_cons]
    by_cases e : a = i
    · subst e
      have h2 : (@atK kt .bool a false (@putK kt .bool a true m)).1 = true := (markK_put m a a).2 (.inl rfl)
      have h3 : (@atK kt .bool a false m).1 = false := by
        cases hb : (@atK kt .bool a false m).1 with
        | true => exact absurd hb h
        | false => rfl
      rw [h2, h3]
      simp; omega
    · have hmem : i ∈ l := by
        rcases List.mem_cons.1 hi with rfl | h
        · exact absurd rfl e
        · exact h
      have := ih hmem
      cases h1 : (@atK kt .bool a false m).1 with
      | true =>
        have h2 : (@atK kt .bool a false (@putK kt .bool i true m)).1 = true := (markK_put m i a).2 (.inr h1)
        rw [h2]
        exact this
      | false =>
        rw [Bool.not_false, if_pos rfl]
        split
        · simpa using this
        · simp; omega
theorem un_all {kt : Ty} (ks : List kt.den) (m : List (kt.den × Bool)) : un kt ks m ≤ ks.length := List.length_filter_le _ _

/-! ### what is found -/
abbrev Marked (m : List (Int × Bool)) (x : Int) : Prop := MarkK (.int .i64) m x
theorem marked_put (m : List (Int × Bool)) (y x : Int) : Marked (@putK (.int .i64) .bool y true m) x ↔ x = y ∨ Marked m x := markK_put (kt := .int .i64) m y x
def ixs (n : Nat) : List Int := (List.range n).map fun (k : Nat) => (k : Int)
theorem mem_ixs {n : Nat} {x : Int} : x ∈ ixs n ↔ 0 ≤ x ∧ x < n := by
  unfold ixs
  rw [List.mem_map]
  constructor
  · rintro ⟨k, h, rfl⟩
    have := List.mem_range.1 h
    omega
  · rintro ⟨h0, h1⟩
    exact ⟨x.toNat, List.mem_range.2 (by omega), by omega⟩
def unM (n : Nat) (m : List (Int × Bool)) : Nat := un (.int .i64) (ixs n) m
theorem unM_le {n : Nat} {m m' : List (Int × Bool)} (h : ∀ x, Marked m x → Marked m' x) : unM n m' ≤ unM n m := un_le (kt := .int .i64) h
theorem unM_lt {n : Nat} {m : List (Int × Bool)} {i : Int} (h0 : 0 ≤ i) (h1 : i < n) (h : ¬ Marked m i) : unM n (@putK (.int .i64) .bool i true m) < unM n m := un_lt (kt := .int .i64) (mem_ixs.2 ⟨h0, h1⟩) h
theorem unM_all (n : Nat) (m : List (Int × Bool)) : unM n m ≤ n := by
  have := un_all (kt := .int .i64) (ixs n) m
  simpa [unM, ixs] using this

/-- what is reached from a type, by some ways on -/
inductive Rch (l : List Typ) (ways : Typ → List Int) (i : Int) : Int → Prop
  | self : Rch l ways i i
  | step {x y : Int} (t : Typ) : Rch l ways i x → getI l x = some t → y ∈ ways t → Rch l ways i y

theorem Rch.trans {l : List Typ} {ways : Typ → List Int} {i j k : Int} (h : Rch l ways i j) (h' : Rch l ways j k) : Rch l ways i k := by
  induction h' with
  | self => exact h
  | step t _ h1 h2 ih => exact .step t ih h1 h2
theorem Rch.head {l : List Typ} {ways : Typ → List Int} {i j k : Int} (t : Typ) (h1 : getI l i = some t) (h2 : j ∈ ways t) (h : Rch l ways j k) : Rch l ways i k :=
  (Rch.step t .self h1 h2).trans h

/-- one that is visited: what is behind it -/
structure Seen (l : List Typ) (ways : Typ → List Int) (i : Int) (m m' : List (Int × Bool)) : Prop where
  old : ∀ x, Marked m x → Marked m' x
  self : Marked m' i
  new : ∀ x, Marked m' x → Marked m x ∨ Rch l ways i x
  shut : ∀ x t y, Marked m' x → ¬ Marked m x → getI l x = some t → y ∈ ways t → Marked m' y

theorem visit_ok {l : List Typ} {ways : Typ → List Int} (hw : ∀ x t, getI l x = some t → Ixs l.length (ways t)) (F : Nat → Int → List (Int × Bool) → Option (List (Int × Bool) × Unit))
    (h1 : ∀ k i m, Marked m i → F (k + 1) i m = some (m, ()))
    (h2 : ∀ k i m t, ¬ Marked m i → getI l i = some t → ∀ (I : Nat → List (Int × Bool) → Prop), I 0 (@putK (.int .i64) .bool i true m) →
      (∀ j (hj : j < (ways t).length) mj, I j mj → ∃ m', I (j + 1) m' ∧ F k (ways t)[j] mj = some (m', ())) → ∃ m', I (ways t).length m' ∧ F (k + 1) i m = some (m', ())) :
    ∀ (k : Nat) (i : Int) (m : List (Int × Bool)), 0 ≤ i → i < l.length → unM l.length m < k → ∃ m', F k i m = some (m', ()) ∧ Seen l ways i m m'
  | 0, _, _, _, _, h => by omega
  | k + 1, i, m, hi0, hi1, hk => by
    by_cases hm : Marked m i
    · exact ⟨m, h1 k i m hm, fun _ h => h, hm, fun _ h => .inl h, fun x t y h h' => absurd h h'⟩
    · have hn : i.toNat < l.length := by omega
      have ht : getI l i = some l[i.toNat] := by
        have := getI_at hn
        rwa [Int.toNat_of_nonneg hi0] at this
      generalize l[i.toNat] = t at ht
      have hlt := unM_lt hi0 hi1 hm
      obtain ⟨m', hI, hF⟩ := h2 k i m t hm ht (fun j mj => (∀ x, Marked (@putK (.int .i64) .bool i true m) x → Marked mj x) ∧ (∀ x, Marked mj x → Marked m x ∨ Rch l ways i x) ∧
          (∀ x ∈ (ways t).take j, Marked mj x) ∧ ∀ x t' y, Marked mj x → ¬ Marked m x → x ≠ i → getI l x = some t' → y ∈ ways t' → Marked mj y)
        ⟨fun _ h => h, fun x h => ((marked_put m i x).1 h).elim (fun e => by subst e; exact .inr .self) .inl, by simp, fun x t' y hx hx' hne => by
          rcases (marked_put m i x).1 hx with e | e
          · exact absurd e hne
          · exact absurd e hx'⟩
        (fun j hj mj ⟨g1, g2, g3, g4⟩ => by
          have hwx := hw i t ht (ways t)[j] (List.getElem_mem hj)
          obtain ⟨m', e, s⟩ := visit_ok hw F h1 h2 k (ways t)[j] mj hwx.1 hwx.2 (by have := unM_le (n := l.length) g1; omega)
          refine ⟨m', ⟨fun x h => s.old x (g1 x h), fun x h => ?_, fun x hx => ?_, fun x t' y hx hx' hne hgt hy => ?_⟩, e⟩
          · rcases s.new x h with h | h
            · exact g2 x h
            · exact .inr (Rch.head t ht (List.getElem_mem hj) h)
          · rw [List.take_succ_eq_append_getElem hj] at hx
            rcases List.mem_append.1 hx with hx | hx
            · exact s.old x (g3 x hx)
            · rw [List.mem_singleton.1 hx]; exact s.self
          · by_cases hmj : Marked mj x
            · exact s.old y (g4 x t' y hmj hx' hne hgt hy)
            · exact s.shut x t' y hx hmj hgt hy)
      obtain ⟨g1, g2, g3, g4⟩ := hI
      refine ⟨m', hF, fun x h => g1 x ((marked_put m i x).2 (.inr h)), g1 i ((marked_put m i i).2 (.inl rfl)), g2, fun x t' y hx hx' hgt hy => ?_⟩
      by_cases e : x = i
      · subst e
        rw [ht] at hgt
        cases hgt
        exact g3 y (by rw [List.take_length]; exact hy)
      · exact g4 x t' y hx hx' e hgt hy

theorem seen_all {l : List Typ} {ways : Typ → List Int} {i : Int} {m' : List (Int × Bool)} (s : Seen l ways i [] m') (x : Int) : Marked m' x ↔ Rch l ways i x := by
  have no : ∀ x, ¬ Marked ([] : List (Int × Bool)) x := fun x h => by simp [Marked, MarkK, atK] at h
  constructor
  · intro h
    exact (s.new x h).resolve_left (no x)
  · intro h
    induction h with
    | self => exact s.self
    | step t _ h1 h2 ih => exact s.shut _ t _ ih (no _) h1 h2

theorem getI_some {α : Type} {l : List α} {x : Int} {t : α} (h : getI l x = some t) : 0 ≤ x ∧ x < l.length ∧ ∃ (hx : x.toNat < l.length), t = l[x.toNat] := by
  unfold getI at h
  by_cases h0 : 0 ≤ x
  · rw [decide_eq_true h0] at h
    simp only [cond_true] at h
    have h' : l[x.toNat]? = some t := h
    obtain ⟨h1, h2⟩ := List.getElem?_eq_some_iff.1 h'
    exact ⟨h0, by omega, h1, h2.symm⟩
  · rw [decide_eq_false h0] at h
    cases h
theorem getI_in {l : List Typ} {x : Int} (h0 : 0 ≤ x) (h1 : x < l.length) : ∃ t, getI l x = some t := by
  obtain ⟨k, rfl⟩ := Int.eq_ofNat_of_zero_le h0
  exact ⟨_, getI_at (by omega)⟩
theorem built_at {l : List Typ} (hb : Built l) {x : Int} {t : Typ} (h : getI l x = some t) : builtB t x l.length = true := by
  obtain ⟨h0, h1, hx, rfl⟩ := getI_some h
  have := hb x.toNat hx
  rwa [Int.toNat_of_nonneg h0] at this

theorem rS_succ (k x y) : rkinds_Same_1 (k + 1) x y = nkinds_Same_1 (rkinds_Same_1 k) y (iterV (gkinds_Same_1_0 (rkinds_Same_1 k) y big) big) x := rfl

theorem lim_ge : 1000000 ≤ lim := by decide

/-! ### types that look the same -/
def formB (t u : Typ) : Bool := decide (t.1 = u.1) && (decide (t.2.2.1 = u.2.2.1) && decide (t.2.2.2.1.map (·.1) = u.2.2.2.1.map (·.1)))
theorem formB_iff {t u : Typ} : formB t u = true ↔ t.1 = u.1 ∧ t.2.2.1 = u.2.2.1 ∧ t.2.2.2.1.map (·.1) = u.2.2.2.1.map (·.1) := by simp [formB]

theorem form1_eq (f g : Fld) : ckinds_isOfOneForm_1 (f, g) = some (eqD .str f.1 g.1) := rfl

theorem form_eq (t u : Typ) (ht : t.2.2.2.1.length ≤ 1000) : ckinds_isOfOneForm (t, u) = some (formB t u) := by
  show nkinds_isOfOneForm (iterV (gkinds_isOfOneForm_0 big) big) (t, u) = _
  unfold nkinds_isOfOneForm formB
  dsimp only
  by_cases h1 : t.1 = u.1
  · rw [show (t.1 == u.1) = true from decide_eq_true h1, cond_true, decide_eq_true h1, Bool.true_and]
    by_cases h2 : t.2.2.1 = u.2.2.1
    · rw [show (t.2.2.1 == u.2.2.1) = true from decide_eq_true h2, cond_true, decide_eq_true h2, Bool.true_and]
      by_cases h3 : t.2.2.2.1.length = u.2.2.2.1.length
      · rw [show ((t.2.2.2.1.length : Int) != (u.2.2.2.1.length : Int)) = false by rw [h3]; simp, cond_false]
        refine range_post (g := gkinds_isOfOneForm_0 big) (n := t.2.2.2.1.length) (fun (_ : Unit) (j : Nat) => (u.2.2.2.1, t.2.2.2.1, (t.2.2.2.1.length : Int), (j : Int), true)) (fun j _ => (t.2.2.2.1.map (·.1)).take j = (u.2.2.2.1.map (·.1)).take j) (fun r => r = some (decide (t.2.2.2.1.map (·.1) = u.2.2.2.1.map (·.1)))) ?_ ?_
          t.2.2.2.1.length 0 big (by simp) (by unfold big; omega) () (by simp)
        · intro self s h
          rw [List.take_of_length_le (by simp), List.take_of_length_le (by simp; omega)] at h
          show hkinds_isOfOneForm_0 self _ = _
          unfold hkinds_isOfOneForm_0
          dsimp only
          rw [decide_eq_false (by omega), cond_false, cond_true, decide_eq_true h]
        · intro self s j hj h
          have hj' : j < u.2.2.2.1.length := by omega
          have hst : gkinds_isOfOneForm_0 big self (u.2.2.2.1, t.2.2.2.1, (t.2.2.2.1.length : Int), (j : Int), true) = bif !(eqD .str (t.2.2.2.1[j]).1 (u.2.2.2.1[j]).1) then some false else self (u.2.2.2.1, t.2.2.2.1, (t.2.2.2.1.length : Int), ((j + 1 : Nat) : Int), true) := by
            show hkinds_isOfOneForm_0 self _ = _
            unfold hkinds_isOfOneForm_0
            dsimp only
            rw [decide_eq_true (by omega), cond_true, getI_at hj, Option.bind_some, getI_at hj', Option.bind_some, form1_eq, Option.bind_some, wrap_succ hj (by have := maxLen_ge; omega)]
            rfl
          by_cases e : (t.2.2.2.1[j]).1 = (u.2.2.2.1[j]).1
          · left
            refine ⟨(), ?_, by rw [hst, e, eqD_self]; rfl⟩
            rw [List.take_succ_eq_append_getElem (by simpa using hj), List.take_succ_eq_append_getElem (by simpa using hj'), h]
            simp [e]
          · right
            rw [hst, eqD_false e, Bool.not_false, cond_true]
            congr 1
            symm
            apply decide_eq_false
            intro hh
            have h4 := congrArg (fun l => l[j]?) hh
            simp [hj, hj'] at h4
            exact e h4
      · rw [show ((t.2.2.2.1.length : Int) != (u.2.2.2.1.length : Int)) = true by simp; omega, cond_true]
        congr 1
        symm
        apply decide_eq_false
        intro hh
        have := congrArg List.length hh
        simp at this
        exact h3 this
    · rw [show (t.2.2.1 == u.2.2.1) = false from decide_eq_false h2, cond_false, decide_eq_false h2, Bool.false_and]
  · rw [show (t.1 == u.1) = false from decide_eq_false h1, cond_false, decide_eq_false h1, Bool.false_and]

theorem form_len {l : List Typ} (hb : Built l) {x y : Int} {t u : Typ} (ht : getI l x = some t) (hu : getI l y = some u) (h : formB t u = true) : (nextS t).length = (nextS u).length := by
  obtain ⟨h1, h2, h3⟩ := formB_iff.1 h
  have h4 := congrArg List.length h3
  simp at h4
  unfold nextS partsS
  rw [h1]
  split
  · rfl
  split
  · rfl
  split
  · simpa using h4
  · rfl

/-- pairs that are come to by the same ways -/
inductive Pch (l : List Typ) (a b : Int) : Int → Int → Prop
  | self : Pch l a b a b
  | step {x y x' y' : Int} (t u : Typ) (j : Nat) : Pch l a b x y → getI l x = some t → getI l y = some u → (nextS t)[j]? = some x' → (nextS u)[j]? = some y' → Pch l a b x' y'
theorem Pch.trans {l : List Typ} {a b c d e f : Int} (h : Pch l a b c d) (h' : Pch l c d e f) : Pch l a b e f := by
  induction h' with
  | self => exact h
  | step t u j _ h1 h2 h3 h4 ih => exact .step t u j ih h1 h2 h3 h4
/-- two types are alike -/
def Alike (l : List Typ) (a b : Int) : Prop := ∀ x y, Pch l a b x y → ∀ t u, getI l x = some t → getI l y = some u → formB t u = true

abbrev K2 : Ty := .arr 2 (.int .i64)
abbrev Marked2 (m : List (List Int × Bool)) (x y : Int) : Prop := MarkK K2 m [x, y]
theorem marked2_put (m : List (List Int × Bool)) (a b x y : Int) : Marked2 (@putK K2 .bool [a, b] true m) x y ↔ (x = a ∧ y = b) ∨ Marked2 m x y := by
  have := markK_put (kt := K2) m [a, b] [x, y]
  simpa using this
def prs (n : Nat) : List (List Int) := (ixs n).flatMap fun x => (ixs n).map fun y => [x, y]
theorem mem_prs {n : Nat} {x y : Int} (h0 : 0 ≤ x) (h1 : x < n) (h2 : 0 ≤ y) (h3 : y < n) : [x, y] ∈ prs n := by
  unfold prs
  rw [List.mem_flatMap]
  exact ⟨x, mem_ixs.2 ⟨h0, h1⟩, List.mem_map.2 ⟨y, mem_ixs.2 ⟨h2, h3⟩, rfl⟩⟩
def unP (n : Nat) (m : List (List Int × Bool)) : Nat := un K2 (prs n) m
theorem unP_le {n : Nat} {m m' : List (List Int × Bool)} (h : ∀ x, MarkK K2 m x → MarkK K2 m' x) : unP n m' ≤ unP n m := un_le (kt := K2) h
theorem unP_lt {n : Nat} {m : List (List Int × Bool)} {x y : Int} (h0 : 0 ≤ x) (h1 : x < n) (h2 : 0 ≤ y) (h3 : y < n) (h : ¬ Marked2 m x y) : unP n (@putK K2 .bool [x, y] true m) < unP n m := un_lt (kt := K2) (mem_prs h0 h1 h2 h3) h
theorem unP_all (n : Nat) (hn : n ≤ 40) (m : List (List Int × Bool)) : unP n m ≤ 1600 := by
  have h1 := un_all (kt := K2) (prs n) m
  have h2 : (prs n).length = n * n := by
    unfold prs
    rw [List.length_flatMap]
    have : ∀ l : List Int, (l.map fun x => ((ixs n).map fun y => [x, y]).length).sum = l.length * n := by
      intro l
      induction l with
      | nil => simp
      | cons a l ih => rw [List.map_cons, List.sum_cons, ih]; simp [ixs, Nat.add_mul, Nat.add_comm]
    rw [this]
    simp [ixs]
  have h3 : n * n ≤ 40 * 40 := Nat.mul_le_mul hn hn
  unfold unP
  rw [h2] at h1
  omega

structure Seen2 (l : List Typ) (a b : Int) (m m' : List (List Int × Bool)) : Prop where
  old : ∀ x, MarkK K2 m x → MarkK K2 m' x
  self : Marked2 m' a b
  new : ∀ x y, Marked2 m' x y → Marked2 m x y ∨ Pch l a b x y
  shut : ∀ x y t u, Marked2 m' x y → ¬ Marked2 m x y → getI l x = some t → getI l y = some u → formB t u = true ∧ ∀ (j : Nat) x' y', (nextS t)[j]? = some x' → (nextS u)[j]? = some y' → Marked2 m' x' y'

theorem visit2_ok {l : List Typ} (hb : Built l) (F : Nat → Int → Int → List (List Int × Bool) → Option (List (List Int × Bool) × Bool))
    (h1 : ∀ k a b m, Marked2 m a b → F (k + 1) a b m = some (m, true))
    (h0 : ∀ k a b m t u, ¬ Marked2 m a b → getI l a = some t → getI l b = some u → formB t u = false → ∃ m', F (k + 1) a b m = some (m', false))
    (h2 : ∀ k a b m t u, ¬ Marked2 m a b → getI l a = some t → getI l b = some u → formB t u = true → ∀ (I : Nat → List (List Int × Bool) → Prop), I 0 (@putK K2 .bool [a, b] true m) →
      (∀ j (hj : j < (nextS t).length) (hj' : j < (nextS u).length) mj, I j mj → ∃ m' r, F k (nextS t)[j] (nextS u)[j] mj = some (m', r) ∧ (r = true → I (j + 1) m') ∧ (r = false → ¬ Alike l a b)) →
      ∃ m' r, F (k + 1) a b m = some (m', r) ∧ (r = true → I (nextS t).length m') ∧ (r = false → ¬ Alike l a b)) :
    ∀ (k : Nat) (a b : Int) (m : List (List Int × Bool)), 0 ≤ a → a < l.length → 0 ≤ b → b < l.length → unP l.length m < k → ∃ m' r, F k a b m = some (m', r) ∧ (r = true → Seen2 l a b m m') ∧ (r = false → ¬ Alike l a b)
  | 0, _, _, _, _, _, _, _, h => by omega
  | k + 1, a, b, m, ha0, ha1, hb0, hb1, hk => by
    by_cases hm : Marked2 m a b
    · exact ⟨m, true, h1 k a b m hm, fun _ => ⟨fun _ h => h, hm, fun _ _ h => .inl h, fun x y t u h h' => absurd h h'⟩, fun h => by cases h⟩
    · obtain ⟨t, ht⟩ := getI_in ha0 ha1
      obtain ⟨u, hu⟩ := getI_in hb0 hb1
      cases hf : formB t u with
      | false =>
        obtain ⟨m', e⟩ := h0 k a b m t u hm ht hu hf
        refine ⟨m', false, e, (fun h => by cases h), fun _ hal => ?_⟩
        have := hal a b .self t u ht hu
        rw [hf] at this
        cases this
      | true =>
        have hlt := unP_lt ha0 ha1 hb0 hb1 hm
        have hlen := form_len hb ht hu hf
        obtain ⟨m', r, e, hI, hF⟩ := h2 k a b m t u hm ht hu hf (fun j mj => (∀ x, MarkK K2 (@putK K2 .bool [a, b] true m) x → MarkK K2 mj x) ∧ (∀ x y, Marked2 mj x y → Marked2 m x y ∨ Pch l a b x y) ∧
            (∀ i x' y', i < j → (nextS t)[i]? = some x' → (nextS u)[i]? = some y' → Marked2 mj x' y') ∧
            ∀ x y t' u', Marked2 mj x y → ¬ Marked2 m x y → ¬ (x = a ∧ y = b) → getI l x = some t' → getI l y = some u' → formB t' u' = true ∧ ∀ (i : Nat) x' y', (nextS t')[i]? = some x' → (nextS u')[i]? = some y' → Marked2 mj x' y')
          ⟨fun _ h => h, fun x y h => ((marked2_put m a b x y).1 h).elim (fun e => by obtain ⟨rfl, rfl⟩ := e; exact .inr .self) .inl, fun i x' y' hi => by omega, fun x y t' u' hx hx' hne => by
            rcases (marked2_put m a b x y).1 hx with e | e
            · exact absurd e hne
            · exact absurd e hx'⟩
          (fun j hj hj' mj ⟨g1, g2, g3, g4⟩ => by
            have hxt : 0 ≤ (nextS t)[j] ∧ (nextS t)[j] < l.length := by
              obtain ⟨_, _, hx, rfl⟩ := getI_some ht
              exact next_ix hb hx _ (List.getElem_mem hj)
            have hxu : 0 ≤ (nextS u)[j] ∧ (nextS u)[j] < l.length := by
              obtain ⟨_, _, hx, rfl⟩ := getI_some hu
              exact next_ix hb hx _ (List.getElem_mem hj')
            obtain ⟨m', r, e, hs, hr⟩ := visit2_ok hb F h1 h0 h2 k (nextS t)[j] (nextS u)[j] mj hxt.1 hxt.2 hxu.1 hxu.2 (by have := unP_le (n := l.length) g1; omega)
            have hstep : Pch l a b (nextS t)[j] (nextS u)[j] := .step t u j .self ht hu (List.getElem?_eq_getElem hj) (List.getElem?_eq_getElem hj')
            refine ⟨m', r, e, fun hr1 => ?_, fun hr0 hal => hr hr0 fun x y hp => hal x y (hstep.trans hp)⟩
            have s := hs hr1
            refine ⟨fun x h => s.old x (g1 x h), fun x y h => ?_, fun i x' y' hi hx hy => ?_, fun x y t' u' hx hx' hne hgt hgu => ?_⟩
            · rcases s.new x y h with h | h
              · exact g2 x y h
              · exact .inr (hstep.trans h)
            · by_cases hij : i < j
              · exact s.old _ (g3 i x' y' hij hx hy)
              · have : i = j := by omega
                subst this
                rw [List.getElem?_eq_getElem hj] at hx
                rw [List.getElem?_eq_getElem hj'] at hy
                cases hx
                cases hy
                exact s.self
            · by_cases hmj : Marked2 mj x y
              · obtain ⟨k1, k2⟩ := g4 x y t' u' hmj hx' hne hgt hgu
                exact ⟨k1, fun i x' y' h h' => s.old _ (k2 i x' y' h h')⟩
              · exact s.shut x y t' u' hx hmj hgt hgu)
        refine ⟨m', r, e, fun hr => ?_, hF⟩
        obtain ⟨g1, g2, g3, g4⟩ := hI hr
        refine ⟨fun x h => g1 x ((markK_put (kt := K2) m [a, b] x).2 (.inr h)), g1 [a, b] ((marked2_put m a b a b).2 (.inl ⟨rfl, rfl⟩)), g2, fun x y t' u' hx hx' hgt hgu => ?_⟩
        by_cases e : x = a ∧ y = b
        · obtain ⟨rfl, rfl⟩ := e
          rw [ht] at hgt
          rw [hu] at hgu
          cases hgt
          cases hgu
          exact ⟨hf, fun i x' y' h h' => g3 i x' y' (List.getElem?_eq_some_iff.1 h).1 h h'⟩
        · exact g4 x y t' u' hx hx' e hgt hgu

theorem seen2_all {l : List Typ} {a b : Int} {m' : List (List Int × Bool)} (s : Seen2 l a b [] m') : Alike l a b := by
  have no : ∀ x y, ¬ Marked2 ([] : List (List Int × Bool)) x y := fun x y h => by simp [MarkK, atK] at h
  have all : ∀ x y, Pch l a b x y → Marked2 m' x y := by
    intro x y h
    induction h with
    | self => exact s.self
    | step t u j _ h1 h2 h3 h4 ih => exact (s.shut _ _ t u ih (no _ _) h1 h2).2 j _ _ h3 h4
  exact fun x y h t u ht hu => (s.shut x y t u (all x y h) (no _ _) ht hu).1

theorem Same_eq {l : List Typ} (hv : Valid l) {i k : Int} (h0 : 0 ≤ i) (h1 : i < l.length) (h2 : 0 ≤ k) (h3 : k < l.length) : ∃ b, ckinds_Same (l, i, k) = some (b, 0) ∧ (b = true ↔ Alike l i k) := by
  have hlen := hv.1
  have hb := hv.2.1
  have key := visit2_ok hb (fun k a b m => rkinds_Same_1 k (a, b, (), (), (), ()) ((), m, l, (), ()))
    (fun k a b m hm => by
      show rkinds_Same_1 (k + 1) _ _ = _
      rw [rS_succ]
      unfold nkinds_Same_1
      dsimp only
      rw [show (@atK K2 .bool [a, b] false m).1 = true from hm, cond_true, eqD_self, cond_true])
    (fun k a b m t u hm ht hu hf => by
      refine ⟨@putK K2 .bool [a, b] true m, ?_⟩
      show rkinds_Same_1 (k + 1) _ _ = _
      rw [rS_succ]
      unfold nkinds_Same_1
      dsimp only
      rw [show (@atK K2 .bool [a, b] false m).1 = false from Bool.eq_false_iff.2 hm, cond_false, ht, Option.bind_some, hu, Option.bind_some, form_eq t u (by have := built_flen (built_at hb ht); omega), Option.bind_some, hf, Bool.not_false, cond_true, eqD_self, cond_true])
    (fun k a b m t u hm ht hu hf I hI hstep => by
      have hbt := built_at hb ht
      have hbu := built_at hb hu
      have hpl := next_len hbt
      have hln := form_len hb ht hu hf
      show ∃ m' r, rkinds_Same_1 (k + 1) _ _ = _ ∧ _
      rw [rS_succ]
      unfold nkinds_Same_1
      dsimp only
      rw [show (@atK K2 .bool [a, b] false m).1 = false from Bool.eq_false_iff.2 hm, cond_false, ht, Option.bind_some, hu, Option.bind_some, form_eq t u (by have := built_flen hbt; omega), Option.bind_some, hf, Bool.not_true, cond_false, Option.bind_some, next_eq u (by have := built_flen hbu; omega), Option.bind_some, Option.bind_some, next_eq t (by have := built_flen hbt; omega), Option.bind_some]
      refine range_post (g := gkinds_Same_1_0 (rkinds_Same_1 k) ((), m, l, (), ()) big) (n := (nextS t).length) (fun (m : List (List Int × Bool)) (j : Nat) => (((nextS t).length : Int), (j : Int), m, l, nextS u, nextS t)) I (fun q => ∃ m' r, q = some (m', r) ∧ (r = true → I (nextS t).length m') ∧ (r = false → ¬ Alike l a b)) ?_ ?_
        (nextS t).length 0 big (by simp) (by unfold big; omega) _ hI
      · intro self s hs
        refine ⟨s, true, ?_, fun _ => hs, fun h => by cases h⟩
        show hkinds_Same_1_0 _ _ self _ = _
        unfold hkinds_Same_1_0
        dsimp only
        rw [decide_eq_false (by omega), cond_false, eqD_self, cond_true]
      · intro self s j hj hs
        have hj' : j < (nextS u).length := by omega
        obtain ⟨m', r, g1, g2, g3⟩ := hstep j hj hj' s hs
        have hst : gkinds_Same_1_0 (rkinds_Same_1 k) ((), m, l, (), ()) big self (((nextS t).length : Int), (j : Int), s, l, nextS u, nextS t) = bif !r then some (m', false) else self (((nextS t).length : Int), ((j + 1 : Nat) : Int), m', l, nextS u, nextS t) := by
          show hkinds_Same_1_0 _ _ self _ = _
          unfold hkinds_Same_1_0
          dsimp only
          rw [decide_eq_true (by omega), cond_true, decide_eq_true (by omega), Bool.true_and, cond_true, show nth (nextS t) (Int.toNat (j : Int)) = some (nextS t)[j] from List.getElem?_eq_getElem hj, Option.bind_some, decide_eq_true (by omega), Bool.true_and, cond_true, show nth (nextS u) (Int.toNat (j : Int)) = some (nextS u)[j] from List.getElem?_eq_getElem hj', Option.bind_some, g1, Option.bind_some, wrap_succ hj (by have := maxLen_ge; omega), eqD_self, cond_true]
        cases r with
        | true => left; exact ⟨m', g2 rfl, hst⟩
        | false => right; exact ⟨m', false, hst, (fun h => by cases h), fun _ => g3 rfl⟩)
    big i k [] h0 h1 h2 h3 (by have := unP_all l.length (by omega) []; unfold big; omega)
  obtain ⟨m, r, e, g1, g2⟩ := key
  refine ⟨r, ?_, ?_⟩
  · show nkinds_Same _ = _
    unfold nkinds_Same
    dsimp only
    rw [checked_eq _ _ (by simp), if_pos hv, if_pos (by simp; omega), Option.bind_some, show ((0 : Int) != 0) = false from rfl, cond_false]
    rw [show ckinds_Same_1 (i, k, (), (), (), ()) ((), [], l, (), ()) = some (m, r) from e, Option.bind_some]
  · cases r with
    | true => simpa using seen2_all (g1 rfl)
    | false => simpa using g2 rfl

theorem rLetter_eq (c : Int) : cref04_Letter c = some (letB c) := by
  show nref04_Letter c = _
  unfold nref04_Letter letB
  simp only [ge_iff_le]
  cases decide (97 ≤ c) <;> cases decide (c ≤ 122) <;> cases decide (65 ≤ c) <;> cases decide (c ≤ 90) <;> rfl

theorem rNamed_eq (s : List Int) : cref04_Named s = some (namedB s) := by
  show nref04_Named (iterV (gref04_Named_0 big) big) s = _
  unfold nref04_Named
  cases s with
  | nil => rfl
  | cons c r =>
    rw [decide_eq_false (by simp; omega), cond_false]
    by_cases h : (c :: r).length ≤ 16
    · rw [decide_eq_false (by omega), cond_false]
      have h0 : getI (c :: r) (0 : Int) = some c := rfl
      rw [h0, Option.bind_some, rLetter_eq, Option.bind_some]
      simp only [namedB]
      rw [decide_eq_true h, Bool.true_and]
      cases hc : letB c with
      | false => rfl
      | true =>
        rw [Bool.not_true, cond_false, Bool.true_and]
        have := range_run (g := gref04_Named_0 big) (xs := c :: r) (fun (_ : Unit) (i : Nat) => (c :: r, (i : Int))) (fun x s k => bif (letB x || digB x) then k s else some false) (fun _ => some true)
          (fun self s => by
            show href04_Named_0 self _ = _
            unfold href04_Named_0
            dsimp only
            rw [decide_eq_false (by omega), cond_false])
          (fun self s i hi => by
            show href04_Named_0 self _ = _
            unfold href04_Named_0
            dsimp only
            rw [decide_eq_true (by omega), cond_true, getI_at hi, Option.bind_some, rLetter_eq, Option.bind_some, Option.bind_some, Option.bind_some]
            rw [wrap_succ hi (by have := maxLen_ge; omega)]
            unfold digB
            by_cases h1 : (c :: r)[i] < 48
            · rw [decide_eq_true h1, decide_eq_false (by omega : ¬ 48 ≤ (c :: r)[i])]
              cases letB (c :: r)[i] <;> rfl
            · rw [decide_eq_false h1, decide_eq_true (by omega : 48 ≤ (c :: r)[i])]
              by_cases h2 : (c :: r)[i] > 57
              · rw [decide_eq_true h2, decide_eq_false (by omega : ¬ (c :: r)[i] ≤ 57)]
                cases letB (c :: r)[i] <;> rfl
              · rw [decide_eq_false h2, decide_eq_true (by omega : (c :: r)[i] ≤ 57)]
                cases letB (c :: r)[i] <;> rfl)
          (c :: r).length 0 big (by simp) (by unfold big; omega) ()
        rw [List.drop_zero, foldC_all] at this
        exact this
    · rw [decide_eq_true (by omega), cond_true]
      simp only [namedB]
      rw [decide_eq_false h]; rfl

/-! ### fields -/
theorem nodup_take {l : List (List Int)} {i : Nat} (hi : i < l.length) : (l.take (i + 1)).Nodup ↔ (l.take i).Nodup ∧ ∀ k (hk : k < i), l[k] ≠ l[i] := by
  rw [List.take_succ_eq_append_getElem hi, List.nodup_append]
  simp only [List.nodup_cons, List.not_mem_nil, not_false_eq_true, List.nodup_nil, and_self, List.mem_singleton, forall_eq, true_and]
  constructor
  · rintro ⟨h1, h2⟩
    refine ⟨h1, fun k hk e => h2 l[k] ?_ e⟩
    exact List.mem_take_iff_getElem.2 ⟨k, by omega, rfl⟩
  · rintro ⟨h1, h2⟩
    refine ⟨h1, fun a ha e => ?_⟩
    obtain ⟨k, hk, rfl⟩ := List.mem_take_iff_getElem.1 ha
    exact h2 k (by omega) e

theorem rFields_eq (fs : List Fld) : cref04_Fields (fs, 8) = some (decide (fs.length ≤ 8) && (fs.all (fun f => namedB f.1) && decide ((fs.map (·.1)).Nodup))) := by
  show nref04_Fields (iterV (gref04_Fields_0 big) big) (fs, 8) = _
  unfold nref04_Fields
  dsimp only
  by_cases h : fs.length ≤ 8
  · rw [decide_eq_false (by omega), cond_false, decide_eq_true h, Bool.true_and]
    refine range_post (g := gref04_Fields_0 big) (n := fs.length) (fun (_ : Unit) (i : Nat) => (fs, (i : Int))) (fun i _ => (∀ f ∈ fs.take i, namedB f.1 = true) ∧ ((fs.map (·.1)).take i).Nodup) (fun r => r = some (fs.all (fun f => namedB f.1) && decide ((fs.map (·.1)).Nodup))) ?_ ?_
      fs.length 0 big (by simp) (by unfold big; omega) () (by simp)
    · rintro self s ⟨h1, h2⟩
      rw [List.take_length] at h1
      rw [List.take_of_length_le (by simp)] at h2
      show href04_Fields_0 _ self _ = _
      unfold href04_Fields_0
      dsimp only
      rw [decide_eq_false (by omega), cond_false, decide_eq_true h2, Bool.and_true, List.all_eq_true.2 h1]
    · rintro self s i hi ⟨h1, h2⟩
      cases hn : namedB fs[i].1 with
      | false =>
        right
        show href04_Fields_0 _ self _ = _
        unfold href04_Fields_0
        dsimp only
        rw [decide_eq_true (by omega), cond_true, getI_at hi, Option.bind_some, rNamed_eq, Option.bind_some, hn, Bool.not_false, cond_true]
        have : fs.all (fun f => namedB f.1) = false := by
          rw [Bool.eq_false_iff]
          intro hall
          have := List.all_eq_true.1 hall _ (List.getElem_mem hi)
          rw [hn] at this
          cases this
        rw [this]; rfl
      | true =>
        have inner : ∃ b : Bool, iterV (gref04_Fields_1 big self) big (fs, (i : Int), 0) = (bif b then self (fs, ((i + 1 : Nat) : Int)) else some false) ∧ (b = true ↔ ∀ k (hk : k < i), (fs.map (·.1))[k]'(by simp; omega) ≠ (fs.map (·.1))[i]'(by simpa using hi)) := by
          refine range_post (g := gref04_Fields_1 big self) (n := i) (fun (_ : Unit) (k : Nat) => (fs, (i : Int), (k : Int))) (fun j _ => ∀ k (hk : k < j) (hki : k < fs.length), (fs[k]).1 ≠ (fs[i]).1) (fun r => ∃ b : Bool, r = (bif b then self (fs, ((i + 1 : Nat) : Int)) else some false) ∧ (b = true ↔ ∀ k (hk : k < i), (fs.map (·.1))[k]'(by simp; omega) ≠ (fs.map (·.1))[i]'(by simpa using hi))) ?_ ?_
            i 0 big (by simp) (by unfold big; omega) () (by intro k hk; omega)
          · intro self1 s hs
            refine ⟨true, ?_, by simp only [true_iff, List.getElem_map]; exact fun k hk => hs k hk (by omega)⟩
            show href04_Fields_1 self self1 _ = _
            unfold href04_Fields_1
            dsimp only
            rw [decide_eq_false (by omega), cond_false, wrap_succ hi (by have := maxLen_ge; omega)]
            rfl
          · intro self1 s j hj hs
            have hj' : j < fs.length := by omega
            have hst : gref04_Fields_1 big self self1 (fs, (i : Int), (j : Int)) = bif eqD .str (fs[j]).1 (fs[i]).1 then some false else self1 (fs, (i : Int), ((j + 1 : Nat) : Int)) := by
              show href04_Fields_1 self self1 _ = _
              unfold href04_Fields_1
              dsimp only
              rw [decide_eq_true (by omega), cond_true, getI_at hj', Option.bind_some, getI_at hi, Option.bind_some, wrap_succ hj (by have := maxLen_ge; omega)]
            by_cases e : (fs[j]).1 = (fs[i]).1
            · right
              refine ⟨false, by rw [hst, e, eqD_self]; rfl, ?_⟩
              simp only [Bool.false_eq_true, false_iff, List.getElem_map]
              exact fun hh => hh j hj e
            · left
              refine ⟨(), fun k hk hki => ?_, by rw [hst, eqD_false e]; rfl⟩
              by_cases hkj : k = j
              · subst hkj; exact e
              · exact hs k (by omega) hki
        obtain ⟨b, hb1, hb2⟩ := inner
        have hst : gref04_Fields_0 big self (fs, (i : Int)) = (bif b then self (fs, ((i + 1 : Nat) : Int)) else some false) := by
          show href04_Fields_0 _ self _ = _
          unfold href04_Fields_0
          dsimp only
          rw [decide_eq_true (by omega), cond_true, getI_at hi, Option.bind_some, rNamed_eq, Option.bind_some, hn, Bool.not_true, cond_false]
          exact hb1
        cases b with
        | true =>
          left
          refine ⟨(), ⟨?_, (nodup_take (by simpa using hi)).2 ⟨h2, hb2.1 rfl⟩⟩, hst⟩
          rw [List.take_succ_eq_append_getElem hi]
          intro f hf
          rcases List.mem_append.1 hf with hf | hf
          · exact h1 f hf
          · rw [List.mem_singleton.1 hf]; exact hn
        | false =>
          right
          rw [hst, cond_false]
          congr 1
          symm
          have : ¬ (fs.map (·.1)).Nodup := by
            intro hnd
            have hnd2 : ((fs.map (·.1)).take (i + 1)).Nodup := (List.take_sublist _ _).nodup hnd
            have := hb2.2 ((nodup_take (by simpa using hi)).1 hnd2).2
            cases this
          rw [decide_eq_false this, Bool.and_false]
  · rw [decide_eq_true (by omega), cond_true, decide_eq_false h]; rfl

/-! ### types -/
theorem rfine_str (t : Typ) (i : Int) (hl : t.2.2.2.1.length ≤ 1000) : iterV (gref04_fine_0 big) big (i, 0, t) = some (decide (t.2.1 = 0) && (decide (t.2.2.1 = 0) && areB t.2.2.2.1 i)) := by
  have spec : ∀ b : Bool, (b = true ↔ (∀ f ∈ t.2.2.2.1, idxB f.2.1 i = true)) → (decide (t.2.1 = 0) && (decide (t.2.2.1 = 0) && areB t.2.2.2.1 i)) = (b && (decide (t.2.1 = 0) && (decide (t.2.2.1 = 0) && (decide (0 < t.2.2.2.1.length) && (decide (t.2.2.2.1.length ≤ 8) && (t.2.2.2.1.all (fun f => namedB f.1) && decide ((t.2.2.2.1.map (·.1)).Nodup))))))) := by
    intro b hb
    rw [Bool.eq_iff_iff]
    simp only [areB, Bool.and_eq_true, decide_eq_true_eq, List.all_eq_true, hb]
    constructor
    · rintro ⟨h1, h2, h3, h4, h5, h6⟩
      exact ⟨h6, h1, h2, by omega, h3.2, h4, h5⟩
    · rintro ⟨h6, h1, h2, h3, h3', h4, h5⟩
      exact ⟨h1, h2, ⟨by omega, h3'⟩, h4, h5, h6⟩
  refine range_post (g := gref04_fine_0 big) (n := t.2.2.2.1.length) (fun (_ : Unit) (k : Nat) => (i, (k : Int), t)) (fun k _ => ∀ f ∈ t.2.2.2.1.take k, idxB f.2.1 i = true) (fun r => r = some (decide (t.2.1 = 0) && (decide (t.2.2.1 = 0) && areB t.2.2.2.1 i))) ?_ ?_
    t.2.2.2.1.length 0 big (by simp) (by unfold big; omega) () (by simp)
  · intro self s h
    rw [List.take_length] at h
    rw [spec true (by simpa using h)]
    show href04_fine_0 self _ = _
    unfold href04_fine_0
    dsimp only
    rw [decide_eq_false (by omega), cond_false, rFields_eq, Option.bind_some, Bool.true_and]
    simp only [beq_dec, gt_iff_lt]
    have e : decide ((0 : Int) < (t.2.2.2.1.length : Int)) = decide (0 < t.2.2.2.1.length) := by
      by_cases h : 0 < t.2.2.2.1.length
      · rw [decide_eq_true h, decide_eq_true (by omega)]
      · rw [decide_eq_false h, decide_eq_false (by omega)]
    rw [e]
    cases decide (t.2.1 = 0) <;> cases decide (t.2.2.1 = 0) <;> cases decide (0 < t.2.2.2.1.length) <;> rfl
  · intro self s k hk h
    have hst : gref04_fine_0 big self (i, (k : Int), t) = bif idxB (t.2.2.2.1[k]).2.1 i then self (i, ((k + 1 : Nat) : Int), t) else some false := by
      show href04_fine_0 self _ = _
      unfold href04_fine_0 idxB
      dsimp only
      rw [decide_eq_true (by omega), cond_true, getI_at hk, Option.bind_some, Option.bind_some, wrap_succ hk (by have := maxLen_ge; omega)]
      by_cases h1 : (t.2.2.2.1[k]).2.1 < 0
      · rw [decide_eq_true h1, decide_eq_false (by omega : ¬ 0 ≤ (t.2.2.2.1[k]).2.1)]; rfl
      · rw [decide_eq_false h1, decide_eq_true (by omega : 0 ≤ (t.2.2.2.1[k]).2.1)]
        by_cases h2 : (t.2.2.2.1[k]).2.1 ≥ i
        · rw [decide_eq_true h2, decide_eq_false (by omega : ¬ (t.2.2.2.1[k]).2.1 < i)]; rfl
        · rw [decide_eq_false h2, decide_eq_true (by omega : (t.2.2.2.1[k]).2.1 < i)]; rfl
    cases hx : idxB (t.2.2.2.1[k]).2.1 i with
    | true =>
      left
      refine ⟨(), ?_, by rw [hst, hx]; rfl⟩
      rw [List.take_succ_eq_append_getElem hk]
      intro f hf
      rcases List.mem_append.1 hf with hf | hf
      · exact h f hf
      · rw [List.mem_singleton.1 hf]; exact hx
    | false =>
      right
      rw [hst, hx, cond_false, spec false (by
        simp only [Bool.false_eq_true, false_iff]
        intro hall
        have := hall _ (List.getElem_mem hk)
        rw [hx] at this
        cases this)]
      rfl

theorem rfine_eq {l : List Typ} {i : Nat} (hi : i < l.length) (hl : (l[i]).2.2.2.1.length ≤ 1000) : cref04_fine (l, (i : Int)) = some (builtB l[i] i l.length) := by
  show nref04_fine (iterV (gref04_fine_0 big) big) (l, (i : Int)) = _
  unfold nref04_fine
  dsimp only
  rw [getI_at hi, Option.bind_some]
  generalize l[i] = t at *
  simp only [rfine_str t i hl]
  unfold builtB
  simp only [len0]
  obtain ⟨k, e, n, fs, u⟩ := t
  dsimp only
  simp only [beq_dec, ge_iff_le, idxB]
  generalize areB fs i = A
  generalize decide (fs.length = 0) = D
  generalize decide (e = 0) = E
  generalize decide (n = 0) = F
  have hG : decide (1 ≤ n ∧ n ≤ 16) = (decide (1 ≤ n) && decide (n ≤ 16)) := by by_cases h : 1 ≤ n <;> by_cases h' : n ≤ 16 <;> simp [h, h']
  rw [hG]
  generalize decide (1 ≤ n) = G
  generalize decide (n ≤ 16) = H
  generalize decide (0 ≤ e) = I
  generalize decide (e < (l.length : Int)) = J
  generalize decide (e < (i : Int)) = K
  by_cases h1 : k = 1
  · subst h1; simp; cases E <;> cases F <;> cases D <;> rfl
  by_cases h2 : k = 2
  · subst h2; simp; cases E <;> cases F <;> cases D <;> rfl
  by_cases h3 : k = 3
  · subst h3; simp; cases E <;> cases F <;> cases D <;> rfl
  by_cases h4 : k = 4
  · subst h4; simp; cases I <;> cases J <;> cases F <;> cases D <;> rfl
  by_cases h5 : k = 5
  · subst h5; simp
  by_cases h6 : k = 6
  · subst h6; simp; cases I <;> cases K <;> cases G <;> cases H <;> cases D <;> rfl
  by_cases h7 : k = 7
  · subst h7; simp; cases I <;> cases J <;> cases F <;> cases D <;> rfl
  simp [h1, h2, h3, h4, h5, h6, h7]

theorem ble_one {n : Nat} (h : n ≤ 10000) : (Nat.ble 1 1 && Nat.ble (n + 1) lim) = true := by
  rw [Bool.and_eq_true]
  exact ⟨rfl, Nat.ble_eq_true_of_le (by have := lim_ge; omega)⟩

theorem rParts_eq (t : Typ) (hf : t.2.2.2.1.length ≤ 1000) : cref04_Parts t = some ((if t.1 = 6 then [t.2.1] else []) ++ t.2.2.2.1.map (·.2.1)) := by
  have run : ∀ a : List Int, a.length ≤ 1 → iterV (gref04_Parts_0 big) big (0, t, a) = some (a ++ t.2.2.2.1.map (·.2.1)) := by
    intro a ha
    refine range_post (g := gref04_Parts_0 big) (n := t.2.2.2.1.length) (fun (r : List Int) (k : Nat) => ((k : Int), t, r)) (fun k r => r = a ++ (t.2.2.2.1.map (·.2.1)).take k) (fun r => r = some (a ++ t.2.2.2.1.map (·.2.1))) ?_ ?_
      t.2.2.2.1.length 0 big (by simp) (by unfold big; omega) _ (by simp)
    · rintro self s rfl
      rw [List.take_of_length_le (by simp)]
      show href04_Parts_0 self _ = _
      unfold href04_Parts_0
      dsimp only
      rw [decide_eq_false (by omega), cond_false]
    · rintro self s k hk rfl
      left
      refine ⟨_, rfl, ?_⟩
      have hlen : (a ++ (t.2.2.2.1.map (·.2.1)).take k).length ≤ 1001 := by simp; omega
      show href04_Parts_0 self _ = _
      unfold href04_Parts_0
      dsimp only
      rw [decide_eq_true (by omega), cond_true, getI_at hk, Option.bind_some]
      rw [show [(t.2.2.2.1[k]).2.1].length = 1 from rfl, ble_one (by omega), cond_true, wrap_succ hk (by have := maxLen_ge; omega), List.take_succ_eq_append_getElem (by simpa using hk)]
      simp
  show nref04_Parts (iterV (gref04_Parts_0 big) big) t = _
  unfold nref04_Parts
  by_cases h6 : t.1 = 6
  · rw [h6, show ((6 : Int) == 6) = true from rfl, cond_true]
    rw [show (List.length ([] : List Int) + [t.2.1].length) = 0 + 1 from rfl, ble_one (by omega), cond_true]
    exact run [t.2.1] (by simp)
  · rw [show (t.1 == 6) = false from decide_eq_false h6, cond_false, if_neg h6]
    exact run [] (by simp)

theorem parts_same {t : Typ} {i n : Int} (h : builtB t i n = true) : (if t.1 = 6 then [t.2.1] else []) ++ t.2.2.2.1.map (·.2.1) = partsS t := by
  unfold partsS
  by_cases h6 : t.1 = 6
  · rw [if_pos h6, if_pos h6, built_none h (by omega)]; rfl
  rw [if_neg h6, if_neg h6]
  by_cases h5 : t.1 = 5
  · rw [if_pos h5]; rfl
  · rw [if_neg h5, built_none h h5]; rfl

theorem rParts_ok {t : Typ} {i n : Int} (h : builtB t i n = true) : cref04_Parts t = some (partsS t) := by
  rw [rParts_eq t (by have := built_flen h; omega), parts_same h]

/-! ### widths -/
theorem cap_add {a b : Int} (hb : 0 ≤ b) : cap (cap a + b) = cap (a + b) := by
  by_cases h1 : 5001 < a <;> by_cases h2 : 5001 < a + b <;> simp [cap, h1, h2] <;> omega
theorem w0_getD (l : List Typ) (x : Nat) : (wN l 0).getD x 0 = 0 := by
  show (List.replicate l.length (0 : Int)).getD x 0 = 0
  rw [List.getD_eq_getElem?_getD]
  by_cases hx : x < l.length
  · simp [hx]
  · rw [List.getElem?_eq_none (by simpa using hx)]; rfl
theorem cap_one : cap 1 = 1 := rfl

theorem rWidths_step {l : List Typ} (hlen : l.length ≤ 40) (hb : Built l) (me : List Typ × Int → Option (List Int)) (d : Nat) (hd : d ≤ 3) (below : List Int) (hbel : 0 < d → below = wN l d) :
    iterV (gref04_Widths_0 me big) big (l, (d : Int), 0, below, []) = some (wN l (d + 1)) := by
  have hwd := wN_ok hb d
  refine range_post (g := gref04_Widths_0 me big) (n := l.length) (fun (out : List Int) (i : Nat) => (l, (d : Int), (i : Int), below, out)) (fun i out => out = wGo (wN l d) (l.take i) []) (fun r => r = some (wN l (d + 1))) ?_ ?_
    l.length 0 big (by simp) (by unfold big; omega) _ (by simp [wGo])
  · rintro self s rfl
    rw [List.take_length]
    show href04_Widths_0 _ _ self _ = _
    unfold href04_Widths_0
    dsimp only
    rw [decide_eq_false (by omega), cond_false]
    rfl
  · rintro self s i hi rfl
    left
    refine ⟨_, rfl, ?_⟩
    have hw := wGo_wide hb hwd.1 i (by omega)
    have hwl : (wGo (wN l d) (l.take i) []).length = i := by rw [wGo_len]; simp; omega
    have hbi := hb i hi
    have hpl := parts_len hbi
    have hpi := parts_ix hb hi
    rw [show wGo (wN l d) (l.take (i + 1)) [] = wGo (wN l d) (l.take i) [] ++ [cap (wOne (wN l d) (wGo (wN l d) (l.take i) []) l[i])] by rw [List.take_succ_eq_append_getElem hi, wGo_snoc]]
    show href04_Widths_0 _ _ self _ = _
    unfold href04_Widths_0
    dsimp only
    rw [decide_eq_true (by omega), cond_true, getI_at hi, Option.bind_some, rParts_ok hbi, Option.bind_some]
    have hget := getI_at hi
    generalize hacc : wGo (wN l d) (l.take i) [] = acc at *
    generalize htt : l[i] = t at *
    -- what each part adds
    have hby : ∀ p : Int, 0 ≤ acc.getD p.toNat 0 ∧ acc.getD p.toNat 0 ≤ 5001 := fun p => hw.getD p.toNat
    let by' : Int := if t.1 = 6 then t.2.2.1 else 1
    have hby1 : 1 ≤ by' ∧ by' ≤ 16 := by
      show 1 ≤ (if t.1 = 6 then t.2.2.1 else 1) ∧ (if t.1 = 6 then t.2.2.1 else 1) ≤ 16
      split
      · rename_i h6; have := built_arr hbi h6; omega
      · omega
    let S (j : Nat) : Int := (((partsS t).take j).map fun p => by' * acc.getD p.toNat 0).sum
    have hS : ∀ j (hj : j < (partsS t).length), S (j + 1) = S j + by' * acc.getD ((partsS t)[j]).toNat 0 := by
      intro j hj
      show (((partsS t).take (j + 1)).map fun p => by' * acc.getD p.toNat 0).sum = _
      rw [List.take_succ_eq_append_getElem hj, List.map_append, List.sum_append, List.map_singleton, List.sum_singleton]
    have hmul : ∀ p : Int, 0 ≤ by' * acc.getD p.toNat 0 ∧ by' * acc.getD p.toNat 0 ≤ 80016 := fun p => mul16 hby1.1 hby1.2 (hby p).1 (hby p).2
    have hlim : (Nat.ble 1 1 && Nat.ble (acc.length + 1) lim) = true := ble_one (by omega)
    have hsucc := wrap_succ hi (by have := maxLen_ge; omega : l.length ≤ maxLen)
    refine range_post (g := gref04_Widths_1 me big self) (n := (partsS t).length) (fun (w : Int) (j : Nat) => (l, (d : Int), (i : Int), w, (j : Int), below, acc, partsS t)) (fun j w => w = cap (1 + S j)) (fun r => r = self (l, (d : Int), ((i + 1 : Nat) : Int), below, acc ++ [cap (wOne (wN l d) acc t)])) ?_ ?_
      (partsS t).length 0 big (by simp) (by unfold big; omega) _ (by simp [S, cap_one])
    · rintro self1 w rfl
      have hSall : S (partsS t).length = if t.1 = 6 then t.2.2.1 * acc.getD t.2.1.toNat 0 else if t.1 = 5 then sumT acc t.2.2.2.1 else 0 := by
        show (((partsS t).take (partsS t).length).map fun p => by' * acc.getD p.toNat 0).sum = _
        rw [List.take_length]
        unfold partsS
        by_cases h6 : t.1 = 6
        · rw [if_pos h6, if_pos h6]
          simp [by', h6]
        rw [if_neg h6, if_neg h6]
        by_cases h5 : t.1 = 5
        · rw [if_pos h5, if_pos h5]
          simp [by', h6, sumT, Function.comp_def]
        · rw [if_neg h5, if_neg h5]; rfl
      rw [hSall]
      have hone : ∀ x : Int, [x].length = 1 := fun _ => rfl
      show href04_Widths_1 _ self self1 _ = _
      unfold href04_Widths_1
      dsimp only
      rw [decide_eq_false (by omega), cond_false]
      simp only [hget, Option.bind_some, hone, hlim, cond_true, hsucc]
      by_cases h4 : t.1 = 4
      · have h6 : ¬ t.1 = 6 := by omega
        have h5 : ¬ t.1 = 5 := by omega
        have h7 : ¬ t.1 = 7 := by omega
        have hp := built_ptr hbi (.inl h4)
        have hlw := hwd.1.getD t.2.1.toNat
        rw [if_neg h6, if_neg h5, show (t.1 == 4) = true from decide_eq_true h4, show (t.1 == 7) = false from decide_eq_false h7]
        unfold wOne
        rw [if_pos h4]
        by_cases hd0 : d = 0
        · rw [decide_eq_false (by omega), cond_false, cond_false]
          have : (wN l d).getD t.2.1.toNat 0 = 0 := by rw [hd0]; exact w0_getD l _
          rw [this]
          rfl
        · rw [decide_eq_true (by omega), cond_true, cond_true, hbel (by omega), decide_eq_true hp.1, decide_eq_true (by rw [hwd.2]; omega), Bool.true_and, cond_true, nth_getD hp.1 (by rw [hwd.2]; omega), Option.bind_some, show cap (1 + 0) = 1 from rfl, cond_true, cond_false, addw (by omega) (by omega)]
          rfl
      rw [show (t.1 == 4) = false from decide_eq_false h4]
      by_cases h7 : t.1 = 7
      · have h6 : ¬ t.1 = 6 := by omega
        have h5 : ¬ t.1 = 5 := by omega
        have hp := built_ptr hbi (.inr h7)
        have hlw := hwd.1.getD t.2.1.toNat
        rw [if_neg h6, if_neg h5, show (t.1 == 7) = true from decide_eq_true h7]
        unfold wOne
        rw [if_neg h4, if_pos h7]
        by_cases hd0 : d = 0
        · rw [decide_eq_false (by omega), cond_false, cond_false]
          have : (wN l d).getD t.2.1.toNat 0 = 0 := by rw [hd0]; exact w0_getD l _
          rw [this]
          rfl
        · rw [decide_eq_true (by omega), cond_true, cond_false, cond_true, cond_true, hbel (by omega), decide_eq_true hp.1, decide_eq_true (by rw [hwd.2]; omega), Bool.true_and, cond_true, nth_getD hp.1 (by rw [hwd.2]; omega), Option.bind_some, show cap (1 + 0) = 1 from rfl, wrap_i64 (n := 16 * _) (by omega) (by omega), addw (by omega) (by omega)]
          rfl
      rw [show (t.1 == 7) = false from decide_eq_false h7]
      unfold wOne
      rw [if_neg h4, if_neg h7]
      have hfin : (1 : Int) + (if t.1 = 6 then t.2.2.1 * acc.getD t.2.1.toNat 0 else if t.1 = 5 then sumT acc t.2.2.2.1 else 0) = (if t.1 = 6 then 1 + t.2.2.1 * acc.getD t.2.1.toNat 0 else if t.1 = 5 then 1 + sumT acc t.2.2.2.1 else 1) := by
        split
        · rfl
        split
        · rfl
        · rfl
      rw [hfin]
      cases decide ((d : Int) > 0) <;> rfl
    · rintro self1 w j hj rfl
      left
      refine ⟨_, rfl, ?_⟩
      have hx := hpi _ (List.getElem_mem hj)
      have hm := hmul (partsS t)[j]
      have hcw : 0 ≤ cap (1 + S j) ∧ cap (1 + S j) ≤ 5001 := by
        apply cap_wide
        have : 0 ≤ S j := by
          show 0 ≤ (((partsS t).take j).map fun p => by' * acc.getD p.toNat 0).sum
          have : ∀ q : List Int, 0 ≤ (q.map fun p => by' * acc.getD p.toNat 0).sum := by
            intro q
            induction q with
            | nil => simp
            | cons a q ih => rw [List.map_cons, List.sum_cons]; have := hmul a; omega
          exact this _
        omega
      rw [hS j hj, ← Int.add_assoc, ← cap_add hm.1]
      show href04_Widths_1 _ self self1 _ = _
      unfold href04_Widths_1
      dsimp only
      rw [decide_eq_true (by omega), cond_true, hget, Option.bind_some]
      have e1 : nth (partsS t) (Int.toNat (j : Int)) = some (partsS t)[j] := List.getElem?_eq_getElem hj
      have d1 : decide (0 ≤ (j : Int)) = true := decide_eq_true (by omega)
      have d2 : decide ((j : Int) < ((partsS t).length : Int)) = true := decide_eq_true (by omega)
      have d3 : decide (0 ≤ (partsS t)[j]) = true := decide_eq_true hx.1
      have d4 : decide ((partsS t)[j] < (acc.length : Int)) = true := decide_eq_true (by omega)
      simp only [e1, Option.bind_some, d1, d2, d3, d4, Bool.and_self, cond_true, nth_getD hx.1 (show (partsS t)[j] < (acc.length : Int) by omega)]
      rw [wrap_succ hj (by have := maxLen_ge; omega)]
      by_cases h6 : t.1 = 6
      · rw [show (t.1 == 6) = true from decide_eq_true h6, cond_true]
        have hby6 : by' = t.2.2.1 := if_pos h6
        rw [hby6] at hm ⊢
        rw [wrap_i64 (n := t.2.2.1 * _) (by omega) (by omega), addw (by omega) (by omega)]
        rfl
      · rw [show (t.1 == 6) = false from decide_eq_false h6, cond_false]
        have hby6 : by' = 1 := if_neg h6
        rw [hby6] at hm ⊢
        rw [wrap_i64 (n := 1 * _) (by omega) (by omega), addw (by omega) (by omega)]
        rfl

theorem rW_succ (k x) : rref04_Widths (k + 1) x = nref04_Widths (rref04_Widths k) (iterV (gref04_Widths_0 (rref04_Widths k) big) big) x := rfl

theorem rWidths_rec {l : List Typ} (hlen : l.length ≤ 40) (hb : Built l) : ∀ (d k : Nat), d ≤ 3 → d < k → rref04_Widths k (l, (d : Int)) = some (wN l (d + 1))
  | d, 0, _, h => by omega
  | 0, k + 1, _, _ => by
    rw [rW_succ]
    unfold nref04_Widths
    dsimp only
    rw [decide_eq_false (by omega), cond_false]
    exact rWidths_step hlen hb _ 0 (by omega) [] (by omega)
  | d + 1, k + 1, hd, hk => by
    rw [rW_succ]
    unfold nref04_Widths
    dsimp only
    rw [decide_eq_true (by omega), cond_true, wrap_i64 (by omega) (by omega), show ((d + 1 : Nat) : Int) - 1 = (d : Int) by omega, rWidths_rec hlen hb d k (by omega) (by omega), Option.bind_some]
    exact rWidths_step hlen hb _ (d + 1) hd _ (fun _ => rfl)

theorem rWidths_eq {l : List Typ} (hlen : l.length ≤ 40) (hb : Built l) : cref04_Widths (l, 3) = some (wN l 4) :=
  rWidths_rec hlen hb 3 big (by omega) (by unfold big; omega)

/-! ### whether a table is valid -/
theorem rCheck_eq (l : List Typ) (hf : ∀ t ∈ l, t.2.2.2.1.length ≤ 1000) : cref04_Check l = some (if Valid l then 0 else 8) := by
  show nref04_Check (iterV (gref04_Check_0 big) big) l = _
  unfold nref04_Check
  by_cases h : l.length ≤ 32
  · rw [decide_eq_false (by omega), cond_false]
    refine range_post (g := gref04_Check_0 big) (n := l.length) (fun (_ : Unit) (i : Nat) => (l, (i : Int))) (fun i _ => ∀ j (h : j < l.length), j < i → builtB l[j] j l.length = true) (fun r => r = some (if Valid l then 0 else 8)) ?_ ?_
      l.length 0 big (by simp) (by unfold big; omega) () (by intro j _ h; omega)
    · intro self s hb
      have hb' : Built l := fun i hi => hb i hi hi
      have hw := wN_ok hb' 4
      show href04_Check_0 _ self _ = _
      unfold href04_Check_0
      dsimp only
      rw [decide_eq_false (by omega), cond_false, rWidths_eq (by omega) hb', Option.bind_some]
      refine range_post (g := gref04_Check_1 big self) (n := l.length) (fun (_ : Unit) (i : Nat) => (l, (i : Int), wN l 4)) (fun i _ => (5001 : Int) ∉ (wN l 4).take i) (fun r => r = some (if Valid l then 0 else 8)) ?_ ?_
        l.length 0 big (by simp) (by unfold big; omega) () (by simp)
      · intro self1 s hm
        rw [List.take_of_length_le (by omega)] at hm
        show href04_Check_1 self self1 _ = _
        unfold href04_Check_1
        dsimp only
        rw [decide_eq_false (by omega), cond_false, if_pos ⟨h, hb', hm⟩]
      · intro self1 s i hi hm
        have hi' : i < (wN l 4).length := by omega
        have hx := hw.1 _ (List.getElem_mem hi')
        have hst : gref04_Check_1 big self self1 (l, (i : Int), wN l 4) = bif decide ((wN l 4)[i] > 5000) then some 8 else self1 (l, ((i + 1 : Nat) : Int), wN l 4) := by
          show href04_Check_1 self self1 _ = _
          unfold href04_Check_1
          dsimp only
          rw [decide_eq_true (by omega), cond_true, decide_eq_true (by omega), decide_eq_true (by omega), Bool.true_and, cond_true, show nth (wN l 4) (Int.toNat (i : Int)) = some (wN l 4)[i] from List.getElem?_eq_getElem hi', Option.bind_some, wrap_succ hi (by have := maxLen_ge; omega)]
        by_cases hg : (wN l 4)[i] > 5000
        · right
          rw [hst, decide_eq_true hg, cond_true, if_neg]
          rintro ⟨_, _, hn⟩
          exact hn (by rw [show (5001 : Int) = (wN l 4)[i] by omega]; exact List.getElem_mem hi')
        · left
          refine ⟨(), ?_, by rw [hst, decide_eq_false hg]; rfl⟩
          rw [List.take_succ_eq_append_getElem hi']
          intro hmm
          rcases List.mem_append.1 hmm with hmm | hmm
          · exact hm hmm
          · have := List.mem_singleton.1 hmm
            omega
    · intro self s i hi hb
      have hst : gref04_Check_0 big self (l, (i : Int)) = bif !(builtB l[i] i l.length) then some 8 else self (l, ((i + 1 : Nat) : Int)) := by
        show href04_Check_0 _ self _ = _
        unfold href04_Check_0
        dsimp only
        rw [decide_eq_true (by omega), cond_true, rfine_eq hi (hf _ (List.getElem_mem hi)), Option.bind_some, wrap_succ hi (by have := maxLen_ge; omega)]
      cases hbi : builtB l[i] (i : Int) (l.length : Int) with
      | false =>
        right
        rw [hst, hbi, Bool.not_false, cond_true, if_neg fun hv => by rw [hv.2.1 i hi] at hbi; cases hbi]
      | true =>
        left
        refine ⟨(), fun j hj hji => ?_, by rw [hst, hbi]; rfl⟩
        by_cases e : j = i
        · subst e; exact hbi
        · exact hb j hj (by omega)
  · rw [decide_eq_true (by omega), cond_true, if_neg fun hv => h hv.1]

theorem rAsked_eq (l : List Typ) (hf : ∀ t ∈ l, t.2.2.2.1.length ≤ 1000) (i k : Int) : cref04_Asked (l, i, k) = some (if Valid l then (if (0 ≤ i ∧ i < l.length) ∧ 0 ≤ k ∧ k < l.length then 0 else 2) else 8) := by
  show nref04_Asked _ = _
  unfold nref04_Asked
  dsimp only
  rw [rCheck_eq l hf, Option.bind_some]
  by_cases hv : Valid l
  · rw [if_pos hv, if_pos hv, show ((0 : Int) != 0) = false from rfl, cond_false]
    by_cases h1 : i < 0
    · rw [decide_eq_true h1, cond_true, if_neg (by omega)]
    rw [decide_eq_false h1, cond_false]
    by_cases h2 : i ≥ l.length
    · rw [decide_eq_true h2, cond_true, if_neg (by omega)]
    rw [decide_eq_false h2, cond_false]
    by_cases h3 : k < 0
    · rw [decide_eq_true h3, cond_true, if_neg (by omega)]
    rw [decide_eq_false h3, cond_false]
    by_cases h4 : k ≥ l.length
    · rw [decide_eq_true h4, cond_true, if_neg (by omega)]
    rw [decide_eq_false h4, cond_false, if_pos (by omega)]
  · rw [if_neg hv, if_neg hv]; rfl

theorem rGreat_eq (l : List Typ) : ∃ b, cref04_Great l = some b ∧ (b = false → l.length ≤ 40 ∧ ∀ t ∈ l, t.2.2.2.1.length ≤ 20) := by
  show ∃ b, nref04_Great (iterV (gref04_Great_0 big) big) l = some b ∧ _
  unfold nref04_Great
  by_cases h : l.length ≤ 40
  · rw [decide_eq_false (by omega), cond_false]
    refine range_post (g := gref04_Great_0 big) (n := l.length) (fun (_ : Unit) (i : Nat) => (l, (i : Int))) (fun i _ => ∀ t ∈ l.take i, t.2.2.2.1.length ≤ 20) (fun r => ∃ b, r = some b ∧ (b = false → l.length ≤ 40 ∧ ∀ t ∈ l, t.2.2.2.1.length ≤ 20)) ?_ ?_
      l.length 0 big (by simp) (by unfold big; omega) () (by simp)
    · intro self s hb
      rw [List.take_length] at hb
      refine ⟨false, ?_, fun _ => ⟨h, hb⟩⟩
      show href04_Great_0 _ self _ = _
      unfold href04_Great_0
      dsimp only
      rw [decide_eq_false (by omega), cond_false]
    · intro self s i hi hb
      by_cases hg : (l[i]).2.2.2.1.length ≤ 20
      · have inner : iterV (gref04_Great_1 big self) big (l, (i : Int), 0) = self (l, ((i + 1 : Nat) : Int)) ∨ iterV (gref04_Great_1 big self) big (l, (i : Int), 0) = some true := by
          refine range_post (g := gref04_Great_1 big self) (n := (l[i]).2.2.2.1.length) (fun (_ : Unit) (k : Nat) => (l, (i : Int), (k : Int))) (fun _ _ => True) (fun r => r = self (l, ((i + 1 : Nat) : Int)) ∨ r = some true) ?_ ?_
            (l[i]).2.2.2.1.length 0 big (by simp) (by unfold big; omega) () trivial
          · intro self1 s _
            left
            show href04_Great_1 self self1 _ = _
            unfold href04_Great_1
            dsimp only
            rw [getI_at hi, Option.bind_some, decide_eq_false (by omega), cond_false, wrap_succ hi (by have := maxLen_ge; omega)]
          · intro self1 s k hk _
            have hst : gref04_Great_1 big self self1 (l, (i : Int), (k : Int)) = bif decide ((((l[i]).2.2.2.1[k]).1.length : Int) > 100) then some true else self1 (l, (i : Int), ((k + 1 : Nat) : Int)) := by
              show href04_Great_1 self self1 _ = _
              unfold href04_Great_1
              dsimp only
              rw [getI_at hi, Option.bind_some, decide_eq_true (by omega), cond_true, Option.bind_some, getI_at hk, Option.bind_some, wrap_succ hk (by have := maxLen_ge; omega)]
            rw [hst]
            cases decide ((((l[i]).2.2.2.1[k]).1.length : Int) > 100) with
            | true => right; right; rfl
            | false => left; exact ⟨(), trivial, rfl⟩
        have hst : gref04_Great_0 big self (l, (i : Int)) = iterV (gref04_Great_1 big self) big (l, (i : Int), 0) := by
          show href04_Great_0 _ self _ = _
          unfold href04_Great_0
          dsimp only
          rw [decide_eq_true (by omega), cond_true, getI_at hi, Option.bind_some, decide_eq_false (by omega), cond_false]
        rcases inner with e | e
        · left
          refine ⟨(), ?_, hst.trans e⟩
          rw [List.take_succ_eq_append_getElem hi]
          intro t ht
          rcases List.mem_append.1 ht with ht | ht
          · exact hb t ht
          · rw [List.mem_singleton.1 ht]; exact hg
        · right
          exact ⟨true, hst.trans e, fun h => by cases h⟩
      · right
        refine ⟨true, ?_, fun h => by cases h⟩
        show href04_Great_0 _ self _ = _
        unfold href04_Great_0
        dsimp only
        rw [decide_eq_true (by omega), cond_true, getI_at hi, Option.bind_some, decide_eq_true (by omega), cond_true]
  · refine ⟨true, ?_, fun h => by cases h⟩
    rw [decide_eq_true (by omega), cond_true]

theorem rSameInts_eq (a b : List Int) (h : a.length ≤ 1000) : cref04_SameInts (a, b) = some (decide (a = b)) := by
  show nref04_SameInts (iterV (gref04_SameInts_0 big) big) _ = _
  unfold nref04_SameInts
  dsimp only
  by_cases hl : a.length = b.length
  · rw [show ((a.length : Int) != (b.length : Int)) = false by rw [hl]; simp, cond_false]
    refine range_post (g := gref04_SameInts_0 big) (n := a.length) (fun (_ : Unit) (i : Nat) => (a, b, (i : Int))) (fun i _ => a.take i = b.take i) (fun r => r = some (decide (a = b))) ?_ ?_
      a.length 0 big (by simp) (by unfold big; omega) () (by simp)
    · intro self s h
      rw [List.take_length, List.take_of_length_le (by omega)] at h
      show href04_SameInts_0 self _ = _
      unfold href04_SameInts_0
      dsimp only
      rw [decide_eq_false (by omega), cond_false, decide_eq_true h]
    · intro self s i hi h
      have hi' : i < b.length := by omega
      have hst : gref04_SameInts_0 big self (a, b, (i : Int)) = bif (a[i] != b[i]) then some false else self (a, b, ((i + 1 : Nat) : Int)) := by
        show href04_SameInts_0 self _ = _
        unfold href04_SameInts_0
        dsimp only
        rw [decide_eq_true (by omega), cond_true, getI_at hi, Option.bind_some, getI_at hi', Option.bind_some, wrap_succ hi (by have := maxLen_ge; omega)]
      by_cases e : a[i] = b[i]
      · left
        refine ⟨(), ?_, by rw [hst, show (a[i] != b[i]) = false by rw [e]; simp]; rfl⟩
        rw [List.take_succ_eq_append_getElem hi, List.take_succ_eq_append_getElem hi', h, e]
      · right
        rw [hst, show (a[i] != b[i]) = true by simpa using e, cond_true]
        congr 1
        symm
        apply decide_eq_false
        intro hh
        subst hh
        exact e rfl
  · rw [show ((a.length : Int) != (b.length : Int)) = true by simp; omega, cond_true, decide_eq_false (fun e => hl (by rw [e]))]

theorem pch_diag {l : List Typ} {a x y : Int} (h : Pch l a a x y) : x = y := by
  induction h with
  | self => rfl
  | step t u j _ h1 h2 h3 h4 ih =>
    subst ih
    rw [h1] at h2
    cases h2
    rw [h3] at h4
    exact Option.some.inj h4
theorem formB_self (t : Typ) : formB t t = true := formB_iff.2 ⟨rfl, rfl, rfl⟩
theorem formB_symm {t u : Typ} (h : formB t u = true) : formB u t = true := by
  obtain ⟨h1, h2, h3⟩ := formB_iff.1 h
  exact formB_iff.2 ⟨h1.symm, h2.symm, h3.symm⟩
theorem formB_trans {t u v : Typ} (h : formB t u = true) (h' : formB u v = true) : formB t v = true := by
  obtain ⟨h1, h2, h3⟩ := formB_iff.1 h
  obtain ⟨g1, g2, g3⟩ := formB_iff.1 h'
  exact formB_iff.2 ⟨h1.trans g1, h2.trans g2, h3.trans g3⟩
theorem alike_refl (l : List Typ) (a : Int) : Alike l a a := by
  intro x y h t u ht hu
  have := pch_diag h
  subst this
  rw [ht] at hu
  cases hu
  exact formB_self t
theorem pch_symm {l : List Typ} {a b x y : Int} (h : Pch l a b x y) : Pch l b a y x := by
  induction h with
  | self => exact .self
  | step t u j _ h1 h2 h3 h4 ih => exact .step u t j ih h2 h1 h4 h3
theorem alike_symm {l : List Typ} {a b : Int} (h : Alike l a b) : Alike l b a := fun x y hp t u ht hu => formB_symm (h y x (pch_symm hp) u t hu ht)
theorem pch_mid {l : List Typ} (hb : Built l) {a b c : Int} (hb0 : 0 ≤ b) (hb1 : b < l.length) (h : Alike l a b) {x z : Int} (hp : Pch l a c x z) : ∃ y, Pch l a b x y ∧ Pch l b c y z ∧ 0 ≤ y ∧ y < l.length := by
  induction hp with
  | self => exact ⟨b, .self, .self, hb0, hb1⟩
  | step t u j _ h1 h2 h3 h4 ih =>
    obtain ⟨y, g1, g2, g3, g4⟩ := ih
    obtain ⟨s, hs⟩ := getI_in g3 g4
    have hf := h _ _ g1 t s h1 hs
    have hl := form_len hb h1 hs hf
    have hj : j < (nextS s).length := by rw [← hl]; exact (List.getElem?_eq_some_iff.1 h3).1
    have hy := List.getElem?_eq_getElem hj
    obtain ⟨_, _, hx, rfl⟩ := getI_some hs
    have hr := next_ix hb hx _ (List.getElem_mem hj)
    exact ⟨_, .step t _ j g1 h1 hs h3 hy, .step _ u j g2 hs h2 hy h4, hr.1, hr.2⟩
theorem alike_trans {l : List Typ} (hb : Built l) {a b c : Int} (hb0 : 0 ≤ b) (hb1 : b < l.length) (h : Alike l a b) (h' : Alike l b c) : Alike l a c := by
  intro x z hp t u ht hu
  obtain ⟨y, g1, g2, g3, g4⟩ := pch_mid hb hb0 hb1 h hp
  obtain ⟨s, hs⟩ := getI_in g3 g4
  exact formB_trans (h x y g1 t s ht hs) (h' y z g2 s u hs hu)
theorem alike_next {l : List Typ} {a b : Int} (h : Alike l a b) {t u : Typ} (ht : getI l a = some t) (hu : getI l b = some u) {j : Nat} {x y : Int} (hx : (nextS t)[j]? = some x) (hy : (nextS u)[j]? = some y) : Alike l x y :=
  fun x' y' hp => h x' y' ((Pch.step t u j .self ht hu hx hy).trans hp)

/-! ### depths -/
theorem parts_alike {l : List Typ} (hb : Built l) {i k : Int} {t u : Typ} (ht : getI l i = some t) (hu : getI l k = some u) (h : Alike l i k) (f : Int → Int) (hf : ∀ p q, p ∈ partsS t → q ∈ partsS u → Alike l p q → f p = f q) :
    (partsS t).map f = (partsS u).map f := by
  obtain ⟨h1, h2, h3⟩ := formB_iff.1 (h i k .self t u ht hu)
  have hl := form_len hb ht hu (h i k .self t u ht hu)
  by_cases hk : t.1 = 4 ∨ t.1 = 7
  · have e1 : partsS t = [] := by unfold partsS; rw [if_neg (by omega), if_neg (by omega)]
    have e2 : partsS u = [] := by unfold partsS; rw [if_neg (by omega), if_neg (by omega)]
    rw [e1, e2]
  · have e1 : nextS t = partsS t := by unfold nextS; rw [if_neg hk]
    have e2 : nextS u = partsS u := by unfold nextS; rw [if_neg (by rw [← h1]; exact hk)]
    rw [e1, e2] at hl
    apply List.ext_getElem (by simpa using hl)
    intro j g1 g2
    simp only [List.getElem_map]
    have g1' : j < (partsS t).length := by simpa using g1
    have g2' : j < (partsS u).length := by simpa using g2
    refine hf _ _ (List.getElem_mem _) (List.getElem_mem _) (alike_next h ht hu (j := j) ?_ ?_)
    · rw [e1]; exact List.getElem?_eq_getElem g1'
    · rw [e2]; exact List.getElem?_eq_getElem g2'

theorem wGo_append (less : List Int) : ∀ (a b : List Typ) (acc : List Int), wGo less (a ++ b) acc = wGo less b (wGo less a acc)
  | [], _, _ => rfl
  | t :: r, b, acc => wGo_append less r b _
theorem wGo_pre (less : List Int) : ∀ (b : List Typ) (acc : List Int), ∃ s, wGo less b acc = acc ++ s
  | [], acc => ⟨[], by simp [wGo]⟩
  | t :: r, acc => by
    obtain ⟨s, h⟩ := wGo_pre less r (acc ++ [cap (wOne less acc t)])
    exact ⟨[cap (wOne less acc t)] ++ s, by rw [wGo, h, List.append_assoc]⟩
theorem sumT_parts (acc : List Int) (t : Typ) (h : t.1 = 5) : sumT acc t.2.2.2.1 = ((partsS t).map fun p => acc.getD p.toNat 0).sum := by
  unfold sumT partsS
  rw [if_neg (by omega), if_pos h, List.map_map]
  rfl
theorem wOne_congr {less a b : List Int} {t : Typ} (h : ∀ p ∈ partsS t, a.getD p.toNat 0 = b.getD p.toNat 0) : wOne less a t = wOne less b t := by
  unfold wOne
  split
  · rfl
  split
  · rfl
  split
  · rename_i h6
    rw [h t.2.1 (by unfold partsS; rw [if_pos h6]; simp)]
  split
  · rename_i h5
    rw [sumT_parts _ _ h5, sumT_parts _ _ h5]
    congr 2
    exact List.map_congr_left h
  · rfl
theorem wN_at {l : List Typ} (hb : Built l) (n : Nat) {i : Nat} (hi : i < l.length) : (wN l (n + 1)).getD i 0 = cap (wOne (wN l n) (wN l (n + 1)) l[i]) := by
  have hpre : ∃ s, wN l (n + 1) = wGo (wN l n) (l.take (i + 1)) [] ++ s := by
    have : wN l (n + 1) = wGo (wN l n) (l.drop (i + 1)) (wGo (wN l n) (l.take (i + 1)) []) := by
      show wGo (wN l n) l [] = _
      rw [← wGo_append, List.take_append_drop]
    rw [this]
    exact wGo_pre _ _ _
  obtain ⟨s, hs⟩ := hpre
  rw [List.take_succ_eq_append_getElem hi, wGo_snoc] at hs
  have hl : (wGo (wN l n) (l.take i) []).length = i := by rw [wGo_len]; simp; omega
  have h1 : (wN l (n + 1)).getD i 0 = cap (wOne (wN l n) (wGo (wN l n) (l.take i) []) l[i]) := by
    rw [hs, List.append_assoc, List.getD_eq_getElem?_getD, List.getElem?_append_right (by omega), hl, Nat.sub_self]
    rfl
  rw [h1]
  congr 1
  apply wOne_congr
  intro p hp
  have := parts_ix hb hi p hp
  rw [hs, List.append_assoc, getD_app this.1 (by omega)]

theorem part_lt {l : List Typ} (hb : Built l) {i : Int} {t : Typ} (ht : getI l i = some t) {p : Int} (hp : p ∈ partsS t) : 0 ≤ p ∧ p < i := by
  obtain ⟨h0, h1, hx, rfl⟩ := getI_some ht
  have := parts_ix hb hx p hp
  omega
theorem ble_k {k n : Nat} (hk : Nat.ble 1 k = true) (h : n ≤ 10000) : (Nat.ble 1 k && Nat.ble n lim) = true := by
  rw [Bool.and_eq_true]
  exact ⟨hk, Nat.ble_eq_true_of_le (by have := lim_ge; omega)⟩

theorem rTwin_eq (l : List Typ) (hl : l.length ≤ 1000) (hf : ∀ t ∈ l, t.2.2.2.1.length ≤ 1000) : cref04_Twin l = some l := by
  show nref04_Twin (iterV (gref04_Twin_0 big) big) l = _
  unfold nref04_Twin
  refine range_post (g := gref04_Twin_0 big) (n := l.length) (fun (r : List Typ) (i : Nat) => (l, (i : Int), r)) (fun i r => r = l.take i) (fun q => q = some l) ?_ ?_
    l.length 0 big (by simp) (by unfold big; omega) _ (by simp)
  · rintro self r rfl
    rw [List.take_length]
    show href04_Twin_0 self _ = _
    unfold href04_Twin_0
    dsimp only
    rw [decide_eq_false (by omega), cond_false]
  · rintro self r i hi rfl
    left
    refine ⟨_, rfl, ?_⟩
    have h1 := hf _ (List.getElem_mem hi)
    have hle : (l.take i).length ≤ 1000 := by simp; omega
    show href04_Twin_0 self _ = _
    unfold href04_Twin_0
    dsimp only
    rw [decide_eq_true (by omega), cond_true, getI_at hi, Option.bind_some, Option.bind_some]
    rw [ble_k rfl (by simp; omega), cond_true, ble_k rfl (by simp only [List.length_singleton]; omega), cond_true, wrap_succ hi (by have := maxLen_ge; omega), List.take_succ_eq_append_getElem hi]
    rfl

end Go.Proofs.Ytnhiaoabhjjegaa
