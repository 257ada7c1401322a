/- What the functions of package kinds compute: names, fields, types that are built. -/
import Derived.Test.YtegemaonfdfnbaaKindA
import Derived.Test.YtegemaonfdfnbaaBase
set_option linter.unusedVariables false
set_option linter.unusedSimpArgs false
set_option maxRecDepth 100000
namespace Go.Proofs.Ytegemaonfdfnbaa
open Go.Lift

abbrev Fld := List Int × (Int × Unit)
abbrev Typ := Int × (Int × (Int × (List Fld × Unit)))

/-! ### maps -/
theorem atK_putK {kt vt : Ty} (x y : kt.den) (z v : vt.den) : ∀ m : List (kt.den × vt.den), atK x z (putK y v m) = bif eqD kt x y then (v, true) else atK x z m
  | [] => rfl
  | p :: r => by
    simp only [putK]
    by_cases h : y = p.1
    · subst h
      rw [eqD_self, cond_true]
      simp only [atK]
      cases eqD kt x p.1 <;> rfl
    · rw [eqD_false h, cond_false]
      simp only [atK]
      rw [atK_putK x y z v r]
      by_cases h2 : x = p.1
      · subst h2
        rw [eqD_self, cond_true, eqD_false (fun e => h e.symm), cond_false, cond_true]
      · rw [eqD_false h2, cond_false, cond_false]

/-- a map of marks, and the keys that are marked -/
def Marks (kt : Ty) (m : List (kt.den × Bool)) (S : kt.den → Prop) : Prop := ∀ x, (@atK kt .bool x false m).1 = true ↔ S x
theorem Marks.nil {kt : Ty} : Marks kt [] (fun _ => False) := fun x => by simp [atK]
theorem Marks.put {kt : Ty} {m : List (kt.den × Bool)} {S : kt.den → Prop} (h : Marks kt m S) (y : kt.den) : Marks kt (@putK kt .bool y true m) (fun x => x = y ∨ S x) := by
  intro x
  rw [atK_putK]
  by_cases e : x = y
  · subst e; rw [eqD_self]; simp
  · rw [eqD_false e, cond_false, h x]; simp [e]

/-! ### names -/
def idxB (x n : Int) : Bool := decide (0 ≤ x) && decide (x < n)
theorem idxB_iff {x n : Int} : idxB x n = true ↔ 0 ≤ x ∧ x < n := by simp [idxB]
def letB (c : Int) : Bool := (decide (97 ≤ c) && decide (c ≤ 122)) || (decide (65 ≤ c) && decide (c ≤ 90))
def digB (c : Int) : Bool := decide (48 ≤ c) && decide (c ≤ 57)
def namedB (s : List Int) : Bool := match s with
  | [] => false
  | c :: _ => decide (s.length ≤ 16) && (letB c && s.all fun c => letB c || digB c)

theorem isIndex_eq (x n : Int) : ckinds_isIndex (x, n) = some (idxB x n) := by
  show nkinds_isIndex (x, n) = _
  unfold nkinds_isIndex idxB
  dsimp only
  by_cases h : 0 ≤ x
  · rw [decide_eq_true (show x ≥ 0 from h)]; rfl
  · rw [decide_eq_false (show ¬ x ≥ 0 from h)]; rfl

theorem isLetter_eq (c : Int) : ckinds_isLetter c = some (letB c) := by
  show nkinds_isLetter c = _
  unfold nkinds_isLetter letB
  simp only [ge_iff_le]
  cases decide (97 ≤ c) <;> cases decide (c ≤ 122) <;> cases decide (65 ≤ c) <;> cases decide (c ≤ 90) <;> rfl
theorem isDigit_eq (c : Int) : ckinds_isDigit c = some (digB c) := by
  show nkinds_isDigit c = _
  unfold nkinds_isDigit digB
  simp only [ge_iff_le]
  cases decide (48 ≤ c) <;> cases decide (c ≤ 57) <;> rfl

theorem foldC_all {β : Type} (p : β → Bool) : ∀ l : List β, foldC (fun x (s : Unit) k => bif p x then k s else some false) (fun _ => some true) l () = some (l.all p)
  | [] => rfl
  | x :: r => by
    simp only [foldC, List.all_cons]
    cases p x with
    | true => exact foldC_all p r
    | false => rfl

theorem Named_eq (s : List Int) : ckinds_Named s = some (namedB s) := by
  show nkinds_Named (iterV (gkinds_Named_0 big) big) s = _
  unfold nkinds_Named
  cases s with
  | nil => rfl
  | cons c r =>
    rw [eqD_false (by simp), cond_false]
    by_cases h : (c :: r).length ≤ 16
    · rw [decide_eq_false (by omega), cond_false]
      have h0 : getI (c :: r) (0 : Int) = some c := rfl
      rw [h0, Option.bind_some, isLetter_eq, Option.bind_some]
      simp only [namedB]
      rw [decide_eq_true h, Bool.true_and]
      cases hc : letB c with
      | false => rfl
      | true =>
        rw [Bool.not_true, cond_false, Bool.true_and]
        have := range_run (g := gkinds_Named_0 big) (xs := c :: r) (fun (_ : Unit) (i : Nat) => (c :: r, ((c :: r).length : Int), (i : Int))) (fun x s k => bif (letB x || digB x) then k s else some false) (fun _ => some true)
          (fun self s => by
            show hkinds_Named_0 self _ = _
            unfold hkinds_Named_0
            dsimp only
            rw [decide_eq_false (by omega), cond_false])
          (fun self s i hi => by
            show hkinds_Named_0 self _ = _
            unfold hkinds_Named_0
            dsimp only
            rw [decide_eq_true (by omega), cond_true, getI_at hi, Option.bind_some, isLetter_eq, Option.bind_some, Option.bind_some, isDigit_eq, Option.bind_some]
            rw [wrap_succ hi (by have := maxLen_ge; omega)]
            cases letB (c :: r)[i] <;> cases digB (c :: r)[i] <;> rfl)
          (c :: r).length 0 big (by simp) (by unfold big; omega) ()
        rw [List.drop_zero, foldC_all] at this
        exact this
    · rw [decide_eq_true (by omega), cond_true]
      simp only [namedB]
      rw [decide_eq_false h]; rfl

/-! ### fields -/
def areB (fs : List Fld) (n : Int) : Bool := decide (1 ≤ fs.length ∧ fs.length ≤ 8) && (fs.all (fun f => namedB f.1) && (decide ((fs.map (·.1)).Nodup) && fs.all fun f => idxB f.2.1 n))

theorem areBuilt_fold (n : Int) : ∀ (fs : List Fld) (m : List (List Int × Bool)) (S : List Int → Prop), Marks .str m S → ∃ b, foldC (fun (f : Fld) m k => bif namedB f.1 then (bif (@atK .str .bool f.1 false m).1 then some false else (bif idxB f.2.1 n then k (@putK .str .bool f.1 true m) else some false)) else some false) (fun _ => some true) fs m = some b ∧
    (b = true ↔ (∀ f ∈ fs, namedB f.1 = true ∧ idxB f.2.1 n = true ∧ ¬ S f.1) ∧ (fs.map (·.1)).Nodup)
  | [], m, S, _ => ⟨true, rfl, by simp⟩
  | f :: r, m, S, h => by
    simp only [foldC]
    cases h1 : namedB f.1 with
    | false => exact ⟨false, rfl, by simp [h1]⟩
    | true =>
      rw [cond_true]
      cases h2 : (@atK .str .bool f.1 false m).1 with
      | true => exact ⟨false, rfl, by simp [(h f.1).1 h2]⟩
      | false =>
        rw [cond_false]
        have h2' : ¬ S f.1 := fun hs => by rw [(h f.1).2 hs] at h2; cases h2
        cases h3 : idxB f.2.1 n with
        | false => exact ⟨false, rfl, by simp [h3]⟩
        | true =>
          rw [cond_true]
          obtain ⟨b, e, hb⟩ := areBuilt_fold n r _ _ (h.put f.1)
          refine ⟨b, e, hb.trans ?_⟩
          simp only [List.mem_cons, forall_eq_or_imp, List.map_cons, List.nodup_cons, List.mem_map, not_exists, not_and, not_or]
          constructor
          · rintro ⟨g1, g2⟩
            exact ⟨⟨⟨h1, h3, h2'⟩, fun x hx => ⟨(g1 x hx).1, (g1 x hx).2.1, (g1 x hx).2.2.2⟩⟩, fun x hx e => (g1 x hx).2.2.1 e, g2⟩
          · rintro ⟨⟨_, g1⟩, g2, g3⟩
            exact ⟨fun x hx => ⟨(g1 x hx).1, (g1 x hx).2.1, fun e => g2 x hx e, (g1 x hx).2.2⟩, g3⟩

theorem areBuilt_eq (fs : List Fld) (n : Int) : ckinds_areBuilt (fs, n) = some (areB fs n) := by
  show nkinds_areBuilt (iterV (gkinds_areBuilt_0 big) big) (fs, n) = _
  unfold nkinds_areBuilt areB
  dsimp only
  by_cases h1 : fs.length < 1
  · rw [decide_eq_true (by omega), cond_true, decide_eq_false (by omega)]; rfl
  rw [decide_eq_false (by omega), cond_false]
  by_cases h2 : fs.length > 8
  · rw [decide_eq_true (by omega), cond_true, decide_eq_false (by omega)]; rfl
  rw [decide_eq_false (by omega), cond_false]
  have := range_run (g := gkinds_areBuilt_0 big) (xs := fs) (fun (m : List (List Int × Bool)) (i : Nat) => (n, fs, (fs.length : Int), (i : Int), m)) (fun f m k => bif namedB f.1 then (bif (@atK .str .bool f.1 false m).1 then some false else (bif idxB f.2.1 n then k (@putK .str .bool f.1 true m) else some false)) else some false) (fun _ => some true)
    (fun self s => by
      show hkinds_areBuilt_0 self _ = _
      unfold hkinds_areBuilt_0
      dsimp only
      rw [decide_eq_false (by omega), cond_false])
    (fun self s i hi => by
      show hkinds_areBuilt_0 self _ = _
      unfold hkinds_areBuilt_0
      dsimp only
      rw [decide_eq_true (by omega), cond_true, getI_at hi, Option.bind_some, Named_eq, Option.bind_some, isIndex_eq, Option.bind_some]
      rw [wrap_succ hi (by have := maxLen_ge; omega)]
      cases namedB fs[i].1 <;> cases (@atK .str .bool fs[i].1 false s).1 <;> cases idxB fs[i].2.1 n <;> rfl)
    fs.length 0 big (by simp) (by unfold big; omega) []
  obtain ⟨b, e, hb⟩ := areBuilt_fold n fs [] _ Marks.nil
  rw [List.drop_zero, e] at this
  have this : iterV (gkinds_areBuilt_0 big) big (n, fs, (fs.length : Int), 0, []) = some b := this
  rw [this, decide_eq_true (by omega), Bool.true_and]
  congr 1
  rw [Bool.eq_iff_iff, hb]
  simp only [Bool.and_eq_true, decide_eq_true_eq, List.all_eq_true, not_false_eq_true, and_true]
  exact ⟨fun h => ⟨fun f hf => (h.1 f hf).1, h.2, fun f hf => (h.1 f hf).2⟩, fun h => ⟨fun f hf => ⟨h.1 f hf, h.2.2 f hf⟩, h.2.1⟩⟩

/-! ### types that are built -/
def builtB (t : Typ) (i n : Int) : Bool :=
  if t.1 = 1 ∨ t.1 = 2 ∨ t.1 = 3 then decide (t.2.1 = 0) && (decide (t.2.2.1 = 0) && decide (t.2.2.2.1.length = 0))
  else if t.1 = 4 ∨ t.1 = 7 then idxB t.2.1 n && (decide (t.2.2.1 = 0) && decide (t.2.2.2.1.length = 0))
  else if t.1 = 6 then idxB t.2.1 i && (decide (1 ≤ t.2.2.1 ∧ t.2.2.1 ≤ 16) && decide (t.2.2.2.1.length = 0))
  else if t.1 = 5 then decide (t.2.1 = 0) && (decide (t.2.2.1 = 0) && areB t.2.2.2.1 i)
  else false

theorem len0 {α : Type} (l : List α) : ((l.length : Int) == 0) = decide (l.length = 0) := by
  by_cases h : l.length = 0
  · rw [h]; rfl
  · rw [decide_eq_false h]; simp; intro e; exact h (by rw [e]; rfl)
theorem beq_dec (a b : Int) : (a == b) = decide (a = b) := rfl

theorem isBuilt_eq (t : Typ) (i n : Int) : ckinds_isBuilt (t, i, n) = some (builtB t i n) := by
  show nkinds_isBuilt (t, i, n) = _
  unfold nkinds_isBuilt builtB
  simp only [isIndex_eq, areBuilt_eq, len0, Option.bind_some]
  obtain ⟨k, e, l, fs, u⟩ := t
  dsimp only
  simp only [beq_dec, ge_iff_le]
  generalize areB fs i = A
  generalize idxB e n = B
  generalize idxB e i = C
  generalize decide (fs.length = 0) = D
  generalize decide (e = 0) = E
  generalize decide (l = 0) = F
  have hG : decide (1 ≤ l ∧ l ≤ 16) = (decide (1 ≤ l) && decide (l ≤ 16)) := by by_cases h : 1 ≤ l <;> by_cases h' : l ≤ 16 <;> simp [h, h']
  rw [hG]
  generalize decide (1 ≤ l) = G
  generalize decide (l ≤ 16) = H
  by_cases h1 : k = 1
  · subst h1; simp; cases A <;> cases B <;> cases C <;> cases D <;> cases E <;> cases F <;> cases G <;> cases H <;> rfl
  by_cases h2 : k = 2
  · subst h2; simp; cases A <;> cases B <;> cases C <;> cases D <;> cases E <;> cases F <;> cases G <;> cases H <;> rfl
  by_cases h3 : k = 3
  · subst h3; simp; cases A <;> cases B <;> cases C <;> cases D <;> cases E <;> cases F <;> cases G <;> cases H <;> rfl
  by_cases h4 : k = 4
  · subst h4; simp; cases A <;> cases B <;> cases C <;> cases D <;> cases E <;> cases F <;> cases G <;> cases H <;> rfl
  by_cases h5 : k = 5
  · subst h5; simp; cases A <;> cases B <;> cases C <;> cases D <;> cases E <;> cases F <;> cases G <;> cases H <;> rfl
  by_cases h6 : k = 6
  · subst h6; simp; cases A <;> cases B <;> cases C <;> cases D <;> cases E <;> cases F <;> cases G <;> cases H <;> rfl
  by_cases h7 : k = 7
  · subst h7; simp; cases A <;> cases B <;> cases C <;> cases D <;> cases E <;> cases F <;> cases G <;> cases H <;> rfl
  simp [h1, h2, h3, h4, h5, h6, h7]
end Go.Proofs.Ytegemaonfdfnbaa
