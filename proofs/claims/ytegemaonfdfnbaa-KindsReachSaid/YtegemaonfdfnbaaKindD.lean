/- What the functions of package kinds compute: depths, what is found from a type on. -/
import Derived.Test.YtegemaonfdfnbaaKindC
set_option linter.unusedVariables false
set_option linter.unusedSimpArgs false
set_option maxRecDepth 100000
namespace Go.Proofs.Ytegemaonfdfnbaa
open Go.Lift

/-! ### indices that lead on -/
def Ixs (n : Int) (l : List Int) : Prop := ∀ x ∈ l, 0 ≤ x ∧ x < n
theorem parts_ix {l : List Typ} (hb : Built l) {i : Nat} (hi : i < l.length) : Ixs i (partsS l[i]) := by
  intro x hx
  have h := hb i hi
  unfold partsS at hx
  split at hx
  · rename_i h6
    have := built_arr h h6
    simp at hx
    subst hx
    exact ⟨this.1, this.2.1⟩
  split at hx
  · rename_i h5
    obtain ⟨f, hf, rfl⟩ := List.mem_map.1 hx
    exact (built_str h h5).2 f hf
  · simp at hx
theorem next_ix {l : List Typ} (hb : Built l) {i : Nat} (hi : i < l.length) : Ixs l.length (nextS l[i]) := by
  intro x hx
  unfold nextS at hx
  split at hx
  · rename_i h
    simp at hx
    subst hx
    exact built_ptr (hb i hi) h
  · have := parts_ix hb hi x hx
    omega
theorem built_flen {t : Typ} {i n : Int} (h : builtB t i n = true) : t.2.2.2.1.length ≤ 8 := by
  by_cases h5 : t.1 = 5
  · exact (built_str h h5).1.2
  · rw [built_none h h5]; simp
theorem parts_len {t : Typ} {i n : Int} (h : builtB t i n = true) : (partsS t).length ≤ 8 := by
  have := built_flen h
  unfold partsS
  split
  · simp
  split
  · simpa using this
  · simp
theorem next_len {t : Typ} {i n : Int} (h : builtB t i n = true) : (nextS t).length ≤ 8 := by
  have := parts_len h
  unfold nextS
  split
  · simp
  · exact this

/-! ### depths -/
def maxT (acc : List Int) (m : Int) (ps : List Int) : Int := ps.foldl (fun m p => max m (acc.getD p.toNat 0)) m
def dGo : List Typ → List Int → List Int
  | [], acc => acc
  | t :: r, acc => dGo r (acc ++ [maxT acc 0 (partsS t) + 1])
theorem dGo_snoc : ∀ (l : List Typ) (t : Typ) (acc : List Int), dGo (l ++ [t]) acc = dGo l acc ++ [maxT (dGo l acc) 0 (partsS t) + 1]
  | [], t, acc => rfl
  | u :: r, t, acc => dGo_snoc r t _
theorem dGo_len : ∀ (l : List Typ) (acc : List Int), (dGo l acc).length = acc.length + l.length
  | [], acc => rfl
  | u :: r, acc => by rw [dGo, dGo_len]; simp; omega
def Deep (n : Int) (l : List Int) : Prop := ∀ x ∈ l, 0 ≤ x ∧ x ≤ n
theorem Deep.getD {n : Int} {l : List Int} (hn : 0 ≤ n) (h : Deep n l) (i : Nat) : 0 ≤ l.getD i 0 ∧ l.getD i 0 ≤ n := by
  by_cases hi : i < l.length
  · rw [List.getD_eq_getElem?_getD, List.getElem?_eq_getElem hi]
    exact h _ (List.getElem_mem hi)
  · rw [List.getD_eq_getElem?_getD, List.getElem?_eq_none (by omega)]
    simpa using hn
theorem maxT_bound {n : Int} {acc : List Int} (hn : 0 ≤ n) (h : Deep n acc) : ∀ (ps : List Int) (m : Int), 0 ≤ m → m ≤ n → 0 ≤ maxT acc m ps ∧ maxT acc m ps ≤ n
  | [], m, h0, h1 => ⟨h0, h1⟩
  | p :: r, m, h0, h1 => by
    have := h.getD hn p.toNat
    have h2 : 0 ≤ max m (acc.getD p.toNat 0) ∧ max m (acc.getD p.toNat 0) ≤ n := by omega
    exact maxT_bound hn h r _ h2.1 h2.2
theorem dGo_deep (l : List Typ) : ∀ i, i ≤ l.length → Deep i (dGo (l.take i) [])
  | 0, _ => by intro x hx; simp [dGo] at hx
  | i + 1, hi => by
    have ih := dGo_deep l i (by omega)
    rw [List.take_succ_eq_append_getElem (by omega), dGo_snoc]
    intro x hx
    rcases List.mem_append.1 hx with hx | hx
    · have := ih x hx; omega
    · simp at hx
      subst hx
      have := maxT_bound (by omega) ih (partsS l[i]) 0 (by omega) (by omega)
      omega

def dS (l : List Typ) : List Int := dGo l []

theorem max_if (a b : Int) : (if b > a then b else a) = max a b := by omega

theorem Depth_eq {l : List Typ} {i : Int} (hv : Valid l) (h0 : 0 ≤ i) (h1 : i < l.length) : ckinds_Depth (l, i) = some ((dS l).getD i.toNat 0, 0) := by
  have hlen := hv.1
  have hb := hv.2.1
  show nkinds_Depth _ (iterV (gkinds_Depth_0 _ big) big) (l, i) = _
  unfold nkinds_Depth
  dsimp only
  rw [checked_eq _ _ (by simp), if_pos hv, if_pos (by simp; omega), Option.bind_some, show ((0 : Int) != 0) = false from rfl, cond_false]
  rw [decide_eq_true (by omega), decide_eq_true (by omega), decide_eq_true (by omega)]
  simp only [Bool.and_true, cond_true]
  refine range_post (g := gkinds_Depth_0 (fun _ => List.replicate) big) (n := l.length) (fun (r : List Int) (k : Nat) => (i, l, (l.length : Int), (k : Int), r)) (fun k r => r = dGo (l.take k) [] ++ List.replicate (l.length - k) 0) (fun r => r = some ((dS l).getD i.toNat 0, 0)) ?_ ?_
    l.length 0 big (by simp) (by unfold big; omega) _ (by simp [dGo])
  · rintro self s rfl
    show hkinds_Depth_0 _ _ self _ = _
    unfold hkinds_Depth_0
    dsimp only
    rw [decide_eq_false (by omega), cond_false, List.take_length, Nat.sub_self]
    simp only [List.replicate_zero, List.append_nil]
    have hl : (dGo l []).length = l.length := by rw [dGo_len]; simp
    rw [decide_eq_true h0, decide_eq_true (by omega), Bool.true_and, cond_true, nth_getD h0 (by omega), Option.bind_some]
    rfl
  · rintro self s k hk rfl
    left
    refine ⟨_, rfl, ?_⟩
    have hd := dGo_deep l k (by omega)
    have hdl : (dGo (l.take k) []).length = k := by rw [dGo_len]; simp; omega
    have hbk := hb k hk
    have hpl := parts_len hbk
    have hpi := parts_ix hb hk
    have hgo : dGo (l.take (k + 1)) [] = dGo (l.take k) [] ++ [maxT (dGo (l.take k) []) 0 (partsS l[k]) + 1] := by
      rw [List.take_succ_eq_append_getElem hk, dGo_snoc]
    rw [hgo]
    show hkinds_Depth_0 _ _ self _ = _
    unfold hkinds_Depth_0
    dsimp only
    rw [decide_eq_true (by omega), cond_true, getI_at hk, Option.bind_some, parts_eq _ (by have := built_flen hbk; omega), Option.bind_some]
    generalize dGo (l.take k) [] = acc at *
    generalize partsS l[k] = ps at *
    have hrep : List.replicate (l.length - k) (0 : Int) = 0 :: List.replicate (l.length - (k + 1)) 0 := by
      rw [show l.length - k = (l.length - (k + 1)) + 1 by omega, List.replicate_succ]
    have hset : ∀ v m : Int, (acc ++ m :: List.replicate (l.length - (k + 1)) 0).set k v = acc ++ v :: List.replicate (l.length - (k + 1)) 0 := by
      intro v m
      rw [List.set_append_right _ _ (by omega), hdl, Nat.sub_self, List.set_cons_zero]
    have hlen' : ∀ m : Int, (acc ++ m :: List.replicate (l.length - (k + 1)) 0).length = l.length := by intro m; simp [hdl]; omega
    have hat : ∀ m : Int, (acc ++ m :: List.replicate (l.length - (k + 1)) 0).getD k 0 = m := by
      intro m
      rw [List.getD_eq_getElem?_getD, List.getElem?_append_right (by omega), hdl, Nat.sub_self]
      rfl
    have hsucc := wrap_succ hk (by have := maxLen_ge; omega : l.length ≤ maxLen)
    rw [hrep]
    refine range_post (g := gkinds_Depth_1 (fun _ => List.replicate) big self) (n := ps.length) (fun (m : Int) (j : Nat) => (i, (k : Int), l, (l.length : Int), (k : Int), (ps.length : Int), (j : Int), acc ++ m :: List.replicate (l.length - (k + 1)) 0, ps)) (fun j m => m = maxT acc 0 (ps.take j)) (fun r => r = self (i, l, (l.length : Int), ((k + 1 : Nat) : Int), acc ++ [maxT acc 0 ps + 1] ++ List.replicate (l.length - (k + 1)) 0)) ?_ ?_
      ps.length 0 big (by simp) (by unfold big; omega) 0 rfl
    · rintro self1 m rfl
      have hm := maxT_bound (by omega) hd ps 0 (by omega) (by omega)
      rw [List.take_length]
      show hkinds_Depth_1 _ self self1 _ = _
      unfold hkinds_Depth_1
      dsimp only
      rw [decide_eq_false (by omega), cond_false]
      simp only [Int.toNat_natCast, hset, hlen', hsucc]
      rw [decide_eq_true (by omega), decide_eq_true (by omega), Bool.true_and, cond_true]
      have := nth_getD (a := acc ++ maxT acc 0 ps :: List.replicate (l.length - (k + 1)) 0) (e := (k : Int)) (by omega) (by rw [hlen']; omega)
      rw [Int.toNat_natCast, hat] at this
      rw [this, Option.bind_some, addw (by omega) (by omega), List.append_assoc]
      rfl
    · rintro self1 m j hj rfl
      left
      refine ⟨_, rfl, ?_⟩
      have hx := hpi ps[j] (List.getElem_mem hj)
      have hm := maxT_bound (by omega) hd (ps.take j) 0 (by omega) (by omega)
      generalize hmm : maxT acc 0 (ps.take j) = m at *
      have hmx : maxT acc 0 (ps.take (j + 1)) = max m (acc.getD ps[j].toNat 0) := by
        rw [List.take_succ_eq_append_getElem hj, maxT, List.foldl_append, ← hmm]
        rfl
      rw [hmx]
      show hkinds_Depth_1 _ self self1 _ = _
      unfold hkinds_Depth_1
      dsimp only
      simp only [Int.toNat_natCast, hset, hlen']
      rw [decide_eq_true (by omega), decide_eq_true (by omega), Bool.true_and, cond_true, cond_true]
      have e1 : nth ps j = some ps[j] := List.getElem?_eq_getElem hj
      rw [e1, Option.bind_some, decide_eq_true (by omega), decide_eq_true (by omega), Bool.true_and, cond_true]
      have e2 := nth_getD (a := acc ++ m :: List.replicate (l.length - (k + 1)) 0) (e := (k : Int)) (by omega) (by rw [hlen']; omega)
      rw [Int.toNat_natCast, hat] at e2
      rw [e2, Option.bind_some, decide_eq_true (by omega), decide_eq_true (by omega), Bool.true_and, cond_true, nth_getD hx.1 (by rw [hlen']; omega), Option.bind_some, getD_app hx.1 (by omega), cond_true, wrap_succ hj (by have := maxLen_ge; omega), max_if]

/-! ### marks, and how many are left -/
def MarkK (kt : Ty) (m : List (kt.den × Bool)) (x : kt.den) : Prop := (@atK kt .bool x false m).1 = true
theorem markK_put {kt : Ty} (m : List (kt.den × Bool)) (y x : kt.den) : MarkK kt (@putK kt .bool y true m) x ↔ x = y ∨ MarkK kt m x :=
  (Marks.put (kt := kt) (S := MarkK kt m) (fun _ => Iff.rfl) y) x
def un (kt : Ty) (ks : List kt.den) (m : List (kt.den × Bool)) : Nat := (ks.filter fun k => !(@atK kt .bool k false m).1).length
theorem un_le {kt : Ty} {ks : List kt.den} {m m' : List (kt.den × Bool)} (h : ∀ x, MarkK kt m x → MarkK kt m' x) : un kt ks m' ≤ un kt ks m := by
  unfold un
  induction ks with
  | nil => simp
  | cons a l ih =>
    simp only [List.filter_cons]
    cases h1 : (@atK kt .bool a false m).1 with
    | true =>
      have h2 : (@atK kt .bool a false m').1 = true := h a h1
      rw [h2]
      exact ih
    | false =>
      rw [Bool.not_false, if_pos rfl]
      split
      · simpa using ih
      · simp; omega
theorem un_lt {kt : Ty} {ks : List kt.den} {m : List (kt.den × Bool)} {i : kt.den} (hi : i ∈ ks) (h : ¬ MarkK kt m i) : un kt ks (@putK kt .bool i true m) < un kt ks m := by
  induction ks with
  | nil => cases hi
  | cons a l ih =>
    have hle := un_le (kt := kt) (ks := l) (m := m) (m' := @putK kt .bool i true m) fun x hx => (markK_put m i x).2 (.inr hx)
    unfold un at ih hle ⊢
    simp only [List.filter_cons]
    by_cases e : a = i
    · subst e
      have h2 : (@atK kt .bool a false (@putK kt .bool a true m)).1 = true := (markK_put m a a).2 (.inl rfl)
      have h3 : (@atK kt .bool a false m).1 = false := by
        cases hb : (@atK kt .bool a false m).1 with
        | true => exact absurd hb h
        | false => rfl
      rw [h2, h3]
      simp; omega
    · have hmem : i ∈ l := by
        rcases List.mem_cons.1 hi with rfl | h
        · exact absurd rfl e
        · exact h
      have := ih hmem
      cases h1 : (@atK kt .bool a false m).1 with
      | true =>
        have h2 : (@atK kt .bool a false (@putK kt .bool i true m)).1 = true := (markK_put m i a).2 (.inr h1)
        rw [h2]
        exact this
      | false =>
        rw [Bool.not_false, if_pos rfl]
        split
        · simpa using this
        · simp; omega
theorem un_all {kt : Ty} (ks : List kt.den) (m : List (kt.den × Bool)) : un kt ks m ≤ ks.length := List.length_filter_le _ _

/-! ### what is found -/
abbrev Marked (m : List (Int × Bool)) (x : Int) : Prop := MarkK (.int .i64) m x
theorem marked_put (m : List (Int × Bool)) (y x : Int) : Marked (@putK (.int .i64) .bool y true m) x ↔ x = y ∨ Marked m x := markK_put (kt := .int .i64) m y x
def ixs (n : Nat) : List Int := (List.range n).map fun (k : Nat) => (k : Int)
theorem mem_ixs {n : Nat} {x : Int} : x ∈ ixs n ↔ 0 ≤ x ∧ x < n := by
  unfold ixs
  rw [List.mem_map]
  constructor
  · rintro ⟨k, h, rfl⟩
    have := List.mem_range.1 h
    omega
  · rintro ⟨h0, h1⟩
    exact ⟨x.toNat, List.mem_range.2 (by omega), by omega⟩
def unM (n : Nat) (m : List (Int × Bool)) : Nat := un (.int .i64) (ixs n) m
theorem unM_le {n : Nat} {m m' : List (Int × Bool)} (h : ∀ x, Marked m x → Marked m' x) : unM n m' ≤ unM n m := un_le (kt := .int .i64) h
theorem unM_lt {n : Nat} {m : List (Int × Bool)} {i : Int} (h0 : 0 ≤ i) (h1 : i < n) (h : ¬ Marked m i) : unM n (@putK (.int .i64) .bool i true m) < unM n m := un_lt (kt := .int .i64) (mem_ixs.2 ⟨h0, h1⟩) h
theorem unM_all (n : Nat) (m : List (Int × Bool)) : unM n m ≤ n := by
  have := un_all (kt := .int .i64) (ixs n) m
  simpa [unM, ixs] using this

/-- what is reached from a type, by some ways on -/
inductive Rch (l : List Typ) (ways : Typ → List Int) (i : Int) : Int → Prop
  | self : Rch l ways i i
  | step {x y : Int} (t : Typ) : Rch l ways i x → getI l x = some t → y ∈ ways t → Rch l ways i y

theorem Rch.trans {l : List Typ} {ways : Typ → List Int} {i j k : Int} (h : Rch l ways i j) (h' : Rch l ways j k) : Rch l ways i k := by
  induction h' with
  | self => exact h
  | step t _ h1 h2 ih => exact .step t ih h1 h2
theorem Rch.head {l : List Typ} {ways : Typ → List Int} {i j k : Int} (t : Typ) (h1 : getI l i = some t) (h2 : j ∈ ways t) (h : Rch l ways j k) : Rch l ways i k :=
  (Rch.step t .self h1 h2).trans h

/-- one that is visited: what is behind it -/
structure Seen (l : List Typ) (ways : Typ → List Int) (i : Int) (m m' : List (Int × Bool)) : Prop where
  old : ∀ x, Marked m x → Marked m' x
  self : Marked m' i
  new : ∀ x, Marked m' x → Marked m x ∨ Rch l ways i x
  shut : ∀ x t y, Marked m' x → ¬ Marked m x → getI l x = some t → y ∈ ways t → Marked m' y

theorem visit_ok {l : List Typ} {ways : Typ → List Int} (hw : ∀ x t, getI l x = some t → Ixs l.length (ways t)) (F : Nat → Int → List (Int × Bool) → Option (List (Int × Bool) × Unit))
    (h1 : ∀ k i m, Marked m i → F (k + 1) i m = some (m, ()))
    (h2 : ∀ k i m t, ¬ Marked m i → getI l i = some t → ∀ (I : Nat → List (Int × Bool) → Prop), I 0 (@putK (.int .i64) .bool i true m) →
      (∀ j (hj : j < (ways t).length) mj, I j mj → ∃ m', I (j + 1) m' ∧ F k (ways t)[j] mj = some (m', ())) → ∃ m', I (ways t).length m' ∧ F (k + 1) i m = some (m', ())) :
    ∀ (k : Nat) (i : Int) (m : List (Int × Bool)), 0 ≤ i → i < l.length → unM l.length m < k → ∃ m', F k i m = some (m', ()) ∧ Seen l ways i m m'
  | 0, _, _, _, _, h => by omega
  | k + 1, i, m, hi0, hi1, hk => by
    by_cases hm : Marked m i
    · exact ⟨m, h1 k i m hm, fun _ h => h, hm, fun _ h => .inl h, fun x t y h h' => absurd h h'⟩
    · have hn : i.toNat < l.length := by omega
      have ht : getI l i = some l[i.toNat] := by
        have := getI_at hn
        rwa [Int.toNat_of_nonneg hi0] at this
      generalize l[i.toNat] = t at ht
      have hlt := unM_lt hi0 hi1 hm
      obtain ⟨m', hI, hF⟩ := h2 k i m t hm ht (fun j mj => (∀ x, Marked (@putK (.int .i64) .bool i true m) x → Marked mj x) ∧ (∀ x, Marked mj x → Marked m x ∨ Rch l ways i x) ∧
          (∀ x ∈ (ways t).take j, Marked mj x) ∧ ∀ x t' y, Marked mj x → ¬ Marked m x → x ≠ i → getI l x = some t' → y ∈ ways t' → Marked mj y)
        ⟨fun _ h => h, fun x h => ((marked_put m i x).1 h).elim (fun e => by subst e; exact .inr .self) .inl, by simp, fun x t' y hx hx' hne => by
          rcases (marked_put m i x).1 hx with e | e
          · exact absurd e hne
          · exact absurd e hx'⟩
        (fun j hj mj ⟨g1, g2, g3, g4⟩ => by
          have hwx := hw i t ht (ways t)[j] (List.getElem_mem hj)
          obtain ⟨m', e, s⟩ := visit_ok hw F h1 h2 k (ways t)[j] mj hwx.1 hwx.2 (by have := unM_le (n := l.length) g1; omega)
          refine ⟨m', ⟨fun x h => s.old x (g1 x h), fun x h => ?_, fun x hx => ?_, fun x t' y hx hx' hne hgt hy => ?_⟩, e⟩
          · rcases s.new x h with h | h
            · exact g2 x h
            · exact .inr (Rch.head t ht (List.getElem_mem hj) h)
          · rw [List.take_succ_eq_append_getElem hj] at hx
            rcases List.mem_append.1 hx with hx | hx
            · exact s.old x (g3 x hx)
            · rw [List.mem_singleton.1 hx]; exact s.self
          · by_cases hmj : Marked mj x
            · exact s.old y (g4 x t' y hmj hx' hne hgt hy)
            · exact s.shut x t' y hx hmj hgt hy)
      obtain ⟨g1, g2, g3, g4⟩ := hI
      refine ⟨m', hF, fun x h => g1 x ((marked_put m i x).2 (.inr h)), g1 i ((marked_put m i i).2 (.inl rfl)), g2, fun x t' y hx hx' hgt hy => ?_⟩
      by_cases e : x = i
      · subst e
        rw [ht] at hgt
        cases hgt
        exact g3 y (by rw [List.take_length]; exact hy)
      · exact g4 x t' y hx hx' e hgt hy

theorem seen_all {l : List Typ} {ways : Typ → List Int} {i : Int} {m' : List (Int × Bool)} (s : Seen l ways i [] m') (x : Int) : Marked m' x ↔ Rch l ways i x := by
  have no : ∀ x, ¬ Marked ([] : List (Int × Bool)) x := fun x h => by simp [Marked, MarkK, atK] at h
  constructor
  · intro h
    exact (s.new x h).resolve_left (no x)
  · intro h
    induction h with
    | self => exact s.self
    | step t _ h1 h2 ih => exact s.shut _ t _ ih (no _) h1 h2
end Go.Proofs.Ytegemaonfdfnbaa
