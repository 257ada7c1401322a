/- What the functions of package kinds compute: parts, widths, whether a table is valid. -/
import Derived.Test.YtegemaonfdfnbaaKindB
set_option linter.unusedVariables false
set_option linter.unusedSimpArgs false
set_option maxRecDepth 100000
namespace Go.Proofs.Ytegemaonfdfnbaa
open Go.Lift

/-! ### types that are built -/
theorem built_ptr {t : Typ} {i n : Int} (h : builtB t i n = true) (hk : t.1 = 4 ∨ t.1 = 7) : 0 ≤ t.2.1 ∧ t.2.1 < n := by
  unfold builtB at h
  rw [if_neg (by omega), if_pos hk] at h
  simp only [Bool.and_eq_true] at h
  exact idxB_iff.1 h.1
theorem built_arr {t : Typ} {i n : Int} (h : builtB t i n = true) (hk : t.1 = 6) : 0 ≤ t.2.1 ∧ t.2.1 < i ∧ 1 ≤ t.2.2.1 ∧ t.2.2.1 ≤ 16 := by
  unfold builtB at h
  rw [if_neg (by omega), if_neg (by omega), if_pos hk] at h
  simp only [Bool.and_eq_true, decide_eq_true_eq] at h
  have := idxB_iff.1 h.1
  exact ⟨this.1, this.2, h.2.1⟩
theorem built_str {t : Typ} {i n : Int} (h : builtB t i n = true) (hk : t.1 = 5) : (1 ≤ t.2.2.2.1.length ∧ t.2.2.2.1.length ≤ 8) ∧ ∀ f ∈ t.2.2.2.1, 0 ≤ f.2.1 ∧ f.2.1 < i := by
  unfold builtB at h
  rw [if_neg (by omega), if_neg (by omega), if_neg (by omega), if_pos hk] at h
  simp only [Bool.and_eq_true, decide_eq_true_eq, areB, List.all_eq_true] at h
  exact ⟨h.2.2.1, fun f hf => idxB_iff.1 (h.2.2.2.2.2 f hf)⟩
theorem built_none {t : Typ} {i n : Int} (h : builtB t i n = true) (hk : t.1 ≠ 5) : t.2.2.2.1 = [] := by
  unfold builtB at h
  have e : ∀ {l : List Fld}, decide (l.length = 0) = true → l = [] := fun h => List.eq_nil_of_length_eq_zero (of_decide_eq_true h)
  split at h
  · simp only [Bool.and_eq_true] at h; exact e h.2.2
  split at h
  · simp only [Bool.and_eq_true] at h; exact e h.2.2
  split at h
  · simp only [Bool.and_eq_true] at h; exact e h.2.2
  · simp [hk] at h
theorem built_kind {t : Typ} {i n : Int} (h : builtB t i n = true) : 1 ≤ t.1 ∧ t.1 ≤ 7 := by
  unfold builtB at h
  split at h
  · omega
  split at h
  · omega
  split at h
  · omega
  split at h
  · omega
  · cases h

/-! ### parts -/
def partsS (t : Typ) : List Int := if t.1 = 6 then [t.2.1] else if t.1 = 5 then t.2.2.2.1.map (·.2.1) else []
def nextS (t : Typ) : List Int := if t.1 = 4 ∨ t.1 = 7 then [t.2.1] else partsS t

theorem set_fill {α : Type} (xs : List α) (z : α) (i : Nat) (hi : i < xs.length) : (xs.take i ++ List.replicate (xs.length - i) z).set i xs[i] = xs.take (i + 1) ++ List.replicate (xs.length - (i + 1)) z := by
  have h1 : xs.length - i = (xs.length - (i + 1)) + 1 := by omega
  rw [h1, List.replicate_succ, List.set_append_right _ _ (by simp; omega)]
  have h2 : i - (xs.take i).length = 0 := by simp; omega
  rw [h2, List.set_cons_zero, List.take_succ_eq_append_getElem hi, List.append_assoc]
  rfl

theorem parts_eq (t : Typ) (hf : t.2.2.2.1.length ≤ 1000) : ckinds_parts t = some (partsS t) := by
  show nkinds_parts _ (iterV (gkinds_parts_0 _ big) big) t = _
  unfold nkinds_parts partsS
  by_cases h6 : t.1 = 6
  · rw [if_pos h6, h6]; rfl
  by_cases h5 : t.1 = 5
  · rw [if_neg h6, if_pos h5, h5]
    have e1 : ((5 : Int) == 6) = false := rfl
    have e2 : ((5 : Int) == 5) = true := rfl
    rw [e1, cond_false, e2, cond_true]
    rw [decide_eq_true (by omega), decide_eq_true (by omega), decide_eq_true (by omega)]
    simp only [Bool.and_true, cond_true]
    refine range_post (g := gkinds_parts_0 (fun _ => List.replicate) big) (n := t.2.2.2.1.length) (fun (r : List Int) (i : Nat) => (t.2.2.2.1, (t.2.2.2.1.length : Int), (i : Int), r)) (fun i r => r = (t.2.2.2.1.map (·.2.1)).take i ++ List.replicate (t.2.2.2.1.length - i) 0) (fun r => r = some (t.2.2.2.1.map (·.2.1))) ?_ ?_
      t.2.2.2.1.length 0 big (by simp) (by unfold big; omega) _ (by simp)
    · rintro self s rfl
      show hkinds_parts_0 _ self _ = _
      unfold hkinds_parts_0
      dsimp only
      rw [decide_eq_false (by omega), cond_false, List.take_of_length_le (by simp)]
      simp
    · rintro self s i hi rfl
      left
      refine ⟨_, rfl, ?_⟩
      show hkinds_parts_0 _ self _ = _
      unfold hkinds_parts_0
      dsimp only
      rw [decide_eq_true (by omega), cond_true, getI_at hi, Option.bind_some, decide_eq_true (by omega), decide_eq_true (by simp; omega), wrap_succ hi (by have := maxLen_ge; omega)]
      have := set_fill (t.2.2.2.1.map (·.2.1)) 0 i (by simpa using hi)
      simp only [List.length_map, List.getElem_map] at this
      simp [this]
  · rw [if_neg h6, if_neg h5]
    have e1 : (t.1 == 6) = false := decide_eq_false h6
    have e2 : (t.1 == 5) = false := decide_eq_false h5
    rw [e1, e2]; rfl

theorem next_eq (t : Typ) (hf : t.2.2.2.1.length ≤ 1000) : ckinds_next t = some (nextS t) := by
  show nkinds_next t = _
  unfold nkinds_next nextS
  rw [parts_eq t hf]
  by_cases h4 : t.1 = 4
  · rw [if_pos (.inl h4), h4]; rfl
  by_cases h7 : t.1 = 7
  · rw [if_pos (.inr h7), h7]; rfl
  rw [if_neg (by omega), show (t.1 == 4) = false from decide_eq_false h4, show (t.1 == 7) = false from decide_eq_false h7]
  rfl

/-! ### widths -/
def cap (w : Int) : Int := if 5001 < w then 5001 else w
def sumT (acc : List Int) (fs : List Fld) : Int := (fs.map fun f => acc.getD f.2.1.toNat 0).sum
def wOne (less acc : List Int) (t : Typ) : Int :=
  if t.1 = 4 then 1 + less.getD t.2.1.toNat 0
  else if t.1 = 7 then 1 + 16 * less.getD t.2.1.toNat 0
  else if t.1 = 6 then 1 + t.2.2.1 * acc.getD t.2.1.toNat 0
  else if t.1 = 5 then 1 + sumT acc t.2.2.2.1
  else 1
def wGo (less : List Int) : List Typ → List Int → List Int
  | [], acc => acc
  | t :: r, acc => wGo less r (acc ++ [cap (wOne less acc t)])

def Wide (l : List Int) : Prop := ∀ x ∈ l, 0 ≤ x ∧ x ≤ 5001
theorem Wide.getD {l : List Int} (h : Wide l) (i : Nat) : 0 ≤ l.getD i 0 ∧ l.getD i 0 ≤ 5001 := by
  by_cases hi : i < l.length
  · rw [List.getD_eq_getElem?_getD, List.getElem?_eq_getElem hi]
    exact h _ (List.getElem_mem hi)
  · rw [List.getD_eq_getElem?_getD, List.getElem?_eq_none (by omega)]
    simp
theorem cap_wide {w : Int} (h : 0 ≤ w) : 0 ≤ cap w ∧ cap w ≤ 5001 := by unfold cap; split <;> omega
theorem sumT_bound {acc : List Int} (h : Wide acc) : ∀ fs : List Fld, 0 ≤ sumT acc fs ∧ sumT acc fs ≤ 5001 * fs.length
  | [] => by simp [sumT]
  | f :: r => by
    have h1 := sumT_bound h r
    have h2 := h.getD f.2.1.toNat
    simp only [sumT, List.map_cons, List.sum_cons, List.length_cons] at h1 ⊢
    omega
theorem sumT_snoc (acc : List Int) (fs : List Fld) (f : Fld) : sumT acc (fs ++ [f]) = sumT acc fs + acc.getD f.2.1.toNat 0 := by simp [sumT]
theorem mul16 {a b : Int} (h0 : 1 ≤ a) (h1 : a ≤ 16) (h2 : 0 ≤ b) (h3 : b ≤ 5001) : 0 ≤ a * b ∧ a * b ≤ 80016 := by
  constructor
  · exact Int.mul_nonneg (by omega) h2
  · have := Int.mul_le_mul h1 h3 h2 (by omega : (0 : Int) ≤ 16)
    omega
theorem wOne_bound {less acc : List Int} {t : Typ} {i n : Int} (hl : Wide less) (ha : Wide acc) (h : builtB t i n = true) : 0 ≤ wOne less acc t ∧ wOne less acc t ≤ 100000 := by
  unfold wOne
  have h1 := hl.getD t.2.1.toNat
  have h2 := ha.getD t.2.1.toNat
  split
  · omega
  split
  · omega
  split
  · rename_i h6
    have h3 := built_arr h h6
    have := mul16 h3.2.2.1 h3.2.2.2 h2.1 h2.2
    omega
  split
  · rename_i h5
    have h3 := built_str h h5
    have := sumT_bound ha t.2.2.2.1
    omega
  · omega

theorem wGo_snoc (less : List Int) : ∀ (l : List Typ) (t : Typ) (acc : List Int), wGo less (l ++ [t]) acc = wGo less l acc ++ [cap (wOne less (wGo less l acc) t)]
  | [], t, acc => rfl
  | u :: r, t, acc => wGo_snoc less r t _
theorem wGo_len (less : List Int) : ∀ (l : List Typ) (acc : List Int), (wGo less l acc).length = acc.length + l.length
  | [], acc => rfl
  | u :: r, acc => by rw [wGo, wGo_len]; simp; omega

/-- all types of a table are built -/
def Built (l : List Typ) : Prop := ∀ i (h : i < l.length), builtB l[i] (i : Int) (l.length : Int) = true

theorem wGo_wide {l : List Typ} (hb : Built l) {less : List Int} (hl : Wide less) : ∀ i, i ≤ l.length → Wide (wGo less (l.take i) [])
  | 0, _ => by intro x hx; simp [wGo] at hx
  | i + 1, hi => by
    have ih := wGo_wide hb hl i (by omega)
    rw [List.take_succ_eq_append_getElem (by omega), wGo_snoc]
    intro x hx
    rcases List.mem_append.1 hx with hx | hx
    · exact ih x hx
    · simp at hx
      subst hx
      exact cap_wide (wOne_bound hl ih (hb i (by omega))).1

theorem getD_app {a b : List Int} {e : Int} (h0 : 0 ≤ e) (h : e < (a.length : Int)) : (a ++ b).getD e.toNat 0 = a.getD e.toNat 0 := by
  rw [List.getD_eq_getElem?_getD, List.getD_eq_getElem?_getD, List.getElem?_append_left (by omega)]
theorem getI_getD {a : List Int} {e : Int} (h0 : 0 ≤ e) (h : e < (a.length : Int)) : getI a e = some (a.getD e.toNat 0) := by
  obtain ⟨k, rfl⟩ := Int.eq_ofNat_of_zero_le h0
  have hk : k < a.length := by omega
  rw [getI_at hk]
  simp [hk]
theorem nth_getD {a : List Int} {e : Int} (h0 : 0 ≤ e) (h : e < (a.length : Int)) : nth a (Int.toNat e) = some (a.getD e.toNat 0) := by
  obtain ⟨k, rfl⟩ := Int.eq_ofNat_of_zero_le h0
  have hk : k < a.length := by omega
  show a[k]? = _
  simp [hk]

theorem addw {a b : Int} (h0 : -9223372036854775808 ≤ a + b) (h1 : a + b ≤ 9223372036854775807) : IntKind.i64.wrap (a + b) = a + b := wrap_i64 h0 h1

theorem cap_eq (w : Int) : (if (5001 : Int) < w then (5001 : Int) else w) = cap w := rfl

theorem widened_eq {l : List Typ} (hlen : l.length ≤ 40) (hb : Built l) {less : List Int} (hl : Wide less) (hll : less.length = l.length) : ckinds_widened (l, less) = some (wGo less l []) := by
  show nkinds_widened _ (iterV (gkinds_widened_0 _ big) big) (l, less) = _
  unfold nkinds_widened
  dsimp only
  rw [decide_eq_true (by omega), decide_eq_true (by omega), decide_eq_true (by omega)]
  simp only [Bool.and_true, cond_true]
  refine range_post (g := gkinds_widened_0 (fun _ => List.replicate) big) (n := l.length) (fun (r : List Int) (i : Nat) => (less, l, (l.length : Int), (i : Int), r)) (fun i r => r = wGo less (l.take i) [] ++ List.replicate (l.length - i) 0) (fun r => r = some (wGo less l [])) ?_ ?_
    l.length 0 big (by simp) (by unfold big; omega) _ (by simp [wGo])
  · rintro self s rfl
    show hkinds_widened_0 _ _ self _ = _
    unfold hkinds_widened_0
    dsimp only
    rw [decide_eq_false (by omega), cond_false]
    simp
  · rintro self s i hi rfl
    left
    refine ⟨_, rfl, ?_⟩
    have hw := wGo_wide hb hl i (by omega)
    have hwl : (wGo less (l.take i) []).length = i := by rw [wGo_len]; simp; omega
    have hsl : (wGo less (l.take i) [] ++ List.replicate (l.length - i) 0).length = l.length := by simp [hwl]; omega
    have hbd := wOne_bound hl hw (hb i hi)
    have hset : ∀ v : Int, (wGo less (l.take i) [] ++ List.replicate (l.length - i) 0).set i v = wGo less (l.take i) [] ++ [v] ++ List.replicate (l.length - (i + 1)) 0 := by
      intro v
      rw [show l.length - i = (l.length - (i + 1)) + 1 by omega, List.replicate_succ, List.set_append_right _ _ (by omega), hwl, Nat.sub_self, List.set_cons_zero, List.append_assoc]
      rfl
    have hgo : wGo less (l.take (i + 1)) [] = wGo less (l.take i) [] ++ [cap (wOne less (wGo less (l.take i) []) l[i])] := by
      rw [List.take_succ_eq_append_getElem hi, wGo_snoc]
    have hbi := hb i hi
    rw [hgo]
    show hkinds_widened_0 _ _ self _ = _
    unfold hkinds_widened_0
    dsimp only
    rw [decide_eq_true (by omega), cond_true, getI_at hi, Option.bind_some]
    have hin : (decide (0 ≤ (i : Int)) && decide ((i : Int) < ((wGo less (l.take i) [] ++ List.replicate (l.length - i) 0).length : Int))) = true := by
      rw [decide_eq_true (by omega), decide_eq_true (by omega)]; rfl
    have hsucc := wrap_succ hi (by have := maxLen_ge; omega : l.length ≤ maxLen)
    simp only [hin, cond_true, Int.toNat_natCast, hset, hsucc]
    generalize hacc : wGo less (l.take i) [] = acc at *
    generalize htt : l[i] = t at *
    have hlw := hl.getD t.2.1.toNat
    have haw := hw.getD t.2.1.toNat
    by_cases h4 : t.1 = 4
    · have hp := built_ptr hbi (.inl h4)
      rw [h4, show ((4 : Int) == 4) = true from rfl, cond_true, getI_getD hp.1 (by omega), Option.bind_some]
      rw [addw (by omega) (by omega), cap_eq]
      unfold wOne
      rw [if_pos h4]
    have e4 : (t.1 == 4) = false := decide_eq_false h4
    rw [e4, cond_false]
    by_cases h7 : t.1 = 7
    · have hp := built_ptr hbi (.inr h7)
      rw [h7, show ((7 : Int) == 7) = true from rfl, cond_true, getI_getD hp.1 (by omega), Option.bind_some]
      rw [wrap_i64 (n := 16 * _) (by omega) (by omega), addw (by omega) (by omega), cap_eq]
      unfold wOne
      rw [if_neg h4, if_pos h7]
    have e7 : (t.1 == 7) = false := decide_eq_false h7
    rw [e7, cond_false]
    by_cases h6 : t.1 = 6
    · have hp := built_arr hbi h6
      rw [h6, show ((6 : Int) == 6) = true from rfl, cond_true]
      rw [decide_eq_true (by omega), decide_eq_true (by omega), Bool.true_and, cond_true, nth_getD hp.1 (by omega), Option.bind_some, getD_app hp.1 (by omega)]
      have hm := mul16 hp.2.2.1 hp.2.2.2 haw.1 haw.2
      rw [wrap_i64 (n := t.2.2.1 * _) (by omega) (by omega), addw (by omega) (by omega), cap_eq]
      unfold wOne
      rw [if_neg h4, if_neg h7, if_pos h6]
    have e6 : (t.1 == 6) = false := decide_eq_false h6
    rw [e6, cond_false]
    by_cases h5 : t.1 = 5
    · have hp := built_str hbi h5
      rw [h5, show ((5 : Int) == 5) = true from rfl, cond_true]
      refine range_post (g := gkinds_widened_1 (fun _ => List.replicate) big self) (n := t.2.2.2.1.length) (fun (w : Int) (j : Nat) => (less, (i : Int), w, l, (l.length : Int), (i : Int), t.2.2.2.1, (t.2.2.2.1.length : Int), (j : Int), acc ++ List.replicate (l.length - i) 0)) (fun j w => w = 1 + sumT acc (t.2.2.2.1.take j)) (fun r => r = self (less, l, (l.length : Int), ((i + 1 : Nat) : Int), acc ++ [cap (wOne less acc t)] ++ List.replicate (l.length - (i + 1)) 0)) ?_ ?_
        t.2.2.2.1.length 0 big (by simp) (by unfold big; omega) _ (by simp [sumT])
      · rintro self1 s rfl
        show hkinds_widened_1 _ self self1 _ = _
        unfold hkinds_widened_1
        dsimp only
        rw [decide_eq_false (by omega), cond_false]
        simp only [hin, cond_true, Int.toNat_natCast, hset, hsucc, cap_eq]
        rw [List.take_length]
        unfold wOne
        rw [if_neg h4, if_neg h7, if_neg h6, if_pos h5]
      · rintro self1 s j hj rfl
        left
        refine ⟨_, rfl, ?_⟩
        have hf := hp.2 t.2.2.2.1[j] (List.getElem_mem hj)
        have hs := sumT_bound hw (t.2.2.2.1.take j)
        have hfw := hw.getD t.2.2.2.1[j].2.1.toNat
        have htl : (t.2.2.2.1.take j).length ≤ 8 := by simp; omega
        show hkinds_widened_1 _ self self1 _ = _
        unfold hkinds_widened_1
        dsimp only
        rw [decide_eq_true (by omega), cond_true, getI_at hj, Option.bind_some]
        rw [decide_eq_true (by omega), decide_eq_true (by omega), Bool.true_and, cond_true, nth_getD hf.1 (by omega), Option.bind_some, getD_app hf.1 (by omega), wrap_succ hj (by have := maxLen_ge; omega), addw (by omega) (by omega)]
        rw [List.take_succ_eq_append_getElem hj, sumT_snoc, Int.add_assoc]
    · have e5 : (t.1 == 5) = false := decide_eq_false h5
      rw [e5, cond_false]
      show self (less, l, (l.length : Int), ((i + 1 : Nat) : Int), acc ++ [_] ++ _) = _
      unfold wOne
      rw [if_neg h4, if_neg h7, if_neg h6, if_neg h5]
      rfl

def wN (l : List Typ) : Nat → List Int
  | 0 => List.replicate l.length 0
  | n + 1 => wGo (wN l n) l []
theorem wN_ok {l : List Typ} (hb : Built l) : ∀ n, Wide (wN l n) ∧ (wN l n).length = l.length
  | 0 => ⟨fun x hx => by simp [wN] at hx; omega, by simp [wN]⟩
  | n + 1 => by
    have ih := wN_ok hb n
    have := wGo_wide hb ih.1 l.length (Nat.le_refl _)
    rw [List.take_length] at this
    exact ⟨this, by rw [wN, wGo_len]; simp⟩

theorem widths_eq {l : List Typ} (hlen : l.length ≤ 40) (hb : Built l) : ckinds_widths l = some (wN l 4) := by
  show nkinds_widths _ (iterV (gkinds_widths_0 _ big) big) l = _
  unfold nkinds_widths
  rw [decide_eq_true (by omega), decide_eq_true (by omega), decide_eq_true (by omega)]
  simp only [Bool.and_true, cond_true]
  refine range_post (g := gkinds_widths_0 (fun _ => List.replicate) big) (n := 4) (fun (r : List Int) (i : Nat) => (l, (i : Int), r)) (fun i r => r = wN l i) (fun r => r = some (wN l 4)) ?_ ?_
    4 0 big (by simp) (by unfold big; omega) _ (by simp [wN])
  · rintro self s rfl
    rfl
  · rintro self s i hi rfl
    left
    refine ⟨_, rfl, ?_⟩
    show hkinds_widths_0 _ self _ = _
    unfold hkinds_widths_0
    dsimp only
    rw [decide_eq_true (by omega), cond_true, widened_eq hlen hb (wN_ok hb i).1 (wN_ok hb i).2, Option.bind_some, wrap_succ hi (by have := maxLen_ge; omega)]
    rfl

/-! ### whether a table is valid -/
theorem Index_eq (l : List Int) (y : Int) (hl : l.length ≤ 1000) : ∃ j, cslices_Index_int_int (l, y) = some j ∧ (0 ≤ j ↔ y ∈ l) := by
  show ∃ j, nslices_Index_int_int (iterV (gslices_Index_int_int_0 big) big) (l, y) = some j ∧ _
  unfold nslices_Index_int_int
  refine range_post (g := gslices_Index_int_int_0 big) (n := l.length) (fun (_ : Unit) (i : Nat) => (l, y, (l.length : Int), (i : Int))) (fun i _ => y ∉ l.take i) (fun r => ∃ j, r = some j ∧ (0 ≤ j ↔ y ∈ l)) ?_ ?_
    l.length 0 big (by simp) (by unfold big; omega) () (by simp)
  · intro self s h
    refine ⟨-1, ?_, ?_⟩
    · show hslices_Index_int_int_0 self _ = _
      unfold hslices_Index_int_int_0
      dsimp only
      rw [decide_eq_false (by omega), cond_false]
    · rw [List.take_length] at h
      simp [h]
  · intro self s i hi h
    by_cases e : y = l[i]
    · right
      refine ⟨i, ?_, by simp only [Int.natCast_nonneg, true_iff]; rw [e]; exact List.getElem_mem hi⟩
      show hslices_Index_int_int_0 self _ = _
      unfold hslices_Index_int_int_0
      dsimp only
      rw [decide_eq_true (by omega), cond_true, getI_at hi, Option.bind_some, show (y == l[i]) = true from decide_eq_true e, cond_true]
    · left
      refine ⟨(), ?_, ?_⟩
      · rw [List.take_succ_eq_append_getElem hi]
        intro hm
        rcases List.mem_append.1 hm with hm | hm
        · exact h hm
        · exact e (List.mem_singleton.1 hm)
      · show hslices_Index_int_int_0 self _ = _
        unfold hslices_Index_int_int_0
        dsimp only
        rw [decide_eq_true (by omega), cond_true, getI_at hi, Option.bind_some, show (y == l[i]) = false from decide_eq_false e, cond_false, wrap_succ hi (by have := maxLen_ge; omega)]

theorem Contains_eq (l : List Int) (y : Int) (hl : l.length ≤ 1000) : cslices_Contains_int_int (l, y) = some (decide (y ∈ l)) := by
  show nslices_Contains_int_int (l, y) = _
  unfold nslices_Contains_int_int
  obtain ⟨j, h1, h2⟩ := Index_eq l y hl
  rw [h1, Option.bind_some]
  congr 1
  rw [Bool.eq_iff_iff, decide_eq_true_eq, decide_eq_true_eq]
  exact h2

/-- a valid table -/
def Valid (l : List Typ) : Prop := l.length ≤ 32 ∧ Built l ∧ (5001 : Int) ∉ wN l 4
instance (l : List Typ) : Decidable (Built l) := by unfold Built; infer_instance
instance (l : List Typ) : Decidable (Valid l) := by unfold Valid; infer_instance

theorem Check_eq (l : List Typ) : ckinds_Check l = some (if Valid l then 0 else 8) := by
  show nkinds_Check (iterV (gkinds_Check_0 big) big) l = _
  unfold nkinds_Check
  by_cases h : l.length ≤ 32
  · rw [decide_eq_false (by omega), cond_false]
    refine range_post (g := gkinds_Check_0 big) (n := l.length) (fun (_ : Unit) (i : Nat) => (l, l, (l.length : Int), (i : Int))) (fun i _ => ∀ j (h : j < l.length), j < i → builtB l[j] j l.length = true) (fun r => r = some (if Valid l then 0 else 8)) ?_ ?_
      l.length 0 big (by simp) (by unfold big; omega) () (by intro j _ h; omega)
    · intro self s hb
      have hb' : Built l := fun i hi => hb i hi hi
      show hkinds_Check_0 self _ = _
      unfold hkinds_Check_0
      dsimp only
      rw [decide_eq_false (by omega), cond_false, widths_eq (by omega) hb', Option.bind_some, Contains_eq _ _ (by rw [(wN_ok hb' 4).2]; omega), Option.bind_some]
      by_cases hm : (5001 : Int) ∈ wN l 4
      · rw [decide_eq_true hm, cond_true, if_neg fun hv => hv.2.2 hm]
      · rw [decide_eq_false hm, cond_false, if_pos ⟨h, hb', hm⟩]
    · intro self s i hi hb
      cases hbi : builtB l[i] (i : Int) (l.length : Int) with
      | false =>
        right
        show hkinds_Check_0 self _ = _
        unfold hkinds_Check_0
        dsimp only
        rw [decide_eq_true (by omega), cond_true, getI_at hi, Option.bind_some, isBuilt_eq, Option.bind_some, hbi, Bool.not_false, cond_true, if_neg fun hv => by rw [hv.2.1 i hi] at hbi; cases hbi]
      | true =>
        left
        refine ⟨(), fun j hj hji => ?_, ?_⟩
        · by_cases e : j = i
          · subst e; exact hbi
          · exact hb j hj (by omega)
        · show hkinds_Check_0 self _ = _
          unfold hkinds_Check_0
          dsimp only
          rw [decide_eq_true (by omega), cond_true, getI_at hi, Option.bind_some, isBuilt_eq, Option.bind_some, hbi, Bool.not_true, cond_false, wrap_succ hi (by have := maxLen_ge; omega)]
  · rw [decide_eq_true (by omega), cond_true, if_neg fun hv => h hv.1]

theorem checked_eq (l : List Typ) (is : List Int) (hi : is.length ≤ 1000) : ckinds_checked (l, is) = some (if Valid l then (if ∀ i ∈ is, 0 ≤ i ∧ i < l.length then 0 else 2) else 8) := by
  show nkinds_checked (iterV (gkinds_checked_0 big) big) (l, is) = _
  unfold nkinds_checked
  dsimp only
  rw [Check_eq, Option.bind_some]
  by_cases hv : Valid l
  · rw [if_pos hv, if_pos hv]
    rw [show ((0 : Int) != 0) = false from rfl, cond_false]
    refine range_post (g := gkinds_checked_0 big) (n := is.length) (fun (_ : Unit) (i : Nat) => (l, is, (is.length : Int), (i : Int))) (fun k _ => ∀ i ∈ is.take k, 0 ≤ i ∧ i < l.length) (fun r => r = some (if ∀ i ∈ is, 0 ≤ i ∧ i < l.length then 0 else 2)) ?_ ?_
      is.length 0 big (by simp) (by unfold big; omega) () (by simp)
    · intro self s h
      rw [List.take_length] at h
      show hkinds_checked_0 self _ = _
      unfold hkinds_checked_0
      dsimp only
      rw [decide_eq_false (by omega), cond_false, if_pos h]
    · intro self s k hk h
      have hstep : gkinds_checked_0 big self (l, is, (is.length : Int), (k : Int)) = bif !(idxB is[k] l.length) then some 2 else self (l, is, (is.length : Int), ((k + 1 : Nat) : Int)) := by
        show hkinds_checked_0 self _ = _
        unfold hkinds_checked_0
        dsimp only
        rw [decide_eq_true (by omega), cond_true, getI_at hk, Option.bind_some, isIndex_eq, Option.bind_some, wrap_succ hk (by have := maxLen_ge; omega)]
      cases hx : idxB is[k] l.length with
      | false =>
        right
        rw [hstep, hx, if_neg]
        · rfl
        · intro hall
          have := idxB_iff.2 (hall is[k] (List.getElem_mem hk))
          rw [this] at hx
          cases hx
      | true =>
        left
        refine ⟨(), ?_, by rw [hstep, hx]; rfl⟩
        rw [List.take_succ_eq_append_getElem hk]
        intro i hi
        rcases List.mem_append.1 hi with hi | hi
        · exact h i hi
        · simp at hi; subst hi; exact idxB_iff.1 hx
  · rw [if_neg hv, if_neg hv]; rfl
end Go.Proofs.Ytegemaonfdfnbaa
