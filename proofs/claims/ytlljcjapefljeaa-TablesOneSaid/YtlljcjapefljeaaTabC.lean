/- The reference of layer 8: what its functions compute, but for reading. -/
import Derived.Test.YtlljcjapefljeaaTabQ
import Derived.Test.YtlljcjapefljeaaTabB
set_option linter.unusedVariables false
set_option linter.unusedSimpArgs false
set_option maxRecDepth 100000
namespace Go.Proofs.Ytlljcjapefljeaa
open Go.Lift

theorem t64 {z : Int} (h : -9223372036854775808 ≤ z) (h' : z ≤ 9223372036854775807) : IntKind.i64.wrap z = z := wrap_i64 h h'
theorem tbig {n : Nat} (h : n ≤ 1000000) : n < big := by
  have : 1000000 < big := by decide
  omega
theorem tbigm {n : Nat} (h : n ≤ 9223372036854775807) : n < big := by
  have : 9223372036854775807 < big := by decide
  omega
theorem tget {α : Type} {pre t : List α} {a : α} {i : Int} (h : i = (pre.length : Int)) : getI (pre ++ a :: t) i = some a := by
  subst h
  rw [getI_nat]
  simp
theorem tget0 {α : Type} {t : List α} {a : α} : getI (a :: t) 0 = some a := tget (pre := []) rfl

theorem fine_loop (N : Nat) (n : Int) : ∀ (t pre : List Rn) (a : Rn) (M : Nat), pre.length + t.length + 1 ≤ 9223372036854775807 → t.length < M → iterV (gref08_Fine_0 N) M (pre ++ a :: t, n, ((pre.length + 1 : Nat) : Int)) = some (inc a.1 a.2.1 t n)
  | [], pre, a, M + 1, hl, hM => by
    rw [iterV_succ]
    show href08_Fine_0 _ _ = _
    unfold href08_Fine_0
    dsimp only
    rw [decide_eq_false (by simp), cond_false]
    rfl
  | b :: t, pre, a, M + 1, hl, hM => by
    rw [iterV_succ]
    show href08_Fine_0 _ _ = _
    unfold href08_Fine_0
    dsimp only
    simp only [List.length_cons] at hl hM
    have e1 : getI (pre ++ a :: b :: t) ((pre.length + 1 : Nat) : Int) = some b := by
      rw [show pre ++ a :: b :: t = (pre ++ [a]) ++ b :: t by simp]
      exact tget (by simp)
    have e2 : getI (pre ++ a :: b :: t) ((pre.length : Nat) : Int) = some a := tget rfl
    have e3 : IntKind.i64.wrap (((pre.length + 1 : Nat) : Int) - 1) = ((pre.length : Nat) : Int) := by rw [t64 (by omega) (by omega)]; omega
    have e4 : IntKind.i64.wrap (((pre.length + 1 : Nat) : Int) + 1) = (((pre ++ [a]).length + 1 : Nat) : Int) := by rw [t64 (by omega) (by omega)]; simp
    rw [decide_eq_true (show ((pre.length + 1 : Nat) : Int) < ((pre ++ a :: b :: t).length : Int) by simp; omega), cond_true, decide_eq_true (show ((pre.length + 1 : Nat) : Int) > 0 by omega), cond_true]
    simp only [e1, e2, e3, e4, Option.bind_some]
    have ih := fine_loop N n t (pre ++ [a]) b M (by simp; omega) (by omega)
    rw [show (pre ++ [a]) ++ b :: t = pre ++ a :: b :: t by simp] at ih
    unfold inc
    by_cases h1 : b.1 < n
    · rw [decide_eq_false (show ¬ b.1 ≥ n by omega), cond_false, decide_eq_true h1, Bool.true_and]
      by_cases h2 : a.1 < b.1
      · rw [decide_eq_false (show ¬ a.1 ≥ b.1 by omega), cond_false, decide_eq_true h2, Bool.true_and]
        by_cases h3 : a.2.1 = b.2.1
        · rw [show (a.2.1 == b.2.1) = true by simp [h3], cond_true, decide_eq_false (not_not_intro h3), Bool.false_and]
        · rw [show (a.2.1 == b.2.1) = false by simpa using h3, cond_false, decide_eq_true h3, Bool.true_and]
          exact ih
      · rw [decide_eq_true (show a.1 ≥ b.1 by omega), cond_true, decide_eq_false h2]
        rfl
    · rw [decide_eq_true (show b.1 ≥ n by omega), cond_true, decide_eq_false h1]
      rfl

theorem Fine_eq8 (l : List Rn) (n : Int) (hl : l.length ≤ 9223372036854775807) : cref08_Fine (l, n) = some (fineR l n) := by
  show nref08_Fine (iterV (gref08_Fine_0 big) big) (l, n) = _
  unfold nref08_Fine
  dsimp only
  cases l with
  | nil => rfl
  | cons r t =>
    simp only [List.length_cons] at hl
    rw [decide_eq_false (by simp; omega), cond_false, tget0, Option.bind_some]
    show _ = some ((decide (r.1 = 0) && decide (0 < n)) && inc 0 r.2.1 t n)
    by_cases h0 : r.1 = 0
    · rw [show (r.1 != 0) = false by simp [h0], cond_false, decide_eq_true h0, Bool.true_and]
      rw [big_pos, iterV_succ]
      show href08_Fine_0 _ _ = _
      unfold href08_Fine_0
      dsimp only
      rw [decide_eq_true (show (0 : Int) < ((r :: t).length : Int) by simp only [List.length_cons]; omega), cond_true, tget0, Option.bind_some, h0]
      by_cases h1 : 0 < n
      · rw [decide_eq_false (show ¬ (0 : Int) ≥ n by omega), cond_false, decide_eq_false (show ¬ (0 : Int) > 0 by omega), cond_false, decide_eq_true h1, Bool.true_and]
        have := fine_loop big n t [] r (big - 1) (by simp; omega) (by have := tbigm (n := t.length + 1) (by omega); omega)
        rw [h0] at this
        exact this
      · rw [decide_eq_true (show (0 : Int) ≥ n by omega), cond_true, decide_eq_false h1]
        rfl
    · rw [show (r.1 != 0) = true by simpa using h0, cond_true, decide_eq_false h0]
      rfl

def checkR (l : List Rn) (n : Int) : Int := if n < 1 ∨ n > 200 then 2 else if fineR l n = true then 0 else 8
theorem rCheck_eq8 (l : List Rn) (n : Int) (hl : l.length ≤ 9223372036854775807) : cref08_Check (l, n) = some (checkR l n) := by
  show nref08_Check (l, n) = _
  unfold nref08_Check checkR
  dsimp only
  by_cases h1 : n < 1
  · simp [h1]
  by_cases h2 : n > 200
  · simp [h1, h2]
  rw [decide_eq_false h1, decide_eq_false h2, if_neg (by omega), Fine_eq8 l n hl]
  cases fineR l n <;> rfl

theorem val_loop (N : Nat) (i : Int) : ∀ (t pre : List Rn) (d : Int) (M : Nat), pre.length + t.length ≤ 1000000 → t.length < M → iterV (gref08_Value_0 N) M (pre ++ t, i, d, ((pre.length : Nat) : Int)) = some (valR d t i)
  | [], pre, d, M + 1, hl, hM => by
    rw [iterV_succ]
    show href08_Value_0 _ _ = _
    unfold href08_Value_0
    dsimp only
    rw [decide_eq_false (by simp), cond_false]
    rfl
  | r :: t, pre, d, M + 1, hl, hM => by
    rw [iterV_succ]
    show href08_Value_0 _ _ = _
    unfold href08_Value_0
    dsimp only
    simp only [List.length_cons] at hl hM
    have e4 : IntKind.i64.wrap (((pre.length : Nat) : Int) + 1) = (((pre ++ [r]).length : Nat) : Int) := by rw [t64 (by omega) (by omega)]; simp
    have ih := fun d' => val_loop N i t (pre ++ [r]) d' M (by simp; omega) (by omega)
    simp only [List.append_assoc, List.singleton_append] at ih
    rw [decide_eq_true (show ((pre.length : Nat) : Int) < ((pre ++ r :: t).length : Int) by simp; omega), cond_true]
    simp only [tget rfl, Option.bind_some, e4, ih, valR_cons]
    by_cases h : r.1 ≤ i
    · rw [decide_eq_true h, if_pos h]; rfl
    · rw [decide_eq_false h, if_neg h]; rfl
theorem Value_eq8 (l : List Rn) (i : Int) (hl : l.length ≤ 1000000) : cref08_Value (l, i) = some (valR 0 l i) :=
  val_loop big i l [] 0 big (by simpa using hl) (tbig hl)

def atR (l : List Rn) (n i : Int) : Int × Int := if checkR l n ≠ 0 then (0, checkR l n) else if 0 ≤ i ∧ i < n then (valR 0 l i, 0) else (0, 2)
theorem checkR_zero {l : List Rn} {n : Int} : checkR l n = 0 ↔ (1 ≤ n ∧ n ≤ 200) ∧ fineR l n = true := by
  unfold checkR
  split
  · constructor
    · intro e; omega
    · intro e; omega
  · split
    · rename_i h1 h2; simp [h2]; omega
    · rename_i h1 h2; simp [h2]
theorem checkR_len {l : List Rn} {n : Int} (h : checkR l n = 0) : l.length ≤ 200 := by
  obtain ⟨h1, h2⟩ := checkR_zero.1 h
  have := fineR_len (l := l) (n := n.toNat) (by rw [Int.toNat_of_nonneg (by omega)]; exact h2)
  omega
theorem rAt_eq8 (l : List Rn) (n i : Int) (hl : l.length ≤ 9223372036854775807) : cref08_At (l, n, i) = some (atR l n i) := by
  show nref08_At (l, n, i) = _
  unfold nref08_At atR
  dsimp only
  rw [rCheck_eq8 l n hl, Option.bind_some]
  by_cases h : checkR l n = 0
  · rw [h, show ((0 : Int) != 0) = false from rfl, cond_false, if_neg (by simp)]
    by_cases h1 : i < 0
    · rw [decide_eq_true h1, if_neg (by omega)]; rfl
    · rw [decide_eq_false h1, cond_false]
      by_cases h2 : i ≥ n
      · rw [decide_eq_true h2, if_neg (by omega)]; rfl
      · rw [decide_eq_false h2, cond_false, if_pos (by omega), Value_eq8 l i (by have := checkR_len h; omega)]; rfl
  · rw [show (checkR l n != 0) = true by simpa using h, cond_true, if_pos h]

theorem list_loop (N : Nat) (l : List Rn) (hl : l.length ≤ 1000000) (n : Nat) : ∀ (m i : Nat) (out : List Int) (M : Nat), i + m = n → out.length + m ≤ 1000000 → n ≤ 1000000 → m < M → iterV (gref08_Listed_0 N) M (l, (n : Int), (i : Int), out) = some (out ++ (List.range' i m).map fun (k : Nat) => valR 0 l (k : Int))
  | 0, i, out, M + 1, hn, ho, hi, hM => by
    rw [iterV_succ]
    show href08_Listed_0 _ _ = _
    unfold href08_Listed_0
    dsimp only
    rw [decide_eq_false (by omega), cond_false]
    simp
  | m + 1, i, out, M + 1, hn, ho, hi, hM => by
    rw [iterV_succ]
    show href08_Listed_0 _ _ = _
    unfold href08_Listed_0
    dsimp only
    rw [decide_eq_true (show (i : Int) < (n : Int) by omega), cond_true, Value_eq8 l _ hl, Option.bind_some, b11, ble_lim (by simp; omega), Bool.and_self, cond_true, t64 (by omega) (by omega), show (i : Int) + 1 = ((i + 1 : Nat) : Int) by omega]
    have := list_loop N l hl n m (i + 1) (out ++ [valR 0 l (i : Int)]) M (by omega) (by simp; omega) (by omega) (by omega)
    rw [show List.append out [valR 0 l (i : Int)] = out ++ [valR 0 l (i : Int)] from rfl, this]
    simp [List.range'_succ]
theorem Listed_eq8 (l : List Rn) (n : Nat) (hl : l.length ≤ 1000000) (hn : n ≤ 1000000) : cref08_Listed (l, (n : Int)) = some (listR l n) := by
  have := list_loop big l hl n n 0 [] big (by omega) (by simp; omega) (by omega) (tbig hn)
  rw [List.nil_append] at this
  exact this

def listE (l : List Rn) (n : Int) : List Int × Int := if checkR l n ≠ 0 then ([], checkR l n) else (listR l n.toNat, 0)
theorem rList_eq8 (l : List Rn) (n : Int) (hl : l.length ≤ 9223372036854775807) : cref08_List (l, n) = some (listE l n) := by
  show nref08_List (l, n) = _
  unfold nref08_List listE
  dsimp only
  rw [rCheck_eq8 l n hl, Option.bind_some]
  by_cases h : checkR l n = 0
  · have hn := (checkR_zero.1 h).1
    rw [h, show ((0 : Int) != 0) = false from rfl, cond_false, if_neg (by simp)]
    have := Listed_eq8 l n.toNat (by have := checkR_len h; omega) (by omega)
    rw [Int.toNat_of_nonneg (by omega)] at this
    rw [this]
    rfl
  · rw [show (checkR l n != 0) = true by simpa using h, cond_true, if_pos h]

theorem made_loop (N : Nat) : ∀ (t pre : List Int) (p : Int) (out : List Rn) (M : Nat), pre.length + t.length ≤ 1000000 → out.length + t.length ≤ 1000000 → t.length < M → iterV (gref08_Made_0 N) M (pre ++ p :: t, ((pre.length + 1 : Nat) : Int), out) = some (out ++ mkR (pre.length + 1) p t)
  | [], pre, p, out, M + 1, hl, ho, hM => by
    rw [iterV_succ]
    show href08_Made_0 _ _ = _
    unfold href08_Made_0
    dsimp only
    rw [decide_eq_false (by simp), cond_false]
    simp [mkR]
  | x :: t, pre, p, out, M + 1, hl, ho, hM => by
    rw [iterV_succ]
    show href08_Made_0 _ _ = _
    unfold href08_Made_0
    dsimp only
    simp only [List.length_cons] at hl ho hM
    have e1 : getI (pre ++ p :: x :: t) ((pre.length + 1 : Nat) : Int) = some x := by
      rw [show pre ++ p :: x :: t = (pre ++ [p]) ++ x :: t by simp]
      exact tget (by simp)
    have e2 : getI (pre ++ p :: x :: t) ((pre.length : Nat) : Int) = some p := tget rfl
    have e3 : IntKind.i64.wrap (((pre.length + 1 : Nat) : Int) - 1) = ((pre.length : Nat) : Int) := by rw [t64 (by omega) (by omega)]; omega
    have e4 : IntKind.i64.wrap (((pre.length + 1 : Nat) : Int) + 1) = (((pre ++ [p]).length + 1 : Nat) : Int) := by rw [t64 (by omega) (by omega)]; simp
    have ih := fun out' ho' => made_loop N t (pre ++ [p]) x out' M (by simp; omega) ho' (by omega)
    simp only [List.append_assoc, List.singleton_append] at ih
    rw [decide_eq_true (show ((pre.length + 1 : Nat) : Int) < ((pre ++ p :: x :: t).length : Int) by simp; omega), cond_true, show (((pre.length + 1 : Nat) : Int) == 0) = false by simp; omega, cond_false]
    simp only [e1, e2, e3, e4, Option.bind_some]
    have e5 : (pre ++ [p]).length + 1 = pre.length + 1 + 1 := by simp
    unfold mkR
    by_cases h : x = p
    · rw [show (x != p) = false by simp [h], cond_false, if_pos h, ih out (by omega), e5, h]
    · rw [show (x != p) = true by simpa using h, cond_true, if_neg h, show Nat.ble 1 2 = true from rfl, ble_lim (by simp; omega), Bool.and_self, cond_true]
      rw [show List.append out [(((pre.length + 1 : Nat) : Int), (x, ()))] = out ++ [(((pre.length + 1 : Nat) : Int), (x, ()))] from rfl, ih _ (by simp; omega), e5]
      simp
theorem Made_eq8 (v : List Int) (hl : v.length ≤ 1000000) : cref08_Made v = some (madeR v) := by
  show nref08_Made (iterV (gref08_Made_0 big) big) v = _
  unfold nref08_Made
  rw [big_pos, iterV_succ]
  show href08_Made_0 _ _ = _
  unfold href08_Made_0
  dsimp only
  cases v with
  | nil => rfl
  | cons x t =>
    simp only [List.length_cons] at hl
    rw [decide_eq_true (show (0 : Int) < ((x :: t).length : Int) by simp only [List.length_cons]; omega), cond_true, show ((0 : Int) == 0) = true from rfl, cond_true, tget0, Option.bind_some, show Nat.ble 1 2 = true from rfl, ble_lim (by simp), Bool.and_self, cond_true]
    exact made_loop big t [] x [(0, x, ())] (big - 1) (by simp; omega) (by simp only [List.length_cons, List.length_nil]; omega) (by have := tbig (n := t.length + 1) (by omega); omega)
def makeR (v : List Int) : List Rn × Int := if v.length < 1 ∨ v.length > 200 then ([], 2) else (madeR v, 0)
theorem rMake_eq8 (v : List Int) : cref08_Make v = some (makeR v) := by
  show nref08_Make v = _
  unfold nref08_Make makeR
  by_cases h1 : v.length < 1
  · rw [decide_eq_true (by omega), if_pos (.inl h1)]; rfl
  by_cases h2 : v.length > 200
  · rw [decide_eq_false (by omega), decide_eq_true (by omega), if_pos (.inr h2)]; rfl
  rw [decide_eq_false (by omega), decide_eq_false (by omega), if_neg (by omega), Made_eq8 v (by omega)]
  rfl

/-! ### bytes -/
def segR : Int → List Rn → List Int
  | _, [] => []
  | w, r :: l => vary (r.1 - w).toNat ++ (vary r.2.1.toNat ++ segR r.1 l)
def codedR (l : List Rn) : List Int := vary l.length ++ segR 0 l
def V64 (l : List Rn) : Prop := ∀ r ∈ l, 0 ≤ r.2.1 ∧ r.2.1 < 18446744073709551616

theorem coded_loop (N : Nat) {n : Int} (hn : n ≤ 200) : ∀ (t pre : List Rn) (f v : Int) (out : List Int) (M : Nat), inc f v t n = true → -1 ≤ f → (∀ r ∈ t, 0 ≤ r.2.1 ∧ r.2.1 < 18446744073709551616) → pre.length + t.length ≤ 1000000 → out.length + 20 * t.length ≤ 1000000 → t.length < M → ∀ w : Int, (0 ≤ w ∧ w ≤ 200 ∧ (w ≤ f + 1)) → iterV (gref08_Coded_0 N) M (pre ++ t, w, ((pre.length : Nat) : Int), out) = some (out ++ segR w t)
  | [], pre, f, v, out, M + 1, hi, hf, hv, hl, ho, hM, w, hw => by
    rw [iterV_succ]
    show href08_Coded_0 _ _ = _
    unfold href08_Coded_0
    dsimp only
    rw [decide_eq_false (by simp), cond_false]
    simp [segR]
  | r :: t, pre, f, v, out, M + 1, hi, hf, hv, hl, ho, hM, w, hw => by
    rw [iterV_succ]
    show href08_Coded_0 _ _ = _
    unfold href08_Coded_0
    dsimp only
    simp only [List.length_cons] at hl ho hM
    obtain ⟨⟨h1, h2, h3⟩, h4⟩ := inc_cons.1 hi
    have hr := hv r (by simp)
    have e4 : IntKind.i64.wrap (((pre.length : Nat) : Int) + 1) = (((pre ++ [r]).length : Nat) : Int) := by rw [t64 (by omega) (by omega)]; simp
    have ea : IntKind.u64.wrap (IntKind.i64.wrap (r.1 - w)) = (((r.1 - w).toNat : Nat) : Int) := by rw [t64 (by omega) (by omega), wrap_u64]; omega
    have eb : cref02_Minimal r.2.1 = some (vary r.2.1.toNat) := by
      have := minimal_eq r.2.1.toNat (by omega)
      rwa [Int.toNat_of_nonneg hr.1] at this
    have la := vary_len (r.1 - w).toNat
    have lb := vary_len r.2.1.toNat
    have ih := coded_loop N hn t (pre ++ [r]) r.1 r.2.1 (out ++ vary (r.1 - w).toNat ++ vary r.2.1.toNat) M h4 (by omega) (fun x hx => hv x (by simp [hx])) (by simp; omega) (by simp only [List.length_append]; omega) (by omega) r.1 (by omega)
    simp only [List.append_assoc, List.singleton_append] at ih
    rw [decide_eq_true (show ((pre.length : Nat) : Int) < ((pre ++ r :: t).length : Int) by simp; omega), cond_true]
    simp only [tget rfl, Option.bind_some, e4, ea, minimal_eq _ (show (r.1 - w).toNat < 18446744073709551616 by omega), eb]
    rw [b11, ble_lim (by omega), Bool.and_self, cond_true, show List.append out (vary (r.1 - w).toNat) = out ++ vary (r.1 - w).toNat from rfl, ble_lim (by simp only [List.length_append]; omega), Bool.and_self, cond_true]
    rw [show List.append (out ++ vary (r.1 - w).toNat) (vary r.2.1.toNat) = out ++ (vary (r.1 - w).toNat ++ vary r.2.1.toNat) by simp]
    rw [ih]
    simp [segR]
theorem Coded_eq8 {l : List Rn} {n : Int} (h : fineR l n = true) (hn : n ≤ 200) (hv : V64 l) : cref08_Coded l = some (codedR l) := by
  have hlen : l.length ≤ 200 := by
    have h0 : 0 < n := by
      cases l with
      | nil => cases h
      | cons r t => simp only [fineR, Bool.and_eq_true, decide_eq_true_eq] at h; exact h.1.2
    have := fineR_len (l := l) (n := n.toNat) (by rw [Int.toNat_of_nonneg (by omega)]; exact h)
    omega
  show nref08_Coded (iterV (gref08_Coded_0 big) big) l = _
  unfold nref08_Coded
  dsimp only
  have la := vary_len l.length
  rw [show IntKind.u64.wrap (l.length : Int) = (l.length : Int) by rw [wrap_u64]; omega, minimal_eq _ (by omega), Option.bind_some]
  have hinc : ∃ v, inc (-1) v l n = true := by
    cases l with
    | nil => exact ⟨0, rfl⟩
    | cons r t =>
      simp only [fineR, Bool.and_eq_true, decide_eq_true_eq] at h
      refine ⟨r.2.1 - 1, inc_cons.2 ⟨⟨by omega, by omega, by omega⟩, by rw [h.1.1]; exact h.2⟩⟩
  obtain ⟨v, hinc⟩ := hinc
  exact coded_loop big hn l [] (-1) v (vary l.length) big hinc (by omega) hv (by simp; omega) (by omega) (tbig (by omega)) 0 (by omega)
def encR (l : List Rn) (n : Int) : List Int × Int := if checkR l n ≠ 0 then ([], checkR l n) else (codedR l, 0)
theorem rEncode_eq8 (l : List Rn) (n : Int) (hl : l.length ≤ 9223372036854775807) (hv : V64 l) : cref08_Encode (l, n) = some (encR l n) := by
  show nref08_Encode (l, n) = _
  unfold nref08_Encode encR
  dsimp only
  rw [rCheck_eq8 l n hl, Option.bind_some]
  by_cases h : checkR l n = 0
  · have hn := checkR_zero.1 h
    rw [h, show ((0 : Int) != 0) = false from rfl, cond_false, if_neg (by simp), Coded_eq8 hn.2 hn.1.2 hv]
    rfl
  · rw [show (checkR l n != 0) = true by simpa using h, cond_true, if_pos h]
end Go.Proofs.Ytlljcjapefljeaa
