/- What the functions of package wire compute. -/
import Derived.Test.YtdhlomachkionabWireA
import Derived.Test.YtdhlomachkionabBase
set_option linter.unusedVariables false
set_option linter.unusedSimpArgs false
set_option maxRecDepth 100000
namespace Go.Proofs.Ytdhlomachkionab
open Go.Lift

theorem lim_eq : lim = 68719476736 := rfl
theorem maxLen_eq : maxLen = 9223372036854775807 := by decide
theorem big_lt {n : Nat} (h : n ≤ maxLen) : n < big := by
  have : maxLen < big := by decide
  omega

theorem b11 : Nat.ble 1 1 = true := rfl
theorem ble_lim {n : Nat} (h : n ≤ 68719476736) : Nat.ble n lim = true := Nat.ble_eq_true_of_le h

/-! ### joined -/
def join2 (acc : List Int) (x : List Int) (k : List Int → Option (List Int)) : Option (List Int) := if acc.length + x.length ≤ 68719476736 then k (acc ++ x) else none

theorem fold2 : ∀ (xs : List (List Int)) (acc : List Int), acc.length + xs.flatten.length ≤ 68719476736 → foldC (fun x s k => join2 s x k) some xs acc = some (acc ++ xs.flatten)
  | [], acc, _ => by simp [foldC]
  | x :: r, acc, h => by
    simp only [List.flatten_cons, List.length_append] at h
    show join2 acc x (foldC (fun x s k => join2 s x k) some r) = _
    rw [join2, if_pos (by omega), fold2 r (acc ++ x) (by rw [List.length_append]; omega)]
    simp

theorem joined_loop (xs : List (List Int)) (hx : xs.length ≤ maxLen) (mk : (α : Type) → Nat → α → List α) (self0) (acc : List Int) (h : acc.length + xs.flatten.length ≤ 68719476736) :
    iterV (gwire_joined_1 mk big self0) big (xs, (xs.length : Int), (0 : Int), acc) = some (acc ++ xs.flatten) := by
  rw [← fold2 xs acc h]
  refine range_run (xs := xs) (fun (s : List Int) i => (xs, (xs.length : Int), (i : Int), s)) (fun x s k => join2 s x k) some ?_ ?_ xs.length 0 big (by omega) (big_lt hx) acc
  · intro self s
    simp [gwire_joined_1, hwire_joined_1]
  · intro self s i hi
    have h1 : decide ((i : Int) < (xs.length : Int)) = true := by simp; omega
    simp only [gwire_joined_1, hwire_joined_1, h1, cond_true, getI_at hi, Option.bind_some, wrap_succ hi hx, join2]
    by_cases hl : s.length + (xs[i]).length ≤ 68719476736
    · rw [if_pos hl]
      have : Nat.ble (s.length + (xs[i]).length) lim = true := Nat.ble_eq_true_of_le (by rw [lim_eq]; exact hl)
      simp [this, b11]
    · rw [if_neg hl]
      have : Nat.ble (s.length + (xs[i]).length) lim = false := by
        cases hb : Nat.ble (s.length + (xs[i]).length) lim with
        | false => rfl
        | true => exact absurd (Nat.le_of_ble_eq_true hb) (by rw [lim_eq]; exact hl)
      simp [this]

theorem fold1 (fin : Int → Option (List Int)) : ∀ (xs : List (List Int)) (s : Nat), s + xs.flatten.length ≤ 68719476736 → foldC (fun (x : List Int) (s : Int) k => k (IntKind.i64.wrap (s + (x.length : Int)))) fin xs (s : Int) = fin ((s + xs.flatten.length : Nat) : Int)
  | [], s, _ => by simp [foldC]
  | x :: r, s, h => by
    simp only [List.flatten_cons, List.length_append] at h
    simp only [foldC]
    rw [wrap_i64 (by omega) (by omega)]
    have := fold1 fin r (s + x.length) (by omega)
    rw [Int.natCast_add] at this
    rw [this]
    congr 2
    simp
    omega

theorem joined_eq (xs : List (List Int)) (hx : xs.length ≤ maxLen) (h : xs.flatten.length ≤ 68719476736) : cwire_joined xs = some xs.flatten := by
  show iterV (gwire_joined_0 (fun _ => List.replicate) big) big (xs, (0 : Int), xs, (xs.length : Int), (0 : Int)) = some xs.flatten
  have key := range_run (xs := xs) (g := gwire_joined_0 (fun _ => List.replicate) big) (fun (s : Int) i => (xs, s, xs, (xs.length : Int), (i : Int))) (fun (x : List Int) (s : Int) k => k (IntKind.i64.wrap (s + (x.length : Int))))
    (fun s => if 0 ≤ s ∧ s ≤ 68719476736 then some xs.flatten else none) ?_ ?_ xs.length 0 big (by omega) (big_lt hx) 0
  · refine key.trans ?_
    have := fold1 (fun s => if 0 ≤ s ∧ s ≤ 68719476736 then some xs.flatten else none) xs 0 (by omega)
    rw [List.drop_zero]
    refine this.trans ?_
    rw [if_pos (by omega)]
  · intro self s
    have h1 : decide ((xs.length : Int) < (xs.length : Int)) = false := by simp
    simp only [gwire_joined_0, hwire_joined_0, h1, cond_false]
    have := joined_loop xs hx (fun _ => List.replicate) self [] (by simpa using h)
    by_cases hs : 0 ≤ s ∧ s ≤ 68719476736
    · rw [if_pos hs]
      simpa [hs.1, hs.2] using this
    · rw [if_neg hs]
      by_cases h0 : 0 ≤ s
      · have : ¬ s ≤ 68719476736 := fun hh => hs ⟨h0, hh⟩
        simp [h0, this]
      · simp [h0]
  · intro self s i hi
    have h1 : decide ((i : Int) < (xs.length : Int)) = true := by simp; omega
    simp only [gwire_joined_0, hwire_joined_0, h1, cond_true, getI_at hi, Option.bind_some, wrap_succ hi hx]

theorem joined1 (x : List Int) (h : x.length ≤ 68719476736) : cwire_joined [x] = some x := by
  have := joined_eq [x] (by simp [maxLen_eq]) (by simpa using h)
  simpa using this
theorem joined2 (x y : List Int) (h : x.length + y.length ≤ 68719476736) : cwire_joined [x, y] = some (x ++ y) := by
  have := joined_eq [x, y] (by simp [maxLen_eq]) (by simpa using h)
  simpa using this

/-! ### minimal numbers -/
def varyF : Nat → Nat → List Int
  | 0, n => [(n : Int)]
  | k + 1, n => if n < 128 then [(n : Int)] else ((n % 128 + 128 : Nat) : Int) :: varyF k (n / 128)
def vary (n : Nat) : List Int := varyF 9 n

theorem varyF_len : ∀ (k n : Nat), 1 ≤ (varyF k n).length ∧ (varyF k n).length ≤ k + 1
  | 0, n => by simp [varyF]
  | k + 1, n => by
    simp only [varyF]
    split
    · simp
    · have := varyF_len k (n / 128)
      simp; omega
theorem vary_len (n : Nat) : 1 ≤ (vary n).length ∧ (vary n).length ≤ 10 := varyF_len 9 n

theorem or128 (n : Nat) : (n % 256) ||| 128 = n % 128 + 128 := by
  have h : ∀ m, m < 256 → m ||| 128 = m % 128 + 128 := by decide +kernel
  rw [h _ (Nat.mod_lt _ (by decide))]
  omega

theorem vary_loop : ∀ (k N n last : Nat) (ds : List Int), last + k = 9 → ds.length = 10 → n < 128 ^ (k + 1) → k < N → n < 18446744073709551616 → iterV (gwire_Vary_0 big) N ((n : Int), (last : Int), ds) = some (ds.take last ++ varyF k n)
  | k, 0, n, last, ds, _, _, _, h, _ => by omega
  | k, N + 1, n, last, ds, hl, hd, hn, hN, h64 => by
    rw [iterV_succ]
    simp only [gwire_Vary_0, hwire_Vary_0]
    have hc : (decide ((0 : Int) ≤ (last : Int)) && decide ((last : Int) < (10 : Int))) = true := by simp; omega
    have hw : IntKind.i64.wrap ((last : Int) + 1) = ((last + 1 : Nat) : Int) := by rw [wrap_i64 (by omega) (by omega)]; simp
    have hset : ∀ x : Int, (List.set ds last x).take (last + 1) = ds.take last ++ [x] := by
      intro x
      exact take_set_self ds last x (by omega)
    by_cases h : n < 128
    · have h1 : decide ((n : Int) ≥ (128 : Int)) = false := by simp; omega
      have hv : IntKind.u8.wrap (n : Int) = (n : Int) := by rw [wrap_u8]; omega
      have hc2 : (decide ((0 : Int) ≤ ((last + 1 : Nat) : Int)) && decide (((last + 1 : Nat) : Int) ≤ ((List.set ds last (n : Int)).length : Int))) = true := by simp; omega
      simp only [h1, cond_false, hc, cond_true, hw, hv, Int.toNat_natCast, hc2, hset]
      rw [joined1 _ (by simp; omega)]
      have : varyF k n = [(n : Int)] := by cases k <;> simp [varyF, h]
      simp [this]
    · have h1 : decide ((n : Int) ≥ (128 : Int)) = true := by simp; omega
      cases k with
      | zero => simp at hn; omega
      | succ k =>
        have hv : bits .or .u8 (IntKind.u8.wrap (n : Int)) (128 : Int) = ((n % 128 + 128 : Nat) : Int) := by
          have : IntKind.u8.wrap (n : Int) = ((n % 256 : Nat) : Int) := by rw [wrap_u8]; simp
          rw [this, ← or128]
          exact bits_or (b := 128) rfl (Nat.mod_lt _ (by decide)) (by decide)
        simp only [h1, cond_true, hc, hw, hv, Int.toNat_natCast]
        rw [fdiv_nat n 7, vary_loop k N (n / 2 ^ 7) (last + 1) _ (by omega) (by simpa using hd) (by rw [Nat.pow_succ] at hn; omega) (by omega) (by omega), hset]
        simp [varyF, h]

theorem vary_eq (n : Nat) (h : n < 18446744073709551616) : cwire_Vary (n : Int) = some (vary n) := by
  have := vary_loop 9 big n 0 (List.replicate 10 0) rfl (by simp) (by simp; omega) (by decide) h
  rw [List.take_zero, List.nil_append] at this
  exact this

/-! ### texts, cursors -/
theorem text_eq (s : List Int) : cwire_Text s = some (if s.length > 200000 then ([], 4) else (vary s.length ++ s, 0)) := by
  simp only [cwire_Text, mwire_Text, nwire_Text]
  by_cases h : s.length > 200000
  · have h1 : decide ((s.length : Int) > (200000 : Int)) = true := by simp; omega
    simp [h1, h]
  · have h1 : decide ((s.length : Int) > (200000 : Int)) = false := by simp; omega
    have hw : IntKind.u64.wrap (s.length : Int) = ((s.length : Nat) : Int) := by rw [wrap_u64]; omega
    have hv := vary_len s.length
    simp only [h1, cond_false, hw, vary_eq s.length (by omega), Option.bind_some, joined2 _ _ (show (vary s.length).length + s.length ≤ 68719476736 by omega), if_neg h]

abbrev Cur := List Int × Int × Unit
def Valid (c : Cur) : Prop := c.1.length ≤ 200000 ∧ 0 ≤ c.2.1 ∧ c.2.1 ≤ c.1.length
instance (c : Cur) : Decidable (Valid c) := by unfold Valid; infer_instance

theorem valid_eq (c : Cur) : cwire_valid c = some (decide (Valid c)) := by
  simp only [cwire_valid, mwire_valid, nwire_valid, Valid]
  by_cases h1 : c.1.length ≤ 200000
  · by_cases h2 : 0 ≤ c.2.1
    · simp [h1, h2, show ((c.1.length : Int) ≤ 200000) by omega]
    · simp [h1, h2, show ((c.1.length : Int) ≤ 200000) by omega]
  · simp [h1, show ¬ ((c.1.length : Int) ≤ 200000) by omega]

theorem left_eq (c : Cur) (h : Valid c) : cwire_left c = some ((c.1.length : Int) - c.2.1) := by
  obtain ⟨h1, h2, h3⟩ := h
  simp only [cwire_left, mwire_left, nwire_left]
  rw [wrap_i64 (by omega) (by omega)]

def wide (w : Int) : Bool := w == 1 || (w == 2 || (w == 4 || w == 8))
theorem isWidth_eq (w : Int) : cwire_isWidth w = some (wide w) := by
  simp only [cwire_isWidth, mwire_isWidth, nwire_isWidth, wide]
  cases w == 1 <;> cases w == 2 <;> cases w == 4 <;> rfl
theorem wide_cases {w : Int} (h : wide w = true) : ∃ k : Nat, w = (k : Int) ∧ (k = 1 ∨ k = 2 ∨ k = 4 ∨ k = 8) := by
  simp only [wide, Bool.or_eq_true, beq_iff_eq] at h
  rcases h with h | h | h | h
  · exact ⟨1, h, .inl rfl⟩
  · exact ⟨2, h, .inr (.inl rfl)⟩
  · exact ⟨4, h, .inr (.inr (.inl rfl))⟩
  · exact ⟨8, h, .inr (.inr (.inr rfl))⟩

/-! ### fixed numbers -/
def little : Nat → Nat → List Int
  | 0, _ => []
  | k + 1, n => ((n % 256 : Nat) : Int) :: little k (n / 256)
theorem little_len : ∀ (k n : Nat), (little k n).length = k
  | 0, _ => rfl
  | k + 1, n => by simp [little, little_len k]
theorem little_add : ∀ (j k n : Nat), little (j + k) n = little j n ++ little k (n / 256 ^ j)
  | 0, k, n => by simp [little]
  | j + 1, k, n => by
    rw [show j + 1 + k = (j + k) + 1 by omega]
    simp only [little, little_add j k, List.cons_append]
    rw [Nat.div_div_eq_div_mul, Nat.pow_succ, Nat.mul_comm 256]

theorem fixed_loop (mk : (α : Type) → Nat → α → List α) (n w : Nat) (hw : w ≤ 8) (hn : n < 18446744073709551616) : ∀ (k N i : Nat) (b : List Int), i + k = w → b.length = w → k < N →
    iterV (gwire_Fixed_0 mk big) N ((n : Int), (w : Int), (i : Int), b) = some (b.take i ++ little k (n / 256 ^ i), 0)
  | k, 0, i, b, _, _, h => by omega
  | 0, N + 1, i, b, hi, hb, _ => by
    have : i = w := by omega
    subst this
    rw [iterV_succ]
    simp [gwire_Fixed_0, hwire_Fixed_0, little, List.take_of_length_le (Nat.le_of_eq hb)]
  | k + 1, N + 1, i, b, hi, hb, hN => by
    rw [iterV_succ]
    have h1 : decide ((i : Int) < (w : Int)) = true := by simp; omega
    have h8 : IntKind.i64.wrap ((8 : Int) * (i : Int)) = ((8 * i : Nat) : Int) := by rw [wrap_i64 (by omega) (by omega)]; simp
    have h2 : decide (((8 * i : Nat) : Int) < 0) = false := decide_eq_false (by omega)
    have h3 : min (8 * i) 64 = 8 * i := by omega
    have h4 : (decide ((0 : Int) ≤ (i : Int)) && decide ((i : Int) < (b.length : Int))) = true := by simp; omega
    have h5 : IntKind.i64.wrap ((i : Int) + 1) = ((i + 1 : Nat) : Int) := by rw [wrap_i64 (by omega) (by omega)]; simp
    have h6 : (2 : Nat) ^ (8 * i) = 256 ^ i := by rw [Nat.pow_mul]
    have h7 : IntKind.u8.wrap ((n / 256 ^ i : Nat) : Int) = ((n / 256 ^ i % 256 : Nat) : Int) := by rw [wrap_u8]; simp
    simp only [gwire_Fixed_0, hwire_Fixed_0, h1, cond_true, h8, h2, cond_false, Int.toNat_natCast, h3, fdiv_nat, h4, h5, h6, h7]
    rw [fixed_loop mk n w hw hn k N (i + 1) _ (by omega) (by simpa using hb) (by omega)]
    rw [take_set_self b i _ (by omega)]
    simp only [little, Nat.div_div_eq_div_mul, ← Nat.pow_succ]
    simp

/-- how many numbers there are of a width -/
def Fits (n w : Nat) : Prop := w = 8 ∨ n < 256 ^ w
theorem fixed_eq (n : Nat) (w : Int) (hn : n < 18446744073709551616) : cwire_Fixed ((n : Int), w) = some (if wide w = true ∧ n < 256 ^ w.toNat then (little w.toNat n, 0) else ([], 2)) := by
  show nwire_Fixed (fun _ => List.replicate) (iterV (gwire_Fixed_0 (fun _ => List.replicate) big) big) ((n : Int), w) = _
  simp only [nwire_Fixed, isWidth_eq, Option.bind_some]
  cases hw : wide w with
  | false => simp
  | true =>
    obtain ⟨k, rfl, hk⟩ := wide_cases hw
    have h8 : IntKind.i64.wrap ((8 : Int) * (k : Int)) = ((8 * k : Nat) : Int) := by rw [wrap_i64 (by omega) (by omega)]; simp
    have h2 : decide (((8 * k : Nat) : Int) < 0) = false := decide_eq_false (by omega)
    have h3 : min (8 * k) 64 = 8 * k := by omega
    have h6 : (2 : Nat) ^ (8 * k) = 256 ^ k := by rw [Nat.pow_mul]
    simp only [Bool.not_true, cond_false, h8, h2, Int.toNat_natCast, h3, fdiv_nat, h6]
    by_cases hlt : n < 256 ^ k
    · have h0 : n / 256 ^ k = 0 := Nat.div_eq_of_lt hlt
      have h4 : (decide ((0 : Int) ≤ (k : Int)) && (decide ((k : Int) ≤ (k : Int)) && (decide ((k : Int) ≤ (68719476736 : Int)) && true))) = true := by simp; omega
      have := fixed_loop (fun _ => List.replicate) n k (by omega) hn k big 0 (List.replicate k 0) (by omega) (by simp) (big_lt (by rw [maxLen_eq]; omega))
      have h9 : (((0 : Nat) : Int) != (0 : Int)) = false := rfl
      simp only [h0, h9, cond_false, h4, cond_true, List.length_replicate]
      refine Eq.trans this ?_
      simp [hlt]
    · have h0 : n / 256 ^ k ≠ 0 := by
        intro h
        rcases (Nat.div_eq_zero_iff).1 h with h | h
        · have : 0 < 256 ^ k := Nat.pow_pos (by decide)
          omega
        · exact hlt h
      have h1 : (((n / 256 ^ k : Nat) : Int) != (0 : Int)) = true := by rw [bne_iff_ne]; omega
      rw [h1]
      simp [hlt]

theorem alive_true : claw02_alive () = some true := by kernel_rfl
end Go.Proofs.Ytdhlomachkionab
