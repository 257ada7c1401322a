/- Layer 2 -/
import Derived.Test.YtmioekkonoehpaaScrL
import Derived.Test.YtmioekkonoehpaaBase
set_option linter.unusedVariables false
set_option linter.unusedSimpArgs false
set_option maxRecDepth 100000
namespace Go.Proofs.Ytmioekkonoehpaa
open Go.Lift
theorem lim_eq : lim = 68719476736 := rfl
theorem maxLen_eq : maxLen = 9223372036854775807 := by decide
theorem big_lt {n : Nat} (h : n ≤ maxLen) : n < big := by
  have : maxLen < big := by decide
  omega
theorem b11 : Nat.ble 1 1 = true := rfl
theorem ble_lim {n : Nat} (h : n ≤ 68719476736) : Nat.ble n lim = true := Nat.ble_eq_true_of_le h
def join2 (acc : List Int) (x : List Int) (k : List Int → Option (List Int)) : Option (List Int) := if acc.length + x.length ≤ 68719476736 then k (acc ++ x) else none
theorem fold2 : ∀ (xs : List (List Int)) (acc : List Int), acc.length + xs.flatten.length ≤ 68719476736 → foldC (fun x s k => join2 s x k) some xs acc = some (acc ++ xs.flatten)
  | [], acc, _ => by simp [foldC]
  | x :: r, acc, h => by
    simp only [List.flatten_cons, List.length_append] at h
    show join2 acc x (foldC (fun x s k => join2 s x k) some r) = _
    rw [join2, if_pos (by omega), fold2 r (acc ++ x) (by rw [List.length_append]; omega)]
    simp
theorem joined_loop (xs : List (List Int)) (hx : xs.length ≤ maxLen) (mk : (α : Type) → Nat → α → List α) (self0) (acc : List Int) (h : acc.length + xs.flatten.length ≤ 68719476736) :
    iterV (gwire_joined_1 mk big self0) big (xs, (xs.length : Int), (0 : Int), acc) = some (acc ++ xs.flatten) := by
  rw [← fold2 xs acc h]
  refine range_run (xs := xs) (fun (s : List Int) i => (xs, (xs.length : Int), (i : Int), s)) (fun x s k => join2 s x k) some ?_ ?_ xs.length 0 big (by omega) (big_lt hx) acc
  · intro self s
    simp [gwire_joined_1, hwire_joined_1]
  · intro self s i hi
    have h1 : decide ((i : Int) < (xs.length : Int)) = true := by simp; omega
    simp only [gwire_joined_1, hwire_joined_1, h1, cond_true, getI_at hi, Option.bind_some, wrap_succ hi hx, join2]
    by_cases hl : s.length + (xs[i]).length ≤ 68719476736
    · rw [if_pos hl]
      have : Nat.ble (s.length + (xs[i]).length) lim = true := Nat.ble_eq_true_of_le (by rw [lim_eq]; exact hl)
      simp [this, b11]
    · rw [if_neg hl]
      have : Nat.ble (s.length + (xs[i]).length) lim = false := by
        cases hb : Nat.ble (s.length + (xs[i]).length) lim with
        | false => rfl
        | true => exact absurd (Nat.le_of_ble_eq_true hb) (by rw [lim_eq]; exact hl)
      simp [this]
theorem fold1 (fin : Int → Option (List Int)) : ∀ (xs : List (List Int)) (s : Nat), s + xs.flatten.length ≤ 68719476736 → foldC (fun (x : List Int) (s : Int) k => k (IntKind.i64.wrap (s + (x.length : Int)))) fin xs (s : Int) = fin ((s + xs.flatten.length : Nat) : Int)
  | [], s, _ => by simp [foldC]
  | x :: r, s, h => by
    simp only [List.flatten_cons, List.length_append] at h
    simp only [foldC]
    rw [wrap_i64 (by omega) (by omega)]
    have := fold1 fin r (s + x.length) (by omega)
    rw [Int.natCast_add] at this
    rw [this]
    congr 2
    simp
    omega
theorem joined_eq (xs : List (List Int)) (hx : xs.length ≤ maxLen) (h : xs.flatten.length ≤ 68719476736) : cwire_joined xs = some xs.flatten := by
  show iterV (gwire_joined_0 (fun _ => List.replicate) big) big (xs, (0 : Int), xs, (xs.length : Int), (0 : Int)) = some xs.flatten
  have key := range_run (xs := xs) (g := gwire_joined_0 (fun _ => List.replicate) big) (fun (s : Int) i => (xs, s, xs, (xs.length : Int), (i : Int))) (fun (x : List Int) (s : Int) k => k (IntKind.i64.wrap (s + (x.length : Int))))
    (fun s => if 0 ≤ s ∧ s ≤ 68719476736 then some xs.flatten else none) ?_ ?_ xs.length 0 big (by omega) (big_lt hx) 0
  · refine key.trans ?_
    have := fold1 (fun s => if 0 ≤ s ∧ s ≤ 68719476736 then some xs.flatten else none) xs 0 (by omega)
    rw [List.drop_zero]
    refine this.trans ?_
    rw [if_pos (by omega)]
  · intro self s
    have h1 : decide ((xs.length : Int) < (xs.length : Int)) = false := by simp
    simp only [gwire_joined_0, hwire_joined_0, h1, cond_false]
    have := joined_loop xs hx (fun _ => List.replicate) self [] (by simpa using h)
    by_cases hs : 0 ≤ s ∧ s ≤ 68719476736
    · rw [if_pos hs]
      simpa [hs.1, hs.2] using this
    · rw [if_neg hs]
      by_cases h0 : 0 ≤ s
      · have : ¬ s ≤ 68719476736 := fun hh => hs ⟨h0, hh⟩
        simp [h0, this]
      · simp [h0]
  · intro self s i hi
    have h1 : decide ((i : Int) < (xs.length : Int)) = true := by simp; omega
    simp only [gwire_joined_0, hwire_joined_0, h1, cond_true, getI_at hi, Option.bind_some, wrap_succ hi hx]
theorem joined1 (x : List Int) (h : x.length ≤ 68719476736) : cwire_joined [x] = some x := by
  have := joined_eq [x] (by simp [maxLen_eq]) (by simpa using h)
  simpa using this
def varyF : Nat → Nat → List Int
  | 0, n => [(n : Int)]
  | k + 1, n => if n < 128 then [(n : Int)] else ((n % 128 + 128 : Nat) : Int) :: varyF k (n / 128)
def vary (n : Nat) : List Int := varyF 9 n
theorem varyF_len : ∀ (k n : Nat), 1 ≤ (varyF k n).length ∧ (varyF k n).length ≤ k + 1
  | 0, n => by simp [varyF]
  | k + 1, n => by
    simp only [varyF]
    split
    · simp
    · have := varyF_len k (n / 128)
      simp; omega
theorem vary_len (n : Nat) : 1 ≤ (vary n).length ∧ (vary n).length ≤ 10 := varyF_len 9 n
theorem or128 (n : Nat) : (n % 256) ||| 128 = n % 128 + 128 := by
  have h : ∀ m, m < 256 → m ||| 128 = m % 128 + 128 := by decide +kernel
  rw [h _ (Nat.mod_lt _ (by decide))]
  omega
theorem vary_loop : ∀ (k N n last : Nat) (ds : List Int), last + k = 9 → ds.length = 10 → n < 128 ^ (k + 1) → k < N → n < 18446744073709551616 → iterV (gwire_Vary_0 big) N ((n : Int), (last : Int), ds) = some (ds.take last ++ varyF k n)
  | k, 0, n, last, ds, _, _, _, h, _ => by omega
  | k, N + 1, n, last, ds, hl, hd, hn, hN, h64 => by
    rw [iterV_succ]
    simp only [gwire_Vary_0, hwire_Vary_0]
    have hc : (decide ((0 : Int) ≤ (last : Int)) && decide ((last : Int) < (10 : Int))) = true := by simp; omega
    have hw : IntKind.i64.wrap ((last : Int) + 1) = ((last + 1 : Nat) : Int) := by rw [wrap_i64 (by omega) (by omega)]; simp
    have hset : ∀ x : Int, (List.set ds last x).take (last + 1) = ds.take last ++ [x] := by
      intro x
      exact take_set_self ds last x (by omega)
    by_cases h : n < 128
    · have h1 : decide ((n : Int) ≥ (128 : Int)) = false := by simp; omega
      have hv : IntKind.u8.wrap (n : Int) = (n : Int) := by rw [wrap_u8]; omega
      have hc2 : (decide ((0 : Int) ≤ ((last + 1 : Nat) : Int)) && decide (((last + 1 : Nat) : Int) ≤ ((List.set ds last (n : Int)).length : Int))) = true := by simp; omega
      simp only [h1, cond_false, hc, cond_true, hw, hv, Int.toNat_natCast, hc2, hset]
      rw [joined1 _ (by simp; omega)]
      have : varyF k n = [(n : Int)] := by cases k <;> simp [varyF, h]
      simp [this]
    · have h1 : decide ((n : Int) ≥ (128 : Int)) = true := by simp; omega
      cases k with
      | zero => simp at hn; omega
      | succ k =>
        have hv : bits .or .u8 (IntKind.u8.wrap (n : Int)) (128 : Int) = ((n % 128 + 128 : Nat) : Int) := by
          have : IntKind.u8.wrap (n : Int) = ((n % 256 : Nat) : Int) := by rw [wrap_u8]; simp
          rw [this, ← or128]
          exact bits_or (b := 128) rfl (Nat.mod_lt _ (by decide)) (by decide)
        simp only [h1, cond_true, hc, hw, hv, Int.toNat_natCast]
        rw [fdiv_nat n 7, vary_loop k N (n / 2 ^ 7) (last + 1) _ (by omega) (by simpa using hd) (by rw [Nat.pow_succ] at hn; omega) (by omega) (by omega), hset]
        simp [varyF, h]
theorem vary_eq (n : Nat) (h : n < 18446744073709551616) : cwire_Vary (n : Int) = some (vary n) := by
  have := vary_loop 9 big n 0 (List.replicate 10 0) rfl (by simp) (by simp; omega) (by decide) h
  rw [List.take_zero, List.nil_append] at this
  exact this
abbrev Cur := List Int × Int × Unit
def Valid (c : Cur) : Prop := c.1.length ≤ 200000 ∧ 0 ≤ c.2.1 ∧ c.2.1 ≤ c.1.length
instance (c : Cur) : Decidable (Valid c) := by unfold Valid; infer_instance
theorem valid_eq (c : Cur) : cwire_valid c = some (decide (Valid c)) := by
  simp only [cwire_valid, nwire_valid, Valid]
  by_cases h1 : c.1.length ≤ 200000
  · by_cases h2 : 0 ≤ c.2.1
    · simp [h1, h2, show ((c.1.length : Int) ≤ 200000) by omega]
    · simp [h1, h2, show ((c.1.length : Int) ≤ 200000) by omega]
  · simp [h1, show ¬ ((c.1.length : Int) ≤ 200000) by omega]
theorem left_eq (c : Cur) (h : Valid c) : cwire_left c = some ((c.1.length : Int) - c.2.1) := by
  obtain ⟨h1, h2, h3⟩ := h
  simp only [cwire_left, nwire_left]
  rw [wrap_i64 (by omega) (by omega)]
def rd : Nat → Nat → List Int → Nat × Nat × Int
  | 0, _, _ => (0, 0, 12)
  | _ + 1, _, [] => (0, 0, 24)
  | k + 1, p, b :: r =>
    if (p > 0 ∧ b = 0) ∨ (p = 9 ∧ b > 1) then (0, 0, 12)
    else if b < 128 then (b.toNat, 1, 0)
    else if (rd k (p + 1) r).2.2 = 0 then (b.toNat - 128 + 128 * (rd k (p + 1) r).1, (rd k (p + 1) r).2.1 + 1, 0) else (0, 0, (rd k (p + 1) r).2.2)
theorem rd_vary : ∀ (k p n : Nat) (rest : List Int), k + 1 + p = 10 → n < 2 ^ (64 - 7 * p) → (p > 0 → n ≠ 0) → rd (k + 1) p (varyF k n ++ rest) = (n, (varyF k n).length, 0)
  | 0, p, n, rest, hp, hn, h0 => by
    have : p = 9 := by omega
    subst this
    have hn' : n < 2 := hn
    have h1 : ¬ ((9 > 0 ∧ ((n : Int)) = 0) ∨ (9 = 9 ∧ (n : Int) > 1)) := by omega
    simp only [varyF, List.cons_append, List.nil_append]
    rw [rd, if_neg h1, if_pos (by omega)]
    simp
  | k + 1, p, n, rest, hp, hn, h0 => by
    by_cases h : n < 128
    · have h1 : ¬ ((p > 0 ∧ ((n : Int)) = 0) ∨ (p = 9 ∧ (n : Int) > 1)) := by omega
      simp only [varyF, if_pos h, List.cons_append, List.nil_append]
      rw [rd, if_neg h1, if_pos (by omega)]
      simp
    · have h1 : ¬ ((p > 0 ∧ (((n % 128 + 128 : Nat) : Int)) = 0) ∨ (p = 9 ∧ (((n % 128 + 128 : Nat) : Int)) > 1)) := by omega
      have e : 64 - 7 * p = (64 - 7 * (p + 1)) + 7 := by omega
      have ih := rd_vary k (p + 1) (n / 128) rest (by omega) (by rw [e, Nat.pow_add] at hn; omega) (by intro _; omega)
      simp only [varyF, if_neg h, List.cons_append]
      rw [rd, if_neg h1, if_neg (by omega), ih]
      simp only [if_true, List.length_cons, Int.toNat_natCast]
      congr 1
      omega
theorem rd_read : ∀ (k p : Nat) (bs : List Int), k + 1 + p = 10 → Bytes bs → (rd (k + 1) p bs).2.2 = 0 →
    varyF k (rd (k + 1) p bs).1 = bs.take (rd (k + 1) p bs).2.1 ∧ (rd (k + 1) p bs).1 < 2 ^ (64 - 7 * p) ∧ 1 ≤ (rd (k + 1) p bs).2.1 ∧ (rd (k + 1) p bs).2.1 ≤ bs.length ∧ (p > 0 → (rd (k + 1) p bs).1 ≠ 0)
  | k, p, [], _, _, h => by simp [rd] at h
  | k, p, b :: r, hp, hb, h => by
    have hbb := hb b (by simp)
    rw [rd] at h ⊢
    by_cases h1 : (p > 0 ∧ b = 0) ∨ (p = 9 ∧ b > 1)
    · rw [if_pos h1] at h; simp at h
    · rw [if_neg h1] at h ⊢
      by_cases h2 : b < 128
      · rw [if_pos h2] at h ⊢
        have e : varyF k b.toNat = [b] := by
          have : ((b.toNat : Nat) : Int) = b := Int.toNat_of_nonneg hbb.1
          cases k with
          | zero => simp [varyF, this]
          | succ k => simp [varyF, this, show b.toNat < 128 by omega]
        refine ⟨by simp [e], ?_, by simp, by simp, by simp only; omega⟩
        simp only
        by_cases h9 : p = 9
        · subst h9
          have : b.toNat < 2 := by omega
          simpa using this
        · have : 2 ^ 7 ≤ 2 ^ (64 - 7 * p) := Nat.pow_le_pow_right (by decide) (by omega)
          have : 2 ^ 7 = 128 := rfl
          omega
      · rw [if_neg h2] at h ⊢
        cases k with
        | zero => simp [rd] at h
        | succ k =>
          by_cases h3 : (rd (k + 1) (p + 1) r).2.2 = 0
          · have ih := rd_read k (p + 1) r (by omega) (fun c hc => hb c (by simp [hc])) h3
            rw [if_pos h3] at h ⊢
            obtain ⟨i1, i2, i3, i4, i5⟩ := ih
            generalize (rd (k + 1) (p + 1) r).1 = m at *
            generalize (rd (k + 1) (p + 1) r).2.1 = u at *
            have hm := i5 (by omega)
            have hge : ¬ (b.toNat - 128 + 128 * m < 128) := by omega
            have e1 : (b.toNat - 128 + 128 * m) % 128 + 128 = b.toNat := by omega
            have e2 : (b.toNat - 128 + 128 * m) / 128 = m := by omega
            have e3 : ((b.toNat : Nat) : Int) = b := Int.toNat_of_nonneg hbb.1
            have e : 64 - 7 * p = (64 - 7 * (p + 1)) + 7 := by omega
            refine ⟨?_, ?_, by simp, by simp; omega, by simp only; omega⟩
            · simp only [varyF, if_neg hge, e1, e2, e3, i1, List.take_succ_cons]
            · simp only
              rw [e, Nat.pow_add]
              omega
          · rw [if_neg h3] at h
            exact absurd h h3
def zc : Cur := ([], (0, ()))
def outc (bs : List Int) (a : Nat) (most : Int) (n p : Nat) (r : Nat × Nat × Int) : Cur × Int × Int :=
  if r.2.2 = 0 then (if ((n + r.1 * 128 ^ p : Nat) : Int) > most then (zc, 0, 4) else ((bs, (((a + r.2.1 : Nat) : Int), ())), ((n + r.1 * 128 ^ p : Nat) : Int), 0)) else (zc, 0, r.2.2)
theorem unvary_loop (bs : List Int) (most : Int) (hl : bs.length ≤ 200000) (hb : Bytes bs) : ∀ (k N n p a : Nat), k + p = 10 → k < N → n < 128 ^ p → a ≤ bs.length →
    iterV (gwire_Unvary_0 big) N ((n : Int), (p : Int), (bs, ((a : Int), ())), ((0 : Int), ()), ([] : List Int), most) = some (outc bs a most n p (rd k p (bs.drop a)))
  | k, 0, n, p, a, _, h, _, _ => by omega
  | 0, N + 1, n, p, a, hp, _, _, _ => by
    rw [iterV_succ]
    have h1 : decide ((p : Int) < (10 : Int)) = false := decide_eq_false (by omega)
    simp only [gwire_Unvary_0, hwire_Unvary_0, h1, cond_false]
    simp [outc, rd, zc]
  | k + 1, N + 1, n, p, a, hp, hN, hn, ha => by
    rw [iterV_succ]
    have h1 : decide ((p : Int) < (10 : Int)) = true := decide_eq_true (by omega)
    have hleft : cwire_left (bs, ((a : Int), ())) = some ((bs.length : Int) - (a : Int)) := left_eq _ ⟨hl, by simp, by simp; omega⟩
    simp only [gwire_Unvary_0, hwire_Unvary_0, h1, cond_true, hleft, Option.bind_some]
    by_cases he : a = bs.length
    · have h2 : (((bs.length : Int) - (a : Int)) == (0 : Int)) = true := by rw [beq_iff_eq]; omega
      have hd : bs.drop a = [] := by rw [he]; simp
      simp only [h2, cond_true, hd]
      simp [outc, rd, zc]
    · have hlt : a < bs.length := by omega
      have h2 : (((bs.length : Int) - (a : Int)) == (0 : Int)) = false := by rw [beq_eq_false_iff_ne]; omega
      have hd : bs.drop a = bs[a] :: bs.drop (a + 1) := List.drop_eq_getElem_cons hlt
      have hbb := hb bs[a] (List.getElem_mem hlt)
      have ha1 : IntKind.i64.wrap ((a : Int) + 1) = ((a + 1 : Nat) : Int) := by rw [wrap_i64 (by omega) (by omega)]; simp
      simp only [h2, cond_false, getI_at hlt, Option.bind_some, ha1]
      rw [hd]
      generalize hc : bs[a] = c at *
      obtain ⟨m, rfl⟩ := Int.eq_ofNat_of_zero_le hbb.1
      have hm : m ≤ 255 := by omega
      have h7 : IntKind.i64.wrap ((7 : Int) * (p : Int)) = ((7 * p : Nat) : Int) := by rw [wrap_i64 (by omega) (by omega)]; simp
      have h70 : decide (((7 * p : Nat) : Int) < 0) = false := decide_eq_false (by omega)
      have hmin : min (7 * p) 64 = 7 * p := by omega
      have hp1 : IntKind.i64.wrap ((p : Int) + 1) = ((p + 1 : Nat) : Int) := by rw [wrap_i64 (by omega) (by omega)]; simp
      have hmod : IntKind.u64.wrap ((m : Int).tmod (128 : Int)) = ((m % 128 : Nat) : Int) := by
        rw [Int.tmod_eq_emod_of_nonneg (by omega), wrap_u64]; omega
      have e128 : (2 : Nat) ^ (7 * p) = 128 ^ p := by rw [Nat.pow_mul]
      by_cases hbad : (p > 0 ∧ (m : Int) = 0) ∨ (p = 9 ∧ (m : Int) > 1)
      · -- a needless or too large digit
        have hr : rd (k + 1) p ((m : Int) :: bs.drop (a + 1)) = (0, 0, 12) := by rw [rd, if_pos hbad]
        rw [hr]
        rcases hbad with ⟨g1, g2⟩ | ⟨g1, g2⟩
        · have hp0 : decide ((p : Int) > (0 : Int)) = true := decide_eq_true (by omega)
          have hm0 : ((m : Int) == (0 : Int)) = true := by rw [beq_iff_eq]; exact g2
          simp only [hp0, cond_true, hm0]
          cases (p : Int) == 9 <;> simp [outc, zc]
        · have hp0 : decide ((p : Int) > (0 : Int)) = true := decide_eq_true (by omega)
          have hp9 : ((p : Int) == (9 : Int)) = true := by rw [beq_iff_eq]; omega
          have hm1 : decide ((m : Int) > (1 : Int)) = true := decide_eq_true g2
          have hm0 : ((m : Int) == (0 : Int)) = false := by rw [beq_eq_false_iff_ne]; omega
          simp only [hp0, cond_true, hp9, hm0, cond_false, hm1]
          simp [outc, zc]
      · -- all goes well
        have hsh : IntKind.u64.wrap (((m % 128 : Nat) : Int) * 2 ^ (7 * p)) = ((m % 128 * 128 ^ p : Nat) : Int) := by
          have h64 : m % 128 * 128 ^ p < 18446744073709551616 := by
            have hp9 : p ≤ 9 := by omega
            by_cases h9 : p = 9
            · subst h9
              have : m ≤ 1 := by omega
              have : m % 128 ≤ 1 := by omega
              calc m % 128 * 128 ^ 9 ≤ 1 * 128 ^ 9 := Nat.mul_le_mul_right _ this
                _ < 18446744073709551616 := by decide
            · have hpp : 128 ^ p ≤ 128 ^ 8 := Nat.pow_le_pow_right (by decide) (by omega)
              calc m % 128 * 128 ^ p ≤ 127 * 128 ^ 8 := Nat.mul_le_mul (by omega) hpp
                _ < 18446744073709551616 := by decide
          have e : (((m % 128 : Nat) : Int) * 2 ^ (7 * p)) = ((m % 128 * 128 ^ p : Nat) : Int) := by
            rw [Int.natCast_mul, ← e128, Int.natCast_pow]; rfl
          rw [e, wrap_u64]
          omega
        have hor : bits .or .u64 (n : Int) ((m % 128 * 128 ^ p : Nat) : Int) = ((n + m % 128 * 128 ^ p : Nat) : Int) := by
          have hn64 : n < 2 ^ 64 := by
            have : 128 ^ p ≤ 128 ^ 9 := Nat.pow_le_pow_right (by decide) (by omega)
            have : (128 : Nat) ^ 9 < 2 ^ 64 := by decide
            omega
          have h64 : m % 128 * 128 ^ p < 2 ^ 64 := by
            rw [wrap_u64] at hsh
            have : (((m % 128 : Nat) : Int) * 2 ^ (7 * p)) % 18446744073709551616 < 18446744073709551616 := Int.emod_lt_of_pos _ (by decide)
            rw [hsh] at this
            have e : (2 : Nat) ^ 64 = 18446744073709551616 := by decide
            omega
          rw [bits_or rfl hn64 h64, ← e128, or_high (by rw [e128]; exact hn)]
        have htail : (bif decide ((m : Int) < (128 : Int)) then (bif (decide ((bits .or .u64 (n : Int) ((m % 128 * 128 ^ p : Nat) : Int)) > most)) then (some ((([] : List Int), ((0 : Int), ())), (0 : Int), (4 : Int))) else (some ((bs, (((a + 1 : Nat) : Int), ())), (bits .or .u64 (n : Int) ((m % 128 * 128 ^ p : Nat) : Int)), (0 : Int))))
            else iterV (gwire_Unvary_0 big) N ((bits .or .u64 (n : Int) ((m % 128 * 128 ^ p : Nat) : Int)), ((p + 1 : Nat) : Int), (bs, (((a + 1 : Nat) : Int), ())), ((0 : Int), ()), ([] : List Int), most)) = some (outc bs a most n p (rd (k + 1) p ((m : Int) :: bs.drop (a + 1)))) := by
          rw [hor, rd, if_neg hbad]
          by_cases h128 : m < 128
          · have g1 : decide ((m : Int) < (128 : Int)) = true := decide_eq_true (by omega)
            rw [g1, cond_true, if_pos (by omega)]
            simp only [outc, if_true, Int.toNat_natCast, Nat.mod_eq_of_lt h128]
            by_cases hmost : ((n + m * 128 ^ p : Nat) : Int) > most
            · rw [if_pos hmost, decide_eq_true hmost]; rfl
            · rw [if_neg hmost, decide_eq_false hmost]; rfl
          · have g1 : decide ((m : Int) < (128 : Int)) = false := decide_eq_false (by omega)
            rw [g1, cond_false, if_neg (by omega)]
            rw [unvary_loop bs most hl hb k N (n + m % 128 * 128 ^ p) (p + 1) (a + 1) (by omega) (by omega) ?_ (by omega)]
            · generalize rd k (p + 1) (bs.drop (a + 1)) = r
              have e1 : n + m % 128 * 128 ^ p + r.1 * 128 ^ (p + 1) = n + (m - 128 + 128 * r.1) * 128 ^ p := by
                have : m % 128 = m - 128 := by omega
                rw [this, Nat.pow_succ, Nat.add_mul, Nat.add_assoc]
                congr 2
                rw [Nat.mul_comm (128 ^ p) 128, ← Nat.mul_assoc, Nat.mul_comm r.1 128]
              by_cases hr : r.2.2 = 0
              · simp only [outc, hr, if_true, e1, Int.toNat_natCast]
                rw [show a + 1 + r.2.1 = a + (r.2.1 + 1) by omega]
              · simp only [outc, hr, if_false]
            · have : m % 128 ≤ 127 := by omega
              have : m % 128 * 128 ^ p ≤ 127 * 128 ^ p := Nat.mul_le_mul_right _ this
              rw [Nat.pow_succ]
              omega
        rw [← htail]
        by_cases hp0 : p = 0
        · subst hp0
          have g0 : decide (((0 : Nat) : Int) > (0 : Int)) = false := by decide
          have g9 : ((((0 : Nat) : Int)) == (9 : Int)) = false := by decide
          simp only [g0, cond_false, g9, hmod, h7, h70, Int.toNat_natCast, hmin, hsh, hp1]
        · have g0 : decide ((p : Int) > (0 : Int)) = true := decide_eq_true (by omega)
          have hm0 : ((m : Int) == (0 : Int)) = false := by rw [beq_eq_false_iff_ne]; omega
          simp only [g0, cond_true, hm0, cond_false]
          by_cases h9 : p = 9
          · have g9 : ((p : Int) == (9 : Int)) = true := by rw [beq_iff_eq]; omega
            have hm1 : decide ((m : Int) > (1 : Int)) = false := decide_eq_false (by omega)
            simp only [g9, cond_true, hm1, cond_false, hmod, h7, h70, Int.toNat_natCast, hmin, hsh, hp1]
          · have g9 : ((p : Int) == (9 : Int)) = false := by rw [beq_eq_false_iff_ne]; omega
            simp only [g9, cond_false, hmod, h7, h70, Int.toNat_natCast, hmin, hsh, hp1]
theorem unvary_eq (c : Cur) (most : Int) (hb : Bytes c.1) : cwire_Unvary (c, most) = some (if Valid c then outc c.1 c.2.1.toNat most 0 0 (rd 10 0 (c.1.drop c.2.1.toNat)) else (zc, 0, 8)) := by
  show nwire_Unvary (iterV (gwire_Unvary_0 big) big) (c, most) = _
  simp only [nwire_Unvary, valid_eq, Option.bind_some]
  by_cases h : Valid c
  · obtain ⟨bs, at_, u⟩ := c
    obtain ⟨h1, h2, h3⟩ := h
    simp only at h1 h2 h3 hb
    obtain ⟨a, rfl⟩ := Int.eq_ofNat_of_zero_le h2
    have hv : Valid (bs, ((a : Int), u)) := ⟨h1, h2, h3⟩
    simp only [hv, decide_true, Bool.not_true, cond_false, if_true]
    have := unvary_loop bs most h1 hb 10 big 0 0 a rfl (by decide) (by decide) (by omega)
    simpa using this
  · simp [h, zc]
def begins (a b : List Int) : Bool := decide (b.length ≤ a.length ∧ a.take b.length = b)
theorem begins_eq (a b : List Int) : cref02_Begins (a, b) = some (begins a b) := by
  simp only [cref02_Begins, nref02_Begins, begins]
  by_cases h : b.length ≤ a.length
  · have g : decide ((a.length : Int) ≥ (b.length : Int)) = true := decide_eq_true (by omega)
    have g2 : (decide ((0 : Int) ≤ (b.length : Int)) && decide ((b.length : Int) ≤ (a.length : Int))) = true := by rw [decide_eq_true (by omega), decide_eq_true (by omega)]; rfl
    simp only [g, g2, cond_true, Int.toNat_natCast]
    by_cases he : a.take b.length = b
    · rw [eqD_iff.2 he]; simp [h, he]
    · rw [eqD_false he]; simp [h, he]
  · have g : decide ((a.length : Int) ≥ (b.length : Int)) = false := decide_eq_false (by omega)
    simp [g, h]
theorem begins_split {a b : List Int} (h : begins a b = true) : ∃ r, a = b ++ r := by
  obtain ⟨h1, h2⟩ := of_decide_eq_true h
  exact ⟨a.drop b.length, by conv => lhs; rw [← List.take_append_drop b.length a, h2]⟩
theorem begins_self (a : List Int) : begins a a = true := by simp [begins]
theorem rd_of_vary (n : Nat) (rest : List Int) (h : n < 18446744073709551616) : rd 10 0 (vary n ++ rest) = (n, (vary n).length, 0) := rd_vary 9 0 n rest rfl (by simpa using h) (by simp)
theorem vary_bytesF : ∀ (k n : Nat), n < 128 ^ (k + 1) → Bytes (varyF k n)
  | 0, n, h => by intro c hc; simp [varyF] at hc; omega
  | k + 1, n, h => by
    intro c hc
    simp only [varyF] at hc
    split at hc
    · simp at hc; omega
    · rcases List.mem_cons.1 hc with rfl | hc
      · omega
      · exact vary_bytesF k (n / 128) (by rw [Nat.pow_succ] at h; omega) c hc
theorem vary_bytes {n : Nat} (h : n < 18446744073709551616) : Bytes (vary n) := vary_bytesF 9 n (by simp; omega)
theorem bytes_append {a b : List Int} (ha : Bytes a) (hb : Bytes b) : Bytes (a ++ b) := fun c hc => (List.mem_append.1 hc).elim (ha c) (hb c)
theorem bytes_take {a : List Int} (ha : Bytes a) (n : Nat) : Bytes (a.take n) := fun c hc => ha c (List.mem_of_mem_take hc)
theorem check_eq (c : Cur) : cref02_Check c = some (if Valid c then 0 else 8) := by
  simp only [cref02_Check, nref02_Check, Valid]
  by_cases h1 : c.1.length ≤ 200000
  · have g1 : decide ((c.1.length : Int) > (200000 : Int)) = false := decide_eq_false (by omega)
    by_cases h2 : 0 ≤ c.2.1
    · have g2 : decide (c.2.1 < (0 : Int)) = false := decide_eq_false (by omega)
      by_cases h3 : c.2.1 ≤ (c.1.length : Int)
      · have g3 : decide (c.2.1 > (c.1.length : Int)) = false := decide_eq_false (by omega)
        simp [g1, g2, g3, h1, h2, h3]
      · have g3 : decide (c.2.1 > (c.1.length : Int)) = true := decide_eq_true (by omega)
        simp [g1, g2, g3, h1, h2, h3]
    · have g2 : decide (c.2.1 < (0 : Int)) = true := decide_eq_true (by omega)
      simp [g1, g2, h1, h2]
  · have g1 : decide ((c.1.length : Int) > (200000 : Int)) = true := decide_eq_true (by omega)
    simp [g1, h1]
theorem on_eq (c : Cur) (n : Int) (h0 : -9223372036854775808 ≤ c.2.1 + n) (h1 : c.2.1 + n ≤ 9223372036854775807) : cref02_on (c, n) = some (c.1, (c.2.1 + n, ())) := by
  simp only [cref02_on, nref02_on]
  rw [wrap_i64 h0 h1]
theorem tmod_nat (n k : Nat) : (n : Int).tmod (k : Int) = ((n % k : Nat) : Int) := by
  rw [Int.tmod_eq_emod_of_nonneg (by omega)]; simp
theorem tdiv_nat (n k : Nat) : (n : Int).tdiv (k : Int) = ((n / k : Nat) : Int) := by
  rw [Int.tdiv_eq_ediv_of_nonneg (by omega)]; simp
theorem minimal_loop : ∀ (k N n : Nat) (b : List Int), n < 128 ^ (k + 1) → k ≤ 9 → k < N → b.length + k ≤ 100 → n < 18446744073709551616 → iterV (gref02_Minimal_0 big) N ((n : Int), b) = some (b ++ varyF k n)
  | k, 0, _, _, _, _, h, _, _ => by omega
  | k, N + 1, n, b, hn, hk, hN, hb, h64 => by
    rw [iterV_succ]
    by_cases h : n < 128
    · have g : decide ((n : Int) ≥ (128 : Int)) = false := decide_eq_false (by omega)
      have e1 : IntKind.u8.wrap (n : Int) = (n : Int) := by rw [wrap_u8]; omega
      have e4 : (Nat.ble 1 1 && Nat.ble (List.length b + List.length [(n : Int)]) lim) = true := by
        rw [b11, ble_lim (by simp only [List.length_cons, List.length_nil]; omega)]; rfl
      have e5 : varyF k n = [(n : Int)] := by cases k <;> simp [varyF, h]
      simp only [gref02_Minimal_0, href02_Minimal_0, g, cond_false, e1, e4, cond_true, e5]
      rfl
    · cases k with
      | zero => simp at hn; omega
      | succ k =>
        have g : decide ((n : Int) ≥ (128 : Int)) = true := decide_eq_true (by omega)
        have e1 : IntKind.u8.wrap ((n : Int).tmod 128) = ((n % 128 : Nat) : Int) := by
          rw [show (128 : Int) = ((128 : Nat) : Int) from rfl, tmod_nat, wrap_u8]; omega
        have e2 : IntKind.u8.wrap (((n % 128 : Nat) : Int) + 128) = ((n % 128 + 128 : Nat) : Int) := by rw [wrap_u8]; omega
        have e3 : IntKind.u64.wrap ((n : Int).tdiv 128) = ((n / 128 : Nat) : Int) := by
          rw [show (128 : Int) = ((128 : Nat) : Int) from rfl, tdiv_nat, wrap_u64]; omega
        have e4 : (Nat.ble 1 1 && Nat.ble (List.length b + List.length [((n % 128 + 128 : Nat) : Int)]) lim) = true := by
          rw [b11, ble_lim (by simp only [List.length_cons, List.length_nil]; omega)]; rfl
        simp only [gref02_Minimal_0, href02_Minimal_0, g, cond_true, e1, e2, e3, e4]
        rw [minimal_loop k N (n / 128) _ (by rw [Nat.pow_succ] at hn; omega) (by omega) (by omega) (by simp only [List.append_eq, List.length_append, List.length_cons, List.length_nil]; omega) (by omega)]
        simp [varyF, h]
theorem minimal_eq (n : Nat) (h : n < 18446744073709551616) : cref02_Minimal (n : Int) = some (vary n) := by
  have := minimal_loop 9 big n [] (by simp; omega) (by omega) (by decide) (by simp) h
  rw [List.nil_append] at this
  exact this
/-- reading, by the reference -/
def outr (bs : List Int) (a n p : Nat) (r : Nat × Nat × Int) : Cur × Int × Int :=
  if r.2.2 = 0 then ((bs, (((a + r.2.1 : Nat) : Int), ())), ((n + r.1 * 128 ^ p : Nat) : Int), 0) else (zc, 0, r.2.2)
theorem read_loop (bs : List Int) (a0 : Nat) (hl : bs.length ≤ 200000) (hb : Bytes bs) : ∀ (k N n p : Nat), k + p = 10 → k < N → n < 128 ^ p → a0 + p ≤ bs.length →
    iterV (gref02_Read_0 big) N ((n : Int), ((128 ^ p % 18446744073709551616 : Nat) : Int), (p : Int), (bs, ((a0 : Int), ())), ((0 : Int), ()), ([] : List Int)) = some (outr bs (a0 + p) n p (rd k p (bs.drop (a0 + p))))
  | k, 0, _, _, _, h, _, _ => by omega
  | 0, N + 1, n, p, hp, _, _, _ => by
    rw [iterV_succ]
    have h1 : decide ((p : Int) < (10 : Int)) = false := decide_eq_false (by omega)
    simp only [gref02_Read_0, href02_Read_0, h1, cond_false]
    simp [outr, rd, zc]
  | k + 1, N + 1, n, p, hp, hN, hn, ha => by
    rw [iterV_succ]
    have h1 : decide ((p : Int) < (10 : Int)) = true := decide_eq_true (by omega)
    have e0 : IntKind.i64.wrap ((a0 : Int) + (p : Int)) = ((a0 + p : Nat) : Int) := by rw [wrap_i64 (by omega) (by omega)]; simp
    simp only [gref02_Read_0, href02_Read_0, h1, cond_true, e0]
    by_cases he : a0 + p = bs.length
    · have g : decide (((a0 + p : Nat) : Int) ≥ (bs.length : Int)) = true := decide_eq_true (by omega)
      have hd : bs.drop (a0 + p) = [] := by rw [he]; simp
      simp only [g, cond_true, hd]
      simp [outr, rd, zc]
    · have hlt : a0 + p < bs.length := by omega
      have g : decide (((a0 + p : Nat) : Int) ≥ (bs.length : Int)) = false := decide_eq_false (by omega)
      have hd : bs.drop (a0 + p) = bs[a0 + p] :: bs.drop (a0 + (p + 1)) := by rw [List.drop_eq_getElem_cons hlt]; rfl
      have hbb := hb bs[a0 + p] (List.getElem_mem hlt)
      simp only [g, cond_false, getI_at hlt, Option.bind_some]
      rw [hd]
      generalize bs[a0 + p] = c at *
      obtain ⟨m, rfl⟩ := Int.eq_ofNat_of_zero_le hbb.1
      have hm : m ≤ 255 := by omega
      have hp1 : IntKind.i64.wrap ((p : Int) + 1) = ((p + 1 : Nat) : Int) := by rw [wrap_i64 (by omega) (by omega)]; simp
      have hpow : 128 ^ p ≤ 128 ^ 9 := Nat.pow_le_pow_right (by decide) (by omega)
      have h9e : (128 : Nat) ^ 9 = 9223372036854775808 := by decide
      have hmod0 : 128 ^ p % 18446744073709551616 = 128 ^ p := Nat.mod_eq_of_lt (by omega)
      have e1 : IntKind.u64.wrap ((m : Int).tmod 128) = ((m % 128 : Nat) : Int) := by
        rw [show (128 : Int) = ((128 : Nat) : Int) from rfl, tmod_nat, wrap_u64]; omega
      have hon := on_eq (bs, ((a0 : Int), ())) ((p + 1 : Nat) : Int) (by simp only; omega) (by simp only; omega)
      have e5 : IntKind.u64.wrap (((128 ^ p : Nat) : Int) * 128) = ((128 ^ (p + 1) % 18446744073709551616 : Nat) : Int) := by
        rw [wrap_u64, Nat.pow_succ]; omega
      rw [hmod0]
      by_cases hbad9 : p = 9 ∧ (m : Int) > 1
      · have g9 : ((p : Int) == (9 : Int)) = true := by rw [beq_iff_eq]; omega
        have g1 : decide ((m : Int) > (1 : Int)) = true := decide_eq_true hbad9.2
        have hr : rd (k + 1) p ((m : Int) :: bs.drop (a0 + (p + 1))) = (0, 0, 12) := by rw [rd, if_pos (.inr hbad9)]
        rw [hr]
        simp only [g9, cond_true, g1]
        simp [outr, zc]
      · have hmul : m % 128 * 128 ^ p < 18446744073709551616 := by
          by_cases h9 : p = 9
          · have : m % 128 ≤ 1 := by omega
            calc m % 128 * 128 ^ p ≤ 1 * 128 ^ 9 := Nat.mul_le_mul this hpow
              _ < 18446744073709551616 := by decide
          · have hpp : 128 ^ p ≤ 128 ^ 8 := Nat.pow_le_pow_right (by decide) (by omega)
            calc m % 128 * 128 ^ p ≤ 127 * 128 ^ 8 := Nat.mul_le_mul (by omega) hpp
              _ < 18446744073709551616 := by decide
        have hsum : n + m % 128 * 128 ^ p < 18446744073709551616 := by
          by_cases h9 : p = 9
          · have h2 : m % 128 ≤ 1 := by omega
            have : m % 128 * 128 ^ p ≤ 1 * 128 ^ 9 := Nat.mul_le_mul h2 hpow
            omega
          · have hpp : 128 ^ p ≤ 128 ^ 8 := Nat.pow_le_pow_right (by decide) (by omega)
            have : m % 128 * 128 ^ p ≤ 127 * 128 ^ 8 := Nat.mul_le_mul (by omega) hpp
            have h8e : (128 : Nat) ^ 8 = 72057594037927936 := by decide
            omega
        have e2 : IntKind.u64.wrap (((128 ^ p : Nat) : Int) * ((m % 128 : Nat) : Int)) = ((m % 128 * 128 ^ p : Nat) : Int) := by
          rw [wrap_u64, Nat.mul_comm, ← Int.natCast_mul, Nat.mul_comm]
          rw [Nat.mul_comm] at hmul
          omega
        have e3 : IntKind.u64.wrap ((n : Int) + ((m % 128 * 128 ^ p : Nat) : Int)) = ((n + m % 128 * 128 ^ p : Nat) : Int) := by rw [wrap_u64]; omega
        have main : (bif decide ((m : Int) < (128 : Int)) then (bif (m : Int) == (0 : Int) then (bif decide ((p : Int) > (0 : Int)) then some ((([] : List Int), ((0 : Int), ())), (0 : Int), (12 : Int)) else some ((bs, ((a0 : Int) + ((p + 1 : Nat) : Int), ())), ((n + m % 128 * 128 ^ p : Nat) : Int), (0 : Int))) else some ((bs, ((a0 : Int) + ((p + 1 : Nat) : Int), ())), ((n + m % 128 * 128 ^ p : Nat) : Int), (0 : Int)))
            else iterV (gref02_Read_0 big) N (((n + m % 128 * 128 ^ p : Nat) : Int), ((128 ^ (p + 1) % 18446744073709551616 : Nat) : Int), ((p + 1 : Nat) : Int), (bs, ((a0 : Int), ())), ((0 : Int), ()), ([] : List Int))) = some (outr bs (a0 + p) n p (rd (k + 1) p ((m : Int) :: bs.drop (a0 + (p + 1))))) := by
          by_cases h128 : m < 128
          · have g1 : decide ((m : Int) < (128 : Int)) = true := decide_eq_true (by omega)
            rw [g1, cond_true]
            by_cases hz : p > 0 ∧ (m : Int) = 0
            · have g2 : ((m : Int) == (0 : Int)) = true := by rw [beq_iff_eq]; exact hz.2
              have g3 : decide ((p : Int) > (0 : Int)) = true := decide_eq_true (by omega)
              rw [g2, cond_true, g3, cond_true, rd, if_pos (.inl hz)]
              simp [outr, zc]
            · have hr : rd (k + 1) p ((m : Int) :: bs.drop (a0 + (p + 1))) = (m, 1, 0) := by
                rw [rd, if_neg (fun h => h.elim hz hbad9), if_pos (by omega)]; rfl
              rw [hr]
              have e6 : (a0 : Int) + ((p + 1 : Nat) : Int) = ((a0 + p + 1 : Nat) : Int) := by omega
              simp only [outr, if_true, Nat.mod_eq_of_lt h128, e6]
              by_cases hm0 : (m : Int) = 0
              · have g2 : ((m : Int) == (0 : Int)) = true := by rw [beq_iff_eq]; exact hm0
                have g3 : decide ((p : Int) > (0 : Int)) = false := decide_eq_false (by omega)
                rw [g2, cond_true, g3, cond_false]
              · have g2 : ((m : Int) == (0 : Int)) = false := by rw [beq_eq_false_iff_ne]; exact hm0
                rw [g2, cond_false]
          · have g1 : decide ((m : Int) < (128 : Int)) = false := decide_eq_false (by omega)
            rw [g1, cond_false, rd, if_neg (fun h => h.elim (fun h => by omega) hbad9), if_neg (by omega)]
            rw [read_loop bs a0 hl hb k N (n + m % 128 * 128 ^ p) (p + 1) (by omega) (by omega) ?_ (by omega)]
            · generalize rd k (p + 1) (bs.drop (a0 + (p + 1))) = r
              have e1 : n + m % 128 * 128 ^ p + r.1 * 128 ^ (p + 1) = n + (m - 128 + 128 * r.1) * 128 ^ p := by
                have : m % 128 = m - 128 := by omega
                rw [this, Nat.pow_succ, Nat.add_mul, Nat.add_assoc]
                congr 2
                rw [Nat.mul_comm (128 ^ p) 128, ← Nat.mul_assoc, Nat.mul_comm r.1 128]
              by_cases hr : r.2.2 = 0
              · simp only [outr, hr, if_true, e1, Int.toNat_natCast]
                rw [show a0 + (p + 1) + r.2.1 = a0 + p + (r.2.1 + 1) by omega]
              · simp only [outr, hr, if_false]
            · have : m % 128 ≤ 127 := by omega
              have : m % 128 * 128 ^ p ≤ 127 * 128 ^ p := Nat.mul_le_mul_right _ this
              rw [Nat.pow_succ]
              omega
        rw [← main]
        by_cases h9 : p = 9
        · have g9 : ((p : Int) == (9 : Int)) = true := by rw [beq_iff_eq]; omega
          have g1 : decide ((m : Int) > (1 : Int)) = false := decide_eq_false (fun h => hbad9 ⟨h9, h⟩)
          simp only [g9, cond_true, g1, cond_false, e1, e2, e3, e5, hp1, hon, Option.bind_some]
        · have g9 : ((p : Int) == (9 : Int)) = false := by rw [beq_eq_false_iff_ne]; omega
          simp only [g9, cond_false, e1, e2, e3, e5, hp1, hon, Option.bind_some]
theorem rRead_eq (c : Cur) (hb : Bytes c.1) (hv : Valid c) : cref02_Read c = some (outr c.1 c.2.1.toNat 0 0 (rd 10 0 (c.1.drop c.2.1.toNat))) := by
  obtain ⟨bs, at_, u⟩ := c
  obtain ⟨h1, h2, h3⟩ := hv
  simp only at h1 h2 h3 hb
  obtain ⟨a, rfl⟩ := Int.eq_ofNat_of_zero_le h2
  have := read_loop bs a h1 hb 10 big 0 0 rfl (by decide) (by decide) (by omega)
  exact this
theorem rUnvary_eq (c : Cur) (most : Int) (hb : Bytes c.1) : cref02_Unvary (c, most) = cwire_Unvary (c, most) := by
  rw [unvary_eq c most hb]
  simp only [cref02_Unvary, nref02_Unvary, check_eq, Option.bind_some]
  by_cases hv : Valid c
  · have g : ((0 : Int) != (0 : Int)) = false := rfl
    simp only [if_pos hv, g, cond_false, rRead_eq c hb hv, Option.bind_some]
    generalize rd 10 0 (c.1.drop c.2.1.toNat) = r
    unfold outr outc
    by_cases he : r.2.2 = 0
    · simp only [if_pos he]
      have g0 : ((0 : Int) == (0 : Int)) = true := rfl
      simp only [g0, cond_true, g, cond_false]
      by_cases hm : ((0 + r.1 * 128 ^ 0 : Nat) : Int) > most
      · rw [decide_eq_true hm, if_pos hm]; rfl
      · rw [decide_eq_false hm, if_neg hm]; rfl
    · have g1 : (r.2.2 == (0 : Int)) = false := by rw [beq_eq_false_iff_ne]; exact he
      have g2 : (r.2.2 != (0 : Int)) = true := by rw [bne_iff_ne]; exact he
      simp only [if_neg he, g1, cond_false, g2, cond_true]
      rfl
  · have g : ((8 : Int) != (0 : Int)) = true := rfl
    simp only [if_neg hv, g, cond_true]
    rfl
end Go.Proofs.Ytmioekkonoehpaa
