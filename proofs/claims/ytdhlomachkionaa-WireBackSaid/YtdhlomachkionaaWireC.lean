/- What the readers of package wire compute. -/
import Derived.Test.YtdhlomachkionaaWireB
set_option linter.unusedVariables false
set_option linter.unusedSimpArgs false
set_option maxRecDepth 100000
namespace Go.Proofs.Ytdhlomachkionaa
open Go.Lift

/-! ### reading a minimal number: the number, how many bytes, the error -/
def rd : Nat → Nat → List Int → Nat × Nat × Int
  | 0, _, _ => (0, 0, 12)
  | _ + 1, _, [] => (0, 0, 24)
  | k + 1, p, b :: r =>
    if (p > 0 ∧ b = 0) ∨ (p = 9 ∧ b > 1) then (0, 0, 12)
    else if b < 128 then (b.toNat, 1, 0)
    else if (rd k (p + 1) r).2.2 = 0 then (b.toNat - 128 + 128 * (rd k (p + 1) r).1, (rd k (p + 1) r).2.1 + 1, 0) else (0, 0, (rd k (p + 1) r).2.2)

theorem rd_vary : ∀ (k p n : Nat) (rest : List Int), k + 1 + p = 10 → n < 2 ^ (64 - 7 * p) → (p > 0 → n ≠ 0) → rd (k + 1) p (varyF k n ++ rest) = (n, (varyF k n).length, 0)
  | 0, p, n, rest, hp, hn, h0 => by
    have : p = 9 := by omega
    subst this
    have hn' : n < 2 := hn
    have h1 : ¬ ((9 > 0 ∧ ((n : Int)) = 0) ∨ (9 = 9 ∧ (n : Int) > 1)) := by omega
    simp only [varyF, List.cons_append, List.nil_append]
    rw [rd, if_neg h1, if_pos (by omega)]
    simp
  | k + 1, p, n, rest, hp, hn, h0 => by
    by_cases h : n < 128
    · have h1 : ¬ ((p > 0 ∧ ((n : Int)) = 0) ∨ (p = 9 ∧ (n : Int) > 1)) := by omega
      simp only [varyF, if_pos h, List.cons_append, List.nil_append]
      rw [rd, if_neg h1, if_pos (by omega)]
      simp
    · have h1 : ¬ ((p > 0 ∧ (((n % 128 + 128 : Nat) : Int)) = 0) ∨ (p = 9 ∧ (((n % 128 + 128 : Nat) : Int)) > 1)) := by omega
      have e : 64 - 7 * p = (64 - 7 * (p + 1)) + 7 := by omega
      have ih := rd_vary k (p + 1) (n / 128) rest (by omega) (by rw [e, Nat.pow_add] at hn; omega) (by intro _; omega)
      simp only [varyF, if_neg h, List.cons_append]
      rw [rd, if_neg h1, if_neg (by omega), ih]
      simp only [if_true, List.length_cons, Int.toNat_natCast]
      congr 1
      omega

theorem rd_read : ∀ (k p : Nat) (bs : List Int), k + 1 + p = 10 → Bytes bs → (rd (k + 1) p bs).2.2 = 0 →
    varyF k (rd (k + 1) p bs).1 = bs.take (rd (k + 1) p bs).2.1 ∧ (rd (k + 1) p bs).1 < 2 ^ (64 - 7 * p) ∧ 1 ≤ (rd (k + 1) p bs).2.1 ∧ (rd (k + 1) p bs).2.1 ≤ bs.length ∧ (p > 0 → (rd (k + 1) p bs).1 ≠ 0)
  | k, p, [], _, _, h => by simp [rd] at h
  | k, p, b :: r, hp, hb, h => by
    have hbb := hb b (by simp)
    rw [rd] at h ⊢
    by_cases h1 : (p > 0 ∧ b = 0) ∨ (p = 9 ∧ b > 1)
    · rw [if_pos h1] at h; simp at h
    · rw [if_neg h1] at h ⊢
      by_cases h2 : b < 128
      · rw [if_pos h2] at h ⊢
        have e : varyF k b.toNat = [b] := by
          have : ((b.toNat : Nat) : Int) = b := Int.toNat_of_nonneg hbb.1
          cases k with
          | zero => simp [varyF, this]
          | succ k => simp [varyF, this, show b.toNat < 128 by omega]
        refine ⟨by simp [e], ?_, by simp, by simp, by simp only; omega⟩
        simp only
        by_cases h9 : p = 9
        · subst h9
          have : b.toNat < 2 := by omega
          simpa using this
        · have : 2 ^ 7 ≤ 2 ^ (64 - 7 * p) := Nat.pow_le_pow_right (by decide) (by omega)
          have : 2 ^ 7 = 128 := rfl
          omega
      · rw [if_neg h2] at h ⊢
        cases k with
        | zero => simp [rd] at h
        | succ k =>
          by_cases h3 : (rd (k + 1) (p + 1) r).2.2 = 0
          · have ih := rd_read k (p + 1) r (by omega) (fun c hc => hb c (by simp [hc])) h3
            rw [if_pos h3] at h ⊢
            obtain ⟨i1, i2, i3, i4, i5⟩ := ih
            generalize (rd (k + 1) (p + 1) r).1 = m at *
            generalize (rd (k + 1) (p + 1) r).2.1 = u at *
            have hm := i5 (by omega)
            have hge : ¬ (b.toNat - 128 + 128 * m < 128) := by omega
            have e1 : (b.toNat - 128 + 128 * m) % 128 + 128 = b.toNat := by omega
            have e2 : (b.toNat - 128 + 128 * m) / 128 = m := by omega
            have e3 : ((b.toNat : Nat) : Int) = b := Int.toNat_of_nonneg hbb.1
            have e : 64 - 7 * p = (64 - 7 * (p + 1)) + 7 := by omega
            refine ⟨?_, ?_, by simp, by simp; omega, by simp only; omega⟩
            · simp only [varyF, if_neg hge, e1, e2, e3, i1, List.take_succ_cons]
            · simp only
              rw [e, Nat.pow_add]
              omega
          · rw [if_neg h3] at h
            exact absurd h h3

theorem rd_short : ∀ (k p n at_ : Nat), k + 1 + p = 10 → n < 2 ^ (64 - 7 * p) → (p > 0 → n ≠ 0) → at_ < (varyF k n).length → rd (k + 1) p ((varyF k n).take at_) = (0, 0, 24)
  | k, p, n, 0, _, _, _, _ => by simp [rd]
  | 0, p, n, a + 1, _, _, _, h => by simp [varyF] at h
  | k + 1, p, n, a + 1, hp, hn, h0, h => by
    by_cases h1 : n < 128
    · simp [varyF, h1] at h
    · simp only [varyF, if_neg h1, List.length_cons] at h
      have h2 : ¬ ((p > 0 ∧ (((n % 128 + 128 : Nat) : Int)) = 0) ∨ (p = 9 ∧ (((n % 128 + 128 : Nat) : Int)) > 1)) := by omega
      have e : 64 - 7 * p = (64 - 7 * (p + 1)) + 7 := by omega
      have ih := rd_short k (p + 1) (n / 128) a (by omega) (by rw [e, Nat.pow_add] at hn; omega) (by intro _; omega) (by omega)
      simp only [varyF, if_neg h1, List.take_succ_cons]
      rw [rd, if_neg h2, if_neg (by omega), ih]
      simp

/-! ### Unvary -/
def zc : Cur := ([], (0, ()))
def outc (bs : List Int) (a : Nat) (most : Int) (n p : Nat) (r : Nat × Nat × Int) : Cur × Int × Int :=
  if r.2.2 = 0 then (if ((n + r.1 * 128 ^ p : Nat) : Int) > most then (zc, 0, 4) else ((bs, (((a + r.2.1 : Nat) : Int), ())), ((n + r.1 * 128 ^ p : Nat) : Int), 0)) else (zc, 0, r.2.2)

theorem unvary_loop (bs : List Int) (most : Int) (hl : bs.length ≤ 200000) (hb : Bytes bs) : ∀ (k N n p a : Nat), k + p = 10 → k < N → n < 128 ^ p → a ≤ bs.length →
    iterV (gwire_Unvary_0 big) N ((n : Int), (p : Int), (bs, ((a : Int), ())), ((0 : Int), ()), ([] : List Int), most) = some (outc bs a most n p (rd k p (bs.drop a)))
  | k, 0, n, p, a, _, h, _, _ => by omega
  | 0, N + 1, n, p, a, hp, _, _, _ => by
    rw [iterV_succ]
    have h1 : decide ((p : Int) < (10 : Int)) = false := decide_eq_false (by omega)
    simp only [gwire_Unvary_0, hwire_Unvary_0, h1, cond_false]
    simp [outc, rd, zc]
  | k + 1, N + 1, n, p, a, hp, hN, hn, ha => by
    rw [iterV_succ]
    have h1 : decide ((p : Int) < (10 : Int)) = true := decide_eq_true (by omega)
    have hleft : cwire_left (bs, ((a : Int), ())) = some ((bs.length : Int) - (a : Int)) := left_eq _ ⟨hl, by simp, by simp; omega⟩
    simp only [gwire_Unvary_0, hwire_Unvary_0, h1, cond_true, hleft, Option.bind_some]
    by_cases he : a = bs.length
    · have h2 : (((bs.length : Int) - (a : Int)) == (0 : Int)) = true := by rw [beq_iff_eq]; omega
      have hd : bs.drop a = [] := by rw [he]; simp
      simp only [h2, cond_true, hd]
      simp [outc, rd, zc]
    · have hlt : a < bs.length := by omega
      have h2 : (((bs.length : Int) - (a : Int)) == (0 : Int)) = false := by rw [beq_eq_false_iff_ne]; omega
      have hd : bs.drop a = bs[a] :: bs.drop (a + 1) := List.drop_eq_getElem_cons hlt
      have hbb := hb bs[a] (List.getElem_mem hlt)
      have ha1 : IntKind.i64.wrap ((a : Int) + 1) = ((a + 1 : Nat) : Int) := by rw [wrap_i64 (by omega) (by omega)]; simp
      simp only [h2, cond_false, getI_at hlt, Option.bind_some, ha1]
      rw [hd]
      generalize hc : bs[a] = c at *
      obtain ⟨m, rfl⟩ := Int.eq_ofNat_of_zero_le hbb.1
      have hm : m ≤ 255 := by omega
      have h7 : IntKind.i64.wrap ((7 : Int) * (p : Int)) = ((7 * p : Nat) : Int) := by rw [wrap_i64 (by omega) (by omega)]; simp
      have h70 : decide (((7 * p : Nat) : Int) < 0) = false := decide_eq_false (by omega)
      have hmin : min (7 * p) 64 = 7 * p := by omega
      have hp1 : IntKind.i64.wrap ((p : Int) + 1) = ((p + 1 : Nat) : Int) := by rw [wrap_i64 (by omega) (by omega)]; simp
      have hmod : IntKind.u64.wrap ((m : Int).tmod (128 : Int)) = ((m % 128 : Nat) : Int) := by
        rw [Int.tmod_eq_emod_of_nonneg (by omega), wrap_u64]; omega
      have e128 : (2 : Nat) ^ (7 * p) = 128 ^ p := by rw [Nat.pow_mul]
      by_cases hbad : (p > 0 ∧ (m : Int) = 0) ∨ (p = 9 ∧ (m : Int) > 1)
      · -- a needless or too large digit
        have hr : rd (k + 1) p ((m : Int) :: bs.drop (a + 1)) = (0, 0, 12) := by rw [rd, if_pos hbad]
        rw [hr]
        rcases hbad with ⟨g1, g2⟩ | ⟨g1, g2⟩
        · have hp0 : decide ((p : Int) > (0 : Int)) = true := decide_eq_true (by omega)
          have hm0 : ((m : Int) == (0 : Int)) = true := by rw [beq_iff_eq]; exact g2
          simp only [hp0, cond_true, hm0]
          cases (p : Int) == 9 <;> simp [outc, zc]
        · have hp0 : decide ((p : Int) > (0 : Int)) = true := decide_eq_true (by omega)
          have hp9 : ((p : Int) == (9 : Int)) = true := by rw [beq_iff_eq]; omega
          have hm1 : decide ((m : Int) > (1 : Int)) = true := decide_eq_true g2
          have hm0 : ((m : Int) == (0 : Int)) = false := by rw [beq_eq_false_iff_ne]; omega
          simp only [hp0, cond_true, hp9, hm0, cond_false, hm1]
          simp [outc, zc]
      · -- all goes well
        have hsh : IntKind.u64.wrap (((m % 128 : Nat) : Int) * 2 ^ (7 * p)) = ((m % 128 * 128 ^ p : Nat) : Int) := by
          have h64 : m % 128 * 128 ^ p < 18446744073709551616 := by
            have hp9 : p ≤ 9 := by omega
            by_cases h9 : p = 9
            · subst h9
              have : m ≤ 1 := by omega
              have : m % 128 ≤ 1 := by omega
              calc m % 128 * 128 ^ 9 ≤ 1 * 128 ^ 9 := Nat.mul_le_mul_right _ this
                _ < 18446744073709551616 := by decide
            · have hpp : 128 ^ p ≤ 128 ^ 8 := Nat.pow_le_pow_right (by decide) (by omega)
              calc m % 128 * 128 ^ p ≤ 127 * 128 ^ 8 := Nat.mul_le_mul (by omega) hpp
                _ < 18446744073709551616 := by decide
          have e : (((m % 128 : Nat) : Int) * 2 ^ (7 * p)) = ((m % 128 * 128 ^ p : Nat) : Int) := by
            rw [Int.natCast_mul, ← e128, Int.natCast_pow]; rfl
          rw [e, wrap_u64]
          omega
        have hor : bits .or .u64 (n : Int) ((m % 128 * 128 ^ p : Nat) : Int) = ((n + m % 128 * 128 ^ p : Nat) : Int) := by
          have hn64 : n < 2 ^ 64 := by
            have : 128 ^ p ≤ 128 ^ 9 := Nat.pow_le_pow_right (by decide) (by omega)
            have : (128 : Nat) ^ 9 < 2 ^ 64 := by decide
            omega
          have h64 : m % 128 * 128 ^ p < 2 ^ 64 := by
            rw [wrap_u64] at hsh
            have : (((m % 128 : Nat) : Int) * 2 ^ (7 * p)) % 18446744073709551616 < 18446744073709551616 := Int.emod_lt_of_pos _ (by decide)
            rw [hsh] at this
            have e : (2 : Nat) ^ 64 = 18446744073709551616 := by decide
            omega
          rw [bits_or rfl hn64 h64, ← e128, or_high (by rw [e128]; exact hn)]
        have htail : (bif decide ((m : Int) < (128 : Int)) then (bif (decide ((bits .or .u64 (n : Int) ((m % 128 * 128 ^ p : Nat) : Int)) > most)) then (some ((([] : List Int), ((0 : Int), ())), (0 : Int), (4 : Int))) else (some ((bs, (((a + 1 : Nat) : Int), ())), (bits .or .u64 (n : Int) ((m % 128 * 128 ^ p : Nat) : Int)), (0 : Int))))
            else iterV (gwire_Unvary_0 big) N ((bits .or .u64 (n : Int) ((m % 128 * 128 ^ p : Nat) : Int)), ((p + 1 : Nat) : Int), (bs, (((a + 1 : Nat) : Int), ())), ((0 : Int), ()), ([] : List Int), most)) = some (outc bs a most n p (rd (k + 1) p ((m : Int) :: bs.drop (a + 1)))) := by
          rw [hor, rd, if_neg hbad]
          by_cases h128 : m < 128
          · have g1 : decide ((m : Int) < (128 : Int)) = true := decide_eq_true (by omega)
            rw [g1, cond_true, if_pos (by omega)]
            simp only [outc, if_true, Int.toNat_natCast, Nat.mod_eq_of_lt h128]
            by_cases hmost : ((n + m * 128 ^ p : Nat) : Int) > most
            · rw [if_pos hmost, decide_eq_true hmost]; rfl
            · rw [if_neg hmost, decide_eq_false hmost]; rfl
          · have g1 : decide ((m : Int) < (128 : Int)) = false := decide_eq_false (by omega)
            rw [g1, cond_false, if_neg (by omega)]
            rw [unvary_loop bs most hl hb k N (n + m % 128 * 128 ^ p) (p + 1) (a + 1) (by omega) (by omega) ?_ (by omega)]
            · generalize rd k (p + 1) (bs.drop (a + 1)) = r
              have e1 : n + m % 128 * 128 ^ p + r.1 * 128 ^ (p + 1) = n + (m - 128 + 128 * r.1) * 128 ^ p := by
                have : m % 128 = m - 128 := by omega
                rw [this, Nat.pow_succ, Nat.add_mul, Nat.add_assoc]
                congr 2
                rw [Nat.mul_comm (128 ^ p) 128, ← Nat.mul_assoc, Nat.mul_comm r.1 128]
              by_cases hr : r.2.2 = 0
              · simp only [outc, hr, if_true, e1, Int.toNat_natCast]
                rw [show a + 1 + r.2.1 = a + (r.2.1 + 1) by omega]
              · simp only [outc, hr, if_false]
            · have : m % 128 ≤ 127 := by omega
              have : m % 128 * 128 ^ p ≤ 127 * 128 ^ p := Nat.mul_le_mul_right _ this
              rw [Nat.pow_succ]
              omega
        rw [← htail]
        by_cases hp0 : p = 0
        · subst hp0
          have g0 : decide (((0 : Nat) : Int) > (0 : Int)) = false := by decide
          have g9 : ((((0 : Nat) : Int)) == (9 : Int)) = false := by decide
          simp only [g0, cond_false, g9, hmod, h7, h70, Int.toNat_natCast, hmin, hsh, hp1]
        · have g0 : decide ((p : Int) > (0 : Int)) = true := decide_eq_true (by omega)
          have hm0 : ((m : Int) == (0 : Int)) = false := by rw [beq_eq_false_iff_ne]; omega
          simp only [g0, cond_true, hm0, cond_false]
          by_cases h9 : p = 9
          · have g9 : ((p : Int) == (9 : Int)) = true := by rw [beq_iff_eq]; omega
            have hm1 : decide ((m : Int) > (1 : Int)) = false := decide_eq_false (by omega)
            simp only [g9, cond_true, hm1, cond_false, hmod, h7, h70, Int.toNat_natCast, hmin, hsh, hp1]
          · have g9 : ((p : Int) == (9 : Int)) = false := by rw [beq_eq_false_iff_ne]; omega
            simp only [g9, cond_false, hmod, h7, h70, Int.toNat_natCast, hmin, hsh, hp1]

theorem unvary_eq (c : Cur) (most : Int) (hb : Bytes c.1) : cwire_Unvary (c, most) = some (if Valid c then outc c.1 c.2.1.toNat most 0 0 (rd 10 0 (c.1.drop c.2.1.toNat)) else (zc, 0, 8)) := by
  show nwire_Unvary (iterV (gwire_Unvary_0 big) big) (c, most) = _
  simp only [nwire_Unvary, valid_eq, Option.bind_some]
  by_cases h : Valid c
  · obtain ⟨bs, at_, u⟩ := c
    obtain ⟨h1, h2, h3⟩ := h
    simp only at h1 h2 h3 hb
    obtain ⟨a, rfl⟩ := Int.eq_ofNat_of_zero_le h2
    have hv : Valid (bs, ((a : Int), u)) := ⟨h1, h2, h3⟩
    simp only [hv, decide_true, Bool.not_true, cond_false, if_true]
    have := unvary_loop bs most h1 hb 10 big 0 0 a rfl (by decide) (by decide) (by omega)
    simpa using this
  · simp [h, zc]

/-! ### signed numbers -/
def dbl (x : Int) : Nat := if x < 0 then (-2 * x - 1).toNat else (2 * x).toNat
def half (n : Nat) : Int := if n % 2 = 1 then -1 - ((n / 2 : Nat) : Int) else ((n / 2 : Nat) : Int)

theorem dbl_lt {x : Int} (h0 : -9223372036854775808 ≤ x) (h1 : x ≤ 9223372036854775807) : dbl x < 18446744073709551616 := by
  unfold dbl
  split <;> omega
theorem half_dbl (x : Int) : half (dbl x) = x := by
  unfold half dbl
  split <;> split <;> omega
theorem dbl_half (n : Nat) : dbl (half n) = n := by
  unfold half dbl
  split <;> split <;> omega
theorem half_range {n : Nat} (h : n < 18446744073709551616) : -9223372036854775808 ≤ half n ∧ half n ≤ 9223372036854775807 := by
  unfold half
  split <;> omega

theorem or_one {m : Nat} : (2 * m) ||| 1 = 2 * m + 1 := by
  have := or_high (a := 1) (b := m) (i := 1) (by decide)
  rw [Nat.or_comm, Nat.mul_comm]
  simpa [Nat.add_comm] using this

theorem signed_eq (x : Int) (h0 : -9223372036854775808 ≤ x) (h1 : x ≤ 9223372036854775807) : cwire_Signed x = some (vary (dbl x)) := by
  simp only [cwire_Signed, mwire_Signed, nwire_Signed]
  have hd := dbl_lt h0 h1
  by_cases h : x < 0
  · have g : decide (x < (0 : Int)) = true := decide_eq_true h
    have e0 : (if IntKind.signed .i64 then (-1 : Int) else IntKind.max .i64) = -1 := rfl
    have e1 : IntKind.u64.wrap (-1 - x) = ((-1 - x).toNat : Int) := by rw [wrap_u64]; omega
    have e2 : IntKind.u64.wrap ((((-1 - x).toNat : Nat) : Int) * 2 ^ 1) = ((2 * (-1 - x).toNat : Nat) : Int) := by rw [wrap_u64]; omega
    have e3 : bits .or .u64 ((2 * (-1 - x).toNat : Nat) : Int) (1 : Int) = ((dbl x : Nat) : Int) := by
      have := bits_or (k := .u64) (a := 2 * (-1 - x).toNat) (b := 1) rfl (by have : (2 : Nat) ^ IntKind.u64.bits = 18446744073709551616 := by decide
                                                                             omega) (by decide)
      rw [show ((1 : Nat) : Int) = 1 from rfl] at this
      rw [this, or_one]
      congr 1
      unfold dbl
      rw [if_pos h]
      omega
    simp only [g, cond_true, e0, bits_not x h0 h1, e1, e2, e3, vary_eq _ hd, Option.bind_some]
  · have g : decide (x < (0 : Int)) = false := decide_eq_false h
    have e1 : IntKind.u64.wrap x = (x.toNat : Int) := by rw [wrap_u64]; omega
    have e2 : IntKind.u64.wrap (((x.toNat : Nat) : Int) * 2 ^ 1) = ((dbl x : Nat) : Int) := by
      rw [wrap_u64]
      unfold dbl
      rw [if_neg h]
      omega
    simp only [g, cond_false, e1, e2, vary_eq _ hd, Option.bind_some]

theorem and_one (n : Nat) : n &&& 1 = n % 2 := Nat.and_one_is_mod n

def outs (r : Cur × Int × Int) : Cur × Int × Int := if r.2.2 = 0 then (r.1, half r.2.1.toNat, 0) else (zc, 0, r.2.2)
theorem outc_num {bs : List Int} {a : Nat} {most : Int} {n p : Nat} {r : Nat × Nat × Int} (h : (outc bs a most n p r).2.2 = 0) : r.2.2 = 0 ∧ ((n + r.1 * 128 ^ p : Nat) : Int) ≤ most ∧ outc bs a most n p r = ((bs, (((a + r.2.1 : Nat) : Int), ())), ((n + r.1 * 128 ^ p : Nat) : Int), 0) := by
  unfold outc at h ⊢
  by_cases hr : r.2.2 = 0
  · rw [if_pos hr] at h ⊢
    by_cases hm : ((n + r.1 * 128 ^ p : Nat) : Int) > most
    · rw [if_pos hm] at h; simp at h
    · rw [if_neg hm]
      exact ⟨hr, by omega, rfl⟩
  · rw [if_neg hr] at h
    exact absurd h hr

theorem unsigned_eq (c : Cur) (hb : Bytes c.1) : cwire_Unsigned c = some (outs (if Valid c then outc c.1 c.2.1.toNat 18446744073709551615 0 0 (rd 10 0 (c.1.drop c.2.1.toNat)) else (zc, 0, 8))) := by
  simp only [cwire_Unsigned, mwire_Unsigned, nwire_Unsigned, unvary_eq c _ hb, Option.bind_some]
  generalize hx : (if Valid c then outc c.1 c.2.1.toNat 18446744073709551615 0 0 (rd 10 0 (c.1.drop c.2.1.toNat)) else (zc, 0, 8)) = x
  by_cases he : x.2.2 = 0
  · have hv : Valid c := by
      apply Classical.byContradiction
      intro hn
      rw [if_neg hn] at hx
      subst hx
      simp at he
    rw [if_pos hv] at hx
    subst hx
    obtain ⟨h1, h2, h3⟩ := outc_num he
    have hrd := rd_read 9 0 _ rfl (fun b hbb => hb b (List.mem_of_mem_drop hbb)) h1
    rw [h3]
    generalize hn : (rd 10 0 (c.1.drop c.2.1.toNat)).1 = n at *
    have hn64 : n < 18446744073709551616 := hrd.2.1
    have e0 : (0 + n * 128 ^ 0) = n := by omega
    rw [e0]
    have g : ((0 : Int) != (0 : Int)) = false := rfl
    have e1 : IntKind.i64.wrap ((n : Int).fdiv (2 ^ 1)) = ((n / 2 : Nat) : Int) := by
      rw [fdiv_nat n 1, wrap_i64 (by omega) (by omega)]
    have e2 : bits .and .u64 (n : Int) (1 : Int) = ((n % 2 : Nat) : Int) := by
      have := bits_and (k := .u64) (a := n) (b := 1) rfl (by simpa [IntKind.bits] using hn64) (by decide)
      rw [show ((1 : Nat) : Int) = 1 from rfl] at this
      rw [this, and_one]
    have e3 : (if IntKind.signed .i64 then (-1 : Int) else IntKind.max .i64) = -1 := rfl
    simp only [g, cond_false, e1, e2, e3, outs, if_true, Int.toNat_natCast]
    by_cases ho : n % 2 = 1
    · have g1 : (((n % 2 : Nat) : Int) == (1 : Int)) = true := by rw [beq_iff_eq]; omega
      simp only [g1, cond_true, bits_not ((n / 2 : Nat) : Int) (by omega) (by omega), half, if_pos ho]
    · have g1 : (((n % 2 : Nat) : Int) == (1 : Int)) = false := by rw [beq_eq_false_iff_ne]; omega
      simp only [g1, cond_false, half, if_neg ho]
  · have g : (x.2.2 != (0 : Int)) = true := by rw [bne_iff_ne]; exact he
    simp only [g, cond_true, outs, if_neg he]
    rfl

/-! ### texts -/
def outt (c : Cur) (most : Int) : Cur × List Int × Int :=
  if ¬ Valid c then (zc, [], 8) else if most < 0 ∨ most > 200000 then (zc, [], 2) else
    let x := outc c.1 c.2.1.toNat most 0 0 (rd 10 0 (c.1.drop c.2.1.toNat))
    if x.2.2 ≠ 0 then (zc, [], x.2.2) else if (c.1.length : Int) - x.1.2.1 < x.2.1 then (zc, [], 24) else ((c.1, (x.1.2.1 + x.2.1, ())), (c.1.take (x.1.2.1 + x.2.1).toNat).drop x.1.2.1.toNat, 0)

theorem untext_eq (c : Cur) (most : Int) (hb : Bytes c.1) : cwire_Untext (c, most) = some (outt c most) := by
  simp only [cwire_Untext, mwire_Untext, nwire_Untext, valid_eq, Option.bind_some, outt]
  by_cases hv : Valid c
  · simp only [hv, decide_true, Bool.not_true, cond_false, not_true_eq_false, if_false]
    by_cases h0 : most < 0
    · simp [h0, zc]
    · by_cases h1 : most > 200000
      · simp [h0, h1, zc]
      · have g0 : decide (most < (0 : Int)) = false := decide_eq_false h0
        have g1 : decide (most > (200000 : Int)) = false := decide_eq_false h1
        have gw : IntKind.u64.wrap most = most := by rw [wrap_u64]; omega
        rw [if_neg (by omega)]
        simp only [g0, g1, cond_false, gw, unvary_eq c most hb, if_pos hv, Option.bind_some]
        generalize hx : outc c.1 c.2.1.toNat most 0 0 (rd 10 0 (c.1.drop c.2.1.toNat)) = x
        by_cases he : x.2.2 = 0
        · subst hx
          obtain ⟨h2, h3, h4⟩ := outc_num he
          have hrd := rd_read 9 0 _ rfl (fun b hbb => hb b (List.mem_of_mem_drop hbb)) h2
          rw [h4]
          generalize (rd 10 0 (c.1.drop c.2.1.toNat)).1 = n at *
          generalize (rd 10 0 (c.1.drop c.2.1.toNat)).2.1 = u at *
          obtain ⟨v1, v2, v3⟩ := hv
          obtain ⟨_, r2, r3, r4, _⟩ := hrd
          rw [List.length_drop] at r4
          have e0 : (0 + n * 128 ^ 0) = n := by omega
          rw [e0] at h3 ⊢
          have g : ((0 : Int) != (0 : Int)) = false := rfl
          have hval : Valid (c.1, (((c.2.1.toNat + u : Nat) : Int), ())) := ⟨v1, by simp only; omega, by simp only; omega⟩
          have hl := left_eq _ hval
          have ew : IntKind.i64.wrap (n : Int) = (n : Int) := wrap_i64 (by omega) (by omega)
          simp only [g, cond_false, hl, Option.bind_some, ew, ne_eq, not_true_eq_false, if_false]
          by_cases hs : (c.1.length : Int) - ((c.2.1.toNat + u : Nat) : Int) < (n : Int)
          · rw [decide_eq_true hs, if_pos hs]; rfl
          · have ea : IntKind.i64.wrap (((c.2.1.toNat + u : Nat) : Int) + (n : Int)) = ((c.2.1.toNat + u : Nat) : Int) + (n : Int) := wrap_i64 (by omega) (by omega)
            have gc : (decide ((0 : Int) ≤ ((c.2.1.toNat + u : Nat) : Int)) && (decide (((c.2.1.toNat + u : Nat) : Int) ≤ ((c.2.1.toNat + u : Nat) : Int) + (n : Int)) && decide (((c.2.1.toNat + u : Nat) : Int) + (n : Int) ≤ (c.1.length : Int)))) = true := by
              rw [decide_eq_true (by omega), decide_eq_true (by omega), decide_eq_true (by omega)]; rfl
            rw [decide_eq_false hs, if_neg hs]
            simp only [cond_false, ea, gc, cond_true]
        · have g : (x.2.2 != (0 : Int)) = true := by rw [bne_iff_ne]; exact he
          simp only [g, cond_true, ne_eq, he, not_false_eq_true, if_true]
          rfl
  · simp [hv, zc]

/-! ### what was written is read -/
theorem read_vary (pre rest : List Int) (n : Nat) (most : Int) (h64 : n < 18446744073709551616) :
    outc (pre ++ (vary n ++ rest)) pre.length most 0 0 (rd 10 0 ((pre ++ (vary n ++ rest)).drop pre.length)) = if (n : Int) > most then (zc, 0, 4) else ((pre ++ (vary n ++ rest), (((pre.length + (vary n).length : Nat) : Int), ())), (n : Int), 0) := by
  have h := rd_vary 9 0 n rest rfl (by simpa using h64) (by simp)
  rw [List.drop_left, vary] at *
  rw [h]
  simp [outc]
end Go.Proofs.Ytdhlomachkionaa
