/- What the functions of the reference of layer 2 compute: the same. -/
import Derived.Test.YtdhlomachkionaaWireBack0
set_option linter.unusedVariables false
set_option linter.unusedSimpArgs false
set_option maxRecDepth 100000
namespace Go.Proofs.Ytdhlomachkionaa
open Go.Lift

theorem check_eq (c : Cur) : cref02_Check c = some (if Valid c then 0 else 8) := by
  simp only [cref02_Check, mref02_Check, nref02_Check, Valid]
  by_cases h1 : c.1.length ≤ 200000
  · have g1 : decide ((c.1.length : Int) > (200000 : Int)) = false := decide_eq_false (by omega)
    by_cases h2 : 0 ≤ c.2.1
    · have g2 : decide (c.2.1 < (0 : Int)) = false := decide_eq_false (by omega)
      by_cases h3 : c.2.1 ≤ (c.1.length : Int)
      · have g3 : decide (c.2.1 > (c.1.length : Int)) = false := decide_eq_false (by omega)
        simp [g1, g2, g3, h1, h2, h3]
      · have g3 : decide (c.2.1 > (c.1.length : Int)) = true := decide_eq_true (by omega)
        simp [g1, g2, g3, h1, h2, h3]
    · have g2 : decide (c.2.1 < (0 : Int)) = true := decide_eq_true (by omega)
      simp [g1, g2, h1, h2]
  · have g1 : decide ((c.1.length : Int) > (200000 : Int)) = true := decide_eq_true (by omega)
    simp [g1, h1]

theorem on_eq (c : Cur) (n : Int) (h0 : -9223372036854775808 ≤ c.2.1 + n) (h1 : c.2.1 + n ≤ 9223372036854775807) : cref02_on (c, n) = some (c.1, (c.2.1 + n, ())) := by
  simp only [cref02_on, mref02_on, nref02_on]
  rw [wrap_i64 h0 h1]

theorem rLeft_eq (c : Cur) : cref02_Left c = cwire_Left c := by
  rw [Left_eq]
  simp only [cref02_Left, mref02_Left, nref02_Left, check_eq, Option.bind_some]
  by_cases h : Valid c
  · obtain ⟨h1, h2, h3⟩ := id h
    have g : ((0 : Int) != (0 : Int)) = false := rfl
    simp only [if_pos h, g, cond_false]
    rw [wrap_i64 (by omega) (by omega)]
  · have g : ((8 : Int) != (0 : Int)) = true := rfl
    simp only [if_neg h, g, cond_true]

theorem rWide_eq (w : Int) : cref02_Wide w = some (wide w) := by
  simp only [cref02_Wide, mref02_Wide, nref02_Wide, wide]
  cases w == 1 <;> cases w == 2 <;> cases w == 4 <;> rfl

/-! ### fixed numbers -/
theorem unlittle_loop (b : List Int) (hb : Bytes b) (hl : b.length ≤ 8) : ∀ (k N : Nat), k ≤ b.length → k < N → iterV (gref02_Unlittle_0 big) N (b, ((unl (b.drop k) : Nat) : Int), (k : Int) - 1) = some ((unl b : Nat) : Int)
  | k, 0, _, h => by omega
  | 0, N + 1, _, _ => by
    rw [iterV_succ]
    have g : decide ((((0 : Nat) : Int) - 1) ≥ (0 : Int)) = false := by decide
    simp only [gref02_Unlittle_0, href02_Unlittle_0, g, cond_false, List.drop_zero]
  | k + 1, N + 1, hk, hN => by
    rw [iterV_succ]
    have g : decide ((((k + 1 : Nat) : Int) - 1) ≥ (0 : Int)) = true := decide_eq_true (by omega)
    have e0 : (((k + 1 : Nat) : Int) - 1) = (k : Int) := by omega
    have e1 : IntKind.i64.wrap ((k : Int) - 1) = (k : Int) - 1 := wrap_i64 (by omega) (by omega)
    have hlt : k < b.length := by omega
    have hbb := hb b[k] (List.getElem_mem hlt)
    have hu := unl_lt (b.drop (k + 1)) (fun c hc => hb c (List.mem_of_mem_drop hc))
    rw [List.length_drop] at hu
    have hp : 256 ^ (b.length - (k + 1)) ≤ 256 ^ 7 := Nat.pow_le_pow_right (by decide) (by omega)
    have h7 : (256 : Nat) ^ 7 = 72057594037927936 := by decide
    have hd : b.drop k = b[k] :: b.drop (k + 1) := List.drop_eq_getElem_cons hlt
    have e2 : IntKind.u64.wrap (((unl (b.drop (k + 1)) : Nat) : Int) * 256) = ((unl (b.drop (k + 1)) : Nat) : Int) * 256 := by rw [wrap_u64]; omega
    have e3 : IntKind.u64.wrap (b[k]) = b[k] := by rw [wrap_u64]; omega
    have e4 : IntKind.u64.wrap (((unl (b.drop (k + 1)) : Nat) : Int) * 256 + b[k]) = ((unl (b.drop k) : Nat) : Int) := by
      rw [wrap_u64, hd]
      simp only [unl]
      omega
    simp only [gref02_Unlittle_0, href02_Unlittle_0, g, cond_true, e0, getI_at hlt, Option.bind_some, e1, e2, e3, e4]
    exact unlittle_loop b hb hl k N (by omega) (by omega)

theorem unlittle_eq (b : List Int) (hb : Bytes b) (hl : b.length ≤ 8) : cref02_Unlittle b = some ((unl b : Nat) : Int) := by
  show iterV (gref02_Unlittle_0 big) big (b, (0 : Int), IntKind.i64.wrap ((b.length : Int) - 1)) = _
  rw [wrap_i64 (by omega) (by omega)]
  have := unlittle_loop b hb hl b.length big (Nat.le_refl _) (big_lt (by rw [maxLen_eq]; omega))
  rw [List.drop_length] at this
  exact this

theorem tmod_nat (n k : Nat) : (n : Int).tmod (k : Int) = ((n % k : Nat) : Int) := by
  rw [Int.tmod_eq_emod_of_nonneg (by omega)]; simp
theorem tdiv_nat (n k : Nat) : (n : Int).tdiv (k : Int) = ((n / k : Nat) : Int) := by
  rw [Int.tdiv_eq_ediv_of_nonneg (by omega)]; simp

theorem little_loop (w : Nat) (hw : w ≤ 8) : ∀ (k N n i : Nat) (b : List Int), i + k = w → b.length = i → k < N → n < 18446744073709551616 →
    iterV (gref02_Little_0 big) N ((n : Int), (w : Int), (i : Int), b) = some (b ++ little k n)
  | k, 0, _, _, _, _, _, h, _ => by omega
  | 0, N + 1, n, i, b, hi, hb, _, _ => by
    have : i = w := by omega
    subst this
    rw [iterV_succ]
    have g : decide ((i : Int) < (i : Int)) = false := decide_eq_false (by omega)
    simp [gref02_Little_0, href02_Little_0, g, little]
  | k + 1, N + 1, n, i, b, hi, hb, hN, hn => by
    rw [iterV_succ]
    have g : decide ((i : Int) < (w : Int)) = true := decide_eq_true (by omega)
    have e1 : IntKind.u8.wrap ((n : Int).tmod 256) = ((n % 256 : Nat) : Int) := by
      rw [show (256 : Int) = ((256 : Nat) : Int) from rfl, tmod_nat, wrap_u8]; omega
    have e2 : IntKind.u64.wrap ((n : Int).tdiv 256) = ((n / 256 : Nat) : Int) := by
      rw [show (256 : Int) = ((256 : Nat) : Int) from rfl, tdiv_nat, wrap_u64]; omega
    have e3 : IntKind.i64.wrap ((i : Int) + 1) = ((i + 1 : Nat) : Int) := by rw [wrap_i64 (by omega) (by omega)]; simp
    have e4 : (Nat.ble 1 1 && Nat.ble (List.length b + List.length [((n % 256 : Nat) : Int)]) lim) = true := by
      rw [b11, ble_lim (by simp only [List.length_cons, List.length_nil]; omega)]; rfl
    simp only [gref02_Little_0, href02_Little_0, g, cond_true, e1, e2, e3, e4]
    rw [little_loop w hw k N (n / 256) (i + 1) _ (by omega) (by simp [hb]) (by omega) (by omega)]
    simp [little]

theorem rLittle_eq (n w : Nat) (hw : w ≤ 8) (hn : n < 18446744073709551616) : cref02_Little ((n : Int), (w : Int)) = some (little w n) := by
  have := little_loop w hw w big n 0 [] (by omega) rfl (big_lt (by rw [maxLen_eq]; omega)) hn
  rw [List.nil_append] at this
  exact this

theorem unl_little_mod : ∀ (k n : Nat), unl (little k n) = n % 256 ^ k
  | 0, n => by simp [little, unl]; omega
  | k + 1, n => by
    simp only [little, unl, Int.toNat_natCast, unl_little_mod k (n / 256)]
    rw [Nat.pow_succ, Nat.mul_comm (256 ^ k) 256, Nat.mod_mul]

theorem rFixed_eq (n : Nat) (w : Int) (hn : n < 18446744073709551616) : cref02_Fixed ((n : Int), w) = cwire_Fixed ((n : Int), w) := by
  rw [fixed_eq n w hn]
  simp only [cref02_Fixed, mref02_Fixed, nref02_Fixed, rWide_eq, Option.bind_some]
  cases hw : wide w with
  | false => simp
  | true =>
    obtain ⟨k, rfl, hk⟩ := wide_cases hw
    have hk8 : k ≤ 8 := by omega
    simp only [Bool.not_true, cond_false, rLittle_eq n k hk8 hn, Option.bind_some, unlittle_eq _ (little_bytes k n) (by rw [little_len]; exact hk8), unl_little_mod, Int.toNat_natCast]
    by_cases hlt : n < 256 ^ k
    · have g : (((n % 256 ^ k : Nat) : Int) != (n : Int)) = false := by rw [Nat.mod_eq_of_lt hlt]; simp
      rw [g]
      simp [hlt]
    · have hp : 0 < 256 ^ k := Nat.pow_pos (by decide)
      have g : (((n % 256 ^ k : Nat) : Int) != (n : Int)) = true := by
        have := Nat.mod_lt n hp
        rw [bne_iff_ne]
        omega
      rw [g]
      simp [hlt]

theorem rUnfixed_eq (c : Cur) (w : Int) (hb : Bytes c.1) : cref02_Unfixed (c, w) = cwire_Unfixed (c, w) := by
  rw [unfixed_eq c w hb]
  simp only [cref02_Unfixed, mref02_Unfixed, nref02_Unfixed, check_eq, rWide_eq, Option.bind_some]
  by_cases hv : Valid c
  · have g : ((0 : Int) != (0 : Int)) = false := rfl
    rw [if_neg (not_not_intro hv)]
    simp only [if_pos hv, g, cond_false]
    cases hw : wide w with
    | false => simp [zc]
    | true =>
      obtain ⟨k, rfl, hk⟩ := wide_cases hw
      obtain ⟨bs, at_, u⟩ := c
      obtain ⟨h1, h2, h3⟩ := hv
      simp only at h1 h2 h3 hb ⊢
      have e1 : IntKind.i64.wrap ((bs.length : Int) - at_) = (bs.length : Int) - at_ := wrap_i64 (by omega) (by omega)
      simp only [Bool.not_true, cond_false, e1]
      by_cases hs : (bs.length : Int) - at_ < (k : Int)
      · rw [decide_eq_true hs]; simp [hs, zc]
      · have e2 : IntKind.i64.wrap (at_ + (k : Int)) = at_ + (k : Int) := wrap_i64 (by omega) (by omega)
        have g1 : (decide ((0 : Int) ≤ at_) && (decide (at_ ≤ at_ + (k : Int)) && decide (at_ + (k : Int) ≤ (bs.length : Int)))) = true := by
          rw [decide_eq_true (by omega), decide_eq_true (by omega), decide_eq_true (by omega)]; rfl
        have hon := on_eq (bs, (at_, u)) (k : Int) (by simp only; omega) (by simp only; omega)
        rw [decide_eq_false hs]
        simp only [cond_false, hon, Option.bind_some, e2, g1, cond_true]
        have hcut : (bs.take (at_ + (k : Int)).toNat).drop at_.toNat = (bs.drop at_.toNat).take k := by
          rw [List.drop_take]
          congr 1
          omega
        rw [hcut, unlittle_eq _ (bytes_take (fun c hc => hb c (List.mem_of_mem_drop hc)) k) (by rw [List.length_take]; omega), if_neg (by simp), if_neg hs]
        simp
  · have g : ((8 : Int) != (0 : Int)) = true := rfl
    rw [if_pos hv]
    simp only [if_neg hv, g, cond_true]
    rfl

/-! ### minimal numbers -/
theorem minimal_loop : ∀ (k N n : Nat) (b : List Int), n < 128 ^ (k + 1) → k ≤ 9 → k < N → b.length + k ≤ 100 → n < 18446744073709551616 → iterV (gref02_Minimal_0 big) N ((n : Int), b) = some (b ++ varyF k n)
  | k, 0, _, _, _, _, h, _, _ => by omega
  | k, N + 1, n, b, hn, hk, hN, hb, h64 => by
    rw [iterV_succ]
    by_cases h : n < 128
    · have g : decide ((n : Int) ≥ (128 : Int)) = false := decide_eq_false (by omega)
      have e1 : IntKind.u8.wrap (n : Int) = (n : Int) := by rw [wrap_u8]; omega
      have e4 : (Nat.ble 1 1 && Nat.ble (List.length b + List.length [(n : Int)]) lim) = true := by
        rw [b11, ble_lim (by simp only [List.length_cons, List.length_nil]; omega)]; rfl
      have e5 : varyF k n = [(n : Int)] := by cases k <;> simp [varyF, h]
      simp only [gref02_Minimal_0, href02_Minimal_0, g, cond_false, e1, e4, cond_true, e5]
      rfl
    · cases k with
      | zero => simp at hn; omega
      | succ k =>
        have g : decide ((n : Int) ≥ (128 : Int)) = true := decide_eq_true (by omega)
        have e1 : IntKind.u8.wrap ((n : Int).tmod 128) = ((n % 128 : Nat) : Int) := by
          rw [show (128 : Int) = ((128 : Nat) : Int) from rfl, tmod_nat, wrap_u8]; omega
        have e2 : IntKind.u8.wrap (((n % 128 : Nat) : Int) + 128) = ((n % 128 + 128 : Nat) : Int) := by rw [wrap_u8]; omega
        have e3 : IntKind.u64.wrap ((n : Int).tdiv 128) = ((n / 128 : Nat) : Int) := by
          rw [show (128 : Int) = ((128 : Nat) : Int) from rfl, tdiv_nat, wrap_u64]; omega
        have e4 : (Nat.ble 1 1 && Nat.ble (List.length b + List.length [((n % 128 + 128 : Nat) : Int)]) lim) = true := by
          rw [b11, ble_lim (by simp only [List.length_cons, List.length_nil]; omega)]; rfl
        simp only [gref02_Minimal_0, href02_Minimal_0, g, cond_true, e1, e2, e3, e4]
        rw [minimal_loop k N (n / 128) _ (by rw [Nat.pow_succ] at hn; omega) (by omega) (by omega) (by simp only [List.append_eq, List.length_append, List.length_cons, List.length_nil]; omega) (by omega)]
        simp [varyF, h]

theorem minimal_eq (n : Nat) (h : n < 18446744073709551616) : cref02_Minimal (n : Int) = some (vary n) := by
  have := minimal_loop 9 big n [] (by simp; omega) (by omega) (by decide) (by simp) h
  rw [List.nil_append] at this
  exact this

/-- reading, by the reference -/
def outr (bs : List Int) (a n p : Nat) (r : Nat × Nat × Int) : Cur × Int × Int :=
  if r.2.2 = 0 then ((bs, (((a + r.2.1 : Nat) : Int), ())), ((n + r.1 * 128 ^ p : Nat) : Int), 0) else (zc, 0, r.2.2)

theorem read_loop (bs : List Int) (a0 : Nat) (hl : bs.length ≤ 200000) (hb : Bytes bs) : ∀ (k N n p : Nat), k + p = 10 → k < N → n < 128 ^ p → a0 + p ≤ bs.length →
    iterV (gref02_Read_0 big) N ((n : Int), ((128 ^ p % 18446744073709551616 : Nat) : Int), (p : Int), (bs, ((a0 : Int), ())), ((0 : Int), ()), ([] : List Int)) = some (outr bs (a0 + p) n p (rd k p (bs.drop (a0 + p))))
  | k, 0, _, _, _, h, _, _ => by omega
  | 0, N + 1, n, p, hp, _, _, _ => by
    rw [iterV_succ]
    have h1 : decide ((p : Int) < (10 : Int)) = false := decide_eq_false (by omega)
    simp only [gref02_Read_0, href02_Read_0, h1, cond_false]
    simp [outr, rd, zc]
  | k + 1, N + 1, n, p, hp, hN, hn, ha => by
    rw [iterV_succ]
    have h1 : decide ((p : Int) < (10 : Int)) = true := decide_eq_true (by omega)
    have e0 : IntKind.i64.wrap ((a0 : Int) + (p : Int)) = ((a0 + p : Nat) : Int) := by rw [wrap_i64 (by omega) (by omega)]; simp
    simp only [gref02_Read_0, href02_Read_0, h1, cond_true, e0]
    by_cases he : a0 + p = bs.length
    · have g : decide (((a0 + p : Nat) : Int) ≥ (bs.length : Int)) = true := decide_eq_true (by omega)
      have hd : bs.drop (a0 + p) = [] := by rw [he]; simp
      simp only [g, cond_true, hd]
      simp [outr, rd, zc]
    · have hlt : a0 + p < bs.length := by omega
      have g : decide (((a0 + p : Nat) : Int) ≥ (bs.length : Int)) = false := decide_eq_false (by omega)
      have hd : bs.drop (a0 + p) = bs[a0 + p] :: bs.drop (a0 + (p + 1)) := by rw [List.drop_eq_getElem_cons hlt]; rfl
      have hbb := hb bs[a0 + p] (List.getElem_mem hlt)
      simp only [g, cond_false, getI_at hlt, Option.bind_some]
      rw [hd]
      generalize bs[a0 + p] = c at *
      obtain ⟨m, rfl⟩ := Int.eq_ofNat_of_zero_le hbb.1
      have hm : m ≤ 255 := by omega
      have hp1 : IntKind.i64.wrap ((p : Int) + 1) = ((p + 1 : Nat) : Int) := by rw [wrap_i64 (by omega) (by omega)]; simp
      have hpow : 128 ^ p ≤ 128 ^ 9 := Nat.pow_le_pow_right (by decide) (by omega)
      have h9e : (128 : Nat) ^ 9 = 9223372036854775808 := by decide
      have hmod0 : 128 ^ p % 18446744073709551616 = 128 ^ p := Nat.mod_eq_of_lt (by omega)
      have e1 : IntKind.u64.wrap ((m : Int).tmod 128) = ((m % 128 : Nat) : Int) := by
        rw [show (128 : Int) = ((128 : Nat) : Int) from rfl, tmod_nat, wrap_u64]; omega
      have hon := on_eq (bs, ((a0 : Int), ())) ((p + 1 : Nat) : Int) (by simp only; omega) (by simp only; omega)
      have e5 : IntKind.u64.wrap (((128 ^ p : Nat) : Int) * 128) = ((128 ^ (p + 1) % 18446744073709551616 : Nat) : Int) := by
        rw [wrap_u64, Nat.pow_succ]; omega
      rw [hmod0]
      by_cases hbad9 : p = 9 ∧ (m : Int) > 1
      · have g9 : ((p : Int) == (9 : Int)) = true := by rw [beq_iff_eq]; omega
        have g1 : decide ((m : Int) > (1 : Int)) = true := decide_eq_true hbad9.2
        have hr : rd (k + 1) p ((m : Int) :: bs.drop (a0 + (p + 1))) = (0, 0, 12) := by rw [rd, if_pos (.inr hbad9)]
        rw [hr]
        simp only [g9, cond_true, g1]
        simp [outr, zc]
      · have hmul : m % 128 * 128 ^ p < 18446744073709551616 := by
          by_cases h9 : p = 9
          · have : m % 128 ≤ 1 := by omega
            calc m % 128 * 128 ^ p ≤ 1 * 128 ^ 9 := Nat.mul_le_mul this hpow
              _ < 18446744073709551616 := by decide
          · have hpp : 128 ^ p ≤ 128 ^ 8 := Nat.pow_le_pow_right (by decide) (by omega)
            calc m % 128 * 128 ^ p ≤ 127 * 128 ^ 8 := Nat.mul_le_mul (by omega) hpp
              _ < 18446744073709551616 := by decide
        have hsum : n + m % 128 * 128 ^ p < 18446744073709551616 := by
          by_cases h9 : p = 9
          · have h2 : m % 128 ≤ 1 := by omega
            have : m % 128 * 128 ^ p ≤ 1 * 128 ^ 9 := Nat.mul_le_mul h2 hpow
            omega
          · have hpp : 128 ^ p ≤ 128 ^ 8 := Nat.pow_le_pow_right (by decide) (by omega)
            have : m % 128 * 128 ^ p ≤ 127 * 128 ^ 8 := Nat.mul_le_mul (by omega) hpp
            have h8e : (128 : Nat) ^ 8 = 72057594037927936 := by decide
            omega
        have e2 : IntKind.u64.wrap (((128 ^ p : Nat) : Int) * ((m % 128 : Nat) : Int)) = ((m % 128 * 128 ^ p : Nat) : Int) := by
          rw [wrap_u64, Nat.mul_comm, ← Int.natCast_mul, Nat.mul_comm]
          rw [Nat.mul_comm] at hmul
          omega
        have e3 : IntKind.u64.wrap ((n : Int) + ((m % 128 * 128 ^ p : Nat) : Int)) = ((n + m % 128 * 128 ^ p : Nat) : Int) := by rw [wrap_u64]; omega
        have main : (bif decide ((m : Int) < (128 : Int)) then (bif (m : Int) == (0 : Int) then (bif decide ((p : Int) > (0 : Int)) then some ((([] : List Int), ((0 : Int), ())), (0 : Int), (12 : Int)) else some ((bs, ((a0 : Int) + ((p + 1 : Nat) : Int), ())), ((n + m % 128 * 128 ^ p : Nat) : Int), (0 : Int))) else some ((bs, ((a0 : Int) + ((p + 1 : Nat) : Int), ())), ((n + m % 128 * 128 ^ p : Nat) : Int), (0 : Int)))
            else iterV (gref02_Read_0 big) N (((n + m % 128 * 128 ^ p : Nat) : Int), ((128 ^ (p + 1) % 18446744073709551616 : Nat) : Int), ((p + 1 : Nat) : Int), (bs, ((a0 : Int), ())), ((0 : Int), ()), ([] : List Int))) = some (outr bs (a0 + p) n p (rd (k + 1) p ((m : Int) :: bs.drop (a0 + (p + 1))))) := by
          by_cases h128 : m < 128
          · have g1 : decide ((m : Int) < (128 : Int)) = true := decide_eq_true (by omega)
            rw [g1, cond_true]
            by_cases hz : p > 0 ∧ (m : Int) = 0
            · have g2 : ((m : Int) == (0 : Int)) = true := by rw [beq_iff_eq]; exact hz.2
              have g3 : decide ((p : Int) > (0 : Int)) = true := decide_eq_true (by omega)
              rw [g2, cond_true, g3, cond_true, rd, if_pos (.inl hz)]
              simp [outr, zc]
            · have hr : rd (k + 1) p ((m : Int) :: bs.drop (a0 + (p + 1))) = (m, 1, 0) := by
                rw [rd, if_neg (fun h => h.elim hz hbad9), if_pos (by omega)]; rfl
              rw [hr]
              have e6 : (a0 : Int) + ((p + 1 : Nat) : Int) = ((a0 + p + 1 : Nat) : Int) := by omega
              simp only [outr, if_true, Nat.mod_eq_of_lt h128, e6]
              by_cases hm0 : (m : Int) = 0
              · have g2 : ((m : Int) == (0 : Int)) = true := by rw [beq_iff_eq]; exact hm0
                have g3 : decide ((p : Int) > (0 : Int)) = false := decide_eq_false (by omega)
                rw [g2, cond_true, g3, cond_false]
              · have g2 : ((m : Int) == (0 : Int)) = false := by rw [beq_eq_false_iff_ne]; exact hm0
                rw [g2, cond_false]
          · have g1 : decide ((m : Int) < (128 : Int)) = false := decide_eq_false (by omega)
            rw [g1, cond_false, rd, if_neg (fun h => h.elim (fun h => by omega) hbad9), if_neg (by omega)]
            rw [read_loop bs a0 hl hb k N (n + m % 128 * 128 ^ p) (p + 1) (by omega) (by omega) ?_ (by omega)]
            · generalize rd k (p + 1) (bs.drop (a0 + (p + 1))) = r
              have e1 : n + m % 128 * 128 ^ p + r.1 * 128 ^ (p + 1) = n + (m - 128 + 128 * r.1) * 128 ^ p := by
                have : m % 128 = m - 128 := by omega
                rw [this, Nat.pow_succ, Nat.add_mul, Nat.add_assoc]
                congr 2
                rw [Nat.mul_comm (128 ^ p) 128, ← Nat.mul_assoc, Nat.mul_comm r.1 128]
              by_cases hr : r.2.2 = 0
              · simp only [outr, hr, if_true, e1, Int.toNat_natCast]
                rw [show a0 + (p + 1) + r.2.1 = a0 + p + (r.2.1 + 1) by omega]
              · simp only [outr, hr, if_false]
            · have : m % 128 ≤ 127 := by omega
              have : m % 128 * 128 ^ p ≤ 127 * 128 ^ p := Nat.mul_le_mul_right _ this
              rw [Nat.pow_succ]
              omega
        rw [← main]
        by_cases h9 : p = 9
        · have g9 : ((p : Int) == (9 : Int)) = true := by rw [beq_iff_eq]; omega
          have g1 : decide ((m : Int) > (1 : Int)) = false := decide_eq_false (fun h => hbad9 ⟨h9, h⟩)
          simp only [g9, cond_true, g1, cond_false, e1, e2, e3, e5, hp1, hon, Option.bind_some]
        · have g9 : ((p : Int) == (9 : Int)) = false := by rw [beq_eq_false_iff_ne]; omega
          simp only [g9, cond_false, e1, e2, e3, e5, hp1, hon, Option.bind_some]

theorem rRead_eq (c : Cur) (hb : Bytes c.1) (hv : Valid c) : cref02_Read c = some (outr c.1 c.2.1.toNat 0 0 (rd 10 0 (c.1.drop c.2.1.toNat))) := by
  obtain ⟨bs, at_, u⟩ := c
  obtain ⟨h1, h2, h3⟩ := hv
  simp only at h1 h2 h3 hb
  obtain ⟨a, rfl⟩ := Int.eq_ofNat_of_zero_le h2
  have := read_loop bs a h1 hb 10 big 0 0 rfl (by decide) (by decide) (by omega)
  exact this

theorem rUnvary_eq (c : Cur) (most : Int) (hb : Bytes c.1) : cref02_Unvary (c, most) = cwire_Unvary (c, most) := by
  rw [unvary_eq c most hb]
  simp only [cref02_Unvary, mref02_Unvary, nref02_Unvary, check_eq, Option.bind_some]
  by_cases hv : Valid c
  · have g : ((0 : Int) != (0 : Int)) = false := rfl
    simp only [if_pos hv, g, cond_false, rRead_eq c hb hv, Option.bind_some]
    generalize rd 10 0 (c.1.drop c.2.1.toNat) = r
    unfold outr outc
    by_cases he : r.2.2 = 0
    · simp only [if_pos he]
      have g0 : ((0 : Int) == (0 : Int)) = true := rfl
      simp only [g0, cond_true, g, cond_false]
      by_cases hm : ((0 + r.1 * 128 ^ 0 : Nat) : Int) > most
      · rw [decide_eq_true hm, if_pos hm]; rfl
      · rw [decide_eq_false hm, if_neg hm]; rfl
    · have g1 : (r.2.2 == (0 : Int)) = false := by rw [beq_eq_false_iff_ne]; exact he
      have g2 : (r.2.2 != (0 : Int)) = true := by rw [bne_iff_ne]; exact he
      simp only [if_neg he, g1, cond_false, g2, cond_true]
      rfl
  · have g : ((8 : Int) != (0 : Int)) = true := rfl
    simp only [if_neg hv, g, cond_true]
    rfl

/-! ### signed numbers -/
theorem half_eq (n : Nat) (h : n < 18446744073709551616) : cref02_Half (n : Int) = some (half n) := by
  simp only [cref02_Half, mref02_Half, nref02_Half]
  have e1 : (n : Int).tmod 2 = ((n % 2 : Nat) : Int) := by rw [show (2 : Int) = ((2 : Nat) : Int) from rfl, tmod_nat]
  have e2 : IntKind.u64.wrap ((n : Int).tdiv 2) = ((n / 2 : Nat) : Int) := by rw [show (2 : Int) = ((2 : Nat) : Int) from rfl, tdiv_nat, wrap_u64]; omega
  have e3 : IntKind.i64.wrap ((n / 2 : Nat) : Int) = ((n / 2 : Nat) : Int) := wrap_i64 (by omega) (by omega)
  have e4 : IntKind.i64.wrap (0 - ((n / 2 : Nat) : Int)) = 0 - ((n / 2 : Nat) : Int) := wrap_i64 (by omega) (by omega)
  have e5 : IntKind.i64.wrap (0 - ((n / 2 : Nat) : Int) - 1) = 0 - ((n / 2 : Nat) : Int) - 1 := wrap_i64 (by omega) (by omega)
  simp only [e1, e2, e3, e4, e5, half]
  by_cases ho : n % 2 = 1
  · have g : (((n % 2 : Nat) : Int) == (0 : Int)) = false := by rw [beq_eq_false_iff_ne]; omega
    rw [g, if_pos ho, cond_false]
    congr 1
    omega
  · have g : (((n % 2 : Nat) : Int) == (0 : Int)) = true := by rw [beq_iff_eq]; omega
    rw [g, if_neg ho, cond_true]

theorem rUnsigned_eq (c : Cur) (hb : Bytes c.1) : cref02_Unsigned c = cwire_Unsigned c := by
  rw [unsigned_eq c hb]
  simp only [cref02_Unsigned, mref02_Unsigned, nref02_Unsigned, rUnvary_eq c _ hb, unvary_eq c _ hb, Option.bind_some]
  generalize hx : (if Valid c then outc c.1 c.2.1.toNat 18446744073709551615 0 0 (rd 10 0 (c.1.drop c.2.1.toNat)) else (zc, 0, 8)) = x
  by_cases he : x.2.2 = 0
  · have hv : Valid c := by
      apply Classical.byContradiction
      intro hn
      rw [if_neg hn] at hx
      subst hx
      simp at he
    rw [if_pos hv] at hx
    subst hx
    obtain ⟨h1, h2, h3⟩ := outc_num he
    have hrd := rd_read 9 0 _ rfl (fun b hbb => hb b (List.mem_of_mem_drop hbb)) h1
    rw [h3]
    generalize hn : (rd 10 0 (c.1.drop c.2.1.toNat)).1 = n at *
    have hn64 : n < 18446744073709551616 := hrd.2.1
    have e0 : (0 + n * 128 ^ 0) = n := by omega
    rw [e0]
    have g : ((0 : Int) != (0 : Int)) = false := rfl
    simp only [g, cond_false, half_eq n hn64, Option.bind_some, outs, if_true, Int.toNat_natCast]
  · have g : (x.2.2 != (0 : Int)) = true := by rw [bne_iff_ne]; exact he
    simp only [g, cond_true, outs, if_neg he]
    rfl

theorem double_eq (x : Int) (h0 : -9223372036854775808 ≤ x) (h1 : x ≤ 9223372036854775807) : cref02_Double x = some ((dbl x : Nat) : Int) := by
  simp only [cref02_Double, mref02_Double, nref02_Double, dbl]
  by_cases h : x < 0
  · have g : decide (x ≥ (0 : Int)) = false := decide_eq_false (by omega)
    have e1 : IntKind.i64.wrap (x + 1) = x + 1 := wrap_i64 (by omega) (by omega)
    have e2 : IntKind.i64.wrap (0 - (x + 1)) = 0 - (x + 1) := wrap_i64 (by omega) (by omega)
    have e3 : IntKind.u64.wrap (0 - (x + 1)) = 0 - (x + 1) := by rw [wrap_u64]; omega
    have e4 : IntKind.u64.wrap ((0 - (x + 1)) * 2) = (0 - (x + 1)) * 2 := by rw [wrap_u64]; omega
    have e5 : IntKind.u64.wrap ((0 - (x + 1)) * 2 + 1) = (0 - (x + 1)) * 2 + 1 := by rw [wrap_u64]; omega
    simp only [g, cond_false, e1, e2, e3, e4, e5, if_pos h]
    congr 1
    omega
  · have g : decide (x ≥ (0 : Int)) = true := decide_eq_true (by omega)
    have e1 : IntKind.u64.wrap x = x := by rw [wrap_u64]; omega
    have e2 : IntKind.u64.wrap (x * 2) = x * 2 := by rw [wrap_u64]; omega
    simp only [g, cond_true, e1, e2, if_neg h]
    congr 1
    omega

/-! ### texts -/
theorem said_eq (s : List Int) (h : s.length ≤ 200000) : cref02_Said s = some (vary s.length ++ s) := by
  simp only [cref02_Said, mref02_Said, nref02_Said]
  have hw : IntKind.u64.wrap (s.length : Int) = ((s.length : Nat) : Int) := by rw [wrap_u64]; omega
  have hv := vary_len s.length
  have e : (Nat.ble 1 1 && Nat.ble ((vary s.length).length + s.length) lim) = true := by rw [b11, ble_lim (by omega)]; rfl
  simp only [hw, minimal_eq s.length (by omega), Option.bind_some, e, cond_true]
  rfl

theorem rText_eq (s : List Int) : cref02_Text s = cwire_Text s := by
  rw [text_eq]
  simp only [cref02_Text, mref02_Text, nref02_Text]
  by_cases h : s.length > 200000
  · rw [decide_eq_true (show (s.length : Int) > 200000 by omega), if_pos h]; rfl
  · rw [decide_eq_false (show ¬ (s.length : Int) > 200000 by omega), if_neg h, cond_false, said_eq s (by omega)]; rfl

theorem rNew_eq (b : List Int) : cref02_New b = cwire_New b := by
  rw [new_eq]
  simp only [cref02_New, mref02_New, nref02_New]
  by_cases h : b.length > 200000
  · rw [decide_eq_true (show (b.length : Int) > 200000 by omega), if_pos h]; rfl
  · have e : (Nat.ble 1 1 && Nat.ble (([] : List Int).length + b.length) lim) = true := by rw [b11, ble_lim (by simp only [List.length_nil]; omega)]; rfl
    rw [decide_eq_false (show ¬ (b.length : Int) > 200000 by omega), if_neg h, cond_false, e, cond_true]
    rfl

theorem rUntext_eq (c : Cur) (most : Int) (hb : Bytes c.1) : cref02_Untext (c, most) = cwire_Untext (c, most) := by
  rw [untext_eq c most hb]
  simp only [cref02_Untext, mref02_Untext, nref02_Untext, check_eq, Option.bind_some, outt]
  by_cases hv : Valid c
  · have g : ((0 : Int) != (0 : Int)) = false := rfl
    simp only [if_pos hv, g, cond_false, if_neg (not_not_intro hv)]
    by_cases h0 : most < 0
    · simp [h0, zc]
    · by_cases h1 : most > 200000
      · simp [h0, h1, zc]
      · have g0 : decide (most < (0 : Int)) = false := decide_eq_false h0
        have g1 : decide (most > (200000 : Int)) = false := decide_eq_false h1
        have gw : IntKind.u64.wrap most = most := by rw [wrap_u64]; omega
        rw [if_neg (by omega)]
        simp only [g0, g1, cond_false, gw, rUnvary_eq c most hb, unvary_eq c most hb, if_pos hv, Option.bind_some]
        generalize hx : outc c.1 c.2.1.toNat most 0 0 (rd 10 0 (c.1.drop c.2.1.toNat)) = x
        by_cases he : x.2.2 = 0
        · subst hx
          obtain ⟨h2, h3, h4⟩ := outc_num he
          have hrd := rd_read 9 0 _ rfl (fun b hbb => hb b (List.mem_of_mem_drop hbb)) h2
          rw [h4]
          generalize (rd 10 0 (c.1.drop c.2.1.toNat)).1 = n at *
          generalize (rd 10 0 (c.1.drop c.2.1.toNat)).2.1 = u at *
          obtain ⟨v1, v2, v3⟩ := hv
          obtain ⟨_, r2, r3, r4, _⟩ := hrd
          rw [List.length_drop] at r4
          have e0 : (0 + n * 128 ^ 0) = n := by omega
          rw [e0] at h3 ⊢
          have e1 : IntKind.i64.wrap ((c.1.length : Int) - ((c.2.1.toNat + u : Nat) : Int)) = (c.1.length : Int) - ((c.2.1.toNat + u : Nat) : Int) := wrap_i64 (by omega) (by omega)
          have e2 : IntKind.u64.wrap ((c.1.length : Int) - ((c.2.1.toNat + u : Nat) : Int)) = (c.1.length : Int) - ((c.2.1.toNat + u : Nat) : Int) := by rw [wrap_u64]; omega
          have ew : IntKind.i64.wrap (n : Int) = (n : Int) := wrap_i64 (by omega) (by omega)
          simp only [g, cond_false, e1, e2, ew, ne_eq, not_true_eq_false, if_false]
          by_cases hs : (c.1.length : Int) - ((c.2.1.toNat + u : Nat) : Int) < (n : Int)
          · rw [decide_eq_true hs, if_pos hs]; rfl
          · have ea : IntKind.i64.wrap (((c.2.1.toNat + u : Nat) : Int) + (n : Int)) = ((c.2.1.toNat + u : Nat) : Int) + (n : Int) := wrap_i64 (by omega) (by omega)
            have gc : (decide ((0 : Int) ≤ ((c.2.1.toNat + u : Nat) : Int)) && (decide (((c.2.1.toNat + u : Nat) : Int) ≤ ((c.2.1.toNat + u : Nat) : Int) + (n : Int)) && decide (((c.2.1.toNat + u : Nat) : Int) + (n : Int) ≤ (c.1.length : Int)))) = true := by
              rw [decide_eq_true (by omega), decide_eq_true (by omega), decide_eq_true (by omega)]; rfl
            have hon := on_eq (c.1, (((c.2.1.toNat + u : Nat) : Int), ())) (n : Int) (by simp only; omega) (by simp only; omega)
            rw [decide_eq_false hs, if_neg hs]
            simp only [cond_false, hon, Option.bind_some, ea, gc, cond_true]
        · have g2 : (x.2.2 != (0 : Int)) = true := by rw [bne_iff_ne]; exact he
          simp only [g2, cond_true, ne_eq, he, not_false_eq_true, if_true]
          rfl
  · have g : ((8 : Int) != (0 : Int)) = true := rfl
    simp only [if_neg hv, g, cond_true, if_pos hv]
    rfl

theorem same_self (c : Cur) : cref02_Same (c, c) = some true := by
  simp only [cref02_Same, mref02_Same, nref02_Same, beq_self_eq_true, cond_true, eqD_self]
theorem long_some (b : List Int) : ∃ r, cref02_Long b = some r := by
  simp only [cref02_Long, mref02_Long, nref02_Long]
  cases decide ((b.length : Int) > 2000) <;> cases decide ((b.length : Int) ≤ 200000) <;> exact ⟨_, rfl⟩

/-! ### the laws -/
theorem writes_true (x : Int × Int × Int × (List Int) × (List Int)) (w : WfL [(.int .u64), (.int .i64), (.int .i64), .str, (.slice (.int .u8))] x) : claw02_WireWrites x = some true := by
  obtain ⟨n', w', i, s, b⟩ := x
  obtain ⟨⟨n0, n1⟩, _, ⟨i0, i1⟩, _, _⟩ := w
  simp only [min_u64, max_u64] at n0 n1
  obtain ⟨n, rfl⟩ := Int.eq_ofNat_of_zero_le n0
  have hn : n < 18446744073709551616 := by have : (n : Int) ≤ 18446744073709551615 := n1; omega
  have hi0 : -9223372036854775808 ≤ i := i0
  have hi1 : i ≤ 9223372036854775807 := i1
  have hd := dbl_lt hi0 hi1
  show nlaw02_WireWrites ((n : Int), w', i, s, b) = some true
  obtain ⟨l1, hl1⟩ := long_some s
  obtain ⟨l2, hl2⟩ := long_some b
  simp only [nlaw02_WireWrites, hl1, hl2, Option.bind_some]
  cases l1 with
  | true => rfl
  | false =>
    cases l2 with
    | true => rfl
    | false =>
      simp only [cond_false, rFixed_eq n w' hn, fixed_eq n w' hn, rText_eq, text_eq, rNew_eq, new_eq, Option.bind_some, eqD_self, beq_self_eq_true, cond_true, same_self, vary_eq n hn, minimal_eq n hn, signed_eq i hi0 hi1, double_eq i hi0 hi1, minimal_eq (dbl i) hd]

theorem reads_true (x : Cur × Int × Int × Int) (w : WfL [(.pair (.slice (.int .u8)) (.pair (.int .i64) .unit)), (.int .i64), (.int .u64), (.int .i64)] x) : claw02_WireReads x = some true := by
  obtain ⟨c, w', most, text⟩ := x
  obtain ⟨⟨⟨_, hb0⟩, _⟩, _⟩ := w
  have hb : Bytes c.1 := fun d hd => by
    have := hb0 d hd
    simpa only [Wf, min_u8, max_u8] using this
  show nlaw02_WireReads (c, w', most, text) = some true
  obtain ⟨l1, hl1⟩ := long_some c.1
  simp only [nlaw02_WireReads, hl1, Option.bind_some]
  cases l1 with
  | true => rfl
  | false =>
    have ne0 : ∀ a : Int, (a != a) = false := fun a => by simp
    simp only [cond_false, rLeft_eq, Left_eq, rUnfixed_eq c w' hb, unfixed_eq c w' hb, rUnvary_eq c most hb, unvary_eq c most hb, rUnsigned_eq c hb, unsigned_eq c hb, rUntext_eq c text hb, untext_eq c text hb, Option.bind_some, ne0, same_self, Bool.not_true, cond_true, beq_self_eq_true, eqD_self]
end Go.Proofs.Ytdhlomachkionaa
