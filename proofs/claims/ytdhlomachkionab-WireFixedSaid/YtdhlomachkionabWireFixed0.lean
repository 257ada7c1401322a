/- WireFixed: the bytes of a fixed number are those of its two halves. -/
import Derived.Test.YtdhlomachkionabWireB
set_option linter.unusedVariables false
set_option linter.unusedSimpArgs false
set_option maxRecDepth 100000
namespace Go.Proofs.Ytdhlomachkionab
open Go.Lift

theorem fWide_eq (w : Int) : cref02_Wide w = some (wide w) := by
  simp only [cref02_Wide, mref02_Wide, nref02_Wide, wide]
  cases w == 1 <;> cases w == 2 <;> cases w == 4 <;> rfl

theorem little_mod : ∀ (j n : Nat), little j (n % 256 ^ j) = little j n
  | 0, _ => rfl
  | j + 1, n => by
    simp only [little]
    have e1 : n % 256 ^ (j + 1) % 256 = n % 256 := by
      rw [Nat.pow_succ, Nat.mul_comm, Nat.mod_mul_right_mod]
    have e2 : n % 256 ^ (j + 1) / 256 = n / 256 % 256 ^ j := by
      rw [Nat.pow_succ, Nat.mul_comm, Nat.mod_mul_right_div_self]
    rw [e1, e2, little_mod j]

def fixTail (x : Int × Int) (x1 : List Int × Int) : Option Bool :=
  (bif (x1.2 != (0 : Int)) then (some false) else (bif ((List.length x1.1 : Int) != x.2) then (some false) else (bif (x.2 == (1 : Int)) then (bif (decide (0 ≤ (0 : Int)) && decide ((0 : Int) < (List.length x1.1 : Int))) then ((nth x1.1 (Int.toNat (0 : Int))).bind fun x18 => (bif ((IntKind.u64.wrap x18) == x.1) then ((claw02_alive ()).bind fun x19 => (some x19)) else (some false))) else none) else (let x20 : Int := (IntKind.i64.wrap (x.2.tdiv (2 : Int))); (let x21 : Int := (IntKind.i64.wrap ((8 : Int) * x20)); (bif (decide (x21 < 0)) then none else (let x22 : Int := (IntKind.u64.wrap ((1 : Int) * 2 ^ (min (Int.toNat x21) 64))); (bif (x22 == 0) then none else ((cwire_Fixed ((x.1.tmod x22), x20)).bind fun x23 => (let x24 : Int := (IntKind.i64.wrap ((8 : Int) * x20)); (bif (decide (x24 < 0)) then none else (let x25 : Int := (x.1.fdiv (2 ^ (min (Int.toNat x24) 64))); ((cwire_Fixed (x25, x20)).bind fun x26 => (bif (x23.2 == (0 : Int)) then (bif (x26.2 == (0 : Int)) then (bif (Nat.ble 1 1 && Nat.ble (List.length ([] : (List Int)) + List.length x23.1) lim) then (let x27 : (List Int) := (List.append ([] : (List Int)) x23.1); (bif (Nat.ble 1 1 && Nat.ble (List.length x27 + List.length x26.1) lim) then (bif (eqD .str x1.1 (List.append x27 x26.1)) then ((claw02_alive ()).bind fun x28 => (some x28)) else (some false)) else none)) else none) else (some false)) else (some false)))))))))))))))

theorem tail_half (n j : Nat) (hj : j = 1 ∨ j = 2 ∨ j = 4) (hn : n < 256 ^ (j + j)) (h64 : n < 18446744073709551616) : fixTail ((n : Int), ((j + j : Nat) : Int)) (little (j + j) n, 0) = some true := by
  have g0 : ((0 : Int) != (0 : Int)) = false := rfl
  have g00 : ((0 : Int) == (0 : Int)) = true := rfl
  have g1 : (((little (j + j) n).length : Int) != ((j + j : Nat) : Int)) = false := by rw [little_len]; simp
  have g2 : (((j + j : Nat) : Int) == (1 : Int)) = false := by rw [beq_eq_false_iff_ne]; omega
  have e1 : IntKind.i64.wrap (((j + j : Nat) : Int).tdiv 2) = (j : Int) := by
    rw [Int.tdiv_eq_ediv_of_nonneg (by omega), wrap_i64 (by omega) (by omega)]; omega
  have e2 : IntKind.i64.wrap ((8 : Int) * (j : Int)) = ((8 * j : Nat) : Int) := by rw [wrap_i64 (by omega) (by omega)]; simp
  have e3 : decide (((8 * j : Nat) : Int) < 0) = false := decide_eq_false (by omega)
  have e4 : min (8 * j) 64 = 8 * j := by omega
  have e5 : (2 : Nat) ^ (8 * j) = 256 ^ j := by rw [Nat.pow_mul]
  have hp : 256 ^ j ≤ 256 ^ 4 := Nat.pow_le_pow_right (by decide) (by omega)
  have hp4 : (256 : Nat) ^ 4 = 4294967296 := by decide
  have hpos : 0 < 256 ^ j := Nat.pow_pos (by decide)
  have e6 : IntKind.u64.wrap ((1 : Int) * 2 ^ (8 * j)) = ((256 ^ j : Nat) : Int) := by
    have : ((1 : Int) * 2 ^ (8 * j)) = ((256 ^ j : Nat) : Int) := by rw [← e5, Int.one_mul, Int.natCast_pow]; rfl
    rw [this, wrap_u64]; omega
  have e7 : (((256 ^ j : Nat) : Int) == 0) = false := by rw [beq_eq_false_iff_ne]; omega
  have e8 : (n : Int).tmod ((256 ^ j : Nat) : Int) = ((n % 256 ^ j : Nat) : Int) := by
    rw [Int.tmod_eq_emod_of_nonneg (by omega)]
    exact (Int.natCast_emod n (256 ^ j)).symm
  have e9 : (n : Int).fdiv (2 ^ (8 * j)) = ((n / 256 ^ j : Nat) : Int) := by rw [fdiv_nat, e5]
  have hw : wide (j : Int) = true := by rcases hj with rfl | rfl | rfl <;> rfl
  have hlo : n % 256 ^ j < 256 ^ j := Nat.mod_lt _ hpos
  have hhi : n / 256 ^ j < 256 ^ j := by
    rw [Nat.div_lt_iff_lt_mul hpos, ← Nat.pow_add]
    exact hn
  have f1 := fixed_eq (n % 256 ^ j) (j : Int) (by omega)
  have f2 := fixed_eq (n / 256 ^ j) (j : Int) (by omega)
  rw [Int.toNat_natCast, if_pos ⟨hw, hlo⟩] at f1
  rw [Int.toNat_natCast, if_pos ⟨hw, hhi⟩] at f2
  have c1 : (Nat.ble 1 1 && Nat.ble (List.length ([] : List Int) + List.length (little j (n % 256 ^ j))) lim) = true := by rw [b11, ble_lim (by rw [little_len]; simp only [List.length_nil]; omega)]; rfl
  have c2 : (Nat.ble 1 1 && Nat.ble (List.length (List.append ([] : List Int) (little j (n % 256 ^ j))) + List.length (little j (n / 256 ^ j))) lim) = true := by
    rw [b11, ble_lim (by simp only [List.append_eq, List.nil_append]; rw [little_len, little_len]; omega)]; rfl
  have c3 : List.append (List.append ([] : List Int) (little j (n % 256 ^ j))) (little j (n / 256 ^ j)) = little (j + j) n := by
    rw [little_add, little_mod]; rfl
  unfold fixTail
  dsimp only
  rw [g0, g1, g2]
  simp only [cond_false, e1, e2, e3, Int.toNat_natCast, e4, e6, e7, e8, e9, f1, f2, Option.bind_some, g00, cond_true, c1, c2, c3, eqD_self, alive_true]

theorem tail_one (n : Nat) (hn : n < 256) : fixTail ((n : Int), (1 : Int)) (little 1 n, 0) = some true := by
  have g0 : ((0 : Int) != (0 : Int)) = false := rfl
  have h1 : little 1 n = [((n % 256 : Nat) : Int)] := rfl
  have g1 : (((little 1 n).length : Int) != (1 : Int)) = false := rfl
  have g2 : ((1 : Int) == (1 : Int)) = true := rfl
  have g3 : (decide ((0 : Int) ≤ (0 : Int)) && decide ((0 : Int) < ((little 1 n).length : Int))) = true := rfl
  have g4 : nth (little 1 n) (Int.toNat 0) = some ((n % 256 : Nat) : Int) := rfl
  have g5 : (IntKind.u64.wrap ((n % 256 : Nat) : Int) == (n : Int)) = true := by rw [wrap_u64, beq_iff_eq]; omega
  unfold fixTail
  dsimp only
  rw [g0, g1, g2, g3, g4]
  simp only [cond_false, cond_true, Option.bind_some]
  rw [g5, alive_true]
  rfl

theorem fixed_true (x : Int × Int) (w : WfL [(.int .u64), (.int .i64)] x) : claw02_WireFixed x = some true := by
  obtain ⟨n', w'⟩ := x
  obtain ⟨⟨n0, n1⟩, _⟩ := w
  simp only [min_u64, max_u64] at n0 n1
  obtain ⟨n, rfl⟩ := Int.eq_ofNat_of_zero_le n0
  have hn : n < 18446744073709551616 := by have : (n : Int) ≤ 18446744073709551615 := n1; omega
  have hunf : claw02_WireFixed ((n : Int), w') = ((cwire_Fixed ((n : Int), w')).bind fun x1 => ((cref02_Wide w').bind fun x2 => (bif (!x2) then (bif (x1.2 == (2 : Int)) then (bif ((List.length x1.1 : Int) == (0 : Int)) then ((claw02_alive ()).bind fun x3 => (some x3)) else (some false)) else (some false)) else (bif (decide (w' < (8 : Int))) then (let x4 : Int := (IntKind.i64.wrap ((8 : Int) * w')); (bif (decide (x4 < 0)) then none else (let x5 : Int := ((n : Int).fdiv (2 ^ (min (Int.toNat x4) 64))); (bif (decide (x5 > (0 : Int))) then (bif (x1.2 == (2 : Int)) then ((claw02_alive ()).bind fun x6 => (some x6)) else (some false)) else fixTail ((n : Int), w') x1)))) else fixTail ((n : Int), w') x1)))) := rfl
  rw [hunf, fixed_eq n w' hn, fWide_eq]
  simp only [Option.bind_some]
  cases hw : wide w' with
  | false =>
    have e : ¬ (false = true ∧ n < 256 ^ w'.toNat) := fun h => by cases h.1
    rw [if_neg e, alive_true]
    rfl
  | true =>
    obtain ⟨k, rfl, hk⟩ := wide_cases hw
    rw [Int.toNat_natCast]
    have tailk : n < 256 ^ k → fixTail ((n : Int), (k : Int)) (little k n, 0) = some true := by
      intro hlt
      rcases hk with rfl | rfl | rfl | rfl
      · exact tail_one n (by simpa using hlt)
      · exact tail_half n 1 (.inl rfl) hlt hn
      · exact tail_half n 2 (.inr (.inl rfl)) hlt hn
      · exact tail_half n 4 (.inr (.inr rfl)) hlt hn
    simp only [Bool.not_true, cond_false]
    by_cases h8 : k = 8
    · subst h8
      have hlt : n < 256 ^ 8 := by simpa using hn
      rw [decide_eq_false (show ¬ (((8 : Nat) : Int) < 8) by omega), if_pos ⟨trivial, hlt⟩, cond_false]
      exact tailk hlt
    · have h8k : IntKind.i64.wrap ((8 : Int) * (k : Int)) = ((8 * k : Nat) : Int) := by rw [wrap_i64 (by omega) (by omega)]; simp
      have h2 : decide (((8 * k : Nat) : Int) < 0) = false := decide_eq_false (by omega)
      have h3 : min (8 * k) 64 = 8 * k := by omega
      have h6 : (2 : Nat) ^ (8 * k) = 256 ^ k := by rw [Nat.pow_mul]
      rw [decide_eq_true (show ((k : Int) < 8) by omega)]
      simp only [cond_true, h8k, h2, cond_false, Int.toNat_natCast, h3, fdiv_nat, h6]
      have hpos : 0 < 256 ^ k := Nat.pow_pos (by decide)
      by_cases hlt : n < 256 ^ k
      · have hz : n / 256 ^ k = 0 := Nat.div_eq_of_lt hlt
        rw [hz, decide_eq_false (show ¬ (((0 : Nat) : Int) > 0) by omega), if_pos ⟨trivial, hlt⟩, cond_false]
        exact tailk hlt
      · have hz : 0 < n / 256 ^ k := Nat.div_pos (by omega) hpos
        rw [decide_eq_true (show (((n / 256 ^ k : Nat) : Int) > 0) by omega), if_neg (fun h => hlt h.2), alive_true]
        rfl
end Go.Proofs.Ytdhlomachkionab
