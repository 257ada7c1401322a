/- WireFirst: no encoding is the beginning of another one, and no first part of one can be read. -/
import Derived.Test.YtdhlomachkionaaWireC
set_option linter.unusedVariables false
set_option linter.unusedSimpArgs false
set_option maxRecDepth 100000
namespace Go.Proofs.Ytdhlomachkionaa
open Go.Lift

def begins (a b : List Int) : Bool := decide (b.length ≤ a.length ∧ a.take b.length = b)
theorem begins_eq (a b : List Int) : cref02_Begins (a, b) = some (begins a b) := by
  simp only [cref02_Begins, mref02_Begins, nref02_Begins, begins]
  by_cases h : b.length ≤ a.length
  · have g : decide ((a.length : Int) ≥ (b.length : Int)) = true := decide_eq_true (by omega)
    have g2 : (decide ((0 : Int) ≤ (b.length : Int)) && decide ((b.length : Int) ≤ (a.length : Int))) = true := by rw [decide_eq_true (by omega), decide_eq_true (by omega)]; rfl
    simp only [g, g2, cond_true, Int.toNat_natCast]
    by_cases he : a.take b.length = b
    · rw [eqD_iff.2 he]; simp [h, he]
    · rw [eqD_false he]; simp [h, he]
  · have g : decide ((a.length : Int) ≥ (b.length : Int)) = false := decide_eq_false (by omega)
    simp [g, h]

theorem begins_split {a b : List Int} (h : begins a b = true) : ∃ r, a = b ++ r := by
  obtain ⟨h1, h2⟩ := of_decide_eq_true h
  exact ⟨a.drop b.length, by conv => lhs; rw [← List.take_append_drop b.length a, h2]⟩
theorem begins_self (a : List Int) : begins a a = true := by simp [begins]

theorem rd_of_vary (n : Nat) (rest : List Int) (h : n < 18446744073709551616) : rd 10 0 (vary n ++ rest) = (n, (vary n).length, 0) := rd_vary 9 0 n rest rfl (by simpa using h) (by simp)

theorem vary_begins {n m : Nat} (hn : n < 18446744073709551616) (hm : m < 18446744073709551616) : begins (vary m) (vary n) = decide (n = m) := by
  by_cases h : n = m
  · subst h; simp [begins_self]
  · have : begins (vary m) (vary n) = false := by
      cases hb : begins (vary m) (vary n) with
      | false => rfl
      | true =>
        obtain ⟨r, hr⟩ := begins_split hb
        have h1 := rd_of_vary m [] hm
        rw [List.append_nil, hr, rd_of_vary n r hn] at h1
        exact absurd (congrArg Prod.fst h1) h
    rw [this]; simp [h]

theorem text_begins {s t : List Int} (hs : s.length ≤ 300) (ht : t.length ≤ 300) : begins (vary t.length ++ t) (vary s.length ++ s) = decide (s = t) := by
  by_cases h : s = t
  · subst h; simp [begins_self]
  · have : begins (vary t.length ++ t) (vary s.length ++ s) = false := by
      cases hb : begins (vary t.length ++ t) (vary s.length ++ s) with
      | false => rfl
      | true =>
        obtain ⟨r, hr⟩ := begins_split hb
        have h1 := rd_of_vary t.length t (by omega)
        rw [hr, List.append_assoc, rd_of_vary s.length _ (by omega)] at h1
        have hl : s.length = t.length := congrArg Prod.fst h1
        rw [hl, List.append_assoc] at hr
        have h2 := List.append_cancel_left hr
        have h3 : r = [] := by
          have := congrArg List.length h2
          rw [List.length_append] at this
          exact List.eq_nil_of_length_eq_zero (by omega)
        rw [h3, List.append_nil] at h2
        exact absurd h2.symm h
    rw [this]; simp [h]

theorem vary_bytesF : ∀ (k n : Nat), n < 128 ^ (k + 1) → Bytes (varyF k n)
  | 0, n, h => by intro c hc; simp [varyF] at hc; omega
  | k + 1, n, h => by
    intro c hc
    simp only [varyF] at hc
    split at hc
    · simp at hc; omega
    · rcases List.mem_cons.1 hc with rfl | hc
      · omega
      · exact vary_bytesF k (n / 128) (by rw [Nat.pow_succ] at h; omega) c hc
theorem vary_bytes {n : Nat} (h : n < 18446744073709551616) : Bytes (vary n) := vary_bytesF 9 n (by simp; omega)
theorem bytes_append {a b : List Int} (ha : Bytes a) (hb : Bytes b) : Bytes (a ++ b) := fun c hc => (List.mem_append.1 hc).elim (ha c) (hb c)
theorem bytes_take {a : List Int} (ha : Bytes a) (n : Nat) : Bytes (a.take n) := fun c hc => ha c (List.mem_of_mem_take hc)

theorem short_vary {n : Nat} (hn : n < 18446744073709551616) (a : Nat) (h : a < (vary n).length) (most : Int) : ∃ z, cwire_Unvary (((vary n).take a, ((0 : Int), ())), most) = some z ∧ z.2.2 = 24 := by
  refine ⟨_, unvary_eq _ _ (bytes_take (vary_bytes hn) a), ?_⟩
  have hl := vary_len n
  have hv : Valid ((vary n).take a, ((0 : Int), ())) := ⟨by simp only [List.length_take]; omega, by simp, by simp only; omega⟩
  rw [if_pos hv]
  have := rd_short 9 0 n a rfl (by simpa using hn) (by simp) h
  simp only [Int.toNat_zero, List.drop_zero]
  rw [vary, this]
  simp [outc]

theorem short_text (s : List Int) (hs : s.length ≤ 300) (hb : Bytes s) (a : Nat) (h : a < (vary s.length ++ s).length) : ∃ z, cwire_Untext (((vary s.length ++ s).take a, ((0 : Int), ())), (200000 : Int)) = some z ∧ z.2.2 = 24 := by
  refine ⟨_, untext_eq _ _ (bytes_take (bytes_append (vary_bytes (show s.length < 18446744073709551616 by omega)) hb) a), ?_⟩
  have hl := vary_len s.length
  rw [List.length_append] at h
  have hv : Valid ((vary s.length ++ s).take a, ((0 : Int), ())) := ⟨by simp only [List.length_take, List.length_append]; omega, by simp, by simp only; omega⟩
  unfold outt
  rw [if_neg (not_not_intro hv), if_neg (by omega)]
  simp only [Int.toNat_zero, List.drop_zero]
  by_cases ha : a < (vary s.length).length
  · have := rd_short 9 0 s.length a rfl (by omega) (by simp) ha
    rw [List.take_append_of_le_length (by omega)]
    rw [vary, this]
    simp [outc]
  · have e : (vary s.length ++ s).take a = vary s.length ++ s.take (a - (vary s.length).length) := by
      rw [List.take_append, List.take_of_length_le (by omega)]
    rw [e, rd_of_vary _ _ (by omega)]
    have e1 : ¬ (((0 + s.length * 128 ^ 0 : Nat) : Int) > 200000) := by omega
    simp only [outc, if_true, if_neg e1, ne_eq, not_true_eq_false, if_false]
    rw [if_pos]
    simp only [List.length_append, List.length_take]
    omega

theorem first_true (x : Int × Int × (List Int) × (List Int) × Int) (w : WfL [(.int .u64), (.int .u64), .str, .str, (.int .i64)] x) : claw02_WireFirst x = some true := by
  obtain ⟨n', m', s, t, at_⟩ := x
  obtain ⟨⟨n0, n1⟩, ⟨m0, m1⟩, ⟨_, hs⟩, ⟨_, ht⟩, _⟩ := w
  simp only [min_u64, max_u64] at n0 n1 m0 m1
  obtain ⟨n, rfl⟩ := Int.eq_ofNat_of_zero_le n0
  obtain ⟨m, rfl⟩ := Int.eq_ofNat_of_zero_le m0
  have hn : n < 18446744073709551616 := by have : (n : Int) ≤ 18446744073709551615 := n1; omega
  have hm : m < 18446744073709551616 := by have : (m : Int) ≤ 18446744073709551615 := m1; omega
  show nlaw02_WireFirst ((n : Int), (m : Int), s, t, at_) = some true
  simp only [nlaw02_WireFirst, alive_true, Option.bind_some]
  by_cases h1 : s.length > 300
  · rw [decide_eq_true (by omega)]; rfl
  by_cases h2 : t.length > 300
  · rw [decide_eq_false (by omega), decide_eq_true (by omega)]; rfl
  have h1' : s.length ≤ 300 := by omega
  have h2' : t.length ≤ 300 := by omega
  rw [decide_eq_false (show ¬ ((s.length : Int) > 300) by omega), decide_eq_false (show ¬ ((t.length : Int) > 300) by omega)]
  have ts : cwire_Text s = some (vary s.length ++ s, 0) := by rw [text_eq, if_neg (by omega)]
  have tt : cwire_Text t = some (vary t.length ++ t, 0) := by rw [text_eq, if_neg (by omega)]
  have g00 : ((0 : Int) != (0 : Int)) = false := rfl
  have b1 : (!(decide (n = m) == ((n : Int) == (m : Int)))) = false := by
    by_cases h : n = m
    · subst h; simp
    · have : ((n : Int) == (m : Int)) = false := by rw [beq_eq_false_iff_ne]; omega
      simp [h, this]
  have b2 : (!(decide (s = t) == (eqD .str s t))) = false := by
    by_cases h : s = t
    · subst h; simp [eqD_self]
    · simp [h, eqD_false (t := .str) h]
  simp only [cond_false, vary_eq n hn, vary_eq m hm, ts, tt, Option.bind_some, g00, begins_eq, vary_begins hn hm, text_begins h1' h2', b1, b2, List.drop_zero]
  have fin : (bif (decide (at_ ≥ (0 : Int))) then (bif (decide (at_ < (List.length (vary s.length ++ s) : Int))) then (bif (decide (0 ≤ at_) && decide (at_ ≤ ((List.length (vary s.length ++ s)) : Int))) then ((cwire_Untext ((List.take (Int.toNat at_) (vary s.length ++ s), ((0 : Int), ())), (200000 : Int))).bind fun x10 => (bif (x10.2.2 == (24 : Int)) then some true else (some false))) else none) else some true) else some true) = some true := by
    by_cases h0 : at_ ≥ 0
    · by_cases h3 : at_ < (List.length (vary s.length ++ s) : Int)
      · obtain ⟨z, hz, hz2⟩ := short_text s h1' hs at_.toNat (by omega)
        have : (z.2.2 == (24 : Int)) = true := by rw [beq_iff_eq]; exact hz2
        rw [decide_eq_true h0, decide_eq_true h3, decide_eq_true (show at_ ≤ (List.length (vary s.length ++ s) : Int) by omega), hz]
        simp only [Option.bind_some, this, cond_true, Bool.and_self]
      · rw [decide_eq_true h0, decide_eq_false h3]; rfl
    · rw [decide_eq_false h0]; rfl
  by_cases h0 : at_ ≥ 0
  · by_cases h3 : at_ < ((vary n).length : Int)
    · obtain ⟨z, hz, hz2⟩ := short_vary hn at_.toNat (by omega) 18446744073709551615
      have : (z.2.2 != (24 : Int)) = false := by rw [bne_eq_false_iff_eq]; exact hz2
      have g1 : decide (at_ ≥ 0) = true := decide_eq_true h0
      have g2 : decide (at_ < ((vary n).length : Int)) = true := decide_eq_true h3
      have g3 : decide (at_ ≤ ((vary n).length : Int)) = true := decide_eq_true (by omega)
      simp only [g1, cond_true, g2, Bool.true_and, g3, hz, Option.bind_some, this, cond_false]
      simpa only [g1, cond_true, Bool.true_and] using fin
    · have g1 : decide (at_ ≥ 0) = true := decide_eq_true h0
      have g2 : decide (at_ < ((vary n).length : Int)) = false := decide_eq_false h3
      simp only [g1, cond_true, g2, cond_false]
      simpa only [g1, cond_true, Bool.true_and] using fin
  · have g1 : decide (at_ ≥ 0) = false := decide_eq_false h0
    simp only [g1, cond_false]
end Go.Proofs.Ytdhlomachkionaa
