/- TextReads, for all arguments: what package text reads is what the reference of layer 3 reads, errors among it. The package-level variables of the library that are read hold what the program lays. -/
import Derived.Test.YtcapedpcokhpjaaDoorTextJ
import Derived.Test.YtcapedpcokhpjaaDoorTextS
import Derived.Test.YtcapedpcokhpjaaDoorGlob
import Derived.Test.YtcapedpcokhpjaaDoorCards
import Derived.Test.YtcapedpcokhpjaaDoorTie
import Derived.WalkKit
import Derived.ProofKit
import Derived.LaidMore
import Derived.OpenShut
import Derived.Stop.Joined
import Derived.SevenTiedAt
import Derived.Below
set_option linter.unusedVariables false
set_option linter.unusedSimpArgs false
set_option maxRecDepth 100000
namespace Go.Proofs.YtcapedpcokhpjaaDoor
open Go.Lift

/-! ### numbers -/
def digV (b : Nat) (c : Int) : Int := if isDig b c then (dig c : Int) else -1
theorem rdigit_eq {b : Nat} (hb : b = 10 ∨ b = 16) {c : Int} (hc : Byte c) : cref03_Digit (c, (b : Int)) = some (digV b c) := by
  rcases hb with rfl | rfl
  · have h := all256 (P := fun n => decide (cref03_Digit ((n : Int), ((10 : Nat) : Int)) = some (digV 10 (n : Int)))) (by decide +kernel) hc
    rw [byte_nat hc] at h
    exact of_decide_eq_true h
  · have h := all256 (P := fun n => decide (cref03_Digit ((n : Int), ((16 : Nat) : Int)) = some (digV 16 (n : Int)))) (by decide +kernel) hc
    rw [byte_nat hc] at h
    exact of_decide_eq_true h

def readR (b most n : Nat) (s : List Int) : Int × Int := if valF b n s ≤ most then ((valF b n s : Nat), 0) else (0, 16)

theorem read_acc {b most : Nat} (hb : b = 10 ∨ b = 16) (hm : 16 ≤ most) (hm2 : most < 18446744073709551616) (s0) (s : List Int) (hsb : Bytes s) (hs : Dgs b s) (hl : s.length ≤ 1000000) : ∀ (k i N n : Nat), i + k = s.length → k < N → n ≤ most →
    iterV (gref03_read_1 big s0) N (s, (b : Int), (most : Int), (n : Int), (i : Int)) = some (readR b most n (s.drop i))
  | 0, i, N + 1, n, hi, _, hn => by
    show href03_read_1 s0 (iterV (gref03_read_1 big s0) N) _ = _
    unfold href03_read_1
    dsimp only
    rw [decide_eq_false (by omega), cond_false, List.drop_of_length_le (by omega)]
    rw [readR, show valF b n [] = n by rfl, if_pos hn]
  | k + 1, i, N + 1, n, hi, hN, hn => by
    have hmx := maxLen_ge
    have hlt : i < s.length := by omega
    obtain ⟨d, hd, hc⟩ := hs _ (List.getElem_mem hlt)
    have hd16 : d < 16 := by rcases hb with h | h <;> omega
    have hdv : digV b s[i] = (d : Int) := by
      rw [digV, if_pos (isDig_iff.2 ⟨d, hd, hc⟩), hc, dig_hexd hd16]
    have hv : valF b n (s.drop i) = valF b (n * b + d) (s.drop (i + 1)) := by
      rw [List.drop_eq_getElem_cons hlt, valF_cons, hc, dig_hexd hd16]
    show href03_read_1 s0 (iterV (gref03_read_1 big s0) N) _ = _
    unfold href03_read_1
    dsimp only
    have hwb : IntKind.i64.wrap (b : Int) = (b : Int) := by rcases hb with rfl | rfl <;> rfl
    rw [decide_eq_true (by omega), cond_true, getI_at hlt, Option.bind_some, hwb, rdigit_eq hb (hsb _ (List.getElem_mem hlt)), Option.bind_some, hdv]
    rw [wn d (by omega), show ((b : Int) == 0) = false from beq_eq_false_iff_ne.2 (by omega), cond_false, wrap_succ hlt (by omega)]
    have h7 : IntKind.u64.wrap ((most : Int) - (d : Int)) = ((most - d : Nat) : Int) := by
      rw [show ((most : Int) - (d : Int)) = ((most - d : Nat) : Int) by omega]; exact wn _ (by omega)
    have h8 : ((most - d : Nat) : Int).tdiv (b : Int) = (((most - d) / b : Nat) : Int) := by rw [Int.tdiv_eq_ediv_of_nonneg (by omega)]; rfl
    rw [h7, h8, wn _ (Nat.lt_of_le_of_lt (Nat.div_le_self _ _) (by omega))]
    by_cases h : n * b + d ≤ most
    · have hq : n ≤ (most - d) / b := (Nat.le_div_iff_mul_le (by omega)).2 (by omega)
      rw [decide_eq_false (by omega), cond_false]
      have h9 : IntKind.u64.wrap ((n : Int) * (b : Int)) = ((n * b : Nat) : Int) := by
        rw [show (n : Int) * (b : Int) = ((n * b : Nat) : Int) by exact (Int.natCast_mul n b).symm]; exact wn _ (by omega)
      have h10 : IntKind.u64.wrap (((n * b : Nat) : Int) + (d : Int)) = ((n * b + d : Nat) : Int) := wn (n * b + d) (by omega)
      rw [h9, h10, read_acc hb hm hm2 s0 s hsb hs hl k (i + 1) N (n * b + d) (by omega) (by omega) h]
      rw [readR, readR, hv]
    · have hq : (most - d) / b < n := (Nat.div_lt_iff_lt_mul (by omega)).2 (by omega)
      rw [decide_eq_true (by omega), cond_true]
      have := valF_ge (b := b) (by omega) (s.drop (i + 1)) (n * b + d)
      rw [readR, hv, if_neg (by omega)]

theorem read_eq {b most : Nat} (hb : b = 10 ∨ b = 16) (hm : 16 ≤ most) (hm2 : most < 18446744073709551616) (s : List Int) (hsb : Bytes s) (hl : s.length ≤ 1000000) :
    cref03_read (s, (b : Int), (most : Int)) = some (if wholeB b s then (if val b s ≤ most then (((val b s : Nat) : Int), 0) else (0, 16)) else (0, 12)) := by
  have hmx := maxLen_ge
  have loop : ∀ N, s.length < N → iterV (gref03_read_0 big) N (s, (b : Int), (most : Int), (0 : Int)) = some (if s.all (isDig b) then readR b most 0 s else (0, 12)) := by
    have key : ∀ (k i N : Nat), i + k = s.length → k < N → (∀ c ∈ s.take i, isDig b c = true) → iterV (gref03_read_0 big) N (s, (b : Int), (most : Int), (i : Int)) = some (if s.all (isDig b) then readR b most 0 s else (0, 12)) := by
      intro k
      induction k with
      | zero =>
        intro i N hi hN hall
        obtain ⟨N, rfl⟩ : ∃ M, N = M + 1 := ⟨N - 1, by omega⟩
        show href03_read_0 (iterV (gref03_read_1 big (iterV (gref03_read_0 big) N)) big) (iterV (gref03_read_0 big) N) _ = _
        unfold href03_read_0
        dsimp only
        rw [decide_eq_false (by omega), cond_false]
        rw [List.take_of_length_le (by omega)] at hall
        rw [if_pos (List.all_eq_true.2 hall)]
        exact read_acc hb hm hm2 _ s hsb (fun c hc => isDig_iff.1 (hall c hc)) hl s.length 0 big 0 (by omega) (by have := big_1000; omega) (by omega)
      | succ k ih =>
        intro i N hi hN hall
        obtain ⟨N, rfl⟩ : ∃ M, N = M + 1 := ⟨N - 1, by omega⟩
        have hlt : i < s.length := by omega
        show href03_read_0 (iterV (gref03_read_1 big (iterV (gref03_read_0 big) N)) big) (iterV (gref03_read_0 big) N) _ = _
        unfold href03_read_0
        dsimp only
        have hwb : IntKind.i64.wrap (b : Int) = (b : Int) := by rcases hb with rfl | rfl <;> rfl
        rw [decide_eq_true (by omega), cond_true, getI_at hlt, Option.bind_some, hwb, rdigit_eq hb (hsb _ (List.getElem_mem hlt)), Option.bind_some, wrap_succ hlt (by omega)]
        cases hd : isDig b s[i] with
        | true =>
          rw [digV, if_pos hd, decide_eq_false (by omega), cond_false]
          refine ih (i + 1) N (by omega) (by omega) ?_
          rw [List.take_succ_eq_append_getElem hlt]
          intro c hc
          rcases List.mem_append.1 hc with hc | hc
          · exact hall c hc
          · simp at hc; rw [hc]; exact hd
        | false =>
          rw [digV, if_neg (by simp [hd]), decide_eq_true (by omega), cond_true, if_neg]
          intro e
          have := List.all_eq_true.1 e _ (List.getElem_mem hlt)
          rw [hd] at this
          cases this
    intro N hN
    exact key s.length 0 N (by omega) hN (by simp)
  show nref03_read (iterV (gref03_read_0 big) big) (s, (b : Int), (most : Int)) = _
  unfold nref03_read
  dsimp only
  have hbig := big_1000
  rw [loop big (by omega)]
  match s with
  | [] => rfl
  | a :: t =>
    rw [show ((List.length (a :: t) : Int) == 0) = false from beq_eq_false_iff_ne.2 (by simp; omega), cond_false, gI0, Option.bind_some, wholeB]
    have e : readR b most 0 (a :: t) = if val b (a :: t) ≤ most then (((val b (a :: t) : Nat) : Int), 0) else (0, 16) := rfl
    by_cases h : a = 48
    · rw [show (a == 48) = true by simpa using h, cond_true, decide_eq_true h]
      by_cases h1 : 1 < (a :: t).length
      · rw [decide_eq_true (show ((List.length (a :: t) : Int) > 1) by omega), decide_eq_true h1]; rfl
      · rw [decide_eq_false (show ¬ ((List.length (a :: t) : Int) > 1) by omega), decide_eq_false h1, e]
        simp
    · rw [show (a == 48) = false by simpa using h, cond_false, decide_eq_false h, e]
      simp

theorem runnumber_eq (s : List Int) (hs : Bytes s) : cref03_Unnumber s = some (unnum s) := by
  show nref03_Unnumber s = _
  unfold nref03_Unnumber unnum
  dsimp only
  by_cases h : 2000 < s.length
  · rw [decide_eq_true (by omega), cond_true, if_pos h]
  rw [decide_eq_false (by omega), cond_false, if_neg h]
  have hpos := read_eq (b := 10) (most := 9223372036854775807) (.inl rfl) (by omega) (by omega) s hs (by omega)
  rw [show ((10 : Nat) : Int) = 10 by rfl, show ((9223372036854775807 : Nat) : Int) = 9223372036854775807 by rfl] at hpos
  have fin : ((cref03_read (s, (10 : Int), (9223372036854775807 : Int))).bind fun x8 => (bif (x8.2 != (0 : Int)) then (some ((0 : Int), x8.2)) else (some ((IntKind.i64.wrap x8.1), (0 : Int))))) =
      some (if wholeB 10 s then (if ((val 10 s : Nat) : Int) ≤ 9223372036854775807 then (((val 10 s : Nat) : Int), 0) else (0, 16)) else (0, 12)) := by
    rw [hpos, Option.bind_some]
    cases wholeB 10 s with
    | false => rfl
    | true =>
      rw [if_pos rfl, if_pos rfl]
      by_cases hv : val 10 s ≤ 9223372036854775807
      · rw [if_pos hv, if_pos (by omega)]
        show some (IntKind.i64.wrap ((val 10 s : Nat) : Int), (0 : Int)) = _
        rw [wrap_i64 (by omega) (by omega)]
      · rw [if_neg hv, if_neg (by omega)]
        rfl
  match s with
  | [] => exact fin
  | a :: t =>
    rw [decide_eq_true (by simp), cond_true, gI0, Option.bind_some]
    by_cases ha : a = 45
    · subst ha
      rw [show ((45 : Int) == 45) = true by decide, cond_true, show begins [45] (45 :: t) = true from begins_app [45] t, if_pos rfl]
      by_cases hm : (45 : Int) :: t = [45, 48]
      · rw [show eqD .str ((45 : Int) :: t) ([45, 48] : List Int) = true from eqD_iff.2 hm, if_pos hm]; rfl
      · rw [show eqD .str ((45 : Int) :: t) ([45, 48] : List Int) = false from eqD_false hm, if_neg hm, cond_false]
        rw [show (decide ((0 : Int) ≤ 1) && decide ((1 : Int) ≤ (List.length ((45 : Int) :: t) : Int))) = true by rw [decide_eq_true (by omega), decide_eq_true (by simp; omega)]; rfl, cond_true]
        rw [show List.drop (Int.toNat 1) ((45 : Int) :: t) = t by rfl, show List.drop 1 ((45 : Int) :: t) = t by rfl]
        have hneg := read_eq (b := 10) (most := 9223372036854775808) (.inl rfl) (by omega) (by omega) t (fun c hc => hs c (by simp [hc])) (by simp at h; omega)
        rw [show ((10 : Nat) : Int) = 10 by rfl, show ((9223372036854775808 : Nat) : Int) = 9223372036854775808 by rfl] at hneg
        rw [hneg, Option.bind_some]
        cases wholeB 10 t with
        | false => rfl
        | true =>
          rw [if_pos rfl, if_pos rfl]
          by_cases hv : val 10 t ≤ 9223372036854775808
          · rw [if_pos hv, if_pos (by omega)]
            show some (IntKind.i64.wrap (IntKind.i64.wrap (0 - IntKind.i64.wrap (IntKind.u64.wrap (((val 10 t : Nat) : Int) - 1))) - 1), (0 : Int)) = _
            congr 2
            generalize val 10 t = v at hv ⊢
            by_cases h0 : v = 0
            · subst h0; rfl
            · have e1 : IntKind.u64.wrap ((v : Int) - 1) = (v : Int) - 1 := by rw [wrap_u64]; omega
              rw [e1, wrap_i64 (n := (v : Int) - 1) (by omega) (by omega), wrap_i64 (n := 0 - ((v : Int) - 1)) (by omega) (by omega), wrap_i64 (by omega) (by omega)]
              omega
          · rw [if_neg hv, if_neg (by omega)]
            rfl
    · rw [show (a == 45) = false by simpa using ha, cond_false]
      rw [show begins [45] (a :: t) = false by
        rw [begins, decide_eq_false]
        intro e
        exact ha (by simpa using e)]
      exact fin

theorem runhex_eq (s : List Int) (hs : Bytes s) : cref03_Unhex s = some (unhx s) := by
  show nref03_Unhex s = _
  unfold nref03_Unhex unhx
  dsimp only
  by_cases h : 2000 < s.length
  · rw [decide_eq_true (by omega), cond_true, if_pos h]
  rw [decide_eq_false (by omega), cond_false, if_neg h]
  by_cases h2 : s.length < 2
  · rw [decide_eq_true (by omega), cond_true]
    rw [show begins [48, 120] s = false by
      cases e : begins [48, 120] s with
      | false => rfl
      | true => have := begins_le e; simp at this; omega]
    rfl
  · rw [decide_eq_false (by omega), cond_false]
    rw [show (decide ((0 : Int) ≤ 2) && decide ((2 : Int) ≤ (List.length s : Int))) = true by rw [decide_eq_true (by omega), decide_eq_true (by omega)]; rfl, cond_true, cond_true]
    rw [show Int.toNat 2 = 2 by rfl]
    cases hb : begins [48, 120] s with
    | false =>
      rw [begins] at hb
      have hb' := of_decide_eq_false hb
      rw [show eqD .str (List.take 2 s) ([48, 120] : List Int) = false from eqD_false hb']
      rfl
    | true =>
      rw [begins] at hb
      have hb' := of_decide_eq_true hb
      rw [show eqD .str (List.take 2 s) ([48, 120] : List Int) = true from eqD_iff.2 hb', show (!true) = false by rfl, cond_false, if_pos rfl]
      have hr := read_eq (b := 16) (most := 18446744073709551615) (.inr rfl) (by omega) (by omega) (s.drop 2) (bytes_drop hs 2) (by simp; omega)
      rw [show ((16 : Nat) : Int) = 16 by rfl, show ((18446744073709551615 : Nat) : Int) = 18446744073709551615 by rfl] at hr
      rw [hr, Option.bind_some]
      cases wholeB 16 (s.drop 2) with
      | false => rfl
      | true =>
        rw [if_pos rfl, if_pos rfl]
        by_cases hv : val 16 (s.drop 2) ≤ 18446744073709551615
        · rw [if_pos hv, if_pos (by omega)]
        · rw [if_neg hv, if_neg (by omega)]

/-! ### texts in quotes -/
theorem begins_unf {s : List Int} {c : Int} (hc : Byte c) : begins (form c) s = true ↔ unf s = some c := by
  constructor
  · intro h
    obtain ⟨t, rfl⟩ := begins_iff.1 h
    exact unf_form hc t
  · intro h
    rw [unf] at h
    obtain ⟨d, _, h2⟩ := Option.bind_eq_some_iff.1 h
    split at h2
    · rename_i hp
      cases h2
      exact hp
    · cases h2

theorem lim_le2 : (4000000 : Nat) ≤ lim := by decide
theorem next_step (S0 self) (s out : List Int) (c : Nat) (hc : c < 256) (ho : out.length ≤ 1000000) :
    href03_Next_1 S0 self (s, out, false, (c : Int)) = if begins (form (c : Int)) s then self (s.drop (form (c : Int)).length, out ++ [(c : Int)], true, ((c + 1 : Nat) : Int)) else self (s, out, false, ((c + 1 : Nat) : Int)) := by
  have hlim := lim_le2
  have hb : Byte (c : Int) := ⟨by omega, by omega⟩
  unfold href03_Next_1
  dsimp only
  have hw : IntKind.u8.wrap (c : Int) = (c : Int) := by rw [wrap_u8]; omega
  have hw2 : IntKind.i64.wrap ((c : Int) + 1) = ((c + 1 : Nat) : Int) := by rw [wrap_i64 (by omega) (by omega)]; omega
  rw [decide_eq_true (by omega), cond_true, show (!false) = true by rfl, cond_true, hw, hw2, char_eq hb, Option.bind_some]
  by_cases h : (form (c : Int)).length ≤ s.length
  · rw [decide_eq_true (show ((List.length s : Int) ≥ ((form (c : Int)).length : Int)) by omega), decide_eq_true (show (0 : Int) ≤ ((form (c : Int)).length : Int) by omega)]
    simp only [cond_true, Bool.and_self, Int.toNat_natCast]
    by_cases e : s.take (form (c : Int)).length = form (c : Int)
    · rw [show eqD .str (List.take (form (c : Int)).length s) (form (c : Int)) = true from eqD_iff.2 e, cond_true, Nat.ble_eq_true_of_le (by simp; omega), cond_true, begins, decide_eq_true e, if_pos rfl]
      rfl
    · rw [show eqD .str (List.take (form (c : Int)).length s) (form (c : Int)) = false from eqD_false e, cond_false, begins, decide_eq_false e, if_neg (by simp)]
  · rw [decide_eq_false (show ¬ ((List.length s : Int) ≥ ((form (c : Int)).length : Int)) by omega), cond_false]
    rw [show begins (form (c : Int)) s = false by
      cases e : begins (form (c : Int)) s with
      | false => rfl
      | true => exact absurd (begins_le e) h, if_neg (by simp)]

theorem next_found (S0 self) (s out : List Int) (c : Nat) (hc : c ≤ 256) : href03_Next_1 S0 self (s, out, true, (c : Int)) = S0 (s, out) := by
  unfold href03_Next_1
  dsimp only
  by_cases h : c < 256
  · rw [decide_eq_true (by omega)]; rfl
  · rw [decide_eq_false (by omega)]; rfl

theorem next_in (S0) (s out : List Int) (ho : out.length ≤ 1000000) : ∀ (k c N : Nat), c + k = 256 → k + 1 < N → (∀ d, unf s = some d → (c : Int) ≤ d ∧ Byte d) →
    iterV (gref03_Next_1 big S0) N (s, out, false, (c : Int)) = match unf s with | none => some ([], [], false) | some d => S0 (s.drop (form d).length, out ++ [d])
  | 0, c, N + 1, hc, _, hd => by
    show href03_Next_1 S0 (iterV (gref03_Next_1 big S0) N) _ = _
    cases hu : unf s with
    | none =>
      unfold href03_Next_1
      dsimp only
      rw [decide_eq_false (by omega)]; rfl
    | some d =>
      have := hd d hu
      have h2 := this.2.2
      omega
  | k + 1, c, N + 1, hc, hN, hd => by
    have hb : Byte (c : Int) := ⟨by omega, by omega⟩
    show href03_Next_1 S0 (iterV (gref03_Next_1 big S0) N) _ = _
    rw [next_step _ _ s out c (by omega) ho]
    by_cases h : unf s = some (c : Int)
    · rw [(begins_unf hb).2 h, if_pos rfl, h]
      obtain ⟨N, rfl⟩ : ∃ M, N = M + 1 := ⟨N - 1, by omega⟩
      show href03_Next_1 S0 (iterV (gref03_Next_1 big S0) N) _ = _
      rw [next_found _ _ _ _ (c + 1) (by omega)]
    · rw [if_neg (fun e => h ((begins_unf hb).1 e))]
      rw [next_in S0 s out ho k (c + 1) N (by omega) (by omega) (fun d hu => by
        have := hd d hu
        refine ⟨?_, this.2⟩
        have : (c : Int) ≠ d := fun e => h (by rw [e]; exact hu)
        omega)]

theorem next_run : ∀ (k N : Nat) (s out : List Int), Bytes s → s.length < k → k ≤ N → out.length + s.length ≤ 1000000 →
    iterV (gref03_Next_0 big) N (s, out) = some (match dq k s with | none => ([], [], false) | some (o, r) => (out ++ o, r, true))
  | 0, _, _, _, _, h, _, _ => by omega
  | k + 1, 0, _, _, _, _, h, _ => by omega
  | k + 1, N + 1, s, out, hs, hl, hN, ho => by
    show href03_Next_0 (iterV (gref03_Next_1 big (iterV (gref03_Next_0 big) N)) big) (iterV (gref03_Next_0 big) N) _ = _
    unfold href03_Next_0
    dsimp only
    match s with
    | [] => rfl
    | b :: t =>
      rw [decide_eq_true (by simp), cond_true, gI0, Option.bind_some]
      by_cases e : b = 34
      · rw [show (b != 34) = false by simpa using e, cond_false, show ((List.length (b :: t) : Int) == 0) = false from beq_eq_false_iff_ne.2 (by simp; omega), cond_false]
        rw [show (decide ((0 : Int) ≤ 1) && decide ((1 : Int) ≤ (List.length (b :: t) : Int))) = true by rw [decide_eq_true (by omega), decide_eq_true (by simp; omega)]; rfl, cond_true]
        rw [dq, if_pos e]
        simp
      · rw [show (b != 34) = true by simpa using e, cond_true]
        have := next_in (iterV (gref03_Next_0 big) N) (b :: t) out (by omega) 256 0 big (by omega) (by have := big_1000; omega) (fun d hu => by
          have := (unf_some hs hu).1
          exact ⟨this.1, this⟩)
        refine Eq.trans this ?_
        rw [dq, if_neg e]
        cases hu : unf (b :: t) with
        | none => rfl
        | some d =>
          have h1 := form_len d
          have h2 := unf_len hs hu
          dsimp only
          rw [next_run k N ((b :: t).drop (form d).length) (out ++ [d]) (bytes_drop hs _) (by simp at hl h2 ⊢; omega) (by omega) (by simp at ho h2 ⊢; omega)]
          cases dq k ((b :: t).drop (form d).length) with
          | none => rfl
          | some p => simp

theorem rnext_eq (s : List Int) (hs : Bytes s) (hl : s.length ≤ 1000000) : cref03_Next s = some (match dqs s with | none => ([], [], false) | some (o, r) => (o, r, true)) := by
  show nref03_Next (iterV (gref03_Next_0 big) big) s = _
  unfold nref03_Next
  match s with
  | [] => rfl
  | a :: t =>
    rw [show ((List.length (a :: t) : Int) == 0) = false from beq_eq_false_iff_ne.2 (by simp; omega), cond_false, gI0, Option.bind_some]
    by_cases e : a = 34
    · rw [show (a != 34) = false by simpa using e, cond_false, dqs, if_pos e]
      rw [show (decide ((0 : Int) ≤ 1) && decide ((1 : Int) ≤ (List.length (a :: t) : Int))) = true by rw [decide_eq_true (by omega), decide_eq_true (by simp; omega)]; rfl, cond_true]
      exact next_run (t.length + 1) big t [] (fun c hc => hs c (by simp [hc])) (by omega) (by have := big_1000; simp at hl; omega) (by simp at hl ⊢; omega)
    · rw [show (a != 34) = true by simpa using e, cond_true, dqs, if_neg e]

theorem runquote_eq (s : List Int) (hs : Bytes s) : cref03_Unquote s = ctext_Unquote s := by
  rw [unquote_eq s hs]
  show nref03_Unquote s = _
  unfold nref03_Unquote
  by_cases h : 2000 < s.length
  · rw [decide_eq_true (by omega), cond_true, if_pos h]
  · rw [decide_eq_false (by omega), cond_false, if_neg h, rnext_eq s hs (by omega), Option.bind_some]
    cases dqs s with
    | none => rfl
    | some p =>
      obtain ⟨o, r⟩ := p
      dsimp only
      rw [show (!true) = false by rfl, cond_false]
      by_cases hr : r = []
      · subst hr
        rw [show eqD .str ([] : List Int) ([] : List Int) = true from eqD_self _ _, if_pos rfl]
        by_cases ho : 400 < o.length
        · rw [decide_eq_true (by omega), if_pos ho]; rfl
        · rw [decide_eq_false (by omega), if_neg ho]; rfl
      · rw [show eqD .str r ([] : List Int) = false from eqD_false hr, if_neg hr]; rfl

/-! ### lists -/
/-- one round, behind the lead -/
def unlistK (self : (List Int) × Bool × (List (List Int)) → Option ((List (List Int)) × Int)) (f s : List Int) (out : List (List Int)) : Option ((List (List Int)) × Int) :=
  if begins f s then (cref03_Next (s.drop f.length)).bind fun x3 => (bif (!x3.2.2) then (some (([] : List (List Int)), (12 : Int))) else (bif (Nat.ble 1 1 && Nat.ble (List.length out + List.length ([x3.1] : List (List Int))) lim) then (bif (eqD .str x3.2.1 ([93] : List Int)) then ((cref03_Short (List.append out [x3.1])).bind fun x5 => (bif (!x5) then (some (([] : List (List Int)), (4 : Int))) else (some ((List.append out [x3.1]), (0 : Int))))) else (self (x3.2.1, false, (List.append out [x3.1])))) else none))
  else some ([], 12)

theorem unlist_step (self) (s : List Int) (first : Bool) (out : List (List Int)) : href03_Unlist_0 self (s, first, out) = unlistK self (if first then [91] else [44, 32]) s out := by
  unfold href03_Unlist_0 unlistK
  dsimp only
  have one : ∀ f : List Int, ∀ X : Option ((List (List Int)) × Int),
      (bif (decide ((List.length s : Int) < (List.length f : Int))) then (some (([] : List (List Int)), (12 : Int))) else (bif (decide (0 ≤ (List.length f : Int)) && decide ((List.length f : Int) ≤ (List.length s : Int))) then (bif (!(eqD .str (List.take (Int.toNat (List.length f : Int)) s) f)) then (some (([] : List (List Int)), (12 : Int))) else (bif (decide (0 ≤ (List.length f : Int)) && decide ((List.length f : Int) ≤ (List.length s : Int))) then X else none)) else none)) = if begins f s then X else some ([], 12) := by
    intro f X
    by_cases h : s.length < f.length
    · rw [decide_eq_true (by omega), cond_true]
      rw [show begins f s = false by
        cases e : begins f s with
        | false => rfl
        | true => have := begins_le e; omega]
      rfl
    · rw [decide_eq_false (by omega), cond_false, show (decide (0 ≤ (List.length f : Int)) && decide ((List.length f : Int) ≤ (List.length s : Int))) = true by rw [decide_eq_true (by omega), decide_eq_true (by omega)]; rfl, cond_true, cond_true, Int.toNat_natCast]
      cases hb : begins f s with
      | false =>
        rw [begins] at hb
        rw [show eqD .str (List.take (List.length f) s) f = false from eqD_false (of_decide_eq_false hb)]
        rfl
      | true =>
        rw [begins] at hb
        rw [show eqD .str (List.take (List.length f) s) f = true from eqD_iff.2 (of_decide_eq_true hb)]
        rfl
  cases first with
  | true => exact one [91] _
  | false => exact one [44, 32] _

theorem runlist_run : ∀ (k N : Nat) (first : Bool) (s : List Int) (out : List (List Int)), Bytes s → s.length < k → k ≤ N → out.length + s.length ≤ 1000000 →
    iterV (gref03_Unlist_0 big) N (s, first, out) = some (match dl k (if first then [91] else [44, 32]) s with | none => ([], 12) | some m => if Short (out ++ m) then (out ++ m, 0) else ([], 4))
  | 0, _, _, _, _, _, h, _, _ => by omega
  | k + 1, 0, _, _, _, _, _, h, _ => by omega
  | k + 1, N + 1, first, s, out, hs, hk, hN, hb => by
    have hlim := lim_le2
    have hmx := maxLen_ge
    show href03_Unlist_0 (iterV (gref03_Unlist_0 big) N) _ = _
    rw [unlist_step, unlistK, dl]
    have hf : 1 ≤ (if first then [91] else [44, 32] : List Int).length := by cases first <;> simp
    generalize (if first then [91] else [44, 32] : List Int) = f at hf ⊢
    cases hp : begins f s with
    | false => rfl
    | true =>
      obtain ⟨t, rfl⟩ := begins_iff.1 hp
      have ht := (bytes_app.1 hs).2
      simp only [List.length_append] at hk hb
      rw [if_pos rfl, if_pos rfl, List.drop_left, rnext_eq t ht (by omega), Option.bind_some]
      cases hd : dqs t with
      | none => rfl
      | some p =>
        obtain ⟨x, r⟩ := p
        obtain ⟨h1, h2, h3⟩ := dqs_some ht hd
        dsimp only
        rw [show (!true) = false by rfl, cond_false]
        rw [show (Nat.ble 1 1 && Nat.ble (List.length out + List.length ([x] : List (List Int))) lim) = true from Nat.ble_eq_true_of_le (by simp; omega), cond_true]
        by_cases hr : r = [93]
        · subst hr
          rw [show eqD .str ([93] : List Int) ([93] : List Int) = true from eqD_self _ _, if_pos rfl, cond_true, rshort_eq _ (by simp; omega), Option.bind_some]
          show _ = some (if Short (out ++ [x]) then (out ++ [x], 0) else ([], 4))
          by_cases hS : Short (out ++ [x])
          · rw [if_pos hS, show decide (Short (List.append out [x])) = true from decide_eq_true hS]; rfl
          · rw [if_neg hS, show decide (Short (List.append out [x])) = false from decide_eq_false hS]; rfl
        · rw [show eqD .str r ([93] : List Int) = false from eqD_false hr, if_neg hr, cond_false]
          have hrl : r.length + 2 ≤ t.length := by rw [h3]; simp [inQ]
          rw [runlist_run k N false r (List.append out [x]) h2 (by omega) (by omega) (by simp; omega)]
          rw [show (if false = true then [91] else [44, 32] : List Int) = [44, 32] by rfl]
          cases hk2 : dl k [44, 32] r with
          | none => rfl
          | some m =>
            show some (if Short (out ++ [x] ++ m) then (out ++ [x] ++ m, 0) else ([], 4)) = some (if Short (out ++ (x :: m)) then (out ++ (x :: m), 0) else ([], 4))
            rw [show out ++ [x] ++ m = out ++ (x :: m) by simp]

theorem runlist_eq (s : List Int) (hs : Bytes s) : cref03_Unlist s = ctext_Unlist s := by
  rw [unlist_eq s hs]
  show nref03_Unlist (iterV (gref03_Unlist_0 big) big) s = _
  unfold nref03_Unlist
  by_cases h : 200000 < s.length
  · rw [decide_eq_true (by omega), cond_true, if_pos h]
  · rw [decide_eq_false (by omega), cond_false, if_neg h]
    by_cases e : s = [91, 93]
    · subst e; rfl
    · rw [show eqD .str s ([91, 93] : List Int) = false from eqD_false e, cond_false, dls, if_neg e]
      have := runlist_run (s.length + 1) big true s [] hs (by omega) (by have := big_1000; omega) (by simp; omega)
      refine Eq.trans this ?_
      rfl

theorem reads_true (x : List Int) (w : WfL [.str] x) : claw03_TextReads x = some true := by
  have hb : Bytes x := w.2
  have hmx := maxLen_ge
  show nlaw03_TextReads x = _
  unfold nlaw03_TextReads
  by_cases h : 2100 < x.length
  · rw [decide_eq_true (by omega), cond_true]
  rw [decide_eq_false (by omega), cond_false, unnumber_eq x hb, Option.bind_some, runnumber_eq x hb, Option.bind_some, unhex_eq x hb, Option.bind_some, runhex_eq x hb, Option.bind_some]
  obtain ⟨c, hc, _⟩ := unquote_one hb
  obtain ⟨d, hd, hd2⟩ := unlist_one hb
  have hdl : d.1.length ≤ maxLen := by
    have e := unlist_eq x hb
    rw [hd] at e
    have e2 := Option.some.inj e
    rw [if_neg (by omega)] at e2
    cases hq : dls x with
    | none => rw [hq] at e2; rw [e2]; simp
    | some l =>
      rw [hq] at e2
      have hx := (dls_some hb hq).2
      have := joined_len l
      rw [hx] at h
      simp only [listed, List.length_cons] at h
      rw [e2]
      dsimp only
      split <;> simp <;> omega
  rw [runquote_eq x hb, hc, Option.bind_some, Option.bind_some, runlist_eq x hb, hd, Option.bind_some, Option.bind_some]
  simp only [beq_self_eq_true, cond_true]
  rw [show eqD .str c.1 c.1 = true from eqD_self _ _, cond_true, same_self d.1 hdl, Option.bind_some]
  rfl
end Go.Proofs.YtcapedpcokhpjaaDoor

set_option linter.unusedVariables false
namespace Go.Proofs.YtcapedpcokhpjaaDoor
open Go.Lift

/-! ### the law TextReads -/
namespace textReads
open Go.ChangeShapes Go.WideShapes Go.ChangeAt Go.RowKit
theorem own : ownKnob Tryd.prog.godebug = none := by kernel_rfl
theorem laidOut : laidOutB Tryd.prog = true := by kernel_rfl

theorem door_met (os : Os) (args : Array Value) : laidMetH Tryd.prog Rows.textReadsRow.laid ((World.doorLaid Tryd.prog 400 os).forCall (fun _ _ => 0) ⟨#[], args, []⟩).memory :=
  laidMetH_of_parts3 (fuel := 8) (laidMet_of_run' 8 (by kernel_rfl) (by kernel_rfl)) (by kernel_rfl) (by kernel_rfl)

set_option maxRecDepth 100000 in
theorem lifted (os : Os) (started : os.Started) (H : Type) (enc : TypeId × Value → H) :
    ReturnsInHanded {} Tryd.checked os 5 .any (fun w args => (Rows.textReadsSpec.pre enc Tryd.prog Tryd.f5 [] false w args ∧ laidMetH Tryd.prog Rows.textReadsRow.laid w) ∧ sizedMet enc Tryd.prog Tryd.f5 (OpenSpec.ofChange Rows.textReadsSpec) false w args)
      (Rows.textReadsSpec.post enc Tryd.prog Tryd.f5 false true false false) := by
  refine returnsInHanded_of_change_and (C := Tryd.checked) (X := fun w _ => laidMetH Tryd.prog Rows.textReadsRow.laid w) (fun _ _ _ hh h => h.of_heap hh) own started (by kernel_rfl) Tryd.func5
    (ChangeSpec.witness_shaped (enc := enc) (C := Tryd.checked) (os := os) (X := fun w _ => laidMetH Tryd.prog Rows.textReadsRow.laid w) false (World.doorLaid Tryd.prog 400 os) #[.string .empty] 8 rfl (World.shaped_of_RefB (by kernel_rfl) (by kernel_rfl)) (by kernel_rfl) (by kernel_rfl) (by kernel_rfl) (door_met os _)) ?_
  intro W base args ds gs before hval0 hW _ _ hL _
  have hval : ∀ (j : Nat) t v, Tryd.f5.params[j]? = some t → args[j]? = some v → Value.okWide Tryd.prog W .any base t v := hval0
  have hW' := hW
  obtain ⟨p, q, hA0, hV, rfl, hfz, hnd⟩ := hW
  have hA : DataW.TrodAll enc Tryd.prog W 0 (fun _ => true) true Tryd.f5.params.toList args.toList ds p := hA0
  have hlt : ∀ x ∈ p, x.block < W.heap.size := hA.lt
  have hlen : ds.length = 1 := trodAll_length hA
  obtain ⟨rfl, rfl⟩ := trodVars_none hV
  rw [MakeChecks.laidMetH_plain _ _ _ (by kernel_rfl)] at hL
  refine (law_run2 (fn := Glaw03_TextReads) (tab := tab) tabOk Llaw03_TextReads (fun x w => ⟨true, by
    have h : Glaw03_TextReads.F x = some true := by
      dsimp only [Glaw03_TextReads]
      exact reads_true x w
    exact h, rfl⟩) (ts := Tryd.f5.params.toList) (by kernel_rfl) (by kernel_rfl) (fun j t v h h' => hval j t v (by rw [← Array.getElem?_toList]; exact h) h') hA (glOk hL)).mono fun e W' ⟨he, bel⟩ => ?_
  subst he
  have hB := trodAll_below laidOut bel (by kernel_rfl) hA hlt
  match ds, hlen with
  | [d0], _ => exact ⟨_, rfl, _, _, _, [], _, [], hW', trodAll_mk1 (shut_bool Tryd.underlying4 _), hB, rfl, bel.frame _, fun h => by cases h⟩

theorem over : Rows.textReadsRow.holds Tryd.pinned (OpenSpec.ofChange Rows.textReadsSpec) :=
  OpenClaim.holds_of_wide 5 Tryd.f5 rfl rfl rfl rfl rfl rfl rfl ⟨rfl, rfl, rfl, rfl, rfl⟩ rfl rfl rfl rfl rfl (by kernel_rfl) Tryd.func5 (by kernel_rfl)
    (of_decide_eq_true (by kernel_rfl)) (by unfold Func.isWrapper; first | (rw [if_pos (by decide +kernel)]; kernel_rfl) | (rw [if_neg (by decide +kernel)]; exact ⟨rfl, rfl⟩))
    (fun os started H enc _ => lifted os started H enc)

theorem wants : (Tryd.f5.params.toList.all fun u => !Tryd.prog.wantsStandIn u) = true := by kernel_rfl
theorem proved : Rows.TextReadsCardSaid :=
  Claim7.holds_tied_plain_at .later [] _ _ _ _ over (fun _ h => by cases h) (by kernel_rfl) (fun _ h => by cases h) textReads_row_tie rfl ⟨rfl, rfl⟩ (by kernel_rfl) rfl
    (fun f fn hf hfn => by
      obtain rfl : f = 5 := Option.some.inj ((show Tryd.pinned.checked.prog.funcNamed _ = some 5 by kernel_rfl).symm.trans hf) |>.symm
      obtain rfl : fn = Tryd.f5 := (Option.some.inj (Tryd.func5.symm.trans hfn)).symm
      exact ⟨by kernel_rfl, fun j t ht => by
        have hm : t ∈ Tryd.f5.params.toList := by
          rw [Array.mem_toList_iff]
          exact Array.mem_of_getElem? ht
        exact (show Tryd.prog.wantsStandIn t = false by simpa using List.all_eq_true.1 wants t hm)⟩)
    (by kernel_rfl)
end textReads
#print axioms textReads.proved
end Go.Proofs.YtcapedpcokhpjaaDoor
