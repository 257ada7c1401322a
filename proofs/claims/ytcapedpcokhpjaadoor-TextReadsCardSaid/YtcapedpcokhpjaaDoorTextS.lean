/- What the functions of the reference of layer 3 that write compute; the law TextWrites is true for all typed arguments. -/
import Derived.Test.YtcapedpcokhpjaaDoorTextF
import Derived.Test.YtcapedpcokhpjaaDoorTextR
set_option linter.unusedVariables false
set_option linter.unusedSimpArgs false
set_option maxRecDepth 100000
namespace Go.Proofs.YtcapedpcokhpjaaDoor
open Go.Lift

theorem maxLen_ge' : (1000000 : Nat) ≤ maxLen := by decide

theorem rshort_eq (l : List (List Int)) (hl : l.length ≤ maxLen) : cref03_Short l = some (decide (Short l)) := by
  have := range_run (g := gref03_Short_0 big) (xs := l) (fun (_ : Unit) (i : Nat) => (l, (i : Int))) (fun x s k => bif decide ((List.length x : Int) > 400) then some false else k s)
    (fun _ => some (decide ((List.length l : Int) ≤ 64))) (by
      intro self b
      show href03_Short_0 self _ = _
      unfold href03_Short_0
      dsimp only
      rw [decide_eq_false (by omega), cond_false]) (by
      intro self b i hi
      show href03_Short_0 self _ = _
      unfold href03_Short_0
      dsimp only
      rw [decide_eq_true (by omega), cond_true, getI_at hi, Option.bind_some, wrap_succ hi hl]) l.length 0 big (by omega) (by have := maxLen_big; omega) ()
  rw [List.drop_zero] at this
  refine Eq.trans this ?_
  have e : ∀ m : List (List Int), foldC (fun (x : List Int) (s : Unit) (k : Unit → Option Bool) => bif decide ((List.length x : Int) > 400) then some false else k s) (fun _ => some (decide ((List.length l : Int) ≤ 64))) m () = some (decide (l.length ≤ 64 ∧ ∀ x ∈ m, x.length ≤ 400)) := by
    intro m
    induction m with
    | nil => simp [foldC]; omega
    | cons x m ih =>
      show (bif decide ((List.length x : Int) > 400) then some false else foldC _ _ m ()) = _
      by_cases hx : x.length ≤ 400
      · rw [decide_eq_false (by omega), cond_false, ih]
        simp [hx]
      · rw [decide_eq_true (by omega), cond_true]
        simp [hx]
  rw [e]
  rfl

theorem char_eq {c : Int} (hc : Byte c) : cref03_Char c = some (form c) := by
  have h := all256 (P := fun n => decide (cref03_Char (n : Int) = some (form (n : Int)))) (by decide +kernel) hc
  rw [byte_nat hc] at h
  exact of_decide_eq_true h

theorem rquoted_eq (s : List Int) (hs : Bytes s) (hl : s.length ≤ 1000) : cref03_Quoted s = some (inQ s) := by
  have hm := maxLen_ge'
  have := range_run (g := gref03_Quoted_0 big) (xs := s) (fun (b : List Int) (i : Nat) => (s, b, (i : Int))) stepQ
    (fun b => bif (Nat.ble (List.length b + List.length ([34] : List Int)) lim) then some (List.append b [34]) else none) (by
      intro self b
      show href03_Quoted_0 self _ = _
      unfold href03_Quoted_0
      dsimp only
      rw [decide_eq_false (by omega), cond_false]) (by
      intro self b i hi
      show href03_Quoted_0 self _ = _
      unfold href03_Quoted_0
      dsimp only
      rw [decide_eq_true (by omega), cond_true, getI_at hi, Option.bind_some, char_eq (hs _ (List.getElem_mem hi)), Option.bind_some, wrap_succ hi (by omega)]
      rfl) s.length 0 big (by omega) (by have := maxLen_big; omega) [34]
  rw [List.drop_zero] at this
  refine Eq.trans this ?_
  have hlim := lim_le
  have hf := flat_len s
  rw [foldQ _ _ _ (by simp; omega), Nat.ble_eq_true_of_le (by simp [-List.length_flatMap]; omega)]
  simp [inQ]

theorem rquote_eq (s : List Int) (hs : Bytes s) : cref03_Quote s = some (if s.length ≤ 400 then (inQ s, 0) else ([], 4)) := by
  show nref03_Quote s = _
  unfold nref03_Quote
  by_cases h : s.length ≤ 400
  · rw [decide_eq_false (by omega), cond_false, if_pos h, rquoted_eq s hs (by omega)]; rfl
  · rw [decide_eq_true (by omega), cond_true, if_neg h]

theorem rlist_run (l : List (List Int)) (hl : ∀ x ∈ l, Bytes x ∧ x.length ≤ 500) (hn : l.length ≤ 400) : ∀ (k i N : Nat), i + k = l.length → k < N → 0 < i → ∀ b : List Int, b.length ≤ 2010 * i + 1 →
    iterV (gref03_Listed_0 big) N (l, b, (i : Int)) = some (b ++ restL (l.drop i))
  | 0, i, N + 1, hi, _, _, b, hb => by
    have hlim := lim_le
    show href03_Listed_0 _ _ = _
    unfold href03_Listed_0
    dsimp only
    rw [decide_eq_false (by omega), cond_false, List.drop_of_length_le (by omega), Nat.ble_eq_true_of_le (by simp; omega)]
    rfl
  | k + 1, i, N + 1, hi, hN, h0, b, hb => by
    have hlim := lim_le
    have hm := maxLen_ge'
    have hlt : i < l.length := by omega
    have hx := hl _ (List.getElem_mem hlt)
    have hq := inQ_len l[i]
    show href03_Listed_0 (iterV (gref03_Listed_0 big) N) _ = _
    unfold href03_Listed_0
    dsimp only
    rw [decide_eq_true (by omega), cond_true, decide_eq_true (by omega), cond_true, Nat.ble_eq_true_of_le (by simp; omega), cond_true, getI_at hlt, Option.bind_some,
      rquoted_eq _ hx.1 (by omega), Option.bind_some, Nat.ble_eq_true_of_le (by simp; omega), cond_true, wrap_succ hlt (by omega)]
    rw [rlist_run l hl hn k (i + 1) N (by omega) (by omega) (by omega) _ (by simp; omega)]
    rw [List.drop_eq_getElem_cons hlt, restL]
    simp

theorem rlist_first (l : List (List Int)) (hl : ∀ x ∈ l, Bytes x ∧ x.length ≤ 500) (hn : l.length ≤ 400) (N : Nat) (hN : 1000 < N) :
    iterV (gref03_Listed_0 big) (N + 1) (l, [91], (0 : Int)) = some (listed l) := by
  have hlim := lim_le
  have hm := maxLen_ge'
  show href03_Listed_0 (iterV (gref03_Listed_0 big) N) _ = _
  unfold href03_Listed_0
  dsimp only
  cases l with
  | nil =>
    rw [decide_eq_false (by simp), cond_false]
    rfl
  | cons x l =>
    have hx := hl x (by simp)
    have hq := inQ_len x
    rw [decide_eq_true (by simp), cond_true]
    rw [show decide ((0 : Int) > 0) = false by decide, cond_false, show getI (x :: l) (0 : Int) = some x by rfl, Option.bind_some,
      rquoted_eq _ hx.1 (by omega), Option.bind_some, Nat.ble_eq_true_of_le (by simp; omega), cond_true]
    have := rlist_run (x :: l) hl hn l.length 1 N (by simp; omega) (by simp at hn; omega) (by omega) (List.append [91] (inQ x)) (by simp; omega)
    refine Eq.trans this ?_
    rw [listed, joined_cons]
    simp

theorem rlist_eq (l : List (List Int)) (hb : ∀ x ∈ l, Bytes x) (hl : l.length ≤ maxLen) : cref03_List l = some (if Short l then (listed l, 0) else ([], 4)) := by
  show nref03_List l = _
  unfold nref03_List
  rw [rshort_eq l hl, Option.bind_some]
  by_cases h : Short l
  · rw [decide_eq_true h, if_pos h, show (!true) = false by rfl, cond_false]
    have := rlist_first l (fun x hx => ⟨hb x hx, by have := h.2 x hx; omega⟩) (by have := h.1; omega) (big - 1) (by have := big_1000; omega)
    rw [← big_pos] at this
    rw [show cref03_Listed l = some (listed l) from this]
    rfl
  · rw [decide_eq_false h, if_neg h]
    rfl

/-! ### digits -/
theorem digit_slice {m : Nat} (h : m < 16) : List.drop m (List.take (m + 1) ([48, 49, 50, 51, 52, 53, 54, 55, 56, 57, 97, 98, 99, 100, 101, 102] : List Int)) = [hexd m] := by
  have : ((List.range 16).all fun m => decide (List.drop m (List.take (m + 1) ([48, 49, 50, 51, 52, 53, 54, 55, 56, 57, 97, 98, 99, 100, 101, 102] : List Int)) = [hexd m])) = true := by decide +kernel
  exact of_decide_eq_true (List.all_eq_true.1 this m (by simpa using h))

theorem wn (n : Nat) (h : n < 18446744073709551616) : IntKind.u64.wrap (n : Int) = (n : Int) := by rw [wrap_u64]; omega
theorem rdigits_one {b : Nat} (hb : b = 10 ∨ b = 16) (u N : Nat) (s : List Int) (h : u < b) (hs : s.length ≤ 1000) : iterV (gref03_Digits_0 big) (N + 1) ((u : Int), (b : Int), s) = some (hexd u :: s) := by
  have hlim := lim_le
  show href03_Digits_0 (iterV (gref03_Digits_0 big) N) _ = _
  unfold href03_Digits_0
  dsimp only
  have hlen : (List.length ([48, 49, 50, 51, 52, 53, 54, 55, 56, 57, 97, 98, 99, 100, 101, 102] : List Int) : Int) = 16 := rfl
  rw [decide_eq_false (by omega), cond_false]
  have hw : IntKind.u64.wrap ((u : Int) + 1) = ((u + 1 : Nat) : Int) := by rw [wrap_u64]; omega
  rw [hw, hlen]
  rw [show (decide (0 ≤ (u : Int)) && (decide ((u : Int) ≤ ((u + 1 : Nat) : Int)) && decide (((u + 1 : Nat) : Int) ≤ 16))) = true by rw [decide_eq_true (by omega), decide_eq_true (by omega), decide_eq_true (by omega)]; rfl, cond_true]
  rw [Int.toNat_natCast, Int.toNat_natCast, digit_slice (by omega), Nat.ble_eq_true_of_le (by simp; omega), cond_true]
  rfl
theorem rdigits_run {b : Nat} (hb : b = 10 ∨ b = 16) : ∀ (k u N : Nat) (s : List Int), u < b ^ k → k ≤ 64 → k < N → u < 18446744073709551616 → s.length + k ≤ 1000 →
    iterV (gref03_Digits_0 big) (N + 1) ((u : Int), (b : Int), s) = some (dN b u ++ s)
  | 0, u, N, s, hu, _, _, _, hs => by
    have : u = 0 := by simpa using hu
    subst this
    rw [dN, dif_pos (.inl (by omega)), rdigits_one hb 0 N s (by omega) (by omega)]
    rfl
  | k + 1, u, N, s, hu, hk, hN, hu2, hs => by
    have hlim := lim_le
    have hb2 : 2 ≤ b ∧ b ≤ 16 := by omega
    obtain ⟨N, rfl⟩ : ∃ M, N = M + 1 := ⟨N - 1, by omega⟩
    by_cases h : u < b
    · rw [dN, dif_pos (.inl h), rdigits_one hb u (N + 1) s h (by omega)]
      rfl
    show href03_Digits_0 (iterV (gref03_Digits_0 big) (N + 1)) _ = _
    unfold href03_Digits_0
    dsimp only
    have hlen : (List.length ([48, 49, 50, 51, 52, 53, 54, 55, 56, 57, 97, 98, 99, 100, 101, 102] : List Int) : Int) = 16 := rfl
    · rw [decide_eq_true (by omega), cond_true]
      rw [show ((b : Int) == 0) = false from beq_eq_false_iff_ne.2 (by omega), cond_false, cond_false]
      have hm : (u : Int).tmod (b : Int) = ((u % b : Nat) : Int) := by rw [Int.tmod_eq_emod_of_nonneg (by omega)]; rfl
      have hd : (u : Int).tdiv (b : Int) = ((u / b : Nat) : Int) := by rw [Int.tdiv_eq_ediv_of_nonneg (by omega)]; rfl
      have hml := Nat.mod_lt u (show b > 0 by omega)
      have hdl := Nat.div_le_self u b
      rw [hm, hd]
      have hw : IntKind.u64.wrap (((u % b : Nat) : Int) + 1) = ((u % b + 1 : Nat) : Int) := wn (u % b + 1) (by omega)
      have hw2 : IntKind.u64.wrap ((u / b : Nat) : Int) = ((u / b : Nat) : Int) := wn (u / b) (Nat.lt_of_le_of_lt hdl hu2)
      rw [hw, hw2, hlen]
      rw [show (decide (0 ≤ ((u % b : Nat) : Int)) && (decide (((u % b : Nat) : Int) ≤ ((u % b + 1 : Nat) : Int)) && decide (((u % b + 1 : Nat) : Int) ≤ 16))) = true by rw [decide_eq_true (by omega), decide_eq_true (by omega), decide_eq_true (by omega)]; rfl, cond_true]
      rw [Int.toNat_natCast, Int.toNat_natCast, digit_slice (by omega), Nat.ble_eq_true_of_le (by simp; omega), cond_true]
      rw [rdigits_run hb k (u / b) N (List.append [hexd (u % b)] s) (by rw [Nat.pow_succ] at hu; exact Nat.div_lt_of_lt_mul (by rw [Nat.mul_comm]; exact hu)) (by omega) (by omega) (by omega) (by simp; omega)]
      rw [dN.eq_def b u, dif_neg (by omega)]
      simp

theorem rdigits_eq {b : Nat} (hb : b = 10 ∨ b = 16) (u : Nat) (hu : u < 18446744073709551616) : cref03_Digits ((u : Int), (b : Int)) = some (dN b u) := by
  have := rdigits_run hb 20 u (big - 1) [] (by rcases hb with rfl | rfl <;> omega) (by omega) (by have := big_1000; omega) hu (by simp)
  rw [← big_pos, List.append_nil] at this
  exact this

theorem rnumber_eq (n : Int) (h0 : -9223372036854775808 ≤ n) (h1 : n ≤ 9223372036854775807) : cref03_Number n = some (decI n) := by
  have hlim := lim_le
  show nref03_Number n = _
  unfold nref03_Number
  rw [decI_dN]
  by_cases h : n < 0
  · rw [decide_eq_false (by omega), cond_false, if_pos h]
    dsimp only
    have hw : IntKind.u64.wrap (IntKind.u64.wrap (IntKind.i64.wrap (0 - IntKind.i64.wrap (n + 1))) + 1) = ((n.natAbs : Nat) : Int) := by
      rw [wrap_i64 (n := n + 1) (by omega) (by omega), wrap_i64 (by omega) (by omega), wrap_u64, wrap_u64]; omega
    rw [hw, show (10 : Int) = ((10 : Nat) : Int) by rfl, rdigits_eq (.inl rfl) _ (by omega), Option.bind_some]
    have hl := dN_len (b := 10) (by omega) 19 n.natAbs (by omega)
    rw [Nat.ble_eq_true_of_le (by simp; omega)]
    rfl
  · rw [decide_eq_true (by omega), cond_true, if_neg h]
    have hw : IntKind.u64.wrap n = ((n.toNat : Nat) : Int) := by rw [wrap_u64]; omega
    rw [hw, show (10 : Int) = ((10 : Nat) : Int) by rfl, rdigits_eq (.inl rfl) _ (by omega)]
    rfl
theorem rhex_eq (u : Nat) (hu : u < 18446744073709551616) : cref03_Hex (u : Int) = some ([48, 120] ++ dN 16 u) := by
  have hlim := lim_le
  show nref03_Hex (u : Int) = _
  unfold nref03_Hex
  have hl := dN_len (b := 16) (by omega) 16 u (by omega)
  rw [show (16 : Int) = ((16 : Nat) : Int) by rfl, rdigits_eq (.inr rfl) _ hu, Option.bind_some, Nat.ble_eq_true_of_le (by simp; omega)]
  rfl
end Go.Proofs.YtcapedpcokhpjaaDoor
