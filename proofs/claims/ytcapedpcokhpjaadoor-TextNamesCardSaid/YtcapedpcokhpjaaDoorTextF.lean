/- What the functions of package text that write compute: texts in quotes, lists of them, numbers. -/
import Derived.Test.YtcapedpcokhpjaaDoorTextA
import Derived.Test.YtcapedpcokhpjaaDoorTextM
set_option linter.unusedVariables false
set_option linter.unusedSimpArgs false
set_option maxRecDepth 100000
namespace Go.Proofs.YtcapedpcokhpjaaDoor
open Go.Lift

theorem lim_le : (1000000 : Nat) ≤ lim := by decide
theorem maxLen_big : maxLen < big := by decide
theorem big_1000 : 1000000 < big - 1 := by decide

theorem quote_run (s : List Int) (hs : Bytes s) (hl : s.length ≤ maxLen) : ∀ (b : List Int),
    iterV (gtext_Quote_0 big) big (s, (List.length s : Int), (0 : Int), b) = foldC stepQ (fun b => bif (Nat.ble 1 1 && Nat.ble (List.length b + List.length ([34] : List Int)) lim) then some (List.append b [34], (0 : Int)) else none) s b := by
  intro b
  have := range_run (g := gtext_Quote_0 big) (xs := s) (fun (b : List Int) (i : Nat) => (s, (List.length s : Int), (i : Int), b)) stepQ
    (fun b => bif (Nat.ble 1 1 && Nat.ble (List.length b + List.length ([34] : List Int)) lim) then some (List.append b [34], (0 : Int)) else none) (by
      intro self b
      show htext_Quote_0 self _ = _
      unfold htext_Quote_0
      dsimp only
      rw [decide_eq_false (by omega), cond_false]) (by
      intro self b i hi
      show htext_Quote_0 self _ = _
      unfold htext_Quote_0
      dsimp only
      rw [decide_eq_true (by omega), cond_true, getI_at hi, Option.bind_some]
      have hw := wrap_succ hi hl
      rw [hw]
      exact form_cases (fun f => bif (Nat.ble 1 1 && Nat.ble (List.length b + List.length f) lim) then self (s, (List.length s : Int), ((i + 1 : Nat) : Int), List.append b f) else none) (hs _ (List.getElem_mem hi))) s.length 0 big (by omega) (by have := maxLen_big; omega) b
  rw [List.drop_zero] at this
  exact this

theorem quote_eq (s : List Int) (hs : Bytes s) : ctext_Quote s = some (if s.length ≤ 400 then (inQ s, 0) else ([], 4)) := by
  show ntext_Quote _ s = _
  unfold ntext_Quote
  by_cases h : s.length ≤ 400
  · rw [decide_eq_false (by omega), cond_false, if_pos h]
    have hm : (400 : Nat) ≤ maxLen := by decide
    show (bif (Nat.ble 1 1 && Nat.ble 1 lim) then _ else _) = _
    rw [show (Nat.ble 1 1 && Nat.ble 1 lim) = true by decide, cond_true]
    dsimp only
    rw [quote_run s hs (by omega), foldQ _ _ _ (by have := lim_le; simp; omega)]
    have hf := flat_len s
    rw [show (Nat.ble 1 1 && Nat.ble _ lim) = true from Nat.ble_eq_true_of_le (by have := lim_le; simp [-List.length_flatMap]; omega), cond_true]
    simp [inQ]
  · rw [decide_eq_true (by omega), cond_true, if_neg h]

def Short (l : List (List Int)) : Prop := l.length ≤ 64 ∧ ∀ x ∈ l, x.length ≤ 400
instance (l : List (List Int)) : Decidable (Short l) := by unfold Short; infer_instance

theorem fits_eq (l : List (List Int)) : ctext_fits l = some (decide (Short l)) := by
  show ntext_fits _ l = _
  unfold ntext_fits
  by_cases h : l.length ≤ 64
  · rw [decide_eq_false (by omega), cond_false]
    have hm : (64 : Nat) ≤ maxLen := by decide
    have := range_run (g := gtext_fits_0 big) (xs := l) (fun (_ : Unit) (i : Nat) => (l, (List.length l : Int), (i : Int))) (fun x s k => bif decide ((List.length x : Int) > 400) then some false else k s)
      (fun _ => some true) (by
        intro self b
        show htext_fits_0 self _ = _
        unfold htext_fits_0
        dsimp only
        rw [decide_eq_false (by omega), cond_false]) (by
        intro self b i hi
        show htext_fits_0 self _ = _
        unfold htext_fits_0
        dsimp only
        rw [decide_eq_true (by omega), cond_true, getI_at hi, Option.bind_some, wrap_succ hi (by omega)]) l.length 0 big (by omega) (by have := maxLen_big; omega) ()
    rw [List.drop_zero] at this
    refine Eq.trans this ?_
    have e : ∀ m : List (List Int), foldC (fun (x : List Int) (s : Unit) (k : Unit → Option Bool) => bif decide ((List.length x : Int) > 400) then some false else k s) (fun _ => some true) m () = some (decide (∀ x ∈ m, x.length ≤ 400)) := by
      intro m
      induction m with
      | nil => simp [foldC]
      | cons x m ih =>
        show (bif decide ((List.length x : Int) > 400) then some false else foldC _ _ m ()) = _
        by_cases hx : x.length ≤ 400
        · rw [decide_eq_false (by omega), cond_false, ih]
          simp [hx]
        · rw [decide_eq_true (by omega), cond_true]
          simp [hx]
    rw [e]
    simp [Short, h]
  · rw [decide_eq_true (by omega), cond_true]
    simp [Short, h]

theorem list_in (N : Nat) (hN : maxLen < N) (self0 : (List (List Int)) × Int × Int × (List Int) → Option ((List Int) × Int)) (x : List Int) (hx : Bytes x) (hl : x.length ≤ maxLen) (l : List (List Int)) (n i : Int) (b : List Int) :
    iterV (gtext_List_1 N self0) N (x, (List.length x : Int), (0 : Int), b, l, n, i) =
      foldC stepQ (fun b => bif (Nat.ble 1 1 && Nat.ble (List.length b + List.length ([34] : List Int)) lim) then self0 (l, n, IntKind.i64.wrap (i + 1), List.append b [34]) else none) x b := by
  have := range_run (g := gtext_List_1 N self0) (xs := x) (fun (b : List Int) (j : Nat) => (x, (List.length x : Int), (j : Int), b, l, n, i)) stepQ
    (fun b => bif (Nat.ble 1 1 && Nat.ble (List.length b + List.length ([34] : List Int)) lim) then self0 (l, n, IntKind.i64.wrap (i + 1), List.append b [34]) else none) (by
      intro self b
      show htext_List_1 self0 self _ = _
      unfold htext_List_1
      dsimp only
      rw [decide_eq_false (by omega), cond_false]) (by
      intro self b j hi
      show htext_List_1 self0 self _ = _
      unfold htext_List_1
      dsimp only
      rw [decide_eq_true (by omega), cond_true, getI_at hi, Option.bind_some]
      have hw := wrap_succ hi hl
      rw [hw]
      exact form_cases (fun f => bif (Nat.ble 1 1 && Nat.ble (List.length b + List.length f) lim) then self (x, (List.length x : Int), ((j + 1 : Nat) : Int), List.append b f, l, n, i) else none) (hx _ (List.getElem_mem hi))) x.length 0 N (by omega) (by omega) b
  rw [List.drop_zero] at this
  exact this

theorem list_step (self0 : (List (List Int)) × Int × Int × (List Int) → Option ((List Int) × Int)) (l : List (List Int)) (x : List Int) (hx : Bytes x) (hl : x.length ≤ 500) (i : Nat) (hi : i < 1000) (b : List Int) (hb : b.length ≤ 900000) :
    iterV (gtext_List_1 big self0) big (x, (List.length x : Int), (0 : Int), b ++ [34], l, (List.length l : Int), (i : Int)) = self0 (l, (List.length l : Int), ((i + 1 : Nat) : Int), b ++ inQ x) := by
  have hm : (1000 : Nat) ≤ maxLen := by decide
  rw [list_in big (by decide) self0 x hx (by omega), foldQ _ _ _ (by have := lim_le; simp; omega)]
  have hf := flat_len x
  rw [show (Nat.ble 1 1 && Nat.ble _ lim) = true from Nat.ble_eq_true_of_le (by have := lim_le; simp [-List.length_flatMap]; omega), cond_true]
  have hw := wrap_succ (n := 1000) hi hm
  rw [hw]
  simp [inQ]

theorem list_run (l : List (List Int)) (hl : ∀ x ∈ l, Bytes x ∧ x.length ≤ 500) (hn : l.length ≤ 400) : ∀ (k i N : Nat), i + k = l.length → k < N → 0 < i → ∀ b : List Int, b.length ≤ 2010 * i + 1 →
    iterV (gtext_List_0 big) N (l, (List.length l : Int), (i : Int), b) = some (b ++ restL (l.drop i), (0 : Int))
  | 0, i, N + 1, hi, _, _, b, hb => by
    show htext_List_0 (iterV (gtext_List_1 big (iterV (gtext_List_0 big) N)) big) (iterV (gtext_List_0 big) N) _ = _
    unfold htext_List_0
    dsimp only
    rw [decide_eq_false (by omega), cond_false, List.drop_of_length_le (by omega)]
    rw [show (Nat.ble 1 1 && Nat.ble _ lim) = true from Nat.ble_eq_true_of_le (by have := lim_le; simp [-List.length_flatMap]; omega), cond_true]
    rfl
  | k + 1, i, N + 1, hi, hN, h0, b, hb => by
    have hlt : i < l.length := by omega
    have hx := hl _ (List.getElem_mem hlt)
    show htext_List_0 (iterV (gtext_List_1 big (iterV (gtext_List_0 big) N)) big) (iterV (gtext_List_0 big) N) _ = _
    unfold htext_List_0
    dsimp only
    rw [decide_eq_true (by omega), cond_true, getI_at hlt, Option.bind_some, decide_eq_true (by omega), cond_true]
    rw [show (Nat.ble 1 1 && Nat.ble _ lim) = true from Nat.ble_eq_true_of_le (by have := lim_le; simp [-List.length_flatMap]; omega), cond_true]
    rw [show (Nat.ble 1 1 && Nat.ble _ lim) = true from Nat.ble_eq_true_of_le (by have := lim_le; simp [-List.length_flatMap]; omega), cond_true]
    have := list_step (iterV (gtext_List_0 big) N) l l[i] hx.1 hx.2 i (by omega) (b ++ [44, 32]) (by simp; omega)
    refine Eq.trans this ?_
    have hq := inQ_len l[i]
    rw [list_run l hl hn k (i + 1) N (by omega) (by omega) (by omega) _ (by simp; omega)]
    rw [List.drop_eq_getElem_cons hlt, restL]
    simp

theorem list_first (l : List (List Int)) (hb : ∀ x ∈ l, Bytes x) (h : Short l) (N : Nat) (hN : 1000 < N) :
    iterV (gtext_List_0 big) (N + 1) (l, (List.length l : Int), (0 : Int), [91]) = some (listed l, (0 : Int)) := by
  show htext_List_0 (iterV (gtext_List_1 big (iterV (gtext_List_0 big) N)) big) (iterV (gtext_List_0 big) N) _ = _
  unfold htext_List_0
  dsimp only
  cases l with
  | nil =>
    rw [decide_eq_false (by simp), cond_false]
    rfl
  | cons x l =>
    have hx : Bytes x ∧ x.length ≤ 400 := ⟨hb x (by simp), h.2 x (by simp)⟩
    rw [decide_eq_true (by simp), cond_true]
    rw [show getI (x :: l) (0 : Int) = some x by rfl, Option.bind_some]
    rw [show decide ((0 : Int) > 0) = false by decide, cond_false]
    rw [show (Nat.ble 1 1 && Nat.ble _ lim) = true from Nat.ble_eq_true_of_le (by have := lim_le; simp [-List.length_flatMap]; omega), cond_true]
    have := list_step (iterV (gtext_List_0 big) N) (x :: l) x hx.1 (by omega) 0 (by omega) [91] (by simp)
    refine Eq.trans this ?_
    have hq := inQ_len x
    have hlen : l.length + 1 ≤ 64 := h.1
    rw [list_run (x :: l) (fun y hy => ⟨hb y hy, by have := h.2 y hy; omega⟩) (by have := h.1; omega) l.length 1 N (by simp; omega) (by omega) (by omega) _ (by simp; omega)]
    rw [listed, joined_cons]
    simp

theorem list_eq (l : List (List Int)) (hb : ∀ x ∈ l, Bytes x) : ctext_List l = some (if Short l then (listed l, 0) else ([], 4)) := by
  show ntext_List _ l = _
  unfold ntext_List
  rw [fits_eq, Option.bind_some]
  by_cases h : Short l
  · rw [decide_eq_true h, if_pos h]
    have := list_first l hb h (big - 1) (by have := big_1000; omega)
    rw [← big_pos] at this
    exact this
  · rw [decide_eq_false h, if_neg h]
    rfl

/-! ### numbers -/
theorem number_eq (n : Int) : ctext_Number n = some (decI n) := rfl
theorem decI_dN (n : Int) : decI n = if n < 0 then 45 :: dN 10 n.natAbs else dN 10 n.toNat := by
  unfold decI
  split <;> rw [digsN_dN]

theorem digits36 {d : Nat} (h : d < 16) : getI ([48, 49, 50, 51, 52, 53, 54, 55, 56, 57, 97, 98, 99, 100, 101, 102, 103, 104, 105, 106, 107, 108, 109, 110, 111, 112, 113, 114, 115, 116, 117, 118, 119, 120, 121, 122] : List Int) (d : Int) = some (hexd d) := by
  have : ((List.range 16).all fun d => decide (getI ([48, 49, 50, 51, 52, 53, 54, 55, 56, 57, 97, 98, 99, 100, 101, 102, 103, 104, 105, 106, 107, 108, 109, 110, 111, 112, 113, 114, 115, 116, 117, 118, 119, 120, 121, 122] : List Int) (d : Int) = some (hexd d))) = true := by decide +kernel
  exact of_decide_eq_true (List.all_eq_true.1 this d (by simpa using h))

theorem drop_set {α : Type} : ∀ (a : List α) (i : Nat) (x : α), i < a.length → (List.set a i x).drop i = x :: a.drop (i + 1)
  | [], _, _, h => by simp at h
  | a :: l, 0, x, _ => by simp
  | a :: l, i + 1, x, h => by
    have := drop_set l i x (by simpa using h)
    simpa using this

theorem bits_run (d0 : List Int) : ∀ (k u i N : Nat) (a : List Int), u < 16 ^ k → k < N → 1 ≤ k → k ≤ i → i ≤ 65 → a.length = 65 → u < 18446744073709551616 →
    iterV (gistrconv_formatBits_0 big) N (d0, (u : Int), false, false, ([] : List Int), (i : Int), (4 : Int), (16 : Int), (15 : Int), ([] : List Int), a) = some (([] : List Int), dN 16 u ++ a.drop i)
  | 0, _, _, _, _, _, _, h, _, _, _, _ => by omega
  | k + 1, u, i, N + 1, a, hu, hN, hk, hki, hi, ha, hu2 => by
    show histrconv_formatBits_0 (iterV (gistrconv_formatBits_0 big) N) _ = _
    unfold histrconv_formatBits_0
    dsimp only
    have hw : IntKind.i64.wrap ((i : Int) - 1) = ((i - 1 : Nat) : Int) := by
      rw [wrap_i64 (by omega) (by omega)]; omega
    rw [hw]
    by_cases h : u < 16
    · rw [decide_eq_false (by omega), cond_false, digits36 h, Option.bind_some]
      rw [show (decide (0 ≤ ((i - 1 : Nat) : Int)) && decide (((i - 1 : Nat) : Int) < 65)) = true by simp; omega]
      simp only [cond_true, cond_false, Int.toNat_natCast]
      rw [show (decide (0 ≤ ((i - 1 : Nat) : Int)) && decide (((i - 1 : Nat) : Int) ≤ (List.length (List.set a (i - 1) (hexd u)) : Int))) = true by simp; omega, cond_true]
      rw [drop_set a (i - 1) _ (by omega), dN, dif_pos (.inl h), show i - 1 + 1 = i by omega]
      rfl
    · rw [decide_eq_true (by omega), cond_true]
      have hand : bits .and .u64 (u : Int) 15 = ((u % 16 : Nat) : Int) := by
        have := bits_and (k := .u64) rfl (a := u) (b := 15) hu2 (by decide)
        rw [show ((15 : Nat) : Int) = 15 by rfl] at this
        rw [this, show (15 : Nat) = 2 ^ 4 - 1 by rfl, Nat.and_two_pow_sub_one_eq_mod]
      rw [hand, digits36 (Nat.mod_lt _ (by omega)), Option.bind_some]
      rw [show (decide (0 ≤ ((i - 1 : Nat) : Int)) && decide (((i - 1 : Nat) : Int) < 65)) = true by simp; omega]
      rw [cond_true, show decide ((4 : Int) < 0) = false by decide, cond_false]
      have hsh : (u : Int).fdiv (2 ^ (min (Int.toNat 4) 64)) = ((u / 16 : Nat) : Int) := fdiv_nat u 4
      rw [hsh, Int.toNat_natCast]
      have hk1 : 1 ≤ k := by
        cases k with
        | zero => simp at hu; omega
        | succ k => omega
      rw [bits_run d0 k (u / 16) (i - 1) N _ (by rw [Nat.pow_succ] at hu; exact Nat.div_lt_of_lt_mul (by rw [Nat.mul_comm]; exact hu)) (by omega) hk1 (by omega) (by omega) (by simpa using ha) (by omega)]
      rw [drop_set a (i - 1) _ (by omega), show i - 1 + 1 = i by omega]
      rw [dN.eq_def 16 u, dif_neg (by omega)]
      simp

theorem hex_eq (u : Nat) (hu : u < 18446744073709551616) : ctext_Hex (u : Int) = some ([48, 120] ++ dN 16 u) := by
  have h := bits_run [] 16 u 65 big (List.replicate 65 (0 : Int)) (by omega) (by decide) (by omega) (by omega) (by omega) (by simp) hu
  have e : cistrconv_formatBits (([] : List Int), (u : Int), 16, false, false) = iterV (gistrconv_formatBits_0 big) big (([] : List Int), (u : Int), false, false, ([] : List Int), (65 : Int), (4 : Int), (16 : Int), (15 : Int), ([] : List Int), (List.replicate 65 (0 : Int))) := by kernel_rfl
  rw [show ((65 : Nat) : Int) = 65 by rfl] at h
  rw [h] at e
  have e2 : cstrconv_FormatUint ((u : Int), 16) = some (dN 16 u) := by
    show (((cistrconv_formatBits (([] : List Int), (u : Int), 16, false, false)).bind fun x1 => some x1.2).bind fun x1 => some x1) = _
    rw [e]
    simp
  have hl := dN_len (b := 16) (by omega) 16 u (by omega)
  show ((cstrconv_FormatUint ((u : Int), 16)).bind fun x1 => (bif (Nat.ble (List.length ([48, 120] : List Int) + List.length x1) lim) then some (List.append ([48, 120] : List Int) x1) else none)) = _
  rw [e2, Option.bind_some, Nat.ble_eq_true_of_le (by have := lim_le; simp [-List.length_flatMap]; omega)]
  rfl
end Go.Proofs.YtcapedpcokhpjaaDoor
