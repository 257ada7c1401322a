/- Texts in quotes, lists of them, and digits, as plain lists of bytes: no program. -/
import Derived.Test.YtcapedpcokhpjaaDoorTextC
import Derived.Test.YtcapedpcokhpjaaDoorBase
set_option linter.unusedVariables false
set_option linter.unusedSimpArgs false
namespace Go.Lift

def hexL : List Int := [48, 49, 50, 51, 52, 53, 54, 55, 56, 57, 97, 98, 99, 100, 101, 102]
def hexd (n : Nat) : Int := hexL.getD n 0
def Byte (c : Int) : Prop := 0 ≤ c ∧ c ≤ 255
instance (c : Int) : Decidable (Byte c) := by unfold Byte; infer_instance

/-- what stands for a byte between quotation marks -/
def form (c : Int) : List Int :=
  if c = 34 then [92, 34] else if c = 92 then [92, 92] else if c = 10 then [92, 110]
  else if c < 32 ∨ 126 < c then [92, 120, hexd (c.toNat / 16), hexd (c.toNat % 16)] else [c]

theorem all256 {P : Nat → Bool} (h : (List.range 256).all P = true) {c : Int} (hc : Byte c) : P c.toNat = true := by
  have := List.all_eq_true.1 h c.toNat (by
    obtain ⟨h0, h1⟩ := hc
    simp; omega)
  exact this
theorem byte_nat {c : Int} (hc : Byte c) : ((c.toNat : Nat) : Int) = c := Int.toNat_of_nonneg hc.1

theorem hex_ok {c : Int} (hc : Byte c) : getI hexL (c.fdiv (2 ^ 4)) = some (hexd (c.toNat / 16)) ∧ getI hexL (bits .and .u8 c 15) = some (hexd (c.toNat % 16)) := by
  have h := all256 (P := fun n => decide (getI hexL ((n : Int).fdiv (2 ^ 4)) = some (hexd (n / 16)) ∧ getI hexL (bits .and .u8 (n : Int) 15) = some (hexd (n % 16)))) (by decide +kernel) hc
  rw [byte_nat hc] at h
  exact of_decide_eq_true h

theorem form_cases {α : Type} (K : List Int → Option α) {c : Int} (hc : Byte c) :
    (bif (c == (34 : Int)) then K [92, c] else bif (c == (92 : Int)) then K [92, c] else bif (c == (10 : Int)) then K [92, 110] else
      bif decide (c < (32 : Int)) then ((getI hexL (c.fdiv (2 ^ 4))).bind fun a => (getI hexL (bits .and .u8 c 15)).bind fun b => K [92, 120, a, b]) else
      bif decide (c > (126 : Int)) then ((getI hexL (c.fdiv (2 ^ 4))).bind fun a => (getI hexL (bits .and .u8 c 15)).bind fun b => K [92, 120, a, b]) else K [c]) = K (form c) := by
  obtain ⟨h1, h2⟩ := hex_ok hc
  rw [h1, h2]
  simp only [Option.bind_some, form]
  by_cases a1 : c = 34
  · simp [a1]
  by_cases a2 : c = 92
  · simp [a2]
  by_cases a3 : c = 10
  · simp [a3]
  have b1 : (c == (34 : Int)) = false := by simpa using a1
  have b2 : (c == (92 : Int)) = false := by simpa using a2
  have b3 : (c == (10 : Int)) = false := by simpa using a3
  rw [b1, b2, b3, if_neg a1, if_neg a2, if_neg a3]
  simp only [cond_false]
  by_cases a4 : c < 32
  · rw [decide_eq_true a4, if_pos (.inl a4)]; rfl
  · by_cases a5 : 126 < c
    · rw [decide_eq_false a4, decide_eq_true a5, if_pos (.inr a5)]; rfl
    · rw [decide_eq_false a4, decide_eq_false (show ¬ (c > 126) from a5), if_neg (by rintro (h | h) <;> contradiction)]; rfl

theorem hexd_byte : ∀ n : Nat, n < 16 → Byte (hexd n) ∧ hexd n ≠ 34 ∧ 48 ≤ hexd n ∧ hexd n ≤ 102 := by
  intro n h
  have : ((List.range 16).all fun n => decide (Byte (hexd n) ∧ hexd n ≠ 34 ∧ 48 ≤ hexd n ∧ hexd n ≤ 102)) = true := by
    decide +kernel
  exact of_decide_eq_true (List.all_eq_true.1 this n (by simpa using h))

theorem form_len (c : Int) : 1 ≤ (form c).length ∧ (form c).length ≤ 4 := by
  unfold form
  repeat' split
  all_goals simp
theorem form_plain {c : Int} (hc : Byte c) : ∀ x ∈ form c, 32 ≤ x ∧ x ≤ 126 := by
  have h1 := hexd_byte (c.toNat / 16) (by have := hc.2; omega)
  have h2 := hexd_byte (c.toNat % 16) (by omega)
  intro x hx
  unfold form at hx
  repeat' split at hx
  all_goals simp only [List.mem_cons, List.not_mem_nil, or_false] at hx
  · rcases hx with rfl | rfl <;> decide
  · rcases hx with rfl | rfl <;> decide
  · rcases hx with rfl | rfl <;> decide
  · rcases hx with rfl | rfl | rfl | rfl
    · decide
    · decide
    · omega
    · omega
  · subst hx; omega
theorem form_bytes {c : Int} (hc : Byte c) : Bytes (form c) := fun x hx => by have := form_plain hc x hx; omega
theorem form_head {c : Int} : ∃ a t, form c = a :: t ∧ a ≠ 34 := by
  unfold form
  split
  · exact ⟨_, _, rfl, by decide⟩
  split
  · exact ⟨_, _, rfl, by decide⟩
  split
  · exact ⟨_, _, rfl, by decide⟩
  split
  · exact ⟨_, _, rfl, by decide⟩
  · exact ⟨_, _, rfl, by assumption⟩

def inQ (s : List Int) : List Int := 34 :: (s.flatMap form ++ [34])
def joined : List (List Int) → List Int
  | [] => [93]
  | [x] => inQ x ++ [93]
  | x :: y :: l => inQ x ++ [44, 32] ++ joined (y :: l)
def listed (l : List (List Int)) : List Int := 91 :: joined l

def restL : List (List Int) → List Int
  | [] => [93]
  | x :: l => [44, 32] ++ (inQ x ++ restL l)
theorem joined_cons : ∀ (x : List Int) (l : List (List Int)), joined (x :: l) = inQ x ++ restL l
  | x, [] => rfl
  | x, y :: l => by
    rw [joined, joined_cons y l, restL]
    simp

theorem flat_len : ∀ (s : List Int), (s.flatMap form).length ≤ 4 * s.length
  | [] => by simp
  | c :: s => by
    have := flat_len s
    have := form_len c
    simp only [List.flatMap_cons, List.length_append, List.length_cons]
    omega
theorem inQ_len (s : List Int) : (inQ s).length ≤ 4 * s.length + 2 := by
  have := flat_len s
  simp only [inQ, List.length_cons, List.length_append, List.length_nil]
  omega
theorem flat_len' : ∀ (s : List Int), s.length ≤ (s.flatMap form).length
  | [] => by simp
  | c :: s => by
    have := flat_len' s
    have := form_len c
    simp only [List.flatMap_cons, List.length_append, List.length_cons]
    omega

/-! ### rounds that append forms -/
def stepQ {α : Type} (c : Int) (b : List Int) (k : List Int → Option α) : Option α := bif (Nat.ble 1 1 && Nat.ble (List.length b + List.length (form c)) lim) then k (List.append b (form c)) else none
theorem foldQ {α : Type} (fin : List Int → Option α) : ∀ (s b : List Int), b.length + 4 * s.length ≤ lim → foldC stepQ fin s b = fin (b ++ s.flatMap form)
  | [], b, _ => by simp [foldC]
  | c :: s, b, h => by
    have hl := form_len c
    have h1 : Nat.ble (List.length b + List.length (form c)) lim = true := Nat.ble_eq_true_of_le (by simp at h; omega)
    show stepQ c b (foldC stepQ fin s) = _
    rw [stepQ, h1]
    show foldC stepQ fin s (b ++ form c) = _
    rw [foldQ fin s (b ++ form c) (by simp at h ⊢; omega)]
    simp

/-! ### digits -/
def dN (b : Nat) (u : Nat) : List Int :=
  if h : u < b ∨ b < 2 then [hexd u] else dN b (u / b) ++ [hexd (u % b)]
termination_by u
decreasing_by
  exact Nat.div_lt_self (by omega) (by omega)

theorem digsN_dN : ∀ u, digsN u = dN 10 u := by
  intro u
  induction u using Nat.strongRecOn with
  | ind u ih =>
    rw [digsN, dN]
    have hd : ∀ d : Nat, d < 10 → ((48 + d : Nat) : Int) = hexd d := by
      intro d h
      have : ((List.range 10).all fun d => decide (((48 + d : Nat) : Int) = hexd d)) = true := by decide +kernel
      exact of_decide_eq_true (List.all_eq_true.1 this d (by simpa using h))
    by_cases h : u < 10
    · rw [dif_pos h, dif_pos (.inl h), hd u h]
    · rw [dif_neg h, dif_neg (by omega), ih (u / 10) (by omega), hd (u % 10) (by omega)]

def dig (c : Int) : Nat := if c ≤ 57 then (c - 48).toNat else (c - 87).toNat
theorem dig_hexd {d : Nat} (h : d < 16) : dig (hexd d) = d := by
  have : ((List.range 16).all fun d => decide (dig (hexd d) = d)) = true := by decide +kernel
  exact of_decide_eq_true (List.all_eq_true.1 this d (by simpa using h))
def valF (b n : Nat) (s : List Int) : Nat := s.foldl (fun n c => n * b + dig c) n
def val (b : Nat) (s : List Int) : Nat := valF b 0 s
theorem valF_cons (b n : Nat) (c : Int) (s : List Int) : valF b n (c :: s) = valF b (n * b + dig c) s := rfl
theorem valF_snoc (b n : Nat) (s : List Int) (c : Int) : valF b n (s ++ [c]) = valF b n s * b + dig c := by
  simp [valF, List.foldl_append]
theorem valF_ge {b : Nat} (hb : 1 ≤ b) : ∀ (s : List Int) (n : Nat), n ≤ valF b n s
  | [], n => Nat.le_refl _
  | c :: s, n => by
    rw [valF_cons]
    have h1 := valF_ge hb s (n * b + dig c)
    have h2 : n * 1 ≤ n * b := Nat.mul_le_mul_left n hb
    omega

def Dgs (b : Nat) (s : List Int) : Prop := ∀ c ∈ s, ∃ d, d < b ∧ c = hexd d
def Whole (b : Nat) (s : List Int) : Prop := s ≠ [] ∧ (s.head? = some 48 → s.length = 1) ∧ Dgs b s

theorem val_dN {b : Nat} (hb : 2 ≤ b) (hb' : b ≤ 16) : ∀ u, val b (dN b u) = u := by
  intro u
  induction u using Nat.strongRecOn with
  | ind u ih =>
    rw [dN]
    by_cases h : u < b
    · rw [dif_pos (.inl h)]
      simp [val, valF, dig_hexd (show u < 16 by omega)]
    · rw [dif_neg (by omega)]
      have hm := Nat.mod_lt u (show b > 0 by omega)
      unfold val at ih ⊢
      rw [valF_snoc, ih (u / b) (Nat.div_lt_self (by omega) (by omega)), dig_hexd (show u % b < 16 by omega)]
      exact Nat.div_add_mod' u b
theorem dN_dgs {b : Nat} (hb : 2 ≤ b) : ∀ u, Dgs b (dN b u) := by
  intro u
  induction u using Nat.strongRecOn with
  | ind u ih =>
    rw [dN]
    by_cases h : u < b
    · rw [dif_pos (.inl h)]
      intro c hc
      simp at hc
      exact ⟨u, h, hc⟩
    · rw [dif_neg (by omega)]
      intro c hc
      rcases List.mem_append.1 hc with hc | hc
      · exact ih (u / b) (Nat.div_lt_self (by omega) (by omega)) c hc
      · simp at hc
        exact ⟨u % b, Nat.mod_lt _ (by omega), hc⟩
theorem dN_ne (b u : Nat) : dN b u ≠ [] := by
  rw [dN]; split <;> simp
theorem hexd_48 {d : Nat} (h : d < 16) (e : hexd d = 48) : d = 0 := by
  have := dig_hexd h
  rw [e] at this
  exact this.symm
theorem dN_head {b : Nat} (hb : 2 ≤ b) (hb' : b ≤ 16) : ∀ u, (dN b u).head? = some 48 → u = 0 := by
  intro u
  induction u using Nat.strongRecOn with
  | ind u ih =>
    intro h
    rw [dN] at h
    by_cases hu : u < b
    · rw [dif_pos (.inl hu)] at h
      exact hexd_48 (show u < 16 by omega) (by simpa using h)
    · rw [dif_neg (by omega)] at h
      have h0 : (dN b (u / b)).head? = some 48 := by
        cases hd : dN b (u / b) with
        | nil => exact absurd hd (dN_ne _ _)
        | cons a t => rw [hd] at h; simpa using h
      have e := ih (u / b) (Nat.div_lt_self (by omega) (by omega)) h0
      have e1 := Nat.div_add_mod' u b
      have e2 := Nat.mod_lt u (show b > 0 by omega)
      rw [e] at e1
      omega
theorem whole_dN {b : Nat} (hb : 2 ≤ b) (hb' : b ≤ 16) (u : Nat) : Whole b (dN b u) := by
  refine ⟨dN_ne b u, fun h => ?_, dN_dgs hb u⟩
  have := dN_head hb hb' u h
  subst this
  rw [dN, dif_pos (.inl (by omega))]
  rfl

theorem val_pos {b : Nat} (hb : 2 ≤ b) (hb' : b ≤ 16) {a : Int} {t : List Int} (ha : ∃ d, d < b ∧ a = hexd d) (h48 : a ≠ 48) : 1 ≤ val b (a :: t) := by
  obtain ⟨d, hd, rfl⟩ := ha
  unfold val
  rw [valF_cons, dig_hexd (show d < 16 by omega)]
  have h1 := valF_ge (show 1 ≤ b by omega) t (0 * b + d)
  have : d ≠ 0 := by
    rintro rfl
    exact h48 (by decide)
  omega

theorem dN_val {b : Nat} (hb : 2 ≤ b) (hb' : b ≤ 16) : ∀ (k : Nat) (s : List Int), s.length = k → Whole b s → dN b (val b s) = s
  | 0, s, hk, h => absurd (List.length_eq_zero_iff.1 hk) h.1
  | k + 1, s, hk, h => by
    obtain ⟨h1, h2, h3⟩ := h
    obtain ⟨t, c, rfl⟩ : ∃ t c, s = t ++ [c] := ⟨s.dropLast, s.getLast h1, (List.dropLast_concat_getLast h1).symm⟩
    obtain ⟨d, hd, rfl⟩ := h3 c (by simp)
    unfold val
    rw [valF_snoc, dig_hexd (show d < 16 by omega)]
    cases t with
    | nil =>
      show dN b (0 * b + d) = _
      rw [dN, dif_pos (.inl (by omega))]
      simp
    | cons a t =>
      have ha : a ≠ 48 := by
        rintro rfl
        have := h2 (by simp)
        simp at this
      have hw : Whole b (a :: t) := ⟨by simp, fun h => absurd (by simpa using h) ha, fun c hc => h3 c (by simp only [List.mem_append]; exact .inl hc)⟩
      have hp := val_pos hb hb' (t := t) (h3 a (by simp)) ha
      have ih := dN_val hb hb' k (a :: t) (by simpa using hk) hw
      unfold val at hp ih
      generalize valF b 0 (a :: t) = n at hp ih
      rw [dN, dif_neg (by
        have : 1 * b ≤ n * b := Nat.mul_le_mul_right b hp
        omega)]
      have e1 : (n * b + d) / b = n := by
        rw [Nat.mul_comm, Nat.mul_add_div (by omega), Nat.div_eq_of_lt hd, Nat.add_zero]
      have e2 : (n * b + d) % b = d := by
        rw [Nat.mul_comm, Nat.mul_add_mod, Nat.mod_eq_of_lt hd]
      rw [e1, e2, ih]
theorem dN_len {b : Nat} (hb : 2 ≤ b) : ∀ (k u : Nat), u < b ^ k → (dN b u).length ≤ max k 1
  | 0, u, h => by
    have : u = 0 := by simpa using h
    subst this
    rw [dN, dif_pos (.inl (by omega))]; simp
  | k + 1, u, h => by
    rw [dN]
    by_cases h1 : u < b
    · rw [dif_pos (.inl h1)]; simp
    · rw [dif_neg (by omega)]
      have hk : u / b < b ^ k := by rw [Nat.pow_succ] at h; exact Nat.div_lt_of_lt_mul (by rw [Nat.mul_comm]; exact h)
      have := dN_len hb k (u / b) hk
      have hk1 : 1 ≤ k := by
        cases k with
        | zero => simp at h; omega
        | succ k => omega
      simp
      omega
end Go.Lift
