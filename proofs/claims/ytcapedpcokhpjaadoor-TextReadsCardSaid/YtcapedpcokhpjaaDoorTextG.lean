/- What the functions of package text that read texts in quotes and lists compute. -/
import Derived.Test.YtcapedpcokhpjaaDoorTextF
set_option linter.unusedVariables false
set_option linter.unusedSimpArgs false
set_option maxRecDepth 100000
namespace Go.Proofs.YtcapedpcokhpjaaDoor
open Go.Lift

theorem maxLen_ge : (1000000 : Nat) ≤ maxLen := by decide

/-! ### what a text begins with -/
def begins (p s : List Int) : Bool := decide (s.take p.length = p)
theorem begins_iff {p s : List Int} : begins p s = true ↔ ∃ t, s = p ++ t := by
  rw [begins, decide_eq_true_eq]
  constructor
  · intro h; exact ⟨s.drop p.length, by rw [← congrArg (· ++ s.drop p.length) h]; exact (List.take_append_drop _ _).symm⟩
  · rintro ⟨t, rfl⟩; simp
theorem begins_app (p t : List Int) : begins p (p ++ t) = true := begins_iff.2 ⟨t, rfl⟩

theorem hasPrefix_eq (s p : List Int) : cistringslite_HasPrefix (s, p) = some (begins p s) := by
  show nistringslite_HasPrefix (s, p) = _
  unfold nistringslite_HasPrefix
  dsimp only
  by_cases h : p.length ≤ s.length
  · have h1 : decide ((List.length p : Int) ≤ (List.length s : Int)) = true := decide_eq_true (by omega)
    have h0 : decide (0 ≤ (List.length p : Int)) = true := decide_eq_true (by omega)
    show (bif decide ((List.length p : Int) ≤ (List.length s : Int)) then _ else _) = _
    rw [h1, h0, cond_true, Bool.and_self, cond_true, Int.toNat_natCast]
    by_cases e : s.take p.length = p
    · rw [begins, decide_eq_true e, eqD_iff.2 e]
    · rw [begins, decide_eq_false e, eqD_false e]
  · rw [decide_eq_false (by omega), cond_false, begins, decide_eq_false]
    intro e
    have := congrArg List.length e
    simp at this
    omega
theorem hasPrefix_eq' (s p : List Int) : cstrings_HasPrefix (s, p) = some (begins p s) := by
  show ((cistringslite_HasPrefix (s, p)).bind fun x1 => some x1) = _
  rw [hasPrefix_eq]; rfl
theorem begins_le {p s : List Int} (h : begins p s = true) : p.length ≤ s.length := by
  obtain ⟨t, rfl⟩ := begins_iff.1 h; simp
theorem cutPrefix_eq (s p : List Int) : cstrings_CutPrefix (s, p) = some (if begins p s then (s.drop p.length, true) else (s, false)) := by
  show ((cistringslite_CutPrefix (s, p)).bind fun x1 => some (x1.1, x1.2)) = _
  show ((nistringslite_CutPrefix (s, p)).bind fun x1 => some (x1.1, x1.2)) = _
  unfold nistringslite_CutPrefix
  dsimp only
  rw [hasPrefix_eq, Option.bind_some]
  cases h : begins p s with
  | false => rfl
  | true =>
    have := begins_le h
    rw [show (decide (0 ≤ (List.length p : Int)) && decide ((List.length p : Int) ≤ (List.length s : Int))) = true by simp; omega, Int.toNat_natCast]
    rfl
theorem trimPrefix_eq (s p : List Int) : cstrings_TrimPrefix (s, p) = some (if begins p s then s.drop p.length else s) := by
  show ((cistringslite_TrimPrefix (s, p)).bind fun x1 => some x1) = _
  show ((nistringslite_TrimPrefix (s, p)).bind fun x1 => some x1) = _
  unfold nistringslite_TrimPrefix
  dsimp only
  rw [hasPrefix_eq, Option.bind_some]
  cases h : begins p s with
  | false => rfl
  | true =>
    have := begins_le h
    rw [show (decide (0 ≤ (List.length p : Int)) && decide ((List.length p : Int) ≤ (List.length s : Int))) = true by simp; omega, Int.toNat_natCast]
    rfl
theorem indexByte_eq (l : List Int) (c : Int) : cstrings_IndexByte (l, c) = some (idxI l c) := rfl

/-! ### a byte that is meant -/
theorem idx_hex {c : Int} (hc : Byte c) : IntKind.u8.wrap (bits .or .i64 (IntKind.i64.wrap (idxI hexL (hexd (c.toNat / 16)) * 2 ^ 4)) (idxI hexL (hexd (c.toNat % 16)))) = c := by
  have h := all256 (P := fun n => decide (IntKind.u8.wrap (bits .or .i64 (IntKind.i64.wrap (idxI hexL (hexd (n / 16)) * 2 ^ 4)) (idxI hexL (hexd (n % 16)))) = (n : Int))) (by decide +kernel) hc
  rw [byte_nat hc] at h
  exact of_decide_eq_true h

theorem gI0 (a : Int) (l : List Int) : getI (a :: l) 0 = some a := rfl
theorem gI1 (a b : Int) (l : List Int) : getI (a :: b :: l) 1 = some b := rfl
theorem gI2 (a b c : Int) (l : List Int) : getI (a :: b :: c :: l) 2 = some c := rfl
theorem gI3 (a b c d : Int) (l : List Int) : getI (a :: b :: c :: d :: l) 3 = some d := rfl

theorem meant_plain (a : Int) (t : List Int) (h : a ≠ 92) : ctext_meant (a :: t) = some a := by
  show ntext_meant (a :: t) = _
  unfold ntext_meant
  simp only [gI0, Option.bind_some]
  rw [show (a != 92) = true by simpa using h]
  rfl
theorem meant_one : ctext_meant [92] = some 92 := by rfl
theorem meant_two (b : Int) (t : List Int) (hb : b ≠ 110) (h : ¬ (b = 120 ∧ 2 ≤ t.length)) : ctext_meant (92 :: b :: t) = some b := by
  show ntext_meant (92 :: b :: t) = _
  unfold ntext_meant
  simp only [gI0, gI1, Option.bind_some]
  rw [show ((92 : Int) != 92) = false by decide, cond_false]
  rw [show ((List.length (92 :: b :: t) : Int) == 1) = false by simp; omega, cond_false]
  rw [show (b == 110) = false by simpa using hb, cond_false]
  by_cases e : b = 120
  · rw [show (b == 120) = true by simpa using e, cond_true, decide_eq_false (by simp; omega)]
    rfl
  · rw [show (b == 120) = false by simpa using e]
    rfl
theorem meant_n (t : List Int) : ctext_meant (92 :: 110 :: t) = some 10 := by
  show ntext_meant (92 :: 110 :: t) = _
  unfold ntext_meant
  simp only [gI0, gI1, Option.bind_some]
  rw [show ((92 : Int) != 92) = false by decide, cond_false]
  rw [show ((List.length (92 :: (110 : Int) :: t) : Int) == 1) = false by simp; omega, cond_false]
  rfl
theorem meant_x (a b : Int) (t : List Int) : ctext_meant (92 :: 120 :: a :: b :: t) = some (IntKind.u8.wrap (bits .or .i64 (IntKind.i64.wrap (idxI hexL a * 2 ^ 4)) (idxI hexL b))) := by
  show ntext_meant (92 :: 120 :: a :: b :: t) = _
  unfold ntext_meant
  simp only [gI0, gI1, gI2, gI3, Option.bind_some, indexByte_eq]
  rw [show ((92 : Int) != 92) = false by decide, cond_false]
  rw [show ((List.length (92 :: (120 : Int) :: a :: b :: t) : Int) == 1) = false by simp; omega, cond_false]
  rw [show ((120 : Int) == 110) = false by decide, cond_false, show ((120 : Int) == 120) = true by decide, cond_true]
  rw [decide_eq_true (by simp; omega)]
  rfl

theorem meant_form {c : Int} (hc : Byte c) (t : List Int) : ctext_meant (form c ++ t) = some c := by
  unfold form
  split
  · rename_i h; subst h; exact meant_two 34 t (by decide) (fun h => absurd h.1 (by decide))
  split
  · rename_i h; subst h; exact meant_two 92 t (by decide) (fun h => absurd h.1 (by decide))
  split
  · rename_i h; subst h; exact meant_n t
  split
  · refine (meant_x _ _ t).trans ?_
    rw [idx_hex hc]
  · rename_i h _ _
    exact meant_plain c t h

theorem meant_byte {s : List Int} (hs : Bytes s) (h : s ≠ []) : ∃ c, ctext_meant s = some c ∧ Byte c := by
  match s, h with
  | a :: t, _ =>
    by_cases ha : a = 92
    · subst ha
      match t with
      | [] => exact ⟨_, meant_one, by decide⟩
      | b :: t =>
        by_cases hb : b = 110
        · subst hb; exact ⟨_, meant_n t, by decide⟩
        by_cases hx : b = 120 ∧ 2 ≤ t.length
        · obtain ⟨rfl, hx⟩ := hx
          match t, hx with
          | x :: y :: t, _ =>
            refine ⟨_, meant_x x y t, ?_⟩
            rw [wrap_u8]
            exact ⟨Int.emod_nonneg _ (by decide), by have := Int.emod_lt_of_pos (a := bits .or .i64 (IntKind.i64.wrap (idxI hexL x * 2 ^ 4)) (idxI hexL y)) (show (0 : Int) < 256 by decide); omega⟩
        · exact ⟨_, meant_two b t hb hx, hs b (by simp)⟩
    · exact ⟨_, meant_plain a t ha, hs a (by simp)⟩

/-- the byte that a text begins with the form of -/
def unf (s : List Int) : Option Int := (ctext_meant s).bind fun c => if begins (form c) s then some c else none
theorem unf_form {c : Int} (hc : Byte c) (t : List Int) : unf (form c ++ t) = some c := by
  rw [unf, meant_form hc, Option.bind_some, begins_app]; rfl
theorem unf_some {s : List Int} {c : Int} (hs : Bytes s) (h : unf s = some c) : Byte c ∧ ∃ t, s = form c ++ t := by
  have hne : s ≠ [] := by
    rintro rfl
    simp only [unf] at h
    rw [show ctext_meant [] = none by rfl] at h
    cases h
  obtain ⟨d, hd, hb⟩ := meant_byte hs hne
  rw [unf, hd, Option.bind_some] at h
  split at h
  · rename_i hp
    cases h
    exact ⟨hb, begins_iff.1 hp⟩
  · cases h

theorem readForm_eq {s : List Int} (hs : Bytes s) (h : s ≠ []) : ctext_readForm s = some (match unf s with | some c => (c, ((form c).length : Int)) | none => (0, 0)) := by
  obtain ⟨c, hc, hb⟩ := meant_byte hs h
  show ntext_readForm s = _
  unfold ntext_readForm
  rw [hc, Option.bind_some]
  have := form_cases (fun f => bif (Nat.ble 1 1 && Nat.ble (List.length ([] : List Int) + List.length f) lim) then ((cstrings_HasPrefix (s, List.append ([] : List Int) f)).bind fun p => bif (!p) then some ((0 : Int), (0 : Int)) else some (c, (List.length (List.append ([] : List Int) f) : Int))) else none) hb
  refine Eq.trans this ?_
  have hl := form_len c
  have e : (Nat.ble 1 1 && Nat.ble (List.length ([] : List Int) + List.length (form c)) lim) = true := Nat.ble_eq_true_of_le (by have := lim_le; simp; omega)
  rw [e, cond_true, show List.append ([] : List Int) (form c) = form c by rfl, hasPrefix_eq', Option.bind_some, unf, hc, Option.bind_some]
  cases begins (form c) s <;> rfl

/-! ### what is read up to the quotation mark at the end -/
def dq : Nat → List Int → Option (List Int × List Int)
  | 0, _ => none
  | _ + 1, [] => none
  | k + 1, b :: r => if b = 34 then some ([], r) else match unf (b :: r) with
    | none => none
    | some c => (dq k ((b :: r).drop (form c).length)).map fun p => (c :: p.1, p.2)

theorem bytes_drop {s : List Int} (h : Bytes s) (n : Nat) : Bytes (s.drop n) := fun c hc => h c (List.mem_of_mem_drop hc)
theorem bytes_app {s t : List Int} : Bytes (s ++ t) ↔ Bytes s ∧ Bytes t := by
  constructor
  · intro h; exact ⟨fun c hc => h c (by simp [hc]), fun c hc => h c (by simp [hc])⟩
  · rintro ⟨h1, h2⟩ c hc
    rcases List.mem_append.1 hc with h | h
    · exact h1 c h
    · exact h2 c h

theorem dq_some : ∀ (k : Nat) (s : List Int), Bytes s → ∀ o r, dq k s = some (o, r) → Bytes o ∧ s = o.flatMap form ++ 34 :: r
  | 0, _, _, _, _, h => by cases h
  | k + 1, [], _, _, _, h => by cases h
  | k + 1, b :: t, hs, o, r, h => by
    rw [dq] at h
    split at h
    · rename_i e
      cases h
      subst e
      exact ⟨by intro c hc; simp at hc, by simp⟩
    · split at h
      · cases h
      · rename_i c hc
        obtain ⟨hb, t', ht⟩ := unf_some hs hc
        obtain ⟨p, hp, e⟩ := Option.map_eq_some_iff.1 h
        obtain ⟨o', r'⟩ := p
        cases e
        rw [ht, List.drop_left] at hp
        obtain ⟨h1, h2⟩ := dq_some k t' (by rw [ht] at hs; exact (bytes_app.1 hs).2) o' r' hp
        refine ⟨fun x hx => ?_, by rw [ht, h2]; simp⟩
        rcases List.mem_cons.1 hx with rfl | hx
        · exact hb
        · exact h1 x hx

theorem dq_of : ∀ (k : Nat) (o r : List Int), Bytes o → (o.flatMap form ++ 34 :: r).length < k → dq k (o.flatMap form ++ 34 :: r) = some (o, r)
  | 0, _, _, _, h => by omega
  | k + 1, [], r, _, _ => by simp [dq]
  | k + 1, c :: o, r, hb, h => by
    have hc : Byte c := hb c (by simp)
    obtain ⟨a, t, hf, ha⟩ := form_head (c := c)
    have e : (c :: o).flatMap form ++ 34 :: r = form c ++ (o.flatMap form ++ 34 :: r) := by simp
    rw [e] at h ⊢
    have hu := unf_form hc (o.flatMap form ++ 34 :: r)
    have hl := form_len c
    have ih := dq_of k o r (fun x hx => hb x (by simp [hx])) (by simp only [List.length_append] at h ⊢; omega)
    have hd : (form c ++ (o.flatMap form ++ 34 :: r)).drop (form c).length = o.flatMap form ++ 34 :: r := List.drop_left
    rw [hf] at hu hd ⊢
    rw [List.cons_append] at hu hd ⊢
    rw [dq, if_neg ha, hu]
    show (dq k ((a :: (t ++ (o.flatMap form ++ 34 :: r))).drop (form c).length)).map _ = _
    rw [hf, hd, ih]
    rfl

theorem unf_len {s : List Int} {c : Int} (hs : Bytes s) (h : unf s = some c) : (form c).length ≤ s.length := by
  obtain ⟨_, t, rfl⟩ := unf_some hs h
  simp

theorem cut_run (s : List Int) (hs : Bytes s) (hl : s.length ≤ 1000000) : ∀ (k i N : Nat), s.length + 1 ≤ i + k → i ≤ s.length → k ≤ N → ∀ b : List Int, b.length ≤ i →
    iterV (gtext_cutQuoted_0 big) N (s, (i : Int), b) = some (match dq k (s.drop i) with | none => ([], [], false) | some (o, r) => (b ++ o, r, true))
  | 0, i, N, h, hi, _, _, _ => by omega
  | k + 1, i, 0, _, _, h, _, _ => by omega
  | k + 1, i, N + 1, h, hi, hN, b, hb => by
    show htext_cutQuoted_0 (iterV (gtext_cutQuoted_0 big) N) _ = _
    unfold htext_cutQuoted_0
    dsimp only
    by_cases hlt : i < s.length
    · rw [decide_eq_true (by omega), cond_true, getI_at hlt, Option.bind_some]
      have hd := List.drop_eq_getElem_cons hlt
      by_cases e : s[i] = 34
      · rw [show (s[i] == 34) = true by simpa using e, cond_true]
        rw [wrap_succ hlt (by have := maxLen_ge; omega)]
        rw [show (decide (0 ≤ ((i + 1 : Nat) : Int)) && decide (((i + 1 : Nat) : Int) ≤ (List.length s : Int))) = true by simp; omega, cond_true, Int.toNat_natCast]
        rw [hd, dq, if_pos e]
        simp
      · rw [show (s[i] == 34) = false by simpa using e, cond_false]
        rw [show (decide (0 ≤ (i : Int)) && decide ((i : Int) ≤ (List.length s : Int))) = true by simp; omega, cond_true, Int.toNat_natCast]
        have hne : s.drop i ≠ [] := fun e => by rw [hd] at e; cases e
        rw [readForm_eq (bytes_drop hs i) hne, Option.bind_some]
        have hq : dq (k + 1) (s.drop i) = match unf (s.drop i) with | none => none | some c => (dq k ((s.drop i).drop (form c).length)).map fun p => (c :: p.1, p.2) := by
          rw [hd, dq, if_neg e]
        rw [hq]
        cases hu : unf (s.drop i) with
        | none => rfl
        | some c =>
          have h1 := form_len c
          have h2 := unf_len (bytes_drop hs i) hu
          simp only [List.length_drop] at h2
          dsimp only
          rw [show (((form c).length : Int) == 0) = false from beq_eq_false_iff_ne.2 (by omega), cond_false]
          rw [show (Nat.ble 1 1 && Nat.ble _ lim) = true from Nat.ble_eq_true_of_le (by have := lim_le; simp; omega), cond_true]
          have hw : IntKind.i64.wrap ((i : Int) + ((form c).length : Int)) = ((i + (form c).length : Nat) : Int) := by
            rw [wrap_i64 (by omega) (by omega)]; omega
          rw [hw]
          rw [cut_run s hs hl k (i + (form c).length) N (by omega) (by omega) (by omega) (List.append b [c]) (by simp; omega)]
          rw [List.drop_drop]
          cases hk : dq k (s.drop (i + (form c).length)) with
          | none => rfl
          | some p => simp
    · rw [decide_eq_false (by omega), cond_false, List.drop_of_length_le (by omega), dq]

/-- a text in quotes, and what stands behind it -/
def dqs (s : List Int) : Option (List Int × List Int) := match s with
  | [] => none
  | a :: t => if a = 34 then dq (t.length + 1) t else none

theorem cutQuoted_eq (s : List Int) (hs : Bytes s) (hl : s.length ≤ 1000000) : ctext_cutQuoted s = some (match dqs s with | none => ([], [], false) | some (o, r) => (o, r, true)) := by
  show ntext_cutQuoted (iterV (gtext_cutQuoted_0 big) big) s = _
  unfold ntext_cutQuoted
  match s with
  | [] => rfl
  | a :: t =>
    rw [show eqD .str (a :: t) ([] : List Int) = false from eqD_false (by simp), cond_false, gI0, Option.bind_some]
    by_cases e : a = 34
    · rw [show (a != 34) = false by simpa using e, cond_false, dqs, if_pos e]
      have := cut_run (a :: t) hs hl (t.length + 1) 1 big (by simp; omega) (by simp) (by have := big_1000; simp at hl; omega) [] (by simp)
      exact this
    · rw [show (a != 34) = true by simpa using e, cond_true, dqs, if_neg e]

theorem dqs_some {s o r : List Int} (hs : Bytes s) (h : dqs s = some (o, r)) : Bytes o ∧ Bytes r ∧ s = inQ o ++ r := by
  match s, h with
  | a :: t, h =>
    rw [dqs] at h
    split at h
    · rename_i e
      subst e
      have ht : Bytes t := fun c hc => hs c (by simp [hc])
      obtain ⟨h1, h2⟩ := dq_some _ t ht o r h
      refine ⟨h1, ?_, by rw [h2]; simp [inQ]⟩
      rw [h2] at ht
      intro c hc
      exact ht c (by simp [hc])
    · cases h
theorem dqs_of {o r : List Int} (ho : Bytes o) : dqs (inQ o ++ r) = some (o, r) := by
  have e : inQ o ++ r = 34 :: (o.flatMap form ++ 34 :: r) := by simp [inQ]
  rw [e, dqs, if_pos rfl]
  exact dq_of _ o r ho (by omega)

theorem unquote_eq (s : List Int) (hs : Bytes s) : ctext_Unquote s = some (if 2000 < s.length then (([] : List Int), (4 : Int)) else match dqs s with
    | none => ([], 12)
    | some (o, r) => if r = [] then (if 400 < o.length then ([], 4) else (o, 0)) else ([], 12)) := by
  show ntext_Unquote s = _
  unfold ntext_Unquote
  by_cases h : 2000 < s.length
  · rw [decide_eq_true (by omega), cond_true, if_pos h]
  · rw [decide_eq_false (by omega), cond_false, if_neg h, cutQuoted_eq s hs (by omega), Option.bind_some]
    cases dqs s with
    | none => rfl
    | some p =>
      obtain ⟨o, r⟩ := p
      dsimp only
      rw [show (!true) = false by rfl, cond_false]
      by_cases hr : r = []
      · subst hr
        rw [show eqD .str ([] : List Int) ([] : List Int) = true from eqD_self _ _, if_pos rfl]
        by_cases ho : 400 < o.length
        · rw [decide_eq_true (by omega), if_pos ho]; rfl
        · rw [decide_eq_false (by omega), if_neg ho]; rfl
      · rw [show eqD .str r ([] : List Int) = false from eqD_false hr, if_neg hr]; rfl

/-! ### lists -/
def dl : Nat → List Int → List Int → Option (List (List Int))
  | 0, _, _ => none
  | k + 1, f, s => if begins f s then match dqs (s.drop f.length) with
    | none => none
    | some (x, r) => if r = [93] then some [x] else (dl k [44, 32] r).map fun l => x :: l
    else none

theorem dl_some : ∀ (k : Nat) (f s : List Int), Bytes s → ∀ l, dl k f s = some l → l ≠ [] ∧ (∀ x ∈ l, Bytes x) ∧ s = f ++ joined l
  | 0, _, _, _, _, h => by cases h
  | k + 1, f, s, hs, l, h => by
    rw [dl] at h
    split at h
    · rename_i hp
      obtain ⟨t, rfl⟩ := begins_iff.1 hp
      rw [List.drop_left] at h
      have ht := (bytes_app.1 hs).2
      split at h
      · cases h
      · rename_i x r hx
        obtain ⟨h1, h2, h3⟩ := dqs_some ht hx
        split at h
        · rename_i e
          cases h
          subst e
          exact ⟨by simp, by simpa using h1, by rw [h3]; rfl⟩
        · obtain ⟨l', hl', e⟩ := Option.map_eq_some_iff.1 h
          subst e
          obtain ⟨g1, g2, g3⟩ := dl_some k [44, 32] r h2 l' hl'
          refine ⟨by simp, fun y hy => ?_, ?_⟩
          · rcases List.mem_cons.1 hy with rfl | hy
            · exact h1
            · exact g2 y hy
          · rw [h3, g3]
            match l', g1 with
            | y :: m, _ => rw [joined_cons x, restL, joined_cons y]
    · cases h

theorem joined_len : ∀ (l : List (List Int)), l.length < (joined l).length
  | [] => by simp [joined]
  | [x] => by simp [joined, inQ]
  | x :: y :: l => by
    have := joined_len (y :: l)
    simp only [joined, List.length_append, List.length_cons, inQ] at this ⊢
    omega
theorem dl_of : ∀ (k : Nat) (f : List Int) (l : List (List Int)), l ≠ [] → (∀ x ∈ l, Bytes x) → l.length < k → dl k f (f ++ joined l) = some l
  | 0, _, _, _, _, h => by omega
  | k + 1, f, [], h, _, _ => absurd rfl h
  | k + 1, f, [x], _, hb, _ => by
    rw [dl, begins_app, if_pos rfl, List.drop_left]
    show (match dqs (inQ x ++ [93]) with | none => none | some (x, r) => _) = _
    rw [dqs_of (hb x (by simp))]
    rfl
  | k + 1, f, x :: y :: l, _, hb, h => by
    rw [dl, begins_app, if_pos rfl, List.drop_left]
    have e : joined (x :: y :: l) = inQ x ++ ([44, 32] ++ joined (y :: l)) := by simp [joined]
    rw [e, dqs_of (hb x (by simp))]
    dsimp only
    rw [if_neg (by simp), dl_of k [44, 32] (y :: l) (by simp) (fun z hz => hb z (by simp [hz])) (by simp at h ⊢; omega)]
    rfl

theorem parted_run : ∀ (k N : Nat) (f s : List Int) (l : List (List Int)), Bytes s → s.length ≤ 1000000 → 1 ≤ f.length → s.length < k → k ≤ N → l.length + s.length ≤ 1000000 →
    iterV (gtext_parted_0 big) N (s, f, l) = some (match dl k f s with | none => ([], false) | some m => (l ++ m, true))
  | 0, _, _, _, _, _, _, _, h, _, _ => by omega
  | k + 1, 0, _, _, _, _, _, _, _, h, _ => by omega
  | k + 1, N + 1, f, s, l, hs, hl, hf, hk, hN, hb => by
    show htext_parted_0 (iterV (gtext_parted_0 big) N) _ = _
    unfold htext_parted_0
    dsimp only
    rw [cutPrefix_eq, Option.bind_some, dl]
    cases hp : begins f s with
    | false => rfl
    | true =>
      obtain ⟨t, rfl⟩ := begins_iff.1 hp
      have ht := (bytes_app.1 hs).2
      rw [if_pos rfl, if_pos rfl, List.drop_left]
      dsimp only
      rw [show (!true) = false by rfl, cond_false, cutQuoted_eq t ht (by simp at hl; omega), Option.bind_some]
      cases hd : dqs t with
      | none => rfl
      | some p =>
        obtain ⟨x, r⟩ := p
        obtain ⟨h1, h2, h3⟩ := dqs_some ht hd
        dsimp only
        rw [show (!true) = false by rfl, cond_false]
        rw [show (Nat.ble 1 1 && Nat.ble _ lim) = true from Nat.ble_eq_true_of_le (by have := lim_le; simp at hb ⊢; omega), cond_true]
        by_cases hr : r = [93]
        · subst hr
          rw [show eqD .str ([93] : List Int) ([93] : List Int) = true from eqD_self _ _, if_pos rfl]
          rfl
        · rw [show eqD .str r ([93] : List Int) = false from eqD_false hr, if_neg hr, cond_false]
          have hrl : r.length + 2 ≤ t.length := by rw [h3]; simp [inQ]
          simp only [List.length_append] at hl hk hb
          rw [parted_run k N [44, 32] r (List.append l [x]) h2 (by omega) (by simp) (by omega) (by omega) (by simp; omega)]
          cases hk2 : dl k [44, 32] r with
          | none => rfl
          | some m => simp

/-- a list's text -/
def dls (s : List Int) : Option (List (List Int)) := if s = [91, 93] then some [] else dl (s.length + 1) [91] s
theorem dls_some {s : List Int} (hs : Bytes s) {l : List (List Int)} (h : dls s = some l) : (∀ x ∈ l, Bytes x) ∧ s = listed l := by
  rw [dls] at h
  split at h
  · rename_i e
    cases h
    exact ⟨by simp, e⟩
  · obtain ⟨_, h2, h3⟩ := dl_some _ _ s hs l h
    exact ⟨h2, h3⟩
theorem dls_of {l : List (List Int)} (h : ∀ x ∈ l, Bytes x) : dls (listed l) = some l := by
  rw [dls]
  match l with
  | [] => rfl
  | x :: l =>
    rw [if_neg (by rw [listed, joined_cons]; simp [inQ])]
    exact dl_of _ [91] (x :: l) (by simp) h (by have := joined_len (x :: l); simp [listed] at this ⊢; omega)
theorem parted_eq (s : List Int) (hs : Bytes s) (hl : s.length ≤ 500000) : ctext_parted s = some (match dls s with | none => ([], false) | some m => (m, true)) := by
  show ntext_parted (iterV (gtext_parted_0 big) big) s = _
  unfold ntext_parted
  by_cases h : s = [91, 93]
  · subst h; rfl
  · rw [show eqD .str s ([91, 93] : List Int) = false from eqD_false h, cond_false, dls, if_neg h]
    exact parted_run (s.length + 1) big [91] s [] hs (by omega) (by simp) (by omega) (by have := big_1000; omega) (by simp; omega)

theorem unlist_eq (s : List Int) (hs : Bytes s) : ctext_Unlist s = some (if 200000 < s.length then (([] : List (List Int)), (4 : Int)) else match dls s with
    | none => ([], 12)
    | some l => if Short l then (l, 0) else ([], 4)) := by
  show ntext_Unlist s = _
  unfold ntext_Unlist
  by_cases h : 200000 < s.length
  · rw [decide_eq_true (by omega), cond_true, if_pos h]
  · rw [decide_eq_false (by omega), cond_false, if_neg h, parted_eq s hs (by omega), Option.bind_some]
    cases dls s with
    | none => rfl
    | some l =>
      dsimp only
      rw [show (!true) = false by rfl, cond_false, fits_eq, Option.bind_some]
      by_cases hl : Short l
      · rw [decide_eq_true hl, if_pos hl]; rfl
      · rw [decide_eq_false hl, if_neg hl]; rfl
end Go.Proofs.YtcapedpcokhpjaaDoor
