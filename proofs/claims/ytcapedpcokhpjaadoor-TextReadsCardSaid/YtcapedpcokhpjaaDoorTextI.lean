/- What Unnumber and Unhex of package text compute. -/
import Derived.Test.YtcapedpcokhpjaaDoorTextH
set_option linter.unusedVariables false
set_option linter.unusedSimpArgs false
set_option maxRecDepth 100000
namespace Go.Proofs.YtcapedpcokhpjaaDoor
open Go.Lift

theorem parsed_ok {b n : Nat} {s : List Int} (h : ((valF b n s : Nat) : Int) ≤ max64) : parsed b n s = (((valF b n s : Nat) : Int), none) := by rw [parsed, if_pos h]
theorem parsed_no {b n : Nat} {s : List Int} (h : ¬ ((valF b n s : Nat) : Int) ≤ max64) : parsed b n s = (max64, tooBig) := by rw [parsed, if_neg h]

theorem parseInt_pos (a : Int) (t : List Int) (h1 : a ≠ 43) (h2 : a ≠ 45) (hs : Dgs 10 (a :: t)) (hl : (a :: t).length ≤ 1000000) :
    cistrconv_ParseInt (a :: t, 10, 64) = some (if ((val 10 (a :: t) : Nat) : Int) ≤ 9223372036854775807 then (((val 10 (a :: t) : Nat) : Int), none) else (9223372036854775807, tooBig)) := by
  show nistrconv_ParseInt (a :: t, 10, 64) = _
  unfold nistrconv_ParseInt
  dsimp only
  rw [show eqD .str (a :: t) ([] : List Int) = false from eqD_false (by simp), cond_false, gI0, Option.bind_some, show (a == 43) = false by simpa using h1, cond_false, show (a == 45) = false by simpa using h2, cond_false,
    parseUint10 _ (by simp) hs hl, Option.bind_some]
  have e : valF 10 0 (a :: t) = val 10 (a :: t) := rfl
  by_cases h : ((valF 10 0 (a :: t) : Nat) : Int) ≤ max64
  · rw [parsed_ok h, e]
    rw [e] at h
    have h0 : (0 : Int) ≤ ((val 10 (a :: t) : Nat) : Int) := by omega
    generalize ((val 10 (a :: t) : Nat) : Int) = v at h h0 ⊢
    refine Eq.trans (b := bif decide (v ≥ 9223372036854775808) then some (9223372036854775807, tooBig) else some (IntKind.i64.wrap v, none)) (by kernel_rfl) ?_
    by_cases g : v ≤ 9223372036854775807
    · rw [decide_eq_false (by omega), cond_false, if_pos g]
      congr 2
      rw [wrap_i64']
      split <;> omega
    · rw [decide_eq_true (by omega), cond_true, if_neg g]
  · rw [parsed_no h, if_neg (by rw [e] at h; unfold max64 at h; omega)]
    exact Eq.trans (b := some (9223372036854775807, tooBig)) (by kernel_rfl) rfl

theorem parseInt_neg (t : List Int) (hne : t ≠ []) (hs : Dgs 10 t) (hl : t.length ≤ 1000000) :
    cistrconv_ParseInt (45 :: t, 10, 64) = some (if ((val 10 t : Nat) : Int) ≤ 9223372036854775808 then (-((val 10 t : Nat) : Int), none) else (-9223372036854775808, tooBig)) := by
  show nistrconv_ParseInt (45 :: t, 10, 64) = _
  unfold nistrconv_ParseInt
  dsimp only
  rw [show eqD .str (45 :: t) ([] : List Int) = false from eqD_false (by simp), cond_false, gI0, Option.bind_some, show ((45 : Int) == 43) = false by decide, cond_false, show ((45 : Int) == 45) = true by decide, cond_true,
    show (decide ((0 : Int) ≤ 1) && decide ((1 : Int) ≤ (List.length ((45 : Int) :: t) : Int))) = true by rw [decide_eq_true (by omega), decide_eq_true (by simp; omega)]; rfl, cond_true,
    show List.drop (Int.toNat 1) ((45 : Int) :: t) = t by rfl, parseUint10 _ hne hs hl, Option.bind_some]
  have e : valF 10 0 t = val 10 t := rfl
  by_cases h : ((valF 10 0 t : Nat) : Int) ≤ max64
  · rw [parsed_ok h, e]
    rw [e] at h
    have h0 : (0 : Int) ≤ ((val 10 t : Nat) : Int) := by omega
    generalize ((val 10 t : Nat) : Int) = v at h h0 ⊢
    refine Eq.trans (b := bif decide (v > 9223372036854775808) then some (-9223372036854775808, tooBig) else some (IntKind.i64.wrap (0 - IntKind.i64.wrap v), none)) (by kernel_rfl) ?_
    by_cases g : v ≤ 9223372036854775808
    · rw [decide_eq_false (by omega), cond_false, if_pos g]
      congr 2
      rw [wrap_i64', wrap_i64']
      split <;> split <;> omega
    · rw [decide_eq_true (by omega), cond_true, if_neg g]
  · rw [parsed_no h, if_neg (by rw [e] at h; unfold max64 at h; omega)]
    exact Eq.trans (b := some (-9223372036854775808, tooBig)) (by kernel_rfl) rfl

def pub : Ifc → Ifc
  | none => none
  | some _ => some none
theorem publicInt (s : List Int) (hl : s.length ≤ 1000000) (v : Int) (i : Ifc) (hi : i = none ∨ i = tooBig) (h : cistrconv_ParseInt (s, 10, 64) = some (v, i)) :
    cstrconv_ParseInt (s, 10, 64) = some (v, pub i) := by
  show ((cistrconv_ParseInt (s, 10, 64)).bind fun x1 => (bif (!(Option.isNone x1.2)) then ((cstrconv_toError (([80, 97, 114, 115, 101, 73, 110, 116] : List Int), s, 10, 64, x1.2)).bind fun x2 => (some (x1.1, x2))) else (some (x1.1, (none : Ifc))))) = _
  rw [h, Option.bind_some]
  rcases hi with rfl | rfl
  · rfl
  · have : cstrconv_toError (([80, 97, 114, 115, 101, 73, 110, 116] : List Int), s, 10, 64, tooBig) = some (some none) := by
      show (bif decide (tooBig = some (some (80, 1))) && Nat.ble (List.length s) 281474976710656 then some (some none) else none) = _
      rw [decide_eq_true (show tooBig = some (some (80, 1)) from rfl), Nat.ble_eq_true_of_le (show List.length s ≤ 281474976710656 by omega)]
      rfl
    show ((cstrconv_toError (([80, 97, 114, 115, 101, 73, 110, 116] : List Int), s, 10, 64, tooBig)).bind fun x2 => some (v, x2)) = _
    rw [this]
    rfl
theorem publicUint (s : List Int) (hl : s.length ≤ 1000000) (v : Int) (i : Ifc) (hi : i = none ∨ i = tooBig) (h : cistrconv_ParseUint (s, 16, 64) = some (v, i)) :
    cstrconv_ParseUint (s, 16, 64) = some (v, pub i) := by
  show ((cistrconv_ParseUint (s, 16, 64)).bind fun x1 => (bif (!(Option.isNone x1.2)) then ((cstrconv_toError (([80, 97, 114, 115, 101, 85, 105, 110, 116] : List Int), s, 16, 64, x1.2)).bind fun x2 => (some (x1.1, x2))) else (some (x1.1, (none : Ifc))))) = _
  rw [h, Option.bind_some]
  rcases hi with rfl | rfl
  · rfl
  · have : cstrconv_toError (([80, 97, 114, 115, 101, 85, 105, 110, 116] : List Int), s, 16, 64, tooBig) = some (some none) := by
      show (bif decide (tooBig = some (some (80, 1))) && Nat.ble (List.length s) 281474976710656 then some (some none) else none) = _
      rw [decide_eq_true (show tooBig = some (some (80, 1)) from rfl), Nat.ble_eq_true_of_le (show List.length s ≤ 281474976710656 by omega)]
      rfl
    show ((cstrconv_toError (([80, 97, 114, 115, 101, 85, 105, 110, 116] : List Int), s, 16, 64, tooBig)).bind fun x2 => some (v, x2)) = _
    rw [this]
    rfl

def unnum (s : List Int) : Int × Int :=
  if 2000 < s.length then (0, 4) else
  if begins [45] s then (if s = [45, 48] then (0, 12) else if wholeB 10 (s.drop 1) then (if ((val 10 (s.drop 1) : Nat) : Int) ≤ 9223372036854775808 then (-((val 10 (s.drop 1) : Nat) : Int), 0) else (0, 16)) else (0, 12))
  else if wholeB 10 s then (if ((val 10 s : Nat) : Int) ≤ 9223372036854775807 then (((val 10 s : Nat) : Int), 0) else (0, 16)) else (0, 12)

theorem unnumber_eq (s : List Int) (hs : Bytes s) : ctext_Unnumber s = some (unnum s) := by
  show ntext_Unnumber s = _
  unfold ntext_Unnumber unnum
  by_cases h : 2000 < s.length
  · rw [decide_eq_true (by omega), cond_true, if_pos h]
  rw [decide_eq_false (by omega), cond_false, if_neg h]
  by_cases hm : s = [45, 48]
  · subst hm
    rfl
  rw [show eqD .str s ([45, 48] : List Int) = false from eqD_false hm, cond_false, trimPrefix_eq, Option.bind_some]
  cases hb : begins [45] s with
  | true =>
    obtain ⟨t, rfl⟩ := begins_iff.1 hb
    rw [if_pos rfl, if_pos rfl, if_neg hm, show List.drop (List.length ([45] : List Int)) ([45] ++ t) = t by rfl, show List.drop 1 ([45] ++ t) = t by rfl]
    rw [isWhole_eq dec_dig t (bytes_app.1 hs).2 (by simp at h; omega), Option.bind_some]
    cases hw : wholeB 10 t with
    | false => rfl
    | true =>
      obtain ⟨h1, h2, h3⟩ := wholeB_iff.1 hw
      have hp := parseInt_neg t h1 h3 (by simp at h; omega)
      rw [show (!true) = false by rfl, cond_false, if_pos rfl]
      by_cases hv : ((val 10 t : Nat) : Int) ≤ 9223372036854775808
      · rw [if_pos hv] at hp ⊢
        rw [publicInt ([45] ++ t) (by simp at h ⊢; omega) _ _ (.inl rfl) hp]
        rfl
      · rw [if_neg hv] at hp ⊢
        rw [publicInt ([45] ++ t) (by simp at h ⊢; omega) _ _ (.inr rfl) hp]
        rfl
  | false =>
    rw [if_neg (by simp), if_neg (by simp)]
    rw [isWhole_eq dec_dig s hs (by omega), Option.bind_some]
    cases hw : wholeB 10 s with
    | false => rfl
    | true =>
      obtain ⟨h1, h2, h3⟩ := wholeB_iff.1 hw
      rw [show (!true) = false by rfl, cond_false, if_pos rfl]
      match s, h1 with
      | a :: t, _ =>
        obtain ⟨d, hd, ha⟩ := h3 a (by simp)
        have hne : a ≠ 43 ∧ a ≠ 45 := by
          have := (hexd_byte d (by omega)).2.2.1
          omega
        have hp := parseInt_pos a t hne.1 hne.2 h3 (by omega)
        by_cases hv : ((val 10 (a :: t) : Nat) : Int) ≤ 9223372036854775807
        · rw [if_pos hv] at hp ⊢
          rw [publicInt (a :: t) (by omega) _ _ (.inl rfl) hp]
          rfl
        · rw [if_neg hv] at hp ⊢
          rw [publicInt (a :: t) (by omega) _ _ (.inr rfl) hp]
          rfl

def unhx (s : List Int) : Int × Int :=
  if 2000 < s.length then (0, 4) else
  if begins [48, 120] s then (if wholeB 16 (s.drop 2) then (if ((val 16 (s.drop 2) : Nat) : Int) ≤ 18446744073709551615 then (((val 16 (s.drop 2) : Nat) : Int), 0) else (0, 16)) else (0, 12)) else (0, 12)

theorem unhex_eq (s : List Int) (hs : Bytes s) : ctext_Unhex s = some (unhx s) := by
  show ntext_Unhex s = _
  unfold ntext_Unhex unhx
  by_cases h : 2000 < s.length
  · rw [decide_eq_true (by omega), cond_true, if_pos h]
  rw [decide_eq_false (by omega), cond_false, if_neg h, cutPrefix_eq, Option.bind_some]
  cases hb : begins [48, 120] s with
  | false => rfl
  | true =>
    obtain ⟨t, rfl⟩ := begins_iff.1 hb
    rw [if_pos rfl, if_pos rfl, show List.drop (List.length ([48, 120] : List Int)) ([48, 120] ++ t) = t by rfl, show List.drop 2 ([48, 120] ++ t) = t by rfl]
    dsimp only
    rw [show (!true) = false by rfl, cond_false, isWhole_eq hex_dig t (bytes_app.1 hs).2 (by simp at h; omega), Option.bind_some]
    cases hw : wholeB 16 t with
    | false => rfl
    | true =>
      obtain ⟨h1, h2, h3⟩ := wholeB_iff.1 hw
      rw [show (!true) = false by rfl, cond_false, if_pos rfl]
      have hp := parseUint16 t h1 h3 (by simp at h; omega)
      by_cases hv : ((val 16 t : Nat) : Int) ≤ 18446744073709551615
      · rw [parsed_ok hv] at hp
        rw [if_pos hv, publicUint t (by simp at h ⊢; omega) _ _ (.inl rfl) hp]
        rfl
      · rw [parsed_no hv] at hp
        rw [if_neg hv, publicUint t (by simp at h ⊢; omega) _ _ (.inr rfl) hp]
        rfl
end Go.Proofs.YtcapedpcokhpjaaDoor
