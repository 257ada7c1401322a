/- What the functions of package text that read numbers compute. -/
import Derived.Test.YtcapedpcokhpjaaDoorTextG
set_option linter.unusedVariables false
set_option linter.unusedSimpArgs false
set_option maxRecDepth 100000
namespace Go.Proofs.YtcapedpcokhpjaaDoor
open Go.Lift

abbrev Ifc := Option (Option (Nat × Int))
abbrev tooBig : Ifc := some (some (80, 1))

/-! ### digits alone -/
def isDig (b : Nat) (c : Int) : Bool := (List.range b).any fun d => decide (c = hexd d)
theorem isDig_iff {b : Nat} {c : Int} : isDig b c = true ↔ ∃ d, d < b ∧ c = hexd d := by
  simp [isDig]
def wholeB (b : Nat) (s : List Int) : Bool := match s with
  | [] => false
  | a :: t => !(decide (a = 48) && decide (1 < (a :: t).length)) && (a :: t).all (isDig b)
theorem wholeB_iff {b : Nat} {s : List Int} : wholeB b s = true ↔ Whole b s := by
  match s with
  | [] => simp [wholeB, Whole]
  | a :: t =>
    rw [wholeB, Whole, Bool.and_eq_true, List.all_eq_true]
    constructor
    · rintro ⟨h1, h2⟩
      refine ⟨by simp, fun h => ?_, fun c hc => isDig_iff.1 (h2 c hc)⟩
      simp at h h1 ⊢
      rcases h1 with h1 | h1
      · exact absurd h h1
      · simpa using h1
    · rintro ⟨_, h2, h3⟩
      refine ⟨?_, fun c hc => isDig_iff.2 (h3 c hc)⟩
      simp at h2 ⊢
      by_cases h : a = 48
      · exact .inr (h2 h)
      · exact .inl h

theorem isWhole_eq {b : Nat} {L : List Int} (hL : ∀ c, Byte c → decide (idxI L c < 0) = !isDig b c) (s : List Int) (hs : Bytes s) (hl : s.length ≤ 1000000) : ctext_isWhole (s, L) = some (wholeB b s) := by
  have loop : iterV (gtext_isWhole_0 big) big (s, L, (List.length s : Int), (0 : Int)) = some (s.all (isDig b)) := by
    have := range_run (g := gtext_isWhole_0 big) (xs := s) (fun (_ : Unit) (i : Nat) => (s, L, (List.length s : Int), (i : Int))) (fun c s k => bif decide (idxI L c < 0) then some false else k s)
      (fun _ => some true) (by
        intro self b
        show htext_isWhole_0 self _ = _
        unfold htext_isWhole_0
        dsimp only
        rw [decide_eq_false (by omega), cond_false]) (by
        intro self b i hi
        show htext_isWhole_0 self _ = _
        unfold htext_isWhole_0
        dsimp only
        rw [decide_eq_true (by omega), cond_true, getI_at hi, Option.bind_some, indexByte_eq, Option.bind_some, wrap_succ hi (by have := maxLen_ge; omega)]) s.length 0 big (by omega) (by have := maxLen_big; have := maxLen_ge; omega) ()
    rw [List.drop_zero] at this
    refine Eq.trans this ?_
    have e : ∀ m : List Int, Bytes m → foldC (fun (c : Int) (s : Unit) (k : Unit → Option Bool) => bif decide (idxI L c < 0) then some false else k s) (fun _ => some true) m () = some (m.all (isDig b)) := by
      intro m
      induction m with
      | nil => intro _; simp [foldC]
      | cons c m ih =>
        intro hm
        show (bif decide (idxI L c < 0) then some false else foldC _ _ m ()) = _
        rw [hL c (hm c (by simp)), ih fun x hx => hm x (by simp [hx]), List.all_cons]
        cases isDig b c <;> rfl
    exact e s hs
  show ntext_isWhole (iterV (gtext_isWhole_0 big) big) (s, L) = _
  unfold ntext_isWhole
  dsimp only
  match s with
  | [] => rfl
  | a :: t =>
    rw [show eqD .str (a :: t) ([] : List Int) = false from eqD_false (by simp), cond_false, gI0, Option.bind_some, loop, wholeB]
    by_cases h : a = 48
    · rw [show (a == 48) = true by simpa using h, cond_true, decide_eq_true h]
      by_cases h1 : 1 < (a :: t).length
      · rw [decide_eq_true (show ((List.length (a :: t) : Int) > 1) by omega), decide_eq_true h1]; rfl
      · rw [decide_eq_false (show ¬ ((List.length (a :: t) : Int) > 1) by omega), decide_eq_false h1]
        simp
    · rw [show (a == 48) = false by simpa using h, cond_false, decide_eq_false h]
      simp

theorem dec_dig : ∀ c, Byte c → decide (idxI [48, 49, 50, 51, 52, 53, 54, 55, 56, 57] c < 0) = !isDig 10 c := by
  intro c hc
  have h := all256 (P := fun n => decide (decide (idxI [48, 49, 50, 51, 52, 53, 54, 55, 56, 57] (n : Int) < 0) = !isDig 10 (n : Int))) (by decide +kernel) hc
  rw [byte_nat hc] at h
  exact of_decide_eq_true h
theorem hex_dig : ∀ c, Byte c → decide (idxI [48, 49, 50, 51, 52, 53, 54, 55, 56, 57, 97, 98, 99, 100, 101, 102] c < 0) = !isDig 16 c := by
  intro c hc
  have h := all256 (P := fun n => decide (decide (idxI [48, 49, 50, 51, 52, 53, 54, 55, 56, 57, 97, 98, 99, 100, 101, 102] (n : Int) < 0) = !isDig 16 (n : Int))) (by decide +kernel) hc
  rw [byte_nat hc] at h
  exact of_decide_eq_true h

/-! ### a number out of its digits -/
abbrev max64 : Int := 18446744073709551615
def stepP (b cut d n : Int) (k : Int → Option (Int × Ifc)) : Option (Int × Ifc) :=
  bif decide (n ≥ cut) then some (max64, tooBig) else
  bif decide (IntKind.u64.wrap (IntKind.u64.wrap (n * b) + d) < IntKind.u64.wrap (n * b)) then some (max64, tooBig) else
  bif decide (IntKind.u64.wrap (IntKind.u64.wrap (n * b) + d) > max64) then some (max64, tooBig) else k (IntKind.u64.wrap (IntKind.u64.wrap (n * b) + d))

theorem stepP_eq {b cut : Int} (hb : b = 10 ∧ cut = 1844674407370955162 ∨ b = 16 ∧ cut = 1152921504606846976) {d n : Nat} (hd : d < 16) (hn : (n : Int) ≤ max64) (k : Int → Option (Int × Ifc)) :
    stepP b cut (d : Int) (n : Int) k = if ((n * b.toNat + d : Nat) : Int) ≤ max64 then k ((n * b.toNat + d : Nat) : Int) else some (max64, tooBig) := by
  unfold stepP
  simp only [wrap_u64, max64] at *
  rcases hb with ⟨rfl, rfl⟩ | ⟨rfl, rfl⟩
  · rw [show Int.toNat 10 = 10 by rfl]
    by_cases h1 : (n : Int) ≥ 1844674407370955162
    · rw [decide_eq_true h1, cond_true, if_neg (by omega)]
    · rw [decide_eq_false h1, cond_false]
      by_cases h2 : ((n * 10 + d : Nat) : Int) ≤ 18446744073709551615
      · rw [decide_eq_false (by omega), cond_false, decide_eq_false (by omega), cond_false, if_pos (by simpa using h2)]
        congr 1
        omega
      · rw [decide_eq_true (by omega), cond_true, if_neg (by simpa using h2)]
  · rw [show Int.toNat 16 = 16 by rfl]
    by_cases h1 : (n : Int) ≥ 1152921504606846976
    · rw [decide_eq_true h1, cond_true, if_neg (by omega)]
    · rw [decide_eq_false h1, cond_false]
      by_cases h2 : ((n * 16 + d : Nat) : Int) ≤ 18446744073709551615
      · rw [decide_eq_false (by omega), cond_false, decide_eq_false (by omega), cond_false, if_pos (by simpa using h2)]
        congr 1
        omega
      · rw [decide_eq_true (by omega), cond_true, if_neg (by simpa using h2)]

abbrev PV := Int × Bool × (List Int) × Int × Int × Bool × Int × Int × Int × (List Int)

theorem digit_step10 (self : PV → Option (Int × Ifc)) (s : List Int) (n : Int) (i : Nat) (hi : i < s.length) (hl : s.length ≤ 1000000) {d : Nat} (hd : d < 10) (hs : s[i] = hexd d) :
    histrconv_ParseUint_0 self (10, false, s, 1844674407370955162, max64, false, n, (List.length s : Int), (i : Int), s) =
      stepP 10 1844674407370955162 (d : Int) n fun m => self (10, false, s, 1844674407370955162, max64, false, m, (List.length s : Int), ((i + 1 : Nat) : Int), s) := by
  have hw := wrap_succ hi (by have := maxLen_ge; omega)
  rw [← hw]
  unfold histrconv_ParseUint_0
  dsimp only
  have h1 : decide ((i : Int) < (List.length s : Int)) = true := decide_eq_true (by omega)
  have h2 : decide (0 ≤ (i : Int)) = true := decide_eq_true (by omega)
  rw [h1, h2, cond_true, Bool.and_self, cond_true, Int.toNat_natCast, show nth s i = some (hexd d) from by rw [← hs]; exact List.getElem?_eq_getElem hi, Option.bind_some]
  have : d = 0 ∨ d = 1 ∨ d = 2 ∨ d = 3 ∨ d = 4 ∨ d = 5 ∨ d = 6 ∨ d = 7 ∨ d = 8 ∨ d = 9 := by omega
  rcases this with rfl | rfl | rfl | rfl | rfl | rfl | rfl | rfl | rfl | rfl <;> rfl

theorem digit_step16 (self : PV → Option (Int × Ifc)) (s : List Int) (n : Int) (i : Nat) (hi : i < s.length) (hl : s.length ≤ 1000000) {d : Nat} (hd : d < 16) (hs : s[i] = hexd d) :
    histrconv_ParseUint_0 self (16, false, s, 1152921504606846976, max64, false, n, (List.length s : Int), (i : Int), s) =
      stepP 16 1152921504606846976 (d : Int) n fun m => self (16, false, s, 1152921504606846976, max64, false, m, (List.length s : Int), ((i + 1 : Nat) : Int), s) := by
  have hw := wrap_succ hi (by have := maxLen_ge; omega)
  rw [← hw]
  unfold histrconv_ParseUint_0
  dsimp only
  have h1 : decide ((i : Int) < (List.length s : Int)) = true := decide_eq_true (by omega)
  have h2 : decide (0 ≤ (i : Int)) = true := decide_eq_true (by omega)
  rw [h1, h2, cond_true, Bool.and_self, cond_true, Int.toNat_natCast, show nth s i = some (hexd d) from by rw [← hs]; exact List.getElem?_eq_getElem hi, Option.bind_some]
  have : d = 0 ∨ d = 1 ∨ d = 2 ∨ d = 3 ∨ d = 4 ∨ d = 5 ∨ d = 6 ∨ d = 7 ∨ d = 8 ∨ d = 9 ∨ d = 10 ∨ d = 11 ∨ d = 12 ∨ d = 13 ∨ d = 14 ∨ d = 15 := by omega
  rcases this with rfl | rfl | rfl | rfl | rfl | rfl | rfl | rfl | rfl | rfl | rfl | rfl | rfl | rfl | rfl | rfl <;> rfl

def parsed (b n : Nat) (s : List Int) : Int × Ifc := if ((valF b n s : Nat) : Int) ≤ max64 then ((valF b n s : Nat), none) else (max64, tooBig)

theorem parse_run {B cut : Int} {b : Nat} (hB : B = (b : Int)) (hb : B = 10 ∧ cut = 1844674407370955162 ∨ B = 16 ∧ cut = 1152921504606846976) (s : List Int) (hs : Dgs b s) (hl : s.length ≤ 1000000) : ∀ (k i N n : Nat), i + k = s.length → k < N → (n : Int) ≤ max64 →
    iterV (gistrconv_ParseUint_0 big) N (B, false, s, cut, max64, false, (n : Int), (List.length s : Int), (i : Int), s) = some (parsed b n (s.drop i))
  | 0, i, N + 1, n, hi, _, hn => by
    show histrconv_ParseUint_0 (iterV (gistrconv_ParseUint_0 big) N) _ = _
    unfold histrconv_ParseUint_0
    dsimp only
    rw [decide_eq_false (by omega), cond_false, List.drop_of_length_le (by omega)]
    rw [parsed, show valF b n [] = n by rfl, if_pos hn]
    rfl
  | k + 1, i, N + 1, n, hi, hN, hn => by
    have hlt : i < s.length := by omega
    obtain ⟨d, hd, hc⟩ := hs _ (List.getElem_mem hlt)
    have hd16 : d < 16 := by rcases hb with h | h <;> omega
    have hstep : histrconv_ParseUint_0 (iterV (gistrconv_ParseUint_0 big) N) (B, false, s, cut, max64, false, (n : Int), (List.length s : Int), (i : Int), s) =
        stepP B cut (d : Int) n fun m => iterV (gistrconv_ParseUint_0 big) N (B, false, s, cut, max64, false, m, (List.length s : Int), ((i + 1 : Nat) : Int), s) := by
      rcases hb with ⟨h1, h2⟩ | ⟨h1, h2⟩
      · rw [h1, h2]; exact digit_step10 _ s n i hlt hl (by omega) hc
      · rw [h1, h2]; exact digit_step16 _ s n i hlt hl (by omega) hc
    refine Eq.trans hstep ?_
    rw [stepP_eq hb hd16 hn]
    have hbn : B.toNat = b := by omega
    have hv : valF b n (s.drop i) = valF b (n * b + d) (s.drop (i + 1)) := by
      rw [List.drop_eq_getElem_cons hlt, valF_cons, hc, dig_hexd hd16]
    rw [hbn]
    by_cases h : ((n * b + d : Nat) : Int) ≤ max64
    · rw [if_pos h, parse_run hB hb s hs hl k (i + 1) N (n * b + d) (by omega) (by omega) h]
      rw [parsed, parsed, hv]
    · rw [if_neg h, parsed, hv]
      have := valF_ge (b := b) (by rcases hb with h | h <;> omega) (s.drop (i + 1)) (n * b + d)
      rw [if_neg (by omega)]

theorem parseUint10 (s : List Int) (hne : s ≠ []) (hs : Dgs 10 s) (hl : s.length ≤ 1000000) : cistrconv_ParseUint (s, 10, 64) = some (parsed 10 0 s) := by
  have e : cistrconv_ParseUint (s, 10, 64) = bif eqD .str s ([] : List Int) then some (0, some (some (80, 2))) else iterV (gistrconv_ParseUint_0 big) big ((10 : Int), false, s, (1844674407370955162 : Int), max64, false, (0 : Int), (List.length s : Int), (0 : Int), s) := by kernel_rfl
  rw [e, show eqD .str s ([] : List Int) = false from eqD_false hne, cond_false]
  exact parse_run (b := 10) rfl (.inl ⟨rfl, rfl⟩) s hs hl s.length 0 big 0 (by omega) (by have := big_1000; omega) (by decide)
theorem parseUint16 (s : List Int) (hne : s ≠ []) (hs : Dgs 16 s) (hl : s.length ≤ 1000000) : cistrconv_ParseUint (s, 16, 64) = some (parsed 16 0 s) := by
  have e : cistrconv_ParseUint (s, 16, 64) = bif eqD .str s ([] : List Int) then some (0, some (some (80, 2))) else iterV (gistrconv_ParseUint_0 big) big ((16 : Int), false, s, (1152921504606846976 : Int), max64, false, (0 : Int), (List.length s : Int), (0 : Int), s) := by kernel_rfl
  rw [e, show eqD .str s ([] : List Int) = false from eqD_false hne, cond_false]
  exact parse_run (b := 16) rfl (.inr ⟨rfl, rfl⟩) s hs hl s.length 0 big 0 (by omega) (by have := big_1000; omega) (by decide)
end Go.Proofs.YtcapedpcokhpjaaDoor
