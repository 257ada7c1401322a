/- The law TextPlain of layer 3 is true for all typed arguments. -/
import Derived.Test.YtcapedpcokhpjaaDoorTextJ
set_option linter.unusedVariables false
set_option linter.unusedSimpArgs false
set_option maxRecDepth 100000
namespace Go.Proofs.YtcapedpcokhpjaaDoor
open Go.Lift

abbrev L1 (N : Nat) (self0 : (List Int) × (List Int) × Int → Option Bool) := glaw03_TextPlain_1 N self0

theorem drop_one {q : List Int} {i : Nat} {a : Int} {t : List Int} (h : q.drop i = a :: t) : ∃ hi : i < q.length, q[i] = a ∧ q.drop (i + 1) = t := by
  have hi : i < q.length := by
    rcases Nat.lt_or_ge i q.length with h1 | h1
    · exact h1
    · rw [List.drop_of_length_le h1] at h; cases h
  rw [List.drop_eq_getElem_cons hi] at h
  injection h with h1 h2
  exact ⟨hi, h1, h2⟩

theorem plain_92 (N : Nat) (s0) (self) (q : List Int) (hq : q.length ≤ 1000000) (i : Nat) (t : List Int) (sl : Nat) (hsl : sl ≤ i) (h : q.drop i = 92 :: t) :
    glaw03_TextPlain_1 N s0 self (q, (sl : Int), (i : Int)) = self (q, ((sl + 1 : Nat) : Int), ((i + 1 : Nat) : Int)) := by
  obtain ⟨hi, h1, h2⟩ := drop_one h
  have hm := maxLen_ge
  show hlaw03_TextPlain_1 s0 self _ = _
  unfold hlaw03_TextPlain_1
  dsimp only
  rw [decide_eq_true (by omega), cond_true, getI_at hi, Option.bind_some, Option.bind_some, h1, wrap_succ hi (by omega), wrap_succ (n := q.length) (i := sl) (by omega) (by omega)]
  rfl
theorem plain_c (N : Nat) (s0) (self) (q : List Int) (hq : q.length ≤ 1000000) (i : Nat) (t : List Int) (sl c : Int) (hc : c ≠ 34) (hc' : c ≠ 92) (h : q.drop i = c :: t) :
    glaw03_TextPlain_1 N s0 self (q, sl, (i : Int)) = self (q, (0 : Int), ((i + 1 : Nat) : Int)) := by
  obtain ⟨hi, h1, h2⟩ := drop_one h
  have hm := maxLen_ge
  show hlaw03_TextPlain_1 s0 self _ = _
  unfold hlaw03_TextPlain_1
  dsimp only
  rw [decide_eq_true (by omega), cond_true, getI_at hi, Option.bind_some, Option.bind_some, h1, wrap_succ hi (by omega), show (c == 34) = false by simpa using hc, show (c == 92) = false by simpa using hc']
  rfl
theorem plain_34 (N : Nat) (s0) (self) (q : List Int) (hq : q.length ≤ 1000000) (i : Nat) (t : List Int) (sl : Nat) (h : q.drop i = 34 :: t) (ht : (t = [] ∧ sl % 2 = 0) ∨ (t ≠ [] ∧ sl % 2 = 1)) :
    glaw03_TextPlain_1 N s0 self (q, (sl : Int), (i : Int)) = self (q, (0 : Int), ((i + 1 : Nat) : Int)) := by
  obtain ⟨hi, h1, h2⟩ := drop_one h
  have hm := maxLen_ge
  have hlen : q.length = i + 1 + t.length := by
    have := congrArg List.length h2
    simp at this
    omega
  show hlaw03_TextPlain_1 s0 self _ = _
  unfold hlaw03_TextPlain_1
  dsimp only
  rw [decide_eq_true (by omega), cond_true, getI_at hi, Option.bind_some, Option.bind_some, h1, wrap_succ hi (by omega), show ((34 : Int) == 34) = true by decide, cond_true]
  have hw : IntKind.i64.wrap ((List.length q : Int) - 1) = ((i + t.length : Nat) : Int) := by
    rw [wrap_i64 (by omega) (by omega)]; omega
  rw [hw]
  have hmod : (sl : Int).tmod 2 = ((sl % 2 : Nat) : Int) := by
    rw [Int.tmod_eq_emod_of_nonneg (by omega)]; rfl
  have hz : ((((sl : Int).tmod 2) == 1) == ((i : Int) == ((i + t.length : Nat) : Int))) = false := by
    rw [hmod]
    rcases ht with ⟨rfl, hs⟩ | ⟨hn, hs⟩
    · rw [hs]
      simp
    · have hp := List.length_pos_iff.2 hn
      rw [hs, show ((i : Int) == ((i + t.length : Nat) : Int)) = false from beq_eq_false_iff_ne.2 (by omega)]
      decide
  rw [hz]
  rfl

/-- the rounds of a form, from an even number of backslashes to an even one -/
theorem plain_form (N : Nat) (s0) (q : List Int) (hq : q.length ≤ 1000000) {c : Int} (hc : Byte c) (k i : Nat) (t : List Int) (ht : t ≠ []) (sl : Nat) (hsl : sl ≤ i) (he : sl % 2 = 0) (h : q.drop i = form c ++ t) :
    ∃ sl' : Nat, sl' ≤ i + (form c).length ∧ sl' % 2 = 0 ∧ q.drop (i + (form c).length) = t ∧
      iterV (glaw03_TextPlain_1 N s0) (k + (form c).length) (q, (sl : Int), (i : Int)) = iterV (glaw03_TextPlain_1 N s0) k (q, (sl' : Int), ((i + (form c).length : Nat) : Int)) := by
  have hx1 := hexd_byte (c.toNat / 16) (by have := hc.2; omega)
  have hx2 := hexd_byte (c.toNat % 16) (by omega)
  have hd : q.drop (i + (form c).length) = t := by rw [← List.drop_drop, h, List.drop_left]
  unfold form at h hd ⊢
  split at h
  · rename_i e
    rw [if_pos e] at hd ⊢
    obtain ⟨_, _, g1⟩ := drop_one (t := 34 :: t) h
    refine ⟨0, by omega, rfl, hd, ?_⟩
    show glaw03_TextPlain_1 N s0 (iterV _ (k + 1)) _ = _
    rw [plain_92 N s0 _ q hq i (34 :: t) sl hsl h]
    show glaw03_TextPlain_1 N s0 (iterV _ k) _ = _
    rw [plain_34 N s0 _ q hq (i + 1) t (sl + 1) g1 (.inr ⟨ht, by omega⟩)]
    rfl
  rename_i e1
  rw [if_neg e1] at hd ⊢
  split at h
  · rename_i e
    rw [if_pos e] at hd ⊢
    obtain ⟨_, _, g1⟩ := drop_one (t := 92 :: t) h
    refine ⟨sl + 2, by simp; omega, by omega, hd, ?_⟩
    show glaw03_TextPlain_1 N s0 (iterV _ (k + 1)) _ = _
    rw [plain_92 N s0 _ q hq i (92 :: t) sl hsl h]
    show glaw03_TextPlain_1 N s0 (iterV _ k) _ = _
    rw [plain_92 N s0 _ q hq (i + 1) t (sl + 1) (by omega) g1]
    rfl
  rename_i e2
  rw [if_neg e2] at hd ⊢
  split at h
  · rename_i e
    rw [if_pos e] at hd ⊢
    obtain ⟨_, _, g1⟩ := drop_one (t := 110 :: t) h
    refine ⟨0, by omega, rfl, hd, ?_⟩
    show glaw03_TextPlain_1 N s0 (iterV _ (k + 1)) _ = _
    rw [plain_92 N s0 _ q hq i (110 :: t) sl hsl h]
    show glaw03_TextPlain_1 N s0 (iterV _ k) _ = _
    rw [plain_c N s0 _ q hq (i + 1) t _ 110 (by decide) (by decide) g1]
    rfl
  rename_i e3
  rw [if_neg e3] at hd ⊢
  split at h
  · rename_i e
    rw [if_pos e] at hd ⊢
    obtain ⟨_, _, g1⟩ := drop_one (t := 120 :: hexd (c.toNat / 16) :: hexd (c.toNat % 16) :: t) h
    obtain ⟨_, _, g2⟩ := drop_one g1
    obtain ⟨_, _, g3⟩ := drop_one g2
    refine ⟨0, by omega, rfl, hd, ?_⟩
    have hne : ∀ d < 16, hexd d ≠ 92 := by
      intro d hd
      have : ((List.range 16).all fun d => decide (hexd d ≠ 92)) = true := by decide +kernel
      exact of_decide_eq_true (List.all_eq_true.1 this d (by simpa using hd))
    show glaw03_TextPlain_1 N s0 (iterV _ (k + 3)) _ = _
    rw [plain_92 N s0 _ q hq i _ sl hsl h]
    show glaw03_TextPlain_1 N s0 (iterV _ (k + 2)) _ = _
    rw [plain_c N s0 _ q hq (i + 1) _ _ 120 (by decide) (by decide) g1]
    show glaw03_TextPlain_1 N s0 (iterV _ (k + 1)) _ = _
    rw [plain_c N s0 _ q hq (i + 1 + 1) _ _ _ hx1.2.1 (hne _ (by have := hc.2; omega)) g2]
    show glaw03_TextPlain_1 N s0 (iterV _ k) _ = _
    rw [plain_c N s0 _ q hq (i + 1 + 1 + 1) _ _ _ hx2.2.1 (hne _ (by omega)) g3]
    rfl
  · rename_i e
    rw [if_neg e] at hd ⊢
    refine ⟨0, by omega, rfl, hd, ?_⟩
    show glaw03_TextPlain_1 N s0 (iterV _ k) _ = _
    rw [plain_c N s0 _ q hq i t _ c e1 e2 h]
    rfl

theorem plain_run (N : Nat) (s0) (q : List Int) (hq : q.length ≤ 1000000) : ∀ (o : List Int), Bytes o → ∀ (i sl K : Nat), q.drop i = o.flatMap form ++ [34] → sl ≤ i → sl % 2 = 0 → (o.flatMap form).length + 2 ≤ K →
    iterV (glaw03_TextPlain_1 N s0) K (q, (sl : Int), (i : Int)) = some true
  | [], _, i, sl, K, h, hs, he, hK => by
    obtain ⟨k, rfl⟩ : ∃ k, K = k + 2 := ⟨K - 2, by omega⟩
    obtain ⟨hi, _, g⟩ := drop_one (a := 34) (t := []) h
    show glaw03_TextPlain_1 N s0 (iterV _ (k + 1)) _ = _
    rw [plain_34 N s0 _ q hq i [] sl h (.inl ⟨rfl, he⟩)]
    show hlaw03_TextPlain_1 s0 _ _ = _
    unfold hlaw03_TextPlain_1
    dsimp only
    have hlen : q.length ≤ i + 1 := by
      have := congrArg List.length g
      simp at this
      omega
    rw [decide_eq_false (by omega), cond_false, alive_true]
    rfl
  | c :: o, hb, i, sl, K, h, hs, he, hK => by
    have e : (c :: o).flatMap form ++ [34] = form c ++ (o.flatMap form ++ [34]) := by simp
    rw [e] at h
    have hK' : (form c).length + (o.flatMap form).length + 2 ≤ K := by
      simp only [List.flatMap_cons, List.length_append] at hK; omega
    obtain ⟨sl', h1, h2, h3, h4⟩ := plain_form N s0 q hq (hb c (by simp)) (K - (form c).length) i (o.flatMap form ++ [34]) (by simp) sl hs he h
    rw [show K - (form c).length + (form c).length = K by omega] at h4
    rw [h4]
    exact plain_run N s0 q hq o (fun x hx => hb x (by simp [hx])) (i + (form c).length) sl' (K - (form c).length) h3 h1 h2 (by omega)

theorem plain_true (x : Int × Int × (List Int)) (w : WfL [(.int .i64), (.int .u64), .str] x) : claw03_TextPlain x = some true := by
  obtain ⟨i, n, s⟩ := x
  obtain ⟨hi, hn, hs⟩ := w
  have hi0 : -9223372036854775808 ≤ i := by simpa using hi.1
  have hi1 : i ≤ 9223372036854775807 := by simpa using hi.2
  obtain ⟨u, rfl⟩ : ∃ u : Nat, n = (u : Int) := ⟨n.toNat, (Int.toNat_of_nonneg (by simpa using hn.1)).symm⟩
  have hu : u < 18446744073709551616 := by
    have : (u : Int) ≤ 18446744073709551615 := by simpa using hn.2
    omega
  have hsb : Bytes s := hs.2
  show nlaw03_TextPlain _ (i, (u : Int), s) = _
  unfold nlaw03_TextPlain
  dsimp only
  by_cases h : s.length ≤ 400
  · have hq := inQ_len s
    have hq2 : 2 ≤ (inQ s).length := by simp [inQ]
    have hN := decI_len i hi0 hi1
    have hH := dN_len (b := 16) (by omega) 16 u (by omega)
    have hlim := lim_le
    rw [decide_eq_false (by omega), cond_false, quote_eq s hsb, if_pos h, Option.bind_some]
    dsimp only
    rw [show ((0 : Int) != 0) = false by decide, cond_false, decide_eq_false (show ¬ ((List.length (inQ s) : Int) < 2) by omega), cond_false]
    rw [show getI (inQ s) 0 = some 34 by rfl, Option.bind_some, show ((34 : Int) != 34) = false by decide, cond_false]
    have hw : IntKind.i64.wrap ((List.length (inQ s) : Int) - 1) = (((inQ s).length - 1 : Nat) : Int) := by
      rw [wrap_i64 (by omega) (by omega)]; omega
    have hlast : getI (inQ s) (((inQ s).length - 1 : Nat) : Int) = some 34 := by
      rw [getI_nat]
      have e : inQ s = (34 :: s.flatMap form) ++ [34] := rfl
      rw [e]
      simp
    rw [hw, hlast, Option.bind_some, show ((34 : Int) != 34) = false by decide, cond_false, number_eq, Option.bind_some, hex_eq u hu, Option.bind_some]
    rw [Nat.ble_eq_true_of_le (by simp; omega), cond_true, Nat.ble_eq_true_of_le (by simp; omega), cond_true]
    generalize hall : List.append (List.append (decI i) ([48, 120] ++ dN 16 u)) (inQ s) = all
    have hp : ∀ x ∈ all, 32 ≤ x ∧ x ≤ 126 := by
      intro x hx
      rw [← hall] at hx
      rcases List.mem_append.1 hx with hx | hx
      · rcases List.mem_append.1 hx with hx | hx
        · exact decI_plain i x hx
        · exact hexT_plain u x hx
      · exact inQ_plain hsb x hx
    have hal : all.length ≤ 1000000 := by rw [← hall]; simp; omega
    have hmx := maxLen_ge
    have key : ∀ (k i N : Nat), i + k = all.length → k < N → iterV (glaw03_TextPlain_0 big) N (inQ s, all, (i : Int)) = some true := by
      intro k
      induction k with
      | zero =>
        intro i N hi hN
        obtain ⟨N, rfl⟩ : ∃ M, N = M + 1 := ⟨N - 1, by omega⟩
        show hlaw03_TextPlain_0 (iterV (glaw03_TextPlain_1 big _) big) _ _ = _
        unfold hlaw03_TextPlain_0
        dsimp only
        rw [decide_eq_false (by omega), cond_false]
        exact plain_run big _ (inQ s) (by omega) s hsb 1 0 big (by simp [inQ]) (by omega) rfl (by have := big_1000; have := flat_len s; omega)
      | succ k ih =>
        intro i N hi hN
        obtain ⟨N, rfl⟩ : ∃ M, N = M + 1 := ⟨N - 1, by omega⟩
        have hlt : i < all.length := by omega
        have := hp _ (List.getElem_mem hlt)
        show hlaw03_TextPlain_0 _ (iterV (glaw03_TextPlain_0 big) N) _ = _
        unfold hlaw03_TextPlain_0
        dsimp only
        rw [decide_eq_true (by omega), cond_true, getI_at hlt, Option.bind_some, Option.bind_some, decide_eq_false (by omega), cond_false, decide_eq_false (by omega), cond_false, wrap_succ hlt (by omega)]
        exact ih (i + 1) N (by omega) (by omega)
    exact key all.length 0 big (by omega) (by have := big_1000; omega)
  · rw [decide_eq_true (by omega), cond_true, alive_true]
    rfl
end Go.Proofs.YtcapedpcokhpjaaDoor
