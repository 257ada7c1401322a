/- What the functions of layer 4's reference compute: parts, widths, whether a table is valid. -/
import Derived.Test.YtegemaonfdfnbaaKindF
set_option linter.unusedVariables false
set_option linter.unusedSimpArgs false
set_option maxRecDepth 100000
namespace Go.Proofs.Ytegemaonfdfnbaa
open Go.Lift

theorem ble_one {n : Nat} (h : n ≤ 10000) : (Nat.ble 1 1 && Nat.ble (n + 1) lim) = true := by
  rw [Bool.and_eq_true]
  exact ⟨rfl, Nat.ble_eq_true_of_le (by have := lim_ge; omega)⟩

theorem rParts_eq (t : Typ) (hf : t.2.2.2.1.length ≤ 1000) : cref04_Parts t = some ((if t.1 = 6 then [t.2.1] else []) ++ t.2.2.2.1.map (·.2.1)) := by
  have run : ∀ a : List Int, a.length ≤ 1 → iterV (gref04_Parts_0 big) big (0, t, a) = some (a ++ t.2.2.2.1.map (·.2.1)) := by
    intro a ha
    refine range_post (g := gref04_Parts_0 big) (n := t.2.2.2.1.length) (fun (r : List Int) (k : Nat) => ((k : Int), t, r)) (fun k r => r = a ++ (t.2.2.2.1.map (·.2.1)).take k) (fun r => r = some (a ++ t.2.2.2.1.map (·.2.1))) ?_ ?_
      t.2.2.2.1.length 0 big (by simp) (by unfold big; omega) _ (by simp)
    · rintro self s rfl
      rw [List.take_of_length_le (by simp)]
      show href04_Parts_0 self _ = _
      unfold href04_Parts_0
      dsimp only
      rw [decide_eq_false (by omega), cond_false]
    · rintro self s k hk rfl
      left
      refine ⟨_, rfl, ?_⟩
      have hlen : (a ++ (t.2.2.2.1.map (·.2.1)).take k).length ≤ 1001 := by simp; omega
      show href04_Parts_0 self _ = _
      unfold href04_Parts_0
      dsimp only
      rw [decide_eq_true (by omega), cond_true, getI_at hk, Option.bind_some]
      rw [show [(t.2.2.2.1[k]).2.1].length = 1 from rfl, ble_one (by omega), cond_true, wrap_succ hk (by have := maxLen_ge; omega), List.take_succ_eq_append_getElem (by simpa using hk)]
      simp
  show nref04_Parts (iterV (gref04_Parts_0 big) big) t = _
  unfold nref04_Parts
  by_cases h6 : t.1 = 6
  · rw [h6, show ((6 : Int) == 6) = true from rfl, cond_true]
    rw [show (List.length ([] : List Int) + [t.2.1].length) = 0 + 1 from rfl, ble_one (by omega), cond_true]
    exact run [t.2.1] (by simp)
  · rw [show (t.1 == 6) = false from decide_eq_false h6, cond_false, if_neg h6]
    exact run [] (by simp)

theorem parts_same {t : Typ} {i n : Int} (h : builtB t i n = true) : (if t.1 = 6 then [t.2.1] else []) ++ t.2.2.2.1.map (·.2.1) = partsS t := by
  unfold partsS
  by_cases h6 : t.1 = 6
  · rw [if_pos h6, if_pos h6, built_none h (by omega)]; rfl
  rw [if_neg h6, if_neg h6]
  by_cases h5 : t.1 = 5
  · rw [if_pos h5]; rfl
  · rw [if_neg h5, built_none h h5]; rfl

theorem rParts_ok {t : Typ} {i n : Int} (h : builtB t i n = true) : cref04_Parts t = some (partsS t) := by
  rw [rParts_eq t (by have := built_flen h; omega), parts_same h]

theorem rLeads_ok {t : Typ} {i n : Int} (h : builtB t i n = true) : cref04_Leads t = some (nextS t) := by
  show nref04_Leads t = _
  unfold nref04_Leads
  rw [rParts_ok h, Option.bind_some]
  have hp : t.1 = 4 ∨ t.1 = 7 → partsS t = [] := by
    intro hk
    unfold partsS
    rw [if_neg (by omega), if_neg (by omega)]
  unfold nextS
  by_cases h4 : t.1 = 4
  · rw [if_pos (.inl h4), hp (.inl h4), h4, show ((4 : Int) == 4) = true from rfl, cond_true]
    rw [show (List.length ([] : List Int) + [t.2.1].length) = 0 + 1 from rfl, ble_one (by omega)]
    rfl
  rw [show (t.1 == 4) = false from decide_eq_false h4, cond_false]
  by_cases h7 : t.1 = 7
  · rw [if_pos (.inr h7), hp (.inr h7), h7, show ((7 : Int) == 7) = true from rfl, cond_true]
    rw [show (List.length ([] : List Int) + [t.2.1].length) = 0 + 1 from rfl, ble_one (by omega)]
    rfl
  rw [show (t.1 == 7) = false from decide_eq_false h7, cond_false, if_neg (by omega)]

/-! ### widths -/
theorem cap_add {a b : Int} (hb : 0 ≤ b) : cap (cap a + b) = cap (a + b) := by
  by_cases h1 : 5001 < a <;> by_cases h2 : 5001 < a + b <;> simp [cap, h1, h2] <;> omega
theorem w0_getD (l : List Typ) (x : Nat) : (wN l 0).getD x 0 = 0 := by
  show (List.replicate l.length (0 : Int)).getD x 0 = 0
  rw [List.getD_eq_getElem?_getD]
  by_cases hx : x < l.length
  · simp [hx]
  · rw [List.getElem?_eq_none (by simpa using hx)]; rfl
theorem cap_one : cap 1 = 1 := rfl

theorem rWidths_step {l : List Typ} (hlen : l.length ≤ 40) (hb : Built l) (me : List Typ × Int → Option (List Int)) (d : Nat) (hd : d ≤ 3) (below : List Int) (hbel : 0 < d → below = wN l d) :
    iterV (gref04_Widths_0 me big) big (l, (d : Int), 0, below, []) = some (wN l (d + 1)) := by
  have hwd := wN_ok hb d
  refine range_post (g := gref04_Widths_0 me big) (n := l.length) (fun (out : List Int) (i : Nat) => (l, (d : Int), (i : Int), below, out)) (fun i out => out = wGo (wN l d) (l.take i) []) (fun r => r = some (wN l (d + 1))) ?_ ?_
    l.length 0 big (by simp) (by unfold big; omega) _ (by simp [wGo])
  · rintro self s rfl
    rw [List.take_length]
    show href04_Widths_0 _ _ self _ = _
    unfold href04_Widths_0
    dsimp only
    rw [decide_eq_false (by omega), cond_false]
    rfl
  · rintro self s i hi rfl
    left
    refine ⟨_, rfl, ?_⟩
    have hw := wGo_wide hb hwd.1 i (by omega)
    have hwl : (wGo (wN l d) (l.take i) []).length = i := by rw [wGo_len]; simp; omega
    have hbi := hb i hi
    have hpl := parts_len hbi
    have hpi := parts_ix hb hi
    rw [show wGo (wN l d) (l.take (i + 1)) [] = wGo (wN l d) (l.take i) [] ++ [cap (wOne (wN l d) (wGo (wN l d) (l.take i) []) l[i])] by rw [List.take_succ_eq_append_getElem hi, wGo_snoc]]
    show href04_Widths_0 _ _ self _ = _
    unfold href04_Widths_0
    dsimp only
    rw [decide_eq_true (by omega), cond_true, getI_at hi, Option.bind_some, rParts_ok hbi, Option.bind_some]
    have hget := getI_at hi
    generalize hacc : wGo (wN l d) (l.take i) [] = acc at *
    generalize htt : l[i] = t at *
    -- what each part adds
    have hby : ∀ p : Int, 0 ≤ acc.getD p.toNat 0 ∧ acc.getD p.toNat 0 ≤ 5001 := fun p => hw.getD p.toNat
    let by' : Int := if t.1 = 6 then t.2.2.1 else 1
    have hby1 : 1 ≤ by' ∧ by' ≤ 16 := by
      show 1 ≤ (if t.1 = 6 then t.2.2.1 else 1) ∧ (if t.1 = 6 then t.2.2.1 else 1) ≤ 16
      split
      · rename_i h6; have := built_arr hbi h6; omega
      · omega
    let S (j : Nat) : Int := (((partsS t).take j).map fun p => by' * acc.getD p.toNat 0).sum
    have hS : ∀ j (hj : j < (partsS t).length), S (j + 1) = S j + by' * acc.getD ((partsS t)[j]).toNat 0 := by
      intro j hj
      show (((partsS t).take (j + 1)).map fun p => by' * acc.getD p.toNat 0).sum = _
      rw [List.take_succ_eq_append_getElem hj, List.map_append, List.sum_append, List.map_singleton, List.sum_singleton]
    have hmul : ∀ p : Int, 0 ≤ by' * acc.getD p.toNat 0 ∧ by' * acc.getD p.toNat 0 ≤ 80016 := fun p => mul16 hby1.1 hby1.2 (hby p).1 (hby p).2
    have hlim : (Nat.ble 1 1 && Nat.ble (acc.length + 1) lim) = true := ble_one (by omega)
    have hsucc := wrap_succ hi (by have := maxLen_ge; omega : l.length ≤ maxLen)
    refine range_post (g := gref04_Widths_1 me big self) (n := (partsS t).length) (fun (w : Int) (j : Nat) => (l, (d : Int), (i : Int), w, (j : Int), below, acc, partsS t)) (fun j w => w = cap (1 + S j)) (fun r => r = self (l, (d : Int), ((i + 1 : Nat) : Int), below, acc ++ [cap (wOne (wN l d) acc t)])) ?_ ?_
      (partsS t).length 0 big (by simp) (by unfold big; omega) _ (by simp [S, cap_one])
    · rintro self1 w rfl
      have hSall : S (partsS t).length = if t.1 = 6 then t.2.2.1 * acc.getD t.2.1.toNat 0 else if t.1 = 5 then sumT acc t.2.2.2.1 else 0 := by
        show (((partsS t).take (partsS t).length).map fun p => by' * acc.getD p.toNat 0).sum = _
        rw [List.take_length]
        unfold partsS
        by_cases h6 : t.1 = 6
        · rw [if_pos h6, if_pos h6]
          simp [by', h6]
        rw [if_neg h6, if_neg h6]
        by_cases h5 : t.1 = 5
        · rw [if_pos h5, if_pos h5]
          simp [by', h6, sumT, Function.comp_def]
        · rw [if_neg h5, if_neg h5]; rfl
      rw [hSall]
      have hone : ∀ x : Int, [x].length = 1 := fun _ => rfl
      show href04_Widths_1 _ self self1 _ = _
      unfold href04_Widths_1
      dsimp only
      rw [decide_eq_false (by omega), cond_false]
      simp only [hget, Option.bind_some, hone, hlim, cond_true, hsucc]
      by_cases h4 : t.1 = 4
      · have h6 : ¬ t.1 = 6 := by omega
        have h5 : ¬ t.1 = 5 := by omega
        have h7 : ¬ t.1 = 7 := by omega
        have hp := built_ptr hbi (.inl h4)
        have hlw := hwd.1.getD t.2.1.toNat
        rw [if_neg h6, if_neg h5, show (t.1 == 4) = true from decide_eq_true h4, show (t.1 == 7) = false from decide_eq_false h7]
        unfold wOne
        rw [if_pos h4]
        by_cases hd0 : d = 0
        · rw [decide_eq_false (by omega), cond_false, cond_false]
          have : (wN l d).getD t.2.1.toNat 0 = 0 := by rw [hd0]; exact w0_getD l _
          rw [this]
          rfl
        · rw [decide_eq_true (by omega), cond_true, cond_true, hbel (by omega), decide_eq_true hp.1, decide_eq_true (by rw [hwd.2]; omega), Bool.true_and, cond_true, nth_getD hp.1 (by rw [hwd.2]; omega), Option.bind_some, show cap (1 + 0) = 1 from rfl, cond_true, cond_false, addw (by omega) (by omega)]
          rfl
      rw [show (t.1 == 4) = false from decide_eq_false h4]
      by_cases h7 : t.1 = 7
      · have h6 : ¬ t.1 = 6 := by omega
        have h5 : ¬ t.1 = 5 := by omega
        have hp := built_ptr hbi (.inr h7)
        have hlw := hwd.1.getD t.2.1.toNat
        rw [if_neg h6, if_neg h5, show (t.1 == 7) = true from decide_eq_true h7]
        unfold wOne
        rw [if_neg h4, if_pos h7]
        by_cases hd0 : d = 0
        · rw [decide_eq_false (by omega), cond_false, cond_false]
          have : (wN l d).getD t.2.1.toNat 0 = 0 := by rw [hd0]; exact w0_getD l _
          rw [this]
          rfl
        · rw [decide_eq_true (by omega), cond_true, cond_false, cond_true, cond_true, hbel (by omega), decide_eq_true hp.1, decide_eq_true (by rw [hwd.2]; omega), Bool.true_and, cond_true, nth_getD hp.1 (by rw [hwd.2]; omega), Option.bind_some, show cap (1 + 0) = 1 from rfl, wrap_i64 (n := 16 * _) (by omega) (by omega), addw (by omega) (by omega)]
          rfl
      rw [show (t.1 == 7) = false from decide_eq_false h7]
      unfold wOne
      rw [if_neg h4, if_neg h7]
      have hfin : (1 : Int) + (if t.1 = 6 then t.2.2.1 * acc.getD t.2.1.toNat 0 else if t.1 = 5 then sumT acc t.2.2.2.1 else 0) = (if t.1 = 6 then 1 + t.2.2.1 * acc.getD t.2.1.toNat 0 else if t.1 = 5 then 1 + sumT acc t.2.2.2.1 else 1) := by
        split
        · rfl
        split
        · rfl
        · rfl
      rw [hfin]
      cases decide ((d : Int) > 0) <;> rfl
    · rintro self1 w j hj rfl
      left
      refine ⟨_, rfl, ?_⟩
      have hx := hpi _ (List.getElem_mem hj)
      have hm := hmul (partsS t)[j]
      have hcw : 0 ≤ cap (1 + S j) ∧ cap (1 + S j) ≤ 5001 := by
        apply cap_wide
        have : 0 ≤ S j := by
          show 0 ≤ (((partsS t).take j).map fun p => by' * acc.getD p.toNat 0).sum
          have : ∀ q : List Int, 0 ≤ (q.map fun p => by' * acc.getD p.toNat 0).sum := by
            intro q
            induction q with
            | nil => simp
            | cons a q ih => rw [List.map_cons, List.sum_cons]; have := hmul a; omega
          exact this _
        omega
      rw [hS j hj, ← Int.add_assoc, ← cap_add hm.1]
      show href04_Widths_1 _ self self1 _ = _
      unfold href04_Widths_1
      dsimp only
      rw [decide_eq_true (by omega), cond_true, hget, Option.bind_some]
      have e1 : nth (partsS t) (Int.toNat (j : Int)) = some (partsS t)[j] := List.getElem?_eq_getElem hj
      have d1 : decide (0 ≤ (j : Int)) = true := decide_eq_true (by omega)
      have d2 : decide ((j : Int) < ((partsS t).length : Int)) = true := decide_eq_true (by omega)
      have d3 : decide (0 ≤ (partsS t)[j]) = true := decide_eq_true hx.1
      have d4 : decide ((partsS t)[j] < (acc.length : Int)) = true := decide_eq_true (by omega)
      simp only [e1, Option.bind_some, d1, d2, d3, d4, Bool.and_self, cond_true, nth_getD hx.1 (show (partsS t)[j] < (acc.length : Int) by omega)]
      rw [wrap_succ hj (by have := maxLen_ge; omega)]
      by_cases h6 : t.1 = 6
      · rw [show (t.1 == 6) = true from decide_eq_true h6, cond_true]
        have hby6 : by' = t.2.2.1 := if_pos h6
        rw [hby6] at hm ⊢
        rw [wrap_i64 (n := t.2.2.1 * _) (by omega) (by omega), addw (by omega) (by omega)]
        rfl
      · rw [show (t.1 == 6) = false from decide_eq_false h6, cond_false]
        have hby6 : by' = 1 := if_neg h6
        rw [hby6] at hm ⊢
        rw [wrap_i64 (n := 1 * _) (by omega) (by omega), addw (by omega) (by omega)]
        rfl

theorem rW_succ (k x) : rref04_Widths (k + 1) x = nref04_Widths (rref04_Widths k) (iterV (gref04_Widths_0 (rref04_Widths k) big) big) x := rfl

theorem rWidths_rec {l : List Typ} (hlen : l.length ≤ 40) (hb : Built l) : ∀ (d k : Nat), d ≤ 3 → d < k → rref04_Widths k (l, (d : Int)) = some (wN l (d + 1))
  | d, 0, _, h => by omega
  | 0, k + 1, _, _ => by
    rw [rW_succ]
    unfold nref04_Widths
    dsimp only
    rw [decide_eq_false (by omega), cond_false]
    exact rWidths_step hlen hb _ 0 (by omega) [] (by omega)
  | d + 1, k + 1, hd, hk => by
    rw [rW_succ]
    unfold nref04_Widths
    dsimp only
    rw [decide_eq_true (by omega), cond_true, wrap_i64 (by omega) (by omega), show ((d + 1 : Nat) : Int) - 1 = (d : Int) by omega, rWidths_rec hlen hb d k (by omega) (by omega), Option.bind_some]
    exact rWidths_step hlen hb _ (d + 1) hd _ (fun _ => rfl)

theorem rWidths_eq {l : List Typ} (hlen : l.length ≤ 40) (hb : Built l) : cref04_Widths (l, 3) = some (wN l 4) :=
  rWidths_rec hlen hb 3 big (by omega) (by unfold big; omega)

/-! ### whether a table is valid -/
theorem rCheck_eq (l : List Typ) (hf : ∀ t ∈ l, t.2.2.2.1.length ≤ 1000) : cref04_Check l = some (if Valid l then 0 else 8) := by
  show nref04_Check (iterV (gref04_Check_0 big) big) l = _
  unfold nref04_Check
  by_cases h : l.length ≤ 32
  · rw [decide_eq_false (by omega), cond_false]
    refine range_post (g := gref04_Check_0 big) (n := l.length) (fun (_ : Unit) (i : Nat) => (l, (i : Int))) (fun i _ => ∀ j (h : j < l.length), j < i → builtB l[j] j l.length = true) (fun r => r = some (if Valid l then 0 else 8)) ?_ ?_
      l.length 0 big (by simp) (by unfold big; omega) () (by intro j _ h; omega)
    · intro self s hb
      have hb' : Built l := fun i hi => hb i hi hi
      have hw := wN_ok hb' 4
      show href04_Check_0 _ self _ = _
      unfold href04_Check_0
      dsimp only
      rw [decide_eq_false (by omega), cond_false, rWidths_eq (by omega) hb', Option.bind_some]
      refine range_post (g := gref04_Check_1 big self) (n := l.length) (fun (_ : Unit) (i : Nat) => (l, (i : Int), wN l 4)) (fun i _ => (5001 : Int) ∉ (wN l 4).take i) (fun r => r = some (if Valid l then 0 else 8)) ?_ ?_
        l.length 0 big (by simp) (by unfold big; omega) () (by simp)
      · intro self1 s hm
        rw [List.take_of_length_le (by omega)] at hm
        show href04_Check_1 self self1 _ = _
        unfold href04_Check_1
        dsimp only
        rw [decide_eq_false (by omega), cond_false, if_pos ⟨h, hb', hm⟩]
      · intro self1 s i hi hm
        have hi' : i < (wN l 4).length := by omega
        have hx := hw.1 _ (List.getElem_mem hi')
        have hst : gref04_Check_1 big self self1 (l, (i : Int), wN l 4) = bif decide ((wN l 4)[i] > 5000) then some 8 else self1 (l, ((i + 1 : Nat) : Int), wN l 4) := by
          show href04_Check_1 self self1 _ = _
          unfold href04_Check_1
          dsimp only
          rw [decide_eq_true (by omega), cond_true, decide_eq_true (by omega), decide_eq_true (by omega), Bool.true_and, cond_true, show nth (wN l 4) (Int.toNat (i : Int)) = some (wN l 4)[i] from List.getElem?_eq_getElem hi', Option.bind_some, wrap_succ hi (by have := maxLen_ge; omega)]
        by_cases hg : (wN l 4)[i] > 5000
        · right
          rw [hst, decide_eq_true hg, cond_true, if_neg]
          rintro ⟨_, _, hn⟩
          exact hn (by rw [show (5001 : Int) = (wN l 4)[i] by omega]; exact List.getElem_mem hi')
        · left
          refine ⟨(), ?_, by rw [hst, decide_eq_false hg]; rfl⟩
          rw [List.take_succ_eq_append_getElem hi']
          intro hmm
          rcases List.mem_append.1 hmm with hmm | hmm
          · exact hm hmm
          · have := List.mem_singleton.1 hmm
            omega
    · intro self s i hi hb
      have hst : gref04_Check_0 big self (l, (i : Int)) = bif !(builtB l[i] i l.length) then some 8 else self (l, ((i + 1 : Nat) : Int)) := by
        show href04_Check_0 _ self _ = _
        unfold href04_Check_0
        dsimp only
        rw [decide_eq_true (by omega), cond_true, rfine_eq hi (hf _ (List.getElem_mem hi)), Option.bind_some, wrap_succ hi (by have := maxLen_ge; omega)]
      cases hbi : builtB l[i] (i : Int) (l.length : Int) with
      | false =>
        right
        rw [hst, hbi, Bool.not_false, cond_true, if_neg fun hv => by rw [hv.2.1 i hi] at hbi; cases hbi]
      | true =>
        left
        refine ⟨(), fun j hj hji => ?_, by rw [hst, hbi]; rfl⟩
        by_cases e : j = i
        · subst e; exact hbi
        · exact hb j hj (by omega)
  · rw [decide_eq_true (by omega), cond_true, if_neg fun hv => h hv.1]

theorem rAsked_eq (l : List Typ) (hf : ∀ t ∈ l, t.2.2.2.1.length ≤ 1000) (i k : Int) : cref04_Asked (l, i, k) = some (if Valid l then (if (0 ≤ i ∧ i < l.length) ∧ 0 ≤ k ∧ k < l.length then 0 else 2) else 8) := by
  show nref04_Asked _ = _
  unfold nref04_Asked
  dsimp only
  rw [rCheck_eq l hf, Option.bind_some]
  by_cases hv : Valid l
  · rw [if_pos hv, if_pos hv, show ((0 : Int) != 0) = false from rfl, cond_false]
    by_cases h1 : i < 0
    · rw [decide_eq_true h1, cond_true, if_neg (by omega)]
    rw [decide_eq_false h1, cond_false]
    by_cases h2 : i ≥ l.length
    · rw [decide_eq_true h2, cond_true, if_neg (by omega)]
    rw [decide_eq_false h2, cond_false]
    by_cases h3 : k < 0
    · rw [decide_eq_true h3, cond_true, if_neg (by omega)]
    rw [decide_eq_false h3, cond_false]
    by_cases h4 : k ≥ l.length
    · rw [decide_eq_true h4, cond_true, if_neg (by omega)]
    rw [decide_eq_false h4, cond_false, if_pos (by omega)]
  · rw [if_neg hv, if_neg hv]; rfl
end Go.Proofs.Ytegemaonfdfnbaa
