/- The laws of layer 8. -/
import Derived.Test.YtlljcjapefljeaaTabP
set_option linter.unusedVariables false
set_option linter.unusedSimpArgs false
set_option maxRecDepth 100000
namespace Go.Proofs.Ytlljcjapefljeaa
open Go.Lift

theorem wf_runs {l : List Rn} (w : Wf (.slice (.pair (.int .i64) (.pair (.int .u64) .unit))) l) : V64 l := fun r hr => by
  have := (w.2 r hr).2.1
  have h : 0 ≤ r.2.1 ∧ r.2.1 ≤ 18446744073709551615 := by simpa only [Wf, min_u64, max_u64] using this
  exact ⟨h.1, Int.lt_of_le_of_lt h.2 (by decide)⟩
theorem wf_int {n : Int} (w : Wf (.int .i64) n) : -9223372036854775808 ≤ n ∧ n ≤ 9223372036854775807 := by
  simpa only [Wf, min_i64, show IntKind.i64.max = 9223372036854775807 by decide] using w
theorem copyR {l : List Rn} (h : l.length ≤ 1000000) : (Nat.ble 1 2 && Nat.ble (List.length ([] : List Rn) + List.length l) lim) = true := by
  rw [show Nat.ble 1 2 = true from rfl, ble_lim (by simp; omega)]; rfl
theorem copyV {a b : List Int} (h : a.length + b.length ≤ 1000000) : (Nat.ble 1 1 && Nat.ble (List.length a + List.length b) lim) = true := by
  rw [b11, ble_lim (by omega)]; rfl

theorem sameR8 (l : List Rn) (h : l.length ≤ 1000000) : cref08_Same (l, l) = some true := by
  show nref08_Same (iterV (gref08_Same_0 big) big) (l, l) = _
  unfold nref08_Same
  dsimp only
  rw [show ((l.length : Int) != (l.length : Int)) = false by simp, cond_false]
  refine range_post (σ := Unit) (g := gref08_Same_0 big) (n := l.length) (fun _ i => (l, l, (i : Int))) (fun _ _ => True) (fun r => r = some true) ?_ ?_ l.length 0 big (by simp) (tbig h) () trivial
  · intro self _ _
    show href08_Same_0 self _ = _
    unfold href08_Same_0
    dsimp only
    rw [decide_eq_false (by omega), cond_false]
  · intro self _ i hi _
    left
    refine ⟨(), trivial, ?_⟩
    have hx : getI l (i : Int) = some l[i] := by rw [getI_nat]; exact List.getElem?_eq_getElem hi
    show href08_Same_0 self _ = _
    unfold href08_Same_0
    dsimp only
    rw [decide_eq_true (show (i : Int) < (l.length : Int) by omega), cond_true]
    simp only [hx, Option.bind_some, eqD_self, Bool.not_true, cond_false]
    rw [t64 (by omega) (by omega)]
    rfl
theorem sameV8 (l : List Int) (h : l.length ≤ 1000000) : cref08_SameValues (l, l) = some true := by
  show nref08_SameValues (iterV (gref08_SameValues_0 big) big) (l, l) = _
  unfold nref08_SameValues
  dsimp only
  rw [show ((l.length : Int) != (l.length : Int)) = false by simp, cond_false]
  refine range_post (σ := Unit) (g := gref08_SameValues_0 big) (n := l.length) (fun _ i => (l, l, (i : Int))) (fun _ _ => True) (fun r => r = some true) ?_ ?_ l.length 0 big (by simp) (tbig h) () trivial
  · intro self _ _
    show href08_SameValues_0 self _ = _
    unfold href08_SameValues_0
    dsimp only
    rw [decide_eq_false (by omega), cond_false]
  · intro self _ i hi _
    left
    refine ⟨(), trivial, ?_⟩
    have hx : getI l (i : Int) = some l[i] := by rw [getI_nat]; exact List.getElem?_eq_getElem hi
    show href08_SameValues_0 self _ = _
    unfold href08_SameValues_0
    dsimp only
    rw [decide_eq_true (show (i : Int) < (l.length : Int) by omega), cond_true]
    simp only [hx, Option.bind_some, bne_self_eq_false, cond_false]
    rw [t64 (by omega) (by omega)]
    rfl

theorem listE_len (l : List Rn) (n : Int) : (listE l n).1.length ≤ 200 := by
  unfold listE
  split
  · simp
  · rename_i h
    have := (checkR_zero.1 (Classical.not_not.1 h)).1
    simp only [listR_len]
    omega
theorem madeR_len (v : List Int) : (madeR v).length ≤ v.length := by
  have key : ∀ (v : List Int) (k : Nat) (p : Int), (mkR k p v).length ≤ v.length := by
    intro v
    induction v with
    | nil => intro k p; simp [mkR]
    | cons x v ih =>
      intro k p
      unfold mkR
      split
      · have := ih (k + 1) p; simp only [List.length_cons]; omega
      · have := ih (k + 1) x; simp only [List.length_cons]; omega
  cases v with
  | nil => simp [madeR]
  | cons x v => have := key v 1 x; simp only [madeR, List.length_cons]; omega
theorem makeR_len (v : List Int) : (makeR v).1.length ≤ 200 := by
  unfold makeR
  split
  · simp
  · have := madeR_len v
    simp only
    omega
theorem rdP_len (bs : List Int) : ∀ (k a : Nat), (rdP bs k a).2.2.length ≤ k
  | 0, a => by simp [rdP]
  | k + 1, a => by
    unfold rdP
    split
    · split
      · have := rdP_len bs k (a + (rd 10 0 (bs.drop a)).2.1 + (rd 10 0 (bs.drop (a + (rd 10 0 (bs.drop a)).2.1))).2.1)
        simp only [List.length_cons]
        omega
      · simp
    · simp
theorem decR_len (c : Cur) (n : Int) : (decR c n).2.1.length ≤ 200 := by
  unfold decR
  split
  · split
    · simp
    · rename_i h1
      unfold decT
      split
      · simp
      · split
        · simp
        · unfold decF
          split
          · simp
          · split
            · rename_i h2 _ _
              have := rdP_len c.1 (rd 10 0 (List.drop c.2.1.toNat c.1)).1 (c.2.1.toNat + (rd 10 0 (List.drop c.2.1.toNat c.1)).2.1)
              simp only [List.nil_append, satR_len]
              omega
            · simp
  · simp

theorem tells_true8 (x : List Rn × Int × Int) (w : WfL [.slice (.pair (.int .i64) (.pair (.int .u64) .unit)), .int .i64, .int .i64] x) : claw08_TablesTells x = some true := by
  obtain ⟨l, n, i⟩ := x
  have hv := wf_runs w.1
  show nlaw08_TablesTells (l, n, i) = _
  unfold nlaw08_TablesTells
  dsimp only
  by_cases hl : l.length > 210
  · rw [decide_eq_true (by omega)]; rfl
  · rw [decide_eq_false (by omega), cond_false, copyR (by omega), cond_true, pAt_eq l n i (by omega), rAt_eq8 l n i (by omega), pList_eq l n (by omega), rList_eq8 l n (by omega), pEncode_eq l n (by omega) hv, rEncode_eq8 l n (by omega) hv, pCheck_eq l n (by omega), rCheck_eq8 l n (by omega)]
    have := listE_len l n
    simp only [Option.bind_some, beq_self_eq_true, cond_true, sameV8 _ (show (listE l n).1.length ≤ 1000000 by omega), eqD_self]
    rw [show List.append ([] : List Rn) l = l from rfl, sameR8 l (by omega)]
    rfl

theorem makes_true8 (x : List Int × Cur × Int) (w : WfL [.slice (.int .u64), .pair (.slice (.int .u8)) (.pair (.int .i64) .unit), .int .i64] x) : claw08_TablesMakes x = some true := by
  obtain ⟨v, c, n⟩ := x
  have hb : Bytes c.1 := fun b hb => by
    have := w.2.1.1.2 b hb
    simpa only [Wf, min_u8, max_u8] using this
  have hn := wf_int w.2.2
  show nlaw08_TablesMakes (v, c, n) = _
  unfold nlaw08_TablesMakes
  dsimp only
  by_cases h1 : v.length > 210
  · rw [decide_eq_true (by omega)]; rfl
  by_cases h2 : c.1.length > 500
  · rw [decide_eq_false (by omega), decide_eq_true (by omega)]; rfl
  rw [decide_eq_false (by omega), decide_eq_false (by omega), cond_false, cond_false, copyV (by simp; omega), cond_true, pMake_eq, rMake_eq8, pDecode_eq c n hb hn, rDecode_eq8 c n hb hn]
  have g1 := makeR_len v
  have g2 := decR_len c n
  simp only [Option.bind_some, sameR8 _ (show (makeR v).1.length ≤ 1000000 by omega), cond_true, beq_self_eq_true, same_self, sameR8 _ (show (decR c n).2.1.length ≤ 1000000 by omega)]
  rw [show List.append ([] : List Int) v = v from rfl, sameV8 v (by omega)]
  simp [eqD_self]

theorem agree_true8 (v : List Int) (w : WfL [.slice (.int .u64)] v) : claw08_TablesAgree v = some true := by
  show nlaw08_TablesAgree (iterV (glaw08_TablesAgree_0 big) big) v = _
  unfold nlaw08_TablesAgree
  by_cases h1 : v.length < 1
  · rw [decide_eq_true (by omega), cond_true, alive08]; rfl
  by_cases h2 : v.length > 200
  · rw [decide_eq_false (by omega), cond_false, decide_eq_true (by omega), cond_true, alive08]; rfl
  have hne : v ≠ [] := fun e => by subst e; simp at h1
  have hf := madeR_fine hne
  have hml := madeR_len v
  have hc : checkR (madeR v) v.length = 0 := checkR_zero.2 ⟨by omega, hf⟩
  have hE : listE (madeR v) v.length = (v, 0) := by
    unfold listE
    rw [if_neg (by simp [hc]), Int.toNat_natCast, list_made]
  rw [decide_eq_false (by omega), decide_eq_false (by omega), cond_false, cond_false, pMake_eq, Option.bind_some, show makeR v = (madeR v, 0) by unfold makeR; rw [if_neg (by omega)]]
  dsimp only
  rw [pList_eq _ _ (by omega), Option.bind_some, hE, pCheck_eq _ _ (by omega), hc]
  simp only [show ((0 : Int) != 0) = false from rfl, cond_false, Option.bind_some, sameV8 v (by omega), Bool.not_true]
  refine range_post (σ := Unit) (g := glaw08_TablesAgree_0 big) (n := v.length) (fun _ i => (v, (i : Int), madeR v)) (fun _ _ => True) (fun r => r = some true) ?_ ?_ v.length 0 big (by simp) (tbig (by omega)) () trivial
  · intro self _ _
    show hlaw08_TablesAgree_0 self _ = _
    unfold hlaw08_TablesAgree_0
    dsimp only
    rw [decide_eq_false (by omega), cond_false, alive08]
    rfl
  · intro self _ i hi _
    left
    refine ⟨(), trivial, ?_⟩
    have hx : v[i]? = some v[i] := List.getElem?_eq_getElem hi
    show hlaw08_TablesAgree_0 self _ = _
    unfold hlaw08_TablesAgree_0
    dsimp only
    rw [decide_eq_true (show (i : Int) < (v.length : Int) by omega), cond_true, pAt_eq _ _ _ (by omega), Option.bind_some, show atR (madeR v) v.length i = (v[i], 0) by unfold atR; rw [if_neg (by simp [hc]), if_pos (by omega), madeR_val hx]]
    rw [show getI v (i : Int) = some v[i] by rw [getI_nat]; exact hx, t64 (by omega) (by omega)]
    simp only [show ((0 : Int) != 0) = false from rfl, cond_false, Option.bind_some, bne_self_eq_false]
    rfl

theorem one_loop (N : Nat) (l m : List Rn) : ∀ (t pre : List Int) (p c : Int) (M : Nat) (n : Int), n = ((pre ++ p :: t).length : Int) → pre.length + t.length ≤ 1000 → 0 ≤ c → c + t.length ≤ 100000 → t.length < M →
    iterV (glaw08_TablesOne_0 N) M (l, n, c, ((pre.length + 1 : Nat) : Int), pre ++ p :: t, m) = ((cref08_Same (l, m)).bind fun x11 => (bif x11 then (bif ((l.length : Int) == c + (changesR p t : Int) + 1) then ((claw08_alive ()).bind fun x13 => (some x13)) else (some false)) else (some false)))
  | [], pre, p, c, M + 1, n, hn, hl, h0, hc, hM => by
    rw [iterV_succ]
    show hlaw08_TablesOne_0 _ _ = _
    unfold hlaw08_TablesOne_0
    dsimp only
    simp only [List.length_append, List.length_cons, List.length_nil] at hn
    rw [decide_eq_false (by omega), cond_false]
    simp only [changesR]
    simp only [List.length_nil] at hc
    rw [t64 (by omega) (by omega)]
    simp
  | x :: t, pre, p, c, M + 1, n, hn, hl, h0, hc, hM => by
    rw [iterV_succ]
    show hlaw08_TablesOne_0 _ _ = _
    unfold hlaw08_TablesOne_0
    dsimp only
    simp only [List.length_cons] at hl hc hM
    have hn2 := hn
    simp only [List.length_append, List.length_cons] at hn
    have e1 : nth (pre ++ p :: x :: t) (Int.toNat ((pre.length + 1 : Nat) : Int)) = some x := by
      show (pre ++ p :: x :: t)[Int.toNat ((pre.length + 1 : Nat) : Int)]? = _
      simp
    have e2 : nth (pre ++ p :: x :: t) (Int.toNat ((pre.length : Nat) : Int)) = some p := by
      show (pre ++ p :: x :: t)[Int.toNat ((pre.length : Nat) : Int)]? = _
      simp
    have e3 : IntKind.i64.wrap (((pre.length + 1 : Nat) : Int) - 1) = ((pre.length : Nat) : Int) := by rw [t64 (by omega) (by omega)]; omega
    have e4 : IntKind.i64.wrap (((pre.length + 1 : Nat) : Int) + 1) = (((pre ++ [p]).length + 1 : Nat) : Int) := by rw [t64 (by omega) (by omega)]; simp
    have eL : ((pre ++ p :: x :: t).length : Int) = n := hn2.symm
    have ih := fun c' h0' hc' => one_loop N l m t (pre ++ [p]) x c' M n (by rw [hn2]; simp) (by simp; omega) h0' hc' (by omega)
    simp only [List.append_assoc, List.singleton_append] at ih
    have b1 : (decide ((0 : Int) ≤ ((pre.length + 1 : Nat) : Int)) && decide (((pre.length + 1 : Nat) : Int) < n)) = true := by rw [decide_eq_true (by omega), decide_eq_true (by omega)]; rfl
    have b2 : (decide ((0 : Int) ≤ ((pre.length : Nat) : Int)) && decide (((pre.length : Nat) : Int) < n)) = true := by rw [decide_eq_true (by omega), decide_eq_true (by omega)]; rfl
    rw [decide_eq_true (show ((pre.length + 1 : Nat) : Int) < n by omega), cond_true, eL]
    rw [b1, cond_true, e1, Option.bind_some, e3, b2, cond_true, e2, Option.bind_some, e4]
    by_cases h : x = p
    · rw [show (x != p) = false by simp [h], cond_false, ih c h0 (by omega)]
      rw [show changesR p (x :: t) = changesR x t by simp [changesR, h]]
    · rw [show (x != p) = true by simpa using h, cond_true, t64 (z := c + 1) (by omega) (by omega), ih (c + 1) (by omega) (by omega)]
      simp only [changesR, if_neg h]
      rw [show c + 1 + (changesR x t : Int) + 1 = c + ((1 + changesR x t : Nat) : Int) + 1 by omega]

theorem one_true8 (x : List Rn × Int) (w : WfL [.slice (.pair (.int .i64) (.pair (.int .u64) .unit)), .int .i64] x) : claw08_TablesOne x = some true := by
  obtain ⟨l, n⟩ := x
  show nlaw08_TablesOne (iterV (glaw08_TablesOne_0 big) big) (l, n) = _
  unfold nlaw08_TablesOne
  dsimp only
  have hl : l.length ≤ 9223372036854775807 := w.1.1
  rw [rCheck_eq8 l n hl, Option.bind_some]
  by_cases h : checkR l n = 0
  · obtain ⟨h1, h2⟩ := checkR_zero.1 h
    have hlen := checkR_len h
    have hfn : fineR l n.toNat = true := by rw [Int.toNat_of_nonneg (by omega)]; exact h2
    have hM : makeR (listR l n.toNat) = (l, 0) := by
      unfold makeR
      rw [if_neg (by rw [listR_len]; omega), made_list hfn]
    rw [h, show ((0 : Int) != 0) = false from rfl, cond_false, pList_eq l n hl, Option.bind_some, show listE l n = (listR l n.toNat, 0) by unfold listE; rw [if_neg (by simp [h])]]
    dsimp only
    rw [pMake_eq, Option.bind_some, hM, listR_len, show (((n.toNat : Nat) : Int) != n) = false by rw [Int.toNat_of_nonneg (by omega)]; simp]
    simp only [show ((0 : Int) != 0) = false from rfl, cond_false]
    have hmk := made_list hfn
    have hll := listR_len l n.toNat
    generalize hv : listR l n.toNat = v at *
    cases v with
    | nil => simp at hll; omega
    | cons p t =>
      simp only [List.length_cons] at hll
      have := one_loop big l l t [] p 0 big n (by simp; omega) (by simp; omega) (by omega) (by omega) (tbig (by omega))
      refine Eq.trans this ?_
      rw [sameR8 l (by omega)]
      have hcl := changes_len (v := t) (k := 1) (p := p)
      have hl2 : l.length = changesR p t + 1 := by rw [← hmk]; simp only [madeR, List.length_cons, hcl]
      rw [show ((l.length : Int) == 0 + (changesR p t : Int) + 1) = true by rw [hl2]; simp, alive08]
      rfl
  · rw [show (checkR l n != 0) = true by simpa using h, cond_true, alive08]
    rfl

theorem back_true8 (x : List Rn × Int × List Int) (w : WfL [.slice (.pair (.int .i64) (.pair (.int .u64) .unit)), .int .i64, .slice (.int .u8)] x) : claw08_TablesBack x = some true := by
  obtain ⟨l, n, b⟩ := x
  have hv := wf_runs w.1
  have hl : l.length ≤ 9223372036854775807 := w.1.1
  have hb : Bytes b := fun c hc => by
    have := w.2.2.2 c hc
    simpa only [Wf, min_u8, max_u8] using this
  show nlaw08_TablesBack (l, n, b) = _
  unfold nlaw08_TablesBack
  dsimp only
  by_cases h1 : b.length > 500
  · rw [decide_eq_true (by omega), cond_true, alive08]; rfl
  by_cases h2 : n < 1
  · rw [decide_eq_false (by omega), decide_eq_true h2, cond_false, cond_true, alive08]; rfl
  by_cases h3 : n > 200
  · rw [decide_eq_false (by omega), decide_eq_false h2, decide_eq_true h3, cond_false, cond_false, cond_true, alive08]; rfl
  rw [decide_eq_false (by omega), decide_eq_false h2, decide_eq_false h3, cond_false, cond_false, cond_false, rCheck_eq8 l n hl, Option.bind_some]
  have hn : -9223372036854775808 ≤ n ∧ n ≤ 9223372036854775807 := by omega
  have hdb : decR (b, ((0 : Int), ())) n = decT b 0 n := by
    unfold decR
    rw [if_pos ⟨by simp only; omega, by simp only; omega, by simp only; omega⟩, if_neg (by omega)]
    rfl
  -- what is read, written again
  have tail : ((ctables_Decode ((b, ((0 : Int), ())), n)).bind fun x14 => (bif (x14.2.2 != (0 : Int)) then ((claw08_alive ()).bind fun x15 => (some x15)) else ((ctables_Encode (x14.2.1, n)).bind fun x16 => (bif (x16.2 == (0 : Int)) then (bif (decide (x14.1.2.1 ≥ (1 : Int))) then (bif (decide (x14.1.2.1 ≤ (List.length b : Int))) then (bif (decide (0 ≤ x14.1.2.1) && decide (x14.1.2.1 ≤ (List.length b : Int))) then (let x17 : (List Int) := (List.take (Int.toNat x14.1.2.1) b); (bif (eqD .str x16.1 x17) then ((claw08_alive ()).bind fun x18 => (some x18)) else (some false))) else none) else (some false)) else (some false)) else (some false))))) = some true := by
    rw [pDecode_eq _ n hb hn, Option.bind_some, hdb, alive08]
    by_cases he : (decT b 0 n).2.2 = 0
    · obtain ⟨g1, g2, g3, g4, g5⟩ := dec_good hb (show n ≤ 200 by omega) he
      have hc : checkR (decT b 0 n).2.1 n = 0 := checkR_zero.2 ⟨by omega, g1⟩
      have hlen := checkR_len hc
      rw [show ((decT b 0 n).2.2 != 0) = false by simp [he], cond_false, pEncode_eq _ n (by omega) g2, Option.bind_some, show encR (decT b 0 n).2.1 n = (codedR (decT b 0 n).2.1, 0) by unfold encR; rw [if_neg (by simp [hc])]]
      dsimp only
      rw [decide_eq_true (show (decT b 0 n).1.2.1 ≥ 1 from g3), decide_eq_true g4, decide_eq_true (show 0 ≤ (decT b 0 n).1.2.1 by omega), g5, eqD_self]
      rfl
    · rw [show ((decT b 0 n).2.2 != 0) = true by simpa using he]
      rfl
  by_cases h : checkR l n = 0
  · obtain ⟨_, hf⟩ := checkR_zero.1 h
    have hlen := checkR_len h
    have hcl : (codedR l).length ≤ 20000 := by
      have key : ∀ (t : List Rn) (w : Int), (segR w t).length ≤ 20 * t.length := by
        intro t
        induction t with
        | nil => intro w; simp [segR]
        | cons r t ih =>
          intro w
          have := ih r.1
          have a1 := vary_len (r.1 - w).toNat
          have a2 := vary_len r.2.1.toNat
          simp only [segR, List.length_append, List.length_cons]
          omega
      have := key l 0
      have a1 := vary_len l.length
      simp only [codedR, List.length_append]
      omega
    have hcb : Bytes (codedR l) := by
      have key : ∀ (t : List Rn) (f v w : Int), inc f v t n = true → 0 ≤ w → w ≤ f + 1 → (∀ r ∈ t, 0 ≤ r.2.1 ∧ r.2.1 < 18446744073709551616) → Bytes (segR w t) := by
        intro t
        induction t with
        | nil => intro f v w _ _ _ _; simp [segR, Bytes]
        | cons r t ih =>
          intro f v w hi h0 hw hv
          obtain ⟨⟨k1, k2, k3⟩, k4⟩ := inc_cons.1 hi
          have hr := hv r (by simp)
          exact bytes_append (vary_bytes (by omega)) (bytes_append (vary_bytes (by omega)) (ih r.1 r.2.1 r.1 k4 (by omega) (by omega) fun x hx => hv x (by simp [hx])))
      obtain ⟨v, hi⟩ := fine_inc hf
      exact bytes_append (vary_bytes (by omega)) (key l (-1) v 0 hi (by omega) (by omega) hv)
    rw [h, show ((0 : Int) == 0) = true from rfl, cond_true, pEncode_eq l n hl hv, Option.bind_some, show encR l n = (codedR l, 0) by unfold encR; rw [if_neg (by simp [h])]]
    dsimp only
    rw [copyV (by simp only [List.length_nil]; omega), cond_true, show List.append ([] : List Int) (codedR l) = codedR l from rfl, copyV (by omega), cond_true, show List.append (codedR l) b = codedR l ++ b from rfl]
    rw [pDecode_eq _ n (bytes_append hcb hb) hn, Option.bind_some, show decR (codedR l ++ b, ((0 : Int), ())) n = decT (codedR l ++ b) 0 n by
      unfold decR
      rw [if_pos ⟨by simp only [List.length_append]; omega, by simp only; omega, by simp only; omega⟩, if_neg (by omega)]
      rfl, dec_coded hf (by omega) (by omega) hv b]
    dsimp only
    rw [sameR8 l (by omega)]
    simp only [show ((0 : Int) != 0) = false from rfl, cond_false, Option.bind_some, Bool.not_true, bne_self_eq_false]
    exact tail
  · rw [show (checkR l n == 0) = false by simpa using h, cond_false]
    exact tail

theorem more_true8 (x : List Rn × Int × Int) (w : WfL [.slice (.pair (.int .i64) (.pair (.int .u64) .unit)), .int .i64, .int .i64] x) : claw08_TablesMore x = some true := by
  obtain ⟨l, n, m⟩ := x
  have hl : l.length ≤ 9223372036854775807 := w.1.1
  show nlaw08_TablesMore (iterV (glaw08_TablesMore_0 big) big) (l, n, m) = _
  unfold nlaw08_TablesMore
  dsimp only
  rw [rCheck_eq8 l n hl, Option.bind_some]
  by_cases h : checkR l n = 0
  · obtain ⟨h1, h2⟩ := checkR_zero.1 h
    rw [h, show ((0 : Int) != 0) = false from rfl, cond_false]
    by_cases a : m < n
    · rw [decide_eq_true a, cond_true, alive08]; rfl
    by_cases b : m > 200
    · rw [decide_eq_false a, decide_eq_true b, cond_false, cond_true, alive08]; rfl
    have hc : checkR l m = 0 := checkR_zero.2 ⟨by omega, fineR_more h2 (by omega)⟩
    rw [decide_eq_false a, decide_eq_false b, cond_false, cond_false, pList_eq l n hl, Option.bind_some, pList_eq l m hl, Option.bind_some, show listE l n = (listR l n.toNat, 0) by unfold listE; rw [if_neg (by simp [h])], show listE l m = (listR l m.toNat, 0) by unfold listE; rw [if_neg (by simp [hc])]]
    dsimp only
    rw [listR_len, listR_len, show (((n.toNat : Nat) : Int) != n) = false by rw [Int.toNat_of_nonneg (by omega)]; simp, show (((m.toNat : Nat) : Int) != m) = false by rw [Int.toNat_of_nonneg (by omega)]; simp]
    simp only [show ((0 : Int) != 0) = false from rfl, cond_false]
    obtain ⟨k, rfl⟩ := Int.eq_ofNat_of_zero_le (show 0 ≤ n by omega)
    obtain ⟨q, rfl⟩ := Int.eq_ofNat_of_zero_le (show 0 ≤ m by omega)
    simp only [Int.toNat_natCast]
    refine range_post (σ := Unit) (g := glaw08_TablesMore_0 big) (n := q) (fun _ i => ((k : Int), (q : Int), (i : Int), listR l k, listR l q)) (fun _ _ => True) (fun r => r = some true) ?_ ?_ q 0 big (by simp) (tbig (by omega)) () trivial
    · intro self _ _
      show hlaw08_TablesMore_0 self _ = _
      unfold hlaw08_TablesMore_0
      dsimp only
      rw [decide_eq_false (by omega), cond_false, alive08]
      rfl
    · intro self _ i hi _
      left
      refine ⟨(), trivial, ?_⟩
      show hlaw08_TablesMore_0 self _ = _
      unfold hlaw08_TablesMore_0
      dsimp only
      have e1 : nth (listR l q) (Int.toNat (i : Int)) = some (valR 0 l (i : Int)) := by
        show (listR l q)[Int.toNat (i : Int)]? = _
        rw [Int.toNat_natCast]
        exact listR_at hi
      have e2 : (if IntKind.i64.wrap ((k : Int) - 1) < (i : Int) then IntKind.i64.wrap ((k : Int) - 1) else (i : Int)) = ((min i (k - 1) : Nat) : Int) := by
        rw [t64 (by omega) (by omega)]
        split <;> omega
      have e3 : nth (listR l k) (Int.toNat ((min i (k - 1) : Nat) : Int)) = some (valR 0 l ((min i (k - 1) : Nat) : Int)) := by
        show (listR l k)[Int.toNat ((min i (k - 1) : Nat) : Int)]? = _
        rw [Int.toNat_natCast]
        exact listR_at (by omega)
      have e4 : valR 0 l (i : Int) = valR 0 l ((min i (k - 1) : Nat) : Int) := by
        by_cases hik : i ≤ k - 1
        · rw [show min i (k - 1) = i by omega]
        · rw [show min i (k - 1) = k - 1 by omega, valR_more h2 (show (k : Int) ≤ (i : Int) + 1 by omega), show (k : Int) - 1 = ((k - 1 : Nat) : Int) by omega]
      rw [decide_eq_true (show (i : Int) < (q : Int) by omega), cond_true, listR_len, listR_len, e2]
      rw [show (decide ((0 : Int) ≤ (i : Int)) && decide ((i : Int) < (q : Int))) = true by rw [decide_eq_true (by omega), decide_eq_true (by omega)]; rfl, cond_true, e1, Option.bind_some]
      rw [show (decide ((0 : Int) ≤ ((min i (k - 1) : Nat) : Int)) && decide (((min i (k - 1) : Nat) : Int) < (k : Int))) = true by rw [decide_eq_true (by omega), decide_eq_true (by omega)]; rfl, cond_true, e3, Option.bind_some, e4, t64 (by omega) (by omega)]
      simp only [bne_self_eq_false, cond_false]
      rfl
  · rw [show (checkR l n != 0) = true by simpa using h, cond_true, alive08]
    rfl
end Go.Proofs.Ytlljcjapefljeaa
