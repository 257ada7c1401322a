/- What the functions of the reference of layer 6 that read compute, and that package ops reads the same. -/
import Derived.Test.YtinhcjeilebooaaDoorOpsB
set_option linter.unusedVariables false
set_option linter.unusedSimpArgs false
set_option maxRecDepth 100000
namespace Go.Proofs.YtinhcjeilebooaaDoor
open Go.Lift

/-! ### the reference's letters -/
def ltr (r : Int) : Int := ([45, 114, 119, 101, 103, 110, 98, 116, 102, 99, 105] : List Int).getD r.toNat 0
theorem shape_all : ((List.range 256).all fun k => decide (cref06_Shape (k : Int) = some (if isOp k then (rol k).map ltr else []))) = true := by decide +kernel
theorem Shape_eq {o : Int} (h0 : 0 ≤ o) (h1 : o ≤ 255) : cref06_Shape o = some (if isOp o then (rol o).map ltr else []) := by
  obtain ⟨k, rfl⟩ := Int.eq_ofNat_of_zero_le h0
  simpa using List.all_eq_true.1 shape_all k (List.mem_range.2 (by omega))
theorem rFits_eq (r n : Int) (h : Rl r) : cref06_Fits (ltr r, n) = some (fit r n) := by
  rcases rl_cases h with rfl | rfl | rfl | rfl | rfl | rfl | rfl | rfl | rfl | rfl | rfl <;>
    simp [cref06_Fits, mref06_Fits, nref06_Fits, ltr, fit, idx, beqd]
  · by_cases h0 : 0 ≤ n <;> simp [h0]
  · by_cases h0 : 0 ≤ n <;> simp [h0]
  · by_cases h0 : n = -1
    · simp [h0]
    · by_cases h1 : 0 ≤ n
      · simp [h0, h1, show -1 ≤ n by omega]
      · simp [h0, h1, show ¬ -1 ≤ n by omega]
  · by_cases h0 : n = -1
    · simp [h0]
    · by_cases h1 : 0 ≤ n
      · simp [h0, h1, show -1 ≤ n by omega]
      · simp [h0, h1, show ¬ -1 ≤ n by omega]
  · by_cases h0 : 0 ≤ n <;> simp [h0]
  · by_cases h0 : 0 ≤ n <;> simp [h0]
  · by_cases h0 : 0 ≤ n <;> simp [h0]
  · by_cases h0 : 0 ≤ n <;> simp [h0]
  · by_cases h0 : 0 ≤ n <;> simp [h0]
theorem rSigned_eq (r : Int) (h : Rl r) : cref06_Signed (ltr r) = some (sg r) := by
  rcases rl_cases h with rfl | rfl | rfl | rfl | rfl | rfl | rfl | rfl | rfl | rfl | rfl <;> rfl
theorem ltr_0 (r : Int) (h : Rl r) : (ltr r == (45 : Int)) = decide (r = 0) := by
  rcases rl_cases h with rfl | rfl | rfl | rfl | rfl | rfl | rfl | rfl | rfl | rfl | rfl <;> rfl

/-! ### the reference's reader -/
def q (r : Int) (n : Nat) : Int := if sg r then half n else ((n % 1000 : Nat) : Int)
def qf (r : Int) (n : Nat) : Bool := (sg r || decide (n < 1000)) && fit r (q r n)
def qL : List Int → List Nat → List Int
  | r :: rs, n :: ns => q r n :: qL rs ns
  | _, _ => []
def qfL : List Int → List Nat → Bool
  | r :: rs, n :: ns => qf r n && qfL rs ns
  | _, _ => true
def rEnd (op : Int) (bs : List Int) (t : Int × Nat × List Nat) (f : Bool) (vs : List Int) : Cur × Ins × Int :=
  if t.1 ≠ 0 then (zc, zi, t.1) else if f then ((bs, ((t.2.1 : Int), ())), mkI op vs, 0) else (zc, zi, 12)

theorem rRead1 (bs : List Int) (a : Nat) (h1 : bs.length ≤ 200000) (h2 : a ≤ bs.length) (hb : Bytes bs) : cref02_Read (bs, ((a : Int), ())) = some (if (rd 10 0 (bs.drop a)).2.2 = 0 then ((bs, (((a + (rd 10 0 (bs.drop a)).2.1 : Nat) : Int), ())), ((rd 10 0 (bs.drop a)).1 : Int), 0) else (zc, 0, (rd 10 0 (bs.drop a)).2.2)) := by
  rw [rRead_eq _ hb (valid_at h1 h2)]
  simp only [Int.toNat_natCast, outr]
  congr 2
  simp

theorem rdec_run (N : Nat) (op : Int) (bs : List Int) (h1 : bs.length ≤ 200000) (hb : Bytes bs) (u : Int × Unit) (z : List Int) (zx : Ins) (rs : List Int) (hrl : ∀ r ∈ rs, Rl r) : ∀ (rs' : List Int) (M i a : Nat) (f : Bool) (pv : List Int), rs.drop i = rs' → i + rs'.length = 3 → pv.length = i → a ≤ bs.length → rs'.length < M →
    iterV (gref06_Read_0 N) M (op, rs.map ltr, f, (i : Int), u, z, zx, (bs, ((a : Int), ())), pv ++ List.replicate rs'.length 0) = some (rEnd op bs (rdL bs rs' a) (f && qfL rs' (rdL bs rs' a).2.2) (pv ++ qL rs' (rdL bs rs' a).2.2))
  | [], M + 1, i, a, f, pv, hd, hi, hp, ha, hM => by
    rw [iterV_succ]
    show href06_Read_0 _ _ = _
    unfold href06_Read_0
    dsimp only
    simp only [List.length_nil, Nat.add_zero] at hi
    subst hi
    obtain ⟨A, B, C, rfl⟩ := len3 hp
    rw [decide_eq_false (by omega), cond_false]
    simp only [List.length_nil, List.replicate_zero, List.append_nil, rdL, qL, qfL, Bool.and_true, rEnd, ne_eq, not_true_eq_false, if_false]
    cases f <;> rfl
  | r :: rs', M + 1, i, a, f, pv, hd, hi, hp, ha, hM => by
    rw [iterV_succ]
    show href06_Read_0 _ _ = _
    unfold href06_Read_0
    dsimp only
    simp only [List.length_cons] at hi hM
    have hri : rs[i]? = some r := by
      have := congrArg (fun l => l[0]?) hd
      simpa using this
    have hr : getI (rs.map ltr) (i : Int) = some (ltr r) := by rw [getI_nat]; simp [hri]
    have hl : Rl r := hrl r (List.mem_of_getElem? hri)
    have hd' : rs.drop (i + 1) = rs' := by
      have := congrArg List.tail hd
      simpa [List.tail_drop] using this
    have hw : IntKind.i64.wrap ((i : Int) + 1) = ((i + 1 : Nat) : Int) := by rw [wrap_i64 (by omega) (by omega)]; simp
    rw [decide_eq_true (show (i : Int) < 3 by omega), cond_true, hr, Option.bind_some, hw, ltr_0 r hl]
    by_cases h0 : r = 0
    · subst h0
      rw [decide_eq_true rfl, cond_true]
      have := rdec_run N op bs h1 hb u z zx rs hrl rs' M (i + 1) a f (pv ++ [0]) hd' (by omega) (by simp [hp]) ha (by omega)
      rw [show pv ++ List.replicate (0 :: rs').length (0 : Int) = pv ++ [0] ++ List.replicate rs'.length 0 by simp [List.replicate_succ]]
      rw [this]
      simp only [rdL, if_true, qL, qfL, show q 0 0 = 0 from rfl, show qf 0 0 = true from rfl, Bool.true_and, List.append_assoc, List.singleton_append, rEnd]
    · rw [decide_eq_false h0, cond_false, rRead1 bs a h1 ha hb, Option.bind_some, decide_eq_true (show (0 : Int) ≤ (i : Int) by omega)]
      simp only [Bool.and_self, cond_true, rdL, if_neg h0]
      by_cases h : (rd 10 0 (bs.drop a)).2.2 = 0
      · obtain ⟨g1, g2, g3, g4⟩ := rd_good (bytes_drop hb a) h
        simp only [if_pos h]
        rw [show ((0 : Int) != 0) = false from rfl, cond_false]
        simp only [rSigned_eq r hl, Option.bind_some, half_eq _ g1, cond_true]
        have hset : ∀ v : Int, List.set (pv ++ List.replicate (r :: rs').length (0 : Int)) ((i : Int).toNat) v = pv ++ [v] ++ List.replicate rs'.length 0 := fun v => by
          rw [Int.toNat_natCast, List.set_append_right _ _ (by omega), hp, Nat.sub_self]
          simp [List.replicate_succ]
        have hnth : ∀ v : Int, nth (pv ++ [v] ++ List.replicate rs'.length 0) ((i : Int).toNat) = some v := fun v => by
          show (pv ++ [v] ++ List.replicate rs'.length 0)[(i : Int).toNat]? = _
          simp [← hp]
        simp only [List.length_drop] at g2
        have ih : ∀ (f' : Bool) (v : Int), iterV (gref06_Read_0 N) M (op, rs.map ltr, f', ((i + 1 : Nat) : Int), u, z, zx, (bs, (((a + (rd 10 0 (bs.drop a)).2.1 : Nat) : Int), ())), pv ++ [v] ++ List.replicate rs'.length 0) = _ := fun f' v =>
          rdec_run N op bs h1 hb u z zx rs hrl rs' M (i + 1) (a + (rd 10 0 (bs.drop a)).2.1) f' (pv ++ [v]) hd' (by omega) (by simp [hp]) (by omega) (by omega)
        simp only [hset, hnth, Option.bind_some, rFits_eq r _ hl, ih]
        generalize hm : (rd 10 0 (bs.drop a)).1 = m at *
        have e1 : ((m : Nat) : Int).tmod 1000 = ((m % 1000 : Nat) : Int) := tmod_nat m 1000
        have e2 : IntKind.i64.wrap ((m % 1000 : Nat) : Int) = ((m % 1000 : Nat) : Int) := by rw [wrap_i64 (by omega) (by omega)]
        have e3 : decide ((m : Int) < 1000) = decide (m < 1000) := decide_eq_decide.2 (by omega)
        simp only [e1, e2, e3, qL, qfL, qf, q]
        cases sg r <;> cases f <;> cases decide (m < 1000) <;> simp [rEnd]
      · simp only [if_neg h]
        rw [show ((rd 10 0 (bs.drop a)).2.2 != 0) = true by simpa using h, cond_true]
        simp only [rEnd, ne_eq, h, not_false_eq_true, if_true]
        rfl

def rdecAt (bs : List Int) (a : Nat) : Cur × Ins × Int :=
  match bs[a]? with
  | none => (zc, zi, 24)
  | some o => if isOp o then rEnd o bs (rdL bs (rol o) (a + 1)) (qfL (rol o) (rdL bs (rol o) (a + 1)).2.2) (qL (rol o) (rdL bs (rol o) (a + 1)).2.2) else (zc, zi, 12)

theorem rDecode_eq (c : Cur) (hb : Bytes c.1) : cref06_Decode c = some (if Valid c then rdecAt c.1 c.2.1.toNat else (zc, zi, 8)) := by
  show nref06_Decode c = _
  unfold nref06_Decode
  rw [check_eq c, Option.bind_some]
  by_cases hv : Valid c
  · obtain ⟨bs, at_, u⟩ := c
    have hv' := hv
    obtain ⟨h1, h2, h3⟩ := hv
    simp only at h1 h2 h3 hb
    obtain ⟨a, rfl⟩ := Int.eq_ofNat_of_zero_le h2
    rw [if_pos hv', if_pos hv', show ((0 : Int) != 0) = false from rfl, cond_false]
    have key : cref06_Read (bs, ((a : Int), u)) = some (rdecAt bs a) := by
      show nref06_Read (iterV (gref06_Read_0 big) big) (bs, ((a : Int), u)) = _
      unfold nref06_Read rdecAt
      dsimp only
      by_cases ha : a < bs.length
      · have e : bs[a]? = some bs[a] := List.getElem?_eq_getElem ha
        have hbb := hb bs[a] (List.getElem_mem ha)
        rw [show (((a : Int) == (bs.length : Int))) = false by rw [beqd]; exact decide_eq_false (by omega), cond_false, getI_nat, e, Option.bind_some, Shape_eq hbb.1 hbb.2, Option.bind_some]
        generalize hO : bs[a] = o at *
        simp only
        cases ho : isOp o with
        | false => rfl
        | true =>
          obtain ⟨p, q', r, e3, hp, hq, hr⟩ := rol_three ho
          simp only [if_true]
          rw [show (((List.map ltr (rol o)).length : Int) != 3) = false by rw [e3]; rfl, cond_false, show IntKind.i64.wrap ((a : Int) + 1) = ((a + 1 : Nat) : Int) by rw [wrap_i64 (by omega) (by omega)]; simp]
          have := rdec_run big o bs h1 hb ((0 : Int), ()) [] zi (rol o) (by rw [e3]; intro x hx; simp at hx; rcases hx with rfl | rfl | rfl <;> assumption) (rol o) big 0 (a + 1) true [] rfl (by rw [e3]; rfl) rfl (by omega) (by rw [e3]; exact (by decide : 3 < big))
          simp only [List.nil_append, Bool.true_and] at this
          rw [show (List.replicate 3 (0 : Int)) = List.replicate (rol o).length 0 by rw [e3]; rfl]
          exact this
      · have ea : a = bs.length := by omega
        rw [show (((a : Int) == (bs.length : Int))) = true by rw [beqd]; exact decide_eq_true (by omega), cond_true, List.getElem?_eq_none (by omega)]
        rfl
    rw [key]
    rfl
  · rw [if_neg hv, if_neg hv]
    rfl

/-! ### both readers are alike -/
theorem rdL_lt (bs : List Int) (hb : Bytes bs) : ∀ (rs : List Int) (a : Nat), ∀ n ∈ (rdL bs rs a).2.2, n < 18446744073709551616
  | [], a, n, h => by simp [rdL] at h
  | r :: rs, a, n, h => by
    simp only [rdL] at h
    split at h
    · rcases List.mem_cons.1 h with rfl | h
      · omega
      · exact rdL_lt bs hb rs a n h
    · split at h
      · rename_i h0
        rcases List.mem_cons.1 h with rfl | h
        · exact (rd_good (bytes_drop hb a) h0).1
        · exact rdL_lt bs hb rs _ n h
      · simp at h

theorem vq {r : Int} {n : Nat} (hr : Rl r) (hn : n < 18446744073709551616) : fit r (vl r n) = qf r n ∧ (qf r n = true → vl r n = q r n) := by
  unfold vl qf q
  cases hs : sg r with
  | true => simp
  | false =>
    simp only [Bool.false_or, Bool.false_eq_true, if_false]
    by_cases h : n < 1000
    · have e : n % 1000 = n := by omega
      simp only [h, decide_true, Bool.true_and, e, if_pos (show n ≤ 9223372036854775807 by omega), and_self, implies_true]
    · simp only [h, decide_false, Bool.false_and, Bool.false_eq_true, false_implies, and_true]
      cases hf : fit r (if n ≤ 9223372036854775807 then (n : Int) else 9223372036854775807) with
      | false => rfl
      | true =>
        have := fit_low hr hf hs
        split at this <;> omega

theorem vqL : ∀ (rs : List Int) (ns : List Nat), (∀ r ∈ rs, Rl r) → (∀ n ∈ ns, n < 18446744073709551616) → fitL rs (vlL rs ns) = qfL rs ns ∧ (qfL rs ns = true → vlL rs ns = qL rs ns)
  | [], ns, _, _ => by simp [vlL, qL, qfL, fitL]
  | _ :: _, [], _, _ => by simp [vlL, qL, qfL, fitL]
  | r :: rs, n :: ns, hr, hn => by
    obtain ⟨h1, h2⟩ := vq (hr r (by simp)) (hn n (by simp))
    obtain ⟨h3, h4⟩ := vqL rs ns (fun x hx => hr x (by simp [hx])) (fun x hx => hn x (by simp [hx]))
    simp only [vlL, qL, qfL, fitL, h1, h3, Bool.and_eq_true]
    exact ⟨trivial, fun ⟨a, b⟩ => by rw [h2 a, h4 b]⟩

theorem okI_mk {o : Int} (ho : isOp o = true) {vs : List Int} (hv : vs.length = 3) : okI (mkI o vs) = fitL (rol o) vs := by
  obtain ⟨A, B, C, rfl⟩ := len3 hv
  show (isOp o && fitL (rol o) [A, B, C]) = _
  rw [ho, Bool.true_and]

theorem dec_alike (bs : List Int) (hb : Bytes bs) (a : Nat) : decAt bs a = rdecAt bs a := by
  unfold decAt rdecAt
  cases e : bs[a]? with
  | none => rfl
  | some o =>
    simp only
    cases ho : isOp o with
    | false => rfl
    | true =>
      simp only [if_true]
      obtain ⟨p, q', r, e3, hp, hq, hr⟩ := rol_three ho
      have hR : ∀ x ∈ rol o, Rl x := by rw [e3]; intro x hx; simp at hx; rcases hx with rfl | rfl | rfl <;> assumption
      obtain ⟨h1, h2⟩ := vqL (rol o) (rdL bs (rol o) (a + 1)).2.2 hR (rdL_lt bs hb _ _)
      unfold decEnd rEnd
      by_cases he : (rdL bs (rol o) (a + 1)).1 = 0
      · have hlen : (rol o).length = (rdL bs (rol o) (a + 1)).2.2.length := (rdL_len bs _ _ he).symm
        have h3 : (rol o).length = 3 := by rw [e3]; rfl
        rw [okI_mk ho (by rw [vlL_len _ _ hlen, h3]), h1]
        cases hf : qfL (rol o) (rdL bs (rol o) (a + 1)).2.2 with
        | false => rfl
        | true => rw [h2 hf]
      · simp [he]

end Go.Proofs.YtinhcjeilebooaaDoor
