/- Reading runs: the reference's reader; what was written is read; what is read, written again, gives what was read. -/
import Derived.Test.YtlljcjapefljeaaTabC
set_option linter.unusedVariables false
set_option linter.unusedSimpArgs false
set_option maxRecDepth 100000
namespace Go.Proofs.Ytlljcjapefljeaa
open Go.Lift

/-- pairs of numbers, one behind the other: error, where it ends, the pairs -/
def rdP (bs : List Int) : Nat → Nat → Int × Nat × List (Nat × Nat)
  | 0, a => (0, a, [])
  | k + 1, a =>
    if (rd 10 0 (bs.drop a)).2.2 = 0 then
      if (rd 10 0 (bs.drop (a + (rd 10 0 (bs.drop a)).2.1))).2.2 = 0 then
        ((rdP bs k (a + (rd 10 0 (bs.drop a)).2.1 + (rd 10 0 (bs.drop (a + (rd 10 0 (bs.drop a)).2.1))).2.1)).1, (rdP bs k (a + (rd 10 0 (bs.drop a)).2.1 + (rd 10 0 (bs.drop (a + (rd 10 0 (bs.drop a)).2.1))).2.1)).2.1,
          ((rd 10 0 (bs.drop a)).1, (rd 10 0 (bs.drop (a + (rd 10 0 (bs.drop a)).2.1))).1) :: (rdP bs k (a + (rd 10 0 (bs.drop a)).2.1 + (rd 10 0 (bs.drop (a + (rd 10 0 (bs.drop a)).2.1))).2.1)).2.2)
      else ((rd 10 0 (bs.drop (a + (rd 10 0 (bs.drop a)).2.1))).2.2, 0, [])
    else ((rd 10 0 (bs.drop a)).2.2, 0, [])
def sat1 (w b : Int) : Int := if 1000 < w + (if 1000 < b then 1000 else b) then 1000 else w + (if 1000 < b then 1000 else b)
def satR : Int → List (Nat × Nat) → List Rn
  | _, [] => []
  | w, p :: ps => (sat1 w p.1, (p.2 : Int), ()) :: satR (sat1 w p.1) ps
def decF (bs : List Int) (n : Int) (out : List Rn) (w : Int) (z : Int × Nat × List (Nat × Nat)) : Cur × List Rn × Int :=
  if z.1 ≠ 0 then (zc, [], z.1) else if fineR (out ++ satR w z.2.2) n = true then ((bs, ((z.2.1 : Int), ())), out ++ satR w z.2.2, 0) else (zc, [], 12)
def decT (bs : List Int) (a : Nat) (n : Int) : Cur × List Rn × Int :=
  if (rd 10 0 (bs.drop a)).2.2 ≠ 0 then (zc, [], (rd 10 0 (bs.drop a)).2.2) else if ((rd 10 0 (bs.drop a)).1 : Int) > n then (zc, [], 4) else decF bs n [] 0 (rdP bs (rd 10 0 (bs.drop a)).1 (a + (rd 10 0 (bs.drop a)).2.1))
def decR (c : Cur) (n : Int) : Cur × List Rn × Int := if Valid c then (if n < 1 ∨ n > 200 then (zc, [], 2) else decT c.1 c.2.1.toNat n) else (zc, [], 8)

theorem sat1_range {w : Int} {b : Nat} (h0 : 0 ≤ w) : 0 ≤ sat1 w b ∧ sat1 w b ≤ 1000 := by
  unfold sat1
  split <;> split at * <;> omega
theorem satR_len : ∀ (w : Int) (ps : List (Nat × Nat)), (satR w ps).length = ps.length
  | _, [] => rfl
  | w, p :: ps => by simp [satR, satR_len]

theorem read_loop8 (N : Nat) (n k : Int) (bs : List Int) (h1 : bs.length ≤ 200000) (hb : Bytes bs) (u : Int × Unit) (z : List Int) : ∀ (m i a : Nat) (w : Int) (out : List Rn) (M : Nat), (i : Int) + m = k → 0 ≤ w → w ≤ 1000 → a ≤ bs.length → out.length + m ≤ 1000000 → i + m ≤ 1000000 → m < M →
    iterV (gref08_Read_0 N) M (n, k, w, (i : Int), u, z, (bs, ((a : Int), ())), out) = some (decF bs n out w (rdP bs m a))
  | 0, i, a, w, out, M + 1, hk, hw0, hw1, ha, ho, hi, hM => by
    rw [iterV_succ]
    show href08_Read_0 _ _ = _
    unfold href08_Read_0
    dsimp only
    rw [decide_eq_false (show ¬ (i : Int) < k by omega), cond_false, Fine_eq8 out n (by omega), Option.bind_some]
    simp only [decF, rdP, satR, List.append_nil, ne_eq, not_true_eq_false, if_false]
    cases fineR out n <;> rfl
  | m + 1, i, a, w, out, M + 1, hk, hw0, hw1, ha, ho, hi, hM => by
    rw [iterV_succ]
    show href08_Read_0 _ _ = _
    unfold href08_Read_0
    dsimp only
    rw [decide_eq_true (show (i : Int) < k by omega), cond_true, rRead1 bs a h1 ha hb, Option.bind_some]
    unfold rdP
    by_cases hx : (rd 10 0 (bs.drop a)).2.2 = 0
    · obtain ⟨x1, x2, x3, x4⟩ := rd_good (bytes_drop hb a) hx
      simp only [List.length_drop] at x2
      simp only [if_pos hx]
      rw [show ((0 : Int) != 0) = false from rfl, cond_false, rRead1 bs _ h1 (by omega) hb, Option.bind_some]
      by_cases hy : (rd 10 0 (bs.drop (a + (rd 10 0 (bs.drop a)).2.1))).2.2 = 0
      · obtain ⟨y1, y2, y3, y4⟩ := rd_good (bytes_drop hb _) hy
        simp only [List.length_drop] at y2
        simp only [if_pos hy]
        rw [show ((0 : Int) != 0) = false from rfl, cond_false]
        have hs := sat1_range (b := (rd 10 0 (bs.drop a)).1) hw0
        have e1 : IntKind.u64.wrap (w + (if (1000 : Int) < ((rd 10 0 (bs.drop a)).1 : Int) then (1000 : Int) else ((rd 10 0 (bs.drop a)).1 : Int))) = w + (if (1000 : Int) < ((rd 10 0 (bs.drop a)).1 : Int) then (1000 : Int) else ((rd 10 0 (bs.drop a)).1 : Int)) := by
          rw [wrap_u64]; split <;> omega
        rw [e1]
        rw [show (if (1000 : Int) < w + (if (1000 : Int) < ((rd 10 0 (bs.drop a)).1 : Int) then (1000 : Int) else ((rd 10 0 (bs.drop a)).1 : Int)) then (1000 : Int) else w + (if (1000 : Int) < ((rd 10 0 (bs.drop a)).1 : Int) then (1000 : Int) else ((rd 10 0 (bs.drop a)).1 : Int))) = sat1 w ((rd 10 0 (bs.drop a)).1 : Int) from rfl]
        have ih := read_loop8 N n k bs h1 hb u z m (i + 1) (a + (rd 10 0 (bs.drop a)).2.1 + (rd 10 0 (bs.drop (a + (rd 10 0 (bs.drop a)).2.1))).2.1) (sat1 w ((rd 10 0 (bs.drop a)).1 : Int)) (out ++ [(sat1 w ((rd 10 0 (bs.drop a)).1 : Int), ((rd 10 0 (bs.drop (a + (rd 10 0 (bs.drop a)).2.1))).1 : Int), ())]) M (by omega) hs.1 hs.2 (by omega) (by simp; omega) (by omega) (by omega)
        generalize rd 10 0 (bs.drop (a + (rd 10 0 (bs.drop a)).2.1)) = y at *
        generalize rd 10 0 (bs.drop a) = x at *
        rw [t64 (by omega) (by omega), show Nat.ble 1 2 = true from rfl, ble_lim (by simp; omega), Bool.and_self, cond_true, show IntKind.u64.wrap ((i : Int) + 1) = ((i + 1 : Nat) : Int) by rw [wrap_u64]; omega]
        rw [show List.append out [(sat1 w (x.1 : Int), (y.1 : Int), ())] = out ++ [(sat1 w (x.1 : Int), (y.1 : Int), ())] from rfl, ih]
        simp only [decF, satR, List.append_assoc, List.singleton_append]
        rfl
      · simp only [if_neg hy]
        rw [show ((rd 10 0 (bs.drop (a + (rd 10 0 (bs.drop a)).2.1))).2.2 != 0) = true by simpa using hy, cond_true]
        simp only [decF, ne_eq, hy, not_false_eq_true, if_true]
        rfl
    · simp only [if_neg hx]
      rw [show ((rd 10 0 (bs.drop a)).2.2 != 0) = true by simpa using hx, cond_true]
      simp only [decF, ne_eq, hx, not_false_eq_true, if_true]
      rfl

theorem rDecode_eq8 (c : Cur) (n : Int) (hb : Bytes c.1) (hn : -9223372036854775808 ≤ n ∧ n ≤ 9223372036854775807) : cref08_Decode (c, n) = some (decR c n) := by
  show nref08_Decode (c, n) = _
  unfold nref08_Decode decR
  dsimp only
  rw [check_eq c, Option.bind_some]
  by_cases hv : Valid c
  · rw [if_pos hv, if_pos hv, show ((0 : Int) != 0) = false from rfl, cond_false]
    by_cases h1 : n < 1
    · rw [decide_eq_true h1, if_pos (.inl h1)]; rfl
    by_cases h2 : n > 200
    · rw [decide_eq_false h1, decide_eq_true h2, if_pos (.inr h2)]; rfl
    rw [decide_eq_false h1, decide_eq_false h2, if_neg (by omega), cond_false, cond_false]
    obtain ⟨bs, at_, u⟩ := c
    obtain ⟨g1, g2, g3⟩ := hv
    simp only at g1 g2 g3 hb
    obtain ⟨a, rfl⟩ := Int.eq_ofNat_of_zero_le g2
    have key : cref08_Read ((bs, ((a : Int), ())), n) = some (decT bs a n) := by
      show nref08_Read (iterV (gref08_Read_0 big) big) ((bs, ((a : Int), ())), n) = _
      unfold nref08_Read decT
      dsimp only
      rw [rRead1 bs a g1 (by omega) hb, Option.bind_some, show IntKind.u64.wrap n = n by rw [wrap_u64]; omega]
      by_cases hx : (rd 10 0 (bs.drop a)).2.2 = 0
      · obtain ⟨x1, x2, x3, x4⟩ := rd_good (bytes_drop hb a) hx
        simp only [List.length_drop] at x2
        simp only [if_pos hx]
        rw [if_neg (by simp [hx]), show ((0 : Int) == 0) = true from rfl, cond_true, show ((0 : Int) != 0) = false from rfl, cond_false]
        by_cases hk : ((rd 10 0 (bs.drop a)).1 : Int) > n
        · rw [decide_eq_true hk, if_pos hk]; rfl
        · rw [decide_eq_false hk, if_neg hk, cond_false]
          exact read_loop8 big n _ bs g1 hb (0, ()) [] (rd 10 0 (bs.drop a)).1 0 (a + (rd 10 0 (bs.drop a)).2.1) 0 [] big (by omega) (by omega) (by omega) (by omega) (by simp only [List.length_nil]; omega) (by omega) (tbig (by omega))
      · simp only [if_neg hx]
        rw [if_pos hx, show ((rd 10 0 (bs.drop a)).2.2 == 0) = false by simpa using hx, cond_false, show ((rd 10 0 (bs.drop a)).2.2 != 0) = true by simpa using hx, cond_true]
        rfl
    show ((cref08_Read ((bs, ((a : Int), ())), n)).bind fun x5 => some (x5.1, x5.2.1, x5.2.2)) = _
    rw [key]
    rfl
  · rw [if_neg hv, if_neg hv]
    rfl

/-! ### what was written is read -/
def pairsR : Int → List Rn → List (Nat × Nat)
  | _, [] => []
  | w, r :: l => ((r.1 - w).toNat, r.2.1.toNat) :: pairsR r.1 l
theorem sat_pairs {n : Int} (hn : n ≤ 200) : ∀ {t : List Rn} {f v w : Int}, inc f v t n = true → 0 ≤ w → w ≤ f + 1 → (∀ r ∈ t, 0 ≤ r.2.1 ∧ r.2.1 < 18446744073709551616) → satR w (pairsR w t) = t
  | [], _, _, _, _, _, _, _ => rfl
  | r :: t, f, v, w, hi, h0, h1, hv => by
    obtain ⟨⟨k1, k2, k3⟩, k4⟩ := inc_cons.1 hi
    have hr := hv r (by simp)
    have e : sat1 w (((r.1 - w).toNat : Nat) : Int) = r.1 := by
      unfold sat1
      split <;> split at * <;> omega
    simp only [pairsR, satR, e]
    rw [sat_pairs hn k4 (by omega) (by omega) fun x hx => hv x (by simp [hx])]
    obtain ⟨a, b, c⟩ := r
    simp only at hr ⊢
    rw [Int.toNat_of_nonneg hr.1]
theorem seg_rd (rest : List Int) {n : Int} (hn : n ≤ 200) : ∀ {t : List Rn} {f v w : Int} (pre : List Int), inc f v t n = true → 0 ≤ w → w ≤ f + 1 → (∀ r ∈ t, 0 ≤ r.2.1 ∧ r.2.1 < 18446744073709551616) →
    rdP (pre ++ (segR w t ++ rest)) t.length pre.length = (0, pre.length + (segR w t).length, pairsR w t)
  | [], _, _, _, pre, _, _, _, _ => by simp [rdP, segR, pairsR]
  | r :: t, f, v, w, pre, hi, h0, h1, hv => by
    obtain ⟨⟨k1, k2, k3⟩, k4⟩ := inc_cons.1 hi
    have hr := hv r (by simp)
    have l1 : (r.1 - w).toNat < 18446744073709551616 := by omega
    have l2 : r.2.1.toNat < 18446744073709551616 := by omega
    have ih := seg_rd rest hn (t := t) (pre ++ vary (r.1 - w).toNat ++ vary r.2.1.toNat) k4 (by omega : 0 ≤ r.1) (by omega) fun x hx => hv x (by simp [hx])
    have e0 : pre ++ (segR w (r :: t) ++ rest) = pre ++ vary (r.1 - w).toNat ++ vary r.2.1.toNat ++ (segR r.1 t ++ rest) := by simp [segR]
    have e1 : (pre ++ vary (r.1 - w).toNat ++ vary r.2.1.toNat ++ (segR r.1 t ++ rest)).drop pre.length = vary (r.1 - w).toNat ++ (vary r.2.1.toNat ++ (segR r.1 t ++ rest)) := by simp
    have e2 : (pre ++ vary (r.1 - w).toNat ++ vary r.2.1.toNat ++ (segR r.1 t ++ rest)).drop (pre.length + (vary (r.1 - w).toNat).length) = vary r.2.1.toNat ++ (segR r.1 t ++ rest) := by
      rw [show pre.length + (vary (r.1 - w).toNat).length = (pre ++ vary (r.1 - w).toNat).length by simp, List.append_assoc (pre ++ vary (r.1 - w).toNat), List.drop_left]
    rw [e0, List.length_cons]
    unfold rdP
    simp only [e1, rd_of_vary _ _ l1, if_true, e2, rd_of_vary _ _ l2]
    rw [show pre.length + (vary (r.1 - w).toNat).length + (vary r.2.1.toNat).length = (pre ++ vary (r.1 - w).toNat ++ vary r.2.1.toNat).length by simp [Nat.add_assoc], ih]
    simp [segR, pairsR]
    omega

theorem fine_inc {l : List Rn} {n : Int} (h : fineR l n = true) : ∃ v, inc (-1) v l n = true := by
  cases l with
  | nil => exact ⟨0, rfl⟩
  | cons r t =>
    simp only [fineR, Bool.and_eq_true, decide_eq_true_eq] at h
    exact ⟨r.2.1 - 1, inc_cons.2 ⟨⟨by omega, by omega, by omega⟩, by rw [h.1.1]; exact h.2⟩⟩
theorem dec_coded_at {l : List Rn} {n : Int} (h : fineR l n = true) (hn0 : 0 ≤ n) (hn : n ≤ 200) (hv : V64 l) (pre rest : List Int) : decT (pre ++ (codedR l ++ rest)) pre.length n = ((pre ++ (codedR l ++ rest), (((pre.length + (codedR l).length : Nat) : Int), ())), l, 0) := by
  obtain ⟨v, hi⟩ := fine_inc h
  have hlen := fineR_len (l := l) (n := n.toNat) (by rw [Int.toNat_of_nonneg hn0]; exact h)
  unfold decT
  rw [List.drop_left]
  have e0 : rd 10 0 (codedR l ++ rest) = (l.length, (vary l.length).length, 0) := by
    rw [codedR, List.append_assoc]
    exact rd_of_vary _ _ (by omega)
  rw [e0]
  have hr := seg_rd rest hn (pre ++ vary l.length) hi (by omega : (0 : Int) ≤ 0) (by omega) hv
  rw [show pre ++ vary l.length ++ (segR 0 l ++ rest) = pre ++ (codedR l ++ rest) by simp [codedR], List.length_append] at hr
  rw [if_neg (by simp), if_neg (by omega), hr]
  unfold decF
  rw [if_neg (by simp), List.nil_append, sat_pairs hn hi (by omega) (by omega) hv, if_pos h]
  simp [codedR, Nat.add_assoc]
theorem dec_coded {l : List Rn} {n : Int} (h : fineR l n = true) (hn0 : 0 ≤ n) (hn : n ≤ 200) (hv : V64 l) (rest : List Int) : decT (codedR l ++ rest) 0 n = ((codedR l ++ rest, (((codedR l).length : Int), ())), l, 0) := by
  have := dec_coded_at h hn0 hn hv [] rest
  simpa using this

/-! ### what is read, written again -/
theorem rdP_back (bs : List Int) (hb : Bytes bs) {n : Int} (hn : n ≤ 200) : ∀ (k a : Nat) {f v w : Int}, a ≤ bs.length → (rdP bs k a).1 = 0 → 0 ≤ w → inc f v (satR w (rdP bs k a).2.2) n = true →
    (rdP bs k a).2.2.length = k ∧ a ≤ (rdP bs k a).2.1 ∧ (rdP bs k a).2.1 ≤ bs.length ∧ segR w (satR w (rdP bs k a).2.2) = (bs.drop a).take ((rdP bs k a).2.1 - a) ∧ V64 (satR w (rdP bs k a).2.2)
  | 0, a, f, v, w, ha, _, _, _ => by simp [rdP, satR, segR, ha, V64]
  | k + 1, a, f, v, w, ha, he, hw, hi => by
    unfold rdP at he hi ⊢
    by_cases hx : (rd 10 0 (bs.drop a)).2.2 = 0
    · obtain ⟨x1, x2, x3, x4⟩ := rd_good (bytes_drop hb a) hx
      simp only [List.length_drop] at x2
      simp only [if_pos hx] at he hi ⊢
      by_cases hy : (rd 10 0 (bs.drop (a + (rd 10 0 (bs.drop a)).2.1))).2.2 = 0
      · obtain ⟨y1, y2, y3, y4⟩ := rd_good (bytes_drop hb _) hy
        simp only [List.length_drop] at y2
        simp only [if_pos hy] at he hi ⊢
        simp only [satR] at hi ⊢
        obtain ⟨⟨k1, k2, k3⟩, k4⟩ := inc_cons.1 hi
        simp only at k1 k2 k3 k4
        have hs := sat1_range (b := (rd 10 0 (bs.drop a)).1) hw
        have e1 : sat1 w ((rd 10 0 (bs.drop a)).1 : Int) = w + (rd 10 0 (bs.drop a)).1 := by
          unfold sat1 at k1 ⊢
          split at k1 <;> split at k1 <;> (first | omega | (rw [if_neg (by omega), if_neg (by omega)]))
        obtain ⟨g1, g2, g3, g4, g5⟩ := rdP_back bs hb hn k (a + (rd 10 0 (bs.drop a)).2.1 + (rd 10 0 (bs.drop (a + (rd 10 0 (bs.drop a)).2.1))).2.1) (by omega) he hs.1 k4
        refine ⟨by simp [g1], by omega, g3, ?_, fun r hr => ?_⟩
        · simp only [segR, g4]
          rw [show (sat1 w ((rd 10 0 (bs.drop a)).1 : Int) - w).toNat = (rd 10 0 (bs.drop a)).1 by omega, x4, Int.toNat_natCast, y4]
          generalize hz : (rdP bs k (a + (rd 10 0 (bs.drop a)).2.1 + (rd 10 0 (bs.drop (a + (rd 10 0 (bs.drop a)).2.1))).2.1)).2.1 = z at *
          generalize (rd 10 0 (bs.drop (a + (rd 10 0 (bs.drop a)).2.1))).2.1 = p at *
          generalize (rd 10 0 (bs.drop a)).2.1 = o at *
          rw [show z - a = o + (p + (z - (a + o + p))) by omega, List.take_add, List.take_add, List.drop_drop, List.drop_drop]
        · rcases List.mem_cons.1 hr with rfl | hr
          · exact ⟨by simp only; omega, by simp only; omega⟩
          · exact g5 r hr
      · simp only [if_neg hy] at he
        exact absurd he hy
    · simp only [if_neg hx] at he
      exact absurd he hx

theorem dec_good {bs : List Int} (hb : Bytes bs) {n : Int} (hn : n ≤ 200) (h : (decT bs 0 n).2.2 = 0) : fineR (decT bs 0 n).2.1 n = true ∧ V64 (decT bs 0 n).2.1 ∧ 1 ≤ (decT bs 0 n).1.2.1 ∧ (decT bs 0 n).1.2.1 ≤ (bs.length : Int) ∧ codedR (decT bs 0 n).2.1 = bs.take (decT bs 0 n).1.2.1.toNat := by
  unfold decT at h ⊢
  simp only [List.drop_zero, Nat.zero_add] at h ⊢
  by_cases hx : (rd 10 0 bs).2.2 = 0
  · obtain ⟨x1, x2, x3, x4⟩ := rd_good hb hx
    simp only [ne_eq, hx, not_true_eq_false, if_false] at h ⊢
    split at h
    · simp at h
    · rename_i hk
      rw [if_neg hk]
      unfold decF at h ⊢
      by_cases he : (rdP bs (rd 10 0 bs).1 (rd 10 0 bs).2.1).1 = 0
      · simp only [ne_eq, he, not_true_eq_false, if_false, List.nil_append] at h ⊢
        split at h
        · rename_i hf
          rw [if_pos hf]
          obtain ⟨v, hi⟩ := fine_inc hf
          obtain ⟨g1, g2, g3, g4, g5⟩ := rdP_back bs hb hn (rd 10 0 bs).1 (rd 10 0 bs).2.1 (w := 0) x2 he (by omega) hi
          refine ⟨hf, g5, by simp only; omega, by simp only; omega, ?_⟩
          simp only [codedR, satR_len, g1, g4, x4, Int.toNat_natCast]
          generalize (rdP bs (rd 10 0 bs).1 (rd 10 0 bs).2.1).2.1 = z at *
          generalize (rd 10 0 bs).2.1 = o at *
          rw [show z = o + (z - o) by omega, List.take_add]
          congr 3
          omega
        · simp at h
      · simp only [ne_eq, he, not_false_eq_true, if_true] at h
  · simp only [ne_eq, hx, not_false_eq_true, if_true] at h
end Go.Proofs.Ytlljcjapefljeaa
