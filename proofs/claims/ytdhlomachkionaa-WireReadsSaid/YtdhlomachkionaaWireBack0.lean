/- WireBack: what was written is read, whatever stands behind it. -/
import Derived.Test.YtdhlomachkionaaWireFirst0
set_option linter.unusedVariables false
set_option linter.unusedSimpArgs false
set_option maxRecDepth 100000
namespace Go.Proofs.Ytdhlomachkionaa
open Go.Lift

/-! ### reading a fixed number -/
def unl : List Int → Nat
  | [] => 0
  | b :: r => b.toNat + 256 * unl r
theorem unl_little : ∀ (k n : Nat), n < 256 ^ k → unl (little k n) = n
  | 0, n, h => by simp at h; simp [little, unl, h]
  | k + 1, n, h => by
    simp only [little, unl, Int.toNat_natCast]
    rw [unl_little k (n / 256) (by rw [Nat.pow_succ] at h; omega)]
    omega
theorem unl_lt : ∀ (b : List Int), Bytes b → unl b < 256 ^ b.length
  | [], _ => by simp [unl]
  | c :: r, h => by
    have := unl_lt r (fun d hd => h d (by simp [hd]))
    have hc := h c (by simp)
    simp only [unl, List.length_cons, Nat.pow_succ]
    omega
theorem little_unl : ∀ (b : List Int), Bytes b → little b.length (unl b) = b
  | [], _ => rfl
  | c :: r, h => by
    have hc := h c (by simp)
    simp only [List.length_cons, little, unl]
    have e1 : (c.toNat + 256 * unl r) % 256 = c.toNat := by omega
    have e2 : (c.toNat + 256 * unl r) / 256 = unl r := by omega
    rw [e1, e2, little_unl r fun d hd => h d (by simp [hd])]
    rw [Int.toNat_of_nonneg hc.1]
theorem little_bytes : ∀ (k n : Nat), Bytes (little k n)
  | 0, n => by intro c hc; simp [little] at hc
  | k + 1, n => by
    intro c hc
    simp only [little] at hc
    rcases List.mem_cons.1 hc with rfl | hc
    · omega
    · exact little_bytes k _ c hc

theorem unl_append : ∀ (a b : List Int), unl (a ++ b) = unl a + 256 ^ a.length * unl b
  | [], b => by simp [unl]
  | c :: a, b => by
    simp only [List.cons_append, unl, unl_append a b, List.length_cons, Nat.pow_succ]
    rw [Nat.mul_add, ← Nat.mul_assoc, Nat.mul_comm 256 (256 ^ a.length)]
    omega

theorem unfixed_loop (bs : List Int) (hl : bs.length ≤ 200000) (hb : Bytes bs) (w a : Nat) (hw : w ≤ 8) (ha : a + w ≤ bs.length) : ∀ (k N i : Nat), i + k = w → k < N →
    iterV (gwire_Unfixed_0 big) N ((w : Int), ((unl ((bs.drop a).take i) : Nat) : Int), (w : Int), (i : Int), (bs, ((a : Int), ())), ((0 : Int), ()), ([] : List Int)) = some ((bs, (((a + w : Nat) : Int), ())), ((unl ((bs.drop a).take w) : Nat) : Int), 0)
  | k, 0, i, _, h => by omega
  | 0, N + 1, i, hi, _ => by
    have : i = w := by omega
    subst this
    rw [iterV_succ]
    have h1 : decide ((i : Int) < (i : Int)) = false := decide_eq_false (by omega)
    have h2 : IntKind.i64.wrap ((a : Int) + (i : Int)) = ((a + i : Nat) : Int) := by rw [wrap_i64 (by omega) (by omega)]; simp
    simp only [gwire_Unfixed_0, hwire_Unfixed_0, h1, cond_false, h2]
  | k + 1, N + 1, i, hi, hN => by
    rw [iterV_succ]
    have h1 : decide ((i : Int) < (w : Int)) = true := decide_eq_true (by omega)
    have h2 : IntKind.i64.wrap ((a : Int) + (i : Int)) = ((a + i : Nat) : Int) := by rw [wrap_i64 (by omega) (by omega)]; simp
    have hlt : a + i < bs.length := by omega
    have h8 : IntKind.i64.wrap ((8 : Int) * (i : Int)) = ((8 * i : Nat) : Int) := by rw [wrap_i64 (by omega) (by omega)]; simp
    have h80 : decide (((8 * i : Nat) : Int) < 0) = false := decide_eq_false (by omega)
    have hmin : min (8 * i) 64 = 8 * i := by omega
    have hi1 : IntKind.i64.wrap ((i : Int) + 1) = ((i + 1 : Nat) : Int) := by rw [wrap_i64 (by omega) (by omega)]; simp
    have hbb := hb bs[a + i] (List.getElem_mem hlt)
    have htake : (bs.drop a).take (i + 1) = (bs.drop a).take i ++ [bs[a + i]] := by
      rw [List.take_add_one]
      congr 1
      simp [List.getElem?_drop, hlt]
    have hulen : ((bs.drop a).take i).length = i := by simp; omega
    have hu := unl_lt ((bs.drop a).take i) (bytes_take (fun c hc => hb c (List.mem_of_mem_drop hc)) i)
    rw [hulen] at hu
    simp only [gwire_Unfixed_0, hwire_Unfixed_0, h1, cond_true, h2, getI_at hlt, Option.bind_some, h8, h80, cond_false, Int.toNat_natCast, hmin, hi1]
    have e256 : (2 : Nat) ^ (8 * i) = 256 ^ i := by rw [Nat.pow_mul]
    have key : bits .or .u64 ((unl ((bs.drop a).take i) : Nat) : Int) (IntKind.u64.wrap (IntKind.u64.wrap bs[a + i] * 2 ^ (8 * i))) = ((unl ((bs.drop a).take (i + 1)) : Nat) : Int) := by
      rw [htake, unl_append, hulen]
      generalize bs[a + i] = c at *
      obtain ⟨m, rfl⟩ := Int.eq_ofNat_of_zero_le hbb.1
      have hm : m ≤ 255 := by omega
      have hpow : 256 ^ i ≤ 256 ^ 7 := Nat.pow_le_pow_right (by decide) (by omega)
      have h7 : (256 : Nat) ^ 7 = 72057594037927936 := by decide
      have e64 : (2 : Nat) ^ 64 = 18446744073709551616 := by decide
      have hmul : m * 256 ^ i ≤ 255 * 256 ^ 7 := Nat.mul_le_mul hm hpow
      have e1 : IntKind.u64.wrap (m : Int) = (m : Int) := by rw [wrap_u64]; omega
      have e2 : ((m : Int) * 2 ^ (8 * i)) = ((m * 256 ^ i : Nat) : Int) := by rw [Int.natCast_mul, ← e256, Int.natCast_pow]; rfl
      have e3 : IntKind.u64.wrap ((m * 256 ^ i : Nat) : Int) = ((m * 256 ^ i : Nat) : Int) := by rw [wrap_u64]; omega
      rw [e1, e2, e3, bits_or rfl (by simp only [IntKind.bits]; omega) (by simp only [IntKind.bits]; omega), ← e256, or_high (by rw [e256]; exact hu)]
      simp only [unl, Int.toNat_natCast]
      congr 1
      rw [Nat.mul_comm m]
      simp
    rw [key]
    exact unfixed_loop bs hl hb w a hw ha k N (i + 1) (by omega) (by omega)

theorem unfixed_eq (c : Cur) (w : Int) (hb : Bytes c.1) : cwire_Unfixed (c, w) = some (if ¬ Valid c then (zc, 0, 8) else if wide w = false then (zc, 0, 2) else if (c.1.length : Int) - c.2.1 < w then (zc, 0, 24)
    else ((c.1, (c.2.1 + w, ())), ((unl ((c.1.drop c.2.1.toNat).take w.toNat) : Nat) : Int), 0)) := by
  show nwire_Unfixed (iterV (gwire_Unfixed_0 big) big) (c, w) = _
  simp only [nwire_Unfixed, valid_eq, isWidth_eq, Option.bind_some]
  by_cases hv : Valid c
  · rw [if_neg (not_not_intro hv), left_eq c hv]
    simp only [hv, decide_true, Bool.not_true, cond_false, Option.bind_some]
    cases hw : wide w with
    | false => simp [zc]
    | true =>
      obtain ⟨k, rfl, hk⟩ := wide_cases hw
      obtain ⟨bs, at_, u⟩ := c
      obtain ⟨h1, h2, h3⟩ := hv
      simp only at h1 h2 h3 hb ⊢
      obtain ⟨a, rfl⟩ := Int.eq_ofNat_of_zero_le h2
      by_cases hs : (bs.length : Int) - (a : Int) < (k : Int)
      · have g : decide ((bs.length : Int) - (a : Int) < (k : Int)) = true := decide_eq_true hs
        simp [g, hs, zc]
      · have g : decide ((bs.length : Int) - (a : Int) < (k : Int)) = false := decide_eq_false hs
        have := unfixed_loop bs h1 hb k a (by omega) (by omega) k big 0 (by omega) (big_lt (by rw [maxLen_eq]; omega))
        simp only [Bool.not_true, cond_false, g, hs, if_false, Int.toNat_natCast]
        rw [if_neg (by simp)]
        refine Eq.trans this ?_
        simp
  · simp [hv, zc]

theorem back_true (x : Int × Int × (List Int) × (List Int)) (w : WfL [(.int .u64), (.int .i64), .str, (.slice (.int .u8))] x) : claw02_WireBack x = some true := by
  obtain ⟨n', i, s, behind⟩ := x
  obtain ⟨⟨n0, n1⟩, ⟨i0, i1⟩, ⟨_, hs⟩, ⟨_, hb0⟩⟩ := w
  have hb : Bytes behind := fun c hc => by
    have := hb0 c hc
    simpa only [Wf, min_u8, max_u8] using this
  simp only [min_u64, max_u64] at n0 n1
  obtain ⟨n, rfl⟩ := Int.eq_ofNat_of_zero_le n0
  have hn : n < 18446744073709551616 := by have : (n : Int) ≤ 18446744073709551615 := n1; omega
  have hi0 : -9223372036854775808 ≤ i := i0
  have hi1 : i ≤ 9223372036854775807 := i1
  have hd := dbl_lt hi0 hi1
  show nlaw02_WireBack ((n : Int), i, s, behind) = some true
  simp only [nlaw02_WireBack, alive_true, Option.bind_some]
  by_cases h1 : s.length > 2000
  · rw [decide_eq_true (by omega)]; rfl
  by_cases h2 : behind.length > 500
  · rw [decide_eq_false (by omega), decide_eq_true (by omega)]; rfl
  rw [decide_eq_false (show ¬ ((s.length : Int) > 2000) by omega), decide_eq_false (show ¬ ((behind.length : Int) > 500) by omega)]
  have hfix : cwire_Fixed ((n : Int), (8 : Int)) = some (little 8 n, 0) := by rw [fixed_eq n 8 hn, if_pos ⟨by decide, by simpa using hn⟩]; rfl
  have htx : cwire_Text s = some (vary s.length ++ s, 0) := by rw [text_eq, if_neg (by omega)]
  have l1 := little_len 8 n
  have l2 := vary_len n
  have l3 := vary_len (dbl i)
  have l4 := vary_len s.length
  have bl : ∀ {m : Nat}, m ≤ 68719476736 → (Nat.ble 1 1 && Nat.ble m lim) = true := fun h => by rw [b11, ble_lim h]; rfl
  have c0 : (Nat.ble 1 1 && Nat.ble (List.length ([] : List Int) + List.length (little 8 n)) lim) = true := bl (by simp only [List.length_nil]; omega)
  have a0 : List.append ([] : List Int) (little 8 n) = little 8 n := rfl
  have c1 : (Nat.ble 1 1 && Nat.ble (List.length (little 8 n) + List.length (vary n)) lim) = true := bl (by omega)
  have c2 : (Nat.ble 1 1 && Nat.ble (List.length (List.append (little 8 n) (vary n)) + List.length (vary (dbl i))) lim) = true := bl (by simp only [List.append_eq, List.length_append]; omega)
  have c3 : (Nat.ble 1 1 && Nat.ble (List.length (List.append (List.append (little 8 n) (vary n)) (vary (dbl i))) + List.length (vary s.length ++ s)) lim) = true := bl (by simp only [List.append_eq, List.length_append]; omega)
  have c4 : (Nat.ble 1 1 && Nat.ble (List.length (List.append (List.append (List.append (little 8 n) (vary n)) (vary (dbl i))) (vary s.length ++ s)) + List.length behind) lim) = true := bl (by simp only [List.append_eq, List.length_append]; omega)
  simp only [cond_false, hfix, htx, Option.bind_some, c0, cond_true, a0, vary_eq n hn, c1, signed_eq i hi0 hi1, c2, c3, c4]
  generalize hall : List.append (List.append (List.append (List.append (little 8 n) (vary n)) (vary (dbl i))) (vary s.length ++ s)) behind = all
  have e1 : all = little 8 n ++ (vary n ++ (vary (dbl i) ++ (vary s.length ++ (s ++ behind)))) := by rw [← hall]; simp [List.append_eq, List.append_assoc]
  have hlen : all.length ≤ 3000 := by rw [e1]; simp only [List.length_append]; omega
  have hbytes : Bytes all := by
    rw [e1]
    exact bytes_append (little_bytes 8 n) (bytes_append (vary_bytes hn) (bytes_append (vary_bytes hd) (bytes_append (vary_bytes (by omega)) (bytes_append hs hb))))
  have hnew : cwire_New all = some ((all, (0, ())), 0) := by rw [new_eq, if_neg (by omega)]
  have hlen2 : all.length = 8 + ((vary n).length + ((vary (dbl i)).length + ((vary s.length).length + (s.length + behind.length)))) := by rw [e1]; simp only [List.length_append, l1]
  -- the fixed number
  have v0 : Valid (all, ((0 : Int), ())) := ⟨by simp only; omega, by simp, by simp⟩
  have r0 : cwire_Unfixed ((all, ((0 : Int), ())), (8 : Int)) = some ((all, ((8 : Int), ())), (n : Int), 0) := by
    rw [unfixed_eq _ _ hbytes, if_neg (not_not_intro v0), if_neg (by decide), if_neg (by simp only; omega)]
    have e2 : ((all.drop (0 : Int).toNat).take (8 : Int).toNat) = little 8 n := by
      rw [e1]
      exact List.take_left' l1
    simp only [e2, unl_little 8 n (by simpa using hn)]
    rfl
  -- the minimal number
  have v1 : Valid (all, ((8 : Int), ())) := ⟨by simp only; omega, by simp, by simp only; omega⟩
  have r1 : cwire_Unvary ((all, ((8 : Int), ())), (n : Int)) = some ((all, (((8 + (vary n).length : Nat) : Int), ())), (n : Int), 0) := by
    rw [unvary_eq _ _ hbytes, if_pos v1]
    have e2 : all.drop (8 : Int).toNat = vary n ++ (vary (dbl i) ++ (vary s.length ++ (s ++ behind))) := by
      rw [e1]
      exact List.drop_left' l1
    simp only [e2, rd_of_vary n _ hn]
    simp [outc]
  have v2 : Valid (all, (((8 + (vary n).length : Nat) : Int), ())) := ⟨by simp only; omega, by simp only; omega, by simp only; omega⟩
  have r2 : cwire_Unsigned (all, (((8 + (vary n).length : Nat) : Int), ())) = some ((all, (((8 + (vary n).length + (vary (dbl i)).length : Nat) : Int), ())), i, 0) := by
    rw [unsigned_eq _ hbytes, if_pos v2]
    have e2 : all.drop ((8 + (vary n).length : Nat) : Int).toNat = vary (dbl i) ++ (vary s.length ++ (s ++ behind)) := by
      rw [e1, ← List.append_assoc, Int.toNat_natCast]
      exact List.drop_left' (by rw [List.length_append, l1])
    simp only [e2, rd_of_vary (dbl i) _ hd]
    have e3 : ¬ (((dbl i : Nat) : Int) > 18446744073709551615) := by omega
    have e4 : 0 + dbl i * 128 ^ 0 = dbl i := by omega
    simp only [outc, if_true, if_neg e3, outs, e4, Int.toNat_natCast, half_dbl]
  have v3 : Valid (all, (((8 + (vary n).length + (vary (dbl i)).length : Nat) : Int), ())) := ⟨by simp only; omega, by simp only; omega, by simp only; omega⟩
  have r3 : cwire_Untext ((all, (((8 + (vary n).length + (vary (dbl i)).length : Nat) : Int), ())), (s.length : Int)) = some ((all, (((8 + (vary n).length + (vary (dbl i)).length + (vary s.length).length : Nat) : Int) + (s.length : Int), ())), s, 0) := by
    rw [untext_eq _ _ hbytes]
    unfold outt
    rw [if_neg (not_not_intro v3), if_neg (by omega)]
    have e2 : all.drop (8 + (vary n).length + (vary (dbl i)).length) = vary s.length ++ (s ++ behind) := by
      rw [e1, ← List.append_assoc, ← List.append_assoc]
      exact List.drop_left' (by rw [List.length_append, List.length_append, l1])
    have e3 : ¬ ((s.length : Int) > (s.length : Int)) := by omega
    have e4 : 0 + s.length * 128 ^ 0 = s.length := by omega
    have e5 : ¬ ((all.length : Int) - ((8 + (vary n).length + (vary (dbl i)).length + (vary s.length).length : Nat) : Int) < (s.length : Int)) := by omega
    simp only [Int.toNat_natCast, e2, rd_of_vary s.length _ (show s.length < 18446744073709551616 by omega), outc, if_true, if_neg e3, e4, ne_eq, not_true_eq_false, if_false, Int.toNat_natCast, if_neg e5]
    have e6 : (((8 + (vary n).length + (vary (dbl i)).length + (vary s.length).length : Nat) : Int) + (s.length : Int)).toNat = 8 + (vary n).length + (vary (dbl i)).length + (vary s.length).length + s.length := by omega
    have e7 : (all.take (8 + (vary n).length + (vary (dbl i)).length + (vary s.length).length + s.length)).drop (8 + (vary n).length + (vary (dbl i)).length + (vary s.length).length) = s := by
      rw [List.drop_take, e1]
      have : ((little 8 n ++ (vary n ++ (vary (dbl i) ++ (vary s.length ++ (s ++ behind))))).drop (8 + (vary n).length + (vary (dbl i)).length + (vary s.length).length)) = s ++ behind := by
        rw [← List.append_assoc, ← List.append_assoc, ← List.append_assoc]
        exact List.drop_left' (by rw [List.length_append, List.length_append, List.length_append, l1])
      rw [this]
      exact List.take_left' (by omega)
    rw [e6, e7]
  have v4 : Valid (all, (((8 + (vary n).length + (vary (dbl i)).length + (vary s.length).length : Nat) : Int) + (s.length : Int), ())) := ⟨by simp only; omega, by simp only; omega, by simp only; omega⟩
  have r4 : cwire_Left (all, (((8 + (vary n).length + (vary (dbl i)).length + (vary s.length).length : Nat) : Int) + (s.length : Int), ())) = some ((behind.length : Int), 0) := by
    rw [Left_eq, if_pos v4]
    simp only
    congr 2
    omega
  have g0 : ((0 : Int) == (0 : Int)) = true := rfl
  simp only [hnew, Option.bind_some, r0, r1, r2, r3, r4, g0, cond_true, beq_self_eq_true, eqD_self]
end Go.Proofs.Ytdhlomachkionaa
