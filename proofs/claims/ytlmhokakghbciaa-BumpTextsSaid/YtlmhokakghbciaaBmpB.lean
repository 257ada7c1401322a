/- Package region: valid regions, which bytes they have, and what is read of them, by the program and by the reference of layer 13. -/
import Derived.Test.YtlmhokakghbciaaBmpR
import Derived.Test.YtlmhokakghbciaaBase
set_option linter.unusedVariables false
set_option linter.unusedSimpArgs false
set_option maxRecDepth 100000
namespace Go.Proofs.Ytlmhokakghbciaa
open Go.Lift
namespace Rg

abbrev Rgn := Int × List Int × Unit
def zR : Rgn := (0, ([], ()))
def OkB (b : Int) : Prop := b % 8 = 0 ∧ 8 ≤ b ∧ b ≤ 1099511627776
def OkR (r : Rgn) : Prop := OkB r.1 ∧ r.2.1.length ≤ 20000
instance (b : Int) : Decidable (OkB b) := by unfold OkB; infer_instance
instance (r : Rgn) : Decidable (OkR r) := by unfold OkR; infer_instance
def HasR (r : Rgn) (a n : Int) : Prop := r.1 ≤ a ∧ a + n ≤ r.1 + r.2.1.length
instance (r : Rgn) (a n : Int) : Decidable (HasR r a n) := by unfold HasR; infer_instance

theorem w64 {n : Int} (h0 : 0 ≤ n) (h1 : n < 18446744073709551616) : IntKind.u64.wrap n = n := by
  rw [wrap_u64, Int.emod_eq_of_lt h0 h1]
theorem i64 {n : Int} (h0 : -9223372036854775808 ≤ n) (h1 : n ≤ 9223372036854775807) : IntKind.i64.wrap n = n := wrap_i64 (by omega) (by omega)

theorem and3 {p q r : Prop} [Decidable p] [Decidable q] [Decidable r] : (bif decide p then (bif decide q then some (decide r) else some false) else some false) = some (decide (p ∧ q ∧ r)) := by
  by_cases h : p <;> by_cases h' : q <;> simp [h, h']
theorem tm8 {b : Int} (h : 0 ≤ b) : (b.tmod 8 == (0 : Int)) = decide (b % 8 = 0) := by
  rw [Int.tmod_eq_emod_of_nonneg h]
  rfl
theorem isBase_eq (b : Int) : cregion_isBase b = some (decide (OkB b)) := by
  show nregion_isBase b = _
  unfold nregion_isBase
  by_cases h : 8 ≤ b
  · rw [tm8 (by omega), and3]
    exact congrArg some (decide_eq_decide.2 Iff.rfl)
  · rw [decide_eq_false (p := b ≥ 8) h, decide_eq_false (p := OkB b) (fun k => h k.2.1)]
    cases (b.tmod 8 == (0 : Int)) <;> rfl
theorem isCount_eq (n : Int) : cregion_isCount n = some (decide (0 ≤ n ∧ n ≤ 20000)) := by
  show nregion_isCount n = _
  unfold nregion_isCount
  by_cases h : 0 ≤ n <;> simp [h]
theorem Check_eq (r : Rgn) : cregion_Check r = some (if OkR r then 0 else 8) := by
  show nregion_Check r = _
  unfold nregion_Check
  rw [isBase_eq, Option.bind_some, isCount_eq]
  by_cases h1 : OkB r.1
  · rw [decide_eq_true h1, Bool.not_true, cond_false, Option.bind_some]
    by_cases h2 : r.2.1.length ≤ 20000
    · rw [decide_eq_true (by omega), Bool.not_true, cond_false, if_pos ⟨h1, h2⟩]
    · rw [decide_eq_false (by omega), Bool.not_false, cond_true, if_neg (fun h => h2 h.2)]
  · rw [decide_eq_false h1, Bool.not_false, cond_true, if_neg (fun h => h1 h.1)]
theorem ok0 {r : Rgn} (h : OkR r) : ((if OkR r then (0 : Int) else 8) != 0) = false := by rw [if_pos h]; rfl
theorem ok8 {r : Rgn} (h : ¬ OkR r) : ((if OkR r then (0 : Int) else 8) != 0) = true := by rw [if_neg h]; rfl

theorem end_eq {r : Rgn} (h : OkR r) : cregion_end r = some (r.1 + r.2.1.length) := by
  show nregion_end r = _
  unfold nregion_end
  obtain ⟨⟨_, h1, h2⟩, h3⟩ := h
  dsimp only
  rw [w64 (n := (r.2.1.length : Int)) (by omega) (by omega), w64 (by omega) (by omega)]

/-- the bytes that a region has there -/
def prt (r : Rgn) (a n : Int) : List Int := (r.2.1.drop (a - r.1).toNat).take n.toNat
theorem prt_len {r : Rgn} {a n : Int} (hn : 0 ≤ n) (h : HasR r a n) : (prt r a n).length = n.toNat := by
  obtain ⟨h1, h2⟩ := h
  unfold prt
  rw [List.length_take, List.length_drop]
  omega
theorem part_eq {α : Type} {r : Rgn} (hr : OkR r) (a : Int) {n : Int} (hn : 0 ≤ n) (no : Option α) (yes : List Int → Option α) :
    (bif (decide (a < r.1)) then no else ((cregion_end r).bind fun x2 => (bif (decide (a > x2)) then no else (let x3 : Int := (IntKind.u64.wrap (a - r.1)); (bif (decide (0 ≤ x3) && decide (x3 ≤ (List.length r.2.1 : Int))) then (let x4 : List Int := (List.drop (Int.toNat x3) r.2.1); (bif (decide (n > (List.length x4 : Int))) then no else (bif (decide (0 ≤ n) && decide (n ≤ (List.length x4 : Int))) then (let x5 : List Int := (List.take (Int.toNat n) x4); yes x5) else none))) else none)))))
      = if HasR r a n then yes (prt r a n) else no := by
  rw [end_eq hr, Option.bind_some]
  obtain ⟨⟨_, h1, h2⟩, h3⟩ := hr
  by_cases a1 : a < r.1
  · rw [decide_eq_true a1, cond_true, if_neg (fun h => by have := h.1; omega)]
  rw [decide_eq_false a1, cond_false]
  by_cases a2 : a > r.1 + r.2.1.length
  · rw [decide_eq_true a2, cond_true, if_neg (fun h => by have := h.2; omega)]
  rw [decide_eq_false a2, cond_false]
  dsimp only
  rw [w64 (by omega) (by omega), decide_eq_true (p := 0 ≤ a - r.1) (by omega), decide_eq_true (p := a - r.1 ≤ _) (by omega), Bool.and_true, cond_true]
  have hl : (List.drop (a - r.1).toNat r.2.1).length = r.2.1.length - (a - r.1).toNat := by simp
  by_cases a3 : n > ((List.drop (a - r.1).toNat r.2.1).length : Int)
  · rw [decide_eq_true a3, cond_true, if_neg (fun h => by have := h.2; omega)]
  rw [decide_eq_false a3, cond_false, decide_eq_true hn, decide_eq_true (p := n ≤ _) (by omega), Bool.and_true, cond_true, if_pos ⟨by omega, by omega⟩]
  rfl

/-! ### New, Has -/
def hasS (r : Rgn) (a n : Int) : Bool × Int := if OkR r then (if n < 0 then (false, 2) else (decide (HasR r a n), 0)) else (false, 8)
theorem has_eq (r : Rgn) (a n : Int) : cregion_Has (r, a, n) = some (hasS r a n) := by
  show nregion_Has (r, a, n) = _
  unfold nregion_Has hasS
  dsimp only
  rw [Check_eq, Option.bind_some]
  by_cases h : OkR r
  · rw [ok0 h, cond_false, if_pos h]
    by_cases hn : n < 0
    · rw [decide_eq_true hn, cond_true, if_pos hn]
    rw [decide_eq_false hn, cond_false, if_neg hn]
    refine (part_eq h a (by omega) (some (false, 0)) (fun _ => some (true, 0))).trans ?_
    by_cases hh : HasR r a n <;> simp [hh]
  · rw [ok8 h, cond_true, if_neg h, if_neg h]
/-! ### Loops -/
theorem loop_det {V β : Type} {g : (V → Option β) → V → Option β} {mk : Nat → V} {n : Nat} {r : Option β} (hs : ∀ self i, i < n → g self (mk i) = self (mk (i + 1))) (he : ∀ self, g self (mk n) = r) :
    ∀ (k i M : Nat), i + k = n → k < M → iterV g M (mk i) = r
  | k, i, 0, _, h => by omega
  | 0, i, M + 1, hi, _ => by
    rw [iterV_succ, show i = n by omega, he]
  | k + 1, i, M + 1, hi, hM => by
    rw [iterV_succ, hs _ i (by omega)]
    exact loop_det hs he k (i + 1) M (by omega) (by omega)
/-- a loop that leaves in the first round for which q has something -/
theorem loop_find {V β : Type} {g : (V → Option β) → V → Option β} {mk : Nat → V} {q : Nat → Option (Option β)} {n : Nat} {r : Option β} (hs : ∀ self i, i < n → g self (mk i) = (q i).getD (self (mk (i + 1)))) (he : ∀ self, g self (mk n) = r) :
    ∀ (k i M : Nat), i + k = n → k < M → iterV g M (mk i) = ((List.range' i k).findSome? q).getD r
  | k, i, 0, _, h => by omega
  | 0, i, M + 1, hi, _ => by
    rw [iterV_succ, show i = n by omega, he]
    rfl
  | k + 1, i, M + 1, hi, hM => by
    rw [iterV_succ, hs _ i (by omega), List.range'_succ, List.findSome?_cons]
    cases q i with
    | some z => rfl
    | none =>
      rw [Option.getD_none]
      exact loop_find hs he k (i + 1) M (by omega) (by omega)
theorem small {n : Nat} (h : n ≤ 1000000) : n < big := by
  have : 1000000 < big := by decide
  omega

/-! ### Words -/
def leW : List Int → Int
  | [] => 0
  | b :: r => b + 256 * leW r
def leB : Nat → Int → List Int
  | 0, _ => []
  | n + 1, v => v % 256 :: leB n (v / 256)
@[simp] theorem leB_len : ∀ (n : Nat) (v : Int), (leB n v).length = n
  | 0, _ => rfl
  | n + 1, v => by simp [leB, leB_len n]
theorem leW_snoc : ∀ (l : List Int) (x : Int), leW (l ++ [x]) = leW l + x * 256 ^ l.length
  | [], x => by simp [leW]
  | b :: r, x => by
    simp only [List.cons_append, leW, leW_snoc r x, List.length_cons, Int.pow_succ, Int.mul_add]
    rw [Int.add_assoc]
    congr 2
    rw [Int.mul_comm 256, Int.mul_assoc]
theorem leW_bd : ∀ {l : List Int}, Bytes l → 0 ≤ leW l ∧ leW l < 256 ^ l.length
  | [], _ => by simp [leW]
  | b :: r, h => by
    obtain ⟨h1, h2⟩ := leW_bd (l := r) (fun c hc => h c (by simp [hc]))
    have := h b (by simp)
    simp only [leW, List.length_cons, Int.pow_succ]
    omega
theorem leB_snoc : ∀ (n : Nat) (v : Int), leB (n + 1) v = leB n v ++ [v / 256 ^ n % 256]
  | 0, v => by simp [leB]
  | n + 1, v => by
    rw [leB, leB_snoc n (v / 256), leB, List.cons_append, Int.pow_succ, Int.mul_comm (256 ^ n), Int.ediv_ediv, if_neg (fun h => absurd h.1 (by decide)), Int.sub_zero]
theorem leW_leB : ∀ (n : Nat) (v : Int), 0 ≤ v → v < 256 ^ n → leW (leB n v) = v
  | 0, v, h0, h1 => by
    simp at h1
    simp [leB, leW]
    omega
  | n + 1, v, h0, h1 => by
    rw [Int.pow_succ] at h1
    rw [leB, leW, leW_leB n (v / 256) (by omega) (by omega)]
    omega
theorem leB_bytes : ∀ (n : Nat) (v : Int), Bytes (leB n v)
  | 0, _ => by intro c hc; simp [leB] at hc
  | n + 1, v => by
    intro c hc
    rw [leB] at hc
    rcases List.mem_cons.1 hc with rfl | hc
    · omega
    · exact leB_bytes n _ c hc

theorem pow8 (i : Nat) : (2 : Int) ^ (8 * i) = 256 ^ i := by rw [Int.pow_mul]; rfl
theorem pow_bd {i : Nat} (h : i ≤ 7) : (256 : Int) ^ i ≤ 72057594037927936 := by
  have h' : i = 0 ∨ i = 1 ∨ i = 2 ∨ i = 3 ∨ i = 4 ∨ i = 5 ∨ i = 6 ∨ i = 7 := by omega
  rcases h' with rfl | rfl | rfl | rfl | rfl | rfl | rfl | rfl <;> decide
theorem pow_pos' (i : Nat) : (0 : Int) < 256 ^ i := Int.pow_pos (by decide)
theorem sh8 {i : Nat} (h : i ≤ 7) : min (Int.toNat (8 * (i : Int))) 64 = 8 * i := by omega

theorem or_add {v x : Int} {i : Nat} (hi : i ≤ 7) (hv0 : 0 ≤ v) (hv : v < 256 ^ i) (hx0 : 0 ≤ x) (hx : x ≤ 255) : bits .or .u64 v (x * 2 ^ (8 * i)) = v + x * 256 ^ i := by
  obtain ⟨a, rfl⟩ := Int.eq_ofNat_of_zero_le hv0
  obtain ⟨b, rfl⟩ := Int.eq_ofNat_of_zero_le hx0
  have e1 : (b : Int) * 2 ^ (8 * i) = ((b * 2 ^ (8 * i) : Nat) : Int) := by push_cast; rfl
  have hp := pow_bd hi
  have ha : a < 2 ^ (8 * i) := by
    rw [← pow8] at hv
    exact_mod_cast hv
  have hb : b * 2 ^ (8 * i) < 2 ^ 64 := by
    have h1 : ((2 ^ (8 * i) : Nat) : Int) ≤ 72057594037927936 := by
      push_cast
      rw [pow8]
      exact hp
    have h2 : b * 2 ^ (8 * i) ≤ 255 * 2 ^ (8 * i) := Nat.mul_le_mul_right _ (by omega)
    omega
  have ha2 : a < 2 ^ 64 := by
    have h1 : ((2 ^ (8 * i) : Nat) : Int) ≤ 72057594037927936 := by
      push_cast
      rw [pow8]
      exact hp
    omega
  rw [e1, bits_or rfl ha2 hb, or_high ha]
  push_cast
  rw [pow8]
theorem split_eq {v : Int} (h0 : 0 ≤ v) : cregion_split v = some (leB 8 v) := by
  show nregion_split (iterV (gregion_split_0 big) big) v = _
  unfold nregion_split
  have e0 : (v, (0 : Int), List.replicate 8 (0 : Int), List.replicate 8 (0 : Int)) = (fun i : Nat => (v, (i : Int), List.replicate 8 (0 : Int), leB i v ++ List.replicate (8 - i) 0)) 0 := rfl
  rw [e0]
  refine loop_det (mk := fun i => (v, (i : Int), List.replicate 8 (0 : Int), leB i v ++ List.replicate (8 - i) 0)) (n := 8) ?_ ?_ 8 0 big (by omega) (small (by omega))
  · intro self i hi
    show hregion_split_0 self _ = _
    unfold hregion_split_0
    dsimp only
    rw [decide_eq_true (by omega), cond_true, i64 (by omega) (by omega), decide_eq_false (by omega), cond_false, sh8 (by omega), decide_eq_true (p := 0 ≤ (i : Int)) (by omega), Bool.and_true, cond_true, i64 (by omega) (by omega)]
    have e : List.set (leB i v ++ List.replicate (8 - i) 0) (Int.toNat (i : Int)) (IntKind.u8.wrap (v.fdiv (2 ^ (8 * i)))) = leB (i + 1) v ++ List.replicate (8 - (i + 1)) 0 := by
      rw [Int.toNat_natCast, List.set_append_right _ _ (by simp), leB_len, Nat.sub_self, show 8 - i = (8 - (i + 1)) + 1 by omega, List.replicate_succ, List.set_cons_zero, leB_snoc, List.append_assoc, List.singleton_append, Int.fdiv_eq_ediv_of_nonneg _ (by rw [pow8]; exact Int.le_of_lt (pow_pos' i)), pow8, wrap_u8]
    rw [e]
    rfl
  · intro self
    show hregion_split_0 self _ = _
    unfold hregion_split_0
    dsimp only
    rw [decide_eq_false (by omega), cond_false]
    simp
end Rg
end Go.Proofs.Ytlmhokakghbciaa

