/- Plain facts that the proofs about plain functions share: numbers of some bits, lists, rounds of loops. -/
import Derived.Test.YtlmhokakghbciaaRiP
namespace Go.Lift

/-! ### numbers -/
@[simp] theorem min_u8 : IntKind.u8.min = 0 := by decide
@[simp] theorem max_u8 : IntKind.u8.max = 255 := by decide
@[simp] theorem min_u32 : IntKind.u32.min = 0 := by decide
@[simp] theorem max_u32 : IntKind.u32.max = 4294967295 := by decide
@[simp] theorem min_u64 : IntKind.u64.min = 0 := by decide
@[simp] theorem max_u64 : IntKind.u64.max = 18446744073709551615 := by decide
@[simp] theorem min_i64 : IntKind.i64.min = -9223372036854775808 := by decide

theorem wrap_u {k : IntKind} (hs : k.signed = false) (n : Int) : k.wrap n = n % (2 ^ k.bits : Int) := by
  simp [IntKind.wrap, hs]
theorem wrap_u8 (n : Int) : IntKind.u8.wrap n = n % 256 := wrap_u rfl n
theorem wrap_u32 (n : Int) : IntKind.u32.wrap n = n % 4294967296 := wrap_u rfl n
theorem wrap_u64 (n : Int) : IntKind.u64.wrap n = n % 18446744073709551616 := wrap_u rfl n
theorem wrap_i64' (n : Int) : IntKind.i64.wrap n = if n % 18446744073709551616 ≥ 9223372036854775808 then n % 18446744073709551616 - 18446744073709551616 else n % 18446744073709551616 := by
  simp [IntKind.wrap, IntKind.signed, IntKind.bits]

theorem bits_nat {k : IntKind} (hs : k.signed = false) {op : BinOp} {f : Nat → Nat → Nat} {a b : Nat} 
    (h : bits op k (a : Int) (b : Int) = k.wrap ((f a b : Nat) : Int)) (hf : f a b < 2 ^ k.bits) : bits op k (a : Int) (b : Int) = ((f a b : Nat) : Int) := by
  rw [h, wrap_u hs]
  exact_mod_cast Nat.mod_eq_of_lt hf

theorem bits_or {k : IntKind} (hs : k.signed = false) {a b : Nat} (ha : a < 2 ^ k.bits) (hb : b < 2 ^ k.bits) : bits .or k (a : Int) (b : Int) = ((a ||| b : Nat) : Int) :=
  bits_nat hs (f := (· ||| ·)) (by simp only [bits, BitVec.ofInt_natCast, BitVec.toNat_or, BitVec.toNat_ofNat, Nat.mod_eq_of_lt ha, Nat.mod_eq_of_lt hb]) (Nat.or_lt_two_pow ha hb)
theorem bits_and {k : IntKind} (hs : k.signed = false) {a b : Nat} (ha : a < 2 ^ k.bits) (hb : b < 2 ^ k.bits) : bits .and k (a : Int) (b : Int) = ((a &&& b : Nat) : Int) :=
  bits_nat hs (f := (· &&& ·)) (by simp only [bits, BitVec.ofInt_natCast, BitVec.toNat_and, BitVec.toNat_ofNat, Nat.mod_eq_of_lt ha, Nat.mod_eq_of_lt hb]) (Nat.and_lt_two_pow _ hb)
theorem bits_xor {k : IntKind} (hs : k.signed = false) {a b : Nat} (ha : a < 2 ^ k.bits) (hb : b < 2 ^ k.bits) : bits .xor k (a : Int) (b : Int) = ((a ^^^ b : Nat) : Int) :=
  bits_nat hs (f := (· ^^^ ·)) (by simp only [bits, BitVec.ofInt_natCast, BitVec.toNat_xor, BitVec.toNat_ofNat, Nat.mod_eq_of_lt ha, Nat.mod_eq_of_lt hb]) (Nat.xor_lt_two_pow ha hb)

/-- the complement of a signed number -/
theorem bits_not (x : Int) (h0 : -9223372036854775808 ≤ x) (h1 : x ≤ 9223372036854775807) : bits .xor .i64 (-1) x = -1 - x := by
  have e : bits .xor .i64 (-1) x = IntKind.i64.wrap ((BitVec.ofInt 64 (-1) ^^^ BitVec.ofInt 64 x).toNat : Int) := rfl
  rw [e]
  have h2 : BitVec.ofInt 64 (-1) = BitVec.allOnes 64 := by decide
  rw [h2, BitVec.allOnes_xor, BitVec.toNat_not, BitVec.toNat_ofInt]
  rw [wrap_i64']
  split <;> omega

theorem fdiv_nat (n k : Nat) : (n : Int).fdiv (2 ^ k) = ((n / 2 ^ k : Nat) : Int) := by
  rw [Int.fdiv_eq_ediv_of_nonneg _ (Int.pow_nonneg (by decide)), Int.natCast_ediv, Int.natCast_pow]
  rfl

theorem or_high {a b i : Nat} (h : a < 2 ^ i) : a ||| (b * 2 ^ i) = a + b * 2 ^ i := by
  rw [Nat.or_comm, ← Nat.shiftLeft_eq, ← Nat.shiftLeft_add_eq_or_of_lt h, Nat.add_comm]

/-! ### lists -/
theorem eqD_self (t : Ty) (x : t.den) : eqD t x x = true := eqD_iff.2 rfl
theorem eqD_false {t : Ty} {x y : t.den} (h : x ≠ y) : eqD t x y = false := by
  cases hb : eqD t x y with
  | false => rfl
  | true => exact absurd (eqD_iff.1 hb) h

theorem take_set_self {α : Type} : ∀ (l : List α) (i : Nat) (x : α), i < l.length → (List.set l i x).take (i + 1) = l.take i ++ [x]
  | [], _, _, h => by simp at h
  | a :: l, 0, x, _ => by simp
  | a :: l, i + 1, x, h => by
    have := take_set_self l i x (by simpa using h)
    simp only [List.set_cons_succ, List.take_succ_cons, this, List.cons_append]

def Bytes (b : List Int) : Prop := ∀ c ∈ b, 0 ≤ c ∧ c ≤ 255
instance (b : List Int) : Decidable (Bytes b) := by unfold Bytes; infer_instance

theorem getI_at {α : Type} {xs : List α} {i : Nat} (h : i < xs.length) : getI xs (i : Int) = some xs[i] := by rw [getI_nat]; simp [h]

/-! ### rounds -/
theorem wrap_succ {i n : Nat} (hi : i < n) (hn : n ≤ maxLen) : IntKind.i64.wrap ((i : Int) + 1) = ((i + 1 : Nat) : Int) := by
  have hm : maxLen ≤ 9223372036854775807 := by decide
  rw [wrap_i64 (by omega) (by omega)]
  simp

/-- a loop over the elements of a list, handed on -/
def foldC {σ α β : Type} (step : β → σ → (σ → Option α) → Option α) (fin : σ → Option α) : List β → σ → Option α
  | [], s => fin s
  | x :: r, s => step x s (foldC step fin r)

theorem range_run {V σ α β : Type} {g : (V → Option α) → V → Option α} {xs : List β} (st : σ → Nat → V) (step : β → σ → (σ → Option α) → Option α) (fin : σ → Option α)
    (hlast : ∀ self s, g self (st s xs.length) = fin s) (hstep : ∀ self s i (h : i < xs.length), g self (st s i) = step xs[i] s (fun s' => self (st s' (i + 1)))) :
    ∀ (k i N : Nat), i + k = xs.length → k < N → ∀ s, iterV g N (st s i) = foldC step fin (xs.drop i) s
  | 0, i, N + 1, hi, _, s => by
    have : i = xs.length := by omega
    subst this
    rw [List.drop_length]
    exact hlast _ _
  | k + 1, i, N + 1, hi, hN, s => by
    have hlt : i < xs.length := by omega
    rw [List.drop_eq_getElem_cons hlt]
    show g (iterV g N) (st s i) = step xs[i] s (foldC step fin (xs.drop (i + 1)))
    rw [hstep _ _ _ hlt]
    congr 1
    funext s'
    exact range_run st step fin hlast hstep k (i + 1) N (by omega) (by omega) s'

/-- a loop that counts, with what holds in each round, and what is asked of its result -/
theorem range_post {V σ α : Type} {g : (V → Option α) → V → Option α} {n : Nat} (st : σ → Nat → V) (I : Nat → σ → Prop) (Post : Option α → Prop)
    (hlast : ∀ self s, I n s → Post (g self (st s n)))
    (hstep : ∀ self s i, i < n → I i s → (∃ s', I (i + 1) s' ∧ g self (st s i) = self (st s' (i + 1))) ∨ Post (g self (st s i))) :
    ∀ (k i N : Nat), i + k = n → k < N → ∀ s, I i s → Post (iterV g N (st s i))
  | 0, i, N + 1, hi, _, s, h => by
    have : i = n := by omega
    subst this
    exact hlast _ _ h
  | k + 1, i, N + 1, hi, hN, s, h => by
    show Post (g (iterV g N) (st s i))
    rcases hstep (iterV g N) s i (by omega) h with ⟨s', h1, h2⟩ | h1
    · rw [h2]
      exact range_post st I Post hlast hstep k (i + 1) N (by omega) (by omega) s' h1
    · exact h1

theorem maxLen_ge : (1000000 : Nat) ≤ maxLen := by decide
theorem big_gt {n : Nat} (h : n ≤ maxLen) : n < big := by
  have : maxLen < big := by decide
  omega
theorem getD_at {α : Type} {l : List α} {i : Nat} (h : i < l.length) (d : α) : l[i]? = some (l.getD i d) := by simp [h]

theorem big_pos : big = (big - 1) + 1 := by decide

/-- one round, and fuel for all others -/
theorem iterV_succ {V α : Type} (g : (V → Option α) → V → Option α) (n : Nat) (v : V) : iterV g (n + 1) v = g (iterV g n) v := rfl
end Go.Lift
