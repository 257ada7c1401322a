/- What the functions of package ops compute. -/
import Derived.Test.YtinhcjeilebooaaDoorWireQ
set_option linter.unusedVariables false
set_option linter.unusedSimpArgs false
set_option maxRecDepth 100000
namespace Go.Proofs.YtinhcjeilebooaaDoor
open Go.Lift

abbrev Ins := Int × Int × Int × Int × Unit
def zi : Ins := (0, (0, (0, (0, ()))))

/-! ### numbers of rounds -/
theorem big_4 : big = (big - 4) + 4 := by decide
theorem w01 : IntKind.i64.wrap ((0 : Int) + 1) = 1 := by decide
theorem w12 : IntKind.i64.wrap ((1 : Int) + 1) = 2 := by decide
theorem w23 : IntKind.i64.wrap ((2 : Int) + 1) = 3 := by decide
theorem getI_0 {α : Type} (a : α) (l : List α) : getI (a :: l) 0 = some a := rfl
theorem getI_1 {α : Type} (a b : α) (l : List α) : getI (a :: b :: l) 1 = some b := rfl
theorem getI_2 {α : Type} (a b c : α) (l : List α) : getI (a :: b :: c :: l) 2 = some c := rfl

theorem beqd (a b : Int) : (a == b) = decide (a = b) := rfl

/-! ### the table of operations -/
def isOp (o : Int) : Bool := decide (1 ≤ o) && decide (o ≤ 34)
theorem isOperation_eq (o : Int) : cops_isOperation o = some (isOp o) := by
  simp only [cops_isOperation, mops_isOperation, nops_isOperation, isOp]
  by_cases h : (1 : Int) ≤ o <;> simp [h]

def opRow (k : Nat) : List Int × List Int × Unit := gl0.getD k ([], [], ())
def rol (o : Int) : List Int := (opRow o.toNat).2.1
def nam (o : Int) : List Int := (opRow o.toNat).1
theorem op_nat {o : Int} (h : isOp o = true) : ∃ k : Nat, o = (k : Int) ∧ 1 ≤ k ∧ k ≤ 34 := by
  simp only [isOp, Bool.and_eq_true, decide_eq_true_eq] at h
  exact ⟨o.toNat, by omega, by omega, by omega⟩
theorem ops_len : List.length gl0 = 35 := by decide +kernel
theorem ops_at {o : Int} (h : isOp o = true) : getI gl0 o = some (nam o, rol o, ()) := by
  obtain ⟨k, rfl, h1, h2⟩ := op_nat h
  rw [getI_nat, getD_at (by rw [ops_len]; omega) ([], [], ())]
  rfl

/-- what an operand is -/
def Rl (r : Int) : Prop := 0 ≤ r ∧ r ≤ 10
instance (r : Int) : Decidable (Rl r) := by unfold Rl; infer_instance
def three (l : List Int) : Bool := match l with | [a, b, c] => decide (Rl a) && decide (Rl b) && decide (Rl c) | _ => false
theorem three_all : ((List.range 35).all fun k => three (opRow k).2.1) = true := by decide +kernel
theorem rol_three {o : Int} (h : isOp o = true) : ∃ a b c, rol o = [a, b, c] ∧ Rl a ∧ Rl b ∧ Rl c := by
  obtain ⟨k, rfl, h1, h2⟩ := op_nat h
  have := List.all_eq_true.1 three_all k (List.mem_range.2 (by omega))
  unfold rol
  rw [Int.toNat_natCast]
  unfold three at this
  split at this
  · rename_i a b c e
    simp only [Bool.and_eq_true, decide_eq_true_eq] at this
    exact ⟨a, b, c, e, this.1.1, this.1.2, this.2⟩
  · cases this

theorem rl_cases {r : Int} (h : Rl r) : r = 0 ∨ r = 1 ∨ r = 2 ∨ r = 3 ∨ r = 4 ∨ r = 5 ∨ r = 6 ∨ r = 7 ∨ r = 8 ∨ r = 9 ∨ r = 10 := by
  unfold Rl at h; omega

/-! ### what fits -/
def idx (n k : Int) : Bool := decide (0 ≤ n) && decide (n < k)
theorem isIndex_eq (n k : Int) : cops_isIndex (n, k) = some (idx n k) := by
  simp only [cops_isIndex, mops_isIndex, nops_isIndex, idx]
  by_cases h : (0 : Int) ≤ n <;> simp [h]
def fit (r n : Int) : Bool :=
  if r = 5 then true else if r = 3 ∨ r = 4 then decide (n = -1) || idx n 16 else if r = 1 ∨ r = 2 then idx n 16 else if r = 6 then idx n 2 else if r = 7 ∨ r = 9 then idx n 32 else if r = 8 then idx n 8 else if r = 10 then idx n 200 else decide (n = 0)
theorem fits_eq (r n : Int) (h : Rl r) : cops_fits (r, n) = some (fit r n) := by
  rcases rl_cases h with rfl | rfl | rfl | rfl | rfl | rfl | rfl | rfl | rfl | rfl | rfl <;>
    by_cases hn : n = -1 <;> simp [cops_fits, mops_fits, nops_fits, isIndex_eq, fit, beqd, hn]
def sg (r : Int) : Bool := decide (r = 5) || decide (r = 3) || decide (r = 4)
theorem isSigned_eq (r : Int) : cops_isSigned r = some (sg r) := by
  simp only [cops_isSigned, mops_isSigned, nops_isSigned, sg]
  by_cases h5 : r = 5
  · subst h5; rfl
  by_cases h3 : r = 3
  · subst h3; rfl
  simp [h5, h3, beqd]
theorem fit_low {r n : Int} (hr : Rl r) (h : fit r n = true) (hs : sg r = false) : 0 ≤ n ∧ n < 1000 := by
  rcases rl_cases hr with rfl | rfl | rfl | rfl | rfl | rfl | rfl | rfl | rfl | rfl | rfl <;> simp [fit, sg, idx] at h hs <;> omega

/-! ### Check -/
def fitL : List Int → List Int → Bool
  | r :: rs, n :: ns => fit r n && fitL rs ns
  | _, _ => true
def vals (x : Ins) : List Int := [x.2.1, x.2.2.1, x.2.2.2.1]
def okI (x : Ins) : Bool := isOp x.1 && fitL (rol x.1) (vals x)
theorem operands_eq (x : Ins) : cops_operands x = some (vals x) := rfl

theorem chk_step (N : Nat) (self0) {rs ns : List Int} {i r n : Int} (h0 : 0 ≤ i) (h3 : i < 3) (hr : getI rs i = some r) (hn : nth ns i.toNat = some n) (hl : Rl r) :
    gops_Check_0 N self0 (rs, i, ns) = if fit r n then self0 (rs, IntKind.i64.wrap (i + 1), ns) else some 8 := by
  show hops_Check_0 self0 _ = _
  unfold hops_Check_0
  dsimp only
  rw [decide_eq_true h3, decide_eq_true h0, cond_true, hr]
  simp only [Option.bind_some, Bool.and_self, cond_true, hn, fits_eq r n hl]
  cases fit r n <;> rfl

theorem Check_eq (x : Ins) : cops_Check x = some (if okI x then 0 else 8) := by
  show nops_Check (iterV (gops_Check_0 big) big) x = _
  unfold nops_Check
  rw [isOperation_eq, Option.bind_some, operands_eq, Option.bind_some]
  cases h : isOp x.1 with
  | false => simp [okI, h]
  | true =>
    obtain ⟨a, b, c, e, ha, hb, hc⟩ := rol_three h
    rw [ops_at h]
    simp only [Option.bind_some, Bool.not_true, cond_false, e]
    rw [big_4, iterV_succ, chk_step _ _ (by decide) (by decide) (getI_0 _ _) rfl ha, w01]
    simp only [okI, h, e, fitL, vals, Bool.true_and, Bool.and_true]
    cases fit a x.2.1 with
    | false => rfl
    | true =>
      rw [if_pos rfl, iterV_succ, chk_step _ _ (by decide) (by decide) (getI_1 _ _ _) rfl hb, w12]
      cases fit b x.2.2.1 with
      | false => rfl
      | true =>
        rw [if_pos rfl, iterV_succ, chk_step _ _ (by decide) (by decide) (getI_2 _ _ _ _) rfl hc, w23]
        cases fit c x.2.2.2.1 with
        | false => rfl
        | true => rfl

/-! ### Encode -/
def raw (r n : Int) : Nat := if sg r then dbl n else n.toNat
def seg (r n : Int) : List Int := if r = 0 then [] else vary (raw r n)
def body : List Int → List Int → List Int
  | r :: rs, n :: ns => seg r n ++ body rs ns
  | _, _ => []
def enc (x : Ins) : List Int := x.1 :: body (rol x.1) (vals x)
def I64 (n : Int) : Prop := -9223372036854775808 ≤ n ∧ n ≤ 9223372036854775807

theorem seg_len (r n : Int) : (seg r n).length ≤ 10 := by
  unfold seg
  split
  · simp
  · exact (vary_len _).2

theorem enc_step (N : Nat) (self0) {rs acc ns : List Int} {i r n : Int} (h0 : 0 ≤ i) (h3 : i < 3) (hr : getI rs i = some r) (hn : nth ns i.toNat = some n) (hl : Rl r) (hf : fit r n = true) (h64 : I64 n) (ha : acc.length ≤ 100) :
    gops_Encode_0 N self0 (rs, i, acc, ns) = self0 (rs, IntKind.i64.wrap (i + 1), acc ++ seg r n, ns) := by
  show hops_Encode_0 self0 _ = _
  unfold hops_Encode_0
  dsimp only
  rw [decide_eq_true h3, decide_eq_true h0, cond_true, hr]
  simp only [Option.bind_some, Bool.and_self, cond_true, hn, isSigned_eq]
  by_cases hr0 : r = 0
  · subst hr0
    simp [seg]
  · have e : (r != 0) = true := by simpa using hr0
    rw [e, cond_true, seg, if_neg hr0, raw]
    cases hs : sg r with
    | true =>
      have l := vary_len (dbl n)
      simp only [cond_true, if_true]
      rw [signed_eq n h64.1 h64.2, Option.bind_some, b11, ble_lim (by omega)]
      rfl
    | false =>
      obtain ⟨l0, l1⟩ := fit_low hl hf hs
      obtain ⟨m, rfl⟩ := Int.eq_ofNat_of_zero_le l0
      have l := vary_len m
      have e1 : IntKind.u64.wrap (m : Int) = (m : Int) := by rw [wrap_u64]; omega
      simp only [cond_false]
      rw [e1, vary_eq m (by omega), Option.bind_some, b11, ble_lim (by omega)]
      rfl

def WfI (x : Ins) : Prop := I64 x.2.1 ∧ I64 x.2.2.1 ∧ I64 x.2.2.2.1
theorem okI_three {x : Ins} (h : okI x = true) : ∃ a b c, isOp x.1 = true ∧ rol x.1 = [a, b, c] ∧ Rl a ∧ Rl b ∧ Rl c ∧ fit a x.2.1 = true ∧ fit b x.2.2.1 = true ∧ fit c x.2.2.2.1 = true := by
  simp only [okI, Bool.and_eq_true] at h
  obtain ⟨a, b, c, e, ha, hb, hc⟩ := rol_three h.1
  have h2 := h.2
  simp only [e, vals, fitL, Bool.and_eq_true, Bool.and_true] at h2
  exact ⟨a, b, c, h.1, e, ha, hb, hc, h2.1, h2.2.1, h2.2.2⟩

theorem Encode_eq (x : Ins) (w : WfI x) : cops_Encode x = some (if okI x then (enc x, 0) else ([], 8)) := by
  show nops_Encode (iterV (gops_Encode_0 big) big) x = _
  unfold nops_Encode
  rw [Check_eq, Option.bind_some, operands_eq, Option.bind_some]
  cases h : okI x with
  | false => rfl
  | true =>
    obtain ⟨a, b, c, ho, e, ha, hb, hc, fa, fb, fc⟩ := okI_three h
    rw [ops_at ho]
    simp only [Option.bind_some, if_true, e]
    have l1 := seg_len a x.2.1
    have l2 := seg_len b x.2.2.1
    show (bif (0 : Int) != 0 then _ else _) = _
    rw [show ((0 : Int) != 0) = false from rfl, cond_false]
    rw [big_4, iterV_succ, enc_step _ _ (by decide) (by decide) (getI_0 _ _) rfl ha fa w.1 (by simp), w01]
    rw [iterV_succ, enc_step _ _ (by decide) (by decide) (getI_1 _ _ _) rfl hb fb w.2.1 (by simp only [List.length_append, List.length_cons, List.length_nil]; omega), w12]
    rw [iterV_succ, enc_step _ _ (by decide) (by decide) (getI_2 _ _ _ _) rfl hc fc w.2.2 (by simp only [List.length_append, List.length_cons, List.length_nil]; omega), w23]
    show some (_, (0 : Int)) = _
    simp [enc, e, vals, body]

/-! ### Slots -/
def rs1 (r n : Int) : List Int := if (r = 1 ∨ r = 3) ∧ n ≠ -1 then [n] else []
def ws1 (r n : Int) : List Int := if (r = 2 ∨ r = 4) ∧ n ≠ -1 then [n] else []
def rsL : List Int → List Int → List Int
  | r :: rs, n :: ns => rs1 r n ++ rsL rs ns
  | _, _ => []
def wsL : List Int → List Int → List Int
  | r :: rs, n :: ns => ws1 r n ++ wsL rs ns
  | _, _ => []
theorem rs1_len (r n : Int) : (rs1 r n).length + (ws1 r n).length ≤ 1 := by
  unfold rs1 ws1
  split <;> split <;> simp <;> omega

theorem slots_step (N : Nat) (self0) {rs R W ns : List Int} {i r n : Int} (h0 : 0 ≤ i) (h3 : i < 3) (hr : getI rs i = some r) (hn : nth ns i.toNat = some n) (hl : Rl r) (hR : R.length ≤ 100) (hW : W.length ≤ 100) :
    gops_Slots_0 N self0 (rs, i, R, W, ns) = self0 (rs, IntKind.i64.wrap (i + 1), R ++ rs1 r n, W ++ ws1 r n, ns) := by
  show hops_Slots_0 self0 _ = _
  unfold hops_Slots_0
  dsimp only
  rw [decide_eq_true h3, decide_eq_true h0, cond_true, hr]
  have c1 : (Nat.ble 1 1 && Nat.ble (R.length + List.length ([n] : List Int)) lim) = true := by rw [b11, ble_lim (by simp; omega)]; rfl
  have c2 : (Nat.ble 1 1 && Nat.ble (W.length + List.length ([n] : List Int)) lim) = true := by rw [b11, ble_lim (by simp; omega)]; rfl
  simp only [Option.bind_some, Bool.and_self, cond_true, hn, c1, c2]
  rcases rl_cases hl with rfl | rfl | rfl | rfl | rfl | rfl | rfl | rfl | rfl | rfl | rfl <;> by_cases hn1 : n = -1 <;> simp [rs1, ws1, hn1, beqd]

theorem Slots_eq (x : Ins) : cops_Slots x = some (if okI x then (rsL (rol x.1) (vals x), wsL (rol x.1) (vals x), 0) else ([], [], 8)) := by
  show nops_Slots (iterV (gops_Slots_0 big) big) x = _
  unfold nops_Slots
  rw [Check_eq, Option.bind_some, operands_eq, Option.bind_some]
  cases h : okI x with
  | false => rfl
  | true =>
    obtain ⟨a, b, c, ho, e, ha, hb, hc, fa, fb, fc⟩ := okI_three h
    rw [ops_at ho]
    simp only [Option.bind_some, if_true, e]
    have l1 := rs1_len a x.2.1
    have l2 := rs1_len b x.2.2.1
    show (bif (0 : Int) != 0 then _ else _) = _
    rw [show ((0 : Int) != 0) = false from rfl, cond_false]
    rw [big_4, iterV_succ, slots_step _ _ (by decide) (by decide) (getI_0 _ _) rfl ha (by simp) (by simp), w01]
    rw [iterV_succ, slots_step _ _ (by decide) (by decide) (getI_1 _ _ _) rfl hb (by simp only [List.length_append, List.length_nil]; omega) (by simp only [List.length_append, List.length_nil]; omega), w12]
    rw [iterV_succ, slots_step _ _ (by decide) (by decide) (getI_2 _ _ _ _) rfl hc (by simp only [List.length_append, List.length_nil]; omega) (by simp only [List.length_append, List.length_nil]; omega), w23]
    show some (_, _, (0 : Int)) = _
    simp [vals, rsL, wsL]

/-! ### names -/
theorem Name_eq (o : Int) : cops_Name o = some (if isOp o then (nam o, 0) else ([], 6)) := by
  show nops_Name o = _
  unfold nops_Name
  rw [isOperation_eq, Option.bind_some]
  cases h : isOp o with
  | false => rfl
  | true => rw [ops_at h]; rfl

def fnd (s : List Int) : Nat → Nat → Int × Int
  | 0, _ => (0, 6)
  | k + 1, o => if nam o = s then ((o : Int), 0) else fnd s k (o + 1)
theorem op_loop (s : List Int) : ∀ (k N o : Nat), o + k = 35 → 1 ≤ o → k < N → iterV (gops_Op_0 big) N (s, (o : Int)) = some (fnd s k o)
  | 0, N + 1, o, h, _, _ => by
    rw [iterV_succ]
    show hops_Op_0 _ _ = _
    unfold hops_Op_0
    dsimp only
    rw [decide_eq_false (by omega)]
    rfl
  | k + 1, N + 1, o, h, h1, hN => by
    rw [iterV_succ]
    show hops_Op_0 _ _ = _
    unfold hops_Op_0
    dsimp only
    have hw : IntKind.u8.wrap ((o : Int) + 1) = ((o + 1 : Nat) : Int) := by rw [wrap_u8]; omega
    rw [decide_eq_true (by omega), cond_true, ops_at (by simp [isOp]; omega), Option.bind_some, hw, op_loop s k N (o + 1) (by omega) (by omega) (by omega)]
    simp only [fnd]
    by_cases e : nam o = s
    · rw [if_pos e, e, eqD_self, cond_true]
    · rw [if_neg e, eqD_false e, cond_false]
theorem Op_eq (s : List Int) : cops_Op s = some (fnd s 34 1) := by
  show nops_Op (iterV (gops_Op_0 big) big) s = _
  unfold nops_Op
  exact op_loop s 34 big 1 (by omega) (by omega) (by decide)

theorem fnd_some (s : List Int) : ∀ (k o : Nat), o + k = 35 → 1 ≤ o → (∃ j : Nat, o ≤ j ∧ j ≤ 34 ∧ nam j = s ∧ fnd s k o = ((j : Int), 0)) ∨ (fnd s k o = (0, 6) ∧ ∀ j : Nat, o ≤ j → j ≤ 34 → nam j ≠ s)
  | 0, o, h, h1 => .inr ⟨rfl, fun j h2 h3 => by omega⟩
  | k + 1, o, h, h1 => by
    by_cases e : nam o = s
    · exact .inl ⟨o, Nat.le_refl _, by omega, e, by simp [fnd, e]⟩
    · rcases fnd_some s k (o + 1) (by omega) (by omega) with ⟨j, h2, h3, h4, h5⟩ | ⟨h2, h3⟩
      · exact .inl ⟨j, by omega, h3, h4, by simp [fnd, e, h5]⟩
      · refine .inr ⟨by simp [fnd, e, h2], fun j h4 h5 => ?_⟩
        by_cases hj : j = o
        · subst hj; exact e
        · exact h3 j (by omega) h5
theorem nam_all : ((List.range 35).all fun i => (List.range 35).all fun j => decide ((opRow i).1 ≠ (opRow j).1 ∨ i = j)) = true := by decide +kernel
theorem nam_inj {i j : Nat} (hi : i ≤ 34) (hj : j ≤ 34) (h : nam i = nam j) : i = j := by
  have h1 := List.all_eq_true.1 (List.all_eq_true.1 nam_all i (List.mem_range.2 (by omega))) j (List.mem_range.2 (by omega))
  simp only [decide_eq_true_eq] at h1
  rcases h1 with h1 | h1
  · exact absurd h h1
  · exact h1

/-! ### Decode -/
def vl (r : Int) (n : Nat) : Int := if sg r then half n else if n ≤ 9223372036854775807 then (n : Int) else 9223372036854775807
theorem rd_good {bs : List Int} (hb : Bytes bs) (h : (rd 10 0 bs).2.2 = 0) : (rd 10 0 bs).1 < 18446744073709551616 ∧ (rd 10 0 bs).2.1 ≤ bs.length ∧ 1 ≤ (rd 10 0 bs).2.1 ∧ vary (rd 10 0 bs).1 = bs.take (rd 10 0 bs).2.1 := by
  obtain ⟨r1, r2, r3, r4, _⟩ := rd_read 9 0 bs rfl hb h
  exact ⟨by simpa using r2, r4, r3, r1⟩
theorem bytes_drop {a : List Int} (ha : Bytes a) (n : Nat) : Bytes (a.drop n) := fun c hc => ha c (List.mem_of_mem_drop hc)

theorem valid_at {bs : List Int} {a : Nat} (h1 : bs.length ≤ 200000) (h2 : a ≤ bs.length) : Valid (bs, ((a : Int), ())) := ⟨h1, by simp only; omega, by simp only; omega⟩
theorem read1_eq (bs : List Int) (a : Nat) (h1 : bs.length ≤ 200000) (h2 : a ≤ bs.length) (hb : Bytes bs) : outc bs a 18446744073709551615 0 0 (rd 10 0 (bs.drop a)) = if (rd 10 0 (bs.drop a)).2.2 = 0 then ((bs, (((a + (rd 10 0 (bs.drop a)).2.1 : Nat) : Int), ())), ((rd 10 0 (bs.drop a)).1 : Int), 0) else (zc, 0, (rd 10 0 (bs.drop a)).2.2) := by
  unfold outc
  by_cases h : (rd 10 0 (bs.drop a)).2.2 = 0
  · obtain ⟨g1, g2, g3, g4⟩ := rd_good (bytes_drop hb a) h
    rw [if_pos h, if_neg (by omega), if_pos h]
    simp
  · rw [if_neg h, if_neg h]

theorem readOperand_eq (bs : List Int) (a : Nat) (r : Int) (h1 : bs.length ≤ 200000) (h2 : a ≤ bs.length) (hb : Bytes bs) : cops_readOperand ((bs, ((a : Int), ())), r) =
    some (if (rd 10 0 (bs.drop a)).2.2 = 0 then ((bs, (((a + (rd 10 0 (bs.drop a)).2.1 : Nat) : Int), ())), vl r (rd 10 0 (bs.drop a)).1, 0) else (zc, 0, (rd 10 0 (bs.drop a)).2.2)) := by
  show nops_readOperand _ = _
  unfold nops_readOperand
  dsimp only
  rw [isSigned_eq, Option.bind_some, unsigned_eq _ hb, unvary_eq _ _ hb, if_pos (valid_at h1 h2)]
  simp only [Int.toNat_natCast, Option.bind_some, read1_eq bs a h1 h2 hb]
  by_cases h : (rd 10 0 (bs.drop a)).2.2 = 0
  · obtain ⟨g1, g2, g3, g4⟩ := rd_good (bytes_drop hb a) h
    simp only [if_pos h, outs, if_true, Int.toNat_natCast, vl]
    generalize (rd 10 0 (bs.drop a)).1 = m at *
    cases sg r with
    | true => rfl
    | false =>
      simp only [cond_false]
      by_cases hm : m ≤ 9223372036854775807
      · rw [if_neg (show ¬ ((9223372036854775807 : Int) < (m : Int)) by omega), wrap_i64 (by omega) (by omega)]
        simp [hm]
      · rw [if_pos (show ((9223372036854775807 : Int) < (m : Int)) by omega), wrap_i64 (by omega) (by omega)]
        simp [hm]
  · simp only [if_neg h, outs]
    cases sg r <;> rfl

/-- numbers one behind the other, as an operation wants them: the error, where they end, the numbers -/
def rdL (bs : List Int) : List Int → Nat → Int × Nat × List Nat
  | [], a => (0, a, [])
  | r :: rs, a =>
    if r = 0 then ((rdL bs rs a).1, (rdL bs rs a).2.1, 0 :: (rdL bs rs a).2.2)
    else if (rd 10 0 (bs.drop a)).2.2 = 0 then ((rdL bs rs (a + (rd 10 0 (bs.drop a)).2.1)).1, (rdL bs rs (a + (rd 10 0 (bs.drop a)).2.1)).2.1, (rd 10 0 (bs.drop a)).1 :: (rdL bs rs (a + (rd 10 0 (bs.drop a)).2.1)).2.2)
    else ((rd 10 0 (bs.drop a)).2.2, 0, [])
def vlL : List Int → List Nat → List Int
  | r :: rs, n :: ns => vl r n :: vlL rs ns
  | _, _ => []
def mkI (op : Int) (l : List Int) : Ins := (op, l.getD 0 0, l.getD 1 0, l.getD 2 0, ())
def decEnd (op : Int) (bs : List Int) (t : Int × Nat × List Nat) (vs : List Int) : Cur × Ins × Int :=
  if t.1 ≠ 0 then (zc, zi, t.1) else if okI (mkI op vs) then ((bs, ((t.2.1 : Int), ())), mkI op vs, 0) else (zc, zi, 12)

theorem len3 {l : List Int} (h : l.length = 3) : ∃ a b c, l = [a, b, c] := by
  match l, h with
  | [a, b, c], _ => exact ⟨a, b, c, rfl⟩

theorem rdL_len (bs : List Int) : ∀ (rs : List Int) (a : Nat), (rdL bs rs a).1 = 0 → (rdL bs rs a).2.2.length = rs.length
  | [], a, _ => rfl
  | r :: rs, a, h => by
    simp only [rdL] at h ⊢
    split at h
    · rename_i hr; rw [if_pos hr]; simp [rdL_len bs rs a h]
    · rename_i hr
      split at h
      · rename_i h2; rw [if_neg hr, if_pos h2]; simp [rdL_len bs rs _ h]
      · rename_i h2; exact absurd h h2
theorem vlL_len : ∀ (rs : List Int) (ns : List Nat), rs.length = ns.length → (vlL rs ns).length = rs.length
  | [], [], _ => rfl
  | r :: rs, n :: ns, h => by simp [vlL, vlL_len rs ns (by simpa using h)]
  | [], _ :: _, h => by simp at h
  | _ :: _, [], h => by simp at h

theorem vl_0 : vl 0 0 = 0 := rfl

theorem dec_run (N : Nat) (op : Int) (bs : List Int) (h1 : bs.length ≤ 200000) (hb : Bytes bs) (u : Int × Unit) (z : List Int) (zx : Ins) (rs : List Int) : ∀ (rs' : List Int) (M i a : Nat) (pv : List Int), rs.drop i = rs' → i + rs'.length = 3 → pv.length = i → a ≤ bs.length → rs'.length < M →
    iterV (gops_Decode_0 N) M (op, rs, (i : Int), (bs, ((a : Int), ())), u, z, zx, pv ++ List.replicate rs'.length 0) = some (decEnd op bs (rdL bs rs' a) (pv ++ vlL rs' (rdL bs rs' a).2.2))
  | [], M + 1, i, a, pv, hd, hi, hp, ha, hM => by
    rw [iterV_succ]
    show hops_Decode_0 _ _ = _
    unfold hops_Decode_0
    dsimp only
    simp only [List.length_nil, Nat.add_zero] at hi
    subst hi
    obtain ⟨A, B, C, rfl⟩ := len3 hp
    rw [decide_eq_false (by omega), cond_false]
    simp only [List.length_nil, List.replicate_zero, List.append_nil, rdL, vlL, decEnd, ne_eq, not_true_eq_false, if_false]
    show ((cops_Check (op, (A, (B, (C, ()))))).bind _) = _
    rw [Check_eq, Option.bind_some]
    show (bif (if okI (mkI op [A, B, C]) then (0 : Int) else 8) != 0 then _ else _) = _
    cases okI (mkI op [A, B, C]) <;> rfl
  | r :: rs', M + 1, i, a, pv, hd, hi, hp, ha, hM => by
    rw [iterV_succ]
    show hops_Decode_0 _ _ = _
    unfold hops_Decode_0
    dsimp only
    simp only [List.length_cons] at hi hM
    have hr : getI rs (i : Int) = some r := by
      rw [getI_nat]
      have := congrArg (fun l => l[0]?) hd
      simpa using this
    have hd' : rs.drop (i + 1) = rs' := by
      have := congrArg List.tail hd
      simpa [List.tail_drop] using this
    have hw : IntKind.i64.wrap ((i : Int) + 1) = ((i + 1 : Nat) : Int) := by rw [wrap_i64 (by omega) (by omega)]; simp
    rw [decide_eq_true (show (i : Int) < 3 by omega), cond_true, hr, Option.bind_some, hw]
    by_cases h0 : r = 0
    · subst h0
      rw [show ((0 : Int) == 0) = true from rfl, cond_true]
      have := dec_run N op bs h1 hb u z zx rs rs' M (i + 1) a (pv ++ [0]) hd' (by omega) (by simp [hp]) ha (by omega)
      rw [show pv ++ List.replicate (0 :: rs').length (0 : Int) = pv ++ [0] ++ List.replicate rs'.length 0 by simp [List.replicate_succ]]
      rw [this]
      simp only [rdL, if_true, vlL, vl_0, List.append_assoc, List.singleton_append, decEnd]
    · rw [show (r == 0) = false by simpa using h0, cond_false, readOperand_eq bs a r h1 ha hb, Option.bind_some, decide_eq_true (show (0 : Int) ≤ (i : Int) by omega)]
      simp only [Bool.and_self, cond_true, rdL, if_neg h0]
      by_cases h : (rd 10 0 (bs.drop a)).2.2 = 0
      · obtain ⟨g1, g2, g3, g4⟩ := rd_good (bytes_drop hb a) h
        simp only [if_pos h]
        have hset : List.set (pv ++ List.replicate (r :: rs').length (0 : Int)) ((i : Int).toNat) (vl r (rd 10 0 (bs.drop a)).1) = pv ++ [vl r (rd 10 0 (bs.drop a)).1] ++ List.replicate rs'.length 0 := by
          rw [Int.toNat_natCast, List.set_append_right _ _ (by omega), hp, Nat.sub_self]
          simp [List.replicate_succ]
        simp only [List.length_drop] at g2
        have := dec_run N op bs h1 hb u z zx rs rs' M (i + 1) (a + (rd 10 0 (bs.drop a)).2.1) (pv ++ [vl r (rd 10 0 (bs.drop a)).1]) hd' (by omega) (by simp [hp]) (by omega) (by omega)
        rw [hset, show ((0 : Int) != 0) = false from rfl, cond_false, this]
        simp only [vlL, List.append_assoc, List.singleton_append, decEnd]
        rfl
      · simp only [if_neg h]
        rw [show ((rd 10 0 (bs.drop a)).2.2 != 0) = true by simpa using h, cond_true]
        simp only [decEnd, if_pos h, ne_eq, h, not_false_eq_true]
        rfl

def decAt (bs : List Int) (a : Nat) : Cur × Ins × Int :=
  match bs[a]? with
  | none => (zc, zi, 24)
  | some o => if isOp o then decEnd o bs (rdL bs (rol o) (a + 1)) (vlL (rol o) (rdL bs (rol o) (a + 1)).2.2) else (zc, zi, 12)

theorem Decode_eq (c : Cur) (hb : Bytes c.1) : cops_Decode c = some (if Valid c then decAt c.1 c.2.1.toNat else (zc, zi, 8)) := by
  show nops_Decode (iterV (gops_Decode_0 big) big) c = _
  unfold nops_Decode
  rw [unfixed_eq c 1 hb, Option.bind_some]
  by_cases hv : Valid c
  · obtain ⟨bs, at_, u⟩ := c
    have hv' := hv
    obtain ⟨h1, h2, h3⟩ := hv
    simp only at h1 h2 h3 hb
    obtain ⟨a, rfl⟩ := Int.eq_ofNat_of_zero_le h2
    simp only [hv', not_true_eq_false, if_false, if_true, show (wide 1 = false) = False by simp [wide], Int.toNat_natCast, decAt]
    by_cases ha : a < bs.length
    · have e : bs[a]? = some bs[a] := List.getElem?_eq_getElem ha
      have hbb := hb bs[a] (List.getElem_mem ha)
      rw [if_neg (by omega), e]
      have ht : (bs.drop a).take (1 : Int).toNat = [bs[a]] := by
        rw [List.drop_eq_getElem_cons ha]; rfl
      rw [ht]
      simp only [unl, Nat.mul_zero, Nat.add_zero]
      generalize hO : bs[a] = o at *
      have ew : IntKind.u8.wrap ((o.toNat : Nat) : Int) = o := by rw [wrap_u8]; omega
      rw [ew, show ((0 : Int) != 0) = false from rfl, cond_false, isOperation_eq, Option.bind_some]
      cases ho : isOp o with
      | false => rfl
      | true =>
        obtain ⟨p, q, r, e3, hp, hq, hr⟩ := rol_three ho
        rw [ops_at ho]
        simp only [Bool.not_true, cond_false, Option.bind_some, if_true]
        have := dec_run big o bs h1 hb ((0 : Int), ()) [] zi (rol o) (rol o) big 0 (a + 1) [] rfl (by rw [e3]; rfl) rfl (by omega) (by rw [e3]; exact (by decide : 3 < big))
        simp only [List.nil_append] at this
        rw [show (List.replicate 3 (0 : Int)) = List.replicate (rol o).length 0 by rw [e3]; rfl]
        exact this
    · rw [if_pos (by omega), List.getElem?_eq_none (by omega)]
      rfl
  · simp only [hv, not_false_eq_true, if_true, if_false]
    rfl
end Go.Proofs.YtinhcjeilebooaaDoor
