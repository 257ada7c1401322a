/- The greatest masks: the program's and the reference's are the same. -/
import Derived.Test.YtkklpkkhepcaiaaDoorFlowE
set_option linter.unusedVariables false
set_option linter.unusedSimpArgs false
set_option maxRecDepth 100000
namespace Go.Proofs.YtkklpkkhepcaiaaDoor
open Go.Lift

/-! ### bits -/
def Sb (a b : Nat) : Prop := ∀ t, a.testBit t = true → b.testBit t = true
def diff (a b : Nat) : Nat := a ^^^ (a &&& b)
theorem diff_zero {a b : Nat} : diff a b = 0 ↔ Sb a b := by
  unfold diff Sb
  constructor
  · intro h t ht
    have := congrArg (fun z => z.testBit t) h
    simp [ht] at this
    exact this
  · intro h
    apply Nat.eq_of_testBit_eq
    intro t
    have := h t
    cases hh : a.testBit t <;> simp_all
theorem Sb.refl (a : Nat) : Sb a a := fun _ h => h
theorem Sb.trans {a b c : Nat} (h : Sb a b) (h' : Sb b c) : Sb a c := fun t ht => h' t (h t ht)
theorem Sb.and {a b c : Nat} (h : Sb a b) (h' : Sb a c) : Sb a (b &&& c) := fun t ht => by simp [h t ht, h' t ht]
theorem Sb.and_left (a b : Nat) : Sb (a &&& b) a := fun t ht => by simp at ht; exact ht.1
theorem Sb.and_right (a b : Nat) : Sb (a &&& b) b := fun t ht => by simp at ht; exact ht.2
theorem Sb.or {a b c : Nat} (h : Sb a b) : Sb (a ||| c) (b ||| c) := fun t ht => by simp at ht ⊢; exact ht.imp (h t) id
theorem Sb.antisymm {a b : Nat} (h : Sb a b) (h' : Sb b a) : a = b := Nat.eq_of_testBit_eq fun t => by
  have h1 := h t
  have h2 := h' t
  cases ha : a.testBit t <;> cases hb : b.testBit t <;> simp_all
theorem Sb.zero (a : Nat) : Sb 0 a := fun t ht => by simp at ht
theorem Sb.and_eq {a b : Nat} (h : Sb a b) : a &&& b = a := Sb.antisymm (.and_left _ _) ((Sb.refl a).and h)
theorem Sb.le {a b : Nat} (h : Sb a b) : a ≤ b := by
  have := h.and_eq
  rw [← this]
  exact Nat.and_le_right

theorem two16 {a : Nat} (h : a < 65536) : a < 2 ^ IntKind.u64.bits := Nat.lt_trans h (by decide)
theorem or16 {a b : Nat} (ha : a < 65536) (hb : b < 65536) : a ||| b < 65536 := Nat.or_lt_two_pow (n := 16) ha hb
theorem and16 {a b : Nat} (ha : a < 65536) : a &&& b < 65536 := Nat.lt_of_le_of_lt Nat.and_le_left ha
theorem bor {a b : Nat} (ha : a < 65536) (hb : b < 65536) : bits .or .u64 (a : Int) (b : Int) = ((a ||| b : Nat) : Int) := bits_or rfl (two16 ha) (two16 hb)
theorem band {a b : Nat} (ha : a < 65536) (hb : b < 65536) : bits .and .u64 (a : Int) (b : Int) = ((a &&& b : Nat) : Int) := bits_and rfl (two16 ha) (two16 hb)
theorem bandNot {a b : Nat} (ha : a < 65536) (hb : b < 18446744073709551616) : bits .andNot .u64 (a : Int) (b : Int) = ((diff a b : Nat) : Int) := by
  refine Go.Lift.bits_nat rfl (f := fun a b => diff a b) ?_ (two16 (Nat.xor_lt_two_pow (n := 16) ha (and16 ha)))
  simp only [bits]
  congr 2
  apply Nat.eq_of_testBit_eq
  intro t
  rw [BitVec.testBit_toNat]
  simp only [BitVec.ofInt_natCast, BitVec.getLsbD_and, BitVec.getLsbD_not, BitVec.getLsbD_ofNat, diff, Nat.testBit_xor, Nat.testBit_and]
  by_cases h : t < IntKind.u64.bits
  · simp only [h, decide_true, Bool.true_and]
    cases a.testBit t <;> cases b.testBit t <;> rfl
  · have : a.testBit t = false := Nat.testBit_lt_two_pow (Nat.lt_of_lt_of_le (two16 ha) (Nat.pow_le_pow_right (by decide) (by omega)))
    simp [this, h]

theorem shl1 {s : Int} (h0 : 0 ≤ s) (h1 : s ≤ 16) : IntKind.u64.wrap ((1 : Int) * 2 ^ (min (Int.toNat s) 64)) = ((2 ^ s.toNat : Nat) : Int) := by
  rw [show min (Int.toNat s) 64 = s.toNat by omega, Int.one_mul, wrap_u64]
  have h2 : 2 ^ s.toNat ≤ 2 ^ 16 := Nat.pow_le_pow_right (by decide) (by omega)
  have e : ((2 : Int) ^ s.toNat) = ((2 ^ s.toNat : Nat) : Int) := by simp
  rw [e]
  generalize 2 ^ s.toNat = m at *
  omega

/-! ### the slots of an instruction -/
def mk1 (m : Nat) (s : Int) : Nat := m ||| 2 ^ s.toNat
def maskN (ws : List Int) : Nat := ws.foldl mk1 0
def rS (x : Ins) : List Int := rsL (rol x.1) (vals x)
def wS (x : Ins) : List Int := wsL (rol x.1) (vals x)
def Slo (l : List Int) : Prop := ∀ v ∈ l, 0 ≤ v ∧ v ≤ 15

theorem slo_of {x : Ins} (h : okI x = true) : Slo (rS x) ∧ Slo (wS x) ∧ (rS x).length ≤ 3 ∧ (wS x).length ≤ 3 := by
  obtain ⟨h1, h2, h3⟩ := slots_len h
  refine ⟨fun v hv => ?_, fun v hv => ?_, ?_, ?_⟩
  · have := h3 v (List.mem_append.2 (.inl hv)); exact ⟨this.1, this.2.1⟩
  · have := h3 v (List.mem_append.2 (.inr hv)); exact ⟨this.1, this.2.1⟩
  · unfold rS; omega
  · unfold wS; omega
theorem pow16 {s : Int} (h0 : 0 ≤ s) (h1 : s ≤ 15) : 2 ^ s.toNat < 65536 := Nat.lt_of_le_of_lt (Nat.pow_le_pow_right (by decide) (show s.toNat ≤ 15 by omega)) (by decide)
theorem fold16 : ∀ {l : List Int} {m : Nat}, Slo l → m < 65536 → l.foldl mk1 m < 65536
  | [], _, _, h => h
  | v :: l, m, hs, h => fold16 (l := l) (fun u hu => hs u (by simp [hu])) (or16 h (pow16 (hs v (by simp)).1 (hs v (by simp)).2))
theorem fold_bit : ∀ {l : List Int} {m t : Nat}, Slo l → ((l.foldl mk1 m).testBit t = true ↔ m.testBit t = true ∨ (t : Int) ∈ l)
  | [], m, t, _ => by simp
  | v :: l, m, t, hs => by
    have hv := hs v (by simp)
    rw [List.foldl_cons, fold_bit (l := l) fun u hu => hs u (by simp [hu])]
    simp only [mk1, Nat.testBit_or, Nat.testBit_two_pow, Bool.or_eq_true, decide_eq_true_eq, List.mem_cons]
    constructor
    · rintro ((h | h) | h)
      · exact .inl h
      · exact .inr (.inl (by omega))
      · exact .inr (.inr h)
    · rintro (h | h | h)
      · exact .inl (.inl h)
      · exact .inl (.inr (by omega))
      · exact .inr h
theorem take_fold {l : List Int} {i : Nat} {m : Nat} (h : i < l.length) : (l.take (i + 1)).foldl mk1 m = mk1 ((l.take i).foldl mk1 m) l[i] := by
  rw [List.take_add_one, List.getElem?_eq_getElem h]
  simp only [Option.toList_some, List.foldl_append, List.foldl_cons, List.foldl_nil]

theorem maskOf_eq (ws : List Int) (hs : Slo ws) (hl : ws.length ≤ 100) : cflow_maskOf ws = some ((maskN ws : Nat) : Int) := by
  show nflow_maskOf (iterV (gflow_maskOf_0 big) big) ws = _
  unfold nflow_maskOf
  refine range_post (σ := Nat) (g := gflow_maskOf_0 big) (n := ws.length) (fun s i => ((s : Int), ws, (ws.length : Int), (i : Int))) (fun i s => s = (ws.take i).foldl mk1 0) (fun r => r = some ((maskN ws : Nat) : Int)) ?_ ?_ ws.length 0 big (by simp) (big_gt (by have := maxLen_ge; omega)) 0 rfl
  · rintro self s rfl
    show hflow_maskOf_0 self _ = _
    unfold hflow_maskOf_0
    dsimp only
    rw [decide_eq_false (by omega), cond_false, List.take_length]
    rfl
  · rintro self s i hi rfl
    left
    refine ⟨_, rfl, ?_⟩
    have hv := hs ws[i] (List.getElem_mem hi)
    have h16 : (ws.take i).foldl mk1 0 < 65536 := fold16 (fun u hu => hs u (List.mem_of_mem_take hu)) (by decide)
    show hflow_maskOf_0 self _ = _
    unfold hflow_maskOf_0
    dsimp only
    rw [decide_eq_true (by omega), cond_true, getI_lt (List.getElem?_eq_getElem hi), Option.bind_some, decide_eq_false (by omega), cond_false, shl1 hv.1 (by omega), bor h16 (pow16 hv.1 hv.2), w64 (by omega) (by omega), take_fold hi]
    rfl

theorem least_eq {n : Int} (h0 : 0 ≤ n) (h1 : n ≤ 16) : cref07_Least n = some ((2 ^ n.toNat - 1 : Nat) : Int) := by
  show nref07_Least n = _
  unfold nref07_Least
  have hp : 1 ≤ 2 ^ n.toNat := Nat.one_le_two_pow
  have h2 : 2 ^ n.toNat ≤ 2 ^ 16 := Nat.pow_le_pow_right (by decide) (by omega)
  rw [decide_eq_false (by omega), cond_false, shl1 h0 h1]
  dsimp only
  rw [wrap_u64]
  congr 1
  omega
theorem first_eq {n : Int} (h0 : 0 ≤ n) (h1 : n ≤ 16) : cflow_firstSlots n = some ((2 ^ n.toNat - 1 : Nat) : Int) := by
  show nflow_firstSlots n = _
  unfold nflow_firstSlots
  have hp : 1 ≤ 2 ^ n.toNat := Nat.one_le_two_pow
  have h2 : 2 ^ n.toNat ≤ 2 ^ 16 := Nat.pow_le_pow_right (by decide) (by omega)
  rw [decide_eq_false (by omega), cond_false, shl1 h0 h1]
  dsimp only
  rw [wrap_u64]
  congr 1
  omega
theorem least16 {n : Int} (h1 : n ≤ 16) : 2 ^ n.toNat - 1 < 65536 := by
  have h2 : 2 ^ n.toNat ≤ 2 ^ 16 := Nat.pow_le_pow_right (by decide) (by omega)
  omega
theorem least_bit {n : Int} {t : Nat} : (2 ^ n.toNat - 1).testBit t = decide (t < n.toNat) := Nat.testBit_two_pow_sub_one _ _
theorem least_sb {m n : Int} (h : m ≤ n) : Sb (2 ^ m.toNat - 1) (2 ^ n.toNat - 1) := fun t ht => by
  rw [least_bit] at ht ⊢
  simp at ht ⊢
  omega

theorem touch_step (N : Nat) (self0) {rs R W ns : List Int} {i r n : Int} (h0 : 0 ≤ i) (h3 : i < 3) (hr : getI rs i = some (ltr r)) (hn : nth ns i.toNat = some n) (hl : Rl r) (hf : fit r n = true) (hR : R.length ≤ 100) (hW : W.length ≤ 100) :
    gref06_Touched_0 N self0 (rs, i, R, W, ns) = self0 (rs, IntKind.i64.wrap (i + 1), R ++ rs1 r n, W ++ ws1 r n, ns) := by
  show href06_Touched_0 self0 _ = _
  unfold href06_Touched_0
  dsimp only
  rw [decide_eq_true h3, decide_eq_true h0, cond_true]
  have c1 : (Nat.ble 1 1 && Nat.ble (R.length + List.length ([n] : List Int)) lim) = true := by rw [b11, ble_lim (by simp; omega)]; rfl
  have c2 : (Nat.ble 1 1 && Nat.ble (W.length + List.length ([n] : List Int)) lim) = true := by rw [b11, ble_lim (by simp; omega)]; rfl
  simp only [hr, Option.bind_some, Bool.and_self, cond_true, hn, c1, c2]
  rcases rl_cases hl with rfl | rfl | rfl | rfl | rfl | rfl | rfl | rfl | rfl | rfl | rfl <;> simp [fit, idx] at hf <;> by_cases hn1 : n = -1 <;> simp [rs1, ws1, hn1, ltr, beqd] <;> (try omega) <;> (have h9 : (0 : Int) ≤ n := by omega) <;> simp [h9]

theorem Touched_eq {x : Ins} (h : okI x = true) (h0 : 0 ≤ x.1) (h1 : x.1 ≤ 255) : cref06_Touched x = some (rS x, wS x) := by
  show nref06_Touched (iterV (gref06_Touched_0 big) big) x = _
  unfold nref06_Touched
  obtain ⟨a, b, c, ho, e, ha, hb, hc, fa, fb, fc⟩ := okI_three h
  rw [Shape_eq h0 h1, Option.bind_some, show cref06_Operands x = some (vals x) from rfl, Option.bind_some, if_pos ho, e]
  have l1 := rs1_len a x.2.1
  have l2 := rs1_len b x.2.2.1
  show iterV (gref06_Touched_0 big) big ([ltr a, ltr b, ltr c], 0, [], [], vals x) = _
  rw [big_4, iterV_succ, touch_step _ _ (by decide) (by decide) (getI_0 _ _) rfl ha fa (by simp) (by simp), w01]
  rw [iterV_succ, touch_step _ _ (by decide) (by decide) (getI_1 _ _ _) rfl hb fb (by simp only [List.length_append, List.length_nil]; omega) (by simp only [List.length_append, List.length_nil]; omega), w12]
  rw [iterV_succ, touch_step _ _ (by decide) (by decide) (getI_2 _ _ _ _) rfl hc fc (by simp only [List.length_append, List.length_nil]; omega) (by simp only [List.length_append, List.length_nil]; omega), w23]
  show some (_, _) = _
  simp [rS, wS, e, vals, rsL, wsL]

theorem Written_eq {x : Ins} (h : okI x = true) (h0 : 0 ≤ x.1) (h1 : x.1 ≤ 255) : cref07_Written x = some ((maskN (wS x) : Nat) : Int) := by
  show nref07_Written (iterV (gref07_Written_0 big) big) x = _
  unfold nref07_Written
  rw [Touched_eq h h0 h1, Option.bind_some]
  obtain ⟨_, hs, _, hl⟩ := slo_of h
  generalize wS x = ws at *
  dsimp only
  refine range_post (σ := Nat) (g := gref07_Written_0 big) (n := ws.length) (fun s i => (ws, (s : Int), (i : Int))) (fun i s => s = (ws.take i).foldl mk1 0) (fun r => r = some ((maskN ws : Nat) : Int)) ?_ ?_ ws.length 0 big (by simp) (big_gt (by have := maxLen_ge; omega)) 0 rfl
  · rintro self s rfl
    show href07_Written_0 self _ = _
    unfold href07_Written_0
    dsimp only
    rw [decide_eq_false (by omega), cond_false, List.take_length]
    rfl
  · rintro self s i hi rfl
    left
    refine ⟨_, rfl, ?_⟩
    have hv := hs ws[i] (List.getElem_mem hi)
    have h16 : (ws.take i).foldl mk1 0 < 65536 := fold16 (fun u hu => hs u (List.mem_of_mem_take hu)) (by decide)
    show href07_Written_0 self _ = _
    unfold href07_Written_0
    dsimp only
    rw [decide_eq_true (by omega), cond_true, getI_lt (List.getElem?_eq_getElem hi), Option.bind_some, decide_eq_false (by omega), cond_false, shl1 hv.1 (by omega), bor h16 (pow16 hv.1 hv.2), w64 (by omega) (by omega), take_fold hi]
    rfl

theorem Used_eq {x : Ins} (h : okI x = true) (h0 : 0 ≤ x.1) (h1 : x.1 ≤ 255) : cref07_Used x = some (((wS x).foldl mk1 (maskN (rS x)) : Nat) : Int) := by
  show nref07_Used (iterV (gref07_Used_0 big) big) x = _
  unfold nref07_Used
  rw [Touched_eq h h0 h1, Option.bind_some]
  obtain ⟨hsr, hs, hlr, hl⟩ := slo_of h
  generalize wS x = ws at *
  generalize rS x = rs at *
  dsimp only
  have hm : maskN rs < 65536 := fold16 hsr (by decide)
  refine range_post (σ := Nat) (g := gref07_Used_0 big) (n := rs.length) (fun s i => (ws, (s : Int), (i : Int), rs)) (fun i s => s = (rs.take i).foldl mk1 0) (fun r => r = some ((ws.foldl mk1 (maskN rs) : Nat) : Int)) ?_ ?_ rs.length 0 big (by simp) (big_gt (by have := maxLen_ge; omega)) 0 rfl
  · rintro self0 s rfl
    show href07_Used_0 (iterV (gref07_Used_1 big self0) big) self0 _ = _
    unfold href07_Used_0
    dsimp only
    rw [decide_eq_false (by omega), cond_false, List.take_length]
    refine range_post (σ := Nat) (g := gref07_Used_1 big self0) (n := ws.length) (fun s i => (ws, (s : Int), (i : Int))) (fun i s => s = (ws.take i).foldl mk1 (maskN rs)) (fun r => r = some ((ws.foldl mk1 (maskN rs) : Nat) : Int)) ?_ ?_ ws.length 0 big (by simp) (big_gt (by have := maxLen_ge; omega)) _ rfl
    · rintro self s rfl
      show href07_Used_1 self0 self _ = _
      unfold href07_Used_1
      dsimp only
      rw [decide_eq_false (by omega), cond_false, List.take_length]
    · rintro self s i hi rfl
      left
      refine ⟨_, rfl, ?_⟩
      have hv := hs ws[i] (List.getElem_mem hi)
      have h16 : (ws.take i).foldl mk1 (maskN rs) < 65536 := fold16 (fun u hu => hs u (List.mem_of_mem_take hu)) hm
      show href07_Used_1 self0 self _ = _
      unfold href07_Used_1
      dsimp only
      rw [decide_eq_true (by omega), cond_true, getI_lt (List.getElem?_eq_getElem hi), Option.bind_some, decide_eq_false (by omega), cond_false, shl1 hv.1 (by omega), bor h16 (pow16 hv.1 hv.2), w64 (by omega) (by omega), take_fold hi]
      rfl
  · rintro self0 s i hi rfl
    left
    refine ⟨_, rfl, ?_⟩
    have hv := hsr rs[i] (List.getElem_mem hi)
    have h16 : (rs.take i).foldl mk1 0 < 65536 := fold16 (fun u hu => hsr u (List.mem_of_mem_take hu)) (by decide)
    show href07_Used_0 (iterV (gref07_Used_1 big self0) big) self0 _ = _
    unfold href07_Used_0
    dsimp only
    rw [decide_eq_true (show (i : Int) < (rs.length : Int) by omega), cond_true, show (decide ((0 : Int) ≤ (i : Int)) && true) = true by simp, cond_true, nth_at (List.getElem?_eq_getElem hi), Option.bind_some, decide_eq_false (by omega), cond_false, shl1 hv.1 (by omega), bor h16 (pow16 hv.1 hv.2), w64 (by omega) (by omega), take_fold hi]
    rfl

theorem used_low {rs ws : List Int} (hr : Slo rs) (hw : Slo ws) {n : Int} (h0 : 0 ≤ n) : Sb (ws.foldl mk1 (maskN rs)) (2 ^ n.toNat - 1) ↔ (∀ v ∈ rs, v < n) ∧ ∀ v ∈ ws, v < n := by
  have hb : ∀ t : Nat, (ws.foldl mk1 (maskN rs)).testBit t = true ↔ (t : Int) ∈ rs ∨ (t : Int) ∈ ws := fun t => by
    rw [fold_bit hw, maskN, fold_bit hr]
    simp
  constructor
  · intro h
    constructor
    · intro v hv
      have h1 := hr v hv
      have := h v.toNat ((hb _).2 (.inl (by rw [Int.toNat_of_nonneg h1.1]; exact hv)))
      rw [least_bit] at this
      simp at this
      omega
    · intro v hv
      have h1 := hw v hv
      have := h v.toNat ((hb _).2 (.inr (by rw [Int.toNat_of_nonneg h1.1]; exact hv)))
      rw [least_bit] at this
      simp at this
      omega
  · rintro ⟨h1, h2⟩ t ht
    rw [least_bit]
    rcases (hb t).1 ht with h | h
    · have := h1 _ h; simp; omega
    · have := h2 _ h; simp; omega

/-! ### numbers of parameters and slots -/
def lowS (n : Int) (x : Ins) : Bool := (rS x).all (fun v => decide (v < n)) && (wS x).all (fun v => decide (v < n))
def fitR (l : List Ins) (p s : Int) : Int := if s < 0 ∨ s > 16 ∨ p < 0 ∨ p > s then 2 else if l.all (lowS s) then 0 else 16

theorem below_eq (a : List Int) (n : Int) (h : a.length ≤ 100) : cflow_below (a, n) = some (a.all fun v => decide (v < n)) := by
  show nflow_below (iterV (gflow_below_0 big) big) (a, n) = _
  unfold nflow_below
  dsimp only
  refine range_post (σ := Unit) (g := gflow_below_0 big) (n := a.length) (fun _ i => (a, (a.length : Int), (i : Int), n)) (fun i _ => ∀ k v, k < i → a[k]? = some v → v < n) (fun r => r = some (a.all fun v => decide (v < n))) ?_ ?_ a.length 0 big (by simp) (big_gt (by have := maxLen_ge; omega)) () (fun k v hk => absurd hk (Nat.not_lt_zero _))
  · intro self _ hI
    show hflow_below_0 self _ = _
    unfold hflow_below_0
    dsimp only
    rw [decide_eq_false (by omega), cond_false]
    rw [show (a.all fun v => decide (v < n)) = true from all_at.2 fun k v hk => decide_eq_true (hI k v (List.getElem?_eq_some_iff.1 hk).1 hk)]
    rfl
  · intro self _ i hi hI
    have hx : a[i]? = some a[i] := List.getElem?_eq_getElem hi
    show (∃ s', _ ∧ hflow_below_0 self (a, (a.length : Int), (i : Int), n) = _) ∨ hflow_below_0 self (a, (a.length : Int), (i : Int), n) = _
    unfold hflow_below_0
    dsimp only
    rw [decide_eq_true (by omega), cond_true, getI_lt hx, Option.bind_some, w64 (by omega) (by omega)]
    by_cases e : a[i] < n
    · left
      refine ⟨(), fun k v hk h3 => ?_, by rw [decide_eq_false (by omega)]; rfl⟩
      by_cases e2 : k = i
      · subst e2
        rw [hx] at h3
        cases h3
        exact e
      · exact hI k v (by omega) h3
    · right
      rw [decide_eq_true (by omega), cond_true, decide_eq_true (by omega)]
      have : (a.all fun v => decide (v < n)) = false := by
        cases hh : a.all fun v => decide (v < n) with
        | false => rfl
        | true => exact absurd (of_decide_eq_true (all_at.1 hh i _ hx)) e
      rw [this]
      rfl

theorem Fits_eq {l : List Ins} (h : okC l = true) (hw : WfC l) (p s : Int) : cref07_Fits (l, p, s) = some (fitR l p s) := by
  obtain ⟨h1, h2, h3, h4⟩ := okC_parts h
  show nref07_Fits (iterV (gref07_Fits_0 big) big) (l, p, s) = _
  unfold nref07_Fits fitR
  dsimp only
  by_cases a : s < 0
  · simp [a]
  by_cases b : s > 16
  · simp [a, b]
  by_cases c : p < 0
  · simp [a, b, c]
  by_cases d : p > s
  · simp [a, b, c, d]
  rw [decide_eq_false a, decide_eq_false b, decide_eq_false c, decide_eq_false d, if_neg (by omega)]
  simp only [cond_false]
  refine range_post (σ := Unit) (g := gref07_Fits_0 big) (n := l.length) (fun _ i => (l, s, (i : Int))) (fun i _ => ∀ k x, k < i → l[k]? = some x → lowS s x = true) (fun r => r = some (if l.all (lowS s) then 0 else 16)) ?_ ?_ l.length 0 big (by simp) (big_gt (by have := maxLen_ge; omega)) () (fun k v hk => absurd hk (Nat.not_lt_zero _))
  · intro self _ hI
    show href07_Fits_0 self _ = _
    unfold href07_Fits_0
    dsimp only
    rw [decide_eq_false (by omega), cond_false, if_pos (all_at.2 fun k x hk => hI k x (List.getElem?_eq_some_iff.1 hk).1 hk)]
  · intro self _ i hi hI
    have hx : l[i]? = some l[i] := List.getElem?_eq_getElem hi
    have ho := (h3 i _ hx).1
    have hwx := hw _ (List.getElem_mem hi)
    obtain ⟨hr, hws, _, _⟩ := slo_of ho
    show (∃ s', _ ∧ href07_Fits_0 self (l, s, (i : Int)) = _) ∨ href07_Fits_0 self (l, s, (i : Int)) = _
    unfold href07_Fits_0
    dsimp only
    have h16 : (wS l[i]).foldl mk1 (maskN (rS l[i])) < 65536 := fold16 hws (fold16 hr (by decide))
    rw [decide_eq_true (by omega), cond_true, getI_lt hx, Option.bind_some, Used_eq ho hwx.1 hwx.2, Option.bind_some, least_eq (by omega) (by omega), Option.bind_some, bandNot h16 (Nat.lt_trans (least16 (n := s) (by omega)) (by decide)), w64 (by omega) (by omega)]
    have hlow := used_low hr hws (n := s) (by omega)
    have hl2 : lowS s l[i] = true ↔ (∀ v ∈ rS l[i], v < s) ∧ ∀ v ∈ wS l[i], v < s := by simp [lowS]
    by_cases e : lowS s l[i] = true
    · left
      have hz := diff_zero.2 (hlow.2 (hl2.1 e))
      refine ⟨(), fun k x hk h5 => ?_, by rw [hz]; rfl⟩
      by_cases e2 : k = i
      · subst e2
        rw [hx] at h5
        cases h5
        exact e
      · exact hI k x (by omega) h5
    · right
      have hz : diff ((wS l[i]).foldl mk1 (maskN (rS l[i]))) (2 ^ s.toNat - 1) ≠ 0 := fun hz => e (hl2.2 (hlow.1 (diff_zero.1 hz)))
      have : ¬ l.all (lowS s) = true := fun hh => e (all_at.1 hh i _ hx)
      rw [if_neg this, show (((diff ((wS l[i]).foldl mk1 (maskN (rS l[i]))) (2 ^ s.toNat - 1) : Nat) : Int) != 0) = true by simpa using hz]
      rfl
end Go.Proofs.YtkklpkkhepcaiaaDoor

set_option linter.unusedVariables false
set_option linter.unusedSimpArgs false
set_option maxRecDepth 100000
namespace Go.Proofs.YtkklpkkhepcaiaaDoor
open Go.Lift

/-! ### lists of masks -/
def ma (ms : List Nat) (i : Nat) : Nat := ms.getD i 0
theorem ma_set {ms : List Nat} {i j v : Nat} (h : j < ms.length) : ma (ms.set j v) i = if i = j then v else ma ms i := by
  unfold ma
  rw [List.getD_eq_getElem?_getD, get_set h]
  split <;> simp [List.getD_eq_getElem?_getD]
theorem ma_get {ms : List Nat} {i : Nat} (h : i < ms.length) : ms[i]? = some (ma ms i) := getD_at h 0
theorem ma_at {ms : List Nat} {i : Nat} (h : i < ms.length) : nth (ints ms) (Int.toNat (i : Int)) = some ((ma ms i : Nat) : Int) := nth_at (ints_at (ma_get h))
theorem ma_getI {ms : List Nat} {i : Nat} (h : i < ms.length) : getI (ints ms) (i : Int) = some ((ma ms i : Nat) : Int) := getI_lt (ints_at (ma_get h))
theorem ints_set (ms : List Nat) (j v : Nat) : (ints ms).set j ((v : Nat) : Int) = ints (ms.set j v) := by simp [ints, List.map_set]
theorem ma_same {ms : List Nat} {j : Nat} (h : j < ms.length) : ms.set j (ma ms j) = ms := by
  apply List.ext_getElem?
  intro i
  rw [get_set h]
  split
  · rename_i e; subst e; rw [ma_get h]
  · rfl
theorem ma_ext {a b : List Nat} (hl : a.length = b.length) (h : ∀ i, i < a.length → ma a i = ma b i) : a = b := by
  apply List.ext_getElem?
  intro i
  by_cases hi : i < a.length
  · rw [ma_get hi, ma_get (by omega), h i hi]
  · rw [List.getElem?_eq_none (by omega), List.getElem?_eq_none (by omega)]
theorem sum_set : ∀ {ms : List Nat} {j v : Nat}, j < ms.length → (ms.set j v).sum + ma ms j = ms.sum + v
  | [], j, v, h => by simp at h
  | a :: ms, 0, v, h => by simp [ma]; omega
  | a :: ms, j + 1, v, h => by
    have := sum_set (ms := ms) (j := j) (v := v) (by simpa using h)
    have e : ma (a :: ms) (j + 1) = ma ms j := by simp [ma]
    rw [e, List.set_cons_succ, List.sum_cons, List.sum_cons]
    omega
theorem sum_le {c : Nat} : ∀ {ms : List Nat}, (∀ i, i < ms.length → ma ms i ≤ c) → ms.sum ≤ ms.length * c
  | [], _ => by simp
  | a :: ms, h => by
    have h0 := h 0 (by simp)
    have := sum_le (ms := ms) fun i hi => by
      have := h (i + 1) (by simpa using hi)
      simpa [ma] using this
    simp only [List.sum_cons, List.length_cons, Nat.succ_mul]
    simp [ma] at h0
    omega

/-! ### what is asked of masks -/
structure Sol (g : Nat → List Nat) (W : Nat → Nat) (P A : Nat) (x : Nat → Nat) : Prop where
  p : Sb (x 0) P
  a : ∀ i, Rc g i → Sb (x i) A
  e : ∀ i j, Rc g i → j ∈ g i → Sb (x j) (x i ||| W i)
def IsG (g : Nat → List Nat) (W : Nat → Nat) (P A : Nat) (m : Nat → Nat) : Prop := Sol g W P A m ∧ ∀ x, Sol g W P A x → ∀ i, Rc g i → Sb (x i) (m i)
structure MI (g : Nat → List Nat) (W : Nat → Nat) (P A n : Nat) (ms : List Nat) : Prop where
  len : ms.length = n
  up : ∀ i, i < n → Sb (ma ms i) A
  p0 : Sb (ma ms 0) P
  gr : ∀ x, Sol g W P A x → ∀ i, Rc g i → Sb (x i) (ma ms i)

def EgM (W : Nat → Nat) (ms : List Nat) (ch : Bool) (i j : Nat) : Prop := ch = true ∨ Sb (ma ms j) (ma ms i ||| W i)
abbrev nw (W : Nat → Nat) (ms : List Nat) (f j : Nat) : Nat := ma ms j &&& (ma ms f ||| W f)
abbrev df (W : Nat → Nat) (ms : List Nat) (f j : Nat) : Nat := diff (ma ms j) (ma ms f ||| W f)

section
variable {g : Nat → List Nat} {W : Nat → Nat} {P A n f j : Nat} {ms : List Nat}

theorem MI.set (h : MI g W P A n ms) (hf : Rc g f) (hj : j ∈ g f) (hjn : j < n) : MI g W P A n (ms.set j (nw W ms f j)) where
  len := by simp [h.len]
  up := fun i hi => by
    rw [ma_set (by rw [h.len]; exact hjn)]
    split
    · exact (Sb.and_left _ _).trans (h.up j hjn)
    · exact h.up i hi
  p0 := by
    rw [ma_set (by rw [h.len]; exact hjn)]
    split
    · rename_i e; subst e; exact (Sb.and_left _ _).trans h.p0
    · exact h.p0
  gr := fun x hx i hi => by
    rw [ma_set (by rw [h.len]; exact hjn)]
    split
    · rename_i e; subst e
      exact (h.gr x hx i hi).and ((hx.e f i hf hj).trans (Sb.or (h.gr x hx f hf)))
    · exact h.gr x hx i hi

theorem MI.done (h : MI g W P A n ms) (hn : ∀ i, Rc g i → i < n) (he : ∀ i j, Rc g i → j ∈ g i → Sb (ma ms j) (ma ms i ||| W i)) : IsG g W P A (ma ms) :=
  ⟨⟨h.p0, fun i hi => h.up i (hn i hi), he⟩, h.gr⟩

theorem df_nw : df W ms f j = 0 ↔ nw W ms f j = ma ms j := by
  rw [df, diff_zero]
  constructor
  · exact Sb.and_eq
  · intro h
    rw [← h]
    exact .and_right _ _

theorem eg_step (hjn : j < ms.length) (ch : Bool) : (∀ a b, EgM W ms ch a b → EgM W (ms.set j (nw W ms f j)) (ch || decide (df W ms f j ≠ 0)) a b) ∧ EgM W (ms.set j (nw W ms f j)) (ch || decide (df W ms f j ≠ 0)) f j := by
  by_cases h : df W ms f j = 0
  · have e := df_nw.1 h
    rw [e, ma_same hjn]
    constructor
    · intro a b h
      exact h.imp (fun h => by simp [h]) id
    · exact .inr (diff_zero.1 h)
  · constructor
    · intro a b _; left; simp [h]
    · left; simp [h]
theorem sum_step (hjn : j < ms.length) : (ms.set j (nw W ms f j)).sum ≤ ms.sum ∧ (df W ms f j ≠ 0 → (ms.set j (nw W ms f j)).sum < ms.sum) := by
  have h1 := sum_set (v := nw W ms f j) hjn
  have h2 : nw W ms f j ≤ ma ms j := Nat.and_le_left
  refine ⟨by omega, fun h => ?_⟩
  have h3 : nw W ms f j ≠ ma ms j := fun e => h (df_nw.2 e)
  omega

structure SW (g : Nat → List Nat) (W : Nat → Nat) (P A n : Nat) (s0 : Nat) (ms : List Nat) (ch : Bool) : Prop where
  mi : MI g W P A n ms
  le : ms.sum ≤ s0
  lt : ch = true → ms.sum < s0

theorem SW.step {s0 : Nat} {ch : Bool} (h : SW g W P A n s0 ms ch) (hf : Rc g f) (hj : j ∈ g f) (hjn : j < n) : SW g W P A n s0 (ms.set j (nw W ms f j)) (ch || decide (df W ms f j ≠ 0)) := by
  have hs := sum_step (W := W) (f := f) (show j < ms.length by rw [h.mi.len]; exact hjn)
  refine ⟨h.mi.set hf hj hjn, Nat.le_trans hs.1 h.le, fun e => ?_⟩
  have h1 := h.le
  simp only [Bool.or_eq_true, decide_eq_true_eq] at e
  rcases e with e | e
  · have := h.lt e; omega
  · have := hs.2 e; omega

theorem IsG.base {m : Nat → Nat} (h : IsG g W P A m) (hPA : Sb P A) (i : Nat) (hi : Rc g i) : Sb P (m i) :=
  h.2 (fun _ => P) ⟨.refl _, fun _ _ => hPA, fun i j _ _ t ht => by simp [ht]⟩ i hi
end

theorem MI.start {g : Nat → List Nat} {W : Nat → Nat} {P A n : Nat} {ms : List Nat} (hl : ms.length = n) (hn : 0 < n) (hPA : Sb P A) (h1 : ∀ i, i < n → Rc g i → ma ms i = A) (h2 : ∀ i, i < n → Sb (ma ms i) A) (hr : ∀ i, Rc g i → i < n) : MI g W P A n (ms.set 0 P) where
  len := by simp [hl]
  up := fun i hi => by
    rw [ma_set (by omega)]
    split
    · exact hPA
    · exact h2 i hi
  p0 := by rw [ma_set (by omega), if_pos rfl]; exact .refl _
  gr := fun x hx i hi => by
    rw [ma_set (by omega)]
    split
    · rename_i e; subst e; exact hx.p
    · rw [h1 i (hr i hi) hi]; exact hx.a i hi

theorem MI.sum {g : Nat → List Nat} {W : Nat → Nat} {P A n : Nat} {ms : List Nat} (h : MI g W P A n ms) (hn : n ≤ 200) (hA : A < 65536) : ms.sum ≤ 13107200 := by
  have := sum_le (c := 65536) (ms := ms) fun i hi => by
    have := (h.up i (by rw [h.len] at hi; exact hi)).le
    omega
  have h3 : ms.length * 65536 ≤ 200 * 65536 := Nat.mul_le_mul_right _ (by rw [h.len]; exact hn)
  omega
theorem ints_nat : ∀ q : List Nat, (ints q).map Int.toNat = q
  | [] => rfl
  | a :: q => congrArg (a :: ·) (ints_nat q)
theorem big_gt2 {n : Nat} (h : n ≤ 100000000) : n < big := by
  have : 100000000 < big := by decide
  omega

/-! ### the program's -/
theorem bne_nat (d : Nat) : (((d : Nat) : Int) != 0) = decide (d ≠ 0) := by
  by_cases h : d = 0 <;> simp [h]

def Zr (g : Nat → List Nat) (ms : List Nat) : Prop := ∀ i, ¬ Rc g i → ma ms i = 0
def Gr (l : List Ins) (ws : List Nat) (P A : Nat) (ms : List Nat) : Prop := ms.length = l.length ∧ Zr (G l) ms ∧ IsG (G l) (ma ws) P A (ma ms)

theorem greatest_eq {l : List Ins} (h : okC l = true) {ws : List Nat} (hwl : ws.length = l.length) (hW : ∀ i, ma ws i < 65536) {P A : Nat} (hA : A < 65536) (hPA : Sb P A) : ∃ ms, cflow_greatest (l, ints ws, (P : Int), (A : Int)) = some (ints ms) ∧ Gr l ws P A ms := by
  obtain ⟨h1, h2, _, _⟩ := okC_parts h
  have hr : ∀ i, Rc (G l) i → i < l.length := fun i hi => hi.lt h
  show ∃ ms, nflow_greatest (fun _ => List.replicate) (iterV (gflow_greatest_0 (fun _ => List.replicate) big) big) (l, ints ws, (P : Int), (A : Int)) = _ ∧ _
  unfold nflow_greatest
  simp only [mk_ok (show l.length ≤ 68719476736 by omega), cond_true, Int.toNat_natCast, led_eq h, Option.bind_some, ledL_len]
  rw [show List.replicate l.length (0 : Int) = ints (List.replicate l.length 0) by simp [ints]]
  refine range_post (σ := List Nat) (g := gflow_greatest_0 (fun _ => List.replicate) big) (n := l.length) (fun s i => (l, (P : Int), (A : Int), (l.length : Int), (i : Int), ints ws, ints s, ledL l)) (fun k s => s.length = l.length ∧ (∀ i, i < k → Rc (G l) i → ma s i = A) ∧ (∀ i, ¬ (i < k ∧ Rc (G l) i) → ma s i = 0)) (fun r => ∃ ms, r = some (ints ms) ∧ Gr l ws P A ms) ?_ ?_ l.length 0 big (by simp) (big_gt2 (by omega)) _ ⟨by simp, fun i hi => absurd hi (Nat.not_lt_zero _), fun i _ => by simp [ma, List.getD_eq_getElem?_getD, List.getElem?_replicate]; split <;> rfl⟩
  · rintro self0 s ⟨g1, g2, g3⟩
    show ∃ ms, hflow_greatest_0 (fun _ => List.replicate) (iterV (gflow_greatest_1 (fun _ => List.replicate) big self0) big) self0 _ = _ ∧ _
    unfold hflow_greatest_0
    dsimp only
    rw [decide_eq_false (by omega), cond_false, ints_len, show (decide ((0 : Int) ≤ 0) && decide ((0 : Int) < (s.length : Int))) = true by simp; omega, cond_true, Int.toNat_zero, ints_set]
    refine while_post (g := gflow_greatest_1 (fun _ => List.replicate) big self0)
      (fun v => ∃ ms ch, v = (l, ints ws, ints ms, ch) ∧ MI (G l) (ma ws) P A l.length ms ∧ Zr (G l) ms ∧ ∀ i j, Rc (G l) i → j ∈ G l i → EgM (ma ws) ms ch i j)
      (fun v => 2 * (v.2.2.1.map Int.toNat).sum + (if v.2.2.2 then 1 else 0)) (fun r => ∃ ms, r = some (ints ms) ∧ Gr l ws P A ms) ?_ big _ ?_ ?_
    · rintro self v ⟨ms, ch, rfl, m1, m2, m3⟩ ih
      show ∃ ms', hflow_greatest_1 (fun _ => List.replicate) (iterV (gflow_greatest_2 (fun _ => List.replicate) big self0 self) big) self0 self (l, ints ws, ints ms, ch) = _ ∧ _
      unfold hflow_greatest_1
      dsimp only
      cases ch with
      | false =>
        rw [cond_false]
        exact ⟨ms, rfl, m1.len, m2, m1.done hr fun i j hi hj => (m3 i j hi hj).resolve_left (by simp)⟩
      | true =>
        simp only [mk_ok (show l.length ≤ 68719476736 by omega), start_lt h1, cond_true, Int.toNat_natCast, Int.toNat_zero]
        refine while_post (g := gflow_greatest_2 (fun _ => List.replicate) big self0 self)
          (fun v => ∃ ms' ch met p, v = (ints ws, ints ms', ch, l, met, ints p, l) ∧ met.length = l.length ∧ DI (G l) (EgM (ma ws) ms' ch) (fun _ => True) met p none ∧ SW (G l) (ma ws) P A l.length ms.sum ms' ch ∧ Zr (G l) ms' ∧ μ2 met p ≤ 401)
          (fun v => 2 * v.2.2.2.2.1.count false + v.2.2.2.2.2.1.length) (fun r => ∃ ms, r = some (ints ms) ∧ Gr l ws P A ms) ?_ big _ ?_ ?_
        · rintro self1 v ⟨m, ch, met, p, rfl, hm, hd, hs, hz, hμ⟩ ih1
          show ∃ ms', hflow_greatest_2 (fun _ => List.replicate) (iterV (gflow_greatest_3 (fun _ => List.replicate) big self0 self self1) big) self0 self self1 (ints ws, ints m, ch, l, met, ints p, l) = _ ∧ _
          unfold hflow_greatest_2
          dsimp only
          rcases List.eq_nil_or_concat p with rfl | ⟨p, f, rfl⟩
          · simp only [ints_len, List.length_nil]
            rw [show decide (((0 : Nat) : Int) > 0) = false from rfl, cond_false]
            refine ih _ ⟨m, ch, rfl, hs.mi, hz, fun i j hi hj => (hd.done i hi).2.2 j hj⟩ ?_
            show 2 * ((ints m).map Int.toNat).sum + (if ch then 1 else 0) < 2 * ((ints ms).map Int.toNat).sum + 1
            rw [ints_nat, ints_nat]
            have h3 := hs.le
            cases ch with
            | false => simp only [Bool.false_eq_true, if_false]; omega
            | true => have := hs.lt rfl; simp only [if_true]; omega
          · have hp : p.length ≤ 1000 := by simp [μ2] at hμ; omega
            simp only [List.concat_eq_append] at hd hμ ih1 ⊢
            obtain ⟨e1, e2, e3⟩ := stack_last p f (by omega)
            have hrf : Rc (G l) f := hd.rc f (hd.pm f (by simp))
            have hf : f < l.length := hr f hrf
            rw [e1]
            rw [decide_eq_true (show (List.length (ints (p ++ [f])) : Int) > 0 by rw [ints_len, List.length_append]; simp only [List.length_cons, List.length_nil]; omega), cond_true]
            rw [show (decide ((0 : Int) ≤ (p.length : Int)) && decide ((p.length : Int) < (List.length (ints (p ++ [f])) : Int))) = true by rw [ints_len]; simp; omega, cond_true]
            rw [e2, Option.bind_some]
            rw [show (decide ((0 : Int) ≤ (p.length : Int)) && decide ((p.length : Int) ≤ (List.length (ints (p ++ [f])) : Int))) = true by rw [ints_len]; simp; omega, cond_true]
            rw [behind_eq h hf, Option.bind_some, e3]
            have hgl := G_len l f
            rw [ints_len (G l f)]
            refine range_post (σ := List Nat × Bool × List Bool × List Nat) (g := gflow_greatest_3 (fun _ => List.replicate) big self0 self self1) (n := (G l f).length) (fun s k => ((f : Int), ints (G l f), ((G l f).length : Int), (k : Int), ints ws, ints s.1, s.2.1, l, s.2.2.1, ints s.2.2.2, l))
              (fun k s => s.2.2.1.length = l.length ∧ DI (G l) (EgM (ma ws) s.1 s.2.1) (fun _ => True) s.2.2.1 s.2.2.2 (some (f, k)) ∧ SW (G l) (ma ws) P A l.length ms.sum s.1 s.2.1 ∧ Zr (G l) s.1 ∧ μ2 s.2.2.1 s.2.2.2 + 1 ≤ μ2 met (p ++ [f]))
              (fun r => ∃ ms, r = some (ints ms) ∧ Gr l ws P A ms) ?_ ?_ (G l f).length 0 big (by simp) (big_gt2 (by omega)) (m, ch, met, p) ⟨hm, hd.pop, hs, hz, by simp [μ2]; omega⟩
            · rintro self2 ⟨m', c', mt, q⟩ ⟨f1, f2, f3, f4, f5⟩
              dsimp only at f1 f2 f3 f4 f5
              show ∃ ms', hflow_greatest_3 (fun _ => List.replicate) self0 self self1 self2 _ = _ ∧ _
              unfold hflow_greatest_3
              dsimp only
              rw [decide_eq_false (by omega), cond_false]
              refine ih1 _ ⟨m', c', mt, q, rfl, f1, f2.fin, f3, f4, by omega⟩ ?_
              show 2 * mt.count false + (ints q).length < 2 * met.count false + (ints (p ++ [f])).length
              rw [ints_len, ints_len]
              unfold μ2 at f5
              omega
            · rintro self2 ⟨m', c', mt, q⟩ k hk ⟨f1, f2, f3, f4, f5⟩
              dsimp only at f1 f2 f3 f4 f5
              left
              have hj : (G l f)[k]? = some (G l f)[k] := List.getElem?_eq_getElem hk
              have hjm : (G l f)[k] ∈ G l f := List.getElem_mem hk
              have hjl := G_lt h hf hjm
              have hjr : Rc (G l) (G l f)[k] := .step hrf hjm
              generalize (G l f)[k] = j at *
              have hml : m'.length = l.length := f3.mi.len
              have b16 : ∀ i, i < l.length → ma m' i < 65536 := fun i hi => Nat.lt_of_le_of_lt (f3.mi.up i hi).le hA
              have hE := eg_step (W := ma ws) (f := f) (show j < m'.length by omega) c'
              have hS := f3.step hrf hjm hjl
              have hZ : Zr (G l) (m'.set j (nw (ma ws) m' f j)) := fun i hi => by
                rw [ma_set (by omega), if_neg (show ¬ i = j from fun e => hi (e ▸ hjr))]
                exact f4 i hi
              have hor : ma m' f ||| ma ws f < 65536 := or16 (b16 f hf) (hW f)
              have hst : gflow_greatest_3 (fun _ => List.replicate) big self0 self self1 self2 ((f : Int), ints (G l f), ((G l f).length : Int), (k : Int), ints ws, ints m', c', l, mt, ints q, l)
                  = (nth mt j).bind fun b => if b then self2 ((f : Int), ints (G l f), ((G l f).length : Int), ((k + 1 : Nat) : Int), ints ws, ints (m'.set j (nw (ma ws) m' f j)), c' || decide (df (ma ws) m' f j ≠ 0), l, mt, ints q, l)
                    else self2 ((f : Int), ints (G l f), ((G l f).length : Int), ((k + 1 : Nat) : Int), ints ws, ints (m'.set j (nw (ma ws) m' f j)), c' || decide (df (ma ws) m' f j ≠ 0), l, mt.set j true, ints (q ++ [j]), l) := by
                have hq : q.length ≤ 1000 := by simp only [μ2] at f5 hμ; omega
                have hlim : (Nat.ble 1 1 && Nat.ble (List.length (ints q) + List.length ([(j : Int)] : List Int)) lim) = true := by
                  rw [b11, ble_lim (by rw [ints_len]; simp; omega)]; rfl
                show hflow_greatest_3 (fun _ => List.replicate) self0 self self1 self2 _ = _
                unfold hflow_greatest_3
                dsimp only
                rw [decide_eq_true (show (k : Int) < ((G l f).length : Int) by omega), cond_true, getI_lt (ints_at hj), Option.bind_some]
                simp only [ints_len m', f1, hml, in_r hf, in_r hjl, cond_true, ma_at (show f < m'.length by omega), ma_at (show j < m'.length by omega), ma_getI (show f < ws.length by omega), Option.bind_some, bor (b16 f hf) (hW f), band (b16 j hjl) hor, bandNot (b16 j hjl) (Nat.lt_trans hor (by decide)), hlim]
                rw [w64 (z := (k : Int) + 1) (by omega) (by omega), Int.toNat_natCast, ints_set, bne_nat, ints_snoc]
                cases c' with
                | true => cases nth mt j with
                  | none => rfl
                  | some b => cases b <;> rfl
                | false => cases nth mt j with
                  | none => rfl
                  | some b => cases b <;> rfl
              rw [nth_get] at hst
              dsimp only
              rw [hst]
              rcases bool_at (m := mt) (j := j) (by omega) with hb | hb
              · refine ⟨(m'.set j (nw (ma ws) m' f j), c' || decide (df (ma ws) m' f j ≠ 0), mt, q), ⟨f1, f2.old hj hE.1 (fun _ h => h) hE.2 hb, hS, hZ, f5⟩, ?_⟩
                rw [hb]
                rfl
              · have hc := count_new hb
                refine ⟨(m'.set j (nw (ma ws) m' f j), c' || decide (df (ma ws) m' f j ≠ 0), mt.set j true, q ++ [j]), ⟨by simp [f1], f2.new hj hE.1 (fun _ h => h) hE.2 trivial hb, hS, hZ, ?_⟩, ?_⟩
                · simp only [μ2, List.length_append, List.length_cons, List.length_nil] at f5 ⊢
                  omega
                · rw [hb]
                  rfl
        · have := start_count l.length h1
          refine ⟨ms, false, _, [0], rfl, by simp, DI.start h1 trivial, ⟨m1, Nat.le_refl _, fun e => by cases e⟩, m2, ?_⟩
          simp only [μ2, List.length_cons, List.length_nil]
          omega
        · have := start_count l.length h1
          refine big_gt2 ?_
          show 2 * ((List.replicate l.length false).set 0 true).count false + 1 ≤ _
          omega
    · refine ⟨s.set 0 P, true, rfl, MI.start g1 h1 hPA (fun i hi hr => g2 i hi hr) (fun i hi => ?_) hr, fun i hi => ?_, fun i j hi hj => .inl rfl⟩
      · by_cases hri : Rc (G l) i
        · rw [g2 i hi hri]; exact .refl _
        · rw [g3 i (fun e => hri e.2)]; exact .zero _
      · rw [ma_set (by omega), if_neg (show ¬ i = 0 from fun e => hi (e ▸ .zero)), g3 i (fun e => hi e.2)]
    · refine big_gt2 ?_
      have hmi : MI (G l) (ma ws) P A l.length (s.set 0 P) := MI.start g1 h1 hPA (fun i hi hr => g2 i hi hr) (fun i hi => by
        by_cases hri : Rc (G l) i
        · rw [g2 i hi hri]; exact .refl _
        · rw [g3 i (fun e => hri e.2)]; exact .zero _) hr
      have := hmi.sum h2 hA
      show 2 * ((ints (s.set 0 P)).map Int.toNat).sum + 1 ≤ _
      rw [ints_nat]
      omega
  · rintro self0 s i hi ⟨g1, g2, g3⟩
    left
    show ∃ s', _ ∧ hflow_greatest_0 (fun _ => List.replicate) _ self0 _ = _
    unfold hflow_greatest_0
    dsimp only
    simp only [ints_len, ledL_len, g1, in_r hi, cond_true]
    rw [decide_eq_true (show (i : Int) < (l.length : Int) by omega), cond_true, w64 (z := (i : Int) + 1) (by omega) (by omega), Int.toNat_natCast, nth_get, ints_set]
    by_cases hri : Rc (G l) i
    · rw [(ledL_at hi).2 hri]
      refine ⟨s.set i A, ⟨by simp [g1], fun a ha hra => ?_, fun a ha => ?_⟩, rfl⟩
      · rw [ma_set (by omega)]
        split
        · rfl
        · exact g2 a (by omega) hra
      · rw [ma_set (by omega), if_neg (show ¬ a = i from fun e => ha ⟨by omega, e ▸ hri⟩)]
        exact g3 a fun e => ha ⟨by omega, e.2⟩
    · rw [(ledL_false hi).2 hri]
      refine ⟨s, ⟨g1, fun a ha hra => g2 a ?_ hra, fun a ha => g3 a fun e => ha ⟨by omega, e.2⟩⟩, rfl⟩
      have : a ≠ i := fun e => hri (e ▸ hra)
      omega
end Go.Proofs.YtkklpkkhepcaiaaDoor
