/- What the functions of package crc and of the reference of layer 1 compute; the laws CrcSums and CrcChanged. -/
import Derived.Test.YtdhlomachkionaaCrcS
import Derived.Test.YtdhlomachkionaaCrcMath
set_option linter.unusedVariables false
set_option linter.unusedSimpArgs false
set_option maxRecDepth 100000
namespace Go.Proofs.Ytdhlomachkionaa
open Go.Lift

theorem table_eq : ccrc_Table () = some tbl := by kernel_rfl
theorem rTable_eq : cref01_Table () = some tbl := by kernel_rfl
theorem crc_alive : claw01_alive () = some true := by kernel_rfl

theorem step_nat {s c : Nat} (hs : s < 4294967296) (hc : c < 256) : ccrc_step (tbl, (s : Int), (c : Int)) = some ((stN s c : Nat) : Int) := by
  have h1 : IntKind.u8.wrap (s : Int) = ((s % 256 : Nat) : Int) := by rw [wrap_u8]; simp
  have hm : s % 256 < 256 := Nat.mod_lt _ (by decide)
  have h2 : bits .xor .u8 ((s % 256 : Nat) : Int) (c : Int) = (((s % 256) ^^^ c : Nat) : Int) := bits_xor rfl hm hc
  have h3 : bits .xor .u32 ((s / 2 ^ 8 : Nat) : Int) ((elN ((s % 256) ^^^ c) : Nat) : Int) = (((s / 2 ^ 8) ^^^ elN ((s % 256) ^^^ c) : Nat) : Int) :=
    bits_xor rfl (Nat.lt_of_le_of_lt (Nat.div_le_self _ _) hs) (el_lt (xor_lt hm hc))
  simp only [ccrc_step, mcrc_step, ncrc_step, h1, h2, getI_tbl (xor_lt hm hc), Option.bind_some, fdiv_nat, h3, stN]

theorem maxLen_eq : maxLen = 9223372036854775807 := by decide
theorem big_lt {n : Nat} (h : n ≤ maxLen) : n < big := by
  have : maxLen < big := by decide
  omega

theorem steps_loop (b : List Int) (hb : Bytes b) (hl : b.length ≤ 9223372036854775807) : ∀ (k N i s : Nat), i + k = b.length → k < N → s < 4294967296 →
    iterV (gcrc_steps_0 big) N (tbl, (s : Int), b, (b.length : Int), (i : Int)) = some ((stepsN (b.drop i) s : Nat) : Int)
  | k, 0, _, _, _, h, _ => by omega
  | 0, N + 1, i, s, hi, _, _ => by
    rw [iterV_succ]
    have : i = b.length := by omega
    subst this
    have g : decide ((b.length : Int) < (b.length : Int)) = false := decide_eq_false (by omega)
    simp [gcrc_steps_0, hcrc_steps_0, g, stepsN]
  | k + 1, N + 1, i, s, hi, hN, hs => by
    rw [iterV_succ]
    have hlt : i < b.length := by omega
    have g : decide ((i : Int) < (b.length : Int)) = true := decide_eq_true (by omega)
    have hbb := hb b[i] (List.getElem_mem hlt)
    have hd : b.drop i = b[i] :: b.drop (i + 1) := List.drop_eq_getElem_cons hlt
    have e1 : IntKind.i64.wrap ((i : Int) + 1) = ((i + 1 : Nat) : Int) := by rw [wrap_i64 (by omega) (by omega)]; simp
    simp only [gcrc_steps_0, hcrc_steps_0, g, cond_true, getI_at hlt, Option.bind_some]
    rw [hd]
    generalize b[i] = c at *
    obtain ⟨m, rfl⟩ := Int.eq_ofNat_of_zero_le hbb.1
    have hm : m < 256 := by omega
    rw [step_nat hs hm, Option.bind_some]
    simp only [e1]
    rw [steps_loop b hb hl k N (i + 1) (stN s m) (by omega) (by omega) (stN_lt hs hm)]
    simp [stepsN]

theorem steps_eq (b : List Int) (hb : Bytes b) (hl : b.length ≤ 200000) (s : Nat) (hs : s < 4294967296) : ccrc_steps (tbl, (s : Int), b) = some ((stepsN b s : Nat) : Int) := by
  have := steps_loop b hb (by omega) b.length big 0 s (by omega) (big_lt (by rw [maxLen_eq]; omega)) hs
  rw [List.drop_zero] at this
  exact this

def sumN (b : List Int) (s : Nat) : Nat := stepsN b (s ^^^ 4294967295) ^^^ 4294967295
theorem next_eq (t : List Int) (b : List Int) (hb : Bytes b) (s : Nat) (hs : s < 4294967296) : ccrc_Next (t, (s : Int), b) = some (if t ≠ tbl then (0, 8) else if b.length > 200000 then (0, 4) else (((sumN b s : Nat) : Int), 0)) := by
  simp only [ccrc_Next, mcrc_Next, ncrc_Next, table_eq, Option.bind_some]
  by_cases ht : t = tbl
  · subst ht
    rw [eqD_self]
    by_cases hl : b.length > 200000
    · rw [decide_eq_true (show (b.length : Int) > 200000 by omega)]
      simp [hl]
    · have h1 := xor_lt32 hs ones_lt
      have e := xor_ones hs
      rw [decide_eq_false (show ¬ (b.length : Int) > 200000 by omega)]
      simp only [Bool.not_true, cond_false, e, steps_eq b hb (by omega) _ h1, Option.bind_some, xor_ones (stepsN_lt b hb h1), sumN]
      simp [hl]
  · rw [eqD_false (t := .arr 256 (.int .u32)) ht]
    simp [ht]

theorem sum_eq (t : List Int) (b : List Int) (hb : Bytes b) : ccrc_Sum (t, b) = some (if t ≠ tbl then (0, 8) else if b.length > 200000 then (0, 4) else (((sumN b 0 : Nat) : Int), 0)) := by
  have := next_eq t b hb 0 (by decide)
  simp only [ccrc_Sum, mcrc_Sum, ncrc_Sum]
  rw [show (0 : Int) = ((0 : Nat) : Int) from rfl, this]
  rfl

/-! ### the reference -/
theorem mod_xor8 {s c : Nat} (hc : c < 256) : (s ^^^ c) % 256 = (s % 256) ^^^ c := by
  rw [xor_mod8, Nat.mod_eq_of_lt hc]

theorem on_loop (b : List Int) (hb : Bytes b) (hl : b.length ≤ 200000) : ∀ (k N i s : Nat), i + k = b.length → k < N → s < 4294967296 →
    iterV (gref01_On_0 big) N (b, (s : Int), (i : Int), tbl) = some (((stepsN (b.drop i) s) ^^^ 4294967295 : Nat) : Int)
  | k, 0, _, _, _, h, _ => by omega
  | 0, N + 1, i, s, hi, _, hs => by
    rw [iterV_succ]
    have : i = b.length := by omega
    subst this
    have g : decide ((b.length : Int) < (b.length : Int)) = false := decide_eq_false (by omega)
    simp [gref01_On_0, href01_On_0, g, stepsN, xor_ones hs]
  | k + 1, N + 1, i, s, hi, hN, hs => by
    rw [iterV_succ]
    have hlt : i < b.length := by omega
    have g : decide ((i : Int) < (b.length : Int)) = true := decide_eq_true (by omega)
    have hbb := hb b[i] (List.getElem_mem hlt)
    have hd : b.drop i = b[i] :: b.drop (i + 1) := List.drop_eq_getElem_cons hlt
    have e1 : IntKind.i64.wrap ((i : Int) + 1) = ((i + 1 : Nat) : Int) := by rw [wrap_i64 (by omega) (by omega)]; simp
    simp only [gref01_On_0, href01_On_0, g, cond_true, getI_at hlt, Option.bind_some]
    rw [hd]
    generalize b[i] = c at *
    obtain ⟨m, rfl⟩ := Int.eq_ofNat_of_zero_le hbb.1
    have hm : m < 256 := by omega
    have e2 : IntKind.u32.wrap (m : Int) = (m : Int) := by rw [wrap_u32]; omega
    have e3 : IntKind.u32.wrap ((s : Int).tdiv 256) = ((s / 256 : Nat) : Int) := by
      rw [Int.tdiv_eq_ediv_of_nonneg (by omega), wrap_u32]; omega
    have e4 : bits .xor .u32 (s : Int) (m : Int) = ((s ^^^ m : Nat) : Int) := bits_xor rfl hs (by simp only [IntKind.bits]; omega)
    have e5 : ((s ^^^ m : Nat) : Int).tmod 256 = (((s % 256) ^^^ m : Nat) : Int) := by
      rw [Int.tmod_eq_emod_of_nonneg (by omega), ← mod_xor8 hm]; simp
    have hx : (s % 256) ^^^ m < 256 := xor_lt (Nat.mod_lt _ (by decide)) hm
    have e6 : (decide ((0 : Int) ≤ (((s % 256) ^^^ m : Nat) : Int)) && decide ((((s % 256) ^^^ m : Nat) : Int) < (256 : Int))) = true := by
      rw [decide_eq_true (by omega), decide_eq_true (by omega)]; rfl
    have e7 : bits .xor .u32 ((s / 256 : Nat) : Int) ((elN ((s % 256) ^^^ m) : Nat) : Int) = ((stN s m : Nat) : Int) :=
      bits_xor rfl (Nat.lt_of_le_of_lt (Nat.div_le_self _ _) hs) (el_lt hx)
    simp only [e2, e3, e4, e5, e6, cond_true, Int.toNat_natCast, tbl_at hx, Option.bind_some, e7, e1]
    rw [on_loop b hb hl k N (i + 1) (stN s m) (by omega) (by omega) (stN_lt hs hm)]
    simp [stepsN]

theorem rNext_eq (t : List Int) (b : List Int) (hb : Bytes b) (s : Nat) (hs : s < 4294967296) : cref01_Next (t, (s : Int), b) = ccrc_Next (t, (s : Int), b) := by
  rw [next_eq t b hb s hs]
  simp only [cref01_Next, mref01_Next, nref01_Next, cref01_Right, mref01_Right, nref01_Right, rTable_eq, Option.bind_some]
  by_cases ht : t = tbl
  · subst ht
    rw [eqD_self]
    by_cases hl : b.length > 200000
    · rw [decide_eq_true (show (b.length : Int) > 200000 by omega)]
      simp [hl]
    · have h1 := xor_lt32 hs ones_lt
      have e := xor_ones hs
      have hon : cref01_On ((s : Int), b) = some ((sumN b s : Nat) : Int) := by
        show nref01_On (iterV (gref01_On_0 big) big) ((s : Int), b) = _
        simp only [nref01_On, rTable_eq, Option.bind_some, e]
        have := on_loop b hb (by omega) b.length big 0 _ (by omega) (big_lt (by rw [maxLen_eq]; omega)) h1
        rw [List.drop_zero] at this
        exact this
      rw [decide_eq_false (show ¬ (b.length : Int) > 200000 by omega)]
      simp only [Bool.not_true, cond_false, hon, Option.bind_some]
      simp [hl]
  · rw [eqD_false (t := .arr 256 (.int .u32)) ht]
    simp [ht]

theorem rSum_eq (t : List Int) (b : List Int) (hb : Bytes b) : cref01_Sum (t, b) = ccrc_Sum (t, b) := by
  have := rNext_eq t b hb 0 (by decide)
  simp only [cref01_Sum, mref01_Sum, nref01_Sum, ccrc_Sum, mcrc_Sum, ncrc_Sum]
  rw [show (0 : Int) = ((0 : Nat) : Int) from rfl, this]

theorem law_table (x : Int × Int) : ∃ t, claw01_table x = some t := by
  simp only [claw01_table, mlaw01_table, nlaw01_table, rTable_eq, Option.bind_some]
  by_cases h0 : x.1 ≥ 0
  · by_cases h1 : x.1 < 256
    · have g0 : decide (x.1 ≥ (0 : Int)) = true := decide_eq_true h0
      have g1 : decide (x.1 < (256 : Int)) = true := decide_eq_true h1
      have g2 : decide ((0 : Int) ≤ x.1) = true := decide_eq_true h0
      have g3 := tbl_at (a := x.1.toNat) (by omega)
      simp only [g0, g1, cond_true, Bool.and_self, g3, Option.bind_some]
      exact ⟨_, rfl⟩
    · rw [decide_eq_true h0, decide_eq_false h1]; exact ⟨_, rfl⟩
  · rw [decide_eq_false h0]; exact ⟨_, rfl⟩

theorem rLong_some (b : List Int) : ∃ r, cref01_Long b = some r := by
  simp only [cref01_Long, mref01_Long, nref01_Long]
  cases decide ((b.length : Int) > 700) <;> cases decide ((b.length : Int) ≤ 200000) <;> exact ⟨_, rfl⟩

theorem sums_true (x : Int × Int × Int × (List Int)) (w : WfL [(.int .i64), (.int .u32), (.int .u32), (.slice (.int .u8))] x) : claw01_CrcSums x = some true := by
  obtain ⟨at_, by_, s', b⟩ := x
  obtain ⟨_, _, ⟨s0, s1⟩, _, hb0⟩ := w
  simp only [min_u32, max_u32] at s0 s1
  have hb : Bytes b := fun c hc => by
    have := hb0 c hc
    simpa only [Wf, min_u8, max_u8] using this
  obtain ⟨s, rfl⟩ := Int.eq_ofNat_of_zero_le s0
  have hs : s < 4294967296 := by have : (s : Int) ≤ 4294967295 := s1; omega
  show nlaw01_CrcSums (at_, by_, (s : Int), b) = some true
  obtain ⟨l, hl⟩ := rLong_some b
  obtain ⟨t, ht⟩ := law_table (at_, by_)
  simp only [nlaw01_CrcSums, hl, Option.bind_some]
  cases l with
  | true => rfl
  | false =>
    simp only [cond_false, ht, Option.bind_some, rSum_eq t b hb, sum_eq t b hb, rNext_eq t b hb s hs, next_eq t b hb s hs, table_eq, rTable_eq, eqD_self, cond_true, beq_self_eq_true]

/-! ### changed bytes -/
theorem set_len {α : Type} (y : α) : ∀ (p : List α) (x : α) (q : List α), List.set (p ++ x :: q) p.length y = p ++ y :: q
  | [], _, _ => rfl
  | a :: p, x, q => by simp [set_len y p x q]

def tail (b c : List Int) : Option Bool :=
  (ccrc_Table ()).bind fun x10 => ((ccrc_Sum (x10, b)).bind fun x11 => ((ccrc_Sum (x10, c)).bind fun x12 => (bif (x11.2 == (0 : Int)) then (bif (x12.2 == (0 : Int)) then ((cref01_Same (b, c)).bind fun x13 => (bif ((x11.1 == x12.1) == x13) then ((claw01_alive ()).bind fun x14 => (some x14)) else (some false))) else (some false)) else (some false))))

theorem tail_true {p m m' q : List Int} (hp : Bytes p) (hm : Bytes m) (hm' : Bytes m') (hq : Bytes q) (hl : m.length = m'.length) (h4 : m.length ≤ 4) (h7 : (p ++ (m ++ q)).length ≤ 700) : tail (p ++ (m ++ q)) (p ++ (m' ++ q)) = some true := by
  have hb : Bytes (p ++ (m ++ q)) := fun c hc => by
    rcases List.mem_append.1 hc with h | h
    · exact hp c h
    · rcases List.mem_append.1 h with h | h
      · exact hm c h
      · exact hq c h
  have hc : Bytes (p ++ (m' ++ q)) := fun c hc => by
    rcases List.mem_append.1 hc with h | h
    · exact hp c h
    · rcases List.mem_append.1 h with h | h
      · exact hm' c h
      · exact hq c h
  have h7' : (p ++ (m' ++ q)).length ≤ 700 := by simp only [List.length_append] at h7 ⊢; omega
  have s1 := sum_eq tbl (p ++ (m ++ q)) hb
  have s2 := sum_eq tbl (p ++ (m' ++ q)) hc
  rw [if_neg (by simp), if_neg (by omega)] at s1 s2
  have g0 : ((0 : Int) == (0 : Int)) = true := rfl
  have hs : cref01_Same (p ++ (m ++ q), p ++ (m' ++ q)) = some (eqD .str (p ++ (m ++ q)) (p ++ (m' ++ q))) := rfl
  simp only [tail, table_eq, Option.bind_some, s1, s2, g0, cond_true, hs, crc_alive]
  have key : ((((sumN (p ++ (m ++ q)) 0 : Nat) : Int) == ((sumN (p ++ (m' ++ q)) 0 : Nat) : Int)) == (eqD .str (p ++ (m ++ q)) (p ++ (m' ++ q)))) = true := by
    by_cases he : m = m'
    · subst he
      rw [eqD_self]
      simp
    · have h1 : p ++ (m ++ q) ≠ p ++ (m' ++ q) := fun h => by
        have h2 := List.append_cancel_left h
        exact he (List.append_cancel_right h2)
      rw [eqD_false (t := .str) h1]
      have h2 : (((sumN (p ++ (m ++ q)) 0 : Nat) : Int) == ((sumN (p ++ (m' ++ q)) 0 : Nat) : Int)) = false := by
        rw [beq_eq_false_iff_ne]
        intro h
        have h3 : sumN (p ++ (m ++ q)) 0 = sumN (p ++ (m' ++ q)) 0 := by omega
        unfold sumN at h3
        have h4' : stepsN (p ++ (m ++ q)) (0 ^^^ 4294967295) = stepsN (p ++ (m' ++ q)) (0 ^^^ 4294967295) := by
          rw [← xx (stepsN (p ++ (m ++ q)) (0 ^^^ 4294967295)) 4294967295, h3, xx]
        exact he (steps_four hp hm hm' hq hl h4 (by decide) h4')
      rw [h2]
      rfl
  rw [key]
  rfl

theorem changed_loop (b by_ : List Int) (a : Nat) (hb : Bytes b) (hby : Bytes by_) (h4 : by_.length = 4) (hl : b.length ≤ 700) : ∀ (k N i : Nat) (m : List Int), i + k = 4 → k < N → m.length = i → Bytes m → a + i ≤ b.length →
    iterV (glaw01_CrcChanged_0 big) N (b, (a : Int), (i : Int), by_, b.take a ++ (m ++ b.drop (a + i))) = some true := by
  have fin : ∀ (i : Nat) (m : List Int), i ≤ 4 → m.length = i → Bytes m → a + i ≤ b.length → tail b (b.take a ++ (m ++ b.drop (a + i))) = some true := by
    intro i m hi hm hmb ha
    have hcut : b = b.take a ++ ((b.drop a).take i ++ b.drop (a + i)) := by
      rw [← List.drop_drop, List.take_append_drop, List.take_append_drop]
    have hlen : ((b.drop a).take i).length = i := by simp; omega
    have := tail_true (p := b.take a) (m := (b.drop a).take i) (m' := m) (q := b.drop (a + i)) (fun c hc => hb c (List.mem_of_mem_take hc)) (fun c hc => hb c (List.mem_of_mem_drop (List.mem_of_mem_take hc))) hmb (fun c hc => hb c (List.mem_of_mem_drop hc)) (by omega) (by omega) (by rw [← hcut]; exact hl)
    rw [← hcut] at this
    exact this
  intro k
  induction k with
  | zero =>
    intro N i m hi hN hm hmb ha
    cases N with
    | zero => omega
    | succ N =>
      have : i = 4 := by omega
      subst this
      rw [iterV_succ]
      have g : decide (((4 : Nat) : Int) < (4 : Int)) = false := by decide
      simp only [glaw01_CrcChanged_0, hlaw01_CrcChanged_0, g, cond_false]
      exact fin 4 m (by omega) hm hmb ha
  | succ k ih =>
    intro N i m hi hN hm hmb ha
    cases N with
    | zero => omega
    | succ N =>
      rw [iterV_succ]
      have g : decide ((i : Int) < (4 : Int)) = true := decide_eq_true (by omega)
      have e0 : IntKind.i64.wrap ((a : Int) + (i : Int)) = ((a + i : Nat) : Int) := by rw [wrap_i64 (by omega) (by omega)]; simp
      have hclen : (b.take a ++ (m ++ b.drop (a + i))).length = b.length := by simp; omega
      simp only [glaw01_CrcChanged_0, hlaw01_CrcChanged_0, g, cond_true, e0, hclen]
      by_cases hlt : a + i < b.length
      · have g1 : decide (((a + i : Nat) : Int) < (b.length : Int)) = true := decide_eq_true (by omega)
        have g2 : decide ((0 : Int) ≤ (i : Int)) = true := decide_eq_true (by omega)
        have g3 : decide ((0 : Int) ≤ ((a + i : Nat) : Int)) = true := decide_eq_true (by omega)
        have hi4 : i < by_.length := by omega
        have g4 : nth by_ i = some by_[i] := List.getElem?_eq_getElem hi4
        have e1 : IntKind.i64.wrap ((i : Int) + 1) = ((i + 1 : Nat) : Int) := by rw [wrap_i64 (by omega) (by omega)]; simp
        simp only [g1, cond_true, g2, Bool.and_self, Int.toNat_natCast, g4, Option.bind_some, g3, e1]
        have hset : List.set (b.take a ++ (m ++ b.drop (a + i))) (a + i) by_[i] = b.take a ++ ((m ++ [by_[i]]) ++ b.drop (a + (i + 1))) := by
          have hd : b.drop (a + i) = b[a + i] :: b.drop (a + (i + 1)) := by rw [List.drop_eq_getElem_cons hlt]; rfl
          have hpl : (b.take a ++ m).length = a + i := by simp; omega
          rw [hd, ← List.append_assoc]
          have h9 := set_len by_[i] (b.take a ++ m) b[a + i] (b.drop (a + (i + 1)))
          rw [hpl] at h9
          rw [h9]
          simp
        rw [hset]
        exact ih N (i + 1) (m ++ [by_[i]]) (by omega) (by omega) (by simp [hm]) (fun c hc => by
          rcases List.mem_append.1 hc with h | h
          · exact hmb c h
          · rw [List.mem_singleton.1 h]; exact hby _ (List.getElem_mem hi4)) (by omega)
      · have g1 : decide (((a + i : Nat) : Int) < (b.length : Int)) = false := decide_eq_false (by omega)
        simp only [g1, cond_false]
        exact fin i m (by omega) hm hmb ha

theorem changed_true (x : (List Int) × Int × (List Int)) (w : WfL [(.slice (.int .u8)), (.int .i64), (.arr 4 (.int .u8))] x) : claw01_CrcChanged x = some true := by
  obtain ⟨b, at_, by_⟩ := x
  obtain ⟨⟨_, hb0⟩, _, h4, hby0⟩ := w
  have hb : Bytes b := fun c hc => by
    have := hb0 c hc
    simpa only [Wf, min_u8, max_u8] using this
  have hby : Bytes by_ := fun c hc => by
    have := hby0 c hc
    simpa only [Wf, min_u8, max_u8] using this
  show nlaw01_CrcChanged (iterV (glaw01_CrcChanged_0 big) big) (b, at_, by_) = some true
  simp only [nlaw01_CrcChanged, crc_alive, Option.bind_some]
  by_cases h1 : b.length > 700
  · rw [decide_eq_true (show (b.length : Int) > 700 by omega)]; rfl
  by_cases h2 : at_ < 0
  · rw [decide_eq_false (show ¬ (b.length : Int) > 700 by omega), decide_eq_true h2]; rfl
  by_cases h3 : at_ ≥ (b.length : Int)
  · rw [decide_eq_false (show ¬ (b.length : Int) > 700 by omega), decide_eq_false h2, decide_eq_true h3]; rfl
  obtain ⟨a, rfl⟩ := Int.eq_ofNat_of_zero_le (show 0 ≤ at_ by omega)
  have e : (Nat.ble 1 1 && Nat.ble (([] : List Int).length + b.length) lim) = true := by
    have h5 : Nat.ble (([] : List Int).length + b.length) lim = true := Nat.ble_eq_true_of_le (by have : lim = 68719476736 := rfl
                                                                                                  simp only [List.length_nil]; omega)
    rw [h5]; rfl
  rw [decide_eq_false (show ¬ (b.length : Int) > 700 by omega), decide_eq_false h2, decide_eq_false h3, e]
  simp only [cond_false, cond_true]
  have := changed_loop b by_ a hb hby h4 (by omega) 4 big 0 [] (by omega) (by decide) rfl (fun c hc => by simp at hc) (by omega)
  rw [List.nil_append, Nat.add_zero, List.take_append_drop] at this
  exact this
end Go.Proofs.Ytdhlomachkionaa
