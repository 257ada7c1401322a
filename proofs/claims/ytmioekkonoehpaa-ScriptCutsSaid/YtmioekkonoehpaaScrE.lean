/- Package script: the laws ScriptReads, ScriptOne, ScriptCuts, ScriptChooses and ScriptFirst. -/
import Derived.Test.YtmioekkonoehpaaScrD
set_option linter.unusedVariables false
set_option linter.unusedSimpArgs false
set_option maxRecDepth 100000
namespace Go.Proofs.Ytmioekkonoehpaa
open Go.Lift

theorem okS_len {s : Scr} (h : OkS s) : s.1.length ≤ 1000000 := by have := h.1; omega
theorem codeS_len (s : Scr) : (codeS s).length ≤ 10 * s.1.length + 50 := by
  have := (codeL_len (nums s)).2
  have e : (nums s).length = 5 + s.1.length := by unfold nums; rw [List.length_append]; rfl
  rw [e] at this
  unfold codeS
  omega
theorem codeL_bytes : ∀ {l : List Int}, (∀ n ∈ l, Nm n) → Bytes (codeL l)
  | [], _ => fun c hc => by cases hc
  | n :: l, h => by
    unfold codeL
    rw [List.flatMap_cons]
    exact bytes_append (vary_bytes (by have := (h n (by simp)).2; omega)) (codeL_bytes fun x hx => h x (by simp [hx]))
theorem codeS_bytes {s : Scr} (h : OkS s) : Bytes (codeS s) := codeL_bytes (nums_ok h)
theorem codeL_pre {r : List Int} : ∀ {l m : List Int}, l.length = m.length → (∀ n ∈ l, Nm n) → (∀ n ∈ m, Nm n) → codeL l = codeL m ++ r → l = m ∧ r = []
  | [], [], _, _, _, h => ⟨rfl, by simpa [codeL] using h.symm⟩
  | [], _ :: _, h, _, _, _ => by simp at h
  | _ :: _, [], h, _, _, _ => by simp at h
  | a :: l, b :: m, hl, ha, hb, h => by
    unfold codeL at h
    rw [List.flatMap_cons, List.flatMap_cons, List.append_assoc] at h
    obtain ⟨e, h2⟩ := cod_inj (ha a (by simp)) (hb b (by simp)) h
    obtain ⟨e1, e2⟩ := codeL_pre (r := r) (l := l) (m := m) (by simpa using hl) (fun n hn => ha n (by simp [hn])) (fun n hn => hb n (by simp [hn])) h2
    exact ⟨by rw [e, e1], e2⟩
theorem code_pre {s t : Scr} {r : List Int} (hs : OkS s) (ht : OkS t) (h : codeS s = codeS t ++ r) : s = t ∧ r = [] := by
  have ns := nums_ok hs
  have nt := nums_ok ht
  obtain ⟨ps, ⟨a, b, c, d, u⟩, u'⟩ := s
  obtain ⟨qs, ⟨a', b', c', d', v⟩, v'⟩ := t
  have e : ∀ (x y z w n : Int) (l : List Int), codeL ([x, y, z, w, n] ++ l) = cod x ++ (cod y ++ (cod z ++ (cod w ++ (cod n ++ codeL l)))) := fun x y z w n l => by
    unfold codeL; simp only [List.cons_append, List.nil_append, List.flatMap_cons]
  unfold codeS nums at h
  dsimp only at h
  rw [e, e] at h
  simp only [List.append_assoc] at h
  unfold nums at ns nt
  dsimp only at ns nt
  obtain ⟨e1, h⟩ := cod_inj (ns a (by simp)) (nt a' (by simp)) h
  obtain ⟨e2, h⟩ := cod_inj (ns b (by simp)) (nt b' (by simp)) h
  obtain ⟨e3, h⟩ := cod_inj (ns c (by simp)) (nt c' (by simp)) h
  obtain ⟨e4, h⟩ := cod_inj (ns d (by simp)) (nt d' (by simp)) h
  obtain ⟨e5, h⟩ := cod_inj (ns (ps.length : Int) (by simp)) (nt (qs.length : Int) (by simp)) h
  obtain ⟨e6, e7⟩ := codeL_pre (by omega) (fun n hn => ns n (List.mem_append_right _ hn)) (fun n hn => nt n (List.mem_append_right _ hn)) h
  subst e1 e2 e3 e4 e6
  exact ⟨rfl, e7⟩

/-! ### ScriptReads -/
theorem both11 {b : List Int} (hb : Bytes b) : ((cscript_Decode b).bind fun x1 => ((cref11_Decode b).bind fun x2 => ((cref11_Same (x1.1, x2.1)).bind fun x3 => (bif x3 then (bif (x1.2 == x2.2) then (some (eqD .str b b)) else (some false)) else (some false))))) = some true := by
  by_cases hl : b.length > 6100
  · rw [dec11 hb, if_pos hl, Option.bind_some, rDecL hl, Option.bind_some, same11 _ _ (Nat.zero_le _), Option.bind_some, decide_eq_true rfl, cond_true, beq_self_eq_true, cond_true, eqD_self]
  rw [dec11 hb, if_neg hl, Option.bind_some]
  rcases decS_cases hb with ⟨s, h1, h2, h3⟩ | ⟨h1, h2⟩
  · rcases rDec11 hb (by omega) with ⟨t, g1, g2, g3⟩ | ⟨g1, g2⟩
    · have e := codeS_inj h1 g1 (h2.trans g2.symm)
      subst e
      rw [h3, g3, Option.bind_some, same11 _ _ (okS_len h1), Option.bind_some, decide_eq_true rfl, cond_true, beq_self_eq_true, cond_true, eqD_self]
    · exact absurd h2 (g1 s h1)
  · rcases rDec11 hb (by omega) with ⟨t, g1, g2, g3⟩ | ⟨g1, g2⟩
    · exact absurd g2 (h1 t g1)
    · rw [h2, g2, Option.bind_some, same11 _ _ (Nat.zero_le _), Option.bind_some, decide_eq_true rfl, cond_true, beq_self_eq_true, cond_true, eqD_self]
theorem reads_true11 (b : List Int) (w : WfL [(.slice (.int .u8))] b) : claw11_ScriptReads b = some true := by
  have hb : Bytes b := wf11_bytes w
  show nlaw11_ScriptReads b = _
  unfold nlaw11_ScriptReads
  rw [both11 hb]
  cases decide ((b.length : Int) > 1000) <;> cases decide ((b.length : Int) > 6200) <;> cases decide ((b.length : Int) ≤ 6100) <;> rfl

/-! ### ScriptOne -/
theorem half11 {b : List Int} (hb : Bytes b) (hl : b.length ≤ 1000) : ((cscript_Decode b).bind fun x12 => (bif (x12.2 != (0 : Int)) then ((claw11_alive ()).bind fun x13 => (some x13)) else ((cscript_Encode x12.1).bind fun x14 => (bif (x14.2 == (0 : Int)) then (bif (eqD .str x14.1 b) then ((claw11_alive ()).bind fun x15 => (some x15)) else (some false)) else (some false))))) = some true := by
  rw [dec11 hb, if_neg (by omega), Option.bind_some]
  rcases decS_cases hb with ⟨s, h1, h2, h3⟩ | ⟨h1, h2⟩
  · rw [h3]
    dsimp only
    rw [show ((0 : Int) != 0) = false from rfl, cond_false, enc11, if_pos h1, Option.bind_some]
    dsimp only
    rw [show ((0 : Int) == 0) = true from rfl, cond_true, h2, eqD_self, cond_true, alive11]; rfl
  · rw [h2, alive11]; rfl
theorem one_true11 (x : Scr × List Int) (w : WfL [.pair (.slice (.int .i64)) (.pair (.pair (.int .i64) (.pair (.int .i64) (.pair (.int .i64) (.pair (.int .i64) .unit)))) .unit), (.slice (.int .u8))] x) : claw11_ScriptOne x = some true := by
  obtain ⟨s, b⟩ := x
  have hb : Bytes b := wf11_bytes w.2
  show nlaw11_ScriptOne (s, b) = _
  unfold nlaw11_ScriptOne
  dsimp only
  obtain ⟨g, h1, h2⟩ := great11 s
  rw [h1, Option.bind_some]
  cases g with
  | true => rw [cond_true, alive11]; rfl
  | false =>
  obtain ⟨hl, hk⟩ := h2 rfl
  rw [cond_false]
  by_cases hbl : b.length > 1000
  · rw [decide_eq_true (by omega), cond_true, alive11]; rfl
  rw [decide_eq_false (by omega), cond_false, enc11, Option.bind_some, chk11, Option.bind_some]
  by_cases ho : OkS s
  · have := codeS_len s
    have := hk ho
    rw [if_pos ho, if_pos ho]
    dsimp only
    rw [show ((0 : Int) != 0) = false from rfl, cond_false, show ((0 : Int) == 0) = true from rfl, cond_true, dec11 (codeS_bytes ho), if_neg (by omega), decS_of ho rfl, Option.bind_some]
    dsimp only
    rw [show ((0 : Int) != 0) = false from rfl, cond_false, same11 _ _ (okS_len ho), Option.bind_some, decide_eq_true rfl, Bool.not_true, cond_false]
    exact half11 hb (by omega)
  · rw [if_neg ho, if_neg ho]
    dsimp only
    rw [show ((8 : Int) != 8) = false from rfl, cond_false, show ((8 : Int) == 0) = false from rfl, cond_false]
    exact half11 hb (by omega)

/-! ### ScriptCuts -/
theorem okS_take {s : Scr} (h : OkS s) (n : Nat) : OkS (s.1.take n, s.2) :=
  ⟨by have := h.1; show (s.1.take n).length ≤ 2000; rw [List.length_take]; omega, h.2.1, fun p hp => h.2.2 p (List.mem_of_mem_take hp)⟩
theorem cuts_true11 (x : Scr × Int × Int) : claw11_ScriptCuts x = some true := by
  obtain ⟨s, n, m⟩ := x
  show nlaw11_ScriptCuts (s, n, m) = _
  unfold nlaw11_ScriptCuts
  dsimp only
  obtain ⟨g, h1, h2⟩ := great11 s
  rw [h1, Option.bind_some]
  cases g with
  | true => rw [cond_true, alive11]; rfl
  | false =>
  rw [cond_false, rChk11, Option.bind_some]
  by_cases ho : OkS s
  rotate_left
  · rw [if_neg ho, show ((8 : Int) != 0) = true from rfl, cond_true, alive11]; rfl
  rw [if_pos ho, show ((0 : Int) != 0) = false from rfl, cond_false]
  by_cases a1 : m < 0
  · rw [decide_eq_true a1, cond_true, alive11]; rfl
  rw [decide_eq_false a1, cond_false]
  by_cases a2 : n < m
  · rw [decide_eq_true a2, cond_true, alive11]; rfl
  rw [decide_eq_false a2, cond_false]
  by_cases a3 : n > (s.1.length : Int)
  · rw [decide_eq_true a3, cond_true, alive11]; rfl
  have hn := okS_take ho n.toNat
  have hlen : ((s.1.take n.toNat).length : Int) = n := by rw [List.length_take]; omega
  have hs := okS_len ho
  rw [decide_eq_false a3, cond_false, cut11, if_pos ho, if_pos ⟨by omega, by omega⟩, Option.bind_some]
  dsimp only
  rw [cut11, if_pos hn, if_pos ⟨by omega, by dsimp only; omega⟩, Option.bind_some, cut11, if_pos ho, if_pos ⟨by omega, by omega⟩, Option.bind_some]
  dsimp only
  rw [show ((0 : Int) != 0) = false from rfl, cond_false, cond_false, cond_false, List.take_take, show min m.toNat n.toNat = m.toNat by omega, same11 _ _ (by dsimp only; rw [List.length_take]; omega), Option.bind_some, decide_eq_true rfl, Bool.not_true, cond_false, eqD_self, Bool.not_true, cond_false, hlen, show (n != n) = false by simp, cond_false, decide_eq_true (show 0 ≤ n by omega), decide_eq_true (show n ≤ (s.1.length : Int) by omega), Bool.and_self, cond_true, sameL _ _ (by rw [List.length_take]; omega), Option.bind_some, decide_eq_true rfl, cond_true, chk11, Option.bind_some, if_pos hn, show ((0 : Int) == 0) = true from rfl, cond_true, alive11]
  rfl

/-! ### ScriptChooses -/
theorem pck_bad {p r : Int} (h : ¬ (Pk p ∧ 0 ≤ r ∧ r ≤ 16)) : pck p r = (0, 2) := if_neg h
theorem pck_ok {p r : Int} (h : Pk p) (h1 : 1 ≤ r) (h2 : r ≤ 16) : pck p r = (p % r, 0) := by
  unfold pck
  rw [if_pos ⟨h, by omega, h2⟩, if_neg (by omega), Int.tmod_eq_emod_of_nonneg h.1]
theorem last11 {r i : Int} (h1 : 1 ≤ r) (h2 : r ≤ 16) : (bif (decide (i ≥ (0 : Int))) then (bif (decide (i < r)) then ((cscript_Pick (i, r)).bind fun x14 => (bif (x14.2 == (0 : Int)) then (bif (x14.1 == i) then ((claw11_alive ()).bind fun x15 => (some x15)) else (some false)) else (some false))) else ((claw11_alive ()).bind fun x16 => (some x16))) else ((claw11_alive ()).bind fun x17 => (some x17))) = some true := by
  by_cases a1 : i ≥ 0
  rotate_left
  · rw [decide_eq_false a1, cond_false, alive11]; rfl
  rw [decide_eq_true a1, cond_true]
  by_cases a2 : i < r
  rotate_left
  · rw [decide_eq_false a2, cond_false, alive11]; rfl
  rw [decide_eq_true a2, cond_true, pick11, pck_ok ⟨a1, by omega⟩ h1 h2, Option.bind_some]
  dsimp only
  rw [Int.emod_eq_of_lt a1 a2, show ((0 : Int) == 0) = true from rfl, cond_true, beq_self_eq_true, cond_true, alive11]
  rfl
theorem chooses_true11 (x : Int × Int × Int) : claw11_ScriptChooses x = some true := by
  obtain ⟨p, r, i⟩ := x
  show nlaw11_ScriptChooses (p, r, i) = _
  unfold nlaw11_ScriptChooses
  dsimp only
  rw [pick11, Option.bind_some]
  by_cases a1 : p < 0
  · rw [decide_eq_true a1, cond_true, pck_bad (fun h => by have := h.1.1; omega), alive11]; rfl
  rw [decide_eq_false a1, cond_false]
  by_cases a2 : p > 65535
  · rw [decide_eq_true a2, cond_true, pck_bad (fun h => by have := h.1.2; omega), alive11]; rfl
  rw [decide_eq_false a2, cond_false]
  by_cases a3 : r < 1
  · rw [decide_eq_true a3, cond_true, alive11]
    unfold pck
    split
    · rw [if_pos (by omega)]; rfl
    · rfl
  rw [decide_eq_false a3, cond_false]
  by_cases a4 : r > 16
  · rw [decide_eq_true a4, cond_true, pck_bad (fun h => by have := h.2.2; omega), alive11]; rfl
  have hp : Pk p := ⟨by omega, by omega⟩
  have m0 : 0 ≤ p % r := Int.emod_nonneg _ (by omega)
  have m1 : p % r < r := Int.emod_lt_of_pos _ (by omega)
  have md : (p - p % r) % r = 0 := by rw [Int.sub_emod, Int.emod_emod]; simp
  have mp : 0 ≤ p - p % r := by
    have e := Int.emod_def p r
    have : 0 ≤ r * (p / r) := Int.mul_nonneg (by omega) (Int.ediv_nonneg (by omega) (by omega))
    generalize r * (p / r) = q at *
    omega
  rw [decide_eq_false a4, cond_false, pck_ok hp (by omega) (by omega)]
  dsimp only
  rw [show ((0 : Int) != 0) = false from rfl, cond_false, decide_eq_false (by omega), cond_false, decide_eq_false (by omega), cond_false, show (r == 0) = false by simp; omega, cond_false, wrap_i64 (by omega) (by omega), Int.tmod_eq_emod_of_nonneg mp, md, show ((0 : Int) != 0) = false from rfl, cond_false, wrap_i64 (by omega) (by omega)]
  by_cases a5 : p + r ≤ 65535
  · rw [decide_eq_true a5, cond_true, pick11, pck_ok ⟨by omega, a5⟩ (by omega) (by omega), Option.bind_some]
    dsimp only
    rw [Int.add_emod_right, show ((0 : Int) != 0) = false from rfl, cond_false, show (p % r != p % r) = false by simp, cond_false]
    exact last11 (by omega) (by omega)
  · rw [decide_eq_false a5, cond_false]
    exact last11 (by omega) (by omega)

/-! ### ScriptFirst -/
theorem dec_none {b : List Int} (hb : Bytes b) (hl : b.length ≤ 6100) (h : ∀ s, OkS s → codeS s ≠ b) : cscript_Decode b = some (zs, 12) := by
  rw [dec11 hb, if_neg (by omega)]
  rcases decS_cases hb with ⟨s, h1, h2, h3⟩ | ⟨h1, h2⟩
  · exact absurd h2 (h s h1)
  · rw [h2]
theorem more11 {s : Scr} (ho : OkS s) (hs : s.1.length ≤ 300) {r : List Int} (hr : Bytes r) : (bif (decide ((List.length r : Int) < (1 : Int))) then ((claw11_alive ()).bind fun x12 => (some x12)) else (bif (decide ((List.length r : Int) > (50 : Int))) then ((claw11_alive ()).bind fun x13 => (some x13)) else (bif (Nat.ble 1 1 && Nat.ble (List.length ([] : (List Int)) + List.length (codeS s)) lim) then (let x15 : (List Int) := (List.append ([] : (List Int)) (codeS s)); (bif (Nat.ble 1 1 && Nat.ble (List.length x15 + List.length r) lim) then (let x16 : (List Int) := (List.append x15 r); ((cscript_Decode x16).bind fun x17 => (bif (x17.2 == (12 : Int)) then ((claw11_alive ()).bind fun x18 => (some x18)) else (some false)))) else none)) else none))) = some true := by
  rw [alive11]
  have hc := codeS_len s
  by_cases h1 : r.length < 1
  · rw [decide_eq_true (by omega)]; rfl
  rw [decide_eq_false (by omega), cond_false]
  by_cases h2 : r.length > 50
  · rw [decide_eq_true (by omega)]; rfl
  rw [decide_eq_false (by omega), cond_false, app11 (by simp only [List.length_nil]; omega), cond_true]
  show (bif (Nat.ble 1 1 && Nat.ble (List.length (codeS s) + List.length r) lim) then ((cscript_Decode (codeS s ++ r)).bind fun x17 => (bif (x17.2 == (12 : Int)) then ((some true).bind fun x18 => (some x18)) else (some false))) else none) = some true
  rw [app11 (by omega), cond_true, dec_none (bytes_append (codeS_bytes ho) hr) (by rw [List.length_append]; omega) fun t ht e => by
    have := (code_pre ht ho e).2
    rw [this] at h1
    exact h1 (by simp)]
  rfl
theorem first_true11 (x : Scr × Scr × Int × List Int) (w : WfL [.pair (.slice (.int .i64)) (.pair (.pair (.int .i64) (.pair (.int .i64) (.pair (.int .i64) (.pair (.int .i64) .unit)))) .unit), .pair (.slice (.int .i64)) (.pair (.pair (.int .i64) (.pair (.int .i64) (.pair (.int .i64) (.pair (.int .i64) .unit)))) .unit), (.int .i64), (.slice (.int .u8))] x) : claw11_ScriptFirst x = some true := by
  obtain ⟨s, t, at_, r⟩ := x
  have hr : Bytes r := wf11_bytes w.2.2.2
  show nlaw11_ScriptFirst (s, t, at_, r) = _
  unfold nlaw11_ScriptFirst
  dsimp only
  obtain ⟨g, h1, h2⟩ := great11 s
  rw [h1, Option.bind_some]
  cases g with
  | true => rw [cond_true, alive11]; rfl
  | false =>
  rw [cond_false]
  obtain ⟨g', h1', h2'⟩ := great11 t
  rw [h1', Option.bind_some]
  cases g' with
  | true => rw [cond_true, alive11]; rfl
  | false =>
  rw [cond_false, enc11, Option.bind_some, enc11, Option.bind_some]
  by_cases ho : OkS s
  rotate_left
  · rw [if_neg ho]
    show (bif ((8 : Int) != 0) then _ else _) = _
    rw [show ((8 : Int) != 0) = true from rfl, cond_true, alive11]; rfl
  rw [if_pos ho]
  dsimp only
  rw [show ((0 : Int) != 0) = false from rfl, cond_false]
  by_cases ho' : OkS t
  rotate_left
  · rw [if_neg ho']
    show (bif ((8 : Int) != 0) then _ else _) = _
    rw [show ((8 : Int) != 0) = true from rfl, cond_true, alive11]; rfl
  rw [if_pos ho']
  dsimp only
  rw [show ((0 : Int) != 0) = false from rfl, cond_false, begins_eq, Option.bind_some, same11 _ _ (okS_len ho), Option.bind_some]
  have hbs : begins (codeS t) (codeS s) = decide (s = t) := by
    by_cases e : s = t
    · subst e; rw [begins_self]; simp
    · rw [decide_eq_false e, Bool.eq_false_iff]
      intro hbg
      obtain ⟨q, hq⟩ := begins_split hbg
      exact e (code_pre ho' ho hq).1.symm
  rw [hbs, beq_self_eq_true, Bool.not_true, cond_false]
  have hs := (h2 rfl).2 ho
  have hc := codeS_len s
  have hm := more11 ho hs hr
  by_cases p1 : at_ ≥ 0
  rotate_left
  · rw [decide_eq_false p1, cond_false]
    exact hm
  rw [decide_eq_true p1, cond_true]
  by_cases p2 : at_ < (codeS s).length
  rotate_left
  · rw [decide_eq_false p2, cond_false]
    exact hm
  rw [decide_eq_true p2, cond_true, Bool.true_and, decide_eq_true (show at_ ≤ ((codeS s).length : Int) by omega), cond_true, List.drop_zero, dec_none (bytes_take (codeS_bytes ho) _) (by rw [List.length_take]; omega) fun k hk e => by
    have h := code_pre ho hk (r := (codeS s).drop at_.toNat) (by rw [e, List.take_append_drop])
    have := congrArg List.length h.2
    rw [List.length_drop] at this
    simp at this
    omega]
  exact hm
end Go.Proofs.Ytmioekkonoehpaa
