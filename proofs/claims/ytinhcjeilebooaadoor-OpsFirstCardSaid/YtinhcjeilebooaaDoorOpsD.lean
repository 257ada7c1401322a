/- One encoding for each instruction, names, slots, and that no encoding begins another one. -/
import Derived.Test.YtinhcjeilebooaaDoorOpsC
import Derived.Test.YtinhcjeilebooaaDoorOpsL
set_option linter.unusedVariables false
set_option linter.unusedSimpArgs false
set_option maxRecDepth 100000
namespace Go.Proofs.YtinhcjeilebooaaDoor
open Go.Lift

theorem reads_true6 (x : Cur) (w : WfL [(.pair (.slice (.int .u8)) (.pair (.int .i64) .unit))] x) : claw06_OpsReads x = some true := by
  have hb : Bytes x.1 := fun c hc => by
    have := w.1.2 c hc
    simpa only [Wf, min_u8, max_u8] using this
  show nlaw06_OpsReads x = some true
  unfold nlaw06_OpsReads
  by_cases h : x.1.length > 300
  · rw [decide_eq_true (by omega)]; rfl
  · rw [decide_eq_false (by omega), cond_false, Decode_eq x hb, Option.bind_some, rDecode_eq x hb, Option.bind_some, dec_alike x.1 hb, same_self, Option.bind_some]
    simp [eqD_self]

/-! ### what was written is read -/
def rw1 (r n : Int) : Nat := if r = 0 then 0 else raw r n
def rawL : List Int → List Int → List Nat
  | r :: rs, n :: ns => rw1 r n :: rawL rs ns
  | _, _ => []
theorem raw_lt {r n : Int} (hr : Rl r) (hf : fit r n = true) (h64 : I64 n) : raw r n < 18446744073709551616 := by
  unfold raw
  cases hs : sg r with
  | true => simpa using dbl_lt h64.1 h64.2
  | false =>
    have := fit_low hr hf hs
    simp only [Bool.false_eq_true, if_false]
    omega
theorem vl_raw {r n : Int} (hr : Rl r) (hf : fit r n = true) : vl r (rw1 r n) = n := by
  by_cases h0 : r = 0
  · subst h0
    have : n = 0 := by simpa [fit] using hf
    subst this; rfl
  · unfold rw1 vl raw
    rw [if_neg h0]
    cases hs : sg r with
    | true => simp [half_dbl]
    | false =>
      have := fit_low hr hf hs
      simp only [Bool.false_eq_true, if_false]
      rw [if_pos (by omega)]
      omega
theorem raw_vl {r : Int} {n : Nat} (hr : Rl r) (hf : fit r (vl r n) = true) : raw r (vl r n) = n := by
  unfold raw
  cases hs : sg r with
  | true => simp [vl, hs, dbl_half]
  | false =>
    have h := fit_low hr hf hs
    simp only [Bool.false_eq_true, if_false]
    simp only [vl, hs, Bool.false_eq_true, if_false] at h ⊢
    split at h
    · rename_i h1; rw [if_pos h1]; omega
    · omega
theorem vlL_raw : ∀ (rs ns : List Int), rs.length = ns.length → (∀ r ∈ rs, Rl r) → fitL rs ns = true → vlL rs (rawL rs ns) = ns
  | [], [], _, _, _ => rfl
  | r :: rs, n :: ns, hl, hr, hf => by
    simp only [fitL, Bool.and_eq_true] at hf
    simp only [rawL, vlL, vl_raw (hr r (by simp)) hf.1, vlL_raw rs ns (by simpa using hl) (fun x hx => hr x (by simp [hx])) hf.2]
  | [], _ :: _, hl, _, _ => by simp at hl
  | _ :: _, [], hl, _, _ => by simp at hl

theorem body_rd (rest : List Int) : ∀ (rs ns pre : List Int), rs.length = ns.length → (∀ r ∈ rs, Rl r) → (∀ n ∈ ns, I64 n) → fitL rs ns = true →
    rdL (pre ++ (body rs ns ++ rest)) rs pre.length = (0, pre.length + (body rs ns).length, rawL rs ns)
  | [], [], pre, _, _, _, _ => by simp [rdL, body, rawL]
  | r :: rs, n :: ns, pre, hl, hr, hn, hf => by
    simp only [fitL, Bool.and_eq_true] at hf
    by_cases h0 : r = 0
    · subst h0
      have := body_rd rest rs ns pre (by simpa using hl) (fun x hx => hr x (by simp [hx])) (fun x hx => hn x (by simp [hx])) hf.2
      simp only [body, seg, if_true, List.nil_append, rdL, this, rawL, rw1]
    · have hlt := raw_lt (hr r (by simp)) hf.1 (hn n (by simp))
      have := body_rd rest rs ns (pre ++ vary (raw r n)) (by simpa using hl) (fun x hx => hr x (by simp [hx])) (fun x hx => hn x (by simp [hx])) hf.2
      have e1 : (pre ++ (vary (raw r n) ++ body rs ns ++ rest)).drop pre.length = vary (raw r n) ++ (body rs ns ++ rest) := by simp
      have e2 : pre ++ (vary (raw r n) ++ body rs ns ++ rest) = (pre ++ vary (raw r n)) ++ (body rs ns ++ rest) := by simp
      simp only [body, seg, if_neg h0, rdL, e1, rd_of_vary _ _ hlt, if_true, rawL, rw1]
      rw [e2, show pre.length + (vary (raw r n)).length = (pre ++ vary (raw r n)).length by simp, this]
      simp [Nat.add_assoc]
  | [], _ :: _, _, hl, _, _, _ => by simp at hl
  | _ :: _, [], _, hl, _, _, _ => by simp at hl

theorem body_back (bs : List Int) (hb : Bytes bs) : ∀ (rs : List Int) (a : Nat), a ≤ bs.length → (∀ r ∈ rs, Rl r) → (rdL bs rs a).1 = 0 → fitL rs (vlL rs (rdL bs rs a).2.2) = true →
    a ≤ (rdL bs rs a).2.1 ∧ (rdL bs rs a).2.1 ≤ bs.length ∧ body rs (vlL rs (rdL bs rs a).2.2) = (bs.drop a).take ((rdL bs rs a).2.1 - a)
  | [], a, ha, _, _, _ => by simp [rdL, body, ha]
  | r :: rs, a, ha, hr, he, hf => by
    simp only [rdL] at he hf ⊢
    by_cases h0 : r = 0
    · subst h0
      simp only [if_true] at he hf ⊢
      simp only [vlL, fitL, Bool.and_eq_true] at hf
      obtain ⟨g1, g2, g3⟩ := body_back bs hb rs a ha (fun x hx => hr x (by simp [hx])) he hf.2
      exact ⟨g1, g2, by simp only [vlL, body, seg, if_true, List.nil_append, g3]⟩
    · simp only [if_neg h0] at he hf ⊢
      by_cases h : (rd 10 0 (bs.drop a)).2.2 = 0
      · obtain ⟨k1, k2, k3, k4⟩ := rd_good (bytes_drop hb a) h
        simp only [if_pos h] at he hf ⊢
        simp only [vlL, fitL, Bool.and_eq_true] at hf
        simp only [List.length_drop] at k2
        obtain ⟨g1, g2, g3⟩ := body_back bs hb rs (a + (rd 10 0 (bs.drop a)).2.1) (by omega) (fun x hx => hr x (by simp [hx])) he hf.2
        refine ⟨by omega, g2, ?_⟩
        simp only [vlL, body, seg, if_neg h0, g3, raw_vl (hr r (by simp)) hf.1, k4]
        rw [show (rdL bs rs (a + (rd 10 0 (bs.drop a)).2.1)).2.1 - a = (rd 10 0 (bs.drop a)).2.1 + ((rdL bs rs (a + (rd 10 0 (bs.drop a)).2.1)).2.1 - (a + (rd 10 0 (bs.drop a)).2.1)) by omega, List.take_add, List.drop_drop]
      · rw [if_neg h] at he
        exact absurd he h

theorem body_short : ∀ (rs ns pre : List Int) (k : Nat), rs.length = ns.length → (∀ r ∈ rs, Rl r) → (∀ n ∈ ns, I64 n) → fitL rs ns = true → k < (body rs ns).length →
    (rdL (pre ++ (body rs ns).take k) rs pre.length).1 = 24
  | [], [], pre, k, _, _, _, _, hk => by simp [body] at hk
  | r :: rs, n :: ns, pre, k, hl, hr, hn, hf, hk => by
    simp only [fitL, Bool.and_eq_true] at hf
    by_cases h0 : r = 0
    · subst h0
      simp only [body, seg, if_true, List.nil_append] at hk ⊢
      simp only [rdL, if_true]
      exact body_short rs ns pre k (by simpa using hl) (fun x hx => hr x (by simp [hx])) (fun x hx => hn x (by simp [hx])) hf.2 hk
    · have hlt := raw_lt (hr r (by simp)) hf.1 (hn n (by simp))
      simp only [body, seg, if_neg h0] at hk ⊢
      simp only [rdL, if_neg h0, List.drop_left]
      by_cases h1 : k < (vary (raw r n)).length
      · have e : (vary (raw r n) ++ body rs ns).take k = (vary (raw r n)).take k := by
          rw [List.take_append_of_le_length (by omega)]
        have hs : rd 10 0 ((vary (raw r n)).take k) = (0, 0, 24) := rd_short 9 0 _ k rfl (by simpa using hlt) (by simp) h1
        rw [e, hs]
        rfl
      · have e : (vary (raw r n) ++ body rs ns).take k = vary (raw r n) ++ (body rs ns).take (k - (vary (raw r n)).length) := by
          rw [List.take_append, List.take_of_length_le (by omega)]
        rw [e, rd_of_vary _ _ hlt]
        simp only [if_true]
        have := body_short rs ns (pre ++ vary (raw r n)) (k - (vary (raw r n)).length) (by simpa using hl) (fun x hx => hr x (by simp [hx])) (fun x hx => hn x (by simp [hx])) hf.2 (by simp only [List.length_append] at hk; omega)
        rw [List.length_append, List.append_assoc] at this
        exact this
  | [], _ :: _, _, _, hl, _, _, _, _ => by simp at hl
  | _ :: _, [], _, _, hl, _, _, _, _ => by simp at hl

theorem alive06 : claw06_alive () = some true := by kernel_rfl

/-! ### whole instructions -/
theorem rol_rl {o : Int} (h : isOp o = true) : (rol o).length = 3 ∧ ∀ x ∈ rol o, Rl x := by
  obtain ⟨p, q', r, e3, hp, hq, hr⟩ := rol_three h
  rw [e3]
  refine ⟨rfl, ?_⟩
  intro x hx
  simp at hx
  rcases hx with rfl | rfl | rfl <;> assumption
theorem okI_parts {x : Ins} (h : okI x = true) (w : WfI x) : isOp x.1 = true ∧ (rol x.1).length = (vals x).length ∧ (∀ r ∈ rol x.1, Rl r) ∧ (∀ n ∈ vals x, I64 n) ∧ fitL (rol x.1) (vals x) = true := by
  simp only [okI, Bool.and_eq_true] at h
  obtain ⟨h1, h2⟩ := rol_rl h.1
  refine ⟨h.1, by rw [h1]; rfl, h2, ?_, h.2⟩
  intro n hn
  simp only [vals, List.mem_cons, List.not_mem_nil, or_false] at hn
  rcases hn with rfl | rfl | rfl
  · exact w.1
  · exact w.2.1
  · exact w.2.2
theorem mkI_vals (x : Ins) : mkI x.1 (vals x) = x := rfl
theorem body_bytes : ∀ (rs ns : List Int), rs.length = ns.length → (∀ r ∈ rs, Rl r) → (∀ n ∈ ns, I64 n) → fitL rs ns = true → Bytes (body rs ns) ∧ (body rs ns).length ≤ 10 * rs.length
  | [], [], _, _, _, _ => by simp [body, Bytes]
  | r :: rs, n :: ns, hl, hr, hn, hf => by
    simp only [fitL, Bool.and_eq_true] at hf
    obtain ⟨h1, h2⟩ := body_bytes rs ns (by simpa using hl) (fun x hx => hr x (by simp [hx])) (fun x hx => hn x (by simp [hx])) hf.2
    have hs := seg_len r n
    simp only [body]
    refine ⟨bytes_append ?_ h1, by simp only [List.length_append, List.length_cons]; omega⟩
    unfold seg
    split
    · simp [Bytes]
    · exact vary_bytes (raw_lt (hr r (by simp)) hf.1 (hn n (by simp)))
  | [], _ :: _, hl, _, _, _ => by simp at hl
  | _ :: _, [], hl, _, _, _ => by simp at hl
theorem enc_bytes {x : Ins} (h : okI x = true) (w : WfI x) : Bytes (enc x) ∧ (enc x).length ≤ 31 := by
  obtain ⟨h1, h2, h3, h4, h5⟩ := okI_parts h w
  obtain ⟨g1, g2⟩ := body_bytes _ _ h2 h3 h4 h5
  obtain ⟨k, hk, _, _⟩ := op_nat h1
  refine ⟨?_, ?_⟩
  · intro c hc
    rcases List.mem_cons.1 hc with rfl | hc
    · omega
    · exact g1 c hc
  · have : (rol x.1).length = 3 := (rol_rl h1).1
    simp only [enc, List.length_cons]
    omega

theorem dec_enc {x : Ins} (h : okI x = true) (w : WfI x) (rest : List Int) : decAt (enc x ++ rest) 0 = ((enc x ++ rest, (((enc x).length : Int), ())), x, 0) := by
  obtain ⟨h1, h2, h3, h4, h5⟩ := okI_parts h w
  have hr := body_rd rest (rol x.1) (vals x) [x.1] h2 h3 h4 h5
  have e : [x.1] ++ (body (rol x.1) (vals x) ++ rest) = enc x ++ rest := by simp [enc]
  rw [e] at hr
  have e0 : (enc x ++ rest)[0]? = some x.1 := by simp [enc]
  unfold decAt
  rw [e0]
  simp only [h1, if_true]
  rw [show (0 + 1 : Nat) = [x.1].length from rfl, hr]
  simp only [decEnd, vlL_raw _ _ h2 h3 h5, mkI_vals, h, if_true, ne_eq, not_true_eq_false, if_false, enc, List.length_cons, List.length_nil]
  congr 3
  simp
  omega

theorem dec_good {bs : List Int} (hb : Bytes bs) (h : (decAt bs 0).2.2 = 0) : okI (decAt bs 0).2.1 = true ∧ 1 ≤ (decAt bs 0).1.2.1 ∧ (decAt bs 0).1.2.1 ≤ (bs.length : Int) ∧ enc (decAt bs 0).2.1 = bs.take (decAt bs 0).1.2.1.toNat ∧ WfI (decAt bs 0).2.1 := by
  unfold decAt at h ⊢
  cases e : bs[0]? with
  | none => rw [e] at h; simp [zi, zc] at h
  | some o =>
    rw [e] at h
    simp only at h ⊢
    cases ho : isOp o with
    | false => rw [ho] at h; simp at h
    | true =>
      rw [ho] at h
      simp only [if_true] at h ⊢
      obtain ⟨b0, r0, rfl⟩ : ∃ b r, bs = b :: r := by
        cases bs with
        | nil => simp at e
        | cons b r => exact ⟨b, r, rfl⟩
      simp only [List.getElem?_cons_zero, Option.some.injEq] at e
      subst e
      obtain ⟨l3, hR⟩ := rol_rl ho
      have hlt := rdL_lt (b0 :: r0) hb (rol b0) (0 + 1)
      unfold decEnd at h ⊢
      by_cases he : (rdL (b0 :: r0) (rol b0) (0 + 1)).1 = 0
      · have hlen : (rol b0).length = (rdL (b0 :: r0) (rol b0) (0 + 1)).2.2.length := (rdL_len _ _ _ he).symm
        have hv := vlL_len _ _ hlen
        rw [if_neg (not_not_intro he)] at h ⊢
        cases hf : okI (mkI b0 (vlL (rol b0) (rdL (b0 :: r0) (rol b0) (0 + 1)).2.2)) with
        | false => rw [hf] at h; simp at h
        | true =>
          simp only [if_true]
          have hf' := hf
          rw [okI_mk ho (by rw [hv, l3])] at hf'
          obtain ⟨g1, g2, g3⟩ := body_back (b0 :: r0) hb (rol b0) (0 + 1) (by simp) hR he hf'
          obtain ⟨A, B, C, e3⟩ := len3 (hv.trans l3)
          refine ⟨hf, by omega, by omega, ?_, ?_⟩
          · show b0 :: body (rol b0) (vals (mkI b0 _)) = _
            have : vals (mkI b0 (vlL (rol b0) (rdL (b0 :: r0) (rol b0) (0 + 1)).2.2)) = vlL (rol b0) (rdL (b0 :: r0) (rol b0) (0 + 1)).2.2 := by rw [e3]; rfl
            rw [this, g3]
            simp only [List.drop_succ_cons, List.drop_zero, Int.toNat_natCast]
            obtain ⟨m, hm⟩ : ∃ m, (rdL (b0 :: r0) (rol b0) (0 + 1)).2.1 = m + 1 := ⟨(rdL (b0 :: r0) (rol b0) (0 + 1)).2.1 - 1, by omega⟩
            rw [hm, List.take_succ_cons]
            simp
          · have hin : ∀ (rs : List Int) (ns : List Nat), (∀ n ∈ ns, n < 18446744073709551616) → ∀ v ∈ vlL rs ns, I64 v := by
              intro rs
              induction rs with
              | nil => intro ns _ v hv; simp [vlL] at hv
              | cons r rs ih =>
                intro ns hn v hv
                cases ns with
                | nil => simp [vlL] at hv
                | cons n ns =>
                  simp only [vlL] at hv
                  rcases List.mem_cons.1 hv with rfl | hv
                  · have := hn n (by simp)
                    unfold vl
                    split
                    · exact half_range this
                    · split <;> constructor <;> omega
                  · exact ih ns (fun x hx => hn x (by simp [hx])) v hv
            have := hin (rol b0) _ hlt
            rw [e3] at this ⊢
            exact ⟨this A (by simp), this B (by simp), this C (by simp)⟩
      · rw [if_pos he] at h
        exact absurd h he

/-- the typed arguments are in range -/
theorem wf_ins {x : Ins} (w : Wf (.pair (.int .u8) (.pair (.int .i64) (.pair (.int .i64) (.pair (.int .i64) .unit)))) x) : WfI x := by
  obtain ⟨_, w1, w2, w3, _⟩ := w
  have hm : IntKind.i64.max = 9223372036854775807 := by decide
  simp only [Wf, min_i64, hm] at w1 w2 w3
  exact ⟨w1, w2, w3⟩

/-! ### OpsOne -/
theorem half_two (b : List Int) (hb : Bytes b) (hl : b.length ≤ 300) : ((cops_Decode (b, ((0 : Int), ()))).bind fun x11 => (bif (x11.2.2 != (0 : Int)) then ((claw06_alive ()).bind fun x12 => (some x12)) else ((cops_Encode x11.2.1).bind fun x13 => (bif (x13.2 == (0 : Int)) then (bif (decide (x11.1.2.1 ≥ (1 : Int))) then (bif (decide (x11.1.2.1 ≤ (List.length b : Int))) then (bif (decide (0 ≤ x11.1.2.1) && decide (x11.1.2.1 ≤ (List.length b : Int))) then (let x14 : List Int := (List.take (Int.toNat x11.1.2.1) b); (bif (eqD .str x13.1 x14) then ((claw06_alive ()).bind fun x15 => (some x15)) else (some false))) else none) else (some false)) else (some false)) else (some false))))) = some true := by
  have hv : Valid (b, ((0 : Int), ())) := ⟨by simp only; omega, by simp, by simp⟩
  rw [Decode_eq _ hb, if_pos hv, Option.bind_some]
  simp only [Int.toNat_zero]
  by_cases h : (decAt b 0).2.2 = 0
  · obtain ⟨h1, h2, h3, h4, h5⟩ := dec_good hb h
    rw [show ((decAt b 0).2.2 != 0) = false by simpa using h, cond_false, Encode_eq _ h5, h1, if_pos rfl, Option.bind_some]
    simp only
    rw [decide_eq_true (show (decAt b 0).1.2.1 ≥ 1 from h2), decide_eq_true h3, decide_eq_true (show (0 : Int) ≤ (decAt b 0).1.2.1 by omega), h4, eqD_self, alive06]
    rfl
  · rw [show ((decAt b 0).2.2 != 0) = true by simpa using h, alive06]
    rfl

theorem one_true6 (x : Ins × List Int) (w : WfL [(.pair (.int .u8) (.pair (.int .i64) (.pair (.int .i64) (.pair (.int .i64) .unit)))), (.slice (.int .u8))] x) : claw06_OpsOne x = some true := by
  obtain ⟨x, b⟩ := x
  obtain ⟨w1, w2⟩ := w
  have wx := wf_ins w1
  have hb : Bytes b := fun c hc => by
    have := w2.2 c hc
    simpa only [Wf, min_u8, max_u8] using this
  show nlaw06_OpsOne (x, b) = some true
  unfold nlaw06_OpsOne
  dsimp only
  by_cases hl : b.length > 300
  · rw [decide_eq_true (by omega), alive06]; rfl
  · rw [decide_eq_false (by omega), cond_false, Encode_eq x wx, Option.bind_some, Check_eq, Option.bind_some]
    have h2 := half_two b hb (by omega)
    cases h : okI x with
    | false =>
      simp only [Bool.false_eq_true, if_false]
      exact h2
    | true =>
      obtain ⟨k1, k2⟩ := enc_bytes h wx
      have hv : Valid (enc x ++ b, ((0 : Int), ())) := ⟨by simp only [List.length_append]; omega, by simp, by simp only [List.length_append]; omega⟩
      have hd : cops_Decode (enc x ++ b, ((0 : Int), ())) = some ((enc x ++ b, (((enc x).length : Int), ())), x, 0) := by
        rw [Decode_eq _ (bytes_append k1 hb), if_pos hv]
        exact congrArg some (dec_enc h wx b)
      simp only [if_true]
      have c1 : (Nat.ble 1 1 && Nat.ble (List.length ([] : List Int) + List.length (enc x)) lim) = true := by rw [b11, ble_lim (by simp; omega)]; rfl
      have c2 : (Nat.ble 1 1 && Nat.ble (List.length (enc x) + List.length b) lim) = true := by rw [b11, ble_lim (by omega)]; rfl
      rw [c1]
      show (bif !((0 : Int) == 0) == ((0 : Int) == 0) then _ else _) = _
      simp only [List.append_eq, List.nil_append, c2, hd, beq_self_eq_true, Bool.not_true, cond_false, cond_true, Option.bind_some, eqD_self, bne_self_eq_false]
      exact h2

/-! ### OpsFirst -/
theorem enc_begins {x y : Ins} (hx : okI x = true) (wx : WfI x) (hy : okI y = true) (wy : WfI y) : begins (enc y) (enc x) = eqD (.pair (.int .u8) (.pair (.int .i64) (.pair (.int .i64) (.pair (.int .i64) .unit)))) x y := by
  by_cases e : x = y
  · subst e
    rw [begins_self, eqD_self]
  · rw [eqD_false e]
    cases h : begins (enc y) (enc x) with
    | false => rfl
    | true =>
      exfalso
      apply e
      obtain ⟨r, hr⟩ := begins_split h
      have h1 := dec_enc hx wx r
      have h2 := dec_enc hy wy []
      rw [List.append_nil, hr] at h2
      rw [h2] at h1
      exact (congrArg (fun z => z.2.1) h1).symm

theorem enc_short {x : Ins} (h : okI x = true) (w : WfI x) (k : Nat) (hk : k < (enc x).length) : (decAt ((enc x).take k) 0).2.2 = 24 := by
  obtain ⟨h1, h2, h3, h4, h5⟩ := okI_parts h w
  cases k with
  | zero => rfl
  | succ k =>
    have e : (enc x).take (k + 1) = [x.1] ++ (body (rol x.1) (vals x)).take k := by simp [enc]
    have hs := body_short (rol x.1) (vals x) [x.1] k h2 h3 h4 h5 (by simp only [enc, List.length_cons] at hk; omega)
    rw [e]
    unfold decAt
    rw [show ([x.1] ++ (body (rol x.1) (vals x)).take k)[0]? = some x.1 from rfl]
    simp only [h1, if_true]
    unfold decEnd
    rw [show (0 + 1 : Nat) = [x.1].length from rfl, hs]
    rfl

theorem first_true6 (x : Ins × Ins × Int) (w : WfL [(.pair (.int .u8) (.pair (.int .i64) (.pair (.int .i64) (.pair (.int .i64) .unit)))), (.pair (.int .u8) (.pair (.int .i64) (.pair (.int .i64) (.pair (.int .i64) .unit)))), (.int .i64)] x) : claw06_OpsFirst x = some true := by
  obtain ⟨x, y, at_⟩ := x
  obtain ⟨w1, w2, w3⟩ := w
  have wx := wf_ins w1
  have wy := wf_ins w2
  show nlaw06_OpsFirst (x, y, at_) = some true
  unfold nlaw06_OpsFirst
  dsimp only
  rw [Encode_eq x wx, Option.bind_some, Encode_eq y wy, Option.bind_some]
  cases hx : okI x with
  | false =>
    simp only [Bool.false_eq_true, if_false]
    rw [alive06]; rfl
  | true =>
    cases hy : okI y with
    | false =>
      simp only [Bool.false_eq_true, if_false, if_true]
      rw [alive06]; rfl
    | true =>
      simp only [if_true]
      rw [begins_eq, enc_begins hx wx hy wy]
      simp only [Option.bind_some, beq_self_eq_true, Bool.not_true, cond_false, bne_self_eq_false, alive06]
      by_cases h0 : at_ < 0
      · rw [decide_eq_true h0]; rfl
      · rw [decide_eq_false h0, cond_false]
        obtain ⟨k, rfl⟩ := Int.eq_ofNat_of_zero_le (show 0 ≤ at_ by omega)
        by_cases h1 : k < (enc x).length
        · obtain ⟨k1, k2⟩ := enc_bytes hx wx
          rw [decide_eq_false (by omega), cond_false, decide_eq_true (by omega), decide_eq_true (by omega)]
          have hv : Valid ((enc x).take k, ((0 : Int), ())) := ⟨by simp only [List.length_take]; omega, by simp, by simp⟩
          have hd : cops_Decode (List.drop 0 (List.take (Int.toNat (k : Int)) (enc x)), ((0 : Int), ())) = some (decAt ((enc x).take k) 0) := by
            rw [List.drop_zero, Int.toNat_natCast, Decode_eq _ (bytes_take k1 k), if_pos hv]
            rfl
          rw [hd]
          simp only [Bool.and_self, cond_true, Option.bind_some, enc_short hx wx k h1]
          rfl
        · rw [decide_eq_true (by omega)]; rfl
end Go.Proofs.YtinhcjeilebooaaDoor
