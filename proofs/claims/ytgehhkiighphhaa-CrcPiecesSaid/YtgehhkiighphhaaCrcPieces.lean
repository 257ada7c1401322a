/- The law CrcPieces: pieces and wholes agree. -/
import Derived.Test.YtgehhkiighphhaaCrcB
import Derived.Test.YtgehhkiighphhaaRows
import Derived.WalkKit
import Derived.ProofKit
import Derived.OpenShut
import Derived.ChangeOld
import Derived.Below
namespace Go.Proofs.Ytgehhkiighphhaa
open Go.Lift

/-! ### numbers -/
def turnN (x : Nat) : Nat := if x % 2 = 1 then (x / 2) ^^^ 3988292384 else x / 2
def elN (x : Nat) : Nat := turnN (turnN (turnN (turnN (turnN (turnN (turnN (turnN x)))))))
theorem xor_div (a b k : Nat) : (a ^^^ b) / 2 ^ k = (a / 2 ^ k) ^^^ (b / 2 ^ k) := by
  simp only [← Nat.shiftRight_eq_div_pow, Nat.shiftRight_xor_distrib]
theorem xor_mid (a b p q : Nat) : (a ^^^ p) ^^^ (b ^^^ q) = (a ^^^ b) ^^^ (p ^^^ q) := by
  rw [Nat.xor_assoc, Nat.xor_assoc, ← Nat.xor_assoc p, Nat.xor_comm p b, Nat.xor_assoc]
theorem turnN_xor (a b : Nat) : turnN (a ^^^ b) = turnN a ^^^ turnN b := by
  have h := xor_div a b 1
  have hm : (a ^^^ b) % 2 = (a % 2) ^^^ (b % 2) := Nat.xor_mod_two_pow (n := 1)
  simp only [Nat.pow_one] at h
  unfold turnN
  rw [h, hm]
  rcases Nat.mod_two_eq_zero_or_one a with ha | ha <;> rcases Nat.mod_two_eq_zero_or_one b with hb | hb <;> rw [ha, hb]
  · simp
  · simp [Nat.xor_assoc]
  · simp; rw [Nat.xor_assoc, Nat.xor_comm (b / 2), ← Nat.xor_assoc]
  · simp; rw [xor_mid, Nat.xor_self, Nat.xor_zero]
theorem elN_xor (a b : Nat) : elN (a ^^^ b) = elN a ^^^ elN b := by simp only [elN, turnN_xor]
theorem tbl_eq : tbl = (List.range 256).map fun i => ((elN i : Nat) : Int) := by kernel_rfl
theorem tbl_at {a : Nat} (h : a < 256) : nth tbl a = some ((elN a : Nat) : Int) := by
  show tbl[a]? = _
  rw [tbl_eq]
  simp [h]
theorem el_lt {a : Nat} (h : a < 256) : elN a < 4294967296 := by
  have hc : ((List.range 256).all fun i => decide (elN i < 4294967296)) = true := by kernel_rfl
  have := List.all_eq_true.1 hc a (by simpa using h)
  simpa using this
theorem el_hi {a : Nat} (h : a < 256) (h0 : elN a / 2 ^ 24 = 0) : a = 0 := by
  have hc : ((List.range 256).all fun i => !(Nat.beq (elN i / 2 ^ 24) 0) || Nat.beq i 0) = true := by kernel_rfl
  have := List.all_eq_true.1 hc a (by simpa using h)
  rw [h0] at this
  simpa using this
theorem xor_lt {a b : Nat} (ha : a < 256) (hb : b < 256) : a ^^^ b < 256 := Nat.xor_lt_two_pow (n := 8) ha hb
theorem hi_inj {a b : Nat} (ha : a < 256) (hb : b < 256) (h : elN a / 2 ^ 24 = elN b / 2 ^ 24) : a = b := by
  have h1 := el_hi (xor_lt ha hb) (by rw [elN_xor, xor_div, h, Nat.xor_self])
  rw [← Nat.xor_zero a, ← Nat.xor_self b, ← Nat.xor_assoc, h1, Nat.zero_xor]
theorem bits_xor {k : IntKind} {a b : Nat} (hs : k.signed = false) (ha : a < 2 ^ k.bits) (hb : b < 2 ^ k.bits) : bits .xor k (a : Int) (b : Int) = ((a ^^^ b : Nat) : Int) := by
  have h := Nat.xor_lt_two_pow ha hb
  simp only [bits, BitVec.ofInt_natCast, BitVec.toNat_xor, BitVec.toNat_ofNat, Nat.mod_eq_of_lt ha, Nat.mod_eq_of_lt hb]
  simp only [IntKind.wrap, hs]
  simp
  exact_mod_cast Nat.mod_eq_of_lt h
theorem alive_true : c16 () = some true := by kernel_rfl


theorem ediv (n k : Nat) : (n : Int).fdiv (2 ^ k) = ((n / 2 ^ k : Nat) : Int) := by
  rw [Int.fdiv_eq_ediv_of_nonneg _ (Int.pow_nonneg (by decide)), Int.natCast_ediv, Int.natCast_pow]
  rfl
theorem xor_lt32 {a b : Nat} (ha : a < 4294967296) (hb : b < 4294967296) : a ^^^ b < 4294967296 := Nat.xor_lt_two_pow (n := 32) ha hb
def stN (s c : Nat) : Nat := (s / 256) ^^^ elN ((s % 256) ^^^ c)
def stepsN (b : List Int) (s : Nat) : Nat := b.foldl (fun s c => stN s c.toNat) s
def Bytes (b : List Int) : Prop := ∀ c ∈ b, 0 ≤ c ∧ c ≤ 255
theorem stN_lt {s c : Nat} (hs : s < 4294967296) (hc : c < 256) : stN s c < 4294967296 :=
  xor_lt32 (Nat.lt_of_le_of_lt (Nat.div_le_self _ _) hs) (el_lt (xor_lt (Nat.mod_lt _ (by decide)) hc))
theorem getI_tbl {a : Nat} (h : a < 256) : getI tbl (a : Int) = some ((elN a : Nat) : Int) := by
  rw [getI_nat]; exact tbl_at h
theorem c33_nat {s c : Nat} (hs : s < 4294967296) (hc : c < 256) : c33 (tbl, (s : Int), (c : Int)) = some ((stN s c : Nat) : Int) := by
  have h1 : IntKind.u8.wrap (s : Int) = ((s % 256 : Nat) : Int) := by rw [IntKind.wrap_u8]; simp
  have hm : s % 256 < 256 := Nat.mod_lt _ (by decide)
  have h2 : bits .xor .u8 ((s % 256 : Nat) : Int) (c : Int) = (((s % 256) ^^^ c : Nat) : Int) := bits_xor rfl hm hc
  have h3 : bits .xor .u32 ((s / 2 ^ 8 : Nat) : Int) ((elN ((s % 256) ^^^ c) : Nat) : Int) = (((s / 2 ^ 8) ^^^ elN ((s % 256) ^^^ c) : Nat) : Int) :=
    bits_xor rfl (Nat.lt_of_le_of_lt (Nat.div_le_self _ _) hs) (el_lt (xor_lt hm hc))
  simp only [c33, n33, h1, h2, getI_tbl (xor_lt hm hc), Option.bind_some, ediv, h3, stN]
theorem c25_nat : ∀ {b : List Int} {s : Nat}, Bytes b → s < 4294967296 → c25 (tbl, (s : Int), b) = some ((stepsN b s : Nat) : Int) ∧ stepsN b s < 4294967296
  | [], s, _, hs => ⟨rfl, hs⟩
  | c :: b, s, hb, hs => by
    obtain ⟨h0, h1⟩ := hb c (by simp)
    obtain ⟨n, rfl⟩ := Int.eq_ofNat_of_zero_le h0
    have hn : n < 256 := by omega
    have ih := c25_nat (b := b) (s := stN s n) (fun c h => hb c (by simp [h])) (stN_lt hs hn)
    refine ⟨?_, by simpa [stepsN] using ih.2⟩
    have : c25 (tbl, (s : Int), (n : Int) :: b) = (c33 (tbl, (s : Int), (n : Int))).bind fun s' => c25 (tbl, s', b) := rfl
    rw [this, c33_nat hs hn, Option.bind_some, ih.1]
    simp [stepsN]
theorem eqD_self (t : Ty) (x : t.den) : eqD t x x = true := by
  unfold eqD
  exact @decide_eq_true _ (decD t x x) rfl
theorem ones_lt : (4294967295 : Nat) < 4294967296 := by decide
theorem xor_ones {s : Nat} (hs : s < 4294967296) : bits .xor .u32 (s : Int) (4294967295 : Int) = ((s ^^^ 4294967295 : Nat) : Int) := bits_xor (b := 4294967295) rfl hs ones_lt
theorem c11_nat {b : List Int} {s : Nat} (hb : Bytes b) (hl : b.length ≤ 200000) (hs : s < 4294967296) : c11 (tbl, (s : Int), b) = some (((stepsN b (s ^^^ 4294967295) ^^^ 4294967295 : Nat) : Int), 0) := by
  have c20e : c20 () = some tbl := rfl
  have h := c25_nat hb (xor_lt32 hs ones_lt)
  have e : decide ((List.length b : Int) > 200000) = false := decide_eq_false (by omega)
  simp only [c11, n11, c20e, Option.bind_some, eqD_self, Bool.not_true, cond_false, e, xor_ones hs, h.1, xor_ones h.2]
theorem stepsN_append (a b : List Int) (s : Nat) : stepsN (a ++ b) s = stepsN b (stepsN a s) := by simp [stepsN]
theorem xx (a b : Nat) : (a ^^^ b) ^^^ b = a := by rw [Nat.xor_assoc, Nat.xor_self, Nat.xor_zero]

/-! ### pieces -/
theorem fits_true : ∀ (l : List (List Int)) (left : Nat), l.flatten.length ≤ left → left ≤ 200000 →
    foldC (fun b left k => bif decide ((List.length b : Int) > left) then some false else k (IntKind.i64.wrap (left - (List.length b : Int)))) (fun _ => some true) l (left : Int) = some true
  | [], _, _, _ => rfl
  | b :: l, left, h, hl => by
    simp only [List.flatten_cons, List.length_append] at h
    have e : decide ((List.length b : Int) > (left : Int)) = false := decide_eq_false (by omega)
    have hw : IntKind.i64.wrap ((left : Int) - (List.length b : Int)) = ((left - b.length : Nat) : Int) := by
      rw [wrap_i64 (by omega) (by omega)]; omega
    simp only [foldC, e, cond_false, hw]
    exact fits_true l (left - b.length) (by omega) (by omega)
theorem c25_flat : ∀ (l : List (List Int)) (s : Nat), (∀ b ∈ l, Bytes b) → s < 4294967296 → ∀ fin : Int → Option (Int × Int),
    foldC (fun b s k => (c25 (tbl, s, b)).bind k) fin l (s : Int) = fin ((stepsN l.flatten s : Nat) : Int) ∧ stepsN l.flatten s < 4294967296
  | [], s, _, hs, fin => ⟨rfl, hs⟩
  | b :: l, s, hb, hs, fin => by
    have h := c25_nat (hb b (by simp)) hs
    have ih := c25_flat l (stepsN b s) (fun b h => hb b (by simp [h])) h.2 fin
    simp only [foldC, h.1, Option.bind_some, List.flatten_cons, stepsN_append]
    exact ih
theorem c13_nat {l : List (List Int)} (hb : ∀ b ∈ l, Bytes b) (hn : l.length ≤ 64) (hl : l.flatten.length ≤ 200000) : c13 (tbl, l) = some (((stepsN l.flatten 4294967295 ^^^ 4294967295 : Nat) : Int), 0) := by
  have c20e : c20 () = some tbl := rfl
  have e : decide ((List.length l : Int) > 64) = false := decide_eq_false (by omega)
  have hf : c26 l = some true := fits_true l 200000 hl (Nat.le_refl _)
  have h := c25_flat l 4294967295 hb ones_lt (fun s => some (bits .xor .u32 s 4294967295, 0))
  simp only [c13, n13, c20e, Option.bind_some, eqD_self, Bool.not_true, cond_false, e, hf]
  refine h.1.trans ?_
  simp only [xor_ones h.2]
theorem whole : ∀ (l : List (List Int)) (out : List Int), out.length + l.flatten.length ≤ lim →
    foldC (fun b out k => bif Nat.ble (List.length out + List.length b) lim then k (List.append out b) else none) some l out = some (out ++ l.flatten)
  | [], out, _ => by simp [foldC]
  | b :: l, out, h => by
    simp only [List.flatten_cons, List.length_append] at h
    have e : Nat.ble (List.length out + List.length b) lim = true := Nat.ble_eq_true_of_le (by omega)
    have ih := whole l (out ++ b) (by simp only [List.length_append]; omega)
    simp only [foldC, e, cond_true, List.flatten_cons]
    rw [← List.append_assoc]
    exact ih
theorem c17_some (b : List Int) : ∃ y, c17 b = some y ∧ (y = false → b.length ≤ 200100) := by
  by_cases h1 : b.length > 700
  · by_cases h2 : b.length ≤ 200000
    · exact ⟨true, by
        have e1 : decide ((List.length b : Int) > 700) = true := decide_eq_true (by omega)
        have e2 : decide ((List.length b : Int) ≤ 200000) = true := decide_eq_true (by omega)
        simp only [c17, n17, e1, e2, cond_true], fun h => by cases h⟩
    · refine ⟨decide ((List.length b : Int) > 200100), ?_, fun h => by have := of_decide_eq_false h; omega⟩
      have e1 : decide ((List.length b : Int) > 700) = true := decide_eq_true (by omega)
      have e2 : decide ((List.length b : Int) ≤ 200000) = false := decide_eq_false (by omega)
      simp only [c17, n17, e1, e2, cond_true, cond_false]
  · refine ⟨decide ((List.length b : Int) > 200100), ?_, fun h => by omega⟩
    have e1 : decide ((List.length b : Int) > 700) = false := decide_eq_false (by omega)
    simp only [c17, n17, e1, cond_false]
theorem great : ∀ l : List (List Int), ∃ y, foldC (fun b (_ : Unit) k => (c17 b).bind fun y => bif y then some true else k ()) (fun _ => some false) l () = some y ∧ (y = false → ∀ b ∈ l, b.length ≤ 200100)
  | [] => ⟨false, rfl, fun _ => by simp⟩
  | b :: l => by
    obtain ⟨y, hy, hf⟩ := c17_some b
    obtain ⟨z, hz, hg⟩ := great l
    cases y with
    | true => exact ⟨true, by simp only [foldC, hy, Option.bind_some, cond_true], fun h => by cases h⟩
    | false => exact ⟨z, by simp only [foldC, hy, Option.bind_some, cond_false]; exact hz, fun h b' hb' => by
        rcases List.mem_cons.1 hb' with rfl | hb'
        · exact hf rfl
        · exact hg h b' hb'⟩
theorem sum_le {n : Nat} : ∀ (l : List (List Int)), (∀ b ∈ l, b.length ≤ n) → l.flatten.length ≤ l.length * n
  | [], _ => by simp
  | b :: l, h => by
    have := sum_le l fun b hb => h b (by simp [hb])
    have := h b (by simp)
    simp only [List.flatten_cons, List.length_append, List.length_cons, Nat.add_mul, Nat.one_mul]
    omega
theorem part_le : ∀ (l : List (List Int)) (b : List Int), b ∈ l → b.length ≤ l.flatten.length
  | a :: l, b, h => by
    simp only [List.flatten_cons, List.length_append]
    rcases List.mem_cons.1 h with rfl | h
    · omega
    · have := part_le l b h; omega
theorem on_flat (fin : Int → Option Bool) : ∀ (l : List (List Int)) (s : Nat), (∀ b ∈ l, Bytes b) → (∀ b ∈ l, b.length ≤ 200000) → s < 4294967296 →
    foldC (fun b on k => (c11 (tbl, on, b)).bind fun r => bif (r.2 != (0 : Int)) then some false else k r.1) fin l (s : Int) = fin ((stepsN l.flatten (s ^^^ 4294967295) ^^^ 4294967295 : Nat) : Int)
  | [], s, _, _, _ => by simp only [foldC, List.flatten_nil, stepsN, List.foldl_nil, xx]
  | b :: l, s, hb, hl, hs => by
    have h := c11_nat (hb b (by simp)) (hl b (by simp)) hs
    have hlt := (c25_nat (hb b (by simp)) (xor_lt32 hs ones_lt)).2
    have ih := on_flat fin l (stepsN b (s ^^^ 4294967295) ^^^ 4294967295) (fun b h => hb b (by simp [h])) (fun b h => hl b (by simp [h])) (xor_lt32 hlt ones_lt)
    simp only [foldC, h, Option.bind_some, bne_self_eq_false, cond_false]
    rw [List.flatten_cons, stepsN_append]
    rw [xx] at ih
    exact ih

theorem pieces (x : List (List Int)) (w : WfL [.slice (.slice (.int .u8))] x) : c5 x = some true := by
  have hbytes : ∀ b ∈ x, Bytes b := fun b hb c hc => by
    have := ((w.2 b hb).2 c hc)
    have m0 : IntKind.u8.min = 0 := by decide
    have m1 : IntKind.u8.max = 255 := by decide
    simpa only [Wf, m0, m1] using this
  have c20e : c20 () = some tbl := rfl
  by_cases hn : x.length ≤ 64
  · have e1 : decide ((List.length x : Int) > 64) = false := decide_eq_false (by omega)
    have e100 : decide ((List.length x : Int) > 100) = false := decide_eq_false (by omega)
    obtain ⟨y, hy, hlen⟩ := great x
    have h21 : c21 x = some y := by simp only [c21, n21, e100, cond_false]; exact hy
    cases y with
    | true => simp only [c5, n5, e1, cond_false, h21, Option.bind_some, cond_true, alive_true]
    | false =>
      have hl := hlen rfl
      have hs := sum_le x hl
      have hlim : lim = 68719476736 := rfl
      have h22 : c22 x = some x.flatten := (whole x [] (by
        have : x.length * 200100 ≤ 64 * 200100 := Nat.mul_le_mul_right _ hn
        simp only [List.length_nil]
        omega)).trans (by simp)
      by_cases h2 : x.flatten.length ≤ 2000
      · have e2 : decide ((List.length x.flatten : Int) > 2000) = false := decide_eq_false (by omega)
        have hfb : Bytes x.flatten := fun c hc => by
          obtain ⟨b, hb, hc⟩ := List.mem_flatten.1 hc
          exact hbytes b hb c hc
        have h13 := c13_nat hbytes hn (by omega)
        have h11 := c11_nat (s := 0) hfb (by omega) (by decide)
        have h10 : c10 (tbl, x.flatten) = some (((stepsN x.flatten 4294967295 ^^^ 4294967295 : Nat) : Int), 0) := by
          simp only [c10, n10]
          have : c11 (tbl, (0 : Int), x.flatten) = _ := h11
          rw [this, Nat.zero_xor]
          rfl
        have hon := on_flat (fun on => (bif ((0 : Int) == (0 : Int)) then (bif ((0 : Int) == (0 : Int)) then (bif (((stepsN x.flatten 4294967295 ^^^ 4294967295 : Nat) : Int) == ((stepsN x.flatten 4294967295 ^^^ 4294967295 : Nat) : Int)) then (bif (on == ((stepsN x.flatten 4294967295 ^^^ 4294967295 : Nat) : Int)) then ((c16 ()).bind fun x12 => (some x12)) else (some false)) else (some false)) else (some false)) else (some false))) x 0 hbytes (fun b hb => by have := part_le x b hb; omega) (by decide)
        simp only [c5, n5, e1, cond_false, h21, Option.bind_some, h22, e2, c20e, h13, h10]
        refine hon.trans ?_
        simp only [Nat.zero_xor, beq_self_eq_true, cond_true, alive_true, Option.bind_some]
      · have e2 : decide ((List.length x.flatten : Int) > 2000) = true := decide_eq_true (by omega)
        simp only [c5, n5, e1, cond_false, h21, Option.bind_some, h22, e2, cond_true, alive_true]
  · have e1 : decide ((List.length x : Int) > 64) = true := decide_eq_true (by omega)
    simp only [c5, n5, e1, cond_true, alive_true, Option.bind_some]

/-! ### the law CrcPieces -/
namespace crcPieces
open Go.ChangeShapes Go.WideShapes Go.ChangeAt Go.RowKit
theorem own : ownKnob Try.prog.godebug = none := by kernel_rfl
theorem laidOut : laidOutB Try.prog = true := by kernel_rfl

set_option maxRecDepth 100000 in
theorem lifted (os : Os) (started : os.Started) (H : Type) (enc : TypeId × Value → H) :
    ReturnsInHanded {} Try.checked os 5 .any (Rows.crcPiecesSpec.pre6 enc Try.prog Try.f5 Rows.crcPiecesRow.domain false) (Rows.crcPiecesSpec.post enc Try.prog Try.f5 false true false false) := by
  refine returnsInHanded_of_change (C := Try.checked) own started (by kernel_rfl) Try.func5
    (ChangeSpec.witness6 (enc := enc) (C := Try.checked) false ⟨#[], #[.slice none 0 0], []⟩ 8 (by kernel_rfl) (by kernel_rfl) (by kernel_rfl) (by kernel_rfl)) ?_
  intro W base args ds gs before hval0 hW hcnd _
  have hval : ∀ (j : Nat) t v, Try.f5.params[j]? = some t → args[j]? = some v → Value.okWide Try.prog W .any base t v := hval0
  have hW' := hW
  obtain ⟨p, q, hA0, hV, rfl, hfz, hnd⟩ := hW
  have hA : DataW.TrodAll enc Try.prog W 0 (fun _ => true) true Try.f5.params.toList args.toList ds p := hA0
  have hlt : ∀ x ∈ p, x.block < W.heap.size := hA.lt
  have hlen : ds.length = 1 := trodAll_length hA
  obtain ⟨rfl, rfl⟩ := trodVars_none hV
  refine (law_run (fn := F5) (E := E5) tabOk L5 (fun x w => by
    have h : c5 x = some true := pieces x w
    show Option.map _ (c5 x) = _
    rw [h]
    rfl) (ts := Try.f5.params.toList) (by kernel_rfl) (by kernel_rfl) (fun j t v h h' => hval j t v (by simpa using h) h') hA).mono fun e W' ⟨he, bel⟩ => ?_
  subst he
  have hB := trodAll_below laidOut bel (by kernel_rfl) hA hlt
  match ds, hlen with
  | [d0], _ => exact ⟨_, rfl, _, _, _, [], _, [], hW', trodAll_mk1 (shut_bool Try.underlying4 _), hB, rfl, bel.frame _, fun h => by cases h⟩

theorem over : Rows.crcPiecesRow.holds Try.pinned (OpenSpec.ofChange Rows.crcPiecesSpec) :=
  OpenClaim.holds_of_wide 5 Try.f5 rfl rfl rfl rfl rfl rfl rfl ⟨rfl, rfl, rfl, rfl, rfl⟩ rfl rfl rfl rfl rfl (by kernel_rfl) Try.func5 (by kernel_rfl)
    (of_decide_eq_true (by kernel_rfl)) (by unfold Func.isWrapper; first | (rw [if_pos (by decide +kernel)]; kernel_rfl) | (rw [if_neg (by decide +kernel)]; exact ⟨rfl, rfl⟩))
    (fun os started H enc _ => lifted os started H enc)

theorem proved : Rows.CrcPiecesSaid := over
end crcPieces
#print axioms crcPieces.proved
end Go.Proofs.Ytgehhkiighphhaa
