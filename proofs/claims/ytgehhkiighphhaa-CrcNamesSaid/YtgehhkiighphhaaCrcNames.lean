/- The law CrcNames: the examples, limits and errors. -/
import Derived.Test.YtgehhkiighphhaaCrcD
import Derived.Test.YtgehhkiighphhaaRows
import Derived.WalkKit
import Derived.ProofKit
import Derived.OpenShut
import Derived.ChangeOld
import Derived.Below
namespace Go.Proofs.Ytgehhkiighphhaa
open Go.Lift

/-! ### numbers -/
def turnN (x : Nat) : Nat := if x % 2 = 1 then (x / 2) ^^^ 3988292384 else x / 2
def elN (x : Nat) : Nat := turnN (turnN (turnN (turnN (turnN (turnN (turnN (turnN x)))))))
theorem xor_div (a b k : Nat) : (a ^^^ b) / 2 ^ k = (a / 2 ^ k) ^^^ (b / 2 ^ k) := by
  simp only [← Nat.shiftRight_eq_div_pow, Nat.shiftRight_xor_distrib]
theorem xor_mid (a b p q : Nat) : (a ^^^ p) ^^^ (b ^^^ q) = (a ^^^ b) ^^^ (p ^^^ q) := by
  rw [Nat.xor_assoc, Nat.xor_assoc, ← Nat.xor_assoc p, Nat.xor_comm p b, Nat.xor_assoc]
theorem turnN_xor (a b : Nat) : turnN (a ^^^ b) = turnN a ^^^ turnN b := by
  have h := xor_div a b 1
  have hm : (a ^^^ b) % 2 = (a % 2) ^^^ (b % 2) := Nat.xor_mod_two_pow (n := 1)
  simp only [Nat.pow_one] at h
  unfold turnN
  rw [h, hm]
  rcases Nat.mod_two_eq_zero_or_one a with ha | ha <;> rcases Nat.mod_two_eq_zero_or_one b with hb | hb <;> rw [ha, hb]
  · simp
  · simp [Nat.xor_assoc]
  · simp; rw [Nat.xor_assoc, Nat.xor_comm (b / 2), ← Nat.xor_assoc]
  · simp; rw [xor_mid, Nat.xor_self, Nat.xor_zero]
theorem elN_xor (a b : Nat) : elN (a ^^^ b) = elN a ^^^ elN b := by simp only [elN, turnN_xor]
theorem tbl_eq : tbl = (List.range 256).map fun i => ((elN i : Nat) : Int) := by kernel_rfl
theorem tbl_at {a : Nat} (h : a < 256) : nth tbl a = some ((elN a : Nat) : Int) := by
  show tbl[a]? = _
  rw [tbl_eq]
  simp [h]
theorem el_lt {a : Nat} (h : a < 256) : elN a < 4294967296 := by
  have hc : ((List.range 256).all fun i => decide (elN i < 4294967296)) = true := by kernel_rfl
  have := List.all_eq_true.1 hc a (by simpa using h)
  simpa using this
theorem el_hi {a : Nat} (h : a < 256) (h0 : elN a / 2 ^ 24 = 0) : a = 0 := by
  have hc : ((List.range 256).all fun i => !(Nat.beq (elN i / 2 ^ 24) 0) || Nat.beq i 0) = true := by kernel_rfl
  have := List.all_eq_true.1 hc a (by simpa using h)
  rw [h0] at this
  simpa using this
theorem xor_lt {a b : Nat} (ha : a < 256) (hb : b < 256) : a ^^^ b < 256 := Nat.xor_lt_two_pow (n := 8) ha hb
theorem hi_inj {a b : Nat} (ha : a < 256) (hb : b < 256) (h : elN a / 2 ^ 24 = elN b / 2 ^ 24) : a = b := by
  have h1 := el_hi (xor_lt ha hb) (by rw [elN_xor, xor_div, h, Nat.xor_self])
  rw [← Nat.xor_zero a, ← Nat.xor_self b, ← Nat.xor_assoc, h1, Nat.zero_xor]
theorem bits_xor {k : IntKind} {a b : Nat} (hs : k.signed = false) (ha : a < 2 ^ k.bits) (hb : b < 2 ^ k.bits) : bits .xor k (a : Int) (b : Int) = ((a ^^^ b : Nat) : Int) := by
  have h := Nat.xor_lt_two_pow ha hb
  simp only [bits, BitVec.ofInt_natCast, BitVec.toNat_xor, BitVec.toNat_ofNat, Nat.mod_eq_of_lt ha, Nat.mod_eq_of_lt hb]
  simp only [IntKind.wrap, hs]
  simp
  exact_mod_cast Nat.mod_eq_of_lt h
theorem alive_true : c16 () = some true := by kernel_rfl


theorem ediv (n k : Nat) : (n : Int).fdiv (2 ^ k) = ((n / 2 ^ k : Nat) : Int) := by
  rw [Int.fdiv_eq_ediv_of_nonneg _ (Int.pow_nonneg (by decide)), Int.natCast_ediv, Int.natCast_pow]
  rfl
theorem xor_lt32 {a b : Nat} (ha : a < 4294967296) (hb : b < 4294967296) : a ^^^ b < 4294967296 := Nat.xor_lt_two_pow (n := 32) ha hb
def stN (s c : Nat) : Nat := (s / 256) ^^^ elN ((s % 256) ^^^ c)
def stepsN (b : List Int) (s : Nat) : Nat := b.foldl (fun s c => stN s c.toNat) s
def Bytes (b : List Int) : Prop := ∀ c ∈ b, 0 ≤ c ∧ c ≤ 255
theorem stN_lt {s c : Nat} (hs : s < 4294967296) (hc : c < 256) : stN s c < 4294967296 :=
  xor_lt32 (Nat.lt_of_le_of_lt (Nat.div_le_self _ _) hs) (el_lt (xor_lt (Nat.mod_lt _ (by decide)) hc))
theorem getI_tbl {a : Nat} (h : a < 256) : getI tbl (a : Int) = some ((elN a : Nat) : Int) := by
  rw [getI_nat]; exact tbl_at h
theorem c33_nat {s c : Nat} (hs : s < 4294967296) (hc : c < 256) : c33 (tbl, (s : Int), (c : Int)) = some ((stN s c : Nat) : Int) := by
  have h1 : IntKind.u8.wrap (s : Int) = ((s % 256 : Nat) : Int) := by rw [IntKind.wrap_u8]; simp
  have hm : s % 256 < 256 := Nat.mod_lt _ (by decide)
  have h2 : bits .xor .u8 ((s % 256 : Nat) : Int) (c : Int) = (((s % 256) ^^^ c : Nat) : Int) := bits_xor rfl hm hc
  have h3 : bits .xor .u32 ((s / 2 ^ 8 : Nat) : Int) ((elN ((s % 256) ^^^ c) : Nat) : Int) = (((s / 2 ^ 8) ^^^ elN ((s % 256) ^^^ c) : Nat) : Int) :=
    bits_xor rfl (Nat.lt_of_le_of_lt (Nat.div_le_self _ _) hs) (el_lt (xor_lt hm hc))
  simp only [c33, n33, h1, h2, getI_tbl (xor_lt hm hc), Option.bind_some, ediv, h3, stN]
theorem c25_nat : ∀ {b : List Int} {s : Nat}, Bytes b → s < 4294967296 → c25 (tbl, (s : Int), b) = some ((stepsN b s : Nat) : Int) ∧ stepsN b s < 4294967296
  | [], s, _, hs => ⟨rfl, hs⟩
  | c :: b, s, hb, hs => by
    obtain ⟨h0, h1⟩ := hb c (by simp)
    obtain ⟨n, rfl⟩ := Int.eq_ofNat_of_zero_le h0
    have hn : n < 256 := by omega
    have ih := c25_nat (b := b) (s := stN s n) (fun c h => hb c (by simp [h])) (stN_lt hs hn)
    refine ⟨?_, by simpa [stepsN] using ih.2⟩
    have : c25 (tbl, (s : Int), (n : Int) :: b) = (c33 (tbl, (s : Int), (n : Int))).bind fun s' => c25 (tbl, s', b) := rfl
    rw [this, c33_nat hs hn, Option.bind_some, ih.1]
    simp [stepsN]
theorem eqD_self (t : Ty) (x : t.den) : eqD t x x = true := by
  unfold eqD
  exact @decide_eq_true _ (decD t x x) rfl
theorem ones_lt : (4294967295 : Nat) < 4294967296 := by decide
theorem xor_ones {s : Nat} (hs : s < 4294967296) : bits .xor .u32 (s : Int) (4294967295 : Int) = ((s ^^^ 4294967295 : Nat) : Int) := bits_xor (b := 4294967295) rfl hs ones_lt
theorem c11_nat {b : List Int} {s : Nat} (hb : Bytes b) (hl : b.length ≤ 200000) (hs : s < 4294967296) : c11 (tbl, (s : Int), b) = some (((stepsN b (s ^^^ 4294967295) ^^^ 4294967295 : Nat) : Int), 0) := by
  have c20e : c20 () = some tbl := rfl
  have h := c25_nat hb (xor_lt32 hs ones_lt)
  have e : decide ((List.length b : Int) > 200000) = false := decide_eq_false (by omega)
  simp only [c11, n11, c20e, Option.bind_some, eqD_self, Bool.not_true, cond_false, e, xor_ones hs, h.1, xor_ones h.2]
theorem stepsN_append (a b : List Int) (s : Nat) : stepsN (a ++ b) s = stepsN b (stepsN a s) := by simp [stepsN]
theorem xx (a b : Nat) : (a ^^^ b) ^^^ b = a := by rw [Nat.xor_assoc, Nat.xor_self, Nat.xor_zero]

/-! ### pieces -/
theorem fits_true : ∀ (l : List (List Int)) (left : Nat), l.flatten.length ≤ left → left ≤ 200000 →
    foldC (fun b left k => bif decide ((List.length b : Int) > left) then some false else k (IntKind.i64.wrap (left - (List.length b : Int)))) (fun _ => some true) l (left : Int) = some true
  | [], _, _, _ => rfl
  | b :: l, left, h, hl => by
    simp only [List.flatten_cons, List.length_append] at h
    have e : decide ((List.length b : Int) > (left : Int)) = false := decide_eq_false (by omega)
    have hw : IntKind.i64.wrap ((left : Int) - (List.length b : Int)) = ((left - b.length : Nat) : Int) := by
      rw [wrap_i64 (by omega) (by omega)]; omega
    simp only [foldC, e, cond_false, hw]
    exact fits_true l (left - b.length) (by omega) (by omega)
theorem c25_flat : ∀ (l : List (List Int)) (s : Nat), (∀ b ∈ l, Bytes b) → s < 4294967296 → ∀ fin : Int → Option (Int × Int),
    foldC (fun b s k => (c25 (tbl, s, b)).bind k) fin l (s : Int) = fin ((stepsN l.flatten s : Nat) : Int) ∧ stepsN l.flatten s < 4294967296
  | [], s, _, hs, fin => ⟨rfl, hs⟩
  | b :: l, s, hb, hs, fin => by
    have h := c25_nat (hb b (by simp)) hs
    have ih := c25_flat l (stepsN b s) (fun b h => hb b (by simp [h])) h.2 fin
    simp only [foldC, h.1, Option.bind_some, List.flatten_cons, stepsN_append]
    exact ih
theorem c13_nat {l : List (List Int)} (hb : ∀ b ∈ l, Bytes b) (hn : l.length ≤ 64) (hl : l.flatten.length ≤ 200000) : c13 (tbl, l) = some (((stepsN l.flatten 4294967295 ^^^ 4294967295 : Nat) : Int), 0) := by
  have c20e : c20 () = some tbl := rfl
  have e : decide ((List.length l : Int) > 64) = false := decide_eq_false (by omega)
  have hf : c26 l = some true := fits_true l 200000 hl (Nat.le_refl _)
  have h := c25_flat l 4294967295 hb ones_lt (fun s => some (bits .xor .u32 s 4294967295, 0))
  simp only [c13, n13, c20e, Option.bind_some, eqD_self, Bool.not_true, cond_false, e, hf]
  refine h.1.trans ?_
  simp only [xor_ones h.2]

/-! ### the examples and the limits -/
theorem tbl_ne {t : List Int} (h : eqD (.arr 256 (.int .u32)) t tbl = false) (s : Int) (b : List Int) : c11 (t, s, b) = some (0, 8) := by
  have c20e : c20 () = some tbl := rfl
  simp only [c11, n11, c20e, Option.bind_some, h, Bool.not_false, cond_true]
theorem bad10 (L : List Int) : c10 (List.replicate 256 (0 : Int), L) = some (0, 8) := by
  have h : eqD (.arr 256 (.int .u32)) (List.replicate 256 (0 : Int)) tbl = false := by kernel_rfl
  simp only [c10, n10, tbl_ne h, Option.bind_some]
theorem long11 {L : List Int} (h : L.length = 200001) (s : Int) : c11 (tbl, s, L) = some (0, 4) := by
  have c20e : c20 () = some tbl := rfl
  have e : decide ((List.length L : Int) > 200000) = true := decide_eq_true (by omega)
  simp only [c11, n11, c20e, Option.bind_some, eqD_self, Bool.not_true, cond_false, e, cond_true]
theorem long10 {L : List Int} (h : L.length = 200001) : c10 (tbl, L) = some (0, 4) := by
  simp only [c10, n10, long11 h, Option.bind_some]
theorem long13 {a b : List Int} (ha : a.length = 100000) (hb : b.length = 100001) : c13 (tbl, [a, b]) = some (0, 4) := by
  have c20e : c20 () = some tbl := rfl
  have e1 : decide ((List.length a : Int) > 200000) = false := decide_eq_false (by omega)
  have e2 : IntKind.i64.wrap ((200000 : Int) - (List.length a : Int)) = 100000 := by rw [wrap_i64 (by omega) (by omega)]; omega
  have e3 : decide ((List.length b : Int) > 100000) = true := decide_eq_true (by omega)
  have e4 : decide ((List.length [a, b] : Int) > 64) = false := rfl
  have hf : c26 [a, b] = some false := by
    simp only [c26, n26, foldC, e1, cond_false, e2, e3, cond_true]
  simp only [c13, n13, c20e, Option.bind_some, eqD_self, Bool.not_true, cond_false, e4, hf, Bool.not_false, cond_true]
theorem small10 {L : List Int} (hb : Bytes L) (hl : L.length ≤ 200000) : c10 (tbl, L) = some (((stepsN L 4294967295 ^^^ 4294967295 : Nat) : Int), 0) := by
  have h11 := c11_nat (s := 0) hb hl (by decide)
  simp only [c10, n10]
  have : c11 (tbl, (0 : Int), L) = _ := h11
  rw [this, Nat.zero_xor]
  rfl
def tA : List Int := (c12 (255, 1)).getD []
def tB : List Int := (c12 (0, 1)).getD []
def tC : List Int := (c12 (7, 2147483648)).getD []
theorem tA_eq : c12 (255, 1) = some tA := by kernel_rfl
theorem tB_eq : c12 (0, 1) = some tB := by kernel_rfl
theorem tC_eq : c12 (7, 2147483648) = some tC := by kernel_rfl
theorem tA_ne : eqD (.arr 256 (.int .u32)) tA tbl = false := by kernel_rfl
theorem bad13 (l : List (List Int)) : c13 (tB, l) = some (0, 8) := by
  have h : eqD (.arr 256 (.int .u32)) tB tbl = false := by kernel_rfl
  have c20e : c20 () = some tbl := rfl
  simp only [c13, n13, c20e, Option.bind_some, h, Bool.not_false, cond_true]
theorem bad14 : c14 (tC, 0, 0, -1) = some (0, 8) := by kernel_rfl
theorem bad15 : c15 (List.replicate 256 (0 : Int), 0, 0) = some (List.replicate 4 (0 : Int), 8) := by kernel_rfl
theorem many13 : c13 (tbl, List.replicate 65 ([] : List Int)) = some (0, 4) := by kernel_rfl
theorem none13 : c13 (tbl, List.replicate 64 ([] : List Int)) = some (0, 0) := by kernel_rfl
theorem arg14 : c14 (tbl, 1, 1, -1) = some (0, 2) := by kernel_rfl
theorem much14 : c14 (tbl, 1, 1, 200001) = some (0, 2) := by kernel_rfl
theorem same14 : c14 (tbl, 77, 0, 0) = some (77, 0) := by kernel_rfl
theorem zero10 : c10 (tbl, [0]) = some (3523407757, 0) := by kernel_rfl

theorem names_of (mk : (α : Type) → Nat → α → List α) (L : List Int) (R65 R64 : List (List Int)) (h1 : mk Int (Int.toNat 200001) 0 = L) (h65 : mk (List Int) (Int.toNat 65) [] = R65) (h64 : mk (List Int) (Int.toNat 64) [] = R64)
    (hl : L.length = 200001) (hb : Bytes L) (hAA : L.take 100000 ++ L.take 100000 = L.take 200000) (m65 : c13 (tbl, R65) = some (0, 4)) (m64 : c13 (tbl, R64) = some (0, 0)) : n3 mk () = some true := by
  have k1 : (decide ((0 : Int) ≤ 100000) && decide ((100000 : Int) ≤ (List.length L : Int))) = true := by rw [decide_eq_true (by omega), decide_eq_true (by omega)]; rfl
  have k2 : (decide ((0 : Int) ≤ 100001) && decide ((100001 : Int) ≤ (List.length L : Int))) = true := by rw [decide_eq_true (by omega), decide_eq_true (by omega)]; rfl
  have k3 : (decide ((0 : Int) ≤ 200000) && decide ((200000 : Int) ≤ (List.length L : Int))) = true := by rw [decide_eq_true (by omega), decide_eq_true (by omega)]; rfl
  have l1 : (L.take (Int.toNat 100000)).length = 100000 := by rw [List.length_take, hl]; rfl
  have l2 : (L.take (Int.toNat 100001)).length = 100001 := by rw [List.length_take, hl]; rfl
  have hbt : ∀ n, Bytes (L.take n) := fun n c hc => hb c (List.mem_of_mem_take hc)
  have p13 := long13 l1 l2
  have q10 := small10 (hbt (Int.toNat 200000)) (by rw [List.length_take, hl]; decide)
  have q13 := c13_nat (l := [L.take (Int.toNat 100000), L.take (Int.toNat 100000)]) (by
    intro b hb'
    simp only [List.mem_cons, List.not_mem_nil, or_false, or_self] at hb'
    rw [hb']
    exact hbt _) (by show 2 ≤ 64; decide) (by simp only [List.flatten_cons, List.flatten_nil, List.append_nil, List.length_append, l1]; decide)
  have e : [L.take (Int.toNat 100000), L.take (Int.toNat 100000)].flatten = L.take (Int.toNat 200000) := by
    simp only [List.flatten_cons, List.flatten_nil, List.append_nil]
    exact hAA
  rw [e] at q13
  have c9e : c9 () = some tbl := rfl
  unfold n3
  rw [h1, h65, h64]
  simp only [c9e, Option.bind_some, bad10, tA_eq, tbl_ne tA_ne, tB_eq, bad13, tC_eq, bad14, bad15, long10 hl, long11 hl, m65, k1, k2, k3, cond_true, p13, m64, q13, q10, arg14, much14, same14, zero10, beq_self_eq_true, alive_true, -List.reduceReplicate, -Int.reduceToNat]

theorem names (x : Unit) (_ : WfL [] x) : c3 x = some true := by
  refine names_of (fun _ => List.replicate) _ _ _ rfl rfl rfl List.length_replicate ?_ ?_ many13 none13
  · intro c hc
    rw [List.eq_of_mem_replicate hc]
    decide
  · rw [List.take_replicate, List.take_replicate, List.replicate_append_replicate]
    congr 1

/-! ### the law CrcNames -/
namespace crcNames
open Go.ChangeShapes Go.WideShapes Go.ChangeAt Go.RowKit
theorem own : ownKnob Try.prog.godebug = none := by kernel_rfl
theorem laidOut : laidOutB Try.prog = true := by kernel_rfl

set_option maxRecDepth 100000 in
theorem lifted (os : Os) (started : os.Started) (H : Type) (enc : TypeId × Value → H) :
    ReturnsInHanded {} Try.checked os 3 .any (Rows.crcNamesSpec.pre6 enc Try.prog Try.f3 Rows.crcNamesRow.domain false) (Rows.crcNamesSpec.post enc Try.prog Try.f3 false true false false) := by
  refine returnsInHanded_of_change (C := Try.checked) own started (by kernel_rfl) Try.func3
    (ChangeSpec.witness6 (enc := enc) (C := Try.checked) false ⟨#[], #[], []⟩ 8 (by kernel_rfl) (by kernel_rfl) (by kernel_rfl) (by kernel_rfl)) ?_
  intro W base args ds gs before hval0 hW hcnd _
  have hval : ∀ (j : Nat) t v, Try.f3.params[j]? = some t → args[j]? = some v → Value.okWide Try.prog W .any base t v := hval0
  have hW' := hW
  obtain ⟨p, q, hA0, hV, rfl, hfz, hnd⟩ := hW
  have hA : DataW.TrodAll enc Try.prog W 0 (fun _ => true) true Try.f3.params.toList args.toList ds p := hA0
  have hlt : ∀ x ∈ p, x.block < W.heap.size := hA.lt
  have hlen : ds.length = 0 := trodAll_length hA
  obtain ⟨rfl, rfl⟩ := trodVars_none hV
  refine (law_run (fn := F3) (E := E3 (fun _ => List.replicate)) tabOk L3 (fun x w => by
    have h : F3.F x = some true := by
      dsimp only [F3]
      exact names x w
    rw [h]
    rfl) (ts := Try.f3.params.toList) (by kernel_rfl) (by kernel_rfl) (fun j t v h h' => hval j t v (by rw [← Array.getElem?_toList]; exact h) h') hA).mono fun e W' ⟨he, bel⟩ => ?_
  subst he
  have hB := trodAll_below laidOut bel (by kernel_rfl) hA hlt
  match ds, hlen with
  | [], _ => exact ⟨_, rfl, _, _, _, [], _, [], hW', trodAll_mk1 (shut_bool Try.underlying4 _), hB, rfl, bel.frame _, fun h => by cases h⟩

theorem over : Rows.crcNamesRow.holds Try.pinned (OpenSpec.ofChange Rows.crcNamesSpec) :=
  OpenClaim.holds_of_wide 3 Try.f3 rfl rfl rfl rfl rfl rfl rfl ⟨rfl, rfl, rfl, rfl, rfl⟩ rfl rfl rfl rfl rfl (by kernel_rfl) Try.func3 (by kernel_rfl)
    (of_decide_eq_true (by kernel_rfl)) (by unfold Func.isWrapper; first | (rw [if_pos (by decide +kernel)]; kernel_rfl) | (rw [if_neg (by decide +kernel)]; exact ⟨rfl, rfl⟩))
    (fun os started H enc _ => lifted os started H enc)

theorem proved : Rows.CrcNamesSaid := over
end crcNames
#print axioms crcNames.proved
end Go.Proofs.Ytgehhkiighphhaa
