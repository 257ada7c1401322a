/- The law CrcLinear: the table is linear. -/
import Derived.Test.YtgehhkiighphhaaCrcA
import Derived.Test.YtgehhkiighphhaaRows
import Derived.WalkKit
import Derived.ProofKit
import Derived.OpenShut
import Derived.ChangeOld
import Derived.Below
namespace Go.Proofs.Ytgehhkiighphhaa
open Go.Lift

/-! ### numbers -/
def turnN (x : Nat) : Nat := if x % 2 = 1 then (x / 2) ^^^ 3988292384 else x / 2
def elN (x : Nat) : Nat := turnN (turnN (turnN (turnN (turnN (turnN (turnN (turnN x)))))))
theorem xor_div (a b k : Nat) : (a ^^^ b) / 2 ^ k = (a / 2 ^ k) ^^^ (b / 2 ^ k) := by
  simp only [← Nat.shiftRight_eq_div_pow, Nat.shiftRight_xor_distrib]
theorem xor_mid (a b p q : Nat) : (a ^^^ p) ^^^ (b ^^^ q) = (a ^^^ b) ^^^ (p ^^^ q) := by
  rw [Nat.xor_assoc, Nat.xor_assoc, ← Nat.xor_assoc p, Nat.xor_comm p b, Nat.xor_assoc]
theorem turnN_xor (a b : Nat) : turnN (a ^^^ b) = turnN a ^^^ turnN b := by
  have h := xor_div a b 1
  have hm : (a ^^^ b) % 2 = (a % 2) ^^^ (b % 2) := Nat.xor_mod_two_pow (n := 1)
  simp only [Nat.pow_one] at h
  unfold turnN
  rw [h, hm]
  rcases Nat.mod_two_eq_zero_or_one a with ha | ha <;> rcases Nat.mod_two_eq_zero_or_one b with hb | hb <;> rw [ha, hb]
  · simp
  · simp [Nat.xor_assoc]
  · simp; rw [Nat.xor_assoc, Nat.xor_comm (b / 2), ← Nat.xor_assoc]
  · simp; rw [xor_mid, Nat.xor_self, Nat.xor_zero]
theorem elN_xor (a b : Nat) : elN (a ^^^ b) = elN a ^^^ elN b := by simp only [elN, turnN_xor]
theorem tbl_eq : tbl = (List.range 256).map fun i => ((elN i : Nat) : Int) := by kernel_rfl
theorem tbl_at {a : Nat} (h : a < 256) : nth tbl a = some ((elN a : Nat) : Int) := by
  show tbl[a]? = _
  rw [tbl_eq]
  simp [h]
theorem el_lt {a : Nat} (h : a < 256) : elN a < 4294967296 := by
  have hc : ((List.range 256).all fun i => decide (elN i < 4294967296)) = true := by kernel_rfl
  have := List.all_eq_true.1 hc a (by simpa using h)
  simpa using this
theorem el_hi {a : Nat} (h : a < 256) (h0 : elN a / 2 ^ 24 = 0) : a = 0 := by
  have hc : ((List.range 256).all fun i => !(Nat.beq (elN i / 2 ^ 24) 0) || Nat.beq i 0) = true := by kernel_rfl
  have := List.all_eq_true.1 hc a (by simpa using h)
  rw [h0] at this
  simpa using this
theorem xor_lt {a b : Nat} (ha : a < 256) (hb : b < 256) : a ^^^ b < 256 := Nat.xor_lt_two_pow (n := 8) ha hb
theorem hi_inj {a b : Nat} (ha : a < 256) (hb : b < 256) (h : elN a / 2 ^ 24 = elN b / 2 ^ 24) : a = b := by
  have h1 := el_hi (xor_lt ha hb) (by rw [elN_xor, xor_div, h, Nat.xor_self])
  rw [← Nat.xor_zero a, ← Nat.xor_self b, ← Nat.xor_assoc, h1, Nat.zero_xor]
theorem bits_xor {k : IntKind} {a b : Nat} (hs : k.signed = false) (ha : a < 2 ^ k.bits) (hb : b < 2 ^ k.bits) : bits .xor k (a : Int) (b : Int) = ((a ^^^ b : Nat) : Int) := by
  have h := Nat.xor_lt_two_pow ha hb
  simp only [bits, BitVec.ofInt_natCast, BitVec.toNat_xor, BitVec.toNat_ofNat, Nat.mod_eq_of_lt ha, Nat.mod_eq_of_lt hb]
  simp only [IntKind.wrap, hs]
  simp
  exact_mod_cast Nat.mod_eq_of_lt h
theorem alive_true : c16 () = some true := by kernel_rfl

theorem linear (x : Int × Int) (w : WfL [.int .u8, .int .u8] x) : c8 x = some true := by
  obtain ⟨a', b'⟩ := x
  obtain ⟨⟨ha0, ha1⟩, hb0, hb1⟩ := w
  have m0 : IntKind.u8.min = 0 := by decide
  have m1 : IntKind.u8.max = 255 := by decide
  simp only [m0, m1] at ha0 ha1 hb0 hb1
  obtain ⟨a, rfl⟩ := Int.eq_ofNat_of_zero_le ha0
  obtain ⟨b, rfl⟩ := Int.eq_ofNat_of_zero_le hb0
  have ha : a < 256 := by have : ((a : Int)) ≤ 255 := ha1; omega
  have hb : b < 256 := by have : ((b : Int)) ≤ 255 := hb1; omega
  have hx := xor_lt ha hb
  have e1 : ∀ {n : Nat}, n < 256 → (decide ((0 : Int) ≤ (n : Int)) && decide ((n : Int) < 256)) = true := fun h => by
    rw [decide_eq_true (by omega), decide_eq_true (by omega)]; rfl
  have e2 : (((elN a : Nat) : Int) == ((elN b : Nat) : Int)) = ((a : Int) == (b : Int)) := by
    by_cases h : a = b
    · subst h; simp
    · have : elN a ≠ elN b := fun e => h (hi_inj ha hb (by rw [e]))
      have h1 : ((elN a : Nat) : Int) ≠ ((elN b : Nat) : Int) := by exact_mod_cast this
      have h2 : (a : Int) ≠ (b : Int) := by exact_mod_cast h
      rw [beq_eq_false_iff_ne.2 h1, beq_eq_false_iff_ne.2 h2]
  have ediv : ∀ n : Nat, (n : Int).fdiv (2 ^ 24) = ((n / 2 ^ 24 : Nat) : Int) := fun n => by
    rw [Int.fdiv_eq_ediv_of_nonneg _ (by decide), Int.natCast_ediv]
    rfl
  have e3 : ((((elN a : Nat) : Int).fdiv (2 ^ 24)) == (((elN b : Nat) : Int).fdiv (2 ^ 24))) = ((a : Int) == (b : Int)) := by
    rw [ediv, ediv]
    by_cases h : a = b
    · subst h; simp
    · have : elN a / 2 ^ 24 ≠ elN b / 2 ^ 24 := fun e => h (hi_inj ha hb e)
      have h1 : ((elN a / 2 ^ 24 : Nat) : Int) ≠ ((elN b / 2 ^ 24 : Nat) : Int) := by exact_mod_cast this
      have h2 : (a : Int) ≠ (b : Int) := by exact_mod_cast h
      rw [beq_eq_false_iff_ne.2 h1, beq_eq_false_iff_ne.2 h2]
  have c20e : c20 () = some tbl := rfl
  have b8 : bits .xor .u8 (a : Int) (b : Int) = ((a ^^^ b : Nat) : Int) := bits_xor rfl ha hb
  have b32 : bits .xor .u32 ((elN a : Nat) : Int) ((elN b : Nat) : Int) = ((elN a ^^^ elN b : Nat) : Int) := bits_xor rfl (el_lt ha) (el_lt hb)
  simp only [c8, n8, c20e, Option.bind_some, b8, e1 hx, e1 ha, e1 hb, cond_true, Int.toNat_natCast, tbl_at hx, tbl_at ha, tbl_at hb, b32, elN_xor, beq_self_eq_true, e2, e3, alive_true]

/-! ### the law CrcLinear -/
namespace crcLinear
open Go.ChangeShapes Go.WideShapes Go.ChangeAt Go.RowKit
theorem own : ownKnob Try.prog.godebug = none := by kernel_rfl
theorem laidOut : laidOutB Try.prog = true := by kernel_rfl

set_option maxRecDepth 100000 in
theorem lifted (os : Os) (started : os.Started) (H : Type) (enc : TypeId × Value → H) :
    ReturnsInHanded {} Try.checked os 8 .any (Rows.crcLinearSpec.pre6 enc Try.prog Try.f8 Rows.crcLinearRow.domain false) (Rows.crcLinearSpec.post enc Try.prog Try.f8 false true false false) := by
  refine returnsInHanded_of_change (C := Try.checked) own started (by kernel_rfl) Try.func8
    (ChangeSpec.witness6 (enc := enc) (C := Try.checked) false ⟨#[], #[.int .u8 0, .int .u8 0], []⟩ 8 (by kernel_rfl) (by kernel_rfl) (by kernel_rfl) (by kernel_rfl)) ?_
  intro W base args ds gs before hval0 hW hcnd _
  have hval : ∀ (j : Nat) t v, Try.f8.params[j]? = some t → args[j]? = some v → Value.okWide Try.prog W .any base t v := hval0
  have hW' := hW
  obtain ⟨p, q, hA0, hV, rfl, hfz, hnd⟩ := hW
  have hA : DataW.TrodAll enc Try.prog W 0 (fun _ => true) true Try.f8.params.toList args.toList ds p := hA0
  have hlt : ∀ x ∈ p, x.block < W.heap.size := hA.lt
  have hlen : ds.length = 2 := trodAll_length hA
  obtain ⟨rfl, rfl⟩ := trodVars_none hV
  refine (law_run (fn := F8) (E := E8) tabOk L8 (fun x w => by
    have h : c8 x = some true := linear x w
    show Option.map _ (c8 x) = _
    rw [h]
    rfl) (ts := Try.f8.params.toList) (by kernel_rfl) (by kernel_rfl) (fun j t v h h' => hval j t v (by simpa using h) h') hA).mono fun e W' ⟨he, bel⟩ => ?_
  subst he
  have hB := trodAll_below laidOut bel (by kernel_rfl) hA hlt
  match ds, hlen with
  | [d0, d1], _ => exact ⟨_, rfl, _, _, _, [], _, [], hW', trodAll_mk1 (shut_bool Try.underlying4 _), hB, rfl, bel.frame _, fun h => by cases h⟩

theorem over : Rows.crcLinearRow.holds Try.pinned (OpenSpec.ofChange Rows.crcLinearSpec) :=
  OpenClaim.holds_of_wide 8 Try.f8 rfl rfl rfl rfl rfl rfl rfl ⟨rfl, rfl, rfl, rfl, rfl⟩ rfl rfl rfl rfl rfl (by kernel_rfl) Try.func8 (by kernel_rfl)
    (of_decide_eq_true (by kernel_rfl)) (by unfold Func.isWrapper; first | (rw [if_pos (by decide +kernel)]; kernel_rfl) | (rw [if_neg (by decide +kernel)]; exact ⟨rfl, rfl⟩))
    (fun os started H enc _ => lifted os started H enc)

theorem proved : Rows.CrcLinearSaid := over
end crcLinear
#print axioms crcLinear.proved
end Go.Proofs.Ytgehhkiighphhaa
