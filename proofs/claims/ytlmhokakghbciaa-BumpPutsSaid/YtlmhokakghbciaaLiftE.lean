/- Operations on numbers, bools and strings: what the model gives is what the typed frame says. -/
import Derived.Test.YtlmhokakghbciaaLiftD
import Derived.Laws.BytesArg
import Derived.Laws.IdiomStrings
namespace Go.Lift
open Go.RowKit

theorem tyIs_eq {o : Option Ty} {t : Ty} (h : tyIs o t = true) : o = some t := of_decide_eq_true h

theorem bif_some {α : Type} {c : Bool} {x : Option α} {r : α} (h : (bif c then x else none) = some r) : c = true ∧ x = some r := by
  cases c with
  | true => exact ⟨rfl, h⟩
  | false => cases h
theorem bif_some' {α : Type} {c : Bool} {x : Option α} {r : α} (h : (bif c then none else x) = some r) : c = false ∧ x = some r := by
  cases c with
  | false => exact ⟨rfl, h⟩
  | true => cases h

section
variable {P : Program} {tab : List (TypeId × Ty)}

theorem TOk.int {tid : TypeId} {k : IntKind} (h : TOk P tab tid (.int k)) : P.underlying tid = some (.int k) := by
  have := h.und
  unfold okU at this
  split at this <;> simp_all [okU.okFs]
theorem TOk.bool {tid : TypeId} (h : TOk P tab tid .bool) : P.underlying tid = some .bool := by
  have := h.und
  unfold okU at this
  split at this <;> simp_all [okU.okFs]
theorem TOk.str {tid : TypeId} (h : TOk P tab tid .str) : P.underlying tid = some .string := by
  have := h.und
  unfold okU at this
  split at this <;> simp_all [okU.okFs]
theorem TOk.slice {tid : TypeId} {t : Ty} (h : TOk P tab tid (.slice t)) : ∃ e, P.underlying tid = some (.slice e) ∧ lk e tab = some t := by
  have := h.und
  unfold okU at this
  split at this <;> simp_all [okU.okFs]
theorem TOk.ptr {tid : TypeId} {t : Ty} (h : TOk P tab tid (.ptr t)) : ∃ e, P.underlying tid = some (.pointer e) ∧ lk e tab = some t := by
  have := h.und
  unfold okU at this
  split at this <;> simp_all [okU.okFs]
theorem TOk.arr {tid : TypeId} {n : Nat} {t : Ty} (h : TOk P tab tid (.arr n t)) : ∃ e, P.underlying tid = some (.array n e) ∧ lk e tab = some t ∧ P.eqGuardType P.depth tid = false := by
  have := h.und
  unfold okU at this
  split at this <;> simp_all [okU.okFs]
theorem TOk.pair {tid : TypeId} {a b : Ty} (h : TOk P tab tid (.pair a b)) : ∃ fs, P.underlying tid = some (.struct fs) ∧ (okU.okFs tab fs.toList 0 (.pair a b) = true ∧ P.stoodInHeld tid = false) ∧ P.eqGuardType P.depth tid = false := by
  have := h.und
  unfold okU at this
  split at this <;> simp_all
theorem TOk.unit {tid : TypeId} (h : TOk P tab tid .unit) : ∃ fs, P.underlying tid = some (.struct fs) ∧ (okU.okFs tab fs.toList 0 .unit = true ∧ P.stoodInHeld tid = false) ∧ P.eqGuardType P.depth tid = false := by
  have := h.und
  unfold okU at this
  split at this <;> simp_all

theorem TOk.ifc {tid : TypeId} (h : TOk P tab tid .ifc) : ∃ ms, P.underlying tid = some (.interface ms) := by
  have := h.und
  unfold okU at this
  split at this <;> simp_all [okU.okFs]

theorem TOk.mp {tid : TypeId} {kt vt : Ty} (h : TOk P tab tid (.mp kt vt)) : ∃ k e, P.underlying tid = some (.map k e) ∧ lk k tab = some kt ∧ lk e tab = some vt := by
  have := h.und
  unfold okU at this
  split at this <;> simp_all [okU.okFs]
  rename_i hu _
  exact ⟨_, _, ⟨rfl, rfl⟩, by simp_all⟩
theorem TOk.fn {tid : TypeId} (h : TOk P tab tid .fn) : ∃ ps rs v, P.underlying tid = some (.func ps rs v) := by
  have := h.und
  unfold okU at this
  split at this <;> simp_all [okU.okFs]

theorem TOk.nes {tid : TypeId} {t : Ty} (h : TOk P tab tid (.nes t)) : ∃ e, P.underlying tid = some (.slice e) ∧ lk e tab = some t := by
  have := h.und
  unfold okU at this
  split at this <;> simp_all [okU.okFs]
theorem sl_ok (htab : TabOk P tab) {tid : TypeId} {t : Ty} (h : isSl (lk tid tab) t = true) : ∃ e, P.underlying tid = some (.slice e) ∧ lk e tab = some t := by
  simp only [isSl, Bool.or_eq_true] at h
  rcases h with h | h
  · exact (htab _ _ (tyIs_eq h)).slice
  · exact (htab _ _ (tyIs_eq h)).nes

theorem TOk.isAgg {tid : TypeId} {t : Ty} (h : TOk P tab tid t) (w : World) : (isAgg tid).run P w = .ok t.isAgg w := by
  unfold Go.isAgg
  rw [Sem.run_bind]
  cases t with
  | int k => rw [run_underlying h.int]; rfl
  | bool => rw [run_underlying h.bool]; rfl
  | str => rw [run_underlying h.str]; rfl
  | slice e => obtain ⟨e', h', _⟩ := h.slice; rw [run_underlying h']; rfl
  | arr n e => obtain ⟨e', h', _, _⟩ := h.arr; rw [run_underlying h']; rfl
  | unit => obtain ⟨e', h', _⟩ := h.unit; rw [run_underlying h']; rfl
  | pair a b => obtain ⟨e', h', _⟩ := h.pair; rw [run_underlying h']; rfl
  | ptr e => obtain ⟨e', h', _⟩ := h.ptr; rw [run_underlying h']; rfl
  | ifc => obtain ⟨e', h'⟩ := h.ifc; rw [run_underlying h']; rfl
  | mp kt vt => obtain ⟨k, e, h', _⟩ := h.mp; rw [run_underlying h']; rfl
  | fn => obtain ⟨ps, rs, v, h'⟩ := h.fn; rw [run_underlying h']; rfl
  | nes e => obtain ⟨e', h', _⟩ := h.nes; rw [run_underlying h']; rfl
theorem TOk.sizeOf {tid : TypeId} {t : Ty} (h : TOk P tab tid t) (w : World) : (sizeOf tid).run P w = .ok t.n w := by
  obtain ⟨i, hi, hs, _⟩ := h.info
  simp [Go.sizeOf, typeInfo, hi, hs]
end

theorem tmod_range {lo hi : Int} (m n : Int) (h1 : lo ≤ m) (h2 : m ≤ hi) (h3 : lo ≤ 0) (h4 : 0 ≤ hi) : lo ≤ m.tmod n ∧ m.tmod n ≤ hi := by
  have h := Int.natAbs_tmod m n
  have hle := Nat.mod_le m.natAbs n.natAbs
  rcases Int.le_total 0 m with h0 | h0
  · have a := Int.tmod_nonneg n h0
    omega
  · have a := Int.tmod_nonneg n (show 0 ≤ -m by omega)
    rw [Int.neg_tmod] at a
    omega

theorem shr_range (k : IntKind) (x : Int) (j : Nat) (h : k.min ≤ x ∧ x ≤ k.max) : k.min ≤ x.fdiv (2 ^ j) ∧ x.fdiv (2 ^ j) ≤ k.max := by
  have hp : (0 : Int) < 2 ^ j := Int.pow_pos (by omega)
  have e : x.fdiv (2 ^ j) = x / (2 ^ j) := Int.fdiv_eq_ediv_of_nonneg _ (by omega)
  have m0 : k.min ≤ 0 := by cases k <;> decide
  have m1 : 0 ≤ k.max := by cases k <;> decide
  rw [e]
  rcases Int.le_total 0 x with h0 | h0
  · have a := Int.ediv_nonneg h0 (show (0 : Int) ≤ 2 ^ j by omega)
    have b := Int.ediv_le_self (2 ^ j) h0
    omega
  · have a : x / 2 ^ j ≤ 0 := by have := Int.ediv_le_ediv hp h0; simpa using this
    have b : x ≤ x / 2 ^ j := Int.le_ediv_of_mul_le hp (by
      have : x * 2 ^ j ≤ x * 1 := Int.mul_le_mul_of_nonpos_left h0 (by omega)
      omega)
    omega

section
variable {P : Program} {tab : List (TypeId × Ty)} {M : Own} {w : World} {β : Nat → Nat} {τ : Nat → Value} {L : List (Nat × Bool × TV)}

theorem bits_range (op : BinOp) (k : IntKind) (m n : Int) : k.min ≤ bits op k m n ∧ bits op k m n ≤ k.max := wrap_range k _

theorem iop_sound {op : BinOp} {kx ky : IntKind} {m n : Int} {t : TypeId} {av : AV} (h : iopK op kx m ky n some = some av) (hm : kx.min ≤ m ∧ m ≤ kx.max) :
    ∃ v, (binOp op t (.int kx m) (.int ky n)).run P w = .ok v w ∧ AOk M w β τ L av v := by
  have m0 : kx.min ≤ 0 := by cases kx <;> decide
  have m1 : 0 ≤ kx.max := by cases kx <;> decide
  unfold iopK at h
  cases op with
  | shl =>
    obtain ⟨hc, h⟩ := bif_some' h
    cases h
    simp at hc
    exact ⟨_, by simp [binOp, Op.shift, show ¬ n < 0 by omega], VOk.mk_int (wrap_range _ _), trivial⟩
  | shr =>
    obtain ⟨hc, h⟩ := bif_some' h
    cases h
    simp at hc
    exact ⟨_, by simp [binOp, Op.shift, show ¬ n < 0 by omega], VOk.mk_int (shr_range _ _ _ hm), trivial⟩
  | add =>
    simp only at h
    split at h
    case isFalse => cases h
    rename_i hk
    subst hk
    cases h
    have e : binOp .add t (.int kx m) (.int kx n) = pure (.int kx (kx.wrap (m + n))) := by
      have e1 : binOp .add t (.int kx m) (.int kx n) = Op.intArith .add kx m n := by simp [binOp]
      rw [e1]; rfl
    exact ⟨_, by rw [e]; rfl, VOk.mk_int (wrap_range _ _), trivial⟩
  | sub =>
    simp only at h
    split at h
    case isFalse => cases h
    rename_i hk
    subst hk
    cases h
    have e : binOp .sub t (.int kx m) (.int kx n) = pure (.int kx (kx.wrap (m - n))) := by
      have e1 : binOp .sub t (.int kx m) (.int kx n) = Op.intArith .sub kx m n := by simp [binOp]
      rw [e1]; rfl
    exact ⟨_, by rw [e]; rfl, VOk.mk_int (wrap_range _ _), trivial⟩
  | mul =>
    simp only at h
    split at h
    case isFalse => cases h
    rename_i hk
    subst hk
    cases h
    have e : binOp .mul t (.int kx m) (.int kx n) = pure (.int kx (kx.wrap (m * n))) := by
      have e1 : binOp .mul t (.int kx m) (.int kx n) = Op.intArith .mul kx m n := by simp [binOp]
      rw [e1]; rfl
    exact ⟨_, by rw [e]; rfl, VOk.mk_int (wrap_range _ _), trivial⟩
  | and =>
    simp only at h
    split at h
    case isFalse => cases h
    rename_i hk
    subst hk
    cases h
    have e : binOp .and t (.int kx m) (.int kx n) = pure (.int kx (bits .and kx m n)) := by
      have e1 : binOp .and t (.int kx m) (.int kx n) = Op.intBits .and kx m n := by simp [binOp]
      rw [e1, intBits_and]
    refine ⟨.int kx (bits .and kx m n), by rw [e]; exact Sem.run_pure P w _, ?_, trivial⟩
    exact VOk.mk_int (k := kx) (x := bits .and kx m n) (bits_range .and kx m n)
  | or =>
    simp only at h
    split at h
    case isFalse => cases h
    rename_i hk
    subst hk
    cases h
    have e : binOp .or t (.int kx m) (.int kx n) = pure (.int kx (bits .or kx m n)) := by
      have e1 : binOp .or t (.int kx m) (.int kx n) = Op.intBits .or kx m n := by simp [binOp]
      rw [e1, intBits_or]
    refine ⟨.int kx (bits .or kx m n), by rw [e]; exact Sem.run_pure P w _, ?_, trivial⟩
    exact VOk.mk_int (k := kx) (x := bits .or kx m n) (bits_range .or kx m n)
  | xor =>
    simp only at h
    split at h
    case isFalse => cases h
    rename_i hk
    subst hk
    cases h
    have e : binOp .xor t (.int kx m) (.int kx n) = pure (.int kx (bits .xor kx m n)) := by
      have e1 : binOp .xor t (.int kx m) (.int kx n) = Op.intBits .xor kx m n := by simp [binOp]
      rw [e1, intBits_xor]
    refine ⟨.int kx (bits .xor kx m n), by rw [e]; exact Sem.run_pure P w _, ?_, trivial⟩
    exact VOk.mk_int (k := kx) (x := bits .xor kx m n) (bits_range .xor kx m n)
  | andNot =>
    simp only at h
    split at h
    case isFalse => cases h
    rename_i hk
    subst hk
    cases h
    have e : binOp .andNot t (.int kx m) (.int kx n) = pure (.int kx (bits .andNot kx m n)) := by
      have e1 : binOp .andNot t (.int kx m) (.int kx n) = Op.intBits .andNot kx m n := by simp [binOp]
      rw [e1, intBits_andNot]
    refine ⟨.int kx (bits .andNot kx m n), by rw [e]; exact Sem.run_pure P w _, ?_, trivial⟩
    exact VOk.mk_int (k := kx) (x := bits .andNot kx m n) (bits_range .andNot kx m n)
  | eql =>
    simp only at h
    split at h
    case isFalse => cases h
    rename_i hk
    subst hk
    cases h
    have e : binOp .eql t (.int kx m) (.int kx n) = pure (.bool (m == n)) := by
      have e1 : binOp .eql t (.int kx m) (.int kx n) = Op.intCmp .eql m n := by simp [binOp]
      rw [e1]; rfl
    exact ⟨_, by rw [e]; rfl, VOk.mk_bool, trivial⟩
  | neq =>
    simp only at h
    split at h
    case isFalse => cases h
    rename_i hk
    subst hk
    cases h
    have e : binOp .neq t (.int kx m) (.int kx n) = pure (.bool (m != n)) := by
      have e1 : binOp .neq t (.int kx m) (.int kx n) = Op.intCmp .neq m n := by simp [binOp]
      rw [e1]; rfl
    exact ⟨_, by rw [e]; rfl, VOk.mk_bool, trivial⟩
  | lss =>
    simp only at h
    split at h
    case isFalse => cases h
    rename_i hk
    subst hk
    cases h
    have e : binOp .lss t (.int kx m) (.int kx n) = pure (.bool (decide (m < n))) := by
      have e1 : binOp .lss t (.int kx m) (.int kx n) = Op.intCmp .lss m n := by simp [binOp]
      rw [e1]; rfl
    exact ⟨_, by rw [e]; rfl, VOk.mk_bool, trivial⟩
  | leq =>
    simp only at h
    split at h
    case isFalse => cases h
    rename_i hk
    subst hk
    cases h
    have e : binOp .leq t (.int kx m) (.int kx n) = pure (.bool (decide (m ≤ n))) := by
      have e1 : binOp .leq t (.int kx m) (.int kx n) = Op.intCmp .leq m n := by simp [binOp]
      rw [e1]; rfl
    exact ⟨_, by rw [e]; rfl, VOk.mk_bool, trivial⟩
  | gtr =>
    simp only at h
    split at h
    case isFalse => cases h
    rename_i hk
    subst hk
    cases h
    have e : binOp .gtr t (.int kx m) (.int kx n) = pure (.bool (decide (m > n))) := by
      have e1 : binOp .gtr t (.int kx m) (.int kx n) = Op.intCmp .gtr m n := by simp [binOp]
      rw [e1]; rfl
    exact ⟨_, by rw [e]; rfl, VOk.mk_bool, trivial⟩
  | geq =>
    simp only at h
    split at h
    case isFalse => cases h
    rename_i hk
    subst hk
    cases h
    have e : binOp .geq t (.int kx m) (.int kx n) = pure (.bool (decide (m ≥ n))) := by
      have e1 : binOp .geq t (.int kx m) (.int kx n) = Op.intCmp .geq m n := by simp [binOp]
      rw [e1]; rfl
    exact ⟨_, by rw [e]; rfl, VOk.mk_bool, trivial⟩
  | quo =>
    simp only at h
    split at h
    case isFalse => cases h
    rename_i hk
    subst hk
    obtain ⟨hc, h⟩ := bif_some' h
    cases h
    simp at hc
    have e : binOp .quo t (.int kx m) (.int kx n) = pure (.int kx (kx.wrap (m.tdiv n))) := by
      have e1 : binOp .quo t (.int kx m) (.int kx n) = Op.intDiv .quo kx m n := by simp [binOp]
      rw [e1]; simp [Op.intDiv, hc]
    exact ⟨_, by rw [e]; rfl, VOk.mk_int (wrap_range _ _), trivial⟩
  | rem =>
    simp only at h
    split at h
    case isFalse => cases h
    rename_i hk
    subst hk
    obtain ⟨hc, h⟩ := bif_some' h
    cases h
    simp at hc
    have e : binOp .rem t (.int kx m) (.int kx n) = pure (.int kx (m.tmod n)) := by
      have e1 : binOp .rem t (.int kx m) (.int kx n) = Op.intDiv .rem kx m n := by simp [binOp]
      rw [e1]; simp [Op.intDiv, hc]
    exact ⟨_, by rw [e]; rfl, VOk.mk_int (tmod_range _ _ hm.1 hm.2 m0 m1), trivial⟩
end
end Go.Lift
