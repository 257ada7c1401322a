/- Package region: loads, stores, bytes, writes and resizing, by the program and by the reference of layer 13: the laws RegionWords and RegionBytes. -/
import Derived.Test.YtlmhokakghbciaaBmpB
set_option linter.unusedVariables false
set_option linter.unusedSimpArgs false
set_option maxRecDepth 100000
namespace Go.Proofs.Ytlmhokakghbciaa
open Go.Lift
namespace Rg

theorem prt_bytes {r : Rgn} (hb : Bytes r.2.1) (a n : Int) : Bytes (prt r a n) := fun c hc => hb c (List.mem_of_mem_drop (List.mem_of_mem_take hc))
theorem prt_get {r : Rgn} {a n : Int} (hn : 0 ≤ n) (h : HasR r a n) {i : Nat} (hi : i < n.toNat) : ∃ h1 : (a - r.1).toNat + i < r.2.1.length, ∃ h2 : i < (prt r a n).length, (prt r a n)[i] = r.2.1[(a - r.1).toNat + i] := by
  have hl := prt_len hn h
  obtain ⟨k1, k2⟩ := h
  refine ⟨by omega, by omega, ?_⟩
  simp [prt]
theorem isWidth_eq (w : Int) : cregion_isWidth w = some (decide (w = 1 ∨ w = 8)) := by
  show nregion_isWidth w = _
  unfold nregion_isWidth
  by_cases h : w = 1
  · subst h; rfl
  · rw [beq_eq_false_iff_ne.2 h, cond_false]
    by_cases h8 : w = 8
    · subst h8; rfl
    · rw [beq_eq_false_iff_ne.2 h8, decide_eq_false (by omega)]
def Wd (w : Int) : Prop := w = 1 ∨ w = 8
instance (w : Int) : Decidable (Wd w) := by unfold Wd; infer_instance
def loadS (r : Rgn) (a w : Int) : Int × Int := if OkR r then (if Wd w then (if HasR r a w then (leW (prt r a w), 0) else (0, 16)) else (0, 2)) else (0, 8)
/-! ### what is written -/
def rsz (bs : List Int) (n : Nat) : List Int := bs.take n ++ List.replicate (n - bs.length) 0
theorem rsz_self (bs : List Int) : rsz bs bs.length = bs := by simp [rsz]
theorem rsz_len (bs : List Int) (n : Nat) : (rsz bs n).length = n := by simp [rsz]; omega
theorem first_eq (bs : List Int) {n : Int} (h0 : 0 ≤ n) (h1 : n ≤ 68719476736) : cregion_first (bs, n) = some (rsz bs n.toNat) := by
  show nregion_first _ (bs, n) = _
  unfold nregion_first
  dsimp only
  rw [decide_eq_true h0, decide_eq_true (Int.le_refl n), decide_eq_true h1, List.length_replicate]
  show some (List.take 0 (List.replicate n.toNat (0 : Int)) ++ (List.take (n.toNat - 0) bs ++ List.drop (0 + Nat.min (n.toNat - 0) bs.length) (List.replicate n.toNat 0))) = _
  rw [List.drop_replicate, Nat.sub_zero, Nat.zero_add]
  refine congrArg some ?_
  rw [List.take_zero, List.nil_append]
  unfold rsz
  congr 2
  have : Nat.min n.toNat bs.length = min n.toNat bs.length := rfl
  rw [this]
  omega
def putB (r : Rgn) (a : Int) (b : List Int) : Rgn := (r.1, (r.2.1.take (a - r.1).toNat ++ (b ++ r.2.1.drop ((a - r.1).toNat + b.length)), ()))
def writeS (r : Rgn) (a : Int) (b : List Int) : Rgn × Int := if OkR r then (if HasR r a b.length then (putB r a b, 0) else (zR, 16)) else (zR, 8)
theorem write_eq (r : Rgn) (a : Int) (b : List Int) : cregion_Write (r, a, b) = some (writeS r a b) := by
  show nregion_Write (r, a, b) = _
  unfold nregion_Write writeS
  dsimp only
  rw [Check_eq, Option.bind_some]
  by_cases h : OkR r
  rotate_left
  · rw [ok8 h, cond_true, if_neg h, if_neg h]
    rfl
  rw [ok0 h, cond_false, if_pos h]
  have h' := h
  obtain ⟨⟨_, h1, h2⟩, h3⟩ := h'
  rw [first_eq _ (by omega) (by omega), Int.toNat_natCast, rsz_self, Option.bind_some]
  by_cases a1 : a < r.1
  · rw [decide_eq_true a1, cond_true, if_neg (fun hh => by have := hh.1; omega)]
    rfl
  rw [decide_eq_false a1, cond_false, show ((r.1, r.2.1, r.2.2) : Rgn) = r from rfl, end_eq h, Option.bind_some]
  by_cases a2 : a > r.1 + r.2.1.length
  · rw [decide_eq_true a2, cond_true, if_neg (fun hh => by have := hh.2; omega)]
    rfl
  rw [decide_eq_false a2, cond_false, w64 (by omega) (by omega), decide_eq_true (p := 0 ≤ a - r.1) (by omega), decide_eq_true (p := a - r.1 ≤ _) (by omega), Bool.and_true, cond_true, List.take_length]
  have hl : (List.drop (a - r.1).toNat r.2.1).length = r.2.1.length - (a - r.1).toNat := by simp
  by_cases a3 : (b.length : Int) > ((List.drop (a - r.1).toNat r.2.1).length : Int)
  · rw [decide_eq_true a3, cond_true, if_neg (fun h => by have := h.2; omega)]
    rfl
  rw [decide_eq_false a3, cond_false, decide_eq_true (p := 0 ≤ (b.length : Int)) (by omega), decide_eq_true (p := (b.length : Int) ≤ _) (by omega), Bool.and_true, cond_true, if_pos ⟨by omega, by omega⟩, Int.toNat_natCast,
    show (a - r.1).toNat + b.length - ((a - r.1).toNat + 0) = b.length by omega, show Nat.min b.length b.length = b.length from Nat.min_self _, List.take_length, Nat.add_zero]
  rfl
theorem set_put {α : Type} (xs : List α) (k : Nat) (ys : List α) (x : α) (h : k + ys.length < xs.length) : List.set (xs.take k ++ (ys ++ xs.drop (k + ys.length))) (k + ys.length) x = xs.take k ++ ((ys ++ [x]) ++ xs.drop (k + ys.length + 1)) := by
  have e1 : (xs.take k).length = k := by rw [List.length_take]; omega
  rw [List.set_append_right _ _ (by omega), e1, Nat.add_sub_cancel_left, List.set_append_right _ _ (Nat.le_refl _), Nat.sub_self, List.drop_eq_getElem_cons h, List.set_cons_zero, List.append_assoc]
  rfl
theorem put_len (xs : List Int) (k : Nat) (ys : List Int) (h : k + ys.length ≤ xs.length) : (xs.take k ++ (ys ++ xs.drop (k + ys.length))).length = xs.length := by
  simp
  omega
theorem lim_ok {l : List Int} (h : l.length ≤ 100000) : (Nat.ble 1 1 && Nat.ble (List.length ([] : List Int) + List.length l) lim) = true := by
  have : 100000 ≤ lim := by decide
  rw [Bool.and_eq_true]
  exact ⟨rfl, Nat.ble_eq_true_of_le (by simp; omega)⟩
theorem leB_take : ∀ (m n : Nat) (v : Int), m ≤ n → (leB n v).take m = leB m v
  | 0, n, v, _ => by simp [leB]
  | m + 1, n + 1, v, h => by rw [leB, leB, List.take_succ_cons, leB_take m n _ (by omega)]
def storeS (r : Rgn) (a w v : Int) : Rgn × Int := if OkR r then (if Wd w ∧ ¬ (w = 1 ∧ v > 255) then (if HasR r a w then (putB r a (leB w.toNat v), 0) else (zR, 16)) else (zR, 2)) else (zR, 8)
theorem store_eq (r : Rgn) (a w : Int) {v : Int} (hv : 0 ≤ v) : cregion_Store (r, a, w, v) = some (storeS r a w v) := by
  show nregion_Store (r, a, w, v) = _
  unfold nregion_Store storeS
  dsimp only
  rw [Check_eq, Option.bind_some]
  by_cases h : OkR r
  rotate_left
  · rw [ok8 h, cond_true, if_neg h, if_neg h]
    rfl
  rw [ok0 h, cond_false, if_pos h, isWidth_eq, Option.bind_some]
  by_cases hw : Wd w
  rotate_left
  · rw [decide_eq_false (show ¬ (w = 1 ∨ w = 8) from hw), Bool.not_false, cond_true, if_neg (fun hh => hw hh.1)]
    rfl
  have hw' := hw
  unfold Wd at hw'
  rw [decide_eq_true hw', Bool.not_true, cond_false]
  have key : ((cregion_split v).bind fun x6 => (bif (decide (0 ≤ w) && decide (w ≤ (List.length x6 : Int))) then (let x7 : List Int := (List.take (Int.toNat w) x6); ((cregion_Write (r, a, x7)).bind fun x8 => (some (x8.1, x8.2)))) else none)) = some (if HasR r a w then (putB r a (leB w.toNat v), 0) else (zR, 16)) := by
    rw [split_eq hv, Option.bind_some, leB_len, decide_eq_true (by omega), decide_eq_true (p := w ≤ _) (by omega), Bool.and_true, cond_true]
    dsimp only
    rw [leB_take _ _ _ (by omega), write_eq, writeS, if_pos h, leB_len, Int.toNat_of_nonneg (by omega)]
    rfl
  rw [key]
  by_cases w1 : w = 1
  · rw [beq_iff_eq.2 w1, cond_true]
    by_cases v1 : v > 255
    · rw [decide_eq_true v1, cond_true, if_neg (show ¬ (Wd w ∧ ¬ (w = 1 ∧ v > 255)) from fun hh => hh.2 ⟨w1, v1⟩)]
      rfl
    · rw [decide_eq_false v1, cond_false, if_pos (show Wd w ∧ ¬ (w = 1 ∧ v > 255) from ⟨hw, fun hh => v1 hh.2⟩)]
  · rw [beq_eq_false_iff_ne.2 w1, cond_false, if_pos (show Wd w ∧ ¬ (w = 1 ∧ v > 255) from ⟨hw, fun hh => w1 hh.1⟩)]

/-! ### Bytes, Resize -/
def bytesS (r : Rgn) (a n : Int) : List Int × Int := if OkR r then (if n < 0 then ([], 2) else if HasR r a n then (prt r a n, 0) else ([], 16)) else ([], 8)
theorem bytes_eq (r : Rgn) (a n : Int) : cregion_Bytes (r, a, n) = some (bytesS r a n) := by
  show nregion_Bytes (r, a, n) = _
  unfold nregion_Bytes bytesS
  dsimp only
  rw [Check_eq, Option.bind_some]
  by_cases h : OkR r
  · rw [ok0 h, cond_false, if_pos h]
    by_cases hn : n < 0
    · rw [decide_eq_true hn, cond_true, if_pos hn]
    rw [decide_eq_false hn, cond_false, if_neg hn]
    refine (part_eq h a (by omega) (some ([], 16)) (fun l => (cregion_first (l, n)).bind fun x6 => some (x6, 0))).trans ?_
    by_cases hh : HasR r a n
    · have hl := prt_len (by omega) hh
      rw [if_pos hh, if_pos hh, first_eq _ (by omega) (by have := hh.1; have := hh.2; have := h.2; omega), ← hl, rsz_self]
      rfl
    · rw [if_neg hh, if_neg hh]
  · rw [ok8 h, cond_true, if_neg h, if_neg h]
def resizeS (r : Rgn) (n : Int) : Rgn × Int := if OkR r then (if 0 ≤ n ∧ n ≤ 20000 then ((r.1, (rsz r.2.1 n.toNat, ())), 0) else (zR, 2)) else (zR, 8)
theorem resize_eq (r : Rgn) (n : Int) : cregion_Resize (r, n) = some (resizeS r n) := by
  show nregion_Resize (r, n) = _
  unfold nregion_Resize resizeS
  dsimp only
  rw [Check_eq, Option.bind_some]
  by_cases h : OkR r
  · rw [ok0 h, cond_false, if_pos h, isCount_eq, Option.bind_some]
    by_cases hn : 0 ≤ n ∧ n ≤ 20000
    · rw [decide_eq_true hn, Bool.not_true, cond_false, if_pos hn, first_eq _ hn.1 (by omega), Option.bind_some]
    · rw [decide_eq_false hn, Bool.not_false, cond_true, if_neg hn]
      rfl
  · rw [ok8 h, cond_true, if_neg h, if_neg h]
    rfl
theorem same_self (r : Rgn) : cref13_Same (r, r) = some true := by
  show nref13_Same (r, r) = _
  unfold nref13_Same
  dsimp only
  rw [beq_self_eq_true, cond_true, eqD_self]
theorem wf_bytes {l : List Int} (w : Wf (.slice (.int .u8)) l) : Bytes l := fun c hc => by
  have := w.2 c hc
  have k0 : IntKind.u8.min ≤ c := this.1
  have k1 : c ≤ IntKind.u8.max := this.2
  simp at k0 k1
  exact ⟨k0, k1⟩
theorem wf_u64 {n : Int} (w : Wf (.int .u64) n) : 0 ≤ n ∧ n ≤ 18446744073709551615 := by
  have k0 : IntKind.u64.min ≤ n := w.1
  have k1 : n ≤ IntKind.u64.max := w.2
  simp at k0 k1
  exact ⟨k0, k1⟩
abbrev Tr : Ty := .pair (.int .u64) (.pair (.slice (.int .u8)) .unit)

end Rg
end Go.Proofs.Ytlmhokakghbciaa

