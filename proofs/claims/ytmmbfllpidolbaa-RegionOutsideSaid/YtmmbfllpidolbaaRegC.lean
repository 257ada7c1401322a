/- Package region: loads, stores, bytes, writes and resizing, by the program and by the reference of layer 13: the laws RegionWords and RegionBytes. -/
import Derived.Test.YtmmbfllpidolbaaRegB
set_option linter.unusedVariables false
set_option linter.unusedSimpArgs false
set_option maxRecDepth 100000
namespace Go.Proofs.Ytmmbfllpidolbaa
open Go.Lift
namespace Rg

theorem prt_bytes {r : Rgn} (hb : Bytes r.2.1) (a n : Int) : Bytes (prt r a n) := fun c hc => hb c (List.mem_of_mem_drop (List.mem_of_mem_take hc))
theorem prt_get {r : Rgn} {a n : Int} (hn : 0 ≤ n) (h : HasR r a n) {i : Nat} (hi : i < n.toNat) : ∃ h1 : (a - r.1).toNat + i < r.2.1.length, ∃ h2 : i < (prt r a n).length, (prt r a n)[i] = r.2.1[(a - r.1).toNat + i] := by
  have hl := prt_len hn h
  obtain ⟨k1, k2⟩ := h
  refine ⟨by omega, by omega, ?_⟩
  simp [prt]
theorem isWidth_eq (w : Int) : cregion_isWidth w = some (decide (w = 1 ∨ w = 8)) := by
  show nregion_isWidth w = _
  unfold nregion_isWidth
  by_cases h : w = 1
  · subst h; rfl
  · rw [beq_eq_false_iff_ne.2 h, cond_false]
    by_cases h8 : w = 8
    · subst h8; rfl
    · rw [beq_eq_false_iff_ne.2 h8, decide_eq_false (by omega)]
def Wd (w : Int) : Prop := w = 1 ∨ w = 8
instance (w : Int) : Decidable (Wd w) := by unfold Wd; infer_instance
def loadS (r : Rgn) (a w : Int) : Int × Int := if OkR r then (if Wd w then (if HasR r a w then (leW (prt r a w), 0) else (0, 16)) else (0, 2)) else (0, 8)
theorem load_eq {r : Rgn} (hb : Bytes r.2.1) (a w : Int) : cregion_Load (r, a, w) = some (loadS r a w) := by
  show nregion_Load (r, a, w) = _
  unfold nregion_Load loadS
  dsimp only
  rw [Check_eq, Option.bind_some]
  by_cases h : OkR r
  · rw [ok0 h, cond_false, if_pos h, isWidth_eq, Option.bind_some]
    by_cases hw : Wd w
    · have hw' := hw
      unfold Wd at hw'
      rw [decide_eq_true hw', Bool.not_true, cond_false, if_pos hw]
      refine (part_eq h a (n := w) (by omega) (some (0, 16)) (fun l => (cregion_join l).bind fun x7 => some (x7, 0))).trans ?_
      by_cases hh : HasR r a w
      · rw [if_pos hh, if_pos hh, join_eq (prt_bytes hb a w) (by rw [prt_len (by omega) hh]; omega)]
        rfl
      · rw [if_neg hh, if_neg hh]
    · rw [decide_eq_false (show ¬ (w = 1 ∨ w = 8) from hw), Bool.not_false, cond_true, if_neg hw]
  · rw [ok8 h, cond_true, if_neg h, if_neg h]

theorem rWord_eq {r : Rgn} (hr : OkR r) (hb : Bytes r.2.1) {a w : Int} (hw0 : 0 ≤ w) (hw : w ≤ 8) (h : HasR r a w) : cref13_Word (r, a, w) = some (leW (prt r a w)) := by
  show nref13_Word (iterV (gref13_Word_0 big) big) (r, a, w) = _
  unfold nref13_Word
  have hl := prt_len hw0 h
  have e0 : (a, w, (0 : Int), (1 : Int), (0 : Int), r) = (fun i : Nat => (a, w, leW ((prt r a w).take i), (256 : Int) ^ i % 18446744073709551616, (i : Int), r)) 0 := rfl
  dsimp only
  rw [e0]
  refine loop_det (mk := fun i => (a, w, leW ((prt r a w).take i), (256 : Int) ^ i % 18446744073709551616, (i : Int), r)) (n := w.toNat) ?_ ?_ w.toNat 0 big (by omega) (small (by omega))
  · intro self i hi
    show href13_Word_0 self _ = _
    unfold href13_Word_0
    dsimp only
    obtain ⟨k1, k2, k3⟩ := prt_get hw0 h hi
    obtain ⟨⟨_, h1, h2⟩, h3⟩ := hr
    obtain ⟨h4, h5⟩ := h
    have hx := hb _ (List.getElem_mem k1)
    have hbt : Bytes ((prt r a w).take (i + 1)) := fun c hc => prt_bytes hb a w c (List.mem_of_mem_take hc)
    have hd := leW_bd hbt
    rw [show ((prt r a w).take (i + 1)).length = i + 1 by rw [List.length_take]; omega] at hd
    have hd1 := (leW_bd (l := (prt r a w).take i) (fun c hc => prt_bytes hb a w c (List.mem_of_mem_take hc))).1
    have hp := pow_bd (i := i) (by omega)
    have hpp := pow_pos' i
    have hs : leW ((prt r a w).take (i + 1)) = leW ((prt r a w).take i) + r.2.1[(a - r.1).toNat + i] * 256 ^ i := by
      rw [List.take_succ_eq_append_getElem k2, leW_snoc, k3, show ((prt r a w).take i).length = i by rw [List.length_take]; omega]
    rw [Int.pow_succ] at hd
    rw [hs] at hd ⊢
    have hm0 : 0 ≤ r.2.1[(a - r.1).toNat + i] * 256 ^ i := Int.mul_nonneg hx.1 (Int.le_of_lt hpp)
    rw [decide_eq_true (by omega), cond_true, w64 (n := a - r.1) (by omega) (by omega), w64 (n := (i : Int)) (by omega) (by omega), w64 (n := a - r.1 + i) (by omega) (by omega), show a - r.1 + (i : Int) = (((a - r.1).toNat + i : Nat) : Int) by omega, getI_at k1, Option.bind_some,
      w64 (n := r.2.1[(a - r.1).toNat + i]) hx.1 (by omega), Int.emod_eq_of_lt (Int.le_of_lt hpp) (show (256 : Int) ^ i < 18446744073709551616 by omega), Int.mul_comm (256 ^ i) (r.2.1[(a - r.1).toNat + i]), w64 hm0 (by omega), w64 (n := leW _ + _) (by omega) (by omega), wrap_u64, i64 (by omega) (by omega), ← Int.pow_succ]
    rfl
  · intro self
    show href13_Word_0 self _ = _
    unfold href13_Word_0
    dsimp only
    rw [decide_eq_false (by omega), cond_false, List.take_of_length_le (by omega)]
theorem rLoad_eq {r : Rgn} (hb : Bytes r.2.1) (a w : Int) : cref13_Load (r, a, w) = some (loadS r a w) := by
  show nref13_Load (r, a, w) = _
  unfold nref13_Load loadS
  dsimp only
  rw [rCheck_eq, Option.bind_some]
  by_cases h : OkR r
  rotate_left
  · rw [ok8 h, cond_true, if_neg h, if_neg h]
    rfl
  rw [ok0 h, cond_false, if_pos h]
  have key : ∀ w : Int, 0 ≤ w → w ≤ 8 → ((cref13_In (r, a, w)).bind fun x3 => (bif (!x3) then (some ((0 : Int), (16 : Int))) else ((cref13_Word (r, a, w)).bind fun x4 => (some (x4, (0 : Int)))))) = some (if HasR r a w then (leW (prt r a w), 0) else (0, 16)) := by
    intro w h0 h8
    rw [rIn_eq h a h0, Option.bind_some]
    by_cases hh : HasR r a w
    · rw [decide_eq_true hh, Bool.not_true, cond_false, rWord_eq h hb h0 h8 hh, if_pos hh]
      rfl
    · rw [decide_eq_false hh, Bool.not_false, cond_true, if_neg hh]
  by_cases w1 : w = 1
  · subst w1
    rw [show ((1 : Int) != 1) = false from rfl, cond_false, key 1 (by omega) (by omega), if_pos (show Wd 1 from .inl rfl)]
  rw [bne_iff_ne.2 w1, cond_true]
  by_cases w8 : w = 8
  · subst w8
    rw [show ((8 : Int) != 8) = false from rfl, cond_false, key 8 (by omega) (by omega), if_pos (show Wd 8 from .inr rfl)]
  rw [bne_iff_ne.2 w8, cond_true, if_neg (fun hw => by unfold Wd at hw; omega)]

/-! ### what is written -/
def rsz (bs : List Int) (n : Nat) : List Int := bs.take n ++ List.replicate (n - bs.length) 0
theorem rsz_self (bs : List Int) : rsz bs bs.length = bs := by simp [rsz]
theorem rsz_len (bs : List Int) (n : Nat) : (rsz bs n).length = n := by simp [rsz]; omega
theorem first_eq (bs : List Int) {n : Int} (h0 : 0 ≤ n) (h1 : n ≤ 68719476736) : cregion_first (bs, n) = some (rsz bs n.toNat) := by
  show nregion_first _ (bs, n) = _
  unfold nregion_first
  dsimp only
  rw [decide_eq_true h0, decide_eq_true (Int.le_refl n), decide_eq_true h1, List.length_replicate]
  show some (List.take 0 (List.replicate n.toNat (0 : Int)) ++ (List.take (n.toNat - 0) bs ++ List.drop (0 + Nat.min (n.toNat - 0) bs.length) (List.replicate n.toNat 0))) = _
  rw [List.drop_replicate, Nat.sub_zero, Nat.zero_add]
  refine congrArg some ?_
  rw [List.take_zero, List.nil_append]
  unfold rsz
  congr 2
  have : Nat.min n.toNat bs.length = min n.toNat bs.length := rfl
  rw [this]
  omega
def putB (r : Rgn) (a : Int) (b : List Int) : Rgn := (r.1, (r.2.1.take (a - r.1).toNat ++ (b ++ r.2.1.drop ((a - r.1).toNat + b.length)), ()))
def writeS (r : Rgn) (a : Int) (b : List Int) : Rgn × Int := if OkR r then (if HasR r a b.length then (putB r a b, 0) else (zR, 16)) else (zR, 8)
theorem write_eq (r : Rgn) (a : Int) (b : List Int) : cregion_Write (r, a, b) = some (writeS r a b) := by
  show nregion_Write (r, a, b) = _
  unfold nregion_Write writeS
  dsimp only
  rw [Check_eq, Option.bind_some]
  by_cases h : OkR r
  rotate_left
  · rw [ok8 h, cond_true, if_neg h, if_neg h]
    rfl
  rw [ok0 h, cond_false, if_pos h]
  have h' := h
  obtain ⟨⟨_, h1, h2⟩, h3⟩ := h'
  rw [first_eq _ (by omega) (by omega), Int.toNat_natCast, rsz_self, Option.bind_some]
  by_cases a1 : a < r.1
  · rw [decide_eq_true a1, cond_true, if_neg (fun hh => by have := hh.1; omega)]
    rfl
  rw [decide_eq_false a1, cond_false, show ((r.1, r.2.1, r.2.2) : Rgn) = r from rfl, end_eq h, Option.bind_some]
  by_cases a2 : a > r.1 + r.2.1.length
  · rw [decide_eq_true a2, cond_true, if_neg (fun hh => by have := hh.2; omega)]
    rfl
  rw [decide_eq_false a2, cond_false, w64 (by omega) (by omega), decide_eq_true (p := 0 ≤ a - r.1) (by omega), decide_eq_true (p := a - r.1 ≤ _) (by omega), Bool.and_true, cond_true, List.take_length]
  have hl : (List.drop (a - r.1).toNat r.2.1).length = r.2.1.length - (a - r.1).toNat := by simp
  by_cases a3 : (b.length : Int) > ((List.drop (a - r.1).toNat r.2.1).length : Int)
  · rw [decide_eq_true a3, cond_true, if_neg (fun h => by have := h.2; omega)]
    rfl
  rw [decide_eq_false a3, cond_false, decide_eq_true (p := 0 ≤ (b.length : Int)) (by omega), decide_eq_true (p := (b.length : Int) ≤ _) (by omega), Bool.and_true, cond_true, if_pos ⟨by omega, by omega⟩, Int.toNat_natCast,
    show (a - r.1).toNat + b.length - ((a - r.1).toNat + 0) = b.length by omega, show Nat.min b.length b.length = b.length from Nat.min_self _, List.take_length, Nat.add_zero]
  rfl
theorem set_put {α : Type} (xs : List α) (k : Nat) (ys : List α) (x : α) (h : k + ys.length < xs.length) : List.set (xs.take k ++ (ys ++ xs.drop (k + ys.length))) (k + ys.length) x = xs.take k ++ ((ys ++ [x]) ++ xs.drop (k + ys.length + 1)) := by
  have e1 : (xs.take k).length = k := by rw [List.length_take]; omega
  rw [List.set_append_right _ _ (by omega), e1, Nat.add_sub_cancel_left, List.set_append_right _ _ (Nat.le_refl _), Nat.sub_self, List.drop_eq_getElem_cons h, List.set_cons_zero, List.append_assoc]
  rfl
theorem put_len (xs : List Int) (k : Nat) (ys : List Int) (h : k + ys.length ≤ xs.length) : (xs.take k ++ (ys ++ xs.drop (k + ys.length))).length = xs.length := by
  simp
  omega
theorem lim_ok {l : List Int} (h : l.length ≤ 100000) : (Nat.ble 1 1 && Nat.ble (List.length ([] : List Int) + List.length l) lim) = true := by
  have : 100000 ≤ lim := by decide
  rw [Bool.and_eq_true]
  exact ⟨rfl, Nat.ble_eq_true_of_le (by simp; omega)⟩
theorem rWrite_eq (r : Rgn) (a : Int) (b : List Int) : cref13_Write (r, a, b) = some (writeS r a b) := by
  show nref13_Write (iterV (gref13_Write_0 big) big) (r, a, b) = _
  unfold nref13_Write writeS
  dsimp only
  rw [rCheck_eq, Option.bind_some]
  by_cases h : OkR r
  rotate_left
  · rw [ok8 h, cond_true, if_neg h, if_neg h]
    rfl
  rw [ok0 h, cond_false, if_pos h, rIn_eq h a (by omega), Option.bind_some]
  by_cases hh : HasR r a b.length
  rotate_left
  · rw [decide_eq_false hh, Bool.not_false, cond_true, if_neg hh]
    rfl
  rw [decide_eq_true hh, Bool.not_true, cond_false, if_pos hh, lim_ok (by have := h.2; omega), cond_true]
  have h' := h
  obtain ⟨⟨_, h1, h2⟩, h3⟩ := h'
  obtain ⟨h4, h5⟩ := hh
  have e0 : (a, b, (0 : Int), r, (0 : Int), (), ([] : List Int), r.1, List.append ([] : List Int) r.2.1) = (fun i : Nat => (a, b, (i : Int), r, (0 : Int), (), ([] : List Int), r.1, r.2.1.take (a - r.1).toNat ++ (b.take i ++ r.2.1.drop ((a - r.1).toNat + i)))) 0 := by
    simp
  rw [e0]
  refine loop_det (mk := fun i : Nat => (a, b, (i : Int), r, (0 : Int), (), ([] : List Int), r.1, r.2.1.take (a - r.1).toNat ++ (b.take i ++ r.2.1.drop ((a - r.1).toNat + i)))) (n := b.length) ?_ ?_ b.length 0 big (by omega) (small (by omega))
  · intro self i hi
    show href13_Write_0 self _ = _
    unfold href13_Write_0
    dsimp only
    have hbl : (b.take i).length = i := by rw [List.length_take]; omega
    have hlen := put_len r.2.1 (a - r.1).toNat (b.take i) (by omega)
    have hset := set_put r.2.1 (a - r.1).toNat (b.take i) b[i] (by omega)
    rw [hbl] at hlen hset
    rw [decide_eq_true (by omega), cond_true, w64 (n := a - r.1) (by omega) (by omega), i64 (n := a - r.1) (by omega) (by omega), i64 (n := a - r.1 + i) (by omega) (by omega), getI_at hi, Option.bind_some, decide_eq_true (p := 0 ≤ a - r.1 + (i : Int)) (by omega), hlen, decide_eq_true (p := a - r.1 + (i : Int) < _) (by omega), Bool.and_true, cond_true,
      show (a - r.1 + (i : Int)).toNat = (a - r.1).toNat + i by omega, hset, i64 (by omega) (by omega), List.take_succ_eq_append_getElem hi]
    rfl
  · intro self
    show href13_Write_0 self _ = _
    unfold href13_Write_0
    dsimp only
    rw [decide_eq_false (by omega), cond_false, List.take_length]
    rfl
theorem leB_take : ∀ (m n : Nat) (v : Int), m ≤ n → (leB n v).take m = leB m v
  | 0, n, v, _ => by simp [leB]
  | m + 1, n + 1, v, h => by rw [leB, leB, List.take_succ_cons, leB_take m n _ (by omega)]
def storeS (r : Rgn) (a w v : Int) : Rgn × Int := if OkR r then (if Wd w ∧ ¬ (w = 1 ∧ v > 255) then (if HasR r a w then (putB r a (leB w.toNat v), 0) else (zR, 16)) else (zR, 2)) else (zR, 8)
theorem store_eq (r : Rgn) (a w : Int) {v : Int} (hv : 0 ≤ v) : cregion_Store (r, a, w, v) = some (storeS r a w v) := by
  show nregion_Store (r, a, w, v) = _
  unfold nregion_Store storeS
  dsimp only
  rw [Check_eq, Option.bind_some]
  by_cases h : OkR r
  rotate_left
  · rw [ok8 h, cond_true, if_neg h, if_neg h]
    rfl
  rw [ok0 h, cond_false, if_pos h, isWidth_eq, Option.bind_some]
  by_cases hw : Wd w
  rotate_left
  · rw [decide_eq_false (show ¬ (w = 1 ∨ w = 8) from hw), Bool.not_false, cond_true, if_neg (fun hh => hw hh.1)]
    rfl
  have hw' := hw
  unfold Wd at hw'
  rw [decide_eq_true hw', Bool.not_true, cond_false]
  have key : ((cregion_split v).bind fun x6 => (bif (decide (0 ≤ w) && decide (w ≤ (List.length x6 : Int))) then (let x7 : List Int := (List.take (Int.toNat w) x6); ((cregion_Write (r, a, x7)).bind fun x8 => (some (x8.1, x8.2)))) else none)) = some (if HasR r a w then (putB r a (leB w.toNat v), 0) else (zR, 16)) := by
    rw [split_eq hv, Option.bind_some, leB_len, decide_eq_true (by omega), decide_eq_true (p := w ≤ _) (by omega), Bool.and_true, cond_true]
    dsimp only
    rw [leB_take _ _ _ (by omega), write_eq, writeS, if_pos h, leB_len, Int.toNat_of_nonneg (by omega)]
    rfl
  rw [key]
  by_cases w1 : w = 1
  · rw [beq_iff_eq.2 w1, cond_true]
    by_cases v1 : v > 255
    · rw [decide_eq_true v1, cond_true, if_neg (show ¬ (Wd w ∧ ¬ (w = 1 ∧ v > 255)) from fun hh => hh.2 ⟨w1, v1⟩)]
      rfl
    · rw [decide_eq_false v1, cond_false, if_pos (show Wd w ∧ ¬ (w = 1 ∧ v > 255) from ⟨hw, fun hh => v1 hh.2⟩)]
  · rw [beq_eq_false_iff_ne.2 w1, cond_false, if_pos (show Wd w ∧ ¬ (w = 1 ∧ v > 255) from ⟨hw, fun hh => w1 hh.1⟩)]

theorem rStore_loop {r : Rgn} (h : OkR r) {a w v : Int} (hw0 : 0 ≤ w) (hw8 : w ≤ 8) (hh : HasR r a w) (hv0 : 0 ≤ v) (hv1 : v ≤ 18446744073709551615) :
    iterV (gref13_Store_0 big) big (a, w, v, (0 : Int), r.1, List.append ([] : List Int) r.2.1, (0 : Int), (), ([] : List Int), r.1) = some (putB r a (leB w.toNat v), 0) := by
  obtain ⟨⟨_, h1, h2⟩, h3⟩ := h
  obtain ⟨h4, h5⟩ := hh
  have e0 : (a, w, v, (0 : Int), r.1, List.append ([] : List Int) r.2.1, (0 : Int), (), ([] : List Int), r.1) = (fun i : Nat => (a, w, v / 256 ^ i, (i : Int), r.1, r.2.1.take (a - r.1).toNat ++ (leB i v ++ r.2.1.drop ((a - r.1).toNat + i)), (0 : Int), (), ([] : List Int), r.1)) 0 := by
    simp [leB]
  rw [e0]
  refine loop_det (mk := fun i : Nat => (a, w, v / 256 ^ i, (i : Int), r.1, r.2.1.take (a - r.1).toNat ++ (leB i v ++ r.2.1.drop ((a - r.1).toNat + i)), (0 : Int), (), ([] : List Int), r.1)) (n := w.toNat) ?_ ?_ w.toNat 0 big (by omega) (small (by omega))
  · intro self i hi
    show href13_Store_0 self _ = _
    unfold href13_Store_0
    dsimp only
    have hvi : 0 ≤ v / 256 ^ i := Int.ediv_nonneg hv0 (Int.le_of_lt (pow_pos' i))
    have hvm : v / 256 ^ i ≤ v := Int.ediv_le_self _ hv0
    have hlen := put_len r.2.1 (a - r.1).toNat (leB i v) (by rw [leB_len]; omega)
    have hset := set_put r.2.1 (a - r.1).toNat (leB i v) (v / 256 ^ i % 256) (by rw [leB_len]; omega)
    rw [leB_len] at hlen hset
    rw [decide_eq_true (by omega), cond_true, w64 (n := a - r.1) (by omega) (by omega), w64 (n := (i : Int)) (by omega) (by omega), w64 (n := a - r.1 + i) (by omega) (by omega), decide_eq_true (p := 0 ≤ a - r.1 + (i : Int)) (by omega), hlen, decide_eq_true (p := a - r.1 + (i : Int) < _) (by omega), Bool.and_true, cond_true,
      show (a - r.1 + (i : Int)).toNat = (a - r.1).toNat + i by omega, Int.tmod_eq_emod_of_nonneg hvi, wrap_u8, Int.emod_emod_of_dvd _ (Int.dvd_refl 256), hset, i64 (by omega) (by omega), Int.tdiv_eq_ediv_of_nonneg hvi, w64 (n := v / 256 ^ i / 256) (by omega) (by omega), ← leB_snoc, Int.ediv_ediv, if_neg (fun h => absurd h.1 (Int.not_lt.2 (Int.le_of_lt (pow_pos' i)))), Int.sub_zero, ← Int.pow_succ]
    rfl
  · intro self
    show href13_Store_0 self _ = _
    unfold href13_Store_0
    dsimp only
    rw [decide_eq_false (by omega), cond_false]
    unfold putB
    rw [leB_len]
theorem rStore_eq (r : Rgn) (a w : Int) {v : Int} (hv0 : 0 ≤ v) (hv1 : v ≤ 18446744073709551615) : cref13_Store (r, a, w, v) = some (storeS r a w v) := by
  show nref13_Store (iterV (gref13_Store_0 big) big) (r, a, w, v) = _
  unfold nref13_Store storeS
  dsimp only
  rw [rCheck_eq, Option.bind_some]
  by_cases h : OkR r
  rotate_left
  · rw [ok8 h, cond_true, if_neg h, if_neg h]
    rfl
  rw [ok0 h, cond_false, if_pos h]
  have key : ∀ w : Int, 0 ≤ w → w ≤ 8 → ((cref13_In (r, a, w)).bind fun x6 => (bif (!x6) then (let x7 : Rgn := ((0 : Int), (([] : List Int), ())); (some (x7, (16 : Int)))) else (bif (Nat.ble 1 1 && Nat.ble (List.length ([] : List Int) + List.length r.2.1) lim) then (let x8 : List Int := (List.append ([] : List Int) r.2.1); (iterV (gref13_Store_0 big) big (a, w, v, (0 : Int), r.1, x8, (0 : Int), (), ([] : List Int), r.1))) else none))) = some (if HasR r a w then (putB r a (leB w.toNat v), 0) else (zR, 16)) := by
    intro w h0 h8
    rw [rIn_eq h a h0, Option.bind_some]
    by_cases hh : HasR r a w
    · rw [decide_eq_true hh, Bool.not_true, cond_false, lim_ok (by have := h.2; omega), cond_true, if_pos hh]
      exact rStore_loop h h0 h8 hh hv0 hv1
    · rw [decide_eq_false hh, Bool.not_false, cond_true, if_neg hh]
      rfl
  by_cases w1 : w = 1
  · subst w1
    rw [show ((1 : Int) != 1) = false from rfl, cond_false, show ((1 : Int) == 1) = true from rfl, cond_true]
    by_cases v1 : v > 255
    · rw [decide_eq_true v1, cond_true, if_neg (fun hh => hh.2 ⟨rfl, v1⟩)]
      rfl
    · rw [decide_eq_false v1, cond_false, if_pos ⟨.inl rfl, fun hh => v1 hh.2⟩]
      exact key 1 (by omega) (by omega)
  rw [bne_iff_ne.2 w1, cond_true]
  by_cases w8 : w = 8
  · subst w8
    rw [show ((8 : Int) != 8) = false from rfl, cond_false, show ((8 : Int) == 1) = false from rfl, cond_false, if_pos ⟨.inr rfl, fun hh => w1 hh.1⟩]
    exact key 8 (by omega) (by omega)
  rw [bne_iff_ne.2 w8, cond_true, if_neg (fun hh => by have := hh.1; unfold Wd at this; omega)]
  rfl

/-! ### Bytes, Resize -/
def bytesS (r : Rgn) (a n : Int) : List Int × Int := if OkR r then (if n < 0 then ([], 2) else if HasR r a n then (prt r a n, 0) else ([], 16)) else ([], 8)
theorem bytes_eq (r : Rgn) (a n : Int) : cregion_Bytes (r, a, n) = some (bytesS r a n) := by
  show nregion_Bytes (r, a, n) = _
  unfold nregion_Bytes bytesS
  dsimp only
  rw [Check_eq, Option.bind_some]
  by_cases h : OkR r
  · rw [ok0 h, cond_false, if_pos h]
    by_cases hn : n < 0
    · rw [decide_eq_true hn, cond_true, if_pos hn]
    rw [decide_eq_false hn, cond_false, if_neg hn]
    refine (part_eq h a (by omega) (some ([], 16)) (fun l => (cregion_first (l, n)).bind fun x6 => some (x6, 0))).trans ?_
    by_cases hh : HasR r a n
    · have hl := prt_len (by omega) hh
      rw [if_pos hh, if_pos hh, first_eq _ (by omega) (by have := hh.1; have := hh.2; have := h.2; omega), ← hl, rsz_self]
      rfl
    · rw [if_neg hh, if_neg hh]
  · rw [ok8 h, cond_true, if_neg h, if_neg h]
theorem rBytes_eq (r : Rgn) (a n : Int) : cref13_Bytes (r, a, n) = some (bytesS r a n) := by
  show nref13_Bytes (r, a, n) = _
  unfold nref13_Bytes bytesS
  dsimp only
  rw [rHas_eq, Option.bind_some, hasS]
  by_cases h : OkR r
  · rw [if_pos h, if_pos h]
    by_cases hn : n < 0
    · rw [if_pos hn, if_pos hn]
      rfl
    rw [if_neg hn, if_neg hn]
    dsimp only
    rw [show ((0 : Int) != 0) = false from rfl, cond_false]
    by_cases hh : HasR r a n
    · rw [decide_eq_true hh, Bool.not_true, cond_false, if_pos hh]
      have h' := h
      obtain ⟨⟨_, h1, h2⟩, h3⟩ := h'
      obtain ⟨h4, h5⟩ := hh
      show (nref13_Cut (r, a, n)).bind _ = _
      unfold nref13_Cut
      dsimp only
      rw [w64 (n := a - r.1) (by omega) (by omega), i64 (n := a - r.1) (by omega) (by omega), i64 (n := a - r.1 + n) (by omega) (by omega), decide_eq_true (p := 0 ≤ a - r.1) (by omega), decide_eq_true (p := a - r.1 ≤ a - r.1 + n) (by omega), decide_eq_true (p := a - r.1 + n ≤ _) (by omega), Bool.and_true, Bool.and_true, cond_true, lim_ok (by simp; omega), cond_true, Option.bind_some]
      refine congrArg some (Prod.ext ?_ rfl)
      show List.drop (a - r.1).toNat (List.take (a - r.1 + n).toNat r.2.1) = _
      rw [List.drop_take]
      unfold prt
      congr 1
      omega
    · rw [decide_eq_false hh, Bool.not_false, cond_true, if_neg hh]
  · rw [if_neg h, if_neg h]
    rfl
def resizeS (r : Rgn) (n : Int) : Rgn × Int := if OkR r then (if 0 ≤ n ∧ n ≤ 20000 then ((r.1, (rsz r.2.1 n.toNat, ())), 0) else (zR, 2)) else (zR, 8)
theorem resize_eq (r : Rgn) (n : Int) : cregion_Resize (r, n) = some (resizeS r n) := by
  show nregion_Resize (r, n) = _
  unfold nregion_Resize resizeS
  dsimp only
  rw [Check_eq, Option.bind_some]
  by_cases h : OkR r
  · rw [ok0 h, cond_false, if_pos h, isCount_eq, Option.bind_some]
    by_cases hn : 0 ≤ n ∧ n ≤ 20000
    · rw [decide_eq_true hn, Bool.not_true, cond_false, if_pos hn, first_eq _ hn.1 (by omega), Option.bind_some]
    · rw [decide_eq_false hn, Bool.not_false, cond_true, if_neg hn]
      rfl
  · rw [ok8 h, cond_true, if_neg h, if_neg h]
    rfl
theorem rResize_eq (r : Rgn) (n : Int) : cref13_Resize (r, n) = some (resizeS r n) := by
  show nref13_Resize (fun _ => List.replicate) (iterV (gref13_Resize_0 (fun _ => List.replicate) big) big) (r, n) = _
  unfold nref13_Resize resizeS
  dsimp only
  rw [rCheck_eq, Option.bind_some]
  by_cases h : OkR r
  rotate_left
  · rw [ok8 h, cond_true, if_neg h, if_neg h]
    rfl
  rw [ok0 h, cond_false, if_pos h]
  by_cases n0 : n < 0
  · rw [decide_eq_true n0, cond_true, if_neg (fun hh => by omega)]
    rfl
  rw [decide_eq_false n0, cond_false]
  by_cases n1 : n > 20000
  · rw [decide_eq_true n1, cond_true, if_neg (fun hh => by omega)]
    rfl
  rw [decide_eq_false n1, cond_false, if_pos ⟨by omega, by omega⟩, decide_eq_true (p := 0 ≤ n) (by omega), decide_eq_true (Int.le_refl n), decide_eq_true (p := n ≤ 68719476736) (by omega), Bool.and_true, Bool.and_true, Bool.and_true, cond_true]
  have e0 : (n, (0 : Int), r, (0 : Int), (), ([] : List Int), r.1, List.replicate n.toNat (0 : Int)) = (fun i : Nat => (n, (i : Int), r, (0 : Int), (), ([] : List Int), r.1, r.2.1.take i ++ List.replicate (n.toNat - i) (0 : Int))) 0 := rfl
  rw [e0]
  have hl := h.2
  refine loop_det (mk := fun i : Nat => (n, (i : Int), r, (0 : Int), (), ([] : List Int), r.1, r.2.1.take i ++ List.replicate (n.toNat - i) (0 : Int))) (n := min n.toNat r.2.1.length) ?_ ?_ (min n.toNat r.2.1.length) 0 big (by omega) (small (by omega))
  · intro self i hi
    show href13_Resize_0 _ self _ = _
    unfold href13_Resize_0
    dsimp only
    have hi2 : i < r.2.1.length := by omega
    have hbl : (r.2.1.take i).length = i := by rw [List.length_take]; omega
    have hset : List.set (r.2.1.take i ++ List.replicate (n.toNat - i) (0 : Int)) i r.2.1[i] = r.2.1.take (i + 1) ++ List.replicate (n.toNat - (i + 1)) 0 := by
      rw [List.set_append_right _ _ (by omega), hbl, Nat.sub_self, show n.toNat - i = (n.toNat - (i + 1)) + 1 by omega, List.replicate_succ, List.set_cons_zero, List.take_succ_eq_append_getElem hi2, List.append_assoc]
      rfl
    rw [decide_eq_true (by omega), cond_true, decide_eq_true (by omega), cond_true, getI_at hi2, Option.bind_some, decide_eq_true (p := 0 ≤ (i : Int)) (by omega), decide_eq_true (p := (i : Int) < _) (by simp; omega), Bool.and_true, cond_true, Int.toNat_natCast, hset, i64 (by omega) (by omega)]
    rfl
  · intro self
    show href13_Resize_0 _ self _ = _
    unfold href13_Resize_0
    dsimp only
    have e : r.2.1.take (min n.toNat r.2.1.length) ++ List.replicate (n.toNat - min n.toNat r.2.1.length) (0 : Int) = rsz r.2.1 n.toNat := by
      unfold rsz
      rw [show n.toNat - min n.toNat r.2.1.length = n.toNat - r.2.1.length by omega]
      congr 1
      rcases Nat.le_total n.toNat r.2.1.length with hh | hh
      · rw [Nat.min_eq_left hh]
      · rw [Nat.min_eq_right hh, List.take_length, List.take_of_length_le hh]
    rw [e]
    by_cases k1 : ((min n.toNat r.2.1.length : Nat) : Int) < n
    · rw [decide_eq_true k1, cond_true, decide_eq_false (by omega), cond_false]
    · rw [decide_eq_false k1, cond_false]

theorem same_self (r : Rgn) : cref13_Same (r, r) = some true := by
  show nref13_Same (r, r) = _
  unfold nref13_Same
  dsimp only
  rw [beq_self_eq_true, cond_true, eqD_self]
theorem great_eq (r : Rgn) : ∃ g, cref13_Great r = some g ∧ (g = false → r.2.1.length ≤ 20100) := by
  show ∃ g, nref13_Great r = some g ∧ _
  unfold nref13_Great
  by_cases h1 : (r.2.1.length : Int) > 500
  · by_cases h2 : (r.2.1.length : Int) ≤ 20000
    · exact ⟨true, by simp [h1, h2], by simp⟩
    · exact ⟨decide ((r.2.1.length : Int) > 20100), by simp [h1, h2], fun h => by have := of_decide_eq_false h; omega⟩
  · exact ⟨decide ((r.2.1.length : Int) > 20100), by simp [h1], fun h => by have := of_decide_eq_false h; omega⟩

theorem wf_bytes {l : List Int} (w : Wf (.slice (.int .u8)) l) : Bytes l := fun c hc => by
  have := w.2 c hc
  have k0 : IntKind.u8.min ≤ c := this.1
  have k1 : c ≤ IntKind.u8.max := this.2
  simp at k0 k1
  exact ⟨k0, k1⟩
theorem wf_u64 {n : Int} (w : Wf (.int .u64) n) : 0 ≤ n ∧ n ≤ 18446744073709551615 := by
  have k0 : IntKind.u64.min ≤ n := w.1
  have k1 : n ≤ IntKind.u64.max := w.2
  simp at k0 k1
  exact ⟨k0, k1⟩
abbrev Tr : Ty := .pair (.int .u64) (.pair (.slice (.int .u8)) .unit)

theorem words_true13 (x : Int × Int × Rgn × Int × Int × Int) (w : WfL [.int .u64, .int .i64, Tr, .int .u64, .int .i64, .int .u64] x) : claw13_RegionWords x = some true := by
  obtain ⟨b, n, r, a, wd, v⟩ := x
  obtain ⟨_, _, wr, _, _, wv⟩ := w
  have hb : Bytes r.2.1 := wf_bytes wr.2.1
  have hv := wf_u64 wv
  dsimp only at hv
  show nlaw13_RegionWords (b, n, r, a, wd, v) = _
  unfold nlaw13_RegionWords
  dsimp only
  obtain ⟨g, h1, h2⟩ := great_eq r
  rw [h1, Option.bind_some]
  cases g with
  | true => rfl
  | false =>
  rw [cond_false, lim_ok (by have := h2 rfl; omega), cond_true]
  rw [show ((r.1, List.append ([] : List Int) r.2.1, ()) : Rgn) = r from rfl]
  rw [new_eq, rNew_eq, Option.bind_some, Option.bind_some, has_eq, rHas_eq, Option.bind_some, Option.bind_some, load_eq hb, rLoad_eq hb, Option.bind_some, Option.bind_some, store_eq r a wd hv.1, rStore_eq r a wd hv.1 hv.2, Option.bind_some, Option.bind_some, same_self, Option.bind_some, cond_true, beq_self_eq_true, cond_true, Check_eq, rCheck_eq, Option.bind_some, Option.bind_some,
    beq_self_eq_true, cond_true, beq_self_eq_true, cond_true, beq_self_eq_true, cond_true, beq_self_eq_true, cond_true, beq_self_eq_true, cond_true, same_self, Option.bind_some, cond_true, beq_self_eq_true, cond_true, same_self]
  rfl
theorem bytes_true13 (x : Rgn × Int × Int × List Int) (w : WfL [Tr, .int .u64, .int .i64, .slice (.int .u8)] x) : claw13_RegionBytes x = some true := by
  obtain ⟨r, a, n, b⟩ := x
  show nlaw13_RegionBytes (r, a, n, b) = _
  unfold nlaw13_RegionBytes
  dsimp only
  obtain ⟨g, h1, h2⟩ := great_eq r
  rw [h1, Option.bind_some]
  cases g with
  | true => rfl
  | false =>
  rw [cond_false, lim_ok (by have := h2 rfl; omega), cond_true]
  rw [show ((r.1, List.append ([] : List Int) r.2.1, ()) : Rgn) = r from rfl]
  rw [bytes_eq, rBytes_eq, Option.bind_some, Option.bind_some, write_eq, rWrite_eq, Option.bind_some, Option.bind_some, resize_eq, rResize_eq, Option.bind_some, Option.bind_some, eqD_self, cond_true, beq_self_eq_true, cond_true, same_self, Option.bind_some, cond_true, beq_self_eq_true, cond_true, same_self, Option.bind_some, cond_true, beq_self_eq_true, cond_true, same_self, Option.bind_some]
  cases decide ((b.length : Int) > 600) <;> cases decide ((b.length : Int) > 20100) <;> cases decide ((b.length : Int) ≤ 20000) <;> rfl
end Rg
end Go.Proofs.Ytmmbfllpidolbaa
