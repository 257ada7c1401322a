/- Package region: the laws RegionOutside and RegionSizes. -/
import Derived.Test.YtmmbfllpidolbaaRegD
set_option linter.unusedVariables false
set_option linter.unusedSimpArgs false
set_option maxRecDepth 100000
namespace Go.Proofs.Ytmmbfllpidolbaa
open Go.Lift
namespace Rg

theorem prt_one {r : Rgn} {a : Int} (h : HasR r a 8) {i : Nat} (hi : i < 8) : ∃ h1 : i < (prt r a 8).length, HasR r (a + i) 1 ∧ prt r (a + i) 1 = [(prt r a 8)[i]] := by
  obtain ⟨k1, k2, k3⟩ := prt_get (n := 8) (by omega) h hi
  obtain ⟨h1, h2⟩ := h
  refine ⟨k2, ⟨by omega, by omega⟩, ?_⟩
  rw [k3]
  unfold prt
  rw [show (a + (i : Int) - r.1).toNat = (a - r.1).toNat + i by omega, List.drop_eq_getElem_cons k1]
  rfl
theorem outside_true13 (x : Rgn × Int × Int) (w : WfL [Tr, .int .u64, .int .u64] x) : claw13_RegionOutside x = some true := by
  obtain ⟨r, a, v⟩ := x
  obtain ⟨wr, wa, wv⟩ := w
  have hb : Bytes r.2.1 := wf_bytes wr.2.1
  have hv := wf_u64 wv
  have ha := wf_u64 wa
  dsimp only at hv ha
  show nlaw13_RegionOutside (iterV (glaw13_RegionOutside_0 big) big) (r, a, v) = _
  unfold nlaw13_RegionOutside
  dsimp only
  rw [alive13, Option.bind_some, rCheck_eq, Option.bind_some]
  by_cases h : OkR r
  rotate_left
  · rw [ok8 h]; rfl
  rw [ok0 h, cond_false]
  by_cases hl : (r.2.1.length : Int) > 500
  · rw [decide_eq_true hl]; rfl
  rw [decide_eq_false hl, cond_false, Bool.not_true, cond_false, store_eq r a 8 hv.1, load_eq hb, bytes_eq, Option.bind_some, Option.bind_some, Option.bind_some]
  have h' := h
  obtain ⟨⟨_, g1, g2⟩, g3⟩ := h'
  have w8 : Wd 8 := .inr rfl
  have eS : storeS r a 8 v = if HasR r a 8 then (putB r a (leB 8 v), 0) else (zR, 16) := by
    rw [storeS, if_pos h, if_pos (show Wd 8 ∧ ¬ ((8 : Int) = 1 ∧ v > 255) from ⟨w8, fun hh => by have := hh.1; omega⟩)]
    rfl
  have eL : loadS r a 8 = if HasR r a 8 then (leW (prt r a 8), 0) else (0, 16) := by
    rw [loadS, if_pos h, if_pos w8]
  have eB : bytesS r a 8 = if HasR r a 8 then (prt r a 8, 0) else ([], 16) := by
    rw [bytesS, if_pos h, if_neg (by omega)]
  rw [eS, eL, eB]
  by_cases hh : HasR r a 8
  rotate_left
  · rw [if_neg hh, if_neg hh, if_neg hh]
    by_cases c1 : (r.2.1.length : Int) ≥ 8
    · rw [decide_eq_true c1, cond_true]
      by_cases c2 : a ≥ r.1
      · have c3 : ¬ (a - r.1 ≤ (r.2.1.length : Int) - 8) := fun c3 => hh ⟨c2, by omega⟩
        rw [decide_eq_true c2, cond_true, w64 (n := a - r.1) (by omega) (by omega), i64 (by omega) (by omega), w64 (by omega) (by omega), decide_eq_false c3]
        rfl
      · rw [decide_eq_false c2]
        rfl
    · rw [decide_eq_false c1]
      rfl
  have hh' := hh
  obtain ⟨g4, g5⟩ := hh'
  have hpl : (prt r a 8).length = 8 := prt_len (n := 8) (by omega) hh
  have hpb := prt_bytes hb a 8
  rw [if_pos hh, if_pos hh, if_pos hh, decide_eq_true (by omega), cond_true, decide_eq_true (by omega), cond_true, w64 (n := a - r.1) (by omega) (by omega), i64 (by omega) (by omega), w64 (by omega) (by omega), decide_eq_true (by omega), Bool.not_true, cond_false]
  dsimp only
  rw [show ((0 : Int) != 0) = false from rfl, cond_false, cond_false, cond_false, hpl, show (((8 : Nat) : Int) != 8) = false from rfl, cond_false]
  have e0 : (a, v, true, leW (prt r a 8), (0 : Int), (0 : Int), r, putB r a (leB 8 v), prt r a 8, ([] : List Int)) = (fun i : Nat => (a, v, true, leW (prt r a 8), leW ((prt r a 8).take i), (i : Int), r, putB r a (leB 8 v), prt r a 8, leB i v)) 0 := rfl
  rw [e0]
  refine loop_det (mk := fun i : Nat => (a, v, true, leW (prt r a 8), leW ((prt r a 8).take i), (i : Int), r, putB r a (leB 8 v), prt r a 8, leB i v)) (n := 8) ?_ ?_ 8 0 big (by omega) (small (by omega))
  · intro self i hi
    show hlaw13_RegionOutside_0 self _ = _
    unfold hlaw13_RegionOutside_0
    dsimp only
    obtain ⟨k1, k2, k3⟩ := prt_one hh hi
    have hx := hpb _ (List.getElem_mem k1)
    have hone : leW [(prt r a 8)[i]] = (prt r a 8)[i] := by simp [leW]
    have hd := leW_bd (l := (prt r a 8).take (i + 1)) (fun c hc => hpb c (List.mem_of_mem_take hc))
    rw [show ((prt r a 8).take (i + 1)).length = i + 1 by rw [List.length_take]; omega, Int.pow_succ] at hd
    have hs : leW ((prt r a 8).take (i + 1)) = leW ((prt r a 8).take i) + (prt r a 8)[i] * 256 ^ i := by
      rw [List.take_succ_eq_append_getElem k1, leW_snoc, show ((prt r a 8).take i).length = i by rw [List.length_take]; omega]
    have hp := pow_bd (i := i) (by omega)
    have hm0 : 0 ≤ (prt r a 8)[i] * 256 ^ i := Int.mul_nonneg hx.1 (Int.le_of_lt (pow_pos' i))
    have hm1 : (prt r a 8)[i] * 256 ^ i ≤ 255 * 256 ^ i := Int.mul_le_mul_of_nonneg_right hx.2 (Int.le_of_lt (pow_pos' i))
    have hd1 := (leW_bd (l := (prt r a 8).take i) (fun c hc => hpb c (List.mem_of_mem_take hc))).1
    rw [decide_eq_true (by omega), cond_true, w64 (n := (i : Int)) (by omega) (by omega), w64 (n := a + (i : Int)) (by omega) (by omega), load_eq hb, Option.bind_some, loadS, if_pos h, if_pos (show Wd 1 from .inl rfl), if_pos k2, k3, hone]
    dsimp only
    have hlt : (Nat.ble 1 1 && Nat.ble (List.length (leB i v) + List.length [IntKind.u8.wrap (v.fdiv (2 ^ (8 * i)))]) lim) = true := by
      have : 100000 ≤ lim := by decide
      rw [Bool.and_eq_true]
      exact ⟨rfl, Nat.ble_eq_true_of_le (by simp; omega)⟩
    rw [show ((0 : Int) != 0) = false from rfl, cond_false, decide_eq_false (by omega), cond_false, hpl, decide_eq_true (p := 0 ≤ (i : Int)) (by omega), decide_eq_true (p := (i : Int) < ((8 : Nat) : Int)) (by omega), Bool.and_true, cond_true]
    have hn : nth (prt r a 8) (Int.toNat (i : Int)) = some (prt r a 8)[i] := by
      have := getI_at k1
      rw [getI, decide_eq_true (by omega)] at this
      exact this
    rw [hn, Option.bind_some, wrap_u8, Int.emod_eq_of_lt hx.1 (by omega), show ((prt r a 8)[i] != (prt r a 8)[i]) = false by simp, cond_false, i64 (n := 8 * (i : Int)) (by omega) (by omega), decide_eq_false (p := 8 * (i : Int) < 0) (by omega), cond_false, cond_false, sh8 (by omega), pow8, w64 hm0 (by omega), w64 (by omega) (by omega), ← hs]
    rw [← pow8, hlt, cond_true, succ64 (by omega), wrap_u8, Int.fdiv_eq_ediv_of_nonneg _ (by rw [pow8]; exact Int.le_of_lt (pow_pos' i)), pow8]
    rw [leB_snoc i v]
    rfl
  · intro self
    show hlaw13_RegionOutside_0 self _ = _
    unfold hlaw13_RegionOutside_0
    dsimp only
    rw [decide_eq_false (by omega), cond_false, write_eq, Option.bind_some, writeS, if_pos h, leB_len, if_pos (show HasR r a ((8 : Nat) : Int) from hh), cond_true, List.take_of_length_le (by omega), beq_self_eq_true, cond_true]
    dsimp only
    rw [beq_self_eq_true, cond_true, same_self]
    rfl

theorem rsz_get (bs : List Int) {n i : Nat} (h : i < n) : ∃ h1 : i < (rsz bs n).length, (rsz bs n)[i] = bs.getD i 0 := by
  refine ⟨by rw [rsz_len]; exact h, ?_⟩
  unfold rsz
  rw [List.getElem_append]
  split
  · rename_i h2
    rw [List.length_take] at h2
    rw [List.getElem_take]
    simp [show i < bs.length by omega]
  · rename_i h2
    rw [List.length_take] at h2
    rw [List.getElem_replicate]
    simp [show bs.length ≤ i by omega]
theorem rsz_back (bs : List Int) {n : Nat} (h : bs.length ≤ n) : rsz (rsz bs n) bs.length = bs := by
  unfold rsz
  rw [List.take_of_length_le h, List.take_append_of_le_length (Nat.le_refl _), List.take_length, List.length_append, List.length_replicate, show bs.length - (bs.length + (n - bs.length)) = 0 by omega]
  simp
theorem find_two {r o : Rgn} (hr : OkR r) (ho : OkR o) (hap : r.1 + r.2.1.length ≤ o.1) (a : Int) : ¬ (HasR r a 1 ∧ HasR o a 1) ∧ cregion_Find ([o, r], a, 1) = some (if HasR o a 1 then (0, 0) else if HasR r a 1 then (1, 0) else (0, 6)) := by
  refine ⟨fun ⟨h1, h2⟩ => by unfold HasR at h1 h2; omega, ?_⟩
  have e : lstS [o, r] = 0 := by
    have h2 : ¬ Ovl o r := fun h => by unfold Ovl at h; omega
    have hok : okL [o, r] = true := by
      show (decide (OkR o) && (decide (OkR r) && true)) = true
      rw [decide_eq_true ho, decide_eq_true hr]
      rfl
    have htw : twL [o, r] = true := by
      show (true && ((!decide (Ovl o r) && true) && true)) = true
      rw [decide_eq_false h2]
      rfl
    rw [lstS, if_neg (by simp), hok, htw]
    rfl
  rw [find_eq, fndS, e, show ((0 : Int) != 0) = false from rfl, cond_false, if_neg (by omega)]
  show some (Option.getD (List.findSome? _ [0, 1]) _) = _
  have q0 : fndQ [o, r] a 1 0 = if HasR o a 1 then some (0, 0) else none := rfl
  have q1 : fndQ [o, r] a 1 1 = if HasR r a 1 then some (1, 0) else none := rfl
  rw [List.findSome?_cons, List.findSome?_cons, q0, q1]
  by_cases h1 : HasR o a 1
  · rw [if_pos h1, if_pos h1]; rfl
  · rw [if_neg h1, if_neg h1]
    by_cases h2 : HasR r a 1
    · rw [if_pos h2, if_pos h2]; rfl
    · rw [if_neg h2, if_neg h2]; rfl
theorem has1 {r : Rgn} (h : OkR r) {a : Int} : hasS r a 1 = (decide (HasR r a 1), 0) := by
  rw [hasS, if_pos h, if_neg (by omega)]
theorem sizes_true13 (x : Rgn × Int × List Int × Int) (w : WfL [Tr, .int .i64, .slice (.int .u8), .int .u64] x) : claw13_RegionSizes x = some true := by
  obtain ⟨r, n, bh, a⟩ := x
  show nlaw13_RegionSizes (iterV (glaw13_RegionSizes_0 big) big) (r, n, bh, a) = _
  unfold nlaw13_RegionSizes
  dsimp only
  rw [alive13, Option.bind_some, rCheck_eq, Option.bind_some]
  by_cases h : OkR r
  rotate_left
  · rw [ok8 h]; rfl
  rw [ok0 h, cond_false]
  by_cases hl : (r.2.1.length : Int) > 500
  · rw [decide_eq_true hl]; rfl
  rw [decide_eq_false hl, cond_false]
  by_cases n0 : n < 0
  · rw [decide_eq_true n0]; rfl
  rw [decide_eq_false n0, cond_false]
  by_cases n1 : n > 1000
  · rw [decide_eq_true n1]; rfl
  rw [decide_eq_false n1, cond_false]
  by_cases hbl : (bh.length : Int) > 8
  · rw [decide_eq_true hbl]; rfl
  rw [decide_eq_false hbl, cond_false, Bool.not_true, cond_false, resize_eq, Option.bind_some, resizeS, if_pos h, if_pos ⟨by omega, by omega⟩]
  dsimp only
  have hsl := rsz_len r.2.1 n.toNat
  rw [show ((0 : Int) != 0) = false from rfl, cond_false, hsl, show (((n.toNat : Nat) : Int) != n) = false by simp; omega, cond_false, show (r.1 != r.1) = false by simp, cond_false]
  have h' := h
  obtain ⟨⟨g0, g1, g2⟩, g3⟩ := h'
  have e0 : (n, bh, a, true, (0 : Int), r, ((r.1, (rsz r.2.1 n.toNat, ())) : Rgn)) = (fun i : Nat => (n, bh, a, true, (i : Int), r, ((r.1, (rsz r.2.1 n.toNat, ())) : Rgn))) 0 := rfl
  rw [e0]
  refine loop_det (mk := fun i : Nat => (n, bh, a, true, (i : Int), r, ((r.1, (rsz r.2.1 n.toNat, ())) : Rgn))) (n := n.toNat) ?_ ?_ n.toNat 0 big (by omega) (small (by omega))
  · intro self i hi
    show hlaw13_RegionSizes_0 self _ = _
    unfold hlaw13_RegionSizes_0
    dsimp only
    obtain ⟨k1, k2⟩ := rsz_get r.2.1 hi
    rw [decide_eq_true (by omega), cond_true, succ64 (by omega)]
    by_cases c : i < r.2.1.length
    · rw [decide_eq_true (by omega), cond_true, getI_at k1, getI_at c, Option.bind_some, Option.bind_some, k2, show r.2.1.getD i 0 = r.2.1[i] by simp [c], show (r.2.1[i] != r.2.1[i]) = false by simp, cond_false, decide_eq_false (by omega), cond_false]
    · rw [decide_eq_false (by omega), cond_false, decide_eq_true (by omega), cond_true, getI_at k1, Option.bind_some, k2, show r.2.1.getD i 0 = 0 by simp [show r.2.1.length ≤ i by omega]]
      rfl
  · intro self
    show hlaw13_RegionSizes_0 self _ = _
    unfold hlaw13_RegionSizes_0
    dsimp only
    have hs : OkR ((r.1, (rsz r.2.1 n.toNat, ())) : Rgn) := ⟨⟨g0, g1, g2⟩, by show (rsz r.2.1 n.toNat).length ≤ 20000; rw [hsl]; omega⟩
    rw [decide_eq_false (by omega), cond_false, resize_eq, Option.bind_some, resizeS, if_pos hs, if_pos ⟨by omega, by omega⟩, Int.toNat_natCast]
    dsimp only
    rw [show ((0 : Int) != 0) = false from rfl, cond_false]
    have ew : IntKind.u64.wrap ((IntKind.u64.wrap ((IntKind.u64.wrap ((IntKind.u64.wrap (r.1 + IntKind.u64.wrap (r.2.1.length : Int))) + 15)).tdiv 8)) * 8) = (r.1 + r.2.1.length + 15) / 8 * 8 := by
      rw [w64 (n := (r.2.1.length : Int)) (by omega) (by omega), w64 (n := r.1 + r.2.1.length) (by omega) (by omega), w64 (n := r.1 + r.2.1.length + 15) (by omega) (by omega), Int.tdiv_eq_ediv_of_nonneg (by omega), w64 (n := (r.1 + r.2.1.length + 15) / 8) (by omega) (by omega), w64 (by omega) (by omega)]
    rw [ew]
    generalize hX : (r.1 + r.2.1.length + 15) / 8 * 8 = X
    have hXr : r.1 + r.2.1.length ≤ X := by omega
    rw [rCheck_eq, Option.bind_some]
    by_cases ho : OkR ((X, (bh, ())) : Rgn)
    rotate_left
    · rw [ok8 ho]
      by_cases c : n ≥ (r.2.1.length : Int)
      · rw [decide_eq_true c, cond_true, rsz_back _ (by omega), show ((r.1, (r.2.1, ())) : Rgn) = r from rfl, same_self]
        rfl
      · rw [decide_eq_false c]
        rfl
    obtain ⟨f1, f2⟩ := find_two h ho hXr a
    rw [ok0 ho, cond_false, f2, has_eq, has_eq, Option.bind_some, Option.bind_some, Option.bind_some, has1 h, has1 ho]
    dsimp only
    have key : ∀ z : Option Bool, z = some true → (bif decide (n ≥ (r.2.1.length : Int)) then ((cref13_Same ((r.1, (rsz (rsz r.2.1 n.toNat) r.2.1.length, ())), r)).bind fun x13 => (bif (!x13) then (some false) else z)) else z) = some true := by
      intro z hz
      by_cases c : n ≥ (r.2.1.length : Int)
      · rw [decide_eq_true c, cond_true, rsz_back _ (by omega), show ((r.1, (r.2.1, ())) : Rgn) = r from rfl, same_self]
        exact hz
      · rw [decide_eq_false c]
        exact hz
    refine key _ ?_
    rw [show ((0 : Int) != 0) = false from rfl, cond_false, cond_false]
    by_cases h1 : HasR ((X, (bh, ())) : Rgn) a 1
    · have h2 : ¬ HasR r a 1 := fun h2 => f1 ⟨h2, h1⟩
      rw [if_pos h1, decide_eq_true h1, decide_eq_false h2]
      rfl
    · rw [if_neg h1, decide_eq_false h1]
      by_cases h2 : HasR r a 1
      · rw [if_pos h2, decide_eq_true h2]
        rfl
      · rw [if_neg h2, decide_eq_false h2]
        rfl
end Rg
end Go.Proofs.Ytmmbfllpidolbaa
