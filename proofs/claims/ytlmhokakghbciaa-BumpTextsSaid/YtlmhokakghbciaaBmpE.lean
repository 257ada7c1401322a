/- Package bump: the laws BumpRoom and BumpApart. -/
import Derived.Test.YtlmhokakghbciaaBmpD
set_option linter.unusedVariables false
set_option linter.unusedSimpArgs false
set_option maxRecDepth 100000
namespace Go.Proofs.Ytlmhokakghbciaa
open Go.Lift
namespace Bp
open Rg (Rgn zR OkR w64 i64)

theorem alive14 : claw14_alive () = some true := by kernel_rfl

theorem allocS_yes {r : Rgn} {n l : Int} (h : limS r l = 0) (hn : 0 ≤ n ∧ n ≤ 4096) (c : r.2.1.length + sz n ≤ l) : allocS r n l = (grow r n, 65536 + (r.2.1.length : Int), 0) := by
  rw [allocS, if_pos h, if_pos hn, if_pos c]
theorem allocS_full {r : Rgn} {n l : Int} (h : limS r l = 0) (hn : 0 ≤ n ∧ n ≤ 4096) (c : ¬ (r.2.1.length + sz n ≤ l)) : allocS r n l = (zR, 0, 18) := by
  rw [allocS, if_pos h, if_pos hn, if_neg c]
theorem allocS_arg {r : Rgn} {n l : Int} (h : limS r l = 0) (hn : ¬ (0 ≤ n ∧ n ≤ 4096)) : allocS r n l = (zR, 0, 2) := by
  rw [allocS, if_pos h, if_neg hn]
theorem lim0 {r : Rgn} {l : Int} (hh : OkH r) (h0 : 0 ≤ l) (h1 : l ≤ 16384) : limS r l = 0 := by
  rw [limS, if_pos hh, if_pos ⟨h0, h1⟩]
theorem grow_len (r : Rgn) {n : Int} (hn : 0 ≤ n) : ((grow r n).2.1.length : Int) = r.2.1.length + sz n := by
  have := sz_bd hn
  simp only [grow, List.length_append, List.length_replicate]
  omega
theorem rm_grow {r : Rgn} {n l : Int} (hh : OkH r) (hn : 0 ≤ n) (h : r.2.1.length + sz n ≤ l) : rm (grow r n) l = rm r l - sz n := by
  have := sz_bd hn
  have h8 := hh.2.1
  unfold rm
  rw [grow_len r hn]
  split <;> split <;> omega

theorem room_true14 (x : Rgn × Int × Int) (w : WfL [Rg.Tr, .int .i64, .int .i64] x) : claw14_BumpRoom x = some true := by
  obtain ⟨r, n, l⟩ := x
  show nlaw14_BumpRoom (r, n, l) = _
  unfold nlaw14_BumpRoom
  dsimp only
  obtain ⟨g, h1, h2⟩ := great_eq r
  rw [alive14, Option.bind_some, h1, Option.bind_some]
  cases g with
  | true => rfl
  | false =>
  rw [cond_false, rLimit_eq, Option.bind_some]
  rcases lim_cases r l with ⟨h, hh, h0, h3⟩ | ⟨h, h'⟩
  rotate_left
  · rw [h', cond_true]
  rw [h, show ((0 : Int) != 0) = false from rfl, cond_false]
  by_cases n0 : n < 0
  · rw [decide_eq_true n0, cond_true]
  rw [decide_eq_false n0, cond_false]
  by_cases n1 : n > 4096
  · rw [decide_eq_true n1, cond_true]
  rw [decide_eq_false n1, cond_false, Bool.not_true, cond_false, room_eq, alloc_eq, rSize_eq (by omega) (by omega), Option.bind_some, Option.bind_some, Option.bind_some, roomS, if_pos h]
  dsimp only
  have hs := sz_bd (n := n) (by omega)
  have hl := hh.2.2
  have hrm : 0 ≤ rm r l ∧ rm r l % 8 = 0 ∧ rm r l ≤ 16384 := by
    unfold rm
    split <;> omega
  have hf := fits (n := n) hh h0 h3 (by omega)
  rw [show ((0 : Int) != 0) = false from rfl, cond_false, decide_eq_false (by omega), cond_false, Int.tmod_eq_emod_of_nonneg hrm.1, show (rm r l % 8 != 0) = false by rw [hrm.2.1]; rfl, cond_false]
  by_cases c : r.2.1.length + sz n ≤ l
  · have c' : sz n ≤ rm r l := by omega
    rw [allocS_yes h ⟨by omega, by omega⟩ c, decide_eq_true c']
    dsimp only
    rw [show (!((0 : Int) == 0) == true) = false from rfl, cond_false, show ((0 : Int) != 0) = false from rfl, cond_false, cond_false, room_eq, Option.bind_some, cond_true, roomS, if_pos (lim0 (grow_ok hh (by omega) h3 c) h0 h3)]
    dsimp only
    rw [show ((0 : Int) == 0) = true from rfl, cond_true, i64 (n := rm r l - sz n) (by omega) (by omega), rm_grow hh (by omega) c, beq_self_eq_true, cond_true, w64 (n := (r.2.1.length : Int)) (by omega) (by omega), w64 (by omega) (by omega), beq_self_eq_true, cond_true, i64 (by omega) (by omega), grow_len r (by omega), beq_self_eq_true]
  · have c' : ¬ sz n ≤ rm r l := by omega
    rw [allocS_full h ⟨by omega, by omega⟩ c, decide_eq_false c']
    rfl

theorem take_app {α : Type} (a b : List α) : (a ++ b).take a.length = a := by simp

theorem apart_in {l : List Int} {lim : Int} {i : Nat} {at_ e : Int} {heap next : Rgn} {self0 : Y13 → Option Bool} (hi : i < l.length) (hl : l.length ≤ 30) (hn : next.2.1.length ≤ 16384) (hz : ∀ k (h : k < next.2.1.length), heap.2.1.length ≤ k → next.2.1[k] = 0) (hle : heap.2.1.length ≤ next.2.1.length)
    {R : Option Bool} (hR : ((getI l (i : Int)).bind fun x16 => (bif (decide (x16 > (0 : Int))) then (let x17 : Int := (IntKind.u64.wrap (i : Int)); (let x18 : Int := (IntKind.u64.wrap (x17 + (1 : Int))); ((cregion_Store (next, at_, (1 : Int), x18)).bind fun x19 => (bif (x19.2 != (0 : Int)) then (some false) else ((getI l (i : Int)).bind fun x20 => (let x21 : Int := (if (1 : Int) > x20 then (1 : Int) else x20); (let x22 : Int := (IntKind.u64.wrap (at_ + (IntKind.u64.wrap x21))); (let x23 : Int := (IntKind.i64.wrap ((i : Int) + (1 : Int))); (self0 (l, lim, true, x22, x23, x19.1)))))))))) else ((getI l (i : Int)).bind fun x24 => (let x25 : Int := (if (1 : Int) > x24 then (1 : Int) else x24); (let x26 : Int := (IntKind.u64.wrap (at_ + (IntKind.u64.wrap x25))); (let x27 : Int := (IntKind.i64.wrap ((i : Int) + (1 : Int))); (self0 (l, lim, true, x26, x27, next)))))))) = R) :
    iterV (glaw14_BumpApart_1 big self0) big (l, lim, true, (i : Int), at_, (heap.2.1.length : Int), heap, next) = R := by
  refine Rg.loop_det (mk := fun k : Nat => (l, lim, true, (i : Int), at_, ((heap.2.1.length + k : Nat) : Int), heap, next)) (n := next.2.1.length - heap.2.1.length) ?_ ?_ _ 0 big (by omega) (Rg.small (n := next.2.1.length - heap.2.1.length) (by omega))
  · intro self k hk
    show hlaw14_BumpApart_1 self0 self _ = _
    unfold hlaw14_BumpApart_1
    dsimp only
    have hk' : heap.2.1.length + k < next.2.1.length := by omega
    rw [decide_eq_true (by omega), cond_true, getI_at hk', Option.bind_some, hz _ hk' (by omega), show ((0 : Int) != 0) = false from rfl, cond_false, i64 (by omega) (by omega)]
    rfl
  · intro self
    show hlaw14_BumpApart_1 self0 self _ = _
    unfold hlaw14_BumpApart_1
    dsimp only
    rw [decide_eq_false (by omega), cond_false]
    exact hR

theorem apart_loop {l : List Int} {lim : Int} (hl : l.length ≤ 30) (h0 : 0 ≤ lim) (h1 : lim ≤ 16384) : ∀ (k i M : Nat) (heap : Rgn) (e : Int), i + k = l.length → k < M → OkH heap → 65536 ≤ e → e ≤ 65536 + (heap.2.1.length : Int) →
    iterV (glaw14_BumpApart_0 big) M (l, lim, true, e, (i : Int), heap) = some true
  | k, i, 0, _, _, _, hM, _, _, _ => by omega
  | 0, i, M + 1, heap, e, hi, _, _, _, _ => by
    rw [iterV_succ]
    show hlaw14_BumpApart_0 _ _ _ = _
    unfold hlaw14_BumpApart_0
    dsimp only
    rw [decide_eq_false (by omega), cond_false]
  | k + 1, i, M + 1, heap, e, hi, hM, hh, he0, he1 => by
    rw [iterV_succ]
    show hlaw14_BumpApart_0 (iterV (glaw14_BumpApart_1 big (iterV (glaw14_BumpApart_0 big) M)) big) (iterV (glaw14_BumpApart_0 big) M) _ = _
    unfold hlaw14_BumpApart_0
    dsimp only
    have hil : i < l.length := by omega
    have ih := fun heap' e' => apart_loop hl h0 h1 k (i + 1) M heap' e' (by omega) (by omega)
    have hw : IntKind.i64.wrap ((i : Int) + 1) = ((i + 1 : Nat) : Int) := by rw [i64 (by omega) (by omega)]; rfl
    rw [decide_eq_true (by omega), cond_true, getI_at hil, Option.bind_some, alloc_eq, Option.bind_some]
    have hlim := lim0 hh h0 h1
    generalize hn : l[i] = n
    by_cases hr : 0 ≤ n ∧ n ≤ 4096
    rotate_left
    · rw [allocS_arg hlim hr]
      dsimp only
      rw [show ((2 : Int) != 0) = true from rfl, cond_true, show ((2 : Int) != 18) = true from rfl, cond_true, Option.bind_some]
      by_cases c1 : n ≥ 0
      · rw [decide_eq_true c1, cond_true, Option.bind_some, decide_eq_false (by omega), cond_false, hw]
        exact ih heap e hh he0 he1
      · rw [decide_eq_false c1, cond_false, hw]
        exact ih heap e hh he0 he1
    by_cases c : heap.2.1.length + sz n ≤ lim
    rotate_left
    · rw [allocS_full hlim hr c]
      dsimp only
      rw [show ((18 : Int) != 0) = true from rfl, cond_true, show ((18 : Int) != 18) = false from rfl, cond_false, hw]
      exact ih heap e hh he0 he1
    rw [allocS_yes hlim hr c]
    dsimp only
    have hs := sz_bd hr.1
    have hlen := grow_len heap hr.1
    have hg := grow_ok hh hr.1 h1 c
    have hgl := hg.2.2
    have h8 := hh.2.1
    have hhl := hh.2.2
    have hhas : Rg.HasR (grow heap n) (65536 + (heap.2.1.length : Int)) n := by
      constructor
      · show (65536 : Int) ≤ _
        omega
      · rw [hlen]
        show _ ≤ (65536 : Int) + _
        omega
    rw [show ((0 : Int) != 0) = false from rfl, cond_false, Option.bind_some, Rg.has_eq, Option.bind_some, Rg.hasS, if_pos hg.reg, if_neg (by omega)]
    dsimp only
    rw [show ((0 : Int) != 0) = false from rfl, cond_false, decide_eq_true hhas, Bool.not_true, cond_false, decide_eq_false (by omega), cond_false, Int.tmod_eq_emod_of_nonneg (by omega), show ((65536 + (heap.2.1.length : Int)) % 8 != 0) = false by rw [show (65536 + (heap.2.1.length : Int)) % 8 = 0 by omega]; rfl, cond_false, decide_eq_false (by omega), cond_false, i64 (n := (heap.2.1.length : Int) + 8) (by omega) (by omega), decide_eq_false (by omega), cond_false, decide_eq_true (by omega), decide_eq_true (by omega), Bool.and_true, cond_true]
    rw [show List.take (Int.toNat (heap.2.1.length : Int)) (grow heap n).2.1 = heap.2.1 from take_app _ _, eqD_self, Bool.not_true, cond_false]
    have hv : ((i + 1 : Nat) : Int) = (i : Int) + 1 := rfl
    refine apart_in (e := e) hil hl hgl ?_ (by omega) ?_
    · intro k hk hge
      simp only [grow]
      rw [List.getElem_append_right hge, List.getElem_replicate]
    rw [getI_at hil, hn, Option.bind_some]
    have hx : 1 ≤ (if (1 : Int) > n then 1 else n) ∧ (if (1 : Int) > n then 1 else n) ≤ sz n := by split <;> omega
    by_cases np : n > 0
    · rw [decide_eq_true np, cond_true]
      dsimp only
      rw [w64 (n := (i : Int)) (by omega) (by omega), w64 (n := (i : Int) + 1) (by omega) (by omega), Rg.store_eq _ _ _ (by omega), Option.bind_some, Rg.storeS, if_pos hg.reg, if_pos (show Rg.Wd 1 ∧ ¬ ((1 : Int) = 1 ∧ (i : Int) + 1 > 255) from ⟨.inl rfl, by omega⟩), if_pos (show Rg.HasR (grow heap n) (65536 + (heap.2.1.length : Int)) 1 by
        constructor
        · exact hhas.1
        · rw [hlen]
          show _ ≤ (65536 : Int) + _
          omega)]
      dsimp only
      rw [show ((0 : Int) != 0) = false from rfl, cond_false, Option.bind_some]
      rw [w64 (n := if (1 : Int) > n then 1 else n) (by omega) (by omega), w64 (by omega) (by omega), hw]
      have hpl : (Rg.putB (grow heap n) (65536 + (heap.2.1.length : Int)) (Rg.leB (Int.toNat 1) ((i : Int) + 1))).2.1.length = (grow heap n).2.1.length := by
        refine Rg.put_len _ _ _ ?_
        rw [Rg.leB_len]
        show (65536 + (heap.2.1.length : Int) - 65536).toNat + 1 ≤ _
        omega
      refine ih _ _ ⟨rfl, ?_, ?_⟩ (by omega) ?_
      · rw [hpl]; exact hg.2.1
      · rw [hpl]; exact hg.2.2
      · rw [hpl, hlen]; omega
    · rw [decide_eq_false np, cond_false, Option.bind_some]
      dsimp only
      rw [w64 (n := if (1 : Int) > n then 1 else n) (by omega) (by omega), w64 (by omega) (by omega), hw]
      exact ih _ _ hg (by omega) (by rw [hlen]; omega)

theorem apart_true14 (x : List Int × Int) (w : WfL [.slice (.int .i64), .int .i64] x) : claw14_BumpApart x = some true := by
  obtain ⟨l, lim⟩ := x
  show nlaw14_BumpApart (iterV (glaw14_BumpApart_0 big) big) (l, lim) = _
  unfold nlaw14_BumpApart
  dsimp only
  rw [alive14, Option.bind_some]
  by_cases c : (l.length : Int) > 30
  · rw [decide_eq_true c, cond_true]
  rw [decide_eq_false c, cond_false]
  by_cases c1 : lim < 0
  · rw [decide_eq_true c1, cond_true]
  rw [decide_eq_false c1, cond_false]
  by_cases c2 : lim > 16384
  · rw [decide_eq_true c2, cond_true]
  rw [decide_eq_false c2, cond_false, Bool.not_true, cond_false, new_eq, Option.bind_some]
  exact apart_loop (by omega) (by omega) (by omega) l.length 0 big _ _ (by omega) (Rg.small (n := l.length) (by omega)) ⟨rfl, by decide, by decide⟩ (by omega) (by simp)
end Bp
end Go.Proofs.Ytlmhokakghbciaa
