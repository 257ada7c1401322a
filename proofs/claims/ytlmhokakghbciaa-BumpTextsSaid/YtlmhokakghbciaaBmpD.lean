/- Package bump: room, allocating and putting, by the program and by the reference of layer 14. -/
import Derived.Test.YtlmhokakghbciaaBmpC
import Derived.Test.YtlmhokakghbciaaBmpL
set_option linter.unusedVariables false
set_option linter.unusedSimpArgs false
set_option maxRecDepth 100000
namespace Go.Proofs.Ytlmhokakghbciaa
open Go.Lift
namespace Bp
open Rg (Rgn zR OkR w64 i64)

def OkH (r : Rgn) : Prop := r.1 = 65536 ∧ r.2.1.length % 8 = 0 ∧ r.2.1.length ≤ 16384
instance (r : Rgn) : Decidable (OkH r) := by unfold OkH; infer_instance
theorem OkH.reg {r : Rgn} (h : OkH r) : OkR r := by
  obtain ⟨h1, h2, h3⟩ := h
  refine ⟨?_, by omega⟩
  rw [h1]
  unfold Rg.OkB
  decide
theorem and2 {p q : Prop} [Decidable p] [Decidable q] : (bif decide p then some (decide q) else some false) = some (decide (p ∧ q)) := by
  by_cases h : p <;> by_cases h' : q <;> simp [h, h']
theorem m8 (n : Nat) : (((n : Int).tmod 8) == (0 : Int)) = decide (n % 8 = 0) := by
  rw [Rg.tm8 (by omega)]
  exact decide_eq_decide.2 ⟨fun h => by omega, fun h => by omega⟩
theorem heap_tail (r : Rgn) : (bif (r.1 == (65536 : Int)) then (let x2 : Int := ((List.length r.2.1 : Int).tmod (8 : Int)); (bif (x2 == (0 : Int)) then (some (decide ((List.length r.2.1 : Int) ≤ (16384 : Int)))) else (some false))) else (some false)) = some (decide (OkH r)) := by
  dsimp only
  rw [m8, and2]
  by_cases h : r.1 = 65536
  · rw [beq_iff_eq.2 h, cond_true]
    exact congrArg some (decide_eq_decide.2 ⟨fun ⟨h1, h2⟩ => ⟨h, h1, by omega⟩, fun ⟨_, h1, h2⟩ => ⟨h1, by omega⟩⟩)
  · rw [beq_eq_false_iff_ne.2 h, cond_false, decide_eq_false (fun k : OkH r => h k.1)]
theorem isHeap_eq (r : Rgn) : cbump_isHeap r = some (decide (OkH r)) := by
  show nbump_isHeap r = _
  unfold nbump_isHeap
  rw [Rg.Check_eq, Option.bind_some]
  by_cases h : OkR r
  · rw [if_pos h, show ((0 : Int) == 0) = true from rfl, cond_true]
    exact heap_tail r
  · rw [if_neg h, show ((8 : Int) == 0) = false from rfl, cond_false, decide_eq_false (fun k : OkH r => h k.reg)]
theorem rIs_eq (r : Rgn) : cref14_Is r = some (decide (OkH r)) := heap_tail r

/-- the error of a heap and a limit -/
def limS (r : Rgn) (lim : Int) : Int := if OkH r then (if 0 ≤ lim ∧ lim ≤ 16384 then 0 else 2) else 8
theorem lim_tail (r : Rgn) (l : Int) : (bif (!(decide (OkH r))) then (some (8 : Int)) else (bif (decide (l < (0 : Int))) then (some (2 : Int)) else (bif (decide (l > (16384 : Int))) then (some (2 : Int)) else (some (0 : Int))))) = some (limS r l) := by
  unfold limS
  by_cases h : OkH r
  · rw [decide_eq_true h, Bool.not_true, cond_false, if_pos h]
    by_cases h1 : l < 0
    · rw [decide_eq_true h1, cond_true, if_neg (by omega)]
    rw [decide_eq_false h1, cond_false]
    by_cases h2 : l > 16384
    · rw [decide_eq_true h2, cond_true, if_neg (by omega)]
    rw [decide_eq_false h2, cond_false, if_pos (by omega)]
  · rw [decide_eq_false h, Bool.not_false, cond_true, if_neg h]
theorem check_eq (r : Rgn) (l : Int) : cbump_check (r, l) = some (limS r l) := by
  show nbump_check (r, l) = _
  unfold nbump_check
  rw [isHeap_eq, Option.bind_some]
  exact lim_tail r l
theorem rLimit_eq (r : Rgn) (l : Int) : cref14_Limit (r, l) = some (limS r l) := by
  show nref14_Limit (r, l) = _
  unfold nref14_Limit
  rw [rIs_eq, Option.bind_some]
  exact lim_tail r l
theorem lim_cases (r : Rgn) (l : Int) : (limS r l = 0 ∧ OkH r ∧ 0 ≤ l ∧ l ≤ 16384) ∨ (limS r l ≠ 0 ∧ (limS r l != 0) = true) := by
  unfold limS
  by_cases h : OkH r
  · rw [if_pos h]
    by_cases h1 : 0 ≤ l ∧ l ≤ 16384
    · rw [if_pos h1]; exact .inl ⟨rfl, h, h1⟩
    · rw [if_neg h1]; exact .inr ⟨by decide, rfl⟩
  · rw [if_neg h]; exact .inr ⟨by decide, rfl⟩

/-! ### room and sizes -/
def rm (r : Rgn) (l : Int) : Int := (if l - r.2.1.length > 0 then l - r.2.1.length else 0) / 8 * 8
def roomS (r : Rgn) (l : Int) : Int × Int := if limS r l = 0 then (rm r l, 0) else (0, limS r l)
theorem room_eq (r : Rgn) (l : Int) : cbump_Room (r, l) = some (roomS r l) := by
  show nbump_Room (r, l) = _
  unfold nbump_Room roomS
  dsimp only
  rw [check_eq, Option.bind_some]
  rcases lim_cases r l with ⟨h, hh, h0, h1⟩ | ⟨h, h'⟩
  · have := hh.2.2
    rw [h, if_pos rfl, show ((0 : Int) != 0) = false from rfl, cond_false, i64 (n := l - _) (by omega) (by omega)]
    unfold rm
    by_cases c : l - (r.2.1.length : Int) > 0
    · rw [if_pos c, Int.tmod_eq_emod_of_nonneg (by omega), i64 (by omega) (by omega)]
      refine congrArg some (Prod.ext ?_ rfl)
      show _ = _
      dsimp only
      omega
    · rw [if_neg c]
      rfl
  · rw [h', cond_true, if_neg h]
theorem rRoom_loop {r : Rgn} {l : Int} (hh : OkH r) (h0 : 0 ≤ l) (h1 : l ≤ 16384) : iterV (gref14_Room_0 big) big (l, (0 : Int), r) = some (rm r l, 0) := by
  have hl := hh.2.2
  have hr : 0 ≤ rm r l ∧ rm r l ≤ 16384 ∧ rm r l % 8 = 0 ∧ (0 < rm r l → (r.2.1.length : Int) + rm r l ≤ l) ∧ l < r.2.1.length + rm r l + 8 := by
    unfold rm
    split <;> omega
  refine Rg.loop_det (mk := fun i : Nat => (l, 8 * (i : Int), r)) (n := (rm r l / 8).toNat) ?_ ?_ _ 0 big (by omega) (Rg.small (n := (rm r l / 8).toNat) (by omega))
  · intro self i hi
    show href14_Room_0 self _ = _
    unfold href14_Room_0
    dsimp only
    rw [i64 (n := (r.2.1.length : Int) + 8 * i) (by omega) (by omega), i64 (n := (r.2.1.length : Int) + 8 * i + 8) (by omega) (by omega), decide_eq_true (by omega), cond_true, i64 (by omega) (by omega)]
    congr 3
  · intro self
    show href14_Room_0 self _ = _
    unfold href14_Room_0
    dsimp only
    rw [i64 (n := (r.2.1.length : Int) + 8 * _) (by omega) (by omega), i64 (n := (r.2.1.length : Int) + 8 * _ + 8) (by omega) (by omega), decide_eq_false (by omega), cond_false]
    refine congrArg some (Prod.ext ?_ rfl)
    show _ = _
    dsimp only
    omega
theorem rRoom_eq (r : Rgn) (l : Int) : cref14_Room (r, l) = some (roomS r l) := by
  show nref14_Room (iterV (gref14_Room_0 big) big) (r, l) = _
  unfold nref14_Room roomS
  dsimp only
  rw [rLimit_eq, Option.bind_some]
  rcases lim_cases r l with ⟨h, hh, h0, h1⟩ | ⟨h, h'⟩
  · rw [h, if_pos rfl, show ((0 : Int) != 0) = false from rfl, cond_false]
    exact rRoom_loop hh h0 h1
  · rw [h', cond_true, if_neg h]
    rfl

def sz (n : Int) : Int := if n ≤ 0 then 8 else (n + 7) / 8 * 8
theorem sz_bd {n : Int} (h0 : 0 ≤ n) : 8 ≤ sz n ∧ n ≤ sz n ∧ sz n ≤ n + 8 ∧ sz n % 8 = 0 := by
  unfold sz
  split <;> omega
theorem size_eq {n : Int} (h0 : 0 ≤ n) (h1 : n ≤ 100000) : cbump_size n = some (sz n) := by
  show nbump_size n = _
  unfold nbump_size
  dsimp only
  rw [i64 (n := n + 8) (by omega) (by omega), i64 (n := n + 8 - 1) (by omega) (by omega), Int.tdiv_eq_ediv_of_nonneg (by omega), i64 (n := (n + 8 - 1) / 8) (by omega) (by omega), i64 (n := (n + 8 - 1) / 8 * 8) (by omega) (by omega)]
  refine congrArg some ?_
  unfold sz
  split <;> split <;> omega
theorem rSize_eq {n : Int} (h0 : 0 ≤ n) (h1 : n ≤ 100000) : cref14_Size n = some (sz n) := by
  show nref14_Size (iterV (gref14_Size_0 big) big) n = _
  unfold nref14_Size
  have hs := sz_bd h0
  have hx : n = 0 ∨ sz n < n + 8 := by
    unfold sz
    split <;> omega
  refine Rg.loop_det (mk := fun i : Nat => (n, (i : Int) + 1)) (n := (sz n / 8 - 1).toNat) ?_ ?_ _ 0 big (by omega) (Rg.small (n := (sz n / 8 - 1).toNat) (by omega))
  · intro self i hi
    show href14_Size_0 self _ = _
    unfold href14_Size_0
    dsimp only
    rw [i64 (n := 8 * ((i : Int) + 1)) (by omega) (by omega), decide_eq_true (by omega), cond_true, i64 (by omega) (by omega)]
    rfl
  · intro self
    show href14_Size_0 self _ = _
    unfold href14_Size_0
    dsimp only
    rw [i64 (n := 8 * (((sz n / 8 - 1).toNat : Int) + 1)) (by omega) (by omega), decide_eq_false (by omega), cond_false]
    refine congrArg some ?_
    omega

/-! ### allocating -/
def grow (r : Rgn) (n : Int) : Rgn := (65536, (r.2.1 ++ List.replicate (sz n).toNat 0, ()))
def allocS (r : Rgn) (n l : Int) : Rgn × Int × Int :=
  if limS r l = 0 then (if 0 ≤ n ∧ n ≤ 4096 then (if r.2.1.length + sz n ≤ l then (grow r n, 65536 + r.2.1.length, 0) else (zR, 0, 18)) else (zR, 0, 2)) else (zR, 0, limS r l)
theorem fits {r : Rgn} {l n : Int} (hh : OkH r) (h0 : 0 ≤ l) (h1 : l ≤ 16384) (hn : 0 ≤ n) : sz n > rm r l ↔ ¬ (r.2.1.length + sz n ≤ l) := by
  have := sz_bd hn
  have := hh.2.1
  have := hh.2.2
  unfold rm
  split <;> omega
theorem grow_ok {r : Rgn} {n l : Int} (hh : OkH r) (hn : 0 ≤ n) (h1 : l ≤ 16384) (h : r.2.1.length + sz n ≤ l) : OkH (grow r n) := by
  have := sz_bd hn
  have := hh.2.1
  refine ⟨rfl, ?_, ?_⟩ <;> simp only [grow, List.length_append, List.length_replicate] <;> omega
theorem alloc_eq (r : Rgn) (n l : Int) : cbump_Alloc (r, n, l) = some (allocS r n l) := by
  show nbump_Alloc (r, n, l) = _
  unfold nbump_Alloc allocS
  dsimp only
  rw [room_eq, Option.bind_some, roomS]
  rcases lim_cases r l with ⟨h, hh, h0, h1⟩ | ⟨h, h'⟩
  rotate_left
  · rw [if_neg h, if_neg h]
    dsimp only
    rw [h', cond_true]
    rfl
  rw [h, if_pos rfl, if_pos rfl]
  dsimp only
  rw [show ((0 : Int) != 0) = false from rfl, cond_false]
  by_cases n0 : n < 0
  · rw [decide_eq_true n0, cond_true, if_neg (by omega)]; rfl
  rw [decide_eq_false n0, cond_false]
  by_cases n1 : n > 4096
  · rw [decide_eq_true n1, cond_true, if_neg (by omega)]; rfl
  have hs := sz_bd (n := n) (by omega)
  have hl := hh.2.2
  rw [decide_eq_false n1, cond_false, if_pos (by omega), size_eq (by omega) (by omega), Option.bind_some]
  by_cases c : sz n > rm r l
  · rw [decide_eq_true c, cond_true, if_neg ((fits hh h0 h1 (by omega)).1 c)]; rfl
  rw [decide_eq_false c, cond_false]
  have c' : r.2.1.length + sz n ≤ l := Decidable.not_not.1 fun k => c ((fits hh h0 h1 (by omega)).2 k)
  rw [if_pos c', Option.bind_some, i64 (by omega) (by omega), Rg.resize_eq, Option.bind_some, Rg.resizeS, if_pos hh.reg, if_pos (by omega), w64 (n := (r.2.1.length : Int)) (by omega) (by omega), hh.1, w64 (by omega) (by omega)]
  dsimp only
  rw [show ((0 : Int) != 0) = false from rfl, cond_false]
  refine congrArg some (Prod.ext ?_ rfl)
  refine Prod.ext rfl (Prod.ext ?_ rfl)
  show Rg.rsz r.2.1 _ = _ ++ _
  unfold Rg.rsz
  rw [List.take_of_length_le (by omega)]
  congr 2
  omega
theorem rFits_eq {r : Rgn} {n l : Int} (hn : 0 ≤ n) (h1 : n ≤ 4096) (hr : r.2.1.length ≤ 16384) : cref14_Fits (r, n, l) = some (decide (r.2.1.length + sz n ≤ l)) := by
  show nref14_Fits (r, n, l) = _
  unfold nref14_Fits
  dsimp only
  have := sz_bd hn
  rw [rSize_eq hn (by omega), Option.bind_some, i64 (by omega) (by omega)]
theorem great_eq (r : Rgn) : ∃ g, cref14_Great r = some g ∧ (g = false → r.2.1.length ≤ 16500) := by
  show ∃ g, nref14_Great r = some g ∧ _
  unfold nref14_Great
  by_cases h1 : (r.2.1.length : Int) > 2000
  · by_cases h2 : (r.2.1.length : Int) < 16300
    · exact ⟨true, by simp [h1, h2], by simp⟩
    · exact ⟨decide ((r.2.1.length : Int) > 16500), by simp [h1, h2], fun h => by have := of_decide_eq_false h; omega⟩
  · exact ⟨decide ((r.2.1.length : Int) > 16500), by simp [h1], fun h => by have := of_decide_eq_false h; omega⟩
theorem new_eq : cbump_New () = some ((65536, ([], ())) : Rgn) := rfl
theorem rNew_eq : cref14_New () = some ((65536, ([], ())) : Rgn) := rfl
theorem snoc0 (l : List Int) (i : Nat) : List.append (l ++ List.replicate i 0) [0] = l ++ List.replicate (i + 1) 0 := by
  show (l ++ List.replicate i 0) ++ [0] = _
  rw [List.append_assoc, List.replicate_succ']

theorem allocs_true14 (x : Rgn × Int × Int) (w : WfL [Rg.Tr, .int .i64, .int .i64] x) : claw14_BumpAllocs x = some true := by
  obtain ⟨r, n, l⟩ := x
  show nlaw14_BumpAllocs (iterV (glaw14_BumpAllocs_0 big) big) (r, n, l) = _
  unfold nlaw14_BumpAllocs
  dsimp only
  obtain ⟨g, h1, h2⟩ := great_eq r
  rw [h1, Option.bind_some]
  cases g with
  | true => rfl
  | false =>
  have hl := h2 rfl
  rw [cond_false, Rg.lim_ok (by omega), cond_true]
  rw [show ((r.1, List.append ([] : List Int) r.2.1, ()) : Rgn) = r from rfl]
  rw [room_eq, rRoom_eq, alloc_eq, rLimit_eq, Option.bind_some, Option.bind_some, Option.bind_some, Option.bind_some, new_eq, rNew_eq, Option.bind_some, Option.bind_some, Option.bind_some, Rg.same_self, Option.bind_some, cond_true, beq_self_eq_true, cond_true, beq_self_eq_true, cond_true, allocS]
  rcases lim_cases r l with ⟨h, hh, h0, h3⟩ | ⟨h, h'⟩
  rotate_left
  · rw [if_neg h, h', cond_true]
    dsimp only
    rw [show cref13_Same (zR, (0, [], ())) = some true from Rg.same_self _, Option.bind_some, cond_true, Rg.same_self, beq_self_eq_true, beq_self_eq_true]
    rfl
  rw [h, if_pos rfl, show ((0 : Int) != 0) = false from rfl, cond_false]
  by_cases n0 : n < 0
  · rw [decide_eq_true n0, cond_true, if_neg (by omega)]
    dsimp only
    rw [Option.bind_some, Option.bind_some, Rg.same_self, Option.bind_some, cond_true]
    rw [show cref13_Same (zR, (0, [], ())) = some true from Rg.same_self _, Option.bind_some, cond_true, Rg.same_self]
    rfl
  rw [decide_eq_false n0, cond_false]
  by_cases n1 : n > 4096
  · rw [decide_eq_true n1, cond_true, if_neg (by omega)]
    dsimp only
    rw [Option.bind_some, Option.bind_some, Rg.same_self, Option.bind_some, cond_true]
    rw [show cref13_Same (zR, (0, [], ())) = some true from Rg.same_self _, Option.bind_some, cond_true, Rg.same_self]
    rfl
  have hs := sz_bd (n := n) (by omega)
  have hlen := hh.2.2
  rw [decide_eq_false n1, cond_false, if_pos (by omega), rFits_eq (by omega) (by omega) hlen, Option.bind_some]
  by_cases c : r.2.1.length + sz n ≤ l
  rotate_left
  · rw [decide_eq_false c, Bool.not_false, cond_true, if_neg c]
    dsimp only
    rw [Option.bind_some, Option.bind_some, Rg.same_self, Option.bind_some, cond_true]
    rw [show cref13_Same (zR, (0, [], ())) = some true from Rg.same_self _, Option.bind_some, cond_true, Rg.same_self]
    rfl
  rw [decide_eq_true c, Bool.not_true, cond_false, if_pos c]
  dsimp only
  rw [cond_true]
  refine Eq.trans (congrArg (iterV (glaw14_BumpAllocs_0 big) big) (a₂ := (fun i : Nat => ((n, (i : Int), r, (0 : Int), (), ([] : List Int), r.1, r.2.1 ++ List.replicate i (0 : Int), (0 : Int), (), ([] : List Int), r, r.1, List.append ([] : List Int) r.2.1, grow r n, (roomS r l).1, (roomS r l).2, (roomS r l).1, (roomS r l).2, 65536 + (r.2.1.length : Int), (0 : Int)) : Y5)) 0) (by simp)) ?_
  refine Rg.loop_det (mk := fun i : Nat => ((n, (i : Int), r, (0 : Int), (), ([] : List Int), r.1, r.2.1 ++ List.replicate i (0 : Int), (0 : Int), (), ([] : List Int), r, r.1, List.append ([] : List Int) r.2.1, grow r n, (roomS r l).1, (roomS r l).2, (roomS r l).1, (roomS r l).2, 65536 + (r.2.1.length : Int), (0 : Int)) : Y5)) (n := (sz n).toNat) ?_ ?_ (sz n).toNat 0 big (by omega) (Rg.small (n := (sz n).toNat) (by omega))
  · intro self i hi
    show hlaw14_BumpAllocs_0 self _ = _
    unfold hlaw14_BumpAllocs_0
    dsimp only
    rw [rSize_eq (by omega) (by omega), Option.bind_some, decide_eq_true (by omega), cond_true, show (Nat.ble 1 1 && Nat.ble (List.length (r.2.1 ++ List.replicate i (0 : Int)) + List.length [(0 : Int)]) lim) = true by
      have := Rg.lim_ok (l := r.2.1 ++ List.replicate (i + 1) (0 : Int)) (by simp; omega)
      simpa [Nat.add_assoc] using this, cond_true, snoc0, i64 (by omega) (by omega)]
    rfl
  · intro self
    show hlaw14_BumpAllocs_0 self _ = _
    unfold hlaw14_BumpAllocs_0
    dsimp only
    rw [rSize_eq (by omega) (by omega), Option.bind_some, decide_eq_false (by omega), cond_false, w64 (n := (r.2.1.length : Int)) (by omega) (by omega), w64 (by omega) (by omega), new_eq, rNew_eq, Option.bind_some, Option.bind_some, Rg.same_self, Option.bind_some, cond_true, beq_self_eq_true, cond_true, beq_self_eq_true, cond_true]
    rw [show cref13_Same (grow r n, (r.1, r.2.1 ++ List.replicate (sz n).toNat 0, ())) = some true by rw [hh.1]; exact Rg.same_self _, Option.bind_some, cond_true, beq_self_eq_true, cond_true]
    rw [show cref13_Same ((r.1, List.append ([] : List Int) r.2.1, ()), r) = some true from Rg.same_self r]
    rfl
end Bp
end Go.Proofs.Ytlmhokakghbciaa
