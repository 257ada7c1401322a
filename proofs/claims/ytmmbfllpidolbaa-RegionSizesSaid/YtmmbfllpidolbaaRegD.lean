/- Package region: lists of regions, what is stored last, and the laws RegionFinds, RegionLast, RegionOutside and RegionSizes. -/
import Derived.Test.YtmmbfllpidolbaaRegC
set_option linter.unusedVariables false
set_option linter.unusedSimpArgs false
set_option maxRecDepth 100000
namespace Go.Proofs.Ytmmbfllpidolbaa
open Go.Lift
namespace Rg

/-! ### loops that leave -/
theorem loop_all {V β : Type} {g : (V → Option β) → V → Option β} {mk : Nat → V} {p : Nat → Bool} {no kk : Option β} {n : Nat} (hs : ∀ self i, i < n → g self (mk i) = bif p i then self (mk (i + 1)) else no) (he : (∀ j, j < n → p j = true) → ∀ self, g self (mk n) = kk) :
    ∀ (k i M : Nat), i + k = n → k < M → (∀ j, j < i → p j = true) → iterV g M (mk i) = bif (List.range' i k).all p then kk else no
  | k, i, 0, _, h, _ => by omega
  | 0, i, M + 1, hi, _, hp => by
    rw [iterV_succ, show i = n by omega, he (fun j hj => hp j (by omega))]
    rfl
  | k + 1, i, M + 1, hi, hM, hp => by
    rw [iterV_succ, hs _ i (by omega), List.range'_succ, List.all_cons]
    cases hq : p i with
    | false => rfl
    | true =>
      rw [cond_true, Bool.true_and]
      exact loop_all hs he k (i + 1) M (by omega) (by omega) (fun j hj => by
        by_cases e : j = i
        · rw [e]; exact hq
        · exact hp j (by omega))
theorem loop_or {V β : Type} {g : (V → Option β) → V → Option β} {mk : Nat → V} {q : Nat → Option β} {n : Nat} {r : Option β} (hs : ∀ self i, i < n → g self (mk i) = (q i).or (self (mk (i + 1)))) (he : ∀ self, g self (mk n) = r) :
    ∀ (k i M : Nat), i + k = n → k < M → iterV g M (mk i) = ((List.range' i k).findSome? q).or r
  | k, i, 0, _, h => by omega
  | 0, i, M + 1, hi, _ => by
    rw [iterV_succ, show i = n by omega, he]
    rfl
  | k + 1, i, M + 1, hi, hM => by
    rw [iterV_succ, hs _ i (by omega), List.range'_succ, List.findSome?_cons]
    cases q i with
    | some z => rfl
    | none =>
      rw [Option.none_or]
      exact loop_or hs he k (i + 1) M (by omega) (by omega)
theorem getD_get {l : List Rgn} {i : Nat} (h : i < l.length) : l.getD i zR = l[i] := by simp [h]
theorem succ64 {i : Nat} (h : i ≤ 1000000) : IntKind.i64.wrap ((i : Int) + 1) = ((i + 1 : Nat) : Int) := by
  rw [i64 (by omega) (by omega)]
  rfl

/-! ### lists -/
def Ovl (a b : Rgn) : Prop := 0 < a.2.1.length ∧ 0 < b.2.1.length ∧ a.1 < b.1 + b.2.1.length ∧ b.1 < a.1 + a.2.1.length
instance (a b : Rgn) : Decidable (Ovl a b) := by unfold Ovl; infer_instance
theorem ovl_eq {a b : Rgn} (ha : OkR a) (hb : OkR b) : cregion_overlap (a, b) = some (decide (Ovl a b)) := by
  show nregion_overlap (a, b) = _
  unfold nregion_overlap
  dsimp only
  rw [end_eq ha, end_eq hb, Option.bind_some, Option.bind_some]
  refine congrArg some (decide_eq_decide.2 ?_)
  unfold Ovl
  split <;> split <;> constructor <;> (intro h; omega)
theorem meet_eq {x y : Rgn} (hx : OkR x) (hy : OkR y) : cref13_Meet (x, y) = some (decide (Ovl y x)) := by
  show nref13_Meet (iterV (gref13_Meet_0 big) big) (x, y) = _
  unfold nref13_Meet
  have hl := hx.2
  have h1 := hx.1.2
  have e0 : ((0 : Int), x, y) = (fun i : Nat => ((i : Int), x, y)) 0 := rfl
  dsimp only
  rw [e0, loop_all (g := gref13_Meet_0 big) (mk := fun i : Nat => ((i : Int), x, y)) (p := fun i => !decide (HasR y (x.1 + (i : Int)) 1)) (no := some true) (kk := some false) (n := x.2.1.length) ?_ ?_ x.2.1.length 0 big (by omega) (small (by omega)) (fun j hj => by omega)]
  · by_cases h : Ovl y x
    · rw [decide_eq_true h]
      have : (List.range' 0 x.2.1.length).all (fun i => !decide (HasR y (x.1 + (i : Int)) 1)) = false := by
        rw [List.all_eq_false]
        obtain ⟨g1, g2, g3, g4⟩ := h
        refine ⟨(max y.1 x.1 - x.1).toNat, List.mem_range'_1.2 ⟨by omega, by omega⟩, ?_⟩
        rw [decide_eq_true (by unfold HasR; omega)]
        decide
      rw [this]
      rfl
    · rw [decide_eq_false h]
      have : (List.range' 0 x.2.1.length).all (fun i => !decide (HasR y (x.1 + (i : Int)) 1)) = true := by
        rw [List.all_eq_true]
        intro i hi
        have hi := (List.mem_range'_1.1 hi).2
        rw [decide_eq_false (fun hh => h ?_)]
        · rfl
        · obtain ⟨g1, g2⟩ := hh
          unfold Ovl
          omega
      rw [this]
      rfl
  · intro self i hi
    show href13_Meet_0 self _ = _
    unfold href13_Meet_0
    dsimp only
    rw [decide_eq_true (by omega), cond_true, w64 (n := (i : Int)) (by omega) (by omega), w64 (by omega) (by omega), rIn_eq hy _ (by omega), Option.bind_some, succ64 (by omega)]
    cases decide (HasR y (x.1 + (i : Int)) 1) <;> rfl
  · intro _ self
    show href13_Meet_0 self _ = _
    unfold href13_Meet_0
    dsimp only
    rw [decide_eq_false (by omega), cond_false]

def okL (l : List Rgn) : Bool := (List.range' 0 l.length).all fun i => decide (OkR (l.getD i zR))
def twL (l : List Rgn) : Bool := (List.range' 0 l.length).all fun i => (List.range' 0 i).all fun k => !decide (Ovl (l.getD k zR) (l.getD i zR))
def lstS (l : List Rgn) : Int := if l.length > 17 then 4 else (bif okL l then (bif twL l then 0 else 14) else 8)
theorem okL_at {l : List Rgn} (h : okL l = true) {i : Nat} (hi : i < l.length) : OkR l[i] := by
  unfold okL at h
  rw [List.all_eq_true] at h
  have := of_decide_eq_true (h i (List.mem_range'_1.2 ⟨by omega, by omega⟩))
  rwa [getD_get hi] at this
theorem check1_eq (r : Rgn) (h : OkR r) : cregion_Check r = some 0 := by rw [Check_eq, if_pos h]
theorem checkList_eq (l : List Rgn) : cregion_checkList l = some (lstS l) := by
  show nregion_checkList (iterV (gregion_checkList_0 big) big) l = _
  unfold nregion_checkList lstS
  by_cases h : l.length > 17
  · rw [decide_eq_true (by omega), cond_true, if_pos h]
  rw [decide_eq_false (by omega), cond_false, if_neg h]
  have e0 : (l, l, (l.length : Int), (0 : Int)) = (fun i : Nat => (l, l, (l.length : Int), (i : Int))) 0 := rfl
  rw [e0, loop_all (g := gregion_checkList_0 big) (mk := fun i : Nat => (l, l, (l.length : Int), (i : Int))) (p := fun i => decide (OkR (l.getD i zR))) (no := some 8) (kk := some (bif twL l then 0 else 14)) (n := l.length) ?_ ?_ l.length 0 big (by omega) (small (by omega)) (fun j hj => by omega)]
  · show (bif okL l then _ else _) = _
    cases okL l <;> rfl
  · intro self i hi
    show hregion_checkList_0 _ self _ = _
    unfold hregion_checkList_0
    dsimp only
    rw [decide_eq_true (by omega), cond_true, getI_at hi, Option.bind_some, Check_eq, Option.bind_some, getD_get hi, succ64 (by omega)]
    by_cases h : OkR l[i]
    · rw [if_pos h, decide_eq_true h]; rfl
    · rw [if_neg h, decide_eq_false h]; rfl
  · intro hok self
    have hok' : ∀ i (hi : i < l.length), OkR l[i] := fun i hi => by
      have := of_decide_eq_true (hok i hi)
      rwa [getD_get hi] at this
    show hregion_checkList_0 (iterV (gregion_checkList_1 big self) big) self _ = _
    unfold hregion_checkList_0
    dsimp only
    rw [decide_eq_false (by omega), cond_false, e0, loop_all (g := gregion_checkList_1 big self) (mk := fun i : Nat => (l, l, (l.length : Int), (i : Int))) (p := fun i => (List.range' 0 i).all fun k => !decide (Ovl (l.getD k zR) (l.getD i zR))) (no := some 14) (kk := some 0) (n := l.length) ?_ ?_ l.length 0 big (by omega) (small (by omega)) (fun j hj => by omega)]
    · show (bif twL l then _ else _) = _
      cases twL l <;> rfl
    · intro self1 i hi
      show hregion_checkList_1 (iterV (gregion_checkList_2 big self self1) big) self self1 _ = _
      unfold hregion_checkList_1
      dsimp only
      have hlt : (l.take i).length = i := by rw [List.length_take]; omega
      rw [decide_eq_true (by omega), cond_true, getI_at hi, Option.bind_some, decide_eq_true (p := 0 ≤ (i : Int)) (by omega), decide_eq_true (p := (i : Int) ≤ _) (by omega), Bool.and_true, cond_true, Int.toNat_natCast, hlt]
      have e1 : (l, l, (l.length : Int), (i : Int), l.take i, (i : Int), (0 : Int), l[i]) = (fun k : Nat => (l, l, (l.length : Int), (i : Int), l.take i, (i : Int), (k : Int), l[i])) 0 := rfl
      rw [e1, loop_all (g := gregion_checkList_2 big self self1) (mk := fun k : Nat => (l, l, (l.length : Int), (i : Int), l.take i, (i : Int), (k : Int), l[i])) (p := fun k => !decide (Ovl (l.getD k zR) (l.getD i zR))) (no := some 14) (kk := self1 (l, l, (l.length : Int), ((i + 1 : Nat) : Int))) (n := i) ?_ ?_ i 0 big (by omega) (small (by omega)) (fun j hj => by omega)]
      · intro self2 k hk
        show hregion_checkList_2 self self1 self2 _ = _
        unfold hregion_checkList_2
        dsimp only
        have hk2 : k < (l.take i).length := by omega
        rw [decide_eq_true (by omega), cond_true, getI_at hk2, Option.bind_some, List.getElem_take, ovl_eq (hok' k (by omega)) (hok' i hi), Option.bind_some, getD_get hi, getD_get (show k < l.length by omega), succ64 (by omega)]
        cases decide (Ovl l[k] l[i]) <;> rfl
      · intro _ self2
        show hregion_checkList_2 self self1 self2 _ = _
        unfold hregion_checkList_2
        dsimp only
        rw [decide_eq_false (by omega), cond_false, succ64 (by omega)]
    · intro _ self1
      show hregion_checkList_1 (iterV (gregion_checkList_2 big self self1) big) self self1 _ = _
      unfold hregion_checkList_1
      dsimp only
      rw [decide_eq_false (by omega), cond_false]
theorem listed_eq (l : List Rgn) : cref13_Listed l = some (lstS l) := by
  show nref13_Listed (iterV (gref13_Listed_0 big) big) l = _
  unfold nref13_Listed lstS
  by_cases h : l.length > 17
  · rw [decide_eq_true (by omega), cond_true, if_pos h]
  rw [decide_eq_false (by omega), cond_false, if_neg h]
  have e0 : (l, (0 : Int)) = (fun i : Nat => (l, (i : Int))) 0 := rfl
  rw [e0, loop_all (g := gref13_Listed_0 big) (mk := fun i : Nat => (l, (i : Int))) (p := fun i => decide (OkR (l.getD i zR))) (no := some 8) (kk := some (bif twL l then 0 else 14)) (n := l.length) ?_ ?_ l.length 0 big (by omega) (small (by omega)) (fun j hj => by omega)]
  · show (bif okL l then _ else _) = _
    cases okL l <;> rfl
  · intro self i hi
    show href13_Listed_0 _ self _ = _
    unfold href13_Listed_0
    dsimp only
    rw [decide_eq_true (by omega), cond_true, getI_at hi, Option.bind_some, rCheck_eq, Option.bind_some, getD_get hi, succ64 (by omega)]
    by_cases h : OkR l[i]
    · rw [if_pos h, decide_eq_true h]; rfl
    · rw [if_neg h, decide_eq_false h]; rfl
  · intro hok self
    have hok' : ∀ i (hi : i < l.length), OkR l[i] := fun i hi => by
      have := of_decide_eq_true (hok i hi)
      rwa [getD_get hi] at this
    show href13_Listed_0 (iterV (gref13_Listed_1 big self) big) self _ = _
    unfold href13_Listed_0
    dsimp only
    rw [decide_eq_false (by omega), cond_false, e0, loop_all (g := gref13_Listed_1 big self) (mk := fun i : Nat => (l, (i : Int))) (p := fun i => (List.range' 0 i).all fun k => !decide (Ovl (l.getD k zR) (l.getD i zR))) (no := some 14) (kk := some 0) (n := l.length) ?_ ?_ l.length 0 big (by omega) (small (by omega)) (fun j hj => by omega)]
    · show (bif twL l then _ else _) = _
      cases twL l <;> rfl
    · intro self1 i hi
      show href13_Listed_1 (iterV (gref13_Listed_2 big self self1) big) self self1 _ = _
      unfold href13_Listed_1
      dsimp only
      have e1 : (l, (i : Int), (0 : Int)) = (fun k : Nat => (l, (i : Int), (k : Int))) 0 := rfl
      rw [decide_eq_true (by omega), cond_true, e1, loop_all (g := gref13_Listed_2 big self self1) (mk := fun k : Nat => (l, (i : Int), (k : Int))) (p := fun k => !decide (Ovl (l.getD k zR) (l.getD i zR))) (no := some 14) (kk := self1 (l, ((i + 1 : Nat) : Int))) (n := i) ?_ ?_ i 0 big (by omega) (small (by omega)) (fun j hj => by omega)]
      · intro self2 k hk
        show href13_Listed_2 self self1 self2 _ = _
        unfold href13_Listed_2
        dsimp only
        rw [decide_eq_true (by omega), cond_true, getI_at hi, getI_at (show k < l.length by omega), Option.bind_some, Option.bind_some, meet_eq (hok' i hi) (hok' k (by omega)), Option.bind_some, getD_get hi, getD_get (show k < l.length by omega), succ64 (by omega)]
        cases decide (Ovl l[k] l[i]) <;> rfl
      · intro _ self2
        show href13_Listed_2 self self1 self2 _ = _
        unfold href13_Listed_2
        dsimp only
        rw [decide_eq_false (by omega), cond_false, succ64 (by omega)]
    · intro _ self1
      show href13_Listed_1 (iterV (gref13_Listed_2 big self self1) big) self self1 _ = _
      unfold href13_Listed_1
      dsimp only
      rw [decide_eq_false (by omega), cond_false]

def fndQ (l : List Rgn) (a n : Int) (i : Nat) : Option (Int × Int) := if HasR (l.getD i zR) a n then some ((i : Int), 0) else none
def fndS (l : List Rgn) (a n : Int) : Int × Int := bif lstS l != 0 then (0, lstS l) else if n < 1 then (0, 2) else ((List.range' 0 l.length).findSome? (fndQ l a n)).getD (0, 6)
theorem lst0 {l : List Rgn} (h : (lstS l != 0) = false) : l.length ≤ 17 ∧ okL l = true := by
  unfold lstS at h
  split at h
  · cases h
  · refine ⟨by omega, ?_⟩
    cases hh : okL l with
    | true => rfl
    | false => rw [hh] at h; cases h
theorem or_some {α : Type} (o : Option α) (z : α) : o.or (some z) = some (o.getD z) := by cases o <;> rfl
theorem find_eq (l : List Rgn) (a n : Int) : cregion_Find (l, a, n) = some (fndS l a n) := by
  show nregion_Find (iterV (gregion_Find_0 big) big) (l, a, n) = _
  unfold nregion_Find fndS
  dsimp only
  rw [checkList_eq, Option.bind_some]
  cases hz : (lstS l != 0) with
  | true => rfl
  | false =>
  obtain ⟨hl, hok⟩ := lst0 hz
  rw [cond_false, cond_false]
  by_cases hn : n < 1
  · rw [decide_eq_true hn, cond_true, if_pos hn]
  rw [decide_eq_false hn, cond_false, if_neg hn]
  have e0 : (a, n, l, (l.length : Int), (0 : Int)) = (fun i : Nat => (a, n, l, (l.length : Int), (i : Int))) 0 := rfl
  rw [e0, loop_or (g := gregion_Find_0 big) (mk := fun i : Nat => (a, n, l, (l.length : Int), (i : Int))) (q := fndQ l a n) (r := some (0, 6)) (n := l.length) ?_ ?_ l.length 0 big (by omega) (small (by omega)), or_some]
  · intro self i hi
    show hregion_Find_0 self _ = _
    unfold hregion_Find_0
    dsimp only
    rw [decide_eq_true (by omega), cond_true, getI_at hi, Option.bind_some]
    refine (part_eq (okL_at hok hi) a (n := n) (by omega) (self (a, n, l, (l.length : Int), IntKind.i64.wrap ((i : Int) + 1))) (fun _ => some ((i : Int), 0))).trans ?_
    unfold fndQ
    rw [getD_get hi, succ64 (by omega)]
    by_cases h : HasR l[i] a n
    · rw [if_pos h, if_pos h]; rfl
    · rw [if_neg h, if_neg h]; rfl
  · intro self
    show hregion_Find_0 self _ = _
    unfold hregion_Find_0
    dsimp only
    rw [decide_eq_false (by omega), cond_false]
theorem rFind_eq (l : List Rgn) (a n : Int) : cref13_Find (l, a, n) = some (fndS l a n) := by
  show nref13_Find (iterV (gref13_Find_0 big) big) (l, a, n) = _
  unfold nref13_Find fndS
  dsimp only
  rw [listed_eq, Option.bind_some]
  cases hz : (lstS l != 0) with
  | true => rfl
  | false =>
  obtain ⟨hl, hok⟩ := lst0 hz
  rw [cond_false, cond_false]
  by_cases hn : n < 1
  · rw [decide_eq_true hn, cond_true, if_pos hn]
  rw [decide_eq_false hn, cond_false, if_neg hn]
  have e0 : (l, a, n, (0 : Int)) = (fun i : Nat => (l, a, n, (i : Int))) 0 := rfl
  rw [e0, loop_or (g := gref13_Find_0 big) (mk := fun i : Nat => (l, a, n, (i : Int))) (q := fndQ l a n) (r := some (0, 6)) (n := l.length) ?_ ?_ l.length 0 big (by omega) (small (by omega)), or_some]
  · intro self i hi
    show href13_Find_0 self _ = _
    unfold href13_Find_0
    dsimp only
    rw [decide_eq_true (by omega), cond_true, getI_at hi, Option.bind_some, rIn_eq (okL_at hok hi) a (by omega), Option.bind_some, succ64 (by omega)]
    unfold fndQ
    rw [getD_get hi]
    by_cases h : HasR l[i] a n
    · rw [if_pos h, decide_eq_true h]; rfl
    · rw [if_neg h, decide_eq_false h]; rfl
  · intro self
    show href13_Find_0 self _ = _
    unfold href13_Find_0
    dsimp only
    rw [decide_eq_false (by omega), cond_false]
theorem finds_true13 (x : List Rgn × Int × Int) : claw13_RegionFinds x = some true := by
  obtain ⟨l, a, n⟩ := x
  show nlaw13_RegionFinds (iterV (glaw13_RegionFinds_0 big) big) (l, a, n) = _
  unfold nlaw13_RegionFinds
  dsimp only
  by_cases h : l.length > 25
  · rw [decide_eq_true (by omega), cond_true]
  rw [decide_eq_false (by omega), cond_false]
  have e0 : (l, a, n, (0 : Int)) = (fun i : Nat => (l, a, n, (i : Int))) 0 := rfl
  rw [e0, loop_or (g := glaw13_RegionFinds_0 big) (mk := fun i : Nat => (l, a, n, (i : Int))) (q := fun i => if cref13_Great (l.getD i zR) = some true then some true else none) (r := some true) (n := l.length) ?_ ?_ l.length 0 big (by omega) (small (by omega)), or_some]
  · refine congrArg some ?_
    cases hq : (List.range' 0 l.length).findSome? (fun i => if cref13_Great (l.getD i zR) = some true then some true else none) with
    | none => rfl
    | some z =>
      obtain ⟨i, _, hi⟩ := List.exists_of_findSome?_eq_some hq
      split at hi
      · cases hi; rfl
      · cases hi
  · intro self i hi
    show hlaw13_RegionFinds_0 self _ = _
    unfold hlaw13_RegionFinds_0
    dsimp only
    obtain ⟨g, h1, _⟩ := great_eq l[i]
    rw [decide_eq_true (by omega), cond_true, getI_at hi, Option.bind_some, getD_get hi, h1, Option.bind_some, succ64 (by omega)]
    cases g <;> rfl
  · intro self
    show hlaw13_RegionFinds_0 self _ = _
    unfold hlaw13_RegionFinds_0
    dsimp only
    rw [decide_eq_false (by omega), cond_false, find_eq, rFind_eq, Option.bind_some, Option.bind_some, beq_self_eq_true, cond_true, beq_self_eq_true]

/-! ### what was stored last -/
theorem alive13 : claw13_alive () = some true := by decide +kernel
theorem put_ok {r : Rgn} (h : OkR r) {a : Int} {b : List Int} (hh : HasR r a b.length) : OkR (putB r a b) ∧ (putB r a b).2.1.length = r.2.1.length := by
  have hl : (putB r a b).2.1.length = r.2.1.length := put_len _ _ _ (by have := hh.1; have := hh.2; omega)
  exact ⟨⟨h.1, by rw [hl]; exact h.2⟩, hl⟩
theorem put_bytes {r : Rgn} (h : Bytes r.2.1) (a : Int) {b : List Int} (hb : Bytes b) : Bytes (putB r a b).2.1 := fun c hc => by
  rcases List.mem_append.1 hc with hc | hc
  · exact h c (List.mem_of_mem_take hc)
  · rcases List.mem_append.1 hc with hc | hc
    · exact hb c hc
    · exact h c (List.mem_of_mem_drop hc)
theorem prt_put {r : Rgn} {a : Int} {b : List Int} (hh : HasR r a b.length) : prt (putB r a b) a b.length = b := by
  unfold prt putB
  dsimp only
  have e1 : (r.2.1.take (a - r.1).toNat).length = (a - r.1).toNat := by
    rw [List.length_take]
    have := hh.1
    have := hh.2
    omega
  rw [List.drop_append_of_le_length (by omega), List.drop_of_length_le (by omega), List.nil_append, Int.toNat_natCast, List.take_append_of_le_length (Nat.le_refl _), List.take_length]
theorem prt_apart {r : Rgn} {a : Int} {b : List Int} (hh : HasR r a b.length) {c n : Int} (hn : 0 ≤ n) (hc : HasR r c n) (h : a + b.length ≤ c ∨ c + n ≤ a) : prt (putB r a b) c n = prt r c n := by
  obtain ⟨h1, h2⟩ := hh
  obtain ⟨h3, h4⟩ := hc
  unfold prt putB
  dsimp only
  apply List.ext_getElem?
  intro i
  rw [List.getElem?_take, List.getElem?_take]
  split
  · rename_i hi
    rw [List.getElem?_drop, List.getElem?_drop]
    have e1 : (r.2.1.take (a - r.1).toNat).length = (a - r.1).toNat := by rw [List.length_take]; omega
    rcases h with h | h
    · rw [List.getElem?_append_right (by omega), e1, List.getElem?_append_right (by omega), List.getElem?_drop]
      congr 1
      omega
    · rw [List.getElem?_append_left (by omega), List.getElem?_take, if_pos (by omega)]
  · rfl
theorem last_true13 (x : Rgn × Int × Int × Int × Int × Int) (w : WfL [Tr, .int .u64, .int .u64, .int .i64, .int .i64, .int .u64] x) : claw13_RegionLast x = some true := by
  obtain ⟨r, a, b, wd, u, v⟩ := x
  obtain ⟨wr, wa, wb, _, _, wv⟩ := w
  have hb : Bytes r.2.1 := wf_bytes wr.2.1
  have hv := wf_u64 wv
  dsimp only at hv
  show nlaw13_RegionLast (r, a, b, wd, u, v) = _
  unfold nlaw13_RegionLast
  dsimp only
  rw [alive13, Option.bind_some, rCheck_eq, Option.bind_some]
  by_cases h : OkR r
  rotate_left
  · rw [ok8 h]; rfl
  rw [ok0 h, cond_false]
  by_cases hl : (r.2.1.length : Int) > 500
  · rw [decide_eq_true hl]; rfl
  rw [decide_eq_false hl, cond_false, Bool.not_true, cond_false, store_eq r a wd hv.1, load_eq hb, Option.bind_some, Option.bind_some]
  rw [storeS, if_pos h]
  by_cases hw : Wd wd ∧ ¬ (wd = 1 ∧ v > 255)
  rotate_left
  · rw [if_neg hw]; rfl
  rw [if_pos hw]
  by_cases hh : HasR r a wd
  rotate_left
  · rw [if_neg hh]; rfl
  rw [if_pos hh]
  dsimp only
  have hw' := hw.1
  unfold Wd at hw'
  have hlen : ((leB wd.toNat v).length : Int) = wd := by rw [leB_len]; omega
  have hh2 : HasR r a (leB wd.toNat v).length := by rw [hlen]; exact hh
  obtain ⟨k1, k2⟩ := put_ok h hh2
  have k3 := put_bytes hb a (leB_bytes wd.toNat v)
  have hhas : ∀ c n, HasR (putB r a (leB wd.toNat v)) c n ↔ HasR r c n := fun c n => by
    unfold HasR
    rw [k2]
    exact Iff.rfl
  rw [show ((0 : Int) != 0) = false from rfl, cond_false, load_eq k3, load_eq k3, Option.bind_some, Option.bind_some]
  have e1 : loadS (putB r a (leB wd.toNat v)) a wd = (v, 0) := by
    have := prt_put hh2
    rw [hlen] at this
    rw [loadS, if_pos k1, if_pos hw.1, if_pos ((hhas a wd).2 hh), this, leW_leB _ _ hv.1]
    rcases hw' with rfl | rfl
    · have := hw.2
      show v < 256 ^ 1
      omega
    · show v < 256 ^ 8
      omega
  rw [e1]
  dsimp only
  rw [show ((0 : Int) != 0) = false from rfl, cond_false, show (v != v) = false by simp, cond_false]
  have e2 : (loadS (putB r a (leB wd.toNat v)) b u).2 = (loadS r b u).2 := by
    rw [loadS, loadS, if_pos k1, if_pos h]
    by_cases hu : Wd u
    · rw [if_pos hu, if_pos hu]
      by_cases hc : HasR r b u
      · rw [if_pos hc, if_pos ((hhas b u).2 hc)]
      · rw [if_neg hc, if_neg (fun hc' => hc ((hhas b u).1 hc'))]
    · rw [if_neg hu, if_neg hu]
  have e3 : (loadS r b u).2 ≠ 0 ∨ (Wd u ∧ HasR r b u) := by
    rw [loadS, if_pos h]
    by_cases hu : Wd u
    · rw [if_pos hu]
      by_cases hc : HasR r b u
      · exact .inr ⟨hu, hc⟩
      · rw [if_neg hc]; exact .inl (by decide)
    · rw [if_neg hu]; exact .inl (by decide)
  have e4 : Wd u → HasR r b u → (a + wd ≤ b ∨ b + u ≤ a) → (loadS (putB r a (leB wd.toNat v)) b u).1 = (loadS r b u).1 := fun hu hc hap => by
    rw [loadS, loadS, if_pos k1, if_pos h, if_pos hu, if_pos hu, if_pos hc, if_pos ((hhas b u).2 hc)]
    dsimp only
    rw [prt_apart hh2 (by unfold Wd at hu; omega) hc (by rw [hlen]; exact hap)]
  rw [e2, show ((loadS r b u).2 != (loadS r b u).2) = false by simp, cond_false, rCheck_eq, Option.bind_some, ok0 k1, cond_false, k2, show ((r.2.1.length : Int) != r.2.1.length) = false by simp, cond_false, cond_true, cond_true]
  have h' := h
  obtain ⟨⟨_, g1, g2⟩, g3⟩ := h'
  obtain ⟨g4, g5⟩ := hh
  rw [w64 (n := wd) (by omega) (by omega), w64 (n := a + wd) (by omega) (by omega)]
  rcases e3 with e3 | ⟨hu, hc⟩
  · rw [bne_iff_ne.2 e3]
    cases decide (b ≥ a + wd) <;> rfl
  · have hu' := hu
    have hc' := hc
    unfold Wd at hu'
    unfold HasR at hc'
    rw [w64 (n := u) (by omega) (by omega), w64 (n := b + u) (by omega) (by omega)]
    have z : ((loadS r b u).2 != 0) = false := by
      rw [loadS, if_pos h, if_pos hu, if_pos hc]
      rfl
    rw [z, cond_false, cond_false]
    by_cases q1 : b ≥ a + wd
    · rw [decide_eq_true q1, cond_true, e4 hu hc (.inl q1), beq_self_eq_true]
    · rw [decide_eq_false q1, cond_false]
      by_cases q2 : a ≥ b + u
      · rw [decide_eq_true q2, Bool.not_true, cond_false, e4 hu hc (.inr q2), beq_self_eq_true]
      · rw [decide_eq_false q2]
        rfl
end Rg
end Go.Proofs.Ytmmbfllpidolbaa
