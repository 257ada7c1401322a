/- Package bump: putting bytes and texts, by the program and by the reference of layer 14. -/
import Derived.Test.YtlmhokakghbciaaBmpE
import Derived.Test.YtlmhokakghbciaaBmpT
set_option linter.unusedVariables false
set_option linter.unusedSimpArgs false
set_option maxRecDepth 100000
namespace Go.Proofs.Ytlmhokakghbciaa
open Go.Lift
namespace Bp
open Rg (Rgn zR OkR w64 i64)

/-- bytes and zeros up to the size of their allocation -/
def pad (b : List Int) : List Int := b ++ List.replicate ((sz b.length).toNat - b.length) 0
theorem pad_len (b : List Int) : ((pad b).length : Int) = sz b.length := by
  have := sz_bd (n := (b.length : Int)) (by omega)
  simp only [pad, List.length_append, List.length_replicate]
  omega
def full (r : Rgn) (b : List Int) : Rgn := (65536, (r.2.1 ++ pad b, ()))
theorem full_len (r : Rgn) (b : List Int) : ((full r b).2.1.length : Int) = r.2.1.length + sz b.length := by
  have := pad_len b
  simp only [full, List.length_append]
  omega
theorem full_ok {r : Rgn} {b : List Int} {l : Int} (hh : OkH r) (h1 : l ≤ 16384) (h : r.2.1.length + sz b.length ≤ l) : OkH (full r b) := by
  have := full_len r b
  have := sz_bd (n := (b.length : Int)) (by omega)
  have := hh.2.1
  exact ⟨rfl, by omega, by omega⟩
theorem put_grow {r : Rgn} {b : List Int} (hh : OkH r) : Rg.putB (grow r b.length) (65536 + (r.2.1.length : Int)) b = full r b := by
  have hs := sz_bd (n := (b.length : Int)) (by omega)
  unfold Rg.putB grow full pad
  dsimp only
  refine Prod.ext rfl (Prod.ext ?_ rfl)
  dsimp only
  rw [show (65536 + (r.2.1.length : Int) - 65536).toNat = r.2.1.length by omega, List.take_left, List.drop_append, List.drop_eq_nil_of_le (by omega), List.nil_append, List.drop_replicate]
  congr 3
  omega

def putF (r : Rgn) (b : List Int) (l : Int) : Rgn × Int × Int :=
  if limS r l = 0 then (if b.length ≤ 4096 then (if r.2.1.length + sz b.length ≤ l then (full r b, 65536 + (r.2.1.length : Int), 0) else (zR, 0, 18)) else (zR, 0, 2)) else (zR, 0, limS r l)
theorem put_eq (r : Rgn) (b : List Int) (l : Int) : cbump_Put (r, b, l) = some (putF r b l) := by
  show nbump_Put (r, b, l) = _
  unfold nbump_Put putF
  dsimp only
  rw [alloc_eq, Option.bind_some, allocS]
  rcases lim_cases r l with ⟨h, hh, h0, h1⟩ | ⟨h, h'⟩
  rotate_left
  · rw [if_neg h, if_neg h]
    dsimp only
    rw [h', cond_true]
    rfl
  rw [if_pos h, if_pos h]
  by_cases n1 : b.length ≤ 4096
  rotate_left
  · rw [if_neg (by omega), if_neg n1]; rfl
  rw [if_pos (by omega), if_pos n1]
  by_cases c : r.2.1.length + sz b.length ≤ l
  rotate_left
  · rw [if_neg c, if_neg c]; rfl
  rw [if_pos c, if_pos c]
  dsimp only
  have hs := sz_bd (n := (b.length : Int)) (by omega)
  have hg := grow_ok hh (n := (b.length : Int)) (by omega) h1 c
  have hlen := grow_len r (n := (b.length : Int)) (by omega)
  rw [show ((0 : Int) != 0) = false from rfl, cond_false, Rg.write_eq, Option.bind_some, Rg.writeS, if_pos hg.reg, if_pos (show Rg.HasR (grow r b.length) (65536 + (r.2.1.length : Int)) b.length by
    constructor
    · show (65536 : Int) ≤ _
      omega
    · rw [hlen]
      show _ ≤ (65536 : Int) + _
      omega), put_grow hh]
  rfl

theorem set_zeros (a b : List Int) (k : Nat) (i : Nat) (hi : i < b.length) (hk : b.length ≤ k) : List.set (a ++ (b.take i ++ List.replicate (k - i) 0)) (a.length + i) b[i] = a ++ (b.take (i + 1) ++ List.replicate (k - (i + 1)) 0) := by
  have hbl : (b.take i).length = i := by rw [List.length_take]; omega
  rw [List.set_append_right _ _ (by omega), show a.length + i - a.length = i by omega, List.set_append_right _ _ (by omega), hbl, Nat.sub_self, show k - i = (k - (i + 1)) + 1 by omega, List.replicate_succ, List.set_cons_zero, List.take_succ_eq_append_getElem hi, List.append_assoc]
  rfl
theorem rPut_in {r : Rgn} {b : List Int} {at_ : Int} {self0 : Y6 → Option Y3} (hr : r.2.1.length ≤ 16384) (hb : b.length ≤ 4096) : iterV (gref14_Put_2 big self0) big (b, at_, (0 : Int), r, (0 : Int), (), ([] : List Int), (65536 : Int), r.2.1 ++ List.replicate (sz b.length).toNat 0) = some (full r b, at_, 0) := by
  have hs := sz_bd (n := (b.length : Int)) (by omega)
  refine Rg.loop_det (mk := fun i : Nat => ((b, at_, (i : Int), r, (0 : Int), (), ([] : List Int), (65536 : Int), r.2.1 ++ (b.take i ++ List.replicate ((sz b.length).toNat - i) 0)) : Y7)) (n := b.length) ?_ ?_ b.length 0 big (by omega) (Rg.small (n := b.length) (by omega))
  · intro self i hi
    show href14_Put_2 self0 self _ = _
    unfold href14_Put_2
    dsimp only
    rw [decide_eq_true (by omega), cond_true, getI_at hi, Option.bind_some, i64 (by omega) (by omega), decide_eq_true (p := 0 ≤ (r.2.1.length : Int) + i) (by omega), decide_eq_true (by simp; omega), Bool.and_true, cond_true, show ((r.2.1.length : Int) + (i : Int)).toNat = r.2.1.length + i by omega, set_zeros _ _ _ _ hi (by omega), i64 (by omega) (by omega)]
    rfl
  · intro self
    show href14_Put_2 self0 self _ = _
    unfold href14_Put_2
    dsimp only
    rw [decide_eq_false (by omega), cond_false, List.take_length]
    rfl
theorem rPut_eq (r : Rgn) (b : List Int) (l : Int) : cref14_Put (r, b, l) = some (putF r b l) := by
  show nref14_Put (iterV (gref14_Put_0 big) big) (iterV (gref14_Put_1 big) big) (r, b, l) = _
  unfold nref14_Put putF
  dsimp only
  rw [rLimit_eq, Option.bind_some]
  rcases lim_cases r l with ⟨h, hh, h0, h1⟩ | ⟨h, h'⟩
  rotate_left
  · rw [if_neg h, h', cond_true, Option.bind_some, h', cond_true]
    rfl
  rw [h, if_pos rfl, show ((0 : Int) != 0) = false from rfl, cond_false, decide_eq_false (by omega), cond_false]
  by_cases n1 : b.length ≤ 4096
  rotate_left
  · rw [decide_eq_true (by omega), cond_true, if_neg n1]; rfl
  have hs := sz_bd (n := (b.length : Int)) (by omega)
  have hlen := hh.2.2
  rw [decide_eq_false (by omega), cond_false, if_pos n1, rFits_eq (by omega) (by omega) hlen, Option.bind_some]
  by_cases c : r.2.1.length + sz b.length ≤ l
  rotate_left
  · rw [decide_eq_false c, Bool.not_false, cond_true, if_neg c]; rfl
  rw [decide_eq_true c, Bool.not_true, cond_false, if_pos c, Rg.lim_ok (by omega), cond_true]
  refine Eq.trans (congrArg (iterV (gref14_Put_1 big) big) (a₂ := (fun i : Nat => (((b.length : Int), (i : Int), r, (0 : Int), (), ([] : List Int), (65536 : Int), r.2.1 ++ List.replicate i (0 : Int), (0 : Int), (), ([] : List Int), r, (0 : Int), (), ([] : List Int), b) : Y6)) 0) (by rw [hh.1]; simp)) ?_
  refine Rg.loop_det (mk := fun i : Nat => (((b.length : Int), (i : Int), r, (0 : Int), (), ([] : List Int), (65536 : Int), r.2.1 ++ List.replicate i (0 : Int), (0 : Int), (), ([] : List Int), r, (0 : Int), (), ([] : List Int), b) : Y6)) (n := (sz b.length).toNat) ?_ ?_ (sz b.length).toNat 0 big (by omega) (Rg.small (n := (sz b.length).toNat) (by omega))
  · intro self i hi
    show href14_Put_1 _ self _ = _
    unfold href14_Put_1
    dsimp only
    rw [rSize_eq (by omega) (by omega), Option.bind_some, decide_eq_true (by omega), cond_true, show (Nat.ble 1 1 && Nat.ble (List.length (r.2.1 ++ List.replicate i (0 : Int)) + List.length [(0 : Int)]) lim) = true by
      have := Rg.lim_ok (l := r.2.1 ++ List.replicate (i + 1) (0 : Int)) (by simp; omega)
      simpa [Nat.add_assoc] using this, cond_true, snoc0, i64 (by omega) (by omega)]
    rfl
  · intro self
    show href14_Put_1 (iterV (gref14_Put_2 big self) big) self _ = _
    unfold href14_Put_1
    dsimp only
    rw [rSize_eq (by omega) (by omega), Option.bind_some, decide_eq_false (by omega), cond_false, w64 (n := (r.2.1.length : Int)) (by omega) (by omega), w64 (by omega) (by omega)]
    exact rPut_in hlen n1

/-! ### texts, one after the other -/
def runT (l : Int) : List (List Int) → Rgn → List Int → Rgn × List Int × Int
  | [], h, as_ => (h, as_, 0)
  | t :: ts, h, as_ => if (putF h t l).2.2 = 0 then runT l ts (putF h t l).1 (as_ ++ [(putF h t l).2.1]) else (zR, [], (putF h t l).2.2)
theorem fold_err {v : Pile} (h : v.2.2.2.1 ≠ 0) : ∀ ts : List (List Int), List.foldlM putS v ts = some v
  | [] => rfl
  | t :: ts => by
    rw [List.foldlM_cons]
    unfold putS
    rw [sput_err h]
    exact fold_err h ts
theorem lim_ok2 {l : List Int} {x : Int} (h : l.length ≤ 1000) : (Nat.ble 1 1 && Nat.ble (List.length l + List.length [x]) lim) = true := by
  have := Rg.lim_ok (l := l ++ [x]) (by simp; omega)
  simpa using this
theorem fold_eq (l : Int) : ∀ (ts : List (List Int)) (h : Rgn) (as_ : List Int), as_.length + ts.length ≤ 1000 → ∃ v : Pile, List.foldlM putS ((h, l, as_, 0, ()) : Pile) ts = some v ∧ (v.1, v.2.2.1, v.2.2.2.1) = runT l ts h as_
  | [], h, as_, _ => ⟨_, rfl, rfl⟩
  | t :: ts, h, as_, hl => by
    rw [List.foldlM_cons]
    simp only [List.length_cons] at hl
    have hs : sput ((h, l, as_, 0, ()) : Pile) t = if (putF h t l).2.2 = 0 then some (true, ((putF h t l).1, l, as_ ++ [(putF h t l).2.1], 0, ())) else some (false, (zR, 0, [], (putF h t l).2.2, ())) := by
      unfold sput
      dsimp only
      rw [show ((0 : Int) != 0) = false from rfl, cond_false, put_eq, Option.bind_some]
      by_cases c : (putF h t l).2.2 = 0
      · rw [if_pos c, show ((putF h t l).2.2 != 0) = false by rw [c]; rfl, cond_false, lim_ok2 (by omega), cond_true]
        rfl
      · rw [if_neg c, show ((putF h t l).2.2 != 0) = true by simpa using c, cond_true]
        rfl
    unfold putS
    rw [hs, runT]
    by_cases c : (putF h t l).2.2 = 0
    · rw [if_pos c, if_pos c, Option.bind_some]
      exact fold_eq l ts _ _ (by simp; omega)
    · rw [if_neg c, if_neg c, Option.bind_some]
      exact ⟨_, fold_err (v := ((zR, 0, [], (putF h t l).2.2, ()) : Pile)) c ts, rfl⟩

def badT (ts : List (List Int)) : Bool := ts.any fun t => decide (64 < t.length)
def textsS (ts : List (List Int)) (l : Int) : Rgn × List Int × Int :=
  if 0 ≤ l ∧ l ≤ 16384 then (if ts.length ≤ 32 then (if badT ts then (zR, [], 2) else runT l ts (65536, ([], ())) []) else (zR, [], 4)) else (zR, [], 2)

theorem bad_find {γ : Type} (z : γ) (ts : List (List Int)) : ((List.range' 0 ts.length).findSome? fun i => if 64 < (ts.getD i []).length then some z else none) = if badT ts then some z else none := by
  have key : ∀ (ts : List (List Int)) (f : Nat → List Int) (k : Nat), (∀ i, i < ts.length → f (k + i) = ts.getD i []) → ((List.range' k ts.length).findSome? fun i => if 64 < (f i).length then some z else none) = if badT ts then some z else none := by
    intro ts
    induction ts with
    | nil => intro f k _; rfl
    | cons t ts ih =>
      intro f k h
      rw [List.length_cons, List.range'_succ, List.findSome?_cons]
      have h0 := h 0 (by simp)
      simp at h0
      rw [h0]
      by_cases c : 64 < t.length
      · rw [if_pos c]
        simp [badT, c]
      · rw [if_neg c]
        have := ih f (k + 1) (fun i hi => by have := h (i + 1) (by simpa using hi); simpa [Nat.add_assoc, Nat.add_comm 1] using this)
        rw [this]
        simp [badT, c]
  exact key ts (fun i => ts.getD i []) 0 (fun i _ => by simp)
theorem checkTexts_eq (ts : List (List Int)) (l : Int) : cbump_checkTexts (ts, l) = some (if 0 ≤ l ∧ l ≤ 16384 then (if ts.length ≤ 32 then (if badT ts then 2 else 0) else 4) else 2) := by
  show nbump_checkTexts (iterV (gbump_checkTexts_0 big) big) (ts, l) = _
  unfold nbump_checkTexts
  dsimp only
  rw [new_eq, Option.bind_some, check_eq, Option.bind_some, limS, if_pos (show OkH (65536, ([], ())) from ⟨rfl, by decide, by decide⟩)]
  by_cases h : 0 ≤ l ∧ l ≤ 16384
  rotate_left
  · rw [if_neg h, if_neg h]; rfl
  rw [if_pos h, if_pos h, show ((0 : Int) != 0) = false from rfl, cond_false]
  by_cases h2 : ts.length ≤ 32
  rotate_left
  · rw [decide_eq_true (by omega), cond_true, if_neg h2]
  rw [decide_eq_false (by omega), cond_false, if_pos h2]
  refine (Rg.loop_find (mk := fun i : Nat => ((ts, (ts.length : Int), (i : Int)) : Y2 × Int × Int)) (q := fun i => if 64 < (ts.getD i []).length then some (some (2 : Int)) else none) (n := ts.length) (r := some 0) ?_ ?_ ts.length 0 big (by omega) (Rg.small (n := ts.length) (by omega))).trans ?_
  · intro self i hi
    show hbump_checkTexts_0 self _ = _
    unfold hbump_checkTexts_0
    dsimp only
    rw [decide_eq_true (by omega), cond_true, getI_at hi, Option.bind_some, show ts.getD i [] = ts[i] by simp [hi]]
    by_cases c : 64 < (ts[i]).length
    · rw [decide_eq_true (by omega), cond_true, if_pos c]; rfl
    · rw [decide_eq_false (by omega), cond_false, if_neg c, i64 (by omega) (by omega)]; rfl
  · intro self
    show hbump_checkTexts_0 self _ = _
    unfold hbump_checkTexts_0
    dsimp only
    rw [decide_eq_false (by omega), cond_false]
  · rw [bad_find (some (2 : Int))]
    cases badT ts <;> rfl
theorem texts_eq (ts : List (List Int)) (l : Int) : cbump_Texts (ts, l) = some (textsS ts l) := by
  show nbump_Texts (ts, l) = _
  unfold nbump_Texts textsS
  dsimp only
  rw [checkTexts_eq, Option.bind_some]
  by_cases h : 0 ≤ l ∧ l ≤ 16384
  rotate_left
  · rw [if_neg h, if_neg h]; rfl
  rw [if_pos h, if_pos h]
  by_cases h2 : ts.length ≤ 32
  rotate_left
  · rw [if_neg h2, if_neg h2]; rfl
  rw [if_pos h2, if_pos h2]
  cases hb : badT ts with
  | true => rfl
  | false =>
  obtain ⟨v, h3, h4⟩ := fold_eq l ts (65536, ([], ())) [] (by simp; omega)
  rw [if_neg (by simp), show ((0 : Int) != 0) = false from rfl, cond_false, show cbump_putAll (ts, l) = some v from h3, Option.bind_some, if_neg (by simp)]
  exact congrArg some h4

theorem rTexts_in {l : Int} {self0 : Y12 → Option Y4} {ts : List (List Int)} (ht : ts.length ≤ 32) : ∀ (k i M : Nat) (h : Rgn) (as_ : List Int), i + k = ts.length → k < M → as_.length + k ≤ 1000 →
    iterV (gref14_Texts_1 big self0) M (ts, l, (i : Int), (0 : Int), (), ([] : List Int), h, as_) = some (runT l (ts.drop i) h as_)
  | k, i, 0, _, _, _, hM, _ => by omega
  | 0, i, M + 1, h, as_, hi, _, _ => by
    rw [iterV_succ]
    show href14_Texts_1 self0 _ _ = _
    unfold href14_Texts_1
    dsimp only
    rw [decide_eq_false (by omega), cond_false, List.drop_eq_nil_of_le (by omega)]
    rfl
  | k + 1, i, M + 1, h, as_, hi, hM, hl => by
    rw [iterV_succ]
    show href14_Texts_1 self0 _ _ = _
    unfold href14_Texts_1
    dsimp only
    have hil : i < ts.length := by omega
    rw [decide_eq_true (by omega), cond_true, getI_at hil, Option.bind_some, rPut_eq, Option.bind_some, List.drop_eq_getElem_cons hil, runT]
    by_cases c : (putF h ts[i] l).2.2 = 0
    · rw [show ((putF h ts[i] l).2.2 != 0) = false by rw [c]; rfl, cond_false, if_pos c, lim_ok2 (by omega), cond_true, i64 (by omega) (by omega)]
      exact rTexts_in ht k (i + 1) M _ _ (by omega) (by omega) (by simp; omega)
    · rw [show ((putF h ts[i] l).2.2 != 0) = true by simpa using c, cond_true, if_neg c]
      rfl
theorem rTexts_eq (ts : List (List Int)) (l : Int) : cref14_Texts (ts, l) = some (textsS ts l) := by
  show nref14_Texts (iterV (gref14_Texts_0 big) big) (ts, l) = _
  unfold nref14_Texts textsS
  dsimp only
  by_cases h0 : l < 0
  · rw [decide_eq_true h0, cond_true, if_neg (by omega)]; rfl
  rw [decide_eq_false h0, cond_false]
  by_cases h1 : l > 16384
  · rw [decide_eq_true h1, cond_true, if_neg (by omega)]; rfl
  rw [decide_eq_false h1, cond_false, if_pos (by omega)]
  by_cases h2 : ts.length ≤ 32
  rotate_left
  · rw [decide_eq_true (by omega), cond_true, if_neg h2]; rfl
  rw [decide_eq_false (by omega), cond_false, if_pos h2]
  refine (Rg.loop_find (mk := fun i : Nat => ((ts, l, (i : Int), (0 : Int), (), ([] : List Int)) : Y12)) (q := fun i => if 64 < (ts.getD i []).length then some (some ((zR, [], 2) : Y4)) else none) (n := ts.length) (r := some (runT l ts (65536, ([], ())) [])) ?_ ?_ ts.length 0 big (by omega) (Rg.small (n := ts.length) (by omega))).trans ?_
  · intro self i hi
    show href14_Texts_0 _ self _ = _
    unfold href14_Texts_0
    dsimp only
    rw [decide_eq_true (by omega), cond_true, getI_at hi, Option.bind_some, show ts.getD i [] = ts[i] by simp [hi]]
    by_cases c : 64 < (ts[i]).length
    · rw [decide_eq_true (by omega), cond_true, if_pos c]; rfl
    · rw [decide_eq_false (by omega), cond_false, if_neg c, i64 (by omega) (by omega)]; rfl
  · intro self
    show href14_Texts_0 (iterV (gref14_Texts_1 big self) big) self _ = _
    unfold href14_Texts_0
    dsimp only
    rw [decide_eq_false (by omega), cond_false, rNew_eq, Option.bind_some]
    exact rTexts_in h2 ts.length 0 big _ _ (by omega) (Rg.small (n := ts.length) (by omega)) (by simp; omega)
  · rw [bad_find (some ((zR, [], 2) : Y4))]
    cases badT ts <;> rfl

theorem same_words (l : List Int) (hl : l.length ≤ maxLen) : cref14_SameWords (l, l) = some true := by
  show nref14_SameWords (iterV (gref14_SameWords_0 big) big) (l, l) = _
  unfold nref14_SameWords
  dsimp only
  rw [show ((l.length : Int) != l.length) = false by simp, cond_false]
  refine Rg.loop_det (mk := fun i : Nat => ((l, l, (i : Int)) : Y1 × Y1 × Int)) (n := l.length) ?_ ?_ l.length 0 big (by omega) (big_gt hl)
  · intro self i hi
    show href14_SameWords_0 self _ = _
    unfold href14_SameWords_0
    dsimp only
    rw [decide_eq_true (by omega), cond_true, getI_at hi, Option.bind_some, Option.bind_some, show (l[i] != l[i]) = false by simp, cond_false, wrap_succ hi hl]
  · intro self
    show href14_SameWords_0 self _ = _
    unfold href14_SameWords_0
    dsimp only
    rw [decide_eq_false (by omega), cond_false]
theorem runT_len (l : Int) : ∀ (ts : List (List Int)) (h : Rgn) (as_ : List Int), (runT l ts h as_).2.1.length ≤ as_.length + ts.length
  | [], h, as_ => by simp [runT]
  | t :: ts, h, as_ => by
    rw [runT]
    split
    · have := runT_len l ts (putF h t l).1 (as_ ++ [(putF h t l).2.1])
      simp at this ⊢
      omega
    · simp
theorem textsS_len (ts : List (List Int)) (l : Int) : (textsS ts l).2.1.length ≤ 32 := by
  unfold textsS
  split
  · split
    · split
      · simp
      · have := runT_len l ts (65536, ([], ())) []
        simp at this
        omega
    · simp
  · simp
end Bp
end Go.Proofs.Ytlmhokakghbciaa
