/- A region whose order is left open. -/
import Derived.Test.YtnhiaoabhjjegaaLiftM
namespace Go.Lift
open Go.RowKit

theorem evT_congr {fr fr' : Fr} {x : Operand} (ty : Option Ty) (h : ∀ i, x = .tmp i → lk i fr.s = lk i fr'.s) : evT ty x fr = evT ty x fr' := by
  unfold evT
  cases x with
  | tmp i => simp only [h i rfl]
  | _ => rfl

theorem argTV_congr {fr fr' : Fr} (hl : fr.l = fr'.l) (a : AV) : argTV fr a = argTV fr' a := by
  cases a <;> simp only [argTV, hl]

section
variable {E : Env} {fr fr' : Fr}

theorem argsTV_congr (hl : fr.l = fr'.l) : ∀ (xs : List Operand) (ts : List TypeId), (∀ i, Operand.tmp i ∈ xs → lk i fr.s = lk i fr'.s) → argsTV E fr xs ts = argsTV E fr' xs ts
  | [], [], _ => rfl
  | [], _ :: _, _ => rfl
  | _ :: _, [], _ => rfl
  | x :: xs, t :: ts, h => by
    simp only [argsTV, ev]
    rw [evT_congr (lk t E.tab) (fun i hi => h i (by simp [hi])), argTV_congr hl, argsTV_congr hl xs ts fun i hi => h i (by simp [hi])]
theorem anyLoc_congr : ∀ (xs : List Operand) (ts : List TypeId), (∀ i, Operand.tmp i ∈ xs → lk i fr.s = lk i fr'.s) → anyLoc E fr xs ts = anyLoc E fr' xs ts
  | [], [], _ => rfl
  | [], _ :: _, _ => rfl
  | _ :: _, [], _ => rfl
  | x :: xs, t :: ts, h => by
    simp only [anyLoc, ev]
    rw [evT_congr (lk t E.tab) (fun i hi => h i (by simp [hi])), anyLoc_congr xs ts fun i hi => h i (by simp [hi])]
theorem partsTV_congr {t : Ty} : ∀ (i : Nat) (ps : List (Nat × Operand)), (∀ i, Operand.tmp i ∈ ps.map (·.2) → lk i fr.s = lk i fr'.s) → partsTV t fr i ps = partsTV t fr' i ps
  | _, [], _ => rfl
  | i, (j, x) :: r, h => by
    unfold partsTV
    rw [evT_congr (some t) (fun i hi => h i (by simp [hi])), partsTV_congr (i + 1) r fun i hi => h i (by simp at hi ⊢; exact .inr hi)]
theorem buildTV_congr : ∀ (t : Ty) (i : Nat) (ps : List (Nat × Operand)), (∀ i, Operand.tmp i ∈ ps.map (·.2) → lk i fr.s = lk i fr'.s) → buildTV fr t i ps = buildTV fr' t i ps := by
  intro t
  induction t with
  | pair a b iha ihb =>
    intro i ps h
    cases ps with
    | nil => simp only [buildTV]; rw [ihb (i + 1) [] (by simp)]
    | cons p r =>
      obtain ⟨j, x⟩ := p
      unfold buildTV
      rw [evT_congr (some a) (fun i hi => h i (by simp [hi])), ihb (i + 1) r (fun i hi => h i (by simp at hi ⊢; exact .inr hi)), ihb (i + 1) ((j, x) :: r) h]
  | _ => intro i ps h; cases ps <;> rfl

theorem opV_congr {o : Oper} (hl : fr.l = fr'.l) (h : ∀ i, Operand.tmp i ∈ o.op.operands → lk i fr.s = lk i fr'.s) {α : Type} (k : AV → Option α) : opV E o fr k = opV E o fr' k := by
  obtain ⟨dst, op, type, pos, af, guard⟩ := o
  have e1 : ∀ (ty : Option Ty) (x : Operand), x ∈ op.operands → evT ty x fr = evT ty x fr' := fun ty x hx => evT_congr ty (fun i hi => h i (by rw [← hi]; exact hx))
  cases op with
  | slice T x lo hi mx =>
    have hlo : (lo.map fun y => evT (some (.int .i64)) y fr) = (lo.map fun y => evT (some (.int .i64)) y fr') := by
      cases lo with
      | none => rfl
      | some y => simp only [Option.map_some]; rw [e1 _ y (by simp [Op.operands])]
    have hhi : (hi.map fun y => evT (some (.int .i64)) y fr) = (hi.map fun y => evT (some (.int .i64)) y fr') := by
      cases hi with
      | none => rfl
      | some y => simp only [Option.map_some]; rw [e1 _ y (by simp [Op.operands])]
    cases mx with
    | some m => rfl
    | none => simp only [opV, ev, hl, hlo, hhi]; rw [e1 _ x (by simp [Op.operands])]
  | build t parts =>
    have hp : ∀ i, Operand.tmp i ∈ parts.toList.map (·.2) → lk i fr.s = lk i fr'.s := fun i hi => h i (by simpa [Op.operands] using hi)
    simp only [opV]
    congr 1
    funext ty
    cases ty <;> simp only [partsTV_congr _ _ hp, buildTV_congr _ _ _ hp]
  | buildSlice t n parts =>
    have hp : ∀ i, Operand.tmp i ∈ parts.toList.map (·.2) → lk i fr.s = lk i fr'.s := fun i hi => h i (by simpa [Op.operands] using hi)
    simp only [opV]
    congr 1
    funext ty
    cases ty <;> simp only [partsTV_congr _ _ hp]
  | call c =>
    obtain ⟨callee, args, ts⟩ := c
    cases callee with
    | value f =>
      cases f with
      | func f =>
        have hp : ∀ i, Operand.tmp i ∈ args.toList → lk i fr.s = lk i fr'.s := fun i hi => h i (by simp [Op.operands, Call.operands]; simpa using hi)
        simp only [opV, argsTV_congr hl _ _ hp, anyLoc_congr _ _ hp]
      | _ => rfl
    | invoke r m => rfl
    | builtin b =>
      have hp : ∀ x, x ∈ args.toList → ∀ ty, evT ty x fr = evT ty x fr' := fun x hx ty => e1 ty x (by simp [Op.operands, Call.operands]; simpa using hx)
      cases b with
      | len =>
        simp only [opV, ev]
        split
        · rename_i x t hx _; rw [hp x (by simp [hx])]
        · rfl
      | min =>
        simp only [opV, ev]
        split
        · rename_i x y t u hx _; rw [hp x (by simp [hx]), hp y (by simp [hx])]
        · rfl
      | max =>
        simp only [opV, ev]
        split
        · rename_i x y t u hx _; rw [hp x (by simp [hx]), hp y (by simp [hx])]
        · rfl
      | _ => rfl
  | move x => simp only [opV, ev]; rw [e1 _ x (by simp [Op.operands])]
  | assign x => simp only [opV, ev]; rw [e1 _ x (by simp [Op.operands])]
  | pick c x y => simp only [opV, ev]; rw [e1 _ x (by simp [Op.operands]), e1 _ y (by simp [Op.operands]), e1 _ c (by simp [Op.operands])]
  | binOp op t x y u => simp only [opV, ev]; rw [e1 _ x (by simp [Op.operands]), e1 _ y (by simp [Op.operands])]
  | unOp op t x => simp only [opV, ev]; rw [e1 _ x (by simp [Op.operands])]
  | makeInterface T x => simp only [opV, ev]; rw [e1 _ x (by simp [Op.operands])]
  | convert s d x => simp only [opV, ev]; rw [e1 _ x (by simp [Op.operands])]
  | nilCheck x => simp only [opV, ev]; rw [e1 _ x (by simp [Op.operands])]
  | load T x => simp only [opV, ev, hl]; rw [e1 _ x (by simp [Op.operands])]
  | fieldAddr T x f => simp only [opV, ev, hl]; rw [e1 _ x (by simp [Op.operands])]
  | field T x f => simp only [opV, ev]; rw [e1 _ x (by simp [Op.operands])]
  | indexAddr T x i => simp only [opV, ev, hl]; rw [e1 _ x (by simp [Op.operands]), e1 _ i (by simp [Op.operands])]
  | index T x i => simp only [opV, ev]; rw [e1 _ x (by simp [Op.operands]), e1 _ i (by simp [Op.operands])]
  | extract t i => simp only [opV, ev]; rw [e1 _ t (by simp [Op.operands])]
  | makeSlice t l c => simp only [opV]; rw [e1 _ l (by simp [Op.operands]), e1 _ c (by simp [Op.operands])]
  | _ => rfl

/-- the frame behind those operations that are chosen -/
def fsel (sel : Nat → Bool) : Nat → List (Oper × AV) → Fr → Fr
  | _, [], fr => fr
  | k, (o, av) :: r, fr => fsel sel (k + 1) r (bif sel k then setS fr o.dst av else fr)
def wsel (sel : Nat → Bool) (s : Nat) : Nat → List (Oper × AV) → Option AV
  | _, [] => none
  | k, (o, av) :: r => match wsel sel s (k + 1) r with
    | some x => some x
    | none => if sel k = true ∧ o.dst = some s then some av else none

theorem setS_l (fr : Fr) (d : Option Nat) (av : AV) : (setS fr d av).l = fr.l := by cases d <;> rfl
theorem setS_lk (fr : Fr) (d : Option Nat) (av : AV) (s : Nat) : lk s (setS fr d av).s = if d = some s then some av else lk s fr.s := by
  cases d with
  | none => simp [setS]
  | some d =>
    simp only [setS, lk_cons, Option.some.injEq]
    by_cases h : s = d
    · simp [h]
    · simp [h, Ne.symm h]
theorem fsel_l (sel : Nat → Bool) : ∀ (L : List (Oper × AV)) (k : Nat) (fr : Fr), (fsel sel k L fr).l = fr.l
  | [], _, _ => rfl
  | (o, av) :: r, k, fr => by
    simp only [fsel]
    rw [fsel_l sel r]
    cases sel k <;> simp [setS_l]
theorem fsel_lk (sel : Nat → Bool) (s : Nat) : ∀ (L : List (Oper × AV)) (k : Nat) (fr : Fr), lk s (fsel sel k L fr).s = match wsel sel s k L with | some x => some x | none => lk s fr.s
  | [], _, _ => rfl
  | (o, av) :: r, k, fr => by
    simp only [fsel, wsel]
    rw [fsel_lk sel s r]
    cases wsel sel s (k + 1) r with
    | some x => rfl
    | none =>
      simp only
      cases hs : sel k with
      | false => simp
      | true =>
        simp only [cond_true, setS_lk, true_and]
        by_cases h : o.dst = some s <;> simp [h]
theorem wsel_congr {sel sel' : Nat → Bool} {s : Nat} : ∀ (L : List (Oper × AV)) (k : Nat), (∀ j o av, L[j]? = some (o, av) → o.dst = some s → sel (k + j) = sel' (k + j)) → wsel sel s k L = wsel sel' s k L
  | [], _, _ => rfl
  | (o, av) :: r, k, h => by
    simp only [wsel]
    have ih : wsel sel s (k + 1) r = wsel sel' s (k + 1) r := wsel_congr r (k + 1) fun j o av hj hd => by
      have := h (j + 1) o av (by simpa using hj) hd
      rw [show k + (j + 1) = k + 1 + j by omega] at this
      exact this
    rw [ih]
    cases wsel sel' s (k + 1) r with
    | some x => rfl
    | none =>
      simp only
      by_cases hd : o.dst = some s
      · have := h 0 o av (by simp) hd
        simp only [Nat.add_zero] at this
        simp [hd, this]
      · simp [hd]
theorem fsel_none {sel : Nat → Bool} : ∀ (L : List (Oper × AV)) (k : Nat) (fr : Fr), (∀ j, k ≤ j → sel j = false) → fsel sel k L fr = fr
  | [], _, _, _ => rfl
  | (o, av) :: r, k, fr, h => by
    simp only [fsel, h k (Nat.le_refl _), cond_false]
    exact fsel_none r (k + 1) fr fun j hj => h j (by omega)
theorem fsel_all {sel : Nat → Bool} : ∀ (l : List Oper) (avs : List AV) (k : Nat) (fr : Fr), (∀ j, k ≤ j → j < k + l.length → sel j = true) → avs.length = l.length → fsel sel k (l.zip avs) fr = after l avs fr
  | [], [], _, _, _, _ => rfl
  | [], _ :: _, _, _, _, h => by simp at h
  | _ :: _, [], _, _, _, h => by simp at h
  | o :: l, av :: avs, k, fr, h, hl => by
    simp only [List.zip_cons_cons, fsel, h k (Nat.le_refl _) (by simp), cond_true, after, List.foldl_cons]
    exact fsel_all l avs (k + 1) _ (fun j h1 h2 => h j (by omega) (by simp; omega)) (by simpa using hl)

theorem vals_at {ops : Array Oper} : ∀ (l : List Oper) (avs : List AV) (fr : Fr) (k i : Nat) (o : Oper) (av : AV), Vals E ops l avs fr → l[i]? = some o → avs[i]? = some av →
    Eff E ops o (fsel (fun j => decide (j < k + i)) k (l.zip avs) fr) av
  | [], _, _, _, i, _, _, _, h, _ => by simp at h
  | _ :: _, [], _, _, i, _, _, _, _, h => by simp at h
  | o' :: l, av' :: avs, fr, k, i, o, av, hv, ho, ha => by
    obtain ⟨h1, h2⟩ := hv
    cases i with
    | zero =>
      simp only [List.getElem?_cons_zero, Option.some.injEq] at ho ha
      subst ho ha
      simp only [Nat.add_zero]
      rw [fsel_none _ _ _ fun j hj => by simp; omega]
      exact h1
    | succ i =>
      simp only [List.zip_cons_cons, fsel]
      rw [show decide (k < k + (i + 1)) = true by simp]
      have := vals_at l avs (setS fr o'.dst av') (k + 1) i o av h2 (by simpa using ho) (by simpa using ha)
      rw [show k + 1 + i = k + (i + 1) by omega] at this
      exact this

theorem Eff.congr {ops : Array Oper} {o : Oper} {av : AV} (hl : fr.l = fr'.l) (h : ∀ s, s ∈ readsOf ops o → lk s fr.s = lk s fr'.s) (he : Eff E ops o fr av) : Eff E ops o fr' av := by
  have hop : ∀ i, Operand.tmp i ∈ o.op.operands → lk i fr.s = lk i fr'.s := fun i hi => h i (by
    simp only [readsOf, List.mem_append, List.mem_filterMap]
    exact .inl ⟨.tmp i, by simpa using hi, rfl⟩)
  have hV : (∀ (β : Type) (k' : AV → Option β), opV E o fr k' = k' av) → ∀ (β : Type) (k' : AV → Option β), opV E o fr' k' = k' av := fun hv β k' => by rw [← opV_congr hl hop]; exact hv β k'
  unfold Eff at he ⊢
  cases hg : o.guard with
  | none => simp only [hg] at he ⊢; exact hV he
  | some g =>
    obtain ⟨j, want⟩ := g
    simp only [hg] at he ⊢
    obtain ⟨g, b, h1, h2, h3⟩ := he
    refine ⟨g, b, h1, by rw [← h g (by simp only [readsOf, hg, List.mem_append]; exact .inr (by simp [h1]))]; exact h2, ?_⟩
    split at h3
    · rename_i hb; rw [if_pos hb]; exact hV h3
    · rename_i hb; rw [if_neg hb]; exact h3

theorem befOne_bit {acc : List Nat} {m : Nat} : ∀ (es : List Edge), (befOne acc es).testBit m = true → ∃ e ∈ es, Region.binds .any e = true ∧ (m = e.on ∨ (acc.getD e.on 0).testBit m = true)
  | [], h => by simp [befOne] at h
  | e :: r, h => by
    simp only [befOne] at h
    cases hb : Region.binds .any e with
    | false =>
      simp only [hb, cond_false] at h
      obtain ⟨e', h1, h2⟩ := befOne_bit r h
      exact ⟨e', List.mem_cons_of_mem _ h1, h2⟩
    | true =>
      simp only [hb, cond_true, Nat.testBit_or, Bool.or_eq_true] at h
      rcases h with h | h | h
      · obtain ⟨e', h1, h2⟩ := befOne_bit r h
        exact ⟨e', List.mem_cons_of_mem _ h1, h2⟩
      · refine ⟨e, by simp, hb, .inl ?_⟩
        rw [Nat.testBit_two_pow] at h
        simpa using (of_decide_eq_true h).symm
      · exact ⟨e, by simp, hb, .inr h⟩

theorem befL_app : ∀ (l : List Oper) (acc : List Nat), ∃ ms, befL l acc = acc ++ ms ∧ ms.length = l.length
  | [], acc => ⟨[], by simp [befL], rfl⟩
  | o :: r, acc => by
    obtain ⟨ms, h1, h2⟩ := befL_app r (acc ++ [befOne acc o.after.toList])
    exact ⟨befOne acc o.after.toList :: ms, by rw [befL, h1]; simp, by simp [h2]⟩

theorem befL_at : ∀ (l : List Oper) (acc : List Nat) (i : Nat) (o : Oper), l[i]? = some o → (befL l acc).getD (acc.length + i) 0 = befOne ((befL l acc).take (acc.length + i)) o.after.toList
  | [], _, _, _, h => by simp at h
  | o' :: r, acc, i, o, h => by
    cases i with
    | zero =>
      simp only [List.getElem?_cons_zero, Option.some.injEq] at h
      subst h
      obtain ⟨ms, h1, _⟩ := befL_app r (acc ++ [befOne acc o'.after.toList])
      rw [befL, h1]
      simp
    | succ i =>
      have := befL_at r (acc ++ [befOne acc o'.after.toList]) i o (by simpa using h)
      rw [befL]
      simp only [List.length_append, List.length_cons, List.length_nil] at this
      rw [show acc.length + (i + 1) = acc.length + (0 + 1) + i by omega]
      exact this

theorem befL_spec {l : List Oper} {i : Nat} {o : Oper} (ho : l[i]? = some o) {m : Nat} (h : ((befL l []).getD i 0).testBit m = true) :
    ∃ e ∈ o.after, Region.binds .any e = true ∧ (m = e.on ∨ ((befL l []).getD e.on 0).testBit m = true) := by
  have := befL_at l [] i o ho
  simp only [List.length_nil, Nat.zero_add] at this
  rw [this] at h
  obtain ⟨e, h1, h2, h3⟩ := befOne_bit _ h
  refine ⟨e, by simpa using h1, h2, h3.imp id fun h3 => ?_⟩
  rw [List.getD_eq_getElem?_getD, List.getElem?_take] at h3
  split at h3
  · rw [List.getD_eq_getElem?_getD]; exact h3
  · simp at h3

def cnt (f : Nat → Bool) : Nat → Nat
  | 0 => 0
  | k + 1 => cnt f k + (if f k = true then 1 else 0)
theorem cnt_le (f : Nat → Bool) : ∀ n, cnt f n ≤ n
  | 0 => Nat.le_refl _
  | n + 1 => by have := cnt_le f n; simp only [cnt]; split <;> omega
theorem cnt_all {f : Nat → Bool} : ∀ n, cnt f n = n → ∀ i, i < n → f i = true
  | 0, _, i, hi => by omega
  | n + 1, h, i, hi => by
    have := cnt_le f n
    simp only [cnt] at h
    split at h
    · rename_i hn
      by_cases hin : i = n
      · subst hin; exact hn
      · exact cnt_all n (by omega) i (by omega)
    · omega
theorem cnt_set {f g : Nat → Bool} {i : Nat} (hi : f i = false) (hg : g i = true) (hne : ∀ j, j ≠ i → g j = f j) : ∀ n, i < n → cnt g n = cnt f n + 1
  | 0, h => by omega
  | n + 1, h => by
    simp only [cnt]
    by_cases hin : i = n
    · subst hin
      have : cnt g i = cnt f i := by
        clear h
        have : ∀ m, m ≤ i → cnt g m = cnt f m := by
          intro m
          induction m with
          | zero => intro _; rfl
          | succ m ih => intro hm; simp only [cnt]; rw [ih (by omega), hne m (by omega)]
        exact this i (Nat.le_refl _)
      rw [this, hi, hg]; simp
    · rw [cnt_set hi hg hne n (by omega), hne n (fun h => hin h.symm)]
      omega
theorem cnt_full {f : Nat → Bool} : ∀ n, (∀ i, i < n → f i = true) → cnt f n = n
  | 0, _ => rfl
  | n + 1, h => by simp only [cnt]; rw [cnt_full n fun i hi => h i (by omega), h n (by omega)]; simp

theorem pairsOk_spec {ops : Array Oper} {b : List Nat} : ∀ (l before : List Oper) (j : Nat), pairsOk ops b j before l = true → before.length = j → ∀ (i k : Nat) (o p : Oper), (before ++ l)[i]? = some o → (before ++ l)[k]? = some p → i < k → j ≤ k → clash ops o p = true → (b.getD k 0).testBit i = true
  | [], before, j, _, hl, i, k, o, p, _, hp, _, hjk, _ => by
    rw [List.append_nil] at hp
    have := (List.getElem?_eq_some_iff.1 hp).1
    omega
  | x :: r, before, j, h, hl, i, k, o, p, ho, hp, hik, hjk, hc => by
    simp only [pairsOk, Bool.and_eq_true] at h
    by_cases hk : k = j
    · subst hk
      rw [← hl, List.getElem?_append_right (Nat.le_refl _)] at hp
      simp only [Nat.sub_self, List.getElem?_cons_zero, Option.some.injEq] at hp
      subst hp
      rw [List.getElem?_append_left (by omega)] at ho
      have hm : (o, i) ∈ before.zipIdx 0 := by
        rw [List.mk_mem_zipIdx_iff_getElem?]; exact ho
      have := List.all_eq_true.1 h.1 _ hm
      simp only [hc, Bool.not_true, Bool.false_or] at this
      exact this
    · exact pairsOk_spec r (before ++ [x]) (j + 1) h.2 (by simp [hl]) i k o p (by simpa using ho) (by simpa using hp) hik (by omega) hc
end
end Go.Lift
