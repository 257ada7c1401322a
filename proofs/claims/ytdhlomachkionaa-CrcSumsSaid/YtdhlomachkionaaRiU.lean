/- Regions whose order is open, in the wider reading: whatever the order, what the frame says holds. -/
import Derived.Test.YtdhlomachkionaaRiT
namespace Go.Lift
open Go.RowKit

/-! ### The last one that writes -/
section
variable {V : Type} {sel sel' : Nat → Bool} {f : Nat → Option V}

def lastW (sel : Nat → Bool) (f : Nat → Option V) : Nat → Option V
  | 0 => none
  | n + 1 => if sel n = true ∧ (f n).isSome = true then f n else lastW sel f n

theorem lastW_congr : ∀ {n : Nat}, (∀ j, j < n → (f j).isSome = true → sel j = sel' j) → lastW sel f n = lastW sel' f n
  | 0, _ => rfl
  | n + 1, h => by
    simp only [lastW]
    rw [lastW_congr fun j hj => h j (by omega)]
    cases hf : (f n).isSome with
    | false => simp
    | true => rw [h n (by omega) hf]
theorem lastW_hit {v : V} {i : Nat} : ∀ {n : Nat}, i < n → sel i = true → f i = some v → (∀ j, i < j → j < n → sel j = true → f j = none) → lastW sel f n = some v
  | 0, h, _, _, _ => by omega
  | n + 1, h, hs, hv, hn => by
    simp only [lastW]
    by_cases hi : i = n
    · subst hi
      rw [if_pos ⟨hs, by rw [hv]; rfl⟩]
      exact hv
    · rw [if_neg, lastW_hit (by omega) hs hv fun j h1 h2 => hn j h1 (by omega)]
      rintro ⟨h1, h2⟩
      rw [hn n (by omega) (by omega) h1] at h2
      cases h2
end

def eS (e : Eff2) (s : Nat) : Option RV := if e.d = some s then some e.rv else none
def eO (e : Eff2) (id : Nat) : Option Ob := match e.o with
  | some p => if p.1 = id then some p.2 else none
  | none => none

theorem apE_s (e : Eff2) (st : St) (s : Nat) : lk s (apE e st).s = (eS e s).or (lk s st.s) := by
  unfold apE eS
  cases h : e.d with
  | none => simp
  | some d =>
    simp only [lk_cons, Option.some.injEq]
    by_cases hd : s = d
    · subst hd; simp
    · rw [if_neg hd, if_neg (fun h => hd h.symm)]; rfl
theorem apE_l (e : Eff2) (st : St) (i : Nat) : lk i (apE e st).l = (eO e i).or (lk i st.l) := by
  unfold apE eO
  cases h : e.o with
  | none => simp
  | some p =>
    obtain ⟨j, ob⟩ := p
    simp only [lk_cons]
    by_cases hd : i = j
    · subst hd; simp
    · rw [if_neg hd, if_neg (fun h => hd h.symm)]; rfl

/-- a frame behind those effects that are chosen -/
structure Tells (sel : Nat → Bool) (n : Nat) (ef : Nat → Eff2) (st0 X : St) : Prop where
  s : ∀ s, lk s X.s = (lastW sel (fun j => eS (ef j) s) n).or (lk s st0.s)
  l : ∀ i, lk i X.l = (lastW sel (fun j => eO (ef j) i) n).or (lk i st0.l)
  k : X.k = st0.k
  b : X.b = st0.b

theorem Tells.step {sel sel' : Nat → Bool} {n i : Nat} {ef : Nat → Eff2} {st0 X : St} (h : Tells sel n ef st0 X) (hi : i < n) (hsel : ∀ j, sel' j = if j = i then true else sel j) (hni : sel i = false)
    (hs : ∀ j s, i < j → j < n → sel j = true → (eS (ef i) s).isSome = true → eS (ef j) s = none) (hl : ∀ j s, i < j → j < n → sel j = true → (eO (ef i) s).isSome = true → eO (ef j) s = none) : Tells sel' n ef st0 (apE (ef i) X) where
  s := by
    intro s
    rw [apE_s, h.s]
    cases hv : eS (ef i) s with
    | some v =>
      rw [lastW_hit (sel := sel') hi (by rw [hsel]; simp) hv fun j h1 h2 h3 => hs j s h1 h2 (by rw [hsel, if_neg (by omega)] at h3; exact h3) (by rw [hv]; rfl)]
      rfl
    | none =>
      rw [lastW_congr (sel := sel') (sel' := sel) fun j hj hsome => ?_]
      · rfl
      · rw [hsel]
        split
        · rename_i e; subst e; rw [hv] at hsome; cases hsome
        · rfl
  l := by
    intro s
    rw [apE_l, h.l]
    cases hv : eO (ef i) s with
    | some v =>
      rw [lastW_hit (sel := sel') hi (by rw [hsel]; simp) hv fun j h1 h2 h3 => hl j s h1 h2 (by rw [hsel, if_neg (by omega)] at h3; exact h3) (by rw [hv]; rfl)]
      rfl
    | none =>
      rw [lastW_congr (sel := sel') (sel' := sel) fun j hj hsome => ?_]
      · rfl
      · rw [hsel]
        split
        · rename_i e; subst e; rw [hv] at hsome; cases hsome
        · rfl
  k := by rw [← h.k]; rfl
  b := by rw [← h.b]; rfl

section
variable {P : Program} {E : Env2} {Q : Exit → Act → World → Prop} {o : Oper} {w0 : World} {M0 : Own} {N : Nat} {M M' : Own} {β β' : Nat → Nat} {τ τ' : Nat → Value} {st st' : St} {a : Act} {as : List Act} {w w' : World} {id : Nat}

theorem RR.lks {L L' : List (Nat × Ob)} (h : ∀ i, lk i L = lk i L') {rv : RV} {m : Mo} {cs : List Value} (r : RR M w β τ L rv m cs) : RR M w β τ L' rv m cs :=
  r.keep fun i j ob e hl => by
    cases e
    exact ⟨ob, by rw [← h]; exact hl, rfl, rfl, rfl⟩
theorem FsOk.lks {L L' : List (Nat × Ob)} (h : ∀ i, lk i L = lk i L') : ∀ {k : List (Nat × List (Nat × RV))} {as : List Act}, FsOk M w β τ L k as → FsOk M w β τ L' k as
  | [], [], _ => trivial
  | _ :: _, _ :: _, hh => ⟨fun i rv hi => by obtain ⟨u, h1, h2⟩ := hh.1 i rv hi; exact ⟨u, h1, h2.lks h⟩, FsOk.lks h hh.2⟩
  | [], _ :: _, hh => hh.elim
  | _ :: _, [], hh => hh.elim

theorem Sm.lks (s : Sm w0 M0 N M β τ st a as w) (hs : ∀ i, lk i st.s = lk i st'.s) (hl : ∀ i, lk i st.l = lk i st'.l) (hk : st.k = st'.k) : Sm w0 M0 N M β τ st' a as w where
  df := s.df
  sz := s.sz
  bel := s.bel
  mlt := s.mlt
  mex := s.mex
  mnew := s.mnew
  fr := fun i rv hi => by
    obtain ⟨u, h1, h2⟩ := s.fr i rv (by rw [hs]; exact hi)
    exact ⟨u, h1, h2.lks hl⟩
  fs := hk ▸ s.fs.lks hl
  ob := fun i ob hi => by
    have := s.ob i ob (by rw [hl]; exact hi)
    cases ob with
    | var ty con =>
      obtain ⟨h1, ⟨cs, T, h2, h3⟩, h4⟩ := this
      exact ⟨h1, ⟨cs, T, h2, h3.lks hl⟩, h4⟩
    | row ty xs => exact this
  dj := fun i j ob ob' b h1 h2 => s.dj i j ob ob' b (by rw [hl]; exact h1) (by rw [hl]; exact h2)

theorem Sim2.lks (s : Sim2 w0 M0 N st a as w) (hs : ∀ i, lk i st.s = lk i st'.s) (hl : ∀ i, lk i st.l = lk i st'.l) (hk : st.k = st'.k) : Sim2 w0 M0 N st' a as w := by
  obtain ⟨M, β, τ, s⟩ := s
  exact ⟨M, β, τ, s.lks hs hl hk⟩

theorem setBR_same (g : Nat) (b : Bool) : ∀ (s : List (Nat × RV)), lk g s = some (.val ⟨.bool, b⟩) → setBR g b s = s
  | [], h => by simp [lk] at h
  | (j, x) :: r, h => by
    rw [lk_cons] at h
    simp only [setBR]
    split at h
    · rename_i e
      subst e
      cases h
      simp
    · rename_i e
      have : Nat.beq g j = false := by cases hb : Nat.beq g j with | false => rfl | true => exact absurd (Nat.eq_of_beq_eq_true hb) e
      simp only [this, cond_false, setBR_same g b r h]

theorem guardK_inv {ops : Array Oper} {α : Type} {run skip : St → Option α} {r : α} (h : guardK ops o st run skip = some r) :
    (run st = some r ∧ ∀ (γ : Type) (k' : Eff2 → Option γ), stepG E ops o st k' = stepD E o st k') ∨ (skip st = some r ∧ ∀ (γ : Type) (k' : Eff2 → Option γ), stepG E ops o st k' = k' ⟨o.dst, .tup .unit, none⟩) := by
  unfold guardK at h
  cases hg : o.guard with
  | none =>
    simp only [hg] at h
    exact .inl ⟨h, fun γ k' => by simp only [stepG, hg]⟩
  | some p =>
    obtain ⟨j, want⟩ := p
    simp only [hg] at h
    cases hs : guardSlot ops o with
    | none => rw [hs] at h; cases h
    | some g =>
      simp only [hs] at h
      split at h
      · rename_i b hl
        cases b with
        | true =>
          rw [setBR_same g true _ hl] at h
          cases want with
          | true => exact .inl ⟨h, fun γ k' => by simp only [stepG, hg, hs, hl, cond_true]⟩
          | false => exact .inr ⟨h, fun γ k' => by simp only [stepG, hg, hs, hl, cond_true, cond_false]⟩
        | false =>
          rw [setBR_same g false _ hl] at h
          cases want with
          | true => exact .inr ⟨h, fun γ k' => by simp only [stepG, hg, hs, hl, cond_true, cond_false]⟩
          | false => exact .inl ⟨h, fun γ k' => by simp only [stepG, hg, hs, hl, cond_false]⟩
      · rename_i hl
        exact .inr ⟨h, fun γ k' => by simp only [stepG, hg, hs, hl]⟩
      · cases h

/-! ### One operation -/
theorem stepD_pc : PC (fun β (k : Eff2 → Option β) => stepD E o st k) := by
  unfold stepD
  split
  · exact (storeK_pc (E := E) (st := st)).comp (F := fun β (k : Nat × Ob → Option β) => storeK E _ _ _ st fun id ob => k (id, ob)) (Y := Eff2) (G := fun β (q : Nat × Ob) (k : Eff2 → Option β) => k (⟨none, .any, some q⟩ : Eff2)) fun q => PC.ret _
  · rename_i d _
    simp only [withN_eq]
    split
    · exact (opP_pc (E := E) (o := o) (st := st) (id := newId st d)).comp (F := fun β (k : RV × Option Ob → Option β) => opP E o st (newId st d) fun rv ob => k (rv, ob)) (Y := Eff2) (G := fun β (q : RV × Option Ob) (k : Eff2 → Option β) => k (⟨some d, q.1, q.2.map fun ob => (newId st d, ob)⟩ : Eff2)) fun q => PC.ret _
    · exact PC.none
  · exact PC.none

theorem stepG_pc {ops : Array Oper} : PC (fun β (k : Eff2 → Option β) => stepG E ops o st k) := by
  unfold stepG
  split
  · exact stepD_pc
  · split
    · split
      · exact PC.bif (PC.bif stepD_pc (PC.ret _)) (PC.bif (PC.ret _) stepD_pc)
      · exact PC.ret _
      · exact PC.none
    · exact PC.none

theorem stepD_sound (hE : Env2Ok P E) (s : Sim2 w0 M0 N st a as w) (hd : ∀ d, o.dst = some d → d < N) {e : Eff2} (h : stepD E o st some = some e) : OSt P Q w0 M0 N o a as w (apE e st) := by
  unfold stepD at h
  split at h
  · rename_i t x y hop hdst
    obtain ⟨⟨i, ob⟩, h1, h2⟩ := storeK_pc (E := E) (st := st) _ (fun q : Nat × Ob => some (⟨none, .any, some q⟩ : Eff2)) _ h
    cases h2
    obtain ⟨g1, g2⟩ := storeK_sound (Q := Q) hE s hop hdst (h1 _ some)
    intro K hK
    refine g1 K fun a' w' hs => hK a' w' (hs.lks (fun _ => rfl) (fun j => ?_) rfl)
    simp only [setOb, apE]
    rw [lk_setA, lk_cons]
    split
    · cases hl : lk i st.l with
      | none => rw [hl] at g2; cases g2
      | some _ => rfl
    · rfl
  · rename_i d hdst
    simp only [withN_eq] at h
    split at h
    · rename_i hnone
      obtain ⟨⟨rv, ob⟩, h1, h2⟩ := opP_pc (E := E) (o := o) (st := st) (id := newId st d) _ (fun q : RV × Option Ob => some (⟨some d, q.1, q.2.map fun ob => (newId st d, ob)⟩ : Eff2)) _ h
      cases h2
      obtain ⟨M, β, τ, s⟩ := s
      intro K hK
      refine opP_sound (Q := Q) hE s hd hnone (h1 _ some) K fun a' w' hs => hK a' w' ?_
      refine hs.lks (fun j => ?_) (fun j => ?_) ?_
      · cases ob <;> (rw [hdst]; rfl)
      · cases ob <;> (rw [hdst]; rfl)
      · cases ob <;> (rw [hdst]; rfl)
    · cases h
  · cases h

theorem yielded_ok3 (s : Sm w0 M0 N M β τ st a as w) {ops : Array Oper} {j g : Nat} {b : Bool} (hg : (ops[j]?).bind (·.dst) = some g) (hl : lk g st.s = some (.val ⟨.bool, b⟩)) : yielded ops a.tmps j = some b := by
  obtain ⟨u, hu, u', e, hv⟩ := s.fr g _ hl
  cases e
  have hb := hv.bool
  simp [yielded, hg, hu, hb]

theorem tup_unit : RR M w β τ st.l (.tup .unit) .sl [undef] := by
  simp only [RR]
  exact ⟨trivial, [], rfl, rfl⟩
theorem yielded_none (s : Sm w0 M0 N M β τ st a as w) {ops : Array Oper} {j g : Nat} (hg : (ops[j]?).bind (·.dst) = some g) (hl : lk g st.s = some (.tup .unit)) : yielded ops a.tmps j = none := by
  obtain ⟨u, hu, r⟩ := s.fr g _ hl
  simp only [RR] at r
  obtain ⟨_, us, e, h⟩ := r
  subst h
  cases e
  simp [yielded, hg, hu]

theorem stepG_sound (hE : Env2Ok P E) (s : Sim2 w0 M0 N st a as w) (hd : ∀ d, o.dst = some d → d < N) {ops : Array Oper} {e : Eff2} (h : stepG E ops o st some = some e) (K : Act → World → Prop) (hK : ∀ a' w', Sim2 w0 M0 N (apE e st) a' as w' → K a' w') : GStep P Q ops o a w K := by
  unfold GStep
  unfold stepG at h
  split at h
  · rename_i hg
    simp only [Region.wanted, hg, if_true]
    exact stepD_sound (Q := Q) hE s hd h K hK
  · rename_i j want hg
    split at h
    · rename_i g hgd
      simp only [guardSlot, hg] at hgd
      split at h
      · rename_i b hlk
        have hy : yielded ops a.tmps j = some b := by
          obtain ⟨M, β, τ, s⟩ := s
          exact yielded_ok3 s hgd hlk
        have run : stepD E o st some = some e → Region.wanted o (yielded ops a.tmps) = true → (if Region.wanted o (yielded ops a.tmps) then o.wp P a w K Q else K (a.put o.dst undef) w) := by
          intro h hw
          rw [if_pos hw]
          exact stepD_sound (Q := Q) hE s hd h K hK
        have skip : some (⟨o.dst, .tup .unit, none⟩ : Eff2) = some e → Region.wanted o (yielded ops a.tmps) = false → (if Region.wanted o (yielded ops a.tmps) then o.wp P a w K Q else K (a.put o.dst undef) w) := by
          intro h hw
          cases h
          rw [if_neg (by simp [hw])]
          obtain ⟨M, β, τ, s⟩ := s
          refine hK _ _ ⟨M, β, τ, (s.set o.dst hd (rv := .tup .unit) tup_unit).lks (fun j => ?_) (fun j => ?_) ?_⟩
          · unfold setR apE; cases o.dst <;> rfl
          · unfold setR apE; cases o.dst <;> rfl
          · unfold setR apE; cases o.dst <;> rfl
        cases b with
        | true =>
          cases want with
          | true => exact run h (by simp [Region.wanted, hg, hy])
          | false => exact skip h (by simp [Region.wanted, hg, hy])
        | false =>
          cases want with
          | true => exact skip h (by simp [Region.wanted, hg, hy])
          | false => exact run h (by simp [Region.wanted, hg, hy])
      · rename_i hlk
        obtain ⟨M, β, τ, s⟩ := s
        have hy := yielded_none s hgd hlk
        have hw : Region.wanted o (yielded ops a.tmps) = false := by simp [Region.wanted, hg, hy]
        cases h
        rw [if_neg (by simp [hw])]
        refine hK _ _ ⟨M, β, τ, (s.set o.dst hd (rv := .tup .unit) tup_unit).lks (fun j => ?_) (fun j => ?_) ?_⟩
        · unfold setR apE; cases o.dst <;> rfl
        · unfold setR apE; cases o.dst <;> rfl
        · unfold setR apE; cases o.dst <;> rfl
      · cases h
    · cases h

theorem stepD_loc {S C : List Nat} (h : Ag S C st st') (hS : ∀ i ∈ slotsOf o, i ∈ S) (hid : ∀ d, o.dst = some d → newId st d ∈ C) {α : Type} (k : Eff2 → Option α) : stepD E o st k = stepD E o st' k := by
  unfold stepD
  split
  · rename_i t x y hop hdst
    exact storeK_loc h (fun i hi => hS i (slots_mem (by simp [hop, Op.operands, hi]))) (fun i hi => hS i (slots_mem (by simp [hop, Op.operands, hi]))) _
  · rename_i d hdst
    have hb : newId st' d = newId st d := by simp only [newId, withN_eq, h.b]
    simp only [withN_eq]
    rw [hb, ← h.l _ (hid d hdst)]
    split
    · exact opP_loc h hS _ _
    · rfl
  · rfl
theorem stepG_loc {S C : List Nat} (h : Ag S C st st') {ops : Array Oper} (hS : ∀ i ∈ slotsOf o ++ (guardSlot ops o).toList, i ∈ S) (hid : ∀ d, o.dst = some d → newId st d ∈ C) {α : Type} (k : Eff2 → Option α) : stepG E ops o st k = stepG E ops o st' k := by
  have hd := fun k => stepD_loc (E := E) (α := α) h (fun i hi => hS i (List.mem_append_left _ hi)) hid k
  unfold stepG
  split
  · exact hd k
  · split
    · rename_i g hg
      rw [← h.s g (hS g (by rw [hg]; simp)), hd k]
    · rfl

/-! ### All of them, in the text's order -/
theorem okRc_at {b : List Nat} {i : Nat} {q : Rc} : ∀ (k : Nat) (l : List Rc), okRc b i q k l = true → ∀ (m : Nat) (p : Rc), l[m]? = some p → (b.getD i 0).testBit (k + m) = true ∨ indep p q = true
  | _, [], _, m, p, hp => by simp at hp
  | k, p0 :: r, h, m, p, hp => by
    simp only [okRc, Bool.and_eq_true, Bool.or_eq_true] at h
    cases m with
    | zero =>
      simp only [List.getElem?_cons_zero, Option.some.injEq] at hp
      subst hp
      exact h.1
    | succ m =>
      have := okRc_at (k + 1) r h.2 m p (by simpa using hp)
      rw [show k + (m + 1) = k + 1 + m by omega]
      exact this

structure Can (E : Env2) (ops : Array Oper) (b : List Nat) (ef : Nat → Eff2) (sf : Nat → St) (rf : Nat → Rc) (j : Nat) (o : Oper) : Prop where
  next : sf (j + 1) = apE (ef j) (sf j)
  gives : ∀ (γ : Type) (k' : Eff2 → Option γ), stepG E ops o (sf j) k' = k' (ef j)
  rc : rf j = rcOf ops o (sf j) (ef j)
  ok : ∀ m, m < j → (b.getD j 0).testBit m = true ∨ indep (rf m) (rf j) = true
  cl : closedB (rf j).ob (sf j).l = true
  inn : opsIn (rf j).ob (rf j).rd (sf j) = true

theorem opsD_can {ops : Array Oper} {b : List Nat} {α : Type} {kn : St → Option α} {r : α} : ∀ (l : List Oper) (i : Nat) (rcs : List Rc) (st : St), opsD E ops b i l rcs st kn = some r → rcs.length = i →
    ∃ (ef : Nat → Eff2) (sf : Nat → St) (rf : Nat → Rc), sf i = st ∧ (∀ j, j < i → rcs[j]? = some (rf j)) ∧ kn (sf (i + l.length)) = some r ∧ ∀ m o, l[m]? = some o → Can E ops b ef sf rf (i + m) o
  | [], i, rcs, st, h, hl => by
    refine ⟨fun _ => ⟨none, .any, none⟩, fun _ => st, fun j => rcs.getD j ⟨[], [], none, none⟩, rfl, fun j hj => ?_, h, fun m o hm => by simp at hm⟩
    have : j < rcs.length := by omega
    simp [this]
  | o :: rest, i, rcs, st, h, hl => by
    simp only [opsD] at h
    obtain ⟨e, h1, h2⟩ : ∃ e, (∀ (γ : Type) (k' : Eff2 → Option γ), stepG E ops o st k' = k' e) ∧ (bif okRc b i (rcOf ops o st e) 0 rcs && (closedB (rcOf ops o st e).ob st.l && opsIn (rcOf ops o st e).ob (rcOf ops o st e).rd st) then opsD E ops b (i + 1) rest (rcs ++ [rcOf ops o st e]) (apE e st) kn else none) = some r := by
      rcases guardK_inv (E := E) h with ⟨h1, h2⟩ | ⟨h1, h2⟩
      · obtain ⟨e, g1, g2⟩ := stepD_pc (E := E) (o := o) (st := st) _ _ _ h1
        exact ⟨e, fun γ k' => (h2 γ k').trans (g1 γ k'), g2⟩
      · exact ⟨_, h2, h1⟩
    obtain ⟨hc, h2⟩ := bif_some h2
    simp only [Bool.and_eq_true] at hc
    obtain ⟨c1, c2, c3⟩ := hc
    obtain ⟨ef, sf, rf, g1, g2, g3, g4⟩ := opsD_can rest (i + 1) (rcs ++ [rcOf ops o st e]) (apE e st) h2 (by simp [hl])
    have hri : rf i = rcOf ops o st e := by
      have := g2 i (by omega)
      rw [List.getElem?_append_right (by omega)] at this
      simp [hl] at this
      exact this.symm
    have hrj : ∀ j, j < i → rcs[j]? = some (rf j) := fun j hj => by
      have := g2 j (by omega)
      rwa [List.getElem?_append_left (by omega)] at this
    refine ⟨fun j => if j = i then e else ef j, fun j => if j = i then st else sf j, rf, by simp, hrj, ?_, ?_⟩
    · have : i + (o :: rest).length ≠ i := by simp
      simp only [if_neg this]
      rw [show i + (o :: rest).length = i + 1 + rest.length by simp; omega]
      exact g3
    · intro m o' hm
      cases m with
      | zero =>
        simp only [List.getElem?_cons_zero, Option.some.injEq] at hm
        subst hm
        refine ⟨?_, ?_, ?_, ?_, ?_, ?_⟩
        · simp [g1]
        · intro γ k'; simpa using h1 γ k'
        · simp [hri]
        · intro m hmi
          simp only [Nat.add_zero] at hmi ⊢
          have := okRc_at 0 rcs c1 m (rf m) (hrj m hmi)
          rw [Nat.zero_add] at this
          rw [hri]
          exact this
        · simp only [Nat.add_zero, if_true]; rw [hri]; exact c2
        · simp only [Nat.add_zero, if_true]; rw [hri]; exact c3
      | succ m =>
        have := g4 m o' (by simpa using hm)
        have e1 : i + (m + 1) = i + 1 + m := by omega
        have e2 : i + 1 + m ≠ i := by omega
        have e3 : i + 1 + m + 1 ≠ i := by omega
        rw [e1]
        refine ⟨?_, ?_, ?_, this.ok, ?_, ?_⟩
        · simp only [if_neg e2, if_neg e3]; exact this.next
        · simp only [if_neg e2]; exact this.gives
        · simp only [if_neg e2]; exact this.rc
        · simp only [if_neg e2]; exact this.cl
        · simp only [if_neg e2]; exact this.inn

theorem memO_eq {x : Option Nat} {l : List Nat} {i : Nat} (h : x = some i) (hi : i ∈ l) : memO x l = true := by
  subst h
  exact any_mem.2 hi
theorem sameO_eq {x y : Option Nat} {i : Nat} (h : x = some i) (h' : y = some i) : sameO x y = true := by
  subst h h'
  simp [sameO]

theorem eS_d {e : Eff2} {s : Nat} (h : (eS e s).isSome = true) : e.d = some s := by
  unfold eS at h
  split at h
  · assumption
  · cases h
theorem eO_w {e : Eff2} {s : Nat} (h : (eO e s).isSome = true) : e.o.map (·.1) = some s := by
  unfold eO at h
  split at h
  · rename_i p hp
    split at h
    · rename_i e'; rw [hp]; simp [e']
    · cases h
  · cases h

/-- a region whose order is open -/
theorem drawR_sound (hE : Env2Ok P E) {ops : Array Oper} {α : Type} {kn : St → Option α} {r : α} (hbk : backOk ops = true) (hd : ∀ (i : Nat) (o : Oper), ops[i]? = some o → ∀ d, o.dst = some d → d < N)
    (hQ : ∀ st a w, kn st = some r → Sim2 w0 M0 N st a as w → Q .normal a w) {st0 : St} {a : Act} {w : World} (h : opsD E ops (befL ops.toList []) 0 ops.toList [] st0 kn = some r) (s : Sim2 w0 M0 N st0 a as w) :
    wpAny P .any ops Q ops.size (Array.replicate ops.size false) a w := by
  have hback : ∀ (i : Nat) (o : Oper) (e : Edge), ops[i]? = some o → e ∈ o.after → Region.binds .any e = true → e.on < i := by
    intro i o e ho he hb
    have hm : (o, i) ∈ ops.toList.zipIdx 0 := by rw [List.mk_mem_zipIdx_iff_getElem?]; simpa using ho
    have := List.all_eq_true.1 (List.all_eq_true.1 hbk _ hm) e (by simpa using he)
    simp only [hb, Bool.not_true, Bool.false_or] at this
    exact Nat.lt_of_lt_of_le (Nat.lt_succ_self _) (Nat.le_of_ble_eq_true this)
  obtain ⟨ef, sf, rf, g1, _, g3, g4⟩ := opsD_can ops.toList 0 [] st0 h rfl
  simp only [Nat.zero_add, Array.length_toList] at g3 g4
  have can : ∀ j o, ops[j]? = some o → Can E ops (befL ops.toList []) ef sf rf j o := fun j o ho => g4 j o (by simpa using ho)
  -- the frames in the text's order
  have sfT : ∀ m, m ≤ ops.size → Tells (fun j => decide (j < m)) ops.size ef st0 (sf m) := by
    intro m
    induction m with
    | zero =>
      intro _
      have hz : ∀ {V : Type} (f : Nat → Option V) n, lastW (fun j => decide (j < 0)) f n = none := by
        intro V f n
        induction n with
        | zero => rfl
        | succ n ih => simp only [lastW, ih]; simp
      rw [g1]
      exact ⟨fun s => by rw [hz]; rfl, fun s => by rw [hz]; rfl, rfl, rfl⟩
    | succ m ih =>
      intro hm
      have hc := can m ops[m] (by simp [show m < ops.size by omega])
      rw [hc.next]
      refine (ih (by omega)).step (by omega) (fun j => ?_) (by simp) (fun j s h1 _ h3 _ => ?_) (fun j s h1 _ h3 _ => ?_)
      · by_cases hj : j = m
        · subst hj; simp
        · rw [if_neg hj]; congr 1; simp; omega
      · simp at h3; omega
      · simp at h3; omega
  have rcd : ∀ j o, ops[j]? = some o → (rf j).d = (ef j).d ∧ (rf j).w = (ef j).o.map (·.1) := fun j o ho => by rw [(can j o ho).rc]; exact ⟨rfl, rfl⟩
  -- two that clash are in order
  have ord : ∀ j k o p, ops[j]? = some o → ops[k]? = some p → j < k → indep (rf j) (rf k) = false → ((befL ops.toList []).getD k 0).testBit j = true := by
    intro j k o p ho hp hjk hi
    rcases (can k p hp).ok j hjk with h | h
    · exact h
    · rw [hi] at h; cases h
  have ind : ∀ {p q : Rc}, (memO p.d q.rd = true ∨ memO q.d p.rd = true ∨ sameO p.d q.d = true ∨ memO p.w q.ob = true ∨ memO q.w p.ob = true ∨ sameO p.w q.w = true) → indep p q = false := by
    intro p q h
    simp only [indep]
    rcases h with h | h | h | h | h | h <;> simp [h]
  have main : ∀ (fuel : Nat) (listed : Array Bool) (a : Act) (w : World) (X : St), listed.size = ops.size → Clos (befL ops.toList []) (Lst listed) → fuel + cnt (Lst listed) ops.size = ops.size → Tells (Lst listed) ops.size ef st0 X →
      Sim2 w0 M0 N X a as w → wpAny P .any ops Q fuel listed a w := by
    intro fuel
    induction fuel with
    | zero =>
      intro listed a w X hsz hc hf hT s
      have hall := cnt_all ops.size (by omega : cnt (Lst listed) ops.size = ops.size)
      refine ⟨?_, ?_⟩
      · apply List.eq_nil_iff_forall_not_mem.2
        intro j hj
        obtain ⟨h1, o, ho, _⟩ := mem_ready.1 hj
        have hj' : j < ops.size := (Array.getElem?_eq_some_iff.1 ho).1
        rw [lst_true (by omega), hall j hj'] at h1
        cases h1
      · have hE' := sfT ops.size (Nat.le_refl _)
        refine hQ _ a w g3 (s.lks (fun i => ?_) (fun i => ?_) ?_)
        · rw [hT.s, hE'.s, lastW_congr (sel := Lst listed) (sel' := fun j => decide (j < ops.size)) fun j hj _ => by rw [hall j hj]; simp [hj]]
        · rw [hT.l, hE'.l, lastW_congr (sel := Lst listed) (sel' := fun j => decide (j < ops.size)) fun j hj _ => by rw [hall j hj]; simp [hj]]
        · rw [hT.k, hE'.k]
    | succ fuel ih =>
      intro listed a w X hsz hc hf hT s
      obtain ⟨j, hj, hjl⟩ : ∃ j, j < ops.size ∧ Lst listed j = false := by
        apply Classical.byContradiction
        intro hne
        have : cnt (Lst listed) ops.size = ops.size := cnt_full _ fun j hj => by
          cases hl : Lst listed j with
          | true => rfl
          | false => exact absurd ⟨j, hj, hl⟩ hne
        omega
      have hready : Region.ready .any ops listed ≠ [] := by
        obtain ⟨i, h1, h2, h3⟩ := least (p := fun i => Lst listed i = false) j hjl
        have hi : i < ops.size := by omega
        have : i ∈ Region.ready .any ops listed := by
          refine mem_ready.2 ⟨by rw [lst_true (by omega)]; exact h2, ops[i], by simp [hi], fun e he hb => ?_⟩
          have hlt := hback i ops[i] e (by simp [hi]) he hb
          have := h3 e.on hlt
          show Lst listed e.on = true
          simpa using this
        exact List.ne_nil_of_mem this
      refine ⟨fun hr => absurd hr hready, fun i hi => ?_⟩
      obtain ⟨h1, o, ho, he⟩ := mem_ready.1 hi
      have hi' : i < ops.size := (Array.getElem?_eq_some_iff.1 ho).1
      rw [lst_true (by omega)] at h1
      have hpred : ∀ m, ((befL ops.toList []).getD i 0).testBit m = true → Lst listed m = true := fun m hb => ready_pred hc hi hb
      have hsucc : ∀ m, ((befL ops.toList []).getD m 0).testBit i = true → Lst listed m = false := by
        intro m hb
        cases hl : Lst listed m with
        | false => rfl
        | true => rw [hc m i hl hb] at h1; cases h1
      have hcan := can i o ho
      have hSi := sfT i (by omega)
      -- who wrote what is looked at
      have hsel : ∀ k, k < ops.size → (∃ x, (ef k).d = some x ∧ x ∈ (rf i).rd) ∨ (∃ x, (ef k).o.map (·.1) = some x ∧ x ∈ (rf i).ob) → decide (k < i) = Lst listed k := by
        intro k hk hw
        have hpo : ops[k]? = some ops[k] := by simp [hk]
        obtain ⟨r1, r2⟩ := rcd k _ hpo
        rcases Nat.lt_trichotomy k i with hki | hki | hki
        · rw [hpred k (ord k i _ _ hpo ho hki (ind ?_))]
          · simp [hki]
          · rcases hw with ⟨x, h1, h2⟩ | ⟨x, h1, h2⟩
            · exact .inl (memO_eq (r1.trans h1) h2)
            · exact .inr (.inr (.inr (.inl (memO_eq (r2.trans h1) h2))))
        · subst hki
          rw [h1]; simp
        · rw [hsucc k (ord i k _ _ ho hpo hki (ind ?_))]
          · simp; omega
          · rcases hw with ⟨x, h1, h2⟩ | ⟨x, h1, h2⟩
            · exact .inr (.inl (memO_eq (r1.trans h1) h2))
            · exact .inr (.inr (.inr (.inr (.inl (memO_eq (r2.trans h1) h2)))))
      have hAg : Ag (rf i).rd (rf i).ob (sf i) X := {
        s := fun x hx => by
          rw [hT.s, hSi.s, lastW_congr fun k hk hsome => hsel k hk (.inl ⟨x, eS_d hsome, hx⟩)]
        l := fun x hx => by
          rw [hT.l, hSi.l, lastW_congr fun k hk hsome => hsel k hk (.inr ⟨x, eO_w hsome, hx⟩)]
        b := by rw [hT.b, hSi.b]
        n := fun x hx rv hl => by
          have := List.all_eq_true.1 hcan.inn x hx
          rw [hl] at this
          exact this
        c := fun x hx ty con hl => by
          have := List.all_eq_true.1 hcan.cl x hx
          rw [hl] at this
          exact this }
      have hrd : (rf i).rd = slotsOf o ++ (guardSlot ops o).toList := by rw [hcan.rc]; rfl
      have hob : ∀ d, o.dst = some d → newId (sf i) d ∈ (rf i).ob := fun d hdd => by
        rw [hcan.rc]
        simp only [rcOf, hdd]
        simp
      have hstep : stepG E ops o X some = some (ef i) := by
        rw [← stepG_loc hAg (by rw [hrd]; exact fun _ h => h) hob]
        exact hcan.gives _ some
      refine wpOp_of_G ho (stepG_sound hE s (hd i o ho) hstep _ fun a' w' s' => ?_)
      refine ih _ a' w' (apE (ef i) X) (by simp [hsz]) ?_ ?_ ?_ s'
      · intro x m hx hb
        rw [lst_set (by omega)] at hx ⊢
        split
        · rfl
        · split at hx
          · rename_i hxi; subst hxi; exact hpred m hb
          · exact hc x m hx hb
      · rw [cnt_set h1 (by rw [lst_set (by omega)]; simp) (fun x hx => by rw [lst_set (by omega), if_neg hx]) ops.size hi']
        omega
      · have hclash : ∀ k, i < k → k < ops.size → Lst listed k = true → indep (rf i) (rf k) = true := by
          intro k hik hk hlk
          cases hind : indep (rf i) (rf k) with
          | true => rfl
          | false =>
            rw [hsucc k (ord i k _ _ ho (by simp [hk] : ops[k]? = some ops[k]) hik hind)] at hlk
            cases hlk
        refine hT.step hi' (fun k => lst_set (by omega) k) h1 (fun k x hik hk hlk hsome => ?_) (fun k x hik hk hlk hsome => ?_)
        · cases hn : eS (ef k) x with
          | none => rfl
          | some v =>
            have hpo : ops[k]? = some ops[k] := by simp [hk]
            have := hclash k hik hk hlk
            rw [ind (.inr (.inr (.inl (sameO_eq ((rcd i o ho).1.trans (eS_d hsome)) ((rcd k _ hpo).1.trans (eS_d (by rw [hn]; rfl)))))))] at this
            cases this
        · cases hn : eO (ef k) x with
          | none => rfl
          | some v =>
            have hpo : ops[k]? = some ops[k] := by simp [hk]
            have := hclash k hik hk hlk
            rw [ind (.inr (.inr (.inr (.inr (.inr (sameO_eq ((rcd i o ho).2.trans (eO_w hsome)) ((rcd k _ hpo).2.trans (eO_w (by rw [hn]; rfl)))))))))] at this
            cases this
  have hinit : ∀ i, Lst (Array.replicate ops.size false) i = false := by
    intro i
    unfold Lst
    by_cases hi : i < ops.size <;> simp [hi]
  have hz : ∀ {V : Type} (f : Nat → Option V) n, lastW (Lst (Array.replicate ops.size false)) f n = none := by
    intro V f n
    induction n with
    | zero => rfl
    | succ n ih => simp only [lastW, ih, hinit]; simp
  refine main ops.size _ a w st0 (by simp) (fun i m hi => by rw [hinit] at hi; cases hi) ?_ ⟨fun s => by rw [hz]; rfl, fun s => by rw [hz]; rfl, rfl, rfl⟩ s
  have : ∀ n, cnt (Lst (Array.replicate ops.size false)) n = 0 := by
    intro n
    induction n with
    | zero => rfl
    | succ n ih => simp [cnt, ih, hinit]
  rw [this]
  omega
end
end Go.Lift
