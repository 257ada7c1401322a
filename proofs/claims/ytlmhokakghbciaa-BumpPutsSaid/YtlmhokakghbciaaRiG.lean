/- The head of a loop: what is looked at no more is forgotten, names are given in order, and slices that are nil are slices of one's own. -/
import Derived.Test.YtlmhokakghbciaaRiF
namespace Go.Lift
open Go.RowKit

def pickS {α : Type} (s : List (Nat × α)) : List Nat → List (Nat × α)
  | [] => []
  | i :: r => match lk i s with
    | some a => (i, a) :: pickS s r
    | none => pickS s r

theorem lk_pickS {α : Type} (s : List (Nat × α)) (i : Nat) : ∀ (ks : List Nat) (a : α), lk i (pickS s ks) = some a → lk i s = some a
  | [], a, h => by simp [pickS, lk] at h
  | j :: r, a, h => by
    simp only [pickS] at h
    split at h
    · rename_i x hx
      rw [lk_cons] at h
      split at h
      · rename_i e; subst e; cases h; exact hx
      · exact lk_pickS s i r a h
    · exact lk_pickS s i r a h

/-- the names in a value -/
def idsR : RV → List Nat → List Nat
  | .row id, acc => id :: acc
  | .sub id _ _, acc => id :: acc
  | .loc id _, acc => id :: acc
  | .clo _ c, acc => idsR c acc
  | .pair a b, acc => idsR a (idsR b acc)
  | .agg _ r, acc => idsR r acc
  | .tup r, acc => idsR r acc
  | .mp id, acc => id :: acc
  | .yl id, acc => id :: acc
  | _, acc => acc
def idsS : List (Nat × RV) → List Nat → List Nat
  | [], acc => acc
  | p :: s, acc => idsR p.2 (idsS s acc)
def idsK : List (Nat × List (Nat × RV)) → List Nat → List Nat
  | [], acc => acc
  | p :: k, acc => idsS p.2 (idsK k acc)

/-- the names that are reached, in order -/
def reach (l : List (Nat × Ob)) : Nat → List Nat → List Nat → List Nat
  | 0, _, seen => seen
  | _, [], seen => seen
  | n + 1, id :: todo, seen => bif seen.any (Nat.beq id) then reach l n todo seen else match lk id l with
    | some (.var _ con) => reach l n (idsR con todo) (seen ++ [id])
    | some (.row _ _) => reach l n todo (seen ++ [id])
    | some (.mp _ _ _) => reach l n todo (seen ++ [id])
    | some (.lp con _) => reach l n (idsR con todo) (seen ++ [id])
    | none => reach l n todo seen

def idxN (id : Nat) : List Nat → Nat → Option Nat
  | [], _ => none
  | j :: r, n => bif Nat.beq id j then some n else idxN id r (n + 1)

theorem idxN_some {id : Nat} : ∀ {l : List Nat} {n j : Nat}, idxN id l n = some j → n ≤ j ∧ l[j - n]? = some id
  | [], n, j, h => by cases h
  | x :: r, n, j, h => by
    simp only [idxN] at h
    cases hb : Nat.beq id x with
    | true =>
      have := Nat.eq_of_beq_eq_true hb
      subst this
      simp at h
      subst h
      simp
    | false =>
      simp only [hb, cond_false] at h
      obtain ⟨h1, h2⟩ := idxN_some h
      refine ⟨by omega, ?_⟩
      rw [show j - n = (j - (n + 1)) + 1 by omega]
      simpa using h2

def renL (f : Nat → Option Nat) (l : List (Nat × Ob)) : List Nat → Nat → List (Nat × Ob)
  | [], _ => []
  | id :: r, n => match f id, lk id l with
    | some j, some ob => bif Nat.beq j n then (n, mapOb f ob) :: renL f l r (n + 1) else renL f l r (n + 1)
    | _, _ => renL f l r (n + 1)

def renSt (ids : List Nat) (st : St) : St :=
  { s := mapSl (fun id => idxN id ids 0) st.s, l := renL (fun id => idxN id ids 0) st.l ids 0, k := mapKs (fun id => idxN id ids 0) st.k, b := st.b }

theorem renL_lk {f : Nat → Option Nat} {l : List (Nat × Ob)} : ∀ (ids : List Nat) (n j : Nat) (ob' : Ob), lk j (renL f l ids n) = some ob' → n ≤ j ∧ ∃ id ob, ids[j - n]? = some id ∧ f id = some j ∧ lk id l = some ob ∧ ob' = mapOb f ob
  | [], n, j, ob', h => by simp [renL, lk] at h
  | id :: r, n, j, ob', h => by
    have next : lk j (renL f l r (n + 1)) = some ob' → n ≤ j ∧ ∃ id' ob, (id :: r)[j - n]? = some id' ∧ f id' = some j ∧ lk id' l = some ob ∧ ob' = mapOb f ob := by
      intro h
      obtain ⟨h1, i', ob, h2, h3⟩ := renL_lk r (n + 1) j ob' h
      refine ⟨by omega, i', ob, ?_, h3⟩
      rw [show j - n = (j - (n + 1)) + 1 by omega]
      simpa using h2
    simp only [renL] at h
    split at h
    · rename_i j' ob h1 h2
      cases hb : Nat.beq j' n with
      | true =>
        have := Nat.eq_of_beq_eq_true hb
        subst this
        simp only [hb, cond_true, lk_cons] at h
        split at h
        · rename_i e
          subst e
          cases h
          exact ⟨Nat.le_refl _, id, ob, by simp, h1, h2, rfl⟩
        · exact next h
      | false =>
        simp only [hb, cond_false] at h
        exact next h
    · exact next h

theorem renL_has {f : Nat → Option Nat} {l : List (Nat × Ob)} : ∀ (ids : List Nat) (n j id : Nat) (ob : Ob), n ≤ j → ids[j - n]? = some id → f id = some j → lk id l = some ob → lk j (renL f l ids n) = some (mapOb f ob)
  | [], n, j, id, ob, h, h1, _, _ => by simp at h1
  | i :: r, n, j, id, ob, h, h1, h2, h3 => by
    by_cases hj : j = n
    · subst hj
      simp at h1
      subst h1
      simp [renL, h2, h3, lk]
    · have ih := renL_has r (n + 1) j id ob (by omega) (by rw [show j - n = (j - (n + 1)) + 1 by omega] at h1; simpa using h1) h2 h3
      simp only [renL]
      split
      · rename_i j' ob' h4 h5
        cases hb : Nat.beq j' n with
        | true => simp only [cond_true, lk_cons, if_neg hj]; exact ih
        | false => exact ih
      · exact ih

section
variable {w0 : World} {M0 : Bs} {N : Nat} {M M' : Own} {β β' : Nat → Nat} {τ τ' : Nat → Value} {L L' : List (Nat × Ob)} {st st' : St} {a : Act} {as : List Act} {w w' : World}

theorem Sm.ren (s : Sm w0 M0 N M β τ st a as w) (ids : List Nat) : Sm w0 M0 N M (fun j => β ((ids[j]?).getD 0)) (fun j => τ ((ids[j]?).getD 0)) (renSt ids st) a as w := by
  have hm : MapOk (fun id => idxN id ids 0) st.l β τ (renSt ids st).l (fun j => β ((ids[j]?).getD 0)) (fun j => τ ((ids[j]?).getD 0)) := by
    intro id j ob hf hl
    obtain ⟨_, h⟩ := idxN_some hf
    simp only [Nat.sub_zero] at h
    exact ⟨_, renL_has ids 0 j id ob (Nat.zero_le _) (by simpa using h) hf hl, mapOb_shape _ _, by simp [h], by simp [h]⟩
  have inv : ∀ {j ob'}, lk j (renSt ids st).l = some ob' → ∃ id ob, ids[j]? = some id ∧ idxN id ids 0 = some j ∧ lk id st.l = some ob ∧ ob' = mapOb (fun id => idxN id ids 0) ob := by
    intro j ob' h
    obtain ⟨_, id, ob, h1, h2⟩ := renL_lk ids 0 j ob' h
    exact ⟨id, ob, by simpa using h1, h2⟩
  have hbk : ∀ {j id : Nat} {ob : Ob}, ids[j]? = some id → blk (fun j => β ((ids[j]?).getD 0)) (fun j => τ ((ids[j]?).getD 0)) j (mapOb (fun id => idxN id ids 0) ob) = blk β τ id ob := by
    intro j id ob h
    cases ob <;> simp [mapOb, blk, h]
  refine s.gen (f := fun id => idxN id ids 0) (Ext.refl M w) s.bel s.mlt s.mnew (fun _ _ => ⟨rfl, fun _ h => h⟩) hm rfl rfl ?_ ?_
  · intro j ob' h
    obtain ⟨id, ob, h1, h2, h3, rfl⟩ := inv h
    exact ObOk.map (Ext.refl M w) hm h2 h3 (s.ob id ob h3) fun b _ => ⟨rfl, fun _ h => h⟩
  · intro j j' o o' b h h' hb hb'
    obtain ⟨id, ob, h1, h2, h3, rfl⟩ := inv h
    obtain ⟨id', ob', h1', h2', h3', rfl⟩ := inv h'
    rw [hbk h1] at hb
    rw [hbk h1'] at hb'
    have := s.dj id id' ob ob' b h3 h3' hb hb'
    subst this
    exact Option.some.inj (h2.symm.trans h2')

theorem Sm.pickS (s : Sm w0 M0 N M β τ st a as w) (ks : List Nat) : Sm w0 M0 N M β τ { st with s := Go.Lift.pickS st.s ks } a as w :=
  { s with fr := fun i rv h => s.fr i rv (lk_pickS _ _ _ _ h) }

/-! ### nil is a slice of one's own -/
theorem rowX_nil {b0 : Nat → Prop} {t : Ty} : RowX b0 M w t ([] : List t.den) (.slice none 0 0) :=
  ⟨none, 0, [], rfl, by simp, by simp [maxLen], fun _ => rfl, rfl, fun _ h => by cases h⟩

theorem Sm.addNil (s : Sm w0 M0 N M β τ st a as w) {c : Nat} (t : Ty) (hc : lk c st.l = none) : ∃ β' τ', Sm w0 M0 N M β' τ' (addN c (.row t []) st) a as w ∧ τ' c = .slice none 0 0 ∧ MapOk some st.l β τ (addN c (.row t []) st).l β' τ' := by
  refine ⟨_, _, s.addRow hc (Gr.refl s.mlt) rowX_nil, by simp, ?_⟩
  intro i j o hf hl
  cases hf
  have hne : i ≠ c := fun e => by subst e; rw [hc] at hl; cases hl
  exact ⟨o, by simp [addN, lk_cons, hne, hl], rfl, by simp [hne], by simp [hne]⟩

/-- nils in slots -/
def nilS : List Nat → Nat → St → St
  | [], _, st => st
  | i :: r, c, st => match lk i st.s, lk c st.l with
    | some (.nil t), none => nilS r (c + 1) { addN c (.row t []) st with s := setA i (.row c) st.s }
    | _, _ => nilS r c st

theorem Sm.nilS : ∀ (is : List Nat) (c : Nat) {st : St} {β : Nat → Nat} {τ : Nat → Value}, Sm w0 M0 N M β τ st a as w → ∃ β' τ', Sm w0 M0 N M β' τ' (Go.Lift.nilS is c st) a as w
  | [], c, st, β, τ, s => ⟨β, τ, s⟩
  | i :: r, c, st, β, τ, s => by
    simp only [Go.Lift.nilS]
    split
    · rename_i t h1 h2
      obtain ⟨β', τ', s', ht, _⟩ := s.addNil t h2
      refine Sm.nilS r (c + 1) (β := β') (τ := τ') { s' with fr := ?_ }
      intro j rv h
      rw [lk_setA] at h
      split at h
      · rename_i hj
        subst hj
        rw [h1] at h
        cases h
        obtain ⟨u, hu, hr⟩ := s'.fr j (.nil t) h1
        have hr' : [u] = [Value.slice none 0 0] := hr
        cases hr'
        refine ⟨_, hu, ?_⟩
        simp only [RR]
        exact ⟨rfl, _, t, [], rfl, rfl, by simp [addN, lk], ht.symm⟩
      · exact s'.fr j rv h
    · exact Sm.nilS r c s

/-- the first nil in a content -/
def nilC (c : Nat) : RV → Option (RV × Ty)
  | .nil t => some (.row c, t)
  | .pair a b => match nilC c a with
    | some (a', t) => some (.pair a' b, t)
    | none => match nilC c b with
      | some (b', t) => some (.pair a b', t)
      | none => none
  | _ => none

theorem nilC_ok {c : Nat} {t : Ty} (hl : lk c L = some (.row t [])) (ht : τ c = .slice none 0 0) : ∀ {con con' : RV} {ty : Ty} {cs : List Value}, nilC c con = some (con', t) → RR M w β τ L con (.ce ty) cs → RR M w β τ L con' (.ce ty) cs := by
  intro con
  induction con with
  | nil t' =>
    intro con' ty cs h r
    simp only [nilC, Option.some.injEq, Prod.mk.injEq] at h
    obtain ⟨rfl, rfl⟩ := h
    obtain ⟨rfl, rfl⟩ := r
    simp only [RR]
    exact ⟨rfl, _, t', [], rfl, rfl, hl, ht.symm⟩
  | pair a b iha ihb =>
    intro con' ty cs h r
    simp only [RR] at r
    obtain ⟨ta, tb, c1, c2, rfl, rfl, r1, r2⟩ := r
    simp only [nilC] at h
    split at h
    · rename_i a' t' ha
      cases h
      simp only [RR]
      exact ⟨ta, tb, c1, c2, rfl, rfl, iha ha r1, r2⟩
    · split at h
      · rename_i b' t' hb
        cases h
        simp only [RR]
        exact ⟨ta, tb, c1, c2, rfl, rfl, r1, ihb hb r2⟩
      · cases h
  | _ => intro con' ty cs h; simp [nilC] at h

def nilL : Nat → List Nat → Nat → St → St
  | 0, _, _, st => st
  | _, [], _, st => st
  | n + 1, id :: r, c, st => match lk id st.l, lk c st.l with
    | some (.var ty con), none => match nilC c con with
      | some (con', t) => nilL n (id :: r) (c + 1) (setOb id (.var ty con') (addN c (.row t []) st))
      | none => nilL n r c st
    | _, _ => nilL n r c st

theorem Sm.nilL : ∀ (n : Nat) (is : List Nat) (c : Nat) {st : St} {β : Nat → Nat} {τ : Nat → Value}, Sm w0 M0 N M β τ st a as w → ∃ β' τ', Sm w0 M0 N M β' τ' (Go.Lift.nilL n is c st) a as w
  | 0, _, _, st, β, τ, s => ⟨β, τ, s⟩
  | n + 1, [], _, st, β, τ, s => ⟨β, τ, s⟩
  | n + 1, id :: r, c, st, β, τ, s => by
    simp only [Go.Lift.nilL]
    split
    · rename_i ty con h1 h2
      split
      · rename_i con' t hc
        obtain ⟨β', τ', s', ht, hm⟩ := s.addNil t h2
        refine Sm.nilL n (id :: r) (c + 1) (β := β') (τ := τ') ?_
        have hne : id ≠ c := fun e => by subst e; rw [h2] at h1; cases h1
        have hl' : lk id (addN c (.row t []) st).l = some (.var ty con) := by simp [addN, lk_cons, hne, h1]
        have hlk : ∀ j, lk j (setA id (.var ty con') (addN c (.row t []) st).l) = if j = id then some (.var ty con') else lk j (addN c (.row t []) st).l := fun j => by
          rw [lk_setA, hl']; split <;> simp
        have hm' : MapOk some (addN c (.row t []) st).l β' τ' (setA id (.var ty con') (addN c (.row t []) st).l) β' τ' := by
          intro i j o hf hi
          cases hf
          by_cases h : i = id
          · subst h
            rw [hl'] at hi
            cases hi
            exact ⟨.var ty con', by rw [hlk]; simp, rfl, rfl, rfl⟩
          · exact ⟨o, by rw [hlk, if_neg h]; exact hi, rfl, rfl, rfl⟩
        refine s'.gen (f := some) (st' := setOb id (.var ty con') (addN c (.row t []) st)) (Ext.refl M w) s'.bel s'.mlt s'.mnew (fun _ _ => ⟨rfl, fun _ h => h⟩) hm' (mapSl_some _).symm (mapKs_some _).symm ?_ ?_
        · intro j o h
          simp only [setOb] at h
          rw [hlk] at h
          split at h
          · rename_i hj
            subst hj
            cases h
            obtain ⟨l1, ⟨cs, T, l2, l3⟩, l4⟩ := s'.ob j _ hl'
            refine ⟨l1, ⟨cs, T, l2, (nilC_ok (by simp [addN, lk]) ht hc l3).keep hm'⟩, l4⟩
          · have := ObOk.map (f := some) (Ext.refl M w) hm' rfl h (s'.ob j o h) fun b _ => ⟨rfl, fun _ h => h⟩
            rwa [mapOb_some] at this
        · intro j j' o o' b h h' hb hb'
          simp only [setOb] at h h'
          rw [hlk] at h h'
          have fixd : ∀ {j o}, (if j = id then some (Ob.var ty con') else lk j (addN c (.row t []) st).l) = some o → blk β' τ' j o = some b → ∃ o0, lk j (addN c (.row t []) st).l = some o0 ∧ blk β' τ' j o0 = some b := by
            intro j o hh hb2
            by_cases hj : j = id
            · rw [if_pos hj] at hh
              subst hj
              obtain rfl := Option.some.inj hh
              exact ⟨_, hl', hb2⟩
            · rw [if_neg hj] at hh
              exact ⟨o, hh, hb2⟩
          obtain ⟨o0, g1, g2⟩ := fixd h hb
          obtain ⟨o0', g1', g2'⟩ := fixd h' hb'
          exact s'.dj j j' o0 o0' b g1 g1' g2 g2'
      · exact Sm.nilL n r c s
    · exact Sm.nilL n r c s

/-- names in order -/
def order (st : St) : St := renSt (reach st.l 200 (idsS st.s (idsK st.k [])) []) st

/-- the head of a loop -/
def canon (ks : List Nat) (st : St) : St :=
  let st1 := order { st with s := pickS st.s ks }
  let st2 := nilL 200 (List.range st1.l.length) st1.l.length st1
  order (nilS ks st2.l.length st2)

theorem Sim2.order (s : Sim2 w0 M0 N st a as w) : Sim2 w0 M0 N (Go.Lift.order st) a as w := by
  obtain ⟨M, β, τ, s⟩ := s
  exact ⟨M, _, _, s.ren _⟩

theorem Sim2.canon (s : Sim2 w0 M0 N st a as w) (ks : List Nat) : Sim2 w0 M0 N (Go.Lift.canon ks st) a as w := by
  obtain ⟨M, β, τ, s⟩ := s
  have s1 : Sim2 w0 M0 N (Go.Lift.order { st with s := Go.Lift.pickS st.s ks }) a as w := Sim2.order ⟨M, β, τ, s.pickS ks⟩
  obtain ⟨M, β, τ, s1⟩ := s1
  obtain ⟨β', τ', s'⟩ := Sm.nilL 200 (List.range _) _ s1
  obtain ⟨β'', τ'', s''⟩ := Sm.nilS ks _ s'
  exact Sim2.order ⟨M, β'', τ'', s''⟩

/-! ### Frames of callers -/
theorem slots_at {i : Nat} : ∀ (n : Nat) (vs : List RV) (rv : RV), lk i ((vs.zipIdx n).map fun p => (p.2, p.1)) = some rv → n ≤ i ∧ vs[i - n]? = some rv
  | n, [], rv, h => by simp [lk] at h
  | n, v :: vs, rv, h => by
    simp only [List.zipIdx_cons, List.map_cons, lk_cons] at h
    split at h
    · rename_i e
      subst e
      cases h
      simp
    · obtain ⟨h1, h2⟩ := slots_at (n + 1) vs rv h
      refine ⟨by omega, ?_⟩
      rw [show i - n = (i - (n + 1)) + 1 by omega]
      simpa using h2
end
end Go.Lift
