/- What is known is written anew: blocks that are from now on only read; names in order; frames of callers. -/
import Derived.Test.YtlmhokakghbciaaRiE
namespace Go.Lift
open Go.RowKit

/-! ### A general change -/
section
variable {w0 : World} {M0 : Bs} {N : Nat} {M M' : Own} {β β' : Nat → Nat} {τ τ' : Nat → Value} {L L' : List (Nat × Ob)} {st st' : St} {a : Act} {as : List Act} {w w' : World}

def mapF (F : RV → RV) (s : List (Nat × RV)) : List (Nat × RV) := s.map fun p => (p.1, F p.2)
def mapOF (F : RV → RV) : Ob → Ob
  | .var t c => .var t (F c)
  | .row t xs => .row t xs
  | .mp kt vt es => .mp kt vt es
  | .lp c q => .lp (F c) q
def mapLF (F : RV → RV) (l : List (Nat × Ob)) : List (Nat × Ob) := l.map fun p => (p.1, mapOF F p.2)
def mapKF (F : RV → RV) (k : List (Nat × List (Nat × RV))) : List (Nat × List (Nat × RV)) := k.map fun p => (p.1, mapF F p.2)

theorem FrOk.mapF {F : RV → RV} (hF : ∀ rv m cs, RR M w β τ L rv m cs → RR M' w' β' τ' L' (F rv) m cs) {s : List (Nat × RV)} {a : Act} (h : FrOk M w β τ L s a) : FrOk M' w' β' τ' L' (mapF F s) a := by
  intro i rv hi
  rw [Go.Lift.mapF, lk_mapA, Option.map_eq_some_iff] at hi
  obtain ⟨rv0, h0, rfl⟩ := hi
  obtain ⟨u, hu, r⟩ := h i rv0 h0
  exact ⟨u, hu, hF _ _ _ r⟩
theorem FsOk.mapF {F : RV → RV} (hF : ∀ rv m cs, RR M w β τ L rv m cs → RR M' w' β' τ' L' (F rv) m cs) : ∀ {k : List (Nat × List (Nat × RV))} {as : List Act}, FsOk M w β τ L k as → FsOk M' w' β' τ' L' (mapKF F k) as
  | [], [], _ => trivial
  | _ :: _, _ :: _, h => ⟨h.1.mapF hF, FsOk.mapF hF h.2⟩
  | [], _ :: _, h => h.elim
  | _ :: _, [], h => h.elim

/-- leaves are changed -/
def subR (fr : Nat → RV) (fs : Nat → Nat → Nat → RV) (fl : Nat → List Step → RV) : RV → RV
  | .row id => fr id
  | .sub id lo hi => fs id lo hi
  | .loc id p => fl id p
  | .clo g c => .clo g (subR fr fs fl c)
  | .pair a b => .pair (subR fr fs fl a) (subR fr fs fl b)
  | .agg t r => .agg t (subR fr fs fl r)
  | .tup r => .tup (subR fr fs fl r)
  | rv => rv

theorem RR.subR {fr : Nat → RV} {fs : Nat → Nat → Nat → RV} {fl : Nat → List Step → RV} (hext : Ext M w M' w') (hr : ∀ id m cs, RR M w β τ L (.row id) m cs → RR M' w' β' τ' L' (fr id) m cs) (hs : ∀ id lo hi m cs, RR M w β τ L (.sub id lo hi) m cs → RR M' w' β' τ' L' (fs id lo hi) m cs)
    (hl : ∀ id p m cs, RR M w β τ L (.loc id p) m cs → RR M' w' β' τ' L' (fl id p) m cs) (hmp : ∀ id m cs, RR M w β τ L (.mp id) m cs → RR M' w' β' τ' L' (.mp id) m cs) (hyl : ∀ id m cs, RR M w β τ L (.yl id) m cs → RR M' w' β' τ' L' (.yl id) m cs) : ∀ (rv : RV) (m : Mo) (cs : List Value), RR M w β τ L rv m cs → RR M' w' β' τ' L' (Go.Lift.subR fr fs fl rv) m cs := by
  intro rv
  induction rv with
  | any => intro m cs r; cases m <;> exact r
  | nil t => intro m cs r; cases m <;> exact r
  | val v =>
    intro m cs r
    cases m with
    | sl => obtain ⟨u, e, r⟩ := r; exact ⟨u, e, r.ext hext⟩
    | li => exact r
    | ce t => exact ⟨r.1, r.2.ext hext⟩
  | row id => intro m cs r; exact hr id m cs r
  | sub id lo hi => intro m cs r; exact hs id lo hi m cs r
  | loc id p => intro m cs r; exact hl id p m cs r
  | clo f c ih => intro m cs r; simp only [RR, Go.Lift.subR] at r ⊢; obtain ⟨h1, us, e, r⟩ := r; exact ⟨h1, us, e, ih _ _ r⟩
  | unit => intro m cs r; cases m <;> exact r
  | pair a b iha ihb =>
    intro m cs r
    cases m with
    | sl => exact r
    | li => simp only [RR, Go.Lift.subR] at r ⊢; obtain ⟨u, us, e, r1, r2⟩ := r; exact ⟨u, us, e, iha _ _ r1, ihb _ _ r2⟩
    | ce t => simp only [RR, Go.Lift.subR] at r ⊢; obtain ⟨ta, tb, c1, c2, e1, e2, r1, r2⟩ := r; exact ⟨ta, tb, c1, c2, e1, e2, iha _ _ r1, ihb _ _ r2⟩
  | agg t r ih => intro m cs r; simp only [RR, Go.Lift.subR] at r ⊢; obtain ⟨h1, h2, c, e, r⟩ := r; exact ⟨h1, h2, c, e, ih _ _ r⟩
  | tup r ih => intro m cs r; simp only [RR, Go.Lift.subR] at r ⊢; obtain ⟨h1, us, e, r⟩ := r; exact ⟨h1, us, e, ih _ _ r⟩
  | mp id => intro m cs r; exact hmp id m cs r
  | yl id => intro m cs r; exact hyl id m cs r

/-! ### A block that is from now on only read -/
def frzF (id : Nat) (vr : RV) (vs : Nat → Nat → RV) (vl : List Step → RV) : RV → RV :=
  subR (fun j => bif Nat.beq j id then vr else .row j) (fun j lo hi => bif Nat.beq j id then vs lo hi else .sub j lo hi) (fun j p => bif Nat.beq j id then vl p else .loc j p)
def frzSt (id : Nat) (F : RV → RV) (st : St) : St := { s := mapF F st.s, l := dropA id (mapLF F st.l), k := mapKF F st.k, b := st.b }

theorem mapOF_shape (F : RV → RV) (o : Ob) : (mapOF F o).shape = o.shape := by cases o <;> rfl
theorem blk_mapOF (F : RV → RV) (id : Nat) (o : Ob) : blk β τ id (mapOF F o) = blk β τ id o := by cases o <;> rfl

theorem frz_lk (id : Nat) (F : RV → RV) (st : St) (j : Nat) : lk j (frzSt id F st).l = if j = id then none else (lk j st.l).map (mapOF F) := by
  simp only [frzSt, lk_dropA, mapLF, lk_mapA]

/-- what was the block id is now part of M' -/
theorem Sm.frz (s : Sm w0 M0 N M β τ st a as w) {id : Nat} {ob : Ob} (hl : lk id st.l = some ob) (hnm : ∀ kt vt es, ob ≠ .mp kt vt es) (hnl : ∀ c q, ob ≠ .lp c q) (M' : Own) (hM : ∀ b o, M b o → M' b o) (hM2 : ∀ b o, M' b o → M b o ∨ blk β τ id ob = some b) {vr : RV} {vs : Nat → Nat → RV} {vl : List Step → RV}
    (hr : ∀ m cs, RR M w β τ st.l (.row id) m cs → ∀ L, RR M' w β τ L vr m cs) (hs : ∀ lo hi m cs, RR M w β τ st.l (.sub id lo hi) m cs → ∀ L, RR M' w β τ L (vs lo hi) m cs)
    (hv : ∀ p m cs, RR M w β τ st.l (.loc id p) m cs → ∀ L, RR M' w β τ L (vl p) m cs) : Sm w0 M0 N M' β τ (frzSt id (frzF id vr vs vl) st) a as w := by
  have hext : Ext M w M' w := fun b o m => ⟨hM b o m, fun _ h => h⟩
  obtain ⟨k1, k2⟩ : (∀ b, blk β τ id ob = some b → b < w.heap.size) ∧ (∀ b, blk β τ id ob = some b → ownB w0 M0 b) := ⟨fun b hb => (s.block hl hb).1, fun b hb => (s.block hl hb).2.1⟩
  have hF : ∀ rv m cs, RR M w β τ st.l rv m cs → RR M' w β τ (frzSt id (frzF id vr vs vl) st).l (frzF id vr vs vl rv) m cs := by
    refine RR.subR hext ?_ ?_ ?_ ?_ ?_
    · intro j m cs r
      cases hb : Nat.beq j id with
      | true => have := Nat.eq_of_beq_eq_true hb; subst this; exact hr m cs r _
      | false =>
        have hne : j ≠ id := fun e => by subst e; simp at hb
        simp only [cond_false, RR] at r ⊢
        obtain ⟨h1, u, t, xs, e, ho, hl', hu⟩ := r
        exact ⟨h1, u, t, xs, e, ho, by rw [frz_lk, if_neg hne, hl']; rfl, hu⟩
    · intro j lo hi m cs r
      cases hb : Nat.beq j id with
      | true => have := Nat.eq_of_beq_eq_true hb; subst this; exact hs lo hi m cs r _
      | false =>
        have hne : j ≠ id := fun e => by subst e; simp at hb
        simp only [cond_false, RR] at r ⊢
        obtain ⟨h1, u, t, xs, e, ho, hl', h2⟩ := r
        exact ⟨h1, u, t, xs, e, ho, by rw [frz_lk, if_neg hne, hl']; rfl, h2⟩
    · intro j p m cs r
      cases hb : Nat.beq j id with
      | true => have := Nat.eq_of_beq_eq_true hb; subst this; exact hv p m cs r _
      | false =>
        have hne : j ≠ id := fun e => by subst e; simp at hb
        simp only [cond_false, RR] at r ⊢
        obtain ⟨h1, u, ob', off, t', e, ho, hl', h2, hu⟩ := r
        exact ⟨h1, u, mapOF _ ob', off, t', e, ho, by rw [frz_lk, if_neg hne, hl']; rfl, by rw [mapOF_shape]; exact h2, hu⟩
    · intro j m cs r
      simp only [RR] at r ⊢
      obtain ⟨h1, u, kt, vt, es, e, ho, hl', hu⟩ := r
      have hne : j ≠ id := fun e => by subst e; exact hnm _ _ _ (Option.some.inj (hl.symm.trans hl'))
      exact ⟨h1, u, kt, vt, es, e, ho, by rw [frz_lk, if_neg hne, hl']; rfl, hu⟩
    · intro j m cs r
      simp only [RR] at r ⊢
      obtain ⟨h1, u, con, q, e, ho, hl', hu⟩ := r
      have hne : j ≠ id := fun e => by subst e; exact hnl _ _ (Option.some.inj (hl.symm.trans hl'))
      exact ⟨h1, u, _, q, e, ho, by rw [frz_lk, if_neg hne, hl']; rfl, hu⟩
  exact {
    df := s.df, sz := s.sz, bel := s.bel
    mlt := fun b o m => (hM2 b o m).elim (s.mlt b o) (k1 b)
    mex := fun b o m => hM b o (s.mex b o m)
    gk := s.gk
    gx := s.gx.trans hext
    kp := fun b k => ⟨(s.kp b k).1, fun o m => (s.kp b k).2 o ((hM2 b o m).elim (fun h => h) fun h => absurd k (k2 b h).2)⟩
    mnew := fun b o m => (hM2 b o m).elim (s.mnew b o) (fun h => .inr (k2 b h).1)
    fr := s.fr.mapF hF
    fs := s.fs.mapF hF
    ob := fun j o h => by
      rw [frz_lk] at h
      split at h
      · cases h
      · rename_i hj
        obtain ⟨o0, h1, rfl⟩ := Option.map_eq_some_iff.1 h
        have nb : ∀ b, blk β τ j o0 = some b → ∀ o, M' b o → M b o := fun b hb o m => (hM2 b o m).elim (fun h => h) fun h => absurd (s.dj j id o0 ob b h1 hl hb h) hj
        have ho := s.ob j o0 h1
        cases o0 with
        | var ty con =>
          obtain ⟨l1, ⟨cs, T, l2, l3⟩, l4⟩ := ho
          exact ⟨l1, ⟨cs, T, l2, hF _ _ _ l3⟩, fun o m => l4 o (nb (β j) rfl o m)⟩
        | row t xs => exact ⟨ho.1.ext hext fun b hb => ⟨rfl, nb b hb⟩, ho.2⟩
        | mp kt vt es =>
          obtain ⟨l1, ⟨arr, clock, l2, l3⟩, l4⟩ := ho
          exact ⟨l1, ⟨arr, clock, l2, l3.ext hext⟩, fun o m => l4 o (nb (β j) rfl o m)⟩
        | lp con q =>
          obtain ⟨l1, ⟨r, l2, l3, m, l5⟩, l4⟩ := ho
          exact ⟨l1, ⟨r, l2, l3, m, hF _ _ _ l5⟩, fun o m => l4 o (nb (β j) rfl o m)⟩
    dj := fun i j o o' b h h' hb hb' => by
      rw [frz_lk] at h h'
      split at h
      · cases h
      · split at h'
        · cases h'
        · obtain ⟨o0, h1, rfl⟩ := Option.map_eq_some_iff.1 h
          obtain ⟨o0', h1', rfl⟩ := Option.map_eq_some_iff.1 h'
          rw [blk_mapOF] at hb hb'
          exact s.dj i j o0 o0' b h1 h1' hb hb' }

theorem val_mode {M : Own} {v : TV} {m : Mo} {u : Value} (h1 : m.one = true) (h : VOk M w v.1 v.2 u) (hn : v.1.isAgg = false) {L : List (Nat × Ob)} : RR M w β τ L (.val v) m [u] := by
  cases m with
  | sl => exact ⟨u, rfl, h⟩
  | li => simp [Mo.one] at h1
  | ce t =>
    obtain ⟨cs, hu, hr⟩ := h
    have hl := hr.length
    have hn1 : v.1.n = 1 := by
      obtain ⟨t, x⟩ := v
      cases t <;> simp [Ty.isAgg] at hn <;> rfl
    rw [hn1] at hl
    obtain ⟨c, rfl⟩ := List.length_eq_one_iff.1 hl
    simp [toV, hn] at hu
    subst hu
    exact ⟨.inr ⟨by simpa [Mo.one] using h1, hn⟩, hr⟩

/-- a slice of one's own, from now on only read -/
def frzRow (id : Nat) (t : Ty) (xs : List t.den) (st : St) : St :=
  frzSt id (frzF id (.val ⟨.slice t, xs⟩) (fun lo hi => .val ⟨.slice t, (List.take hi xs).drop lo⟩) (fun _ => .any)) st

theorem Sm.frzRow (s : Sm w0 M0 N M β τ st a as w) {id : Nat} {t : Ty} {xs : List t.den} (hl : lk id st.l = some (.row t xs)) : ∃ M', Sm w0 M0 N M' β τ (Go.Lift.frzRow id t xs st) a as w := by
  have ho := (s.ob id _ hl).1
  let M' : Own := fun b o => M b o ∨ wob (τ id) = some b
  have hb : ∀ b, wob (τ id) = some b → ∀ o, M' b o := fun b h o => .inr h
  refine ⟨M', s.frz hl (fun _ _ _ h => by cases h) (fun _ _ h => by cases h) M' (fun b o m => .inl m) (fun b o m => m) ?_ ?_ ?_⟩
  · intro m cs r L
    simp only [RR] at r
    obtain ⟨h1, u, t', xs', rfl, _, hl', hu⟩ := r
    refine val_mode h1 ?_ rfl
    have := rowX_vok (M' := M') ho (fun b o m => .inl m) hb (Nat.zero_le _) (Nat.le_refl _) (subH_full ho)
    rw [hu]
    simpa using this
  · intro lo hi m cs r L
    simp only [RR] at r
    obtain ⟨h1, u, t', xs', rfl, _, hl', g1, g2, hu⟩ := r
    rw [hl] at hl'
    cases hl'
    refine val_mode h1 ?_ rfl
    exact rowX_vok (M' := M') ho (fun b o m => .inl m) hb g1 g2 hu
  · intro p m cs r L
    simp only [RR] at r
    obtain ⟨h1, u, ob, off, t', rfl, ho1, _⟩ := r
    exact any_of_one h1 ho1

def fldP : (t : Ty) → t.den → List Step → RV
  | t, x, [] => .val ⟨.ptr t, x⟩
  | .pair a _, x, .fld 0 :: p => fldP a x.1 p
  | .pair _ b, x, .fld (n + 1) :: p => fldP b x.2 (.fld n :: p)
  | _, _, _ => .any

theorem fldP_ok {b : Nat} : ∀ {t : Ty} {x : t.den} {p : List Step} {off o2 : Nat} {t' : Ty} {cs : List Value}, Rep M w t cs x → Row M w b off cs → offP t p = some (o2, t') → ∀ {m : Mo} {L : List (Nat × Ob)}, m.one = true → RR M w β τ L (fldP t x p) m [.pointer (some ⟨b, off + o2, none⟩)] := by
  intro t x p
  fun_induction fldP t x p with
  | case1 t x =>
    intro off o2 t' cs r hrow ho m L h1
    have : offP t [] = some (0, t) := by cases t <;> rfl
    rw [this] at ho
    cases ho
    exact val_mode (v := ⟨.ptr t, x⟩) h1 ⟨_, rfl, b, off, cs, rfl, hrow, r⟩ rfl
  | case2 a b' x p ih =>
    intro off o2 t' cs r hrow ho m L h1
    obtain ⟨c1, c2, rfl, r1, r2⟩ := r
    simp only [offP] at ho
    exact ih r1 hrow.left ho h1
  | case3 a b' x n p ih =>
    intro off o2 t' cs r hrow ho m L h1
    obtain ⟨c1, c2, rfl, r1, r2⟩ := r
    simp only [offP, Option.bind_eq_some_iff, Option.some.injEq, Prod.mk.injEq] at ho
    obtain ⟨⟨o3, t3⟩, ho, rfl, rfl⟩ := ho
    have := ih r2 hrow.right ho h1 (L := L)
    rw [r1.length] at this
    simpa [Nat.add_assoc] using this
  | case4 t x p h2 h3 h4 =>
    intro off o2 t' cs r hrow ho m L h1
    exact any_of_one h1 rfl

def frzVar (id : Nat) (ty : Ty) (x : ty.den) (st : St) : St :=
  frzSt id (frzF id .any (fun _ _ => .any) (fun p => fldP ty x p)) st

theorem Sm.frzVar (s : Sm w0 M0 N M β τ st a as w) {id : Nat} {ty : Ty} {con : RV} {x : ty.den} (hl : lk id st.l = some (.var ty con)) (hx : ∀ cs M', (∀ b o, M b o → M' b o) → RR M w β τ st.l con (.ce ty) cs → Rep M' w ty cs x) :
    ∃ M', Sm w0 M0 N M' β τ (Go.Lift.frzVar id ty x st) a as w := by
  obtain ⟨l1, ⟨cs, T, l2, l3⟩, l4⟩ := s.ob id _ hl
  let M' : Own := fun b o => M b o ∨ b = β id
  refine ⟨M', s.frz hl (fun _ _ _ h => by cases h) (fun _ _ h => by cases h) M' (fun b o m => .inl m) (fun b o m => m.imp (fun h => h) fun h => by simp [blk, h]) ?_ ?_ ?_⟩
  · intro m cs r L
    simp only [RR] at r
    obtain ⟨h1, u, t', xs', rfl, ho, _⟩ := r
    exact any_of_one h1 ho
  · intro lo hi m cs r L
    simp only [RR] at r
    obtain ⟨h1, u, t', xs', rfl, ho, _⟩ := r
    exact any_of_one h1 ho
  · intro p m cs' r L
    simp only [RR] at r
    obtain ⟨h1, u, ob, off, t', rfl, _, hl', ho, hu⟩ := r
    rw [hl] at hl'
    cases hl'
    simp only [Ob.shape, offS] at ho
    rw [hu]
    have := fldP_ok (β := β) (τ := τ) (b := β id) (off := 0) (hx cs M' (fun b o m => .inl m) l3) (fun i hi => ⟨by rw [cell_of_row _ _ _ _ _ _ l2]; simp, .inr rfl⟩) ho h1 (L := L)
    simpa using this
end
end Go.Lift
