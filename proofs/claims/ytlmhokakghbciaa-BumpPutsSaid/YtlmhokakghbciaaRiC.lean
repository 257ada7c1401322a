/- What a frame knows, and what becomes of it when memory changes. -/
import Derived.Test.YtlmhokakghbciaaRiB
namespace Go.Lift
open Go.RowKit

theorem lk_mapA {α β : Type} (f : α → β) (i : Nat) : ∀ (s : List (Nat × α)), lk i (s.map fun p => (p.1, f p.2)) = (lk i s).map f
  | [] => rfl
  | (j, x) :: r => by simp only [List.map_cons, lk_cons, lk_mapA f i r]; split <;> simp

def dropA {α : Type} (id : Nat) : List (Nat × α) → List (Nat × α)
  | [] => []
  | (j, e) :: r => bif Nat.beq id j then dropA id r else (j, e) :: dropA id r
def setA {α : Type} (id : Nat) (v : α) : List (Nat × α) → List (Nat × α)
  | [] => []
  | (j, e) :: r => bif Nat.beq id j then (j, v) :: r else (j, e) :: setA id v r

theorem lk_dropA {α : Type} (id j : Nat) : ∀ (l : List (Nat × α)), lk j (dropA id l) = if j = id then none else lk j l
  | [] => by simp [dropA, lk]
  | (i, x) :: r => by
    simp only [dropA]
    cases hb : Nat.beq id i with
    | true =>
      have := Nat.eq_of_beq_eq_true hb
      subst this
      simp only [cond_true, lk_dropA id j r, lk_cons]
      split <;> rfl
    | false =>
      have : id ≠ i := fun h => by subst h; simp at hb
      simp only [cond_false, lk_cons, lk_dropA id j r]
      by_cases h1 : j = i
      · subst h1; simp [Ne.symm this]
      · simp [h1]
theorem lk_setA {α : Type} (id j : Nat) (v : α) : ∀ (l : List (Nat × α)), lk j (setA id v l) = if j = id then (lk id l).map (fun _ => v) else lk j l
  | [] => by simp [setA, lk]
  | (i, x) :: r => by
    simp only [setA]
    cases hb : Nat.beq id i with
    | true =>
      have := Nat.eq_of_beq_eq_true hb
      subst this
      simp only [cond_true, lk_cons]
      by_cases h1 : j = id
      · simp [h1]
      · simp [h1]
    | false =>
      have : id ≠ i := fun h => by subst h; simp at hb
      simp only [cond_false, lk_cons, lk_setA id j v r]
      by_cases h1 : j = i
      · subst h1; simp [Ne.symm this]
      · simp [h1, this]

def mapOb (f : Nat → Option Nat) : Ob → Ob
  | .var t c => .var t (mapR f c)
  | .row t xs => .row t xs
  | .mp kt vt es => .mp kt vt es
  | .lp c q => .lp (mapR f c) q
def mapSl (f : Nat → Option Nat) (s : List (Nat × RV)) : List (Nat × RV) := s.map fun p => (p.1, mapR f p.2)
def mapLo (f : Nat → Option Nat) (l : List (Nat × Ob)) : List (Nat × Ob) := l.map fun p => (p.1, mapOb f p.2)
def mapKs (f : Nat → Option Nat) (k : List (Nat × List (Nat × RV))) : List (Nat × List (Nat × RV)) := k.map fun p => (p.1, mapSl f p.2)

theorem mapOb_shape (f : Nat → Option Nat) (o : Ob) : (mapOb f o).shape = o.shape := by cases o <;> rfl
theorem mapOb_some (o : Ob) : mapOb some o = o := by cases o <;> simp [mapOb, mapR_some]
theorem mapSl_some (s : List (Nat × RV)) : mapSl some s = s := by simp [mapSl, mapR_some]
theorem mapKs_some (k : List (Nat × List (Nat × RV))) : mapKs some k = k := by simp [mapKs, mapSl_some]

section
variable {b0 : Nat → Prop} {M M' : Own} {w w' : World} {β β' : Nat → Nat} {τ τ' : Nat → Value} {L L' : List (Nat × Ob)} {f : Nat → Option Nat}

theorem RowX.ext {t : Ty} {xs : List t.den} {v : Value} (h : RowX b0 M w t xs v) (hext : Ext M w M' w') (hb : ∀ b, wob v = some b → w'.heap[b]? = w.heap[b]? ∧ ∀ o, M' b o → M b o) : RowX b0 M' w' t xs v := by
  obtain ⟨a, cap, row, rfl, h1, h2, h3, h4, h5⟩ := h
  refine ⟨a, cap, row, rfl, h1, h2, h3, h4.mono (fun _ _ r => Rep.ext hext r), fun a0 ha hc => ?_⟩
  obtain ⟨b, cur, T, rfl, g1, g2, g3, g4, g5⟩ := h5 a0 ha hc
  subst ha
  obtain ⟨k1, k2⟩ := hb b (by simp [wob]; omega)
  exact ⟨b, cur, T, rfl, g1, by rw [k1]; exact g2, g3, g4, fun o m => g5 o (k2 o m)⟩

theorem ObOk.map (hext : Ext M w M' w') (hm : MapOk f L β τ L' β' τ') {id j : Nat} {ob : Ob} (hf : f id = some j) (hl : lk id L = some ob) (ho : ObOk b0 M w β τ L id ob)
    (hb : ∀ b, blk β τ id ob = some b → w'.heap[b]? = w.heap[b]? ∧ ∀ o, M' b o → M b o) : ObOk b0 M' w' β' τ' L' j (mapOb f ob) := by
  obtain ⟨_, _, _, hβ, hτ⟩ := hm id j ob hf hl
  cases ob with
  | var t c =>
    obtain ⟨h1, ⟨cs, T, h2, h3⟩, h4⟩ := ho
    obtain ⟨k1, k2⟩ := hb (β id) rfl
    simp only [mapOb, ObOk, hβ]
    exact ⟨h1, ⟨cs, T, by rw [k1]; exact h2, (h3.ext hext).map hm⟩, fun o m => h4 o (k2 o m)⟩
  | row t xs =>
    obtain ⟨h1, h2⟩ := ho
    simp only [mapOb, ObOk, hβ, hτ]
    exact ⟨h1.ext hext hb, h2⟩
  | mp kt vt es =>
    obtain ⟨h1, ⟨arr, clock, h2, h3⟩, h4⟩ := ho
    obtain ⟨k1, k2⟩ := hb (β id) rfl
    simp only [mapOb, ObOk, hβ]
    exact ⟨h1, ⟨arr, clock, by rw [k1]; exact h2, h3.ext hext⟩, fun o m => h4 o (k2 o m)⟩
  | lp con q =>
    obtain ⟨h1, ⟨r, h2, h3, m, h5⟩, h4⟩ := ho
    obtain ⟨k1, k2⟩ := hb (β id) rfl
    simp only [mapOb, ObOk, hβ]
    exact ⟨h1, ⟨r, by rw [k1]; exact h2, h3, m, (h5.ext hext).map hm⟩, fun o m => h4 o (k2 o m)⟩

theorem FrOk.map (hext : Ext M w M' w') (hm : MapOk f L β τ L' β' τ') {s : List (Nat × RV)} {a : Act} (h : FrOk M w β τ L s a) : FrOk M' w' β' τ' L' (mapSl f s) a := by
  intro i rv hi
  rw [mapSl, lk_mapA, Option.map_eq_some_iff] at hi
  obtain ⟨rv0, h0, rfl⟩ := hi
  obtain ⟨u, hu, r⟩ := h i rv0 h0
  exact ⟨u, hu, (r.ext hext).map hm⟩

theorem FsOk.map (hext : Ext M w M' w') (hm : MapOk f L β τ L' β' τ') : ∀ {k : List (Nat × List (Nat × RV))} {as : List Act}, FsOk M w β τ L k as → FsOk M' w' β' τ' L' (mapKs f k) as
  | [], [], _ => trivial
  | _ :: _, _ :: _, h => ⟨h.1.map hext hm, FsOk.map hext hm h.2⟩
  | [], _ :: _, h => h.elim
  | _ :: _, [], h => h.elim
end

section
variable {w0 : World} {M0 : Bs} {N : Nat} {M M' : Own} {β β' : Nat → Nat} {τ τ' : Nat → Value} {st st' : St} {a : Act} {as : List Act} {w w' : World} {f : Nat → Option Nat}

theorem Sm.gen (s : Sm w0 M0 N M β τ st a as w) (hext : Ext M w M' w') (hbel : Below w0.heap.size w0 w') (hlt : ∀ b o, M' b o → b < w'.heap.size) (hnew : ∀ b o, M' b o → M0.M b o ∨ w0.heap.size ≤ b) (hkp : ∀ b, M0.kp b → w'.heap[b]? = w.heap[b]? ∧ ∀ o, M' b o → M b o)
    (hm : MapOk f st.l β τ st'.l β' τ') (hs : st'.s = mapSl f st.s) (hk : st'.k = mapKs f st.k) (hob : ∀ id ob, lk id st'.l = some ob → ObOk (ownB w0 M0) M' w' β' τ' st'.l id ob)
    (hdj : ∀ id id' ob ob' b, lk id st'.l = some ob → lk id' st'.l = some ob' → blk β' τ' id ob = some b → blk β' τ' id' ob' = some b → id = id') : Sm w0 M0 N M' β' τ' st' a as w' where
  df := s.df
  sz := s.sz
  bel := hbel
  mlt := hlt
  mex := fun b o m => (hext b o (s.mex b o m)).1
  gk := s.gk
  gx := s.gx.trans hext
  kp := fun b h => by
    obtain ⟨⟨k1, k2⟩, k3⟩ := s.kp b h
    obtain ⟨g1, g2⟩ := hkp b h
    refine ⟨⟨g1.trans k1, ?_⟩, fun o m => k3 o (g2 o m)⟩
    rw [Array.getElem?_eq_getElem k2] at g1
    exact (Array.getElem?_eq_some_iff.1 g1).1
  mnew := hnew
  fr := by rw [hs]; exact s.fr.map hext hm
  fs := by rw [hk]; exact s.fs.map hext hm
  ob := hob
  dj := hdj

/-- a slot is written -/
def setR (st : St) (d : Option Nat) (rv : RV) : St :=
  match d with
  | some d => { st with s := (d, rv) :: st.s }
  | none => st

theorem Sm.set (s : Sm w0 M0 N M β τ st a as w) (d : Option Nat) (hd : ∀ i, d = some i → i < N) {rv : RV} {v : Value} (hv : RR M w β τ st.l rv .sl [v]) : Sm w0 M0 N M β τ (setR st d rv) (a.put d v) as w := by
  cases d with
  | none => exact s
  | some d =>
    have hd' : d < a.tmps.size := by rw [s.sz]; exact hd d rfl
    refine { df := s.df, sz := by simp [Act.put, s.sz], bel := s.bel, mlt := s.mlt, mex := s.mex, gk := s.gk, gx := s.gx, kp := s.kp, mnew := s.mnew, fr := ?_, fs := s.fs, ob := s.ob, dj := s.dj }
    intro i rv' h
    simp only [setR, lk_cons] at h
    rw [put_get hd']
    split at h
    · rename_i hi
      subst hi
      cases h
      exact ⟨v, by simp, hv⟩
    · rename_i hi
      rw [if_neg hi]
      exact s.fr i rv' h

theorem Sm.block (s : Sm w0 M0 N M β τ st a as w) {id : Nat} {ob : Ob} {b : Nat} (hl : lk id st.l = some ob) (hb : blk β τ id ob = some b) : b < w.heap.size ∧ ownB w0 M0 b ∧ (∀ o, ¬ M b o) ∧ ((∃ cur T fz, w.heap[b]? = some (.cells cur T fz)) ∨ (∃ arr clock, w.heap[b]? = some (.map arr clock)) ∨ ∃ r, w.heap[b]? = some (.loop r)) := by
  have ho := s.ob id ob hl
  cases ob with
  | var t c =>
    cases hb
    obtain ⟨h1, ⟨cs, T, h2, h3⟩, h4⟩ := ho
    exact ⟨(Array.getElem?_eq_some_iff.1 h2).1, h1, h4, .inl ⟨_, _, _, h2⟩⟩
  | mp kt vt es =>
    cases hb
    obtain ⟨h1, ⟨arr, clock, h2, h3⟩, h4⟩ := ho
    exact ⟨(Array.getElem?_eq_some_iff.1 h2).1, h1, h4, .inr (.inl ⟨_, _, h2⟩)⟩
  | lp con q =>
    cases hb
    obtain ⟨h1, ⟨r, h2, h3⟩, h4⟩ := ho
    exact ⟨(Array.getElem?_eq_some_iff.1 h2).1, h1, h4, .inr (.inr ⟨_, h2⟩)⟩
  | row t xs =>
    obtain ⟨⟨a, cap, row, h0, h1, h2, h3, h4, h5⟩, _⟩ := ho
    simp only [blk] at hb
    rw [h0] at hb
    cases a with
    | none => simp [wob] at hb
    | some a0 =>
      simp only [wob] at hb
      split at hb
      · cases hb
      · cases hb
        obtain ⟨b, cur, T, rfl, g1, ⟨fz, gz, g2⟩, g3, g4, g5⟩ := h5 a0 rfl (by omega)
        exact ⟨(Array.getElem?_eq_some_iff.1 g2).1, g1, g5, .inl ⟨_, _, _, g2⟩⟩

/-- a block that is new is one of one's own -/
theorem Sm.new (s : Sm w0 M0 N M β τ st a as w) {b : Nat} (h : w.heap.size ≤ b) : ownB w0 M0 b :=
  ⟨Nat.le_trans s.bel.size h, fun k => by have := (s.kp b k).1.2; omega⟩

/-- memory has only grown -/
theorem Sm.grow (s : Sm w0 M0 N M β τ st a as w) (g : Gr M w M' w') : Sm w0 M0 N M' β τ st a as w' := by
  have hm : MapOk some st.l β τ st.l β τ := fun id j ob hf hl => by cases hf; exact ⟨ob, hl, rfl, rfl, rfl⟩
  refine s.gen (f := some) g.ext (s.bel.trans (g.bel.mono s.bel.size)) g.lt (fun b o m => (g.new b o m).elim (fun m => s.mnew b o m) (fun l => .inr (Nat.le_trans s.bel.size l))) (fun b k => ⟨g.bel.block _ (s.kp b k).1.2, fun o m => (g.new b o m).elim (fun h => h) (fun l => by have := (s.kp b k).1.2; omega)⟩) hm (mapSl_some _).symm (mapKs_some _).symm ?_ s.dj
  intro id ob hl
  have := ObOk.map (f := some) g.ext hm rfl hl (s.ob id ob hl) fun b hb => by
    obtain ⟨k1, k2, k3, _⟩ := s.block hl hb
    exact ⟨g.bel.block _ k1, fun o m => (g.new b o m).elim (fun h => h) (fun l => by omega)⟩
  rwa [mapOb_some] at this

/-! ### A name is dropped -/
def killF (d : Nat) (id : Nat) : Option Nat := bif Nat.beq id d then none else some id
def killSt (d : Nat) (st : St) : St := { s := mapSl (killF d) st.s, l := dropA d (mapLo (killF d) st.l), k := mapKs (killF d) st.k, b := st.b }

theorem killF_some {d id j : Nat} (h : killF d id = some j) : j = id ∧ id ≠ d := by
  unfold killF at h
  cases hb : Nat.beq id d with
  | true => simp [hb] at h
  | false => simp [hb] at h; exact ⟨h.symm, fun e => by subst e; simp at hb⟩
theorem killF_ne {d id : Nat} (h : id ≠ d) : killF d id = some id := by
  unfold killF
  cases hb : Nat.beq id d with
  | true => exact absurd (Nat.eq_of_beq_eq_true hb) h
  | false => rfl

theorem kill_lk (d : Nat) (st : St) (id : Nat) : lk id (killSt d st).l = if id = d then none else (lk id st.l).map (mapOb (killF d)) := by
  simp only [killSt, lk_dropA, mapLo, lk_mapA]

theorem kill_map (d : Nat) : MapOk (killF d) st.l β τ (killSt d st).l β τ := by
  intro id j ob hf hl
  obtain ⟨rfl, hne⟩ := killF_some hf
  exact ⟨mapOb (killF d) ob, by rw [kill_lk, if_neg hne, hl]; rfl, mapOb_shape _ _, rfl, rfl⟩

theorem kill_inv {d id : Nat} {ob : Ob} (h : lk id (killSt d st).l = some ob) : id ≠ d ∧ ∃ ob0, lk id st.l = some ob0 ∧ ob = mapOb (killF d) ob0 := by
  rw [kill_lk] at h
  split at h
  · cases h
  · rename_i hne
    obtain ⟨o, h1, h2⟩ := Option.map_eq_some_iff.1 h
    exact ⟨hne, o, h1, h2.symm⟩

theorem blk_map {id : Nat} (f : Nat → Option Nat) (ob : Ob) : blk β τ id (mapOb f ob) = blk β τ id ob := by cases ob <;> rfl

theorem Sm.kill (s : Sm w0 M0 N M β τ st a as w) (d : Nat) : Sm w0 M0 N M β τ (killSt d st) a as w := by
  refine s.gen (f := killF d) (Ext.refl M w) s.bel s.mlt s.mnew (fun _ _ => ⟨rfl, fun _ h => h⟩) (kill_map d) rfl rfl ?_ ?_
  · intro id ob h
    obtain ⟨hne, o, h1, rfl⟩ := kill_inv h
    exact ObOk.map (Ext.refl M w) (kill_map d) (killF_ne hne) h1 (s.ob id o h1) fun b _ => ⟨rfl, fun _ h => h⟩
  · intro id id' ob ob' b h h' hb hb'
    obtain ⟨_, o, h1, rfl⟩ := kill_inv h
    obtain ⟨_, o', h1', rfl⟩ := kill_inv h'
    rw [blk_map] at hb hb'
    exact s.dj id id' o o' b h1 h1' hb hb'

/-! ### A new block -/
def nblk (bn : Nat) (v : Value) : Ob → Option Nat
  | .var _ _ => some bn
  | .row _ _ => wob v
  | .mp _ _ _ => some bn
  | .lp _ _ => some bn
def addN (id : Nat) (ob : Ob) (st : St) : St := { st with l := (id, ob) :: st.l }

/-- the name is new; the block is nobody's -/
theorem Sm.addG (s : Sm w0 M0 N M β τ st a as w) {id : Nat} {ob : Ob} (hid : lk id st.l = none) (hext : Ext M w M' w') (hbel : Below w0.heap.size w0 w') (hlt : ∀ b o, M' b o → b < w'.heap.size) (hnew : ∀ b o, M' b o → M0.M b o ∨ w0.heap.size ≤ b) (hkp : ∀ b, M0.kp b → w'.heap[b]? = w.heap[b]? ∧ ∀ o, M' b o → M b o) {bn : Nat} {v : Value}
    (hold : ∀ j o b, lk j st.l = some o → blk β τ j o = some b → w'.heap[b]? = w.heap[b]? ∧ (∀ o, M' b o → M b o) ∧ nblk bn v ob ≠ some b)
    (ho : ∀ β' τ', β' id = bn → τ' id = v → (MapOk some st.l β τ ((id, ob) :: st.l) β' τ') → ObOk (ownB w0 M0) M' w' β' τ' ((id, ob) :: st.l) id ob) :
    Sm w0 M0 N M' (fun j => if j = id then bn else β j) (fun j => if j = id then v else τ j) (addN id ob st) a as w' := by
  have hne : ∀ j o, lk j st.l = some o → j ≠ id := fun j o h e => by subst e; rw [hid] at h; cases h
  have hm : MapOk some st.l β τ ((id, ob) :: st.l) (fun j => if j = id then bn else β j) (fun j => if j = id then v else τ j) := by
    intro i j o hf hl
    cases hf
    have := hne i o hl
    exact ⟨o, by rw [lk_cons, if_neg this]; exact hl, rfl, if_neg this, if_neg this⟩
  have hbk : blk (fun j => if j = id then bn else β j) (fun j => if j = id then v else τ j) id ob = nblk bn v ob := by
    cases ob <;> simp [blk, nblk]
  have hbo : ∀ j o, j ≠ id → blk (fun j => if j = id then bn else β j) (fun j => if j = id then v else τ j) j o = blk β τ j o := by
    intro j o hj; cases o <;> simp [blk, hj]
  refine s.gen (f := some) (st' := addN id ob st) hext hbel hlt hnew hkp hm (mapSl_some _).symm (mapKs_some _).symm ?_ ?_
  · intro j o h
    simp only [addN, lk_cons] at h
    split at h
    · rename_i hj
      subst hj
      cases h
      exact ho _ _ (by simp) (by simp) hm
    · have := ObOk.map (f := some) hext (fun i j o hf hl => hm i j o hf hl) rfl h (s.ob j o h) fun b hb => ⟨(hold j o b h hb).1, (hold j o b h hb).2.1⟩
      rwa [mapOb_some] at this
  · intro j j' o o' b h h' hb1 hb2
    simp only [addN, lk_cons] at h h'
    by_cases hj : j = id <;> by_cases hj' : j' = id
    · rw [hj, hj']
    · rw [if_neg hj'] at h'
      rw [if_pos hj] at h
      cases h
      subst hj
      rw [hbk] at hb1
      rw [hbo _ _ hj'] at hb2
      exact absurd hb1 (hold _ _ b h' hb2).2.2
    · rw [if_neg hj] at h
      rw [if_pos hj'] at h'
      cases h'
      subst hj'
      rw [hbk] at hb2
      rw [hbo _ _ hj] at hb1
      exact absurd hb2 (hold _ _ b h hb1).2.2
    · rw [if_neg hj] at h
      rw [if_neg hj'] at h'
      rw [hbo _ _ hj] at hb1
      rw [hbo _ _ hj'] at hb2
      exact s.dj j j' o o' b h h' hb1 hb2

/-- the name is new; the block is new -/
theorem Sm.add (s : Sm w0 M0 N M β τ st a as w) {id : Nat} {ob : Ob} (hid : lk id st.l = none) (g : Gr M w M' w') {bn : Nat} {v : Value}
    (ho : ∀ β' τ', β' id = bn → τ' id = v → (MapOk some st.l β τ ((id, ob) :: st.l) β' τ') → ObOk (ownB w0 M0) M' w' β' τ' ((id, ob) :: st.l) id ob) (hb : ∀ b, nblk bn v ob = some b → w.heap.size ≤ b) :
    Sm w0 M0 N M' (fun j => if j = id then bn else β j) (fun j => if j = id then v else τ j) (addN id ob st) a as w' := by
  have s' := s.grow g
  refine s.addG hid g.ext s'.bel s'.mlt s'.mnew (fun b k => ⟨g.bel.block _ (s.kp b k).1.2, fun o m => (g.new b o m).elim (fun h => h) (fun l => by have := (s.kp b k).1.2; omega)⟩) ?_ ho
  intro j o b h h'
  obtain ⟨k1, k2, k3, _⟩ := s.block h h'
  exact ⟨g.bel.block _ k1, fun o m => (g.new b o m).elim (fun h => h) (fun l => by omega), fun e => by have := hb b e; omega⟩

theorem MapOk.refl {L : List (Nat × Ob)} : MapOk some L β τ L β τ := fun id j ob hf hl => by cases hf; exact ⟨ob, hl, rfl, rfl, rfl⟩

/-- a new variable -/
theorem Sm.addVar (s : Sm w0 M0 N M β τ st a as w) {id : Nat} (hid : lk id st.l = none) {ty : Ty} {con : RV} {cs : List Value} {T : TypeId} (hr : RR M w β τ st.l con (.ce ty) cs) :
    Sm w0 M0 N M (fun j => if j = id then w.heap.size else β j) (fun j => if j = id then undef else τ j) (addN id (.var ty con) st) a as (w.alloc (.cells cs.toArray T)) := by
  have g := Gr.alloc s.mlt (.cells cs.toArray T)
  refine s.add hid g (bn := w.heap.size) (v := undef) ?_ ?_
  · intro β' τ' h1 h2 hm
    refine ⟨by rw [h1]; exact s.new (Nat.le_refl _), ⟨cs, T, by rw [h1]; exact heap_alloc_new w _, (hr.ext g.ext).keep hm⟩, fun o m => ?_⟩
    rw [h1] at m
    have := s.mlt _ _ m
    omega
  · intro b hb
    simp [nblk] at hb
    omega

/-- a new map -/
theorem Sm.addMap (s : Sm w0 M0 N M β τ st a as w) {id : Nat} (hid : lk id st.l = none) {kt vt : Ty} {clock : Nat} :
    Sm w0 M0 N M (fun j => if j = id then w.heap.size else β j) (fun j => if j = id then undef else τ j) (addN id (.mp kt vt []) st) a as (w.alloc (.map #[] clock)) := by
  have g := Gr.alloc s.mlt (.map #[] clock)
  refine s.add hid g (bn := w.heap.size) (v := undef) ?_ ?_
  · intro β' τ' h1 h2 hm
    refine ⟨by rw [h1]; exact s.new (Nat.le_refl _), ⟨#[], clock, by rw [h1]; exact heap_alloc_new w _, trivial⟩, fun o m => ?_⟩
    rw [h1] at m
    have := s.mlt _ _ m
    omega
  · intro b hb
    simp [nblk] at hb
    omega

/-- a new row -/
theorem Sm.addRow (s : Sm w0 M0 N M β τ st a as w) {id : Nat} (hid : lk id st.l = none) (g : Gr M w M' w') {t : Ty} {xs : List t.den} {v : Value} (hr : RowX (w.heap.size ≤ ·) M' w' t xs v) :
    Sm w0 M0 N M' (fun j => if j = id then (wob v).getD 0 else β j) (fun j => if j = id then v else τ j) (addN id (.row t xs) st) a as w' := by
  refine s.add hid g (bn := (wob v).getD 0) (v := v) ?_ ?_
  · intro β' τ' h1 h2 hm
    refine ⟨?_, fun b hb => ?_⟩
    · rw [h2]
      obtain ⟨a, cap, row, h0, k1, k2, k3, k4, k5⟩ := hr
      refine ⟨a, cap, row, h0, k1, k2, k3, k4, fun a0 ha hc => ?_⟩
      obtain ⟨b, cur, T, e, g1, g2⟩ := k5 a0 ha hc
      exact ⟨b, cur, T, e, s.new g1, g2⟩
    · rw [h2] at hb
      rw [h1, hb]
      rfl
  · intro b hb
    simp only [nblk] at hb
    obtain ⟨a, cap, row, rfl, k1, k2, k3, k4, k5⟩ := hr
    cases a with
    | none => simp [wob] at hb
    | some a0 =>
      simp only [wob] at hb
      split at hb
      · cases hb
      · cases hb
        obtain ⟨b, cur, T, rfl, g1, _⟩ := k5 a0 rfl (by omega)
        exact g1
end
end Go.Lift
