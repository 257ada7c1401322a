/- Functions that call themselves and write a block of their callers': what they are called with, by a pattern. -/
import Derived.Test.YtlmhokakghbciaaRiG
namespace Go.Lift
open Go.RowKit

/-- a value of which nothing is known but that it is plain; or one that is known -/
inductive Pt where
  | hole (t : Ty)
  | fix (r : RV)
  | ag (t : Ty) (p : Pt)
  | pr (a b : Pt)
/-- a block -/
inductive Bt where
  | var (t : Ty) (p : Pt)
  | mp (kt vt : Ty)
  | row (t : Ty)

@[reducible] def Pt.D : Pt → Type
  | .hole t => t.den
  | .fix _ => Unit
  | .ag _ p => p.D
  | .pr a b => a.D × b.D
@[reducible] def Bt.D : Bt → Type
  | .var _ p => p.D
  | .mp kt vt => List (kt.den × vt.den)
  | .row t => List t.den
@[reducible] def PtsD : List Pt → Type
  | [] => Unit
  | p :: ps => p.D × PtsD ps
@[reducible] def BtsD : List Bt → Type
  | [] => Unit
  | b :: bs => b.D × BtsD bs

/-- two values with names alone are one -/
def eqR : RV → RV → Bool
  | .unit, .unit => true
  | .loc i [], .loc j [] => Nat.beq i j
  | .mp i, .mp j => Nat.beq i j
  | .row i, .row j => Nat.beq i j
  | .clo f a, .clo g b => Nat.beq f g && eqR a b
  | .nil t, .nil u => decide (t = u)
  | .pair a b, .pair c d => eqR a c && eqR b d
  | _, _ => false

theorem eqR_eq : ∀ {a b : RV}, eqR a b = true → a = b := by
  intro a
  induction a with
  | unit => intro b h; cases b <;> simp [eqR] at h; rfl
  | nil t => intro b h; cases b <;> simp [eqR] at h; rw [h]
  | loc i p =>
    intro b h
    cases p with
    | cons _ _ => simp [eqR] at h
    | nil =>
      cases b with
      | loc j q =>
        cases q with
        | nil => simp only [eqR] at h; rw [Nat.eq_of_beq_eq_true h]
        | cons _ _ => simp [eqR] at h
      | _ => simp [eqR] at h
  | mp i =>
    intro b h
    cases b with
    | mp j => simp only [eqR] at h; rw [Nat.eq_of_beq_eq_true h]
    | _ => simp [eqR] at h
  | row i =>
    intro b h
    cases b with
    | row j => simp only [eqR] at h; rw [Nat.eq_of_beq_eq_true h]
    | _ => simp [eqR] at h
  | clo f a ih =>
    intro b h
    cases b with
    | clo g b =>
      simp only [eqR, Bool.and_eq_true] at h
      rw [Nat.eq_of_beq_eq_true h.1, ih h.2]
    | _ => simp [eqR] at h
  | pair x y ihx ihy =>
    intro b h
    cases b with
    | pair c d =>
      simp only [eqR, Bool.and_eq_true] at h
      rw [ihx h.1, ihy h.2]
    | _ => simp [eqR] at h
  | _ => intro b h; cases b <;> simp [eqR] at h

def mkP : (p : Pt) → p.D → RV
  | .hole t, x => .val ⟨t, x⟩
  | .fix r, _ => r
  | .ag t p, x => .agg t (mkP p x)
  | .pr a b, x => .pair (mkP a x.1) (mkP b x.2)
def valT (t : Ty) : RV → Option t.den
  | .val v => TV.as t v
  | _ => none
def abP : (p : Pt) → RV → Option p.D
  | .hole t, r => valT t r
  | .fix r, r' => bif eqR r r' then some () else none
  | .ag t p, .agg t' r => bif decide (t = t') then abP p r else none
  | .ag _ _, _ => none
  | .pr a b, .pair r r' => (abP a r).bind fun x => (abP b r').bind fun y => some (x, y)
  | .pr _ _, _ => none
theorem abP_ok {p : Pt} : ∀ {r : RV} {d : p.D}, abP p r = some d → r = mkP p d := by
  induction p with
  | ag t p ih =>
    intro r d h
    cases r with
    | agg t' r =>
      simp only [abP] at h
      obtain ⟨e, h⟩ := bif_some h
      rw [ih h, ← of_decide_eq_true e]
      rfl
    | _ => simp [abP] at h
  | pr a b iha ihb =>
    intro r d h
    cases r with
    | pair r r' =>
      simp only [abP] at h
      obtain ⟨x, h1, h⟩ := Option.bind_eq_some_iff.1 h
      obtain ⟨y, h2, h⟩ := Option.bind_eq_some_iff.1 h
      cases h
      rw [iha h1, ihb h2]
      rfl
    | _ => simp [abP] at h
  | hole t =>
    intro r d h
    simp only [abP, valT] at h
    split at h
    · rw [TV.as_eq h]; rfl
    · cases h
  | fix r0 =>
    intro r d h
    simp only [abP] at h
    cases hb : eqR r0 r with
    | true => rw [eqR_eq hb] ; rfl
    | false => simp [hb] at h

def mkPs : (ps : List Pt) → PtsD ps → List RV
  | [], _ => []
  | p :: ps, d => mkP p d.1 :: mkPs ps d.2
def abPs : (ps : List Pt) → List RV → Option (PtsD ps)
  | [], [] => some ()
  | p :: ps, r :: rs => (abP p r).bind fun x => (abPs ps rs).bind fun y => some (x, y)
  | _, _ => none
theorem abPs_ok : ∀ {ps : List Pt} {rs : List RV} {d : PtsD ps}, abPs ps rs = some d → rs = mkPs ps d
  | [], [], _, _ => rfl
  | [], _ :: _, _, h => by simp [abPs] at h
  | _ :: _, [], _, h => by simp [abPs] at h
  | p :: ps, r :: rs, d, h => by
    simp only [abPs] at h
    obtain ⟨x, h1, h⟩ := Option.bind_eq_some_iff.1 h
    obtain ⟨y, h2, h⟩ := Option.bind_eq_some_iff.1 h
    cases h
    rw [abP_ok h1, abPs_ok h2]
    rfl

def mkB : (b : Bt) → b.D → Ob
  | .var t p, d => .var t (mkP p d)
  | .mp kt vt, es => .mp kt vt es
  | .row t, xs => .row t xs
def abB : (b : Bt) → Ob → Option b.D
  | .var t p, .var t' c => bif decide (t' = t) then abP p c else none
  | .mp kt vt, .mp kt' vt' es => TV.as (.slice (.pair kt vt)) ⟨.slice (.pair kt' vt'), es⟩
  | .row t, .row t' xs => TV.as (.slice t) ⟨.slice t', xs⟩
  | _, _ => none
theorem abB_ok {b : Bt} {ob : Ob} {d : b.D} (h : abB b ob = some d) : ob = mkB b d := by
  cases b with
  | var t p =>
    cases ob with
    | var t' c =>
      simp only [abB] at h
      cases hb : decide (t' = t) with
      | true =>
        simp only [hb, cond_true] at h
        have := of_decide_eq_true hb
        subst this
        rw [abP_ok h]
        rfl
      | false => simp [hb] at h
    | _ => simp [abB] at h
  | mp kt vt =>
    cases ob with
    | mp kt' vt' es =>
      simp only [abB] at h
      have := TV.as_eq h
      cases this
      rfl
    | _ => simp [abB] at h
  | row t =>
    cases ob with
    | row t' xs =>
      simp only [abB] at h
      have := TV.as_eq h
      cases this
      rfl
    | _ => simp [abB] at h

def mkL : Nat → (bs : List Bt) → BtsD bs → List (Nat × Ob)
  | _, [], _ => []
  | n, b :: bs, d => (n, mkB b d.1) :: mkL (n + 1) bs d.2
def abL : Nat → (bs : List Bt) → List (Nat × Ob) → Option (BtsD bs)
  | _, [], [] => some ()
  | n, b :: bs, (i, ob) :: l => bif Nat.beq i n then (abB b ob).bind fun x => (abL (n + 1) bs l).bind fun y => some (x, y) else none
  | _, _, _ => none
theorem abL_ok : ∀ {n : Nat} {bs : List Bt} {l : List (Nat × Ob)} {d : BtsD bs}, abL n bs l = some d → l = mkL n bs d
  | _, [], [], _, _ => rfl
  | _, [], _ :: _, _, h => by simp [abL] at h
  | _, _ :: _, [], _, h => by simp [abL] at h
  | n, b :: bs, (i, ob) :: l, d, h => by
    simp only [abL] at h
    cases hb : Nat.beq i n with
    | false => simp [hb] at h
    | true =>
      have := Nat.eq_of_beq_eq_true hb
      subst this
      simp only [hb, cond_true] at h
      obtain ⟨x, h1, h⟩ := Option.bind_eq_some_iff.1 h
      obtain ⟨y, h2, h⟩ := Option.bind_eq_some_iff.1 h
      cases h
      rw [abB_ok h1, abL_ok h2]
      rfl

/-- what is written -/
@[reducible] def wD : List Bt → Nat → Type
  | [], _ => Empty
  | b :: _, 0 => b.D
  | _ :: bs, n + 1 => wD bs n
def wOb : (bs : List Bt) → (n : Nat) → wD bs n → Ob
  | [], _, e => nomatch e
  | b :: _, 0, d => mkB b d
  | _ :: bs, n + 1, d => wOb bs n d

/-- plain -/
def flatB : Bt → Bool
  | .var _ (.hole _) => true
  | .var _ _ => false
  | .mp kt vt => kt.flat && vt.flat
  | .row _ => true
def flatAt : List Bt → Nat → Bool
  | [], _ => false
  | b :: _, 0 => flatB b
  | _ :: bs, n + 1 => flatAt bs n

/-- a name stands for each of what it names -/
def noAny : RV → Bool
  | .any => false
  | .sub _ _ _ => false
  | .yl _ => false
  | .clo _ c => noAny c
  | .pair a b => noAny a && noAny b
  | .agg _ r => noAny r
  | .tup r => noAny r
  | _ => true
def noAnyB : Bt → Bool
  | .var _ (.fix r) => noAny r
  | .var _ (.ag _ _) => false
  | .var _ (.pr _ _) => false
  | _ => true

theorem mapR_back {f g : Nat → Option Nat} (hg : ∀ i j, f i = some j → g j = some i) : ∀ c : RV, noAny (mapR f c) = true → mapR g (mapR f c) = c := by
  intro c
  induction c with
  | any => intro h; simp [mapR, noAny] at h
  | row i => intro h; simp only [mapR] at h ⊢; cases hf : f i with | none => simp [hf, noAny] at h | some j => simp only [mapR, hg i j hf]
  | sub i lo hi => intro h; simp only [mapR] at h; cases hf : f i <;> simp [hf, noAny] at h
  | yl i => intro h; simp only [mapR] at h; cases hf : f i <;> simp [hf, noAny] at h
  | loc i p => intro h; simp only [mapR] at h ⊢; cases hf : f i with | none => simp [hf, noAny] at h | some j => simp only [mapR, hg i j hf]
  | mp i => intro h; simp only [mapR] at h ⊢; cases hf : f i with | none => simp [hf, noAny] at h | some j => simp only [mapR, hg i j hf]
  | clo k c ih => intro h; simp only [mapR, noAny] at h ⊢; rw [ih h]
  | pair a b iha ihb => intro h; simp only [mapR, noAny, Bool.and_eq_true] at h ⊢; rw [iha h.1, ihb h.2]
  | agg t r ih => intro h; simp only [mapR, noAny] at h ⊢; rw [ih h]
  | tup r ih => intro h; simp only [mapR, noAny] at h ⊢; rw [ih h]
  | _ => intro _; rfl

structure RecC where
  fp : List Pt
  bp : List Bt
  w : Nat
  rs : List Ty
  F : PtsD fp → BtsD bp → Option (wD bp w × resDen rs)
  ro : Bool

/-- one whose first argument is a slice of its callers' own, which it gives back -/
structure OwnC where
  e : Ty
  fp : List Pt
  F : List e.den → PtsD fp → Option (List e.den)
def isHole : Pt → Bool
  | .hole _ => true
  | _ => false

def recB (c : RecC) : Bool := c.bp.all noAnyB && flatAt c.bp c.w

def idsL : List RV → List Nat
  | [] => []
  | r :: rs => idsR r (idsL rs)

def valsR : (rs : List Ty) → resDen rs → List RV
  | [], _ => []
  | [t], x => [.val ⟨t, x⟩]
  | t :: u :: ts, x => .val ⟨t, x.1⟩ :: valsR (u :: ts) x.2

def nthL : List Nat → Nat → Option Nat
  | [], _ => none
  | a :: _, 0 => some a
  | _ :: r, n + 1 => nthL r n
theorem nthL_eq : ∀ (l : List Nat) (n : Nat), nthL l n = l[n]?
  | [], _ => rfl
  | _ :: _, 0 => rfl
  | _ :: r, n + 1 => by simp only [nthL, List.getElem?_cons_succ]; exact nthL_eq r n

/-- the names that some values reach -/
def idsOf (l : List (Nat × Ob)) (rvs : List RV) : List Nat := reach l 200 (idsL rvs) []

/-- the slices are not empty: each has a block -/
def rowsNe : (bs : List Bt) → BtsD bs → Bool
  | [], _ => true
  | .row _ :: bs, d => Nat.ble 1 (List.length d.1) && rowsNe bs d.2
  | .var _ _ :: bs, d => rowsNe bs d.2
  | .mp _ _ :: bs, d => rowsNe bs d.2

/-- the slice that may be written is as it was -/
def eqW : (bs : List Bt) → (w : Nat) → BtsD bs → wD bs w → Bool
  | [], _, _, e => nomatch e
  | .row t :: _, 0, d, z => eqD (.slice t) d.1 z
  | .var _ _ :: _, 0, _, _ => false
  | .mp _ _ :: _, 0, _, _ => false
  | _ :: bs, n + 1, d, z => eqW bs n d.2 z
theorem eqW_ok : ∀ {bs : List Bt} {n w : Nat} {d : BtsD bs} {z : wD bs w}, eqW bs w d z = true → lk (n + w) (mkL n bs d) = some (wOb bs w z) ∧ ∃ t xs, wOb bs w z = .row t xs
  | [], _, _, _, z, _ => nomatch z
  | .row t :: _, n, 0, d, z, h => by
    have e : d.1 = z := (eqD_iff (t := .slice t) (x := d.1) (y := z)).1 h
    exact ⟨by simp only [mkL, lk_cons, Nat.add_zero, if_pos, wOb, mkB, e], t, z, rfl⟩
  | .var _ _ :: _, _, 0, _, _, h => by simp [eqW] at h
  | .mp _ _ :: _, _, 0, _, _, h => by simp [eqW] at h
  | b :: bs, n, w + 1, d, z, h => by
    have h' : eqW bs w d.2 z = true := by cases b <;> exact h
    have ih := eqW_ok (bs := bs) (n := n + 1) (w := w) (d := d.2) (z := z) h'
    refine ⟨?_, ih.2⟩
    simp only [mkL, lk_cons, wOb]
    rw [if_neg (by omega), show n + (w + 1) = (n + 1) + w by omega]
    exact ih.1
def recE {α : Type} (c : RecC) (l : List (Nat × Ob)) (rvs : List RV) (k : Nat → wD c.bp c.w → resDen c.rs → Option α) : Option α :=
  (abPs c.fp (rvs.map (mapR fun id => idxN id (idsOf l rvs) 0))).bind fun x => (abL 0 c.bp (renL (fun id => idxN id (idsOf l rvs) 0) l (idsOf l rvs) 0)).bind fun y => bif rowsNe c.bp y then (c.F x y).bind fun r => bif !c.ro || eqW c.bp c.w y r.1 then (nthL (idsOf l rvs) c.w).bind fun id => k id r.1 r.2 else none else none

/-- where a block stands -/
def nameR (j : Nat) : Ob → RV
  | .var _ _ => .loc j []
  | .row _ _ => .row j
  | .mp _ _ _ => .mp j
  | .lp _ _ => .yl j
def witL (l : List (Nat × Ob)) : List (Nat × RV) := l.map fun p => (p.1, nameR p.1 p.2)
def slotsR (rvs : List RV) : List (Nat × RV) := (rvs.zipIdx 0).map fun p => (p.2, p.1)

/-- all the other blocks are as they were; what the one that may be written holds -/
def eqB (b : Bt) (d d' : b.D) : Bool :=
  match b, d, d' with
  | .var _ (.hole t), d, d' => eqD t d d'
  | .var _ (.fix _), _, _ => true
  | .var _ (.ag _ _), _, _ => false
  | .var _ (.pr _ _), _, _ => false
  | .mp kt vt, d, d' => eqD (.slice (.pair kt vt)) d d'
  | .row t, d, d' => eqD (.slice t) d d'
theorem eqB_eq {b : Bt} {d d' : b.D} (h : eqB b d d' = true) : d = d' := by
  match b, d, d', h with
  | .var _ (.hole t), d, d', h => exact eqD_iff.1 h
  | .var _ (.fix _), _, _, _ => rfl
  | .mp kt vt, d, d', h => exact (eqD_iff (t := .slice (.pair kt vt)) (x := d) (y := d')).1 h
  | .row t, d, d', h => exact (eqD_iff (t := .slice t) (x := d) (y := d')).1 h

/-- the names are 0, 1, 2 and so on -/
def rowL : Nat → List (Nat × Ob) → Bool
  | _, [] => true
  | n, p :: r => Nat.beq p.1 n && rowL (n + 1) r
theorem rowL_ok : ∀ {n : Nat} {l : List (Nat × Ob)}, rowL n l = true → ∀ j p, l[j]? = some p → p.1 = n + j
  | _, [], _, j, p, h => by simp at h
  | n, q :: r, hr, 0, p, h => by
    simp only [rowL, Bool.and_eq_true] at hr
    simp at h
    subst h
    exact Nat.eq_of_beq_eq_true hr.1
  | n, q :: r, hr, j + 1, p, h => by
    simp only [rowL, Bool.and_eq_true] at hr
    have := rowL_ok hr.2 j p (by simpa using h)
    omega

/-- where one that calls itself begins -/
def startR (c : RecC) (x : PtsD c.fp) (y : BtsD c.bp) : St := { s := slotsR (mkPs c.fp x), l := mkL 0 c.bp y, k := [(0, witL (mkL 0 c.bp y))], b := 4096 }

def startO (e : Ty) (fp : List Pt) (x : List e.den) (y : PtsD fp) : St := { s := slotsR (.row 0 :: mkPs fp y), l := [(0, .row e x)], k := [], b := 4096 }

def sameL {α : Type} : (bs : List Bt) → (w : Option Nat) → BtsD bs → List (Nat × Ob) → Option α → Option α
  | [], _, _, [], k => k
  | b :: bs, w, d, (_, ob) :: l, k => match w with
    | some 0 => sameL bs none d.2 l k
    | some (n + 1) => (abB b ob).bind fun d' => bif eqB b d.1 d' then sameL bs (some n) d.2 l k else none
    | none => (abB b ob).bind fun d' => bif eqB b d.1 d' then sameL bs none d.2 l k else none
  | _, _, _, _, _ => none
def getW : (bs : List Bt) → (w : Nat) → List (Nat × Ob) → Option (wD bs w)
  | [], _, _ => none
  | _ :: _, _, [] => none
  | b :: _, 0, (_, ob) :: _ => abB b ob
  | _ :: bs, n + 1, _ :: l => getW bs n l

/-- names, by the order in which they stand in a frame -/
def witIds (wt : List (Nat × RV)) : List Bt → Nat → Option (List Nat)
  | [], _ => some []
  | _ :: bs, j => match lk j wt with
    | some (.loc i []) => (witIds wt bs (j + 1)).bind fun r => some (i :: r)
    | some (.mp i) => (witIds wt bs (j + 1)).bind fun r => some (i :: r)
    | some (.row i) => (witIds wt bs (j + 1)).bind fun r => some (i :: r)
    | _ => none

theorem sameL_ok {α : Type} {k : Option α} {r : α} : ∀ {bs : List Bt} {w : Option Nat} {d : BtsD bs} {l : List (Nat × Ob)} {m : Nat}, sameL bs w d l k = some r → (∀ j p, l[j]? = some p → p.1 = m + j) →
    k = some r ∧ ∀ j, (∀ n, w = some n → j ≠ m + n) → lk j l = lk j (mkL m bs d)
  | [], _, _, [], _, h, _ => ⟨h, fun _ _ => rfl⟩
  | [], _, _, _ :: _, _, h, _ => by simp [sameL] at h
  | _ :: _, _, _, [], _, h, _ => by simp [sameL] at h
  | b :: bs, w, d, (i, ob) :: l, m, h, hi => by
    have hi0 : i = m := by simpa using hi 0 (i, ob) rfl
    subst hi0
    have hi' : ∀ j p, l[j]? = some p → p.1 = (i + 1) + j := fun j p hp => by
      have := hi (j + 1) p (by simpa using hp)
      omega
    have one : ∀ {w' : Option Nat}, ((abB b ob).bind fun d' => bif eqB b d.1 d' then sameL bs w' d.2 l k else none) = some r → (∀ j, (∀ n, w = some n → j ≠ i + n) → ∀ n, w' = some n → j ≠ i + 1 + n) → k = some r ∧ ∀ j, (∀ n, w = some n → j ≠ i + n) → lk j ((i, ob) :: l) = lk j (mkL i (b :: bs) d) := by
      intro w' h hw
      obtain ⟨d', h1, h⟩ := Option.bind_eq_some_iff.1 h
      cases hb : eqB b d.1 d' with
      | false => simp [hb] at h
      | true =>
        simp only [hb, cond_true] at h
        obtain ⟨g1, g2⟩ := sameL_ok h hi'
        refine ⟨g1, fun j hj => ?_⟩
        simp only [mkL, lk_cons]
        split
        · rw [abB_ok h1, eqB_eq hb]
        · exact g2 j (hw j hj)
    match w, h with
    | some 0, h =>
      simp only [sameL] at h
      obtain ⟨g1, g2⟩ := sameL_ok h hi'
      refine ⟨g1, fun j hj => ?_⟩
      have hne : j ≠ i := by simpa using hj 0 rfl
      simp only [mkL, lk_cons, if_neg hne]
      exact g2 j fun n hn => by cases hn
    | some (n + 1), h =>
      simp only [sameL] at h
      exact one h fun j hj m hm => by cases hm; have := hj (n + 1) rfl; omega
    | none, h =>
      simp only [sameL] at h
      exact one h fun j _ m hm => by cases hm

theorem getW_ok : ∀ {bs : List Bt} {w : Nat} {l : List (Nat × Ob)} {z : wD bs w} {m : Nat}, getW bs w l = some z → (∀ j p, l[j]? = some p → p.1 = m + j) → lk (m + w) l = some (wOb bs w z)
  | [], _, _, _, _, h, _ => by simp [getW] at h
  | _ :: _, _, [], _, _, h, _ => by simp [getW] at h
  | b :: _, 0, (i, ob) :: l, z, m, h, hi => by
    have hi0 : i = m := by simpa using hi 0 (i, ob) rfl
    subst hi0
    simp only [getW] at h
    simp [lk_cons, wOb, abB_ok h]
  | _ :: bs, n + 1, (i, ob) :: l, z, m, h, hi => by
    have hi0 : i = m := by simpa using hi 0 (i, ob) rfl
    subst hi0
    simp only [getW] at h
    have := getW_ok (m := i + 1) h fun j p hp => by have := hi (j + 1) p (by simpa using hp); omega
    simp only [lk_cons, wOb]
    rw [if_neg (by omega), ← this]
    congr 1
    omega
end Go.Lift
