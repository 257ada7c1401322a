/- A wider reading of functions: slices of their own that are written, variables that hold them, closures, and calls that are read on the spot. What a frame knows. -/
import Derived.Test.YtlmhokakghbciaaLiftR
namespace Go.Lift
open Go.RowKit

/-- what is known of a value -/
inductive RV where
  | any
  | nil (t : Ty)
  | val (v : TV)
  | row (id : Nat)
  | sub (id lo hi : Nat)
  | loc (id : Nat) (p : List Step)
  | clo (f : FuncId) (caps : RV)
  | unit
  | pair (a b : RV)
  | agg (t : Ty) (r : RV)
  | tup (r : RV)
  | mp (id : Nat)
  | yl (id : Nat)

/-- what is live where; see rise.py -/
structure LT where
  live : List (Nat × List Nat)
  keep : List (Nat × List Nat)
  join : List Nat := []
  fork : List Nat := []
  frz : List (Nat × List Nat) := []
  cnd : List Nat := []
  rf : List (Nat × List Nat × List Nat) := []
  stk : List Nat := []
  lst : List Nat := []

/-- the record of a loop over a function: what a round runs, and how far it is -/
structure LQ where
  ps : Array Tmp
  assign : Code
  body : Code
  lt : LT
  state : LoopState
  jump : Option Code

/-- it is the record of a frame with N slots -/
def LqN (N : Nat) (q : LQ) : Prop := (q.ps.toList.all (Nat.blt · N) = true ∧ dstsOk N q.assign = true ∧ dstsOk N q.body = true) ∧ noRF q.assign = true ∧ noRF q.body = true
def LqOk (q : LQ) (r : Loop) : Prop := LqN r.tmps.size q ∧ r.params = q.ps ∧ r.assign = q.assign ∧ r.body = q.body ∧ r.state = q.state ∧ r.pending = q.jump

/-- what is known of a block of this call's own -/
inductive Ob where
  | var (ty : Ty) (con : RV)
  | row (ty : Ty) (xs : List ty.den)
  | mp (kt vt : Ty) (es : List (kt.den × vt.den))
  | lp (con : RV) (q : LQ)

structure St where
  s : List (Nat × RV)
  l : List (Nat × Ob)
  k : List (Nat × List (Nat × RV))
  b : Nat

/-- where a value stands: in a slot; as a list of values; as the cells of a type -/
inductive Mo where
  | sl
  | li
  | ce (t : Ty)

def Mo.one : Mo → Bool
  | .sl => true
  | .li => false
  | .ce t => !t.isAgg

/-- how a block is laid out -/
def Ob.shape : Ob → Bool × Ty × Nat
  | .var t _ => (false, t, 0)
  | .row t xs => (true, t, List.length xs)
  | .mp kt vt _ => (false, .mp kt vt, 1)
  | .lp _ _ => (false, .unit, 2)

def offS : Bool × Ty × Nat → List Step → Option (Nat × Ty)
  | (false, t, _), p => offP t p
  | (true, t, n), .idx i :: p => if 0 ≤ i ∧ i < (n : Int) then (offP t p).bind fun r => some (i.toNat * t.n + r.1, r.2) else none
  | _, _ => none

/-- the header of a part of a slice -/
def SubH (n lo hi : Nat) (v u : Value) : Prop :=
  ∃ a len cap a' c, v = .slice a len cap ∧ u = .slice a' (hi - lo) c ∧ (hi - lo ≤ c ∧ c ≤ cap - lo) ∧ (c ≠ 0 → a' = a.map (·.add (lo * n)))

def RR (M : Own) (w : World) (β : Nat → Nat) (τ : Nat → Value) (L : List (Nat × Ob)) : RV → Mo → List Value → Prop
  | .any, .sl, cs => ∃ u, cs = [u]
  | .any, .li, _ => False
  | .any, .ce t, cs => cs.length = t.n ∧ ∀ u ∈ cs, u.oneCell' = true
  | .nil _, .sl, cs => cs = [.slice none 0 0]
  | .nil _, .li, _ => False
  | .nil t, .ce t', cs => t' = .slice t ∧ cs = [.slice none 0 0]
  | .val v, .sl, cs => ∃ u, cs = [u] ∧ VOk M w v.1 v.2 u
  | .val _, .li, _ => False
  | .val v, .ce t, cs => (v.1 = t ∨ t.isAgg = false ∧ v.1.isAgg = false) ∧ Rep M w v.1 cs v.2
  | .row id, m, cs => m.one = true ∧ ∃ u t xs, cs = [u] ∧ u.oneCell' = true ∧ lk id L = some (.row t xs) ∧ u = τ id
  | .sub id lo hi, m, cs => m.one = true ∧ ∃ u t xs, cs = [u] ∧ u.oneCell' = true ∧ lk id L = some (.row t xs) ∧ lo ≤ hi ∧ hi ≤ List.length xs ∧ SubH t.n lo hi (τ id) u
  | .loc id p, m, cs => m.one = true ∧ ∃ u ob off t', cs = [u] ∧ u.oneCell' = true ∧ lk id L = some ob ∧ offS ob.shape p = some (off, t') ∧ u = .pointer (some ⟨β id, off, none⟩)
  | .clo f c, m, cs => m.one = true ∧ ∃ us : List Value, cs = [.func (.func f) #[] us.toArray] ∧ RR M w β τ L c .li us
  | .unit, .sl, _ => False
  | .unit, .li, cs => cs = []
  | .unit, .ce t, cs => t = .unit ∧ cs = []
  | .pair _ _, .sl, _ => False
  | .pair a b, .li, cs => ∃ u us, cs = u :: us ∧ RR M w β τ L a .sl [u] ∧ RR M w β τ L b .li us
  | .pair a b, .ce t, cs => ∃ ta tb c1 c2, t = .pair ta tb ∧ cs = c1 ++ c2 ∧ RR M w β τ L a (.ce ta) c1 ∧ RR M w β τ L b (.ce tb) c2
  | .agg t r, m, cs => m = .sl ∧ t.isAgg = true ∧ ∃ c : List Value, cs = [.agg c.toArray] ∧ RR M w β τ L r (.ce t) c
  | .tup r, m, cs => m = .sl ∧ ∃ us : List Value, cs = [.tuple us.toArray] ∧ RR M w β τ L r .li us
  | .mp id, m, cs => m.one = true ∧ ∃ u kt vt es, cs = [u] ∧ u.oneCell' = true ∧ lk id L = some (.mp kt vt es) ∧ u = .map (some (β id))
  | .yl id, m, cs => m.one = true ∧ ∃ u con q, cs = [u] ∧ u.oneCell' = true ∧ lk id L = some (.lp con q) ∧ u = .func (.yield (β id)) #[] #[]

/-- the block that a slice of one's own has -/
def wob : Value → Option Nat
  | .slice (some a) _ cap => if cap = 0 then none else some a.block
  | _ => none

/-- no cell of a block is one that a string shares -/
def FzOk (fz : Nat × Nat) (n : Nat) : Prop := fz.1 = fz.2 ∨ n ≤ fz.1
theorem fzOk_zero {n : Nat} : FzOk (0, 0) n := .inl rfl
theorem FzOk.at {fz : Nat × Nat} {n : Nat} (h : FzOk fz n) (o : Nat) (ho : o < n) : (decide (fz.1 ≤ o) && decide (o < fz.2)) = false := by
  rcases h with h | h
  · rw [h]; simp
  · simp; omega

def RowX (b0 : Nat → Prop) (M : Own) (w : World) (t : Ty) (xs : List t.den) (v : Value) : Prop :=
  ∃ a cap row, v = .slice a (List.length xs) cap ∧ List.length xs ≤ cap ∧ cap ≤ maxLen ∧ (a = none → cap = 0) ∧ Seq (Rep M w t) row xs ∧
    ∀ a0, a = some a0 → 0 < cap → ∃ b cur T, a0 = ⟨b, 0, none⟩ ∧ b0 b ∧ (∃ fz, FzOk fz cur.size ∧ w.heap[b]? = some (.cells cur T fz)) ∧ cap * t.n ≤ cur.size ∧ (∀ i, i < row.length → cur[i]? = row[i]?) ∧ ∀ o, ¬ M b o

/-- an entry of a map -/
def EntOk (M : Own) (w : World) (kt vt : Ty) (e : MapEntry) (p : kt.den × vt.den) : Prop := VOk M w kt p.1 e.key ∧ VOk M w vt p.2 e.val
def EntsOk (M : Own) (w : World) (kt vt : Ty) : List MapEntry → List (kt.den × vt.den) → Prop
  | [], [] => True
  | e :: es, p :: ps => EntOk M w kt vt e p ∧ EntsOk M w kt vt es ps
  | _, _ => False

theorem EntsOk.ext {M M' : Own} {w w' : World} (h : Ext M w M' w') {kt vt : Ty} : ∀ {es : List MapEntry} {ps : List (kt.den × vt.den)}, EntsOk M w kt vt es ps → EntsOk M' w' kt vt es ps
  | [], [], _ => trivial
  | _ :: _, _ :: _, r => ⟨⟨r.1.1.ext h, r.1.2.ext h⟩, EntsOk.ext h r.2⟩
  | [], _ :: _, r => r.elim
  | _ :: _, [], r => r.elim

def ObOk (b0 : Nat → Prop) (M : Own) (w : World) (β : Nat → Nat) (τ : Nat → Value) (L : List (Nat × Ob)) (id : Nat) : Ob → Prop
  | .var ty con => b0 (β id) ∧ (∃ cs T, w.heap[β id]? = some (.cells (List.toArray cs) T (0, 0)) ∧ RR M w β τ L con (.ce ty) cs) ∧ ∀ o, ¬ M (β id) o
  | .row ty xs => RowX b0 M w ty xs (τ id) ∧ ∀ b, wob (τ id) = some b → b = β id
  | .mp kt vt es => b0 (β id) ∧ (∃ arr clock, w.heap[β id]? = some (.map arr clock) ∧ EntsOk M w kt vt arr.toList es) ∧ ∀ o, ¬ M (β id) o
  | .lp con q => b0 (β id) ∧ (∃ r, w.heap[β id]? = some (.loop r) ∧ LqOk q r ∧ ∃ m, RR M w β τ L con .li (r.tmps.toList.take m)) ∧ ∀ o, ¬ M (β id) o

def blk (β : Nat → Nat) (τ : Nat → Value) (id : Nat) : Ob → Option Nat
  | .var _ _ => some (β id)
  | .row _ _ => wob (τ id)
  | .mp _ _ _ => some (β id)
  | .lp _ _ => some (β id)

def FrOk (M : Own) (w : World) (β : Nat → Nat) (τ : Nat → Value) (L : List (Nat × Ob)) (s : List (Nat × RV)) (a : Act) : Prop :=
  ∀ i rv, lk i s = some rv → ∃ u, a.tmps[i]? = some u ∧ RR M w β τ L rv .sl [u]

/-- the frames of those who called -/
def FsOk (M : Own) (w : World) (β : Nat → Nat) (τ : Nat → Value) (L : List (Nat × Ob)) : List (Nat × List (Nat × RV)) → List Act → Prop
  | [], [] => True
  | p :: k, a :: as => FrOk M w β τ L p.2 a ∧ FsOk M w β τ L k as
  | _, _ => False

/-- how it began: what was known then; a later moment and what was known there; blocks that have to stay as they were there -/
structure Bs where
  M : Own
  M1 : Own
  w1 : World
  kp : Nat → Prop
  kp0 : Nat → Prop := fun _ => False
def Bs.of (M : Own) (w : World) : Bs := { M := M, M1 := M, w1 := w, kp := fun _ => False }

/-- marks of loops over functions: blocks for their rounds' deferred calls, which stay empty -/
def mark (D : Nat) : Deferred := { target := .collected D, args := #[] }
def DfOk (w0 : World) (M0 : Bs) (ds : List Deferred) : Prop :=
  (∀ b, M0.kp0 b → M0.kp b) ∧ ∃ l : List Nat, ds = l.map mark ∧ l.Nodup ∧ ∀ D ∈ l, w0.heap.size ≤ D ∧ (M0.kp D ∧ ¬ M0.kp0 D) ∧ M0.w1.heap[D]? = some (.deferred (some [])) ∧ ∀ o, ¬ M0.M1 D o
theorem dfOk_nil {w0 : World} {M0 : Bs} (h : ∀ b, M0.kp0 b → M0.kp b) : DfOk w0 M0 [] := ⟨h, [], rfl, List.nodup_nil, fun _ h => by cases h⟩

/-- a block of one's own -/
def ownB (w0 : World) (M0 : Bs) (b : Nat) : Prop := w0.heap.size ≤ b ∧ ¬ M0.kp b

structure Sm (w0 : World) (M0 : Bs) (N : Nat) (M : Own) (β : Nat → Nat) (τ : Nat → Value) (st : St) (a : Act) (as : List Act) (w : World) : Prop where
  df : DfOk w0 M0 a.defers
  sz : a.tmps.size = N
  bel : Below w0.heap.size w0 w
  mlt : ∀ b o, M b o → b < w.heap.size
  mex : ∀ b o, M0.M b o → M b o
  gk : GlOk M0.M w0
  gx : Ext M0.M1 M0.w1 M w
  kp : ∀ b, M0.kp b → (w.heap[b]? = M0.w1.heap[b]? ∧ b < w.heap.size) ∧ ∀ o, M b o → M0.M1 b o
  mnew : ∀ b o, M b o → M0.M b o ∨ w0.heap.size ≤ b
  fr : FrOk M w β τ st.l st.s a
  fs : FsOk M w β τ st.l st.k as
  ob : ∀ id ob, lk id st.l = some ob → ObOk (ownB w0 M0) M w β τ st.l id ob
  dj : ∀ id id' ob ob' b, lk id st.l = some ob → lk id' st.l = some ob' → blk β τ id ob = some b → blk β τ id' ob' = some b → id = id'

def Sim2 (w0 : World) (M0 : Bs) (N : Nat) (st : St) (a : Act) (as : List Act) (w : World) : Prop := ∃ M β τ, Sm w0 M0 N M β τ st a as w

/-! ### Memory grows -/
theorem RR.ext {M M' : Own} {w w' : World} (h : Ext M w M' w') {β : Nat → Nat} {τ : Nat → Value} {L : List (Nat × Ob)} : ∀ {rv : RV} {m : Mo} {cs : List Value}, RR M w β τ L rv m cs → RR M' w' β τ L rv m cs := by
  intro rv
  induction rv with
  | any => intro m cs r; cases m <;> exact r
  | nil t => intro m cs r; cases m <;> exact r
  | val v =>
    intro m cs r
    cases m with
    | sl => obtain ⟨u, e, r⟩ := r; exact ⟨u, e, r.ext h⟩
    | li => exact r
    | ce t => exact ⟨r.1, r.2.ext h⟩
  | row id => intro m cs r; simpa only [RR] using r
  | sub id lo hi => intro m cs r; simpa only [RR] using r
  | loc id p => intro m cs r; simpa only [RR] using r
  | clo f c ih => intro m cs r; simp only [RR] at r ⊢; obtain ⟨h1, us, e, r⟩ := r; exact ⟨h1, us, e, ih r⟩
  | unit => intro m cs r; cases m <;> exact r
  | pair a b iha ihb =>
    intro m cs r
    cases m with
    | sl => exact r
    | li => simp only [RR] at r ⊢; obtain ⟨u, us, e, r1, r2⟩ := r; exact ⟨u, us, e, iha r1, ihb r2⟩
    | ce t => simp only [RR] at r ⊢; obtain ⟨ta, tb, c1, c2, e1, e2, r1, r2⟩ := r; exact ⟨ta, tb, c1, c2, e1, e2, iha r1, ihb r2⟩
  | agg t r ih => intro m cs r; simp only [RR] at r ⊢; obtain ⟨h1, h2, c, e, r⟩ := r; exact ⟨h1, h2, c, e, ih r⟩
  | tup r ih => intro m cs r; simp only [RR] at r ⊢; obtain ⟨h1, us, e, r⟩ := r; exact ⟨h1, us, e, ih r⟩
  | mp id => intro m cs r; simpa only [RR] using r
  | yl id => intro m cs r; simpa only [RR] using r

/-! ### Names change -/
def mapR (f : Nat → Option Nat) : RV → RV
  | .row id => match f id with | some j => .row j | none => .any
  | .sub id lo hi => match f id with | some j => .sub j lo hi | none => .any
  | .loc id p => match f id with | some j => .loc j p | none => .any
  | .clo g c => .clo g (mapR f c)
  | .pair a b => .pair (mapR f a) (mapR f b)
  | .agg t r => .agg t (mapR f r)
  | .tup r => .tup (mapR f r)
  | .mp id => match f id with | some j => .mp j | none => .any
  | .yl id => match f id with | some j => .yl j | none => .any
  | rv => rv

def MapOk (f : Nat → Option Nat) (L : List (Nat × Ob)) (β : Nat → Nat) (τ : Nat → Value) (L' : List (Nat × Ob)) (β' : Nat → Nat) (τ' : Nat → Value) : Prop :=
  ∀ id j ob, f id = some j → lk id L = some ob → ∃ ob', lk j L' = some ob' ∧ ob'.shape = ob.shape ∧ β' j = β id ∧ τ' j = τ id

theorem shape_mp {ob : Ob} {kt vt : Ty} {es : List (kt.den × vt.den)} (h : ob.shape = (Ob.mp kt vt es).shape) : ∃ es', ob = .mp kt vt es' := by
  cases ob with
  | var t' c' => simp [Ob.shape] at h
  | row t' ys => simp [Ob.shape] at h
  | mp k' v' es' =>
    simp only [Ob.shape, Prod.mk.injEq, true_and, and_true, Ty.mp.injEq] at h
    obtain ⟨rfl, rfl⟩ := h
    exact ⟨es', rfl⟩
  | lp => simp [Ob.shape] at h
theorem shape_lp {ob : Ob} {c : RV} {q : LQ} (h : ob.shape = (Ob.lp c q).shape) : ∃ c' q', ob = .lp c' q' := by
  cases ob with
  | lp c' q' => exact ⟨c', q', rfl⟩
  | _ => simp [Ob.shape] at h
theorem shape_row {ob : Ob} {t : Ty} {xs : List t.den} (h : ob.shape = (Ob.row t xs).shape) : ∃ ys : List t.den, ob = .row t ys ∧ ys.length = xs.length := by
  cases ob with
  | var => simp [Ob.shape] at h
  | row t' ys =>
    simp only [Ob.shape, Prod.mk.injEq, true_and] at h
    obtain ⟨h1, h2⟩ := h
    subst h1
    exact ⟨ys, rfl, h2⟩
  | mp => simp [Ob.shape] at h
  | lp => simp [Ob.shape] at h
theorem shape_var {ob : Ob} {t : Ty} {c : RV} (h : ob.shape = (Ob.var t c).shape) : ∃ c', ob = .var t c' := by
  cases ob with
  | var t' c' =>
    simp only [Ob.shape, Prod.mk.injEq, true_and, and_true] at h
    subst h
    exact ⟨c', rfl⟩
  | row => simp [Ob.shape] at h
  | mp => simp [Ob.shape] at h
  | lp => simp [Ob.shape] at h

theorem any_of_one {M : Own} {w : World} {β : Nat → Nat} {τ : Nat → Value} {L : List (Nat × Ob)} {m : Mo} {u : Value} (h : m.one = true) (hu : u.oneCell' = true) : RR M w β τ L .any m [u] := by
  cases m with
  | sl => exact ⟨u, rfl⟩
  | li => simp [Mo.one] at h
  | ce t => cases t <;> simp [Mo.one, Ty.isAgg] at h <;> exact ⟨rfl, by simpa using hu⟩

theorem RR.map {M : Own} {w : World} {f : Nat → Option Nat} {L L' : List (Nat × Ob)} {β β' : Nat → Nat} {τ τ' : Nat → Value} (h : MapOk f L β τ L' β' τ') : ∀ {rv : RV} {m : Mo} {cs : List Value}, RR M w β τ L rv m cs → RR M w β' τ' L' (mapR f rv) m cs := by
  intro rv
  induction rv with
  | any => intro m cs r; cases m <;> exact r
  | nil t => intro m cs r; cases m <;> exact r
  | val v => intro m cs r; cases m <;> exact r
  | row id =>
    intro m cs r
    simp only [RR] at r
    obtain ⟨h1, u, t, xs, rfl, ho, hl, hu⟩ := r
    cases hf : f id with
    | none => simp only [mapR, hf]; exact any_of_one h1 ho
    | some j =>
      simp only [mapR, hf, RR]
      obtain ⟨ob', g1, g2, g3, g4⟩ := h id j _ hf hl
      obtain ⟨ys, rfl, _⟩ := shape_row g2
      exact ⟨h1, u, t, ys, rfl, ho, g1, by rw [g4]; exact hu⟩
  | sub id lo hi =>
    intro m cs r
    simp only [RR] at r
    obtain ⟨h1, u, t, xs, rfl, ho, hl, h2, h3, hu⟩ := r
    cases hf : f id with
    | none => simp only [mapR, hf]; exact any_of_one h1 ho
    | some j =>
      simp only [mapR, hf, RR]
      obtain ⟨ob', g1, g2, g3, g4⟩ := h id j _ hf hl
      obtain ⟨ys, rfl, hlen⟩ := shape_row g2
      exact ⟨h1, u, t, ys, rfl, ho, g1, h2, by rw [hlen]; exact h3, by rw [g4]; exact hu⟩
  | loc id p =>
    intro m cs r
    simp only [RR] at r
    obtain ⟨h1, u, ob, off, t', rfl, ho, hl, h2, hu⟩ := r
    cases hf : f id with
    | none => simp only [mapR, hf]; exact any_of_one h1 ho
    | some j =>
      simp only [mapR, hf, RR]
      obtain ⟨ob', g1, g2, g3, g4⟩ := h id j _ hf hl
      exact ⟨h1, u, ob', off, t', rfl, ho, g1, by rw [g2]; exact h2, by rw [g3]; exact hu⟩
  | clo f c ih => intro m cs r; simp only [RR, mapR] at r ⊢; obtain ⟨h1, us, e, r⟩ := r; exact ⟨h1, us, e, ih r⟩
  | unit => intro m cs r; cases m <;> exact r
  | pair a b iha ihb =>
    intro m cs r
    cases m with
    | sl => exact r
    | li => simp only [RR, mapR] at r ⊢; obtain ⟨u, us, e, r1, r2⟩ := r; exact ⟨u, us, e, iha r1, ihb r2⟩
    | ce t => simp only [RR, mapR] at r ⊢; obtain ⟨ta, tb, c1, c2, e1, e2, r1, r2⟩ := r; exact ⟨ta, tb, c1, c2, e1, e2, iha r1, ihb r2⟩
  | agg t r ih => intro m cs r; simp only [RR, mapR] at r ⊢; obtain ⟨h1, h2, c, e, r⟩ := r; exact ⟨h1, h2, c, e, ih r⟩
  | tup r ih => intro m cs r; simp only [RR, mapR] at r ⊢; obtain ⟨h1, us, e, r⟩ := r; exact ⟨h1, us, e, ih r⟩
  | mp id =>
    intro m cs r
    simp only [RR] at r
    obtain ⟨h1, u, kt, vt, es, rfl, ho, hl, hu⟩ := r
    cases hf : f id with
    | none => simp only [mapR, hf]; exact any_of_one h1 ho
    | some j =>
      simp only [mapR, hf, RR]
      obtain ⟨ob', g1, g2, g3, g4⟩ := h id j _ hf hl
      obtain ⟨es', rfl⟩ := shape_mp g2
      exact ⟨h1, u, kt, vt, es', rfl, ho, g1, by rw [g3]; exact hu⟩
  | yl id =>
    intro m cs r
    simp only [RR] at r
    obtain ⟨h1, u, con, q, rfl, ho, hl, hu⟩ := r
    cases hf : f id with
    | none => simp only [mapR, hf]; exact any_of_one h1 ho
    | some j =>
      simp only [mapR, hf, RR]
      obtain ⟨ob', g1, g2, g3, g4⟩ := h id j _ hf hl
      obtain ⟨c', q', rfl⟩ := shape_lp g2
      exact ⟨h1, u, c', q', rfl, ho, g1, by rw [g3]; exact hu⟩

theorem mapR_some : ∀ rv : RV, mapR some rv = rv := by
  intro rv
  induction rv with
  | clo f c ih => simp [mapR, ih]
  | pair a b iha ihb => simp [mapR, iha, ihb]
  | agg t r ih => simp [mapR, ih]
  | tup r ih => simp [mapR, ih]
  | _ => rfl

/-- the blocks keep their names and shapes -/
theorem RR.keep {M : Own} {w : World} {L L' : List (Nat × Ob)} {β β' : Nat → Nat} {τ τ' : Nat → Value} (h : MapOk some L β τ L' β' τ') {rv : RV} {m : Mo} {cs : List Value} (r : RR M w β τ L rv m cs) : RR M w β' τ' L' rv m cs := by
  have := RR.map h r
  rwa [mapR_some] at this

theorem RR.length {M : Own} {w : World} {β : Nat → Nat} {τ : Nat → Value} {L : List (Nat × Ob)} : ∀ {rv : RV} {t : Ty} {cs : List Value}, RR M w β τ L rv (.ce t) cs → cs.length = t.n := by
  have one : ∀ {t : Ty}, (Mo.ce t).one = true → t.n = 1 := by intro t h; cases t <;> simp [Mo.one, Ty.isAgg] at h <;> rfl
  intro rv
  induction rv with
  | any => intro t cs r; exact r.1
  | nil t => intro t' cs r; obtain ⟨rfl, rfl⟩ := r; rfl
  | val v =>
    intro t cs r
    obtain ⟨h | ⟨h1, h2⟩, r⟩ := r
    · subst h; exact r.length
    · have : v.1.n = t.n := by
        obtain ⟨t', x⟩ := v
        cases t <;> cases t' <;> simp [Ty.isAgg] at h1 h2 <;> rfl
      rw [← this]; exact r.length
  | row id => intro t cs r; simp only [RR] at r; obtain ⟨h1, u, _, _, rfl, _⟩ := r; simp [one h1]
  | sub id lo hi => intro t cs r; simp only [RR] at r; obtain ⟨h1, u, _, _, rfl, _⟩ := r; simp [one h1]
  | loc id p => intro t cs r; simp only [RR] at r; obtain ⟨h1, u, _, _, _, rfl, _⟩ := r; simp [one h1]
  | clo f c ih => intro t cs r; simp only [RR] at r; obtain ⟨h1, us, rfl, _⟩ := r; simp [one h1]
  | unit => intro t cs r; obtain ⟨rfl, rfl⟩ := r; rfl
  | pair a b iha ihb => intro t cs r; simp only [RR] at r; obtain ⟨ta, tb, c1, c2, rfl, rfl, r1, r2⟩ := r; simp [Ty.n, iha r1, ihb r2]
  | agg t r ih => intro t cs r; simp [RR] at r
  | tup r ih => intro t cs r; simp [RR] at r
  | mp id => intro t cs r; simp only [RR] at r; obtain ⟨h1, u, _, _, _, rfl, _⟩ := r; simp [one h1]
  | yl id => intro t cs r; simp only [RR] at r; obtain ⟨h1, u, _, _, rfl, _⟩ := r; simp [one h1]

theorem RR.val_agg {M : Own} {w : World} {β : Nat → Nat} {τ : Nat → Value} {L : List (Nat × Ob)} {v : TV} {t : Ty} {cs : List Value} (r : RR M w β τ L (.val v) (.ce t) cs) (h : t.isAgg = true ∨ v.1.isAgg = true) : v.1 = t := by
  obtain ⟨h1 | ⟨h1, h2⟩, _⟩ := r
  · exact h1
  · rw [h1, h2] at h; simp at h
theorem offP_agg {t : Ty} {s : Step} {p : List Step} {r : Nat × Ty} (h : offP t (s :: p) = some r) : t.isAgg = true := by
  cases t <;> first | rfl | (cases s <;> simp [offP] at h)

theorem RR.oneCell {M : Own} {w : World} {β : Nat → Nat} {τ : Nat → Value} {L : List (Nat × Ob)} : ∀ {rv : RV} {t : Ty} {cs : List Value}, RR M w β τ L rv (.ce t) cs → ∀ v ∈ cs, v.oneCell' = true := by
  intro rv
  induction rv with
  | any => intro t cs r; exact r.2
  | nil t => intro t' cs r v hv; obtain ⟨rfl, rfl⟩ := r; simp at hv; subst hv; rfl
  | val v => intro t cs r; exact r.2.oneCell
  | row id => intro t cs r v hv; simp only [RR] at r; obtain ⟨h1, u, _, _, rfl, ho, _⟩ := r; simp at hv; subst hv; exact ho
  | sub id lo hi => intro t cs r v hv; simp only [RR] at r; obtain ⟨h1, u, _, _, rfl, ho, _⟩ := r; simp at hv; subst hv; exact ho
  | loc id p => intro t cs r v hv; simp only [RR] at r; obtain ⟨h1, u, _, _, _, rfl, ho, _⟩ := r; simp at hv; subst hv; exact ho
  | clo f c ih => intro t cs r v hv; simp only [RR] at r; obtain ⟨h1, us, rfl, _⟩ := r; simp at hv; subst hv; rfl
  | unit => intro t cs r v hv; obtain ⟨rfl, rfl⟩ := r; simp at hv
  | pair a b iha ihb =>
    intro t cs r v hv
    simp only [RR] at r
    obtain ⟨ta, tb, c1, c2, rfl, rfl, r1, r2⟩ := r
    rcases List.mem_append.1 hv with hv | hv
    · exact iha r1 v hv
    · exact ihb r2 v hv
  | agg t r ih => intro t cs r; simp [RR] at r
  | tup r ih => intro t cs r; simp [RR] at r
  | mp id => intro t cs r v hv; simp only [RR] at r; obtain ⟨h1, u, _, _, _, rfl, ho, _⟩ := r; simp at hv; subst hv; exact ho
  | yl id => intro t cs r v hv; simp only [RR] at r; obtain ⟨h1, u, _, _, rfl, ho, _⟩ := r; simp at hv; subst hv; exact ho
end Go.Lift
