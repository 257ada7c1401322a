/- How a typed frame stands for a frame of the model, and what each change of memory does to that. -/
import Derived.Test.YtlmhokakghbciaaLiftB
import Derived.Laws.AppendOwn
import Derived.Below
namespace Go.Lift
open Go.RowKit

def TipA (τ : Nat → Value) : Tip → Value → Prop
  | .no, _ => True
  | .full, v => ∃ a n, v = .slice a n n
  | .own k _, v => v = τ k

def VOk (M : Own) (w : World) (t : Ty) (x : t.den) (v : Value) : Prop := ∃ cs, v = toV t cs ∧ Rep M w t cs x

def AOk (M : Own) (w : World) (β : Nat → Nat) (τ : Nat → Value) (L : List (Nat × Bool × TV)) : AV → Value → Prop
  | .any, _ => True
  | .val tv tip, v => VOk M w tv.1 tv.2 v ∧ TipA τ tip v
  | .loc id p, v => ∃ e off t', lk id L = some e ∧ offP e.2.1 p = some (off, t') ∧ v = .pointer (some ⟨β id, off, none⟩)
  | .tup l, v => ∃ vs : List Value, v = .tuple vs.toArray ∧ vs.length = l.length ∧ ∀ (i : Nat) (tv : TV), l[i]? = some tv → ∃ u, vs[i]? = some u ∧ VOk M w tv.1 tv.2 u

/-- the block that an append may write into -/
def wb : Value → Option Nat
  | .slice (some a) n cap => if n < cap then some a.block else none
  | _ => none

def TipOk (P : Program) (w0 : World) (w : World) (M : Own) (v : Value) (e : TypeId) : Prop :=
  ∀ b, wb v = some b → ∃ n cap cur i, v = .slice (some ⟨b, 0, none⟩) n cap ∧ w0.heap.size ≤ b ∧ w.heap[b]? = some (.cells cur e (0, 0)) ∧ n ≤ cap ∧ cap ≤ maxLen ∧
    P.info? e = some i ∧ cur.size = cap * i.size ∧ ∀ o, n * i.size ≤ o → ¬ M b o

def Live (s : List (Nat × AV)) (k : Nat) (e : TypeId) : Prop := ∃ i v, lk i s = some (.val v (.own k e))

/-- the variables of the program that are only read -/
def GlOk (M : Own) (w : World) : Prop := (∀ g v, lk g glTab = some v → ∃ cs T fz, w.heap[g]? = some (.cells (List.toArray cs) T fz) ∧ Rep M w v.1 cs v.2 ∧ ∀ o, o < cs.length → M g o) ∧ ∀ g ∈ glInts, ∃ m, w.cell? ⟨g, 0, none⟩ = some (.int .i64 m) ∧ M g 0

structure SimX (P : Program) (w0 : World) (M0 : Own) (N : Nat) (M : Own) (β : Nat → Nat) (τ : Nat → Value) (fr : Fr) (a : Act) (w : World) : Prop where
  sz : a.tmps.size = N
  bel : Below w0.heap.size w0 w
  mlt : ∀ b o, M b o → b < w.heap.size
  mex : ∀ b o, M0 b o → M b o
  gk : GlOk M0 w0
  mnew : ∀ b o, M b o → M0 b o ∨ w0.heap.size ≤ b
  sl : ∀ i av, lk i fr.s = some av → ∃ v, a.tmps[i]? = some v ∧ AOk M w β τ fr.l av v
  lo : ∀ id e, lk id fr.l = some e → w0.heap.size ≤ β id ∧ (∃ cs T, w.heap[β id]? = some (.cells (List.toArray cs) T (0, 0)) ∧ Rep M w e.2.1 cs e.2.2) ∧ (e.1 = true → ∀ o, ¬ M (β id) o) ∧ (e.1 = false → ∀ o, o < e.2.1.n → M (β id) o)
  ld : ∀ id id' e e', lk id fr.l = some e → lk id' fr.l = some e' → β id = β id' → id = id'
  ti : ∀ k e, Live fr.s k e → TipOk P w0 w M (τ k) e
  tl : ∀ k e id x b, Live fr.s k e → wb (τ k) = some b → lk id fr.l = some x → β id ≠ b
  tt : ∀ k e k' e', Live fr.s k e → Live fr.s k' e' → k ≠ k' → ∀ b, wb (τ k) = some b → wb (τ k') ≠ some b

/-- memory has only grown -/
structure Gr (M : Own) (w : World) (M' : Own) (w' : World) : Prop where
  bel : Below w.heap.size w w'
  sub : ∀ b o, M b o → M' b o
  new : ∀ b o, M' b o → M b o ∨ w.heap.size ≤ b
  lt : ∀ b o, M' b o → b < w'.heap.size

theorem cell_lt {w : World} {b o : Nat} {v : Value} (h : w.cell? ⟨b, o, none⟩ = some v) : b < w.heap.size := block_lt_of_cell h

theorem Gr.refl {M : Own} {w : World} (h : ∀ b o, M b o → b < w.heap.size) : Gr M w M w := ⟨Below.refl _ _, fun _ _ m => m, fun _ _ m => .inl m, h⟩
theorem Gr.ext {M M' : Own} {w w' : World} (h : Gr M w M' w') : Ext M w M' w' :=
  fun b o m => ⟨h.sub b o m, fun v hv => by rw [h.bel.cell (p := ⟨b, o, none⟩) (cell_lt hv)]; exact hv⟩
theorem Gr.alloc {M : Own} {w : World} (h : ∀ b o, M b o → b < w.heap.size) (ob : Obj) : Gr M w M (w.alloc ob) :=
  ⟨(Below.refl _ _).alloc (Nat.le_refl _) _, fun _ _ m => m, fun _ _ m => .inl m, fun b o m => by have := h b o m; simp; omega⟩
theorem Gr.drew {M : Own} {w : World} (h : ∀ b o, M b o → b < w.heap.size) : Gr M w M w.drew :=
  ⟨(Below.refl _ _).drew, fun _ _ m => m, fun _ _ m => .inl m, h⟩

theorem VOk.ext {M M' : Own} {w w' : World} (h : Ext M w M' w') {t : Ty} {x : t.den} {v : Value} : VOk M w t x v → VOk M' w' t x v :=
  fun ⟨cs, e, r⟩ => ⟨cs, e, r.ext h⟩
theorem lk_cons {α : Type} (i j : Nat) (x : α) (r : List (Nat × α)) : lk i ((j, x) :: r) = if i = j then some x else lk i r := by
  simp only [lk]
  by_cases h : i = j
  · subst h; simp
  · have : Nat.beq i j = false := by cases hb : Nat.beq i j with | false => rfl | true => exact absurd (Nat.eq_of_beq_eq_true hb) h
    simp [this, h]

theorem put_get {a : Act} {d : Nat} {v : Value} {i : Nat} (hd : d < a.tmps.size) : (a.put (some d) v).tmps[i]? = if i = d then some v else a.tmps[i]? := by
  simp only [Act.put, Array.getElem?_setIfInBounds]
  by_cases h : d = i
  · subst h; simp [hd]
  · simp [h, Ne.symm h]

end Go.Lift
