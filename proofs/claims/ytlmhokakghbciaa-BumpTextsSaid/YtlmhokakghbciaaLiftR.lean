/- Regions whose order is open, the frame at the start of a function, and what its arguments are. -/
import Derived.Test.YtlmhokakghbciaaLiftJ
import Derived.Deep.AppendSrc
import Derived.Laws.CopyOwn
import Derived.LoopN
import Derived.Tactics
import Derived.ProofKit
import Derived.OpenShut
import Derived.ShutString
import Derived.ChangeOld
import Derived.Carry
namespace Go.Lift
open Go.RowKit

end Go.Lift

namespace Go.Lift
open Go.RowKit

end Go.Lift

namespace Go.Lift
open Go.RowKit

section
variable {P : Program} {E : Env} {el : TypeId → Option TypeId} {Q : Exit → Act → World → Prop} {w0 : World} {M0 : Own} {N : Nat}

/-- one operation, with its guard -/
def GStep (P : Program) (Q : Exit → Act → World → Prop) (ops : Array Oper) (o : Oper) (a : Act) (w : World) (K : Act → World → Prop) : Prop :=
  if Region.wanted o (yielded ops a.tmps) then o.wp P a w K Q else K (a.put o.dst undef) w

end
end Go.Lift

namespace Go.Lift
open Go.RowKit

section
variable {E : Env} {fr fr' : Fr}

theorem befOne_bit {acc : List Nat} {m : Nat} : ∀ (es : List Edge), (befOne acc es).testBit m = true → ∃ e ∈ es, Region.binds .any e = true ∧ (m = e.on ∨ (acc.getD e.on 0).testBit m = true)
  | [], h => by simp [befOne] at h
  | e :: r, h => by
    simp only [befOne] at h
    cases hb : Region.binds .any e with
    | false =>
      simp only [hb, cond_false] at h
      obtain ⟨e', h1, h2⟩ := befOne_bit r h
      exact ⟨e', List.mem_cons_of_mem _ h1, h2⟩
    | true =>
      simp only [hb, cond_true, Nat.testBit_or, Bool.or_eq_true] at h
      rcases h with h | h | h
      · obtain ⟨e', h1, h2⟩ := befOne_bit r h
        exact ⟨e', List.mem_cons_of_mem _ h1, h2⟩
      · refine ⟨e, by simp, hb, .inl ?_⟩
        rw [Nat.testBit_two_pow] at h
        simpa using (of_decide_eq_true h).symm
      · exact ⟨e, by simp, hb, .inr h⟩

theorem befL_app : ∀ (l : List Oper) (acc : List Nat), ∃ ms, befL l acc = acc ++ ms ∧ ms.length = l.length
  | [], acc => ⟨[], by simp [befL], rfl⟩
  | o :: r, acc => by
    obtain ⟨ms, h1, h2⟩ := befL_app r (acc ++ [befOne acc o.after.toList])
    exact ⟨befOne acc o.after.toList :: ms, by rw [befL, h1]; simp, by simp [h2]⟩

theorem befL_at : ∀ (l : List Oper) (acc : List Nat) (i : Nat) (o : Oper), l[i]? = some o → (befL l acc).getD (acc.length + i) 0 = befOne ((befL l acc).take (acc.length + i)) o.after.toList
  | [], _, _, _, h => by simp at h
  | o' :: r, acc, i, o, h => by
    cases i with
    | zero =>
      simp only [List.getElem?_cons_zero, Option.some.injEq] at h
      subst h
      obtain ⟨ms, h1, _⟩ := befL_app r (acc ++ [befOne acc o'.after.toList])
      rw [befL, h1]
      simp
    | succ i =>
      have := befL_at r (acc ++ [befOne acc o'.after.toList]) i o (by simpa using h)
      rw [befL]
      simp only [List.length_append, List.length_cons, List.length_nil] at this
      rw [show acc.length + (i + 1) = acc.length + (0 + 1) + i by omega]
      exact this

theorem befL_spec {l : List Oper} {i : Nat} {o : Oper} (ho : l[i]? = some o) {m : Nat} (h : ((befL l []).getD i 0).testBit m = true) :
    ∃ e ∈ o.after, Region.binds .any e = true ∧ (m = e.on ∨ ((befL l []).getD e.on 0).testBit m = true) := by
  have := befL_at l [] i o ho
  simp only [List.length_nil, Nat.zero_add] at this
  rw [this] at h
  obtain ⟨e, h1, h2, h3⟩ := befOne_bit _ h
  refine ⟨e, by simpa using h1, h2, h3.imp id fun h3 => ?_⟩
  rw [List.getD_eq_getElem?_getD, List.getElem?_take] at h3
  split at h3
  · rw [List.getD_eq_getElem?_getD]; exact h3
  · simp at h3

def cnt (f : Nat → Bool) : Nat → Nat
  | 0 => 0
  | k + 1 => cnt f k + (if f k = true then 1 else 0)
theorem cnt_le (f : Nat → Bool) : ∀ n, cnt f n ≤ n
  | 0 => Nat.le_refl _
  | n + 1 => by have := cnt_le f n; simp only [cnt]; split <;> omega
theorem cnt_all {f : Nat → Bool} : ∀ n, cnt f n = n → ∀ i, i < n → f i = true
  | 0, _, i, hi => by omega
  | n + 1, h, i, hi => by
    have := cnt_le f n
    simp only [cnt] at h
    split at h
    · rename_i hn
      by_cases hin : i = n
      · subst hin; exact hn
      · exact cnt_all n (by omega) i (by omega)
    · omega
theorem cnt_set {f g : Nat → Bool} {i : Nat} (hi : f i = false) (hg : g i = true) (hne : ∀ j, j ≠ i → g j = f j) : ∀ n, i < n → cnt g n = cnt f n + 1
  | 0, h => by omega
  | n + 1, h => by
    simp only [cnt]
    by_cases hin : i = n
    · subst hin
      have : cnt g i = cnt f i := by
        clear h
        have : ∀ m, m ≤ i → cnt g m = cnt f m := by
          intro m
          induction m with
          | zero => intro _; rfl
          | succ m ih => intro hm; simp only [cnt]; rw [ih (by omega), hne m (by omega)]
        exact this i (Nat.le_refl _)
      rw [this, hi, hg]; simp
    · rw [cnt_set hi hg hne n (by omega), hne n (fun h => hin h.symm)]
      omega
theorem cnt_full {f : Nat → Bool} : ∀ n, (∀ i, i < n → f i = true) → cnt f n = n
  | 0, _ => rfl
  | n + 1, h => by simp only [cnt]; rw [cnt_full n fun i hi => h i (by omega), h n (by omega)]; simp

end
end Go.Lift

namespace Go.Lift
open Go.RowKit

theorem least {p : Nat → Prop} [DecidablePred p] : ∀ j, p j → ∃ i, i ≤ j ∧ p i ∧ ∀ m, m < i → ¬ p m := by
  intro j
  induction j using Nat.strongRecOn with
  | ind j ih =>
    intro hj
    by_cases h : ∃ m, m < j ∧ p m
    · obtain ⟨m, h1, h2⟩ := h
      obtain ⟨i, g1, g2, g3⟩ := ih m h1 h2
      exact ⟨i, by omega, g2, g3⟩
    · exact ⟨j, Nat.le_refl _, hj, fun m hm hp => h ⟨m, hm, hp⟩⟩

section
variable {P : Program} {E : Env} {el : TypeId → Option TypeId} {Q : Exit → Act → World → Prop} {w0 : World} {M0 : Own} {N : Nat}

theorem wpOp_of_G {ops : Array Oper} {i : Nat} {o : Oper} {a : Act} {w : World} {K : Act → World → Prop} (ho : ops[i]? = some o) (h : GStep P Q ops o a w K) : wpOp P ops Q i K a w := by
  unfold wpOp
  unfold GStep at h
  simp only [ho]
  split
  · rename_i hw; rw [if_pos hw] at h; exact .inl h
  · rename_i hw; rw [if_neg hw] at h; exact h

/-- a region whose order is open: each operation in its turn -/
def wpAnyS (P : Program) (ops : Array Oper) (Q : Exit → Act → World → Prop) : Nat → Array Bool → Act → World → Prop
  | 0, listed, a, w => Region.ready .any ops listed = [] ∧ Q .normal a w
  | fuel + 1, listed, a, w =>
    (Region.ready .any ops listed = [] → Q .normal a w) ∧
    ∀ i ∈ Region.ready .any ops listed, ∀ o, ops[i]? = some o → GStep P Q ops o a w (wpAnyS P ops Q fuel (listed.setIfInBounds i true))

def Lst (listed : Array Bool) (i : Nat) : Bool := listed.getD i false

theorem lst_set {listed : Array Bool} {i : Nat} (hi : i < listed.size) (j : Nat) : Lst (listed.setIfInBounds i true) j = if j = i then true else Lst listed j := by
  unfold Lst
  by_cases h : j = i
  · subst h; simp [hi]
  · rw [if_neg h, getD_set_ne false (Ne.symm h)]

theorem lst_true {listed : Array Bool} {i : Nat} (hi : i < listed.size) : listed.getD i true = Lst listed i := by
  unfold Lst
  simp [hi]

def Clos (b : List Nat) (f : Nat → Bool) : Prop := ∀ i m, f i = true → (b.getD i 0).testBit m = true → f m = true

theorem ready_pred {ops : Array Oper} {listed : Array Bool} {i m : Nat} (hc : Clos (befL ops.toList []) (Lst listed)) (hi : i ∈ Region.ready .any ops listed) (hb : ((befL ops.toList []).getD i 0).testBit m = true) : Lst listed m = true := by
  obtain ⟨_, o, ho, he⟩ := mem_ready.1 hi
  obtain ⟨e, h1, h2, h3⟩ := befL_spec (l := ops.toList) (by simpa using ho) hb
  have hl := he e h1 h2
  rcases h3 with rfl | h3
  · exact hl
  · exact hc _ _ hl h3

end
end Go.Lift

namespace Go.Lift
open Go.RowKit

/-- no loop over a function -/
def noRF : Code → Bool
  | .seq a b => noRF a && noRF b
  | .cond _ a b => noRF a && noRF b
  | .block _ c => noRF c
  | .scope c => noRF c
  | .loop c => noRF c
  | .rangeFunc _ _ _ _ => false
  | .region _ ops _ => ops.toList.all fun o => match o.op with
    | .defer _ => false
    | _ => true
  | _ => true

/-- every slot that is written is one of the frame -/
def dstsOk (N : Nat) : Code → Bool
  | .region _ ops _ => ops.toList.all fun o => match o.dst with
    | some d => Nat.blt d N
    | none => true
  | .seq a b => dstsOk N a && dstsOk N b
  | .cond _ a b => dstsOk N a && dstsOk N b
  | .block _ c => dstsOk N c
  | .scope c => dstsOk N c
  | .loop c => dstsOk N c
  | .rangeFunc _ ps a b => ps.toList.all (Nat.blt · N) && (dstsOk N a && (dstsOk N b && (noRF a && noRF b)))
  | _ => true

section
variable {P : Program} {E : Env} {el : TypeId → Option TypeId} {w0 : World} {M0 : Own} {n : Nat}

theorem dsts_of {ops : Array Oper} {N : Nat} (h : (ops.toList.all fun o => match o.dst with | some d => Nat.blt d N | none => true) = true) {o : Oper} (ho : o ∈ ops.toList) : ∀ d, o.dst = some d → d < N := by
  intro d hd
  have := List.all_eq_true.1 h o ho
  simp only [hd] at this
  exact Nat.lt_of_lt_of_le (Nat.lt_succ_self _) (Nat.le_of_ble_eq_true this)

end
end Go.Lift

namespace Go.Lift
open Go.RowKit

theorem enters_of {P : Program} {f : FuncId} {fn : Func} {c : Code} (hf : P.funcs[f]? = some fn) (hb : fn.body = some c) (hn : (fn.name == "runtime.NumGoroutine") = false) (args : Array Value) (w : World) :
    (callFunc f args).run P w = .ok (.enter f args) w := by
  have h1 : ¬ fn.name = "runtime.NumGoroutine" := by simpa using hn
  simp [callFunc, hf, hb, h1]

theorem argsOk_at {M : Own} {w : World} : ∀ {vs : List TV} {us : List Value} {i : Nat} {v : TV}, ArgsOk M w vs us → vs[i]? = some v → ∃ u, us[i]? = some u ∧ VOk M w v.1 v.2 u
  | [], [], i, v, _, h => by simp at h
  | x :: xs, u :: us, 0, v, h, e => by simp at e; subst e; exact ⟨u, rfl, h.1⟩
  | x :: xs, u :: us, i + 1, v, h, e => by simpa using argsOk_at h.2 (by simpa using e)
  | [], _ :: _, _, _, h, _ => h.elim
  | _ :: _, [], _, _, h, _ => h.elim

theorem argsOk_len {M : Own} {w : World} : ∀ {vs : List TV} {us : List Value}, ArgsOk M w vs us → vs.length = us.length
  | [], [], _ => rfl
  | x :: xs, u :: us, h => by simp [argsOk_len h.2]
  | [], _ :: _, h => h.elim
  | _ :: _, [], h => h.elim

theorem unpack_pack : ∀ {ps : List Ty} {vs : List TV} {x : resDen ps}, packL ps vs = some x → unpackL ps x = vs
  | [], [], _, _ => rfl
  | [], _ :: _, _, h => by simp [packL] at h
  | [t], [], _, h => by simp [packL] at h
  | [t], [v], x, h => by simp only [packL] at h; rw [TV.as_eq h]; rfl
  | [t], _ :: _ :: _, x, h => by simp [packL] at h
  | t :: u :: ts, [], _, h => by simp [packL] at h
  | t :: u :: ts, v :: vs, x, h => by
    simp only [packL, Option.bind_eq_some_iff] at h
    obtain ⟨y, hy, r, hr, h⟩ := h
    cases h
    simp only [unpackL]
    rw [unpack_pack hr, TV.as_eq hy]

/-- what holds of every value of a type -/
def Wf : (t : Ty) → t.den → Prop
  | .int k, x => k.min ≤ x ∧ x ≤ k.max
  | .bool, _ => True
  | .str, x => List.length x ≤ maxLen ∧ ∀ b ∈ x, 0 ≤ b ∧ b ≤ 255
  | .slice e, xs => List.length xs ≤ maxLen ∧ ∀ x ∈ xs, Wf e x
  | .arr n e, xs => List.length xs = n ∧ ∀ x ∈ xs, Wf e x
  | .unit, _ => True
  | .pair a b, x => Wf a x.1 ∧ Wf b x.2
  | .ptr e, x => Wf e x
  | .ifc, _ => True
  | .mp _ _, _ => False
  | .fn, _ => False
  | .nes e, xs => List.length xs ≤ maxLen ∧ ∀ x ∈ xs, Wf e x

def WfL : (ts : List Ty) → resDen ts → Prop
  | [], _ => True
  | [t], x => Wf t x
  | t :: u :: ts, x => Wf t x.1 ∧ WfL (u :: ts) x.2

theorem Seq.each {α : Type} {R : List Value → α → Prop} {Q : α → Prop} (h : ∀ cs x, R cs x → Q x) : ∀ {cs : List Value} {xs : List α}, Seq R cs xs → ∀ x ∈ xs, Q x
  | _, [], _ => by simp
  | _, x :: xs, ⟨c1, c2, _, h1, h2⟩ => by
    intro y hy
    rcases List.mem_cons.1 hy with rfl | hy
    · exact h _ _ h1
    · exact Seq.each h h2 y hy

theorem Rep.wf {M : Own} {w : World} : ∀ {t : Ty} {cs : List Value} {x : t.den}, Rep M w t cs x → Wf t x
  | .int k, _, _, h => h.2
  | .bool, _, _, _ => trivial
  | .str, _, x, ⟨s, _, hx, hs⟩ => by
    refine ⟨by rw [hx]; simpa using hs, fun b hb => ?_⟩
    rw [hx] at hb
    obtain ⟨c, _, rfl⟩ := List.mem_map.1 hb
    have := c.toNat_lt
    omega
  | .slice e, _, _, ⟨a, cap, row, _, h1, h2, _, h3, _⟩ => ⟨Nat.le_trans h1 h2, h3.each (Q := Wf e) fun _ _ r => Rep.wf r⟩
  | .arr n e, _, _, h => ⟨h.1, Seq.each (Q := Wf e) (fun _ _ r => Rep.wf r) h.2⟩
  | .unit, _, _, _ => trivial
  | .pair a b, _, _, ⟨_, _, _, h1, h2⟩ => ⟨Rep.wf h1, Rep.wf h2⟩
  | .ptr e, _, _, ⟨_, _, _, _, _, h⟩ => Rep.wf (t := e) h
  | .ifc, _, _, _ => trivial
  | .mp _ _, _, _, h => h.elim
  | .fn, _, _, h => h.elim
  | .nes e, _, _, ⟨⟨a, cap, row, _, h1, h2, _, h3, _⟩, _⟩ => ⟨Nat.le_trans h1 h2, h3.each (Q := Wf e) fun _ _ r => Rep.wf r⟩

theorem args_wf {M : Own} {w : World} : ∀ {ps : List Ty} {vs : List TV} {us : List Value} {x : resDen ps}, packL ps vs = some x → ArgsOk M w vs us → WfL ps x
  | [], _, _, _, _, _ => trivial
  | [t], [], _, _, h, _ => by simp [packL] at h
  | [t], _ :: _ :: _, _, _, h, _ => by simp [packL] at h
  | [t], [v], [], _, _, ha => ha.elim
  | [t], [v], u :: us, x, h, ha => by
    simp only [packL] at h
    obtain rfl := TV.as_eq h
    obtain ⟨⟨cs, _, r⟩, _⟩ := ha
    exact r.wf
  | t :: u :: ts, [], _, _, h, _ => by simp [packL] at h
  | t :: u :: ts, v :: vs, [], _, _, ha => ha.elim
  | t :: u :: ts, v :: vs, a :: us, x, h, ha => by
    simp only [packL, Option.bind_eq_some_iff] at h
    obtain ⟨y, hy, r, hr, h⟩ := h
    cases h
    obtain rfl := TV.as_eq hy
    obtain ⟨⟨cs, _, q⟩, hs⟩ := ha
    exact ⟨q.wf, args_wf hr hs⟩

section
variable {P : Program} {E : Env} {el : TypeId → Option TypeId} {w0 : World} {M0 : Own} {n : Nat}

theorem fsNil : ∀ f fn, lk f ([] : List (FuncId × Fn)) = some fn → Lifts P f fn := by
  intro f fn h; simp [lk] at h
def resSem (tmps : Array Value) : ResultVar → Sem Value
  | .tmp t => pure (tmps.getD t undef)
  | .cell a t => do loadVar t (← asAddr (tmps.getD a undef))

end
end Go.Lift

namespace Go.Lift
open Go.RowKit Go.ChangeShapes Go.WideShapes Go.ChangeMaps

def Ty.plain : Ty → Bool
  | .int _ | .bool | .str | .unit => true
  | .slice e => decide (0 < e.n) && e.plain
  | .arr _ e => e.plain
  | .pair a b => a.plain && b.plain
  | .ptr _ => false
  | .ifc => false
  | .mp _ _ => false
  | .fn => false
  | .nes _ => false

section
variable {H : Type} {enc : TypeId × Value → H} {P : Program} {w : World} {tab : List (TypeId × Ty)} {sp : Nat → Bool} {held : Bool}

def AllM (w : World) : Own := fun b _ => b < w.heap.size

theorem TOk.cellsOf {tid : TypeId} {t : Ty} (h : TOk P tab tid t) : P.cellsOf tid = t.n := by
  obtain ⟨i, hi, hs, _⟩ := h.info
  simp [Program.cellsOf, hi, hs]

theorem wf_range {k : IntKind} {n : Int} (h : (Lit.int k n).wf = true) : k.min ≤ n ∧ n ≤ k.max := by
  simpa [Lit.wf] using h

theorem cells_add {w : World} {base : Nat} {a : Addr} {j n : Nat} {l : List Value} (h : w.cells? base (a.add j) n = some l) : l.length = n ∧ ∀ i, i < n → w.cell? (a.add (j + i)) = l[i]? := by
  unfold World.cells? at h
  split at h
  · refine ⟨by simpa using mapM_some_length h, fun i hi => ?_⟩
    have := mapM_some_get h i i (by simp [hi])
    rw [← this]
    by_cases hj : j = 0 <;> by_cases h0 : i = 0 <;> simp [Addr.add, hj, h0, Nat.add_assoc]
  · cases h

theorem seq_one {α : Type} {R : List Value → α → Prop} {c : List Value} {x : α} (h : R c x) : Seq R c [x] := ⟨c, [], by simp, h, rfl⟩

/-- a list of cells is that list -/
theorem slice_open {e : Ty} {te : TypeId} (he : TOk P tab te e) (hn : 0 < e.n) {m : Nat} {a : Addr}
    (ih : ∀ cs x, DataW.trod enc P w 0 sp held m te cs = some x → ∃ X, Rep (AllM w) w e cs X) {len : Nat} {elems : List (DataW H × List MemPlace)} (hlen : elems.length = len)
    (h : ∀ i, i < len → (w.cells? 0 (a.add (i * P.cellsOf te)) (P.cellsOf te)).bind (DataW.trod enc P w 0 sp held m te) = elems[i]?) : ∀ j, j ≤ len →
    ∃ (row : List Value) (xs : List e.den), xs.length = j ∧ Seq (Rep (AllM w) w e) row xs ∧ ∀ i, i < row.length → w.cell? (a.add i) = row[i]?
  | 0, _ => ⟨[], [], rfl, rfl, by simp⟩
  | j + 1, hj => by
    obtain ⟨row, xs, h1, h2, h3⟩ := slice_open he hn ih hlen h j (by omega)
    have h4 := h j (by omega)
    rw [List.getElem?_eq_getElem (by omega), he.cellsOf] at h4
    obtain ⟨l, hl, ht⟩ := Option.bind_eq_some_iff.1 h4
    obtain ⟨X, hX⟩ := ih _ _ ht
    obtain ⟨l1, l2⟩ := cells_add hl
    have hr := h2.length (fun _ _ => Rep.length)
    refine ⟨row ++ l, xs ++ [X], by simp [h1], h2.append (seq_one hX), fun i hi => ?_⟩
    by_cases hlt : i < row.length
    · rw [List.getElem?_append_left hlt]; exact h3 i hlt
    · rw [List.getElem?_append_right (by omega)]
      simp only [List.length_append] at hi
      rw [← l2 (i - row.length) (by omega), hr, h1]
      congr 2
      rw [h1] at hr
      omega

theorem arr_open {e : Ty} {te : TypeId} (he : TOk P tab te e) {m : Nat} (ih : ∀ cs x, DataW.trod enc P w 0 sp held m te cs = some x → ∃ X, Rep (AllM w) w e cs X) {cs : List Value} {n : Nat} {ys : List (DataW H × List MemPlace)} (hl : ys.length = n)
    (h : ∀ i, i < n → DataW.trod enc P w 0 sp held m te ((cs.drop (i * P.cellsOf te)).take (P.cellsOf te)) = ys[i]?) : ∀ j, j ≤ n →
    ∃ (xs : List e.den), xs.length = j ∧ Seq (Rep (AllM w) w e) (cs.take (j * e.n)) xs
  | 0, _ => ⟨[], rfl, by simp [Seq]⟩
  | j + 1, hj => by
    obtain ⟨xs, h1, h2⟩ := arr_open he ih hl h j (by omega)
    have h4 := h j (by omega)
    rw [List.getElem?_eq_getElem (by omega), he.cellsOf] at h4
    obtain ⟨X, hX⟩ := ih _ _ h4
    refine ⟨xs ++ [X], by simp [h1], ?_⟩
    rw [Nat.add_mul, Nat.one_mul, List.take_add]
    exact h2.append (seq_one hX)

theorem open_all (htab : TabOk P tab) : ∀ (T : Ty), T.plain = true →
    (∀ tid fuel cs x, lk tid tab = some T → DataW.trod enc P w 0 sp held fuel tid cs = some x → ∃ X, Rep (AllM w) w T cs X) ∧
    (∀ (fs : List Field) (off m : Nat) (cs : List Value), okU.okFs tab fs off T = true → (∀ f ∈ fs, ∃ y, DataW.trod enc P w 0 sp held m f.type ((cs.drop f.offset).take (P.cellsOf f.type)) = some y) → ∃ X, Rep (AllM w) w T ((cs.drop off).take T.n) X)
  | .int k, _ => ⟨fun tid fuel cs x ht h => by
      obtain ⟨n, rfl, _, hw⟩ := DataW.trod_int (htab _ _ ht).int h
      exact ⟨n, rfl, wf_range hw⟩, fun fs off m cs h => by cases fs <;> simp [okU.okFs] at h⟩
  | .bool, _ => ⟨fun tid fuel cs x ht h => by
      obtain ⟨n, rfl, _⟩ := DataW.trod_bool (htab _ _ ht).bool h
      exact ⟨n, rfl⟩, fun fs off m cs h => by cases fs <;> simp [okU.okFs] at h⟩
  | .str, _ => ⟨fun tid fuel cs x ht h => by
      obtain ⟨s, rfl, _, hw⟩ := DataW.trod_string (htab _ _ ht).str h
      exact ⟨_, s, rfl, rfl, hw⟩, fun fs off m cs h => by cases fs <;> simp [okU.okFs] at h⟩
  | .slice e, hp => by
      simp only [Ty.plain, Bool.and_eq_true, decide_eq_true_eq] at hp
      refine ⟨fun tid fuel cs x ht h => ?_, fun fs off m cs h => by cases fs <;> simp [okU.okFs] at h⟩
      obtain ⟨te, hu, he⟩ := (htab _ _ ht).slice
      rcases DataW.trod_slice hu h with ⟨rfl, _⟩ | ⟨a, len, cap, elems, rest, m, rfl, rfl, _, _, hl, hc, hlen, hel, _, _⟩
      · exact ⟨[], none, 0, [], rfl, by simp, by simp, fun _ => rfl, rfl, .inl rfl⟩
      · obtain ⟨row, xs, h1, h2, h3⟩ := slice_open (htab _ _ he) hp.1 (fun cs x h => (open_all htab e hp.2).1 te m cs x he h) hlen hel len (Nat.le_refl _)
        subst h1
        refine ⟨xs, some a, cap, row, rfl, hl, hc, (fun h => by cases h), h2, ?_⟩
        by_cases h0 : xs.length = 0
        · exact .inl h0
        · right
          have hr := h2.length (fun _ _ => Rep.length)
          have hpos : 0 < row.length := by rw [hr]; exact Nat.mul_pos (by omega) hp.1
          obtain ⟨b, o, spot⟩ := a
          have hs : spot = none := by
            have := h3 0 hpos
            rw [List.getElem?_eq_getElem hpos] at this
            simpa [Addr.add] using World.cell?_spot this
          subst hs
          refine ⟨b, o, rfl, fun i hi => ?_⟩
          have h4 := h3 i hi
          rw [addr_add] at h4
          refine ⟨h4, ?_⟩
          rw [List.getElem?_eq_getElem hi] at h4
          exact cell_lt h4
  | .arr n e, hp => by
      simp only [Ty.plain] at hp
      refine ⟨fun tid fuel cs x ht h => ?_, fun fs off m cs h => by cases fs <;> simp [okU.okFs] at h⟩
      obtain ⟨te, hu, he, _⟩ := (htab _ _ ht).arr
      obtain ⟨ys, m, rfl, _, hl, hys, hy⟩ := DataW.trod_array hu h
      obtain ⟨xs, h1, h2⟩ := arr_open (htab _ _ he) (fun cs x h => (open_all htab e hp).1 te m cs x he h) hys hy n (Nat.le_refl _)
      rw [(htab _ _ ht).cellsOf] at hl
      rw [List.take_of_length_le (by simp [hl, Ty.n])] at h2
      exact ⟨xs, h1, h2⟩
  | .unit, _ => by
      refine ⟨fun tid fuel cs x ht h => ?_, fun fs off m cs h _ => ⟨(), by simp [Rep, Ty.n]⟩⟩
      obtain ⟨fs, hu, _⟩ := (htab _ _ ht).unit
      obtain ⟨_, _, _, _, hl, _⟩ := DataW.trod_struct hu h
      rw [(htab _ _ ht).cellsOf] at hl
      exact ⟨(), by simpa [Rep, Ty.n] using hl⟩
  | .pair a b, hp => by
      simp only [Ty.plain, Bool.and_eq_true] at hp
      have hB : ∀ (fs : List Field) (off m : Nat) (cs : List Value), okU.okFs tab fs off (.pair a b) = true → (∀ f ∈ fs, ∃ y, DataW.trod enc P w 0 sp held m f.type ((cs.drop f.offset).take (P.cellsOf f.type)) = some y) → ∃ X, Rep (AllM w) w (.pair a b) ((cs.drop off).take (Ty.pair a b).n) X := by
        intro fs off m cs h hf
        cases fs with
        | nil => simp [okU.okFs] at h
        | cons f fs =>
          simp only [okU.okFs, Bool.and_eq_true, decide_eq_true_eq, beq_iff_eq] at h
          obtain ⟨⟨⟨⟨ha, ho⟩, _⟩, _⟩, hfs⟩ := h
          obtain ⟨y, hy⟩ := hf f (by simp)
          rw [ho, (htab _ _ ha).cellsOf] at hy
          obtain ⟨X, hX⟩ := (open_all htab a hp.1).1 _ _ _ _ ha hy
          obtain ⟨Y, hY⟩ := (open_all htab b hp.2).2 fs (off + a.n) m cs hfs (fun g hg => hf g (by simp [hg]))
          refine ⟨(X, Y), _, _, ?_, hX, hY⟩
          rw [Ty.n, List.take_add, List.drop_drop]
      refine ⟨fun tid fuel cs x ht h => ?_, hB⟩
      obtain ⟨fs, hu, ⟨hfs, _⟩, _⟩ := (htab _ _ ht).pair
      obtain ⟨xs, m, rfl, _, hl, hxs, hx⟩ := DataW.trod_struct hu h
      obtain ⟨X, hX⟩ := hB fs.toList 0 m cs hfs (fun f hf => by
        obtain ⟨i, hi⟩ := List.getElem?_of_mem hf
        have hi' : fs[i]? = some f := by simpa using hi
        have hlt : i < xs.length := by rw [hxs]; exact (Array.getElem?_eq_some_iff.1 hi').1
        have := hx i f hi'
        rw [List.getElem?_eq_getElem hlt] at this
        exact ⟨_, this⟩)
      rw [(htab _ _ ht).cellsOf] at hl
      rw [List.drop_zero, List.take_of_length_le (Nat.le_of_eq hl)] at hX
      exact ⟨X, hX⟩

theorem val_open (htab : TabOk P tab) {tid : TypeId} {T : Ty} {v : Value} {d : DataW H} {p : List MemPlace} {r : Reach} {b0 : Nat} (ht : lk tid tab = some T) (hp : T.plain = true)
    (hval : Value.okWide P w r b0 tid v) (h : DataW.Trod enc P w 0 sp held tid v d p) : ∃ X, VOk (AllM w) w T X v := by
  obtain ⟨fuel, h⟩ := h
  have hT := htab _ _ ht
  obtain ⟨X, hX⟩ := (open_all htab T hp).1 _ _ _ _ ht h
  refine ⟨X, _, ?_, hX⟩
  match T, hT with
  | .int k, hT => obtain ⟨n, rfl⟩ := okWide_int hT.int hval; rfl
  | .bool, hT => obtain ⟨n, rfl⟩ := okWide_bool hT.bool hval; rfl
  | .str, hT => obtain ⟨n, rfl⟩ := okWide_string hT.str hval; rfl
  | .slice e, hT => obtain ⟨te, hu, _⟩ := hT.slice; obtain ⟨a, l, c, rfl⟩ := okWide_slice hu hval; rfl
  | .ptr e, hT => simp [Ty.plain] at hp
  | .ifc, hT => simp [Ty.plain] at hp
  | .mp _ _, hT => simp [Ty.plain] at hp
  | .fn, hT => simp [Ty.plain] at hp
  | .nes _, hT => simp [Ty.plain] at hp
  | .arr n e, hT =>
    obtain ⟨te, hu, _⟩ := hT.arr
    simp only [Value.okWide, hu] at hval
    obtain ⟨cs, rfl, _⟩ := hval
    simp [toV, Ty.isAgg, Value.cells]
  | .unit, hT =>
    obtain ⟨fs, hu, _⟩ := hT.unit
    simp only [Value.okWide, hu] at hval
    obtain ⟨cs, rfl, _⟩ := hval
    simp [toV, Ty.isAgg, Value.cells]
  | .pair a b, hT =>
    obtain ⟨fs, hu, _⟩ := hT.pair
    simp only [Value.okWide, hu] at hval
    obtain ⟨cs, rfl, _⟩ := hval
    simp [toV, Ty.isAgg, Value.cells]

theorem args_open (htab : TabOk P tab) {r : Reach} {b0 : Nat} : ∀ {ts : List TypeId} {ps : List Ty} {args : List Value} {ds : List (DataW H)} {p : List MemPlace}, ts.map (fun t => lk t tab) = ps.map some → ps.all Ty.plain = true →
    (∀ (j : Nat) t v, ts[j]? = some t → args[j]? = some v → Value.okWide P w r b0 t v) → DataW.TrodAll enc P w 0 sp held ts args ds p →
    ∃ vs, ArgsOk (AllM w) w vs args ∧ vs.map (·.1) = ps
  | [], [], args, ds, p, _, _, _, h => by
    obtain ⟨rfl, _⟩ := trodAll_nil h
    exact ⟨[], trivial, rfl⟩
  | [], _ :: _, _, _, _, h, _, _, _ => by simp at h
  | _ :: _, [], _, _, _, h, _, _, _ => by simp at h
  | t :: ts, T :: ps, args, ds, p, h, hp, hv, hd => by
    obtain ⟨v, vs', d, ds', q, q', rfl, rfl, rfl, h1, h2⟩ := trodAll_cons hd
    simp only [List.map_cons, List.cons.injEq] at h
    simp only [List.all_cons, Bool.and_eq_true] at hp
    obtain ⟨X, hX⟩ := val_open htab h.1 hp.1 (hv 0 t v rfl rfl) h1
    obtain ⟨vs, g1, g2⟩ := args_open htab h.2 hp.2 (fun j t v ht hvv => hv (j + 1) t v (by simpa using ht) (by simpa using hvv)) h2
    exact ⟨⟨T, X⟩ :: vs, ⟨hX, g1⟩, by simp [g2]⟩

theorem pack_of : ∀ {ps : List Ty} {vs : List TV}, vs.map (·.1) = ps → ∃ x, packL ps vs = some x
  | [], [], _ => ⟨(), rfl⟩
  | [], _ :: _, h => by simp at h
  | [t], [v], h => by
    simp only [List.map_cons, List.map_nil, List.cons.injEq, and_true] at h
    subst h
    exact ⟨v.2, by simp [packL, TV.as]⟩
  | [t], [], h => by simp at h
  | [t], _ :: _ :: _, h => by simp at h
  | t :: u :: ts, [], h => by simp at h
  | t :: u :: ts, v :: vs, h => by
    simp only [List.map_cons, List.cons.injEq] at h
    obtain ⟨rfl, h⟩ := h
    obtain ⟨y, hy⟩ := pack_of (ps := u :: ts) h
    exact ⟨(v.2, y), by simp [packL, TV.as, hy]⟩

/-- behind the call the arguments read as they did -/
theorem trodAll_below (hl : laidOutB P = true) {W W' : World} (hb : Below W.heap.size W W') : ∀ {ts : List TypeId} {vs : List Value} {ds : List (DataW H)} {ps : List MemPlace}, (ts.all fun t => P.readableRec t && decide (t < P.types.size)) = true →
    DataW.TrodAll enc P W 0 (fun _ => true) true ts vs ds ps → (∀ x ∈ ps, x.block < W.heap.size) → DataW.TrodAll enc P W' 0 (fun b => decide (b < W.heap.size)) true ts vs ds ps
  | [], [], [], _, _, h, _ => h
  | t :: ts, v :: vs, d :: ds, ps, ht, h, hlt => by
    obtain ⟨p, q, h1, h2, rfl⟩ := h
    simp only [List.all_cons, Bool.and_eq_true, decide_eq_true_eq] at ht
    exact ⟨p, q, Below.trod hl ht.1.1 ht.1.2 h1 hb (fun x hx => hlt x (by simp [hx])), trodAll_below hl hb ht.2 h2 (fun x hx => hlt x (by simp [hx])), rfl⟩
  | [], _ :: _, _, _, _, h, _ => h.elim
  | [], [], _ :: _, _, _, h, _ => h.elim
  | _ :: _, [], _, _, _, h, _ => h.elim
  | _ :: _, _ :: _, [], _, _, h, _ => h.elim

theorem trodAll_length : ∀ {ts : List TypeId} {vs : List Value} {ds : List (DataW H)} {ps : List MemPlace} {b : Nat}, DataW.TrodAll enc P w b sp held ts vs ds ps → ds.length = ts.length
  | [], [], [], _, _, _ => rfl
  | t :: ts, v :: vs, d :: ds, _, _, h => by obtain ⟨p, q, _, h2, _⟩ := h; simp [trodAll_length h2]
  | [], _ :: _, _, _, _, h => h.elim
  | [], [], _ :: _, _, _, h => h.elim
  | _ :: _, [], _, _, _, h => h.elim
  | _ :: _, _ :: _, [], _, _, h => h.elim

end
end Go.Lift

