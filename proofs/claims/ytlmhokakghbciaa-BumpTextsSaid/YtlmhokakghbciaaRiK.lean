/- Operations that make something new, and calls by contract. -/
import Derived.Test.YtlmhokakghbciaaRiW
import Derived.Great.BuildSlice
namespace Go.Lift
open Go.RowKit

section
variable {P : Program} {E : Env2} {Q : Exit → Act → World → Prop} {o : Oper} {w0 : World} {M0 : Bs} {N : Nat} {M M' : Own} {β : Nat → Nat} {τ : Nat → Value} {st st' : St} {a : Act} {as : List Act} {w w' : World} {id : Nat} {rv : RV} {ob : Option Ob}

theorem zeroR_ok {L : List (Nat × Ob)} : ∀ {t : Ty} {z : t.den}, zeroD t = some z → RR M w β τ L (zeroR t z) (.ce t) (zeroCells t) := by
  intro t
  induction t with
  | slice e => intro z h; exact ⟨rfl, rfl⟩
  | pair x y ihx ihy =>
    intro z h
    have h' := h
    simp only [zeroD, Option.bind_eq_some_iff] at h
    obtain ⟨z1, h1, z2, h2, h⟩ := h
    cases h
    simp only [zeroR]
    cases x.hasSl || y.hasSl with
    | true =>
      simp only [cond_true, RR]
      exact ⟨x, y, _, _, rfl, rfl, ihx h1, ihy h2⟩
    | false => exact ⟨.inl rfl, zero_rep h'⟩
  | _ => intro z h; exact ⟨.inl rfl, zero_rep h⟩

theorem gives_var (s : Sm w0 M0 N M β τ st a as w) (hd : ∀ d, o.dst = some d → d < N) (hid : lk id st.l = none) {ty : Ty} {con : RV} {cs : List Value} {T : TypeId} (hr : RR M w β τ st.l con (.ce ty) cs)
    (hrun : (execOp a.eval o).run P w = .ok (.value (.pointer (some ⟨w.heap.size, 0, none⟩))) (w.alloc (.cells cs.toArray T))) : Gives P Q w0 M0 N o a as w st id (.loc id []) (some (.var ty con)) := by
  have s1 := s.addVar (T := T) hid hr
  refine ost_run hrun ⟨_, _, _, s1.set o.dst hd ?_⟩
  simp only [addN]
  have hz : offP ty [] = some (0, ty) := by cases ty <;> rfl
  have := loc_sl (M := M) (w := w.alloc (.cells cs.toArray T)) (β := fun j => if j = id then w.heap.size else β j) (τ := fun j => if j = id then undef else τ j) (i := id) (p := []) (L := (id, Ob.var ty con) :: st.l) (ob := .var ty con) (off := 0) (t' := ty) (by simp [lk_cons]) hz
  simpa using this

theorem gives_row (s : Sm w0 M0 N M β τ st a as w) (hd : ∀ d, o.dst = some d → d < N) (hid : lk id st.l = none) {t : Ty} {xs : List t.den} {v : Value} {w' : World} (g : Gr M w M' w') (hr : RowX (w.heap.size ≤ ·) M' w' t xs v)
    (hrun : (execOp a.eval o).run P w = .ok (.value v) w') : Gives P Q w0 M0 N o a as w st id (.row id) (some (.row t xs)) := by
  have s1 := s.addRow hid g hr
  refine ost_run hrun ⟨_, _, _, s1.set o.dst hd ?_⟩
  simp only [RR, addN]
  refine ⟨rfl, v, t, xs, rfl, ?_, by simp [lk_cons], by simp⟩
  obtain ⟨a, cap, row, rfl, _⟩ := hr
  rfl

theorem alloc_sound2 (hE : Env2Ok P E) (s : Sm w0 M0 N M β τ st a as w) (hd : ∀ d, o.dst = some d → d < N) (hid : lk id st.l = none) {t : TypeId} (hop : o.op = .alloc t) (h : opP E o st id (fun rv ob => some (rv, ob)) = some (rv, ob)) : Gives P Q w0 M0 N o a as w st id rv ob := by
  simp only [opP, hop] at h
  obtain ⟨ty, hty, h⟩ := Option.bind_eq_some_iff.1 h
  obtain ⟨i, hi, hs, hzi, _⟩ := (hE.tab _ _ hty).info
  have run : (execOp a.eval o).run P w = .ok (.value (.pointer (some ⟨w.heap.size, 0, none⟩))) (w.alloc (.cells (toV ty (zeroCells ty)).cells t)) := by
    simp [execOp, hop, Instr.alloc, zeroValue, typeInfo, hi, hzi, newVar, newRow]
  cases hh : isHid ty with
  | true =>
    simp only [hh] at h
    cases h
    have hr : RR M w β τ st.l .any (.ce ty) (zeroCells ty) := by
      cases ty <;> simp [isHid] at hh <;> exact ⟨rfl, by simp [zeroCells, Value.oneCell']⟩
    rw [hr.cells] at run
    exact gives_var (T := t) s hd hid hr run
  | false =>
    simp only [hh] at h
    obtain ⟨z, hz, h⟩ := Option.bind_eq_some_iff.1 h
    cases h
    have hr := zeroR_ok (M := M) (w := w) (β := β) (τ := τ) (L := st.l) hz
    rw [hr.cells] at run
    exact gives_var (T := t) s hd hid hr run

theorem makeMap_sound2 (s : Sm w0 M0 N M β τ st a as w) (hd : ∀ d, o.dst = some d → d < N) (hid : lk id st.l = none) {t : TypeId} (hop : o.op = .makeMap t none) (h : opP E o st id (fun rv ob => some (rv, ob)) = some (rv, ob)) : Gives P Q w0 M0 N o a as w st id rv ob := by
  simp only [opP, hop] at h
  obtain ⟨ty, hty, h⟩ := Option.bind_eq_some_iff.1 h
  split at h
  · rename_i kt vt
    cases h
    have s1 := s.addMap (kt := kt) (vt := vt) (clock := 0) hid
    refine ost_run (v := .map (some w.heap.size)) (w' := w.alloc (.map #[] 0)) (by simp [execOp, hop, Instr.makeMap, newObj, Sem.run]) ⟨_, _, _, s1.set o.dst hd ?_⟩
    simp only [RR, addN]
    exact ⟨rfl, _, kt, vt, [], rfl, rfl, by simp [lk_cons], by simp⟩
  · cases h

theorem mp_inv {L : List (Nat × Ob)} {i : Nat} {u : Value} (r : RR M w β τ L (.mp i) .sl [u]) : ∃ kt vt es, lk i L = some (.mp kt vt es) ∧ u = .map (some (β i)) := by
  simp only [RR] at r
  obtain ⟨_, u', kt, vt, es, e, _, hl, hu⟩ := r
  cases e
  exact ⟨kt, vt, es, hl, hu⟩

theorem vok_flat {t : Ty} (hf : t.flat = true) {x : t.den} {v : Value} {M1 M2 : Own} {w1 w2 : World} (h : VOk M1 w1 t x v) : VOk M2 w2 t x v := by
  obtain ⟨cs, hu, hr⟩ := h
  exact ⟨cs, hu, hr.flat hf⟩

theorem lookup_sound2 (hE : Env2Ok P E) (s : Sm w0 M0 N M β τ st a as w) (hd : ∀ d, o.dst = some d → d < N) {t : TypeId} {m x : Operand} {c : Bool} (hop : o.op = .lookup t m x c) (h : opP E o st id (fun rv ob => some (rv, ob)) = some (rv, ob)) : Gives P Q w0 M0 N o a as w st id rv ob := by
  simp only [opP, hop, lookK] at h
  have hm := evR_ok s.glob s.fr none m
  have ex : execOp a.eval o = (do pure (Next.value (← Instr.lookup t (a.eval m) (a.eval x) c))) := by simp only [execOp, hop]
  split at h
  · rename_i i heq
    rw [heq] at hm
    obtain ⟨kt, vt, es, hl, hu⟩ := mp_inv hm
    simp only [hl] at h
    obtain ⟨hc, h⟩ := bif_some h
    simp only [Bool.and_eq_true] at hc
    obtain ⟨v, h1, h2⟩ := peekK_pc 6 _ _ _ _ h
    obtain ⟨k, hk, h3⟩ := Option.bind_eq_some_iff.1 h2
    obtain ⟨z, hz, h4⟩ := Option.bind_eq_some_iff.1 h3
    obtain rfl := TV.as_eq hk
    have hv := peekK_ok s.ob 6 (h1 _ some) (evR_ok s.glob s.fr (some kt) x)
    obtain ⟨_, ⟨arr, clock, hb, he⟩, _⟩ := s.ob i _ hl
    obtain ⟨u, hrun, hok⟩ := lookup_run hE.tab hc.2 (hE.tab _ _ (tyIs_eq hc.1)) hv hb he hz c
    rw [← hu] at hrun
    cases c with
    | false =>
      obtain ⟨rfl, rfl⟩ := Prod.mk.inj (Option.some.inj h4)
      exact gives_val s hd (v := u) (exec_v ex (by simpa using hrun)) ⟨u, rfl, hok⟩
    | true =>
      obtain ⟨rfl, rfl⟩ := Prod.mk.inj (Option.some.inj h4)
      refine gives_val s hd (v := .tuple #[u, .bool (atK k z es).2]) (exec_v ex (by simpa using hrun)) ?_
      simp only [RR]
      exact ⟨trivial, [u, .bool (atK k z es).2], rfl, u, _, rfl, ⟨u, rfl, hok⟩, _, _, rfl, ⟨_, rfl, VOk.mk_bool⟩, rfl⟩
  · cases h

theorem box_sound2 (s : Sm w0 M0 N M β τ st a as w) (hd : ∀ d, o.dst = some d → d < N) (hid : lk id st.l = none) {t : TypeId} {x : Operand} (hop : o.op = .box t x) (h : opP E o st id (fun rv ob => some (rv, ob)) = some (rv, ob)) : Gives P Q w0 M0 N o a as w st id rv ob := by
  simp only [opP, hop] at h
  obtain ⟨ty, hty, h⟩ := Option.bind_eq_some_iff.1 h
  obtain ⟨c, hc1, h⟩ := Option.bind_eq_some_iff.1 h
  cases h
  obtain ⟨cs, hv, hr⟩ := toC_ok hc1 (evR_ok s.glob s.fr (some ty) x)
  have hc := hr.cells
  refine gives_var (T := t) s hd hid hr ?_
  simp [execOp, hop, Instr.box, newVar, newRow, hv, hc]

theorem nilCheck_sound2 (hE : Env2Ok P E) (s : Sm w0 M0 N M β τ st a as w) (hd : ∀ d, o.dst = some d → d < N) {x : Operand} (hop : o.op = .nilCheck x) (h : opP E o st id (fun rv ob => some (rv, ob)) = some (rv, ob)) : Gives P Q w0 M0 N o a as w st id rv ob := by
  simp only [opP, hop] at h
  have hx := evR_ok s.glob s.fr (lk o.type E.tab) x
  split at h
  · rename_i i p heq
    cases h
    rw [heq] at hx
    obtain ⟨ob1, off, t', hl, ho, hu⟩ := loc_inv hx
    exact gives_val s hd (v := a.eval x) (by simp only [execOp, hop, hu]; rfl) hx
  · rename_i f c heq
    cases h
    rw [heq] at hx
    have hx' := hx
    simp only [RR] at hx
    obtain ⟨_, us, e, _⟩ := hx
    simp only [List.cons.injEq, and_true] at e
    exact gives_val s hd (v := a.eval x) (by simp only [execOp, hop, e]; rfl) hx'
  · exact gives_sh hE s hd h

theorem nthP_ok {L : List (Nat × Ob)} : ∀ {r rv : RV} {i : Nat} {us : List Value}, nthP r i = some rv → RR M w β τ L r .li us → ∃ u, us[i]? = some u ∧ RR M w β τ L rv .sl [u] := by
  intro r rv i
  fun_induction nthP r i with
  | case1 x y =>
    intro us h r
    cases h
    simp only [RR] at r
    obtain ⟨u, us', rfl, r1, _⟩ := r
    exact ⟨u, rfl, r1⟩
  | case2 x y n ih =>
    intro us h r
    simp only [RR] at r
    obtain ⟨u, us', rfl, _, r2⟩ := r
    simpa using ih h r2
  | case3 => intro us h; cases h

theorem extract_sound2 (s : Sm w0 M0 N M β τ st a as w) (hd : ∀ d, o.dst = some d → d < N) {x : Operand} {i : Nat} (hop : o.op = .extract x i) (h : opP E o st id (fun rv ob => some (rv, ob)) = some (rv, ob)) : Gives P Q w0 M0 N o a as w st id rv ob := by
  simp only [opP, hop] at h
  have hx := evR_ok s.glob s.fr (lk o.type E.tab) x
  split at h
  · rename_i r heq
    rw [heq] at hx
    obtain ⟨rv', h1, h⟩ := Option.bind_eq_some_iff.1 h
    cases h
    simp only [RR] at hx
    obtain ⟨_, us, e, hr⟩ := hx
    simp only [List.cons.injEq, and_true] at e
    obtain ⟨u, hu, hr'⟩ := nthP_ok h1 hr
    refine gives_val s hd (v := u) ?_ hr'
    simp [execOp, hop, e, Instr.extract, hu]
  · cases h

theorem chain_ok {L : List (Nat × Ob)} : ∀ {rvs : List RV} {us : List Value}, rvs.length = us.length → (∀ (i : Nat) rv u, rvs[i]? = some rv → us[i]? = some u → RR M w β τ L rv .sl [u]) → RR M w β τ L (chain rvs) .li us
  | [], [], _, _ => rfl
  | rv :: rvs, u :: us, hl, h => by
    simp only [chain, RR]
    exact ⟨u, us, rfl, h 0 rv u rfl rfl, chain_ok (by simpa using hl) fun i rv' u' h1 h2 => h (i + 1) rv' u' (by simpa using h1) (by simpa using h2)⟩
  | [], _ :: _, hl, _ => by simp at hl
  | _ :: _, [], hl, _ => by simp at hl

theorem makeFunc_sound2 (s : Sm w0 M0 N M β τ st a as w) (hd : ∀ d, o.dst = some d → d < N) {f : FuncId} {first caps : Array Operand} (hop : o.op = .makeFunc (.func f) first caps) (h : opP E o st id (fun rv ob => some (rv, ob)) = some (rv, ob)) : Gives P Q w0 M0 N o a as w st id rv ob := by
  simp only [opP, hop] at h
  obtain ⟨hc, h⟩ := bif_some h
  cases h
  have hf : first = #[] := by simpa using hc
  subst hf
  refine gives_val s hd (v := .func (.func f) #[] (caps.map a.eval)) ?_ ?_
  · simp [execOp, hop, Instr.makeFunc]
  · simp only [RR]
    refine ⟨rfl, caps.toList.map a.eval, by rw [← List.map_toArray, Array.toArray_toList], chain_ok (by simp) fun i rv' u h1 h2 => ?_⟩
    rw [List.getElem?_map, Option.map_eq_some_iff] at h1 h2
    obtain ⟨x, hx, rfl⟩ := h1
    obtain ⟨x', hx', rfl⟩ := h2
    rw [hx] at hx'
    cases hx'
    exact evR_ok s.glob s.fr none x

/-! ### literals -/
theorem buildR_fill (s : Sm w0 M0 N M β τ st a as w) {place : Nat → Option (Nat × Nat)} : ∀ {t : Ty} {i : Nat} {ps : List (Nat × Operand)} {y : RV} {pre : List Value}, buildR st.s t i ps = some y → Places place i pre.length t →
    ∃ cs, Instr.fill place (pre ++ zeroCells t).toArray (ps.map fun p => (p.1, a.eval p.2)) = some (pre ++ cs).toArray ∧ RR M w β τ st.l y (.ce t) cs := by
  intro t
  induction t with
  | unit =>
    intro i ps y pre h _
    cases ps with
    | nil => cases h; exact ⟨[], by simp [Instr.fill, zeroCells], rfl, rfl⟩
    | cons p r => simp [buildR] at h
  | pair c b iha ihb =>
    intro i ps y pre h hp
    obtain ⟨hp1, hp2⟩ := hp
    have skip : ∀ {ps' : List (Nat × Operand)} {x : c.den} {y' : RV}, zeroD c = some x → buildR st.s b (i + 1) ps' = some y' →
        ∃ cs, Instr.fill place (pre ++ zeroCells (.pair c b)).toArray (ps'.map fun p => (p.1, a.eval p.2)) = some (pre ++ cs).toArray ∧ RR M w β τ st.l (.pair (zeroR c x) y') (.ce (.pair c b)) cs := by
      intro ps' x y' hx hy
      have hr := zeroR_ok (M := M) (w := w) (β := β) (τ := τ) (L := st.l) hx
      obtain ⟨cs, h1, h2⟩ := ihb (pre := pre ++ zeroCells c) hy (by rw [List.length_append, hr.length]; exact hp2)
      refine ⟨zeroCells c ++ cs, by rw [zeroCells, ← List.append_assoc, h1, List.append_assoc], ?_⟩
      simp only [RR]
      exact ⟨c, b, zeroCells c, cs, rfl, rfl, hr, h2⟩
    cases ps with
    | nil =>
      simp only [buildR, Option.bind_eq_some_iff] at h
      obtain ⟨x, hx, y', hy, h⟩ := h
      cases h
      exact skip hx hy
    | cons p r =>
      obtain ⟨j, op⟩ := p
      unfold buildR at h
      cases hb : Nat.beq i j with
      | false =>
        simp only [hb, cond_false, Option.bind_eq_some_iff] at h
        obtain ⟨x, hx, y', hy, h⟩ := h
        cases h
        exact skip hx hy
      | true =>
        have hij := Nat.eq_of_beq_eq_true hb
        subst hij
        simp only [hb, cond_true, Option.bind_eq_some_iff] at h
        obtain ⟨x, hxx, y', hy, h⟩ := h
        cases h
        obtain ⟨cx, hv, hr⟩ := toC_ok hxx (evR_ok s.glob s.fr (some c) op)
        have hcells : (a.eval op).cells = cx.toArray := by rw [hv]; exact hr.cells
        obtain ⟨cs, h1, h2⟩ := ihb (pre := pre ++ cx) hy (by rw [List.length_append, hr.length]; exact hp2)
        refine ⟨cx ++ cs, ?_, ?_⟩
        · simp only [List.map_cons, zeroCells]
          rw [fill_one (old := zeroCells c) (by rw [zeroCells_length]; exact hp1) (by rw [hcells, zeroCells_length]; simpa using hr.length) rfl, hcells]
          rw [← List.append_assoc, h1, List.append_assoc]
        · simp only [RR]
          exact ⟨c, b, cx, cs, rfl, rfl, hr, h2⟩
  | _ => intro i ps y pre h; cases ps <;> simp [buildR] at h

theorem fill_step {place : Nat → Option (Nat × Nat)} {arr c : Array Value} {i : Nat} {u : Value} {rest : List (Nat × Value)} (h : Instr.fill place arr ((i, u) :: rest) = some c) :
    ∃ off pre old post, place i = some (off, old.length) ∧ u.cells.size = old.length ∧ pre.length = off ∧ arr = (pre ++ (old ++ post)).toArray ∧ Instr.fill place (pre ++ (u.cells.toList ++ post)).toArray rest = some c := by
  have h0 := h
  unfold Instr.fill at h
  split at h
  · cases h
  · rename_i off size hp
    split at h
    · cases h
    · rename_i hc
      simp only [ne_eq, Bool.or_eq_true, decide_eq_true_eq, not_or, Classical.not_not, Nat.not_lt, gt_iff_lt] at hc
      have e1 : (arr.toList.take off).length = off := by simp; omega
      have e2 : ((arr.toList.drop off).take size).length = size := by simp; omega
      have e3 : arr = (arr.toList.take off ++ ((arr.toList.drop off).take size ++ (arr.toList.drop off).drop size)).toArray := by
        rw [List.take_append_drop, List.take_append_drop, Array.toArray_toList]
      refine ⟨off, arr.toList.take off, (arr.toList.drop off).take size, (arr.toList.drop off).drop size, by rw [e2]; exact hp, by rw [e2]; exact hc.1, e1, e3, ?_⟩
      rw [← fill_one (i := i) (old := (arr.toList.drop off).take size) (by rw [e2]; exact hp) (by rw [e2]; exact hc.1) e1, ← e3]
      exact h0
theorem fill_swap {place : Nat → Option (Nat × Nat)} {arr c : Array Value} {i j : Nat} {u v : Value} {r : List (Nat × Value)} (hd : ∀ oi si oj sj, place i = some (oi, si) → place j = some (oj, sj) → oi + si ≤ oj ∨ oj + sj ≤ oi)
    (h : Instr.fill place arr ((i, u) :: (j, v) :: r) = some c) : Instr.fill place arr ((j, v) :: (i, u) :: r) = some c := by
  obtain ⟨o1, pre1, old1, post1, p1, s1, l1, e0, hA⟩ := fill_step h
  clear h
  subst e0
  obtain ⟨o2, pre2, old2, post2, p2, s2, l2, e, h⟩ := fill_step hA
  have e' : pre1 ++ (u.cells.toList ++ post1) = pre2 ++ (old2 ++ post2) := by simpa using e
  have su : u.cells.toList.length = old1.length := by simpa using s1
  rcases hd _ _ _ _ p1 p2 with hlt | hlt
  · rw [← List.append_assoc] at e'
    rcases List.append_eq_append_iff.1 e' with ⟨mid, g1, g2⟩ | ⟨mid, g1, g2⟩
    · subst g1
      subst g2
      rw [show pre1 ++ (old1 ++ (mid ++ (old2 ++ post2))) = (pre1 ++ old1 ++ mid) ++ (old2 ++ post2) by simp]
      rw [fill_one p2 s2 (by simp only [List.length_append] at l2 ⊢; omega)]
      rw [show (pre1 ++ old1 ++ mid) ++ (v.cells.toList ++ post2) = pre1 ++ (old1 ++ (mid ++ (v.cells.toList ++ post2))) by simp]
      rw [fill_one p1 s1 l1]
      rw [show pre1 ++ (u.cells.toList ++ (mid ++ (v.cells.toList ++ post2))) = (pre1 ++ u.cells.toList ++ mid) ++ (v.cells.toList ++ post2) by simp]
      exact h
    · have hl := congrArg List.length g1
      simp only [List.length_append] at hl
      have : mid = [] := List.eq_nil_of_length_eq_zero (by omega)
      subst this
      simp only [List.append_nil, List.nil_append] at g1 g2
      subst g1
      subst g2
      rw [show pre1 ++ (old1 ++ (old2 ++ post2)) = (pre1 ++ old1) ++ (old2 ++ post2) by simp]
      rw [fill_one p2 s2 (by simp only [List.length_append] at l2 ⊢; omega)]
      rw [show (pre1 ++ old1) ++ (v.cells.toList ++ post2) = pre1 ++ (old1 ++ (v.cells.toList ++ post2)) by simp]
      rw [fill_one p1 s1 l1]
      rw [show pre1 ++ (u.cells.toList ++ (v.cells.toList ++ post2)) = (pre1 ++ u.cells.toList) ++ (v.cells.toList ++ post2) by simp]
      exact h
  · have e2 : (pre2 ++ old2) ++ post2 = pre1 ++ (u.cells.toList ++ post1) := by rw [e']; simp
    rcases List.append_eq_append_iff.1 e2 with ⟨mid, g1, g2⟩ | ⟨mid, g1, g2⟩
    · subst g1
      subst g2
      rw [show (pre2 ++ old2 ++ mid) ++ (old1 ++ post1) = pre2 ++ (old2 ++ (mid ++ (old1 ++ post1))) by simp]
      rw [fill_one p2 s2 l2]
      rw [show pre2 ++ (v.cells.toList ++ (mid ++ (old1 ++ post1))) = (pre2 ++ v.cells.toList ++ mid) ++ (old1 ++ post1) by simp]
      have sv : v.cells.toList.length = old2.length := by simpa using s2
      rw [fill_one p1 s1 (by simp only [List.length_append] at l1 ⊢; omega)]
      rw [show (pre2 ++ v.cells.toList ++ mid) ++ (u.cells.toList ++ post1) = pre2 ++ (v.cells.toList ++ (mid ++ (u.cells.toList ++ post1))) by simp]
      exact h
    · have hl := congrArg List.length g1
      simp only [List.length_append] at hl
      have : mid = [] := List.eq_nil_of_length_eq_zero (by omega)
      subst this
      simp only [List.append_nil, List.nil_append] at g1 g2
      subst g1
      rw [← g2] at h
      rw [show (pre2 ++ old2) ++ (old1 ++ post1) = pre2 ++ (old2 ++ (old1 ++ post1)) by simp]
      rw [fill_one p2 s2 l2]
      rw [show pre2 ++ (v.cells.toList ++ (old1 ++ post1)) = (pre2 ++ v.cells.toList) ++ (old1 ++ post1) by simp]
      have sv : v.cells.toList.length = old2.length := by simpa using s2
      rw [fill_one p1 s1 (by simp only [List.length_append] at l1 ⊢; omega)]
      rw [show (pre2 ++ v.cells.toList) ++ (u.cells.toList ++ post1) = pre2 ++ (v.cells.toList ++ (u.cells.toList ++ post1)) by simp]
      exact h

theorem fill_cons {place : Nat → Option (Nat × Nat)} {arr c : Array Value} {p : Nat × Value} {l l' : List (Nat × Value)} (h : Instr.fill place arr (p :: l) = some c) (hl : ∀ arr', Instr.fill place arr' l = some c → Instr.fill place arr' l' = some c) : Instr.fill place arr (p :: l') = some c := by
  obtain ⟨o, pre, old, post, h1, h2, h3, e0, h4⟩ := fill_step (i := p.1) (u := p.2) h
  subst e0
  rw [show p = (p.1, p.2) from rfl, fill_one h1 h2 h3]
  exact hl _ h4
theorem fill_insP {place : Nat → Option (Nat × Nat)} {c : Array Value} {m : Nat} (hd : ∀ i j, i < m → j < m → i ≠ j → ∀ oi si oj sj, place i = some (oi, si) → place j = some (oj, sj) → oi + si ≤ oj ∨ oj + sj ≤ oi) {p : Nat × Value} (hp : p.1 < m) :
    ∀ {l : List (Nat × Value)} {arr : Array Value}, (∀ q ∈ l, q.1 < m) → Instr.fill place arr (insP p l) = some c → Instr.fill place arr (p :: l) = some c
  | [], arr, _, h => h
  | q :: r, arr, hl, h => by
    unfold insP at h
    cases hb : Nat.ble p.1 q.1 with
    | true => rw [hb] at h; exact h
    | false =>
      rw [hb, cond_false] at h
      have hne : p.1 ≠ q.1 := fun e => by rw [e, show Nat.ble q.1 q.1 = true from Nat.ble_eq_true_of_le (Nat.le_refl _)] at hb; cases hb
      have h1 := fill_cons (l' := p :: r) h fun arr' h' => fill_insP hd hp (fun x hx => hl x (by simp [hx])) h'
      exact fill_swap (i := q.1) (j := p.1) (u := q.2) (v := p.2) (hd _ _ (hl q (by simp)) hp (Ne.symm hne)) h1
theorem mem_insP {α : Type} {p x : Nat × α} : ∀ {l : List (Nat × α)}, x ∈ insP p l ↔ x = p ∨ x ∈ l
  | [] => by simp [insP]
  | q :: r => by
    unfold insP
    cases Nat.ble p.1 q.1 with
    | true => simp
    | false => simp only [cond_false, List.mem_cons, mem_insP (l := r)]; exact ⟨fun h => by rcases h with h | h | h <;> simp [h], fun h => by rcases h with h | h | h <;> simp [h]⟩
theorem mem_sortP {α : Type} {x : Nat × α} : ∀ {l : List (Nat × α)}, x ∈ sortP l ↔ x ∈ l
  | [] => by simp [sortP]
  | p :: r => by rw [sortP, mem_insP, mem_sortP (l := r), List.mem_cons]
theorem insP_map {α γ : Type} {g : α → γ} {p : Nat × α} : ∀ {l : List (Nat × α)}, (insP p l).map (fun q => (q.1, g q.2)) = insP (p.1, g p.2) (l.map fun q => (q.1, g q.2))
  | [] => rfl
  | q :: r => by
    simp only [insP, List.map_cons]
    cases Nat.ble p.1 q.1 with
    | true => rfl
    | false => simp only [cond_false, List.map_cons, insP_map (l := r)]
theorem sortP_map {α γ : Type} {g : α → γ} : ∀ {l : List (Nat × α)}, (sortP l).map (fun q => (q.1, g q.2)) = sortP (l.map fun q => (q.1, g q.2))
  | [] => rfl
  | p :: r => by rw [sortP, insP_map, sortP_map (l := r)]; rfl
theorem fill_sortP {place : Nat → Option (Nat × Nat)} {c : Array Value} {m : Nat} (hd : ∀ i j, i < m → j < m → i ≠ j → ∀ oi si oj sj, place i = some (oi, si) → place j = some (oj, sj) → oi + si ≤ oj ∨ oj + sj ≤ oi) :
    ∀ {l : List (Nat × Value)} {arr : Array Value}, (∀ q ∈ l, q.1 < m) → Instr.fill place arr (sortP l) = some c → Instr.fill place arr l = some c
  | [], _, _, h => h
  | p :: r, arr, hl, h => fill_cons (fill_insP hd (hl p (by simp)) (fun x hx => hl x (by simp [mem_sortP.1 hx])) h) fun arr' h' => fill_sortP hd (fun x hx => hl x (by simp [hx])) h'
def cntT : Ty → Nat
  | .pair _ b => cntT b + 1
  | _ => 0
theorem buildR_idx {s : List (Nat × RV)} : ∀ {t : Ty} {i : Nat} {ps : List (Nat × Operand)} {y : RV}, buildR s t i ps = some y → ∀ p ∈ ps, p.1 < i + cntT t := by
  intro t
  induction t with
  | unit =>
    intro i ps y h p hp
    cases ps with
    | nil => cases hp
    | cons q r => simp [buildR] at h
  | pair c b iha ihb =>
    intro i ps y h p hp
    cases ps with
    | nil => cases hp
    | cons q r =>
      obtain ⟨j, op⟩ := q
      unfold buildR at h
      cases hb : Nat.beq i j with
      | false =>
        simp only [hb, cond_false, Option.bind_eq_some_iff] at h
        obtain ⟨x, hx, y', hy, h⟩ := h
        have := ihb hy p hp
        simp only [cntT]; omega
      | true =>
        simp only [hb, cond_true, Option.bind_eq_some_iff] at h
        obtain ⟨x, hx, y', hy, h⟩ := h
        rcases List.mem_cons.1 hp with rfl | hp
        · have := Nat.eq_of_beq_eq_true hb
          simp only [cntT]; omega
        · have := ihb hy p hp
          simp only [cntT]; omega
  | _ => intro i ps y h; cases ps <;> simp [buildR] at h
theorem places_low {place : Nat → Option (Nat × Nat)} : ∀ {t : Ty} {i off : Nat}, Places place i off t → ∀ k, k < cntT t → ∀ o n, place (i + k) = some (o, n) → off ≤ o
  | .pair a b, i, off, ⟨h1, h2⟩, k, hk, o, n, h => by
    cases k with
    | zero => rw [Nat.add_zero, h1] at h; cases h; exact Nat.le_refl _
    | succ k =>
      have := places_low h2 k (by simp only [cntT] at hk; omega) o n (by rw [← h]; congr 1; omega)
      omega
  | .unit, _, _, _, k, hk, _, _, _ => by simp [cntT] at hk
  | .int _, _, _, _, k, hk, _, _, _ => by simp [cntT] at hk
  | .bool, _, _, _, k, hk, _, _, _ => by simp [cntT] at hk
  | .str, _, _, _, k, hk, _, _, _ => by simp [cntT] at hk
  | .slice _, _, _, _, k, hk, _, _, _ => by simp [cntT] at hk
  | .arr _ _, _, _, _, k, hk, _, _, _ => by simp [cntT] at hk
  | .ptr _, _, _, _, k, hk, _, _, _ => by simp [cntT] at hk
  | .ifc, _, _, _, k, hk, _, _, _ => by simp [cntT] at hk
  | .mp _ _, _, _, _, k, hk, _, _, _ => by simp [cntT] at hk
  | .fn, _, _, _, k, hk, _, _, _ => by simp [cntT] at hk
  | .nes _, _, _, _, k, hk, _, _, _ => by simp [cntT] at hk
theorem places_disj {place : Nat → Option (Nat × Nat)} : ∀ {t : Ty} {i off : Nat}, Places place i off t → ∀ k1 k2, k1 < k2 → k2 < cntT t → ∀ o1 n1 o2 n2, place (i + k1) = some (o1, n1) → place (i + k2) = some (o2, n2) → o1 + n1 ≤ o2
  | .pair a b, i, off, ⟨h1, h2⟩, k1, k2, hk, hk2, o1, n1, o2, n2, g1, g2 => by
    obtain ⟨k2, rfl⟩ : ∃ k, k2 = k + 1 := ⟨k2 - 1, by omega⟩
    simp only [cntT] at hk2
    have g2' : place (i + 1 + k2) = some (o2, n2) := by rw [← g2]; congr 1; omega
    cases k1 with
    | zero =>
      rw [Nat.add_zero, h1] at g1
      cases g1
      exact places_low h2 k2 (by omega) o2 n2 g2'
    | succ k1 => exact places_disj h2 k1 k2 (by omega) (by omega) o1 n1 o2 n2 (by rw [← g1]; congr 1; omega) g2'
  | .unit, _, _, _, _, k, _, hk, _, _, _, _, _, _ => by simp [cntT] at hk
  | .int _, _, _, _, _, k, _, hk, _, _, _, _, _, _ => by simp [cntT] at hk
  | .bool, _, _, _, _, k, _, hk, _, _, _, _, _, _ => by simp [cntT] at hk
  | .str, _, _, _, _, k, _, hk, _, _, _, _, _, _ => by simp [cntT] at hk
  | .slice _, _, _, _, _, k, _, hk, _, _, _, _, _, _ => by simp [cntT] at hk
  | .arr _ _, _, _, _, _, k, _, hk, _, _, _, _, _, _ => by simp [cntT] at hk
  | .ptr _, _, _, _, _, k, _, hk, _, _, _, _, _, _ => by simp [cntT] at hk
  | .ifc, _, _, _, _, k, _, hk, _, _, _, _, _, _ => by simp [cntT] at hk
  | .mp _ _, _, _, _, _, k, _, hk, _, _, _, _, _, _ => by simp [cntT] at hk
  | .fn, _, _, _, _, k, _, hk, _, _, _, _, _, _ => by simp [cntT] at hk
  | .nes _, _, _, _, _, k, _, hk, _, _, _, _, _, _ => by simp [cntT] at hk

theorem build_sound2 (hE : Env2Ok P E) (s : Sm w0 M0 N M β τ st a as w) (hd : ∀ d, o.dst = some d → d < N) {T : TypeId} {parts : Array (Nat × Operand)} (hop : o.op = .build T parts) (h : opP E o st id (fun rv ob => some (rv, ob)) = some (rv, ob)) : Gives P Q w0 M0 N o a as w st id rv ob := by
  simp only [opP, hop] at h
  obtain ⟨ty, hty, h⟩ := Option.bind_eq_some_iff.1 h
  cases hv : (allVal st.s (slotsOf o) && !(agO E o)) with
  | true =>
    simp only [hv, cond_true] at h
    exact gives_sh hE s hd h
  | false =>
  simp only [hv, cond_false] at h
  have hT := hE.tab _ _ hty
  obtain ⟨it, hit, hsz, hzero, _⟩ := hT.info
  have he : execOp a.eval o = (do pure (Next.value (← Instr.build T (parts.map fun (i, x) => (i, a.eval x))))) := by simp only [execOp, hop]
  have hparts : (parts.map fun (i, x) => (i, a.eval x)).toList = parts.toList.map fun p => (p.1, a.eval p.2) := by simp
  have struct : ∀ {fs : Array Field}, P.underlying T = some (.struct fs) → okU.okFs E.tab fs.toList 0 ty = true → ty.isAgg = true → ((buildR st.s ty 0 (sortP parts.toList)).bind fun r => some (RV.agg ty r, (none : Option Ob))) = some (rv, ob) → Gives P Q w0 M0 N o a as w st id rv ob := by
    intro fs hu hfs hag h
    obtain ⟨y, hy, h⟩ := Option.bind_eq_some_iff.1 h
    cases h
    obtain ⟨places, hp1, hp2⟩ := okFs_places hE.tab (pre := []) hfs rfl
    obtain ⟨cs, h1, h2⟩ := buildR_fill s (place := (places.toArray[·]?)) (pre := []) hy (by simpa using hp2)
    rw [sortP_map] at h1
    replace h1 := fill_sortP (m := cntT ty) (fun i j hi hj hne oi si oj sj g1 g2 => by
      have hpl : Places (places.toArray[·]?) 0 0 ty := by simpa using hp2
      rcases Nat.lt_or_gt_of_ne hne with hij | hij
      · exact .inl (places_disj hpl i j hij hj oi si oj sj (by rw [Nat.zero_add]; exact g1) (by rw [Nat.zero_add]; exact g2))
      · exact .inr (places_disj hpl j i hij hi oj sj oi si (by rw [Nat.zero_add]; exact g2) (by rw [Nat.zero_add]; exact g1))) (fun q hq => by
      obtain ⟨p, hp, rfl⟩ := List.mem_map.1 hq
      have := buildR_idx hy p (mem_sortP.2 hp)
      simpa using this) h1
    refine gives_val s hd (v := .agg cs.toArray) (exec_v he (run_build w T _ cs.toArray ?_)) ?_
    · simp only [Program.built, hit, hu, hzero, hp1, hparts]
      simp only [List.nil_append] at h1
      rw [toV, if_pos hag]
      exact h1
    · unfold RR
      exact ⟨rfl, hag, cs, rfl, h2⟩
  cases ty with
  | arr n e => simp at h
  | unit => obtain ⟨fs, hu, ⟨hfs, _⟩, _⟩ := hT.unit; exact struct hu hfs rfl h
  | pair c b => obtain ⟨fs, hu, ⟨hfs, _⟩, _⟩ := hT.pair; exact struct hu hfs rfl h
  | _ =>
    exfalso
    obtain ⟨y, hy, _⟩ := Option.bind_eq_some_iff.1 h
    cases hp : sortP parts.toList <;> rw [hp] at hy <;> simp [buildR] at hy

theorem plain_any {L L' : List (Nat × Ob)} : ∀ {rv : RV} {m : Mo} {cs : List Value}, plainR rv = true → RR M w β τ L rv m cs → RR M w β τ L' rv m cs := by
  intro rv
  induction rv with
  | pair x y ihx ihy =>
    intro m cs h r
    simp only [plainR, Bool.and_eq_true] at h
    cases m with
    | sl => exact r
    | li => simp only [RR] at r ⊢; obtain ⟨u, us, e, r1, r2⟩ := r; exact ⟨u, us, e, ihx h.1 r1, ihy h.2 r2⟩
    | ce t => simp only [RR] at r ⊢; obtain ⟨ta, tb, c1, c2, e1, e2, r1, r2⟩ := r; exact ⟨ta, tb, c1, c2, e1, e2, ihx h.1 r1, ihy h.2 r2⟩
  | val v => intro m cs _ r; cases m <;> exact r
  | unit => intro m cs _ r; cases m <;> exact r
  | nil e => intro m cs _ r; cases m <;> exact r
  | _ => intro m cs h r; simp [plainR] at h
theorem frozen_any {L L' : List (Nat × Ob)} {rv : RV} {m : Mo} {cs : List Value} (h : frozenR rv = true) (r : RR M w β τ L rv m cs) : RR M w β τ L' rv m cs := by
  cases rv with
  | val v => cases m <;> exact r
  | nil e => cases m <;> exact r
  | agg t r' =>
    simp only [RR] at r ⊢
    obtain ⟨h1, h2, c, e, r⟩ := r
    exact ⟨h1, h2, c, e, plain_any h r⟩
  | _ => simp [frozenR] at h

theorem partsR_ok (s : Sm w0 M0 N M β τ st a as w) {t : Ty} : ∀ {i : Nat} {ps : List (Nat × Operand)} {ys : List t.den}, partsR t st.s i ps = some ys →
    ∃ vs : List Value, ps.map (fun p => (p.1, a.eval p.2)) = (vs.zipIdx i).map (fun x => (x.2, x.1)) ∧ vs.length = ys.length ∧ (∀ v ∈ vs, v.cells.size = t.n) ∧ Seq (Rep M w t) (vs.flatMap fun v => v.cells.toList) ys
  | i, [], ys, h => by simp [partsR] at h; subst h; exact ⟨[], by simp [Seq]⟩
  | i, (j, x) :: r, ys, h => by
    unfold partsR at h
    obtain ⟨hc, h0⟩ := bif_some h
    clear h
    simp only [Bool.and_eq_true] at hc
    have hij := Nat.eq_of_beq_eq_true hc.1
    subst hij
    have hx := evR_ok s.glob s.fr (some t) x
    obtain ⟨v, hv0, h0⟩ := Option.bind_eq_some_iff.1 h0
    obtain ⟨y, hy, h1⟩ := Option.bind_eq_some_iff.1 h0
    obtain ⟨ys', hys, h2⟩ := Option.bind_eq_some_iff.1 h1
    cases h2
    obtain rfl := TV.as_eq hy
    obtain ⟨vs, e1, e2, e3, e4⟩ := partsR_ok s hys
    obtain ⟨cs, hv, hr⟩ := peek_frozen (l := []) hc.2 hv0 (frozen_any hc.2 hx)
    have hcells : (a.eval x).cells = cs.toArray := by rw [hv]; exact toV_cells hr
    refine ⟨a.eval x :: vs, by simp [e1, List.zipIdx_cons], by simp [e2], ?_, ?_⟩
    · intro v hv'
      rcases List.mem_cons.1 hv' with rfl | hv'
      · rw [hcells]; simpa using hr.length
      · exact e3 v hv'
    · simp only [List.flatMap_cons]
      exact ⟨_, _, rfl, by rw [hcells]; exact hr, e4⟩

theorem gr_new (s : Sm w0 M0 N M β τ st a as w) (ob : Obj) : Gr M w M (w.alloc ob) := Gr.alloc s.mlt ob

theorem rowX_new (hm : ∀ b o, M b o → b < w.heap.size) {t : Ty} {xs : List t.den} {cells : Array Value} {row : List Value} {T : TypeId} {cap : Nat} (h1 : List.length xs ≤ cap) (h2 : cap ≤ maxLen) (hsz : cells.size = cap * t.n) (hs : Seq (Rep M w t) row xs)
    (hrow : ∀ i, i < row.length → cells[i]? = row[i]?) : RowX (w.heap.size ≤ ·) M (w.alloc (.cells cells T)) t xs (.slice (some ⟨w.heap.size, 0, none⟩) (List.length xs) cap) := by
  have hext : Ext M w M (w.alloc (.cells cells T)) := (Gr.alloc hm _).ext
  refine ⟨some ⟨w.heap.size, 0, none⟩, cap, row, rfl, h1, h2, (fun h => by cases h), hs.mono (fun _ _ r => r.ext hext), fun a0 ha hc => ?_⟩
  cases ha
  exact ⟨w.heap.size, cells, T, rfl, Nat.le_refl _, ⟨_, fzOk_zero, heap_alloc_new w _⟩, Nat.le_of_eq hsz.symm, hrow, fun o m => by have := hm _ _ m; omega⟩

theorem buildSlice_sound2 (hE : Env2Ok P E) (s : Sm w0 M0 N M β τ st a as w) (hd : ∀ d, o.dst = some d → d < N) (hid : lk id st.l = none) {T : TypeId} {n : Nat} {parts : Array (Nat × Operand)} (hop : o.op = .buildSlice T n parts)
    (h : opP E o st id (fun rv ob => some (rv, ob)) = some (rv, ob)) : Gives P Q w0 M0 N o a as w st id rv ob := by
  simp only [opP, hop] at h
  obtain ⟨ty, hty, h⟩ := Option.bind_eq_some_iff.1 h
  have hT := hE.tab _ _ hty
  have he : execOp a.eval o = (do pure (Next.value (← Instr.buildSlice T n (parts.map fun (i, x) => (i, a.eval x))))) := by simp only [execOp, hop]
  have hparts : (parts.map fun (i, x) => (i, a.eval x)).toList = parts.toList.map fun p => (p.1, a.eval p.2) := by simp
  cases ty with
  | slice e =>
    simp only at h
    obtain ⟨ys, hys, h⟩ := Option.bind_eq_some_iff.1 h
    obtain ⟨hc, h⟩ := bif_some h
    simp only [Bool.and_eq_true] at hc
    have hlen : List.length ys = n := Nat.eq_of_beq_eq_true hc.1
    have hn := Nat.le_of_ble_eq_true hc.2.1
    obtain ⟨e', hu, hl⟩ := hT.slice
    obtain ⟨ie, hie, hes, hez, _⟩ := (hE.tab _ _ hl).info
    obtain ⟨vs, e1, e2, e3, e4⟩ := partsR_ok s hys
    have e2' : vs.length = n := by rw [e2]; exact hlen
    have hpos := Nat.le_of_ble_eq_true hc.2.2.1
    have hsm := Nat.le_of_ble_eq_true hc.2.2.2
    have key : ∃ cells : Array Value, (Instr.buildSlice T n (parts.map fun (i, x) => (i, a.eval x))).run P w = .ok (.slice (some ⟨w.heap.size, 0, none⟩) n n) (w.alloc (.cells cells e')) ∧ cells.toList = vs.flatMap fun v => v.cells.toList := by
      by_cases hp : n * ie.size = 0
      · have hn0 : n = 0 := by
          rw [hes] at hp
          rcases Nat.mul_eq_zero.1 hp with h | h <;> omega
        have hvs : vs = [] := List.eq_nil_of_length_eq_zero (by rw [e2', hn0])
        subst hvs
        have hpz : parts = #[] := by
          have : parts.toList = [] := by simpa using e1
          exact Array.toList_eq_nil_iff.1 this
        subst hpz hn0
        exact ⟨(Array.range 0).map fun _ => default, by simp [Instr.buildSlice, run_underlying hu, sizeOf, typeInfo, hie, newRow, Instr.fill], by simp⟩
      · have hfill := Great.fill_whole (s := ie.size) (by omega) vs ((Array.range (n * ie.size)).map ((toV e (zeroCells e)).cells[· % (toV e (zeroCells e)).cells.size]!)) (by rw [hes]; exact e3) (by simp [e2'])
        exact ⟨_, run_buildSlice w T e' n _ _ ie _ hu hie hez (by rw [hes]; omega) hp (by rw [hparts, e1]; exact hfill), by simp⟩
    obtain ⟨cells, hrun, hcells⟩ := key
    have hrl : (vs.flatMap fun v => v.cells.toList).length = n * e.n := by rw [e4.length (fun _ _ r => r.length), hlen]
    have hx := rowX_new (T := e') (cap := n) s.mlt (cells := cells) (by omega) (by simp only [maxLen]; omega) (by rw [← Array.length_toList, hcells, hrl]) e4 (fun i hi => by rw [← hcells]; simp)
    rw [hlen] at hx
    cases hvl : vlO E o with
    | false =>
      rw [hvl] at h
      cases h
      exact gives_row (M' := M) s hd hid (gr_new s _) hx (exec_v he hrun)
    | true =>
      rw [hvl] at h
      cases h
      have g0 := gr_new s (.cells cells e')
      have g : Gr M w (fun b o => M b o ∨ b = w.heap.size) (w.alloc (.cells cells e')) :=
        ⟨g0.bel, fun b o m => .inl m, fun b o m => m.elim .inl fun e => .inr (by omega), fun b o m => m.elim (g0.lt b o) fun e => by subst e; simp⟩
      have hv : VOk (fun b o => M b o ∨ b = w.heap.size) (w.alloc (.cells cells e')) (.slice e) ((ys.take ys.length).drop 0) (.slice (some ⟨w.heap.size, 0, none⟩) n n) :=
        rowX_vok hx (fun b o m => .inl m) (fun b hb o => by
          simp only [wob] at hb
          split at hb
          · cases hb
          · injection hb with hb; exact .inr hb.symm) (Nat.zero_le _) (Nat.le_refl _) (subH_full hx)
      rw [List.take_length, List.drop_zero] at hv
      exact ost_run (exec_v he hrun) ⟨_, β, τ, (s.grow g).set o.dst hd ⟨_, rfl, hv⟩⟩
  | _ => simp at h

theorem convert_sound2 (hE : Env2Ok P E) (s : Sm w0 M0 N M β τ st a as w) (hd : ∀ d, o.dst = some d → d < N) (hid : lk id st.l = none) {src dst : TypeId} {x : Operand} (hop : o.op = .convert src dst x) (h : opP E o st id (fun rv ob => some (rv, ob)) = some (rv, ob))
    (ha : shOp E o st (fun rv ob => some (rv, ob)) = some (rv, ob) → Gives P Q w0 M0 N o a as w st id rv ob) : Gives P Q w0 M0 N o a as w st id rv ob := by
  simp only [opP, hop] at h
  unfold convR at h
  split at h
  · rename_i bs hdst heq
    obtain ⟨hc, h⟩ := bif_some h
    have hx := evR_ok s.glob s.fr (lk src E.tab) x
    rw [heq] at hx
    obtain ⟨u, e1, hv⟩ := hx
    have hval : a.eval x = u := by injection e1
    obtain ⟨sb, hs, hxs, l⟩ := hv.str
    have h1 := (hE.tab _ _ (tyIs_eq hc)).str
    obtain ⟨e, hu, hee⟩ := (hE.tab _ _ hdst).slice
    have hu8 := (hE.tab _ _ hee).int
    have hz := run_bytes_of_string (P := P) w src dst e sb h1 hu hu8
    have hge := grownCap_ge w sb.size 0 e
    have hcl := grownCap_le_maxLen w sb.size 0 e l
    have z1 : sb.data.size = sb.size := rfl
    have hsz : (bytesRow sb (grownCap w sb.size 0 e)).size = grownCap w sb.size 0 e := by
      simp [bytesRow]; omega
    have he : execOp a.eval o = (do pure (Next.value (← convert src dst (a.eval x)))) := by simp only [execOp, hop]
    have hxs' : bs = sb.data.toList.map (fun b => (b.toNat : Int)) := hxs
    have hlen : List.length bs = sb.size := by rw [hxs']; simp [z1]
    generalize hnr : bytesRow sb (grownCap w sb.size 0 e) = nr at hz hsz
    have g : Gr M w M (w.drew.alloc (.cells nr e (nr.size, nr.size + 1))) :=
      ⟨(Below.refl _ _).drew.alloc (Nat.le_refl _) _, fun _ _ m => m, fun _ _ m => .inl m, fun b o m => by have := s.mlt b o m; simp; omega⟩
    have hrun := exec_v (o := o) (a := a) he (by rw [hval, hs]; exact hz)
    have hrep := Seq.of_ints (M := M) (w := w.drew.alloc (.cells nr e (nr.size, nr.size + 1))) (k := .u8) (xs := bs)
      (fun y hy => by
        rw [hxs'] at hy
        obtain ⟨b, _, rfl⟩ := List.mem_map.1 hy
        have := UInt8.toNat_lt b
        simp [IntKind.min, IntKind.max, IntKind.signed, IntKind.bits]; omega)
    have hx : RowX (w.heap.size ≤ ·) M (w.drew.alloc (.cells nr e (nr.size, nr.size + 1))) (.int .u8) bs (.slice (some ⟨w.heap.size, 0, none⟩) sb.size (grownCap w sb.size 0 e)) := by
      refine ⟨some ⟨w.heap.size, 0, none⟩, grownCap w sb.size 0 e, bs.map (Value.int .u8), by rw [hlen], by rw [hlen]; exact hge, hcl, (fun h => by cases h), hrep, fun a0 ha hcap => ?_⟩
      cases ha
      refine ⟨w.heap.size, nr, e, rfl, Nat.le_refl _, ⟨_, .inr (Nat.le_refl _), heap_alloc_new w.drew _⟩, by rw [hsz]; simp [Ty.n], fun i hi => ?_, fun o m => by have := s.mlt _ _ m; omega⟩
      have hi' : i < sb.size := by rw [← hlen]; simpa using hi
      rw [← hnr]
      simp only [bytesRow]
      rw [Array.getElem?_append_left (by simp [z1]; exact hi')]
      rw [hxs']
      simp
      rfl
    cases hvl : vlO E o with
    | false =>
      rw [hvl] at h
      cases h
      exact gives_row (M' := M) s hd hid g hx hrun
    | true =>
      rw [hvl] at h
      cases h
      have g2 : Gr M w (fun b o => M b o ∨ b = w.heap.size) (w.drew.alloc (.cells nr e (nr.size, nr.size + 1))) :=
        ⟨g.bel, fun b o m => .inl m, fun b o m => m.elim .inl fun e => .inr (by omega), fun b o m => m.elim (g.lt b o) fun e => by subst e; simp⟩
      have hv2 : VOk (fun b o => M b o ∨ b = w.heap.size) (w.drew.alloc (.cells nr e (nr.size, nr.size + 1))) (.slice (.int .u8)) ((List.take (List.length bs) bs).drop 0) (.slice (some ⟨w.heap.size, 0, none⟩) sb.size (grownCap w sb.size 0 e)) :=
        rowX_vok hx (fun b o m => .inl m) (fun b hb o => by
          simp only [wob] at hb
          split at hb
          · cases hb
          · injection hb with hb; exact .inr hb.symm) (Nat.zero_le _) (Nat.le_refl _) (subH_full hx)
      rw [List.take_length, List.drop_zero] at hv2
      exact ost_run hrun ⟨_, β, τ, (s.grow g2).set o.dst hd ⟨_, rfl, hv2⟩⟩
  · exact ha h

theorem makeSlice_sound2 (hE : Env2Ok P E) (s : Sm w0 M0 N M β τ st a as w) (hd : ∀ d, o.dst = some d → d < N) (hid : lk id st.l = none) {T : TypeId} {l c : Operand} (hop : o.op = .makeSlice T l c) (h : opP E o st id (fun rv ob => some (rv, ob)) = some (rv, ob)) :
    Gives P Q w0 M0 N o a as w st id rv ob := by
  simp only [opP, hop] at h
  obtain ⟨n, hn, h⟩ := Option.bind_eq_some_iff.1 h
  obtain ⟨m, hm, h⟩ := Option.bind_eq_some_iff.1 h
  obtain ⟨ty, hty, h⟩ := Option.bind_eq_some_iff.1 h
  have hT := hE.tab _ _ hty
  have he : execOp a.eval o = (do pure (Next.value (← Instr.makeSlice T (a.eval l) (a.eval c)))) := by simp only [execOp, hop]
  obtain ⟨kl, hl, _⟩ := intR_ok hn (evR_ok s.glob s.fr _ l)
  obtain ⟨kc, hc, _⟩ := intR_ok hm (evR_ok s.glob s.fr _ c)
  cases ty with
  | slice e =>
    simp only at h
    obtain ⟨hc1, h⟩ := bif_some h
    obtain ⟨z, hz, hk⟩ := Option.bind_eq_some_iff.1 h
    rw [hE.rep] at hk
    simp only [Bool.and_eq_true, decide_eq_true_eq] at hc1
    obtain ⟨h0, hnm, hlim, hpos⟩ := hc1
    clear h
    have hpos := Nat.le_of_ble_eq_true hpos
    obtain ⟨e', hu, hle⟩ := hT.slice
    obtain ⟨ie, hie, hes, hez, hby⟩ := (hE.tab _ _ hle).info
    obtain ⟨k, rfl⟩ := Int.eq_ofNat_of_zero_le h0
    obtain ⟨j, rfl⟩ := Int.eq_ofNat_of_zero_le (Int.le_trans h0 hnm)
    have hkj : k ≤ j := by omega
    have hj : j ≤ 68719476736 := by omega
    have hzs : (toV e (zeroCells e)).cells = (zeroCells e).toArray := toV_cells (zero_rep (M := M) (w := w) hz)
    have hrun := run_make (P := P) w T e' ie _ hu hie hez kl kc (k : Int) (j : Int) h0 hnm (by
      have h1 : ie.bytes * j ≤ 2048 * 68719476736 := Nat.mul_le_mul hby hj
      have h2 : ((ie.bytes * j : Nat) : Int) ≤ 281474976710656 := by omega
      rwa [Int.natCast_mul] at h2) (by omega)
    rw [← hl, ← hc, hzs, hes] at hrun
    simp only [Int.toNat_natCast] at hrun ⊢
    have hzl := zeroCells_length e
    have hcells : (madeCells (zeroCells e).toArray (j * e.n)).toList = (List.replicate j (zeroCells e)).flatten := by
      have := made_list (zeroCells e).toArray (by simp only [List.size_toArray, hzl]; exact hpos) j
      simpa only [List.size_toArray, hzl] using this
    generalize madeCells (zeroCells e).toArray (j * e.n) = cells at hrun hcells
    have hrep : Rep M w (.arr k e) (zeroCells (.arr k e)) (List.replicate k z) := zero_rep (t := .arr k e) (by simp only [zeroD, hz, Option.bind_some])
    have hsize : cells.size = j * e.n := by rw [← Array.length_toList, hcells]; simp [hzl]
    have hx := rowX_new (T := e') (cap := j) s.mlt (cells := cells) (xs := List.replicate k z) (row := (List.replicate k (zeroCells e)).flatten) (by simpa using hkj) (by simp only [maxLen]; omega) hsize hrep.2 (fun i hi => by
      rw [← Array.getElem?_toList, hcells, show List.replicate j (zeroCells e) = List.replicate k (zeroCells e) ++ List.replicate (j - k) (zeroCells e) by rw [List.replicate_append_replicate]; congr 1; omega, List.flatten_append, List.getElem?_append_left hi])
    cases hvl : vlO E o with
    | false =>
      rw [hvl] at hk
      cases hk
      exact gives_row (M' := M) s hd hid (gr_new s _) (by simpa using hx) (exec_v he hrun)
    | true =>
      rw [hvl] at hk
      cases hk
      have g2 : Gr M w (fun b o => M b o ∨ b = w.heap.size) (w.alloc (.cells cells e')) :=
        ⟨(gr_new s _).bel, fun b o m => .inl m, fun b o m => m.elim .inl fun e => .inr (by omega), fun b o m => m.elim ((gr_new s _).lt b o) fun e => by subst e; simp⟩
      have hv2 := rowX_vok (M' := fun b o => M b o ∨ b = w.heap.size) hx (fun b o m => .inl m) (fun b hb o => by
          simp only [wob] at hb
          split at hb
          · cases hb
          · injection hb with hb; exact .inr hb.symm) (Nat.zero_le _) (Nat.le_refl _) (subH_full hx)
      rw [List.take_length, List.drop_zero] at hv2
      exact ost_run (exec_v he hrun) ⟨_, β, τ, (s.grow g2).set o.dst hd ⟨_, rfl, by simpa using hv2⟩⟩
  | _ => simp at h
end
end Go.Lift
