/- Calls by contract; all operations that change nothing that is there. -/
import Derived.Test.YtlmhokakghbciaaRiK
namespace Go.Lift
open Go.RowKit

section
variable {P : Program} {E : Env2} {Q : Exit → Act → World → Prop} {o : Oper} {w0 : World} {M0 : Bs} {N : Nat} {M M' : Own} {β : Nat → Nat} {τ : Nat → Value} {st st' : St} {a : Act} {as : List Act} {w w' : World} {id : Nat} {rv : RV} {ob : Option Ob}

def Rel2 (M : Own) (w : World) (β : Nat → Nat) (τ : Nat → Value) (L : List (Nat × Ob)) : List RV → List Value → Prop
  | [], [] => True
  | r :: rs, u :: us => RR M w β τ L r .sl [u] ∧ Rel2 M w β τ L rs us
  | _, _ => False

theorem rel2_chain {L : List (Nat × Ob)} : ∀ {rvs : List RV} {us : List Value}, Rel2 M w β τ L rvs us → RR M w β τ L (chain rvs) .li us
  | [], [], _ => rfl
  | _ :: _, u :: us, h => by simp only [chain, RR]; exact ⟨u, us, rfl, h.1, rel2_chain h.2⟩
  | [], _ :: _, h => h.elim
  | _ :: _, [], h => h.elim

theorem resRV_ok {L : List (Nat × Ob)} : ∀ {rvs : List RV} {us : List Value}, Rel2 M w β τ L rvs us → RR M w β τ L (resRV rvs) .sl [retV us]
  | [], [], _ => ⟨_, rfl⟩
  | [_], [_], h => h.1
  | r :: r' :: rs, u :: u' :: us, h => by
    have h1 : ¬ (u :: u' :: us).toArray.size = 1 := by simp
    simp only [resRV, retV, dif_neg h1, RR]
    exact ⟨trivial, _, rfl, rel2_chain h⟩
  | [], _ :: _, h => h.elim
  | _ :: _, [], h => h.elim
  | [_], _ :: _ :: _, h => h.2.elim
  | _ :: _ :: _, [_], h => h.2.elim

theorem oneOk_frozen {b0 : Nat} {t : Ty} {o : Bool} {x : t.den} {u : Value} (h : OneOk b0 M w t o x u) (ho : o = false) : VOk M w t x u := by
  subst ho
  cases t <;> exact h

theorem resL_ok {b0 : Nat} : ∀ {rs : List Ty} {os : List Bool} {r : resDen rs} {us : List Value}, EachOk b0 M w rs os r us → (os.filter (fun b => b)).length ≤ 1 →
    ((resL id rs os r).2 = none ∧ ∀ β τ L, Rel2 M w β τ L (resL id rs os r).1 us) ∨
    ∃ e xs u0, (resL id rs os r).2 = some (.row e xs) ∧ RowX (b0 ≤ ·) M w e xs u0 ∧ ∀ β τ L, lk id L = some (.row e xs) → τ id = u0 → Rel2 M w β τ L (resL id rs os r).1 us
  | [], os, r, us, h, _ => by
    simp only [EachOk] at h
    subst h
    exact .inl ⟨rfl, fun _ _ _ => trivial⟩
  | [t], os, r, us, h, _ => by
    obtain ⟨u, rfl, h⟩ := h
    have frozen : os.headD false = false → ((resL id [t] os r).2 = none ∧ ∀ β τ L, Rel2 M w β τ L (resL id [t] os r).1 [u]) := by
      intro ho
      have hv := oneOk_frozen h ho
      cases os with
      | nil => cases t <;> exact ⟨rfl, fun β τ L => ⟨⟨u, rfl, hv⟩, trivial⟩⟩
      | cons o os =>
        simp at ho
        subst ho
        cases t <;> exact ⟨rfl, fun β τ L => ⟨⟨u, rfl, hv⟩, trivial⟩⟩
    cases os with
    | nil => exact .inl (frozen rfl)
    | cons o os =>
      cases o with
      | false => exact .inl (frozen rfl)
      | true =>
        cases t with
        | slice e =>
          have hx : RowX (b0 ≤ ·) M w e r u := h
          refine .inr ⟨e, r, u, rfl, hx, fun β τ L h1 h2 => ⟨?_, trivial⟩⟩
          simp only [RR]
          obtain ⟨a, cap, row, rfl, _⟩ := hx
          exact ⟨rfl, _, e, r, rfl, rfl, h1, h2.symm⟩
        | _ => exact .inl ⟨rfl, fun β τ L => ⟨⟨u, rfl, h⟩, trivial⟩⟩
  | t :: t' :: ts, os, r, us, h, hc => by
    obtain ⟨u, us', rfl, h1, h2⟩ := h
    have htail : (os.tail.filter (fun b => b)).length ≤ 1 := by
      cases os with
      | nil => simp
      | cons o os => cases o <;> simp only [List.tail_cons, List.filter_cons, Bool.false_eq_true, if_false, if_true, List.length_cons] at hc ⊢ <;> omega
    have ih := resL_ok (os := os.tail) h2 htail
    have frozen : VOk M w t r.1 u → (resL id (t :: t' :: ts) os r = (.val ⟨t, r.1⟩ :: (resL id (t' :: ts) os.tail r.2).1, (resL id (t' :: ts) os.tail r.2).2)) →
        ((resL id (t :: t' :: ts) os r).2 = none ∧ ∀ β τ L, Rel2 M w β τ L (resL id (t :: t' :: ts) os r).1 (u :: us')) ∨
        ∃ e xs u0, (resL id (t :: t' :: ts) os r).2 = some (.row e xs) ∧ RowX (b0 ≤ ·) M w e xs u0 ∧ ∀ β τ L, lk id L = some (.row e xs) → τ id = u0 → Rel2 M w β τ L (resL id (t :: t' :: ts) os r).1 (u :: us') := by
      intro hv he
      rw [he]
      rcases ih with ⟨g1, g2⟩ | ⟨e, xs, u0, g1, g2, g3⟩
      · exact .inl ⟨g1, fun β τ L => ⟨⟨u, rfl, hv⟩, g2 β τ L⟩⟩
      · exact .inr ⟨e, xs, u0, g1, g2, fun β τ L k1 k2 => ⟨⟨u, rfl, hv⟩, g3 β τ L k1 k2⟩⟩
    cases os with
    | nil => exact frozen (oneOk_frozen h1 rfl) (by cases t <;> rfl)
    | cons o os =>
      cases o with
      | false => exact frozen (oneOk_frozen h1 rfl) (by cases t <;> rfl)
      | true =>
        cases t with
        | slice e =>
          have hx : RowX (b0 ≤ ·) M w e r.1 u := h1
          have hno : ∀ {rs : List Ty} {os : List Bool} {x : resDen rs}, (os.filter (fun b => b)).length = 0 → (resL id rs os x).2 = none := by
            intro rs
            induction rs with
            | nil => intro os x _; rfl
            | cons t1 rs ih =>
              intro os x h0
              have hd : os.headD false = false := by
                cases os with
                | nil => rfl
                | cons o os => cases o <;> simp at h0 ⊢
              have ht : (os.tail.filter (fun b => b)).length = 0 := by
                cases os with
                | nil => rfl
                | cons o os => cases o <;> simp at h0 ⊢ <;> simpa using h0
              cases rs with
              | nil =>
                cases os with
                | nil => cases t1 <;> rfl
                | cons o os => simp at hd; subst hd; cases t1 <;> rfl
              | cons t2 rs =>
                have := ih (x := x.2) ht
                cases os with
                | nil => cases t1 <;> exact this
                | cons o os => simp at hd; subst hd; cases t1 <;> exact this
          have h0 : (os.filter (fun b => b)).length = 0 := by simp at hc ⊢; simpa using hc
          have hn := hno (x := r.2) h0
          refine .inr ⟨e, r.1, u, rfl, hx, fun β τ L k1 k2 => ⟨?_, ?_⟩⟩
          · simp only [RR]
            obtain ⟨a, cap, row, rfl, _⟩ := hx
            exact ⟨rfl, _, e, r.1, rfl, rfl, k1, k2.symm⟩
          · rcases ih with ⟨g1, g2⟩ | ⟨e', xs, u0, g1, _⟩
            · exact g2 β τ L
            · simp only [List.tail_cons] at g1
              rw [hn] at g1
              cases g1
        | _ => exact frozen h1 rfl

theorem seq_flat {t : Ty} (h : t.flat = true) {M1 M2 : Own} {w1 w2 : World} : ∀ {cs : List Value} {xs : List t.den}, Seq (Rep M1 w1 t) cs xs → Seq (Rep M2 w2 t) cs xs := fun s => s.mono fun _ _ r => r.flat h

theorem eachOk_flat {M1 : Own} (hm : ∀ b o, M b o → b < w.heap.size) : ∀ {rs : List Ty} {os : List Bool} {r : resDen rs} {us : List Value}, apart rs os = true → EachOk w.heap.size M1 w' rs os r us → EachOk w.heap.size M w' rs os r us
  | [], _, _, _, _, h => h
  | [t], os, r, us, ha, ⟨u, hu, h⟩ => by
    refine ⟨u, hu, ?_⟩
    simp only [apart, Bool.and_true, Bool.or_eq_true, Bool.and_eq_true] at ha
    exact one ha h
  | t :: t' :: ts, os, r, us, ha, ⟨u, us', hu, h1, h2⟩ => by
    simp only [apart, Bool.and_eq_true] at ha
    refine ⟨u, us', hu, one (by simpa only [Bool.or_eq_true, Bool.and_eq_true] using ha.1) h1, eachOk_flat hm (rs := t' :: ts) (by simpa only [apart, Bool.and_eq_true] using ha.2) h2⟩
where
  one {t : Ty} {o : Bool} {x : t.den} {u : Value} (ha : t.flat = true ∨ o = true ∧ t.flatEl = true) (h : OneOk w.heap.size M1 w' t o x u) : OneOk w.heap.size M w' t o x u := by
    rcases ha with ha | ⟨rfl, ha⟩
    · have : VOk M1 w' t x u → VOk M w' t x u := fun ⟨cs, e, r⟩ => ⟨cs, e, r.flat ha⟩
      cases t with
      | slice e => simp [Ty.flat] at ha
      | _ => exact this h
    · cases t with
      | slice e =>
        obtain ⟨a, cap, row, h0, h1, h2, h3, h4, h5⟩ := h
        refine ⟨a, cap, row, h0, h1, h2, h3, seq_flat ha h4, fun a0 ha0 hc => ?_⟩
        obtain ⟨b, cur, T, e1, g1, g2, g3, g4, g5⟩ := h5 a0 ha0 hc
        exact ⟨b, cur, T, e1, g1, g2, g3, g4, fun o m => by have := hm _ _ m; omega⟩
      | _ => simp [Ty.flatEl] at ha

theorem argsR_pc {tab : List (TypeId × Ty)} {l : List (Nat × Ob)} {s : List (Nat × RV)} : ∀ (xs : List Operand) (ts : List TypeId), PC (fun β k => argsR (α := β) tab l s xs ts k)
  | [], [] => PC.ret _
  | x :: xs, t :: ts => by
    simp only [argsR]
    exact PC.comp (G := fun β v k => argsR tab l s xs ts fun vs => k (wkV v :: vs)) (peekK_pc 6 _) fun v => PC.comp (G := fun β vs k => k (wkV v :: vs)) (argsR_pc xs ts) fun vs => PC.ret _
  | [], _ :: _ => PC.none
  | _ :: _, [] => PC.none

theorem argsR_ok {tab : List (TypeId × Ty)} (s : Sm w0 M0 N M β τ st a as w) {M1 : Own} : ∀ {xs : List Operand} {ts : List TypeId} {vs : List TV}, (M1 = MAll M β τ st.l ∨ M1 = M ∧ allArgs tab st.s xs ts = true) → argsR tab st.l st.s xs ts some = some vs → ArgsOk M1 w vs (xs.map a.eval)
  | [], [], vs, _, h => by cases h; exact trivial
  | x :: xs, t :: ts, vs, hv, h => by
    simp only [argsR] at h
    obtain ⟨v, h1, h2⟩ := peekK_pc 6 _ _ _ _ h
    obtain ⟨vs', h3, h4⟩ := argsR_pc xs ts _ _ _ h2
    cases h4
    have hx := evR_ok s.glob s.fr (lk t tab) x
    refine ⟨?_, argsR_ok s ?_ (h3 _ some)⟩
    · rcases hv with rfl | ⟨rfl, hv⟩
      · exact wkV_ok (peekK_ok s.ob 6 (h1 _ some) hx)
      · simp only [allArgs, Bool.and_eq_true] at hv
        exact wkV_ok (peek_frozen hv.1 (h1 _ some) hx)
    · rcases hv with h | ⟨h, hv⟩
      · exact .inl h
      · simp only [allArgs, Bool.and_eq_true] at hv
        exact .inr ⟨h, hv.2⟩
  | [], _ :: _, vs, _, h => by simp [argsR] at h
  | _ :: _, [], vs, _, h => by simp [argsR] at h

theorem callP_pc {fn : Fn2} {args : List Operand} {ts : List TypeId} : PC (fun β (k : RV × Option Ob → Option β) => callP E fn args ts id st fun rv ob => k (rv, ob)) := by
  unfold callP
  exact PC.bif (PC.comp (Y := RV × Option Ob) (G := fun β vs k => (packL fn.ps vs).bind fun x => (fn.F x).bind fun r => k (resRV (resL id fn.rs fn.os r).1, (resL id fn.rs fn.os r).2)) (argsR_pc _ _) fun vs => PC.bind (X := RV × Option Ob) (g := fun β x k => (fn.F x).bind fun r => k (resRV (resL id fn.rs fn.os r).1, (resL id fn.rs fn.os r).2)) fun x => PC.bind fun r => PC.ret _) PC.none

theorem call_sound2 (hE : Env2Ok P E) (s : Sm w0 M0 N M β τ st a as w) (hd : ∀ d, o.dst = some d → d < N) (hid : lk id st.l = none) {fo : Operand} {args : Array Operand} {ts : Array TypeId} (hop : o.op = .call { callee := .value fo, args := args, argTypes := ts })
    (h : opP E o st id (fun rv ob => some (rv, ob)) = some (rv, ob)) : Gives P Q w0 M0 N o a as w st id rv ob := by
  simp only [opP, hop] at h
  have hfv := evR_ok s.glob s.fr none fo
  split at h
  rotate_left
  · cases h
  rename_i f heq
  rw [heq] at hfv
  simp only [RR] at hfv
  obtain ⟨_, us0, hfe, hcap⟩ := hfv
  subst hcap
  simp only [List.cons.injEq, and_true] at hfe
  obtain ⟨fn, hf, h⟩ := Option.bind_eq_some_iff.1 h
  unfold callP at h
  obtain ⟨hc, h⟩ := bif_some h
  obtain ⟨vs, h1, h2⟩ := argsR_pc _ _ _ _ _ h
  obtain ⟨x, hx, h2⟩ := Option.bind_eq_some_iff.1 h2
  obtain ⟨r, hr, h2⟩ := Option.bind_eq_some_iff.1 h2
  simp only [Option.some.injEq, Prod.mk.injEq] at h2
  obtain ⟨e1, e2⟩ := h2
  have hL := hE.fs f fn hf
  have hrun : (execOp a.eval o).run P w = .ok (.enter f (args.toList.map a.eval).toArray) w := by
    simp only [execOp, hop, resolve, hfe, Deferred.ofValue, Sem.run_bind, Sem.run_pure, Result.andThen_ok, invoke]
    rw [show (#[] ++ Array.map a.eval args ++ [].toArray) = (args.toList.map a.eval).toArray by simp [← Array.toList_map]]
    exact hL.enters _ w
  have fin : ∀ (M2 : Own) (w' : World) (us : List Value), Gr M w M2 w' → EachOk w.heap.size M2 w' fn.rs fn.os r us → ∀ K : Act → World → Prop, (∀ a' w', Sim2 w0 M0 N (setR (addO id ob st) o.dst rv) a' as w' → K a' w') → K (a.put o.dst (retV us)) w' := by
    intro M2 w' us g he K hK
    rcases resL_ok (id := id) he hL.one with ⟨g1, g2⟩ | ⟨e, xs, u0, g1, g2, g3⟩
    · rw [g1] at e2
      subst e2
      refine hK _ _ ⟨M2, β, τ, (s.grow g).set o.dst hd ?_⟩
      rw [← e1]
      exact resRV_ok (g2 _ _ _)
    · rw [g1] at e2
      subst e2
      refine hK _ _ ⟨_, _, _, (s.addRow hid g g2).set o.dst hd ?_⟩
      rw [← e1]
      exact resRV_ok (g3 _ _ _ (by simp [addN, lk_cons]) (by simp))
  intro K hK
  unfold Oper.wp
  rw [hrun, Oper.upon_enter]
  by_cases hv : allArgs E.tab st.s args.toList ts.toList = true
  · refine (hL.calls w M _ vs x r s.mlt s.glob (argsR_ok s (.inr ⟨rfl, hv⟩) (h1 _ some)) hx hr).mono ?_
    rintro e w' ⟨us, M2, rfl, hg, hres⟩
    exact fin M2 w' us hg hres K hK
  · have ha : apart fn.rs fn.os = true := by
      rw [Bool.or_eq_true] at hc
      exact hc.resolve_right hv
    refine (hL.calls w (MAll M β τ st.l) _ vs x r s.mall s.glob.all (argsR_ok s (.inl rfl) (h1 _ some)) hx hr).mono ?_
    rintro e w' ⟨us, M2, rfl, hg, hres⟩
    exact fin M w' us (gr_of_all s hg) (eachOk_flat s.mlt ha hres) K hK

/-! ### all of them -/
theorem nilP_pc {A : (β : Type) → (RV × Option Ob → Option β) → Option β} (hA : PC A) : PC (fun β (k : RV × Option Ob → Option β) => nilP E o st (fun rv => k (rv, none)) (A β k)) := by
  unfold nilP
  split
  · split
    · exact PC.bif (PC.ret _) PC.none
    · exact PC.bif (PC.ret _) PC.none
    · exact hA
  · split
    · split
      · exact PC.bif (PC.ret _) PC.none
      · exact hA
    · exact hA
  · split
    · rename_i e _
      exact PC.bind (X := RV × Option Ob) fun h => PC.bif (PC.bif (PC.ret _) PC.none) PC.none
    · exact hA
  · exact hA

theorem opP_pc : PC (fun β (k : RV × Option Ob → Option β) => opP E o st id fun rv ob => k (rv, ob)) := by
  cases hop : o.op with
  | move x => simp only [opP, hop]; exact PC.ret _
  | assign x => simp only [opP, hop]; exact PC.ret _
  | pick c x y =>
    simp only [opP, hop]
    split
    · exact PC.bif (PC.ret _) (PC.ret _)
    · exact PC.none
  | alloc t =>
    simp only [opP, hop]
    refine PC.bind (X := RV × Option Ob) (g := fun β ty k => match isHid ty with
      | true => k (.loc id [], some (.var ty .any))
      | false => (zeroD ty).bind fun z => k (.loc id [], some (.var ty (zeroR ty z)))) fun ty => ?_
    cases isHid ty with
    | true => exact PC.ret _
    | false => exact PC.bind fun z => PC.ret _
  | makeMap t hint =>
    cases hint with
    | some x => simp only [opP, hop]; exact nilP_pc shOp_pc
    | none =>
      simp only [opP, hop]
      refine PC.bind (X := RV × Option Ob) (g := fun β (ty : Ty) k => match ty with
        | .mp kt vt => k (.mp id, some (.mp kt vt []))
        | _ => none) fun ty => ?_
      cases ty with
      | mp kt vt => exact PC.ret _
      | _ => exact PC.none
  | lookup t m x c =>
    simp only [opP, hop, lookK]
    split
    · split
      · rename_i kt vt es _
        exact PC.bif (PC.comp (Y := RV × Option Ob) (G := fun β v k => (TV.as kt v).bind fun x => (zeroD vt).bind fun z => bif c then k (.tup (.pair (.val ⟨vt, (atK x z es).1⟩) (.pair (.val ⟨.bool, (atK x z es).2⟩) .unit)), none) else k (.val ⟨vt, (atK x z es).1⟩, none)) (peekK_pc 6 _) fun v => PC.bind fun x => PC.bind fun z => PC.bif (PC.ret _) (PC.ret _)) PC.none
      · exact PC.none
    · exact PC.none
  | box t x => simp only [opP, hop]; exact PC.bind (X := RV × Option Ob) (g := fun β ty k => (toC ty (evR (some ty) x st.s)).bind fun c => k (.loc id [], some (.var ty c))) fun ty => PC.bind fun c => PC.ret _
  | load T x =>
    simp only [opP, hop]
    split
    · split
      · rename_i ty con _
        exact partK_pc (X := RV × Option Ob) (g := fun β t rv k => bif tyIs (lk T E.tab) t then k (ofC t rv, none) else none) (fun t rv => PC.bif (PC.ret _) PC.none) ty con _
      · split
        · exact PC.bind fun x => getK_pc (X := RV × Option Ob) (g := fun β v k => bif tyIs (lk T E.tab) v.1 then k (.val v, none) else none) fun v => PC.bif (PC.ret _) PC.none
        · exact PC.none
      · exact PC.none
      · exact PC.none
      · exact PC.none
    · exact shOp_pc
  | nilCheck x =>
    simp only [opP, hop]
    split
    · exact PC.ret _
    · exact PC.ret _
    · exact shOp_pc
  | fieldAddr T x f =>
    simp only [opP, hop]
    split
    · rename_i i p _
      exact PC.bind (X := RV × Option Ob) (g := fun β ob k => (typO ob p).bind fun t => bif tyIs (lk T E.tab) t && (fieldTy t f).isSome then k (.loc i (p ++ [.fld f]), none) else none) fun ob => PC.bind fun t => PC.bif (PC.ret _) PC.none
    · exact shOp_pc
  | field T x f =>
    simp only [opP, hop]
    split
    · rename_i t r _
      exact PC.bif (partK_pc (X := RV × Option Ob) (g := fun β t' rv k => k (ofC t' rv, none)) (fun t rv => PC.ret _) t r [.fld f]) PC.none
    · exact shOp_pc
  | indexAddr T x i =>
    simp only [opP, hop]
    split
    · rename_i i' p _
      refine PC.bind (X := RV × Option Ob) (g := fun β i k => (lk i' st.l).bind fun ob => match typO ob p with
        | some (.arr n t) => bif tyIs (lk T E.tab) (.arr n t) then (bif decide (0 ≤ i) && decide (i < (n : Int)) then k (.loc i' (p ++ [.idx i]), none) else none) else none
        | _ => none) fun i => PC.bind (X := RV × Option Ob) (g := fun β ob k => match typO ob p with
        | some (.arr n t) => bif tyIs (lk T E.tab) (.arr n t) then (bif decide (0 ≤ i) && decide (i < (n : Int)) then k (.loc i' (p ++ [.idx i]), none) else none) else none
        | _ => none) fun ob => ?_
      split
      · exact PC.bif (PC.bif (PC.ret _) PC.none) PC.none
      · exact PC.none
    · rename_i i' _
      refine PC.bind (X := RV × Option Ob) (g := fun β i k => match lk i' st.l with
        | some (.row t xs) => bif tyIs (lk T E.tab) (.slice t) then (bif decide (0 ≤ i) && decide (i < (List.length xs : Int)) then k (.loc i' [.idx i], none) else none) else none
        | _ => none) fun i => ?_
      split
      · exact PC.bif (PC.bif (PC.ret _) PC.none) PC.none
      · exact PC.none
    · rename_i i' lo hi _
      refine PC.bind (X := RV × Option Ob) (g := fun β i k => match lk i' st.l with
        | some (.row t _) => bif tyIs (lk T E.tab) (.slice t) then (bif decide (0 ≤ i) && decide (i < (hi : Int) - (lo : Int)) then k (.loc i' [.idx ((lo : Int) + i)], none) else none) else none
        | _ => none) fun i => ?_
      split
      · exact PC.bif (PC.bif (PC.ret _) PC.none) PC.none
      · exact PC.none
    · exact shOp_pc
  | slice T x lo hi mx =>
    cases mx with
    | some z =>
      cases hi with
      | none => simp only [opP, hop]; exact nilP_pc shOp_pc
      | some y =>
        simp only [opP, hop]
        split
        · rename_i i' _
          split
          · rename_i t xs _
            exact PC.bif (PC.bind (X := RV × Option Ob) (g := fun β m k => bif decide (0 ≤ m) && decide (m ≤ (List.length xs : Int)) then cutN m.toNat (lo.map (evR (some (.int .i64)) · st.s)) ((some y).map (evR (some (.int .i64)) · st.s)) fun l h => k (.sub i' l h, none) else none) fun m => PC.bif (cutN_pc (X := RV × Option Ob) (g := fun β l h k => k (.sub i' l h, none)) fun l h => PC.ret _) PC.none) PC.none
          · exact PC.none
        · rename_i i' A B _
          split
          · exact PC.bif (PC.bind (X := RV × Option Ob) (g := fun β m k => bif decide (0 ≤ m) && decide (m ≤ ((B - A : Nat) : Int)) then cutN m.toNat (lo.map (evR (some (.int .i64)) · st.s)) ((some y).map (evR (some (.int .i64)) · st.s)) fun l h => k (.sub i' (A + l) (A + h), none) else none) fun m => PC.bif (cutN_pc (X := RV × Option Ob) (g := fun β l h k => k (.sub i' (A + l) (A + h), none)) fun l h => PC.ret _) PC.none) PC.none
          · exact PC.none
        · exact shOp_pc
    | none =>
      simp only [opP, hop]
      split
      · split
        · exact PC.bif (cutN_pc (X := RV × Option Ob) (g := fun β l h k => k (.sub _ l h, none)) fun l h => PC.ret _) PC.none
        · exact PC.none
      · split
        · rename_i i' A B _ _ _ _ _
          exact PC.bif (cutN_pc (X := RV × Option Ob) (g := fun β l h k => k (.sub i' (A + l) (A + h), none)) fun l h => PC.ret _) PC.none
        · exact PC.none
      · exact nilP_pc shOp_pc
  | extract x i =>
    simp only [opP, hop]
    split
    · exact PC.bind fun rv => PC.ret _
    · exact PC.none
  | makeFunc f first caps =>
    cases f with
    | func f => simp only [opP, hop]; exact PC.bif (PC.ret _) PC.none
    | _ => simp only [opP, hop]; exact nilP_pc shOp_pc
  | build t parts =>
    simp only [opP, hop]
    refine PC.bind (X := RV × Option Ob) (g := fun β (ty : Ty) k => bif allVal st.s (slotsOf o) && !(agO E o) then shOp E o st (fun rv ob => k (rv, ob)) else match ty with
      | .arr _ _ => none
      | ty => (buildR st.s ty 0 (sortP parts.toList)).bind fun r => k (.agg ty r, none)) fun ty => PC.bif shOp_pc ?_
    split
    · exact PC.none
    · exact PC.bind fun r => PC.ret _
  | buildSlice t n parts =>
    simp only [opP, hop]
    refine PC.bind (X := RV × Option Ob) (g := fun β (ty : Ty) k => match ty with
      | .slice e => (partsR e st.s 0 parts.toList).bind fun ys => bif Nat.beq ys.length n && (Nat.ble n 1000000 && (Nat.ble 1 e.n && Nat.ble (n * e.n) 1000000)) then (bif vlO E o then k (.val ⟨.slice e, ys⟩, none) else k (.row id, some (.row e ys))) else none
      | _ => none) fun ty => ?_
    split
    · exact PC.bind fun ys => PC.bif (PC.bif (PC.ret _) (PC.ret _)) PC.none
    · exact PC.none
  | convert src dst x =>
    simp only [opP, hop]
    unfold convR
    split
    · exact PC.bif (PC.bif (PC.ret _) (PC.ret _)) PC.none
    · exact shOp_pc
  | makeSlice t l c =>
    simp only [opP, hop]
    refine PC.bind (X := RV × Option Ob) (g := fun β n k => (intR (evR (some (.int .i64)) c st.s)).bind fun m => (lk t E.tab).bind fun ty => match ty with
      | .slice e => bif decide (0 ≤ n) && (decide (n ≤ m) && (decide (m ≤ 68719476736) && Nat.ble 1 e.n)) then (zeroD e).bind fun z => bif vlO E o then k (.val ⟨.slice e, E.rep e.den n.toNat z⟩, none) else k (.row id, some (.row e (E.rep e.den n.toNat z))) else none
      | _ => none) fun n => PC.bind (X := RV × Option Ob) (g := fun β m k => (lk t E.tab).bind fun ty => match ty with
      | .slice e => bif decide (0 ≤ n) && (decide (n ≤ m) && (decide (m ≤ 68719476736) && Nat.ble 1 e.n)) then (zeroD e).bind fun z => bif vlO E o then k (.val ⟨.slice e, E.rep e.den n.toNat z⟩, none) else k (.row id, some (.row e (E.rep e.den n.toNat z))) else none
      | _ => none) fun m => PC.bind (X := RV × Option Ob) (g := fun β (ty : Ty) k => match ty with
      | .slice e => bif decide (0 ≤ n) && (decide (n ≤ m) && (decide (m ≤ 68719476736) && Nat.ble 1 e.n)) then (zeroD e).bind fun z => bif vlO E o then k (.val ⟨.slice e, E.rep e.den n.toNat z⟩, none) else k (.row id, some (.row e (E.rep e.den n.toNat z))) else none
      | _ => none) fun ty => ?_
    split
    · exact PC.bif (PC.bind fun z => PC.bif (PC.ret _) (PC.ret _)) PC.none
    · exact PC.none
  | call c =>
    obtain ⟨callee, args, argTypes⟩ := c
    cases callee with
    | value f =>
      simp only [opP, hop]
      split
      · exact PC.bind (X := RV × Option Ob) (g := fun β fn k => callP E fn args.toList argTypes.toList id st fun rv ob => k (rv, ob)) fun fn => callP_pc
      · exact PC.none
    | _ => simp only [opP, hop]; exact nilP_pc shOp_pc
  | _ => simp only [opP, hop]; exact nilP_pc shOp_pc

theorem opP_sound (hE : Env2Ok P E) (s : Sm w0 M0 N M β τ st a as w) (hd : ∀ d, o.dst = some d → d < N) (hid : lk id st.l = none) (h : opP E o st id (fun rv ob => some (rv, ob)) = some (rv, ob)) : Gives P Q w0 M0 N o a as w st id rv ob := by
  have hmove : ∀ (x : Operand), execOp a.eval o = pure (Next.value (a.eval x)) → some (evR (lk o.type E.tab) x st.s, (none : Option Ob)) = some (rv, ob) → Gives P Q w0 M0 N o a as w st id rv ob := by
    intro x he hav
    cases hav
    exact gives_val s hd (v := a.eval x) (by rw [he]; rfl) (evR_ok s.glob s.fr _ x)
  cases hop : o.op with
  | move x => simp only [opP, hop] at h; exact hmove x (by simp only [execOp, hop]) h
  | assign x => simp only [opP, hop] at h; exact hmove x (by simp only [execOp, hop]) h
  | pick c x y =>
    simp only [opP, hop] at h
    have hc := evR_ok s.glob s.fr (lk o.type E.tab) c
    split at h
    · rename_i b heq
      rw [heq] at hc
      obtain ⟨u, e, hv⟩ := hc
      simp only [List.cons.injEq, and_true] at e
      have hb := hv.bool
      rw [← e] at hb
      cases b with
      | true => exact hmove x (by simp only [execOp, hop, hb, asBool]; rfl) h
      | false => exact hmove y (by simp only [execOp, hop, hb, asBool]; rfl) h
    · cases h
  | alloc t => exact alloc_sound2 hE s hd hid hop h
  | box t x => exact box_sound2 s hd hid hop h
  | load T x => exact load_sound2 hE s hd hop h
  | makeMap t hint =>
    cases hint with
    | some x => simp only [opP, hop] at h; exact nilP_sound hE s hd (fun h => gives_sh hE s hd h) h
    | none => exact makeMap_sound2 s hd hid hop h
  | lookup t m x c => exact lookup_sound2 hE s hd hop h
  | nilCheck x => exact nilCheck_sound2 hE s hd hop h
  | fieldAddr T x f => exact fieldAddr_sound2 hE s hd hop h
  | field T x f => exact field_sound2 hE s hd hop h
  | indexAddr T x i => exact indexAddr_sound2 hE s hd hop h
  | slice T x lo hi mx =>
    cases mx with
    | some z =>
      cases hi with
      | some y => exact slice3_sound2 hE s hd hop h
      | none => simp only [opP, hop] at h; exact nilP_sound hE s hd (fun h => gives_sh hE s hd h) h
    | none => exact slice_sound2 hE s hd hop h
  | extract x i => exact extract_sound2 s hd hop h
  | makeFunc f first caps =>
    cases f with
    | func f => exact makeFunc_sound2 s hd hop h
    | _ => simp only [opP, hop] at h; exact nilP_sound hE s hd (fun h => gives_sh hE s hd h) h
  | build t parts => exact build_sound2 hE s hd hop h
  | buildSlice t n parts => exact buildSlice_sound2 hE s hd hid hop h
  | makeSlice t l c => exact makeSlice_sound2 hE s hd hid hop h
  | convert src dst x => exact convert_sound2 hE s hd hid hop h fun h => gives_sh hE s hd h
  | call c =>
    obtain ⟨callee, args, argTypes⟩ := c
    cases callee with
    | value f => exact call_sound2 hE s hd hid hop h
    | _ => simp only [opP, hop] at h; exact nilP_sound hE s hd (fun h => gives_sh hE s hd h) h
  | _ => simp only [opP, hop] at h; exact nilP_sound hE s hd (fun h => gives_sh hE s hd h) h
end
end Go.Lift
