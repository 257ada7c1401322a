/- Each operation that gives a value: what it gives stands for what the typed frame says, and memory has only grown. -/
import Derived.Test.YtlmhokakghbciaaLiftG
namespace Go.Lift
open Go.RowKit

def QOp (P : Program) (Q : Exit → Act → World → Prop) (o : Oper) (a : Act) (w : World) (M : Own) (β : Nat → Nat) (τ : Nat → Value) (L : List (Nat × Bool × TV)) (av : AV) : Prop :=
  ∀ K : Act → World → Prop, (∀ v w' M', Gr M w M' w' → AOk M' w' β τ L av v → K (a.put o.dst v) w') → o.wp P a w K Q

def ArgsOk (M : Own) (w : World) : List TV → List Value → Prop
  | [], [] => True
  | v :: vs, u :: us => VOk M w v.1 v.2 u ∧ ArgsOk M w vs us
  | _, _ => False

structure Lifts (P : Program) (f : FuncId) (fn : Fn) : Prop where
  enters : ∀ (args : Array Value) (w : World), (callFunc f args).run P w = .ok (.enter f args) w
  calls : ∀ (w : World) (M : Own) (args : List Value) (vs : List TV) x r, (∀ b o, M b o → b < w.heap.size) → GlOk M w → ArgsOk M w vs args → packL fn.ps vs = some x → fn.F x = some r →
    Calls P f args.toArray w fun e w' => ∃ v M', e = .returned v ∧ Gr M w M' w' ∧ ∀ β τ L, AOk M' w' β τ L (resAV fn.rs r) v

structure EnvOk (P : Program) (E : Env) (el : TypeId → Option TypeId) : Prop where
  tab : TabOk P E.tab
  el : ∀ t e, el t = some e → P.underlying t = some (.slice e)
  fs : ∀ f fn, lk f E.fs = some fn → Lifts P f fn
  rep : ∀ α n x, E.rep α n x = List.replicate n x

section
variable {P : Program} {Q : Exit → Act → World → Prop} {o : Oper} {a : Act} {w : World} {M : Own} {β : Nat → Nat} {τ : Nat → Value} {L : List (Nat × Bool × TV)} {av : AV}

theorem q_run {v : Value} {w' : World} {M' : Own} (hr : (execOp a.eval o).run P w = .ok (.value v) w') (hg : Gr M w M' w') (hv : AOk M' w' β τ L av v) : QOp P Q o a w M β τ L av := by
  intro K hK
  unfold Oper.wp
  rw [hr]
  exact hK v w' M' hg hv
theorem q_val (hm : ∀ b o, M b o → b < w.heap.size) {v : Value} (hr : (execOp a.eval o).run P w = .ok (.value v) w) (hv : AOk M w β τ L av v) : QOp P Q o a w M β τ L av :=
  q_run hr (Gr.refl hm) hv

theorem bin_sound {tab : List (TypeId × Ty)} (htab : TabOk P tab) {op : BinOp} {t : TypeId} {x y : AV} {vx vy : Value} {xo yo : Operand} (h : binK (lk t tab) op x y some = some av)
    (hx : AOk M w β τ L x vx) (hy : AOk M w β τ L y vy) :
    ∃ v, (do eqGuard op t xo yo vx vy; binOp op t vx vy : Sem Value).run P w = .ok v w ∧ AOk M w β τ L av v := by
  cases x with
  | val tx px =>
    obtain ⟨tx, dx⟩ := tx
    cases y with
    | val ty py =>
      obtain ⟨ty, dy⟩ := ty
      have agg : (bif tx.isAgg && (tx.flat && (Nat.ble tx.dep 99 && tyIs (lk t tab) tx)) then (TV.as tx ⟨ty, dy⟩).bind fun b => (match op with | .eql => some (AV.val ⟨.bool, eqD tx dx b⟩ .no) | .neq => some (.val ⟨.bool, !(eqD tx dx b)⟩ .no) | _ => none) else none) = some av →
          ∃ v, (do eqGuard op t xo yo vx vy; binOp op t vx vy : Sem Value).run P w = .ok v w ∧ AOk M w β τ L av v := by
        intro h
        obtain ⟨hc, h⟩ := bif_some h
        simp only [Bool.and_eq_true] at hc
        obtain ⟨h1, h2, h3, h4⟩ := hc
        rw [Option.bind_eq_some_iff] at h
        obtain ⟨b, hb, h⟩ := h
        obtain ⟨rfl, hb'⟩ := Sigma.mk.inj (TV.as_eq hb)
        obtain rfl := eq_of_heq hb'
        have hT := htab _ _ (tyIs_eq h4)
        obtain ⟨cs, ex, rx⟩ := hx.1
        obtain ⟨ds, ey, ry⟩ := hy.1
        simp only at ex rx ey ry
        obtain ⟨r, hr, hiff⟩ := (equalIn_run htab (M := M) (M' := M) (u := w) (u' := w) _ h2).1 Op.maxDepth t cs ds dx dy w (by have := Nat.le_of_ble_eq_true h3; simp only [Op.maxDepth]; omega) hT rx ry
        have hr' : r = eqD ty dx dy := by rw [Bool.eq_iff_iff, hiff, eqD_iff]
        subst hr'
        rw [← ex, ← ey] at hr
        have hvx : vx = .agg cs.toArray := by rw [ex, toV, if_pos h1]
        have hvy : vy = .agg ds.toArray := by rw [ey, toV, if_pos h1]
        have hg : P.eqGuardType P.depth t = false := by
          cases ty <;> simp [Ty.isAgg] at h1
          · obtain ⟨_, _, _, h⟩ := hT.arr; exact h
          · obtain ⟨_, _, _, h⟩ := hT.unit; exact h
          · obtain ⟨_, _, _, h⟩ := hT.pair; exact h
        have hguard : ∀ op', (eqGuard op' t xo yo (.agg cs.toArray) (.agg ds.toArray)).run P w = .ok () w := by
          intro op'
          simp only [eqGuard]
          cases op' <;> simp [hg]
        subst hvx hvy
        cases op <;> simp only at h <;> (try (cases h; done))
        · cases h
          refine ⟨_, ?_, VOk.mk_bool, trivial⟩
          rw [Sem.run_bind, hguard]
          simp only [Result.andThen_ok, binOp, Sem.run_bind, Op.equal, hr, Sem.run_pure]
        · cases h
          refine ⟨_, ?_, VOk.mk_bool, trivial⟩
          rw [Sem.run_bind, hguard]
          simp only [Result.andThen_ok, binOp, Sem.run_bind, Op.equal, hr, Sem.run_pure]
      cases tx with
      | int kx =>
        cases ty with
        | int ky =>
          obtain ⟨rfl, hm⟩ := hx.1.int
          obtain ⟨rfl, hn⟩ := hy.1.int
          simp only [binK] at h
          obtain ⟨v, hv, r⟩ := iop_sound (P := P) (M := M) (w := w) (β := β) (τ := τ) (L := L) (t := t) h hm
          refine ⟨v, ?_, r⟩
          rw [Sem.run_bind]
          have : (eqGuard op t xo yo (.int kx dx) (.int ky dy)).run P w = .ok () w := by
            simp only [eqGuard]
            cases op <;> simp
          rw [this]
          exact hv
        | _ => simp [binK, Ty.isAgg] at h
      | bool =>
        cases ty with
        | bool =>
          obtain rfl := hx.1.bool
          obtain rfl := hy.1.bool
          simp only [binK] at h
          obtain ⟨hc, h⟩ := bif_some h
          have hu := (htab _ _ (tyIs_eq hc)).bool
          have hguard : ∀ op', (eqGuard op' t xo yo (.bool dx) (.bool dy)).run P w = .ok () w := by
            intro op'
            simp only [eqGuard]
            cases op' <;> simp
          cases op <;> simp only at h <;> (try (cases h; done))
          · cases h
            exact ⟨_, by rw [Sem.run_bind, hguard]; exact run_eql_bool w t dx dy hu, VOk.mk_bool, trivial⟩
          · cases h
            exact ⟨_, by rw [Sem.run_bind, hguard]; exact run_neq_bool w t dx dy hu, VOk.mk_bool, trivial⟩
        | _ => simp [binK, Ty.isAgg] at h
      | str =>
        cases ty with
        | str =>
          obtain ⟨s1, rfl, rfl, l1⟩ := hx.1.str
          obtain ⟨s2, rfl, rfl, l2⟩ := hy.1.str
          simp only [binK] at h
          have hguard : ∀ op', (eqGuard op' t xo yo (.string s1) (.string s2)).run P w = .ok () w := by
            intro op'
            simp only [eqGuard]
            cases op' <;> simp
          have heq : eqD .str (s1.data.toList.map (fun b => (b.toNat : Int))) (s2.data.toList.map (fun b => (b.toNat : Int))) = (s1.toList == s2.toList) := by
            rw [Bool.eq_iff_iff, eqD_iff, beq_iff_eq, ByteArray.toList_eq, ByteArray.toList_eq]
            constructor
            · intro e
              have hinj : ∀ p q : UInt8, (p.toNat : Int) = q.toNat → p = q := fun p q h => UInt8.toNat_inj.1 (by omega)
              revert e
              generalize s1.data.toList = l1
              generalize s2.data.toList = l2
              intro e
              induction l1 generalizing l2 with
              | nil => cases l2 with
                | nil => rfl
                | cons q l2 => simp at e
              | cons p l1 ih => cases l2 with
                | nil => simp at e
                | cons q l2 => simp only [List.map_cons, List.cons.injEq] at e; rw [hinj _ _ e.1, ih l2 e.2]
            · intro e; rw [e]
          cases op <;> simp only at h <;> (try (cases h; done))
          · obtain ⟨hc, h⟩ := bif_some h
            cases h
            have hc' := Nat.le_of_ble_eq_true hc
            simp only [List.length_map, Array.length_toList, lim] at hc'
            have z1 : s1.data.size = s1.size := rfl
            have z2 : s2.data.size = s2.size := rfl
            rw [z1, z2] at hc'
            refine ⟨.string (s1 ++ s2), ?_, ⟨_, rfl, s1 ++ s2, rfl, ?_, ?_⟩, trivial⟩
            · rw [Sem.run_bind, hguard]
              have e1 : binOp .add t (.string s1) (.string s2) = Op.stringOp .add s1 s2 := by simp [binOp]
              simp only [Result.andThen_ok, e1, Op.stringOp]
              rw [if_neg (by simp [IntKind.max, IntKind.signed, IntKind.bits]; omega)]
              rfl
            · simp [ByteArray.data_append]
            · rw [ByteArray.size_append]; simp only [maxLen]; omega
          · cases h
            refine ⟨_, ?_, VOk.mk_bool, trivial⟩
            rw [Sem.run_bind, hguard, heq]
            have e1 : binOp .eql t (.string s1) (.string s2) = Op.stringOp .eql s1 s2 := by simp [binOp]
            simp only [Result.andThen_ok, e1, Op.stringOp, Sem.run_pure]
          · cases h
            refine ⟨_, ?_, VOk.mk_bool, trivial⟩
            rw [Sem.run_bind, hguard, heq]
            have e1 : binOp .neq t (.string s1) (.string s2) = Op.stringOp .neq s1 s2 := by simp [binOp]
            simp only [Result.andThen_ok, e1, Op.stringOp, Sem.run_pure]
        | _ => simp [binK, Ty.isAgg] at h
      | arr n e => exact agg h
      | unit => exact agg h
      | pair a b => exact agg h
      | slice e => simp [binK, Ty.isAgg] at h
      | ptr e => simp [binK, Ty.isAgg] at h
      | ifc => simp [binK, Ty.isAgg] at h
      | mp _ _ => simp [binK, Ty.isAgg] at h
      | fn => simp [binK, Ty.isAgg] at h
      | nes e => simp [binK, Ty.isAgg] at h
    | _ =>
      exfalso
      cases tx <;> simp [binK] at h
  | _ => simp [binK] at h

theorem equal_nil {t : TypeId} {ms : Array (String × TypeId)} (hu : P.underlying t = some (.interface ms)) {a : Option (Option (Nat × Int))} {vx : Value} (hx : IfcOk a vx) (w : World) : (Op.equal t vx .nilIface).run P w = .ok (Option.isNone a) w := by
  simp only [Op.equal, Op.maxDepth]
  rw [Op.equalIn, Sem.run_bind, run_underlying hu]
  match a, hx with
  | none, h => subst h; rfl
  | some none, ⟨t', u, h⟩ => subst h; rfl
  | some (some p), h => subst h; rfl

theorem ifc_sound {tab : List (TypeId × Ty)} (htab : TabOk P tab) {op : BinOp} {t : TypeId} {x : AV} {vx vy : Value} {xo yo : Operand} (hn : isNilC yo = true) (hv : ∀ v, yo = .const v → vy = v) (h : ifcK (lk t tab) op x some = some av)
    (hx : AOk M w β τ L x vx) : ∃ v, (do eqGuard op t xo yo vx vy; binOp op t vx vy : Sem Value).run P w = .ok v w ∧ AOk M w β τ L av v := by
  have hyo : yo = .const .nilIface := by
    unfold isNilC at hn
    split at hn
    · rfl
    · cases hn
  subst hyo
  have := hv _ rfl
  subst this
  unfold ifcK at h
  split at h
  · rename_i a _
    obtain ⟨hc, h⟩ := bif_some h
    obtain ⟨ms, hu⟩ := (htab _ _ (tyIs_eq hc)).ifc
    have hx' := hx.1.ifc
    have hguard : ∀ op', (eqGuard op' t xo (.const .nilIface) vx .nilIface).run P w = .ok () w := by
      intro op'
      match a, hx' with
      | none, h => subst h; simp only [eqGuard]; cases op' <;> simp
      | some none, ⟨t', u, h⟩ => subst h; simp only [eqGuard]; cases op' <;> simp
      | some (some p), h => subst h; simp only [eqGuard]; cases op' <;> simp
    have heq := equal_nil (P := P) hu hx' w
    have hb : ∀ (b : Bool), ∃ v, v = Value.bool b := fun b => ⟨_, rfl⟩
    have e1 : (binOp .eql t vx .nilIface).run P w = .ok (.bool (Option.isNone a)) w := by
      have : binOp .eql t vx .nilIface = (do pure (.bool (← Op.equal t vx .nilIface)) : Sem Value) := by
        match a, hx' with
        | none, h => subst h; rfl
        | some none, ⟨t', u, h⟩ => subst h; rfl
        | some (some p), h => subst h; rfl
      rw [this, Sem.run_bind, heq]; rfl
    have e2 : (binOp .neq t vx .nilIface).run P w = .ok (.bool (!(Option.isNone a))) w := by
      have : binOp .neq t vx .nilIface = (do pure (.bool (!(← Op.equal t vx .nilIface))) : Sem Value) := by
        match a, hx' with
        | none, h => subst h; rfl
        | some none, ⟨t', u, h⟩ => subst h; rfl
        | some (some p), h => subst h; rfl
      rw [this, Sem.run_bind, heq]; rfl
    cases op <;> simp only at h <;> (try (cases h; done))
    · cases h
      exact ⟨_, by rw [Sem.run_bind, hguard]; exact e1, VOk.mk_bool, trivial⟩
    · cases h
      exact ⟨_, by rw [Sem.run_bind, hguard]; exact e2, VOk.mk_bool, trivial⟩
  · cases h

theorem equal_two {t : TypeId} {ms : Array (String × TypeId)} (hu : P.underlying t = some (.interface ms)) {a : Option (Option (Nat × Int))} {q : Nat × Int} {r : Bool} {vx : Value} (hx : IfcOk a vx) (hq : P.underlying q.1 = some (.int .i64)) (hc : (P.info? q.1).map (·.comparable) = some true)
    (he : ifcEq a q = some r) (w : World) : (Op.equal t vx (.iface q.1 (.int .i64 q.2))).run P w = .ok r w := by
  match a, hx with
  | none, h =>
    subst h
    cases he
    simp only [Op.equal, Op.maxDepth]
    rw [Op.equalIn, Sem.run_bind, run_underlying hu]
    rfl
  | some none, ⟨t', u, h⟩ => cases he
  | some (some p), h =>
    subst h
    obtain ⟨p1, p2⟩ := p
    obtain ⟨q1, q2⟩ := q
    simp only [ifcEq, Option.some.injEq] at he
    subst he
    by_cases hp : p1 = q1
    · subst hp
      cases hi : P.info? p1 with
      | none => simp [hi] at hc
      | some i =>
        have hcc : i.comparable = true := by simpa [hi] using hc
        have h : ∀ d : Nat, (Op.equalIn (d + 2) t (.iface p1 (.int .i64 p2)) (.iface p1 (.int .i64 q2))).run P w = .ok (p2 == q2) w := fun d => by
          simp [Op.equalIn, run_underlying hu, run_underlying hq, typeInfo, hi, hcc]
        have e1 : (p2 == q2) = decide (p2 = q2) := by by_cases h2 : p2 = q2 <;> simp [h2]
        simp only [Op.equal, Op.maxDepth]
        rw [h 9998, e1]
        simp
    · have : Nat.beq p1 q1 = false := by cases hb : Nat.beq p1 q1 with | false => rfl | true => exact absurd (Nat.eq_of_beq_eq_true hb) hp
      have h : ∀ d : Nat, (Op.equalIn (d + 1) t (.iface p1 (.int .i64 p2)) (.iface q1 (.int .i64 q2))).run P w = .ok false w := fun d => by
        simp [Op.equalIn, run_underlying hu, hp]
      simp only [Op.equal, Op.maxDepth]
      rw [h 9999, this]
      rfl

theorem ifcQ_some {tab : List (TypeId × Ty)} {b : Option (Option (Nat × Int))} {q : Nat × Int} (h : ifcQ tab b = some q) : b = some (some q) ∧ lk q.1 tab = some (.int .i64) := by
  match b, h with
  | none, h => cases h
  | some none, h => cases h
  | some (some q'), h =>
    obtain ⟨h1, h2⟩ := bif_some (show (bif tyIs (lk q'.1 tab) (.int .i64) then some q' else none) = some q from h)
    cases h2
    exact ⟨rfl, tyIs_eq h1⟩

theorem ifc2_sound {tab : List (TypeId × Ty)} (htab : TabOk P tab) {op : BinOp} {t : TypeId} {x y : AV} {vx vy : Value} {xo yo : Operand} {alt : Option AV} (h : ifc2K tab (lk t tab) op x y some alt = some av)
    (hx : AOk M w β τ L x vx) (hy : AOk M w β τ L y vy) (ha : alt = some av → ∃ v, (do eqGuard op t xo yo vx vy; binOp op t vx vy : Sem Value).run P w = .ok v w ∧ AOk M w β τ L av v) :
    ∃ v, (do eqGuard op t xo yo vx vy; binOp op t vx vy : Sem Value).run P w = .ok v w ∧ AOk M w β τ L av v := by
  unfold ifc2K at h
  split at h
  · rename_i a _ b _
    obtain ⟨hc, h⟩ := bif_some h
    obtain ⟨ms, hu⟩ := (htab _ _ (tyIs_eq hc)).ifc
    have hx' := hx.1.ifc
    have hy' := hy.1.ifc
    obtain ⟨q, hq, h⟩ := Option.bind_eq_some_iff.1 h
    obtain ⟨r, hr, hz⟩ := Option.bind_eq_some_iff.1 h
    obtain ⟨rfl, hq1⟩ := ifcQ_some hq
    have hT := htab _ _ hq1
    have hy2 : vy = .iface q.1 (.int .i64 q.2) := hy'
    subst hy2
    have heq := equal_two (P := P) hu hx' hT.int (hT.cmp rfl) hr w
    have hguard : ∀ op', (eqGuard op' t xo yo vx (.iface q.1 (.int .i64 q.2))).run P w = .ok () w := by
      intro op'
      match a, hx' with
      | none, h => subst h; simp only [eqGuard]; cases op' <;> simp
      | some none, ⟨t', u, h⟩ => subst h; simp only [eqGuard]; cases op' <;> simp
      | some (some p), h => subst h; simp only [eqGuard]; cases op' <;> simp
    have e1 : (binOp .eql t vx (.iface q.1 (.int .i64 q.2))).run P w = .ok (.bool r) w := by
      have : binOp .eql t vx (.iface q.1 (.int .i64 q.2)) = (do pure (.bool (← Op.equal t vx (.iface q.1 (.int .i64 q.2)))) : Sem Value) := by
        match a, hx' with
        | none, h => subst h; rfl
        | some none, ⟨t', u, h⟩ => subst h; rfl
        | some (some p), h => subst h; rfl
      rw [this, Sem.run_bind, heq]; rfl
    have e2 : (binOp .neq t vx (.iface q.1 (.int .i64 q.2))).run P w = .ok (.bool (!r)) w := by
      have : binOp .neq t vx (.iface q.1 (.int .i64 q.2)) = (do pure (.bool (!(← Op.equal t vx (.iface q.1 (.int .i64 q.2))))) : Sem Value) := by
        match a, hx' with
        | none, h => subst h; rfl
        | some none, ⟨t', u, h⟩ => subst h; rfl
        | some (some p), h => subst h; rfl
      rw [this, Sem.run_bind, heq]; rfl
    clear h
    cases op <;> simp only at hz <;> (try (cases hz; done))
    · cases hz
      exact ⟨_, by rw [Sem.run_bind, hguard]; exact e1, VOk.mk_bool, trivial⟩
    · cases hz
      exact ⟨_, by rw [Sem.run_bind, hguard]; exact e2, VOk.mk_bool, trivial⟩
  · exact ha h

theorem mkI_sound {tab : List (TypeId × Ty)} (htab : TabOk P tab) {T : TypeId} {x : AV} {vx : Value} (h : mkI T (lk T tab) x some = some av) (hx : AOk M w β τ L x vx) :
    ∃ v, (Instr.makeInterface T vx).run P w = .ok v w ∧ AOk M w β τ L av v := by
  unfold mkI at h
  split at h
  · rename_i heq
    split at h
    · rename_i n _
      cases h
      obtain ⟨rfl, _⟩ := hx.1.int
      have hu := (htab _ _ heq).int
      refine ⟨.iface T (.int .i64 n), ?_, VOk.mk_ifc rfl, trivial⟩
      simp only [Instr.makeInterface, Sem.run_bind, run_underlying hu, Result.andThen_ok, Sem.run_pure]
    · cases h
  · cases h

theorem un_sound {op : UnOp} {x : AV} {vx : Value} (h : unK op x some = some av) (hx : AOk M w β τ L x vx) : ∃ v, (Op.unary op vx).run P w = .ok v w ∧ AOk M w β τ L av v := by
  cases x with
  | val tx px =>
    obtain ⟨tx, dx⟩ := tx
    cases tx with
    | int kx =>
      obtain ⟨rfl, hm⟩ := hx.1.int
      cases op <;> simp only [unK] at h <;> (try (cases h; done))
      · cases h; exact ⟨_, rfl, VOk.mk_int (wrap_range _ _), trivial⟩
      · cases h
        refine ⟨.int kx (bits .xor kx (if kx.signed then -1 else kx.max) dx), ?_, ?_, trivial⟩
        · simp only [Op.unary, intBits_xor]; rfl
        · have := VOk.mk_int (M := M) (w := w) (k := kx) (x := bits .xor kx (if kx.signed then -1 else kx.max) dx) (bits_range _ _ _ _)
          simpa using this
    | bool =>
      obtain rfl := hx.1.bool
      cases op <;> simp [unK] at h
      subst h; exact ⟨_, rfl, VOk.mk_bool, trivial⟩
    | _ => cases op <;> simp [unK] at h
  | _ => cases op <;> simp [unK] at h

theorem len_sound {tab : List (TypeId × Ty)} (htab : TabOk P tab) {t ty : TypeId} {x : AV} {vx : Value} (h : lenK (lk t tab) x some = some av) (hx : AOk M w β τ L x vx) :
    ∃ v, (Builtin.len_ #[t] ty #[vx]).run P w = .ok v w ∧ AOk M w β τ L av v := by
  cases x with
  | val tx px =>
    obtain ⟨tx, dx⟩ := tx
    cases tx with
    | slice e =>
      simp only [lenK] at h
      obtain ⟨hc, h⟩ := bif_some h
      cases h
      obtain ⟨e', hu, _⟩ := sl_ok htab hc
      obtain ⟨a, cap, row, rfl, h1, h2, _⟩ := hx.1.slice
      refine ⟨_, by simp [Builtin.len_, run_underlying hu]; rfl, VOk.mk_int ?_, trivial⟩
      simp only [maxLen] at h2
      have h1' : List.length dx ≤ cap := h1
      simp [IntKind.min, IntKind.max, IntKind.signed, IntKind.bits]
      omega
    | str =>
      simp only [lenK] at h
      obtain ⟨hc, h⟩ := bif_some h
      cases h
      have hu := (htab _ _ (tyIs_eq hc)).str
      obtain ⟨s, rfl, rfl, l⟩ := hx.1.str
      have z1 : s.data.size = s.size := rfl
      refine ⟨_, by simp [Builtin.len_, run_underlying hu]; rfl, ?_, trivial⟩
      simp only [List.length_map, Array.length_toList, z1]
      refine VOk.mk_int ?_
      simp only [maxLen] at l
      simp [IntKind.min, IntKind.max, IntKind.signed, IntKind.bits]
      omega
    | _ => simp [lenK] at h
  | _ => simp [lenK] at h

theorem map_bytes (ns : List Int) (h : ∀ n ∈ ns, 0 ≤ n ∧ n ≤ 255) : (ns.map fun n => ((UInt8.ofNat n.toNat).toNat : Int)) = ns := by
  induction ns with
  | nil => rfl
  | cons n ns ih =>
    have hn := h n (by simp)
    rw [List.map_cons, ih (fun m hm => h m (by simp [hm]))]
    congr 1
    simp
    omega

theorem Seq.ints {k : IntKind} : ∀ {cs : List Value} {xs : List Int}, Seq (Rep M w (.int k)) cs xs → cs = xs.map (Value.int k) ∧ ∀ x ∈ xs, k.min ≤ x ∧ x ≤ k.max
  | _, [], s => by simp only [Seq] at s; subst s; simp
  | _, x :: xs, ⟨c1, c2, e, r, s⟩ => by
    obtain ⟨rfl, r⟩ := r
    obtain ⟨h1, h2⟩ := Seq.ints s
    subst e
    exact ⟨by simp [h1], by intro y hy; rcases List.mem_cons.1 hy with rfl | hy; exact r; exact h2 y hy⟩
theorem Seq.of_ints {k : IntKind} : ∀ {xs : List Int}, (∀ x ∈ xs, k.min ≤ x ∧ x ≤ k.max) → Seq (Rep M w (.int k)) (xs.map (Value.int k)) xs
  | [], _ => rfl
  | x :: xs, h => ⟨[.int k x], xs.map (Value.int k), rfl, ⟨rfl, h x (by simp)⟩, Seq.of_ints fun y hy => h y (by simp [hy])⟩

theorem enc_ascii {n : Int} (h0 : 0 ≤ n) (h1 : n < 128) : Utf8.encode n = ⟨#[UInt8.ofNat n.toNat]⟩ ∧ ((UInt8.ofNat n.toNat).toNat : Int) = n := by
  constructor
  · have hv : Utf8.valid n = true := by simp [Utf8.valid]; left; omega
    have hlt : n.toNat < 128 := by omega
    simp [Utf8.encode, hv, hlt]
  · have hlt : n.toNat < 256 := by omega
    simp [Nat.mod_eq_of_lt hlt]
    omega

theorem conv_sound {tab : List (TypeId × Ty)} (htab : TabOk P tab) (hm : ∀ b o, M b o → b < w.heap.size) {src dst : TypeId} {x : AV} {vx : Value} (h : convK (lk src tab) (lk dst tab) x some = some av) (hx : AOk M w β τ L x vx) :
    ∃ v w' M', (convert src dst vx).run P w = .ok v w' ∧ Gr M w M' w' ∧ AOk M' w' β τ L av v := by
  cases x with
  | val tx px =>
    obtain ⟨tx, dx⟩ := tx
    unfold convK at h
    split at h <;> (try (cases h; done))
    · rename_i kd ks n _ hd hx'
      cases hx'
      obtain ⟨hc, h⟩ := bif_some h
      cases h
      obtain ⟨rfl, _⟩ := hx.1.int
      have h1 := (htab _ _ (tyIs_eq hc)).int
      have h2 := (htab _ _ hd).int
      exact ⟨_, w, M, by simp [convert, run_underlying h1, run_underlying h2, Conv.intToInt], Gr.refl hm, VOk.mk_int (wrap_range _ _), trivial⟩
    · rename_i s _ hd hx'
      cases hx'
      obtain ⟨hc, h⟩ := bif_some h
      cases h
      obtain ⟨s, rfl, rfl, l⟩ := hx.1.str
      have h1 := (htab _ _ (tyIs_eq hc)).str
      have h2 := (htab _ _ hd).str
      exact ⟨.string s, w, M, by simp [convert, run_underlying h1, run_underlying h2], Gr.refl hm, ⟨[.string s], rfl, s, rfl, rfl, l⟩, trivial⟩
    · rename_i s _ hd hx'
      cases hx'
      obtain ⟨hc, h⟩ := bif_some h
      cases h
      obtain ⟨a, cap, row, rfl, h1, h2, _, hs, hrow⟩ := hx.1.slice
      obtain ⟨e, hu, he⟩ := (htab _ _ (tyIs_eq hc)).slice
      have hu8 := (htab _ _ he).int
      have hd' := (htab _ _ hd).str
      obtain ⟨rfl, hr⟩ := hs.ints
      have hr' : ∀ n ∈ s, 0 ≤ n ∧ n ≤ 255 := fun n hn => by have := hr n hn; simpa [IntKind.min, IntKind.max, IntKind.signed, IntKind.bits] using this
      rcases hrow with hrow | ⟨b, o, rfl, hrow⟩
      · have : s = [] := List.eq_nil_of_length_eq_zero hrow
        subst this
        have hz : (convert src dst (.slice a 0 cap)).run P w = .ok (.string ByteArray.empty) w := by
          cases a with
          | none => exact run_convert_bytes_nil w src e hu hu8 0 cap dst hd'
          | some a =>
            rw [run_convert_bytes_string w src dst e _ 0 cap hu hu8 hd']
            simp [Conv.bytesToString, loadCells, loadCellsFrom]
        exact ⟨_, w, M, hz, Gr.refl hm, ⟨_, rfl, ByteArray.empty, rfl, rfl, by simp [maxLen]⟩, trivial⟩
      · have hz := run_convert_bytes_arg (P := P) w src e hu hu8 b o s.length cap s rfl (fun i hi => by
          have := (hrow i (by simpa using hi)).1
          rw [this]
          simp [List.getElem?_eq_getElem hi, List.getD_eq_getElem?_getD]) dst hd'
        refine ⟨_, w, M, hz, Gr.refl hm, ⟨_, rfl, _, rfl, ?_, ?_⟩, trivial⟩
        · simp only [strOfNums, List.map_map]
          exact (map_bytes s hr').symm
        · have h1' : List.length s ≤ cap := h1
          show (strOfNums s).data.size ≤ maxLen
          simp [strOfNums]; omega
    · rename_i ks n _ hd hx'
      cases hx'
      obtain ⟨hc, h⟩ := bif_some h
      cases h
      simp only [Bool.and_eq_true, decide_eq_true_eq] at hc
      obtain ⟨hc, h0, h128⟩ := hc
      obtain ⟨rfl, _⟩ := hx.1.int
      have h1 := (htab _ _ (tyIs_eq hc)).int
      have h2 := (htab _ _ hd).str
      have he := (enc_ascii (n := n) h0 h128).1
      have hn := (enc_ascii (n := n) h0 h128).2
      refine ⟨.string (Utf8.encode n), w, M, by simp [convert, run_underlying h1, run_underlying h2, Conv.intToString], Gr.refl hm, ⟨[.string (Utf8.encode n)], rfl, _, rfl, ?_, ?_⟩, trivial⟩
      · rw [he]
        exact congrArg (fun x => [x]) hn.symm
      · rw [he]
        show (1 : Nat) ≤ maxLen
        simp [maxLen]
    · rename_i s _ hd hx'
      cases hx'
      obtain ⟨hc, h⟩ := bif_some h
      cases h
      obtain ⟨s, rfl, rfl, l⟩ := hx.1.str
      have h1 := (htab _ _ (tyIs_eq hc)).str
      obtain ⟨e, hu, he⟩ := (htab _ _ hd).slice
      have hu8 := (htab _ _ he).int
      have hz := run_bytes_of_string (P := P) w src dst e s h1 hu hu8
      have hge := grownCap_ge w s.size 0 e
      have hcl := grownCap_le_maxLen w s.size 0 e l
      have hsz : (bytesRow s (grownCap w s.size 0 e)).size = grownCap w s.size 0 e := by
        simp [bytesRow]; have z1 : s.data.size = s.size := rfl; omega
      have g : Gr M w (fun b o => M b o ∨ (b = w.heap.size ∧ o < s.size)) (w.drew.alloc (.cells (bytesRow s (grownCap w s.size 0 e)) e ((bytesRow s (grownCap w s.size 0 e)).size, (bytesRow s (grownCap w s.size 0 e)).size + 1))) :=
        ⟨(Below.refl _ _).drew.alloc (Nat.le_refl _) _, fun _ _ m => .inl m, fun b o m => m.elim .inl (fun m => .inr (by omega)), fun b o m => m.elim (fun m => by have := hm b o m; simp; omega) (fun m => by simp; omega)⟩
      have z1 : s.data.size = s.size := rfl
      refine ⟨_, _, _, hz, g, ⟨[.slice (some ⟨w.heap.size, 0, none⟩) s.size (grownCap w s.size 0 e)], rfl, some ⟨w.heap.size, 0, none⟩, grownCap w s.size 0 e, (s.data.toList.map fun b => Value.int .u8 b.toNat), ?_, ?_, hcl, (fun h => by cases h), ?_, .inr ⟨_, _, rfl, ?_⟩⟩, trivial⟩
      · simp [z1]
      · simp [z1]; exact hge
      · have := Seq.of_ints (M := fun b o => M b o ∨ (b = w.heap.size ∧ o < s.size)) (w := w.drew.alloc (.cells (bytesRow s (grownCap w s.size 0 e)) e ((bytesRow s (grownCap w s.size 0 e)).size, (bytesRow s (grownCap w s.size 0 e)).size + 1))) (k := .u8) (xs := s.data.toList.map fun b => (b.toNat : Int))
          (fun x hx => by
            obtain ⟨b, _, rfl⟩ := List.mem_map.1 hx
            have := UInt8.toNat_lt b
            simp [IntKind.min, IntKind.max, IntKind.signed, IntKind.bits]; omega)
        rw [List.map_map] at this
        exact this
      · intro i hi
        have hi' : i < s.size := by simpa [z1] using hi
        refine ⟨?_, .inr ⟨rfl, by omega⟩⟩
        have hcell : (w.drew.alloc (.cells (bytesRow s (grownCap w s.size 0 e)) e ((bytesRow s (grownCap w s.size 0 e)).size, (bytesRow s (grownCap w s.size 0 e)).size + 1))).cell? ⟨w.heap.size, 0 + i, none⟩ = (bytesRow s (grownCap w s.size 0 e))[i]? := by
          rw [Nat.zero_add]
          exact cell_of_row _ _ _ _ _ _ (heap_alloc_new w.drew _)
        rw [hcell]
        simp only [bytesRow]
        rw [Array.getElem?_append_left (by simp [z1]; exact hi')]
        simp
    all_goals (cases h)
  | _ => unfold convK at h; split at h <;> simp_all
end
end Go.Lift
