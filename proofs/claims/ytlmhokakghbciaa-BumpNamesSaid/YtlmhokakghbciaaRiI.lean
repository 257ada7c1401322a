/- The wider reading is sound: operations on plain data, calls by contract. -/
import Derived.Test.YtlmhokakghbciaaRiH
import Derived.Test.YtlmhokakghbciaaLiftR
namespace Go.Lift
open Go.RowKit

/-! ### What functions promise -/
def OneOk (b0 : Nat) (M : Own) (w : World) : (t : Ty) → Bool → t.den → Value → Prop
  | .slice e, true, x, u => RowX (b0 ≤ ·) M w e x u
  | t, _, x, u => VOk M w t x u

def EachOk (b0 : Nat) (M : Own) (w : World) : (rs : List Ty) → List Bool → resDen rs → List Value → Prop
  | [], _, _, us => us = []
  | [t], os, x, us => ∃ u, us = [u] ∧ OneOk b0 M w t (os.headD false) x u
  | t :: u :: ts, os, x, us => ∃ v vs, us = v :: vs ∧ OneOk b0 M w t (os.headD false) x.1 v ∧ EachOk b0 M w (u :: ts) os.tail x.2 vs

def retV (us : List Value) : Value := if h : us.toArray.size = 1 then us.toArray[0] else .tuple us.toArray

structure Rises (P : Program) (f : FuncId) (fn : Fn2) : Prop where
  enters : ∀ (args : Array Value) (w : World), (callFunc f args).run P w = .ok (.enter f args) w
  one : (fn.os.filter (fun b => b)).length ≤ 1
  len : fn.os.length = fn.rs.length
  calls : ∀ (w : World) (M : Own) (args : List Value) (vs : List TV) x r, (∀ b o, M b o → b < w.heap.size) → GlOk M w → ArgsOk M w vs args → packL fn.ps vs = some x → fn.F x = some r →
    Calls P f args.toArray w fun e w' => ∃ us M', e = .returned (retV us) ∧ Gr M w M' w' ∧ EachOk w.heap.size M' w' fn.rs fn.os r us

/-- the frame in which a function begins -/
def enterAct (args : List Value) (m : Nat) : Act := { tmps := args.toArray ++ Array.replicate (m - args.toArray.size) undef, defers := [] }

/-- what one that calls itself promises -/
structure RecOk (P : Program) (g : FuncId) (c : RecC) : Prop where
  enters : ∀ (args : Array Value) (w : World), (callFunc g args).run P w = .ok (.enter g args) w
  calls : ∀ (w0 : World) (M0 : Bs) (M : Own) (β : Nat → Nat) (τ : Nat → Value) (as : List Act) (w : World) (args : List Value) (x : PtsD c.fp) (y : BtsD c.bp) (z : wD c.bp c.w) (r : resDen c.rs), rowsNe c.bp y = true → args.length = c.fp.length → (∀ m, args.length ≤ m → Sm w0 M0 m M β τ (startR c x y) (enterAct args m) as w) → c.F x y = some (z, r) →
    Calls P g args.toArray w fun e w' => ∃ us M' β' τ' N' a', e = .returned (retV us) ∧ Sm w0 M0 N' M' β' τ' { s := [], l := setA c.w (wOb c.bp c.w z) (mkL 0 c.bp y), k := [], b := 0 } a' [] w' ∧ ((∀ j, j < c.bp.length → β' j = β j) ∧ ∀ j t xs, lk j (mkL 0 c.bp y) = some (.row t xs) → τ' j = τ j) ∧ EachOk 0 M' w' c.rs [] r us

/-- what one that is given a slice of its callers' own promises -/
structure OwnOk (P : Program) (g : FuncId) (c : OwnC) : Prop where
  enters : ∀ (args : Array Value) (w : World), (callFunc g args).run P w = .ok (.enter g args) w
  calls : ∀ (w0 : World) (M0 : Bs) (M : Own) (β : Nat → Nat) (τ : Nat → Value) (w : World) (args : List Value) (x : List c.e.den) (y : PtsD c.fp) (z : List c.e.den), args.length = c.fp.length + 1 → (∀ m, args.length ≤ m → Sm w0 M0 m M β τ (startO c.e c.fp x y) (enterAct args m) [] w) → c.F x y = some z →
    Calls P g args.toArray w fun e w' => ∃ u M' β' τ' N' a', e = .returned u ∧ Sm w0 M0 N' M' β' τ' { s := [], l := [(0, .row c.e z)], k := [], b := 0 } a' [] w' ∧ u = τ' 0

structure Env2Ok (P : Program) (E : Env2) : Prop where
  tab : TabOk P E.tab
  fs : ∀ f fn, lk f E.fs = some fn → Rises P f fn
  rep : ∀ α n x, E.rep α n x = List.replicate n x
  mx : P.follows .mixedOrders = true
  inl : ∀ f fn lt, lk f E.inl = some (fn, lt) → P.funcs[f]? = some fn ∧ (fn.name == "runtime.NumGoroutine") = false ∧ ∀ c, fn.body = some c → dstsOk fn.ntmps c = true
  rcs : ∀ g c, lk g E.rcs = some c → RecOk P g c
  ow : ∀ g c, lk g E.ow = some c → OwnOk P g c

section
variable {P : Program} {E : Env2} {Q : Exit → Act → World → Prop} {o : Oper} {w0 : World} {M0 : Bs} {N : Nat} {M M' : Own} {β : Nat → Nat} {τ : Nat → Value} {st st' : St} {a : Act} {as : List Act} {w w' : World}

theorem Env2Ok.old (hE : Env2Ok P E) : EnvOk P E.old (fun _ => none) :=
  { tab := hE.tab, el := (fun _ _ h => by cases h), fs := fsNil, rep := hE.rep }

def OSt (P : Program) (Q : Exit → Act → World → Prop) (w0 : World) (M0 : Bs) (N : Nat) (o : Oper) (a : Act) (as : List Act) (w : World) (st' : St) : Prop :=
  ∀ K : Act → World → Prop, (∀ a' w', Sim2 w0 M0 N st' a' as w' → K a' w') → o.wp P a w K Q

theorem ost_run {v : Value} (hr : (execOp a.eval o).run P w = .ok (.value v) w') (hs : Sim2 w0 M0 N st' (a.put o.dst v) as w') : OSt P Q w0 M0 N o a as w st' := by
  intro K hK
  unfold Oper.wp
  rw [hr]
  exact hK _ _ hs

theorem Sm.glob (s : Sm w0 M0 N M β τ st a as w) : GlOk M w :=
  s.gk.ext (fun b o m => ⟨s.mex b o m, fun v hv => by rw [s.bel.cell (p := ⟨b, o, none⟩) (cell_lt hv)]; exact hv⟩) s.bel
theorem GlOk.all {M : Own} {w : World} {β : Nat → Nat} {τ : Nat → Value} {L : List (Nat × Ob)} (h : GlOk M w) : GlOk (MAll M β τ L) w := h.ext ext_all (Below.refl _ _)

theorem evR_ok {L : List (Nat × Ob)} {s : List (Nat × RV)} (hG : GlOk M w) (h : FrOk M w β τ L s a) (ty : Option Ty) (x : Operand) : RR M w β τ L (evR ty x s) .sl [a.eval x] := by
  unfold evR
  split
  · rename_i i
    cases hi : lk i s with
    | none => exact ⟨_, rfl⟩
    | some rv =>
      obtain ⟨u, hu, r⟩ := h i rv hi
      have : a.eval (.tmp i) = u := by simp [Act.eval, hu]
      rw [this]; exact r
  · rename_i v
    split
    · cases hn : isNilV v with
      | true =>
        have : v = .slice none 0 0 := by
          unfold isNilV at hn
          split at hn
          · rfl
          · cases hn
        simp only [cond_true]
        show [Act.eval a (.const v)] = [.slice none 0 0]
        rw [← this]; rfl
      | false => exact ⟨_, rfl⟩
    · split
      · rename_i t _ y hk hr
        exact ⟨v, rfl, readC_ok hk hr⟩
      · exact ⟨_, rfl⟩
    · exact ⟨_, rfl⟩
  · simp only [RR]
    exact ⟨rfl, [], rfl, rfl⟩
  · split
    · rename_i g _ v hg
      exact ⟨_, rfl, hG.val hg⟩
    · exact ⟨_, rfl⟩

theorem intR_ok {rv : RV} {i : Int} {u : Value} {L : List (Nat × Ob)} (h : intR rv = some i) (r : RR M w β τ L rv .sl [u]) : ∃ k, u = .int k i ∧ k.min ≤ i ∧ i ≤ k.max := by
  unfold intR at h
  split at h
  · cases h
    obtain ⟨u', e, hv⟩ := r
    cases e
    obtain ⟨rfl, h⟩ := hv.int
    exact ⟨_, rfl, h⟩
  · cases h

theorem shK_pc {l : List (Nat × Ob)} {s : List (Nat × RV)} : ∀ (is : List Nat), PC (fun β k => shK (α := β) l s is k)
  | [] => PC.ret _
  | i :: r => by
    simp only [shK]
    cases lk i s with
    | none => exact PC.none
    | some rv => exact PC.comp (G := fun β v k => shK l s r fun fr => k ((i, .val v .no) :: fr)) (peekK_pc 6 rv) fun v => PC.comp (G := fun β fr k => k ((i, .val v .no) :: fr)) (shK_pc r) fun fr => PC.ret _

def nilPk {α : Type} (rv : RV) (k : TV → Option α) : Option α := match rv with
  | .nil t => k ⟨.slice t, ([] : List t.den)⟩
  | _ => none

theorem nilPk_pc (rv : RV) : PC (fun β k => nilPk (α := β) rv k) := by
  unfold nilPk
  split
  · exact PC.ret _
  · exact PC.none

theorem plain_loc {α : Type} {pk pk' : RV → (TV → Option α) → Option α} (hpk : ∀ t k, pk (.nil t) k = pk' (.nil t) k) : ∀ (rv : RV) (t : Ty) (k : t.den → Option α), plainR rv = true → peekC pk rv t k = peekC pk' rv t k := by
  intro rv
  induction rv with
  | pair x y ihx ihy =>
    intro t k h
    simp only [plainR, Bool.and_eq_true] at h
    cases t with
    | pair a b =>
      simp only [peekC]
      rw [ihx a _ h.1]
      congr 1
      funext z
      exact ihy b _ h.2
    | _ => rfl
  | val v => intro t k h; rfl
  | unit => intro t k h; rfl
  | nil e => intro t k h; exact hpk _ _
  | _ => intro t k h; simp [plainR] at h

theorem peek_frozen {l : List (Nat × Ob)} {rv : RV} {v : TV} {u : Value} (hf : frozenR rv = true) (h : peekK l 6 rv some = some v) (r : RR M w β τ l rv .sl [u]) : VOk M w v.1 v.2 u := by
  cases rv with
  | val v' =>
    cases h
    obtain ⟨u', e, hv⟩ := r
    cases e
    exact hv
  | nil t =>
    cases h
    have r' : [u] = [Value.slice none 0 0] := r
    cases r'
    exact ⟨[.slice none 0 0], rfl, none, 0, [], by simp, by simp, by simp [maxLen], fun _ => rfl, by simp [Seq], .inl (by simp)⟩
  | agg t r' =>
    simp only [RR] at r
    obtain ⟨_, hag, c, e, r⟩ := r
    cases e
    simp only [frozenR] at hf
    simp only [peekK] at h
    change peekC (fun rv k => peekK l 5 rv k) r' t (fun x => some (⟨t, x⟩ : TV)) = some v at h
    rw [plain_loc (pk := fun rv k => peekK l 5 rv k) (pk' := fun rv k => nilPk rv k) (fun _ _ => rfl) r' t _ hf] at h
    obtain ⟨x, h1, h2⟩ := peekC_pc (X := t.den) (pk := fun β rv k => nilPk (α := β) rv k) nilPk_pc (rv := r') (t := t) (g := fun β x k => k x) (fun x => PC.ret x) _ (fun x => some (⟨t, x⟩ : TV)) _ h
    cases h2
    refine ⟨c, by simp [toV, hag], peekC_ok (M := M) (M' := M) (β := β) (τ := τ) (L := l) (pk := fun β rv k => nilPk (α := β) rv k) (fun b o m => ⟨m, fun _ h => h⟩) nilPk_pc (fun rv u tv hh rr => ?_) (h1 _ some) r⟩
    unfold nilPk at hh
    split at hh
    · rename_i t
      cases hh
      have r' : [u] = [Value.slice none 0 0] := rr
      cases r'
      exact ⟨[.slice none 0 0], rfl, none, 0, [], by simp, by simp, by simp [maxLen], fun _ => rfl, by simp [Seq], .inl (by simp)⟩
    · cases hh
  | _ => simp [frozenR] at hf

theorem Sm.mall (s : Sm w0 M0 N M β τ st a as w) : ∀ b o, MAll M β τ st.l b o → b < w.heap.size := by
  rintro b o (m | ⟨id, ob, hl, hb⟩)
  · exact s.mlt b o m
  · exact (s.block hl hb).1

theorem shK_ok (s : Sm w0 M0 N M β τ st a as w) {M1 : Own} : ∀ (is : List Nat) {fr : List (Nat × AV)}, (M1 = MAll M β τ st.l ∨ M1 = M ∧ allVal st.s is = true) → shK st.l st.s is some = some fr → ∀ i av, lk i fr = some av → ∃ v, av = .val v .no ∧ ∃ u, a.tmps[i]? = some u ∧ VOk M1 w v.1 v.2 u
  | [], fr, _, h, i, av, hi => by cases h; simp [lk] at hi
  | j :: r, fr, hv, h, i, av, hi => by
    simp only [shK] at h
    cases hj : lk j st.s with
    | none => simp [hj] at h
    | some rv =>
      simp only [hj] at h
      obtain ⟨v, h1, h2⟩ := peekK_pc 6 rv _ _ _ h
      obtain ⟨fr', h3, h4⟩ := shK_pc r _ _ _ h2
      cases h4
      rw [lk_cons] at hi
      split at hi
      · rename_i e
        subst e
        cases hi
        obtain ⟨u, hu, hr⟩ := s.fr i rv hj
        refine ⟨v, rfl, u, hu, ?_⟩
        rcases hv with rfl | ⟨rfl, hv⟩
        · exact peekK_ok s.ob 6 (h1 _ some) hr
        · simp only [allVal, List.all_cons, hj, Bool.and_eq_true] at hv
          exact peek_frozen hv.1 (h1 _ some) hr
      · refine shK_ok s r ?_ (h3 _ some) i av hi
        rcases hv with h | ⟨h, hv⟩
        · exact .inl h
        · simp only [allVal, List.all_cons, Bool.and_eq_true] at hv
          exact .inr ⟨h, hv.2⟩

theorem opV_pc {E : Env} {fr : Fr} : PC (fun β k => opV (α := β) E o fr k) := by
  intro β k r h
  obtain ⟨av, _, h2, h3⟩ := (opV_par (E := E) (fr := fr) (o := o)).out _ k r h
  exact ⟨av, h2, h3⟩

theorem shOp_pc : PC (fun β (k : RV × Option Ob → Option β) => shOp E o st fun rv ob => k (rv, ob)) := by
  unfold shOp
  refine PC.comp (Y := RV × Option Ob) (G := fun β fr k => opV E.old o { s := fr, l := [] } fun av => match av with
    | .val v _ => bif v.1.flat || allVal st.s (slotsOf o) then k (.val v, none) else none
    | _ => none) (shK_pc _) fun fr => ?_
  refine PC.comp (X := AV) (Y := RV × Option Ob) (G := fun β av k => match av with
    | .val v _ => bif v.1.flat || allVal st.s (slotsOf o) then k (.val v, none) else none
    | _ => none) opV_pc fun av => ?_
  cases av with
  | val v tip => exact PC.bif (PC.ret _) PC.none
  | _ => exact PC.none

theorem Sm.simX (s : Sm w0 M0 N M β τ st a as w) {M1 : Own} (hG : GlOk M1 w) (hm : ∀ b o, M1 b o → b < w.heap.size) {fr : List (Nat × AV)} (hfr : ∀ i av, lk i fr = some av → ∃ v, av = .val v .no ∧ ∃ u, a.tmps[i]? = some u ∧ VOk M1 w v.1 v.2 u) :
    SimX P w M1 N M1 (fun _ => 0) (fun _ => undef) { s := fr, l := [] } a w where
  sz := s.sz
  bel := Below.refl _ _
  mlt := hm
  mex := fun _ _ m => m
  gk := hG
  mnew := fun _ _ m => .inl m
  sl := fun i av h => by
    obtain ⟨v, rfl, u, hu, hv⟩ := hfr i av h
    exact ⟨u, hu, hv, trivial⟩
  lo := fun id e h => by simp [lk] at h
  ld := fun id id' e e' h => by simp [lk] at h
  ti := fun k e ⟨i, v, h⟩ => by obtain ⟨v', h', _⟩ := hfr _ _ h; cases h'
  tl := fun k e id x b ⟨i, v, h⟩ => by obtain ⟨v', h', _⟩ := hfr _ _ h; cases h'
  tt := fun k e k' e' ⟨i, v, h⟩ => by obtain ⟨v', h', _⟩ := hfr _ _ h; cases h'

theorem gr_of_all (s : Sm w0 M0 N M β τ st a as w) {M1 M2 : Own} (g : Gr M1 w M2 w') : Gr M w M w' :=
  ⟨g.bel, fun _ _ m => m, fun _ _ m => .inl m, fun b o m => Nat.lt_of_lt_of_le (s.mlt b o m) g.bel.size⟩

theorem shOp_sound (hE : Env2Ok P E) (s : Sm w0 M0 N M β τ st a as w) (hd : ∀ d, o.dst = some d → d < N) {rv : RV} {ob : Option Ob} (h : (shOp E o st fun rv ob => some (rv, ob)) = some (rv, ob)) : ob = none ∧ OSt P Q w0 M0 N o a as w (setR st o.dst rv) := by
  unfold shOp at h
  obtain ⟨fr, h1, h2⟩ := shK_pc _ _ _ _ h
  obtain ⟨av, h3, h4⟩ := opV_pc _ _ _ h2
  cases av with
  | val v tip =>
    simp only at h4
    obtain ⟨hc, h4⟩ := bif_some h4
    cases h4
    refine ⟨rfl, fun K hK => ?_⟩
    by_cases hv : allVal st.s (slotsOf o) = true
    · have sx := s.simX (P := P) s.glob s.mlt (shK_ok s _ (.inr ⟨rfl, hv⟩) (h1 _ some))
      refine opV_sound hE.old sx (h3 _ some) K fun u w' M2 hg hav => ?_
      exact hK _ _ ⟨M2, β, τ, (s.grow hg).set o.dst hd ⟨u, rfl, hav.1⟩⟩
    · have hf : v.1.flat = true := by
        rw [Bool.or_eq_true] at hc
        exact hc.resolve_right hv
      have sx := s.simX (P := P) s.glob.all s.mall (shK_ok s _ (.inl rfl) (h1 _ some))
      refine opV_sound hE.old sx (h3 _ some) K fun u w' M2 hg hav => ?_
      refine hK _ _ ⟨M, β, τ, (s.grow (gr_of_all s hg)).set o.dst hd ⟨u, rfl, ?_⟩⟩
      obtain ⟨⟨cs, hu, hr⟩, _⟩ := hav
      exact ⟨cs, hu, hr.flat hf⟩
  | _ => cases h4

end
end Go.Lift
