/- A function is what its typed reading says. -/
import Derived.Test.YtnhiaoabhjjegaaLiftP
import Derived.Tactics
namespace Go.Lift
open Go.RowKit

/-- the results -/
def resTV (E : Env) (fr : Fr) : List ResultVar → Option (List TV)
  | [] => some []
  | .tmp t :: r => match lk t fr.s with
    | some (.val v _) => (resTV E fr r).bind fun vs => some (v :: vs)
    | _ => none
  | .cell t T :: r => match lk t fr.s with
    | some (.loc id []) => (lk id fr.l).bind fun e => bif tyIs (lk T E.tab) e.2.1 then (resTV E fr r).bind fun vs => some (e.2 :: vs) else none
    | _ => none

def slots0 : Nat → List TV → List (Nat × AV)
  | _, [] => []
  | i, v :: r => (i, .val v .no) :: slots0 (i + 1) r

def lift (E : Env) (el : TypeId → Option TypeId) (N : Nat) (fn : Func) (ps rs : List Ty) (x : resDen ps) : Option (resDen rs) :=
  match fn.body with
  | some c => den E el N c (fun fr => (resTV E fr fn.results.toList).bind (packL rs)) (fun _ _ => none) (fun fr => (resTV E fr fn.results.toList).bind (packL rs))
      { s := slots0 0 (unpackL ps x), l := [] }
  | none => none

theorem enters_of {P : Program} {f : FuncId} {fn : Func} {c : Code} (hf : P.funcs[f]? = some fn) (hb : fn.body = some c) (hn : (fn.name == "runtime.NumGoroutine") = false) (args : Array Value) (w : World) :
    (callFunc f args).run P w = .ok (.enter f args) w := by
  have h1 : ¬ fn.name = "runtime.NumGoroutine" := by simpa using hn
  simp [callFunc, hf, hb, h1]

theorem slots0_lk : ∀ (k : Nat) (vs : List TV) (i : Nat) (av : AV), lk i (slots0 k vs) = some av → ∃ v, k ≤ i ∧ vs[i - k]? = some v ∧ av = .val v .no
  | k, [], i, av, h => by simp [slots0, lk] at h
  | k, v :: r, i, av, h => by
    simp only [slots0, lk_cons] at h
    split at h
    · rename_i e
      subst e
      cases h
      exact ⟨v, Nat.le_refl _, by simp, rfl⟩
    · obtain ⟨u, h1, h2, h3⟩ := slots0_lk (k + 1) r i av h
      refine ⟨u, by omega, ?_, h3⟩
      rw [show i - k = (i - (k + 1)) + 1 by omega]
      simpa using h2

theorem argsOk_at {M : Own} {w : World} : ∀ {vs : List TV} {us : List Value} {i : Nat} {v : TV}, ArgsOk M w vs us → vs[i]? = some v → ∃ u, us[i]? = some u ∧ VOk M w v.1 v.2 u
  | [], [], i, v, _, h => by simp at h
  | x :: xs, u :: us, 0, v, h, e => by simp at e; subst e; exact ⟨u, rfl, h.1⟩
  | x :: xs, u :: us, i + 1, v, h, e => by simpa using argsOk_at h.2 (by simpa using e)
  | [], _ :: _, _, _, h, _ => h.elim
  | _ :: _, [], _, _, h, _ => h.elim

theorem argsOk_len {M : Own} {w : World} : ∀ {vs : List TV} {us : List Value}, ArgsOk M w vs us → vs.length = us.length
  | [], [], _ => rfl
  | x :: xs, u :: us, h => by simp [argsOk_len h.2]
  | [], _ :: _, h => h.elim
  | _ :: _, [], h => h.elim

theorem unpack_pack : ∀ {ps : List Ty} {vs : List TV} {x : resDen ps}, packL ps vs = some x → unpackL ps x = vs
  | [], [], _, _ => rfl
  | [], _ :: _, _, h => by simp [packL] at h
  | [t], [], _, h => by simp [packL] at h
  | [t], [v], x, h => by simp only [packL] at h; rw [TV.as_eq h]; rfl
  | [t], _ :: _ :: _, x, h => by simp [packL] at h
  | t :: u :: ts, [], _, h => by simp [packL] at h
  | t :: u :: ts, v :: vs, x, h => by
    simp only [packL, Option.bind_eq_some_iff] at h
    obtain ⟨y, hy, r, hr, h⟩ := h
    cases h
    simp only [unpackL]
    rw [unpack_pack hr, TV.as_eq hy]

/-- what holds of every value of a type -/
def Wf : (t : Ty) → t.den → Prop
  | .int k, x => k.min ≤ x ∧ x ≤ k.max
  | .bool, _ => True
  | .str, x => List.length x ≤ maxLen ∧ ∀ b ∈ x, 0 ≤ b ∧ b ≤ 255
  | .slice e, xs => List.length xs ≤ maxLen ∧ ∀ x ∈ xs, Wf e x
  | .arr n e, xs => List.length xs = n ∧ ∀ x ∈ xs, Wf e x
  | .unit, _ => True
  | .pair a b, x => Wf a x.1 ∧ Wf b x.2
  | .ptr e, x => Wf e x
  | .ifc, _ => True
  | .mp _ _, _ => False
  | .fn, _ => False

def WfL : (ts : List Ty) → resDen ts → Prop
  | [], _ => True
  | [t], x => Wf t x
  | t :: u :: ts, x => Wf t x.1 ∧ WfL (u :: ts) x.2

theorem Seq.each {α : Type} {R : List Value → α → Prop} {Q : α → Prop} (h : ∀ cs x, R cs x → Q x) : ∀ {cs : List Value} {xs : List α}, Seq R cs xs → ∀ x ∈ xs, Q x
  | _, [], _ => by simp
  | _, x :: xs, ⟨c1, c2, _, h1, h2⟩ => by
    intro y hy
    rcases List.mem_cons.1 hy with rfl | hy
    · exact h _ _ h1
    · exact Seq.each h h2 y hy

theorem Rep.wf {M : Own} {w : World} : ∀ {t : Ty} {cs : List Value} {x : t.den}, Rep M w t cs x → Wf t x
  | .int k, _, _, h => h.2
  | .bool, _, _, _ => trivial
  | .str, _, x, ⟨s, _, hx, hs⟩ => by
    refine ⟨by rw [hx]; simpa using hs, fun b hb => ?_⟩
    rw [hx] at hb
    obtain ⟨c, _, rfl⟩ := List.mem_map.1 hb
    have := c.toNat_lt
    omega
  | .slice e, _, _, ⟨a, cap, row, _, h1, h2, _, h3, _⟩ => ⟨Nat.le_trans h1 h2, h3.each (Q := Wf e) fun _ _ r => Rep.wf r⟩
  | .arr n e, _, _, h => ⟨h.1, Seq.each (Q := Wf e) (fun _ _ r => Rep.wf r) h.2⟩
  | .unit, _, _, _ => trivial
  | .pair a b, _, _, ⟨_, _, _, h1, h2⟩ => ⟨Rep.wf h1, Rep.wf h2⟩
  | .ptr e, _, _, ⟨_, _, _, _, _, h⟩ => Rep.wf (t := e) h
  | .ifc, _, _, _ => trivial
  | .mp _ _, _, _, h => h.elim
  | .fn, _, _, h => h.elim

theorem args_wf {M : Own} {w : World} : ∀ {ps : List Ty} {vs : List TV} {us : List Value} {x : resDen ps}, packL ps vs = some x → ArgsOk M w vs us → WfL ps x
  | [], _, _, _, _, _ => trivial
  | [t], [], _, _, h, _ => by simp [packL] at h
  | [t], _ :: _ :: _, _, _, h, _ => by simp [packL] at h
  | [t], [v], [], _, _, ha => ha.elim
  | [t], [v], u :: us, x, h, ha => by
    simp only [packL] at h
    obtain rfl := TV.as_eq h
    obtain ⟨⟨cs, _, r⟩, _⟩ := ha
    exact r.wf
  | t :: u :: ts, [], _, _, h, _ => by simp [packL] at h
  | t :: u :: ts, v :: vs, [], _, _, ha => ha.elim
  | t :: u :: ts, v :: vs, a :: us, x, h, ha => by
    simp only [packL, Option.bind_eq_some_iff] at h
    obtain ⟨y, hy, r, hr, h⟩ := h
    cases h
    obtain rfl := TV.as_eq hy
    obtain ⟨⟨cs, _, q⟩, hs⟩ := ha
    exact ⟨q.wf, args_wf hr hs⟩

section
variable {P : Program} {E : Env} {el : TypeId → Option TypeId} {w0 : World} {M0 : Own} {n : Nat}

theorem fsNil : ∀ f fn, lk f ([] : List (FuncId × Fn)) = some fn → Lifts P f fn := by
  intro f fn h; simp [lk] at h
theorem fsCons {g : FuncId} {fg : Fn} {l : List (FuncId × Fn)} (hg : Lifts P g fg) (h : ∀ f fn, lk f l = some fn → Lifts P f fn) : ∀ f fn, lk f ((g, fg) :: l) = some fn → Lifts P f fn := by
  intro f fn hf
  rw [lk_cons] at hf
  split at hf
  · rename_i e; subst e; cases hf; exact hg
  · exact h f fn hf

def elB (P : Program) (l : List (TypeId × TypeId)) : Bool := l.all fun p => match P.underlying p.1 with
  | some (.slice e) => Nat.beq e p.2
  | _ => false
theorem elOk_of {l : List (TypeId × TypeId)} (h : elB P l = true) : ∀ t e, lk t l = some e → P.underlying t = some (.slice e) := by
  intro t e hl
  induction l with
  | nil => simp [lk] at hl
  | cons p r ih =>
    obtain ⟨j, x⟩ := p
    simp only [elB, List.all_cons, Bool.and_eq_true] at h
    rw [lk_cons] at hl
    split at hl
    · rename_i hj
      subst hj
      cases hl
      have := h.1
      split at this
      · rename_i heq
        rw [heq, Nat.eq_of_beq_eq_true this]
      · cases this
    · exact ih h.2 hl

theorem init_sim {M : Own} {w : World} {vs : List TV} {args : List Value} {m : Nat} (hm : ∀ b o, M b o → b < w.heap.size) (hg : GlOk M w) (ha : ArgsOk M w vs args) (hl : args.length ≤ m) :
    Sim P w M m { s := slots0 0 vs, l := [] } { tmps := args.toArray ++ Array.replicate (m - args.toArray.size) undef, defers := [] } w := by
  have nolive : ∀ k e, ¬ Live (slots0 0 vs) k e := by
    rintro k e ⟨i, v, h⟩
    obtain ⟨u, _, _, h3⟩ := slots0_lk _ _ _ _ h
    simp at h3
  refine ⟨M, fun _ => 0, fun _ => undef, { df := rfl, sz := by simp; omega, bel := Below.refl _ _, mlt := hm, mex := fun _ _ m => m, gk := hg, mnew := fun _ _ m => .inl m, sl := ?_, lo := ?_, ld := ?_, ti := ?_, tl := ?_, tt := ?_ }⟩
  · intro i av h
    obtain ⟨v, _, h2, h3⟩ := slots0_lk _ _ _ _ h
    obtain ⟨u, hu, hv⟩ := argsOk_at ha h2
    simp only [Nat.sub_zero] at hu
    have hlt := (List.getElem?_eq_some_iff.1 hu).1
    refine ⟨u, ?_, ?_⟩
    · rw [Array.getElem?_append_left (by simpa using hlt)]
      simpa using hu
    · subst h3
      exact ⟨hv, trivial⟩
  · intro id e h; simp [lk] at h
  · intro id id' e e' h; simp [lk] at h
  · intro k e h; exact (nolive k e h).elim
  · intro k e id x b h; exact (nolive k e h).elim
  · intro k e k' e' h; exact (nolive k e h).elim

def resSem (tmps : Array Value) : ResultVar → Sem Value
  | .tmp t => pure (tmps.getD t undef)
  | .cell a t => do loadVar t (← asAddr (tmps.getD a undef))

theorem loadVar_run {tab : List (TypeId × Ty)} {tid : TypeId} {t : Ty} (h : TOk P tab tid t) {M : Own} {w : World} {b o : Nat} {row : List Value} {x : t.den} (hr : ∀ i, i < row.length → w.cell? ⟨b, o + i, none⟩ = row[i]?) (r : Rep M w t row x) :
    (do loadVar tid (← asAddr (.pointer (some ⟨b, o, none⟩))) : Sem Value).run P w = .ok (toV t row) w := by
  have := load_run h hr r
  simpa only [Instr.loadAt, Instr.sureAddr, asAddr, Sem.run_bind, Sem.run_pure, Result.andThen_ok] using this

theorem results_list (hE : EnvOk P E el) {N : Nat} {M : Own} {β : Nat → Nat} {τ : Nat → Value} {fr : Fr} {a : Act} {w : World} (s : SimX P w0 M0 N M β τ fr a w) : ∀ (rs : List ResultVar) (vs : List TV), resTV E fr rs = some vs →
    ∃ us : List Value, (rs.mapM (resSem a.tmps)).run P w = .ok us w ∧ ArgsOk (fun b o => M b o ∨ ∃ id e, lk id fr.l = some e ∧ b = β id) w vs us
  | [], vs, h => by simp [resTV] at h; subst h; exact ⟨[], by simp, trivial⟩
  | .tmp t :: r, vs, h => by
    simp only [resTV] at h
    split at h
    · rename_i v tip heq
      obtain ⟨ws, hw, h⟩ := Option.bind_eq_some_iff.1 h
      cases h
      obtain ⟨us, h1, h2⟩ := results_list hE s r ws hw
      obtain ⟨u, hu, hv⟩ := s.sl _ _ heq
      refine ⟨u :: us, ?_, hv.1.ext fun b o m => ⟨.inl m, fun _ h => h⟩, h2⟩
      simp only [List.mapM_cons, resSem, Sem.run_bind, Sem.run_pure, Result.andThen_ok, h1]
      simp [Array.getD_eq_getD_getElem?, hu]
    · cases h
  | .cell t T :: r, vs, h => by
    simp only [resTV] at h
    split at h
    · rename_i id heq
      obtain ⟨e, he, h⟩ := Option.bind_eq_some_iff.1 h
      obtain ⟨hc, h⟩ := bif_some h
      obtain ⟨ws, hw, h⟩ := Option.bind_eq_some_iff.1 h
      cases h
      obtain ⟨us, h1, h2⟩ := results_list hE s r ws hw
      obtain ⟨u, hu, hv⟩ := s.sl _ _ heq
      obtain ⟨e', off, t', he', ho, hval⟩ := hv
      obtain rfl : e = e' := Option.some.inj (he.symm.trans he')
      simp only [offP, Option.some.injEq, Prod.mk.injEq] at ho
      obtain ⟨rfl, rfl⟩ := ho
      obtain ⟨row, _, hr, hcell⟩ := s.locRow (p := []) he (by simp [offP]; exact ⟨rfl, rfl⟩) (by simp [getP]; rfl)
      refine ⟨toV e.2.1 row :: us, ?_, ⟨row, rfl, hr.ext fun b o m => ⟨.inl m, fun _ h => h⟩⟩, h2⟩
      simp only [List.mapM_cons, resSem, Sem.run_bind]
      have := loadVar_run (hE.tab _ _ (tyIs_eq hc)) hcell hr
      simp only [Sem.run_bind] at this
      simp only [Array.getD_eq_getD_getElem?, hu, Option.getD_some, hval]
      rw [this]
      simp [h1]
    · cases h

theorem resAV_of {rs : List Ty} {r : resDen rs} {vs : List TV} {us : List Value} {M : Own} {w : World} {β : Nat → Nat} {τ : Nat → Value} {L : List (Nat × Bool × TV)} (hp : packL rs vs = some r) (ha : ArgsOk M w vs us) :
    AOk M w β τ L (resAV rs r) (if h : us.toArray.size = 1 then us.toArray[0] else .tuple us.toArray) := by
  have hu := unpack_pack hp
  have hlen := argsOk_len ha
  match rs, r, vs, us with
  | [], _, _, _ => trivial
  | [t], r, [v], [u] =>
    simp only [unpackL, List.cons.injEq, and_true] at hu
    subst hu
    exact ⟨ha.1, trivial⟩
  | [t], r, [], _ => simp [packL] at hp
  | [t], r, _ :: _ :: _, _ => simp [packL] at hp
  | t :: u :: ts, r, [], _ => simp [packL] at hp
  | t :: u :: ts, r, [_], _ =>
    simp only [packL, Option.bind_eq_some_iff] at hp
    obtain ⟨_, _, _, h, _⟩ := hp
    cases ts <;> simp at h
  | t :: u :: ts, r, v :: v' :: vs, [] => simp at hlen
  | t :: u :: ts, r, v :: v' :: vs, [_] => simp at hlen
  | t :: u :: ts, r, v :: v' :: vs, a :: b :: us =>
    have : ¬ (a :: b :: us).toArray.size = 1 := by simp
    rw [dif_neg this]
    refine ⟨a :: b :: us, rfl, ?_, ?_⟩
    · rw [hu]; exact hlen.symm
    · intro i tv hi
      rw [hu] at hi
      exact argsOk_at ha hi

/-- a function is what its typed reading says -/
theorem lifts_of (hE : EnvOk P E el) (hmx : P.follows .mixedOrders = true) {f : FuncId} {fn : Func} {c : Code} {ps rs : List Ty} {F : resDen ps → Option (resDen rs)} (hf : P.funcs[f]? = some fn) (hb : fn.body = some c)
    (hn : (fn.name == "runtime.NumGoroutine") = false) (hd : dstsOk fn.ntmps c = true) (hps : Nat.ble ps.length fn.ntmps = true) (hF : ∀ x r, WfL ps x → F x = some r → ∃ N, lift E el N fn ps rs x = some r) : Lifts P f ⟨ps, rs, F⟩ where
  enters := enters_of hf hb hn
  calls := by
    intro w M args vs x r hm hg ha hx hr
    obtain ⟨N, hN⟩ := hF x r (args_wf hx ha) hr
    simp only [lift, hb] at hN
    rw [unpack_pack hx] at hN
    refine calls_of_wp hf hb ?_
    have hlen : args.length ≤ fn.ntmps := by
      rw [← argsOk_len ha]
      have h2 := congrArg List.length (unpack_pack hx)
      rw [unpackL_length] at h2
      rw [← h2]
      exact Nat.le_of_ble_eq_true hps
    have fin : ∀ (fr : Fr) (a : Act) (w' : World), ((resTV E fr fn.results.toList).bind (packL rs)) = some r → Sim P w M fn.ntmps fr a w' →
        a.defers = [] ∧ ∃ v, (results fn a.tmps).run P w' = .ok v w' ∧ ∃ v' M', Ending.returned v = .returned v' ∧ Gr M w M' w' ∧ ∀ β τ L, AOk M' w' β τ L (resAV rs r) v' := by
      intro fr a w' h s
      obtain ⟨M1, β, τ, s⟩ := s
      obtain ⟨vs', h1, h2⟩ := Option.bind_eq_some_iff.1 h
      obtain ⟨us, h3, h4⟩ := results_list hE s _ _ h1
      refine ⟨s.df, _, ?_, _, fun b o => M1 b o ∨ ∃ id e, lk id fr.l = some e ∧ b = β id, rfl, ⟨s.bel, fun b o m => .inl (s.mex b o m), ?_, ?_⟩, fun β' τ' L' => resAV_of h2 h4⟩
      · unfold results
        rw [Array.mapM_eq_mapM_toList]
        have h3' := h3
        unfold resSem at h3'
        simp only [Sem.run_bind, Sem.run_map]
        erw [h3']
        rfl
      · rintro b o (m | ⟨id, e, he, rfl⟩)
        · exact s.mnew b o m
        · exact .inr (s.lo id e he).1
      · rintro b o (m | ⟨id, e, he, rfl⟩)
        · exact s.mlt b o m
        · obtain ⟨_, ⟨cs, T, h2, _⟩, _⟩ := s.lo id e he
          exact (Array.getElem?_eq_some_iff.1 h2).1
    refine den_sound hE hmx N c hd _ _ _ _ ?_ ?_ ?_ _ _ _ hN (init_sim hm hg ha hlen)
    · intro fr a w' h s; exact fin fr a w' h s
    · intro j fr a w' h s; cases h
    · intro fr a w' h s; exact fin fr a w' h s
end
end Go.Lift
