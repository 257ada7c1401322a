/- Functions that defer calls: pieces of their code are read, each by itself, by the wider reading; what they deferred waits. -/
import Derived.Test.YtlmhokakghbciaaRiP
import Derived.Test.YtlmhokakghbciaaRiR
import Derived.Defers
set_option linter.unusedVariables false
set_option maxRecDepth 100000
namespace Go.Lift
open Go.RowKit

/-- the same frame, with other deferred calls -/
def df (ds : List Deferred) (a : Act) : Act := { a with defers := ds }
@[simp] theorem df_tmps (ds : List Deferred) (a : Act) : (df ds a).tmps = a.tmps := rfl
theorem df_eval (ds : List Deferred) (a : Act) : (df ds a).eval = a.eval := by
  funext x
  cases x <;> rfl
theorem df_put (ds : List Deferred) (a : Act) (d : Option Tmp) (v : Value) : (df ds a).put d v = df ds (a.put d v) := by
  cases d <;> rfl
theorem df_df (ds ds' : List Deferred) (a : Act) : df ds (df ds' a) = df ds a := rfl

section
variable {P : Program} {E : Env2} {w0 : World} {M0 : Bs} {N : Nat} {M : Own} {β : Nat → Nat} {τ : Nat → Value} {st : St} {a : Act} {as : List Act} {w w' : World} {F : Fence} {n : Nat}

/-- plain operations: no calls -/
def plainOp (o : Oper) : Bool := match o.op with
  | .move _ => true
  | .assign _ => true
  | .binOp .. => true
  | .indexAddr .. => true
  | .load .. => true
  | .store .. => true
  | _ => false
theorem value_of {s : Sem Value} {x : Next} (h : (do pure (.value (← s)) : Sem Next).run P w = .ok x w') : ∃ v, x = .value v := by
  rw [Sem.run_bind] at h
  cases hs : s.run P w with
  | ok v w2 => rw [hs] at h; simp only [Result.andThen_ok, Sem.run_pure] at h; cases h; exact ⟨v, rfl⟩
  | halt b w2 => rw [hs] at h; cases h
theorem unit_of {s : Sem Unit} {x : Next} (h : (do s; pure .skip : Sem Next).run P w = .ok x w') : x = .skip := by
  rw [Sem.run_bind] at h
  cases hs : s.run P w with
  | ok v w2 => rw [hs] at h; simp only [Result.andThen_ok, Sem.run_pure] at h; cases h; rfl
  | halt b w2 => rw [hs] at h; cases h
theorem plain_run {o : Oper} (h : plainOp o = true) {ρ : Operand → Value} {x : Next} (hr : (execOp ρ o).run P w = .ok x w') : (∃ v, x = .value v) ∨ x = .skip := by
  unfold plainOp at h
  unfold execOp at hr
  split at h
  · rename_i ho; rw [ho] at hr; cases hr; exact .inl ⟨_, rfl⟩
  · rename_i ho; rw [ho] at hr; cases hr; exact .inl ⟨_, rfl⟩
  · rename_i ho; rw [ho] at hr; exact .inl (value_of hr)
  · rename_i ho; rw [ho] at hr; exact .inl (value_of hr)
  · rename_i ho; rw [ho] at hr; exact .inl (value_of hr)
  · rename_i ho; rw [ho] at hr; exact .inr (unit_of hr)
  · cases h
theorem plain_noDf {o : Oper} (h : plainOp o = true) : noDf o := by
  intro c hc
  simp [plainOp, hc] at h

theorem op_df {o : Oper} (ho : plainOp o = true) (ds : List Deferred) {K K' : Act → World → Prop} {Q : Exit → Act → World → Prop} (hK : ∀ a w, K' a w → K (df ds a) w)
    (h : o.wpIn F n P a w K' fun e a w => Q e (df ds a) w) : o.wpIn F n P (df ds a) w K Q := by
  unfold Oper.wpIn at h ⊢
  rw [df_eval]
  obtain ⟨h1, h2⟩ := h
  refine ⟨h1, ?_⟩
  have hs : o.semAt F.round a.eval = execOp a.eval o := Oper.semAt_eq _ _ _ (plain_noDf ho)
  rw [hs] at h2 ⊢
  cases hr : (execOp a.eval o).run P w with
  | ok x w' =>
    rw [hr] at h2
    rcases plain_run ho hr with ⟨v, rfl⟩ | rfl
    · simp only [Oper.uponIn] at h2 ⊢; rw [df_put]; exact hK _ _ h2
    · simp only [Oper.uponIn] at h2 ⊢; rw [df_put]; exact hK _ _ h2
  | halt x w' =>
    rw [hr] at h2
    cases x <;> exact h2

theorem list_df {ops : Array Oper} (ds : List Deferred) {Q : Exit → Act → World → Prop} : ∀ {l : List Oper} {a : Act} {w : World}, (∀ o ∈ l, plainOp o = true) → wpListIn F n P ops (fun e a w => Q e (df ds a) w) l a w → wpListIn F n P ops Q l (df ds a) w
  | [], _, _, _, h => h
  | o :: rest, a, w, hp, h => by
    unfold wpListIn at h ⊢
    rw [df_tmps, df_eval, df_put]
    split at h
    · rename_i hw
      rw [if_pos hw]
      exact op_df (hp o (by simp)) ds (fun a w h => list_df ds (fun o' ho' => hp o' (by simp [ho'])) h) h
    · rename_i hw
      rw [if_neg hw]
      exact ⟨h.1, list_df ds (fun o' ho' => hp o' (by simp [ho'])) h.2⟩

theorem op_then {o : Oper} {K X : Act → World → Prop} {Q : Exit → Act → World → Prop} (h : o.wpIn F n P a w K (Exit.then X Q)) : o.wpIn F n P a w K Q := by
  unfold Oper.wpIn at h ⊢
  refine ⟨h.1, ?_⟩
  have h := h.2
  generalize (o.semAt F.round a.eval).run P w = r at *
  cases r with
  | ok x w' => cases x <;> exact h
  | halt x w' => cases x <;> exact h
/-- one list of operations behind another one -/
theorem list_app {ops : Array Oper} {Q : Exit → Act → World → Prop} {l' : List Oper} : ∀ {l : List Oper} {a : Act} {w : World}, wpListIn F n P ops (Exit.then (wpListIn F n P ops Q l') Q) l a w → wpListIn F n P ops Q (l ++ l') a w
  | [], _, _, h => h
  | o :: rest, a, w, h => by
    rw [List.cons_append]
    unfold wpListIn at h ⊢
    split at h
    · rename_i hw
      rw [if_pos hw]
      exact Oper.wpIn_mono (fun a w h => list_app h) (op_then h)
    · rename_i hw
      rw [if_neg hw]
      exact ⟨h.1, list_app h.2⟩
end

section
variable {P : Program} {E : Env2} {w0 : World} {M0 : Bs} {N : Nat} {M : Own} {β : Nat → Nat} {τ : Nat → Value} {st : St} {a : Act} {as : List Act} {w w' : World}

/-- code without loops over functions: what is known from the beginning on stays as it is -/
theorem denS_sound (hE : Env2Ok P E) (Nf : Nat) {H : (α : Type) → [DecidableEq α] → Tg → St → (St → RV → Option α) → Option α} (hH : HOk P w0 H) {lt : LT} {α : Type} [DecidableEq α] {r : α} (n : Nat) : ∀ (c : Code), dstsOk N c = true → noRF c = true → ∀ (kn : St → Option α) (kx : Nat → St → Option α) (kr : St → Option α) (Q : Exit → Act → World → Prop),
    (∀ st a w, kn st = some r → Sim2 w0 M0 N st a as w → Q .normal a w) → (∀ j st a w, kx j st = some r → Sim2 w0 M0 N st a as w → Q (.exit j) a w) → (∀ st a w, kr st = some r → Sim2 w0 M0 N st a as w → Q .ret a w) →
    ∀ st a w, denR E (H α) lt Nf c kn kx kr st = some r → Sim2 w0 M0 N st a as w → c.wpIn (fen none) n P Q a w := by
  intro c
  induction c with
  | skip => intro _ _ kn kx kr Q hn hx hr st a w h s; exact wpIn_skip (hn st a w h s)
  | region id ops draw =>
    intro hd hnr kn kx kr Q hn hx hr st0 a w h0 s0
    simp only [dstsOk] at hd
    simp only [denR] at h0
    have hdf : (none : Option Nat) = none ∨ ∀ o ∈ ops.toList, noDf o := .inl rfl
    obtain ⟨st, h, s⟩ := frzHead_ok h0 s0
    clear h0 s0
    cases draw with
    | false =>
      simp only [cond_false] at h
      exact wpIn_region_list (opsR_sound hE hH hdf hn _ st a w (fun _ h => h) h s fun o ho => dsts_of hd ho)
    | true =>
      simp only [cond_true] at h
      cases hlst : lt.lst.any (Nat.beq id) with
      | true =>
        rw [hlst, cond_true] at h
        exact wpIn_region_any hE.mx (lastR_sound hE hH hdf (fun o ho => dsts_of hd ho) hn h (by obtain ⟨M, β, τ, s⟩ := s; exact ⟨M, β, τ, s.grow (Gr.drew s.mlt)⟩))
      | false =>
      rw [hlst, cond_false] at h
      obtain ⟨hok, h⟩ := bif_some h
      obtain ⟨st', h', s'⟩ := frzAllK_ok _ _ _ h s
      exact wpIn_region_any hE.mx (wpAnyIn_of_S hdf _ _ _ _ (drawR_sound hE hok (fun i o ho => dsts_of hd (Array.mem_toList_iff.2 (Array.mem_of_getElem? ho))) hn h' (by obtain ⟨M, β, τ, s'⟩ := s'; exact ⟨M, β, τ, s'.grow (Gr.drew s'.mlt)⟩)))
  | seq a b iha ihb =>
    intro hd hnr kn kx kr Q hn hx hr st ac w h s
    simp only [dstsOk, Bool.and_eq_true] at hd
    simp only [noRF, Bool.and_eq_true] at hnr
    simp only [denR] at h
    refine wpIn_seq (iha hd.1 hnr.1 _ kx kr _ ?_ ?_ ?_ st ac w h s)
    · intro st' a' w' h' s'
      have next : ∀ st'', denR E (H α) lt Nf b kn kx kr st'' = some r → Sim2 w0 M0 N st'' a' as w' → b.wpIn (fen none) n P Q a' w' := fun st'' h'' s'' =>
        ihb hd.2 hnr.2 kn kx kr Q hn hx hr st'' a' w' h'' s''
      unfold seqK at h'
      cases hj : isJoin lt b with
      | true =>
        rw [hj] at h'
        exact next _ h' (headR_sim s' _ _)
      | false =>
        rw [hj] at h'
        exact next _ h' (pruneR_sim s' _ _)
    · intro j st' a' w' h' s'; exact hx j st' a' w' h' s'
    · intro st' a' w' h' s'; exact hr st' a' w' h' s'
  | cond c x y ihx ihy =>
    intro hd hnr kn kx kr Q hn hx hr st a w h s
    simp only [dstsOk, Bool.and_eq_true] at hd
    simp only [noRF, Bool.and_eq_true] at hnr
    simp only [denR] at h
    split at h
    · rename_i t heq
      have hv : a.eval c = .bool t := by
        obtain ⟨M, β, τ, s⟩ := s
        have := evR_ok s.glob s.fr (some .bool) c
        rw [heq] at this
        obtain ⟨u, e, hv⟩ := this
        simp only [List.cons.injEq, and_true] at e
        rw [e]
        exact hv.bool
      refine wpIn_cond hv ?_
      cases t with
      | true =>
        rw [cndR_eq heq] at h
        exact ihx hd.1 hnr.1 kn kx kr Q hn hx hr st a w h s
      | false =>
        rw [cndR_eq heq] at h
        exact ihy hd.2 hnr.2 kn kx kr Q hn hx hr st a w h s
    · cases h
  | block id c ih =>
    intro hd hnr kn kx kr Q hn hx hr st a w h s
    simp only [dstsOk] at hd
    simp only [noRF] at hnr
    simp only [denR] at h
    refine wpIn_block (ih hd hnr kn _ kr _ ?_ ?_ ?_ st a w h s)
    · intro st' a' w' h' s'; exact hn st' a' w' h' s'
    · intro j st' a' w' h' s'
      simp only [Exit.inBlock]
      cases hb : Nat.beq j id with
      | true =>
        have := Nat.eq_of_beq_eq_true hb
        subst this
        simp only [hb, cond_true] at h'
        simpa using hn st' a' w' h' s'
      | false =>
        have hne : j ≠ id := fun h => by subst h; simp at hb
        simp only [hb, cond_false] at h'
        simpa [hne] using hx j st' a' w' h' s'
    · intro st' a' w' h' s'; exact hr st' a' w' h' s'
  | loop c ih =>
    intro hd hnr kn kx kr Q hn hx hr st a w h s
    simp only [dstsOk] at hd
    simp only [noRF] at hnr
    simp only [denR] at h
    refine wpIn_loop_rounds Nf ?_
    have key : ∀ (m : Nat) (st : St) (a : Act) (w : World), iterR (fun self st => denR E (H α) lt Nf c (fun st => self (headR lt c st)) kx kr st) m st = some r → Sim2 w0 M0 N st a as w → Code.roundsIn (fen none) n P c Q m a w := by
      intro m
      induction m with
      | zero => intro st a w h _; cases h
      | succ m ihm =>
        intro st a w h s
        rw [roundsIn_succ]
        refine ih hd hnr _ kx kr _ ?_ ?_ ?_ st a w h s
        · intro st' a' w' h' s'
          exact ihm _ a' w' h' (headR_sim s' _ _)
        · intro j st' a' w' h' s'; exact hx j st' a' w' h' s'
        · intro st' a' w' h' s'; exact hr st' a' w' h' s'
    exact key Nf _ a w h (headR_sim s _ _)
  | exit id => intro _ _ kn kx kr Q hn hx hr st a w h s; exact wpIn_exit (hx id st a w h s)
  | ret => intro _ _ kn kx kr Q hn hx hr st a w h s; exact wpIn_ret (hr st a w h s)
  | rangeFunc g ps x y _ _ => intro hd hnr; cases hnr
  | scope c ih =>
    intro hd hnr kn kx kr Q hn hx hr st a w h s
    simp only [dstsOk] at hd
    simp only [noRF] at hnr
    simp only [denR] at h
    exact wpIn_scope (ih hd hnr kn kx kr (Exit.noGoto Q) (fun st a w h s => hn st a w h s) (fun j st a w h s => hx j st a w h s) (fun st a w h s => hr st a w h s) st a w h s)
  | label _ => intro _ _ kn kx kr Q hn hx hr st a w h s; exact wpIn_label (hn st a w h s)
  | goto _ => intro _ _ kn kx kr Q hn hx hr st a w h s; simp [denR] at h
  | refuse _ => intro _ _ kn kx kr Q hn hx hr st a w h s; simp [denR] at h

/-- a frame that has no marks has deferred nothing -/
theorem Sm.noDefers (s : Sm w0 M0 N M β τ st a as w) (hk : ∀ b, ¬ M0.kp b) : a.defers = [] := by
  obtain ⟨_, l, e, _, hl⟩ := s.df
  cases l with
  | nil => exact e
  | cons D l => exact absurd (hl D (by simp)).2.1.1 (hk D)

/-- what is known begins anew -/
def Bs.now (M0 : Bs) (M : Own) (w : World) : Bs := { M0 with M1 := M, w1 := w }
theorem Sm.now (s : Sm w0 M0 N M β τ st a as w) (hk : ∀ b, ¬ M0.kp b) : Sm w0 (M0.now M w) N M β τ st a as w where
  df := by rw [s.noDefers hk]; exact dfOk_nil s.df.1
  sz := s.sz
  bel := s.bel
  mlt := s.mlt
  mex := s.mex
  gk := s.gk
  gx := Ext.refl M w
  kp := fun b h => absurd h (hk b)
  mnew := s.mnew
  fr := s.fr
  fs := s.fs
  ob := s.ob
  dj := s.dj

/-- another frame, of which other things are told -/
theorem Sm.frame (s : Sm w0 M0 N M β τ st a as w) {N' : Nat} {a' : Act} {as' : List Act} {sl : List (Nat × RV)} {k : List (Nat × List (Nat × RV))} {b : Nat} (hd : a'.defers = []) (hz : a'.tmps.size = N') (hf : FrOk M w β τ st.l sl a') (hs : FsOk M w β τ st.l k as') :
    Sm w0 M0 N' M β τ { s := sl, l := st.l, k := k, b := b } a' as' w where
  df := by rw [hd]; exact dfOk_nil s.df.1
  sz := hz
  bel := s.bel
  mlt := s.mlt
  mex := s.mex
  gk := s.gk
  gx := s.gx
  kp := s.kp
  mnew := s.mnew
  fr := hf
  fs := hs
  ob := s.ob
  dj := s.dj

/-- a deferred call of a function without results, read -/
theorem deferred_calls (hE : Env2Ok P E) (Nf : Nat) {H : (α : Type) → [DecidableEq α] → Tg → St → (St → RV → Option α) → Option α} (hH : HOk P w0 H) {lt : LT} {α : Type} [DecidableEq α] {r : α} {f : FuncId} {fn : Func} {c : Code} (hf : P.funcs[f]? = some fn) (hb : fn.body = some c) (hd : dstsOk fn.ntmps c = true) (hnr : noRF c = true) (hres : fn.results = #[]) (hk : ∀ b, ¬ M0.kp b)
    {fin : St → Option α} {args : List Value} {u : FrameMode} {R : Ending → FrameMode → World → Prop} (h : denR E (H α) lt Nf c fin (fun _ _ => none) fin st = some r) (s : Sim2 w0 M0 fn.ntmps st (enterAct args fn.ntmps) as w)
    (hR : ∀ st a w', fin st = some r → Sim2 w0 M0 fn.ntmps st a as w' → ∀ v, R (.returned v) u w') : CallsD P f args.toArray u w R := by
  refine (callsD_of_wp (R := fun e w' => ∃ v st a, e = .returned v ∧ fin st = some r ∧ Sim2 w0 M0 fn.ntmps st a as w') hf hb ?_).mono ?_
  · have fin' : ∀ (st : St) (a : Act) (w' : World), fin st = some r → Sim2 w0 M0 fn.ntmps st a as w' → a.defers = [] ∧ ∃ v, (results fn a.tmps).run P w' = .ok v w' ∧ ∃ v' st a, Ending.returned v = .returned v' ∧ fin st = some r ∧ Sim2 w0 M0 fn.ntmps st a as w' := by
      rintro st a w' h ⟨M', β', τ', s'⟩
      have hr : (fn.results.toList.mapM (resSem a.tmps)).run P w' = .ok [] w' := by rw [hres]; simp
      exact ⟨s'.noDefers hk, _, results_run hr, _, st, a, rfl, h, M', β', τ', s'⟩
    refine (wpIn_wide (n := 0)).1 (denS_sound hE Nf hH 0 c hd hnr fin (fun _ _ => none) fin _ ?_ ?_ ?_ st _ w h s)
    · intro st a w' h s; exact fin' st a w' h s
    · intro j st a w' h s; cases h
    · intro st a w' h s; exact fin' st a w' h s
  · rintro e u' w' ⟨rfl, v, st, a, rfl, h, s⟩
    exact hR st a w' h s v
/-- the same for one that returns in its first part -/
theorem deferred_ret (hE : Env2Ok P E) (Nf : Nat) {H : (α : Type) → [DecidableEq α] → Tg → St → (St → RV → Option α) → Option α} (hH : HOk P w0 H) {lt : LT} {α : Type} [DecidableEq α] {r : α} {f : FuncId} {fn : Func} {c c' : Code} (hf : P.funcs[f]? = some fn) (hb : fn.body = some (.seq c c')) (hd : dstsOk fn.ntmps c = true) (hnr : noRF c = true) (hres : fn.results = #[]) (hk : ∀ b, ¬ M0.kp b)
    {fin : St → Option α} {args : List Value} {u : FrameMode} {R : Ending → FrameMode → World → Prop} (h : denR E (H α) lt Nf c (fun _ => none) (fun _ _ => none) fin st = some r) (s : Sim2 w0 M0 fn.ntmps st (enterAct args fn.ntmps) as w)
    (hR : ∀ st a w', fin st = some r → Sim2 w0 M0 fn.ntmps st a as w' → ∀ v, R (.returned v) u w') : CallsD P f args.toArray u w R := by
  refine (callsD_of_wp (R := fun e w' => ∃ v st a, e = .returned v ∧ fin st = some r ∧ Sim2 w0 M0 fn.ntmps st a as w') hf hb ?_).mono ?_
  · have fin' : ∀ (st : St) (a : Act) (w' : World), fin st = some r → Sim2 w0 M0 fn.ntmps st a as w' → a.defers = [] ∧ ∃ v, (results fn a.tmps).run P w' = .ok v w' ∧ ∃ v' st a, Ending.returned v = .returned v' ∧ fin st = some r ∧ Sim2 w0 M0 fn.ntmps st a as w' := by
      rintro st a w' h ⟨M', β', τ', s'⟩
      have hr : (fn.results.toList.mapM (resSem a.tmps)).run P w' = .ok [] w' := by rw [hres]; simp
      exact ⟨s'.noDefers hk, _, results_run hr, _, st, a, rfl, h, M', β', τ', s'⟩
    refine (wpIn_wide (n := 0)).1 (wpIn_seq (denS_sound hE Nf hH 0 c hd hnr (fun _ => none) (fun _ _ => none) fin _ ?_ ?_ ?_ st _ w h s))
    · intro st a w' h s; cases h
    · intro j st a w' h s; cases h
    · intro st a w' h s; exact fin' st a w' h s
  · rintro e u' w' ⟨rfl, v, st, a, rfl, h, s⟩
    exact hR st a w' h s v
end

def fstC : Code → Code
  | .seq a _ => a
  | c => c
def sndC : Code → Code
  | .seq _ b => b
  | c => c
def bodyC : Code → Code
  | .block _ c => c
  | .loop c => c
  | c => c
def opsC : Code → Array Oper
  | .region _ ops _ => ops
  | _ => #[]

def pickV : List Nat → List (Nat × RV) → Option (List RV)
  | [], _ => some []
  | i :: r, s => (lk i s).bind fun v => (pickV r s).bind fun vs => some (v :: vs)
theorem pickV_ok {s : List (Nat × RV)} : ∀ {ks : List Nat} {vs : List RV} {i : Nat} {rv : RV}, pickV ks s = some vs → lk i (ks.zip vs) = some rv → lk i s = some rv
  | [], _, _, _, _, h => by simp [lk] at h
  | k :: ks, vs, i, rv, h, h' => by
    simp only [pickV] at h
    obtain ⟨v, h1, h⟩ := Option.bind_eq_some_iff.1 h
    obtain ⟨vs', h2, h⟩ := Option.bind_eq_some_iff.1 h
    cases h
    simp only [List.zip_cons_cons, lk_cons] at h'
    split at h'
    · rename_i e
      subst e
      cases h'
      exact h1
    · exact pickV_ok h2 h'

/-- a frame that names the first block -/
def ghK : List (Nat × List (Nat × RV)) → Bool
  | [(_, [(0, .loc 0 [])])] => true
  | _ => false
def noK : List (Nat × List (Nat × RV)) → Bool
  | [] => true
  | _ => false
def gh : List (Nat × List (Nat × RV)) := [(0, [(0, .loc 0 [])])]

/-- what is known, by a pattern -/
def extK {α : Type} (q : List (Nat × List (Nat × RV)) → Bool) (ks : List Nat) (fp : List Pt) (bp : List Bt) (k : PtsD fp → BtsD bp → Option α) (st : St) : Option α :=
  (fun st' => bif q st'.k then (pickV ks st'.s).bind fun vs => (abPs fp vs).bind fun x => (abL 0 bp st'.l).bind fun y => k x y else none) (canon ks st)

section
variable {w0 w : World} {M0 : Bs} {N : Nat} {M : Own} {β : Nat → Nat} {τ : Nat → Value} {st : St} {a : Act} {as : List Act}
theorem ext_ok {α : Type} {q : List (Nat × List (Nat × RV)) → Bool} {ks : List Nat} {fp : List Pt} {bp : List Bt} {k : PtsD fp → BtsD bp → Option α} {r : α} (h : extK q ks fp bp k st = some r) (s : Sim2 w0 M0 N st a as w) :
    ∃ x y, k x y = some r ∧ ∃ kk, q kk = true ∧ Sim2 w0 M0 N { s := ks.zip (mkPs fp x), l := mkL 0 bp y, k := kk, b := 4096 } a as w := by
  unfold extK at h
  obtain ⟨hq, h⟩ := bif_some h
  obtain ⟨vs, h1, h⟩ := Option.bind_eq_some_iff.1 h
  obtain ⟨x, h2, h⟩ := Option.bind_eq_some_iff.1 h
  obtain ⟨y, h3, h⟩ := Option.bind_eq_some_iff.1 h
  obtain ⟨M, β, τ, s⟩ := s.canon ks
  refine ⟨x, y, h, _, hq, M, β, τ, ?_⟩
  rw [← abPs_ok h2, ← abL_ok h3]
  exact { df := s.df, sz := s.sz, bel := s.bel, mlt := s.mlt, mex := s.mex, gk := s.gk, gx := s.gx, kp := s.kp, mnew := s.mnew, fr := fun i rv hi => s.fr i rv (pickV_ok h1 hi), fs := s.fs, ob := s.ob, dj := s.dj }
end
end Go.Lift
