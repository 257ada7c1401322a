/- Calls that are read on the spot; code; a function is what its wider reading says. -/
import Derived.Test.YtlmhokakghbciaaRiY
namespace Go.Lift
open Go.RowKit

section
variable {P : Program} {E : Env2} {Q : Exit → Act → World → Prop} {o : Oper} {w0 : World} {M0 : Bs} {N : Nat} {M M' : Own} {β : Nat → Nat} {τ : Nat → Value} {st st' : St} {a : Act} {as : List Act} {w w' : World} {id : Nat}

/-- a state behind a call, and what the call gave -/
def Ret (w0 : World) (M0 : Bs) (st : St) (rv : RV) (v : Value) (as : List Act) (w : World) : Prop := ∃ M β τ N a, Sm w0 M0 N M β τ st a as w ∧ RR M w β τ st.l rv .sl [v]

/-- what is asked of those that read calls on the spot -/
def HOk (P : Program) (w0 : World) (H : (α : Type) → [DecidableEq α] → Tg → St → (St → RV → Option α) → Option α) : Prop :=
  (∀ (M0 : Bs) (α : Type) [DecidableEq α] (f : FuncId) (st : St) (k : St → RV → Option α) (r : α) (args : List Value) (as : List Act) (w : World), H α (.fn f) st k = some r → st.s.length = args.length → (∀ m, args.length ≤ m → Sim2 w0 M0 m st (enterAct args m) as w) →
    (∀ (args : Array Value) (w : World), (callFunc f args).run P w = .ok (.enter f args) w) ∧
    ∀ R : Ending → World → Prop, (∀ st' rv v w', k st' rv = some r → Ret w0 M0 st' rv v as w' → R (.returned v) w') → Calls P f args.toArray w R) ∧
  ∀ (M0 : Bs) (α : Type) [DecidableEq α] (st : St) (k : St → RV → Option α) (r : α) (n N l : Nat) (a : Act) (as : List Act) (w : World) (t : Nat × RV × LQ), H α .yl st k = some r → topL st = some t → LqN N t.2.2 → Sim2 w0 M0 N st a (witY l :: as) w →
    ∀ R : Ending → World → Prop, (∀ st' rv v w', k st' rv = some r → Ret w0 M0 st' rv v as w' → R (.returned v) w') →
      t.2.2.assign.wpIn (fen (some l)) n P (Exit.then (fun a₁ w₁ => ∃ w₂, (Instr.beginRound l).run P w₁ = .ok () w₂ ∧ t.2.2.body.wpIn (fen (some l)) n P (roundPost P l R) a₁ w₂) (fun _ _ _ => False)) a w

/-- the state in which one is called -/
theorem push_eq (lt : LT) (d : Nat) (args : List RV) (st : St) : Go.Lift.push lt d args st = { s := (args.zipIdx 0).map fun p => (p.2, p.1), l := st.l, k := (st.b, match lk d lt.keep with | some ks => pickS st.s ks | none => st.s) :: st.k, b := (st.b + d + 1) * 4096 } := withN_eq _ _

theorem Sm.push (s : Sm w0 M0 N M β τ st a as w) {lt : LT} {d : Nat} {rvs : List RV} {args : List Value} (hr : Rel2 M w β τ st.l rvs args) {m : Nat} (hm : args.length ≤ m) : Sm w0 M0 m M β τ (Go.Lift.push lt d rvs st) (enterAct args m) (a :: as) w := by
  rw [push_eq]
  exact {
    df := dfOk_nil s.df.1
    sz := by simp [enterAct]; omega
    bel := s.bel
    mlt := s.mlt
    mex := s.mex
    gk := s.gk
    gx := s.gx
    kp := s.kp
    mnew := s.mnew
    fr := fun i rv h => by
      obtain ⟨_, h1⟩ := slots_at 0 rvs rv h
      obtain ⟨u, hu, r⟩ := rel2_at hr (by simpa using h1)
      exact ⟨u, enter_at (by simpa using hu), r⟩
    fs := by
      refine ⟨?_, s.fs⟩
      dsimp only
      split
      · exact fun i rv h => s.fr i rv (lk_pickS _ _ _ _ h)
      · exact s.fr
    ob := s.ob
    dj := s.dj }

theorem Sm.pop {N' : Nat} {a' : Act} (s : Sm w0 M0 N' M β τ st a' (a :: as) w) (hdf : DfOk w0 M0 a.defers) (hsz : a.tmps.size = N) : Sm w0 M0 N M β τ (Go.Lift.pop st) a as w ∧ (Go.Lift.pop st).l = st.l := by
  have hfs := s.fs
  unfold Go.Lift.pop
  cases hk : st.k with
  | nil => rw [hk] at hfs; exact hfs.elim
  | cons p k =>
    rw [hk] at hfs
    exact ⟨{ df := hdf, sz := hsz, bel := s.bel, mlt := s.mlt, mex := s.mex, gk := s.gk, gx := s.gx, kp := s.kp, mnew := s.mnew, fr := hfs.1, fs := hfs.2, ob := s.ob, dj := s.dj }, rfl⟩

theorem call_inline (s : Sim2 w0 M0 N st a as w) (hd : ∀ d, o.dst = some d → d < N) {H : (α : Type) → [DecidableEq α] → Tg → St → (St → RV → Option α) → Option α} (hH : HOk P w0 H) {α : Type} [DecidableEq α] {k : St → Option α} {r : α} {lt : LT} {f : Operand} {args : Array Operand} {argTypes : Array TypeId} {g : FuncId} {caps : RV} {cs : List RV}
    (hop : o.op = .call { callee := .value f, args := args, argTypes := argTypes }) (hf : evR none f st.s = .clo g caps) (hsz : Nat.beq args.size argTypes.size = true) (hcs : listP caps = some cs) {tab : List (TypeId × Ty)}
    (h : H α (.fn g) (push lt (o.dst.getD 0) ((args.toList.zip argTypes.toList).map (fun p => evR (lk p.2 tab) p.1 st.s) ++ cs) st) (fun st' rv => k (setR (pop st') o.dst rv)) = some r) : ROp P Q w0 M0 N o a as w k r := by
  obtain ⟨M, β, τ, s⟩ := s
  intro K hK
  have hfv := evR_ok s.glob s.fr none f
  rw [hf] at hfv
  simp only [RR] at hfv
  obtain ⟨_, us, e, hcap⟩ := hfv
  simp only [List.cons.injEq, and_true] at e
  have hlen : args.toList.length = argTypes.toList.length := by simpa using Nat.eq_of_beq_eq_true hsz
  have hrel := rel2_append (args_rel s (tab := tab) hlen) (listP_ok hcs hcap)
  obtain ⟨hent, hcall⟩ := hH.1 M0 α g _ _ r (args.toList.map a.eval ++ us) (a :: as) w h (by
    have := rel2_len hrel
    simp only [push_eq, List.length_map, List.length_zipIdx]
    exact this) fun m hm => ⟨M, β, τ, s.push hrel hm⟩
  have hrun : (execOp a.eval o).run P w = .ok (.enter g (args.toList.map a.eval ++ us).toArray) w := by
    simp only [execOp, hop, resolve, e, Deferred.ofValue, Sem.run_bind, Sem.run_pure, Result.andThen_ok, invoke]
    rw [show (#[] ++ Array.map a.eval args ++ us.toArray) = (args.toList.map a.eval ++ us).toArray by simp [← Array.toList_map]]
    exact hent _ w
  unfold Oper.wp
  rw [hrun, Oper.upon_enter]
  refine hcall _ ?_
  rintro st' rv v w' hk ⟨M', β', τ', N', a', s', hr⟩
  obtain ⟨s2, hl⟩ := s'.pop s.df s.sz
  exact hK _ _ _ hk ⟨M', β', τ', s2.set o.dst hd (by rw [hl]; exact hr)⟩

theorem rec_rop (hE : Env2Ok P E) (s : Sim2 w0 M0 N st a as w) (hd : ∀ d, o.dst = some d → d < N) {α : Type} {k : St → Option α} {r : α} {f : Operand} {args : Array Operand} {ts : Array TypeId} {g : FuncId} {caps : RV} {c : RecC} (hop : o.op = .call { callee := .value f, args := args, argTypes := ts })
    (hf : evR none f st.s = .clo g caps) (hc : lk g E.rcs = some c) (h : (recK E c args ts caps st fun id ob rv => k (setR (setOb id ob st) o.dst rv)) = some r) : ROp P Q w0 M0 N o a as w k r := by
  obtain ⟨M, β, τ, s⟩ := s
  intro K hK
  obtain ⟨⟨i, ob, rv⟩, h1, h2⟩ := recK_pc (E := E) (st := st) _ (fun q : Nat × Ob × RV => k (setR (setOb q.1 q.2.1 st) o.dst q.2.2)) _ h
  exact (rec_sound (Q := Q) hE s hop hf hc (h1 _ some) K fun M' v w' s' r' => hK _ _ _ h2 ⟨M', β, τ, s'.set o.dst hd r'⟩).2

/-- the same in the fence of a round -/
def ROpI (P : Program) (ro : Option Nat) (n : Nat) (Q : Exit → Act → World → Prop) (w0 : World) (M0 : Bs) (N : Nat) (o : Oper) (a : Act) (as : List Act) (w : World) {α : Type} (k : St → Option α) (r : α) : Prop :=
  ∀ K : Act → World → Prop, (∀ st' a' w', k st' = some r → Sim2 w0 M0 N st' a' as w' → K a' w') → o.wpIn (fen ro) n P a w K Q
theorem ROp.inR {ro : Option Nat} {n : Nat} (hro : ro = none ∨ noDf o) {α : Type} {k : St → Option α} {r : α} (h : ROp P Q w0 M0 N o a as w k r) : ROpI P ro n Q w0 M0 N o a as w k r :=
  fun K hK => wpIn_of_wp hro (h K hK)

theorem pushY_eq (lt : LT) (d id : Nat) (con : RV) (q : LQ) (args : List RV) (st : St) : pushY lt d id con q args st = { s := setPs q.ps.toList args (slotsC 0 con), l := st.l, k := (0, [(0, .yl id)]) :: (st.b, match lk d lt.keep with | some ks => pickS st.s ks | none => st.s) :: st.k, b := (st.b + d + 1) * 4096 } := withN_eq _ _

/-- a round is asked for -/
theorem call_yield (s : Sim2 w0 M0 N st a as w) (hd : ∀ d, o.dst = some d → d < N) {H : (α : Type) → [DecidableEq α] → Tg → St → (St → RV → Option α) → Option α} (hH : HOk P w0 H) {α : Type} [DecidableEq α] {k : St → Option α} {r : α} {lt : LT} {f : Operand} {args : Array Operand} {argTypes : Array TypeId} {id : Nat} {con : RV} {q : LQ} {ro : Option Nat} {n : Nat}
    (hop : o.op = .call { callee := .value f, args := args, argTypes := argTypes }) (hf : evR none f st.s = .yl id) (hl : lk id st.l = some (.lp con q)) (hsz : args.size = argTypes.size) (hps : args.size = q.ps.size) {tab : List (TypeId × Ty)}
    (h : H α .yl (pushY lt (o.dst.getD 0) id con q ((args.toList.zip argTypes.toList).map (fun p => evR (lk p.2 tab) p.1 st.s)) st) (fun st' rv => k (setR (pop st') o.dst rv)) = some r) : ROpI P ro n Q w0 M0 N o a as w k r := by
  obtain ⟨M, β, τ, s⟩ := s
  intro K hK
  have hfv := evR_ok s.glob s.fr none f
  rw [hf] at hfv
  simp only [RR] at hfv
  obtain ⟨_, u, con', q', e, _, hl', hu⟩ := hfv
  simp only [List.cons.injEq, and_true] at e
  rw [← e] at hu
  obtain ⟨_, ⟨r0, g1, ⟨g2, e1, e2, e3, e4, e5⟩, m, g3⟩, _⟩ := s.ob id _ hl
  have hrel := args_rel s (tab := tab) (xs := args.toList) (ts := argTypes.toList) (by simpa using hsz)
  have hrun : (execOp a.eval o).run P w = .ok (.round (β id) r0.fn ((q.ps.toList.zip (args.toList.map a.eval)).foldl (fun t p => t.setIfInBounds p.1 p.2) r0.tmps) q.assign q.body) w := by
    simp only [execOp, hop, resolve, hu, Deferred.ofValue, Sem.run_bind, Sem.run_pure, Result.andThen_ok, invoke]
    have hy := run_yield (P := P) (args := args.map a.eval) g1 (by rw [e1]; simpa using hps)
    simp only [Array.empty_append]
    rw [hy, e1, e2, e3]
    congr 2
    rw [← Array.foldl_toList, Array.toList_zip, Array.toList_map]
  refine ⟨fun _ _ => trivial, ?_⟩
  rw [show o.semAt (fen ro).round a.eval = execOp a.eval o from Oper.semAt_eq _ _ _ (fun c hc => by rw [hop] at hc; cases hc), hrun, Oper.uponIn_round]
  refine ⟨fun hd => absurd hd (by simp [fen]), roundIn_of_wpIn trivial ?_⟩
  refine hH.2 M0 α _ _ r (n - 1) r0.tmps.size (β id) _ (a :: as) w (id, con, q) h ?_ g2 ⟨M, β, τ, ?_⟩ _ ?_
  · rw [pushY_eq]
    simp [topL, lk, hl]
  · rw [pushY_eq]
    have hbase : FrOk M w β τ st.l (slotsC 0 con) { tmps := r0.tmps, defers := [] } := fun i rv hi => by
      obtain ⟨_, u', h1, h2⟩ := slotsC_ok g3 i rv hi
      refine ⟨u', ?_, h2⟩
      rw [Nat.sub_zero, List.getElem?_take] at h1
      split at h1
      · simpa using h1
      · cases h1
    have hsize : ∀ (l : List (Tmp × Value)) (t : Array Value), (l.foldl (fun t p => t.setIfInBounds p.1 p.2) t).size = t.size := by
      intro l
      induction l with
      | nil => intro t; rfl
      | cons p l ih => intro t; rw [List.foldl_cons, ih]; simp
    exact {
      df := dfOk_nil s.df.1
      sz := hsize _ _
      bel := s.bel
      mlt := s.mlt
      mex := s.mex
      gk := s.gk
      gx := s.gx
      kp := s.kp
      mnew := s.mnew
      fr := setPs_ok hrel g2.1.1 hbase
      fs := by
        refine ⟨fun i rv hi => ?_, ?_, s.fs⟩
        · rw [lk_cons] at hi
          split at hi
          · rename_i ei
            try dsimp only at ei
            subst ei
            cases hi
            refine ⟨_, rfl, ?_⟩
            simp only [RR]
            exact ⟨rfl, _, con, q, rfl, rfl, hl, rfl⟩
          · simp [lk] at hi
        · dsimp only
          split
          · exact fun i rv h => s.fr i rv (lk_pickS _ _ _ _ h)
          · exact s.fr
      ob := s.ob
      dj := s.dj }
  · rintro st' rv v w' hk ⟨M', β', τ', N', a', s', hr⟩
    obtain ⟨s2, hl2⟩ := s'.pop s.df s.sz
    exact hK _ _ _ hk ⟨M', β', τ', s2.set o.dst hd (by rw [hl2]; exact hr)⟩

theorem effR_sound (hE : Env2Ok P E) (s : Sim2 w0 M0 N st a as w) (hd : ∀ d, o.dst = some d → d < N) {H : (α : Type) → [DecidableEq α] → Tg → St → (St → RV → Option α) → Option α} (hH : HOk P w0 H) {lt : LT} {α : Type} [DecidableEq α] {k : St → Option α} {r : α} {ro : Option Nat} {n : Nat} (hro : ro = none ∨ noDf o) (h : effR E (H α) lt o st k = some r) :
    ROpI P ro n Q w0 M0 N o a as w k r := by
  have dflt : (match o.dst with | some _ => pureR E o st k | none => none) = some r → ROpI P ro n Q w0 M0 N o a as w k r := by
    intro h
    split at h
    · exact (pureR_sound hE s hd h).inR hro
    · cases h
  cases hop : o.op with
  | store t x y =>
    cases hdst : o.dst with
    | none => exact (store_sound hE s hop hdst h).inR hro
    | some d => refine dflt ?_; rw [hdst]; simpa only [effR, hop, hdst] using h
  | mapUpdate t m x y =>
    cases hdst : o.dst with
    | none => exact (map_sound hE s hop hdst h).inR hro
    | some d => refine dflt ?_; rw [hdst]; simpa only [effR, hop, hdst] using h
  | binOp op t x y u =>
    cases hdst : o.dst with
    | none => simp [effR, hop, hdst] at h
    | some d =>
      cases y with
      | const v =>
        simp only [effR, hop, hdst] at h
        exact (nilQ_sound hE s hd hop hdst h fun h => pureR_sound hE s hd h).inR hro
      | _ => refine dflt ?_; rw [hdst]; simpa only [effR, hop, hdst] using h
  | convert src dst x =>
    cases hdst : o.dst with
    | none => simp [effR, hop, hdst] at h
    | some d =>
      simp only [effR, hop, hdst] at h
      exact (same_sound hE s hd hop hdst h fun h => pureR_sound hE s hd h).inR hro
  | call c =>
    obtain ⟨callee, args, argTypes⟩ := c
    cases callee with
    | builtin b =>
      cases b with
      | append =>
        cases hdst : o.dst with
        | some d =>
          cases hfk : lt.fork.any (Nat.beq d) with
          | true =>
            simp only [effR, hop, hdst, hfk, cond_true] at h
            exact (fork_sound hE s hd hop hdst h).inR hro
          | false => exact (append_sound hE s hd hop hdst hfk h).inR hro
        | none => simp [effR, hop, hdst] at h
      | clear =>
        cases hdst : o.dst with
        | some d => refine dflt ?_; rw [hdst]; simpa only [effR, hop, hdst] using h
        | none =>
          simp only [effR, hop, hdst] at h
          exact (clr_sound hE s hop hdst h).inR hro
      | copy =>
        simp only [effR, hop] at h
        exact (cpy_sound hE s hd hop h).inR hro
      | _ =>
        refine dflt ?_
        cases hdst : o.dst with
        | some d => simpa only [effR, hop, hdst] using h
        | none => simp [effR, hop, hdst] at h
    | invoke r m =>
      refine dflt ?_
      cases hdst : o.dst with
      | some d => simpa only [effR, hop, hdst] using h
      | none => simp [effR, hop, hdst] at h
    | value f =>
      cases hdst : o.dst with
      | none =>
        simp only [effR, hop, hdst] at h
        split at h
        · rename_i g caps heq
          split at h
          · rename_i c hc
            exact (rec_rop hE s hd hop heq hc (by rw [hdst]; exact h)).inR hro
          split at h
          · rename_i hd'
            cases hd'
          split at h
          · exact (pureR_sound hE s hd h).inR hro
          · obtain ⟨hsz, h⟩ := bif_some h
            obtain ⟨cs, hcs, h⟩ := Option.bind_eq_some_iff.1 h
            exact (call_inline s hd hH hop heq hsz hcs (by rw [hdst]; exact h)).inR hro
        · rename_i id heq
          split at h
          · rename_i con q hl
            split at h
            · obtain ⟨hsz, h⟩ := bif_some h
              simp only [Bool.and_eq_true] at hsz
              exact call_yield s hd hH hop heq hl (Nat.eq_of_beq_eq_true hsz.1) (Nat.eq_of_beq_eq_true hsz.2) (by rw [hdst]; exact h)
            · cases h
          · cases h
        · cases h
      | some d =>
        simp only [effR, hop, hdst] at h
        split at h
        · rename_i g caps heq
          split at h
          · rename_i c hc
            exact (rec_rop hE s hd hop heq hc (by rw [hdst]; exact h)).inR hro
          split at h
          · rename_i c d' hc hd'
            cases hd'
            obtain ⟨q, h1, h2⟩ := giveK_pc (E := E) (st := st) _ (fun q : (e : Ty) × List e.den × Option Nat => k (setR (addN (newId st d) (.row q.1 q.2.1) (freeId (newId st d) (killO q.2.2 st))) (some d) (.row (newId st d)))) _ (by simpa only [withN_eq] using h)
            exact ROp.inR hro fun K hK => give_sound hE s hd hop heq hc hdst (h1 _ some) K fun a' w' s' => hK _ _ _ h2 s'
          split at h
          · exact (pureR_sound hE s hd h).inR hro
          · obtain ⟨hsz, h⟩ := bif_some h
            obtain ⟨cs, hcs, h⟩ := Option.bind_eq_some_iff.1 h
            exact (call_inline s hd hH hop heq hsz hcs (by rw [hdst]; exact h)).inR hro
        · rename_i id heq
          split at h
          · rename_i con q hl
            split at h
            · obtain ⟨hsz, h⟩ := bif_some h
              simp only [Bool.and_eq_true] at hsz
              exact call_yield s hd hH hop heq hl (Nat.eq_of_beq_eq_true hsz.1) (Nat.eq_of_beq_eq_true hsz.2) (by rw [hdst]; exact h)
            · cases h
          · cases h
        · cases h
  | _ =>
    refine dflt ?_
    cases hdst : o.dst with
    | some d => simpa only [effR, hop, hdst] using h
    | none => simp [effR, hop, hdst] at h

theorem opR_sound (hE : Env2Ok P E) (s : Sim2 w0 M0 N st a as w) (hd : ∀ d, o.dst = some d → d < N) {H : (α : Type) → [DecidableEq α] → Tg → St → (St → RV → Option α) → Option α} (hH : HOk P w0 H) {lt : LT} {α : Type} [DecidableEq α] {k : St → Option α} {r : α} {ro : Option Nat} {n : Nat} (hro : ro = none ∨ noDf o) (h : opR E (H α) lt o st k = some r) :
    ROpI P ro n Q w0 M0 N o a as w k r := by
  unfold opR at h
  split at h
  · exact effR_sound hE s hd hH hro h
  · obtain ⟨st', h', s'⟩ := frzAllK_ok _ _ _ h s
    exact effR_sound hE s' hd hH hro h'

theorem setBR_eq (g : Nat) (b : Bool) : ∀ (s : List (Nat × RV)), lk g s = some (.val ⟨.bool, b⟩) → setBR g b s = s
  | [], h => by simp [lk] at h
  | (j, x) :: r, h => by
    rw [lk_cons] at h
    simp only [setBR]
    split at h
    · rename_i e
      subst e
      cases h
      simp
    · rename_i e
      have : Nat.beq g j = false := by cases hb : Nat.beq g j with | false => rfl | true => exact absurd (Nat.eq_of_beq_eq_true hb) e
      simp only [this, cond_false, setBR_eq g b r h]

theorem cndR_eq {lt : LT} {c : Operand} {b : Bool} {st : St} (h : evR (some .bool) c st.s = .val ⟨.bool, b⟩) : cndR lt c b st = st := by
  unfold cndR
  split
  · rename_i i
    have hl : lk i st.s = some (.val ⟨.bool, b⟩) := by
      simp only [evR] at h
      cases hl : lk i st.s with
      | none => rw [hl] at h; cases h
      | some rv => rw [hl] at h; exact congrArg some h
    rw [setBR_eq i b st.s hl]
    cases lt.cnd.any (Nat.beq i) <;> rfl
  · rfl

theorem yielded_ok2 (s : Sm w0 M0 N M β τ st a as w) {ops : Array Oper} {j g : Nat} {b : Bool} (hg : (ops[j]?).bind (·.dst) = some g) (hl : lk g st.s = some (.val ⟨.bool, b⟩)) : yielded ops a.tmps j = some b := by
  obtain ⟨u, hu, u', e, hv⟩ := s.fr g _ hl
  cases e
  have hb := hv.bool
  simp [yielded, hg, hu, hb]

theorem opsR_sound (hE : Env2Ok P E) {H : (α : Type) → [DecidableEq α] → Tg → St → (St → RV → Option α) → Option α} (hH : HOk P w0 H) {lt : LT} {ops : Array Oper} {α : Type} [DecidableEq α] {k : St → Option α} {r : α} {ro : Option Nat} {n : Nat} (hro : ro = none ∨ ∀ o ∈ ops.toList, noDf o) (hQ : ∀ st a w, k st = some r → Sim2 w0 M0 N st a as w → Q .normal a w) : ∀ (l : List Oper) (st : St) (a : Act) (w : World), (∀ o ∈ l, o ∈ ops.toList) →
    opsR E (H α) lt ops l st k = some r → Sim2 w0 M0 N st a as w → (∀ o ∈ l, ∀ d, o.dst = some d → d < N) → wpListIn (fen ro) n P ops Q l a w
  | [], st, a, w, _, h, s, _ => hQ st a w h s
  | o :: rest, st, a, w, hm, h, s, hd => by
    refine wpListIn_step fun K hK => ?_
    have hdf : ro = none ∨ noDf o := hro.imp id fun h => h o (hm o (by simp))
    have hK' : ∀ st' a' w', opsR E (H α) lt ops rest st' k = some r → Sim2 w0 M0 N st' a' as w' → K a' w' := fun st' a' w' h' s' => hK a' w' (opsR_sound hE hH hro hQ rest st' a' w' (fun o' ho' => hm o' (by simp [ho'])) h' s' fun o' ho' => hd o' (by simp [ho']))
    have hdo := hd o (by simp)
    simp only [opsR] at h
    split at h
    · rename_i hg
      simp only [Region.wanted, hg, if_true]
      exact opR_sound (Q := Q) hE s hdo hH hdf h K hK'
    · rename_i j want hg
      split at h
      · rename_i g hgd
        split at h
        · rename_i b hlk
          obtain ⟨M, β, τ, s⟩ := s
          have hy := yielded_ok2 s hgd hlk
          have run : opR E (H α) lt o st (fun st => opsR E (H α) lt ops rest st k) = some r → Region.wanted o (yielded ops a.tmps) = true → (if Region.wanted o (yielded ops a.tmps) then o.wpIn (fen ro) n P a w K Q else (∀ f, o.about P w a.eval = some f → (fen ro).fn f) ∧ K (a.put o.dst undef) w) := by
            intro h hw
            rw [if_pos hw]
            exact opR_sound (Q := Q) hE ⟨M, β, τ, s⟩ hdo hH hdf h K hK'
          have skip : opsR E (H α) lt ops rest (setR st o.dst (.tup .unit)) k = some r → Region.wanted o (yielded ops a.tmps) = false → (if Region.wanted o (yielded ops a.tmps) then o.wpIn (fen ro) n P a w K Q else (∀ f, o.about P w a.eval = some f → (fen ro).fn f) ∧ K (a.put o.dst undef) w) := by
            intro h hw
            rw [if_neg (by simp [hw])]
            exact ⟨fun _ _ => trivial, hK' _ _ _ h ⟨M, β, τ, s.set o.dst hdo tup_unit⟩⟩
          cases b with
          | true =>
            rw [setBR_eq g true st.s hlk] at h
            cases want with
            | true => exact run h (by simp [Region.wanted, hg, hy])
            | false => exact skip h (by simp [Region.wanted, hg, hy])
          | false =>
            rw [setBR_eq g false st.s hlk] at h
            cases want with
            | true => exact skip h (by simp [Region.wanted, hg, hy])
            | false => exact run h (by simp [Region.wanted, hg, hy])
        · rename_i hlk
          obtain ⟨M, β, τ, s⟩ := s
          have hy := yielded_none s hgd hlk
          have hw : Region.wanted o (yielded ops a.tmps) = false := by simp [Region.wanted, hg, hy]
          rw [if_neg (by simp [hw])]
          exact ⟨fun _ _ => trivial, hK' _ _ _ h ⟨M, β, τ, s.set o.dst hdo tup_unit⟩⟩
        · cases h
      · cases h

theorem pruneR_sim (s : Sim2 w0 M0 N st a as w) (lt : LT) (c : Code) : Sim2 w0 M0 N (pruneR lt c st) a as w := by
  unfold pruneR
  split
  · split
    · obtain ⟨M, β, τ, s⟩ := s
      exact ⟨M, β, τ, s.pickS _⟩
    · exact s
  · exact s
theorem headR_sim (s : Sim2 w0 M0 N st a as w) (lt : LT) (c : Code) : Sim2 w0 M0 N (headR lt c st) a as w := by
  unfold headR
  split
  · split
    · exact (reroots_sim _ s).canon _
    · exact s
  · exact s

theorem frzHead_ok {lt : LT} {rg : Nat} {α : Type} {r : α} {k : St → Option α} (h : frzHead lt rg st k = some r) (s : Sim2 w0 M0 N st a as w) : ∃ st', k st' = some r ∧ Sim2 w0 M0 N st' a as w := by
  unfold frzHead at h
  split at h
  · exact frzAllK_ok _ _ _ h s
  · exact ⟨st, h, s⟩

/-- how a function that is gone through is called -/
theorem pushL_eq (lt : LT) (id : Nat) (ps : Array Tmp) (assign body : Code) (cs : List RV) (st : St) : ∃ k1 k2 : List (Nat × RV), (∀ i rv, lk i k1 = some rv → lk i st.s = some rv) ∧ (∀ i rv, lk i k2 = some rv → lk i st.s = some rv) ∧ (∀ p ∈ k1, ∃ rv, lk p.1 st.s = some rv) ∧
    pushL lt id ps assign body cs st = { s := ((.yl id :: cs).zipIdx 0).map fun p => (p.2, p.1), l := (id, .lp (conS k1 0 (maxS k1)) ⟨ps, assign, body, lt, .ready, none⟩) :: st.l, k := (0, [(0, .yl id)]) :: (st.b, k2) :: st.k, b := (st.b + 4001) * 4096 } := by
  unfold pushL
  rw [withN_eq]
  split
  · rename_i k1 k2 _
    exact ⟨pickS st.s k1, pickS st.s k2, fun i rv h => lk_pickS _ _ _ _ h, fun i rv h => lk_pickS _ _ _ _ h, fun p hp => by
      obtain ⟨v, hv⟩ := lk_of_mem hp
      exact ⟨v, lk_pickS _ _ _ _ hv⟩, rfl⟩
  · exact ⟨st.s, st.s, fun _ _ h => h, fun _ _ h => h, fun p hp => lk_of_mem hp, rfl⟩

/-- a loop over a function -/
theorem range_sound (s : Sim2 w0 M0 N st a as w) {H : (α : Type) → [DecidableEq α] → Tg → St → (St → RV → Option α) → Option α} (hH : HOk P w0 H) {α : Type} [DecidableEq α] {r : α} {lt : LT} {g : Operand} {ps : Array Tmp} {assign body : Code} {n : Nat}
    (hN : LqN N ⟨ps, assign, body, lt, .ready, none⟩) {kn : St → Option α} {kx : Nat → St → Option α} {kr : St → Option α}
    (hn : ∀ M0' st a w, Sub M0 M0' → kn st = some r → Sim2 w0 M0' N st a as w → Q .normal a w) (hx : ∀ M0' j st a w, Sub M0 M0' → kx j st = some r → Sim2 w0 M0' N st a as w → Q (.exit j) a w) (hr : ∀ M0' st a w, Sub M0 M0' → kr st = some r → Sim2 w0 M0' N st a as w → Q .ret a w)
    (h : (withN (newId st 4000) fun id => match evR none g (freeId id st).s with
      | .clo f caps => (listP caps).bind fun cs => H α (.fn f) (pushL lt id ps assign body cs (freeId id st)) fun st' _ => loopEnd kn kx kr st'
      | _ => none) = some r) : (Code.rangeFunc g ps assign body).wpIn (fen none) n P Q a w := by
  rw [withN_eq] at h
  obtain ⟨M, β, τ, s⟩ := s
  have sf := s.freeId (newId st 4000)
  have hid := freeId_none (newId st 4000) st
  generalize newId st 4000 = id at h sf hid
  generalize freeId id st = st0 at h sf hid
  split at h
  rotate_left
  · cases h
  rename_i f caps hf
  obtain ⟨cs, hcs, h⟩ := Option.bind_eq_some_iff.1 h
  have hfv := evR_ok sf.glob sf.fr none g
  rw [hf] at hfv
  simp only [RR] at hfv
  obtain ⟨_, us, e, hcap⟩ := hfv
  simp only [List.cons.injEq, and_true] at e
  have hrel := listP_ok hcs hcap
  refine wpIn_rangeFunc fun fn _ => ?_
  obtain ⟨k1, k2, hk1, hk2, hk3, hpush⟩ := pushL_eq lt id ps assign body cs st0
  rw [hpush] at h
  -- the two new blocks
  let D := w.heap.size
  let l := w.heap.size + 1
  let rec0 : Loop := { state := .ready, pending := none, fn, tmps := a.tmps, params := ps, assign, body, defers := w.heap.size }
  let w1 := (w.alloc (.deferred (some []))).alloc (.loop rec0)
  have hw1 : w1 = (w.alloc (.deferred (some []))).alloc (.loop rec0) := rfl
  have hL : w1.heap[l]? = some (.loop rec0) := by
    have := World.alloc_heap_new (w.alloc (.deferred (some []))) (.loop rec0)
    rwa [World.size_alloc] at this
  have hD : w1.heap[D]? = some (.deferred (some [])) := (Below.heap_alloc _ _ _ (by simp [D])).trans (World.alloc_heap_new w _)
  have s1 : Sm w0 M0 N M β τ st0 a as w1 := by
    have := sf.grow (Gr.alloc sf.mlt (.deferred (some [])))
    exact this.grow (Gr.alloc this.mlt (.loop rec0))
  have hsz : w0.heap.size ≤ w.heap.size := sf.bel.size
  have hold : ∀ id ob b, lk id st0.l = some ob → blk β τ id ob = some b → b < w.heap.size := fun id ob b h1 h2 => (sf.block h1 h2).1
  have hkpD : ∀ b, M0.kp b → b < w.heap.size := fun b k => (sf.kp b k).1.2
  have hMl : ∀ b o, M b o → b < w.heap.size := sf.mlt
  have s2 := s1.marked (D := D) hsz (fun k => by have := hkpD _ k; omega) hD (fun o m => by have := hMl _ _ m; omega) (fun id ob hl hb => by have := hold id ob _ hl hb; omega)
  have hsub := s1.sub_addD D
  have hmr : ∀ p ∈ k1, p.1 < a.tmps.size := fun p hp => by
    obtain ⟨rv, h1⟩ := hk3 p hp
    obtain ⟨u, h2, _⟩ := s2.fr _ _ h1
    exact (Array.getElem?_eq_some_iff.1 h2).1
  have hcon : RR M w1 β τ st0.l (conS k1 0 (maxS k1)) .li (rec0.tmps.toList.take (maxS k1)) := by
    have hfr : FrOk M w1 β τ st0.l k1 a := fun i rv hi => s1.fr i rv (hk1 i rv hi)
    have := conS_ok hfr (maxS k1) 0 (by have := maxS_le hmr; omega)
    simpa using this
  have hlq : LqOk ⟨ps, assign, body, lt, .ready, none⟩ rec0 := ⟨by have := s.sz; show LqN a.tmps.size _; rw [this]; exact hN, rfl, rfl, rfl, rfl, rfl⟩
  have s3 := s2.addG (id := id) (ob := .lp (conS k1 0 (maxS k1)) ⟨ps, assign, body, lt, .ready, none⟩) (bn := l) (v := undef) hid (Ext.refl _ _) s2.bel s2.mlt s2.mnew (fun _ _ => ⟨rfl, fun _ m => m⟩)
    (fun j ob b hl hb => ⟨rfl, fun _ m => m, fun e => by
      have h1 := hold j ob b hl hb
      simp only [nblk, Option.some.injEq] at e
      omega⟩)
    (fun β' τ' h1 _ hm => ⟨by rw [h1]; exact ⟨by show w0.heap.size ≤ w.heap.size + 1; omega, fun k => k.elim (fun k => by have := hkpD _ k; omega) (fun e => by simp only [l, D] at e; omega)⟩, ⟨rec0, by rw [h1]; exact hL, hlq, maxS k1, hcon.keep hm⟩, fun o m => by rw [h1] at m; have := hMl _ _ m; omega⟩)
  have hne : ∀ j o, lk j st0.l = some o → j ≠ id := fun j o h1 e => by rw [e, hid] at h1; cases h1
  have hmk : MapOk some st0.l β τ ((id, Ob.lp (conS k1 0 (maxS k1)) ⟨ps, assign, body, lt, .ready, none⟩) :: st0.l) (fun j => if j = id then l else β j) (fun j => if j = id then undef else τ j) := by
    intro i j o hf' hl'
    cases hf'
    have := hne i o hl'
    exact ⟨o, by rw [lk_cons, if_neg this]; exact hl', rfl, if_neg this, if_neg this⟩
  have ryl : RR M w1 (fun j => if j = id then l else β j) (fun j => if j = id then undef else τ j) ((id, Ob.lp (conS k1 0 (maxS k1)) ⟨ps, assign, body, lt, .ready, none⟩) :: st0.l) (.yl id) .sl [.func (.yield l) #[] #[]] := by
    simp only [RR]
    exact ⟨rfl, _, _, _, rfl, rfl, by rw [lk_cons, if_pos rfl], by simp⟩
  have hrel1 : Rel2 M w1 (fun j => if j = id then l else β j) (fun j => if j = id then undef else τ j) ((id, Ob.lp (conS k1 0 (maxS k1)) ⟨ps, assign, body, lt, .ready, none⟩) :: st0.l) (.yl id :: cs) (.func (.yield l) #[] #[] :: us) := by
    refine ⟨ryl, ?_⟩
    have hcap1 : RR M w1 β τ st0.l caps .li us := by
      have h1 := Gr.alloc sf.mlt (.deferred (some []))
      have h2 := Gr.alloc h1.lt (.loop rec0)
      exact (hcap.ext h1.ext).ext h2.ext
    exact listP_ok hcs (hcap1.keep hmk)
  have sim : ∀ m, (Value.func (.yield l) #[] #[] :: us).length ≤ m → Sim2 w0 (addD M0 M w1 D) m { s := ((.yl id :: cs).zipIdx 0).map fun p => (p.2, p.1), l := (id, .lp (conS k1 0 (maxS k1)) ⟨ps, assign, body, lt, .ready, none⟩) :: st0.l, k := (0, [(0, .yl id)]) :: (st0.b, k2) :: st0.k, b := (st0.b + 4001) * 4096 }
      (enterAct (Value.func (.yield l) #[] #[] :: us) m) (witY l :: { a with defers := mark D :: a.defers } :: as) w1 := fun m hm => ⟨M, _, _, {
    df := dfOk_nil s2.df.1
    sz := by simp only [enterAct, Array.size_append, List.size_toArray, Array.size_replicate]; omega
    bel := s3.bel
    mlt := s3.mlt
    mex := s3.mex
    gk := s3.gk
    gx := s3.gx
    kp := s3.kp
    mnew := s3.mnew
    fr := fun i rv h => by
      obtain ⟨_, h1⟩ := slots_at 0 (.yl id :: cs) rv h
      obtain ⟨u, hu, r⟩ := rel2_at hrel1 (by simpa using h1)
      exact ⟨u, enter_at (by simpa using hu), r⟩
    fs := by
      refine ⟨fun i rv hi => ?_, fun i rv hi => ?_, s3.fs⟩
      · rw [lk_cons] at hi
        split at hi
        · rename_i ei
          try dsimp only at ei
          subst ei
          cases hi
          exact ⟨_, rfl, ryl⟩
        · simp [lk] at hi
      · exact s3.fr i rv (hk2 i rv hi)
    ob := s3.ob
    dj := s3.dj }⟩
  obtain ⟨hent, hcall⟩ := hH.1 _ α f _ _ r (Value.func (.yield l) #[] #[] :: us) _ w1 h (by simp only [List.length_map, List.length_zipIdx]; exact rel2_len hrel1) sim
  refine ⟨l, [mark D], w1, { target := .fn (.func f) us.toArray, args := #[.func (.yield l) #[] #[]] }, w1, f, (Value.func (.yield l) #[] #[] :: us).toArray, w1, run_enterLoop_outer _ _ _ _ _, ?_, fun _ _ => trivial, ?_, fun hd => absurd hd (by simp [fen]), callsIn_fen.2 (hcall _ ?_)⟩
  · simp only [resolve, e]
    simp [go_sem]
  · simp only [invoke, go_sem]
    rw [show (#[.func (.yield l) #[] #[]] ++ us.toArray : Array Value) = (Value.func (.yield l) #[] #[] :: us).toArray by simp]
    exact hent _ w1
  · rintro st' rv v w3 hk ⟨M3, β3, τ3, N3, a3, s4, _⟩
    unfold loopEnd at hk
    obtain ⟨t, ht, hk⟩ := Option.bind_eq_some_iff.1 hk
    obtain ⟨hβ, hlt, r3, hr3, ⟨_, _, _, _, q4, q5⟩, _⟩ := topL_ok s4 ht
    have hbk : blk β3 τ3 t.1 (Ob.lp t.2.1 t.2.2) = some l := by simp only [blk, hβ]
    obtain ⟨b1, b2, b3, _⟩ := s4.block hlt hbk
    have s5 := (s4.kill t.1).putO (.loop { r3 with state := .exhausted }) b2.1 b2.2 b3 (fun j ob hj hb => by
      obtain ⟨hne, o0, h1, rfl⟩ := kill_inv hj
      rw [blk_map] at hb
      exact hne (s4.dj j t.1 o0 _ l h1 hlt hb hbk))
    obtain ⟨s6, _⟩ := s5.pop (N := 1) (dfOk_nil s2.df.1) rfl
    obtain ⟨s7, _⟩ := s6.pop (N := N) s2.df s2.sz
    have fin : t.2.2.state ≠ .busy → (Instr.endLoop l).run P w3 = .ok t.2.2.jump (w3.putObj l (.loop { r3 with state := .exhausted })) := fun hb => by
      rw [← q5]
      exact run_endLoop hr3 (by rw [q4]; exact hb)
    split at hk
    · rename_i h1 h2
      refine ⟨_, _, fin (by rw [h1]; simp), ?_⟩
      rw [h2]
      exact hn _ _ _ _ hsub hk ⟨M3, β3, τ3, s7⟩
    · rename_i h1 h2
      refine ⟨_, _, fin (by rw [h1]; simp), ?_⟩
      rw [h2]
      exact wpIn_ret (hr _ _ _ _ hsub hk ⟨M3, β3, τ3, s7⟩)
    · rename_i j h1 h2
      refine ⟨_, _, fin (by rw [h1]; simp), ?_⟩
      rw [h2]
      exact wpIn_exit (hx _ j _ _ _ hsub hk ⟨M3, β3, τ3, s7⟩)
    · cases hk

theorem lastR_sound (hE : Env2Ok P E) {H : (α : Type) → [DecidableEq α] → Tg → St → (St → RV → Option α) → Option α} (hH : HOk P w0 H) {lt : LT} {ops : Array Oper} {α : Type} [DecidableEq α] {kn : St → Option α} {r : α} {ro : Option Nat} {n : Nat} (hro : ro = none ∨ ∀ o ∈ ops.toList, noDf o) (hd : ∀ o ∈ ops.toList, ∀ d, o.dst = some d → d < N)
    (hQ : ∀ st a w, kn st = some r → Sim2 w0 M0 N st a as w → Q .normal a w) {st : St} {a : Act} {w : World} (h : lastR E (H α) lt ops st kn = some r) (s : Sim2 w0 M0 N st a as w) : wpAnyIn (fen ro) n P .any ops Q ops.size (Array.replicate ops.size false) a w := by
  unfold lastR at h
  split at h
  · rename_i o ho
    obtain ⟨hok, h⟩ := bif_some h
    obtain ⟨hbk0, h⟩ := bif_some h
    obtain ⟨st', h', s'⟩ := frzAllK_ok _ _ _ h s
    obtain ⟨ops0, rfl⟩ : ∃ ops0, ops = Array.push ops0 o := by
      rw [Array.back?_eq_some_iff] at ho
      exact ho
    rw [Array.pop_push] at hbk0 h'
    simp only [lastOk, Array.pop_push, Bool.and_eq_true] at hok
    obtain ⟨k1, k2, k3, k4⟩ := hok
    have hg : o.guard = none := by
      cases hg : o.guard with
      | none => rfl
      | some _ => simp [hg] at k1
    have hmem : ∀ (i : Nat) (x : Oper), ops0[i]? = some x → x ∈ (ops0.push o).toList := fun i x hx => by
      rw [Array.toList_push]
      exact List.mem_append_left _ (Array.mem_toList_iff.2 (Array.mem_of_getElem? hx))
    have ho' : o ∈ (ops0.push o).toList := by simp
    have hS := drawR_sound (P := P) (Q := lastQ P ro n o Q) hE hbk0 (fun i x hx => hd x (hmem i x hx)) (fun st a w hk s => opR_sound (n := n) hE s (hd o ho') hH (hro.imp id fun h => h o ho') hk (fun a w => Q .normal a w) fun st' a' w' hk' s' => hQ st' a' w' hk' s') h' s'
    have hz : ∀ m i, Lst (Array.replicate m false) i = false := by
      intro m i
      unfold Lst
      by_cases hi : i < m <;> simp [hi]
    have hc0 : ∀ m n, cnt (Lst (Array.replicate m false)) n = 0 := by
      intro m n
      induction n with
      | zero => rfl
      | succ n ih => simp [cnt, ih, hz]
    have := lastIn (P := P) (Q := Q) (n := n) hro k2 (fun j hj => List.all_eq_true.1 k3 j (List.mem_range.2 hj)) hg (fun i x j wnt hx hgx => by
      have := List.all_eq_true.1 k4 x (Array.mem_toList_iff.2 (Array.mem_of_getElem? hx))
      rw [hgx] at this
      exact Nat.lt_of_lt_of_le (Nat.lt_succ_self _) (Nat.le_of_ble_eq_true this)) ops0.size (Array.replicate ops0.size false) a w (by simp) (fun i m hi => by rw [lst_push, hz] at hi; cases hi) (by rw [hc0]; omega) hS
    rw [show Array.replicate (ops0.push o).size false = (Array.replicate ops0.size false).push false by simp [Array.replicate_succ], Array.size_push]
    exact this
  · cases h

theorem stepR_scope {b : Frame} {k : List Item} {cs : List Frame} {a : Act} {w : World} {c : Code} : step P (lone (b.atR a (.code (.scope c) :: k)) cs w) = .next (lone (b.atR a (.code c :: .inScope c :: k)) cs w) :=
  step_lone_go (by simp [Go.stepG, Go.stepG.exec, Frame.atR])
theorem stepR_inScope {b : Frame} {k : List Item} {cs : List Frame} {a : Act} {w : World} {c : Code} : step P (lone (b.atR a (.inScope c :: k)) cs w) = .next (lone (b.atR a k) cs w) :=
  step_lone_go (by simp [Go.stepG, Go.stepG.exec, Frame.atR])
/-- a scope in which no goto is taken -/
theorem wpIn_scope {F : Fence} {n : Nat} {Q : Exit → Act → World → Prop} {a : Act} {w : World} {c : Code} (h : c.wpIn F n P (Exit.noGoto Q) a w) : (Code.scope c).wpIn F n P Q a w := by
  intro b k cs hro hb hr
  have h0 : (lone (b.atR a (.code (.scope c) :: k)) cs w).fenced P F := fenced_calm hb hr rfl
  obtain ⟨e, a₁, w₁, hq, harr⟩ := h b (.inScope c :: k) cs hro hb hr
  cases e with
  | normal => exact ⟨.normal, a₁, w₁, hq, .head h0 stepR_scope (StepsIn.trans harr (.one (fenced_calm hb hr rfl) stepR_inScope))⟩
  | exit id =>
    have hx : exitTo id (.inScope c :: k) = exitTo id k := by simp [exitTo]
    exact ⟨_, a₁, w₁, hq, fun k' hk => .head h0 stepR_scope (harr.1 k' (by rw [hx]; exact hk)),
      fun hr' hk => let ⟨k₁, h1, h2⟩ := harr.2 hr' (by rw [hx]; exact hk); ⟨k₁, h1, .head h0 stepR_scope h2⟩⟩
  | goto l => exact hq.elim
  | ret => exact ⟨_, a₁, w₁, hq, .of_steps (.one h0 stepR_scope) harr⟩
  | panic ch => exact ⟨_, a₁, w₁, hq, .of_steps (.one h0 stepR_scope) harr⟩
  | outgrown => exact ⟨_, a₁, w₁, hq, .of_steps (.one h0 stepR_scope) harr⟩

theorem denR_sound (hE : Env2Ok P E) (Nf : Nat) {H : (α : Type) → [DecidableEq α] → Tg → St → (St → RV → Option α) → Option α} (hH : HOk P w0 H) {lt : LT} {α : Type} [DecidableEq α] {r : α} (ro : Option Nat) (n : Nat) : ∀ (c : Code), dstsOk N c = true → (ro = none ∨ noRF c = true) → ∀ (M0 : Bs) (kn : St → Option α) (kx : Nat → St → Option α) (kr : St → Option α) (Q : Exit → Act → World → Prop),
    (∀ M0' st a w, Sub M0 M0' → kn st = some r → Sim2 w0 M0' N st a as w → Q .normal a w) → (∀ M0' j st a w, Sub M0 M0' → kx j st = some r → Sim2 w0 M0' N st a as w → Q (.exit j) a w) → (∀ M0' st a w, Sub M0 M0' → kr st = some r → Sim2 w0 M0' N st a as w → Q .ret a w) →
    ∀ st a w, denR E (H α) lt Nf c kn kx kr st = some r → Sim2 w0 M0 N st a as w → c.wpIn (fen ro) n P Q a w := by
  intro c
  induction c with
  | skip => intro _ _ M0 kn kx kr Q hn hx hr st a w h s; exact wpIn_skip (hn M0 st a w (.refl _) h s)
  | region id ops draw =>
    intro hd hnr M0 kn kx kr Q hn hx hr st0 a w h0 s0
    simp only [dstsOk] at hd
    simp only [denR] at h0
    have hdf : ro = none ∨ ∀ o ∈ ops.toList, noDf o := hnr.imp (fun h => h) fun h o ho => noDf_of h ho
    have hn' : ∀ st a w, kn st = some r → Sim2 w0 M0 N st a as w → Q .normal a w := fun st a w h s => hn M0 st a w (.refl _) h s
    obtain ⟨st, h, s⟩ := frzHead_ok h0 s0
    clear h0 s0
    cases draw with
    | false =>
      simp only [cond_false] at h
      exact wpIn_region_list (opsR_sound hE hH hdf hn' _ st a w (fun _ h => h) h s fun o ho => dsts_of hd ho)
    | true =>
      simp only [cond_true] at h
      cases hlst : lt.lst.any (Nat.beq id) with
      | true =>
        rw [hlst, cond_true] at h
        exact wpIn_region_any hE.mx (lastR_sound hE hH hdf (fun o ho => dsts_of hd ho) hn' h (by obtain ⟨M, β, τ, s⟩ := s; exact ⟨M, β, τ, s.grow (Gr.drew s.mlt)⟩))
      | false =>
      rw [hlst, cond_false] at h
      obtain ⟨hok, h⟩ := bif_some h
      obtain ⟨st', h', s'⟩ := frzAllK_ok _ _ _ h s
      exact wpIn_region_any hE.mx (wpAnyIn_of_S hdf _ _ _ _ (drawR_sound hE hok (fun i o ho => dsts_of hd (Array.mem_toList_iff.2 (Array.mem_of_getElem? ho))) hn' h' (by obtain ⟨M, β, τ, s'⟩ := s'; exact ⟨M, β, τ, s'.grow (Gr.drew s'.mlt)⟩)))
  | seq a b iha ihb =>
    intro hd hnr M0 kn kx kr Q hn hx hr st ac w h s
    simp only [dstsOk, Bool.and_eq_true] at hd
    simp only [noRF, Bool.and_eq_true] at hnr
    simp only [denR] at h
    refine wpIn_seq (iha hd.1 (hnr.imp id (·.1)) M0 _ kx kr _ ?_ ?_ ?_ st ac w h s)
    · intro M1 st' a' w' hs1 h' s'
      have next : ∀ st'', denR E (H α) lt Nf b kn kx kr st'' = some r → Sim2 w0 M1 N st'' a' as w' → b.wpIn (fen ro) n P Q a' w' := fun st'' h'' s'' =>
        ihb hd.2 (hnr.imp id (·.2)) M1 kn kx kr Q (fun M2 st a w hs2 => hn M2 st a w (hs1.trans hs2)) (fun M2 j st a w hs2 => hx M2 j st a w (hs1.trans hs2)) (fun M2 st a w hs2 => hr M2 st a w (hs1.trans hs2)) st'' a' w' h'' s''
      unfold seqK at h'
      cases hj : isJoin lt b with
      | true =>
        rw [hj] at h'
        exact next _ h' (headR_sim s' _ _)
      | false =>
        rw [hj] at h'
        exact next _ h' (pruneR_sim s' _ _)
    · intro M1 j st' a' w' hs1 h' s'; exact hx M1 j st' a' w' hs1 h' s'
    · intro M1 st' a' w' hs1 h' s'; exact hr M1 st' a' w' hs1 h' s'
  | cond c x y ihx ihy =>
    intro hd hnr M0 kn kx kr Q hn hx hr st a w h s
    simp only [dstsOk, Bool.and_eq_true] at hd
    simp only [noRF, Bool.and_eq_true] at hnr
    simp only [denR] at h
    split at h
    · rename_i t heq
      have hv : a.eval c = .bool t := by
        obtain ⟨M, β, τ, s⟩ := s
        have := evR_ok s.glob s.fr (some .bool) c
        rw [heq] at this
        obtain ⟨u, e, hv⟩ := this
        simp only [List.cons.injEq, and_true] at e
        rw [e]
        exact hv.bool
      refine wpIn_cond hv ?_
      cases t with
      | true =>
        rw [cndR_eq heq] at h
        exact ihx hd.1 (hnr.imp id (·.1)) M0 kn kx kr Q hn hx hr st a w h s
      | false =>
        rw [cndR_eq heq] at h
        exact ihy hd.2 (hnr.imp id (·.2)) M0 kn kx kr Q hn hx hr st a w h s
    · cases h
  | block id c ih =>
    intro hd hnr M0 kn kx kr Q hn hx hr st a w h s
    simp only [dstsOk] at hd
    simp only [noRF] at hnr
    simp only [denR] at h
    refine wpIn_block (ih hd hnr M0 kn _ kr _ ?_ ?_ ?_ st a w h s)
    · intro M1 st' a' w' hs1 h' s'; exact hn M1 st' a' w' hs1 h' s'
    · intro M1 j st' a' w' hs1 h' s'
      simp only [Exit.inBlock]
      cases hb : Nat.beq j id with
      | true =>
        have := Nat.eq_of_beq_eq_true hb
        subst this
        simp only [hb, cond_true] at h'
        simpa using hn M1 st' a' w' hs1 h' s'
      | false =>
        have hne : j ≠ id := fun h => by subst h; simp at hb
        simp only [hb, cond_false] at h'
        simpa [hne] using hx M1 j st' a' w' hs1 h' s'
    · intro M1 st' a' w' hs1 h' s'; exact hr M1 st' a' w' hs1 h' s'
  | loop c ih =>
    intro hd hnr M0 kn kx kr Q hn hx hr st a w h s
    simp only [dstsOk] at hd
    simp only [noRF] at hnr
    simp only [denR] at h
    refine wpIn_loop_rounds Nf ?_
    have key : ∀ (m : Nat) (M1 : Bs) (st : St) (a : Act) (w : World), Sub M0 M1 → iterR (fun self st => denR E (H α) lt Nf c (fun st => self (headR lt c st)) kx kr st) m st = some r → Sim2 w0 M1 N st a as w → Code.roundsIn (fen ro) n P c Q m a w := by
      intro m
      induction m with
      | zero => intro M1 st a w _ h _; cases h
      | succ m ihm =>
        intro M1 st a w hs1 h s
        rw [roundsIn_succ]
        refine ih hd hnr M1 _ kx kr _ ?_ ?_ ?_ st a w h s
        · intro M2 st' a' w' hs2 h' s'
          exact ihm M2 _ a' w' (hs1.trans hs2) h' (headR_sim s' _ _)
        · intro M2 j st' a' w' hs2 h' s'; exact hx M2 j st' a' w' (hs1.trans hs2) h' s'
        · intro M2 st' a' w' hs2 h' s'; exact hr M2 st' a' w' (hs1.trans hs2) h' s'
    exact key Nf M0 _ a w (.refl _) h (headR_sim s _ _)
  | exit id => intro _ _ M0 kn kx kr Q hn hx hr st a w h s; exact wpIn_exit (hx M0 id st a w (.refl _) h s)
  | ret => intro _ _ M0 kn kx kr Q hn hx hr st a w h s; exact wpIn_ret (hr M0 st a w (.refl _) h s)
  | rangeFunc g ps x y _ _ =>
    intro hd hnr M0 kn kx kr Q hn hx hr st a w h s
    rcases hnr with rfl | hnr
    · simp only [dstsOk, Bool.and_eq_true] at hd
      simp only [denR] at h
      exact range_sound (lt := lt) s hH ⟨⟨hd.1, hd.2.1, hd.2.2.1⟩, hd.2.2.2.1, hd.2.2.2.2⟩ hn hx hr h
    · cases hnr
  | scope c ih =>
    intro hd hnr M0 kn kx kr Q hn hx hr st a w h s
    simp only [dstsOk] at hd
    simp only [noRF] at hnr
    simp only [denR] at h
    exact wpIn_scope (ih hd hnr M0 kn kx kr (Exit.noGoto Q) (fun M1 st a w hs h s => hn M1 st a w hs h s) (fun M1 j st a w hs h s => hx M1 j st a w hs h s) (fun M1 st a w hs h s => hr M1 st a w hs h s) st a w h s)
  | label _ => intro _ _ M0 kn kx kr Q hn hx hr st a w h s; exact wpIn_label (hn M0 st a w (.refl _) h s)
  | goto _ => intro _ _ _ kn kx kr Q hn hx hr st a w h s; simp [denR] at h
  | refuse _ => intro _ _ _ kn kx kr Q hn hx hr st a w h s; simp [denR] at h

/-! ### results -/
theorem resR_ok (hE : Env2Ok P E) (s : Sm w0 M0 N M β τ st a as w) : ∀ (rs : List ResultVar) (rvs : List RV), resR E st rs = some rvs →
    ∃ us : List Value, (rs.mapM (resSem a.tmps)).run P w = .ok us w ∧ Rel2 M w β τ st.l rvs us
  | [], rvs, h => by simp [resR] at h; subst h; exact ⟨[], by simp, trivial⟩
  | .tmp t :: r, rvs, h => by
    simp only [resR] at h
    obtain ⟨rv, hrv, h⟩ := Option.bind_eq_some_iff.1 h
    obtain ⟨ws, hw, h⟩ := Option.bind_eq_some_iff.1 h
    cases h
    obtain ⟨us, h1, h2⟩ := resR_ok hE s r ws hw
    obtain ⟨u, hu, hv⟩ := s.fr _ _ hrv
    refine ⟨u :: us, ?_, hv, h2⟩
    simp only [List.mapM_cons, resSem, Sem.run_bind, Sem.run_pure, Result.andThen_ok, h1]
    simp [Array.getD_eq_getD_getElem?, hu]
  | .cell t T :: r, rvs, h => by
    simp only [resR] at h
    split at h
    · rename_i i heq
      split at h
      · rename_i ty con hl
        obtain ⟨hc, h⟩ := bif_some h
        obtain ⟨ws, hw, h⟩ := Option.bind_eq_some_iff.1 h
        cases h
        obtain ⟨us, h1, h2⟩ := resR_ok hE s r ws hw
        obtain ⟨u, hu, hv⟩ := s.fr _ _ heq
        obtain ⟨ob1, off, t', hl', ho, hval⟩ := loc_inv hv
        rw [hl] at hl'
        cases hl'
        have hz : offP ty [] = some (0, ty) := by cases ty <;> rfl
        simp only [Ob.shape, offS, hz, Option.some.injEq, Prod.mk.injEq] at ho
        obtain ⟨rfl, rfl⟩ := ho
        obtain ⟨_, ⟨cs, T', hb, rc⟩, _⟩ := s.ob i _ hl
        refine ⟨toV ty cs :: us, ?_, rc.sl_of_ce, h2⟩
        simp only [List.mapM_cons, resSem, Sem.run_bind]
        have := load_cells (hE.tab _ _ (tyIs_eq hc)) (off := 0) rc (fun j hj => by rw [cell_of_row _ _ _ _ _ _ hb]; simp)
        simp only [Instr.loadAt, Instr.sureAddr, Sem.run_bind, Sem.run_pure, Result.andThen_ok] at this
        simp only [Array.getD_eq_getD_getElem?, hu, Option.getD_some, hval, asAddr, Sem.run_pure, Result.andThen_ok]
        rw [this]
        simp [h1]
      · cases h
    · cases h

theorem results_run {fn : Func} {us : List Value} {tmps : Array Value} (h : (fn.results.toList.mapM (resSem tmps)).run P w = .ok us w) : (results fn tmps).run P w = .ok (retV us) w := by
  unfold results
  rw [Array.mapM_eq_mapM_toList]
  unfold resSem at h
  simp only [Sem.run_bind, Sem.run_map]
  erw [h]
  rfl

/-- a function's body, and what is known when it is left -/
theorem body_calls (hE : Env2Ok P E) (Nf : Nat) {H : (α : Type) → [DecidableEq α] → Tg → St → (St → RV → Option α) → Option α} (hH : HOk P w0 H) {lt : LT} {α : Type} [DecidableEq α] {r : α} {f : FuncId} {fn : Func} {c : Code} (hf : P.funcs[f]? = some fn) (hb : fn.body = some c) (hd : dstsOk fn.ntmps c = true) {fin : St → Option α} {args : List Value} {R : Ending → World → Prop}
    (h : denR E (H α) lt Nf c fin (fun _ _ => none) fin st = some r) (s : Sim2 w0 M0 fn.ntmps st (enterAct args fn.ntmps) as w)
    (hR : ∀ st a w', fin st = some r → Sim2 w0 M0 fn.ntmps st a as w' → ∃ v, (results fn a.tmps).run P w' = .ok v w' ∧ R (.returned v) w') : Calls P f args.toArray w R := by
  obtain ⟨M, β, τ, s⟩ := s
  refine calls_of_wpM hf hb ?_
  -- from here on blocks that have to stay are no marks
  have s0 : Sm w0 { M0 with kp0 := M0.kp } fn.ntmps M β τ st (enterAct args fn.ntmps) as w :=
    { df := dfOk_nil fun _ h => h, sz := s.sz, bel := s.bel, mlt := s.mlt, mex := s.mex, gk := s.gk, gx := s.gx, kp := s.kp, mnew := s.mnew, fr := s.fr, fs := s.fs, ob := s.ob, dj := s.dj }
  have fin' : ∀ (M1 : Bs) (st : St) (a : Act) (w' : World), Sub { M0 with kp0 := M0.kp } M1 → fin st = some r → Sim2 w0 M1 fn.ntmps st a as w' →
      ∃ l : List Nat, a.defers = l.map mark ∧ l.Nodup ∧ (∀ D ∈ l, w'.heap[D]? = some (.deferred (some []))) ∧ ∃ v, (results fn a.tmps).run P (takeW w' l) = .ok v (takeW w' l) ∧ R (.returned v) (takeW w' l) := by
    intro M1 st a w' hs h ⟨M', β', τ', s'⟩
    obtain ⟨_, l, e, nd, hl⟩ := s'.df
    have hh : ∀ D ∈ l, w'.heap[D]? = some (.deferred (some [])) := fun D hD => (s'.kp D (hl D hD).2.1.1).1.1.trans (hl D hD).2.2.1
    have s1 := (s'.unsub (M0 := { M0 with kp0 := M0.kp }) (a' := { a with defers := [] }) hs rfl (dfOk_nil fun _ h => h))
    have s2 : Sm w0 M0 fn.ntmps M' β' τ' st { a with defers := [] } as w' :=
      { df := dfOk_nil s.df.1, sz := s1.sz, bel := s1.bel, mlt := s1.mlt, mex := s1.mex, gk := s1.gk, gx := s1.gx, kp := s1.kp, mnew := s1.mnew, fr := s1.fr, fs := s1.fs, ob := s1.ob, dj := s1.dj }
    have s3 := s2.takes l fun D hD => by
      obtain ⟨g1, g2, g3, g4⟩ := hl D hD
      refine ⟨g1, fun k => g2.2 (by rw [hs.k0]; exact k), fun o m => g4 o ((s'.kp D g2.1).2 o m), fun id ob h1 h2 => (s'.block h1 h2).2.1.2 g2.1⟩
    obtain ⟨v, h1, h2⟩ := hR st { a with defers := [] } (takeW w' l) h ⟨M', β', τ', s3⟩
    exact ⟨l, e, nd, hh, v, h1, h2⟩
  refine (wpIn_wide (n := 0)).1 (denR_sound hE Nf hH none 0 c hd (.inl rfl) _ fin (fun _ _ => none) fin _ ?_ ?_ ?_ st _ w h ⟨M, β, τ, s0⟩)
  · intro M1 st a w' hs h s; exact fin' M1 st a w' hs h s
  · intro M1 j st a w' hs h s; cases h
  · intro M1 st a w' hs h s; exact fin' M1 st a w' hs h s

theorem hnd_ok (hE : Env2Ok P E) (Nf : Nat) : ∀ n, HOk P w0 (fun α _ => hnd (α := α) E Nf n)
  | 0 => ⟨fun M0 α _ f st k r args as w h => by simp [hnd] at h, fun M0 α _ st k r n N l a as w t h => by simp [hnd] at h⟩
  | n + 1 => by
    refine ⟨fun M0 α _ f st k r args as w h hlen hs => ?_, fun M0 α _ st k r m N l a as w t h ht hN hs R hR => ?_⟩
    · simp only [hnd] at h
      split at h
      · rename_i fn lt hl
        obtain ⟨hf, hn, hdst⟩ := hE.inl _ _ _ hl
        split at h
        · rename_i c hb
          obtain ⟨hble, h⟩ := bif_some h
          have hle : args.length ≤ fn.ntmps := by rw [← hlen]; exact Nat.le_of_ble_eq_true hble
          refine ⟨enters_of hf hb hn, fun R hR => body_calls hE Nf (hnd_ok hE Nf n) hf hb (hdst c hb) h (hs fn.ntmps hle) ?_⟩
          intro st a w' h s
          obtain ⟨M, β, τ, s⟩ := s
          obtain ⟨rvs, h1, h2⟩ := Option.bind_eq_some_iff.1 h
          obtain ⟨us, h3, h4⟩ := resR_ok hE s _ _ h1
          exact ⟨_, results_run h3, hR _ _ _ _ h2 ⟨M, β, τ, _, a, s, resRV_ok h4⟩⟩
        · cases h
      · cases h
    · simp only [hnd, ht, Option.bind_some] at h
      obtain ⟨⟨hps, hda, hdb⟩, hra, hrb⟩ := hN
      -- the end of a round
      have fin : ∀ (jump : Option Code) (b : Bool) (M1 : Bs) (st : St) (a : Act) (w' : World), jump.isNone = b → Sub M0 M1 → endR jump b k st = some r → Sim2 w0 M1 N st a (witY l :: as) w' → ∃ v w'', (Instr.endRound l jump).run P w' = .ok v w'' ∧ R (.returned v) w'' := by
        rintro jump b M1 st a w' hj hs1 h ⟨M', β', τ', s'⟩
        unfold endR at h
        obtain ⟨t1, ht1, h⟩ := Option.bind_eq_some_iff.1 h
        obtain ⟨hβ, hl1, r1, hr1, ⟨q1, q2, q3, q4, q5, q6⟩, _⟩ := topL_ok s' ht1
        split at h
        rotate_left
        · cases h
        have hst : (if jump.isNone then LoopState.ready else .done) = bif b then .ready else .done := by subst hj; cases jump <;> rfl
        have s2 := s'.setLp (r := r1) (q' := { t1.2.2 with state := bif b then .ready else .done, jump := jump }) (r' := { r1 with state := if jump.isNone then .ready else .done, pending := jump }) hl1 (by rw [hβ]; exact hr1) rfl ⟨q1, q2, q3, q4, hst, rfl⟩
        obtain ⟨s3, hl3⟩ := s2.pop (N := 1) (dfOk_nil s'.df.1) rfl
        refine ⟨_, _, run_endRound jump hr1, hR _ _ _ _ h ⟨M', β', τ', 1, witY l, ?_, ?_⟩⟩
        · rw [hβ] at s3
          exact s3.unsub hs1 rfl (dfOk_nil (by obtain ⟨_, _, _, s0⟩ := hs; exact s0.df.1))
        · rw [hj]
          exact ⟨_, rfl, VOk.mk_bool⟩
      refine denR_sound hE Nf (hnd_ok hE Nf n) (some l) m t.2.2.assign hda (.inr hra) M0 _ _ _ _ ?_ ?_ ?_ st a w h hs
      · rintro M1 st1 a1 w1 hs1 h1 ⟨M', β', τ', s1⟩
        unfold beginR at h1
        obtain ⟨t1, ht1, h1⟩ := Option.bind_eq_some_iff.1 h1
        obtain ⟨hβ, hl1, r1, hr1, ⟨q1, q2, q3, q4, q5, q6⟩, _⟩ := topL_ok s1 ht1
        split at h1
        rotate_left
        · cases h1
        rename_i hq
        have s2 := s1.setLp (r := r1) (q' := { t1.2.2 with state := .busy }) (r' := { r1 with state := .busy }) hl1 (by rw [hβ]; exact hr1) rfl ⟨q1, q2, q3, q4, rfl, q6⟩
        rw [hβ] at s2
        refine ⟨_, run_beginRound hr1 (by rw [q5]; exact hq), ?_⟩
        refine denR_sound hE Nf (hnd_ok hE Nf n) (some l) m t.2.2.body hdb (.inr hrb) M1 _ _ _ _ ?_ ?_ ?_ _ a1 _ h1 ⟨M', β', τ', s2⟩
        · intro M2 st2 a2 w2 hs2 h2 s2; exact fin none true M2 st2 a2 w2 rfl (hs1.trans hs2) h2 s2
        · intro M2 j st2 a2 w2 hs2 h2 s2; exact fin (some (.exit j)) false M2 st2 a2 w2 rfl (hs1.trans hs2) h2 s2
        · intro M2 st2 a2 w2 hs2 h2 s2; exact fin (some .ret) false M2 st2 a2 w2 rfl (hs1.trans hs2) h2 s2
      · intro M1 j st a w _ h _; cases h
      · intro M1 st a w _ h _; cases h
end
end Go.Lift
