/- Calls that are read on the spot; code; a function is what its wider reading says. -/
import Derived.Test.YtinhcjeilebooaaDoorRiU
import Derived.Test.YtinhcjeilebooaaDoorRiS
namespace Go.Lift
open Go.RowKit

section
variable {P : Program} {E : Env2} {Q : Exit → Act → World → Prop} {o : Oper} {w0 : World} {M0 : Bs} {N : Nat} {M M' : Own} {β : Nat → Nat} {τ : Nat → Value} {st st' : St} {a : Act} {as : List Act} {w w' : World} {id : Nat}

/-- a state behind a call, and what the call gave -/
def Ret (w0 : World) (M0 : Bs) (st : St) (rv : RV) (v : Value) (as : List Act) (w : World) : Prop := ∃ M β τ N a, Sm w0 M0 N M β τ st a as w ∧ RR M w β τ st.l rv .sl [v]

/-- what is asked of those that read calls on the spot -/
def HOk (P : Program) (w0 : World) (M0 : Bs) (H : (α : Type) → [DecidableEq α] → FuncId → St → (St → RV → Option α) → Option α) : Prop :=
  ∀ (α : Type) [DecidableEq α] (f : FuncId) (st : St) (k : St → RV → Option α) (r : α) (args : List Value) (as : List Act) (w : World), H α f st k = some r → st.s.length = args.length → (∀ m, args.length ≤ m → Sim2 w0 M0 m st (enterAct args m) as w) →
    (∀ (args : Array Value) (w : World), (callFunc f args).run P w = .ok (.enter f args) w) ∧
    ∀ R : Ending → World → Prop, (∀ st' rv v w', k st' rv = some r → Ret w0 M0 st' rv v as w' → R (.returned v) w') → Calls P f args.toArray w R

/-- the state in which one is called -/
theorem push_eq (lt : LT) (d : Nat) (args : List RV) (st : St) : Go.Lift.push lt d args st = { s := (args.zipIdx 0).map fun p => (p.2, p.1), l := st.l, k := (st.b, match lk d lt.keep with | some ks => pickS st.s ks | none => st.s) :: st.k, b := (st.b + d + 1) * 4096 } := withN_eq _ _

theorem Sm.push (s : Sm w0 M0 N M β τ st a as w) {lt : LT} {d : Nat} {rvs : List RV} {args : List Value} (hr : Rel2 M w β τ st.l rvs args) {m : Nat} (hm : args.length ≤ m) : Sm w0 M0 m M β τ (Go.Lift.push lt d rvs st) (enterAct args m) (a :: as) w := by
  rw [push_eq]
  exact {
    df := rfl
    sz := by simp [enterAct]; omega
    bel := s.bel
    mlt := s.mlt
    mex := s.mex
    gk := s.gk
    gx := s.gx
    kp := s.kp
    mnew := s.mnew
    fr := fun i rv h => by
      obtain ⟨_, h1⟩ := slots_at 0 rvs rv h
      obtain ⟨u, hu, r⟩ := rel2_at hr (by simpa using h1)
      exact ⟨u, enter_at (by simpa using hu), r⟩
    fs := by
      refine ⟨?_, s.fs⟩
      dsimp only
      split
      · exact fun i rv h => s.fr i rv (lk_pickS _ _ _ _ h)
      · exact s.fr
    ob := s.ob
    dj := s.dj }

theorem Sm.pop {N' : Nat} {a' : Act} (s : Sm w0 M0 N' M β τ st a' (a :: as) w) (hdf : a.defers = []) (hsz : a.tmps.size = N) : Sm w0 M0 N M β τ (Go.Lift.pop st) a as w ∧ (Go.Lift.pop st).l = st.l := by
  have hfs := s.fs
  unfold Go.Lift.pop
  cases hk : st.k with
  | nil => rw [hk] at hfs; exact hfs.elim
  | cons p k =>
    rw [hk] at hfs
    exact ⟨{ df := hdf, sz := hsz, bel := s.bel, mlt := s.mlt, mex := s.mex, gk := s.gk, gx := s.gx, kp := s.kp, mnew := s.mnew, fr := hfs.1, fs := hfs.2, ob := s.ob, dj := s.dj }, rfl⟩

theorem call_inline (s : Sim2 w0 M0 N st a as w) (hd : ∀ d, o.dst = some d → d < N) {H : (α : Type) → [DecidableEq α] → FuncId → St → (St → RV → Option α) → Option α} (hH : HOk P w0 M0 H) {α : Type} [DecidableEq α] {k : St → Option α} {r : α} {lt : LT} {f : Operand} {args : Array Operand} {argTypes : Array TypeId} {g : FuncId} {caps : RV} {cs : List RV}
    (hop : o.op = .call { callee := .value f, args := args, argTypes := argTypes }) (hf : evR none f st.s = .clo g caps) (hsz : Nat.beq args.size argTypes.size = true) (hcs : listP caps = some cs) {tab : List (TypeId × Ty)}
    (h : H α g (push lt (o.dst.getD 0) ((args.toList.zip argTypes.toList).map (fun p => evR (lk p.2 tab) p.1 st.s) ++ cs) st) (fun st' rv => k (setR (pop st') o.dst rv)) = some r) : ROp P Q w0 M0 N o a as w k r := by
  obtain ⟨M, β, τ, s⟩ := s
  intro K hK
  have hfv := evR_ok s.glob s.fr none f
  rw [hf] at hfv
  simp only [RR] at hfv
  obtain ⟨_, us, e, hcap⟩ := hfv
  simp only [List.cons.injEq, and_true] at e
  have hlen : args.toList.length = argTypes.toList.length := by simpa using Nat.eq_of_beq_eq_true hsz
  have hrel := rel2_append (args_rel s (tab := tab) hlen) (listP_ok hcs hcap)
  obtain ⟨hent, hcall⟩ := hH α g _ _ r (args.toList.map a.eval ++ us) (a :: as) w h (by
    have := rel2_len hrel
    simp only [push_eq, List.length_map, List.length_zipIdx]
    exact this) fun m hm => ⟨M, β, τ, s.push hrel hm⟩
  have hrun : (execOp a.eval o).run P w = .ok (.enter g (args.toList.map a.eval ++ us).toArray) w := by
    simp only [execOp, hop, resolve, e, Deferred.ofValue, Sem.run_bind, Sem.run_pure, Result.andThen_ok, invoke]
    rw [show (#[] ++ Array.map a.eval args ++ us.toArray) = (args.toList.map a.eval ++ us).toArray by simp [← Array.toList_map]]
    exact hent _ w
  unfold Oper.wp
  rw [hrun, Oper.upon_enter]
  refine hcall _ ?_
  rintro st' rv v w' hk ⟨M', β', τ', N', a', s', hr⟩
  obtain ⟨s2, hl⟩ := s'.pop s.df s.sz
  exact hK _ _ _ hk ⟨M', β', τ', s2.set o.dst hd (by rw [hl]; exact hr)⟩

theorem rec_rop (hE : Env2Ok P E) (s : Sim2 w0 M0 N st a as w) (hd : ∀ d, o.dst = some d → d < N) {α : Type} {k : St → Option α} {r : α} {f : Operand} {args : Array Operand} {ts : Array TypeId} {g : FuncId} {caps : RV} {c : RecC} (hop : o.op = .call { callee := .value f, args := args, argTypes := ts })
    (hf : evR none f st.s = .clo g caps) (hc : lk g E.rcs = some c) (h : (recK E c args ts caps st fun id ob rv => k (setR (setOb id ob st) o.dst rv)) = some r) : ROp P Q w0 M0 N o a as w k r := by
  obtain ⟨M, β, τ, s⟩ := s
  intro K hK
  obtain ⟨⟨i, ob, rv⟩, h1, h2⟩ := recK_pc (E := E) (st := st) _ (fun q : Nat × Ob × RV => k (setR (setOb q.1 q.2.1 st) o.dst q.2.2)) _ h
  exact (rec_sound (Q := Q) hE s hop hf hc (h1 _ some) K fun M' v w' s' r' => hK _ _ _ h2 ⟨M', β, τ, s'.set o.dst hd r'⟩).2

theorem effR_sound (hE : Env2Ok P E) (s : Sim2 w0 M0 N st a as w) (hd : ∀ d, o.dst = some d → d < N) {H : (α : Type) → [DecidableEq α] → FuncId → St → (St → RV → Option α) → Option α} (hH : HOk P w0 M0 H) {lt : LT} {α : Type} [DecidableEq α] {k : St → Option α} {r : α} (h : effR E (H α) lt o st k = some r) :
    ROp P Q w0 M0 N o a as w k r := by
  have dflt : (match o.dst with | some _ => pureR E o st k | none => none) = some r → ROp P Q w0 M0 N o a as w k r := by
    intro h
    split at h
    · exact pureR_sound hE s hd h
    · cases h
  cases hop : o.op with
  | store t x y =>
    cases hdst : o.dst with
    | none => exact store_sound hE s hop hdst h
    | some d => refine dflt ?_; rw [hdst]; simpa only [effR, hop, hdst] using h
  | mapUpdate t m x y =>
    cases hdst : o.dst with
    | none => exact map_sound hE s hop hdst h
    | some d => refine dflt ?_; rw [hdst]; simpa only [effR, hop, hdst] using h
  | convert src dst x =>
    cases hdst : o.dst with
    | none => simp [effR, hop, hdst] at h
    | some d =>
      simp only [effR, hop, hdst] at h
      exact same_sound hE s hd hop hdst h fun h => pureR_sound hE s hd h
  | call c =>
    obtain ⟨callee, args, argTypes⟩ := c
    cases callee with
    | builtin b =>
      cases b with
      | append =>
        cases hdst : o.dst with
        | some d =>
          cases hfk : lt.fork.any (Nat.beq d) with
          | true =>
            simp only [effR, hop, hdst, hfk, cond_true] at h
            exact fork_sound hE s hd hop hdst h
          | false => exact append_sound hE s hd hop hdst hfk h
        | none => simp [effR, hop, hdst] at h
      | _ =>
        refine dflt ?_
        cases hdst : o.dst with
        | some d => simpa only [effR, hop, hdst] using h
        | none => simp [effR, hop, hdst] at h
    | invoke r m =>
      refine dflt ?_
      cases hdst : o.dst with
      | some d => simpa only [effR, hop, hdst] using h
      | none => simp [effR, hop, hdst] at h
    | value f =>
      cases hdst : o.dst with
      | none =>
        simp only [effR, hop, hdst] at h
        split at h
        · rename_i g caps heq
          split at h
          · rename_i c hc
            exact rec_rop hE s hd hop heq hc (by rw [hdst]; exact h)
          split at h
          · exact pureR_sound hE s hd h
          · obtain ⟨hsz, h⟩ := bif_some h
            obtain ⟨cs, hcs, h⟩ := Option.bind_eq_some_iff.1 h
            exact call_inline s hd hH hop heq hsz hcs (by rw [hdst]; exact h)
        · cases h
      | some d =>
        simp only [effR, hop, hdst] at h
        split at h
        · rename_i g caps heq
          split at h
          · rename_i c hc
            exact rec_rop hE s hd hop heq hc (by rw [hdst]; exact h)
          split at h
          · exact pureR_sound hE s hd h
          · obtain ⟨hsz, h⟩ := bif_some h
            obtain ⟨cs, hcs, h⟩ := Option.bind_eq_some_iff.1 h
            exact call_inline s hd hH hop heq hsz hcs (by rw [hdst]; exact h)
        · cases h
  | _ =>
    refine dflt ?_
    cases hdst : o.dst with
    | some d => simpa only [effR, hop, hdst] using h
    | none => simp [effR, hop, hdst] at h

theorem opR_sound (hE : Env2Ok P E) (s : Sim2 w0 M0 N st a as w) (hd : ∀ d, o.dst = some d → d < N) {H : (α : Type) → [DecidableEq α] → FuncId → St → (St → RV → Option α) → Option α} (hH : HOk P w0 M0 H) {lt : LT} {α : Type} [DecidableEq α] {k : St → Option α} {r : α} (h : opR E (H α) lt o st k = some r) :
    ROp P Q w0 M0 N o a as w k r := by
  unfold opR at h
  split at h
  · exact effR_sound hE s hd hH h
  · obtain ⟨st', h', s'⟩ := frzAllK_ok _ _ _ h s
    exact effR_sound hE s' hd hH h'

theorem setBR_eq (g : Nat) (b : Bool) : ∀ (s : List (Nat × RV)), lk g s = some (.val ⟨.bool, b⟩) → setBR g b s = s
  | [], h => by simp [lk] at h
  | (j, x) :: r, h => by
    rw [lk_cons] at h
    simp only [setBR]
    split at h
    · rename_i e
      subst e
      cases h
      simp
    · rename_i e
      have : Nat.beq g j = false := by cases hb : Nat.beq g j with | false => rfl | true => exact absurd (Nat.eq_of_beq_eq_true hb) e
      simp only [this, cond_false, setBR_eq g b r h]

theorem cndR_eq {lt : LT} {c : Operand} {b : Bool} {st : St} (h : evR (some .bool) c st.s = .val ⟨.bool, b⟩) : cndR lt c b st = st := by
  unfold cndR
  split
  · rename_i i
    have hl : lk i st.s = some (.val ⟨.bool, b⟩) := by
      simp only [evR] at h
      cases hl : lk i st.s with
      | none => rw [hl] at h; cases h
      | some rv => rw [hl] at h; exact congrArg some h
    rw [setBR_eq i b st.s hl]
    cases lt.cnd.any (Nat.beq i) <;> rfl
  · rfl

theorem yielded_ok2 (s : Sm w0 M0 N M β τ st a as w) {ops : Array Oper} {j g : Nat} {b : Bool} (hg : (ops[j]?).bind (·.dst) = some g) (hl : lk g st.s = some (.val ⟨.bool, b⟩)) : yielded ops a.tmps j = some b := by
  obtain ⟨u, hu, u', e, hv⟩ := s.fr g _ hl
  cases e
  have hb := hv.bool
  simp [yielded, hg, hu, hb]

theorem opsR_sound (hE : Env2Ok P E) {H : (α : Type) → [DecidableEq α] → FuncId → St → (St → RV → Option α) → Option α} (hH : HOk P w0 M0 H) {lt : LT} {ops : Array Oper} {α : Type} [DecidableEq α] {k : St → Option α} {r : α} (hQ : ∀ st a w, k st = some r → Sim2 w0 M0 N st a as w → Q .normal a w) : ∀ (l : List Oper) (st : St) (a : Act) (w : World),
    opsR E (H α) lt ops l st k = some r → Sim2 w0 M0 N st a as w → (∀ o ∈ l, ∀ d, o.dst = some d → d < N) → wpList P ops Q l a w
  | [], st, a, w, h, s, _ => hQ st a w h s
  | o :: rest, st, a, w, h, s, hd => by
    refine wpList_step fun K hK => ?_
    have hK' : ∀ st' a' w', opsR E (H α) lt ops rest st' k = some r → Sim2 w0 M0 N st' a' as w' → K a' w' := fun st' a' w' h' s' => hK a' w' (opsR_sound hE hH hQ rest st' a' w' h' s' fun o' ho' => hd o' (by simp [ho']))
    have hdo := hd o (by simp)
    simp only [opsR] at h
    split at h
    · rename_i hg
      simp only [Region.wanted, hg, if_true]
      exact opR_sound (Q := Q) hE s hdo hH h K hK'
    · rename_i j want hg
      split at h
      · rename_i g hgd
        split at h
        · rename_i b hlk
          obtain ⟨M, β, τ, s⟩ := s
          have hy := yielded_ok2 s hgd hlk
          have run : opR E (H α) lt o st (fun st => opsR E (H α) lt ops rest st k) = some r → Region.wanted o (yielded ops a.tmps) = true → (if Region.wanted o (yielded ops a.tmps) then o.wp P a w K Q else K (a.put o.dst undef) w) := by
            intro h hw
            rw [if_pos hw]
            exact opR_sound (Q := Q) hE ⟨M, β, τ, s⟩ hdo hH h K hK'
          have skip : opsR E (H α) lt ops rest (setR st o.dst (.tup .unit)) k = some r → Region.wanted o (yielded ops a.tmps) = false → (if Region.wanted o (yielded ops a.tmps) then o.wp P a w K Q else K (a.put o.dst undef) w) := by
            intro h hw
            rw [if_neg (by simp [hw])]
            exact hK' _ _ _ h ⟨M, β, τ, s.set o.dst hdo tup_unit⟩
          cases b with
          | true =>
            rw [setBR_eq g true st.s hlk] at h
            cases want with
            | true => exact run h (by simp [Region.wanted, hg, hy])
            | false => exact skip h (by simp [Region.wanted, hg, hy])
          | false =>
            rw [setBR_eq g false st.s hlk] at h
            cases want with
            | true => exact skip h (by simp [Region.wanted, hg, hy])
            | false => exact run h (by simp [Region.wanted, hg, hy])
        · rename_i hlk
          obtain ⟨M, β, τ, s⟩ := s
          have hy := yielded_none s hgd hlk
          have hw : Region.wanted o (yielded ops a.tmps) = false := by simp [Region.wanted, hg, hy]
          rw [if_neg (by simp [hw])]
          exact hK' _ _ _ h ⟨M, β, τ, s.set o.dst hdo tup_unit⟩
        · cases h
      · cases h

theorem pruneR_sim (s : Sim2 w0 M0 N st a as w) (lt : LT) (c : Code) : Sim2 w0 M0 N (pruneR lt c st) a as w := by
  unfold pruneR
  split
  · split
    · obtain ⟨M, β, τ, s⟩ := s
      exact ⟨M, β, τ, s.pickS _⟩
    · exact s
  · exact s
theorem headR_sim (s : Sim2 w0 M0 N st a as w) (lt : LT) (c : Code) : Sim2 w0 M0 N (headR lt c st) a as w := by
  unfold headR
  split
  · split
    · exact s.canon _
    · exact s
  · exact s

theorem frzHead_ok {lt : LT} {rg : Nat} {α : Type} {r : α} {k : St → Option α} (h : frzHead lt rg st k = some r) (s : Sim2 w0 M0 N st a as w) : ∃ st', k st' = some r ∧ Sim2 w0 M0 N st' a as w := by
  unfold frzHead at h
  split at h
  · exact frzAllK_ok _ _ _ h s
  · exact ⟨st, h, s⟩

theorem denR_sound (hE : Env2Ok P E) (Nf : Nat) {H : (α : Type) → [DecidableEq α] → FuncId → St → (St → RV → Option α) → Option α} (hH : HOk P w0 M0 H) {lt : LT} {α : Type} [DecidableEq α] {r : α} : ∀ (c : Code), dstsOk N c = true → ∀ (kn : St → Option α) (kx : Nat → St → Option α) (kr : St → Option α) (Q : Exit → Act → World → Prop),
    (∀ st a w, kn st = some r → Sim2 w0 M0 N st a as w → Q .normal a w) → (∀ j st a w, kx j st = some r → Sim2 w0 M0 N st a as w → Q (.exit j) a w) → (∀ st a w, kr st = some r → Sim2 w0 M0 N st a as w → Q .ret a w) →
    ∀ st a w, denR E (H α) lt Nf c kn kx kr st = some r → Sim2 w0 M0 N st a as w → c.wp P Q a w := by
  intro c
  induction c with
  | skip => intro _ kn kx kr Q hn hx hr st a w h s; exact wp_skip (hn st a w h s)
  | region id ops draw =>
    intro hd kn kx kr Q hn hx hr st0 a w h0 s0
    simp only [dstsOk] at hd
    simp only [denR] at h0
    obtain ⟨st, h, s⟩ := frzHead_ok h0 s0
    clear h0 s0
    cases draw with
    | false =>
      simp only [cond_false] at h
      exact wp_region_list (opsR_sound hE hH hn _ st a w h s fun o ho => dsts_of hd ho)
    | true =>
      simp only [cond_true] at h
      obtain ⟨hok, h⟩ := bif_some h
      obtain ⟨st', h', s'⟩ := frzAllK_ok _ _ _ h s
      exact wp_region_any hE.mx (drawR_sound hE hok (fun i o ho => dsts_of hd (Array.mem_toList_iff.2 (Array.mem_of_getElem? ho))) hn h' (by obtain ⟨M, β, τ, s'⟩ := s'; exact ⟨M, β, τ, s'.grow (Gr.drew s'.mlt)⟩))
  | seq a b iha ihb =>
    intro hd kn kx kr Q hn hx hr st ac w h s
    simp only [dstsOk, Bool.and_eq_true] at hd
    simp only [denR] at h
    refine wp_seq (iha hd.1 _ kx kr _ ?_ ?_ ?_ st ac w h s)
    · intro st' a' w' h' s'
      unfold seqK at h'
      cases hj : isJoin lt b with
      | true =>
        rw [hj] at h'
        exact ihb hd.2 kn kx kr Q hn hx hr _ a' w' h' (headR_sim s' _ _)
      | false =>
        rw [hj] at h'
        exact ihb hd.2 kn kx kr Q hn hx hr _ a' w' h' (pruneR_sim s' _ _)
    · intro j st' a' w' h' s'; exact hx j st' a' w' h' s'
    · intro st' a' w' h' s'; exact hr st' a' w' h' s'
  | cond c x y ihx ihy =>
    intro hd kn kx kr Q hn hx hr st a w h s
    simp only [dstsOk, Bool.and_eq_true] at hd
    simp only [denR] at h
    split at h
    · rename_i t heq
      have hv : a.eval c = .bool t := by
        obtain ⟨M, β, τ, s⟩ := s
        have := evR_ok s.glob s.fr (some .bool) c
        rw [heq] at this
        obtain ⟨u, e, hv⟩ := this
        simp only [List.cons.injEq, and_true] at e
        rw [e]
        exact hv.bool
      refine wp_cond hv ?_
      cases t with
      | true =>
        rw [cndR_eq heq] at h
        exact ihx hd.1 kn kx kr Q hn hx hr st a w h s
      | false =>
        rw [cndR_eq heq] at h
        exact ihy hd.2 kn kx kr Q hn hx hr st a w h s
    · cases h
  | block id c ih =>
    intro hd kn kx kr Q hn hx hr st a w h s
    simp only [dstsOk] at hd
    simp only [denR] at h
    refine wp_block (ih hd kn _ kr _ ?_ ?_ ?_ st a w h s)
    · intro st' a' w' h' s'; exact hn st' a' w' h' s'
    · intro j st' a' w' h' s'
      simp only [Exit.inBlock]
      cases hb : Nat.beq j id with
      | true =>
        have := Nat.eq_of_beq_eq_true hb
        subst this
        simp only [hb, cond_true] at h'
        simpa using hn st' a' w' h' s'
      | false =>
        have hne : j ≠ id := fun h => by subst h; simp at hb
        simp only [hb, cond_false] at h'
        simpa [hne] using hx j st' a' w' h' s'
    · intro st' a' w' h' s'; exact hr st' a' w' h' s'
  | loop c ih =>
    intro hd kn kx kr Q hn hx hr st a w h s
    simp only [dstsOk] at hd
    simp only [denR] at h
    refine wp_loop_rounds Nf ?_
    have key : ∀ (m : Nat) (st : St) (a : Act) (w : World), iterR (fun self st => denR E (H α) lt Nf c (fun st => self (headR lt c st)) kx kr st) m st = some r → Sim2 w0 M0 N st a as w → Code.rounds P c Q m a w := by
      intro m
      induction m with
      | zero => intro st a w h _; cases h
      | succ m ihm =>
        intro st a w h s
        rw [rounds_succ]
        refine ih hd _ kx kr _ ?_ ?_ ?_ st a w h s
        · intro st' a' w' h' s'
          exact ihm _ a' w' h' (headR_sim s' _ _)
        · intro j st' a' w' h' s'; exact hx j st' a' w' h' s'
        · intro st' a' w' h' s'; exact hr st' a' w' h' s'
    exact key Nf _ a w h (headR_sim s _ _)
  | exit id => intro _ kn kx kr Q hn hx hr st a w h s; exact wp_exit (hx id st a w h s)
  | ret => intro _ kn kx kr Q hn hx hr st a w h s; exact wp_ret (hr st a w h s)
  | rangeFunc _ _ _ _ => intro _ kn kx kr Q hn hx hr st a w h s; simp [denR] at h
  | scope _ => intro _ kn kx kr Q hn hx hr st a w h s; simp [denR] at h
  | label _ => intro _ kn kx kr Q hn hx hr st a w h s; simp [denR] at h
  | goto _ => intro _ kn kx kr Q hn hx hr st a w h s; simp [denR] at h
  | refuse _ => intro _ kn kx kr Q hn hx hr st a w h s; simp [denR] at h

/-! ### results -/
theorem resR_ok (hE : Env2Ok P E) (s : Sm w0 M0 N M β τ st a as w) : ∀ (rs : List ResultVar) (rvs : List RV), resR E st rs = some rvs →
    ∃ us : List Value, (rs.mapM (resSem a.tmps)).run P w = .ok us w ∧ Rel2 M w β τ st.l rvs us
  | [], rvs, h => by simp [resR] at h; subst h; exact ⟨[], by simp, trivial⟩
  | .tmp t :: r, rvs, h => by
    simp only [resR] at h
    obtain ⟨rv, hrv, h⟩ := Option.bind_eq_some_iff.1 h
    obtain ⟨ws, hw, h⟩ := Option.bind_eq_some_iff.1 h
    cases h
    obtain ⟨us, h1, h2⟩ := resR_ok hE s r ws hw
    obtain ⟨u, hu, hv⟩ := s.fr _ _ hrv
    refine ⟨u :: us, ?_, hv, h2⟩
    simp only [List.mapM_cons, resSem, Sem.run_bind, Sem.run_pure, Result.andThen_ok, h1]
    simp [Array.getD_eq_getD_getElem?, hu]
  | .cell t T :: r, rvs, h => by
    simp only [resR] at h
    split at h
    · rename_i i heq
      split at h
      · rename_i ty con hl
        obtain ⟨hc, h⟩ := bif_some h
        obtain ⟨ws, hw, h⟩ := Option.bind_eq_some_iff.1 h
        cases h
        obtain ⟨us, h1, h2⟩ := resR_ok hE s r ws hw
        obtain ⟨u, hu, hv⟩ := s.fr _ _ heq
        obtain ⟨ob1, off, t', hl', ho, hval⟩ := loc_inv hv
        rw [hl] at hl'
        cases hl'
        have hz : offP ty [] = some (0, ty) := by cases ty <;> rfl
        simp only [Ob.shape, offS, hz, Option.some.injEq, Prod.mk.injEq] at ho
        obtain ⟨rfl, rfl⟩ := ho
        obtain ⟨_, ⟨cs, T', hb, rc⟩, _⟩ := s.ob i _ hl
        refine ⟨toV ty cs :: us, ?_, rc.sl_of_ce, h2⟩
        simp only [List.mapM_cons, resSem, Sem.run_bind]
        have := load_cells (hE.tab _ _ (tyIs_eq hc)) (off := 0) rc (fun j hj => by rw [cell_of_row _ _ _ _ _ _ hb]; simp)
        simp only [Instr.loadAt, Instr.sureAddr, Sem.run_bind, Sem.run_pure, Result.andThen_ok] at this
        simp only [Array.getD_eq_getD_getElem?, hu, Option.getD_some, hval, asAddr, Sem.run_pure, Result.andThen_ok]
        rw [this]
        simp [h1]
      · cases h
    · cases h

theorem results_run {fn : Func} {us : List Value} {tmps : Array Value} (h : (fn.results.toList.mapM (resSem tmps)).run P w = .ok us w) : (results fn tmps).run P w = .ok (retV us) w := by
  unfold results
  rw [Array.mapM_eq_mapM_toList]
  unfold resSem at h
  simp only [Sem.run_bind, Sem.run_map]
  erw [h]
  rfl

theorem hnd_ok (hE : Env2Ok P E) (Nf : Nat) : ∀ n, HOk P w0 M0 (fun α _ => hnd (α := α) E Nf n)
  | 0 => fun α _ f st k r args as w h => by simp [hnd] at h
  | n + 1 => fun α _ f st k r args as w h hlen hs => by
    simp only [hnd] at h
    split at h
    · rename_i fn lt hl
      obtain ⟨hf, hn, hdst⟩ := hE.inl _ _ _ hl
      split at h
      · rename_i c hb
        obtain ⟨hble, h⟩ := bif_some h
        have hle : args.length ≤ fn.ntmps := by rw [← hlen]; exact Nat.le_of_ble_eq_true hble
        refine ⟨enters_of hf hb hn, fun R hR => calls_of_wp hf hb ?_⟩
        have fin : ∀ (st : St) (a : Act) (w' : World), ((resR E st fn.results.toList).bind fun vs => k st (resRV vs)) = some r → Sim2 w0 M0 fn.ntmps st a as w' →
            a.defers = [] ∧ ∃ v, (results fn a.tmps).run P w' = .ok v w' ∧ R (.returned v) w' := by
          intro st a w' h s
          obtain ⟨M, β, τ, s⟩ := s
          obtain ⟨rvs, h1, h2⟩ := Option.bind_eq_some_iff.1 h
          obtain ⟨us, h3, h4⟩ := resR_ok hE s _ _ h1
          exact ⟨s.df, _, results_run h3, hR _ _ _ _ h2 ⟨M, β, τ, _, a, s, resRV_ok h4⟩⟩
        refine denR_sound hE Nf (hnd_ok hE Nf n) c (hdst c hb) _ _ _ _ ?_ ?_ ?_ _ _ _ h (hs fn.ntmps hle)
        · intro st a w' h s; exact fin st a w' h s
        · intro j st a w' h s; cases h
        · intro st a w' h s; exact fin st a w' h s
      · cases h
    · cases h
end
end Go.Lift
