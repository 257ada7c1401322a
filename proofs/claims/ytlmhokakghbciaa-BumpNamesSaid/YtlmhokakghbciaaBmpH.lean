/- Texts are put by deferred calls: putAll, by a contract. -/
import Derived.Test.YtlmhokakghbciaaBmpA
import Derived.Test.YtlmhokakghbciaaDfr
set_option linter.unusedVariables false
set_option maxRecDepth 100000

namespace Go.Proofs.Ytlmhokakghbciaa
open Go.Lift Go.RowKit

abbrev Rg0 : Type := Int × List Int × Unit
abbrev Tp : Ty := .pair Z0 (.pair Z1 (.pair (.slice Z2) (.pair Z1 .unit)))
abbrev patA : Pt := .pr (.hole Z0) (.pr (.hole Z1) (.pr (.fix (.row 1)) (.pr (.hole Z1) (.fix .unit))))
abbrev bpA : List Bt := [.var Tp patA, .row Z2]
abbrev bpB : List Bt := [.var Tp (.hole Tp)]
/-- heap, limit, addresses, error -/
abbrev Pile : Type := Rg0 × Int × List Int × Int × Unit
def toA (v : Pile) : BtsD bpA := ((v.1, v.2.1, (), v.2.2.2.1, ()), v.2.2.1, ())
def ofA (y : BtsD bpA) : Pile := (y.1.1, y.1.2.1, y.2.1, y.1.2.2.2.1, ())
def LA (v : Pile) : List (Nat × Ob) := mkL 0 bpA (toA v)
def LB (v : Pile) : List (Nat × Ob) := mkL 0 bpB (v, ())

noncomputable def c36 : Code := match Try.f36.body with
  | some c => c
  | none => .skip
noncomputable def c45 : Code := match Try.f45.body with
  | some c => c
  | none => .skip
noncomputable def Eput : Env2 := { tab := tab, fs := [(18, Gbump_Put), (16, Gbump_New)], inl := [], vl := [18], ag := [8] }
def Tput : LT := { live := [], keep := [] }

noncomputable def finP (st : St) : Option (Bool × Pile) :=
  (fun st' => bif ghK st'.k then (match abL 0 bpB st'.l with | some y => some (false, y.1) | none => (abL 0 bpA st'.l).bind fun y => some (true, ofA y)) else none) (canon [0] st)

def sput (v : Pile) (t : List Int) : Option (Bool × Pile) :=
  bif (v.2.2.2.1 != 0) then some (true, v) else (cbump_Put (v.1, t, v.2.1)).bind fun x => bif (x.2.2 != 0) then some (false, ((0, ([], ())), 0, [], x.2.2, ())) else bif (Nat.ble 1 1 && Nat.ble (List.length v.2.2.1 + List.length [x.2.1]) lim) then some (true, (x.1, v.2.1, List.append v.2.2.1 [x.2.1], v.2.2.2.1, ())) else none

noncomputable instance decBP : DecidableEq (Bool × Pile) := fun _ _ => Classical.propDecidable _
theorem evA (v : Pile) (t : List Int) : denR Eput (hnd Eput big 6) Tput big c45 finP (fun _ _ => none) finP { s := [(0, .loc 0 []), (1, .val ⟨.str, t⟩)], l := LA v, k := gh, b := 4096 } = sput v t := by kernel_rfl
theorem evB (v : Pile) (t : List Int) : denR Eput (hnd Eput big 6) Tput big (fstC c45) (fun _ => none) (fun _ _ => none) finP { s := [(0, .loc 0 []), (1, .val ⟨.str, t⟩)], l := LB v, k := gh, b := 4096 } = bif (v.2.2.2.1 != 0) then some (false, v) else none := by kernel_rfl

/-! ### the pieces of putAll -/
noncomputable def r0 : Code := fstC c36
noncomputable def r1 : Code := fstC (sndC c36)
noncomputable def r2 : Code := fstC (fstC (sndC (sndC c36)))
noncomputable def lp : Code := bodyC (bodyC (sndC (fstC (sndC (sndC c36)))))
noncomputable def r3 : Code := fstC (fstC lp)
noncomputable def r5 : Code := bodyC (fstC (sndC lp))
noncomputable def r4 : Code := sndC (sndC lp)
noncomputable def r6 : Code := fstC (sndC (sndC (sndC c36)))
theorem c36_eq : c36 = .seq r0 (.seq r1 (.seq (.seq r2 (.block 0 (.loop lp))) (.seq r6 .ret))) := by kernel_rfl
theorem lp_eq : lp = .seq (.seq r3 (.cond (.tmp 13) .skip (.exit 0))) (.seq (.block 1 r5) r4) := by kernel_rfl
theorem r3_eq : r3 = .region 3 (opsC r3) false := by kernel_rfl
theorem r4_eq : r4 = .region 4 (opsC r4) false := by kernel_rfl
theorem r5_eq : r5 = .region 5 (opsC r5) false := by kernel_rfl
theorem r6_eq : r6 = .region 6 (opsC r6) false := by kernel_rfl

abbrev fpS : List Pt := [.hole Z4, .fix (.loc 0 []), .hole Z1]
abbrev fp3 : List Pt := [.hole Z4, .fix (.loc 0 []), .hole Z1, .hole .bool]
abbrev fp5 : List Pt := [.hole Z4, .fix (.loc 0 []), .hole Z1, .hole .str]
abbrev fp6 : List Pt := [.fix (.loc 0 [])]
abbrev nx (α : Type) : Nat → St → Option α := fun _ _ => none
abbrev nr (α : Type) : St → Option α := fun _ => none
abbrev DS : Type := PtsD fpS × BtsD bpA
abbrev D3 : Type := PtsD fp3 × BtsD bpA
abbrev D5 : Type := PtsD fp5 × BtsD bpA
abbrev D6 : Type := PtsD fp6 × BtsD bpA
noncomputable instance : DecidableEq DS := fun _ _ => Classical.propDecidable _
noncomputable instance : DecidableEq D3 := fun _ _ => Classical.propDecidable _
noncomputable instance : DecidableEq D5 := fun _ _ => Classical.propDecidable _
noncomputable instance : DecidableEq D6 := fun _ _ => Classical.propDecidable _

def v0 (lim : Int) : Pile := ((65536, ([], ())), lim, [], 0, ())
noncomputable def k2 : St → Option DS := extK noK [0, 4, 5] fpS bpA fun x y => some (x, y)
noncomputable def k1 : St → Option DS := denR Eput (hnd Eput big 6) Tput big r2 k2 (nx DS) (nr DS)
noncomputable def k0 : St → Option DS := denR Eput (hnd Eput big 6) Tput big r1 k1 (nx DS) (nr DS)
theorem evS (l : List (List Int)) (lim : Int) : denR Eput (hnd Eput big 6) Tput big r0 k0 (nx DS) (nr DS) { s := slotsV 0 (unpackL [Z4, Z1] (l, lim)), l := [], k := [], b := 4096 } = some ((l, (), IntKind.i64.wrap ((List.length l : Int) - 1), ()), toA (v0 lim)) := by kernel_rfl

/-- where a round begins -/
def stL (l : List (List Int)) (i : Int) (y : BtsD bpA) : St := { s := [0, 4, 5].zip (mkPs fpS (l, (), i, ())), l := mkL 0 bpA y, k := gh, b := 4096 }
def st3 (l : List (List Int)) (i : Int) (b : Bool) (y : BtsD bpA) : St := { s := [0, 4, 5, 13].zip (mkPs fp3 (l, (), i, b, ())), l := mkL 0 bpA y, k := gh, b := 4096 }
def st5 (l : List (List Int)) (i : Int) (t : List Int) (y : BtsD bpA) : St := { s := [0, 4, 5, 19].zip (mkPs fp5 (l, (), i, t, ())), l := mkL 0 bpA y, k := gh, b := 4096 }
theorem ev3 (l : List (List Int)) (i : Int) (y : BtsD bpA) : opsR Eput (hnd Eput big 6) Tput (opsC r3) (opsC r3).toList (stL l i y) (extK ghK [0, 4, 5, 13] fp3 bpA fun x y => some (x, y)) = some ((l, (), i, decide (i ≥ 0), ()), y) := by kernel_rfl
theorem ev5 (l : List (List Int)) (i : Int) (b : Bool) (y : BtsD bpA) : opsR Eput (hnd Eput big 6) Tput (opsC r5) ((opsC r5).toList.take 4) (st3 l i b y) (extK ghK [0, 4, 5, 19] fp5 bpA fun x y => some (x, y)) = (getI l i).bind fun t => some ((l, (), i, t, ()), y) := by kernel_rfl
theorem ev4 (l : List (List Int)) (i : Int) (t : List Int) (y : BtsD bpA) : opsR Eput (hnd Eput big 6) Tput (opsC r4) (opsC r4).toList (st5 l i t y) (extK ghK [0, 4, 5] fpS bpA fun x y => some (x, y)) = some ((l, (), IntKind.i64.wrap (i - 1), ()), y) := by kernel_rfl
theorem ev6 (l : List (List Int)) (i : Int) (b : Bool) (y : BtsD bpA) : opsR Eput (hnd Eput big 6) Tput (opsC r6) (opsC r6).toList (st3 l i b y) (extK ghK [4] fp6 bpA fun x y => some (x, y)) = some (((), ()), y) := by kernel_rfl

/-! ### what is given back -/
abbrev os1 : List Bool := [false]
noncomputable def fin36 (st : St) : Option Pile := (resR Eput st Try.f36.results.toList).bind fun vs => resK st.l (lessL (ownId os1 vs) st.l) (lessR (ownId os1 vs)) [Tp] os1 vs some
theorem evFA (v : Pile) : fin36 { s := [(4, .loc 0 [])], l := LA v, k := [], b := 4096 } = some v := by kernel_rfl
theorem evFB (v : Pile) : fin36 { s := [(4, .loc 0 [])], l := LB v, k := [], b := 4096 } = some v := by kernel_rfl

/-! ### the contract -/
theorem hEput : Env2Ok Try.prog Eput := ⟨tabOk, fsCons2 Lbump_Put (fsCons2 Lbump_New fsNil2), fun _ _ _ => rfl, mixed, inlNil, rcsNil, owsNil⟩

/-- what was deferred: calls of put, with the texts -/
def DsOk (p : Value) : List Deferred → List (List Int) → Prop
  | [], [] => True
  | d :: ds, t :: ts => (∃ u, d = { target := .fn (.func 45) #[], args := #[p, u] } ∧ ∀ M w, VOk M w .str t u) ∧ DsOk p ds ts
  | _, _ => False
def ghA (p : Value) : Act := { tmps := #[p], defers := [] }
theorem ghK_inv {kk : List (Nat × List (Nat × RV))} (h : ghK kk = true) : ∃ b, kk = [(b, [(0, .loc 0 [])])] := by
  unfold ghK at h
  split at h
  · exact ⟨_, rfl⟩
  · cases h
theorem noK_inv {kk : List (Nat × List (Nat × RV))} (h : noK kk = true) : kk = [] := by
  cases kk with
  | nil => rfl
  | cons => cases h

section
variable {w0 w : World} {M0 : Bs} {N : Nat} {a : Act} {p : Value}
/-- the frame that names the block gets its name -/
theorem to_gh {sl : List (Nat × RV)} {L : List (Nat × Ob)} {kk : List (Nat × List (Nat × RV))} {b b' : Nat} (h : ghK kk = true) (s : Sim2 w0 M0 N { s := sl, l := L, k := kk, b := b } a [ghA p] w) : Sim2 w0 M0 N { s := sl, l := L, k := gh, b := b' } a [ghA p] w := by
  obtain ⟨c, rfl⟩ := ghK_inv h
  obtain ⟨M, β, τ, s⟩ := s
  exact ⟨M, β, τ, { df := s.df, sz := s.sz, bel := s.bel, mlt := s.mlt, mex := s.mex, gk := s.gk, gx := s.gx, kp := s.kp, mnew := s.mnew, fr := s.fr, fs := s.fs, ob := s.ob, dj := s.dj }⟩
theorem gh_ptr {M : Nat → Nat → Prop} {β : Nat → Nat} {τ : Nat → Value} {st : St} (s : Sm w0 M0 N M β τ st a [ghA p] w) (hk : st.k = gh) : RR M w β τ st.l (.loc 0 []) .sl [p] := by
  have h := s.fs
  rw [hk] at h
  obtain ⟨u, hu, hr⟩ := h.1 0 (.loc 0 []) rfl
  have : p = u := by simpa [ghA] using hu
  subst this
  exact hr
theorem loc_same {M : Nat → Nat → Prop} {β : Nat → Nat} {τ : Nat → Value} {L : List (Nat × Ob)} {u u' : Value} (h : RR M w β τ L (.loc 0 []) .sl [u]) (h' : RR M w β τ L (.loc 0 []) .sl [u']) : u = u' := by
  obtain ⟨ob, off, t, h1, h2, h3⟩ := loc_inv h
  obtain ⟨ob', off', t', h1', h2', h3'⟩ := loc_inv h'
  rw [h1] at h1'
  cases h1'
  rw [h2] at h2'
  cases h2'
  rw [h3, h3']
end

theorem str_all {M : Nat → Nat → Prop} {w : World} {t : List Int} {u : Value} (h : VOk M w .str t u) : ∀ M w, VOk M w .str t u := by
  obtain ⟨cs, e, s, e2, h1⟩ := h
  exact fun M w => ⟨cs, e, s, e2, h1⟩

theorem plain3 : ∀ o ∈ (opsC r3).toList, plainOp o = true := fun o ho => List.all_eq_true.1 (show (opsC r3).toList.all plainOp = true by kernel_rfl) o ho
theorem plain4 : ∀ o ∈ (opsC r4).toList, plainOp o = true := fun o ho => List.all_eq_true.1 (show (opsC r4).toList.all plainOp = true by kernel_rfl) o ho
theorem plain5 : ∀ o ∈ (opsC r5).toList.take 4, plainOp o = true := fun o ho => List.all_eq_true.1 (show ((opsC r5).toList.take 4).all plainOp = true by kernel_rfl) o ho
theorem plain6 : ∀ o ∈ (opsC r6).toList, plainOp o = true := fun o ho => List.all_eq_true.1 (show (opsC r6).toList.all plainOp = true by kernel_rfl) o ho
theorem dst3 : ∀ o ∈ (opsC r3).toList, ∀ d, o.dst = some d → d < 21 := fun o ho => dsts_of (show dstsOk 21 (.region 3 (opsC r3) false) = true by kernel_rfl) ho
theorem dst4 : ∀ o ∈ (opsC r4).toList, ∀ d, o.dst = some d → d < 21 := fun o ho => dsts_of (show dstsOk 21 (.region 4 (opsC r4) false) = true by kernel_rfl) ho
theorem dst5 : ∀ o ∈ (opsC r5).toList, ∀ d, o.dst = some d → d < 21 := fun o ho => dsts_of (show dstsOk 21 (.region 5 (opsC r5) false) = true by kernel_rfl) ho
theorem dst6 : ∀ o ∈ (opsC r6).toList, ∀ d, o.dst = some d → d < 21 := fun o ho => dsts_of (show dstsOk 21 (.region 6 (opsC r6) false) = true by kernel_rfl) ho
noncomputable def o5 : Oper := ((opsC r5).toList.drop 4).headD default
theorem o5_list : (opsC r5).toList.drop 4 = [o5] := by kernel_rfl
theorem o5_op : o5.op = .defer { callee := .value (.func 45), args := #[.tmp 4, .tmp 19], argTypes := #[70, 9] } := by kernel_rfl
theorem o5_guard : o5.guard = none := by kernel_rfl
theorem o5_dst : o5.dst = none := by kernel_rfl

theorem defer_run {ds : List Deferred} {a : Act} {w : World} {u4 u19 : Value} (h4 : a.tmps[4]? = some u4) (h19 : a.tmps[19]? = some u19) :
    (execOp (df ds a).eval o5).run Try.prog w = .ok (.defer { target := .fn (.func 45) #[], args := #[u4, u19] }) w := by
  have e4 : (df ds a).eval (.tmp 4) = u4 := by simp [Act.eval, df, Array.getD_eq_getD_getElem?, h4]
  have e19 : (df ds a).eval (.tmp 19) = u19 := by simp [Act.eval, df, Array.getD_eq_getD_getElem?, h19]
  have ef : (df ds a).eval (.func 45) = .func (.func 45) #[] #[] := rfl
  simp only [execOp, o5_op, resolve, ef, Deferred.ofValue, Sem.run_bind, Sem.run_pure, Result.andThen_ok]
  congr 3
  simp [e4, e19]

theorem getI_drop {l : List (List Int)} {n : Nat} (h : n < l.length) : ∃ t, getI l (n : Int) = some t ∧ l.drop n = t :: l.drop (n + 1) := by
  refine ⟨l[n], ?_, List.drop_eq_getElem_cons h⟩
  rw [getI_nat]
  simp [h]

theorem round_lp {Q : Exit → Act → World → Prop} {m : Nat} {a : Act} {w : World} (h : (Code.seq (.seq r3 (.cond (.tmp 13) .skip (.exit 0))) (.seq (.block 1 r5) r4)).wpIn (fen none) 0 Try.prog (Exit.then (Code.roundsIn (fen none) 0 Try.prog lp Q m) Q) a w) : Code.roundsIn (fen none) 0 Try.prog lp Q (m + 1) a w := by
  rw [roundsIn_succ]
  generalize Code.roundsIn (fen none) 0 Try.prog lp Q m = X at h ⊢
  rw [lp_eq]
  exact h

theorem loop_ok {w0 : World} {M0 : Bs} {p : Value} {l : List (List Int)} {y : BtsD bpA} {Q : Exit → Act → World → Prop} (hl : l.length ≤ maxLen)
    (hQ : ∀ a w ds i b, Sim2 w0 M0 21 (st3 l i b y) a [ghA p] w → DsOk p ds l → Q (.exit 0) (df ds a) w) :
    ∀ (n m : Nat) (a : Act) (w : World) (ds : List Deferred), n ≤ l.length → n < m → Sim2 w0 M0 21 (stL l ((n : Int) - 1) y) a [ghA p] w → DsOk p ds (l.drop n) → Code.roundsIn (fen none) 0 Try.prog lp Q m (df ds a) w := by
  intro n
  induction n with
  | zero =>
    intro m a w ds hn hm s hds
    obtain ⟨m, rfl⟩ : ∃ k, m = k + 1 := ⟨m - 1, by omega⟩
    refine round_lp ?_
    refine wpIn_seq (wpIn_seq ?_)
    rw [r3_eq]
    refine wpIn_region_list (list_df ds plain3 ?_)
    refine opsR_sound (M0 := M0) hEput (hnd_ok hEput big 6) (.inl rfl) ?_ _ _ a w (fun _ h => h) (ev3 l _ y) s dst3
    clear s
    intro st a w h s0
    obtain ⟨x, y', h1, kk, hq, s⟩ := ext_ok h s0
    clear s0 h
    obtain ⟨rfl, rfl⟩ := Prod.mk.inj (Option.some.inj h1)
    replace s := to_gh (b' := 4096) hq s
    obtain ⟨M, β, τ, s'⟩ := s
    obtain ⟨u, hu, u', e, hv⟩ := s'.fr 13 (.val ⟨.bool, decide (((0 : Nat) : Int) - 1 ≥ 0)⟩) rfl
    cases e
    have hv := hv.bool
    have hev : (df ds a).eval (.tmp 13) = .bool (decide (((0 : Nat) : Int) - 1 ≥ 0)) := by
      simp [Act.eval, df, Array.getD_eq_getD_getElem?, hu, hv]
    exact wpIn_cond_false hev (wpIn_exit (hQ a w ds _ _ ⟨M, β, τ, s'⟩ hds))
  | succ n ih =>
    intro m a w ds hn hm s hds
    obtain ⟨m, rfl⟩ : ∃ k, m = k + 1 := ⟨m - 1, by omega⟩
    refine round_lp ?_
    have en : (((n + 1 : Nat) : Int) - 1) = (n : Int) := by omega
    rw [en] at s
    refine wpIn_seq (wpIn_seq ?_)
    rw [r3_eq]
    refine wpIn_region_list (list_df ds plain3 ?_)
    refine opsR_sound (M0 := M0) hEput (hnd_ok hEput big 6) (.inl rfl) ?_ _ _ a w (fun _ h => h) (ev3 l _ y) s dst3
    clear s a w
    intro st a w h s0
    obtain ⟨x, y', h1, kk, hq, s⟩ := ext_ok h s0
    clear s0 h
    obtain ⟨rfl, rfl⟩ := Prod.mk.inj (Option.some.inj h1)
    replace s := to_gh (b' := 4096) hq s
    have hev : (df ds a).eval (.tmp 13) = .bool true := by
      obtain ⟨M, β, τ, s'⟩ := s
      obtain ⟨u, hu, u', e, hv⟩ := s'.fr 13 (.val ⟨.bool, decide ((n : Int) ≥ 0)⟩) rfl
      cases e
      have hv := hv.bool
      simp [Act.eval, df, Array.getD_eq_getD_getElem?, hu, hv]
    refine wpIn_cond_true hev (wpIn_skip ?_)
    show (Code.seq (.block 1 r5) r4).wpIn (fen none) 0 Try.prog _ (df ds a) w
    refine wpIn_seq (wpIn_block ?_)
    rw [r5_eq]
    refine wpIn_region_list ?_
    obtain ⟨t, ht, hdrop⟩ := getI_drop (l := l) (n := n) (by omega)
    rw [← List.take_append_drop 4 (opsC r5).toList, o5_list]
    refine list_app (list_df ds plain5 ?_)
    refine opsR_sound (M0 := M0) hEput (hnd_ok hEput big 6) (.inl rfl) ?_ _ _ a w (fun _ h => List.mem_of_mem_take h) ((ev5 l n (decide ((n : Int) ≥ 0)) y').trans (by rw [ht]; rfl)) s (fun o ho => dst5 o (List.mem_of_mem_take ho))
    clear s hev a w
    intro st a w h s0
    obtain ⟨x, y'', h1, kk, hq, s⟩ := ext_ok h s0
    clear s0 h
    obtain ⟨rfl, rfl⟩ := Prod.mk.inj (Option.some.inj h1)
    replace s := to_gh (b' := 4096) hq s
    obtain ⟨M, β, τ, s'⟩ := s
    obtain ⟨u4, h4, r4'⟩ := s'.fr 4 (.loc 0 []) rfl
    obtain ⟨u19, h19, u', e, hv⟩ := s'.fr 19 (.val ⟨.str, t⟩) rfl
    cases e
    have hp : u4 = p := loc_same r4' (gh_ptr s' rfl)
    subst hp
    show wpListIn (fen none) 0 Try.prog (opsC r5) _ [o5] (df ds a) w
    refine wpListIn_plain o5_guard fun K hK => ⟨fun _ _ => trivial, ?_⟩
    show Oper.uponIn (fen none) 0 Try.prog o5 (df ds a) K _ ((execOp (df ds a).eval o5).run Try.prog w)
    rw [defer_run h4 h19, Oper.uponIn_defer]
    refine hK _ w ?_
    rw [o5_dst]
    have hds' : DsOk u4 ({ target := .fn (.func 45) #[], args := #[u4, u19] } :: ds) (l.drop n) := by
      rw [hdrop]
      exact ⟨⟨u19, rfl, str_all hv⟩, hds⟩
    show r4.wpIn (fen none) 0 Try.prog _ (df ({ target := .fn (.func 45) #[], args := #[u4, u19] } :: ds) a) w
    generalize ({ target := .fn (.func 45) #[], args := #[u4, u19] } :: ds : List Deferred) = ds' at hds' ⊢
    rw [r4_eq]
    refine wpIn_region_list (list_df ds' plain4 ?_)
    refine opsR_sound (M0 := M0) hEput (hnd_ok hEput big 6) (.inl rfl) ?_ _ _ a w (fun _ h => h) (ev4 l n t y'') ⟨M, β, τ, s'⟩ dst4
    clear s' r4' h4 h19 hv hK a w
    intro st a w h s0
    obtain ⟨x, y3, h1, kk, hq, s⟩ := ext_ok h s0
    clear s0 h
    obtain ⟨rfl, rfl⟩ := Prod.mk.inj (Option.some.inj h1)
    replace s := to_gh (b' := 4096) hq s
    refine ih m a w ds' (by omega) (by omega) ?_ hds'
    have ew : IntKind.i64.wrap ((n : Int) - 1) = (n : Int) - 1 := by
      have hml : maxLen ≤ 9223372036854775807 := by decide
      refine wrap_i64 (by omega) (by omega)
    rw [ew] at s
    exact s

/-! ### the deferred calls -/
def putS (v : Pile) (t : List Int) : Option Pile := (sput v t).bind fun r => some r.2
def cbump_putAll (x : List (List Int) × Int) : Option Pile := List.foldlM putS (v0 x.2) x.1
def Gbump_putAll : Fn2 := ⟨[Z4, Z1], [Tp], [false], fun x => cbump_putAll x⟩

theorem sput_err {v : Pile} (h : v.2.2.2.1 ≠ 0) (t : List Int) : sput v t = some (true, v) := by
  unfold sput
  rw [show (v.2.2.2.1 != 0) = true by simpa using h, cond_true]
theorem sput_flag {v v' : Pile} {t : List Int} (h : sput v t = some (false, v')) : v'.2.2.2.1 ≠ 0 := by
  unfold sput at h
  cases h1 : (v.2.2.2.1 != 0) with
  | true => rw [h1, cond_true] at h; cases h
  | false =>
    rw [h1, cond_false] at h
    obtain ⟨x, _, h⟩ := Option.bind_eq_some_iff.1 h
    cases h2 : (x.2.2 != 0) with
    | true =>
      rw [h2, cond_true] at h
      cases h
      simpa using h2
    | false =>
      rw [h2, cond_false] at h
      obtain ⟨_, h⟩ := bif_some h
      cases h

/-- the pile, as the frame that names it knows it -/
def Jp (w0 : World) (M0 : Bs) (p : Value) (v : Pile) (w : World) : Prop :=
  Sim2 w0 M0 1 { s := [], l := LA v, k := gh, b := 4096 } (ghA p) [ghA p] w ∨ (v.2.2.2.1 ≠ 0 ∧ Sim2 w0 M0 1 { s := [], l := LB v, k := gh, b := 4096 } (ghA p) [ghA p] w)

theorem fin_ok {w0 w : World} {M0 : Bs} {N : Nat} {a : Act} {p : Value} {st : St} {fl : Bool} {v : Pile} (h : finP st = some (fl, v)) (s : Sim2 w0 M0 N st a [ghA p] w) :
    Sim2 w0 M0 1 { s := [], l := (bif fl then LA v else LB v), k := gh, b := 4096 } (ghA p) [ghA p] w := by
  unfold finP at h
  obtain ⟨hq, h⟩ := bif_some h
  have s1 := s.canon [0]
  obtain ⟨b, hb⟩ := ghK_inv hq
  have key : (canon [0] st).l = (bif fl then LA v else LB v) := by
    split at h
    · rename_i y hy
      cases h
      exact abL_ok hy
    · obtain ⟨y, hy, h⟩ := Option.bind_eq_some_iff.1 h
      cases h
      exact abL_ok hy
  obtain ⟨M, β, τ, s1⟩ := s1
  have fs := s1.fs
  rw [hb] at fs
  rw [← key]
  exact ⟨M, β, τ, s1.frame (N' := 1) (a' := ghA p) rfl rfl (fun i rv h => by simp [lk] at h) fs⟩

theorem args_fr {w0 w : World} {M0 : Bs} {N : Nat} {M : Nat → Nat → Prop} {β : Nat → Nat} {τ : Nat → Value} {a : Act} {p u : Value} {t : List Int} {L : List (Nat × Ob)} (s : Sm w0 M0 N M β τ { s := [], l := L, k := gh, b := 4096 } a [ghA p] w) (hu : ∀ M w, VOk M w .str t u) :
    Sm w0 M0 47 M β τ { s := [(0, .loc 0 []), (1, .val ⟨.str, t⟩)], l := L, k := gh, b := 4096 } (enterAct [p, u] 47) [ghA p] w := by
  refine s.frame rfl (by simp [enterAct]) ?_ s.fs
  intro i rv h
  simp only [lk_cons] at h
  split at h
  · rename_i e
    subst e
    cases h
    exact ⟨p, enter_at rfl, gh_ptr s rfl⟩
  · split at h
    · rename_i e
      subst e
      cases h
      exact ⟨u, enter_at rfl, u, rfl, hu M w⟩
    · simp [lk] at h

theorem leaves_ok {w0 : World} {M0 : Bs} {MM : Nat → Nat → Prop} (hk : ∀ b, ¬ M0.kp b) (hM : M0.M = MM) {p : Value} {tmps : Array Value} (ht : tmps[4]? = some p) (hz : tmps.size = 21) {r : Pile} : ∀ (ds : List Deferred) (ts : List (List Int)) (v : Pile) (w : World), DsOk p ds ts → Jp w0 M0 p v w → List.foldlM putS v ts = some r →
    Leaves Try.prog Try.f36 tmps (fun e w' => ∃ us M', e = .returned (retV us) ∧ Gr MM w0 M' w' ∧ EachOk w0.heap.size M' w' [Tp] [false] r us) ds .returning w
  | [], t :: ts, _, _, h, _, _ => h.elim
  | d :: ds, [], _, _, h, _, _ => h.elim
  | [], [], v, w, _, hj, hf => by
    cases hf
    have fin : ∀ L, fin36 { s := [(4, .loc 0 [])], l := L, k := [], b := 4096 } = some r → Sim2 w0 M0 1 { s := [], l := L, k := gh, b := 4096 } (ghA p) [ghA p] w → ∃ val, (results Try.f36 tmps).run Try.prog w = .ok val w ∧ ∃ us M', Ending.returned val = .returned (retV us) ∧ Gr MM w0 M' w ∧ EachOk w0.heap.size M' w [Tp] [false] r us := by
      intro L hfin hs
      obtain ⟨M, β, τ, s⟩ := hs
      have s : Sm w0 M0 21 M β τ { s := [(4, .loc 0 [])], l := L, k := [], b := 4096 } { tmps := tmps, defers := [] } [] w := by
        refine s.frame rfl hz ?_ trivial
        intro i rv h
        simp only [lk_cons] at h
        split at h
        · rename_i e
          subst e
          cases h
          exact ⟨p, ht, gh_ptr s rfl⟩
        · simp [lk] at h
      unfold fin36 at hfin
      obtain ⟨rvs, h1, h2⟩ := Option.bind_eq_some_iff.1 hfin
      obtain ⟨us, h3, h4⟩ := resR_ok hEput s _ _ h1
      have h5 := resK_ok s (own := ownId os1 rvs) (fun i id g1 g2 => ownId_of (by decide) g1 g2) h2 h4
      obtain ⟨_, _, k3⟩ := s.less (ownId os1 rvs)
      refine ⟨_, results_run h3, us, _, rfl, ⟨s.bel, fun b o m => .inl (s.mex b o (by rw [hM]; exact m)), ?_, ?_⟩, h5⟩
      · rintro b o (m | ⟨id, ob, hl, hb⟩)
        · have := s.mnew b o m
          rw [hM] at this
          exact this
        · exact .inr (k3 id ob b hl hb).2.1
      · rintro b o (m | ⟨id, ob, hl, hb⟩)
        · exact s.mlt b o m
        · exact (k3 id ob b hl hb).1
    rcases hj with s | ⟨_, s⟩
    · exact fin _ (evFA r) s
    · exact fin _ (evFB r) s
  | d :: ds, t :: ts, v, w, ⟨⟨u, hd, hu⟩, hds⟩, hj, hf => by
    subst hd
    rw [List.foldlM_cons] at hf
    obtain ⟨v1, hv1, hf⟩ := Option.bind_eq_some_iff.1 hf
    have ih := fun w' (h : Jp w0 M0 p v1 w') => leaves_ok hk hM ht hz ds ts v1 w' hds h hf
    refine leaves_cons (f := 45) (args := ([p, u] : List Value).toArray) (by simp) ?_ ?_
    · exact enters_of Try.func45 (c := c45) (by kernel_rfl) (by kernel_rfl) _ w
    rcases hj with ⟨M, β, τ, s⟩ | ⟨he, M, β, τ, s⟩
    · obtain ⟨⟨fl, v1'⟩, hs, e⟩ := Option.bind_eq_some_iff.1 hv1
      cases e
      refine deferred_calls (M0 := M0) hEput big (hnd_ok hEput big 6) (c := c45) Try.func45 (by kernel_rfl) (by kernel_rfl) (by kernel_rfl) (by kernel_rfl) hk ((evA v t).trans hs) ⟨M, β, τ, args_fr s hu⟩ ?_
      intro st a w' hfin s' v''
      have := fin_ok hfin s'
      cases fl with
      | true => exact ih w' (.inl this)
      | false => exact ih w' (.inr ⟨sput_flag hs, this⟩)
    · have hv : v1 = v := by
        unfold putS at hv1
        rw [sput_err he] at hv1
        cases hv1
        rfl
      subst hv
      refine deferred_ret (M0 := M0) hEput big (hnd_ok hEput big 6) (c := fstC c45) (c' := sndC c45) Try.func45 (by kernel_rfl) (by kernel_rfl) (by kernel_rfl) (by kernel_rfl) hk ((evB v1 t).trans (by rw [show (v1.2.2.2.1 != 0) = true by simpa using he]; rfl)) ⟨M, β, τ, args_fr s hu⟩ ?_
      intro st a w' hfin s' v''
      exact ih w' (.inr ⟨he, fin_ok hfin s'⟩)

theorem Lbump_putAll : Rises Try.prog 36 Gbump_putAll where
  enters := enters_of Try.func36 (c := c36) (by kernel_rfl) (by kernel_rfl)
  one := by decide
  len := rfl
  calls := by
    intro w M args vs x r hm hg ha hx hr
    obtain ⟨l, lim⟩ := x
    have hv := unpack_pack hx
    have hl : l.length ≤ maxLen := (args_wf hx ha).1.1
    have hlen : args.length ≤ 21 := by
      rw [← argsOk_len ha, ← hv]
      exact (show 2 ≤ 21 by decide)
    have s0 : Sim2 w (Bs.of M w) 21 { s := slotsV 0 (unpackL [Z4, Z1] (l, lim)), l := [], k := [], b := 4096 } (enterAct args 21) [] w := by
      rw [show unpackL [Z4, Z1] (l, lim) = vs from hv]
      exact init_sm hm hg ha hlen
    have hk : ∀ b, ¬ (Bs.of M w).kp b := fun b h => h
    refine calls_of_wp_defers Try.func36 (c := c36) (by kernel_rfl) ((wpIn_wide (n := 0)).1 ?_)
    show c36.wpIn (fen none) 0 Try.prog _ (enterAct args 21) w
    rw [c36_eq]
    refine wpIn_seq (denS_sound (M0 := Bs.of M w) hEput big (hnd_ok hEput big 6) 0 r0 (by kernel_rfl) (by kernel_rfl) k0 (nx DS) (nr DS) _ ?_ (fun j st a w h => by cases h) (fun st a w h => by cases h) _ _ w (evS l lim) s0)
    intro st a w1 h s
    refine wpIn_seq (denS_sound (M0 := Bs.of M w) hEput big (hnd_ok hEput big 6) 0 r1 (by kernel_rfl) (by kernel_rfl) k1 (nx DS) (nr DS) _ ?_ (fun j st a w h => by cases h) (fun st a w h => by cases h) _ _ w1 h s)
    clear s h st a w1
    intro st a w1 h s
    refine wpIn_seq (wpIn_seq (denS_sound (M0 := Bs.of M w) hEput big (hnd_ok hEput big 6) 0 r2 (by kernel_rfl) (by kernel_rfl) k2 (nx DS) (nr DS) _ ?_ (fun j st a w h => by cases h) (fun st a w h => by cases h) _ _ w1 h s))
    clear s h st a w1
    intro st a w1 h s1
    obtain ⟨x, y, h1, kk, hq, s⟩ := ext_ok h s1
    clear s1 h
    obtain ⟨rfl, rfl⟩ := Prod.mk.inj (Option.some.inj h1)
    obtain rfl := noK_inv hq
    obtain ⟨M1, β, τ, s⟩ := s
    obtain ⟨p, hp4, hp⟩ := s.fr 4 (.loc 0 []) rfl
    have sg : Sm w (Bs.of M w) 21 M1 β τ (stL l (IntKind.i64.wrap ((List.length l : Int) - 1)) (toA (v0 lim))) a [ghA p] w1 := by
      refine s.frame (s.noDefers hk) s.sz s.fr ⟨?_, trivial⟩
      intro i rv h
      simp only [lk_cons] at h
      split at h
      · rename_i e
        subst e
        cases h
        exact ⟨p, rfl, hp⟩
      · simp [lk] at h
    have ew : IntKind.i64.wrap ((List.length l : Int) - 1) = ((l.length : Nat) : Int) - 1 := by
      have hml : maxLen ≤ 9223372036854775807 := by decide
      refine wrap_i64 (by omega) (by omega)
    rw [ew] at sg
    have ea : a = df [] a := by
      have := s.noDefers hk
      cases a
      simp only at this
      subst this
      rfl
    rw [ea]
    refine wpIn_block (wpIn_loop_rounds (l.length + 1) ?_)
    refine loop_ok (M0 := Bs.of M w) (p := p) (l := l) (y := toA (v0 lim)) hl ?_ l.length (l.length + 1) a w1 [] (Nat.le_refl _) (by omega) ⟨M1, β, τ, sg⟩ (by rw [List.drop_length]; trivial)
    clear sg s hp hp4 ea h1 a w1
    intro a w1 ds i b s hds
    show (Code.seq r6 .ret).wpIn (fen none) 0 Try.prog _ (df ds a) w1
    refine wpIn_seq ?_
    rw [r6_eq]
    refine wpIn_region_list (list_df ds plain6 ?_)
    refine opsR_sound (M0 := Bs.of M w) hEput (hnd_ok hEput big 6) (.inl rfl) ?_ _ _ a w1 (fun _ h => h) (ev6 l i b (toA (v0 lim))) s dst6
    clear s a w1
    intro st a w1 h s1
    obtain ⟨x, y, h1, kk, hq, s⟩ := ext_ok h s1
    clear s1 h
    obtain ⟨rfl, rfl⟩ := Prod.mk.inj (Option.some.inj h1)
    replace s := to_gh (b' := 4096) hq s
    obtain ⟨M1, β, τ, s⟩ := s
    obtain ⟨u4, hu4, hr4⟩ := s.fr 4 (.loc 0 []) rfl
    have hp : u4 = p := loc_same hr4 (gh_ptr s rfl)
    subst hp
    refine wpIn_ret ?_
    show Leaves Try.prog Try.f36 a.tmps _ ds .returning w1
    refine leaves_ok (M0 := Bs.of M w) hk rfl hu4 s.sz ds l (v0 lim) w1 hds (.inl ⟨M1, β, τ, ?_⟩) hr
    exact s.frame (N' := 1) (a' := ghA u4) rfl rfl (fun i rv h => by simp [lk] at h) s.fs
end Go.Proofs.Ytlmhokakghbciaa
