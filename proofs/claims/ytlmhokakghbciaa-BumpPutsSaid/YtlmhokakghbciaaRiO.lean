/- A function is what its wider reading says; a law that is true for all typed arguments. -/
import Derived.Test.YtlmhokakghbciaaRiN
import Derived.KernelRfl
namespace Go.Lift
open Go.RowKit

section
variable {P : Program} {E : Env2} {w0 : World} {M0 : Bs} {N : Nat} {M M' : Own} {β : Nat → Nat} {τ : Nat → Value} {st st' : St} {a : Act} {as : List Act} {w w' : World}

theorem slotsV_lk : ∀ (k : Nat) (vs : List TV) (i : Nat) (rv : RV), lk i (slotsV k vs) = some rv → ∃ v, k ≤ i ∧ vs[i - k]? = some v ∧ rv = .val v
  | k, [], i, rv, h => by simp [slotsV, lk] at h
  | k, v :: r, i, rv, h => by
    simp only [slotsV, lk_cons] at h
    split at h
    · rename_i e
      subst e
      cases h
      exact ⟨v, Nat.le_refl _, by simp, rfl⟩
    · obtain ⟨u, h1, h2, h3⟩ := slotsV_lk (k + 1) r i rv h
      refine ⟨u, by omega, ?_, h3⟩
      rw [show i - k = (i - (k + 1)) + 1 by omega]
      simpa using h2

theorem init_sm {vs : List TV} {args : List Value} {m b : Nat} (hm : ∀ b o, M b o → b < w.heap.size) (hg : GlOk M w) (ha : ArgsOk M w vs args) (hl : args.length ≤ m) :
    Sim2 w (Bs.of M w) m { s := slotsV 0 vs, l := [], k := [], b := b } (enterAct args m) [] w := by
  refine ⟨M, fun _ => 0, fun _ => undef, { df := dfOk_nil fun _ h => h.elim, sz := by simp [enterAct]; omega, bel := Below.refl _ _, mlt := hm, mex := fun _ _ m => m, gk := hg, gx := Ext.refl M w, kp := fun _ h => h.elim, mnew := fun _ _ m => .inl m, fr := ?_, fs := trivial, ob := ?_, dj := ?_ }⟩
  · intro i rv h
    obtain ⟨v, _, h2, rfl⟩ := slotsV_lk _ _ _ _ h
    obtain ⟨u, hu, hv⟩ := argsOk_at ha (by simpa using h2)
    exact ⟨u, enter_at hu, u, rfl, hv⟩
  · intro id ob h; simp [lk] at h
  · intro id id' ob ob' b h; simp [lk] at h

theorem ownId_of : ∀ {os : List Bool} {rvs : List RV} {i id : Nat}, (os.filter (fun b => b)).length ≤ 1 → os[i]? = some true → rvs[i]? = some (.row id) → ownId os rvs = some id
  | [], _, _, _, _, h, _ => by simp at h
  | _ :: _, [], _, _, _, _, h => by simp at h
  | o :: os, rv :: rvs, 0, id, hc, ho, hr => by
    simp at ho hr
    subst ho hr
    rfl
  | o :: os, rv :: rvs, i + 1, id, hc, ho, hr => by
    simp only [List.getElem?_cons_succ] at ho hr
    cases o with
    | false =>
      have := ownId_of (os := os) (rvs := rvs) (by simpa using hc) ho hr
      cases rv <;> simpa [ownId] using this
    | true =>
      exfalso
      have h0 : os.filter (fun b => b) = [] := by simpa using hc
      have : true ∈ os.filter (fun b => b) := List.mem_filter.2 ⟨List.mem_of_getElem? ho, rfl⟩
      rw [h0] at this
      cases this

theorem Sm.less (s : Sm w0 M0 N M β τ st a as w) (own : Option Nat) : (∀ id ob, lk id (lessL own st.l) = some ob → ObOk (ownB w0 M0) M w β τ (lessL own st.l) id ob) ∧ (∀ rv u, RR M w β τ st.l rv .sl [u] → RR M w β τ (lessL own st.l) (lessR own rv) .sl [u]) ∧
    (∀ j ob b, lk j (lessL own st.l) = some ob → blk β τ j ob = some b → b < w.heap.size ∧ w0.heap.size ≤ b ∧ ∀ id, own = some id → ∀ ob', lk id st.l = some ob' → blk β τ id ob' ≠ some b) := by
  cases own with
  | none => exact ⟨s.ob, fun _ _ h => h, fun j ob b hl hb => ⟨(s.block hl hb).1, (s.block hl hb).2.1.1, fun _ h => by cases h⟩⟩
  | some id =>
    have sk := s.kill id
    refine ⟨sk.ob, fun rv u r => RR.map (kill_map id) r, fun j ob b hl hb => ⟨(sk.block hl hb).1, (sk.block hl hb).2.1.1, ?_⟩⟩
    intro id' e ob' hl' hb'
    cases e
    obtain ⟨hne, o0, h1, rfl⟩ := kill_inv (d := id) hl
    rw [blk_map] at hb
    exact hne (s.dj j id o0 ob' b h1 hl' hb hb')

theorem resOne_pc {l l' : List (Nat × Ob)} {g : RV → RV} {t : Ty} {o : Bool} {rv : RV} : PC (fun β k => resOne (α := β) l l' g t o rv k) := by
  unfold resOne
  refine PC.bif ?_ (PC.comp (G := fun β v k => (TV.as t v).bind k) (peekK_pc 6 _) fun v => PC.bind fun x => PC.ret _)
  split
  · split
    · exact PC.bind fun x => PC.ret _
    · exact PC.none
  · exact PC.bind fun x => PC.ret _
  · exact PC.none

theorem resOne_ok (s : Sm w0 M0 N M β τ st a as w) {own : Option Nat} {t : Ty} {o : Bool} {rv : RV} {x : t.den} {u : Value} (hown : ∀ id, o = true → rv = .row id → own = some id) (h : resOne st.l (lessL own st.l) (lessR own) t o rv some = some x) (r : RR M w β τ st.l rv .sl [u]) :
    OneOk w0.heap.size (MAll M β τ (lessL own st.l)) w t o x u := by
  obtain ⟨k1, k2, k3⟩ := s.less own
  have hext : Ext M w (MAll M β τ (lessL own st.l)) w := ext_all
  unfold resOne at h
  cases o with
  | true =>
    simp only [cond_true] at h
    split at h
    · rename_i id
      obtain ⟨t', xs, hl, hu⟩ := row_inv r
      simp only [hl] at h
      obtain ⟨y, hy, h⟩ := Option.bind_eq_some_iff.1 h
      cases h
      have := TV.as_eq hy
      cases this
      obtain ⟨⟨ad, cap, row, h0, h1, h2, h3, h4, h5⟩, h6⟩ := s.ob id _ hl
      rw [hu]
      refine ⟨ad, cap, row, h0, h1, h2, h3, h4.mono (fun _ _ r => r.ext hext), fun a0 ha hc => ?_⟩
      obtain ⟨b, cur, T, e1, g1, g2, g3, g4, g5⟩ := h5 a0 ha hc
      refine ⟨b, cur, T, e1, g1.1, g2, g3, g4, ?_⟩
      rintro o (m | ⟨j, ob, hj, hb⟩)
      · exact g5 o m
      · refine (k3 j ob b hj hb).2.2 id (hown id rfl rfl) _ hl ?_
        simp only [blk]
        rw [h0, ha, e1]
        simp [wob]
        omega
    · rename_i e
      obtain ⟨y, hy, h⟩ := Option.bind_eq_some_iff.1 h
      cases h
      have := TV.as_eq hy
      cases this
      have r' : [u] = [Value.slice none 0 0] := r
      cases r'
      exact rowX_nil
    · cases h
  | false =>
    simp only [cond_false] at h
    obtain ⟨v, h1, h2⟩ := peekK_pc 6 _ _ _ _ h
    obtain ⟨y, hy, h2⟩ := Option.bind_eq_some_iff.1 h2
    cases h2
    obtain rfl := TV.as_eq hy
    have := peekK_ok k1 6 (h1 _ some) (k2 _ _ r)
    cases t <;> exact this

theorem resK_ok (s : Sm w0 M0 N M β τ st a as w) {own : Option Nat} : ∀ {rs : List Ty} {os : List Bool} {rvs : List RV} {us : List Value} {x : resDen rs}, (∀ (i id : Nat), os[i]? = some true → rvs[i]? = some (RV.row id) → own = some id) →
    resK st.l (lessL own st.l) (lessR own) rs os rvs some = some x → Rel2 M w β τ st.l rvs us → EachOk w0.heap.size (MAll M β τ (lessL own st.l)) w rs os x us
  | [], [], [], [], _, _, _, _ => rfl
  | [t], [o], [rv], [u], x, ho, h, hr => ⟨u, rfl, resOne_ok s (fun id h1 h2 => ho 0 id (by simpa using h1) (by simp [h2])) h hr.1⟩
  | t :: t' :: ts, o :: os, rv :: rvs, u :: us, x, ho, h, hr => by
    simp only [resK] at h
    obtain ⟨y, h1, h2⟩ := resOne_pc _ _ _ h
    have pc : ∀ (rs : List Ty) (os : List Bool) (rvs : List RV), PC (fun β k => resK (α := β) st.l (lessL own st.l) (lessR own) rs os rvs k) := by
      intro rs
      induction rs with
      | nil => intro os rvs; cases os <;> cases rvs <;> first | exact PC.ret _ | exact PC.none
      | cons t rs ih =>
        intro os rvs
        cases rs with
        | nil =>
          match os, rvs with
          | [o], [rv] => exact resOne_pc
          | [], _ => exact PC.none
          | _ :: _ :: _, _ => exact PC.none
          | [o], [] => exact PC.none
          | [o], _ :: _ :: _ => exact PC.none
        | cons t2 rs =>
          match os, rvs with
          | o :: os, rv :: rvs => exact PC.comp (G := fun β x k => resK st.l (lessL own st.l) (lessR own) (t2 :: rs) os rvs fun r => k (x, r)) resOne_pc fun x => PC.comp (G := fun β r k => k (x, r)) (ih os rvs) fun r => PC.ret _
          | [], _ => exact PC.none
          | o :: os, [] => exact PC.none
    obtain ⟨z, h3, h4⟩ := pc _ _ _ _ _ _ h2
    cases h4
    exact ⟨u, us, rfl, resOne_ok s (fun id h1 h2 => ho 0 id (by simpa using h1) (by simp [h2])) (h1 _ some) hr.1, resK_ok s (fun i id g1 g2 => ho (i + 1) id (by simpa using g1) (by simpa using g2)) (h3 _ some) hr.2⟩
  | [], _ :: _, _, _, _, _, h, _ => by simp [resK] at h
  | [], [], _ :: _, _, _, _, h, _ => by simp [resK] at h
  | [], [], [], _ :: _, _, _, _, hr => hr.elim
  | [_], [], _, _, _, _, h, _ => by simp [resK] at h
  | [_], _ :: _ :: _, _, _, _, _, h, _ => by simp [resK] at h
  | [_], [_], [], _, _, _, h, _ => by simp [resK] at h
  | [_], [_], _ :: _ :: _, _, _, _, h, _ => by simp [resK] at h
  | [_], [_], [_], [], _, _, _, hr => hr.elim
  | [_], [_], [_], _ :: _ :: _, _, _, _, hr => hr.2.elim
  | _ :: _ :: _, [], _, _, _, _, h, _ => by simp [resK] at h
  | _ :: _ :: _, _ :: _, [], _, _, _, h, _ => by simp [resK] at h
  | _ :: _ :: _, _ :: _, _ :: _, [], _, _, _, hr => hr.elim

/-- a function is what its wider reading says -/
theorem rises_of (hE : Env2Ok P E) {f : FuncId} {fn : Func} {c : Code} {ps rs : List Ty} {os : List Bool} {F : resDen ps → Option (resDen rs)} (hf : P.funcs[f]? = some fn) (hb : fn.body = some c) (hn : (fn.name == "runtime.NumGoroutine") = false)
    (hd : dstsOk fn.ntmps c = true) (hps : Nat.ble ps.length fn.ntmps = true) (hone : Nat.ble (os.filter (fun b => b)).length 1 = true) (hlen : Nat.beq os.length rs.length = true)
    (hF : ∀ x r, WfL ps x → F x = some r → ∃ lt lv N, rise E lt lv N fn ps rs os x = some r) : Rises P f ⟨ps, rs, os, F⟩ where
  enters := enters_of hf hb hn
  one := Nat.le_of_ble_eq_true hone
  len := Nat.eq_of_beq_eq_true hlen
  calls := by
    intro w M args vs x r hm hg ha hx hr
    obtain ⟨lt, lv, Nf, hN⟩ := hF x r (args_wf hx ha) hr
    simp only [rise, hb] at hN
    rw [unpack_pack hx] at hN
    have hlen : args.length ≤ fn.ntmps := by
      rw [← argsOk_len ha]
      have h2 := congrArg List.length (unpack_pack hx)
      rw [unpackL_length] at h2
      rw [← h2]
      exact Nat.le_of_ble_eq_true hps
    have fin : ∀ (st : St) (a : Act) (w' : World), ((resR E st fn.results.toList).bind fun vs => resK st.l (lessL (ownId os vs) st.l) (lessR (ownId os vs)) rs os vs some) = some r → Sim2 w (Bs.of M w) fn.ntmps st a [] w' →
        ∃ v, (results fn a.tmps).run P w' = .ok v w' ∧ ∃ us M', Ending.returned v = .returned (retV us) ∧ Gr M w M' w' ∧ EachOk w.heap.size M' w' rs os r us := by
      intro st a w' h s
      obtain ⟨M1, β, τ, s⟩ := s
      obtain ⟨rvs, h1, h2⟩ := Option.bind_eq_some_iff.1 h
      obtain ⟨us, h3, h4⟩ := resR_ok hE s _ _ h1
      have h5 := resK_ok s (own := ownId os rvs) (fun i id g1 g2 => ownId_of (Nat.le_of_ble_eq_true hone) g1 g2) h2 h4
      obtain ⟨_, _, k3⟩ := s.less (ownId os rvs)
      refine ⟨_, results_run h3, us, _, rfl, ⟨s.bel, fun b o m => .inl (s.mex b o m), ?_, ?_⟩, h5⟩
      · rintro b o (m | ⟨id, ob, hl, hb⟩)
        · exact s.mnew b o m
        · exact .inr (k3 id ob b hl hb).2.1
      · rintro b o (m | ⟨id, ob, hl, hb⟩)
        · exact s.mlt b o m
        · exact (k3 id ob b hl hb).1
    exact body_calls hE Nf (hnd_ok hE Nf lv) hf hb hd hN (init_sm hm hg ha hlen) fin

/-- the same, with less to say -/
theorem rz (hE : Env2Ok P E) {f : FuncId} {fn : Func} {c : Code} {ps rs : List Ty} {os : List Bool} {F : resDen ps → Option (resDen rs)} {lt : LT} {lv N : Nat} (hf : P.funcs[f]? = some fn) (h : ∀ x r, F x = some r → rise E lt lv N fn ps rs os x = some r) (hb : fn.body = some c := by rfl) (hn : (fn.name == "runtime.NumGoroutine") = false := by decide)
    (hd : dstsOk fn.ntmps c = true := by kernel_rfl) (hps : Nat.ble ps.length fn.ntmps = true := by kernel_rfl) (hone : Nat.ble (os.filter (fun b => b)).length 1 = true := by kernel_rfl) (hlen : Nat.beq os.length rs.length = true := by kernel_rfl) : Rises P f ⟨ps, rs, os, F⟩ :=
  rises_of hE hf hb hn hd hps hone hlen fun x r _ h' => ⟨lt, lv, N, h x r h'⟩

theorem rises_none {f : FuncId} {fn : Func} {c : Code} {ps rs : List Ty} {os : List Bool} (hf : P.funcs[f]? = some fn) (hb : fn.body = some c) (hn : (fn.name == "runtime.NumGoroutine") = false) (hone : Nat.ble (os.filter (fun b => b)).length 1 = true) (hlen : Nat.beq os.length rs.length = true) :
    Rises P f ⟨ps, rs, os, fun _ => none⟩ where
  enters := enters_of hf hb hn
  one := Nat.le_of_ble_eq_true hone
  len := Nat.eq_of_beq_eq_true hlen
  calls := by intro w M args vs x r _ _ _ _ hr; cases hr

theorem fsNil2 : ∀ f fn, lk f ([] : List (FuncId × Fn2)) = some fn → Rises P f fn := by
  intro f fn h; simp [lk] at h
theorem fsCons2 {g : FuncId} {fg : Fn2} {l : List (FuncId × Fn2)} (hg : Rises P g fg) (h : ∀ f fn, lk f l = some fn → Rises P f fn) : ∀ f fn, lk f ((g, fg) :: l) = some fn → Rises P f fn := by
  intro f fn hf
  rw [lk_cons] at hf
  split at hf
  · rename_i e; subst e; cases hf; exact hg
  · exact h f fn hf

def inlB (P : Program) (p : FuncId × Func × LT) : Prop := P.funcs[p.1]? = some p.2.1 ∧ (p.2.1.name == "runtime.NumGoroutine") = false ∧ ∀ c, p.2.1.body = some c → dstsOk p.2.1.ntmps c = true
theorem inlB_of {f : FuncId} {fn : Func} {lt : LT} {c : Code} (h1 : P.funcs[f]? = some fn) (h2 : (fn.name == "runtime.NumGoroutine") = false) (h3 : fn.body = some c) (h4 : dstsOk fn.ntmps c = true) : inlB P (f, fn, lt) :=
  ⟨h1, h2, fun c' h => by rw [h3] at h; cases h; exact h4⟩
theorem inlNil : ∀ f fn lt, lk f ([] : List (FuncId × Func × LT)) = some (fn, lt) → P.funcs[f]? = some fn ∧ (fn.name == "runtime.NumGoroutine") = false ∧ ∀ c, fn.body = some c → dstsOk fn.ntmps c = true := by
  intro f fn lt h; simp [lk] at h
theorem inlCons {p : FuncId × Func × LT} {l : List (FuncId × Func × LT)} (hg : inlB P p) (h : ∀ f fn lt, lk f l = some (fn, lt) → P.funcs[f]? = some fn ∧ (fn.name == "runtime.NumGoroutine") = false ∧ ∀ c, fn.body = some c → dstsOk fn.ntmps c = true) :
    ∀ f fn lt, lk f (p :: l) = some (fn, lt) → P.funcs[f]? = some fn ∧ (fn.name == "runtime.NumGoroutine") = false ∧ ∀ c, fn.body = some c → dstsOk fn.ntmps c = true := by
  intro f fn lt hf
  obtain ⟨g, gn, gl⟩ := p
  rw [lk_cons] at hf
  split at hf
  · rename_i e; subst e; cases hf; exact hg
  · exact h f fn lt hf

/-- a law that is true for all typed arguments -/
theorem law_run2 {H : Type} {enc : TypeId × Value → H} {tab : List (TypeId × Ty)} (htab : TabOk P tab) {f : FuncId} {fn : Fn2} (hL : Rises P f fn) (hT : ∀ x, WfL fn.ps x → ∃ r, fn.F x = some r ∧ (resL 0 fn.rs fn.os r) = ([.val ⟨.bool, true⟩], none)) {ts : List TypeId} {args : Array Value} {ds : List (DataW H)} {p : List MemPlace} {r : Reach} {b0 : Nat}
    (hts : ts.map (fun t => lk t tab) = fn.ps.map some) (hpl : fn.ps.all Ty.plain = true) (hv : ∀ (j : Nat) t v, ts[j]? = some t → args[j]? = some v → Value.okWide P w r b0 t v) (h : DataW.TrodAll enc P w 0 (fun _ => true) true ts args.toList ds p) (hG : GlOk (AllM w) w) :
    Calls P f args w fun e w' => e = .returned (.bool true) ∧ Below w.heap.size w w' := by
  obtain ⟨vs, h1, h2⟩ := args_open htab hts hpl (fun j t v h1 h2 => hv j t v h1 (by simpa using h2)) h
  obtain ⟨x, hx⟩ := pack_of h2
  obtain ⟨r, hr, hres⟩ := hT x (args_wf hx h1)
  have hc := (hL.calls w (AllM w) args.toList vs x r (fun b o m => m) hG h1 hx hr)
  rw [Array.toArray_toList] at hc
  refine hc.mono ?_
  rintro e w' ⟨us, M', rfl, hg, he⟩
  rcases resL_ok (id := 0) he hL.one with ⟨g1, g2⟩ | ⟨e, xs, u0, g1, g2, g3⟩
  · have := g2 (fun _ => 0) (fun _ => undef) []
    rw [hres] at this
    match us, this with
    | [u], h =>
      obtain ⟨⟨u', e, hv⟩, _⟩ := h
      cases e
      have := hv.bool
      subst this
      exact ⟨rfl, hg.bel⟩
  · rw [hres] at g1
    cases g1

/-- how long slices of numbers are -/
def Sz : (t : Ty) → t.den → Prop
  | .slice (.int k), xs => List.length xs * k.bits ≤ 8 * reachBytes
  | _, _ => True
def SzL : (ts : List Ty) → resDen ts → Prop
  | [], _ => True
  | [t], x => Sz t x
  | t :: u :: ts, x => Sz t x.1 ∧ SzL (u :: ts) x.2

theorem sz_one {H : Type} {enc : TypeId × Value → H} {tab : List (TypeId × Ty)} (htab : TabOk P tab) {M : Own} {w w' : World} {b : Nat} {sp : Nat → Bool} {held : Bool} {tid : TypeId} {T : Ty} {v : Value} {d : DataW H} {p : List MemPlace} {X : T.den} (ht : lk tid tab = some T)
    (h : DataW.Trod enc P w b sp held tid v d p) (hX : VOk M w' T X v) (hs : (d.weights P tid).all (· ≤ reachBytes) = true) : Sz T X := by
  unfold Sz
  split
  · rename_i k xs
    obtain ⟨te, hu, he⟩ := (htab _ _ ht).slice
    obtain ⟨i, hi, _⟩ := (htab _ _ he).info
    have h8 := (htab _ _ he).by8 k rfl i hi
    obtain ⟨fuel, h⟩ := h
    obtain ⟨cs, rfl, a, cap, row, rfl, _⟩ := hX
    rw [show (toV (.slice (.int k)) [Value.slice a (List.length xs) cap]).cells.toList = [Value.slice a (List.length xs) cap] from rfl] at h
    rcases DataW.trod_slice hu h with ⟨e, _⟩ | ⟨a', len, cap', elems, rest, n, _, e, e2, _, _, _, hl, _⟩
    · simp only [List.cons.injEq, Value.slice.injEq, and_true] at e
      rw [e.2.1]
      simp
    · simp only [List.cons.injEq, Value.slice.injEq, and_true] at e
      simp only [Prod.mk.injEq] at e2
      obtain ⟨rfl, _⟩ := e2
      simp only [DataW.weights, hu, List.all_cons, Bool.and_eq_true, decide_eq_true_eq, List.length_map] at hs
      have hb : P.bytesOf te = i.bytes := by simp [Program.bytesOf, hi]
      rw [hb] at hs
      have h1 : elems.length * i.bytes ≤ (elems.length + rest.length) * i.bytes := Nat.mul_le_mul_right _ (Nat.le_add_right _ _)
      have h2 := Nat.le_trans h1 hs.1
      rw [← h8, e.2.1, ← hl, ← Nat.mul_assoc, Nat.mul_comm 8]
      exact Nat.mul_le_mul_right 8 h2
  · trivial

theorem args_sz {H : Type} {enc : TypeId × Value → H} {tab : List (TypeId × Ty)} (htab : TabOk P tab) {M : Own} {w w' : World} {b : Nat} {sp : Nat → Bool} {held : Bool} : ∀ {ts : List TypeId} {ps : List Ty} {vs : List TV} {us : List Value} {ds : List (DataW H)} {p : List MemPlace} {x : resDen ps},
    ts.map (fun t => lk t tab) = ps.map some → packL ps vs = some x → ArgsOk M w' vs us → DataW.TrodAll enc P w b sp held ts us ds p → (DataW.weightsEach P ts ds).all (· ≤ reachBytes) = true → SzL ps x
  | _, [], _, _, _, _, _, _, _, _, _, _ => trivial
  | [], _ :: _, _, _, _, _, _, h, _, _, _, _ => by simp at h
  | _ :: _, [_], [], _, _, _, _, _, h, _, _, _ => by simp [packL] at h
  | _ :: _, [_], _ :: _ :: _, _, _, _, _, _, h, _, _, _ => by simp [packL] at h
  | _ :: _, [_], [_], [], _, _, _, _, _, ha, _, _ => ha.elim
  | t :: ts, [T], [v], u :: us, ds, p, x, ht, h, ha, hd, hs => by
    simp only [packL] at h
    obtain rfl := TV.as_eq h
    obtain ⟨v', vs', d, ds', q, q', e1, rfl, rfl, h1, h2⟩ := Go.ChangeShapes.trodAll_cons hd
    cases e1
    simp only [DataW.weightsEach, List.all_append, Bool.and_eq_true] at hs
    simp only [List.map_cons, List.cons.injEq] at ht
    exact sz_one htab ht.1 h1 ha.1 hs.1
  | _ :: _, _ :: _ :: _, [], _, _, _, _, _, h, _, _, _ => by simp [packL] at h
  | _ :: _, _ :: _ :: _, _ :: _, [], _, _, _, _, _, ha, _, _ => ha.elim
  | t :: ts, T :: U :: ps, v :: vs, u :: us, ds, p, x, ht, h, ha, hd, hs => by
    simp only [packL] at h
    obtain ⟨y, hy, h⟩ := Option.bind_eq_some_iff.1 h
    obtain ⟨z, hz, h⟩ := Option.bind_eq_some_iff.1 h
    cases h
    obtain rfl := TV.as_eq hy
    obtain ⟨v', vs', d, ds', q, q', e1, rfl, rfl, h1, h2⟩ := Go.ChangeShapes.trodAll_cons hd
    cases e1
    simp only [DataW.weightsEach, List.all_append, Bool.and_eq_true] at hs
    simp only [List.map_cons, List.cons.injEq] at ht
    exact ⟨sz_one htab ht.1 h1 ha.1 hs.1, args_sz htab (by simpa using ht.2) hz ha.2 h2 hs.2⟩

/-- a law that is true for all typed arguments of a size that memory has room for -/
theorem law_run3 {H : Type} {enc : TypeId × Value → H} {tab : List (TypeId × Ty)} (htab : TabOk P tab) {f : FuncId} {fn : Fn2} (hL : Rises P f fn) (hT : ∀ x, WfL fn.ps x → SzL fn.ps x → ∃ r, fn.F x = some r ∧ (resL 0 fn.rs fn.os r) = ([.val ⟨.bool, true⟩], none)) {ts : List TypeId} {args : Array Value} {ds : List (DataW H)} {p : List MemPlace} {r : Reach} {b0 : Nat}
    (hts : ts.map (fun t => lk t tab) = fn.ps.map some) (hpl : fn.ps.all Ty.plain = true) (hv : ∀ (j : Nat) t v, ts[j]? = some t → args[j]? = some v → Value.okWide P w r b0 t v) (h : DataW.TrodAll enc P w 0 (fun _ => true) true ts args.toList ds p) (hz : (DataW.weightsEach P ts ds).all (· ≤ reachBytes) = true) (hG : GlOk (AllM w) w) :
    Calls P f args w fun e w' => e = .returned (.bool true) ∧ Below w.heap.size w w' := by
  obtain ⟨vs, h1, h2⟩ := args_open htab hts hpl (fun j t v h1 h2 => hv j t v h1 (by simpa using h2)) h
  obtain ⟨x, hx⟩ := pack_of h2
  obtain ⟨r, hr, hres⟩ := hT x (args_wf hx h1) (args_sz htab hts hx h1 h hz)
  have hc := (hL.calls w (AllM w) args.toList vs x r (fun b o m => m) hG h1 hx hr)
  rw [Array.toArray_toList] at hc
  refine hc.mono ?_
  rintro e w' ⟨us, M', rfl, hg, he⟩
  rcases resL_ok (id := 0) he hL.one with ⟨g1, g2⟩ | ⟨e, xs, u0, g1, g2, g3⟩
  · have := g2 (fun _ => 0) (fun _ => undef) []
    rw [hres] at this
    match us, this with
    | [u], h =>
      obtain ⟨⟨u', e, hv⟩, _⟩ := h
      cases e
      have := hv.bool
      subst this
      exact ⟨rfl, hg.bel⟩
  · rw [hres] at g1
    cases g1
end
end Go.Lift
