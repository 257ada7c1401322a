/- Operations that change nothing that is there: what they give stands for what is read. -/
import Derived.Test.YtlmhokakghbciaaRiI
namespace Go.Lift
open Go.RowKit

section
variable {P : Program} {E : Env2} {Q : Exit → Act → World → Prop} {o : Oper} {w0 : World} {M0 : Bs} {N : Nat} {M M' : Own} {β : Nat → Nat} {τ : Nat → Value} {st st' : St} {a : Act} {as : List Act} {w w' : World} {id : Nat} {rv : RV} {ob : Option Ob}

/-- the conclusion for an operation that gives rv, and makes ob -/
abbrev Gives (P : Program) (Q : Exit → Act → World → Prop) (w0 : World) (M0 : Bs) (N : Nat) (o : Oper) (a : Act) (as : List Act) (w : World) (st : St) (id : Nat) (rv : RV) (ob : Option Ob) : Prop :=
  OSt P Q w0 M0 N o a as w (setR (addO id ob st) o.dst rv)

theorem gives_val (s : Sm w0 M0 N M β τ st a as w) (hd : ∀ d, o.dst = some d → d < N) {v : Value} (hr : (execOp a.eval o).run P w = .ok (.value v) w) (hv : RR M w β τ st.l rv .sl [v]) : Gives P Q w0 M0 N o a as w st id rv none :=
  ost_run hr ⟨M, β, τ, s.set o.dst hd hv⟩

theorem gives_sh (hE : Env2Ok P E) (s : Sm w0 M0 N M β τ st a as w) (hd : ∀ d, o.dst = some d → d < N) (h : (shOp E o st fun rv ob => some (rv, ob)) = some (rv, ob)) : Gives P Q w0 M0 N o a as w st id rv ob := by
  obtain ⟨hob, h2⟩ := shOp_sound (Q := Q) hE s hd h
  subst hob
  exact h2

/-- a pointer into a block of one's own -/
theorem loc_sl {L : List (Nat × Ob)} {i off : Nat} {p : List Step} {ob : Ob} {t' : Ty} (hl : lk i L = some ob) (ho : offS ob.shape p = some (off, t')) : RR M w β τ L (.loc i p) .sl [.pointer (some ⟨β i, off, none⟩)] := by
  simp only [RR]
  exact ⟨rfl, _, ob, off, t', rfl, rfl, hl, ho, rfl⟩

theorem loc_inv {L : List (Nat × Ob)} {i : Nat} {p : List Step} {u : Value} (r : RR M w β τ L (.loc i p) .sl [u]) : ∃ ob off t', lk i L = some ob ∧ offS ob.shape p = some (off, t') ∧ u = .pointer (some ⟨β i, off, none⟩) := by
  simp only [RR] at r
  obtain ⟨_, u', ob, off, t', e, _, hl, ho, hu⟩ := r
  cases e
  exact ⟨ob, off, t', hl, ho, hu⟩

theorem row_inv {L : List (Nat × Ob)} {i : Nat} {u : Value} (r : RR M w β τ L (.row i) .sl [u]) : ∃ t xs, lk i L = some (.row t xs) ∧ u = τ i := by
  simp only [RR] at r
  obtain ⟨_, u', t, xs, e, _, hl, hu⟩ := r
  cases e
  exact ⟨t, xs, hl, hu⟩

theorem sub_inv {L : List (Nat × Ob)} {i lo hi : Nat} {u : Value} (r : RR M w β τ L (.sub i lo hi) .sl [u]) : ∃ t xs, lk i L = some (.row t xs) ∧ lo ≤ hi ∧ hi ≤ List.length xs ∧ SubH t.n lo hi (τ i) u := by
  simp only [RR] at r
  obtain ⟨_, u', t, xs, e, _, hl, h1, h2, hu⟩ := r
  cases e
  exact ⟨t, xs, hl, h1, h2, hu⟩

/-- the cells of a part of a variable -/
theorem Sm.varCells (s : Sm w0 M0 N M β τ st a as w) {i : Nat} {ty : Ty} {con rv' : RV} {p : List Step} {off : Nat} {t1 t' : Ty} (hl : lk i st.l = some (.var ty con)) (ho : offP ty p = some (off, t')) (hp : partK (fun t rv => some (t, rv)) ty con p = some (t1, rv')) :
    t1 = t' ∧ ∃ cs, RR M w β τ st.l rv' (.ce t1) cs ∧ ∀ j, j < cs.length → w.cell? ⟨β i, off + j, none⟩ = cs[j]? := by
  obtain ⟨_, ⟨cs, T, hb, rc⟩, _⟩ := s.ob i _ hl
  obtain ⟨e1, c0, c1, c2, e2, e3, r1⟩ := part_ok hp ho rc
  refine ⟨e1, c1, r1, fun j hj => ?_⟩
  rw [cell_of_row _ _ _ _ _ _ hb, e2, ← e3, List.getElem?_toArray, List.getElem?_append_right (by omega), Nat.add_sub_cancel_left, List.getElem?_append_left hj]

/-- the cells of an element, or of a part of one -/
theorem Sm.rowCells (s : Sm w0 M0 N M β τ st a as w) {i : Nat} {t : Ty} {xs : List t.den} {j : Int} {q : List Step} {off : Nat} {t' : Ty} {x : t.den} {v : TV} (hl : lk i st.l = some (.row t xs)) (ho : offS (Ob.row t xs).shape (.idx j :: q) = some (off, t')) (hx : nth xs j.toNat = some x)
    (hv : getP t x q = some v) : v.1 = t' ∧ ∃ cs, Rep M w v.1 cs v.2 ∧ ∀ k, k < cs.length → w.cell? ⟨β i, off + k, none⟩ = cs[k]? := by
  simp only [Ob.shape, offS] at ho
  obtain ⟨hi, ho⟩ := ite_some ho
  obtain ⟨⟨o1, t1⟩, ho1, ho⟩ := Option.bind_eq_some_iff.1 ho
  cases ho
  obtain ⟨⟨ad, cap, row, g0, g1, g2, g3, g4, g5⟩, g6⟩ := s.ob i _ hl
  have hpos : 0 < cap := by omega
  obtain ⟨a0, rfl⟩ : ∃ a0, ad = some a0 := by
    cases ad with
    | none => have := g3 rfl; omega
    | some a0 => exact ⟨a0, rfl⟩
  obtain ⟨b, cur, T, rfl, k1, ⟨fz, kz, k2⟩, k3, k4, k5⟩ := g5 a0 rfl hpos
  have hbβ := g6 b (by rw [g0]; simp [wob]; omega)
  obtain ⟨d0, d1, d2, e1, e2, e3⟩ := g4.at (fun _ _ r => r.length) j.toNat hx
  obtain ⟨h1, c0, c1, c2, e4, e5, e6⟩ := getP_rep hv ho1 e3
  refine ⟨h1, c1, e6, fun k hk => ?_⟩
  rw [← hbβ, cell_of_row _ _ _ _ _ _ k2, k4 _ (by rw [e1, e4]; simp; omega), e1, e4, List.getElem?_append_right (by omega), List.append_assoc, List.getElem?_append_right (by omega), List.append_assoc, List.getElem?_append_left (by omega)]
  congr 1
  omega

/-- a load of cells that are known -/
theorem load_cells {tab : List (TypeId × Ty)} {tid : TypeId} {t : Ty} (h : TOk P tab tid t) {L : List (Nat × Ob)} {b off : Nat} {cs : List Value} (r : RR M w β τ L rv (.ce t) cs) (hc : ∀ j, j < cs.length → w.cell? ⟨b, off + j, none⟩ = cs[j]?) :
    (Instr.loadAt tid (.pointer (some ⟨b, off, none⟩))).run P w = .ok (toV t cs) w := by
  have hl := r.length
  simp only [Instr.loadAt, Instr.sureAddr, Sem.run_bind, Sem.run_pure, Result.andThen_ok, loadVar, h.isAgg]
  cases ha : t.isAgg with
  | true =>
    have hcc : (loadCells ⟨b, off, none⟩ cs.length).run P w = .ok cs.toArray w :=
      run_loadCells_list w ⟨b, off, none⟩ cs (fun j v hv => by
        have hj : j < cs.length := (List.getElem?_eq_some_iff.1 hv).1
        rw [addr_add, hc j hj, hv])
    simp only [if_true, Sem.run_bind, h.sizeOf, Result.andThen_ok, ← hl, hcc, Sem.run_pure, toV, ha]
  | false =>
    have : t.n = 1 := by cases t <;> simp [Ty.isAgg] at ha <;> rfl
    rw [this] at hl
    obtain ⟨v, rfl⟩ := List.length_eq_one_iff.1 hl
    have := hc 0 (by simp)
    simp at this
    simp [toV, ha, this]

theorem part_run2 {tab : List (TypeId × Ty)} {tid : TypeId} {t : Ty} (h : TOk P tab tid t) {cs c0 c1 c2 : List Value} (e : cs = c0 ++ (c1 ++ c2)) (hl : c1.length = t.n) {off : Nat} (ho : off = c0.length) (w : World) :
    (part tid cs.toArray off).run P w = .ok (toV t c1) w := by
  subst e ho
  unfold part
  rw [Sem.run_bind, h.isAgg]
  simp only [Result.andThen_ok]
  cases ha : t.isAgg with
  | true =>
    simp only [if_true, Sem.run_bind, h.sizeOf, Result.andThen_ok, toV, ha, Sem.run_pure]
    congr 2
    simp [← hl]
  | false =>
    have : t.n = 1 := by cases t <;> simp [Ty.isAgg] at ha <;> rfl
    rw [this] at hl
    obtain ⟨v, rfl⟩ := List.length_eq_one_iff.1 hl
    simp [toV, ha]

theorem load_sound2 (hE : Env2Ok P E) (s : Sm w0 M0 N M β τ st a as w) (hd : ∀ d, o.dst = some d → d < N) {T : TypeId} {x : Operand} (hop : o.op = .load T x) (h : opP E o st id (fun rv ob => some (rv, ob)) = some (rv, ob)) : Gives P Q w0 M0 N o a as w st id rv ob := by
  simp only [opP, hop] at h
  have hx := evR_ok s.glob s.fr (lk o.type E.tab) x
  have he : execOp a.eval o = (do pure (Next.value (← Instr.loadAt T (a.eval x)))) := by simp only [execOp, hop]
  split at h
  · rename_i i p heq
    rw [heq] at hx
    obtain ⟨ob1, off, t', hl, ho, hu⟩ := loc_inv hx
    simp only [hl] at h
    cases ob1 with
    | var ty con =>
      simp only at h
      obtain ⟨⟨t1, rv1⟩, h1, h2⟩ := partK_pc (X := Ty × RV) (g := fun β t rv k => k (t, rv)) (fun t rv => PC.ret _) ty con p _ (fun q : Ty × RV => bif tyIs (lk T E.tab) q.1 then some (ofC q.1 q.2, (none : Option Ob)) else none) _ h
      obtain ⟨hc, h2⟩ := bif_some h2
      cases h2
      obtain ⟨e1, cs, hr, hcell⟩ := s.varCells hl ho (h1 _ some)
      refine gives_val s hd (exec_v he ?_) hr.sl_of_ce
      rw [hu]
      exact load_cells (hE.tab _ _ (tyIs_eq hc)) hr hcell
    | row t xs =>
      simp only at h
      split at h
      · rename_i j q
        obtain ⟨y, hy, h⟩ := Option.bind_eq_some_iff.1 h
        rw [getK_eq] at h
        obtain ⟨v, hv, h⟩ := Option.bind_eq_some_iff.1 h
        obtain ⟨hc, h⟩ := bif_some h
        cases h
        obtain ⟨e1, cs, hr, hcell⟩ := s.rowCells hl ho hy hv
        refine gives_val s hd (v := toV v.1 cs) (exec_v he ?_) ⟨_, rfl, cs, rfl, hr⟩
        rw [hu]
        exact load_run (hE.tab _ _ (tyIs_eq hc)) hcell hr
      · cases h
    | mp => cases h
    | lp => cases h
  · exact gives_sh hE s hd h

theorem typO_ok {ob : Ob} {p : List Step} {off : Nat} {t' : Ty} (h : offS ob.shape p = some (off, t')) : typO ob p = some t' := by
  cases ob with
  | var ty con => exact offP_typP h
  | mp kt vt es => exact offP_typP h
  | lp c q => exact offP_typP h
  | row ty xs =>
    cases p with
    | nil => simp [Ob.shape, offS] at h
    | cons s p =>
      cases s with
      | fld i => simp [Ob.shape, offS] at h
      | idx i =>
        simp only [Ob.shape, offS] at h
        obtain ⟨_, h⟩ := ite_some h
        obtain ⟨⟨o1, t1⟩, ho1, h⟩ := Option.bind_eq_some_iff.1 h
        cases h
        exact offP_typP ho1

theorem offS_snoc {sh : Bool × Ty × Nat} {p : List Step} {s : Step} {off o2 : Nat} {t' t2 : Ty} (h : offS sh p = some (off, t')) (h2 : offP t' [s] = some (o2, t2)) : offS sh (p ++ [s]) = some (off + o2, t2) := by
  obtain ⟨b, t, n⟩ := sh
  cases b with
  | false => exact offP_snoc h h2
  | true =>
    cases p with
    | nil => simp [offS] at h
    | cons s' p =>
      cases s' with
      | fld i => simp [offS] at h
      | idx i =>
        simp only [offS] at h
        obtain ⟨hi, h⟩ := ite_some h
        obtain ⟨⟨o1, t1⟩, ho1, h⟩ := Option.bind_eq_some_iff.1 h
        cases h
        have := offP_snoc ho1 h2
        simp only [List.cons_append, offS, if_pos hi, this, Option.bind_some]
        rw [Nat.add_assoc]

theorem fieldAddr_sound2 (hE : Env2Ok P E) (s : Sm w0 M0 N M β τ st a as w) (hd : ∀ d, o.dst = some d → d < N) {T : TypeId} {x : Operand} {f : Nat} (hop : o.op = .fieldAddr T x f) (h : opP E o st id (fun rv ob => some (rv, ob)) = some (rv, ob)) : Gives P Q w0 M0 N o a as w st id rv ob := by
  simp only [opP, hop] at h
  have hx := evR_ok s.glob s.fr (lk o.type E.tab) x
  have he : execOp a.eval o = (do pure (Next.value (← Instr.fieldAt T (a.eval x) f))) := by simp only [execOp, hop]
  split at h
  · rename_i i p heq
    rw [heq] at hx
    obtain ⟨ob1, off, t', hl, ho, hu⟩ := loc_inv hx
    simp only [hl, Option.bind_some, typO_ok ho] at h
    obtain ⟨hc, h⟩ := bif_some h
    cases h
    simp only [Bool.and_eq_true] at hc
    obtain ⟨c, hc2⟩ := Option.isSome_iff_exists.1 hc.2
    have hT := hE.tab _ _ (tyIs_eq hc.1)
    obtain ⟨fs, fd, k, hu2, hfd, htc, hk, hoff, hn⟩ := hT.fields hc2
    have hsz := (hE.tab _ _ htc).sizeOf w
    refine gives_val s hd (v := .pointer (some ⟨β i, off + k, none⟩)) (exec_v he ?_) (loc_sl hl (offS_snoc ho hk))
    simp only [Instr.fieldAt, Sem.run_bind, run_underlying hu2, Result.andThen_ok, hfd, hu, Instr.sureAddr, Sem.run_pure, fieldPlace, hsz, if_neg (show ¬ c.n = 0 by omega), addr_add, hoff]
  · exact gives_sh hE s hd h

theorem field_sound2 (hE : Env2Ok P E) (s : Sm w0 M0 N M β τ st a as w) (hd : ∀ d, o.dst = some d → d < N) {T : TypeId} {x : Operand} {f : Nat} (hop : o.op = .field T x f) (h : opP E o st id (fun rv ob => some (rv, ob)) = some (rv, ob)) : Gives P Q w0 M0 N o a as w st id rv ob := by
  simp only [opP, hop] at h
  have hx := evR_ok s.glob s.fr (lk o.type E.tab) x
  have he : execOp a.eval o = (do pure (Next.value (← Instr.field T (a.eval x) f))) := by simp only [execOp, hop]
  split at h
  · rename_i t r heq
    rw [heq] at hx
    simp only [RR] at hx
    obtain ⟨_, hag, cs, e, hr⟩ := hx
    simp only [List.cons.injEq, and_true] at e
    obtain ⟨hc, h⟩ := bif_some h
    simp only [Bool.and_eq_true] at hc
    obtain ⟨⟨t1, rv1⟩, h1, h2⟩ := partK_pc (X := Ty × RV) (g := fun β t rv k => k (t, rv)) (fun t rv => PC.ret _) t r [.fld f] _ (fun q : Ty × RV => some (ofC q.1 q.2, (none : Option Ob))) _ h
    cases h2
    have hT := hE.tab _ _ (tyIs_eq hc.1)
    obtain ⟨c, hf⟩ := Option.isSome_iff_exists.1 hc.2
    obtain ⟨fs, fd, k, hu2, hfd, htc, hk, hoff, hn⟩ := hT.fields hf
    obtain ⟨e1, c0, c1, c2, e2, e3, r1⟩ := part_ok (h1 _ some) hk hr
    subst e1
    refine gives_val s hd (v := toV t1 c1) (exec_v he ?_) r1.sl_of_ce
    rw [e]
    simp only [Instr.field, Sem.run_bind, run_underlying hu2, Result.andThen_ok, hfd, asAgg, Sem.run_pure]
    exact part_run2 (hE.tab _ _ htc) e2 r1.length (by rw [hoff, e3]) w
  · exact gives_sh hE s hd h

theorem indexAddr_sound2 (hE : Env2Ok P E) (s : Sm w0 M0 N M β τ st a as w) (hd : ∀ d, o.dst = some d → d < N) {T : TypeId} {x i : Operand} (hop : o.op = .indexAddr T x i) (h : opP E o st id (fun rv ob => some (rv, ob)) = some (rv, ob)) : Gives P Q w0 M0 N o a as w st id rv ob := by
  simp only [opP, hop] at h
  have hx := evR_ok s.glob s.fr (lk o.type E.tab) x
  have he : execOp a.eval o = (do pure (Next.value (← Instr.indexAt T (a.eval x) (a.eval i)))) := by simp only [execOp, hop]
  have rowCase : ∀ {id' : Nat} {t : Ty} {xs : List t.den} {j : Int} {kj : IntKind} {lo len : Nat}, lk id' st.l = some (.row t xs) → tyIs (lk T E.tab) (.slice t) = true → 0 ≤ j → j < (len : Int) → lo + len ≤ xs.length → a.eval i = .int kj j → SubH t.n lo (lo + len) (τ id') (a.eval x) →
      Gives P Q w0 M0 N o a as w st id (.loc id' [.idx ((lo : Int) + j)]) none := by
    intro id' t xs j kj lo len hl hc h0 h1 hlen hj hu
    obtain ⟨⟨ad, cap, row, g0, g1, g2, g3, g4, g5⟩, g6⟩ := s.ob id' _ hl
    have hpos : 0 < cap := by omega
    obtain ⟨a0, rfl⟩ : ∃ a0, ad = some a0 := by
      cases ad with
      | none => have := g3 rfl; omega
      | some a0 => exact ⟨a0, rfl⟩
    obtain ⟨b, cur, Tc, rfl, k1, k2, k3, k4, k5⟩ := g5 a0 rfl hpos
    have hbβ := g6 b (by rw [g0]; simp [wob]; omega)
    obtain ⟨e1, hu2, hle⟩ := (hE.tab _ _ (tyIs_eq hc)).slice
    have hsz := (hE.tab _ _ hle).sizeOf w
    refine gives_val s hd (v := .pointer (some ⟨β id', ((lo : Int) + j).toNat * t.n, none⟩)) (exec_v he ?_) (loc_sl (t' := t) hl ?_)
    · obtain ⟨a1, len1, cap1, a', c, e1', hu', ⟨hc1, hc2⟩, h6⟩ := hu
      rw [g0] at e1'
      cases e1'
      rw [hj, hu', h6 (by omega)]
      have hlen' : lo + len - lo = len := by omega
      simp only [Option.map_some, Instr.indexAt, asIntOf, Sem.run_bind, Sem.run_pure, Result.andThen_ok, run_underlying hu2, hlen']
      rw [if_pos ⟨h0, h1⟩]
      simp only [Sem.run_pure, Sem.run_bind, hsz, Result.andThen_ok, addr_add, hbβ]
      rw [show ((lo : Int) + j).toNat = lo + j.toNat by omega, Nat.add_mul, Nat.zero_add]
    · have hi : 0 ≤ (lo : Int) + j ∧ (lo : Int) + j < (List.length xs : Int) := ⟨by omega, by omega⟩
      have hz : offP t [] = some (0, t) := by cases t <;> rfl
      simp only [Ob.shape, offS, if_pos hi, hz, Option.bind_some, Nat.add_zero]
  split at h
  · rename_i i' p heq
    rw [heq] at hx
    obtain ⟨ob1, off, t', hl, ho, hu⟩ := loc_inv hx
    obtain ⟨j, hj, h⟩ := Option.bind_eq_some_iff.1 h
    obtain ⟨kj, hvj, _⟩ := intR_ok hj (evR_ok s.glob s.fr (some (.int .i64)) i)
    simp only [hl, Option.bind_some, typO_ok ho] at h
    split at h
    · rename_i n t ht
      cases ht
      obtain ⟨hc, h⟩ := bif_some h
      obtain ⟨hb, h⟩ := bif_some h
      cases h
      simp only [Bool.and_eq_true, decide_eq_true_eq] at hb
      obtain ⟨e1, hu2, hle, _⟩ := (hE.tab _ _ (tyIs_eq hc)).arr
      have hsz := (hE.tab _ _ hle).sizeOf w
      refine gives_val s hd (v := .pointer (some ⟨β i', off + j.toNat * t.n, none⟩)) (exec_v he ?_) (loc_sl (t' := t) hl (offS_snoc ho ?_))
      · rw [hvj, hu]
        simp only [Instr.indexAt, asIntOf, Sem.run_bind, Sem.run_pure, Result.andThen_ok, run_underlying hu2, Instr.sureAddr, hsz, if_pos hb, addr_add]
      · have hz : offP t [] = some (0, t) := by cases t <;> rfl
        simp only [offP, if_pos hb, hz, Option.bind_some, Nat.add_zero]
    · cases h
  · rename_i id' heq
    rw [heq] at hx
    obtain ⟨t, xs, hl, hu⟩ := row_inv hx
    obtain ⟨j, hj, h⟩ := Option.bind_eq_some_iff.1 h
    obtain ⟨kj, hvj, _⟩ := intR_ok hj (evR_ok s.glob s.fr (some (.int .i64)) i)
    simp only [hl] at h
    obtain ⟨hc, h⟩ := bif_some h
    obtain ⟨hb, h⟩ := bif_some h
    cases h
    simp only [Bool.and_eq_true, decide_eq_true_eq] at hb
    have ho := (s.ob id' _ hl).1
    have := rowCase (lo := 0) (len := xs.length) hl hc hb.1 hb.2 (by omega) hvj (by rw [Nat.zero_add, hu]; exact subH_full ho)
    simpa using this
  · rename_i id' lo hi heq
    rw [heq] at hx
    obtain ⟨t, xs, hl, h1, h2, hu⟩ := sub_inv hx
    obtain ⟨j, hj, h⟩ := Option.bind_eq_some_iff.1 h
    obtain ⟨kj, hvj, _⟩ := intR_ok hj (evR_ok s.glob s.fr (some (.int .i64)) i)
    simp only [hl] at h
    obtain ⟨hc, h⟩ := bif_some h
    obtain ⟨hb, h⟩ := bif_some h
    cases h
    simp only [Bool.and_eq_true, decide_eq_true_eq] at hb
    exact rowCase (lo := lo) (len := hi - lo) hl hc hb.1 (by omega) (by omega) hvj (by rw [show lo + (hi - lo) = hi by omega]; exact hu)
  · exact gives_sh hE s hd h

theorem cutN_pc {X : Type} {n : Nat} {lo hi : Option RV} {g : (β : Type) → Nat → Nat → (X → Option β) → Option β} (h : ∀ l h, PC (fun β k => g β l h k)) : PC (fun β k => cutN n lo hi fun l h => g β l h k) := by
  unfold cutN
  split
  · exact h _ _
  · exact PC.bind fun l => PC.bif (h _ _) PC.none
  · exact PC.bind fun l => PC.bif (h _ _) PC.none
  · exact PC.bind (g := fun β l k => (intR _).bind fun h => _) fun l => PC.bind fun h' => PC.bif (h _ _) PC.none

theorem cutN_ok (s : Sm w0 M0 N M β τ st a as w) {α' : Type} {n : Nat} {lo hi : Option Operand} {k : Nat → Nat → Option α'} {r : α'} (h : cutN n (lo.map (evR (some (.int .i64)) · st.s)) (hi.map (evR (some (.int .i64)) · st.s)) k = some r) :
    ∃ l h' : Nat, l ≤ h' ∧ h' ≤ n ∧ k l h' = some r ∧ ((lo.map a.eval = none ∧ l = 0) ∨ ∃ k', lo.map a.eval = some (.int k' l)) ∧ ((hi.map a.eval = none ∧ h' = n) ∨ ∃ k', hi.map a.eval = some (.int k' h')) := by
  have int : ∀ (x : Operand) (i : Int), intR (evR (some (.int .i64)) x st.s) = some i → 0 ≤ i → ∃ k, a.eval x = .int k (i.toNat : Nat) := by
    intro x i hx h0
    obtain ⟨k, hv, _⟩ := intR_ok hx (evR_ok s.glob s.fr (some (.int .i64)) x)
    exact ⟨k, by rw [hv]; congr 1; omega⟩
  cases lo with
  | none =>
    cases hi with
    | none => exact ⟨0, n, by omega, Nat.le_refl _, by simpa [cutN] using h, .inl ⟨rfl, rfl⟩, .inl ⟨rfl, rfl⟩⟩
    | some y =>
      simp only [cutN, Option.map_none, Option.map_some, Option.bind_eq_some_iff] at h
      obtain ⟨j, hj, h⟩ := h
      obtain ⟨hb, h⟩ := bif_some h
      simp only [Bool.and_eq_true, decide_eq_true_eq] at hb
      obtain ⟨k2, e2⟩ := int y j hj hb.1
      exact ⟨0, j.toNat, by omega, by omega, h, .inl ⟨rfl, rfl⟩, .inr ⟨k2, by simp [e2]⟩⟩
  | some x =>
    cases hi with
    | none =>
      simp only [cutN, Option.map_none, Option.map_some, Option.bind_eq_some_iff] at h
      obtain ⟨j, hj, h⟩ := h
      obtain ⟨hb, h⟩ := bif_some h
      simp only [Bool.and_eq_true, decide_eq_true_eq] at hb
      obtain ⟨k2, e2⟩ := int x j hj hb.1
      exact ⟨j.toNat, n, by omega, Nat.le_refl _, h, .inr ⟨k2, by simp [e2]⟩, .inl ⟨rfl, rfl⟩⟩
    | some y =>
      simp only [cutN, Option.map_some, Option.bind_eq_some_iff] at h
      obtain ⟨i, hi', j, hj, h⟩ := h
      obtain ⟨hb, h⟩ := bif_some h
      simp only [Bool.and_eq_true, decide_eq_true_eq] at hb
      obtain ⟨k1, e1⟩ := int x i hi' hb.1
      obtain ⟨k2, e2⟩ := int y j hj (by omega)
      exact ⟨i.toNat, j.toNat, by omega, by omega, h, .inr ⟨k1, by simp [e1]⟩, .inr ⟨k2, by simp [e2]⟩⟩

theorem sub_key (hE : Env2Ok P E) (s : Sm w0 M0 N M β τ st a as w) {T : TypeId} {x : Operand} {lo hi mx : Option Value} {id' : Nat} {t : Ty} {xs : List t.den} {A B l h' : Nat} (hl : lk id' st.l = some (.row t xs)) (hc : tyIs (lk T E.tab) (.slice t) = true) (hAB : A ≤ B) (hB : B ≤ xs.length) (hlh : l ≤ h') (hu : SubH t.n A B (τ id') (a.eval x))
    (hbd : ∀ cap, B - A ≤ cap → ∃ m, h' ≤ m ∧ m ≤ cap ∧ (Instr.sliceBounds true (B - A) cap lo hi mx).run P w = .ok (l, h', m) w) : ∃ v, (Instr.sliceAt T (a.eval x) lo hi mx).run P w = .ok v w ∧ SubH t.n (A + l) (A + h') (τ id') v ∧ v.oneCell' = true := by
  obtain ⟨⟨ad, cap, row, g0, g1, g2, g3, g4, g5⟩, g6⟩ := s.ob id' _ hl
  obtain ⟨e1, hu2, hle⟩ := (hE.tab _ _ (tyIs_eq hc)).slice
  obtain ⟨a1, len1, cap1, a', c, e1', hu', ⟨hc1, hc2⟩, h6⟩ := hu
  rw [g0] at e1'
  cases e1'
  rw [hu', g0]
  obtain ⟨m, hm1, hm2, hb⟩ := hbd c hc1
  refine ⟨.slice (if m = l then a' else a'.map (·.add (l * t.n))) (h' - l) (m - l), by simp only [Instr.sliceAt, Instr.slice, Sem.run_bind, run_underlying hu2, Result.andThen_ok, hb, (hE.tab _ _ hle).sizeOf w, Sem.run_pure], ⟨ad, _, cap, (if m = l then a' else a'.map (·.add (l * t.n))), m - l, rfl, ?_, ⟨by omega, by omega⟩, ?_⟩, rfl⟩
  · have e2 : h' - l = A + h' - (A + l) := by omega
    rw [e2]
  · intro hne
    rw [if_neg (by omega), h6 (by omega)]
    cases ad with
    | none => rfl
    | some a0 =>
      simp only [Option.map_some, Option.some.injEq]
      have : 0 < cap := by omega
      obtain ⟨b, cur, Tc, rfl, _⟩ := g5 a0 rfl this
      rw [addr_add, addr_add, addr_add]
      congr 1
      rw [Nat.add_mul]
      omega

theorem bounds3_run {len cap m : Nat} {lo hi mx : Option Value} {l h km : _} (hle : l ≤ h) (hh : h ≤ m) (hc : m ≤ cap)
    (hlo : (lo = none ∧ l = 0) ∨ ∃ k, lo = some (.int k l)) (hhi : ∃ k, hi = some (.int k h)) (hmx : mx = some (.int km m)) :
    (Instr.sliceBounds true len cap lo hi mx).run P w = .ok (l, h, m) w := by
  have b : ∀ (k : IntKind) (i y : Nat) (c : BoundsCode), i ≤ y → (Instr.sliceBound (.int k i) y c).run P w = .ok i w := by
    intro k i y c hi
    simp only [Instr.sliceBound, asIntOf, Sem.run_bind, Sem.run_pure, Result.andThen_ok]
    rw [if_pos (by omega)]
    simp
  subst hmx
  obtain ⟨k2, rfl⟩ := hhi
  rcases hlo with ⟨rfl, rfl⟩ | ⟨k1, rfl⟩ <;>
    simp only [Instr.sliceBounds, Sem.run_bind, Sem.run_pure, Result.andThen_ok, Option.isSome, if_true]
  · rw [b km _ _ _ hc]; simp only [Result.andThen_ok]; rw [b k2 _ _ _ hh]; simp
  · rw [b km _ _ _ hc]; simp only [Result.andThen_ok]; rw [b k2 _ _ _ hh]; simp only [Result.andThen_ok]; rw [b k1 _ _ _ hle]; simp

theorem Rep.nes {e : Ty} {cs : List Value} {xs : List e.den} (r : Rep M w (.nes e) cs xs) : Rep M w (.slice e) cs xs := r.1
theorem VOk.nes {e : Ty} {xs : List e.den} {v : Value} (r : VOk M w (.nes e) xs v) : VOk M w (.slice e) xs v := by
  obtain ⟨cs, h, r⟩ := r
  exact ⟨cs, h, r.1⟩
theorem wkV_ok {v : TV} {u : Value} (r : VOk M w v.1 v.2 u) : VOk M w (wkV v).1 (wkV v).2 u := by
  obtain ⟨t, x⟩ := v
  cases t <;> first | exact r | exact r.nes

theorem isNil_eq {v : Value} (h : isNilV v = true) : v = .slice none 0 0 := by
  unfold isNilV at h
  split at h
  · rfl
  · cases h

theorem equal_nil_sl {t e : TypeId} (hu : P.underlying t = some (.slice e)) (ad : Option Addr) (n cap : Nat) : (Op.equal t (.slice ad n cap) (.slice none 0 0)).run P w = .ok ad.isNone w := by
  simp only [Op.equal, Op.maxDepth]
  rw [Op.equalIn, Sem.run_bind, run_underlying hu]
  cases ad <;> rfl

theorem nilP_sound (hE : Env2Ok P E) (s : Sm w0 M0 N M β τ st a as w) (hd : ∀ d, o.dst = some d → d < N) {alt : Option (RV × Option Ob)} (ha : alt = some (rv, ob) → Gives P Q w0 M0 N o a as w st id rv ob) (h : nilP E o st (fun rv => some (rv, none)) alt = some (rv, ob)) : Gives P Q w0 M0 N o a as w st id rv ob := by
  unfold nilP at h
  split at h
  · rename_i op t x v u hop
    have hx := evR_ok s.glob s.fr none x
    have he : execOp a.eval o = (do pure (Next.value (← (do eqGuard op t x (.const v) (a.eval x) v; binOp op t (a.eval x) v : Sem Value)))) := by simp only [execOp, hop]; rfl
    have key : ∀ {e : Ty} {xs : List e.den}, isNilV v = true → evR none x st.s = .val ⟨.nes e, xs⟩ → tyIs (lk t E.tab) (.nes e) = true → ∃ ad cap, a.eval x = .slice ad (List.length xs) cap ∧ v = .slice none 0 0 ∧ (Op.equal t (.slice ad (List.length xs) cap) (.slice none 0 0)).run P w = .ok (List.isEmpty xs) w := by
      intro e xs hn heq hc
      obtain rfl := isNil_eq hn
      obtain ⟨te, hu, _⟩ := (hE.tab _ _ (tyIs_eq hc)).nes
      rw [heq] at hx
      obtain ⟨u', e1, cs, e2, ⟨ad, cap, row, e3, g1, g2, g3, g4, g5⟩, g6⟩ := hx
      cases e1
      have hv : a.eval x = .slice ad (List.length xs) cap := by rw [e2, e3]; rfl
      refine ⟨ad, cap, hv, rfl, ?_⟩
      cases xs with
      | nil =>
        have h6 := g6 rfl
        rw [e3] at h6
        simp only [List.cons.injEq, Value.slice.injEq, and_true] at h6
        obtain ⟨rfl, _, _⟩ := h6
        exact equal_nil_sl hu none _ _
      | cons y ys =>
        rcases g5 with g5 | ⟨b, o', rfl, _⟩
        · simp at g5
        · exact equal_nil_sl hu _ _ _
    split at h
    · rename_i e xs hn heq
      obtain ⟨hc, h⟩ := bif_some h
      cases h
      obtain ⟨ad, cap, k1, rfl, k2⟩ := key hn heq hc
      refine gives_val s hd (v := .bool (List.isEmpty xs)) (exec_v he ?_) ⟨_, rfl, VOk.mk_bool⟩
      rw [k1]
      have e1 : binOp .eql t (.slice ad (List.length xs) cap) (.slice none 0 0) = (do pure (.bool (← Op.equal t (.slice ad (List.length xs) cap) (.slice none 0 0))) : Sem Value) := rfl
      simp only [eqGuard, Sem.run_bind, e1]
      simp [k2]
    · rename_i e xs hn heq
      obtain ⟨hc, h⟩ := bif_some h
      cases h
      obtain ⟨ad, cap, k1, rfl, k2⟩ := key hn heq hc
      refine gives_val s hd (v := .bool (!List.isEmpty xs)) (exec_v he ?_) ⟨_, rfl, VOk.mk_bool⟩
      rw [k1]
      have e1 : binOp .neq t (.slice ad (List.length xs) cap) (.slice none 0 0) = (do pure (.bool (!(← Op.equal t (.slice ad (List.length xs) cap) (.slice none 0 0)))) : Sem Value) := rfl
      simp only [eqGuard, Sem.run_bind, e1]
      simp [k2]
    · exact ha h
  · rename_i args argTypes hop
    split at h
    · rename_i x t hargs hts
      have hx := evR_ok s.glob s.fr none x
      split at h
      · rename_i e heq
        rw [heq] at hx
        obtain ⟨hc, h⟩ := bif_some h
        cases h
        obtain ⟨te, hu, _⟩ := (hE.tab _ _ (tyIs_eq hc)).slice
        have hv : a.eval x = .slice none 0 0 := by
          have : [a.eval x] = [Value.slice none 0 0] := hx
          simpa using this
        have hargs' : args = #[x] := by rw [← Array.toArray_toList (xs := args), hargs]
        have hts' : argTypes = #[t] := by rw [← Array.toArray_toList (xs := argTypes), hts]
        refine gives_val s hd (v := .int .i64 0) ?_ ⟨_, rfl, VOk.mk_int (by decide)⟩
        simp only [execOp, hop, resolve, pure_bind, invoke, builtin, Sem.run_bind]
        rw [hargs', hts', show Array.map a.eval #[x] = #[a.eval x] by simp, hv]
        simp [Builtin.cap_, run_underlying hu]
        rfl
      · exact ha h
    · exact ha h
  · rename_i T x y hop
    have hx := evR_ok s.glob s.fr none x
    split at h
    · rename_i e heq
      rw [heq] at hx
      obtain ⟨j, hj, h⟩ := Option.bind_eq_some_iff.1 h
      obtain ⟨hz, h⟩ := bif_some h
      obtain ⟨hc, h⟩ := bif_some h
      cases h
      have hz := of_decide_eq_true hz
      subst hz
      obtain ⟨te, hu, hle⟩ := (hE.tab _ _ (tyIs_eq hc)).slice
      have hsz := (hE.tab _ _ hle).sizeOf w
      obtain ⟨ky, hvy, _⟩ := intR_ok hj (evR_ok s.glob s.fr (some (.int .i64)) y)
      have hv : a.eval x = .slice none 0 0 := by
        have : [a.eval x] = [Value.slice none 0 0] := hx
        simpa using this
      have he : execOp a.eval o = (do pure (Next.value (← Instr.sliceAt T (a.eval x) (((none : Option Operand)).map a.eval) ((some y).map a.eval) none))) := by simp only [execOp, hop]; rfl
      refine gives_val s hd (v := .slice none 0 0) (exec_v he ?_) rfl
      have hb := bounds_run (P := P) (w := w) (l := 0) (h := 0) true 0 0 (((none : Option Operand)).map a.eval) ((some y).map a.eval) (Nat.le_refl _) (Nat.le_refl _) (Nat.le_refl _) (.inl ⟨rfl, rfl⟩) (.inr ⟨ky, by simp [hvy]⟩)
      rw [hv]
      simp only [Instr.sliceAt, Instr.slice, Sem.run_bind, run_underlying hu, Result.andThen_ok, hb, hsz, Sem.run_pure]
      rfl
    · exact ha h
  · exact ha h

theorem slice_sound2 (hE : Env2Ok P E) (s : Sm w0 M0 N M β τ st a as w) (hd : ∀ d, o.dst = some d → d < N) {T : TypeId} {x : Operand} {lo hi : Option Operand} (hop : o.op = .slice T x lo hi none) (h : opP E o st id (fun rv ob => some (rv, ob)) = some (rv, ob)) : Gives P Q w0 M0 N o a as w st id rv ob := by
  simp only [opP, hop] at h
  have hx := evR_ok s.glob s.fr (lk o.type E.tab) x
  have he : execOp a.eval o = (do pure (Next.value (← Instr.sliceAt T (a.eval x) (lo.map a.eval) (hi.map a.eval) none))) := by simp only [execOp, hop]; rfl
  have key : ∀ {id' : Nat} {t : Ty} {xs : List t.den} {A B l h' : Nat}, lk id' st.l = some (.row t xs) → tyIs (lk T E.tab) (.slice t) = true → A ≤ B → B ≤ xs.length → l ≤ h' → h' ≤ B - A → SubH t.n A B (τ id') (a.eval x) →
      ((lo.map a.eval = none ∧ l = 0) ∨ ∃ k', lo.map a.eval = some (.int k' l)) → ((hi.map a.eval = none ∧ h' = B - A) ∨ ∃ k', hi.map a.eval = some (.int k' h')) → Gives P Q w0 M0 N o a as w st id (.sub id' (A + l) (A + h')) none := by
    intro id' t xs A B l h' hl hc hAB hB hlh hh hu hlo hhi
    obtain ⟨v, hr, hv, hv1⟩ := sub_key hE s (mx := none) hl hc hAB hB hlh hu fun cap hcap => ⟨cap, by omega, Nat.le_refl _, bounds_run (P := P) (w := w) true (B - A) cap (lo.map a.eval) (hi.map a.eval) hlh hh hcap hlo hhi⟩
    refine gives_val s hd (exec_v he hr) ?_
    simp only [RR]
    exact ⟨rfl, v, t, xs, rfl, hv1, hl, by omega, by omega, hv⟩
  split at h
  · rename_i id' heq
    rw [heq] at hx
    obtain ⟨t, xs, hl, hu⟩ := row_inv hx
    simp only [hl] at h
    obtain ⟨hc, h⟩ := bif_some h
    obtain ⟨l, h', hlh, hh, h, hlo, hhi⟩ := cutN_ok s h
    cases h
    have ho := (s.ob id' _ hl).1
    have := key (A := 0) (B := xs.length) hl hc (by omega) (Nat.le_refl _) hlh (by omega) (by rw [hu]; exact subH_full ho) hlo (by simpa using hhi)
    simpa using this
  · rename_i id' A B heq
    rw [heq] at hx
    obtain ⟨t, xs, hl, h1, h2, hu⟩ := sub_inv hx
    simp only [hl] at h
    obtain ⟨hc, h⟩ := bif_some h
    obtain ⟨l, h', hlh, hh, h, hlo, hhi⟩ := cutN_ok s h
    cases h
    exact key (A := A) (B := B) hl hc h1 h2 hlh hh hu hlo hhi
  · exact nilP_sound hE s hd (fun h => gives_sh hE s hd h) h

theorem slice3_sound2 (hE : Env2Ok P E) (s : Sm w0 M0 N M β τ st a as w) (hd : ∀ d, o.dst = some d → d < N) {T : TypeId} {x y z : Operand} {lo : Option Operand} (hop : o.op = .slice T x lo (some y) (some z)) (h : opP E o st id (fun rv ob => some (rv, ob)) = some (rv, ob)) : Gives P Q w0 M0 N o a as w st id rv ob := by
  simp only [opP, hop] at h
  have hx := evR_ok s.glob s.fr (lk o.type E.tab) x
  have he : execOp a.eval o = (do pure (Next.value (← Instr.sliceAt T (a.eval x) (lo.map a.eval) ((some y).map a.eval) (some (a.eval z))))) := by simp only [execOp, hop]; rfl
  have key : ∀ {id' : Nat} {t : Ty} {xs : List t.den} {A B l h' : Nat} {m : Int}, lk id' st.l = some (.row t xs) → tyIs (lk T E.tab) (.slice t) = true → A ≤ B → B ≤ xs.length → l ≤ h' → h' ≤ m.toNat → 0 ≤ m → m ≤ ((B - A : Nat) : Int) → SubH t.n A B (τ id') (a.eval x) → intR (evR (some (.int .i64)) z st.s) = some m →
      ((lo.map a.eval = none ∧ l = 0) ∨ ∃ k', lo.map a.eval = some (.int k' l)) → (((some y).map a.eval = none ∧ h' = m.toNat) ∨ ∃ k', (some y).map a.eval = some (.int k' h')) → Gives P Q w0 M0 N o a as w st id (.sub id' (A + l) (A + h')) none := by
    intro id' t xs A B l h' m hl hc hAB hB hlh hh h0 h1 hu hm hlo hhi
    obtain ⟨km, hvm, _⟩ := intR_ok hm (evR_ok s.glob s.fr (some (.int .i64)) z)
    have hvm' : a.eval z = .int km (m.toNat : Nat) := by rw [hvm]; congr 1; omega
    obtain ⟨v, hr, hv, hv1⟩ := sub_key hE s (lo := lo.map a.eval) (hi := (some y).map a.eval) (mx := some (a.eval z)) hl hc hAB hB hlh hu fun cap hcap => ⟨m.toNat, hh, by omega, bounds3_run (P := P) (w := w) hlh hh (by omega) hlo (by
      rcases hhi with ⟨h, _⟩ | h
      · cases h
      · exact h) (by rw [hvm'])⟩
    refine gives_val s hd (exec_v he hr) ?_
    simp only [RR]
    exact ⟨rfl, v, t, xs, rfl, hv1, hl, by omega, by omega, hv⟩
  split at h
  · rename_i id' heq
    rw [heq] at hx
    obtain ⟨t, xs, hl, hu⟩ := row_inv hx
    simp only [hl] at h
    obtain ⟨hc, h⟩ := bif_some h
    obtain ⟨m, hm, h⟩ := Option.bind_eq_some_iff.1 h
    obtain ⟨hb, h⟩ := bif_some h
    simp only [Bool.and_eq_true, decide_eq_true_eq] at hb
    obtain ⟨l, h', hlh, hh, h, hlo, hhi⟩ := cutN_ok (hi := some y) s h
    cases h
    have ho := (s.ob id' _ hl).1
    have := key (A := 0) (B := xs.length) hl hc (by omega) (Nat.le_refl _) hlh hh hb.1 (by simpa using hb.2) (by rw [hu]; exact subH_full ho) hm hlo hhi
    simpa using this
  · rename_i id' A B heq
    rw [heq] at hx
    obtain ⟨t, xs, hl, h1, h2, hu⟩ := sub_inv hx
    simp only [hl] at h
    obtain ⟨hc, h⟩ := bif_some h
    obtain ⟨m, hm, h⟩ := Option.bind_eq_some_iff.1 h
    obtain ⟨hb, h⟩ := bif_some h
    simp only [Bool.and_eq_true, decide_eq_true_eq] at hb
    obtain ⟨l, h', hlh, hh, h, hlo, hhi⟩ := cutN_ok (hi := some y) s h
    cases h
    exact key (A := A) (B := B) hl hc h1 h2 hlh hh hb.1 hb.2 hu hm hlo hhi
  · exact gives_sh hE s hd h
end
end Go.Lift
