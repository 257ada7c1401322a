/- Each operation that gives a value, all of them. -/
import Derived.Test.YtlmhokakghbciaaLiftH
namespace Go.Lift
open Go.RowKit

theorem ite_some {α : Type} {c : Prop} [Decidable c] {x : Option α} {r : α} (h : (if c then x else none) = some r) : c ∧ x = some r := by
  by_cases hc : c
  · exact ⟨hc, by simpa [hc] using h⟩
  · simp [hc] at h

theorem getI_some {α : Type} {xs : List α} {i : Int} {x : α} (h : getI xs i = some x) : 0 ≤ i ∧ i.toNat < xs.length ∧ xs[i.toNat]? = some x := by
  unfold getI at h
  obtain ⟨h1, h2⟩ := bif_some h
  exact ⟨of_decide_eq_true h1, (List.getElem?_eq_some_iff.1 h2).1, h2⟩

theorem cut_of {α : Type} {R : List Value → α → Prop} {n : Nat} (hR : ∀ cs x, R cs x → cs.length = n) {row : List Value} {xs : List α} {l h : Nat} (s : Seq R row xs) (hlh : l ≤ h) (hh : h ≤ xs.length) :
    ∃ c0 c1 c2, row = c0 ++ (c1 ++ c2) ∧ c0.length = l * n ∧ Seq R c1 ((xs.take h).drop l) := by
  obtain ⟨d0, d1, e1, l1, s0, s1⟩ := s.cut hR h hh
  obtain ⟨c0, c1, e2, l2, t0, t1⟩ := s0.cut hR l (by simp; omega)
  exact ⟨c0, c1, d1, by rw [e1, e2, List.append_assoc], l2, t1⟩

section
variable {P : Program} {E : Env} {el : TypeId → Option TypeId} {Q : Exit → Act → World → Prop} {o : Oper} {w0 : World} {M0 : Own} {N : Nat} {M : Own} {β : Nat → Nat} {τ : Nat → Value} {fr : Fr} {a : Act} {w : World} {av : AV}

/-- the cells of a part of a local -/
theorem SimX.locRow (s : SimX P w0 M0 N M β τ fr a w) {id : Nat} {e : Bool × TV} {p : List Step} {off : Nat} {t' : Ty} {v : TV} (he : lk id fr.l = some e) (ho : offP e.2.1 p = some (off, t')) (hg : getP e.2.1 e.2.2 p = some v) :
    ∃ row, v.1 = t' ∧ Rep M w v.1 row v.2 ∧ ∀ i, i < row.length → w.cell? ⟨β id, off + i, none⟩ = row[i]? := by
  obtain ⟨_, ⟨cs, T, hb, r⟩, _⟩ := s.lo id e he
  obtain ⟨h1, c0, c1, c2, e1, h2, h3⟩ := getP_rep hg ho r
  refine ⟨c1, h1, h3, fun i hi => ?_⟩
  rw [cell_of_row _ _ _ _ _ _ hb, e1, ← h2, List.getElem?_toArray, List.getElem?_append_right (by omega), Nat.add_sub_cancel_left, List.getElem?_append_left hi]

theorem intOf_some {x : AV} {i : Int} {v : Value} (h : intOf? x = some i) (hv : AOk M w β τ fr.l x v) : ∃ k, v = .int k i ∧ k.min ≤ i ∧ i ≤ k.max := by
  unfold intOf? at h
  split at h
  · cases h
    obtain ⟨rfl, h⟩ := hv.1.int
    exact ⟨_, rfl, h⟩
  · cases h

theorem argsTV_ok (s : SimX P w0 M0 N M β τ fr a w) {M' : Own} (hM : ∀ b o, M b o → M' b o) (hL : ∀ id e, lk id fr.l = some e → ∀ o, M' (β id) o) : ∀ {xs : List Operand} {ts : List TypeId} {vs : List TV}, argsTV E fr xs ts = some vs → ArgsOk M' w vs (xs.map a.eval)
  | [], [], vs, h => by simp [argsTV] at h; subst h; exact trivial
  | [], _ :: _, vs, h => by simp [argsTV] at h
  | _ :: _, [], vs, h => by simp [argsTV] at h
  | x :: xs, t :: ts, vs, h => by
    simp only [argsTV, Option.bind_eq_some_iff] at h
    obtain ⟨v, hv, us, hu, h⟩ := h
    cases h
    refine ⟨?_, argsTV_ok s hM hL hu⟩
    have hx := evT_ok s (lk t E.tab) x
    unfold ev at hv
    generalize evT (lk t E.tab) x fr = y at hv hx
    have hext : Ext M w M' w := fun b o m => ⟨hM b o m, fun _ h => h⟩
    cases y with
    | val u tip => simp only [argTV, Option.some.injEq] at hv; subst hv; exact hx.1.ext hext
    | loc id p =>
      simp only [argTV, Option.bind_eq_some_iff] at hv
      obtain ⟨e, he, u, hu, hv⟩ := hv
      cases hv
      obtain ⟨e', off, t', he', ho, hval⟩ := hx
      obtain rfl : e = e' := Option.some.inj (he.symm.trans he')
      obtain ⟨row, h1, h2, h3⟩ := s.locRow he ho hu
      exact ⟨[a.eval x], rfl, β id, off, row, by rw [hval], fun i hi => ⟨h3 i hi, hL id e he _⟩, h2.ext hext⟩
    | any => simp [argTV] at hv
    | tup l => simp [argTV] at hv

theorem argsTV_noLoc (s : SimX P w0 M0 N M β τ fr a w) : ∀ {xs : List Operand} {ts : List TypeId} {vs : List TV}, anyLoc E fr xs ts = false → argsTV E fr xs ts = some vs → ArgsOk M w vs (xs.map a.eval)
  | [], [], vs, _, h => by simp [argsTV] at h; subst h; exact trivial
  | [], _ :: _, vs, _, h => by simp [argsTV] at h
  | _ :: _, [], vs, _, h => by simp [argsTV] at h
  | x :: xs, t :: ts, vs, hn, h => by
    simp only [argsTV, Option.bind_eq_some_iff] at h
    obtain ⟨v, hv, us, hu, h⟩ := h
    cases h
    simp only [anyLoc, Bool.or_eq_false_iff] at hn
    refine ⟨?_, argsTV_noLoc s hn.2 hu⟩
    have hx := evT_ok s (lk t E.tab) x
    have hn1 := hn.1
    unfold ev at hv hn1
    generalize evT (lk t E.tab) x fr = y at hv hx hn1
    cases y with
    | val u tip => simp only [argTV, Option.some.injEq] at hv; subst hv; exact hx.1
    | loc id p => simp at hn1
    | any => simp [argTV] at hv
    | tup l => simp [argTV] at hv

theorem unpackL_length : ∀ (rs : List Ty) (r : resDen rs), (unpackL rs r).length = rs.length
  | [], _ => rfl
  | [_], _ => rfl
  | _ :: u :: ts, r => by simp [unpackL, unpackL_length (u :: ts) r.2]

theorem unpackL_flat : ∀ (rs : List Ty) (r : resDen rs), rs.all (·.flat) = true → ∀ v ∈ unpackL rs r, v.1.flat = true
  | [], _, _ => by simp [unpackL]
  | [t], r, h => by simpa [unpackL] using h
  | t :: u :: ts, r, h => by
    simp only [List.all_cons, Bool.and_eq_true] at h
    intro v hv
    simp only [unpackL, List.mem_cons] at hv
    rcases hv with rfl | hv
    · exact h.1
    · exact unpackL_flat (u :: ts) r.2 (by simpa using h.2) v hv

theorem resAV_flat {rs : List Ty} {r : resDen rs} (hf : rs.all (·.flat) = true) {M M' : Own} {w w' : World} {β : Nat → Nat} {τ : Nat → Value} {L : List (Nat × Bool × TV)} {v : Value} (h : AOk M w β τ L (resAV rs r) v) : AOk M' w' β τ L (resAV rs r) v := by
  match rs, r, hf, h with
  | [], _, _, _ => trivial
  | [t], r, hf, h =>
    obtain ⟨⟨cs, e, r'⟩, _⟩ := h
    exact ⟨⟨cs, e, r'.flat (by simpa using hf)⟩, trivial⟩
  | t :: u :: ts, r, hf, h =>
    obtain ⟨vs, e, l, f⟩ := h
    refine ⟨vs, e, l, fun i tv hi => ?_⟩
    obtain ⟨x, hx, cs, e, r'⟩ := f i tv hi
    exact ⟨x, hx, cs, e, r'.flat (unpackL_flat _ _ hf tv (List.mem_of_getElem? hi))⟩

theorem call_sound (hE : EnvOk P E el) (s : SimX P w0 M0 N M β τ fr a w) {f : FuncId} {args : Array Operand} {ts : Array TypeId} {fn : Fn} {vs : List TV} {x r} (hop : o.op = .call { callee := .value (.func f), args := args, argTypes := ts })
    (hf : lk f E.fs = some fn) (hl : anyLoc E fr args.toList ts.toList = true → fn.rs.all (·.flat) = true) (hv : argsTV E fr args.toList ts.toList = some vs) (hx : packL fn.ps vs = some x) (hr : fn.F x = some r) :
    QOp P Q o a w M β τ fr.l (resAV fn.rs r) := by
  have hL := hE.fs f fn hf
  intro K hK
  have hrun : (execOp a.eval o).run P w = .ok (.enter f (args.toList.map a.eval).toArray) w := by
    simp only [execOp, hop, resolve, Act.eval, Deferred.ofValue, Sem.run_bind, Sem.run_pure, Result.andThen_ok, invoke]
    rw [show (#[] ++ Array.map a.eval args ++ #[]) = (args.toList.map a.eval).toArray by simp [← Array.toList_map]]
    exact hL.enters _ w
  unfold Oper.wp
  rw [hrun, Oper.upon_enter]
  cases hloc : anyLoc E fr args.toList ts.toList with
  | false =>
    refine (hL.calls w M _ vs x r s.mlt s.glob (argsTV_noLoc s hloc hv) hx hr).mono ?_
    rintro e w' ⟨v, M', rfl, hg, hres⟩
    exact hK v w' M' hg (hres _ _ _)
  | true =>
    have hflat := hl hloc
    refine (hL.calls w (fun b o => M b o ∨ ∃ id e, lk id fr.l = some e ∧ b = β id) _ vs x r ?_ (s.glob.ext (fun b o m => ⟨.inl m, fun _ h => h⟩) (Below.refl _ _)) (argsTV_ok s (fun b o m => .inl m) (fun id e he o => .inr ⟨id, e, he, rfl⟩) hv) hx hr).mono ?_
    · rintro b o (m | ⟨id, e, he, rfl⟩)
      · exact s.mlt b o m
      · obtain ⟨_, ⟨cs, T, hb, _⟩, _⟩ := s.lo id e he
        exact (Array.getElem?_eq_some_iff.1 hb).1
    · rintro e w' ⟨v, M', rfl, hg, hres⟩
      exact hK v w' M ⟨hg.bel, fun _ _ m => m, fun _ _ m => .inl m, fun b o m => Nat.lt_of_lt_of_le (s.mlt b o m) hg.bel.size⟩ (resAV_flat hflat (hres _ _ _))

theorem exec_v {sem : Sem Value} {v : Value} {w' : World} (h : execOp a.eval o = (do pure (Next.value (← sem)))) (hr : sem.run P w = .ok v w') : (execOp a.eval o).run P w = .ok (.value v) w' := by
  rw [h, Sem.run_bind, hr]
  rfl

theorem sizeOf_ok {tab : List (TypeId × Ty)} {tid : TypeId} {t : Ty} (h : TOk P tab tid t) (w : World) : (sizeOf tid).run P w = .ok t.n w := h.sizeOf w

theorem load_sound (hE : EnvOk P E el) (s : SimX P w0 M0 N M β τ fr a w) {T : TypeId} {x : Operand} (hop : o.op = .load T x) (h : opV E o fr some = some av) : QOp P Q o a w M β τ fr.l av := by
  unfold opV at h
  simp only [hop, ev] at h
  have hx := evT_ok s (lk o.type E.tab) x
  have he : execOp a.eval o = (do pure (Next.value (← Instr.loadAt T (a.eval x)))) := by simp only [execOp, hop]
  split at h
  · rename_i id p heq
    rw [heq] at hx
    obtain ⟨e, off, t', h1, h2, h3⟩ := hx
    simp only [getK_eq, Option.bind_eq_some_iff] at h
    obtain ⟨e', h1', v, hv, h⟩ := h
    obtain rfl : e' = e := Option.some.inj (h1'.symm.trans h1)
    obtain ⟨hc, h⟩ := bif_some h
    cases h
    obtain ⟨row, _, hr, hcell⟩ := s.locRow h1 h2 hv
    refine q_val s.mlt (exec_v he ?_) ⟨⟨row, rfl, hr⟩, trivial⟩
    rw [h3]
    exact load_run (hE.tab _ _ (tyIs_eq hc)) hcell hr
  · rename_i t y _ heq
    rw [heq] at hx
    obtain ⟨hc, h⟩ := bif_some h
    cases h
    obtain ⟨b, off, row, h3, hrow, hr⟩ := hx.1.ptr
    refine q_val s.mlt (exec_v he ?_) ⟨⟨row, rfl, hr⟩, trivial⟩
    rw [h3]
    exact load_run (hE.tab _ _ (tyIs_eq hc)) (fun i hi => (hrow i hi).1) hr
  · cases h

theorem fieldAddr_sound (hE : EnvOk P E el) (s : SimX P w0 M0 N M β τ fr a w) {T : TypeId} {x : Operand} {f : Nat} (hop : o.op = .fieldAddr T x f) (h : opV E o fr some = some av) : QOp P Q o a w M β τ fr.l av := by
  unfold opV at h
  simp only [hop, ev] at h
  have hx := evT_ok s (lk o.type E.tab) x
  have he : execOp a.eval o = (do pure (Next.value (← Instr.fieldAt T (a.eval x) f))) := by simp only [execOp, hop]
  have place : ∀ (t c : Ty) (b off : Nat), TOk P E.tab T t → fieldTy t f = some c → a.eval x = .pointer (some ⟨b, off, none⟩) → ∃ k, offP t [.fld f] = some (k, c) ∧ (Instr.fieldAt T (a.eval x) f).run P w = .ok (.pointer (some ⟨b, off + k, none⟩)) w := by
    intro t c b off hT hf hv
    obtain ⟨fs, fd, k, hu, hfd, htc, ho, hoff, hn⟩ := hT.fields hf
    refine ⟨k, ho, ?_⟩
    have hsz := (hE.tab _ _ htc).sizeOf w
    simp only [Instr.fieldAt, Sem.run_bind, run_underlying hu, Result.andThen_ok, hfd, hv, Instr.sureAddr, Sem.run_pure, fieldPlace, hsz, if_neg (show ¬ c.n = 0 by omega), addr_add, hoff]
  split at h
  · rename_i id p heq
    rw [heq] at hx
    obtain ⟨e, off, t', h1, h2, h3⟩ := hx
    simp only [Option.bind_eq_some_iff] at h
    obtain ⟨e', h1', h⟩ := h
    obtain rfl : e' = e := Option.some.inj (h1'.symm.trans h1)
    rw [offP_typP h2] at h
    obtain ⟨hc, h⟩ := bif_some h
    cases h
    simp only [Bool.and_eq_true] at hc
    obtain ⟨c, hc2⟩ := Option.isSome_iff_exists.1 hc.2
    obtain ⟨k, ho, hr⟩ := place t' c _ off (hE.tab _ _ (tyIs_eq hc.1)) hc2 h3
    exact q_val s.mlt (exec_v he hr) ⟨e', _, c, h1, offP_snoc h2 ho, rfl⟩
  · rename_i t y _ heq
    rw [heq] at hx
    obtain ⟨hc, h⟩ := bif_some h
    simp only [Option.bind_eq_some_iff] at h
    obtain ⟨v, hv, h⟩ := h
    cases h
    obtain ⟨b, off, row, h3, hrow, hr⟩ := hx.1.ptr
    obtain ⟨hg, hf⟩ := fieldTV_getP hv
    obtain ⟨k, ho, hrun⟩ := place t v.1 b off (hE.tab _ _ (tyIs_eq hc)) hf h3
    obtain ⟨_, c0, c1, c2, e1, h2, hrep⟩ := getP_rep hg ho hr
    refine q_val s.mlt (exec_v he hrun) ⟨⟨_, rfl, b, off + k, c1, rfl, ?_, hrep⟩, trivial⟩
    rw [e1] at hrow
    have := hrow.right.left
    rwa [h2] at this
  · cases h

theorem field_sound (hE : EnvOk P E el) (s : SimX P w0 M0 N M β τ fr a w) {T : TypeId} {x : Operand} {f : Nat} (hop : o.op = .field T x f) (h : opV E o fr some = some av) : QOp P Q o a w M β τ fr.l av := by
  unfold opV at h
  simp only [hop, ev] at h
  have hx := evT_ok s (lk o.type E.tab) x
  have he : execOp a.eval o = (do pure (Next.value (← Instr.field T (a.eval x) f))) := by simp only [execOp, hop]
  split at h
  · rename_i t y _ heq
    rw [heq] at hx
    obtain ⟨hc, h⟩ := bif_some h
    simp only [Option.bind_eq_some_iff] at h
    obtain ⟨v, hv, h⟩ := h
    cases h
    obtain ⟨hg, hf⟩ := fieldTV_getP hv
    obtain ⟨fs, fd, k, hu, hfd, htc, ho, hoff, hn⟩ := (hE.tab _ _ (tyIs_eq hc)).fields hf
    have hag : t.isAgg = true := by cases t <;> first | rfl | (simp [fieldTy] at hf)
    obtain ⟨cs, hv', hr⟩ := hx.1.agg hag
    obtain ⟨_, c0, c1, c2, e1, h2, hrep⟩ := getP_rep hg ho hr
    refine q_val s.mlt (exec_v he ?_) ⟨⟨c1, rfl, hrep⟩, trivial⟩
    rw [hv']
    simp only [Instr.field, Sem.run_bind, run_underlying hu, Result.andThen_ok, hfd, asAgg, Sem.run_pure]
    exact part_run (hE.tab _ _ htc) (.inl hn) e1 hrep (by rw [hoff, h2]) w
  · cases h

theorem indexAddr_sound (hE : EnvOk P E el) (s : SimX P w0 M0 N M β τ fr a w) {T : TypeId} {x i : Operand} (hop : o.op = .indexAddr T x i) (h : opV E o fr some = some av) : QOp P Q o a w M β τ fr.l av := by
  unfold opV at h
  simp only [hop, ev, Option.bind_eq_some_iff] at h
  obtain ⟨j, hj, h⟩ := h
  have hx := evT_ok s (lk o.type E.tab) x
  obtain ⟨kj, hvj, hjr⟩ := intOf_some hj (evT_ok s (some (.int .i64)) i)
  have he : execOp a.eval o = (do pure (Next.value (← Instr.indexAt T (a.eval x) (a.eval i)))) := by simp only [execOp, hop]
  split at h
  · rename_i id p heq
    rw [heq] at hx
    obtain ⟨e, off, t', h1, h2, h3⟩ := hx
    simp only [Option.bind_eq_some_iff] at h
    obtain ⟨e', h1', h⟩ := h
    obtain rfl : e' = e := Option.some.inj (h1'.symm.trans h1)
    rw [offP_typP h2] at h
    split at h
    · rename_i n t ht
      cases ht
      obtain ⟨hc, h⟩ := bif_some h
      obtain ⟨hb, h⟩ := bif_some h
      cases h
      simp only [Bool.and_eq_true, decide_eq_true_eq] at hb
      obtain ⟨e1, hu, hl, _⟩ := (hE.tab _ _ (tyIs_eq hc)).arr
      have hsz := (hE.tab _ _ hl).sizeOf w
      refine q_val s.mlt (v := .pointer (some ⟨β id, off + j.toNat * t.n, none⟩)) (exec_v he ?_) ⟨e', off + j.toNat * t.n, t, h1, ?_, rfl⟩
      · rw [hvj, h3]
        simp only [Instr.indexAt, asIntOf, Sem.run_bind, Sem.run_pure, Result.andThen_ok, run_underlying hu, Instr.sureAddr, hsz, if_pos hb, addr_add]
      · refine offP_snoc h2 ?_
        simp only [offP, if_pos hb]
        cases t <;> rfl
    · cases h
  · rename_i t ys _ heq
    rw [heq] at hx
    obtain ⟨hc, h⟩ := bif_some h
    simp only [Option.bind_eq_some_iff] at h
    obtain ⟨y, hy, h⟩ := h
    cases h
    obtain ⟨e1, hu, hl⟩ := sl_ok hE.tab hc
    have hsz := (hE.tab _ _ hl).sizeOf w
    obtain ⟨g0, g1, g2⟩ := getI_some hy
    obtain ⟨ad, cap, row, hv, hle, hcm, _, hs, hrow⟩ := hx.1.slice
    obtain ⟨c0, c1, c2, e2, hl2, hr⟩ := hs.at (fun _ _ r => r.length) j.toNat g2
    have hb : 0 ≤ j ∧ j < (List.length ys : Int) := ⟨g0, by omega⟩
    have finish : ∀ b o', ad = some ⟨b, o', none⟩ → Row M w b (o' + j.toNat * t.n) c1 → QOp P Q o a w M β τ fr.l (.val ⟨.ptr t, y⟩ .no) := by
      intro b o' had hrow'
      refine q_val s.mlt (v := .pointer (some ⟨b, o' + j.toNat * t.n, none⟩)) (exec_v he ?_) ⟨⟨_, rfl, b, o' + j.toNat * t.n, c1, rfl, hrow', hr⟩, trivial⟩
      rw [hvj, hv, had]
      simp only [Instr.indexAt, asIntOf, Sem.run_bind, Sem.run_pure, Result.andThen_ok, run_underlying hu, hsz, if_pos hb, addr_add]
    rcases hrow with hz | ⟨b, o', had, hrow⟩
    · exact absurd (Nat.lt_of_lt_of_eq g1 hz) (Nat.not_lt_zero _)
    · refine finish b o' had ?_
      rw [e2] at hrow
      have := hrow.right.left
      rwa [hl2] at this
  · rename_i n t ys _ heq
    rw [heq] at hx
    obtain ⟨hc, h⟩ := bif_some h
    simp only [Option.bind_eq_some_iff] at h
    obtain ⟨y, hy, h⟩ := h
    cases h
    obtain ⟨e1, hu, hl, _⟩ := (hE.tab _ _ (tyIs_eq hc)).arr
    have hsz := (hE.tab _ _ hl).sizeOf w
    obtain ⟨g0, g1, g2⟩ := getI_some hy
    obtain ⟨b, off, row, hv, hrow, hr0⟩ := hx.1.ptr
    obtain ⟨c0, c1, c2, e2, hl2, hr⟩ := hr0.2.at (fun _ _ r => r.length) j.toNat g2
    have hlen : List.length ys = n := hr0.1
    have hb : 0 ≤ j ∧ j < (n : Int) := ⟨g0, by omega⟩
    refine q_val s.mlt (v := .pointer (some ⟨b, off + j.toNat * t.n, none⟩)) (exec_v he ?_) ⟨⟨_, rfl, b, off + j.toNat * t.n, c1, rfl, ?_, hr⟩, trivial⟩
    · rw [hvj, hv]
      simp only [Instr.indexAt, asIntOf, Sem.run_bind, Sem.run_pure, Result.andThen_ok, run_underlying hu, Instr.sureAddr, hsz, if_pos hb, addr_add]
    · rw [e2] at hrow
      have := hrow.right.left
      rwa [hl2] at this
  · cases h

theorem index_sound (hE : EnvOk P E el) (s : SimX P w0 M0 N M β τ fr a w) {T : TypeId} {x i : Operand} (hop : o.op = .index T x i) (h : opV E o fr some = some av) : QOp P Q o a w M β τ fr.l av := by
  unfold opV at h
  simp only [hop, ev, Option.bind_eq_some_iff] at h
  obtain ⟨j, hj, h⟩ := h
  have hx := evT_ok s (lk T E.tab) x
  obtain ⟨kj, hvj, hjr⟩ := intOf_some hj (evT_ok s (some (.int .i64)) i)
  have he : execOp a.eval o = (do pure (Next.value (← Instr.index T (a.eval x) (a.eval i)))) := by simp only [execOp, hop]
  split at h
  · rename_i n t ys _ heq
    rw [heq] at hx
    obtain ⟨hc, h⟩ := bif_some h
    simp only [Option.bind_eq_some_iff] at h
    obtain ⟨y, hy, h⟩ := h
    cases h
    obtain ⟨e1, hu, hl, _⟩ := (hE.tab _ _ (tyIs_eq hc)).arr
    have hT := hE.tab _ _ hl
    obtain ⟨g0, g1, g2⟩ := getI_some hy
    obtain ⟨cs, hv, hr0⟩ := hx.1.agg rfl
    obtain ⟨c0, c1, c2, e2, hl2, hr⟩ := hr0.2.at (fun _ _ r => r.length) j.toNat g2
    have hlen : List.length ys = n := hr0.1
    have hb : 0 ≤ j ∧ j < (n : Int) := ⟨g0, by omega⟩
    refine q_val s.mlt (exec_v he ?_) ⟨⟨c1, rfl, hr⟩, trivial⟩
    rw [hvj, hv]
    simp only [Instr.index, asIntOf, Sem.run_bind, Sem.run_pure, Result.andThen_ok, run_underlying hu, hT.sizeOf w, if_pos hb]
    exact part_run hT (by cases t <;> simp [Ty.n, Ty.isAgg]) e2 hr hl2.symm w
  · rename_i ys _ heq
    rw [heq] at hx
    obtain ⟨hc, h⟩ := bif_some h
    simp only [Option.bind_eq_some_iff] at h
    obtain ⟨y, hy, h⟩ := h
    cases h
    have hu := (hE.tab _ _ (tyIs_eq hc)).str
    obtain ⟨g0, g1, g2⟩ := getI_some hy
    obtain ⟨sb, hv, rfl, l⟩ := hx.1.str
    have g1' : j.toNat < sb.size := by have z1 : sb.data.size = sb.size := rfl; simpa [z1] using g1
    have hval : y = ((sb[j.toNat]).toNat : Int) := by
      simp only [List.getElem?_map, Array.getElem?_toList] at g2
      rw [show sb.data[j.toNat]? = some sb[j.toNat] from Array.getElem?_eq_getElem _] at g2
      simpa using g2.symm
    refine q_val s.mlt (v := .int .u8 (sb[j.toNat]).toNat) (exec_v he ?_) ⟨?_, trivial⟩
    · rw [hvj, hv]
      simp only [Instr.index, asIntOf, Sem.run_bind, Sem.run_pure, Result.andThen_ok, run_underlying hu, if_pos g0]
      rw [show sb[j.toNat]? = some sb[j.toNat] from getElem?_pos sb j.toNat g1']
      rfl
    · rw [hval]
      refine VOk.mk_int ?_
      have := UInt8.toNat_lt sb[j.toNat]
      simp [IntKind.min, IntKind.max, IntKind.signed, IntKind.bits]
      omega
  · cases h

theorem bounds_run (isS : Bool) (len cap : Nat) (lo hi : Option Value) {l h : Nat} (hle : l ≤ h) (hh : h ≤ len) (hc : len ≤ cap)
    (hlo : (lo = none ∧ l = 0) ∨ ∃ k, lo = some (.int k l)) (hhi : (hi = none ∧ h = len) ∨ ∃ k, hi = some (.int k h)) :
    (Instr.sliceBounds isS len cap lo hi none).run P w = .ok (l, h, cap) w := by
  have b : ∀ (k : IntKind) (i y : Nat) (c : BoundsCode), i ≤ y → (Instr.sliceBound (.int k i) y c).run P w = .ok i w := by
    intro k i y c hi
    simp only [Instr.sliceBound, asIntOf, Sem.run_bind, Sem.run_pure, Result.andThen_ok]
    rw [if_pos (by omega)]
    simp
  rcases hlo with ⟨rfl, rfl⟩ | ⟨k1, rfl⟩ <;> rcases hhi with ⟨rfl, rfl⟩ | ⟨k2, rfl⟩ <;>
    simp only [Instr.sliceBounds, Sem.run_bind, Sem.run_pure, Result.andThen_ok, Option.isSome, Bool.false_eq_true, if_false]
  · rw [b k2 _ _ _ (by omega)]; simp
  · rw [b k1 _ _ _ (by omega)]; simp
  · rw [b k2 _ _ _ (by omega)]; simp only [Result.andThen_ok]; rw [b k1 _ _ _ (by omega)]; simp

theorem cut_bounds {α β' : Type} {xs : List α} {lo hi : Option Operand} {k : List α → Option β'} {r : β'} (s : SimX P w0 M0 N M β τ fr a w)
    (h : cutK xs (lo.map (evT (some (.int .i64)) · fr)) (hi.map (evT (some (.int .i64)) · fr)) k = some r) :
    ∃ l h' : Nat, l ≤ h' ∧ h' ≤ xs.length ∧ k ((xs.take h').drop l) = some r ∧ ((lo.map a.eval = none ∧ l = 0) ∨ ∃ k', lo.map a.eval = some (.int k' l)) ∧ ((hi.map a.eval = none ∧ h' = xs.length) ∨ ∃ k', hi.map a.eval = some (.int k' h')) := by
  have int : ∀ (x : Operand) (i : Int), intOf? (evT (some (.int .i64)) x fr) = some i → 0 ≤ i → ∃ k, a.eval x = .int k (i.toNat : Nat) := by
    intro x i hx h0
    obtain ⟨k, hv, _⟩ := intOf_some hx (evT_ok s (some (.int .i64)) x)
    exact ⟨k, by rw [hv]; congr 1; omega⟩
  cases lo with
  | none =>
    cases hi with
    | none => exact ⟨0, xs.length, by omega, Nat.le_refl _, by simpa [cutK] using h, .inl ⟨rfl, rfl⟩, .inl ⟨rfl, rfl⟩⟩
    | some y =>
      simp only [cutK, Option.map_none, Option.map_some, Option.bind_eq_some_iff] at h
      obtain ⟨j, hj, h⟩ := h
      obtain ⟨hb, h⟩ := bif_some h
      simp only [Bool.and_eq_true, decide_eq_true_eq] at hb
      obtain ⟨k2, e2⟩ := int y j hj hb.1
      exact ⟨0, j.toNat, by omega, by omega, by simpa using h, .inl ⟨rfl, rfl⟩, .inr ⟨k2, by simp [e2]⟩⟩
  | some x =>
    cases hi with
    | none =>
      simp only [cutK, Option.map_none, Option.map_some, Option.bind_eq_some_iff] at h
      obtain ⟨j, hj, h⟩ := h
      obtain ⟨hb, h⟩ := bif_some h
      simp only [Bool.and_eq_true, decide_eq_true_eq] at hb
      obtain ⟨k2, e2⟩ := int x j hj hb.1
      exact ⟨j.toNat, xs.length, by omega, Nat.le_refl _, by simpa using h, .inr ⟨k2, by simp [e2]⟩, .inl ⟨rfl, rfl⟩⟩
    | some y =>
      simp only [cutK, Option.map_some, Option.bind_eq_some_iff] at h
      obtain ⟨i, hi', j, hj, h⟩ := h
      obtain ⟨hb, h⟩ := bif_some h
      simp only [Bool.and_eq_true, decide_eq_true_eq] at hb
      obtain ⟨k1, e1⟩ := int x i hi' hb.1
      obtain ⟨k2, e2⟩ := int y j hj (by omega)
      exact ⟨i.toNat, j.toNat, by omega, by omega, h, .inr ⟨k1, by simp [e1]⟩, .inr ⟨k2, by simp [e2]⟩⟩

theorem slice_row {t : Ty} {xs : List t.den} {row : List Value} {l h b o' cap : Nat} (hs : Seq (Rep M w t) row xs) (hlh : l ≤ h) (hh : h ≤ xs.length) (hcap : xs.length ≤ cap) (hm : cap ≤ maxLen) (hrow : Row M w b o' row) (ad : Option Addr)
    (had : ad = some ⟨b, o' + l * t.n, none⟩ ∨ (l = h)) (hz : ad = none → cap - l = 0) : VOk M w (.slice t) ((xs.take h).drop l) (.slice ad (h - l) (cap - l)) := by
  obtain ⟨c0, c1, c2, e2, hl2, hr⟩ := cut_of (fun _ _ r => Rep.length r) hs hlh hh
  have hlen : (List.drop l (List.take h xs)).length = h - l := by simp; omega
  refine ⟨[.slice ad (h - l) (cap - l)], rfl, ad, cap - l, c1, by rw [hlen], by rw [hlen]; omega, by omega, hz, hr, ?_⟩
  rcases had with had | had
  · refine .inr ⟨b, _, had, ?_⟩
    rw [e2] at hrow
    have := hrow.right.left
    rwa [hl2] at this
  · exact .inl (by rw [hlen]; omega)

theorem slice_sound (hE : EnvOk P E el) (s : SimX P w0 M0 N M β τ fr a w) {T : TypeId} {x : Operand} {lo hi : Option Operand} (hop : o.op = .slice T x lo hi none) (h : opV E o fr some = some av)
 : QOp P Q o a w M β τ fr.l av := by
  unfold opV at h
  simp only [hop, ev] at h
  have hx := evT_ok s (lk o.type E.tab) x
  have he : execOp a.eval o = (do pure (Next.value (← Instr.sliceAt T (a.eval x) (lo.map a.eval) (hi.map a.eval) none))) := by simp only [execOp, hop]; rfl
  split at h
  · rename_i t ys _ heq
    rw [heq] at hx
    obtain ⟨hc, h⟩ := bif_some h
    obtain ⟨l, h', hle, hh, h, hlo, hhi⟩ := cut_bounds s h
    cases h
    obtain ⟨e1, hu, hl⟩ := (hE.tab _ _ (tyIs_eq hc)).slice
    obtain ⟨ad, cap, row, hv, hlc, hcm, hz0, hs, hrow⟩ := hx.1.slice
    have hlc' : List.length ys ≤ cap := hlc
    refine q_val s.mlt (v := .slice (if cap = l then ad else ad.map (·.add (l * t.n))) (h' - l) (cap - l)) (exec_v he ?_) ⟨?_, trivial⟩
    · rw [hv]
      simp only [Instr.sliceAt, Instr.slice, Sem.run_bind, run_underlying hu, Result.andThen_ok, bounds_run (P := P) (w := w) true _ cap _ _ hle hh hlc' hlo hhi, (hE.tab _ _ hl).sizeOf w, Sem.run_pure]
    · rcases hrow with hz | ⟨b, o', had, hrow⟩
      · have hl0 : List.length ys = 0 := hz
        have : h' = 0 := by omega
        have : l = 0 := by omega
        subst h' l
        refine ⟨[.slice (if cap = 0 then ad else ad.map (·.add (0 * t.n))) (0 - 0) (cap - 0)], rfl, (if cap = 0 then ad else ad.map (·.add (0 * t.n))), cap - 0, [], by simp, by simp, by omega, (fun h => by
          rcases Nat.eq_zero_or_pos cap with hc | hc
          · simp [hc]
          · rw [if_neg (by omega)] at h
            have := hz0 (by simpa using h)
            omega), by simp [Seq], .inl (by simp)⟩
      · refine slice_row hs hle hh hlc' hcm hrow _ ?_ (by rw [had]; split <;> simp)
        by_cases hcl : cap = l
        · right; omega
        · left; rw [if_neg hcl, had]; simp [addr_add]
  · rename_i ys _ heq
    rw [heq] at hx
    obtain ⟨hc, h⟩ := bif_some h
    obtain ⟨l, h', hle, hh, h, hlo, hhi⟩ := cut_bounds s h
    cases h
    have hu := (hE.tab _ _ (tyIs_eq hc)).str
    obtain ⟨sb, hv, rfl, hm⟩ := hx.1.str
    have z1 : sb.data.size = sb.size := rfl
    have hlen : (sb.data.toList.map fun b => (b.toNat : Int)).length = sb.size := by simp [z1]
    rw [hlen] at hh hhi
    refine q_val s.mlt (v := .string (sb.extract l h')) (exec_v he ?_) ⟨⟨[.string (sb.extract l h')], rfl, _, rfl, ?_, ?_⟩, trivial⟩
    · rw [hv]
      simp only [Instr.sliceAt, Instr.slice, Sem.run_bind, run_underlying hu, Result.andThen_ok, Option.isSome, Bool.false_eq_true, if_false, Sem.run_pure, bounds_run (P := P) (w := w) false sb.size sb.size _ _ hle hh (Nat.le_refl _) hlo hhi]
    · rw [← List.map_take, ← List.map_drop]
      simp [ByteArray.data_extract, List.take_drop, Nat.add_sub_cancel' hle]
    · simp; omega
  · rename_i n t ys _ heq
    rw [heq] at hx
    obtain ⟨hc, h⟩ := bif_some h
    simp only [Bool.and_eq_true] at hc
    obtain ⟨l, h', hle, hh, h, hlo, hhi⟩ := cut_bounds s h
    cases h
    obtain ⟨e1, hu, hl, _⟩ := (hE.tab _ _ (tyIs_eq hc.1)).arr
    obtain ⟨b, off, row, hv, hrow, hr0⟩ := hx.1.ptr
    have hlen : List.length ys = n := hr0.1
    rw [hlen] at hhi
    have hn : n ≤ maxLen := by have := Nat.le_of_ble_eq_true hc.2; simp only [maxLen]; omega
    refine q_val s.mlt (v := .slice (some (if n = l then ⟨b, off, none⟩ else (⟨b, off, none⟩ : Addr).add (l * t.n))) (h' - l) (n - l)) (exec_v he ?_) ⟨?_, trivial⟩
    · rw [hv]
      simp only [Instr.sliceAt, Sem.run_bind, run_underlying hu, Result.andThen_ok, Instr.sureAddr, Sem.run_pure, bounds_run (P := P) (w := w) false n n _ _ hle (by omega) (Nat.le_refl _) hlo hhi, (hE.tab _ _ hl).sizeOf w]
    · refine slice_row hr0.2 hle hh (Nat.le_of_eq hlen) hn hrow _ ?_ (fun h => by cases h)
      by_cases hcl : n = l
      · right; omega
      · left; rw [if_neg hcl, addr_add]
  · rename_i id heq
    rw [heq] at hx
    obtain ⟨e, off, t', h1, h2, h3⟩ := hx
    simp only [Option.bind_eq_some_iff] at h
    obtain ⟨e', h1', h⟩ := h
    obtain rfl : e' = e := Option.some.inj (h1'.symm.trans h1)
    obtain ⟨hm, h⟩ := bif_some' h
    simp only [offP, Option.some.injEq, Prod.mk.injEq] at h2
    obtain ⟨rfl, rfl⟩ := h2
    obtain ⟨m, tv⟩ := e'
    simp only at h hm
    split at h
    · rename_i n t ys heq2
      obtain ⟨hc, h⟩ := bif_some h
      obtain ⟨l, h', hle, hh, h, hlo, hhi⟩ := cut_bounds s h
      cases h
      simp only [Bool.and_eq_true] at hc
      have hn : n ≤ maxLen := by have := Nat.le_of_ble_eq_true hc.2; simp only [maxLen]; omega
      obtain ⟨e1, hu, hl, _⟩ := (hE.tab _ _ (tyIs_eq hc.1)).arr
      obtain ⟨_, ⟨cs, TT, hb, r⟩, _, hseal⟩ := s.lo id _ h1
      simp only at r hseal
      have hlen' := r.length
      have hr0 : List.length ys = n ∧ Seq (Rep M w t) cs ys := r
      have hlen : List.length ys = n := hr0.1
      have hrow : Row M w (β id) 0 cs := fun i hi => ⟨by rw [cell_of_row _ _ _ _ _ _ hb]; simp, hseal hm _ (by omega)⟩
      rw [hlen] at hhi
      refine q_val s.mlt (v := .slice (some (if n = l then ⟨β id, 0, none⟩ else (⟨β id, 0, none⟩ : Addr).add (l * t.n))) (h' - l) (n - l)) (exec_v he ?_) ⟨?_, trivial⟩
      · rw [h3]
        simp only [Instr.sliceAt, Sem.run_bind, run_underlying hu, Result.andThen_ok, Instr.sureAddr, Sem.run_pure, bounds_run (P := P) (w := w) false n n _ _ hle (by omega) (Nat.le_refl _) hlo hhi, (hE.tab _ _ hl).sizeOf w]
      · refine slice_row hr0.2 hle hh (Nat.le_of_eq hlen) hn hrow _ ?_ (fun h => by cases h)
        by_cases hcl : n = l
        · right; omega
        · left; rw [if_neg hcl, addr_add]
    · cases h
  · cases h
end
end Go.Lift
