/- One that calls itself is what its wider reading says. -/
import Derived.Test.YtlmhokakghbciaaRiO
namespace Go.Lift
open Go.RowKit

section
variable {P : Program} {E : Env2} {w0 : World} {M0 : Bs} {N : Nat} {M M' : Own} {β β' : Nat → Nat} {τ τ' : Nat → Value} {st st' : St} {a : Act} {as : List Act} {w w' : World}

theorem resK_pc {l l' : List (Nat × Ob)} {g : RV → RV} : ∀ (rs : List Ty) (os : List Bool) (rvs : List RV), PC (fun β k => resK (α := β) l l' g rs os rvs k) := by
  intro rs
  induction rs with
  | nil => intro os rvs; cases os <;> cases rvs <;> first | exact PC.ret _ | exact PC.none
  | cons t rs ih =>
    intro os rvs
    cases rs with
    | nil =>
      match os, rvs with
      | [o], [rv] => exact resOne_pc
      | [], _ => exact PC.none
      | _ :: _ :: _, _ => exact PC.none
      | [o], [] => exact PC.none
      | [o], _ :: _ :: _ => exact PC.none
    | cons t2 rs =>
      match os, rvs with
      | o :: os, rv :: rvs => exact PC.comp (G := fun β x k => resK l l' g (t2 :: rs) os rvs fun r => k (x, r)) resOne_pc fun x => PC.comp (G := fun β r k => k (x, r)) (ih os rvs) fun r => PC.ret _
      | [], _ => exact PC.none
      | o :: os, [] => exact PC.none

theorem resV_one {L : List (Nat × Ob)} {t : Ty} {rv : RV} {u : Value} {x : t.den} {v : TV} (hf : frozenR rv = true) (hv : peekK [] 6 rv some = some v) (hx : TV.as t v = some x) (hr : RR M w β τ L rv .sl [u]) : OneOk 0 M w t false x u := by
  have h1 := peekK_ok (b0 := fun _ => True) (M := M) (w := w) (β := β) (τ := τ) (L := []) (fun id ob h => by simp [lk] at h) 6 hv (frozen_any hf hr)
  rw [TV.as_eq hx] at h1
  have h2 : VOk M w t x u := h1.ext fun b o m => ⟨by
    rcases m with m | ⟨i, ob, h, _⟩
    · exact m
    · simp [lk] at h, fun _ h => h⟩
  cases t <;> exact h2
theorem resV_ok {L : List (Nat × Ob)} : ∀ {rs : List Ty} {vs : List RV} {r : resDen rs} {us : List Value}, resV rs vs = some r → Rel2 M w β τ L vs us → EachOk 0 M w rs [] r us
  | [], [], _, [], _, _ => rfl
  | [], [], _, _ :: _, _, h => h.elim
  | [t], [rv], x, us, h, hr => by
    simp only [resV] at h
    obtain ⟨hf, h⟩ := bif_some h
    obtain ⟨v, hv, hx⟩ := Option.bind_eq_some_iff.1 h
    match us, hr with
    | [u], hr => exact ⟨u, rfl, resV_one hf hv hx hr.1⟩
    | [], hr => exact hr.elim
    | _ :: _ :: _, hr => exact hr.2.elim
  | t :: t' :: ts, rv :: rvs, r, us, h, hr => by
    simp only [resV] at h
    obtain ⟨hf, h⟩ := bif_some h
    obtain ⟨v, hv, h⟩ := Option.bind_eq_some_iff.1 h
    obtain ⟨x, hx, h⟩ := Option.bind_eq_some_iff.1 h
    obtain ⟨q, hq, h⟩ := Option.bind_eq_some_iff.1 h
    cases h
    match us, hr with
    | u :: us, hr => exact ⟨u, us, rfl, resV_one hf hv hx hr.1, resV_ok (rs := t' :: ts) hq hr.2⟩
    | [], hr => exact hr.elim
  | [], _ :: _, _, _, h, _ => by simp [resV] at h
  | [_], [], _, _, h, _ => by simp [resV] at h
  | [_], _ :: _ :: _, _, _, h, _ => by simp [resV] at h
  | _ :: _ :: _, [], _, _, h, _ => by simp [resV] at h

theorem witIds_ok {wt : List (Nat × RV)} : ∀ {bs : List Bt} {n : Nat} {ids : List Nat}, witIds wt bs n = some ids → ids.length = bs.length ∧ ∀ j, j < bs.length → ∃ i, ids[j]? = some i ∧ (lk (n + j) wt = some (.loc i []) ∨ lk (n + j) wt = some (.mp i) ∨ lk (n + j) wt = some (.row i))
  | [], _, ids, h => by
    simp only [witIds] at h
    cases h
    exact ⟨rfl, fun j hj => by simp at hj⟩
  | _ :: bs, n, ids, h => by
    have one : ∀ {i : Nat}, (lk n wt = some (.loc i []) ∨ lk n wt = some (.mp i) ∨ lk n wt = some (.row i)) → ((witIds wt bs (n + 1)).bind fun r => some (i :: r)) = some ids → ids.length = bs.length + 1 ∧ ∀ j, j < bs.length + 1 → ∃ i, ids[j]? = some i ∧ (lk (n + j) wt = some (.loc i []) ∨ lk (n + j) wt = some (.mp i) ∨ lk (n + j) wt = some (.row i)) := by
      intro i hi h
      obtain ⟨r, h1, h2⟩ := Option.bind_eq_some_iff.1 h
      cases h2
      obtain ⟨h3, h4⟩ := witIds_ok h1
      refine ⟨by simp [h3], fun j hj => ?_⟩
      cases j with
      | zero => exact ⟨i, rfl, hi⟩
      | succ j =>
        obtain ⟨i', h5, h6⟩ := h4 j (by omega)
        refine ⟨i', by simpa using h5, ?_⟩
        rw [show n + (j + 1) = n + 1 + j by omega]
        exact h6
    simp only [witIds] at h
    split at h
    · rename_i i hi
      exact one (.inl hi) h
    · rename_i i hi
      exact one (.inr (.inl hi)) h
    · rename_i i hi
      exact one (.inr (.inr hi)) h
    · cases h

/-- where a named block stands -/
theorem name_at {L : List (Nat × Ob)} {i : Nat} {u : Value} {rv : RV} (hrv : rv = .loc i [] ∨ rv = .mp i) (r : RR M w β τ L rv .sl [u]) : u = .pointer (some ⟨β i, 0, none⟩) ∨ u = .map (some (β i)) := by
  rcases hrv with rfl | rfl
  · obtain ⟨ob, off, t', h1, h2, h3⟩ := loc_inv r
    cases ob with
    | var t con =>
      rw [offS_var] at h2
      cases h2
      exact .inl h3
    | row t xs => simp [Ob.shape, offS] at h2
    | mp kt vt es =>
      have : offS (Ob.mp kt vt es).shape [] = some (0, .mp kt vt) := rfl
      rw [this] at h2
      cases h2
      exact .inl h3
    | lp kc kq =>
      have : offS (Ob.lp kc kq).shape [] = some (0, .unit) := rfl
      rw [this] at h2
      cases h2
      exact .inl h3
  · obtain ⟨_, _, _, _, h⟩ := mp_inv r
    exact .inr h

theorem rec_of (hE : Env2Ok P E) {g : FuncId} {fn : Func} {code : Code} {c : RecC} (hf : P.funcs[g]? = some fn) (hb : fn.body = some code) (hn : (fn.name == "runtime.NumGoroutine") = false)
    (hd : dstsOk fn.ntmps code = true) (hps : Nat.ble c.fp.length fn.ntmps = true) (_hB : recB c = true) (hF : ∀ x y r, c.F x y = some r → ∃ lt lv N, riseR E lt lv N fn c x y = some r) : RecOk P g c where
  enters := enters_of hf hb hn
  calls := by
    intro w0 M0 M β τ as w args x y z r hne hlen hs hzr
    obtain ⟨lt, lv, Nf, hN⟩ := hF x y (z, r) hzr
    simp only [riseR, hb] at hN
    have hle : args.length ≤ fn.ntmps := by rw [hlen]; exact Nat.le_of_ble_eq_true hps
    have s0 := hs fn.ntmps hle
    have fin : ∀ (st : St) (a : Act) (w' : World), doneR E fn c y st = some (z, r) → Sim2 w0 M0 fn.ntmps st a as w' →
        ∃ v, (results fn a.tmps).run P w' = .ok v w' ∧ ∃ us M' β' τ' N' a', Ending.returned v = .returned (retV us) ∧ Sm w0 M0 N' M' β' τ' { s := [], l := setA c.w (wOb c.bp c.w z) (mkL 0 c.bp y), k := [], b := 0 } a' [] w' ∧ ((∀ j, j < c.bp.length → β' j = β j) ∧ ∀ j t xs, lk j (mkL 0 c.bp y) = some (.row t xs) → τ' j = τ j) ∧ EachOk 0 M' w' c.rs [] r us := by
      intro stq a w' h sq
      unfold doneR at h
      obtain ⟨vs0, _, h⟩ := Option.bind_eq_some_iff.1 h
      obtain ⟨st, h, s⟩ := frzAllK_ok _ _ _ h sq
      obtain ⟨M1, β1, τ1, s⟩ := s
      obtain ⟨rvs, h1, h2⟩ := Option.bind_eq_some_iff.1 h
      obtain ⟨us, h3, h4⟩ := resR_ok hE s _ _ h1
      unfold finR at h2
      split at h2
      rotate_left
      · cases h2
      rename_i bk wt hk
      obtain ⟨ids, h5, h2⟩ := Option.bind_eq_some_iff.1 h2
      obtain ⟨hrow, h2⟩ := bif_some h2
      obtain ⟨h2, hsame⟩ := sameL_ok (m := 0) h2 (rowL_ok hrow)
      obtain ⟨z', h6, h2⟩ := Option.bind_eq_some_iff.1 h2
      obtain ⟨r', h7, h8⟩ := Option.bind_eq_some_iff.1 h2
      cases h8
      have h9 := getW_ok (m := 0) h6 (rowL_ok hrow)
      rw [Nat.zero_add] at h9
      have h10 := resV_ok h7 h4
      obtain ⟨hlen2, hids⟩ := witIds_ok h5
      have s1 := s.ren ids
      -- the frame that names the blocks
      have hf0 := s0.fs
      have hf1 := s.fs
      rw [hk] at hf1
      simp only [startR] at hf0
      obtain ⟨wit, rfl⟩ : ∃ wit, as = [wit] := by
        match as, hf0 with
        | [wit], _ => exact ⟨wit, rfl⟩
        | _ :: _ :: _, h => exact h.2.elim
      have hβτ : ∀ j, j < c.bp.length → β1 ((ids[j]?).getD 0) = β j ∧ ∀ t xs, lk j (mkL 0 c.bp y) = some (.row t xs) → τ1 ((ids[j]?).getD 0) = τ j := by
        intro j hj
        obtain ⟨i, g1, g2⟩ := hids j hj
        rw [Nat.zero_add] at g2
        simp only [g1, Option.getD_some]
        obtain ⟨ob, g3⟩ := mkL_some (n := 0) (d := y) (Nat.zero_le j) (by simpa using hj)
        have g4 : lk j (witL (mkL 0 c.bp y)) = some (nameR j ob) := by
          simp only [witL]
          rw [lk_mapK, g3]
          rfl
        obtain ⟨u, g5, g6⟩ := hf0.1 j _ g4
        have hsl : ∀ {i : Nat} {u' : Value}, RR M1 w' β1 τ1 st.l (.row i) .sl [u'] → (∃ a len cap, u' = .slice a len cap) ∧ u' = τ1 i ∧ ∀ b, wob (τ1 i) = some b → b = β1 i := by
          intro i u' h
          obtain ⟨t, xs, hl, hu⟩ := row_inv h
          obtain ⟨⟨a, cap, row, e, _⟩, k2⟩ := s.ob i _ hl
          exact ⟨⟨a, _, cap, by rw [hu, e]⟩, hu, k2⟩
        have k1 : ∃ u', wit.tmps[j]? = some u' ∧ ((u' = .pointer (some ⟨β1 i, 0, none⟩) ∨ u' = .map (some (β1 i))) ∨ (∃ a len cap, u' = .slice a len cap) ∧ u' = τ1 i ∧ ∀ b, wob (τ1 i) = some b → b = β1 i) := by
          rcases g2 with g2 | g2 | g2
          · obtain ⟨u', k1, k2⟩ := hf1.1 j _ g2
            exact ⟨u', k1, .inl (name_at (.inl rfl) k2)⟩
          · obtain ⟨u', k1, k2⟩ := hf1.1 j _ g2
            exact ⟨u', k1, .inl (name_at (.inr rfl) k2)⟩
          · obtain ⟨u', k1, k2⟩ := hf1.1 j _ g2
            exact ⟨u', k1, .inr (hsl k2)⟩
        obtain ⟨u', k1, k2⟩ := k1
        rw [g5] at k1
        cases k1
        have named : nameR j ob = .loc j [] ∨ nameR j ob = .mp j → (∀ t xs, ob ≠ .row t xs) → β1 i = β j ∧ ∀ t xs, lk j (mkL 0 c.bp y) = some (.row t xs) → τ1 i = τ j := by
          intro g7 hnr
          refine ⟨?_, fun t xs h => absurd (Option.some.inj (g3.symm.trans h)) (hnr t xs)⟩
          have g9 := name_at g7 g6
          rcases g9 with rfl | rfl
          · rcases k2 with (k2 | k2) | ⟨⟨_, _, _, k2⟩, _⟩ <;> simp at k2
            exact k2.symm
          · rcases k2 with (k2 | k2) | ⟨⟨_, _, _, k2⟩, _⟩ <;> simp at k2
            exact k2.symm
        cases ob with
        | var t con => exact named (.inl rfl) fun _ _ h => by cases h
        | mp kt vt es => exact named (.inr rfl) fun _ _ h => by cases h
        | lp c q =>
          obtain ⟨_, _, _, b', x', _, g8⟩ := mkL_lk g3
          exact absurd g8.symm mkB_noLp
        | row t xs =>
          obtain ⟨_, _, hl0, hu0⟩ := row_inv g6
          have h0 := s0.ob j (.row t xs) g3
          obtain ⟨b, hb⟩ := rowX_wob h0.1 (mkL_ne hne g3)
          obtain ⟨⟨a0, cap0, row0, e0, _⟩, h02⟩ := h0
          rcases k2 with (k2 | k2) | ⟨_, k2, k3⟩
          · rw [hu0, e0] at k2; cases k2
          · rw [hu0, e0] at k2; cases k2
          · have ht : τ1 i = τ j := k2.symm.trans hu0
            exact ⟨by rw [← k3 b (by rw [ht]; exact hb)]; exact h02 b hb, fun _ _ _ => ht⟩
      have hw := wOb_lt z
      have hlk : ∀ j, lk j (renSt ids st).l = lk j (setA c.w (wOb c.bp c.w z) (mkL 0 c.bp y)) := by
        intro j
        rw [lk_setA]
        by_cases hj : j = c.w
        · rw [if_pos hj, hj]
          obtain ⟨ob, g3⟩ := mkL_some (n := 0) (d := y) (Nat.zero_le c.w) (by simpa using hw)
          rw [g3]
          exact h9
        · rw [if_neg hj]
          exact hsame j fun n hn => by cases hn; omega
      have s2 : Sm w0 M0 fn.ntmps M1 (fun j => β1 ((ids[j]?).getD 0)) (fun j => τ1 ((ids[j]?).getD 0)) { s := [], l := (renSt ids st).l, k := [], b := 0 } a [] w' :=
        { df := s1.df, sz := s1.sz, bel := s1.bel, mlt := s1.mlt, mex := s1.mex, gk := s1.gk, gx := s1.gx, kp := s1.kp, mnew := s1.mnew, fr := fun i rv h => by simp [lk] at h, fs := trivial, ob := s1.ob, dj := s1.dj }
      exact ⟨_, results_run h3, us, M1, _, _, fn.ntmps, a, rfl, s2.lks (fun _ => rfl) hlk rfl, ⟨fun j hj => (hβτ j hj).1, fun j t xs h => (hβτ j (by simpa using (mkL_lk h).2.1)).2 t xs h⟩, h10⟩
    exact body_calls hE Nf (hnd_ok hE Nf lv) hf hb hd hN ⟨M, β, τ, s0⟩ fin

theorem rec_none {g : FuncId} {fn : Func} {code : Code} {fp : List Pt} {bp : List Bt} {n : Nat} {rs : List Ty} {ro : Bool} (hf : P.funcs[g]? = some fn) (hb : fn.body = some code) (hn : (fn.name == "runtime.NumGoroutine") = false) : RecOk P g ⟨fp, bp, n, rs, fun _ _ => none, ro⟩ where
  enters := enters_of hf hb hn
  calls := by intro _ _ _ _ _ _ _ _ _ _ _ _ _ _ _ h; cases h

theorem own_of (hE : Env2Ok P E) {g : FuncId} {fn : Func} {code : Code} {c : OwnC} (hf : P.funcs[g]? = some fn) (hb : fn.body = some code) (hn : (fn.name == "runtime.NumGoroutine") = false)
    (hd : dstsOk fn.ntmps code = true) (hps : Nat.ble (c.fp.length + 1) fn.ntmps = true) (hF : ∀ x y z, c.F x y = some z → ∃ lt lv N, riseO E lt lv N fn c.e c.fp x y = some z) : OwnOk P g c where
  enters := enters_of hf hb hn
  calls := by
    intro w0 M0 M β τ w args x y z hlen hs hz
    obtain ⟨lt, lv, Nf, hN⟩ := hF x y z hz
    simp only [riseO, hb] at hN
    have hle : args.length ≤ fn.ntmps := by rw [hlen]; exact Nat.le_of_ble_eq_true hps
    have s0 := hs fn.ntmps hle
    have fin : ∀ (st : St) (a : Act) (w' : World), doneO E fn c.e st = some z → Sim2 w0 M0 fn.ntmps st a [] w' →
        ∃ v, (results fn a.tmps).run P w' = .ok v w' ∧ ∃ u M' β' τ' N' a', Ending.returned v = .returned u ∧ Sm w0 M0 N' M' β' τ' { s := [], l := [(0, .row c.e z)], k := [], b := 0 } a' [] w' ∧ u = τ' 0 := by
      intro st a w' h s
      obtain ⟨M1, β1, τ1, s⟩ := s
      unfold doneO at h
      obtain ⟨rvs, h1, h⟩ := Option.bind_eq_some_iff.1 h
      obtain ⟨us, h3, h4⟩ := resR_ok hE s _ _ h1
      split at h
      · rename_i id
        split at h
        · rename_i t z' hl
          have hz' := TV.as_eq h
          cases hz'
          match us, h4 with
          | [u], h4 =>
            have h5 := h4.1
            simp only [RR] at h5
            obtain ⟨_, u', _, _, e1, _, _, e2⟩ := h5
            simp only [List.cons.injEq, and_true] at e1
            subst e1
            have s1 := s.ren [id]
            have hl1 : (renSt [id] st).l = [(0, .row c.e z)] := by simp [renSt, renL, hl, idxN, mapOb]
            exact ⟨_, results_run h3, u, M1, _, _, fn.ntmps, a, by simp [retV], { df := s1.df, sz := s1.sz, bel := s1.bel, mlt := s1.mlt, mex := s1.mex, gk := s1.gk, gx := s1.gx, kp := s1.kp, mnew := s1.mnew, fr := fun i rv h => by simp [lk] at h, fs := trivial, ob := fun i ob h => by have := s1.ob i ob (by rw [hl1]; exact h); rw [hl1] at this; exact this, dj := fun i j ob ob' b h h' => s1.dj i j ob ob' b (by rw [hl1]; exact h) (by rw [hl1]; exact h') }, by simpa using e2⟩
          | [], h4 => exact h4.elim
          | _ :: _ :: _, h4 => exact h4.2.elim
        · cases h
      · cases h
    letI : DecidableEq (Ty.slice c.e).den := decD (.slice c.e)
    exact body_calls hE Nf (hnd_ok hE Nf lv) hf hb hd hN ⟨M, β, τ, s0⟩ fin

theorem owsNil : ∀ g c, lk g ([] : List (FuncId × OwnC)) = some c → OwnOk P g c := by
  intro g c h; simp [lk] at h
theorem owsCons {g : FuncId} {c : OwnC} {l : List (FuncId × OwnC)} (hg : OwnOk P g c) (h : ∀ f d, lk f l = some d → OwnOk P f d) : ∀ f d, lk f ((g, c) :: l) = some d → OwnOk P f d := by
  intro f d hf
  rw [lk_cons] at hf
  split at hf
  · rename_i e; subst e; cases hf; exact hg
  · exact h f d hf

theorem rcsNil : ∀ g c, lk g ([] : List (FuncId × RecC)) = some c → RecOk P g c := by
  intro g c h; simp [lk] at h
theorem rcsCons {g : FuncId} {c : RecC} {l : List (FuncId × RecC)} (hg : RecOk P g c) (h : ∀ f d, lk f l = some d → RecOk P f d) : ∀ f d, lk f ((g, c) :: l) = some d → RecOk P f d := by
  intro f d hf
  rw [lk_cons] at hf
  split at hf
  · rename_i e; subst e; cases hf; exact hg
  · exact h f d hf
end
end Go.Lift
