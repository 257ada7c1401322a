/- Calls of functions that call themselves: what is known before them, and behind. -/
import Derived.Test.YtlmhokakghbciaaRiM
namespace Go.Lift
open Go.RowKit

section
variable {P : Program} {E : Env2} {Q : Exit → Act → World → Prop} {o : Oper} {w0 : World} {M0 : Bs} {N : Nat} {M M' : Own} {β β' : Nat → Nat} {τ τ' : Nat → Value} {st st' : St} {a : Act} {as : List Act} {w w' : World} {id : Nat}

theorem enter_at {args : List Value} {m i : Nat} {u : Value} (h : args[i]? = some u) : (enterAct args m).tmps[i]? = some u := by
  have hlt := (List.getElem?_eq_some_iff.1 h).1
  simp only [enterAct]
  rw [Array.getElem?_append_left (by simpa using hlt)]
  simpa using h

theorem rel2_at {L : List (Nat × Ob)} : ∀ {rvs : List RV} {us : List Value} {i : Nat} {rv : RV}, Rel2 M w β τ L rvs us → rvs[i]? = some rv → ∃ u, us[i]? = some u ∧ RR M w β τ L rv .sl [u]
  | [], [], i, rv, _, h => by simp at h
  | r :: rs, u :: us, 0, rv, h, e => by simp at e; subst e; exact ⟨u, rfl, h.1⟩
  | r :: rs, u :: us, i + 1, rv, h, e => by simpa using rel2_at h.2 (by simpa using e)
  | [], _ :: _, _, _, h, _ => h.elim
  | _ :: _, [], _, _, h, _ => h.elim

theorem rel2_len {L : List (Nat × Ob)} : ∀ {rvs : List RV} {us : List Value}, Rel2 M w β τ L rvs us → rvs.length = us.length
  | [], [], _ => rfl
  | _ :: _, _ :: _, h => by simp [rel2_len h.2]
  | [], _ :: _, h => h.elim
  | _ :: _, [], h => h.elim

theorem rel2_append {L : List (Nat × Ob)} : ∀ {rvs rvs' : List RV} {us us' : List Value}, Rel2 M w β τ L rvs us → Rel2 M w β τ L rvs' us' → Rel2 M w β τ L (rvs ++ rvs') (us ++ us')
  | [], _, [], _, _, h => h
  | _ :: _, _, _ :: _, _, h, h' => ⟨h.1, rel2_append h.2 h'⟩
  | [], _, _ :: _, _, h, _ => h.elim
  | _ :: _, _, [], _, h, _ => h.elim

theorem listP_ok {L : List (Nat × Ob)} : ∀ {r : RV} {rvs : List RV} {us : List Value}, listP r = some rvs → RR M w β τ L r .li us → Rel2 M w β τ L rvs us := by
  intro r
  induction r with
  | unit =>
    intro rvs us h r
    cases h
    have : us = [] := r
    subst this
    trivial
  | pair x y ihx ihy =>
    intro rvs us h r
    simp only [RR] at r
    obtain ⟨u, us', rfl, r1, r2⟩ := r
    simp only [listP] at h
    obtain ⟨rs, h1, h⟩ := Option.bind_eq_some_iff.1 h
    cases h
    exact ⟨r1, ihy h1 r2⟩
  | _ => intro rvs us h; cases h

theorem args_rel (s : Sm w0 M0 N M β τ st a as w) {tab : List (TypeId × Ty)} : ∀ {xs : List Operand} {ts : List TypeId}, xs.length = ts.length → Rel2 M w β τ st.l ((xs.zip ts).map fun p => evR (lk p.2 tab) p.1 st.s) (xs.map a.eval)
  | [], [], _ => trivial
  | x :: xs, t :: ts, h => ⟨evR_ok s.glob s.fr _ x, args_rel s (by simpa using h)⟩
  | [], _ :: _, h => by simp at h
  | _ :: _, [], h => by simp at h


theorem RR.tau {L : List (Nat × Ob)} (h : ∀ (id : Nat) (t : Ty) (xs : List t.den), lk id L = some (.row t xs) → τ' id = τ id) : ∀ {rv : RV} {m : Mo} {cs : List Value}, RR M w β τ L rv m cs → RR M w β τ' L rv m cs := by
  intro rv
  induction rv with
  | any => intro m cs r; cases m <;> exact r
  | nil t => intro m cs r; cases m <;> exact r
  | val v => intro m cs r; cases m <;> exact r
  | row id => intro m cs r; simp only [RR] at r ⊢; obtain ⟨h1, u, t, xs, e, ho, hl, hu⟩ := r; exact ⟨h1, u, t, xs, e, ho, hl, by rw [h id t xs hl]; exact hu⟩
  | sub id lo hi => intro m cs r; simp only [RR] at r ⊢; obtain ⟨h1, u, t, xs, e, ho, hl, h2, h3, hu⟩ := r; exact ⟨h1, u, t, xs, e, ho, hl, h2, h3, by rw [h id t xs hl]; exact hu⟩
  | loc id p => intro m cs r; simpa only [RR] using r
  | clo f c ih => intro m cs r; simp only [RR] at r ⊢; obtain ⟨h1, us, e, r⟩ := r; exact ⟨h1, us, e, ih r⟩
  | unit => intro m cs r; cases m <;> exact r
  | pair a b iha ihb =>
    intro m cs r
    cases m with
    | sl => exact r
    | li => simp only [RR] at r ⊢; obtain ⟨u, us, e, r1, r2⟩ := r; exact ⟨u, us, e, iha r1, ihb r2⟩
    | ce t => simp only [RR] at r ⊢; obtain ⟨ta, tb, c1, c2, e1, e2, r1, r2⟩ := r; exact ⟨ta, tb, c1, c2, e1, e2, iha r1, ihb r2⟩
  | agg t r ih => intro m cs r; simp only [RR] at r ⊢; obtain ⟨h1, h2, c, e, r⟩ := r; exact ⟨h1, h2, c, e, ih r⟩
  | tup r ih => intro m cs r; simp only [RR] at r ⊢; obtain ⟨h1, us, e, r⟩ := r; exact ⟨h1, us, e, ih r⟩
  | mp id => intro m cs r; simpa only [RR] using r
  | yl id => intro m cs r; simpa only [RR] using r

/-! ### The blocks of a pattern -/
theorem mkL_lk : ∀ {n : Nat} {bs : List Bt} {d : BtsD bs} {j : Nat} {ob : Ob}, lk j (mkL n bs d) = some ob → n ≤ j ∧ j < n + bs.length ∧ (mkL n bs d)[j - n]? = some (j, ob) ∧ ∃ (b : Bt) (x : b.D), b ∈ bs ∧ ob = mkB b x
  | _, [], _, _, _, h => by simp [mkL, lk] at h
  | n, b :: bs, d, j, ob, h => by
    simp only [mkL, lk_cons] at h
    split at h
    · rename_i e
      subst e
      cases h
      exact ⟨Nat.le_refl _, by simp, by simp [mkL], b, d.1, by simp, rfl⟩
    · obtain ⟨h1, h2, h3, b', x, h4, h5⟩ := mkL_lk h
      refine ⟨by omega, by simp; omega, ?_, b', x, by simp [h4], h5⟩
      rw [show j - n = (j - (n + 1)) + 1 by omega]
      simpa [mkL] using h3
theorem mkL_some : ∀ {n : Nat} {bs : List Bt} {d : BtsD bs} {j : Nat}, n ≤ j → j < n + bs.length → ∃ ob, lk j (mkL n bs d) = some ob
  | _, [], _, _, h1, h2 => by simp at h2; omega
  | n, b :: bs, d, j, h1, h2 => by
    simp only [mkL, lk_cons]
    split
    · exact ⟨_, rfl⟩
    · exact mkL_some (by omega) (by simp at h2; omega)
theorem mkL_ne : ∀ {n : Nat} {bs : List Bt} {d : BtsD bs} {j : Nat} {t : Ty} {xs : List t.den}, rowsNe bs d = true → lk j (mkL n bs d) = some (.row t xs) → 1 ≤ xs.length
  | _, [], _, _, _, _, _, h => by simp [mkL, lk] at h
  | n, b :: bs, d, j, t, xs, hr, h => by
    simp only [mkL, lk_cons] at h
    split at h
    · cases b with
      | row t' =>
        cases h
        simp only [rowsNe, Bool.and_eq_true] at hr
        exact Nat.le_of_ble_eq_true hr.1
      | _ => cases h
    · cases b with
      | row t' => simp only [rowsNe, Bool.and_eq_true] at hr; exact mkL_ne hr.2 h
      | _ => exact mkL_ne (bs := bs) (d := d.2) hr h
theorem rowX_wob {b0 : Nat → Prop} {t : Ty} {xs : List t.den} {v : Value} (h : RowX b0 M w t xs v) (hn : 1 ≤ xs.length) : ∃ b, wob v = some b := by
  obtain ⟨a, cap, row, rfl, h1, h2, h3, _⟩ := h
  cases a with
  | none => have := h3 rfl; omega
  | some a => exact ⟨a.block, by simp [wob]; omega⟩
theorem rowX_own {b0 b0' : Nat → Prop} {t : Ty} {xs : List t.den} {v : Value} (h : RowX b0 M w t xs v) (hb : ∀ b, wob v = some b → b0' b) : RowX b0' M w t xs v := by
  obtain ⟨a, cap, row, rfl, h1, h2, h3, h4, h5⟩ := h
  refine ⟨a, cap, row, rfl, h1, h2, h3, h4, fun a0 ha hc => ?_⟩
  obtain ⟨b, cur, T, e, _, g⟩ := h5 a0 ha hc
  exact ⟨b, cur, T, e, hb b (by rw [ha, e]; simp [wob]; omega), g⟩
theorem rowX_len {b0 b0' : Nat → Prop} {M' : Own} {w' : World} {t t' : Ty} {xs : List t.den} {ys : List t'.den} {v : Value} (h : RowX b0 M w t xs v) (h' : RowX b0' M' w' t' ys v) : xs.length = ys.length := by
  obtain ⟨a, cap, row, e, _⟩ := h
  obtain ⟨a', cap', row', e', _⟩ := h'
  rw [e] at e'
  simp only [Value.slice.injEq] at e'
  exact e'.2.1
theorem mkB_noLp {b : Bt} {x : b.D} {c : RV} {q : LQ} : mkB b x ≠ .lp c q := by cases b <;> intro h <;> cases h
theorem mkB_noAny {b : Bt} {x : b.D} {t : Ty} {con : RV} (hb : noAnyB b = true) (h : mkB b x = .var t con) : noAny con = true := by
  cases b with
  | var t' p =>
    cases h
    cases p with
    | hole t => rfl
    | fix r => exact hb
    | ag _ _ => simp [noAnyB] at hb
    | pr _ _ => simp [noAnyB] at hb
  | mp => cases h
  | row => cases h

theorem wOb_shape : ∀ {n : Nat} {bs : List Bt} {d : BtsD bs} {w : Nat} {z : wD bs w} {ob : Ob}, lk (n + w) (mkL n bs d) = some ob → (∀ t xs xs', wOb bs w z = .row t xs → ob = .row t xs' → List.length xs = List.length xs') → (wOb bs w z).shape = ob.shape
  | _, [], _, _, z, _, _, _ => nomatch z
  | n, b :: bs, d, 0, z, ob, h, hl => by
    simp [mkL, lk_cons] at h
    subst h
    cases b with
    | row t =>
      have := hl t z d.1 rfl rfl
      simp only [wOb, mkB, Ob.shape, this]
    | _ => rfl
  | n, b :: bs, d, w + 1, z, ob, h, hl => by
    simp only [mkL, lk_cons] at h
    rw [if_neg (by omega), show n + (w + 1) = (n + 1) + w by omega] at h
    exact wOb_shape (w := w) (z := z) h hl
theorem wOb_lt : ∀ {bs : List Bt} {w : Nat} (_ : wD bs w), w < bs.length
  | [], _, z => nomatch z
  | _ :: _, 0, _ => by simp
  | _ :: bs, w + 1, z => by have := wOb_lt (bs := bs) (w := w) z; simp; omega

theorem wOb_ok {b0 b0' : Nat → Prop} {L L' : List (Nat × Ob)} {id' : Nat} : ∀ {bs : List Bt} {n : Nat} {z : wD bs n}, flatAt bs n = true → ObOk b0 M w β τ L id (wOb bs n z) → β' id' = β id → b0' (β' id') → (∀ t xs, wOb bs n z = .row t xs → τ' id' = τ id) → ObOk b0' M w β' τ' L' id' (wOb bs n z)
  | [], _, z, _, _, _, _, _ => nomatch z
  | b :: _, 0, z, hf, h, he, hb, ht => by
    simp only [wOb] at h ⊢
    cases b with
    | var t p =>
      cases p with
      | hole t' =>
        obtain ⟨_, ⟨cs, T, h1, h2⟩, h3⟩ := h
        exact ⟨hb, ⟨cs, T, by rw [he]; exact h1, h2⟩, by rw [he]; exact h3⟩
      | fix r => simp [flatAt, flatB] at hf
      | ag _ _ => simp [flatAt, flatB] at hf
      | pr _ _ => simp [flatAt, flatB] at hf
    | mp kt vt =>
      obtain ⟨_, ⟨arr, clock, h1, h2⟩, h3⟩ := h
      exact ⟨hb, ⟨arr, clock, by rw [he]; exact h1, h2⟩, by rw [he]; exact h3⟩
    | row t =>
      obtain ⟨h1, h2⟩ := h
      have ht := ht t z rfl
      exact ⟨by rw [ht]; exact rowX_own h1 fun b hb' => by rw [h2 b hb', ← he]; exact hb, fun b hb' => by rw [he]; exact h2 b (by rw [← ht]; exact hb')⟩
  | _ :: bs, n + 1, z, hf, h, he, hb, ht => wOb_ok (bs := bs) (n := n) (z := z) hf h he hb ht

theorem lk_mapK {α γ : Type} (g : Nat → α → γ) (i : Nat) : ∀ (s : List (Nat × α)), lk i (s.map fun p => (p.1, g p.1 p.2)) = (lk i s).map (g i)
  | [] => rfl
  | p :: s => by
    simp only [List.map_cons, lk_cons]
    split
    · rename_i e
      subst e
      rw [lk_cons, if_pos rfl]
      rfl
    · rename_i e
      rw [lk_cons, if_neg e]
      exact lk_mapK g i s

/-- the frame that holds the blocks of the callers that are named -/
def witV (β : Nat → Nat) (τ : Nat → Value) (p : Nat × Ob) : Value := match p.2 with
  | .row _ _ => τ p.1
  | .mp _ _ _ => .map (some (β p.1))
  | _ => .pointer (some ⟨β p.1, 0, none⟩)
def witA (β : Nat → Nat) (τ : Nat → Value) (l : List (Nat × Ob)) : Act := { tmps := (l.map (witV β τ)).toArray, defers := [] }

theorem offS_var {t : Ty} {con : RV} : offS (Ob.var t con).shape [] = some (0, t) := by
  simp only [Ob.shape, offS]
  cases t <;> rfl

/-- what is left alone by one that is called -/
def bsCall (M0 : Bs) (M : Own) (w : World) (β : Nat → Nat) (n : Nat) : Bs := { M := M0.M, M1 := M, w1 := w, kp := fun b => b < w.heap.size ∧ ∀ j, j < n → b ≠ β j }

theorem start_sm (s : Sm w0 M0 N M β τ st a as w) {c : RecC} {x : PtsD c.fp} {y : BtsD c.bp} {us : List Value} {m : Nat} (hl : st.l = mkL 0 c.bp y) (hr : Rel2 M w β τ st.l (mkPs c.fp x) us) (hm : us.length ≤ m) :
    Sm w0 (bsCall M0 M w β c.bp.length) m M β τ (startR c x y) (enterAct us m) [witA β τ (mkL 0 c.bp y)] w where
  df := dfOk_nil fun _ h => h.elim
  sz := by simp [enterAct]; omega
  bel := s.bel
  mlt := s.mlt
  mex := s.mex
  gk := s.gk
  gx := Ext.refl M w
  kp := fun b h => ⟨⟨rfl, h.1⟩, fun _ m => m⟩
  mnew := s.mnew
  fr := fun i rv h => by
    obtain ⟨_, h1⟩ := slots_at 0 (mkPs c.fp x) rv h
    obtain ⟨u, hu, r⟩ := rel2_at hr (by simpa using h1)
    exact ⟨u, enter_at (by simpa using hu), by simp only [startR]; rw [← hl]; exact r⟩
  fs := by
    refine ⟨fun i rv h => ?_, trivial⟩
    simp only [witL] at h
    rw [lk_mapK] at h
    cases hi : lk i (mkL 0 c.bp y) with
    | none => rw [hi] at h; cases h
    | some ob =>
      rw [hi] at h
      cases h
      obtain ⟨_, _, h3, b, d, _, rfl⟩ := mkL_lk hi
      refine ⟨witV β τ (i, mkB b d), by simpa [witA] using congrArg (Option.map (witV β τ)) h3, ?_⟩
      simp only [startR]
      cases b with
      | var t p => exact loc_sl hi offS_var
      | mp kt vt => simp only [nameR, mkB, RR]; exact ⟨rfl, _, kt, vt, d, rfl, rfl, hi, rfl⟩
      | row t =>
        simp only [nameR, mkB, RR]
        obtain ⟨⟨a, cap, row, e, _⟩, _⟩ := s.ob i _ (by rw [hl]; exact hi)
        exact ⟨rfl, _, t, d, rfl, by simp only [witV, e]; rfl, hi, rfl⟩
  ob := fun id ob h => by
    simp only [startR] at h ⊢
    have hob := s.ob id ob (by rw [hl]; exact h)
    obtain ⟨_, h2, _, b, d, _, rfl⟩ := mkL_lk h
    have hn : ∀ b, ownB w0 M0 b → b = β id → ownB w0 (bsCall M0 M w β c.bp.length) b := fun b h1 h3 => ⟨h1.1, fun h4 => h4.2 id (by simpa using h2) h3⟩
    cases b with
    | var t p =>
      obtain ⟨h4, h5, h6⟩ := hob
      exact ⟨hn _ h4 rfl, by rw [hl] at h5; exact h5, h6⟩
    | mp kt vt =>
      obtain ⟨h4, h5, h6⟩ := hob
      exact ⟨hn _ h4 rfl, h5, h6⟩
    | row t =>
      obtain ⟨h4, h5⟩ := hob
      refine ⟨?_, h5⟩
      obtain ⟨a, cap, row, e, g1, g2, g3, g4, g6⟩ := h4
      refine ⟨a, cap, row, e, g1, g2, g3, g4, fun a0 ha hc => ?_⟩
      obtain ⟨b, cur, T, e', k1, k2⟩ := g6 a0 ha hc
      exact ⟨b, cur, T, e', hn b k1 (h5 b (by rw [e, ha, e']; simp [wob]; omega)), k2⟩
  dj := fun i j ob ob' b h1 h2 => s.dj i j ob ob' b (by rw [hl]; exact h1) (by rw [hl]; exact h2)

theorem rel2_map {f : Nat → Option Nat} {L L' : List (Nat × Ob)} (h : MapOk f L β τ L' β' τ') : ∀ {rvs : List RV} {us : List Value}, Rel2 M w β τ L rvs us → Rel2 M w β' τ' L' (rvs.map (mapR f)) us
  | [], [], _ => trivial
  | _ :: _, _ :: _, r => ⟨RR.map h r.1, rel2_map h r.2⟩
  | [], _ :: _, r => r.elim
  | _ :: _, [], r => r.elim

theorem mkPs_len : ∀ {ps : List Pt} {x : PtsD ps}, (mkPs ps x).length = ps.length
  | [], _ => rfl
  | _ :: ps, x => by simp [mkPs, mkPs_len (ps := ps)]

theorem valsR_ok {b0 : Nat} {L : List (Nat × Ob)} : ∀ {rs : List Ty} {r : resDen rs} {us : List Value}, EachOk b0 M w rs [] r us → Rel2 M w β τ L (valsR rs r) us
  | [], _, us, h => by
    simp only [EachOk] at h
    subst h
    trivial
  | [t], r, us, h => by
    obtain ⟨u, rfl, h⟩ := h
    exact ⟨⟨u, rfl, oneOk_frozen h rfl⟩, trivial⟩
  | t :: t' :: ts, r, us, h => by
    obtain ⟨u, us', rfl, h1, h2⟩ := h
    exact ⟨⟨u, rfl, oneOk_frozen h1 rfl⟩, valsR_ok (rs := t' :: ts) h2⟩

theorem recK_inv {c : RecC} {args : Array Operand} {ts : Array TypeId} {caps : RV} {α : Type} {k : Nat → Ob → RV → Option α} {q : α} (h : recK E c args ts caps st k = some q) :
    args.size = ts.size ∧ recB c = true ∧ ∃ cs x y z r id, listP caps = some cs ∧
      abPs c.fp ((((args.toList.zip ts.toList).map fun p => evR (lk p.2 E.tab) p.1 st.s) ++ cs).map (mapR fun id => idxN id (idsOf st.l (((args.toList.zip ts.toList).map fun p => evR (lk p.2 E.tab) p.1 st.s) ++ cs)) 0)) = some x ∧
      abL 0 c.bp (renL (fun id => idxN id (idsOf st.l (((args.toList.zip ts.toList).map fun p => evR (lk p.2 E.tab) p.1 st.s) ++ cs)) 0) st.l (idsOf st.l (((args.toList.zip ts.toList).map fun p => evR (lk p.2 E.tab) p.1 st.s) ++ cs)) 0) = some y ∧ rowsNe c.bp y = true ∧
      c.F x y = some (z, r) ∧ (c.ro = true → eqW c.bp c.w y z = true) ∧ (idsOf st.l (((args.toList.zip ts.toList).map fun p => evR (lk p.2 E.tab) p.1 st.s) ++ cs))[c.w]? = some id ∧ k id (wOb c.bp c.w z) (resRV (valsR c.rs r)) = some q := by
  unfold recK at h
  obtain ⟨h1, h⟩ := bif_some h
  simp only [Bool.and_eq_true] at h1
  obtain ⟨cs, h2, h⟩ := Option.bind_eq_some_iff.1 h
  unfold recE at h
  obtain ⟨x, h3, h⟩ := Option.bind_eq_some_iff.1 h
  obtain ⟨y, h4, h⟩ := Option.bind_eq_some_iff.1 h
  obtain ⟨hne, h⟩ := bif_some h
  obtain ⟨⟨z, r⟩, h5, h⟩ := Option.bind_eq_some_iff.1 h
  obtain ⟨hro, h⟩ := bif_some h
  obtain ⟨id, h6, h⟩ := Option.bind_eq_some_iff.1 h
  rw [nthL_eq] at h6
  exact ⟨Nat.eq_of_beq_eq_true h1.1, h1.2, cs, x, y, z, r, id, h2, h3, h4, hne, h5, fun e => by simpa [e] using hro, h6, h⟩

theorem recK_pc {c : RecC} {args : Array Operand} {ts : Array TypeId} {caps : RV} : PC (fun β (k : Nat × Ob × RV → Option β) => recK E c args ts caps st fun id ob rv => k (id, ob, rv)) := by
  unfold recK recE
  exact PC.bif (PC.bind fun cs => PC.bind (X := Nat × Ob × RV) fun x => PC.bind (X := Nat × Ob × RV) fun y => PC.bif (PC.bind (X := Nat × Ob × RV) fun r => PC.bif (PC.bind fun id => PC.ret _) PC.none) PC.none) PC.none

/-- a call of one that calls itself -/
theorem rec_sound (hE : Env2Ok P E) (s : Sm w0 M0 N M β τ st a as w) {f : Operand} {args : Array Operand} {ts : Array TypeId} {g : FuncId} {caps : RV} {c : RecC} (hop : o.op = .call { callee := .value f, args := args, argTypes := ts })
    (hf : evR none f st.s = .clo g caps) (hc : lk g E.rcs = some c) {id : Nat} {ob : Ob} {rv : RV} (h : recK E c args ts caps st (fun id ob rv => some (id, ob, rv)) = some (id, ob, rv)) (K : Act → World → Prop)
    (hK : ∀ M' v w', Sm w0 M0 N M' β τ (setOb id ob st) a as w' → RR M' w' β τ (setOb id ob st).l rv .sl [v] → K (a.put o.dst v) w') : ((lk id st.l).isSome = true ∧ (c.ro = true → lk id st.l = some ob)) ∧ o.wp P a w K Q := by
  obtain ⟨hsz, hB, cs, x, y, z, r, id', hcs, hx, hy, hne, hF, hro, hid, e⟩ := recK_inv h
  simp only [Option.some.injEq, Prod.mk.injEq] at e
  obtain ⟨e1, rfl, rfl⟩ := e
  subst e1
  generalize hrv : ((args.toList.zip ts.toList).map fun p => evR (lk p.2 E.tab) p.1 st.s) ++ cs = rvs at hx hy hid
  generalize hids : idsOf st.l rvs = ids at hx hy hid
  have hfv := evR_ok s.glob s.fr none f
  rw [hf] at hfv
  simp only [RR] at hfv
  obtain ⟨_, us, e, hcap⟩ := hfv
  simp only [List.cons.injEq, and_true] at e
  have hrel : Rel2 M w β τ st.l rvs (args.toList.map a.eval ++ us) := by
    rw [← hrv]
    exact rel2_append (args_rel s (by simpa using hsz)) (listP_ok hcs hcap)
  have s1 := s.ren ids
  have hL : (renSt ids st).l = mkL 0 c.bp y := abL_ok hy
  have hm : MapOk (fun id => idxN id ids 0) st.l β τ (renSt ids st).l (fun j => β ((ids[j]?).getD 0)) (fun j => τ ((ids[j]?).getD 0)) := by
    intro i j ob hf hl
    obtain ⟨_, h⟩ := idxN_some hf
    simp only [Nat.sub_zero] at h
    exact ⟨_, renL_has ids 0 j i ob (Nat.zero_le _) (by simpa using h) hf hl, mapOb_shape _ _, by simp [h], by simp [h]⟩
  have hrel1 := rel2_map hm hrel
  rw [abPs_ok hx] at hrel1
  have hrec := hE.rcs g c hc
  have hrun : (execOp a.eval o).run P w = .ok (.enter g (args.toList.map a.eval ++ us).toArray) w := by
    simp only [execOp, hop, resolve, e, Deferred.ofValue, Sem.run_bind, Sem.run_pure, Result.andThen_ok, invoke]
    rw [show (#[] ++ Array.map a.eval args ++ us.toArray) = (args.toList.map a.eval ++ us).toArray by simp [← Array.toList_map]]
    exact hrec.enters _ w
  have hw := wOb_lt z
  -- the blocks by their names here
  have named : ∀ j ob', lk j (mkL 0 c.bp y) = some ob' → ∃ i ob0, ids[j]? = some i ∧ idxN i ids 0 = some j ∧ lk i st.l = some ob0 ∧ ob' = mapOb (fun id => idxN id ids 0) ob0 := by
    intro j ob' h
    rw [← hL] at h
    obtain ⟨_, i, ob0, h1, h2⟩ := renL_lk ids 0 j ob' h
    exact ⟨i, ob0, by simpa using h1, h2⟩
  obtain ⟨obw, hobw⟩ := mkL_some (n := 0) (d := y) (Nat.zero_le c.w) (by simpa using hw)
  obtain ⟨iw, ob0, g1, g2, g3, g4⟩ := named c.w obw hobw
  obtain rfl : iw = id' := Option.some.inj (g1.symm.trans hid)
  refine ⟨⟨by rw [g3]; rfl, fun e => ?_⟩, ?_⟩
  · obtain ⟨k1, t, xs, k2⟩ := eqW_ok (n := 0) (hro e)
    rw [Nat.zero_add, hobw, g4] at k1
    have k3 := Option.some.inj k1
    rw [k2] at k3 ⊢
    rw [g3]
    cases ob0 <;> simp only [mapOb, reduceCtorEq] at k3
    rw [k3]
  unfold Oper.wp
  rw [hrun, Oper.upon_enter]
  refine (hrec.calls w0 _ M _ _ _ w _ x y z r hne ((rel2_len hrel1).symm.trans mkPs_len) (fun m hm => start_sm s1 hL hrel1 hm) hF).mono ?_
  rintro e w' ⟨us', M', β2, τ2, N', a', rfl, s2, ⟨hβ, hτ⟩, hres⟩
  have hL2 : ∀ j, lk j (setA c.w (wOb c.bp c.w z) (mkL 0 c.bp y)) = if j = c.w then some (wOb c.bp c.w z) else lk j (mkL 0 c.bp y) := fun j => by
    rw [lk_setA, hobw]
    rfl
  have hLt : ∀ j ob', lk j (setA c.w (wOb c.bp c.w z) (mkL 0 c.bp y)) = some ob' → j < c.bp.length := by
    intro j ob' h
    rw [hL2] at h
    split at h
    · rename_i e; rw [e]; exact hw
    · simpa using (mkL_lk h).2.1
  have hshw0 : (wOb c.bp c.w z).shape = obw.shape := wOb_shape (n := 0) (d := y) (by rw [Nat.zero_add]; exact hobw) fun t xs xs' e1 e2 => by
    have k1 := (s2.ob c.w (.row t xs) (by rw [hL2, if_pos rfl, e1])).1
    have k2 := (s1.ob c.w (.row t xs') (by rw [hL, hobw, e2])).1
    rw [hτ c.w t xs' (by rw [hobw, e2])] at k1
    exact rowX_len k1 k2
  have hshw : (wOb c.bp c.w z).shape = ob0.shape := by
    rw [hshw0, g4, mapOb_shape]
  have hblk : ∀ i o' j, lk i st.l = some o' → ids[j]? = some i → lk j (mkL 0 c.bp y) = some (mapOb (fun id => idxN id ids 0) o') → blk β τ i o' = some (β i) := by
    intro i o' j hl hi h1
    cases o' with
    | var t c => rfl
    | mp kt vt es => rfl
    | lp c q => rfl
    | row t xs =>
      obtain ⟨k1, k2⟩ := s.ob i _ hl
      obtain ⟨b, hb⟩ := rowX_wob k1 (mkL_ne hne h1)
      simp only [blk]
      rw [hb, k2 b hb]
  have hkpn : ∀ (i : Nat) (ob' : Ob) (b : Nat), lk i st.l = some ob' → blk β τ i ob' = some b → (∀ j, j < c.bp.length → ids[j]? ≠ some i) → (bsCall M0 M w (fun j => β ((ids[j]?).getD 0)) c.bp.length).kp b := by
    intro i ob' b hl hb hn
    refine ⟨(s.block hl hb).1, fun j hj hbj => ?_⟩
    obtain ⟨ob1, h1⟩ := mkL_some (n := 0) (d := y) (Nat.zero_le j) (by simpa using hj)
    obtain ⟨i2, ob2, k1, k2, k3, k4⟩ := named j ob1 h1
    obtain ⟨_, _, _, b', x', _, h5⟩ := mkL_lk h1
    have hb2 : blk β τ i2 ob2 = some b := by
      rw [hbj]
      simp only [k1, Option.getD_some]
      exact hblk i2 ob2 j k3 k1 (by rw [h1, k4])
    have := s.dj i i2 ob' ob2 b hl k3 hb hb2
    subst this
    exact hn j hj k1
  have hkp2 : ∀ b, (bsCall M0 M w (fun j => β ((ids[j]?).getD 0)) c.bp.length).kp b → w'.heap[b]? = w.heap[b]? ∧ ∀ o, M' b o → M b o := fun b h => ⟨(s2.kp b h).1.1, (s2.kp b h).2⟩
  have hlk' : ∀ j, lk j (setOb iw (wOb c.bp c.w z) st).l = if j = iw then some (wOb c.bp c.w z) else lk j st.l := fun j => by
    simp only [setOb]
    rw [lk_setA, g3]
    rfl
  have hm2 : MapOk some st.l β τ (setOb iw (wOb c.bp c.w z) st).l β τ := by
    intro i j o' hf' hi
    cases hf'
    by_cases h : i = iw
    · subst h
      obtain rfl := Option.some.inj (hi.symm.trans g3)
      exact ⟨_, by rw [hlk', if_pos rfl], hshw, rfl, rfl⟩
    · exact ⟨o', by rw [hlk', if_neg h]; exact hi, rfl, rfl, rfl⟩
  -- names there and names here
  have hback : MapOk (fun j => ids[j]?) (setA c.w (wOb c.bp c.w z) (mkL 0 c.bp y)) β2 (fun j => τ ((ids[j]?).getD 0)) (setOb iw (wOb c.bp c.w z) st).l β τ := by
    intro j i ob' hf' hl'
    have hf' : ids[j]? = some i := hf'
    have hj := hLt j ob' hl'
    rw [hL2] at hl'
    by_cases hjw : j = c.w
    · rw [if_pos hjw] at hl'
      cases hl'
      have : i = iw := by rw [hjw] at hf'; exact Option.some.inj (hf'.symm.trans g1)
      subst this
      exact ⟨_, by rw [hlk', if_pos rfl], rfl, by rw [hβ j hj]; simp [hf'], by simp [hf']⟩
    · rw [if_neg hjw] at hl'
      obtain ⟨i', o0, k1, k2, k3, k4⟩ := named j ob' hl'
      obtain rfl := Option.some.inj (hf'.symm.trans k1)
      have hne : i ≠ iw := fun e => by
        subst e
        exact hjw (Option.some.inj (k2.symm.trans g2))
      exact ⟨o0, by rw [hlk', if_neg hne]; exact k3, by rw [k4, mapOb_shape], by rw [hβ j hj]; simp [hf'], by simp [hf']⟩
  have htau : ∀ (j : Nat) (t : Ty) (xs : List t.den), lk j (setA c.w (wOb c.bp c.w z) (mkL 0 c.bp y)) = some (.row t xs) → τ ((ids[j]?).getD 0) = τ2 j := by
    intro j t xs h
    rw [hL2] at h
    split at h
    · rename_i e
      subst e
      rw [Option.some.inj h] at hshw0
      obtain ⟨ys, e, _⟩ := shape_row hshw0.symm
      exact (hτ c.w t ys (by rw [hobw, e])).symm
    · exact (hτ j t xs h).symm
  have hbk : ∀ i o' j, lk i st.l = some o' → j < c.bp.length → ids[j]? = some i → blk β τ i o' = some (β i) ∧ lk j (mkL 0 c.bp y) = some (mapOb (fun id => idxN id ids 0) o') ∧ ∀ t con, o' = .var t con → noAny (mapR (fun id => idxN id ids 0) con) = true := by
    intro i o' j hl hj hi
    obtain ⟨ob1, h1⟩ := mkL_some (n := 0) (d := y) (Nat.zero_le j) (by simpa using hj)
    obtain ⟨i2, ob2, k1, k2, k3, k4⟩ := named j ob1 h1
    obtain rfl := Option.some.inj (hi.symm.trans k1)
    obtain rfl := Option.some.inj (hl.symm.trans k3)
    obtain ⟨_, _, _, b', x', hb', h5⟩ := mkL_lk h1
    rw [k4] at h5
    refine ⟨?_, by rw [h1, k4], ?_⟩
    · exact hblk i o' j hl hi (by rw [h1, k4])
    · rintro t con rfl
      have hall : c.bp.all noAnyB = true := by
        simp only [recB, Bool.and_eq_true] at hB
        exact hB.1
      exact mkB_noAny (List.all_eq_true.1 hall b' hb') h5.symm
  obtain ⟨hbw, _, _⟩ := hbk iw ob0 c.w g3 hw g1
  have hflat : flatAt c.bp c.w = true := by
    simp only [recB, Bool.and_eq_true] at hB
    exact hB.2
  refine hK M' _ w' (s.gen (f := some) s2.gx s2.bel s2.mlt s2.mnew (fun b hb => hkp2 b ⟨(s.kp b hb).1.2, fun j hj e => ?_⟩) hm2 (mapSl_some _).symm (mapKs_some _).symm ?_ ?_) (resRV_ok (valsR_ok hres))
  · obtain ⟨ob1, h1⟩ := mkL_some (n := 0) (d := y) (Nat.zero_le j) (by simpa using hj)
    obtain ⟨i2, ob2, k1, k2, k3, k4⟩ := named j ob1 h1
    obtain ⟨h2, _, _⟩ := hbk i2 ob2 j k3 hj k1
    have h3 := (s.block k3 h2).2.1
    simp only [k1, Option.getD_some] at e
    rw [← e] at h3
    exact h3.2 hb
  · intro i o' h
    rw [hlk'] at h
    by_cases hi : i = iw
    · rw [if_pos hi] at h
      cases h
      subst hi
      have h1 := s2.ob c.w _ (by rw [hL2, if_pos rfl])
      refine wOb_ok hflat h1 ?_ (s.block g3 hbw).2.1 fun t xs e => ?_
      · rw [hβ c.w hw]
        simp [g1]
      · have := htau c.w t xs (by rw [hL2, if_pos rfl, e])
        rw [← this]
        simp [g1]
    · rw [if_neg hi] at h
      by_cases hn : ∃ j, j < c.bp.length ∧ ids[j]? = some i
      · obtain ⟨j, hj, hji⟩ := hn
        obtain ⟨k1, k2, k3⟩ := hbk i o' j h hj hji
        have hjw : j ≠ c.w := fun e => by
          subst e
          exact hi (Option.some.inj (hji.symm.trans g1))
        have h1 := s2.ob j _ (by rw [hL2, if_neg hjw]; exact k2)
        have hβj : β2 j = β i := by rw [hβ j hj]; simp [hji]
        have hown := (s.block h k1).2.1
        cases o' with
        | row t xs =>
          obtain ⟨h3, h4⟩ := h1
          have h6 : τ i = τ2 j := by
            rw [← htau j t xs (by rw [hL2, if_neg hjw]; exact k2)]
            simp [hji]
          exact ⟨by rw [h6]; exact rowX_own h3 fun b hb => by rw [h4 b hb, hβj]; exact hown, fun b hb => by rw [← hβj]; exact h4 b (by rw [← h6]; exact hb)⟩
        | mp kt vt es =>
          obtain ⟨_, h3, h4⟩ := h1
          rw [hβj] at h3 h4
          exact ⟨hown, h3, h4⟩
        | lp c q =>
          obtain ⟨_, _, _, b', x', _, h5⟩ := mkL_lk k2
          exact absurd h5.symm mkB_noLp
        | var t con =>
          obtain ⟨_, ⟨cs, T, h2, h3⟩, h4⟩ := h1
          rw [hβj] at h2 h4
          refine ⟨hown, ⟨cs, T, h2, ?_⟩, h4⟩
          have h5 := RR.map hback (RR.tau (τ' := fun j => τ ((ids[j]?).getD 0)) (fun i t xs hr => htau i t xs hr) h3)
          rwa [mapR_back (fun i j hij => by
            obtain ⟨_, h⟩ := idxN_some hij
            simpa using h) con (k3 t con rfl)] at h5
      · have := ObOk.map (f := some) s2.gx hm2 rfl h (s.ob i o' h) fun b hb => hkp2 b (hkpn i o' b h hb fun j hj hji => hn ⟨j, hj, hji⟩)
        rwa [mapOb_some] at this
  · intro j j' o1 o1' b2 h h' hb1 hb2
    rw [hlk'] at h h'
    have fixd : ∀ {j o}, (if j = iw then some (wOb c.bp c.w z) else lk j st.l) = some o → blk β τ j o = some b2 → ∃ o0, lk j st.l = some o0 ∧ blk β τ j o0 = some b2 := by
      intro j o hh hb2
      by_cases hj : j = iw
      · rw [if_pos hj] at hh
        subst hj
        obtain rfl := Option.some.inj hh
        refine ⟨_, g3, ?_⟩
        rw [hbw, ← hb2]
        cases hz : wOb c.bp c.w z with
        | var t con => rfl
        | row t xs =>
          rw [hz] at hshw
          obtain ⟨ys, e, _⟩ := shape_row hshw.symm
          rw [e] at hbw
          exact hbw.symm
        | mp kt vt es => rfl
        | lp c q => rfl
      · rw [if_neg hj] at hh
        exact ⟨o, hh, hb2⟩
    obtain ⟨o0, k1, k2⟩ := fixd h hb1
    obtain ⟨o0', k1', k2'⟩ := fixd h' hb2
    exact s.dj j j' o0 o0' b2 k1 k1' k2 k2'

/-! ### Literals that take a slice of one's own -/
theorem Sm.killM (s : Sm w0 M0 N M β τ st a as w) {d : Nat} {ob0 : Ob} (hl : lk d st.l = some ob0) : Sm w0 M0 N (MAll M β τ [(d, ob0)]) β τ (killSt d st) a as w := by
  have inv : ∀ {b o}, MAll M β τ [(d, ob0)] b o → M b o ∨ blk β τ d ob0 = some b := by
    rintro b o (m | ⟨j, ob, h1, h2⟩)
    · exact .inl m
    · rw [lk_cons] at h1
      split at h1
      · rename_i e
        subst e
        cases h1
        exact .inr h2
      · simp [lk] at h1
  have hext : Ext M w (MAll M β τ [(d, ob0)]) w := ext_all
  refine s.gen (f := killF d) hext s.bel (fun b o m => (inv m).elim (s.mlt b o) fun h => (s.block hl h).1) (fun b o m => (inv m).elim (s.mnew b o) fun h => .inr (s.block hl h).2.1.1) (fun b hk => ⟨rfl, fun o m => (inv m).elim (fun h => h) fun h => ((s.block hl h).2.1.2 hk).elim⟩) (kill_map d) rfl rfl ?_ ?_
  · intro id ob h
    obtain ⟨hne, o, h1, rfl⟩ := kill_inv h
    exact ObOk.map hext (kill_map d) (killF_ne hne) h1 (s.ob id o h1) fun b hb => ⟨rfl, fun o' m => (inv m).elim (fun h => h) fun h => (hne (s.dj id d o ob0 b h1 hl hb h)).elim⟩
  · intro id id' ob ob' b h h' hb hb'
    obtain ⟨_, o, h1, rfl⟩ := kill_inv h
    obtain ⟨_, o', h1', rfl⟩ := kill_inv h'
    rw [blk_map] at hb hb'
    exact s.dj id id' o o' b h1 h1' hb hb'

theorem partsC_ok (s : Sm w0 M0 N M β τ st a as w) {d : Nat} {u : Ty} {xs : List u.den} (hl : lk d st.l = some (.row u xs)) {t : Ty} : ∀ {i : Nat} {ps : List (Nat × Operand)} {ys : List t.den}, partsC d u xs t st.s i ps = some ys →
    ∃ vs : List Value, ps.map (fun p => (p.1, a.eval p.2)) = (vs.zipIdx i).map (fun x => (x.2, x.1)) ∧ vs.length = ys.length ∧ (∀ v ∈ vs, v.cells.size = t.n) ∧ Seq (Rep (MAll M β τ [(d, .row u xs)]) w t) (vs.flatMap fun v => v.cells.toList) ys
  | i, [], ys, h => by simp [partsC] at h; subst h; exact ⟨[], by simp [Seq]⟩
  | i, (j, x) :: r, ys, h => by
    unfold partsC at h
    obtain ⟨hc, h0⟩ := bif_some h
    clear h
    have hij := Nat.eq_of_beq_eq_true hc
    subst hij
    have hx := evR_ok s.glob s.fr (some t) x
    obtain ⟨v, hv0, h0⟩ := Option.bind_eq_some_iff.1 h0
    obtain ⟨y, hy, h1⟩ := Option.bind_eq_some_iff.1 h0
    obtain ⟨ys', hys, h2⟩ := Option.bind_eq_some_iff.1 h1
    cases h2
    obtain rfl := TV.as_eq hy
    obtain ⟨vs, e1, e2, e3, e4⟩ := partsC_ok s hl hys
    have hm : MapOk (onlyF d) st.l β τ [(d, .row u xs)] β τ := by
      intro i j ob hf hi
      unfold onlyF at hf
      cases hb : Nat.beq i d with
      | false => rw [hb] at hf; cases hf
      | true =>
        rw [hb] at hf
        have := Nat.eq_of_beq_eq_true hb
        subst this
        cases hf
        obtain rfl := Option.some.inj (hi.symm.trans hl)
        exact ⟨_, by simp [lk_cons], rfl, rfl, rfl⟩
    have hob : ∀ id ob, lk id [(d, Ob.row u xs)] = some ob → ObOk (ownB w0 M0) M w β τ [(d, .row u xs)] id ob := by
      intro id ob h
      rw [lk_cons] at h
      split at h
      · rename_i e
        subst e
        cases h
        exact s.ob id _ hl
      · simp [lk] at h
    obtain ⟨cs, hv, hr⟩ := peekK_ok hob 6 hv0 (RR.map hm hx)
    have hcells : (a.eval x).cells = cs.toArray := by rw [hv]; exact toV_cells hr
    refine ⟨a.eval x :: vs, by simp [e1, List.zipIdx_cons], by simp [e2], ?_, ?_⟩
    · intro v hv'
      rcases List.mem_cons.1 hv' with rfl | hv'
      · rw [hcells]; simpa using hr.length
      · exact e3 v hv'
    · simp only [List.flatMap_cons]
      exact ⟨_, _, rfl, by rw [hcells]; exact hr, e4⟩

theorem buildC_pc {t : TypeId} {n : Nat} {parts : List (Nat × Operand)} : PC (fun β (k : ((e : Ty) × List e.den) → Option β) => buildC E t n parts id st fun e z => k ⟨e, z⟩) := by
  unfold buildC
  split
  · refine PC.bind (X := (e : Ty) × List e.den) fun ty => ?_
    split
    · exact PC.bind fun ys => PC.bif (PC.ret _) PC.none
    · exact PC.none
  · exact PC.none

theorem buildC_sound (hE : Env2Ok P E) (s : Sm w0 M0 N M β τ st a as w) (hd : ∀ d, o.dst = some d → d < N) (hid : lk id st.l = none) {T : TypeId} {n : Nat} {parts : Array (Nat × Operand)} (hop : o.op = .buildSlice T n parts) {old : Nat} {e : Ty} {ys : List e.den}
    (h : buildC E T n parts.toList old st (fun e z => some (⟨e, z⟩ : (e : Ty) × List e.den)) = some ⟨e, ys⟩) : Gives P Q w0 M0 N o a as w (killSt old st) id (.row id) (some (.row e ys)) := by
  unfold buildC at h
  split at h
  rotate_left
  · cases h
  rename_i u xs hl
  obtain ⟨ty, hty, h⟩ := Option.bind_eq_some_iff.1 h
  have hT := hE.tab _ _ hty
  have he : execOp a.eval o = (do pure (Next.value (← Instr.buildSlice T n (parts.map fun (i, x) => (i, a.eval x))))) := by simp only [execOp, hop]
  have hparts : (parts.map fun (i, x) => (i, a.eval x)).toList = parts.toList.map fun p => (p.1, a.eval p.2) := by simp
  cases ty with
  | slice e' =>
    simp only at h
    obtain ⟨ys', hys, h⟩ := Option.bind_eq_some_iff.1 h
    obtain ⟨hc, h⟩ := bif_some h
    cases h
    simp only [Bool.and_eq_true] at hc
    have hlen : List.length ys = n := Nat.eq_of_beq_eq_true hc.1
    have hn := Nat.le_of_ble_eq_true hc.2.1
    obtain ⟨e', hu, hl'⟩ := hT.slice
    obtain ⟨ie, hie, hes, hez, _⟩ := (hE.tab _ _ hl').info
    obtain ⟨vs, e1, e2, e3, e4⟩ := partsC_ok s hl hys
    have e2' : vs.length = n := by rw [e2]; exact hlen
    have hpos := Nat.le_of_ble_eq_true hc.2.2.1
    have hsm := Nat.le_of_ble_eq_true hc.2.2.2
    have key : ∃ cells : Array Value, (Instr.buildSlice T n (parts.map fun (i, x) => (i, a.eval x))).run P w = .ok (.slice (some ⟨w.heap.size, 0, none⟩) n n) (w.alloc (.cells cells e')) ∧ cells.toList = vs.flatMap fun v => v.cells.toList := by
      by_cases hp : n * ie.size = 0
      · have hn0 : n = 0 := by
          rw [hes] at hp
          rcases Nat.mul_eq_zero.1 hp with h | h <;> omega
        have hvs : vs = [] := List.eq_nil_of_length_eq_zero (by rw [e2', hn0])
        subst hvs
        have hpz : parts = #[] := by
          have : parts.toList = [] := by simpa using e1
          exact Array.toList_eq_nil_iff.1 this
        subst hpz hn0
        exact ⟨(Array.range 0).map fun _ => default, by simp [Instr.buildSlice, run_underlying hu, sizeOf, typeInfo, hie, newRow, Instr.fill], by simp⟩
      · have hfill := Great.fill_whole (s := ie.size) (by omega) vs ((Array.range (n * ie.size)).map ((toV e (zeroCells e)).cells[· % (toV e (zeroCells e)).cells.size]!)) (by rw [hes]; exact e3) (by simp [e2'])
        exact ⟨_, run_buildSlice w T e' n _ _ ie _ hu hie hez (by rw [hes]; omega) hp (by rw [hparts, e1]; exact hfill), by simp⟩
    obtain ⟨cells, hrun, hcells⟩ := key
    have hrl : (vs.flatMap fun v => v.cells.toList).length = n * e.n := by rw [e4.length (fun _ _ r => r.length), hlen]
    have s' := s.killM hl
    refine gives_row (M' := MAll M β τ [(old, .row u xs)]) s' hd (by rw [kill_lk]; split; rfl; rw [hid]; rfl) (gr_new s' _) ?_ (exec_v he hrun)
    have := rowX_new (T := e') (cap := n) s'.mlt (cells := cells) (by omega) (by simp only [maxLen]; omega) (by rw [← Array.length_toList, hcells, hrl]) e4 (fun i hi => by rw [← hcells]; simp)
    rw [hlen] at this
    exact this
  | _ => simp at h
/-! ### A slice of one's own is given away and comes back -/
theorem RowX.mono {b0 b1 : Nat → Prop} {t : Ty} {xs : List t.den} {v : Value} (h : RowX b0 M w t xs v) (hb : ∀ b, wob v = some b → b0 b → b1 b) : RowX b1 M w t xs v := by
  obtain ⟨a, cap, row, rfl, h1, h2, h3, h4, h5⟩ := h
  refine ⟨a, cap, row, rfl, h1, h2, h3, h4, fun a0 ha hc => ?_⟩
  obtain ⟨b, cur, T, rfl, g1, g2⟩ := h5 a0 ha hc
  subst ha
  exact ⟨b, cur, T, rfl, hb b (by simp [wob]; omega) g1, g2⟩
theorem RowX.wob {b0 : Nat → Prop} {t : Ty} {xs : List t.den} {v : Value} (h : RowX b0 M w t xs v) {b : Nat} (hb : wob v = some b) : b0 b := by
  obtain ⟨a, cap, row, rfl, h1, h2, h3, h4, h5⟩ := h
  cases a with
  | none => simp [Go.Lift.wob] at hb
  | some a0 =>
    by_cases hc : cap = 0
    · simp [Go.Lift.wob, hc] at hb
    · obtain ⟨b', cur, T, e, g1, g2⟩ := h5 a0 rfl (by omega)
      subst e
      simp [Go.Lift.wob, hc] at hb
      subst hb
      exact g1

theorem rel2_holes {L L' : List (Nat × Ob)} : ∀ {ps : List Pt} {x : PtsD ps} {us : List Value}, ps.all isHole = true → Rel2 M w β τ L (mkPs ps x) us → Rel2 M w β' τ' L' (mkPs ps x) us
  | [], _, [], _, _ => trivial
  | [], _, _ :: _, _, r => r.elim
  | .hole t :: ps, x, [], h, r => r.elim
  | .hole t :: ps, x, u :: us, h, r => ⟨r.1, rel2_holes (ps := ps) (by simpa [isHole] using h) r.2⟩
  | .fix _ :: _, _, _, h, _ => by simp [isHole] at h
  | .ag _ _ :: _, _, _, h, _ => by simp [isHole] at h
  | .pr _ _ :: _, _, _, h, _ => by simp [isHole] at h

/-- what is left alone: all but the slice's own block -/
def bsRow (M0 : Bs) (M : Own) (w : World) (v : Value) : Bs := { M := M0.M, M1 := M, w1 := w, kp := fun b => b < w.heap.size ∧ wob v ≠ some b }

theorem give_sound (hE : Env2Ok P E) (s : Sim2 w0 M0 N st a as w) (hd : ∀ d, o.dst = some d → d < N) {f : Operand} {args : Array Operand} {ts : Array TypeId} {g : FuncId} {caps : RV} {c : OwnC} (hop : o.op = .call { callee := .value f, args := args, argTypes := ts })
    (hf : evR none f st.s = .clo g caps) (hc : lk g E.ow = some c) {d : Nat} (hdst : o.dst = some d) {q : (e : Ty) × List e.den × Option Nat} (h : giveK E c args ts caps st (fun e z old => some ⟨e, z, old⟩) = some q) (K : Act → World → Prop)
    (hK : ∀ a' w', Sim2 w0 M0 N (setR (addN (newId st d) (.row q.1 q.2.1) (freeId (newId st d) (killO q.2.2 st))) (some d) (.row (newId st d))) a' as w' → K a' w') : o.wp P a w K Q := by
  obtain ⟨M, β, τ, s⟩ := s
  unfold giveK at h
  split at h
  rotate_left
  · cases h
  rename_i sx xs t us hargs hts
  obtain ⟨hcc, h⟩ := bif_some h
  simp only [Bool.and_eq_true] at hcc
  obtain ⟨X, hX, h⟩ := Option.bind_eq_some_iff.1 h
  obtain ⟨y, hy, h⟩ := Option.bind_eq_some_iff.1 h
  obtain ⟨z, hz, h⟩ := Option.bind_eq_some_iff.1 h
  cases h
  dsimp only at hK
  obtain ⟨hrow, hob⟩ := dstR_ok s hX (evR_ok s.glob s.fr _ sx)
  have hfv := evR_ok s.glob s.fr none f
  rw [hf] at hfv
  simp only [RR] at hfv
  obtain ⟨_, us', e, hcap⟩ := hfv
  simp only [List.cons.injEq, and_true] at e
  obtain rfl : us' = [] := hcap
  have hlen : xs.length = us.length := Nat.eq_of_beq_eq_true hcc.1
  have hrel := args_rel s (tab := E.tab) hlen
  rw [abPs_ok hy] at hrel
  have hrun : (execOp a.eval o).run P w = .ok (.enter g (a.eval sx :: xs.map a.eval).toArray) w := by
    simp only [execOp, hop, resolve, e, Deferred.ofValue, Sem.run_bind, Sem.run_pure, Result.andThen_ok, invoke]
    rw [show (#[] ++ Array.map a.eval args ++ (#[] : Array Value)) = (a.eval sx :: xs.map a.eval).toArray by rw [← Array.toArray_toList (xs := args), hargs]; simp]
    exact (hE.ow g c hc).enters _ w
  have hbk : ∀ b, wob (a.eval sx) = some b → b < w.heap.size ∧ ownB w0 M0 b := fun b hb => by
    obtain ⟨i, ob, _, h2, h3⟩ := hob b hb
    exact ⟨(s.block h2 h3).1, (s.block h2 h3).2.1⟩
  have start : ∀ m, (a.eval sx :: xs.map a.eval).length ≤ m → Sm w0 (bsRow M0 M w (a.eval sx)) m M (fun _ => (wob (a.eval sx)).getD 0) (fun _ => a.eval sx) (startO c.e c.fp X.1 y) (enterAct (a.eval sx :: xs.map a.eval) m) [] w := fun m hm => {
    df := dfOk_nil fun _ h => h.elim
    sz := by simp [enterAct] at hm ⊢; omega
    bel := s.bel
    mlt := s.mlt
    mex := s.mex
    gk := s.gk
    gx := Ext.refl M w
    kp := fun b h => ⟨⟨rfl, h.1⟩, fun _ m => m⟩
    mnew := s.mnew
    fr := fun i rv h => by
      have hr : Rel2 M w (fun _ => (wob (a.eval sx)).getD 0) (fun _ => a.eval sx) [(0, Ob.row c.e X.1)] (.row 0 :: mkPs c.fp y) (a.eval sx :: xs.map a.eval) := ⟨by
        simp only [RR]
        refine ⟨rfl, _, _, _, rfl, ?_, by rw [lk_cons, if_pos rfl], rfl⟩
        obtain ⟨_, _, _, e1, _⟩ := hrow
        rw [e1]
        rfl, rel2_holes hcc.2 hrel⟩
      obtain ⟨_, h1⟩ := slots_at 0 (.row 0 :: mkPs c.fp y) rv h
      obtain ⟨u, hu, r⟩ := rel2_at hr (by simpa using h1)
      exact ⟨u, enter_at (by simpa using hu), r⟩
    fs := trivial
    ob := fun id ob h => by
      simp only [startO, lk_cons] at h
      split at h
      · rename_i hi
        cases h
        refine ⟨hrow.mono fun b hb h1 => ⟨h1.1, fun h2 => h2.2 hb⟩, fun b hb => by simp [hb]⟩
      · cases h
    dj := fun i j ob ob' b h h' _ _ => by
      simp only [startO, lk_cons] at h h'
      split at h
      · split at h'
        · rename_i h1 h2; rw [h1, h2]
        · cases h'
      · cases h }
  unfold Oper.wp
  rw [hrun, Oper.upon_enter]
  refine ((hE.ow g c hc).calls w0 _ M _ _ w _ X.1 y z (by
    have := (rel2_len hrel)
    rw [mkPs_len] at this
    simp [this]) start hz).mono ?_
  rintro e' w' ⟨u, M', β2, τ2, N', a', rfl, s2, hu⟩
  have hob2 := s2.ob 0 _ (by rw [lk_cons, if_pos rfl])
  simp only [ObOk] at hob2
  rw [← hu] at hob2
  have hoth : ∀ b, b < w.heap.size → wob (a.eval sx) ≠ some b → w'.heap[b]? = w.heap[b]? ∧ ∀ o, M' b o → M b o := fun b h1 h2 => ⟨(s2.kp b ⟨h1, h2⟩).1.1, (s2.kp b ⟨h1, h2⟩).2⟩
  have hx' : RowX (ownB w0 M0) M' w' c.e z u := hob2.1.mono fun b _ h1 => ⟨h1.1, fun h2 => by
    have h3 := (s.kp b h2).1.2
    exact h1.2 ⟨h3, fun h4 => (hbk b h4).2.2 h2⟩⟩
  have key : ∀ (st1 : St), Sm w0 M0 N M β τ st1 a as w → (∀ j ob, lk j st1.l = some ob → (∀ i, X.2 = some i → j ≠ i) ∧ ∃ ob0, lk j st.l = some ob0 ∧ blk β τ j ob = blk β τ j ob0) → lk (newId st d) st1.l = none →
      Sim2 w0 M0 N (setR (addN (newId st d) (.row c.e z) st1) (some d) (.row (newId st d))) (a.put o.dst u) as w' := by
    intro st1 s1 hsub hfree
    have s3 := s1.addG (ob := .row c.e z) (bn := (wob u).getD 0) (v := u) hfree s2.gx s2.bel s2.mlt s2.mnew (fun b k => hoth b (s.kp b k).1.2 fun hw => (hbk b hw).2.2 k) (fun j ob b hl hb => by
      obtain ⟨hne, ob0, hl0, hb0⟩ := hsub j ob hl
      rw [hb0] at hb
      have hlt := (s.block hl0 hb).1
      have hnw : wob (a.eval sx) ≠ some b := fun hw => by
        obtain ⟨i', ob', h1, h2, h3⟩ := hob b hw
        exact hne i' h1 (s.dj j i' ob0 ob' b hl0 h2 hb h3)
      refine ⟨(hoth b hlt hnw).1, (hoth b hlt hnw).2, fun hw => ?_⟩
      exact (hob2.1.wob hw).2 ⟨hlt, hnw⟩) (fun β' τ' h1 h2 hm => ⟨by rw [h2]; exact hx', fun b hb => by rw [h2] at hb; rw [h1]; simp [hb]⟩)
    rw [hdst]
    refine ⟨_, _, _, s3.set (some d) (fun i hi => by cases hi; exact hd d hdst) ?_⟩
    simp only [RR, addN]
    refine ⟨rfl, u, c.e, z, rfl, ?_, by simp [lk_cons], by simp⟩
    obtain ⟨_, _, _, e1, _⟩ := hx'
    rw [e1]
    rfl
  refine hK _ _ (key _ ?_ ?_ (freeId_none _ _))
  · cases X.2 with
    | none => exact s.freeId _
    | some i' => exact (s.kill i').freeId _
  · intro j ob hl
    have free : ∀ (st2 : St), lk j (freeId (newId st d) st2).l = some ob → ∃ ob0, lk j st2.l = some ob0 ∧ blk β τ j ob = blk β τ j ob0 := by
      intro st2 hl
      unfold freeId at hl
      split at hl
      · exact ⟨ob, hl, rfl⟩
      · obtain ⟨_, ob0, h1, rfl⟩ := kill_inv hl
        exact ⟨ob0, h1, blk_map _ _⟩
    obtain ⟨ob0, h1, h2⟩ := free _ hl
    cases hx2 : X.2 with
    | none =>
      rw [hx2] at h1
      exact ⟨(fun i hi => by cases hi), ob0, h1, h2⟩
    | some i' =>
      rw [hx2] at h1
      obtain ⟨hne, ob1, h3, rfl⟩ := kill_inv h1
      exact ⟨(fun i hi => by cases hi; exact hne), ob1, h3, by rw [h2, blk_map]⟩
end
end Go.Lift
