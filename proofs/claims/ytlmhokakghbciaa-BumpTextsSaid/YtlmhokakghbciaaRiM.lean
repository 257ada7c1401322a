/- Operations that change what is there: stores, appends, blocks that are read only. -/
import Derived.Test.YtlmhokakghbciaaRiL
namespace Go.Lift
open Go.RowKit

section
variable {P : Program} {E : Env2} {Q : Exit → Act → World → Prop} {o : Oper} {w0 : World} {M0 : Bs} {N : Nat} {M M' : Own} {β : Nat → Nat} {τ : Nat → Value} {st st' : St} {a : Act} {as : List Act} {w w' : World} {id : Nat}

theorem frzAllK_ok {α : Type} {r : α} {k : St → Option α} : ∀ (n : Nat) (ids : List Nat) (st : St), frzAllK n ids st k = some r → Sim2 w0 M0 N st a as w → ∃ st', k st' = some r ∧ Sim2 w0 M0 N st' a as w
  | 0, _, _, h, _ => by cases h
  | n + 1, [], st, h, s => ⟨st, h, s⟩
  | n + 1, id :: ids, st, h, s => by
    simp only [frzAllK] at h
    cases hl : lk id st.l with
    | none => rw [hl] at h; exact frzAllK_ok n ids st h s
    | some ob =>
      rw [hl] at h
      obtain ⟨M, β, τ, s⟩ := s
      cases ob with
      | row t xs =>
        obtain ⟨M', s'⟩ := s.frzRow hl
        exact frzAllK_ok n ids _ h ⟨M', β, τ, s'⟩
      | var ty con =>
        simp only at h
        split at h
        · change peekC nilPk con ty (fun x => frzAllK n ids (frzVar id ty x st) k) = some r at h
          obtain ⟨x, h1, h2⟩ := peekC_pc (pk := fun β rv k => nilPk (α := β) rv k) nilPk_pc (rv := con) (t := ty) (X := ty.den) (g := fun β x k => k x) (fun x => PC.ret x) _ (fun x => frzAllK n ids (frzVar id ty x st) k) _ h
          obtain ⟨M', s'⟩ := s.frzVar (x := x) hl fun cs M' hM r => by
            refine peekC_ok (M := M) (β := β) (τ := τ) (L := st.l) (pk := fun β rv k => nilPk (α := β) rv k) (fun b o m => ⟨hM b o m, fun _ h => h⟩) nilPk_pc (fun rv u tv hh rr => ?_) (h1 _ some) r
            unfold nilPk at hh
            split at hh
            · rename_i t
              cases hh
              have r' : [u] = [Value.slice none 0 0] := rr
              cases r'
              exact ⟨[.slice none 0 0], rfl, none, 0, [], by simp, by simp, by simp [maxLen], fun _ => rfl, by simp [Seq], .inl (by simp)⟩
            · cases hh
          exact frzAllK_ok n ids _ h2 ⟨M', β, τ, s'⟩
        · exact frzAllK_ok n _ st h ⟨M, β, τ, s⟩
      | mp kt vt es => exact frzAllK_ok n ids st h ⟨M, β, τ, s⟩
      | lp c q => exact frzAllK_ok n ids st h ⟨M, β, τ, s⟩

theorem freeId_none (id : Nat) (st : St) : lk id (freeId id st).l = none := by
  unfold freeId
  cases h : lk id st.l with
  | none => exact h
  | some ob => simp only; rw [kill_lk]; simp

theorem Sm.freeId (s : Sm w0 M0 N M β τ st a as w) (id : Nat) : Sm w0 M0 N M β τ (Go.Lift.freeId id st) a as w := by
  unfold Go.Lift.freeId
  split
  · exact s
  · exact s.kill id

/-- what an operation does -/
def ROp (P : Program) (Q : Exit → Act → World → Prop) (w0 : World) (M0 : Bs) (N : Nat) (o : Oper) (a : Act) (as : List Act) (w : World) {α : Type} (k : St → Option α) (r : α) : Prop :=
  ∀ K : Act → World → Prop, (∀ st' a' w', k st' = some r → Sim2 w0 M0 N st' a' as w' → K a' w') → o.wp P a w K Q

theorem pureR_sound (hE : Env2Ok P E) (s : Sim2 w0 M0 N st a as w) (hd : ∀ d, o.dst = some d → d < N) {α : Type} {k : St → Option α} {r : α} (h : pureR E o st k = some r) : ROp P Q w0 M0 N o a as w k r := by
  obtain ⟨M, β, τ, s⟩ := s
  intro K hK
  unfold pureR at h
  rw [withN_eq] at h
  obtain ⟨⟨rv, ob⟩, h1, h2⟩ := opP_pc (E := E) (o := o) (st := freeId (newId st (o.dst.getD 0)) st) (id := newId st (o.dst.getD 0)) _ (fun q : RV × Option Ob => k (setR (addO (newId st (o.dst.getD 0)) q.2 (freeId (newId st (o.dst.getD 0)) st)) o.dst q.1)) r h
  exact opP_sound hE (s.freeId _) hd (freeId_none _ _) (h1 _ some) K fun a' w' hs => hK _ a' w' h2 hs

/-- a store: which block becomes what -/
theorem plainN_ok {L : List (Nat × Ob)} {rv : RV} {u : Value} (r : RR M w β τ L rv .sl [u]) : RR M w β τ L (plainN rv) .sl [u] := by
  cases rv with
  | nil t =>
    have hu : [u] = [Value.slice none 0 0] := r
    cases hu
    exact ⟨_, rfl, [.slice none 0 0], rfl, none, 0, [], by simp, by simp, by simp [maxLen], fun _ => rfl, by simp [Seq], .inl (by simp)⟩
  | _ => exact r

theorem nesK_some {α : Type} {tt : Option Ty} {p : List Step} {ty : Ty} {xs : List ty.den} {rv : RV} {k : List ty.den → Option α} {alt : Option α} {r : α} (h : nesK tt p ty xs rv k alt = some r) :
    (∃ j e ys z, p = [.idx j] ∧ rv = .val ⟨.slice e, ys⟩ ∧ tyIs tt (.nes e) = true ∧ ys ≠ [] ∧ TV.as ty ⟨.nes e, ys⟩ = some z ∧ k (List.set xs j.toNat z) = some r) ∨ alt = some r := by
  unfold nesK at h
  split at h
  · rename_i j e ys
    cases hc : tyIs tt (.nes e) with
    | false => rw [hc] at h; exact .inr h
    | true =>
      rw [hc] at h
      simp only [cond_true] at h
      cases ys with
      | nil => simp at h
      | cons y ys =>
        obtain ⟨z, hz, h⟩ := Option.bind_eq_some_iff.1 (show ((TV.as ty ⟨.nes e, y :: ys⟩).bind fun z => k (List.set xs j.toNat z)) = some r from h)
        exact .inl ⟨j, e, _, z, rfl, rfl, hc, by simp, hz, h⟩
  · exact .inr h
theorem nesK_pc {X : Type} {tt : Option Ty} {p : List Step} {ty : Ty} {xs : List ty.den} {rv : RV} {f : List ty.den → X} {A : (β : Type) → (X → Option β) → Option β} (hA : PC A) : PC (fun β k => nesK tt p ty xs rv (fun z => k (f z)) (A β k)) := by
  unfold nesK
  split
  · exact PC.bif (PC.bif PC.none (PC.bind fun z => PC.ret _)) hA
  · exact hA

theorem storeK_sound (hE : Env2Ok P E) (s : Sim2 w0 M0 N st a as w) {t : TypeId} {x y : Operand} (hop : o.op = .store t x y) (hdst : o.dst = none) {i : Nat} {ob : Ob} (h : storeK E t x y st (fun id ob => some (id, ob)) = some (i, ob)) :
    OSt P Q w0 M0 N o a as w (setOb i ob st) ∧ (lk i st.l).isSome = true := by
  obtain ⟨M, β, τ, s⟩ := s
  unfold storeK at h
  have hx := evR_ok s.glob s.fr (lk t E.tab) x
  have fin : ∀ (d : List Value) (w' : World) (id : Nat) (off n : Nat) (st' : St), (a.eval x) = .pointer (some ⟨β id, off, none⟩) → (a.eval y).cells = List.toArray d → (sizeOf t).run P w = .ok n w → d.length = n → (storeCells ⟨β id, off, none⟩ d).run P w = .ok () w' → Sim2 w0 M0 N st' a as w' → OSt P Q w0 M0 N o a as w st' := by
    intro d w' id off n st' hxv hyv hn hdn hst hs K hK
    have hrun : (execOp a.eval o).run P w = .ok .skip w' := by
      simp only [execOp, hop, Sem.run_bind, Instr.storeAt, hxv, Instr.sureAddr, Sem.run_pure, Result.andThen_ok, storeVar, hyv, hn, List.size_toArray, hdn, ne_eq, not_true_eq_false, if_false, hst]
    unfold Oper.wp
    rw [hrun]
    show K (a.put o.dst undef) w'
    rw [hdst]
    exact hK _ _ hs
  split at h
  · rename_i i' p heq
    rw [heq] at hx
    obtain ⟨ob1, off, t', hl, ho, hu⟩ := loc_inv hx
    simp only [hl] at h
    cases ob1 with
    | var ty con =>
      simp only at h
      obtain ⟨tt, htt, h⟩ := Option.bind_eq_some_iff.1 h
      obtain ⟨c, hc, h⟩ := Option.bind_eq_some_iff.1 h
      have hy := evR_ok s.glob s.fr (some tt) y
      obtain ⟨con', h1, h2⟩ := setN_pc (nv := evR (some tt) y st.s) ty (X := RV) (g := fun β z k => k z) con p (fun z => PC.ret z) _ (fun con' => some (i', Ob.var ty con')) _ h
      cases h2
      obtain ⟨d, w', g1, g2, g3⟩ := s.setVar (P := P) hl ho (h1 _ some) hy
      obtain ⟨cs, hcs, hr⟩ := toC_ok hc hy
      have hcells := hr.cells
      rw [← hcs, g1] at hcells
      have : d = cs := by simpa using hcells
      exact ⟨fin d w' _ off _ _ hu g1 ((hE.tab _ _ htt).sizeOf w) (by rw [this, hr.length]) g2 ⟨M, β, τ, g3⟩, by rw [hl]; rfl⟩
    | row ty xs =>
      simp only at h
      have hy := plainN_ok (evR_ok s.glob s.fr (lk t E.tab) y)
      replace h := nesK_some h
      rcases h with ⟨j, e, ys, z, rfl, heq2, hc, hne, hz, h⟩ | h
      · cases h
        have hy := evR_ok s.glob s.fr (lk t E.tab) y
        rw [heq2] at hy
        obtain ⟨u, e1, cs0, hcs0, hr0⟩ := hy
        simp only [List.cons.injEq, and_true] at e1
        have hv : VOk M w (.nes e) ys (a.eval y) := ⟨cs0, by rw [e1, hcs0]; rfl, hr0, fun h0 => absurd (List.eq_nil_of_length_eq_zero h0) hne⟩
        obtain ⟨d, w', g1, g2, g3⟩ := s.setRow' (P := P) (x := z) (v := ⟨.nes e, ys⟩) hl ho (.inl rfl) (.inl ⟨rfl, hz⟩) hv
        obtain ⟨cs, hcs, hr⟩ := hv
        have hcells := toV_cells hr
        rw [← hcs, g1] at hcells
        have : d = cs := by simpa using hcells
        exact ⟨fin d w' _ off _ _ hu g1 ((hE.tab _ _ (tyIs_eq hc)).sizeOf w) (by rw [this, hr.length]) g2 ⟨M, β, τ, g3⟩, by rw [hl]; rfl⟩
      split at h
      · rename_i j v heq2
        rw [heq2] at hy
        obtain ⟨hc, h⟩ := bif_some h
        obtain ⟨z, hz, h⟩ := Option.bind_eq_some_iff.1 h
        cases h
        obtain ⟨u, e, hv⟩ := hy
        simp only [List.cons.injEq, and_true] at e
        rw [← e] at hv
        obtain ⟨d, w', g1, g2, g3⟩ := s.setRow' (P := P) (x := z) hl ho (.inl rfl) (.inl ⟨rfl, hz⟩) hv
        obtain ⟨cs, hcs, hr⟩ := hv
        have hcells := toV_cells hr
        rw [← hcs, g1] at hcells
        have : d = cs := by simpa using hcells
        exact ⟨fin d w' _ off _ _ hu g1 ((hE.tab _ _ (tyIs_eq hc)).sizeOf w) (by rw [this, hr.length]) g2 ⟨M, β, τ, g3⟩, by rw [hl]; rfl⟩
      · rename_i j sp q v heq2
        rw [heq2] at hy
        obtain ⟨hc, h⟩ := bif_some h
        obtain ⟨x1, hx1, h⟩ := Option.bind_eq_some_iff.1 h
        obtain ⟨z, hz, h⟩ := Option.bind_eq_some_iff.1 h
        cases h
        obtain ⟨u, e, hv⟩ := hy
        simp only [List.cons.injEq, and_true] at e
        rw [← e] at hv
        obtain ⟨d, w', g1, g2, g3⟩ := s.setRow' (P := P) hl ho (.inr hx1) (.inr hz) hv
        obtain ⟨cs, hcs, hr⟩ := hv
        have hcells := toV_cells hr
        rw [← hcs, g1] at hcells
        have : d = cs := by simpa using hcells
        exact ⟨fin d w' _ off _ _ hu g1 ((hE.tab _ _ (tyIs_eq hc)).sizeOf w) (by rw [this, hr.length]) g2 ⟨M, β, τ, g3⟩, by rw [hl]; rfl⟩
      · cases h
    | mp kt vt es => cases h
    | lp c q => cases h
  · cases h

theorem storeK_pc {t : TypeId} {x y : Operand} : PC (fun β (k : Nat × Ob → Option β) => storeK E t x y st fun id ob => k (id, ob)) := by
  unfold storeK
  split
  · split
    · rename_i id p _ _ ty con _
      exact PC.bind (X := Nat × Ob) (g := fun β tt k => (toC tt (evR (some tt) y st.s)).bind fun _ => setN (evR (some tt) y st.s) ty (fun con' => k (id, .var ty con')) con p) fun tt => PC.bind (X := Nat × Ob) (g := fun β _ k => setN (evR (some tt) y st.s) ty (fun con' => k (id, .var ty con')) con p) fun _ =>
        setN_pc ty (X := Nat × Ob) (g := fun β con' k => k (id, .var ty con')) con p fun z => PC.ret _
    · rename_i id p _ _ ty xs _
      refine nesK_pc (X := Nat × Ob) (f := fun z => (id, .row ty z)) ?_
      split
      · exact PC.bif (PC.bind fun z => PC.ret _) PC.none
      · refine PC.bif ?_ PC.none
        intro β k r h
        obtain ⟨x1, hx1, h⟩ := Option.bind_eq_some_iff.1 h
        obtain ⟨z, hz, h⟩ := Option.bind_eq_some_iff.1 h
        exact ⟨_, fun γ k' => by simp only [hx1, hz, Option.bind_some], h⟩
      · exact PC.none
    · exact PC.none
    · exact PC.none
    · exact PC.none
  · exact PC.none

/-- what is put into a map: which block becomes what -/
theorem mapK_sound (hE : Env2Ok P E) (s : Sim2 w0 M0 N st a as w) {t : TypeId} {m x y : Operand} (hop : o.op = .mapUpdate t m x y) (hdst : o.dst = none) {i : Nat} {ob : Ob} (h : mapK E t m x y st (fun id ob => some (id, ob)) = some (i, ob)) :
    OSt P Q w0 M0 N o a as w (setOb i ob st) ∧ (lk i st.l).isSome = true := by
  obtain ⟨M, β, τ, s⟩ := s
  unfold mapK at h
  have hm := evR_ok s.glob s.fr none m
  split at h
  · rename_i i' heq
    rw [heq] at hm
    obtain ⟨kt, vt, es, hl, hu⟩ := mp_inv hm
    simp only [hl] at h
    obtain ⟨hc, h⟩ := bif_some h
    simp only [Bool.and_eq_true] at hc
    obtain ⟨h0, hk, hvf⟩ := hc
    obtain ⟨v, h1, h2⟩ := peekK_pc 6 _ _ _ _ h
    obtain ⟨k, hk1, h3⟩ := Option.bind_eq_some_iff.1 h2
    obtain ⟨u, h4, h5⟩ := peekK_pc 6 _ _ _ _ h3
    obtain ⟨z, hz, h6⟩ := Option.bind_eq_some_iff.1 h5
    obtain ⟨rfl, rfl⟩ := Prod.mk.inj (Option.some.inj h6)
    have e1 := TV.as_eq hk1
    have e2 := TV.as_eq hz
    have hv := peekK_ok s.ob 6 (h1 _ some) (evR_ok s.glob s.fr (some kt) x)
    have hy := peekK_ok s.ob 6 (h4 _ some) (evR_ok s.glob s.fr (some vt) y)
    rw [e1] at hv
    rw [e2] at hy
    obtain ⟨_, ⟨arr, clock, hb, he⟩, _⟩ := s.ob i' _ hl
    obtain ⟨arr', clock', hrun, he'⟩ := update_run (M := M) hE.tab hk (hE.tab _ _ (tyIs_eq h0)) (vok_flat (keyTy_flat hk) hv) (vok_flat hvf hy) hb he
    refine ⟨fun K hK => ?_, by rw [hl]; rfl⟩
    have hexec : (execOp a.eval o).run P w = .ok .skip { w with heap := w.heap.setIfInBounds (β i') (.map arr' clock') } := by
      simp only [execOp, hop, hu, Sem.run_bind, hrun, Result.andThen_ok, Sem.run_pure]
    unfold Oper.wp
    rw [hexec]
    show K (a.put o.dst undef) _
    rw [hdst]
    exact hK _ _ ⟨M, β, τ, s.setMap hl hb he'⟩
  · cases h

theorem mapK_pc {t : TypeId} {m x y : Operand} : PC (fun β (k : Nat × Ob → Option β) => mapK E t m x y st fun id ob => k (id, ob)) := by
  unfold mapK
  split
  · rename_i i _
    split
    · rename_i kt vt es _
      exact PC.bif (PC.comp (Y := Nat × Ob) (G := fun β v k => (TV.as kt v).bind fun x => peekK st.l 6 (evR (some vt) y st.s) fun u => (TV.as vt u).bind fun y => k (i, .mp kt vt (putK x y es))) (peekK_pc 6 _) fun v => PC.bind fun x =>
        PC.comp (Y := Nat × Ob) (G := fun β u k => (TV.as vt u).bind fun y => k (i, .mp kt vt (putK x y es))) (peekK_pc 6 _) fun u => PC.bind fun y => PC.ret _) PC.none
    · exact PC.none
  · exact PC.none

theorem store_sound (hE : Env2Ok P E) (s : Sim2 w0 M0 N st a as w) {t : TypeId} {x y : Operand} (hop : o.op = .store t x y) (hdst : o.dst = none) {α : Type} [DecidableEq α] {k : St → Option α} {r : α} {H : Tg → St → (St → RV → Option α) → Option α} {lt : LT} (h : effR E H lt o st k = some r) :
    ROp P Q w0 M0 N o a as w k r := by
  intro K hK
  simp only [effR, hop, hdst] at h
  obtain ⟨⟨i, ob⟩, h1, h2⟩ := storeK_pc _ (fun q : Nat × Ob => k (setOb q.1 q.2 st)) _ h
  exact (storeK_sound hE s hop hdst (h1 _ some)).1 K fun a' w' hs => hK _ a' w' h2 hs

theorem map_sound (hE : Env2Ok P E) (s : Sim2 w0 M0 N st a as w) {t : TypeId} {m x y : Operand} (hop : o.op = .mapUpdate t m x y) (hdst : o.dst = none) {α : Type} [DecidableEq α] {k : St → Option α} {r : α} {H : Tg → St → (St → RV → Option α) → Option α} {lt : LT} (h : effR E H lt o st k = some r) :
    ROp P Q w0 M0 N o a as w k r := by
  intro K hK
  simp only [effR, hop, hdst] at h
  obtain ⟨⟨i, ob⟩, h1, h2⟩ := mapK_pc _ (fun q : Nat × Ob => k (setOb q.1 q.2 st)) _ h
  exact (mapK_sound hE s hop hdst (h1 _ some)).1 K fun a' w' hs => hK _ a' w' h2 hs

/-! ### append -/
theorem rowX_cells {b0 : Nat → Prop} {t : Ty} {xs : List t.den} {v u : Value} (h : RowX b0 M w t xs v) {lo hi : Nat} (hlh : lo ≤ hi) (hhi : hi ≤ xs.length) (hu : SubH t.n lo hi v u) :
    ∃ a' cap' row', u = .slice a' (hi - lo) cap' ∧ Seq (Rep M w t) row' ((xs.take hi).drop lo) ∧ (hi - lo = 0 ∨ ∃ ad : Addr, a' = some ad ∧ ∀ j, j < row'.length → w.cell? (ad.add j) = row'[j]?) := by
  obtain ⟨a, cap, row, rfl, h1, h2, h3, h4, h5⟩ := h
  obtain ⟨a1, len1, cap1, a', c, e1, rfl, ⟨hc1, hc2⟩, h6⟩ := hu
  cases e1
  obtain ⟨c0, c1, c2, e2, hl2, hr⟩ := cut_of (fun _ _ r => Rep.length r) h4 hlh hhi
  refine ⟨a', _, c1, rfl, hr, ?_⟩
  by_cases hz : hi - lo = 0
  · exact .inl hz
  · have h7 := h6 (by omega)
    subst h7
    right
    cases a with
    | none => have := h3 rfl; omega
    | some a0 =>
      obtain ⟨b, cur, T, rfl, g1, ⟨fz, gz, g2⟩, g3, g4, g5⟩ := h5 a0 rfl (by omega)
      refine ⟨⟨b, 0 + lo * t.n, none⟩, by simp [addr_add], fun j hj => ?_⟩
      rw [addr_add, cell_of_row _ _ _ _ _ _ g2, Nat.zero_add, ← hl2, g4 _ (by rw [e2]; simp; omega), e2, List.getElem?_append_right (by omega), Nat.add_sub_cancel_left, List.getElem?_append_left hj]

theorem seq_oneCell {e : Ty} : ∀ {cs : List Value} {xs : List e.den}, Seq (Rep M w e) cs xs → ∀ v ∈ cs, v.oneCell' = true := by
  intro cs xs
  induction xs generalizing cs with
  | nil => intro s; simp only [Seq] at s; subst s; simp
  | cons x xs ih =>
    rintro ⟨c1, c2, rfl, r, s⟩ v hv
    rcases List.mem_append.1 hv with hv | hv
    · exact r.oneCell v hv
    · exact ih s v hv

theorem src_cells {e : Ty} {tab : List (TypeId × Ty)} (htab : TabOk P tab) {u : TypeId} (hu : lk u tab = some (.slice e)) {a' : Option Addr} {n cap : Nat} {row : List Value} {ys : List e.den} (hn : ys.length = n) (hs : Seq (Rep M w e) row ys) (hc : n = 0 ∨ ∃ ad : Addr, a' = some ad ∧ ∀ j, j < row.length → w.cell? (ad.add j) = row[j]?) :
    Src P e.n u (.slice a' n cap) ys.length row w := by
  obtain ⟨e', hu', _⟩ := (htab _ _ hu).slice
  have hl : row.length = ys.length * e.n := hs.length (fun _ _ r => r.length)
  subst hn
  rcases hc with hz | ⟨ad, rfl, hc⟩
  · have hr : row = [] := List.eq_nil_of_length_eq_zero (by rw [hl, hz]; simp)
    subst hr
    have e0 : ys = [] := List.eq_nil_of_length_eq_zero hz
    subst e0
    cases a' with
    | none => exact Src.ofNil w hu' cap
    | some ad => exact Src.ofSlice w hu' ad 0 cap [] (by simp) (fun j u hj => by simp at hj) (fun u hu => by cases hu)
  · exact Src.ofSlice w hu' ad _ cap row hl (fun j u hj => by rw [hc j (List.getElem?_eq_some_iff.1 hj).1, hj]) (seq_oneCell hs)

theorem srcR_ok (s : Sm w0 M0 N M β τ st a as w) {tab : List (TypeId × Ty)} (htab : TabOk P tab) {e : Ty} {rv : RV} {u : TypeId} {v : Value} {ys : List e.den} (h : srcR tab u st.l e rv = some ys) (hn : 1 ≤ e.n) (r : RR M w β τ st.l rv .sl [v]) :
    ∃ row, Src P e.n u v ys.length row w ∧ Seq (Rep M w e) row ys := by
  unfold srcR at h
  split at h
  · rename_i t zs
    obtain ⟨hc, h⟩ := bif_some h
    have := TV.as_eq h
    cases this
    obtain ⟨u', e1, hv⟩ := r
    cases e1
    obtain ⟨ad, cap, row, hv, _, _, _, hs, hrow⟩ := hv.slice
    refine ⟨row, ?_, hs⟩
    rw [hv]
    refine src_cells htab (tyIs_eq hc) rfl hs ?_
    rcases hrow with hz | ⟨b, o', rfl, hrow⟩
    · exact .inl hz
    · exact .inr ⟨_, rfl, fun j hj => by rw [addr_add]; exact (hrow j hj).1⟩
  · rename_i zs
    obtain ⟨hc, h⟩ := bif_some h
    have := TV.as_eq h
    cases this
    have hu := (htab _ _ (tyIs_eq hc)).str
    obtain ⟨u', e1, hv⟩ := r
    cases e1
    obtain ⟨sb, hv2, rfl, _⟩ := hv.str
    refine ⟨byteCells sb, ?_, ?_⟩
    · rw [hv2]
      have := Src.ofString (P := P) w hu sb
      have z1 : sb.data.size = sb.size := rfl
      simpa [Ty.n, z1] using this
    · have := Seq.of_ints (M := M) (w := w) (k := .u8) (xs := sb.data.toList.map fun b => (b.toNat : Int)) (fun x hx => by
        obtain ⟨b, _, rfl⟩ := List.mem_map.1 hx
        have := UInt8.toNat_lt b
        simp [IntKind.min, IntKind.max, IntKind.signed, IntKind.bits]; omega)
      rw [List.map_map] at this
      exact this
  · rename_i t
    obtain ⟨hc, h⟩ := bif_some h
    have := TV.as_eq h
    cases this
    have r' : [v] = [Value.slice none 0 0] := r
    cases r'
    exact ⟨[], src_cells (M := M) htab (tyIs_eq hc) rfl rfl (.inl rfl), rfl⟩
  · rename_i i
    obtain ⟨t, xs, hl, hu⟩ := row_inv r
    simp only [hl] at h
    obtain ⟨hc, h⟩ := bif_some h
    have := TV.as_eq h
    cases this
    have ho := (s.ob i _ hl).1
    obtain ⟨a', cap', row', h1, h2, h3⟩ := rowX_cells ho (Nat.zero_le _) (Nat.le_refl _) (subH_full ho)
    simp only [List.take_length, List.drop_zero, Nat.sub_zero] at h1 h2 h3
    refine ⟨row', ?_, h2⟩
    rw [hu, h1]
    exact src_cells htab (tyIs_eq hc) rfl h2 h3
  · rename_i i lo hi
    obtain ⟨t, xs, hl, g1, g2, hu⟩ := sub_inv r
    simp only [hl] at h
    obtain ⟨hc, h⟩ := bif_some h
    have := TV.as_eq h
    cases this
    have ho := (s.ob i _ hl).1
    obtain ⟨a', cap', row', h1, h2, h3⟩ := rowX_cells ho g1 g2 hu
    refine ⟨row', ?_, h2⟩
    rw [h1]
    have hlen : ((xs.take hi).drop lo).length = hi - lo := by simp; omega
    exact src_cells htab (tyIs_eq hc) hlen h2 h3
  · cases h

theorem dstR_ok (s : Sm w0 M0 N M β τ st a as w) {e : Ty} {rv : RV} {v : Value} {xs : List e.den × Option Nat} (h : dstR st.l e rv = some xs) (r : RR M w β τ st.l rv .sl [v]) :
    RowX (ownB w0 M0) M w e xs.1 v ∧ ∀ b, wob v = some b → ∃ i ob, xs.2 = some i ∧ lk i st.l = some ob ∧ blk β τ i ob = some b := by
  unfold dstR at h
  split at h
  · rename_i t
    obtain ⟨hc, h⟩ := bif_some h
    cases h
    have := of_decide_eq_true hc
    subst this
    have r' : [v] = [Value.slice none 0 0] := r
    cases r'
    exact ⟨rowX_nil, fun b hb => by simp [wob] at hb⟩
  · rename_i i
    obtain ⟨t, ys, hl, hu⟩ := row_inv r
    simp only [hl] at h
    obtain ⟨zs, hz, h⟩ := Option.bind_eq_some_iff.1 h
    cases h
    have := TV.as_eq hz
    cases this
    rw [hu]
    exact ⟨(s.ob i _ hl).1, fun b hb => ⟨i, _, rfl, hl, hb⟩⟩
  · rename_i i lo hi
    obtain ⟨t, ys, hl, g1, g2, hu⟩ := sub_inv r
    simp only [hl] at h
    obtain ⟨hc, h⟩ := bif_some h
    obtain ⟨zs, hz, h⟩ := Option.bind_eq_some_iff.1 h
    cases h
    have := TV.as_eq hz
    cases this
    have hlo := Nat.eq_of_beq_eq_true hc
    subst hlo
    obtain ⟨⟨ad, cap, row, h0, h1, h2, h3, h4, h5⟩, _⟩ := s.ob i _ hl
    obtain ⟨a1, len1, cap1, a', c, e1, hv, ⟨hc1, hc2⟩, h6⟩ := hu
    rw [h0] at e1
    cases e1
    have hmap : ad.map (·.add (0 * e.n)) = ad := by cases ad <;> simp [Addr.add]
    rw [hmap] at h6
    simp only [Nat.sub_zero] at hv hc1 hc2
    have hlen : (List.take hi zs).length = hi := by simp; omega
    obtain ⟨d0, d1, e2, hd0, hs0, _⟩ := h4.cut (fun _ _ r => Rep.length r) hi g2
    refine ⟨⟨a', c, d0, by rw [hv, hlen], by rw [hlen]; omega, by omega, ?_, hs0, ?_⟩, ?_⟩
    · intro ha
      by_cases hc0 : c = 0
      · exact hc0
      · rw [h6 hc0] at ha
        have := h3 ha
        omega
    · intro a0 ha hc0
      rw [h6 (by omega)] at ha
      obtain ⟨b, cur, T, k0, k1, k2, k3, k4, k5⟩ := h5 a0 ha (by omega)
      exact ⟨b, cur, T, k0, k1, k2, Nat.le_trans (Nat.mul_le_mul_right _ hc2) k3, (fun j hj => by rw [k4 j (by rw [e2]; simp; omega), e2, List.getElem?_append_left hj]), k5⟩
    · intro b hb
      rw [hv] at hb
      refine ⟨i, _, rfl, hl, ?_⟩
      simp only [blk]
      rw [h0]
      by_cases hc0 : c = 0
      · subst hc0
        cases a' <;> simp [wob] at hb
      · rw [h6 hc0] at hb
        cases ad with
        | none => simp [wob] at hb
        | some a0 =>
          simp only [wob, if_neg hc0] at hb
          simp only [wob, if_neg (show ¬ cap = 0 by omega)]
          exact hb
  · cases h

theorem limE_ok {tab : List (TypeId × Ty)} {tid : TypeId} {e : Ty} {i : TypeInfo} {n : Nat} (hT : TOk P tab tid e) (hi : P.info? tid = some i) (h : n ≤ limE E e) : n ≤ lim ∨ (n ≤ lim8 ∧ i.bytes ≤ 8) := by
  unfold limE at h
  cases hw : E.wd with
  | false => rw [hw] at h; cases e <;> exact .inl h
  | true =>
    rw [hw] at h
    cases e with
    | int k =>
      right
      have := hT.by8 k rfl i hi
      have h64 : k.bits ≤ 64 := by cases k <;> decide
      exact ⟨h, by omega⟩
    | _ => exact .inl h

theorem srcN_some {α : Type} {u : TypeId} {new : Bool} {e : Ty} {rv : RV} {k : List e.den → Option α} {alt : Option α} {r : α} (h : srcN E u new e rv k alt = some r) :
    (∃ n z, new = true ∧ rv = .val ⟨.int .i64, n⟩ ∧ (1 ≤ n ∧ n ≤ (lim : Int)) ∧ tyIs (lk u E.tab) (.int .i64) = true ∧ zeroD e = some z ∧ k (E.rep e.den n.toNat z) = some r) ∨ alt = some r := by
  unfold srcN at h
  split at h
  · rename_i n
    obtain ⟨h12, h⟩ := bif_some h
    simp only [Bool.and_eq_true, decide_eq_true_eq] at h12
    obtain ⟨hc, h⟩ := bif_some h
    obtain ⟨z, hzd, h⟩ := Option.bind_eq_some_iff.1 h
    exact .inl ⟨n, z, rfl, rfl, h12, hc, hzd, h⟩
  · exact .inr h
theorem srcN_pc {X : Type} {u : TypeId} {new : Bool} {e : Ty} {rv : RV} {g : (β : Type) → List e.den → (X → Option β) → Option β} {A : (β : Type) → (X → Option β) → Option β} (hg : ∀ ys, PC (fun β k => g β ys k)) (hA : PC A) : PC (fun β k => srcN E u new e rv (fun ys => g β ys k) (A β k)) := by
  unfold srcN
  split
  · exact PC.bif (PC.bif (PC.bind fun z => hg _) PC.none) PC.none
  · exact hA

theorem append_sound (hE : Env2Ok P E) (s : Sim2 w0 M0 N st a as w) (hd : ∀ d, o.dst = some d → d < N) {args : Array Operand} {argTypes : Array TypeId} {d : Nat} (hop : o.op = .call { callee := .builtin .append, args := args, argTypes := argTypes }) (hdst : o.dst = some d)
    {α : Type} [DecidableEq α] {k : St → Option α} {r : α} {H : Tg → St → (St → RV → Option α) → Option α} {lt : LT} (hfk : lt.fork.any (Nat.beq d) = false) (h : effR E H lt o st k = some r) : ROp P Q w0 M0 N o a as w k r := by
  obtain ⟨M, β, τ, s⟩ := s
  intro K hK
  simp only [effR, hop, hdst, hfk, cond_false, appK, withN_eq] at h
  split at h
  case h_2 => cases h
  rename_i sx x t u hargs hts
  split at h
  case h_2 => cases h
  rename_i e hty
  obtain ⟨xs, hxs, h⟩ := Option.bind_eq_some_iff.1 h
  obtain ⟨hrow, hob⟩ := dstR_ok s hxs (evR_ok s.glob s.fr _ sx)
  obtain ⟨e', hu, hle⟩ := (hE.tab _ _ hty).slice
  obtain ⟨i, hi, hsz, hz, hby⟩ := (hE.tab _ _ hle).info
  have both : ∃ ys, (bif Nat.ble 1 e.n && Nat.ble (List.length xs.1 + List.length ys) (limE E e) then k (setR (addN (newId st d) (.row e (List.append xs.1 ys)) (freeId (newId st d) (killO xs.2 st))) (some d) (.row (newId st d))) else none) = some r ∧ (1 ≤ e.n → List.length xs.1 + List.length ys ≤ limE E e → ∃ v' w', (Builtin.append_ #[t, u] o.type #[a.eval sx, a.eval x]).run P w = .ok v' w' ∧ Ext M w M w' ∧ Below w0.heap.size w w' ∧ (∀ b o, M b o → b < w'.heap.size) ∧ w.heap.size ≤ w'.heap.size ∧
      RowX (ownB w0 M0) M w' e (xs.1 ++ ys) v' ∧ (∀ b, b < w.heap.size → wob (a.eval sx) ≠ some b → w'.heap[b]? = w.heap[b]?) ∧ (∀ b, wob v' = some b → wob (a.eval sx) = some b ∨ w.heap.size ≤ b)) := by
    replace h := srcN_some h
    rcases h with ⟨n, z, hnone, heq, h12, hc, hzd, h⟩ | h
    · rw [hE.rep] at h
      refine ⟨_, h, fun hn hl0 => ?_⟩
      have hx1 : xs.1 = [] ∧ a.eval sx = .slice none 0 0 := by
        unfold dstR at hxs
        split at hxs
        · rename_i heq0
          obtain ⟨_, hxs⟩ := bif_some hxs
          cases hxs
          have hv := evR_ok s.glob s.fr (some (.slice e)) sx
          rw [heq0] at hv
          have hv : [a.eval sx] = [Value.slice none 0 0] := hv
          exact ⟨rfl, by simpa using hv⟩
        · exfalso
          split at hxs
          · obtain ⟨_, _, hxs⟩ := Option.bind_eq_some_iff.1 hxs
            cases hxs
            simp at hnone
          · cases hxs
        · exfalso
          split at hxs
          · obtain ⟨_, hxs⟩ := bif_some hxs
            obtain ⟨_, _, hxs⟩ := Option.bind_eq_some_iff.1 hxs
            cases hxs
            simp at hnone
          · cases hxs
        · cases hxs
      have hx := evR_ok s.glob s.fr (lk u E.tab) x
      rw [heq] at hx
      obtain ⟨vx, e1, hvx⟩ := hx
      have hvx : a.eval x = .int .i64 n := by
        have h3 : [a.eval x] = [vx] := e1
        obtain ⟨cs, h4, h5, _⟩ := hvx
        simp only [List.cons.injEq, and_true] at h3
        rw [h3, h4, h5]
        rfl
      rw [hx1.1, hx1.2, hvx, List.nil_append]
      obtain ⟨v', w', g1, g2, g3, g4, g5, g6, g7, g8⟩ := append_mk (t := t) (u := u) (ty := o.type) (M := M) (w := w) hu ((hE.tab _ _ (tyIs_eq hc)).int) hi hsz hz hby hn (b0 := w0.heap.size) (B := ownB w0 M0) (fun b h => s.new h) hzd h12.1 h12.2 s.mlt s.bel.size
      exact ⟨v', w', g1, g2, g3, g4, g5, g6, fun b hb _ => g7 b hb, fun b hb => .inr (g8 b hb)⟩
    · obtain ⟨ys, hys, h⟩ := Option.bind_eq_some_iff.1 h
      refine ⟨ys, h, fun hn hlim => ?_⟩
      obtain ⟨row, hsrc, hseq⟩ := srcR_ok s hE.tab hys hn (evR_ok s.glob s.fr _ x)
      have hlim := limE_ok (hE.tab _ _ hle) hi hlim
      obtain ⟨v', w', hrun, hext, hbel, hmlt, hsize, hx', hoth, hwob', _⟩ := append_x (t := t) (u := u) (ty := o.type) hu hi hsz hz hby hn (B := ownB w0 M0) (fun b h => h.1) (fun b h => s.new h) s.mlt hrow hsrc hseq hlim s.bel.size
      exact ⟨v', w', hrun, hext, hbel, hmlt, hsize, hx', hoth, hwob'⟩
  obtain ⟨ys, h, hap⟩ := both
  obtain ⟨hc, h⟩ := bif_some h
  simp only [Bool.and_eq_true] at hc
  have hn := Nat.le_of_ble_eq_true hc.1
  have hlim := Nat.le_of_ble_eq_true hc.2
  obtain ⟨v', w', hrun, hext, hbel, hmlt, hsize, hx', hoth, hwob'⟩ := hap hn hlim
  have hargs' : args = #[sx, x] := by rw [← Array.toArray_toList (xs := args), hargs]
  have hts' : argTypes = #[t, u] := by rw [← Array.toArray_toList (xs := argTypes), hts]
  have hexec : (execOp a.eval o).run P w = .ok (.value v') w' := by
    simp only [execOp, hop, resolve, pure_bind, invoke, builtin, Sem.run_bind]
    rw [hargs', hts', show Array.map a.eval #[sx, x] = #[a.eval sx, a.eval x] by simp, hrun]
    rfl
  -- the blocks of the others
  have key : ∀ (st1 : St), Sm w0 M0 N M β τ st1 a as w → (∀ j ob, lk j st1.l = some ob → (∀ i, xs.2 = some i → j ≠ i) ∧ ∃ ob0, lk j st.l = some ob0 ∧ blk β τ j ob = blk β τ j ob0) → lk (newId st d) st1.l = none →
      Sim2 w0 M0 N (setR (addN (newId st d) (.row e (List.append xs.1 ys)) st1) (some d) (.row (newId st d))) (a.put o.dst v') as w' := by
    intro st1 s1 hsub hfree
    have s2 := s1.addG (ob := .row e (xs.1 ++ ys)) (bn := (wob v').getD 0) (v := v') hfree hext (s.bel.trans hbel) hmlt s.mnew (fun b k => ⟨hoth b (s.kp b k).1.2 (fun hw => by
      obtain ⟨i', ob', h1, h2, h3⟩ := hob b hw
      exact (s.block h2 h3).2.1.2 k), fun _ h => h⟩) (fun j ob b hl hb => by
      obtain ⟨hne, ob0, hl0, hb0⟩ := hsub j ob hl
      rw [hb0] at hb
      have hlt := (s.block hl0 hb).1
      have hnw : wob (a.eval sx) ≠ some b := fun hw => by
        obtain ⟨i', ob', h1, h2, h3⟩ := hob b hw
        exact hne i' h1 (s.dj j i' ob0 ob' b hl0 h2 hb h3)
      refine ⟨hoth b hlt hnw, fun _ m => m, fun hw => ?_⟩
      rcases hwob' b hw with h | h
      · exact hnw h
      · omega) (fun β' τ' h1 h2 hm => ⟨by rw [h2]; exact hx', fun b hb => by rw [h2] at hb; rw [h1]; simp [hb]⟩)
    rw [hdst]
    refine ⟨_, _, _, s2.set (some d) (fun i hi => by cases hi; exact hd d hdst) ?_⟩
    simp only [RR, addN]
    refine ⟨rfl, v', e, xs.1 ++ ys, rfl, ?_, by simp [lk_cons], by simp⟩
    obtain ⟨_, _, _, e1, _⟩ := hx'
    rw [e1]
    rfl
  unfold Oper.wp
  rw [hexec]
  refine hK _ _ _ h (key _ ?_ ?_ (freeId_none _ _))
  · cases xs.2 with
    | none => exact s.freeId _
    | some i' => exact (s.kill i').freeId _
  · intro j ob hl
    have free : ∀ (st2 : St), lk j (freeId (newId st d) st2).l = some ob → ∃ ob0, lk j st2.l = some ob0 ∧ blk β τ j ob = blk β τ j ob0 := by
      intro st2 hl
      unfold freeId at hl
      split at hl
      · exact ⟨ob, hl, rfl⟩
      · obtain ⟨_, ob0, h1, rfl⟩ := kill_inv hl
        exact ⟨ob0, h1, blk_map _ _⟩
    obtain ⟨ob0, h1, h2⟩ := free _ hl
    cases hx2 : xs.2 with
    | none =>
      rw [hx2] at h1
      exact ⟨(fun i hi => by cases hi), ob0, h1, h2⟩
    | some i' =>
      rw [hx2] at h1
      obtain ⟨hne, ob1, h3, rfl⟩ := kill_inv h1
      exact ⟨(fun i hi => by cases hi; exact hne), ob1, h3, by rw [h2, blk_map]⟩

theorem nilQ_sound (hE : Env2Ok P E) (s : Sim2 w0 M0 N st a as w) (hd : ∀ d, o.dst = some d → d < N) {op : BinOp} {t u : TypeId} {x : Operand} {v : Value} {d : Nat} (hop : o.op = .binOp op t x (.const v) u) (hdst : o.dst = some d) {α : Type} [DecidableEq α] {k : St → Option α} {r : α} {alt : Option α}
    (h : nilQ E op t x v st (fun b => k (setR st (some d) (.val ⟨.bool, b⟩))) alt = some r) (ha : alt = some r → ROp P Q w0 M0 N o a as w k r) : ROp P Q w0 M0 N o a as w k r := by
  obtain ⟨M, β, τ, s⟩ := s
  have hx := evR_ok s.glob s.fr none x
  have he : execOp a.eval o = (do pure (Next.value (← (do eqGuard op t x (.const v) (a.eval x) v; binOp op t (a.eval x) v : Sem Value)))) := by simp only [execOp, hop]; rfl
  have key : ∀ {e : Ty} {xs : List e.den}, isNilV v = true → evR none x st.s = .val ⟨.slice e, xs⟩ → tyIs (lk t E.tab) (.slice e) = true → ∃ ad len cap, a.eval x = .slice ad len cap ∧ v = .slice none 0 0 ∧ (Op.equal t (.slice ad len cap) (.slice none 0 0)).run P w = .ok ad.isNone w ∧ (List.isEmpty xs = false → ad.isNone = false) := by
    intro e xs hn heq hc
    obtain rfl := isNil_eq hn
    obtain ⟨te, hu, _⟩ := (hE.tab _ _ (tyIs_eq hc)).slice
    rw [heq] at hx
    obtain ⟨u', e1, cs, e2, ad, cap, row, e3, g1, g2, g3, g4, g5⟩ := hx
    cases e1
    refine ⟨ad, _, cap, by rw [e2, e3]; rfl, rfl, equal_nil_sl hu ad _ _, fun hne => ?_⟩
    rcases g5 with g5 | ⟨b, o', rfl, _⟩
    · have : xs = [] := List.eq_nil_of_length_eq_zero g5
      rw [this] at hne
      simp at hne
    · rfl
  have fin : ∀ b : Bool, (do eqGuard op t x (.const v) (a.eval x) v; binOp op t (a.eval x) v : Sem Value).run P w = .ok (.bool b) w → k (setR st (some d) (.val ⟨.bool, b⟩)) = some r → ROp P Q w0 M0 N o a as w k r := by
    intro b hr hk K hK
    exact ost_run (exec_v he hr) ⟨M, β, τ, s.set (rv := .val ⟨.bool, b⟩) o.dst hd ⟨_, rfl, VOk.mk_bool⟩⟩ K fun a' w' hs => hK _ a' w' hk (by rw [← hdst]; exact hs)
  unfold nilQ at h
  split at h
  · rename_i e xs hn heq
    obtain ⟨hc, h⟩ := bif_some h
    obtain ⟨ad, len, cap, k1, rfl, k2, k3⟩ := key hn heq hc
    refine fin ad.isNone ?_ ?_
    · rw [k1]
      have e1 : binOp .eql t (.slice ad len cap) (.slice none 0 0) = (do pure (.bool (← Op.equal t (.slice ad len cap) (.slice none 0 0))) : Sem Value) := rfl
      simp only [eqGuard, Sem.run_bind, e1]
      simp [k2]
    · cases hxe : List.isEmpty xs with
      | false => rw [hxe] at h; rw [k3 hxe]; exact h
      | true =>
        rw [hxe] at h
        obtain ⟨h1, h2⟩ := bothC_some h
        cases ad.isNone with
        | true => exact h1
        | false => exact h2
  · rename_i e xs hn heq
    obtain ⟨hc, h⟩ := bif_some h
    obtain ⟨ad, len, cap, k1, rfl, k2, k3⟩ := key hn heq hc
    refine fin (!ad.isNone) ?_ ?_
    · rw [k1]
      have e1 : binOp .neq t (.slice ad len cap) (.slice none 0 0) = (do pure (.bool (!(← Op.equal t (.slice ad len cap) (.slice none 0 0)))) : Sem Value) := rfl
      simp only [eqGuard, Sem.run_bind, e1]
      simp [k2]
    · cases hxe : List.isEmpty xs with
      | false => rw [hxe] at h; rw [k3 hxe]; exact h
      | true =>
        rw [hxe] at h
        obtain ⟨h1, h2⟩ := bothC_some h
        cases ad.isNone with
        | true => exact h1
        | false => exact h2
  · exact ha h

theorem same_sound (hE : Env2Ok P E) (s : Sim2 w0 M0 N st a as w) (hd : ∀ d, o.dst = some d → d < N) {src dst : TypeId} {x : Operand} {d : Nat} (hop : o.op = .convert src dst x) (hdst : o.dst = some d) {α : Type} {k : St → Option α} {r : α} {alt : Option α}
    (h : sameR E src dst (evR (lk src E.tab) x st.s) st (fun id => k (setR st (some d) (.row id))) alt = some r) (ha : alt = some r → ROp P Q w0 M0 N o a as w k r) : ROp P Q w0 M0 N o a as w k r := by
  unfold sameR at h
  split at h
  · rename_i id hsd heq
    have hsd := Nat.eq_of_beq_eq_true hsd
    subst hsd
    split at h
    · rename_i t xs hl
      obtain ⟨hc, hz⟩ := bif_some h
      simp only [Bool.and_eq_true] at hc
      have ht := tyIs_eq hc.2.1
      cases ht
      have hlen := Nat.le_of_ble_eq_true hc.2.2
      obtain ⟨M, β, τ, s⟩ := s
      have hx := evR_ok s.glob s.fr (lk src E.tab) x
      rw [heq] at hx
      obtain ⟨t', xs', hl', hu⟩ := row_inv hx
      rw [hl] at hl'
      cases hl'
      obtain ⟨e, hu1, he⟩ := (hE.tab _ _ (tyIs_eq hc.1)).slice
      have hu8 := (hE.tab _ _ he).int
      have hob := s.ob id _ hl
      obtain ⟨⟨ad, cap, row, h0, h1, h2, h3, h4, h5⟩, h6⟩ := hob
      have hpos : 0 < cap := by omega
      obtain ⟨a0, rfl⟩ : ∃ a0, ad = some a0 := by
        cases ad with
        | none => have := h3 rfl; omega
        | some a0 => exact ⟨a0, rfl⟩
      obtain ⟨b, cur, T, rfl, g1, ⟨fz, gz, g2⟩, g3, g4, g5⟩ := h5 a0 rfl hpos
      have hblk : blk β τ id (.row (.int .u8) xs) = some b := by simp only [blk]; rw [h0]; simp [wob]; omega
      have hval : a.eval x = .slice (some ⟨b, 0, none⟩) (List.length xs) cap := by rw [hu, h0]
      have hsh : w.shape? b = some (T, cur.size) := by unfold World.shape?; rw [g2]
      have hrun : (convert src src (.slice (some ⟨b, 0, none⟩) (List.length xs) cap)).run P w = .ok (.slice (some ⟨b, 0, none⟩) (List.length xs) cap) (w.freeze ⟨b, cur.size, none⟩ 1) := by
        simp [convert, run_underlying hu1, run_underlying hu8, markStringish, hsh]
      have hblt : b < w.heap.size := (Array.getElem?_eq_some_iff.1 g2).1
      have hoth : ∀ b', b' ≠ b → (w.freeze ⟨b, cur.size, none⟩ 1).heap[b']? = w.heap[b']? := by
        intro b' hb'
        simp [World.freeze, Array.getElem?_modify, Ne.symm hb']
      have hnew : (w.freeze ⟨b, cur.size, none⟩ 1).heap[b]? = some (.cells cur T (if fz.1 == fz.2 then (cur.size, cur.size + 1) else (min fz.1 cur.size, max fz.2 (cur.size + 1)))) := by
        obtain ⟨f1, f2⟩ := fz
        simp [World.freeze, Array.getElem?_modify, g2]
      have hbel : Below b w (w.freeze ⟨b, cur.size, none⟩ 1) := ⟨rfl, rfl, rfl, by simp [World.freeze], fun k' hk => hoth k' (by omega)⟩
      have hexec : (execOp a.eval o).run P w = .ok (.value (.slice (some ⟨b, 0, none⟩) (List.length xs) cap)) (w.freeze ⟨b, cur.size, none⟩ 1) :=
        exec_v (sem := convert src src (a.eval x)) (by simp only [execOp, hop]) (by rw [hval]; exact hrun)
      have hext : Ext M w M (w.freeze ⟨b, cur.size, none⟩ 1) := by
        intro b' o m
        refine ⟨m, fun u hu => ?_⟩
        rw [World.cell?_of_block (w := w) (hoth b' fun e => by subst e; exact g5 o m)]
        exact hu
      have s2 := s.touch hl hblk hbel hoth (by
        refine ⟨⟨some ⟨b, 0, none⟩, cap, row, h0, h1, h2, h3, h4.mono fun _ _ r => r.ext hext, fun a0 ha hc => ?_⟩, h6⟩
        cases ha
        refine ⟨b, cur, T, rfl, g1, ⟨_, ?_, hnew⟩, g3, g4, g5⟩
        split
        · exact .inr (Nat.le_refl _)
        · rename_i hne
          refine .inr ?_
          rcases gz with gz | gz
          · exact absurd (by simpa using gz) hne
          · exact Nat.le_min.2 ⟨gz, Nat.le_refl _⟩)
      intro K hK
      unfold Oper.wp
      rw [hexec]
      refine hK _ _ _ hz ⟨M, β, τ, ?_⟩
      rw [hdst]
      refine s2.set (some d) (fun i hi => by cases hi; exact hd d hdst) ?_
      rw [← hval]
      exact hx
    · cases h
  · exact ha h
end
end Go.Lift
