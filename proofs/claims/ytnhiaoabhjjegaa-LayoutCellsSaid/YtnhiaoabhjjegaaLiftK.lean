/- Operations that change what is known of the frame: names of rows, locals, stores. -/
import Derived.Test.YtnhiaoabhjjegaaLiftJ
import Derived.Deep.AppendSrc
namespace Go.Lift
open Go.RowKit

section
variable {P : Program} {E : Env} {el : TypeId → Option TypeId} {Q : Exit → Act → World → Prop} {o : Oper} {w0 : World} {M0 : Own} {N : Nat} {M M' : Own} {β : Nat → Nat} {τ : Nat → Value} {fr : Fr} {a : Act} {w w' : World} {av : AV}

def Sim (P : Program) (w0 : World) (M0 : Own) (N : Nat) (fr : Fr) (a : Act) (w : World) : Prop := ∃ M β τ, SimX P w0 M0 N M β τ fr a w

theorem lk_map {α β : Type} (f : α → β) (i : Nat) : ∀ (s : List (Nat × α)), lk i (s.map fun p => (p.1, f p.2)) = (lk i s).map f
  | [] => rfl
  | (j, x) :: r => by simp only [List.map_cons, lk_cons, lk_map f i r]; split <;> simp

theorem SimX.step (s : SimX P w0 M0 N M β τ fr a w) (hext : Ext M w M' w') (hbel : Below w0.heap.size w0 w') (hlt : ∀ b o, M' b o → b < w'.heap.size) (hnew : ∀ b o, M' b o → M0 b o ∨ w0.heap.size ≤ b)
    (hb1 : ∀ id e, lk id fr.l = some e → w'.heap[β id]? = w.heap[β id]? ∧ ∀ o, M' (β id) o → M (β id) o)
    (hb2 : ∀ k e b, Live fr.s k e → wb (τ k) = some b → w'.heap[b]? = w.heap[b]? ∧ ∀ o, M' b o → M b o) : SimX P w0 M0 N M' β τ fr a w' where
  df := s.df
  sz := s.sz
  bel := hbel
  mlt := hlt
  mex := fun b o m => (hext b o (s.mex b o m)).1
  gk := s.gk
  mnew := hnew
  sl := fun i av h => let ⟨v, hv, r⟩ := s.sl i av h; ⟨v, hv, r.ext hext⟩
  lo := fun id e h => by
    obtain ⟨h1, ⟨cs, T, h2, h3⟩, h4, h5⟩ := s.lo id e h
    obtain ⟨g1, g2⟩ := hb1 id e h
    exact ⟨h1, ⟨cs, T, by rw [g1]; exact h2, h3.ext hext⟩, fun m o k => h4 m o (g2 o k), fun m o l => (hext _ _ (h5 m o l)).1⟩
  ld := s.ld
  ti := fun k e h b hb => by
    obtain ⟨n, cap, cur, i, h1, h2, h3, h4, h5, h6, h7, h8⟩ := s.ti k e h b hb
    obtain ⟨g1, g2⟩ := hb2 k e b h hb
    exact ⟨n, cap, cur, i, h1, h2, by rw [g1]; exact h3, h4, h5, h6, h7, fun o ho k => h8 o ho (g2 o k)⟩
  tl := s.tl
  tt := s.tt

/-- names of rows are changed, or forgotten -/
theorem SimX.rename (s : SimX P w0 M0 N M β τ fr a w) (f : AV → AV) (τ' : Nat → Value) (g : Nat → Nat)
    (hf : ∀ av v, AOk M w β τ fr.l av v → (∃ i, lk i fr.s = some av) → AOk M w β τ' fr.l (f av) v)
    (hl : ∀ av v k e, f av = .val v (.own k e) → (∃ i, lk i fr.s = some av) → (∃ v', av = .val v' (.own (g k) e)) ∧ τ' k = τ (g k))
    (hinj : ∀ k e k' e', Live (mapS f fr).s k e → Live (mapS f fr).s k' e' → g k = g k' → k = k') : SimX P w0 M0 N M β τ' (mapS f fr) a w := by
  have live : ∀ k e, Live (mapS f fr).s k e → Live fr.s (g k) e ∧ τ' k = τ (g k) := by
    rintro k e ⟨i, v, h⟩
    simp only [mapS, lk_map, Option.map_eq_some_iff] at h
    obtain ⟨av, h1, h2⟩ := h
    obtain ⟨⟨v', rfl⟩, h4⟩ := hl av v k e h2 ⟨i, h1⟩
    exact ⟨⟨i, v', h1⟩, h4⟩
  exact {
    df := s.df, sz := s.sz, bel := s.bel, mlt := s.mlt, mex := s.mex, gk := s.gk, mnew := s.mnew, lo := s.lo, ld := s.ld
    sl := fun i av h => by
      simp only [mapS, lk_map, Option.map_eq_some_iff] at h
      obtain ⟨av', h1, rfl⟩ := h
      obtain ⟨v, hv, r⟩ := s.sl i av' h1
      exact ⟨v, hv, hf av' v r ⟨i, h1⟩⟩
    ti := fun k e h => by obtain ⟨h1, h2⟩ := live k e h; rw [h2]; exact s.ti _ _ h1
    tl := fun k e id x b h hb => by obtain ⟨h1, h2⟩ := live k e h; rw [h2] at hb; exact s.tl _ _ id x b h1 hb
    tt := fun k e k' e' h h' hne b hb => by
      obtain ⟨h1, h2⟩ := live k e h
      obtain ⟨h3, h4⟩ := live k' e' h'
      rw [h2] at hb
      rw [h4]
      exact s.tt _ _ _ _ h1 h3 (fun hg => hne (hinj k e k' e' h h' hg)) b hb }

theorem untag_val {k : Nat} {av : AV} {v : TV} {j : Nat} {e : TypeId} (h : untag k av = .val v (.own j e)) : av = .val v (.own j e) ∧ j ≠ k := by
  cases av with
  | val u tip =>
    cases tip with
    | own j' e' =>
      simp only [untag] at h
      cases hb : Nat.beq j' k with
      | true => simp [hb] at h
      | false =>
        simp only [hb, cond_false, AV.val.injEq, Tip.own.injEq] at h
        obtain ⟨rfl, rfl, rfl⟩ := h
        exact ⟨rfl, fun h => by subst h; simp at hb⟩
    | _ => simp [untag] at h
  | _ => simp [untag] at h

theorem untag_ok {k : Nat} {L : List (Nat × Bool × TV)} {v : Value} (h : AOk M w β τ L av v) : AOk M w β τ L (untag k av) v := by
  cases av with
  | val u tip =>
    cases tip with
    | own j' e' =>
      simp only [untag]
      cases Nat.beq j' k with
      | true => exact ⟨h.1, trivial⟩
      | false => exact h
    | _ => exact h
  | _ => exact h

theorem SimX.untag (s : SimX P w0 M0 N M β τ fr a w) (k : Nat) : SimX P w0 M0 N M β τ (mapS (Go.Lift.untag k) fr) a w ∧ ∀ e, ¬ Live (mapS (Go.Lift.untag k) fr).s k e := by
  refine ⟨s.rename _ τ id (fun av v h _ => untag_ok h) (fun av v j e h _ => ⟨⟨v, (untag_val h).1⟩, rfl⟩) (fun _ _ _ _ _ _ h => h), ?_⟩
  rintro e ⟨i, v, h⟩
  simp only [mapS, lk_map, Option.map_eq_some_iff] at h
  obtain ⟨av, _, h2⟩ := h
  exact (untag_val h2).2 rfl

theorem live_untag {k : Nat} {j : Nat} {e : TypeId} (h : Live (mapS (untag k) fr).s j e) : Live fr.s j e := by
  obtain ⟨i, v, h⟩ := h
  simp only [mapS, lk_map, Option.map_eq_some_iff] at h
  obtain ⟨av, h1, h2⟩ := h
  exact ⟨i, v, by rw [h1, (untag_val h2).1]⟩

theorem AOk.upd {d : Nat} {u : Value} {L : List (Nat × Bool × TV)} {v : Value} (hn : ∀ x e, av ≠ .val x (.own d e)) (h : AOk M w β τ L av v) : AOk M w β (fun k => if k = d then u else τ k) L av v := by
  cases av with
  | val x tip =>
    cases tip with
    | own k e =>
      refine ⟨h.1, ?_⟩
      have : k ≠ d := fun hk => hn x e (by rw [hk])
      simp only [TipA, if_neg this]
      exact h.2
    | _ => exact h
  | _ => exact h

/-- a slot is written with a row of its own -/
theorem SimX.setOwn (s : SimX P w0 M0 N M β τ fr a w) {d : Nat} (hd : d < N) {x : TV} {e : TypeId} {v : Value} (hv : VOk M w x.1 x.2 v) (hnl : ∀ e, ¬ Live fr.s d e) (ht : TipOk P w0 w M v e)
    (hloc : ∀ b, wb v = some b → ∀ id y, lk id fr.l = some y → β id ≠ b) (htt : ∀ b, wb v = some b → ∀ k e, Live fr.s k e → wb (τ k) ≠ some b) :
    SimX P w0 M0 N M β (fun k => if k = d then v else τ k) (setS fr (some d) (.val x (.own d e))) (a.put (some d) v) w := by
  have hd' : d < a.tmps.size := by rw [s.sz]; exact hd
  have live : ∀ k e', Live (setS fr (some d) (.val x (.own d e))).s k e' → (k = d ∧ e' = e) ∨ (k ≠ d ∧ Live fr.s k e') := by
    rintro k e' ⟨i, u, h⟩
    simp only [setS, lk_cons] at h
    split at h
    · simp only [Option.some.injEq, AV.val.injEq, Tip.own.injEq] at h; exact .inl ⟨h.2.1.symm, h.2.2.symm⟩
    · by_cases hk : k = d
      · subst hk; exact absurd ⟨i, u, h⟩ (hnl e')
      · exact .inr ⟨hk, i, u, h⟩
  exact {
    df := s.df, sz := by simp [Act.put, s.sz], bel := s.bel, mlt := s.mlt, mex := s.mex, gk := s.gk, mnew := s.mnew, lo := s.lo, ld := s.ld
    sl := fun i av h => by
      simp only [setS, lk_cons] at h
      rw [put_get hd']
      split at h
      · rename_i hi
        subst hi
        cases h
        exact ⟨v, by simp, hv, by simp [TipA]⟩
      · rename_i hi
        rw [if_neg hi]
        obtain ⟨u, hu, r⟩ := s.sl i av h
        exact ⟨u, hu, r.upd (fun z e hz => hnl e ⟨i, z, by rw [h, hz]⟩)⟩
    ti := fun k e' h => by
      rcases live k e' h with ⟨rfl, rfl⟩ | ⟨hk, h⟩
      · simpa using ht
      · simp only [if_neg hk]; exact s.ti k e' h
    tl := fun k e' id y b h hb => by
      rcases live k e' h with ⟨rfl, rfl⟩ | ⟨hk, h⟩
      · exact hloc b (by simpa using hb) id y
      · exact s.tl k e' id y b h (by simpa [hk] using hb)
    tt := fun k e1 k' e2 h h' hne b hb => by
      rcases live k e1 h with ⟨hk, _⟩ | ⟨hk, g1⟩ <;> rcases live k' e2 h' with ⟨hk', _⟩ | ⟨hk', g2⟩
      · exact absurd (hk.trans hk'.symm) hne
      · simp only [if_neg hk']; exact htt b (by simpa [hk] using hb) k' e2 g2
      · simp only [if_pos hk']
        intro hb'
        exact htt b hb' k e1 g1 (by simpa [hk] using hb)
      · simp only [if_neg hk']; exact s.tt k e1 k' e2 g1 g2 hne b (by simpa [hk] using hb) }

theorem tipOk_full {v : Value} {e : TypeId} (h : wb v = none) : TipOk P w0 w M v e := fun b hb => by rw [h] at hb; cases hb
theorem wb_full (b : Option Addr) (n : Nat) : wb (.slice b n n) = none := by
  cases b <;> simp [wb]

/-- a row gets another name -/
theorem SimX.assignOwn (s : SimX P w0 M0 N M β τ fr a w) {d j : Nat} {e : TypeId} (hd : d < N) {x : TV} {v : Value} (hv : VOk M w x.1 x.2 v) (hj : v = τ j) (hl : Live fr.s j e) :
    SimX P w0 M0 N M β (fun k => if k = d then τ j else τ k) (setS (mapS (retag j d) fr) (some d) (.val x (.own d e))) (a.put (some d) v) w := by
  have rv : ∀ {av : AV} {v : TV} {k : Nat} {e : TypeId}, retag j d av = .val v (.own k e) → (k = d ∧ av = .val v (.own j e)) ∨ (k ≠ d ∧ k ≠ j ∧ av = .val v (.own k e)) := by
    intro av v k e h
    cases av with
    | val u tip =>
      cases tip with
      | own j' e' =>
        simp only [retag] at h
        cases hb : Nat.beq j' j with
        | true =>
          have := Nat.eq_of_beq_eq_true hb
          subst this
          simp only [hb, cond_true, AV.val.injEq, Tip.own.injEq] at h
          obtain ⟨rfl, rfl, rfl⟩ := h
          exact .inl ⟨rfl, rfl⟩
        | false =>
          simp only [hb, cond_false] at h
          cases hb' : Nat.beq j' d with
          | true => simp [hb'] at h
          | false =>
            simp only [hb', cond_false, AV.val.injEq, Tip.own.injEq] at h
            obtain ⟨rfl, rfl, rfl⟩ := h
            exact .inr ⟨fun h => by subst h; simp at hb', fun h => by subst h; simp at hb, rfl⟩
      | _ => simp [retag] at h
    | _ => simp [retag] at h
  have s1 : SimX P w0 M0 N M β (fun k => if k = d then τ j else τ k) (mapS (retag j d) fr) a w := by
    refine s.rename _ _ (fun k => if k = d then j else k) ?_ ?_ ?_
    · intro av u h _
      cases av with
      | val x tip =>
        cases tip with
        | own j' e' =>
          simp only [retag]
          cases hb : Nat.beq j' j with
          | true =>
            have := Nat.eq_of_beq_eq_true hb
            subst this
            exact ⟨h.1, by simpa [TipA] using h.2⟩
          | false =>
            simp only [cond_false]
            cases hb' : Nat.beq j' d with
            | true => exact ⟨h.1, trivial⟩
            | false =>
              have : j' ≠ d := fun h => by subst h; simp at hb'
              exact ⟨h.1, by simpa [TipA, this] using h.2⟩
        | _ => exact h
      | _ => exact h
    · intro av v k e h _
      rcases rv h with ⟨g1, g2⟩ | ⟨g1, g2, g3⟩
      · exact ⟨⟨v, by simpa [g1] using g2⟩, by simp [g1]⟩
      · exact ⟨⟨v, by simpa [g1] using g3⟩, by simp [g1]⟩
    · intro k e k' e' h h' hg
      have ne : ∀ {k e}, Live (mapS (retag j d) fr).s k e → k = d ∨ (k ≠ d ∧ k ≠ j) := by
        rintro k e ⟨i, v, h⟩
        simp only [mapS, lk_map, Option.map_eq_some_iff] at h
        obtain ⟨av, _, h2⟩ := h
        rcases rv h2 with ⟨h, _⟩ | ⟨h1, h2, _⟩
        · exact .inl h
        · exact .inr ⟨h1, h2⟩
      rcases ne h with h | ⟨h1, h2⟩ <;> rcases ne h' with h' | ⟨h1', h2'⟩
      · rw [h, h']
      · simp [h, h1'] at hg; exact absurd hg.symm h2'
      · simp [h', h1] at hg; exact absurd hg h2
      · simpa [h1, h1'] using hg
  have hlive : Live (mapS (retag j d) fr).s d e := by
    obtain ⟨i, y, h⟩ := hl
    refine ⟨i, y, ?_⟩
    show lk i (fr.s.map fun p => (p.1, retag j d p.2)) = _
    rw [lk_map, h]
    simp [retag]
  exact s1.set (some d) (fun i hi => by cases hi; exact hd) ⟨hv, by simp [TipA, hj]⟩ (fun x' k' e' h => by cases h; exact hlive)

theorem lk_dropL (id j : Nat) : ∀ (l : List (Nat × Bool × TV)), lk j (dropL id l) = if j = id then none else lk j l
  | [] => by simp [dropL, lk]
  | (i, x) :: r => by
    simp only [dropL]
    cases hb : Nat.beq id i with
    | true =>
      have := Nat.eq_of_beq_eq_true hb
      subst this
      simp only [cond_true, lk_dropL id j r, lk_cons]
      split <;> rfl
    | false =>
      have : id ≠ i := fun h => by subst h; simp at hb
      simp only [cond_false, lk_cons, lk_dropL id j r]
      by_cases h1 : j = i
      · subst h1; simp [Ne.symm this]
      · simp [h1]
theorem lk_setL (id j : Nat) (v : Bool × TV) : ∀ (l : List (Nat × Bool × TV)), lk j (setL id v l) = if j = id then (lk id l).map (fun _ => v) else lk j l
  | [] => by simp [setL, lk]
  | (i, x) :: r => by
    simp only [setL]
    cases hb : Nat.beq id i with
    | true =>
      have := Nat.eq_of_beq_eq_true hb
      subst this
      simp only [cond_true, lk_cons]
      by_cases h1 : j = id
      · simp [h1]
      · simp [h1]
    | false =>
      have : id ≠ i := fun h => by subst h; simp at hb
      simp only [cond_false, lk_cons, lk_setL id j v r]
      by_cases h1 : j = i
      · subst h1; simp [Ne.symm this]
      · simp [h1, this]

/-- a new local -/
theorem SimX.newLoc (s : SimX P w0 M0 N M β τ fr a w) {d : Nat} (hd : d < N) {x : TV} {cs : List Value} {T : TypeId} (hr : Rep M w x.1 cs x.2) :
    Sim P w0 M0 N (Go.Lift.newLoc fr d x) (a.put (some d) (.pointer (some ⟨w.heap.size, 0, none⟩))) (w.alloc (.cells cs.toArray T)) := by
  have hd' : d < a.tmps.size := by rw [s.sz]; exact hd
  have g := Gr.alloc s.mlt (.cells cs.toArray T)
  have kv : ∀ {av : AV} {v : TV} {k : Nat} {e : TypeId}, killLoc d av = .val v (.own k e) → av = .val v (.own k e) := by
    intro av v k e h
    cases av with
    | loc i p => simp only [killLoc] at h; cases hb : Nat.beq i d <;> simp [hb] at h
    | _ => exact h
  have live : ∀ k e, Live (Go.Lift.newLoc fr d x).s k e → Live fr.s k e := by
    rintro k e ⟨i, v, h⟩
    simp only [Go.Lift.newLoc, mapS, lk_cons] at h
    split at h
    · cases h
    · rw [lk_map, Option.map_eq_some_iff] at h
      obtain ⟨av, h1, h2⟩ := h
      exact ⟨i, v, by rw [h1, kv h2]⟩
  have hlk : ∀ id, lk id (Go.Lift.newLoc fr d x).l = if id = d then some (true, x) else lk id fr.l := by
    intro id
    simp only [Go.Lift.newLoc, mapS, lk_cons, lk_dropL]
    split <;> simp_all
  have hβ : ∀ id e, lk id fr.l = some e → β id < w.heap.size := fun id e h => by
    obtain ⟨_, ⟨_, _, h2, _⟩, _⟩ := s.lo id e h
    exact (Array.getElem?_eq_some_iff.1 h2).1
  have hτ : ∀ k e b, Live fr.s k e → wb (τ k) = some b → b < w.heap.size := fun k e b h hb => by
    obtain ⟨_, _, _, _, _, _, h3, _⟩ := s.ti k e h b hb
    exact (Array.getElem?_eq_some_iff.1 h3).1
  have s' := s.grow g
  refine ⟨M, fun id => if id = d then w.heap.size else β id, τ, ?_⟩
  exact {
    df := s.df, sz := by simp [Act.put, s.sz], bel := s'.bel, mlt := s'.mlt, mex := s'.mex, gk := s'.gk, mnew := s'.mnew
    sl := fun i av h => by
      simp only [Go.Lift.newLoc, mapS, lk_cons] at h
      rw [put_get hd']
      split at h
      · rename_i hi
        subst hi
        cases h
        exact ⟨.pointer (some ⟨w.heap.size, 0, none⟩), by simp, (true, x), 0, x.1, by rw [hlk]; simp, by cases x.1 <;> rfl, by simp⟩
      · rename_i hi
        rw [if_neg hi]
        rw [lk_map, Option.map_eq_some_iff] at h
        obtain ⟨av', h1, rfl⟩ := h
        obtain ⟨v, hv, r⟩ := s'.sl i av' h1
        refine ⟨v, hv, ?_⟩
        cases av' with
        | loc j p =>
          simp only [killLoc]
          cases hb : Nat.beq j d with
          | true => trivial
          | false =>
            have hne : j ≠ d := fun h => by subst h; simp at hb
            obtain ⟨e, off, t', g1, g2, g3⟩ := r
            exact ⟨e, off, t', by rw [hlk, if_neg hne]; exact g1, g2, by simpa [hne] using g3⟩
        | _ => exact r
    lo := fun id e h => by
      rw [hlk] at h
      split at h
      · rename_i hi
        subst hi
        cases h
        refine ⟨by simpa using s.bel.size, ⟨cs, T, by simpa using heap_alloc_new w _, hr.ext g.ext⟩, fun _ o m => ?_, (fun hf => by cases hf)⟩
        have := s.mlt _ _ m
        simp at this
      · rename_i hi
        simpa only [if_neg hi] using s'.lo id e h
    ld := fun id id' e e' h h' hb => by
      rw [hlk] at h h'
      by_cases h1 : id = d <;> by_cases h2 : id' = d
      · rw [h1, h2]
      · rw [if_neg h2] at h'
        have := hβ id' e' h'
        simp [h1, h2] at hb
        omega
      · rw [if_neg h1] at h
        have := hβ id e h
        simp [h1, h2] at hb
        omega
      · rw [if_neg h1] at h
        rw [if_neg h2] at h'
        simp only [if_neg h1, if_neg h2] at hb
        exact s.ld id id' e e' h h' hb
    ti := fun k e h => s'.ti k e (live k e h)
    tl := fun k e id y b h hb hy => by
      rw [hlk] at hy
      by_cases h1 : id = d
      · have := hτ k e b (live k e h) hb
        simp only [h1, if_true]
        omega
      · rw [if_neg h1] at hy
        simp only [if_neg h1]
        exact s.tl k e id y b (live k e h) hb hy
    tt := fun k e k' e' h h' => s.tt k e k' e' (live k e h) (live k' e' h') }

/-- a local is from now on only read -/
theorem SimX.shutL (s : SimX P w0 M0 N M β τ fr a w) (id : Nat) : Sim P w0 M0 N (Go.Lift.shutL fr id) a w := by
  unfold Go.Lift.shutL
  cases he : lk id fr.l with
  | none => exact ⟨M, β, τ, s⟩
  | some e =>
    simp only
    obtain ⟨l1, ⟨cs, T, l2, l3⟩, l4, l5⟩ := s.lo id e he
    have hlt : β id < w.heap.size := (Array.getElem?_eq_some_iff.1 l2).1
    have hext : Ext M w (fun b o => M b o ∨ (b = β id ∧ o < e.2.1.n)) w := fun b o m => ⟨.inl m, fun _ h => h⟩
    have hlk : ∀ j, lk j (setL id (false, e.2) fr.l) = if j = id then some (false, e.2) else lk j fr.l := fun j => by
      rw [lk_setL]; split <;> simp_all
    refine ⟨fun b o => M b o ∨ (b = β id ∧ o < e.2.1.n), β, τ, ?_⟩
    exact {
      df := s.df, sz := s.sz, bel := s.bel, mex := fun b o m => .inl (s.mex b o m), gk := s.gk, ld := fun i j e1 e2 h h' hb => by
        have hs : ∀ i e1, lk i (setL id (false, e.2) fr.l) = some e1 → ∃ e1', lk i fr.l = some e1' := fun i e1 h => by
          rw [hlk] at h; split at h
          · rename_i hi; subst hi; exact ⟨e, he⟩
          · exact ⟨e1, h⟩
        obtain ⟨e1', h⟩ := hs i e1 h
        obtain ⟨e2', h'⟩ := hs j e2 h'
        exact s.ld i j e1' e2' h h' hb
      mlt := fun b o m => m.elim (s.mlt b o) (fun m => by rw [m.1]; exact hlt)
      mnew := fun b o m => m.elim (s.mnew b o) (fun m => by rw [m.1]; exact .inr l1)
      sl := fun i av h => by
        obtain ⟨v, hv, r⟩ := s.sl i av h
        refine ⟨v, hv, ?_⟩
        have r' := r.ext hext
        cases av with
        | loc j p =>
          obtain ⟨e', off, t', g1, g2, g3⟩ := r'
          by_cases hj : j = id
          · subst hj
            obtain rfl : e' = e := Option.some.inj (g1.symm.trans he)
            exact ⟨(false, e'.2), off, t', by rw [hlk]; simp, g2, g3⟩
          · exact ⟨e', off, t', by rw [hlk, if_neg hj]; exact g1, g2, g3⟩
        | _ => exact r'
      lo := fun j e' h => by
        rw [hlk] at h
        split at h
        · rename_i hj
          subst hj
          cases h
          exact ⟨l1, ⟨cs, T, l2, l3.ext hext⟩, (fun hf => by cases hf), fun _ o ho => .inr ⟨rfl, ho⟩⟩
        · rename_i hj
          obtain ⟨k1, ⟨cs', T', k2, k3⟩, k4, k5⟩ := s.lo j e' h
          refine ⟨k1, ⟨cs', T', k2, k3.ext hext⟩, fun m o hm => hm.elim (k4 m o) (fun hm => hj (s.ld j id e' e h he hm.1)), fun m o ho => .inl (k5 m o ho)⟩
      ti := fun k e' h b hb => by
        obtain ⟨n, cap, cur, i, h1, h2, h3, h4, h5, h6, h7, h8⟩ := s.ti k e' h b hb
        exact ⟨n, cap, cur, i, h1, h2, h3, h4, h5, h6, h7, fun o ho m => m.elim (h8 o ho) (fun m => s.tl k e' id e b h hb he m.1.symm)⟩
      tl := fun k e' j y b h hb hy => by
        rw [hlk] at hy
        split at hy
        · rename_i hj; subst hj; exact s.tl k e' j e b h hb he
        · exact s.tl k e' j y b h hb hy
      tt := s.tt }
end
end Go.Lift
