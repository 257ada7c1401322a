/- Code, and functions. -/
import Derived.Test.YtnhiaoabhjjegaaLiftO
import Derived.LoopN
namespace Go.Lift
open Go.RowKit

/-- every slot that is written is one of the frame -/
def dstsOk (N : Nat) : Code → Bool
  | .region _ ops _ => ops.toList.all fun o => match o.dst with
    | some d => Nat.blt d N
    | none => true
  | .seq a b => dstsOk N a && dstsOk N b
  | .cond _ a b => dstsOk N a && dstsOk N b
  | .block _ c => dstsOk N c
  | .loop c => dstsOk N c
  | _ => true

section
variable {P : Program} {E : Env} {el : TypeId → Option TypeId} {w0 : World} {M0 : Own} {n : Nat}

theorem sealAll_sim : ∀ (l : List Oper) {fr : Fr} {a : Act} {w : World}, Sim P w0 M0 n fr a w → Sim P w0 M0 n (sealAll E l fr) a w
  | [], _, _, _, s => s
  | o :: r, fr, a, w, s => by
    simp only [sealAll]
    split
    · split
      · rename_i id _ _
        obtain ⟨M, β, τ, s⟩ := s
        exact sealAll_sim r (s.shutL id)
      · exact sealAll_sim r s
    · exact sealAll_sim r s

theorem Sim.drew {fr : Fr} {a : Act} {w : World} (s : Sim P w0 M0 n fr a w) : Sim P w0 M0 n fr a w.drew := by
  obtain ⟨M, β, τ, s⟩ := s
  exact ⟨M, β, τ, s.grow (Gr.drew s.mlt)⟩

theorem lk_pick {α : Type} (f : α → α) (s : List (Nat × α)) (i : Nat) : ∀ (ks : List Nat), lk i (pick f s ks) = if i ∈ ks then (lk i s).map f else none
  | [] => by simp [pick, lk]
  | k :: ks => by
    simp only [pick]
    cases hk : lk k s with
    | none =>
      simp only
      rw [lk_pick f s i ks]
      by_cases h : i = k
      · subst h; simp [hk]
      · simp [h]
    | some y =>
      simp only
      rw [lk_cons, lk_pick f s i ks]
      by_cases h : i = k
      · subst h; simp [hk]
      · simp [h]

theorem prune_sim {c : Code} {fr : Fr} {a : Act} {w : World} (s : Sim P w0 M0 n fr a w) : Sim P w0 M0 n (pruneC E c fr) a w := by
  unfold pruneC
  split
  · split
    · rename_i p _
      obtain ⟨M, β, τ, s⟩ := s
      have hs : ∀ i av, lk i (pick (keepLoc p.2) fr.s p.1) = some av → ∃ av', lk i fr.s = some av' ∧ av = keepLoc p.2 av' := fun i av h => by
        rw [lk_pick] at h
        split at h
        · obtain ⟨av', h1, h2⟩ := Option.map_eq_some_iff.1 h
          exact ⟨av', h1, h2.symm⟩
        · cases h
      have hl : ∀ i e, lk i (pick id fr.l p.2) = some e → lk i fr.l = some e := fun i e h => by
        rw [lk_pick] at h
        split at h
        · simpa using h
        · cases h
      have live : ∀ k e, Live (pick (keepLoc p.2) fr.s p.1) k e → Live fr.s k e := by
        rintro k e ⟨i, v, h⟩
        obtain ⟨av', h1, h2⟩ := hs i _ h
        refine ⟨i, v, ?_⟩
        rw [h1]
        cases av' with
        | loc id q => simp only [keepLoc] at h2; cases hb : p.2.any (Nat.beq id) <;> simp [hb] at h2
        | _ => exact congrArg some h2.symm
      exact ⟨M, β, τ, {
        df := s.df, sz := s.sz, bel := s.bel, mlt := s.mlt, mex := s.mex, gk := s.gk, mnew := s.mnew
        sl := fun i av h => by
          obtain ⟨av', h1, rfl⟩ := hs i av h
          obtain ⟨v, hv, r⟩ := s.sl i av' h1
          refine ⟨v, hv, ?_⟩
          cases av' with
          | loc id q =>
            simp only [keepLoc]
            cases hb : p.2.any (Nat.beq id) with
            | false => trivial
            | true =>
              obtain ⟨e, off, t', g1, g2, g3⟩ := r
              obtain ⟨x, hx, hbx⟩ := List.any_eq_true.1 hb
              have := Nat.eq_of_beq_eq_true hbx
              subst this
              exact ⟨e, off, t', by rw [lk_pick, if_pos hx]; simpa using g1, g2, g3⟩
          | _ => exact r
        lo := fun id e h => s.lo id e (hl id e h)
        ld := fun i j e e' h h' hb => s.ld i j e e' (hl i e h) (hl j e' h') hb
        ti := fun k e h => s.ti k e (live k e h)
        tl := fun k e id x b h hb hx => s.tl k e id x b (live k e h) hb (hl id x hx)
        tt := fun k e k' e' h h' => s.tt k e k' e' (live k e h) (live k' e' h') }⟩
    · exact s
  · exact s

theorem dsts_of {ops : Array Oper} {N : Nat} (h : (ops.toList.all fun o => match o.dst with | some d => Nat.blt d N | none => true) = true) {o : Oper} (ho : o ∈ ops.toList) : ∀ d, o.dst = some d → d < N := by
  intro d hd
  have := List.all_eq_true.1 h o ho
  simp only [hd] at this
  exact Nat.lt_of_lt_of_le (Nat.lt_succ_self _) (Nat.le_of_ble_eq_true this)

theorem den_sound (hE : EnvOk P E el) (hmx : P.follows .mixedOrders = true) (N : Nat) {α : Type} {r : α} : ∀ (c : Code), dstsOk n c = true → ∀ (kn : Fr → Option α) (kx : Nat → Fr → Option α) (kr : Fr → Option α) (Q : Exit → Act → World → Prop),
    (∀ fr a w, kn fr = some r → Sim P w0 M0 n fr a w → Q .normal a w) → (∀ j fr a w, kx j fr = some r → Sim P w0 M0 n fr a w → Q (.exit j) a w) → (∀ fr a w, kr fr = some r → Sim P w0 M0 n fr a w → Q .ret a w) →
    ∀ fr a w, den E el N c kn kx kr fr = some r → Sim P w0 M0 n fr a w → c.wp P Q a w := by
  intro c
  induction c with
  | skip => intro _ kn kx kr Q hn hx hr fr a w h s; exact wp_skip (hn fr a w h s)
  | region id ops draw =>
    intro hd kn kx kr Q hn hx hr fr a w h s
    simp only [dstsOk] at hd
    simp only [den] at h
    cases draw with
    | false =>
      simp only [cond_false] at h
      exact wp_region_list (opsK_sound hE hn _ fr a w h s fun o ho => dsts_of hd ho)
    | true =>
      simp only [cond_true] at h
      obtain ⟨hok, h⟩ := bif_some h
      refine wp_region_any hmx ?_
      exact draw_sound hE (Nat.sub_le _ _) hok (fun i o ho => dsts_of hd (Array.mem_toList_iff.2 (Array.mem_of_getElem? ho))) hn h (sealAll_sim _ s).drew
  | seq a b iha ihb =>
    intro hd kn kx kr Q hn hx hr fr ac w h s
    simp only [dstsOk, Bool.and_eq_true] at hd
    simp only [den] at h
    refine wp_seq (iha hd.1 _ kx kr _ ?_ ?_ ?_ fr ac w h s)
    · intro fr' a' w' h' s'
      exact ihb hd.2 kn kx kr Q hn hx hr _ a' w' h' (prune_sim s')
    · intro j fr' a' w' h' s'; exact hx j fr' a' w' h' s'
    · intro fr' a' w' h' s'; exact hr fr' a' w' h' s'
  | cond c x y ihx ihy =>
    intro hd kn kx kr Q hn hx hr fr a w h s
    simp only [dstsOk, Bool.and_eq_true] at hd
    simp only [den] at h
    split at h
    · rename_i t tip heq
      have hv : a.eval c = .bool t := by
        obtain ⟨M, β, τ, s⟩ := s
        exact (evT_val s heq).1.bool
      refine wp_cond hv ?_
      cases t with
      | true => exact ihx hd.1 kn kx kr Q hn hx hr fr a w h s
      | false => exact ihy hd.2 kn kx kr Q hn hx hr fr a w h s
    · cases h
  | block id c ih =>
    intro hd kn kx kr Q hn hx hr fr a w h s
    simp only [dstsOk] at hd
    simp only [den] at h
    refine wp_block (ih hd kn _ kr _ ?_ ?_ ?_ fr a w h s)
    · intro fr' a' w' h' s'; exact hn fr' a' w' h' s'
    · intro j fr' a' w' h' s'
      simp only [Exit.inBlock]
      cases hb : Nat.beq j id with
      | true =>
        have := Nat.eq_of_beq_eq_true hb
        subst this
        simp only [hb, cond_true] at h'
        simpa using hn fr' a' w' h' s'
      | false =>
        have hne : j ≠ id := fun h => by subst h; simp at hb
        simp only [hb, cond_false] at h'
        simpa [hne] using hx j fr' a' w' h' s'
    · intro fr' a' w' h' s'; exact hr fr' a' w' h' s'
  | loop c ih =>
    intro hd kn kx kr Q hn hx hr fr a w h s
    simp only [dstsOk] at hd
    simp only [den] at h
    refine wp_loop_rounds N ?_
    have key : ∀ (m : Nat) (fr : Fr) (a : Act) (w : World), iter (fun self fr => den E el N c (fun fr => self (pruneC E c fr)) kx kr fr) m fr = some r → Sim P w0 M0 n fr a w → Code.rounds P c Q m a w := by
      intro m
      induction m with
      | zero => intro fr a w h _; cases h
      | succ m ihm =>
        intro fr a w h s
        rw [rounds_succ]
        refine ih hd _ kx kr _ ?_ ?_ ?_ fr a w h s
        · intro fr' a' w' h' s'
          exact ihm _ a' w' h' (prune_sim s')
        · intro j fr' a' w' h' s'; exact hx j fr' a' w' h' s'
        · intro fr' a' w' h' s'; exact hr fr' a' w' h' s'
    exact key N _ a w h (prune_sim s)
  | exit id => intro _ kn kx kr Q hn hx hr fr a w h s; exact wp_exit (hx id fr a w h s)
  | ret => intro _ kn kx kr Q hn hx hr fr a w h s; exact wp_ret (hr fr a w h s)
  | rangeFunc _ _ _ _ => intro _ kn kx kr Q hn hx hr fr a w h s; simp [den] at h
  | scope _ => intro _ kn kx kr Q hn hx hr fr a w h s; simp [den] at h
  | label _ => intro _ kn kx kr Q hn hx hr fr a w h s; simp [den] at h
  | goto _ => intro _ kn kx kr Q hn hx hr fr a w h s; simp [den] at h
  | refuse _ => intro _ kn kx kr Q hn hx hr fr a w h s; simp [den] at h
end
end Go.Lift
