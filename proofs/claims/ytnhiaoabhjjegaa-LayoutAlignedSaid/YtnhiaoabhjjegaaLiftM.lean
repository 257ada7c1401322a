/- Operations one behind the other, and in an order that is left open. -/
import Derived.Test.YtnhiaoabhjjegaaLiftL
namespace Go.Lift
open Go.RowKit

section
variable {P : Program} {E : Env} {el : TypeId → Option TypeId} {Q : Exit → Act → World → Prop} {w0 : World} {M0 : Own} {N : Nat}

theorem setB_eq (g : Nat) (b : Bool) : ∀ (s : List (Nat × AV)), lk g s = some (.val ⟨.bool, b⟩ .no) → setB g b s = s
  | [], h => by simp [lk] at h
  | (j, x) :: r, h => by
    simp only [setB]
    rw [lk_cons] at h
    cases hb : Nat.beq g j with
    | true =>
      have := Nat.eq_of_beq_eq_true hb
      subst this
      simp only [if_true, Option.some.injEq] at h
      simp [h]
    | false =>
      have hne : g ≠ j := fun h => by subst h; simp at hb
      rw [if_neg hne] at h
      simp [setB_eq g b r h]

theorem yielded_ok {fr : Fr} {a : Act} {w : World} {M : Own} {β : Nat → Nat} {τ : Nat → Value} (s : SimX P w0 M0 N M β τ fr a w) {ops : Array Oper} {j g : Nat} {b : Bool} {tip : Tip} (hg : (ops[j]?).bind (·.dst) = some g)
    (h : lk g fr.s = some (.val ⟨.bool, b⟩ tip)) : yielded ops a.tmps j = some b := by
  obtain ⟨v, hv, r⟩ := s.sl g _ h
  have := r.1.bool
  subst this
  simp [yielded, hg, hv]

/-- one operation, with its guard -/
def GStep (P : Program) (Q : Exit → Act → World → Prop) (ops : Array Oper) (o : Oper) (a : Act) (w : World) (K : Act → World → Prop) : Prop :=
  if Region.wanted o (yielded ops a.tmps) then o.wp P a w K Q else K (a.put o.dst undef) w

theorem opsK_cons (hE : EnvOk P E el) {ops : Array Oper} {o : Oper} {rest : List Oper} {fr : Fr} {a : Act} {w : World} {α : Type} {k : Fr → Option α} {r : α} (h : opsK E el ops (o :: rest) fr k = some r) (s : Sim P w0 M0 N fr a w)
    (hd : ∀ d, o.dst = some d → d < N) (K : Act → World → Prop) (hK : ∀ fr' a' w', opsK E el ops rest fr' k = some r → Sim P w0 M0 N fr' a' w' → K a' w') : GStep P Q ops o a w K := by
  obtain ⟨M, β, τ, s⟩ := s
  unfold GStep
  simp only [opsK] at h
  split at h
  · rename_i hg
    obtain ⟨fr', h1, h2⟩ := opK_sound (Q := Q) hE s hd h
    simp only [Region.wanted, hg, if_true]
    exact h2 K fun a' w' hs => hK fr' a' w' h1 hs
  · rename_i j want hg
    split at h
    · rename_i g hgd
      split at h
      · rename_i b hlk
        have hy := yielded_ok s hgd hlk
        have run : opK E el o fr (fun fr => opsK E el ops rest fr k) = some r → Region.wanted o (yielded ops a.tmps) = true → (if Region.wanted o (yielded ops a.tmps) then o.wp P a w K Q else K (a.put o.dst undef) w) := by
          intro h hw
          obtain ⟨fr', h1, h2⟩ := opK_sound (Q := Q) hE s hd h
          rw [if_pos hw]
          exact h2 K fun a' w' hs => hK fr' a' w' h1 hs
        have skip : opsK E el ops rest (setS fr o.dst .any) k = some r → Region.wanted o (yielded ops a.tmps) = false → (if Region.wanted o (yielded ops a.tmps) then o.wp P a w K Q else K (a.put o.dst undef) w) := by
          intro h hw
          rw [if_neg (by simp [hw])]
          exact hK _ _ _ h ⟨M, β, τ, s.set o.dst hd trivial OwnLive.any⟩
        cases b with
        | true =>
          rw [setB_eq g true fr.s hlk] at h
          cases want with
          | true => exact run h (by simp [Region.wanted, hg, hy])
          | false => exact skip h (by simp [Region.wanted, hg, hy])
        | false =>
          rw [setB_eq g false fr.s hlk] at h
          cases want with
          | true => exact skip h (by simp [Region.wanted, hg, hy])
          | false => exact run h (by simp [Region.wanted, hg, hy])
      · cases h
    · cases h

theorem opsK_sound (hE : EnvOk P E el) {ops : Array Oper} {α : Type} {k : Fr → Option α} {r : α} (hQ : ∀ fr a w, k fr = some r → Sim P w0 M0 N fr a w → Q .normal a w) : ∀ (l : List Oper) (fr : Fr) (a : Act) (w : World),
    opsK E el ops l fr k = some r → Sim P w0 M0 N fr a w → (∀ o ∈ l, ∀ d, o.dst = some d → d < N) → wpList P ops Q l a w
  | [], fr, a, w, h, s, _ => hQ fr a w h s
  | o :: rest, fr, a, w, h, s, hd => by
    refine wpList_step fun K hK => ?_
    exact opsK_cons hE h s (hd o (by simp)) K fun fr' a' w' h' s' => hK a' w' (opsK_sound hE hQ rest fr' a' w' h' s' fun o' ho' => hd o' (by simp [ho']))

/-- what an operation gives in a frame, its guard counted -/
def Eff (E : Env) (ops : Array Oper) (o : Oper) (fr : Fr) (av : AV) : Prop :=
  match o.guard with
  | none => ∀ (β : Type) (k' : AV → Option β), opV E o fr k' = k' av
  | some (j, want) => ∃ g b, (ops[j]?).bind (·.dst) = some g ∧ lk g fr.s = some (.val ⟨.bool, b⟩ .no) ∧
      if b = want then ∀ (β : Type) (k' : AV → Option β), opV E o fr k' = k' av else av = .any

def Vals (E : Env) (ops : Array Oper) : List Oper → List AV → Fr → Prop
  | [], [], _ => True
  | o :: l, av :: avs, fr => Eff E ops o fr av ∧ Vals E ops l avs (setS fr o.dst av)
  | _, _, _ => False

def after (l : List Oper) (avs : List AV) (fr : Fr) : Fr := (l.zip avs).foldl (fun fr p => setS fr p.1.dst p.2) fr

theorem opsA_vals {ops : Array Oper} {α : Type} {k : Fr → Option α} {r : α} : ∀ (l : List Oper) (fr : Fr), opsA E ops l fr k = some r → ∃ avs, Vals E ops l avs fr ∧ avs.length = l.length ∧ k (after l avs fr) = some r
  | [], fr, h => ⟨[], trivial, rfl, h⟩
  | o :: rest, fr, h => by
    simp only [opsA] at h
    have run : (opV E o fr fun av => opsA E ops rest (setS fr o.dst av) k) = some r → (∀ av, (∀ (β : Type) (k' : AV → Option β), opV E o fr k' = k' av) → Eff E ops o fr av) → ∃ avs, Vals E ops (o :: rest) avs fr ∧ avs.length = (o :: rest).length ∧ k (after (o :: rest) avs fr) = some r := by
      intro h he
      obtain ⟨av, h1, h2, h3⟩ := opV_par.out _ _ _ h
      obtain ⟨avs, g1, g2, g3⟩ := opsA_vals rest _ h3
      exact ⟨av :: avs, ⟨he av h2, g1⟩, by simp [g2], g3⟩
    have skip : opsA E ops rest (setS fr o.dst .any) k = some r → Eff E ops o fr .any → ∃ avs, Vals E ops (o :: rest) avs fr ∧ avs.length = (o :: rest).length ∧ k (after (o :: rest) avs fr) = some r := by
      intro h he
      obtain ⟨avs, g1, g2, g3⟩ := opsA_vals rest _ h
      exact ⟨.any :: avs, ⟨he, g1⟩, by simp [g2], g3⟩
    split at h
    · rename_i hg
      exact run h fun av hv => by simp only [Eff, hg]; exact hv
    · rename_i j want hg
      split at h
      · rename_i g hgd
        split at h
        · rename_i b hlk
          cases b with
          | true =>
            rw [setB_eq g true fr.s hlk] at h
            cases want with
            | true => exact run h fun av hv => by simp only [Eff, hg]; exact ⟨g, true, hgd, hlk, by simpa using hv⟩
            | false => exact skip h (by simp only [Eff, hg]; exact ⟨g, true, hgd, hlk, by simp⟩)
          | false =>
            rw [setB_eq g false fr.s hlk] at h
            cases want with
            | true => exact skip h (by simp only [Eff, hg]; exact ⟨g, false, hgd, hlk, by simp⟩)
            | false => exact run h fun av hv => by simp only [Eff, hg]; exact ⟨g, false, hgd, hlk, by simpa using hv⟩
        · cases h
      · cases h
end
end Go.Lift
