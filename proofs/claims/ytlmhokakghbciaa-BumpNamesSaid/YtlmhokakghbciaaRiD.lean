/- What is written: a part of a variable, an element of a slice of one's own, what is appended to one. -/
import Derived.Test.YtlmhokakghbciaaRiC
import Derived.Laws.AppendOwn
import Derived.Laws.CopyOwn
import Derived.Deep.AppendSrc
namespace Go.Lift
open Go.RowKit

/-- a value of a slot, as the content of cells of a type -/
def toC (t : Ty) : RV → Option RV
  | .val v => bif decide (v.1 = t) then some (.val v) else none
  | .nil e => bif decide (t = .slice e) then some (.nil e) else none
  | .agg t' r => bif decide (t' = t) then some r else none
  | .row id => bif t.isAgg then none else some (.row id)
  | .sub id lo hi => bif t.isAgg then none else some (.sub id lo hi)
  | .loc id p => bif t.isAgg then none else some (.loc id p)
  | .clo f c => bif t.isAgg then none else some (.clo f c)
  | .mp id => bif t.isAgg then none else some (.mp id)
  | .yl id => bif t.isAgg then none else some (.yl id)
  | _ => none

/-- a content, as a value of a slot -/
def ofC (t : Ty) : RV → RV
  | .pair a b => .agg t (.pair a b)
  | .unit => .agg t .unit
  | rv => rv

def explode : RV → RV
  | .val ⟨.pair a b, x⟩ => .pair (.val ⟨a, x.1⟩) (.val ⟨b, x.2⟩)
  | rv => rv

def valK {α : Type} (nv con : RV) (p : List Step) (k : RV → Option α) (alt : Option α) : Option α :=
  match nv, con with
  | .val u, .val v => (setP u v.1 v.2 p).bind fun z => k (.val ⟨v.1, z⟩)
  | _, _ => alt

def pairK {α : Type} (r : RV) (s : Step) (f : RV → RV → Option α) (g : RV → RV → Nat → Option α) : Option α :=
  match r, s with
  | .pair x y, .fld 0 => f x y
  | .pair x y, .fld (n + 1) => g x y n
  | _, _ => none

theorem pairK_inv {α : Type} {r : RV} {s : Step} {f : RV → RV → Option α} {g : RV → RV → Nat → Option α} {z : α} (h : pairK r s f g = some z) :
    (∃ x y, r = .pair x y ∧ s = .fld 0 ∧ f x y = some z) ∨ ∃ x y n, r = .pair x y ∧ s = .fld (n + 1) ∧ g x y n = some z := by
  unfold pairK at h
  split at h
  · exact .inl ⟨_, _, rfl, rfl, h⟩
  · exact .inr ⟨_, _, _, rfl, rfl, h⟩
  · cases h
theorem pairK_pc {X : Type} {r : RV} {s : Step} {f : (β : Type) → (X → Option β) → RV → RV → Option β} {g : (β : Type) → (X → Option β) → RV → RV → Nat → Option β} (hf : ∀ x y, PC (fun β k => f β k x y)) (hg : ∀ x y n, PC (fun β k => g β k x y n)) :
    PC (fun β k => pairK r s (f β k) (g β k)) := by
  intro β k z h
  rcases pairK_inv h with ⟨x, y, rfl, rfl, h⟩ | ⟨x, y, n, rfl, rfl, h⟩
  · exact hf x y β k z h
  · exact hg x y n β k z h

def setN {α : Type} (nv : RV) : Ty → (RV → Option α) → RV → List Step → Option α
  | .pair a b, k, con, p => match p with
    | [] => (toC (.pair a b) nv).bind k
    | s :: p => valK nv con (s :: p) k (pairK (explode con) s (fun x y => setN nv a (fun z => k (.pair z y)) x p) (fun x y n => setN nv b (fun z => k (.pair x z)) y (.fld n :: p)))
  | t, k, con, p => match p with
    | [] => (toC t nv).bind k
    | s :: p => valK nv con (s :: p) k none

theorem valK_pc {X : Type} {nv con : RV} {p : List Step} {g : (β : Type) → RV → (X → Option β) → Option β} {alt : (β : Type) → (X → Option β) → Option β} (h : ∀ z, PC (fun β k => g β z k)) (ha : PC alt) : PC (fun β k => valK nv con p (fun z => g β z k) (alt β k)) := by
  unfold valK
  split
  · exact PC.bind fun z => h _
  · exact ha

theorem setN_pc {nv : RV} : ∀ (t : Ty) {X : Type} {g : (β : Type) → RV → (X → Option β) → Option β} (con : RV) (p : List Step), (∀ z, PC (fun β k => g β z k)) → PC (fun β k => setN nv t (fun z => g β z k) con p) := by
  intro t
  induction t with
  | pair a b iha ihb =>
    intro X g con p h
    cases p with
    | nil => simp only [setN]; exact PC.bind h
    | cons s p =>
      simp only [setN]
      exact valK_pc (alt := fun β k => pairK (explode con) s (fun x y => setN nv a (fun z => g β (.pair z y) k) x p) (fun x y n => setN nv b (fun z => g β (.pair x z) k) y (.fld n :: p))) h
        (pairK_pc (f := fun β k x y => setN nv a (fun z => g β (.pair z y) k) x p) (g := fun β k x y n => setN nv b (fun z => g β (.pair x z) k) y (.fld n :: p)) (fun x y => iha (g := fun β z k => g β (.pair z y) k) _ _ fun z => h _) fun x y n => ihb (g := fun β z k => g β (.pair x z) k) _ _ fun z => h _)
  | _ =>
    intro X g con p h
    cases p with
    | nil => simp only [setN]; exact PC.bind h
    | cons s p => simp only [setN]; exact valK_pc (alt := fun _ _ => none) h PC.none

section
variable {M : Own} {w : World} {β : Nat → Nat} {τ : Nat → Value} {L : List (Nat × Ob)}

theorem cells_one {u : Value} (h : u.oneCell' = true) : u.cells = #[u] := by
  cases u <;> simp [Value.oneCell'] at h <;> rfl

theorem RR.cells {rv : RV} {t : Ty} {cs : List Value} (r : RR M w β τ L rv (.ce t) cs) : (toV t cs).cells = cs.toArray := by
  have hl := r.length
  have ho := r.oneCell
  by_cases h : t.isAgg = true
  · simp [toV, h, Value.cells]
  · have h1 : t.n = 1 := by cases t <;> simp [Ty.isAgg] at h <;> rfl
    rw [h1] at hl
    obtain ⟨c, rfl⟩ := List.length_eq_one_iff.1 hl
    simp only [toV, h]
    simpa using cells_one (ho c (by simp))

theorem toC_ok {t : Ty} {rv c : RV} {u : Value} (h : toC t rv = some c) (r : RR M w β τ L rv .sl [u]) : ∃ cs, u = toV t cs ∧ RR M w β τ L c (.ce t) cs := by
  have one : ∀ {u' : Value}, (bif t.isAgg then none else some rv) = some c → u' = toV t [u'] ∧ (Mo.ce t).one = true ∧ rv = c := by
    intro u' h
    obtain ⟨h1, h2⟩ := bif_some' h
    cases h2
    exact ⟨by simp [toV, h1], by simp [Mo.one, h1], rfl⟩
  cases rv with
  | val v =>
    obtain ⟨h1, h2⟩ := bif_some h
    cases h2
    obtain ⟨u', e, cs, hu, hr⟩ := r
    cases e
    have := of_decide_eq_true h1
    subst this
    exact ⟨cs, hu, .inl rfl, hr⟩
  | nil e =>
    obtain ⟨h1, h2⟩ := bif_some h
    cases h2
    have := of_decide_eq_true h1
    subst this
    have r' : [u] = [Value.slice none 0 0] := r
    cases r'
    exact ⟨[.slice none 0 0], rfl, rfl, rfl⟩
  | agg t' r' =>
    obtain ⟨h1, h2⟩ := bif_some h
    cases h2
    have := of_decide_eq_true h1
    subst this
    simp only [RR] at r
    obtain ⟨_, hag, cs, e, hr⟩ := r
    cases e
    exact ⟨cs, by simp [toV, hag], hr⟩
  | row id =>
    simp only [RR] at r
    obtain ⟨_, u', t', xs, e, r⟩ := r
    cases e
    obtain ⟨h1, h2, rfl⟩ := one (u' := u) h
    exact ⟨[u], h1, by simp only [RR]; exact ⟨h2, u, t', xs, rfl, r⟩⟩
  | sub id lo hi =>
    simp only [RR] at r
    obtain ⟨_, u', t', xs, e, r⟩ := r
    cases e
    obtain ⟨h1, h2, rfl⟩ := one (u' := u) h
    exact ⟨[u], h1, by simp only [RR]; exact ⟨h2, u, t', xs, rfl, r⟩⟩
  | loc id p =>
    simp only [RR] at r
    obtain ⟨_, u', ob, off, t', e, r⟩ := r
    cases e
    obtain ⟨h1, h2, rfl⟩ := one (u' := u) h
    exact ⟨[u], h1, by simp only [RR]; exact ⟨h2, u, ob, off, t', rfl, r⟩⟩
  | clo f c' =>
    simp only [RR] at r
    obtain ⟨_, us, e, r⟩ := r
    cases e
    obtain ⟨h1, h2, rfl⟩ := one (u' := (.func (.func f) #[] us.toArray)) h
    exact ⟨[.func (.func f) #[] us.toArray], h1, by simp only [RR]; exact ⟨h2, us, rfl, r⟩⟩
  | mp id =>
    simp only [RR] at r
    obtain ⟨_, u', kt, vt, es, e, r⟩ := r
    cases e
    obtain ⟨h1, h2, rfl⟩ := one (u' := u) h
    exact ⟨[u], h1, by simp only [RR]; exact ⟨h2, u, kt, vt, es, rfl, r⟩⟩
  | yl id =>
    simp only [RR] at r
    obtain ⟨_, u', con, q, e, r⟩ := r
    cases e
    obtain ⟨h1, h2, rfl⟩ := one (u' := u) h
    exact ⟨[u], h1, by simp only [RR]; exact ⟨h2, u, con, q, rfl, r⟩⟩
  | any => cases h
  | unit => cases h
  | pair a b => cases h
  | tup r => cases h

theorem RR.sl_of_ce {rv : RV} {t : Ty} {cs : List Value} (r : RR M w β τ L rv (.ce t) cs) : RR M w β τ L (ofC t rv) .sl [toV t cs] := by
  have one : ∀ {u : Value}, (Mo.ce t).one = true → toV t [u] = u := by intro u h; simp [Mo.one] at h; simp [toV, h]
  cases rv with
  | any => exact ⟨_, rfl⟩
  | val v =>
    obtain ⟨h | ⟨h1, h2⟩, r⟩ := r
    · subst h; exact ⟨_, rfl, cs, rfl, r⟩
    · exact ⟨_, rfl, cs, by simp [toV, h1, h2], r⟩
  | nil e => obtain ⟨rfl, rfl⟩ := r; rfl
  | row id =>
    simp only [RR, ofC] at r ⊢
    obtain ⟨h, u, t', xs, rfl, r⟩ := r
    exact ⟨rfl, u, t', xs, by rw [one h], r⟩
  | sub id lo hi =>
    simp only [RR, ofC] at r ⊢
    obtain ⟨h, u, t', xs, rfl, r⟩ := r
    exact ⟨rfl, u, t', xs, by rw [one h], r⟩
  | loc id p =>
    simp only [RR, ofC] at r ⊢
    obtain ⟨h, u, ob, off, t', rfl, r⟩ := r
    exact ⟨rfl, u, ob, off, t', by rw [one h], r⟩
  | clo f c =>
    simp only [RR, ofC] at r ⊢
    obtain ⟨h, us, rfl, r⟩ := r
    exact ⟨rfl, us, by rw [one h], r⟩
  | unit =>
    have r' := r
    obtain ⟨rfl, rfl⟩ := r
    simp only [ofC, RR]
    exact ⟨trivial, rfl, [], rfl, by simp⟩
  | pair a b =>
    have r' := r
    simp only [RR] at r
    obtain ⟨ta, tb, c1, c2, rfl, rfl, _⟩ := r
    show RR M w β τ L (.agg (.pair ta tb) (.pair a b)) .sl _
    unfold RR
    exact ⟨rfl, rfl, _, rfl, r'⟩
  | agg t' r' => simp [RR] at r
  | tup r' => simp [RR] at r
  | mp id =>
    simp only [RR, ofC] at r ⊢
    obtain ⟨h, u, kt, vt, es, rfl, r⟩ := r
    exact ⟨rfl, u, kt, vt, es, by rw [one h], r⟩
  | yl id =>
    simp only [RR, ofC] at r ⊢
    obtain ⟨h, u, con, q, rfl, r⟩ := r
    exact ⟨rfl, u, con, q, by rw [one h], r⟩

theorem explode_ok {con : RV} {t : Ty} {cs : List Value} (r : RR M w β τ L con (.ce t) cs) : RR M w β τ L (explode con) (.ce t) cs := by
  unfold explode
  split
  · have := r.val_agg (.inr rfl)
    subst this
    obtain ⟨_, c1, c2, rfl, r1, r2⟩ := r
    simp only [RR]
    exact ⟨_, _, c1, c2, rfl, rfl, ⟨.inl rfl, r1⟩, .inl rfl, r2⟩
  · exact r

theorem setN_ok {nv : RV} {u : Value} (hu : RR M w β τ L nv .sl [u]) : ∀ {ty : Ty} {con con' : RV} {p : List Step} {off : Nat} {t' : Ty} {cs : List Value}, setN nv ty some con p = some con' → offP ty p = some (off, t') → RR M w β τ L con (.ce ty) cs →
    ∃ d, u.cells = List.toArray d ∧ (∀ v ∈ d, v.oneCell' = true) ∧ ∃ c0 c1 c2, cs = c0 ++ (c1 ++ c2) ∧ c0.length = off ∧ c1.length = d.length ∧ RR M w β τ L con' (.ce ty) (c0 ++ (d ++ c2)) := by
  have atNil : ∀ {ty : Ty} {con con' : RV} {off : Nat} {t' : Ty} {cs : List Value}, setN nv ty some con [] = some con' → offP ty [] = some (off, t') → RR M w β τ L con (.ce ty) cs →
      ∃ d, u.cells = List.toArray d ∧ (∀ v ∈ d, v.oneCell' = true) ∧ ∃ c0 c1 c2, cs = c0 ++ (c1 ++ c2) ∧ c0.length = off ∧ c1.length = d.length ∧ RR M w β τ L con' (.ce ty) (c0 ++ (d ++ c2)) := by
    intro ty con con' off t' cs h ho r
    have h' : (toC ty nv).bind some = some con' := by cases ty <;> exact h
    obtain ⟨c, h1, h2⟩ := Option.bind_eq_some_iff.1 h'
    cases h2
    have ho' : offP ty [] = some (0, ty) := by cases ty <;> rfl
    rw [ho'] at ho
    cases ho
    obtain ⟨d, e, hr⟩ := toC_ok h1 hu
    exact ⟨d, by rw [e]; exact hr.cells, hr.oneCell, [], cs, [], by simp, rfl, by rw [r.length, hr.length], by simpa using hr⟩
  have atVal : ∀ {ty : Ty} {y v : TV} {con' : RV} {s : Step} {p : List Step} {off : Nat} {t' : Ty} {cs : List Value}, nv = .val y → ((setP y v.1 v.2 (s :: p)).bind fun z => some (.val ⟨v.1, z⟩)) = some con' → offP ty (s :: p) = some (off, t') → RR M w β τ L (.val v) (.ce ty) cs →
      ∃ d, u.cells = List.toArray d ∧ (∀ v ∈ d, v.oneCell' = true) ∧ ∃ c0 c1 c2, cs = c0 ++ (c1 ++ c2) ∧ c0.length = off ∧ c1.length = d.length ∧ RR M w β τ L con' (.ce ty) (c0 ++ (d ++ c2)) := by
    intro ty y v con' s p off t' cs hy h ho r
    subst hy
    obtain ⟨u', e, d, hd, hr⟩ := hu
    cases e
    have := r.val_agg (.inl (offP_agg ho))
    subst this
    have r := r.2
    obtain ⟨z, hz, h⟩ := Option.bind_eq_some_iff.1 h
    cases h
    obtain ⟨c0, c1, c2, e1, e2, e3, e4⟩ := setP_rep hr hz ho r
    exact ⟨d, by rw [hd]; exact toV_cells hr, hr.oneCell, c0, c1, c2, e1, e2, e3, .inl rfl, e4⟩
  have atAlt : ∀ {ty : Ty} {con con' : RV} {s : Step} {p : List Step} {alt : Option RV} {off : Nat} {t' : Ty} {cs : List Value}, valK nv con (s :: p) some alt = some con' → offP ty (s :: p) = some (off, t') → RR M w β τ L con (.ce ty) cs →
      alt = some con' ∨ ∃ d, u.cells = List.toArray d ∧ (∀ v ∈ d, v.oneCell' = true) ∧ ∃ c0 c1 c2, cs = c0 ++ (c1 ++ c2) ∧ c0.length = off ∧ c1.length = d.length ∧ RR M w β τ L con' (.ce ty) (c0 ++ (d ++ c2)) := by
    intro ty con con' s p alt off t' cs h ho r
    unfold valK at h
    split at h
    · exact .inr (atVal rfl h ho r)
    · exact .inl h
  intro ty
  induction ty with
  | pair a b iha ihb =>
    intro con con' p off t' cs h ho r
    cases p with
    | nil => exact atNil h ho r
    | cons s p =>
      simp only [setN] at h
      rcases atAlt h ho r with h | h
      · rcases pairK_inv h with ⟨x, y, heq2, rfl, hp⟩ | ⟨x, y, n, heq2, rfl, hp⟩
        · have re := explode_ok r
          rw [heq2] at re
          simp only [RR] at re
          obtain ⟨ta, tb, c1, c2, e, rfl, r1, r2⟩ := re
          cases e
          obtain ⟨z, h1, h2⟩ := setN_pc (nv := nv) a (X := RV) (g := fun β z k => k z) x p (fun z => PC.ret z) _ (fun z : RV => some (RV.pair z y)) _ hp
          cases h2
          simp only [offP] at ho
          obtain ⟨d, g1, g2, d0, d1, d2, e1, e2, e3, e4⟩ := iha (h1 _ some) ho r1
          refine ⟨d, g1, g2, d0, d1, d2 ++ c2, by rw [e1]; simp, e2, e3, ?_⟩
          simp only [RR]
          exact ⟨_, _, d0 ++ (d ++ d2), c2, rfl, by simp, e4, r2⟩
        · have re := explode_ok r
          rw [heq2] at re
          simp only [RR] at re
          obtain ⟨ta, tb, c1, c2, e, rfl, r1, r2⟩ := re
          cases e
          obtain ⟨z, h1, h2⟩ := setN_pc (nv := nv) b (X := RV) (g := fun β z k => k z) y (.fld n :: p) (fun z => PC.ret z) _ (fun z : RV => some (RV.pair x z)) _ hp
          cases h2
          simp only [offP, Option.bind_eq_some_iff, Option.some.injEq, Prod.mk.injEq] at ho
          obtain ⟨⟨o2, t2⟩, ho, rfl, rfl⟩ := ho
          obtain ⟨d, g1, g2, d0, d1, d2, e1, e2, e3, e4⟩ := ihb (h1 _ some) ho r2
          refine ⟨d, g1, g2, c1 ++ d0, d1, d2, by rw [e1]; simp, by simp [r1.length, e2], e3, ?_⟩
          simp only [RR]
          exact ⟨_, _, c1, d0 ++ (d ++ d2), rfl, by simp, r1, e4⟩
      · exact h
  | _ =>
    intro con con' p off t' cs h ho r
    cases p with
    | nil => exact atNil h ho r
    | cons s p =>
      simp only [setN] at h
      rcases atAlt h ho r with h | h
      · cases h
      · exact h
end
end Go.Lift
