/- Parts of values: fields, elements; reading memory. -/
import Derived.Test.YtlmhokakghbciaaLiftF
namespace Go.Lift
open Go.RowKit

theorem addr_add (b o n : Nat) : (⟨b, o, none⟩ : Addr).add n = ⟨b, o + n, none⟩ := by
  unfold Addr.add
  split
  · rename_i h; subst h; rfl
  · rfl

theorem getP_rep {M : Own} {w : World} : ∀ {t : Ty} {cs : List Value} {x : t.den} {p : List Step} {v : TV} {off : Nat} {t' : Ty}, getP t x p = some v → offP t p = some (off, t') → Rep M w t cs x →
    v.1 = t' ∧ ∃ c0 c1 c2, cs = c0 ++ (c1 ++ c2) ∧ c0.length = off ∧ Rep M w v.1 c1 v.2 := by
  intro t
  induction t with
  | pair a b iha ihb =>
    intro cs x p v off t' hg ho r
    obtain ⟨a1, a2, rfl, ra, rb⟩ := r
    cases p with
    | nil =>
      simp only [getP, Option.some.injEq, offP, Prod.mk.injEq] at hg ho
      obtain ⟨rfl, rfl⟩ := ho; subst hg
      exact ⟨rfl, [], a1 ++ a2, [], by simp, rfl, a1, a2, rfl, ra, rb⟩
    | cons s p =>
      cases s with
      | idx i => simp [getP] at hg
      | fld n =>
        cases n with
        | zero =>
          simp only [getP, offP] at hg ho
          obtain ⟨h1, c0, c1, c2, e, h2, h3⟩ := iha hg ho ra
          exact ⟨h1, c0, c1, c2 ++ a2, by simp [e], h2, h3⟩
        | succ n =>
          simp only [getP, offP, Option.bind_eq_some_iff] at hg ho
          obtain ⟨⟨o2, t2⟩, ho, h⟩ := ho
          cases h
          obtain ⟨h1, c0, c1, c2, e, h2, h3⟩ := ihb hg ho rb
          exact ⟨h1, a1 ++ c0, c1, c2, by simp [e], by simp [ra.length, h2], h3⟩
  | arr n e ih =>
    intro cs x p v off t' hg ho r
    cases p with
    | nil =>
      simp only [getP, Option.some.injEq, offP, Prod.mk.injEq] at hg ho
      obtain ⟨rfl, rfl⟩ := ho; subst hg
      exact ⟨rfl, [], cs, [], by simp, rfl, r⟩
    | cons s p =>
      cases s with
      | fld n => cases n <;> simp [getP] at hg
      | idx i =>
        simp only [getP, offP, Option.bind_eq_some_iff] at hg ho
        split at ho
        case isFalse => cases ho
        obtain ⟨y, hy, hg⟩ := hg
        simp only [Option.bind_eq_some_iff] at ho
        obtain ⟨⟨o2, t2⟩, ho, h⟩ := ho
        cases h
        obtain ⟨d0, d1, d2, e1, hl, rd⟩ := r.2.at (fun _ _ r => r.length) i.toNat hy
        obtain ⟨h1, c0, c1, c2, e2, h2, h3⟩ := ih hg ho rd
        exact ⟨h1, d0 ++ c0, c1, c2 ++ d2, by simp [e1, e2], by simp [hl, h2], h3⟩
  | _ =>
    intro cs x p v off t' hg ho r
    cases p with
    | nil =>
      simp only [getP, Option.some.injEq, offP, Prod.mk.injEq] at hg ho
      obtain ⟨rfl, rfl⟩ := ho; subst hg
      exact ⟨rfl, [], cs, [], by simp, rfl, r⟩
    | cons s p => simp [getP] at hg

theorem TV.as_eq {t : Ty} {v : TV} {x : t.den} (h : TV.as t v = some x) : v = ⟨t, x⟩ := by
  unfold TV.as at h
  split at h
  · rename_i e
    obtain ⟨t', y⟩ := v
    simp only at e
    subst e
    cases h
    rfl
  · cases h

theorem setP_rep {M : Own} {w : World} {v : TV} {d : List Value} (rd : Rep M w v.1 d v.2) : ∀ {t : Ty} {cs : List Value} {x z : t.den} {p : List Step} {off : Nat} {t' : Ty}, setP v t x p = some z → offP t p = some (off, t') → Rep M w t cs x →
    ∃ c0 c1 c2, cs = c0 ++ (c1 ++ c2) ∧ c0.length = off ∧ c1.length = d.length ∧ Rep M w t (c0 ++ (d ++ c2)) z := by
  intro t
  induction t with
  | pair a b iha ihb =>
    intro cs x z p off t' hg ho r
    cases p with
    | nil =>
      simp only [setP, offP, Option.some.injEq, Prod.mk.injEq] at hg ho
      obtain ⟨rfl, rfl⟩ := ho
      obtain rfl := TV.as_eq hg
      exact ⟨[], cs, [], by simp, rfl, by rw [r.length, rd.length], by simpa using rd⟩
    | cons s p =>
      obtain ⟨a1, a2, rfl, ra, rb⟩ := r
      cases s with
      | idx i => simp [setP] at hg
      | fld n =>
        cases n with
        | zero =>
          simp only [setP, offP, Option.bind_eq_some_iff] at hg ho
          obtain ⟨y, hy, h⟩ := hg
          cases h
          obtain ⟨c0, c1, c2, e, h2, h3, h4⟩ := iha hy ho ra
          exact ⟨c0, c1, c2 ++ a2, by simp [e], h2, h3, c0 ++ (d ++ c2), a2, by simp, h4, rb⟩
        | succ n =>
          simp only [setP, offP, Option.bind_eq_some_iff] at hg ho
          obtain ⟨⟨o2, t2⟩, ho, h⟩ := ho
          cases h
          obtain ⟨y, hy, h⟩ := hg
          cases h
          obtain ⟨c0, c1, c2, e, h2, h3, h4⟩ := ihb hy ho rb
          exact ⟨a1 ++ c0, c1, c2, by simp [e], by simp [ra.length, h2], h3, a1, c0 ++ (d ++ c2), by simp, ra, h4⟩
  | arr n e ih =>
    intro cs x z p off t' hg ho r
    cases p with
    | nil =>
      simp only [setP, offP, Option.some.injEq, Prod.mk.injEq] at hg ho
      obtain ⟨rfl, rfl⟩ := ho
      obtain rfl := TV.as_eq hg
      exact ⟨[], cs, [], by simp, rfl, by rw [r.length, rd.length], by simpa using rd⟩
    | cons s p =>
      cases s with
      | fld n => cases n <;> simp [setP] at hg
      | idx i =>
        simp only [offP] at ho
        split at ho
        case isFalse => cases ho
        rename_i hi
        simp only [Option.bind_eq_some_iff] at ho
        obtain ⟨⟨o2, t2⟩, ho, h⟩ := ho
        cases h
        have hlt : i.toNat < List.length x := by rw [r.1]; omega
        obtain ⟨d0, d1, d2, e1, hl, r1⟩ := r.2.at (fun _ _ r => r.length) i.toNat (List.getElem?_eq_getElem hlt)
        have hd1 := r1.length
        cases p with
        | nil =>
          simp only [setP, Option.bind_eq_some_iff, offP, Option.some.injEq, Prod.mk.injEq] at hg ho
          obtain ⟨rfl, rfl⟩ := ho
          obtain ⟨y, hy, h⟩ := hg
          cases h
          obtain rfl := TV.as_eq hy
          refine ⟨d0, d1, d2, e1, by simp [hl], by rw [hd1, rd.length], ?_, ?_⟩
          · show (List.set x i.toNat y).length = n
            rw [List.length_set]; exact r.1
          · exact r.2.set (fun _ _ r => r.length) i.toNat hlt e1 hl hd1 rd
        | cons s p =>
          simp only [setP, Option.bind_eq_some_iff] at hg
          obtain ⟨y, hy, y', hy', h⟩ := hg
          cases h
          have hy2 : x[i.toNat] = y := by rw [nth, List.getElem?_eq_getElem hlt] at hy; exact Option.some.inj hy
          obtain ⟨c0, c1, c2, e2, h2, h3, h4⟩ := ih hy' ho (hy2 ▸ r1)
          refine ⟨d0 ++ c0, c1, c2 ++ d2, by simp [e1, e2], by simp [hl, h2], h3, ?_, ?_⟩
          · show (List.set x i.toNat y').length = n
            rw [List.length_set]; exact r.1
          · have := r.2.set (fun _ _ r => r.length) i.toNat hlt e1 hl hd1 h4
            simpa using this
  | _ =>
    intro cs x z p off t' hg ho r
    cases p with
    | nil =>
      simp only [setP, offP, Option.some.injEq, Prod.mk.injEq] at hg ho
      obtain ⟨rfl, rfl⟩ := ho
      obtain rfl := TV.as_eq hg
      exact ⟨[], cs, [], by simp, rfl, by rw [r.length, rd.length], by simpa using rd⟩
    | cons s p => simp [setP] at hg

theorem offP_typP : ∀ {t : Ty} {p : List Step} {off : Nat} {t' : Ty}, offP t p = some (off, t') → typP t p = some t' := by
  intro t
  induction t with
  | pair a b iha ihb =>
    intro p off t' h
    cases p with
    | nil => simp only [offP, Option.some.injEq, Prod.mk.injEq] at h; simp [typP, h.2]
    | cons s p =>
      cases s with
      | idx i => simp [offP] at h
      | fld n =>
        cases n with
        | zero => simp only [offP] at h; simp only [typP]; exact iha h
        | succ n =>
          simp only [offP, Option.bind_eq_some_iff] at h
          obtain ⟨⟨o, u⟩, h, e⟩ := h
          cases e
          simp only [typP]; exact ihb h
  | arr n e ih =>
    intro p off t' h
    cases p with
    | nil => simp only [offP, Option.some.injEq, Prod.mk.injEq] at h; simp [typP, h.2]
    | cons s p =>
      cases s with
      | fld n => cases n <;> simp [offP] at h
      | idx i =>
        simp only [offP] at h
        split at h
        case isFalse => cases h
        simp only [Option.bind_eq_some_iff] at h
        obtain ⟨⟨o, u⟩, h, e⟩ := h
        cases e
        simp only [typP]; exact ih h
  | _ =>
    intro p off t' h
    cases p with
    | nil => simp only [offP, Option.some.injEq, Prod.mk.injEq] at h; simp [typP, h.2]
    | cons s p => simp [offP] at h

theorem offP_snoc {s : Step} : ∀ {t : Ty} {p : List Step} {off o2 : Nat} {t' t2 : Ty}, offP t p = some (off, t') → offP t' [s] = some (o2, t2) → offP t (p ++ [s]) = some (off + o2, t2) := by
  intro t
  induction t with
  | pair a b iha ihb =>
    intro p off o2 t' t2 h h2
    cases p with
    | nil => simp only [offP, Option.some.injEq, Prod.mk.injEq] at h; obtain ⟨rfl, rfl⟩ := h; simpa using h2
    | cons s' p =>
      cases s' with
      | idx i => simp [offP] at h
      | fld n =>
        cases n with
        | zero => simp only [offP, List.cons_append] at h ⊢; exact iha h h2
        | succ n =>
          simp only [offP, Option.bind_eq_some_iff, List.cons_append] at h ⊢
          obtain ⟨⟨o, u⟩, h, e⟩ := h
          cases e
          exact ⟨(o + o2, t2), ihb h h2, by simp [Nat.add_assoc]⟩
  | arr n e ih =>
    intro p off o2 t' t2 h h2
    cases p with
    | nil => simp only [offP, Option.some.injEq, Prod.mk.injEq] at h; obtain ⟨rfl, rfl⟩ := h; simpa using h2
    | cons s' p =>
      cases s' with
      | fld n => cases n <;> simp [offP] at h
      | idx i =>
        simp only [offP, List.cons_append] at h ⊢
        split at h
        case isFalse => cases h
        rename_i hi
        rw [if_pos hi]
        simp only [Option.bind_eq_some_iff] at h ⊢
        obtain ⟨⟨o, u⟩, h, e⟩ := h
        cases e
        exact ⟨(o + o2, t2), ih h h2, by simp [Nat.add_assoc]⟩
  | _ =>
    intro p off o2 t' t2 h h2
    cases p with
    | nil => simp only [offP, Option.some.injEq, Prod.mk.injEq] at h; obtain ⟨rfl, rfl⟩ := h; simpa using h2
    | cons s' p => simp [offP] at h

theorem fieldTV_getP : ∀ {t : Ty} {x : t.den} {f : Nat} {v : TV}, fieldTV t x f = some v → getP t x [.fld f] = some v ∧ fieldTy t f = some v.1 := by
  intro t
  induction t with
  | pair a b iha ihb =>
    intro x f v h
    cases f with
    | zero =>
      simp only [fieldTV, Option.some.injEq] at h
      subst h
      exact ⟨by simp only [getP], rfl⟩
    | succ f => simp only [fieldTV] at h; simp only [getP, fieldTy]; exact ihb h
  | _ => intro x f v h; simp [fieldTV] at h

section
variable {P : Program} {tab : List (TypeId × Ty)}

theorem okFs_at : ∀ {t : Ty} {fs : List Field} {off f : Nat} {a : Ty}, okU.okFs tab fs off t = true → fieldTy t f = some a →
    ∃ fd k, fs[f]? = some fd ∧ lk fd.type tab = some a ∧ offP t [.fld f] = some (k, a) ∧ fd.offset = off + k ∧ 0 < a.n := by
  intro t
  induction t with
  | pair a b iha ihb =>
    intro fs off f c h hf
    cases fs with
    | nil => simp [okU.okFs] at h
    | cons fd fs =>
      simp only [okU.okFs, Bool.and_eq_true, decide_eq_true_eq, beq_iff_eq, bne_iff_ne] at h
      obtain ⟨⟨⟨⟨h1, h2⟩, h3⟩, h4⟩, h5⟩ := h
      cases f with
      | zero =>
        simp only [fieldTy, Option.some.injEq] at hf
        subst hf
        exact ⟨fd, 0, by simp, h1, by simp only [offP], by simp [h2], h3⟩
      | succ f =>
        simp only [fieldTy] at hf
        obtain ⟨fd', k, g1, g2, g3, g4, g5⟩ := ihb h5 hf
        exact ⟨fd', a.n + k, by simpa using g1, g2, by simp only [offP]; rw [g3]; rfl, by rw [g4]; omega, g5⟩
  | _ => intro fs off f a h hf; simp [fieldTy] at hf

theorem TOk.fields {tid : TypeId} {t : Ty} {f : Nat} {a : Ty} (h : TOk P tab tid t) (hf : fieldTy t f = some a) :
    ∃ fs fd k, P.underlying tid = some (.struct fs) ∧ fs[f]? = some fd ∧ lk fd.type tab = some a ∧ offP t [.fld f] = some (k, a) ∧ fd.offset = k ∧ 0 < a.n := by
  cases t with
  | pair b c =>
    obtain ⟨fs, hu, ⟨hfs, _⟩, _⟩ := h.pair
    obtain ⟨fd, k, g1, g2, g3, g4, g5⟩ := okFs_at hfs hf
    exact ⟨fs, fd, k, hu, by simpa using g1, g2, g3, by simpa using g4, g5⟩
  | _ => simp [fieldTy] at hf

/-- a load of a variable -/
theorem load_run {tid : TypeId} {t : Ty} (h : TOk P tab tid t) {M : Own} {w w' : World} {b o : Nat} {row : List Value} {x : t.den} (hr : ∀ i, i < row.length → w.cell? ⟨b, o + i, none⟩ = row[i]?) (r : Rep M w' t row x) :
    (Instr.loadAt tid (.pointer (some ⟨b, o, none⟩))).run P w = .ok (toV t row) w := by
  have hl := r.length
  simp only [Instr.loadAt, Instr.sureAddr, Sem.run_bind, Sem.run_pure, Result.andThen_ok, loadVar, h.isAgg]
  cases ha : t.isAgg with
  | true =>
    have hc : (loadCells ⟨b, o, none⟩ row.length).run P w = .ok row.toArray w :=
      run_loadCells_list w ⟨b, o, none⟩ row (fun j v hv => by
        have hj : j < row.length := (List.getElem?_eq_some_iff.1 hv).1
        rw [addr_add, hr j hj, hv])
    simp only [if_true, Sem.run_bind, h.sizeOf, Result.andThen_ok, ← hl, hc, Sem.run_pure, toV, ha]
  | false =>
    have : t.n = 1 := by cases t <;> simp [Ty.isAgg] at ha <;> rfl
    rw [this] at hl
    obtain ⟨v, rfl⟩ := List.length_eq_one_iff.1 hl
    have := hr 0 (by simp)
    simp at this
    simp [toV, ha, this]
end
end Go.Lift
