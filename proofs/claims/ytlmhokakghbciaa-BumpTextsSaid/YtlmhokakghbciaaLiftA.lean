/- The typed reading of the model's values that the lifted functions work on: what a value of a type stands for, and that it stays so while memory only grows. -/
import Derived.WalkKit
import Derived.Orders
namespace Go.Lift

inductive Ty where
  | int (k : IntKind)
  | bool
  | str
  | slice (e : Ty)
  | arr (n : Nat) (e : Ty)
  | unit
  | pair (a b : Ty)
  | ptr (e : Ty)
  | ifc
  | mp (k v : Ty)
  | fn
  | nes (e : Ty)
  deriving DecidableEq

@[reducible] def Ty.den : Ty → Type
  | .int _ => Int
  | .bool => Bool
  | .str => List Int
  | .slice e => List e.den
  | .arr _ e => List e.den
  | .unit => Unit
  | .pair a b => a.den × b.den
  | .ptr e => e.den
  | .ifc => Option (Option (Nat × Int))
  | .mp _ _ => Empty
  | .fn => Empty
  | .nes e => List e.den

/-- how many cells a value takes -/
def Ty.n : Ty → Nat
  | .int _ | .bool | .str | .slice _ | .ptr _ | .ifc | .mp _ _ | .fn | .nes _ => 1
  | .arr n e => n * e.n
  | .unit => 0
  | .pair a b => a.n + b.n

def Ty.isAgg : Ty → Bool
  | .arr _ _ | .unit | .pair _ _ => true
  | _ => false

/-- no addresses in it -/
def Ty.flat : Ty → Bool
  | .int _ | .bool | .str | .unit => true
  | .arr _ e => e.flat
  | .pair a b => a.flat && b.flat
  | .slice _ | .ptr _ | .ifc | .mp _ _ | .fn | .nes _ => false

abbrev TV := (t : Ty) × t.den

/-- the value in a slot that holds some cells -/
def toV (t : Ty) (cs : List Value) : Value := if t.isAgg then .agg cs.toArray else cs.headD undef

/-- one behind the other -/
def Seq {α : Type} (R : List Value → α → Prop) : List Value → List α → Prop
  | cs, [] => cs = []
  | cs, x :: xs => ∃ c1 c2, cs = c1 ++ c2 ∧ R c1 x ∧ Seq R c2 xs

abbrev Own := Nat → Nat → Prop

/-- cells that lie in memory, and stay -/
def Row (M : Own) (w : World) (b o : Nat) (cs : List Value) : Prop :=
  ∀ i, i < cs.length → w.cell? ⟨b, o + i, none⟩ = cs[i]? ∧ M b (o + i)

/-- what an interface holds: nothing; a number of a type; something -/
def IfcOk : Option (Option (Nat × Int)) → Value → Prop
  | none, v => v = .nilIface
  | some none, v => ∃ t u, v = .iface t u
  | some (some p), v => v = .iface p.1 (.int .i64 p.2)

def Rep (M : Own) (w : World) : (t : Ty) → List Value → t.den → Prop
  | .int k, cs, x => cs = [.int k x] ∧ k.min ≤ x ∧ x ≤ k.max
  | .bool, cs, x => cs = [.bool x]
  | .str, cs, x => ∃ s : ByteArray, cs = [.string s] ∧ x = s.data.toList.map (fun b => (b.toNat : Int)) ∧ s.size ≤ maxLen
  | .slice e, cs, xs => ∃ a cap row, cs = [.slice a (List.length xs) cap] ∧ List.length xs ≤ cap ∧ cap ≤ maxLen ∧ (a = none → cap = 0) ∧ Seq (Rep M w e) row xs ∧
      (List.length xs = 0 ∨ ∃ b o, a = some ⟨b, o, none⟩ ∧ Row M w b o row)
  | .arr n e, cs, xs => List.length xs = n ∧ Seq (Rep M w e) cs xs
  | .unit, cs, _ => cs = []
  | .pair a b, cs, x => ∃ c1 c2, cs = c1 ++ c2 ∧ Rep M w a c1 x.1 ∧ Rep M w b c2 x.2
  | .ptr e, cs, x => ∃ b o row, cs = [.pointer (some ⟨b, o, none⟩)] ∧ Row M w b o row ∧ Rep M w e row x
  | .ifc, cs, x => ∃ v, cs = [v] ∧ IfcOk x v
  | .mp _ _, _, _ => False
  | .fn, _, _ => False
  | .nes e, cs, xs => (∃ a cap row, cs = [.slice a (List.length xs) cap] ∧ List.length xs ≤ cap ∧ cap ≤ maxLen ∧ (a = none → cap = 0) ∧ Seq (Rep M w e) row xs ∧
      (List.length xs = 0 ∨ ∃ b o, a = some ⟨b, o, none⟩ ∧ Row M w b o row)) ∧ (List.length xs = 0 → cs = [.slice none 0 0])

/-- M' has all of M, and in it nothing has changed. -/
def Ext (M : Own) (w : World) (M' : Own) (w' : World) : Prop :=
  ∀ b o, M b o → M' b o ∧ (∀ v, w.cell? ⟨b, o, none⟩ = some v → w'.cell? ⟨b, o, none⟩ = some v)

theorem Ext.refl (M : Own) (w : World) : Ext M w M w := fun _ _ h => ⟨h, fun _ h => h⟩
theorem Ext.trans {M M' M'' : Own} {w w' w'' : World} (h : Ext M w M' w') (k : Ext M' w' M'' w'') : Ext M w M'' w'' :=
  fun b o m => ⟨(k b o (h b o m).1).1, fun v hv => (k b o (h b o m).1).2 v ((h b o m).2 v hv)⟩

theorem Row.ext {M M' : Own} {w w' : World} (h : Ext M w M' w') {b o : Nat} {cs : List Value} (r : Row M w b o cs) : Row M' w' b o cs :=
  fun i hi => by
    obtain ⟨r1, r2⟩ := r i hi
    refine ⟨?_, (h _ _ r2).1⟩
    rw [List.getElem?_eq_getElem hi] at r1 ⊢
    exact (h _ _ r2).2 _ r1

theorem Seq.mono {α : Type} {R R' : List Value → α → Prop} (h : ∀ cs x, R cs x → R' cs x) : ∀ {cs : List Value} {xs : List α}, Seq R cs xs → Seq R' cs xs
  | _, [], s => s
  | _, _ :: _, ⟨c1, c2, e, r, s⟩ => ⟨c1, c2, e, h _ _ r, Seq.mono h s⟩

theorem Rep.ext {M M' : Own} {w w' : World} (h : Ext M w M' w') : ∀ {t : Ty} {cs : List Value} {x : t.den}, Rep M w t cs x → Rep M' w' t cs x := by
  intro t
  induction t with
  | int k => intro cs x r; exact r
  | bool => intro cs x r; exact r
  | str => intro cs x r; exact r
  | slice e ih =>
    intro cs x r
    obtain ⟨a, cap, row, e1, e2, e3, e4, s, l⟩ := r
    exact ⟨a, cap, row, e1, e2, e3, e4, s.mono (fun _ _ r => ih r), l.imp id (fun ⟨b, o, e, r⟩ => ⟨b, o, e, r.ext h⟩)⟩
  | arr n e ih => intro cs x r; exact ⟨r.1, r.2.mono (fun _ _ r => ih r)⟩
  | unit => intro cs x r; exact r
  | pair a b iha ihb => intro cs x r; obtain ⟨c1, c2, e, r1, r2⟩ := r; exact ⟨c1, c2, e, iha r1, ihb r2⟩
  | ptr e ih => intro cs x r; obtain ⟨b, o, row, e1, r1, r2⟩ := r; exact ⟨b, o, row, e1, r1.ext h, ih r2⟩
  | ifc => intro cs x r; exact r
  | mp _ _ => intro cs x r; exact r
  | fn => intro cs x r; exact r
  | nes e ih =>
    intro cs x r
    obtain ⟨⟨a, cap, row, e1, e2, e3, e4, s, l⟩, z⟩ := r
    exact ⟨⟨a, cap, row, e1, e2, e3, e4, s.mono (fun _ _ r => ih r), l.imp id (fun ⟨b, o, e, r⟩ => ⟨b, o, e, r.ext h⟩)⟩, z⟩

theorem Seq.length {α : Type} {R : List Value → α → Prop} {n : Nat} (h : ∀ cs x, R cs x → cs.length = n) : ∀ {cs : List Value} {xs : List α}, Seq R cs xs → cs.length = xs.length * n
  | _, [], s => by simp only [Seq] at s; subst s; simp
  | _, _ :: xs, ⟨c1, c2, e, r, s⟩ => by subst e; rw [List.length_append, h _ _ r, Seq.length h s, List.length_cons, Nat.add_mul]; omega

theorem Rep.length {M : Own} {w : World} : ∀ {t : Ty} {cs : List Value} {x : t.den}, Rep M w t cs x → cs.length = t.n := by
  intro t
  induction t with
  | int k => intro cs x r; simp [r.1, Ty.n]
  | bool => intro cs x r; simp only [Rep] at r; simp [r, Ty.n]
  | str => intro cs x r; obtain ⟨s, e, _⟩ := r; simp [e, Ty.n]
  | slice e ih => intro cs x r; obtain ⟨a, cap, row, e1, _⟩ := r; simp [e1, Ty.n]
  | arr n e ih => intro cs x r; rw [r.2.length (fun _ _ r => ih r), r.1, Ty.n]
  | unit => intro cs x r; simp only [Rep] at r; simp [r, Ty.n]
  | pair a b iha ihb => intro cs x r; obtain ⟨c1, c2, e, r1, r2⟩ := r; simp [e, iha r1, ihb r2, Ty.n]
  | ptr e ih => intro cs x r; obtain ⟨b, o, row, e1, _⟩ := r; simp [e1, Ty.n]
  | ifc => intro cs x r; obtain ⟨v, e, _⟩ := r; simp [e, Ty.n]
  | mp _ _ => intro cs x r; exact r.elim
  | fn => intro cs x r; exact r.elim
  | nes e ih => intro cs x r; obtain ⟨⟨a, cap, row, e1, _⟩, _⟩ := r; simp [e1, Ty.n]

/-- the element at an index -/
theorem Seq.at {α : Type} {R : List Value → α → Prop} {n : Nat} (h : ∀ cs x, R cs x → cs.length = n) : ∀ {cs : List Value} {xs : List α} (i : Nat) {x : α}, Seq R cs xs → xs[i]? = some x →
    ∃ c0 c1 c2, cs = c0 ++ (c1 ++ c2) ∧ c0.length = i * n ∧ R c1 x
  | _, [], i, _, s, e => by simp at e
  | _, x :: xs, 0, y, ⟨c1, c2, e, r, s⟩, hy => by simp at hy; subst hy; exact ⟨[], c1, c2, by simp [e], by simp, r⟩
  | _, x :: xs, i + 1, y, ⟨c1, c2, e, r, s⟩, hy => by
    obtain ⟨d0, d1, d2, e', l, r'⟩ := Seq.at h i s (by simpa using hy)
    exact ⟨c1 ++ d0, d1, d2, by simp [e, e'], by rw [List.length_append, h _ _ r, l, Nat.add_mul]; omega, r'⟩

theorem Seq.set {α : Type} {R : List Value → α → Prop} {n : Nat} (h : ∀ cs x, R cs x → cs.length = n) : ∀ {cs : List Value} {xs : List α} (i : Nat) {c0 c1 c2 d1 : List Value} {y : α}, Seq R cs xs → i < xs.length →
    cs = c0 ++ (c1 ++ c2) → c0.length = i * n → c1.length = n → R d1 y → Seq R (c0 ++ (d1 ++ c2)) (xs.set i y)
  | _, [], i, _, _, _, _, _, s, e, _, _, _, _ => by simp at e
  | _, x :: xs, 0, c0, c1, c2, d1, y, ⟨e1, e2, e, r, s⟩, _, hc, h0, h1, hr => by
    have : c0 = [] := List.eq_nil_of_length_eq_zero (by simpa using h0)
    subst this
    simp only [List.nil_append] at hc ⊢
    have := List.append_inj (hc.symm.trans e) (by rw [h1, h _ _ r])
    rw [this.2]
    exact ⟨d1, e2, rfl, hr, s⟩
  | _, x :: xs, i + 1, c0, c1, c2, d1, y, ⟨e1, e2, e, r, s⟩, hi, hc, h0, h1, hr => by
    have hl := h _ _ r
    have hle : e1.length ≤ c0.length := by rw [hl, h0, Nat.add_mul]; omega
    have h' : c0 ++ (c1 ++ c2) = e1 ++ e2 := hc.symm.trans e
    obtain ⟨f0, rfl⟩ : ∃ f0, c0 = e1 ++ f0 := by
      refine ⟨c0.drop e1.length, ?_⟩
      have h2 : (c0 ++ (c1 ++ c2)).take e1.length = e1 := by rw [h', List.take_left]
      rw [List.take_append_of_le_length hle] at h2
      conv => lhs; rw [← List.take_append_drop e1.length c0, h2]
    rw [List.append_assoc] at h'
    have h3 := List.append_cancel_left h'
    refine ⟨e1, f0 ++ (d1 ++ c2), by simp, r, ?_⟩
    refine Seq.set h i s (by simpa using hi) h3.symm ?_ h1 hr
    rw [List.length_append, hl, Nat.add_mul] at h0
    omega

theorem Seq.append {α : Type} {R : List Value → α → Prop} : ∀ {cs ds : List Value} {xs ys : List α}, Seq R cs xs → Seq R ds ys → Seq R (cs ++ ds) (xs ++ ys)
  | _, _, [], _, s, t => by simp only [Seq] at s; subst s; exact t
  | _, _, _ :: _, _, ⟨c1, c2, e, r, s⟩, t => ⟨c1, c2 ++ _, by simp [e], r, Seq.append s t⟩

/-- a part of a sequence -/
theorem Seq.cut {α : Type} {R : List Value → α → Prop} {n : Nat} (h : ∀ cs x, R cs x → cs.length = n) : ∀ {cs : List Value} {xs : List α} (i : Nat), Seq R cs xs → i ≤ xs.length →
    ∃ c0 c1, cs = c0 ++ c1 ∧ c0.length = i * n ∧ Seq R c0 (xs.take i) ∧ Seq R c1 (xs.drop i)
  | cs, xs, 0, s, _ => ⟨[], cs, rfl, by simp, by simp [Seq], by simpa using s⟩
  | _, [], i + 1, s, hi => by simp at hi
  | _, x :: xs, i + 1, ⟨c1, c2, e, r, s⟩, hi => by
    obtain ⟨d0, d1, e', l, s0, s1⟩ := Seq.cut h i s (by simpa using hi)
    exact ⟨c1 ++ d0, d1, by simp [e, e'], by rw [List.length_append, h _ _ r, l, Nat.add_mul]; omega, ⟨c1, d0, rfl, r, s0⟩, s1⟩

theorem Row.left {M : Own} {w : World} {b o : Nat} {c0 c1 : List Value} (r : Row M w b o (c0 ++ c1)) : Row M w b o c0 := fun i hi => by
  have := r i (by simp; omega)
  rwa [List.getElem?_append_left hi] at this
theorem Row.right {M : Own} {w : World} {b o : Nat} {c0 c1 : List Value} (r : Row M w b o (c0 ++ c1)) : Row M w b (o + c0.length) c1 := fun i hi => by
  have := r (c0.length + i) (by simp; omega)
  rw [List.getElem?_append_right (by omega), show c0.length + i - c0.length = i by omega, ← Nat.add_assoc] at this
  exact this
theorem Row.append {M : Own} {w : World} {b o : Nat} {c0 c1 : List Value} (r : Row M w b o c0) (s : Row M w b (o + c0.length) c1) : Row M w b o (c0 ++ c1) := fun i hi => by
  by_cases h : i < c0.length
  · rw [List.getElem?_append_left h]; exact r i h
  · rw [List.getElem?_append_right (by omega)]
    have := s (i - c0.length) (by simp at hi; omega)
    rwa [show o + c0.length + (i - c0.length) = o + i by omega] at this

/-- flat values hold no address: their cells say all -/
theorem Rep.flat {M M' : Own} {w w' : World} : ∀ {t : Ty} {cs : List Value} {x : t.den}, t.flat = true → Rep M w t cs x → Rep M' w' t cs x := by
  intro t
  induction t with
  | int k => intro cs x _ r; exact r
  | bool => intro cs x _ r; exact r
  | str => intro cs x _ r; exact r
  | slice e ih => intro cs x h; simp [Ty.flat] at h
  | arr n e ih => intro cs x h r; exact ⟨r.1, r.2.mono (fun _ _ r => ih h r)⟩
  | unit => intro cs x _ r; exact r
  | pair a b iha ihb => intro cs x h r; simp [Ty.flat] at h; obtain ⟨c1, c2, e, r1, r2⟩ := r; exact ⟨c1, c2, e, iha h.1 r1, ihb h.2 r2⟩
  | ptr e ih => intro cs x h; simp [Ty.flat] at h
  | ifc => intro cs x h; simp [Ty.flat] at h
  | mp _ _ => intro cs x h; simp [Ty.flat] at h
  | fn => intro cs x h; simp [Ty.flat] at h
  | nes e ih => intro cs x h; simp [Ty.flat] at h

theorem IfcOk.one {x : Option (Option (Nat × Int))} {v : Value} (h : IfcOk x v) : v.oneCell' = true := by
  match x, h with
  | none, h => subst h; rfl
  | some none, ⟨t, u, h⟩ => subst h; rfl
  | some (some p), h => subst h; rfl
theorem IfcOk.cells {x : Option (Option (Nat × Int))} {v : Value} (h : IfcOk x v) : v.cells = #[v] := by
  match x, h with
  | none, h => subst h; rfl
  | some none, ⟨t, u, h⟩ => subst h; rfl
  | some (some p), h => subst h; rfl

/-- every cell is one cell -/
theorem Rep.oneCell {M : Own} {w : World} : ∀ {t : Ty} {cs : List Value} {x : t.den}, Rep M w t cs x → ∀ v ∈ cs, v.oneCell' = true := by
  have seq : ∀ {α : Type} {R : List Value → α → Prop}, (∀ cs x, R cs x → ∀ v ∈ cs, v.oneCell' = true) → ∀ {cs : List Value} {xs : List α}, Seq R cs xs → ∀ v ∈ cs, v.oneCell' = true := by
    intro α R h cs xs
    induction xs generalizing cs with
    | nil => intro s; simp only [Seq] at s; subst s; simp
    | cons x xs ih =>
      intro s v hv
      obtain ⟨c1, c2, rfl, r, s⟩ := s
      rcases List.mem_append.1 hv with hv | hv
      · exact h _ _ r v hv
      · exact ih s v hv
  intro t
  induction t with
  | int k => intro cs x r v hv; obtain ⟨rfl, _⟩ := r; simp at hv; subst hv; rfl
  | bool => intro cs x r v hv; simp only [Rep] at r; subst r; simp at hv; subst hv; rfl
  | str => intro cs x r v hv; obtain ⟨s, rfl, _⟩ := r; simp at hv; subst hv; rfl
  | slice e ih => intro cs x r v hv; obtain ⟨a, cap, row, rfl, _⟩ := r; simp at hv; subst hv; rfl
  | arr n e ih => intro cs x r; exact seq (fun _ _ r => ih r) r.2
  | unit => intro cs x r v hv; simp only [Rep] at r; subst r; simp at hv
  | pair a b iha ihb =>
    intro cs x r v hv
    obtain ⟨c1, c2, rfl, r1, r2⟩ := r
    rcases List.mem_append.1 hv with hv | hv
    · exact iha r1 v hv
    · exact ihb r2 v hv
  | ptr e ih => intro cs x r v hv; obtain ⟨b, o, row, rfl, _⟩ := r; simp at hv; subst hv; rfl
  | ifc =>
    intro cs x r v hv
    obtain ⟨u, rfl, hu⟩ := r
    simp at hv
    subst hv
    exact IfcOk.one hu
  | mp _ _ => intro cs x r; exact r.elim
  | fn => intro cs x r; exact r.elim
  | nes e ih => intro cs x r v hv; obtain ⟨⟨a, cap, row, rfl, _⟩, _⟩ := r; simp at hv; subst hv; rfl

theorem toV_cells {M : Own} {w : World} {t : Ty} {cs : List Value} {x : t.den} (r : Rep M w t cs x) : (toV t cs).cells = cs.toArray := by
  cases t with
  | int k => obtain ⟨rfl, _⟩ := r; rfl
  | bool => simp only [Rep] at r; subst r; rfl
  | str => obtain ⟨s, rfl, _⟩ := r; rfl
  | slice e => obtain ⟨a, cap, row, rfl, _⟩ := r; rfl
  | ptr e => obtain ⟨b, o, row, rfl, _⟩ := r; rfl
  | ifc => obtain ⟨v, rfl, h⟩ := r; exact h.cells
  | mp _ _ => exact r.elim
  | fn => exact r.elim
  | nes e => obtain ⟨⟨a, cap, row, rfl, _⟩, _⟩ := r; rfl
  | arr n e => rfl
  | unit => rfl
  | pair a b => rfl

end Go.Lift
