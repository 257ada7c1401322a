/- Operands and constants; what the table of types says. -/
import Derived.Test.YtlmhokakghbciaaLiftC
namespace Go.Lift
open Go.RowKit

theorem readSeq_rep {α : Type} {f : List Value → Option α} {R : List Value → α → Prop} {n : Nat} (hf : ∀ cs x, f cs = some x → R cs x) : ∀ (k : Nat) {cs : List Value} {xs : List α}, readSeq f n k cs = some xs → xs.length = k ∧ Seq R cs xs
  | 0, [], xs, h => by simp [readSeq] at h; subst h; exact ⟨rfl, rfl⟩
  | 0, _ :: _, xs, h => by simp [readSeq] at h
  | k + 1, cs, xs, h => by
    simp only [readSeq, Option.bind_eq_some_iff] at h
    obtain ⟨x, hx, ys, hy, h⟩ := h
    cases h
    obtain ⟨l, s⟩ := readSeq_rep hf k hy
    exact ⟨by simp [l], cs.take n, cs.drop n, by simp, hf _ _ hx, s⟩

theorem readC_rep {M : Own} {w : World} : ∀ {t : Ty} {cs : List Value} {x : t.den}, readC t cs = some x → Rep M w t cs x := by
  intro t
  induction t with
  | int k =>
    intro cs x h
    simp only [readC] at h
    unfold rdInt at h
    split at h
    · split at h
      · rename_i hk; cases h; obtain ⟨rfl, h1, h2⟩ := hk; exact ⟨rfl, h1, h2⟩
      · cases h
    · cases h
  | bool =>
    intro cs x h
    simp only [readC] at h
    unfold rdBool at h
    split at h
    · cases h; rfl
    · cases h
  | str =>
    intro cs x h
    simp only [readC] at h
    unfold rdStr at h
    split at h
    · split at h
      · rename_i hk; cases h; exact ⟨_, rfl, rfl, hk⟩
      · cases h
    · cases h
  | slice e ih =>
    intro cs x h
    simp only [readC] at h
    unfold rdNil at h
    split at h
    case h_2 => cases h
    cases h
    exact ⟨none, 0, [], rfl, by simp, by simp [maxLen], (fun _ => rfl), rfl, .inl rfl⟩
  | arr n e ih =>
    intro cs x h
    simp only [readC] at h
    exact readSeq_rep (R := Rep M w e) (fun _ _ h => ih h) n h
  | unit =>
    intro cs x h
    simp only [readC] at h
    unfold rdUnit at h
    split at h
    · rfl
    · cases h
  | pair a b iha ihb =>
    intro cs x h
    simp only [readC, Option.bind_eq_some_iff] at h
    obtain ⟨y, hy, z, hz, h⟩ := h
    cases h
    exact ⟨_, _, (List.take_append_drop a.n cs).symm, iha hy, ihb hz⟩
  | ptr e ih =>
    intro cs x h
    simp [readC] at h
  | ifc =>
    intro cs x h
    simp only [readC] at h
    unfold rdIfc at h
    split at h
    · cases h; exact ⟨_, rfl, rfl⟩
    · cases h
  | mp _ _ => intro cs x h; simp [readC] at h
  | fn => intro cs x h; simp [readC] at h
  | nes e ih =>
    intro cs x h
    simp only [readC] at h
    unfold rdNil at h
    split at h
    case h_2 => cases h
    cases h
    exact ⟨⟨none, 0, [], rfl, by simp, by simp [maxLen], (fun _ => rfl), rfl, .inl rfl⟩, fun _ => rfl⟩

theorem toV_kind {t : Ty} {v : Value} (h : kindOk t v = true) {M : Own} {w : World} {x : t.den} (r : Rep M w t v.cells.toList x) : v = toV t v.cells.toList := by
  have hl := r.length
  cases v <;> simp [kindOk] at h <;> simp [toV, h, Value.cells]

theorem readC_ok {M : Own} {w : World} {t : Ty} {v : Value} {x : t.den} (hk : kindOk t v = true) (h : readC t v.cells.toList = some x) : VOk M w t x v :=
  ⟨v.cells.toList, toV_kind hk (readC_rep (M := M) (w := w) h), readC_rep h⟩

section
variable {P : Program} {w0 : World} {M0 : Own} {N : Nat} {M : Own} {β : Nat → Nat} {τ : Nat → Value} {fr : Fr} {a : Act} {w : World}

theorem SimX.tmp (s : SimX P w0 M0 N M β τ fr a w) {i : Nat} {av : AV} (h : lk i fr.s = some av) : AOk M w β τ fr.l av (a.eval (.tmp i)) := by
  obtain ⟨v, hv, r⟩ := s.sl i av h
  have : a.eval (.tmp i) = v := by simp [Act.eval, hv]
  rw [this]; exact r

theorem GlOk.ext {M M' : Own} {w w' : World} (h : Ext M w M' w') (hb : Below w.heap.size w w') (k : GlOk M w) : GlOk M' w' := ⟨fun g v hg => by
  obtain ⟨cs, T, fz, h1, h2, h3⟩ := k.1 g v hg
  exact ⟨cs, T, fz, by rw [hb.block g (Array.getElem?_eq_some_iff.1 h1).1]; exact h1, h2.ext h, fun o ho => (h g o (h3 o ho)).1⟩, fun g hg => by
  obtain ⟨m, h1, h2⟩ := k.2 g hg
  exact ⟨m, (h _ _ h2).2 _ h1, (h _ _ h2).1⟩⟩
theorem GlOk.val {M : Own} {w : World} (k : GlOk M w) {g : Nat} {v : TV} (hg : lk g glTab = some v) : VOk M w (.ptr v.1) v.2 (.pointer (some ⟨g, 0, none⟩)) := by
  obtain ⟨cs, T, fz, h1, h2, h3⟩ := k.1 g v hg
  exact ⟨[_], rfl, g, 0, cs, rfl, fun i hi => ⟨by rw [cell_of_row _ _ _ _ _ _ h1]; simp, by rw [Nat.zero_add]; exact h3 i hi⟩, h2⟩
theorem SimX.glob (s : SimX P w0 M0 N M β τ fr a w) : GlOk M w :=
  s.gk.ext (fun b o m => ⟨s.mex b o m, fun v hv => by rw [s.bel.cell (p := ⟨b, o, none⟩) (cell_lt hv)]; exact hv⟩) s.bel

theorem evT_ok (s : SimX P w0 M0 N M β τ fr a w) (ty : Option Ty) (x : Operand) : AOk M w β τ fr.l (evT ty x fr) (a.eval x) := by
  unfold evT
  split
  · rename_i i
    cases h : lk i fr.s with
    | none => trivial
    | some av => exact s.tmp h
  · rename_i v
    split
    · split
      · rename_i t _ y hk hr
        refine ⟨readC_ok hk hr, ?_⟩
        unfold ctip
        split
        · exact ⟨none, 0, rfl⟩
        · trivial
      · trivial
    · trivial
  · split
    · rename_i g _ v hg
      exact ⟨s.glob.val hg, trivial⟩
    · trivial
  · trivial

theorem evT_live {ty : Option Ty} {x : Operand} {v : TV} {k : Nat} {e : TypeId} (h : evT ty x fr = .val v (.own k e)) : Live fr.s k e := by
  unfold evT at h
  split at h
  · rename_i i
    cases hl : lk i fr.s with
    | none => simp [hl] at h
    | some av => exact ⟨i, v, by rw [hl]; simpa [hl] using h⟩
  · split at h
    · split at h
      · rename_i u _ _ _ _ _
        simp only [AV.val.injEq] at h
        have := h.2
        unfold ctip at this
        split at this <;> cases this
      · cases h
    · cases h
  · split at h <;> cases h
  · cases h

theorem evT_val (s : SimX P w0 M0 N M β τ fr a w) {ty : Option Ty} {x : Operand} {v : TV} {tip : Tip} (h : evT ty x fr = .val v tip) : VOk M w v.1 v.2 (a.eval x) ∧ TipA τ tip (a.eval x) := by
  have := evT_ok s ty x
  rw [h] at this
  exact this

theorem evT_loc (s : SimX P w0 M0 N M β τ fr a w) {ty : Option Ty} {x : Operand} {id : Nat} {p : List Step} (h : evT ty x fr = .loc id p) :
    ∃ e off t', lk id fr.l = some e ∧ offP e.2.1 p = some (off, t') ∧ a.eval x = .pointer (some ⟨β id, off, none⟩) := by
  have := evT_ok s ty x
  rw [h] at this
  exact this

theorem evT_tup (s : SimX P w0 M0 N M β τ fr a w) {ty : Option Ty} {x : Operand} {l : List TV} (h : evT ty x fr = .tup l) : AOk M w β τ fr.l (.tup l) (a.eval x) := by
  have := evT_ok s ty x
  rwa [h] at this
end

/-- values of some types, as they stand in a slot -/
theorem VOk.int {M : Own} {w : World} {k : IntKind} {x : Int} {v : Value} (h : VOk M w (.int k) x v) : v = .int k x ∧ k.min ≤ x ∧ x ≤ k.max := by
  obtain ⟨cs, e, r⟩ := h
  obtain ⟨rfl, r⟩ := r
  exact ⟨e, r⟩
theorem VOk.bool {M : Own} {w : World} {x : Bool} {v : Value} (h : VOk M w .bool x v) : v = .bool x := by
  obtain ⟨cs, e, r⟩ := h
  simp only [Rep] at r
  subst r
  exact e
theorem VOk.str {M : Own} {w : World} {x : List Int} {v : Value} (h : VOk M w .str x v) : ∃ s : ByteArray, v = .string s ∧ x = s.data.toList.map (fun b => (b.toNat : Int)) ∧ s.size ≤ maxLen := by
  obtain ⟨cs, e, r⟩ := h
  obtain ⟨s, rfl, r⟩ := r
  exact ⟨s, e, r⟩
theorem VOk.slice {M : Own} {w : World} {t : Ty} {xs : List t.den} {v : Value} (h : VOk M w (.slice t) xs v) :
    ∃ a cap row, v = .slice a xs.length cap ∧ xs.length ≤ cap ∧ cap ≤ maxLen ∧ (a = none → cap = 0) ∧ Seq (Rep M w t) row xs ∧ (List.length xs = 0 ∨ ∃ b o, a = some ⟨b, o, none⟩ ∧ Row M w b o row) := by
  obtain ⟨cs, e, r⟩ := h
  obtain ⟨a, cap, row, rfl, r⟩ := r
  exact ⟨a, cap, row, e, r⟩
theorem VOk.ptr {M : Own} {w : World} {t : Ty} {x : t.den} {v : Value} (h : VOk M w (.ptr t) x v) :
    ∃ b o row, v = .pointer (some ⟨b, o, none⟩) ∧ Row M w b o row ∧ Rep M w t row x := by
  obtain ⟨cs, e, r⟩ := h
  obtain ⟨b, o, row, rfl, r⟩ := r
  exact ⟨b, o, row, e, r⟩
theorem VOk.ifc {M : Own} {w : World} {x : Option (Option (Nat × Int))} {v : Value} (h : VOk M w .ifc x v) : IfcOk x v := by
  obtain ⟨cs, e, r⟩ := h
  obtain ⟨u, rfl, r⟩ := r
  have : v = u := e
  rw [this]; exact r
theorem VOk.mk_ifc {M : Own} {w : World} {x : Option (Option (Nat × Int))} {v : Value} (h : IfcOk x v) : VOk M w .ifc x v := ⟨[v], rfl, v, rfl, h⟩
theorem VOk.agg {M : Own} {w : World} {t : Ty} (ht : t.isAgg = true) {x : t.den} {v : Value} (h : VOk M w t x v) : ∃ cs, v = .agg (List.toArray cs) ∧ Rep M w t cs x := by
  obtain ⟨cs, e, r⟩ := h
  exact ⟨cs, by rw [e, toV, if_pos ht], r⟩

theorem VOk.mk_int {M : Own} {w : World} {k : IntKind} {x : Int} (h : k.min ≤ x ∧ x ≤ k.max) : VOk M w (.int k) x (.int k x) := ⟨_, rfl, rfl, h⟩
theorem VOk.mk_bool {M : Own} {w : World} {x : Bool} : VOk M w .bool x (.bool x) := ⟨_, rfl, rfl⟩

theorem wrap_range (k : IntKind) (n : Int) : k.min ≤ k.wrap n ∧ k.wrap n ≤ k.max := by
  cases k <;> simp [IntKind.min, IntKind.max, IntKind.wrap, IntKind.signed, IntKind.bits] <;> (try split) <;> omega

/-- what is known of a type by its number -/
def okU (P : Program) (tab : List (TypeId × Ty)) (tid : TypeId) (t : Ty) : Bool :=
  match P.underlying tid, t with
  | some (.int k), .int k' => k == k'
  | some .bool, .bool => true
  | some .string, .str => true
  | some (.slice e), .slice t => decide (lk e tab = some t)
  | some (.array n e), .arr n' t => n == n' && decide (lk e tab = some t) && !P.eqGuardType P.depth tid
  | some (.pointer e), .ptr t => decide (lk e tab = some t)
  | some (.interface _), .ifc => true
  | some (.map k e), .mp kt vt => decide (lk k tab = some kt) && decide (lk e tab = some vt)
  | some (.func _ _ _), .fn => true
  | some (.slice e), .nes t => decide (lk e tab = some t)
  | some (.struct fs), t => okFs fs.toList 0 t && !P.stoodInHeld tid && !P.eqGuardType P.depth tid
  | _, _ => false
where
  okFs : List Field → Nat → Ty → Bool
    | [], _, .unit => true
    | f :: fs, off, .pair a b => decide (lk f.type tab = some a) && f.offset == off && decide (0 < a.n) && f.name != "_" && okFs fs (off + a.n) b
    | _, _, _ => false

structure TOk (P : Program) (tab : List (TypeId × Ty)) (tid : TypeId) (t : Ty) : Prop where
  und : okU P tab tid t = true
  info : ∃ i, P.info? tid = some i ∧ i.size = t.n ∧ i.zero = some (toV t (zeroCells t)) ∧ i.bytes ≤ 2048
  cmp : t = .int .i64 → (P.info? tid).map (·.comparable) = some true
  by8 : ∀ k, t = .int k → ∀ i, P.info? tid = some i → i.bytes * 8 = k.bits

/-- a number takes as many bytes as it has bits -/
def by8B (t : Ty) (i : TypeInfo) : Bool := match t with
  | .int k => Nat.beq (i.bytes * 8) k.bits
  | _ => true

def TabOk (P : Program) (tab : List (TypeId × Ty)) : Prop := ∀ tid t, lk tid tab = some t → TOk P tab tid t

theorem tabOk_of {P : Program} {tab : List (TypeId × Ty)} (h1 : (tab.all fun p => okU P tab p.1 p.2) = true)
    (h2 : tab.map (fun p => (P.info? p.1).map fun i => (i.size, i.zero)) = tab.map (fun p => some (p.2.n, some (toV p.2 (zeroCells p.2)))))
    (h3 : (tab.all fun p => ((P.info? p.1).map fun i => by8B p.2 i && (decide (i.bytes ≤ 2048) && (i.comparable || !(decide (p.2 = .int .i64))))) == some true) = true) : TabOk P tab := by
  intro tid t h
  have hm : (tid, t) ∈ tab := by
    clear h1 h2 h3
    induction tab with
    | nil => simp [lk] at h
    | cons p r ih =>
      obtain ⟨j, x⟩ := p
      rw [lk_cons] at h
      split at h
      · rename_i e; subst e; cases h; simp
      · exact List.mem_cons_of_mem _ (ih h)
  refine ⟨by have := List.all_eq_true.1 h1 _ hm; exact this, ?_, ?_, ?_⟩
  rotate_left
  · intro ht
    have h3' := List.all_eq_true.1 h3 _ hm
    cases hi : P.info? tid with
    | none => simp [hi] at h3'
    | some i =>
      subst ht
      simp [hi] at h3'
      simpa using h3'.2.2
  · intro k ht i hi
    have h3' := List.all_eq_true.1 h3 _ hm
    subst ht
    simp only [hi, Option.map_some, by8B, beq_iff_eq, Option.some.injEq, Bool.and_eq_true] at h3'
    exact Nat.eq_of_beq_eq_true h3'.1
  have h2' := (List.map_inj_left.1 h2) _ hm
  have h3' := List.all_eq_true.1 h3 _ hm
  simp only at h2' h3'
  cases hi : P.info? tid with
  | none => simp [hi] at h2'
  | some i =>
    simp only [hi, Option.map_some, Option.some.injEq, Prod.mk.injEq] at h2'
    simp [hi] at h3'
    exact ⟨i, rfl, h2'.1, h2'.2, h3'.2.1⟩

end Go.Lift
