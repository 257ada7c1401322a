/- The package-level variables that a row lists hold what the typed data say. -/
import Derived.Test.YtcapedpcokhpjaaDoorRiO
import Derived.Lib.LaidTab
import Derived.LaidLaws
set_option linter.unusedVariables false
namespace Go.Lift
open Go.RowKit

theorem laid_one {P : Program} {W : World} {n : String} {d : DataW Unit} : ∀ {l : List (String × DataW Unit)} {ps : List MemPlace}, DataW.LaidVars P W l ps → (n, d) ∈ l →
    ∃ g t cs fuel p, P.globalNamed n = some g ∧ (P.globals[g]?).map (·.type) = some t ∧ W.var? P n = some cs ∧ DataW.trod (fun _ => ()) P W 0 (fun _ => true) false fuel t cs.toList = some (d, p)
  | [], _, _, h => by cases h
  | (n', d') :: l, ps, ⟨g, t, cs, fuel, p, q, h1, h2, h3, h4, h5, _⟩, h => by
    rcases List.mem_cons.1 h with e | h
    · cases e
      exact ⟨g, t, cs, fuel, p, h1, h2, h3, h4⟩
    · exact laid_one h5 h

theorem row_of_var {P : Program} {W : World} {n : String} {g : Nat} {cs : Array Value} (hg : P.globalNamed n = some g) (h : W.var? P n = some cs) : ∃ T fz, W.heap[g]? = some (.cells cs T fz) := by
  simp only [World.var?, hg, Option.bind_some] at h
  split at h
  · rename_i c t fr hb
    cases h
    exact ⟨t, fr, hb⟩
  · cases h

def GlOne (W : World) (g : Nat) (v : TV) : Prop := ∃ cs T fz, W.heap[g]? = some (.cells (List.toArray cs) T fz) ∧ Rep (AllM W) W v.1 cs v.2 ∧ ∀ o, o < cs.length → AllM W g o

theorem glOk_of {W : World} (h : ∀ p ∈ glTab, GlOne W p.1 p.2) : GlOk (AllM W) W := by
  intro g v hg
  have : ∀ l : List (Nat × TV), lk g l = some v → (g, v) ∈ l := by
    intro l
    induction l with
    | nil => intro h; simp [lk] at h
    | cons p r ih =>
      intro h
      obtain ⟨j, x⟩ := p
      rw [lk_cons] at h
      split at h
      · rename_i e; subst e; cases h; simp
      · exact List.mem_cons_of_mem _ (ih h)
  exact h (g, v) (this _ hg)

theorem seq_ints {M : Own} {W : World} {k : IntKind} : ∀ (zs : List Int), (∀ z ∈ zs, k.min ≤ z ∧ z ≤ k.max) → Seq (Rep M W (.int k)) (zs.map fun z => Value.int k z) zs := by
  intro zs h
  exact Seq.of_ints h

theorem gl_ints {P : Program} {W : World} {n : String} {k : IntKind} {zs : List Int} {g t e : Nat} {m : Nat} {l : List (String × DataW Unit)} (h : laidMet P l W) (hm : (n, Lib.tabData k zs) ∈ l)
    (hg : P.globalNamed n = some g) (hty : (P.globals[g]?).map (·.type) = some t) (ht : P.underlying t = some (.array m e)) (he : P.underlying e = some (.int k)) (hce : P.cellsOf e = 1) (hct : P.cellsOf t = m)
    (hz : (zs.all fun z => decide (k.min ≤ z) && decide (z ≤ k.max)) = true) (hl : zs.length = m) : GlOne W g ⟨.arr m (.int k), zs⟩ := by
  obtain ⟨ps, hv, _⟩ := h
  obtain ⟨g', t', cs, fuel, p, h1, h2, h3, h4⟩ := laid_one hv hm
  obtain rfl := Option.some.inj (hg.symm.trans h1)
  obtain rfl := Option.some.inj (hty.symm.trans h2)
  obtain ⟨T, fz, hr⟩ := row_of_var hg h3
  have hc := Lib.cells_of_tab ht he hce hct h4
  have hb := (Array.getElem?_eq_some_iff.1 hr).1
  refine ⟨cs.toList, T, fz, by rw [Array.toArray_toList]; exact hr, ⟨hl, ?_⟩, fun o _ => hb⟩
  rw [hc]
  refine seq_ints zs fun z hzz => ?_
  have := List.all_eq_true.1 hz z hzz
  simpa using this

theorem gl_ifc {P : Program} {W : World} {n nm : String} {d : DataW Unit} {g t : Nat} {ms : Array (String × TypeId)} {l : List (String × DataW Unit)} (h : laidMet P l W) (hm : (n, DataW.iface nm d) ∈ l)
    (hg : P.globalNamed n = some g) (hty : (P.globals[g]?).map (·.type) = some t) (ht : P.underlying t = some (.interface ms)) : GlOne W g ⟨.ifc, some none⟩ := by
  obtain ⟨ps, hv, _⟩ := h
  obtain ⟨g', t', cs, fuel, p, h1, h2, h3, h4⟩ := laid_one hv hm
  obtain rfl := Option.some.inj (hg.symm.trans h1)
  obtain rfl := Option.some.inj (hty.symm.trans h2)
  obtain ⟨T, fz, hr⟩ := row_of_var hg h3
  have hb := (Array.getElem?_eq_some_iff.1 hr).1
  obtain ⟨_, u, v, hc, _⟩ := iface_of_trod ht h4
  exact ⟨cs.toList, T, fz, by rw [Array.toArray_toList]; exact hr, ⟨_, hc, u, v, rfl⟩, fun o _ => hb⟩
end Go.Lift
