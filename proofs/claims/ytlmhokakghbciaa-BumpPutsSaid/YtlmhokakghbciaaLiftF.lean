/- Equality of values without addresses. -/
import Derived.Test.YtlmhokakghbciaaLiftE
import Derived.ChangeKeysEq
namespace Go.Lift
open Go.RowKit

theorem eqD_iff {t : Ty} {x y : t.den} : eqD t x y = true ↔ x = y := by
  unfold eqD
  exact @decide_eq_true_iff (x = y) (decD t x y)

section
variable {P : Program} {tab : List (TypeId × Ty)}

theorem part_run {tid : TypeId} {t : Ty} (h : TOk P tab tid t) (hn : 0 < t.n ∨ t.isAgg = true) {M : Own} {w' : World} {cs c0 c1 c2 : List Value} {x : t.den} (e : cs = c0 ++ (c1 ++ c2)) (r : Rep M w' t c1 x) {off : Nat} (ho : off = c0.length) (w : World) :
    (part tid cs.toArray off).run P w = .ok (toV t c1) w := by
  have hl := r.length
  subst e ho
  unfold part
  rw [Sem.run_bind, h.isAgg]
  simp only [Result.andThen_ok]
  cases ha : t.isAgg with
  | true =>
    simp only [if_true, Sem.run_bind, h.sizeOf, Result.andThen_ok, toV, ha, Sem.run_pure]
    congr 2
    simp [← hl]
  | false =>
    have : t.n = 1 := by cases t <;> simp [Ty.isAgg] at ha <;> rfl
    rw [this] at hl
    obtain ⟨v, rfl⟩ := List.length_eq_one_iff.1 hl
    simp [toV, ha]

theorem Seq.cons_inv {α : Type} {R : List Value → α → Prop} {cs : List Value} {x : α} {xs : List α} (s : Seq R cs (x :: xs)) : ∃ c1 c2, cs = c1 ++ c2 ∧ R c1 x ∧ Seq R c2 xs := s

theorem eqItems_run {e : TypeId} {t : Ty} (he : TOk P tab e t) {M M' : Own} {u u' : World} (d : Nat)
    (ih : ∀ cs ds (x y : t.den) w, Rep M u t cs x → Rep M' u' t ds y → ∃ r : Bool, (Op.equalIn d e (toV t cs) (toV t ds)).run P w = .ok r w ∧ (r = true ↔ x = y)) (hn : 0 < t.n ∨ t.isAgg = true) :
    ∀ (xs ys : List t.den) (cs ds c0 d0 c1 d1 : List Value) (j : Nat) (w : World), xs.length = ys.length → cs = c0 ++ c1 → ds = d0 ++ d1 → c0.length = j * t.n → d0.length = j * t.n → Seq (Rep M u t) c1 xs → Seq (Rep M' u' t) d1 ys →
    ∃ r : Bool, (Op.eqItems d e t.n cs.toArray ds.toArray (List.range' j xs.length)).run P w = .ok r w ∧ (r = true ↔ xs = ys)
  | [], [], cs, ds, c0, d0, c1, d1, j, w, _, _, _, _, _, _, _ => ⟨true, by simp [Op.eqItems], by simp⟩
  | [], _ :: _, _, _, _, _, _, _, _, _, h, _, _, _, _, _, _ => by simp at h
  | _ :: _, [], _, _, _, _, _, _, _, _, h, _, _, _, _, _, _ => by simp at h
  | x :: xs, y :: ys, cs, ds, c0, d0, c1, d1, j, w, hl, hc, hd, h0, h0', s, s' => by
    obtain ⟨a1, a2, rfl, ra, sa⟩ := s.cons_inv
    obtain ⟨b1, b2, rfl, rb, sb⟩ := s'.cons_inv
    obtain ⟨r, hr, hiff⟩ := ih a1 b1 x y w ra rb
    obtain ⟨r', hr', hiff'⟩ := eqItems_run he d ih hn xs ys cs ds (c0 ++ a1) (d0 ++ b1) a2 b2 (j + 1) w (by simpa using hl) (by rw [hc, List.append_assoc]) (by rw [hd, List.append_assoc])
      (by rw [List.length_append, h0, ra.length, Nat.add_mul]; omega) (by rw [List.length_append, h0', rb.length, Nat.add_mul]; omega) sa sb
    simp only [List.length_cons, List.range'_succ, Op.eqItems, Sem.run_bind, part_run he hn hc ra h0.symm, part_run he hn hd rb h0'.symm, Result.andThen_ok, hr]
    cases r with
    | false => exact ⟨false, by simp, by simp; intro e; exact absurd (hiff.2 e) (by simp)⟩
    | true =>
      refine ⟨r', by simpa using hr', ?_⟩
      rw [hiff', hiff.1 rfl]
      simp

theorem equalIn_run (htab : TabOk P tab) {M M' : Own} {u u' : World} : ∀ (t : Ty), t.flat = true →
    (∀ (d : Nat) (tid : TypeId) (cs ds : List Value) (x y : t.den) (w : World), t.dep ≤ d → TOk P tab tid t → Rep M u t cs x → Rep M' u' t ds y →
      ∃ r : Bool, (Op.equalIn d tid (toV t cs) (toV t ds)).run P w = .ok r w ∧ (r = true ↔ x = y)) ∧
    (∀ (d : Nat) (fs : List Field) (off : Nat) (cs ds c0 d0 c1 d1 : List Value) (x y : t.den) (w : World), t.dep ≤ d + 1 → okU.okFs tab fs off t = true → cs = c0 ++ c1 → ds = d0 ++ d1 → c0.length = off → d0.length = off →
      Rep M u t c1 x → Rep M' u' t d1 y → ∃ r : Bool, (Op.eqFields d cs.toArray ds.toArray fs).run P w = .ok r w ∧ (r = true ↔ x = y)) := by
  intro t
  induction t with
  | int k =>
    intro _
    refine ⟨?_, ?_⟩
    · intro d tid cs ds x y w hd h r s
      obtain ⟨rfl, _⟩ := r
      obtain ⟨rfl, _⟩ := s
      obtain ⟨d, rfl⟩ : ∃ e, d = e + 1 := ⟨d - 1, by simp [Ty.dep] at hd; omega⟩
      exact ⟨x == y, by simpa [toV, Ty.isAgg] using run_equalIn_int w d tid k k x y h.int, by simp⟩
    · intro d fs off cs ds c0 d0 c1 d1 x y w hd h
      cases fs <;> simp [okU.okFs] at h
  | bool =>
    intro _
    refine ⟨?_, ?_⟩
    · intro d tid cs ds x y w hd h r s
      simp only [Rep] at r s
      subst r s
      obtain ⟨d, rfl⟩ : ∃ e, d = e + 1 := ⟨d - 1, by simp [Ty.dep] at hd; omega⟩
      exact ⟨x == y, by simpa [toV, Ty.isAgg] using run_equalIn_bool w d tid x y h.bool, by simp⟩
    · intro d fs off cs ds c0 d0 c1 d1 x y w hd h
      cases fs <;> simp [okU.okFs] at h
  | str =>
    intro _
    refine ⟨?_, ?_⟩
    · intro d tid cs ds x y w hd h r s
      obtain ⟨a, rfl, rfl, _⟩ := r
      obtain ⟨b, rfl, rfl, _⟩ := s
      obtain ⟨d, rfl⟩ : ∃ e, d = e + 1 := ⟨d - 1, by simp [Ty.dep] at hd; omega⟩
      refine ⟨a.toList == b.toList, by simpa [toV, Ty.isAgg] using run_equalIn_string w d tid a b h.str, ?_⟩
      rw [beq_iff_eq, ByteArray.toList_eq, ByteArray.toList_eq]
      constructor
      · intro e; rw [e]
      · intro e
        have hinj : ∀ p q : UInt8, (p.toNat : Int) = q.toNat → p = q := fun p q h => UInt8.toNat_inj.1 (by omega)
        revert e
        generalize a.data.toList = l1
        generalize b.data.toList = l2
        intro e
        induction l1 generalizing l2 with
        | nil => cases l2 with
          | nil => rfl
          | cons q l2 => simp at e
        | cons p l1 ih => cases l2 with
          | nil => simp at e
          | cons q l2 => simp only [List.map_cons, List.cons.injEq] at e; rw [hinj _ _ e.1, ih l2 e.2]
    · intro d fs off cs ds c0 d0 c1 d1 x y w hd h
      cases fs <;> simp [okU.okFs] at h
  | slice e ih => intro h; simp [Ty.flat] at h
  | ptr e ih => intro h; simp [Ty.flat] at h
  | ifc => intro h; simp [Ty.flat] at h
  | mp _ _ => intro h; simp [Ty.flat] at h
  | fn => intro h; simp [Ty.flat] at h
  | nes e ih => intro h; simp [Ty.flat] at h
  | arr n e ih =>
    intro hf
    obtain ⟨ih, _⟩ := ih hf
    refine ⟨?_, ?_⟩
    · intro d tid cs ds x y w hd h r s
      obtain ⟨e', hu, hl, _⟩ := h.arr
      have he := htab e' e hl
      obtain ⟨i, hi, hs, _⟩ := he.info
      obtain ⟨d, rfl⟩ : ∃ e, d = e + 1 := ⟨d - 1, by simp [Ty.dep] at hd; omega⟩
      have hc : P.cellsOf e' = e.n := by simp [Program.cellsOf, hi, hs]
      simp only [toV, Ty.isAgg, if_true]
      rw [run_equalIn_array w d _ _ hu hi, hc]
      have hn : 0 < e.n ∨ e.isAgg = true := by cases e <;> simp [Ty.n, Ty.isAgg]
      have := eqItems_run he d (fun cs ds x y w r s => ih d e' cs ds x y w (by simp [Ty.dep] at hd; omega) he r s) hn x y cs ds [] [] cs ds 0 w (by rw [r.1, s.1]) rfl rfl (by simp) (by simp) r.2 s.2
      rw [r.1] at this
      rw [List.range_eq_range']
      exact this
    · intro d fs off cs ds c0 d0 c1 d1 x y w hd h
      cases fs <;> simp [okU.okFs] at h
  | unit =>
    intro _
    refine ⟨?_, ?_⟩
    · intro d tid cs ds x y w hd h r s
      obtain ⟨fs, hu, ⟨hfs, hst⟩, _⟩ := h.unit
      obtain ⟨d, rfl⟩ : ∃ e, d = e + 1 := ⟨d - 1, by simp [Ty.dep] at hd; omega⟩
      simp only [toV, Ty.isAgg, if_true]
      have hf : P.fieldsOf tid = fs := by simp [Program.fieldsOf, hu]
      rw [run_equalIn_struct w d tid _ _ (by rw [hf]; exact hu) hst, hf]
      cases hl : fs.toList with
      | nil => exact ⟨true, by simp [Op.eqFields], by simp⟩
      | cons a b => simp [hl, okU.okFs] at hfs
    · intro d fs off cs ds c0 d0 c1 d1 x y w hd h
      cases fs with
      | nil => intros; exact ⟨true, by simp [Op.eqFields], by simp⟩
      | cons a b => simp [okU.okFs] at h
  | pair a b iha ihb =>
    intro hf
    simp [Ty.flat] at hf
    obtain ⟨iha, _⟩ := iha hf.1
    obtain ⟨_, ihb⟩ := ihb hf.2
    have chain : ∀ (d : Nat) (fs : List Field) (off : Nat) (cs ds c0 d0 c1 d1 : List Value) (x y : (Ty.pair a b).den) (w : World), (Ty.pair a b).dep ≤ d + 1 → okU.okFs tab fs off (.pair a b) = true → cs = c0 ++ c1 → ds = d0 ++ d1 → c0.length = off → d0.length = off →
      Rep M u (.pair a b) c1 x → Rep M' u' (.pair a b) d1 y → ∃ r : Bool, (Op.eqFields d cs.toArray ds.toArray fs).run P w = .ok r w ∧ (r = true ↔ x = y) := by
      intro d fs off cs ds c0 d0 c1 d1 x y w hd h hc hd' h0 h0' r s
      obtain ⟨a1, a2, rfl, ra, ra'⟩ := r
      obtain ⟨b1, b2, rfl, rb, rb'⟩ := s
      cases fs with
      | nil => simp [okU.okFs] at h
      | cons f fs =>
        simp only [okU.okFs, Bool.and_eq_true, decide_eq_true_eq, beq_iff_eq, bne_iff_ne] at h
        obtain ⟨⟨⟨⟨h1, h2⟩, h3⟩, h4⟩, h5⟩ := h
        have hta := htab _ _ h1
        simp [Ty.dep] at hd
        obtain ⟨r1, hr1, hi1⟩ := iha d f.type a1 b1 x.1 y.1 w (by omega) hta ra rb
        obtain ⟨r2, hr2, hi2⟩ := ihb d fs (off + a.n) cs ds (c0 ++ a1) (d0 ++ b1) a2 b2 x.2 y.2 w (by omega) h5 (by rw [hc, List.append_assoc]) (by rw [hd', List.append_assoc])
          (by rw [List.length_append, h0, ra.length]) (by rw [List.length_append, h0', rb.length]) ra' rb'
        have p1 := part_run hta (.inl h3) hc ra (off := f.offset) (by rw [h2, h0]) w
        have p2 := part_run hta (.inl h3) hd' rb (off := f.offset) (by rw [h2, h0']) w
        simp only [Op.eqFields, ne_eq, h4, not_false_eq_true, if_true, Sem.run_bind, p1, p2, Result.andThen_ok, hr1]
        cases r1 with
        | false =>
          refine ⟨false, by simp, ?_⟩
          simp only [Bool.false_eq_true, false_iff]
          intro e
          exact absurd (hi1.2 (by rw [e])) (by simp)
        | true =>
          refine ⟨r2, by simpa using hr2, ?_⟩
          rw [hi2]
          have := hi1.1 rfl
          constructor
          · intro e; exact Prod.ext this e
          · intro e; rw [e]
    refine ⟨?_, chain⟩
    intro d tid cs ds x y w hd h r s
    obtain ⟨fs, hu, ⟨hfs, hst⟩, _⟩ := h.pair
    obtain ⟨d, rfl⟩ : ∃ e, d = e + 1 := ⟨d - 1, by simp [Ty.dep] at hd; omega⟩
    simp only [toV, Ty.isAgg, if_true]
    have hf : P.fieldsOf tid = fs := by simp [Program.fieldsOf, hu]
    rw [run_equalIn_struct w d tid _ _ (by rw [hf]; exact hu) hst, hf]
    exact chain d fs.toList 0 cs ds [] [] cs ds x y w hd hfs rfl rfl rfl rfl r s

end
end Go.Lift
