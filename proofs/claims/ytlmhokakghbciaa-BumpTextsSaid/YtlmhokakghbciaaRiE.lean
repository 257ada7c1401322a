/- Blocks of one's own are written: a variable, an element, what is appended. -/
import Derived.Test.YtlmhokakghbciaaRiD
namespace Go.Lift
open Go.RowKit

section
variable {P : Program} {w0 : World} {M0 : Bs} {N : Nat} {M M' : Own} {β β' : Nat → Nat} {τ τ' : Nat → Value} {st st' : St} {a : Act} {as : List Act} {w w' : World}

def setOb (id : Nat) (ob : Ob) (st : St) : St := { st with l := setA id ob st.l }

theorem run_storeCells_fz (P : Program) (g o : Nat) (t : TypeId) {fz : Nat × Nat} : ∀ (vs : List Value) (i : Nat) (cur : Array Value) (w : World), w.heap[g]? = some (.cells cur t fz) → FzOk fz cur.size → o + i + vs.length ≤ cur.size → (∀ v ∈ vs, v.oneCell' = true) →
    (storeCells ⟨g, o, none⟩ vs i).run P w = .ok () (w.setRow g (cur.toList.take (o + i) ++ vs ++ cur.toList.drop (o + i + vs.length)).toArray)
  | [], i, cur, w, hg, _, _, _ => by
    simp only [storeCells, List.append_nil, List.length_nil, Nat.add_zero, List.take_append_drop, Array.toArray_toList]
    rw [setRow_self w g cur t fz hg]
    rfl
  | v :: rest, i, cur, w, hg, hz, hl, h1 => by
    have hi : o + i < cur.size := by simp at hl; omega
    have hadd : (⟨g, o, none⟩ : Addr).add i = ⟨g, o + i, none⟩ := by unfold Addr.add; split <;> simp_all
    have hcell : w.cell? ⟨g, o + i, none⟩ = some cur[o + i] := by simp [World.cell?, hg, hi]
    have hfro : w.frozen? ⟨g, o + i, none⟩ = false := by
      have := hz.at (o + i) hi
      simpa [World.frozen?, hg] using this
    have hst : (store ((⟨g, o, none⟩ : Addr).add i) v).run P w = .ok () (w.setRow g (cur.setIfInBounds (o + i) v)) := by
      rw [hadd, run_store P w _ v _ (h1 v (by simp)), hcell]
      simp [hfro, setCell_eq_setRow w g (o + i) cur t fz v hg]
    have ih := run_storeCells_fz P g o t rest (i + 1) (cur.setIfInBounds (o + i) v) (w.setRow g (cur.setIfInBounds (o + i) v)) (setRow_heap w g cur _ t _ hg) (by simpa using hz) (by simp at hl ⊢; omega) (fun x hx => h1 x (by simp [hx]))
    simp only [storeCells, Sem.run_bind, hst, Result.andThen_ok, ih, setRow_setRow]
    congr 3
    have e := list_seg_step cur.toList (o + i) v rest (by simp at hl ⊢; omega)
    simpa [Array.toList_setIfInBounds, Nat.add_assoc] using e

/-- a block of one's own is touched, but says what it said -/
theorem Sm.touch (s : Sm w0 M0 N M β τ st a as w) {id : Nat} {ob : Ob} {b : Nat} (hl : lk id st.l = some ob) (hb : blk β τ id ob = some b) {w' : World} (hbel : Below b w w') (hoth : ∀ b', b' ≠ b → w'.heap[b']? = w.heap[b']?)
    (ho : ObOk (ownB w0 M0) M w' β τ st.l id ob) : Sm w0 M0 N M β τ st a as w' := by
  obtain ⟨k1, k2, k3, _⟩ := s.block hl hb
  have hm : MapOk some st.l β τ st.l β τ := MapOk.refl
  have hext : Ext M w M w' := by
    intro b' o m
    refine ⟨m, fun u hu => ?_⟩
    have hb' : b' ≠ b := fun e => by subst e; exact k3 o m
    rw [World.cell?_of_block (w := w) (hoth b' hb')]
    exact hu
  refine s.gen (f := some) (st' := st) hext (s.bel.trans (hbel.mono k2.1)) (fun b o m => Nat.lt_of_lt_of_le (s.mlt b o m) hbel.size) s.mnew (fun b' k => ⟨hoth b' (fun e => k2.2 (e ▸ k)), fun _ h => h⟩) hm (mapSl_some _).symm (mapKs_some _).symm ?_ s.dj
  intro j o h
  by_cases hj : j = id
  · subst hj
    rw [hl] at h
    cases h
    exact ho
  · have := ObOk.map (f := some) hext hm rfl h (s.ob j o h) fun b' hb2 => ⟨hoth b' fun e => hj (s.dj j id o ob b h hl (e ▸ hb2) hb), fun _ h => h⟩
    rwa [mapOb_some] at this

theorem ext_setRow {b : Nat} (nr : Array Value) (h : ∀ o, ¬ M b o) : Ext M w M (w.setRow b nr) := by
  intro b' o m
  refine ⟨m, fun u hu => ?_⟩
  have hb : b' ≠ b := fun e => by subst e; exact h o m
  rw [World.cell?_of_block (w := w) (setRow_other w b b' nr hb)]
  exact hu

theorem Sm.write (s : Sm w0 M0 N M β τ st a as w) {id : Nat} {ob ob' : Ob} {b : Nat} (hl : lk id st.l = some ob) (hb : blk β τ id ob = some b) (hsh : ob'.shape = ob.shape) (hb' : blk β τ id ob' = some b) (nr : Array Value)
    (ho : MapOk some st.l β τ (setA id ob' st.l) β τ → ObOk (ownB w0 M0) M (w.setRow b nr) β τ (setA id ob' st.l) id ob') : Sm w0 M0 N M β τ (setOb id ob' st) a as (w.setRow b nr) := by
  obtain ⟨k1, k2, k3, _⟩ := s.block hl hb
  have hlk : ∀ j, lk j (setA id ob' st.l) = if j = id then some ob' else lk j st.l := fun j => by rw [lk_setA, hl]; split <;> simp
  have hm : MapOk some st.l β τ (setA id ob' st.l) β τ := by
    intro i j o hf hi
    cases hf
    by_cases h : i = id
    · subst h
      obtain rfl : o = ob := Option.some.inj (hi.symm.trans hl)
      exact ⟨ob', by rw [hlk]; simp, hsh, rfl, rfl⟩
    · exact ⟨o, by rw [hlk, if_neg h]; exact hi, rfl, rfl, rfl⟩
  refine s.gen (f := some) (st' := setOb id ob' st) (ext_setRow nr k3) (below_setRow s.bel k2.1 _) (fun b o m => by rw [size_setRow]; exact s.mlt b o m) s.mnew (fun b' k => ⟨setRow_other w b b' nr fun e => k2.2 (e ▸ k), fun _ h => h⟩) hm (mapSl_some _).symm (mapKs_some _).symm ?_ ?_
  · intro j o h
    simp only [setOb] at h
    rw [hlk] at h
    split at h
    · rename_i hj
      subst hj
      cases h
      exact ho hm
    · rename_i hj
      have := ObOk.map (f := some) (ext_setRow (w := w) nr k3) hm rfl h (s.ob j o h) fun b' hb2 => ⟨setRow_other w b b' nr fun e => hj (s.dj j id o ob b h hl (e ▸ hb2) hb), fun _ h => h⟩
      rwa [mapOb_some] at this
  · intro j j' o o' b2 h h' hb1 hb2
    simp only [setOb] at h h'
    rw [hlk] at h h'
    have fixd : ∀ {j o}, (if j = id then some ob' else lk j st.l) = some o → blk β τ j o = some b2 → ∃ o0, lk j st.l = some o0 ∧ blk β τ j o0 = some b2 := by
      intro j o hh hb2
      by_cases hj : j = id
      · rw [if_pos hj] at hh
        subst hj
        obtain rfl := Option.some.inj hh
        rw [hb'] at hb2
        exact ⟨ob, hl, by rw [hb, hb2]⟩
      · rw [if_neg hj] at hh
        exact ⟨o, hh, hb2⟩
    obtain ⟨o0, g1, g2⟩ := fixd h hb1
    obtain ⟨o0', g1', g2'⟩ := fixd h' hb2
    exact s.dj j j' o0 o0' b2 g1 g1' g2 g2'

/-- a map is written -/
theorem Sm.setMap (s : Sm w0 M0 N M β τ st a as w) {id : Nat} {kt vt : Ty} {es es' : List (kt.den × vt.den)} {arr arr' : Array MapEntry} {clock clock' : Nat} (hl : lk id st.l = some (.mp kt vt es)) (hb : w.heap[β id]? = some (.map arr clock))
    (he : EntsOk M w kt vt arr'.toList es') : Sm w0 M0 N M β τ (setOb id (.mp kt vt es') st) a as { w with heap := w.heap.setIfInBounds (β id) (.map arr' clock') } := by
  have hbk : blk β τ id (Ob.mp kt vt es) = some (β id) := rfl
  obtain ⟨k1, k2, k3, _⟩ := s.block hl hbk
  have hoth : ∀ b', b' ≠ β id → (w.heap.setIfInBounds (β id) (.map arr' clock'))[b']? = w.heap[b']? := fun b' h => by rw [Array.getElem?_setIfInBounds_ne (Ne.symm h)]
  have hext : Ext M w M { w with heap := w.heap.setIfInBounds (β id) (.map arr' clock') } := by
    intro b' o m
    refine ⟨m, fun u hu => ?_⟩
    have hne : b' ≠ β id := fun e => by subst e; exact k3 o m
    rw [World.cell?_of_block (w := w) (hoth b' hne)]
    exact hu
  have hlk : ∀ j, lk j (setA id (Ob.mp kt vt es') st.l) = if j = id then some (.mp kt vt es') else lk j st.l := fun j => by rw [lk_setA, hl]; split <;> simp
  have hm : MapOk some st.l β τ (setA id (Ob.mp kt vt es') st.l) β τ := by
    intro i j o hf hi
    cases hf
    by_cases h : i = id
    · subst h
      obtain rfl := Option.some.inj (hi.symm.trans hl)
      exact ⟨.mp kt vt es', by rw [hlk]; simp, rfl, rfl, rfl⟩
    · exact ⟨o, by rw [hlk, if_neg h]; exact hi, rfl, rfl, rfl⟩
  refine s.gen (f := some) (st' := setOb id (.mp kt vt es') st) hext (s.bel.trans ⟨rfl, rfl, rfl, by simp, fun b' hb' => hoth b' (by have := k2.1; omega)⟩) (fun b o m => by simpa using s.mlt b o m) s.mnew (fun b' k => ⟨hoth b' (fun e => k2.2 (e ▸ k)), fun _ h => h⟩) hm (mapSl_some _).symm (mapKs_some _).symm ?_ ?_
  · intro j o h
    simp only [setOb] at h
    rw [hlk] at h
    split at h
    · rename_i hj
      subst hj
      cases h
      exact ⟨k2, ⟨arr', clock', by simp [k1], he.ext hext⟩, k3⟩
    · rename_i hj
      have := ObOk.map (f := some) hext hm rfl h (s.ob j o h) fun b' hb2 => ⟨hoth b' fun e => hj (s.dj j id o _ (β id) h hl (e ▸ hb2) hbk), fun _ h => h⟩
      rwa [mapOb_some] at this
  · intro j j' o o' b2 h h' hb1 hb2
    simp only [setOb] at h h'
    rw [hlk] at h h'
    have fixd : ∀ {j o}, (if j = id then some (Ob.mp kt vt es') else lk j st.l) = some o → blk β τ j o = some b2 → ∃ o0, lk j st.l = some o0 ∧ blk β τ j o0 = some b2 := by
      intro j o hh hb2
      by_cases hj : j = id
      · rw [if_pos hj] at hh
        subst hj
        obtain rfl := Option.some.inj hh
        exact ⟨_, hl, hb2⟩
      · rw [if_neg hj] at hh
        exact ⟨o, hh, hb2⟩
    obtain ⟨o0, g1, g2⟩ := fixd h hb1
    obtain ⟨o0', g1', g2'⟩ := fixd h' hb2
    exact s.dj j j' o0 o0' b2 g1 g1' g2 g2'

/-- a part of a variable is written -/
theorem Sm.setVar (s : Sm w0 M0 N M β τ st a as w) {id : Nat} {ty : Ty} {con con' : RV} {p : List Step} {off : Nat} {t' : Ty} {nv : RV} {u : Value} (hl : lk id st.l = some (.var ty con)) (ho : offP ty p = some (off, t')) (hc : setN nv ty some con p = some con')
    (hu : RR M w β τ st.l nv .sl [u]) : ∃ d w', u.cells = List.toArray d ∧ (storeCells ⟨β id, off, none⟩ d).run P w = .ok () w' ∧ Sm w0 M0 N M β τ (setOb id (.var ty con') st) a as w' := by
  obtain ⟨l1, ⟨cs, T, l2, l3⟩, l4⟩ := s.ob id _ hl
  obtain ⟨d, g1, g2, c0, c1, c2, e1, e2, e3, e4⟩ := setN_ok hu hc ho l3
  have hst := run_storeCells_at P (β id) off T d 0 cs.toArray w l2 (by simp [e1]; omega) g2
  have hnr : (cs.toArray.toList.take (off + 0) ++ d ++ cs.toArray.toList.drop (off + 0 + d.length)).toArray = (c0 ++ (d ++ c2)).toArray := by
    simp only [Nat.add_zero, e1]
    have h1 : (c0 ++ (c1 ++ c2)).take off = c0 := by rw [← e2]; exact List.take_left
    have h5 : (c0 ++ (c1 ++ c2)).drop (off + d.length) = c2 := by
      rw [← e2, ← e3, ← List.append_assoc, ← List.length_append]; exact List.drop_left
    rw [h1, h5, List.append_assoc]
  rw [hnr] at hst
  refine ⟨d, _, g1, hst, s.write (ob' := .var ty con') hl rfl rfl rfl _ fun hm => ?_⟩
  refine ⟨l1, ⟨_, T, setRow_heap w _ _ _ T _ l2, (e4.ext (ext_setRow _ l4)).keep hm⟩, l4⟩

theorem Seq.set_at {α : Type} {R : List Value → α → Prop} {n : Nat} (h : ∀ cs x, R cs x → cs.length = n) {cs : List Value} {xs : List α} {i : Nat} {c0 c1 c2 d1 : List Value} {y : α} (s : Seq R cs xs) (hi : i < xs.length)
    (hcs : cs = c0 ++ (c1 ++ c2)) (h0 : c0.length = i * n) (h1 : c1.length = n) (hy : R d1 y) : Seq R (c0 ++ (d1 ++ c2)) (xs.set i y) := Seq.set h i s hi hcs h0 h1 hy

theorem mid_get {l d r : List Value} {n j : Nat} (hl : l.length = n) (hj : n ≤ j) : (l ++ (d ++ r))[j]? = (d ++ r)[j - n]? := by
  rw [List.getElem?_append_right (by omega), hl]

/-- an element is written, or a part of it -/
theorem Sm.setRow' (s : Sm w0 M0 N M β τ st a as w) {id : Nat} {t : Ty} {xs : List t.den} {i : Int} {q : List Step} {off : Nat} {t' : Ty} {v : TV} {u : Value} {x z : t.den} (hl : lk id st.l = some (.row t xs)) (ho : offS (Ob.row t xs).shape (.idx i :: q) = some (off, t'))
    (hx : q = [] ∨ xs[i.toNat]? = some x) (hz : (q = [] ∧ TV.as t v = some z) ∨ setP v t x q = some z) (hu : VOk M w v.1 v.2 u) :
    ∃ d w', u.cells = List.toArray d ∧ (storeCells ⟨β id, off, none⟩ d).run P w = .ok () w' ∧ Sm w0 M0 N M β τ (setOb id (.row t (xs.set i.toNat z)) st) a as w' := by
  simp only [Ob.shape, offS] at ho
  obtain ⟨hi, ho⟩ := ite_some ho
  obtain ⟨⟨o1, t1⟩, ho1, ho⟩ := Option.bind_eq_some_iff.1 ho
  cases ho
  have hil : i.toNat < xs.length := by omega
  obtain ⟨⟨ad, cap, row, g0, g1, g2, g3, g4, g5⟩, g6⟩ := s.ob id _ hl
  have hpos : 0 < cap := by omega
  obtain ⟨a0, rfl⟩ : ∃ a0, ad = some a0 := by
    cases ad with
    | none => have := g3 rfl; omega
    | some a0 => exact ⟨a0, rfl⟩
  obtain ⟨b, cur, T, rfl, k1, ⟨fz, kz, k2⟩, k3, k4, k5⟩ := g5 a0 rfl hpos
  have hwob : wob (τ id) = some b := by rw [g0]; simp [wob]; omega
  have hbβ := g6 b hwob
  obtain ⟨d, hud, hd⟩ := hu
  have hel : xs[i.toNat]? = some (xs[i.toNat]) := List.getElem?_eq_getElem hil
  obtain ⟨d0, d1, d2, e1, e2, e3⟩ := g4.at (fun _ _ r => r.length) i.toNat hel
  have hlen1 := e3.length
  -- the element's new cells
  obtain ⟨c0, c1, c2, f1, f2, f3, f4⟩ : ∃ c0 c1 c2, d1 = c0 ++ (c1 ++ c2) ∧ c0.length = o1 ∧ c1.length = d.length ∧ Rep M w t (c0 ++ (d ++ c2)) z := by
    rcases hz with ⟨rfl, hz⟩ | hz
    · obtain rfl := TV.as_eq hz
      have : offP t [] = some (0, t) := by cases t <;> rfl
      rw [this] at ho1
      cases ho1
      exact ⟨[], d1, [], by simp, rfl, by rw [hlen1, hd.length], by simpa using hd⟩
    · rcases hx with rfl | hx
      · have hz' : TV.as t v = some z := by cases t <;> simpa [setP] using hz
        obtain rfl := TV.as_eq hz'
        have : offP t [] = some (0, t) := by cases t <;> rfl
        rw [this] at ho1
        cases ho1
        exact ⟨[], d1, [], by simp, rfl, by rw [hlen1, hd.length], by simpa using hd⟩
      · obtain rfl : x = xs[i.toNat] := Option.some.inj (hx.symm.trans hel)
        exact setP_rep hd hz ho1 e3
  have hrl : row.length = xs.length * t.n := g4.length (fun _ _ r => r.length)
  have hfl : d1.length = o1 + (d.length + c2.length) := by rw [f1]; simp [f2, f3]
  have hrow' : d0 ++ ((c0 ++ (d ++ c2)) ++ d2) = row.take (i.toNat * t.n + o1) ++ d ++ row.drop (i.toNat * t.n + o1 + d.length) := by
    have h1 : row.take (i.toNat * t.n + o1) = d0 ++ c0 := by
      rw [e1, f1, ← e2, ← f2, ← List.length_append, show d0 ++ (c0 ++ (c1 ++ c2) ++ d2) = (d0 ++ c0) ++ (c1 ++ c2 ++ d2) by simp]
      exact List.take_left
    have h2 : row.drop (i.toNat * t.n + o1 + d.length) = c2 ++ d2 := by
      rw [e1, f1, ← e2, ← f2, ← f3, ← List.length_append, ← List.length_append, show d0 ++ (c0 ++ (c1 ++ c2) ++ d2) = (d0 ++ c0 ++ c1) ++ (c2 ++ d2) by simp]
      exact List.drop_left
    rw [h1, h2]
    simp
  have hle : i.toNat * t.n + o1 + d.length ≤ row.length := by
    have := congrArg List.length e1
    simp only [List.length_append] at this
    omega
  have hcs : row.length ≤ cur.size := by
    rw [hrl]
    exact Nat.le_trans (Nat.mul_le_mul_right _ g1) k3
  have hst := run_storeCells_fz P b (i.toNat * t.n + o1) T d 0 cur w k2 kz (by omega) hd.oneCell
  simp only [Nat.add_zero] at hst
  generalize hnr : (cur.toList.take (i.toNat * t.n + o1) ++ d ++ cur.toList.drop (i.toNat * t.n + o1 + d.length)).toArray = nr at hst
  have hkey : RowX (ownB w0 M0) M (w.setRow b nr) t (xs.set i.toNat z) (τ id) := by
    refine ⟨some ⟨b, 0, none⟩, cap, d0 ++ ((c0 ++ (d ++ c2)) ++ d2), by simpa using g0, by simpa using g1, g2, g3, ?_, fun a0 ha hc => ?_⟩
    · have := Seq.set_at (fun _ _ r => Rep.length r) g4 hil e1 e2 (by rw [hlen1]) f4
      exact this.mono fun _ _ r => r.ext (ext_setRow _ k5)
    · cases ha
      have hns : nr.size = cur.size := by rw [← hnr]; simp; omega
      refine ⟨b, _, T, rfl, k1, ⟨fz, by rw [hns]; exact kz, setRow_heap w _ _ _ T _ k2⟩, ?_, fun j hj => ?_, k5⟩
      · rw [← hnr]
        simp
        omega
      · rw [hrow', ← hnr]
        simp only [List.getElem?_toArray, List.append_assoc]
        have hlt : j < row.length := by
          have := congrArg List.length hrow'
          rw [this] at hj
          simp at hj
          omega
        by_cases h1 : j < i.toNat * t.n + o1
        · rw [List.getElem?_append_left (by simp; omega), List.getElem?_append_left (by simp; omega), List.getElem?_take, List.getElem?_take, if_pos h1, if_pos h1]
          simpa using k4 j hlt
        · have e5 : (cur.toList.take (i.toNat * t.n + o1)).length = i.toNat * t.n + o1 := by simp; omega
          have e6 : (row.take (i.toNat * t.n + o1)).length = i.toNat * t.n + o1 := by simp; omega
          rw [mid_get e5 (by omega), mid_get e6 (by omega)]
          by_cases h2 : j - (i.toNat * t.n + o1) < d.length
          · rw [List.getElem?_append_left h2, List.getElem?_append_left h2]
          · rw [List.getElem?_append_right (by omega), List.getElem?_append_right (by omega), List.getElem?_drop, List.getElem?_drop]
            have : i.toNat * t.n + o1 + d.length + (j - (i.toNat * t.n + o1) - d.length) = j := by omega
            rw [this]
            simpa using k4 j hlt
  refine ⟨d, w.setRow b nr, by rw [hud]; exact toV_cells hd, by rw [← hbβ]; exact hst, ?_⟩
  exact s.write (b := b) (ob' := .row t (xs.set i.toNat z)) hl hwob (by simp [Ob.shape]) hwob nr fun _ => ⟨hkey, g6⟩

/-- what is appended to a slice of one's own -/
theorem append_x {t u ty e : TypeId} {T : Ty} {i : TypeInfo} (ht : P.underlying t = some (.slice e)) (hi : P.info? e = some i) (hsz : i.size = T.n) (hz : i.zero = some (toV T (zeroCells T))) (hby : i.bytes ≤ 2048) (hn : 1 ≤ T.n) {b0 : Nat} {B : Nat → Prop} (hB : ∀ b, B b → b0 ≤ b) (hB2 : ∀ b, w.heap.size ≤ b → B b)
    {xs ys : List T.den} {v x : Value} {row : List Value} (hm : ∀ b o, M b o → b < w.heap.size) (hv : RowX B M w T xs v) (hs : Src P T.n u x ys.length row w) (hr : Seq (Rep M w T) row ys) (hlim : xs.length + ys.length ≤ lim ∨ (xs.length + ys.length ≤ lim8 ∧ i.bytes ≤ 8))
    (hb0 : b0 ≤ w.heap.size) :
    ∃ v' w', (Builtin.append_ #[t, u] ty #[v, x]).run P w = .ok v' w' ∧ Ext M w M w' ∧ Below b0 w w' ∧ (∀ b o, M b o → b < w'.heap.size) ∧ w.heap.size ≤ w'.heap.size ∧
      RowX B M w' T (xs ++ ys) v' ∧ (∀ b, b < w.heap.size → wob v ≠ some b → w'.heap[b]? = w.heap[b]?) ∧ (∀ b, wob v' = some b → wob v = some b ∨ w.heap.size ≤ b) ∧
      (((∀ b, b < w.heap.size → w'.heap[b]? = w.heap[b]?) ∧ ∀ b, wob v' = some b → w.heap.size ≤ b) ∨ ∃ a cap, v = .slice a xs.length cap ∧ v' = .slice a (xs.length + ys.length) cap) := by
  obtain ⟨ad, cap, row0, rfl, h1, h2, hz0, h3, h5⟩ := hv
  have hl0 : row0.length = xs.length * T.n := h3.length (fun _ _ r => r.length)
  have hlr : row.length = ys.length * T.n := hr.length (fun _ _ r => r.length)
  have hbb : (xs.length + ys.length) * i.bytes ≤ 140737488355328 := by
    rcases hlim with hlim | ⟨hlim, h8⟩
    · have := Nat.mul_le_mul hlim hby
      simp only [lim] at this
      omega
    · have := Nat.mul_le_mul hlim h8
      simp only [lim8] at this
      omega
  replace hlim : xs.length + ys.length ≤ 17592186044416 := by
    rcases hlim with hlim | ⟨hlim, _⟩
    · simp only [lim] at hlim; omega
    · exact hlim
  by_cases hroom : xs.length + ys.length ≤ cap
  · by_cases hy : ys.length = 0
    · -- nothing is appended
      have hys : ys = [] := List.eq_nil_of_length_eq_zero hy
      subst hys
      have hrow : row = [] := List.eq_nil_of_length_eq_zero (by rw [hlr]; simp)
      subst hrow
      have hc := hs.cells
      have hlen := hs.len w
      refine ⟨_, w, ?_, Ext.refl M w, Below.refl _ _, hm, Nat.le_refl _, ⟨ad, cap, row0, rfl, by simpa using h1, h2, hz0, by simpa using h3, h5⟩, fun b _ _ => rfl, fun b hb => .inl (by simpa using hb), .inr ⟨ad, cap, rfl, by simp⟩⟩
      rcases hs.kind with ⟨e', hk⟩ | hk <;>
        (simp [Builtin.append_, run_underlying ht, run_underlying hk, sizeOf, typeInfo, hi, hsz, hlen, show xs.length ≤ cap from h1]
         simp only [List.length_nil] at hc
         cases ad with
         | none => simp [hc]
         | some ad => simp [hc, storeCells])
    · -- in place
      obtain ⟨a0, rfl⟩ : ∃ a0, ad = some a0 := by
        cases ad with
        | none => exfalso; have := hz0 rfl; omega
        | some a0 => exact ⟨a0, rfl⟩
      have hpos : 0 < cap := by omega
      obtain ⟨b, cur, Tc, rfl, e2, ⟨fz, ez, e3⟩, e7, e9, e8⟩ := h5 _ rfl hpos
      have hblt : b < w.heap.size := (Array.getElem?_eq_some_iff.1 e3).1
      have hmul : xs.length * T.n + ys.length * T.n ≤ cap * T.n := by rw [← Nat.add_mul]; exact Nat.mul_le_mul_right _ hroom
      have hst := run_storeCells_fz P b (xs.length * T.n) Tc row 0 cur w e3 ez (by omega) hs.one
      simp only [Nat.add_zero] at hst
      generalize hnr : (cur.toList.take (xs.length * T.n) ++ row ++ cur.toList.drop (xs.length * T.n + row.length)).toArray = nr at hst
      have hlow : ∀ o, o < xs.length * T.n → nr[o]? = cur[o]? := by
        intro o ho
        rw [← hnr]
        simp only [List.getElem?_toArray, List.append_assoc]
        rw [List.getElem?_append_left (by simp; omega), List.getElem?_take, if_pos ho]
        simp
      have hmid : ∀ j, j < row.length → nr[xs.length * T.n + j]? = row[j]? := by
        intro j hj
        rw [← hnr]
        simp only [List.getElem?_toArray, List.append_assoc]
        rw [List.getElem?_append_right (by simp; omega), List.getElem?_append_left (by simp; omega)]
        congr 1
        simp
        omega
      have hnsz : nr.size = cur.size := by
        rw [← hnr]
        simp
        omega
      have hext : Ext M w M (w.setRow b nr) := ext_setRow nr e8
      refine ⟨.slice (some ⟨b, 0, none⟩) (xs.length + ys.length) cap, w.setRow b nr, ?_, hext, below_setRow (Below.refl _ _) (hB _ e2) _, (fun b o m => by rw [size_setRow]; exact hm b o m), by simp, ?_, ?_, ?_, .inr ⟨_, _, rfl, rfl⟩⟩
      · have hc := hs.cells
        have hlen := hs.len w
        rcases hs.kind with ⟨e', hk⟩ | hk <;>
          simp [Builtin.append_, run_underlying ht, run_underlying hk, sizeOf, typeInfo, hi, hsz, hlen, hroom, hc, addr_add, hst]
      · refine ⟨some ⟨b, 0, none⟩, cap, row0 ++ row, by simp, by simpa using hroom, h2, (fun h => by cases h), (h3.mono (fun _ _ r => r.ext hext)).append (hr.mono (fun _ _ r => r.ext hext)), fun a0 ha hc => ?_⟩
        cases ha
        refine ⟨b, nr, Tc, rfl, e2, ⟨fz, by rw [hnsz]; exact ez, setRow_heap w b cur nr _ _ e3⟩, by rw [hnsz]; exact e7, fun j hj => ?_, e8⟩
        simp only [List.length_append] at hj
        by_cases hlt : j < row0.length
        · rw [List.getElem?_append_left hlt, hlow j (by omega), e9 j hlt]
        · rw [List.getElem?_append_right (by omega), ← hmid (j - row0.length) (by omega)]
          congr 1
          omega
      · intro b' _ hne
        have hb : b' ≠ b := fun h => hne (by rw [h]; simp [wob]; omega)
        exact setRow_other w b b' nr hb
      · intro b' hb'
        left
        simpa [wob] using hb'
  · -- a new row
    have hold : (Builtin.firstCells i.size xs.length (.slice ad xs.length cap)).run P w.drew = .ok row0.toArray w.drew := by
      cases ad with
      | none =>
        have hx0 : xs.length = 0 := by have := hz0 rfl; omega
        have : row0 = [] := List.eq_nil_of_length_eq_zero (by rw [hl0, hx0]; simp)
        subst this
        exact run_firstCells_none w.drew i.size xs.length xs.length cap
      | some a0 =>
        refine run_firstCells_some w.drew i.size xs.length a0 xs.length cap row0 (by rw [hsz]; exact hl0) (fun j u hj => ?_)
        have hlt : j < row0.length := (List.getElem?_eq_some_iff.1 hj).1
        have hpos : 0 < cap := by
          rcases Nat.eq_zero_or_pos cap with h | h
          · exfalso
            have : xs.length = 0 := by omega
            rw [this] at hl0
            simp at hl0
            simp [hl0] at hlt
          · exact h
        obtain ⟨b, cur, Tc, rfl, e2, ⟨fz, ez, e3⟩, e7, e9, e8⟩ := h5 _ rfl hpos
        rw [addr_add]
        have : w.cell? ⟨b, 0 + j, none⟩ = some u := by rw [cell_of_row _ _ _ _ _ _ e3, Nat.zero_add, e9 j hlt, hj]
        simpa using this
    have hrun := run_append_grow_src (P := P) w t u ty e i _ ht hi hz ad xs.length cap row0 hold x ys.length row (by rw [hsz]; exact hs) (by omega) (by omega) (growslice_fits (by omega) hbb)
    have hge := grownCap_ge w (xs.length + ys.length) cap e
    have hcl := grownCap_le_maxLen w (xs.length + ys.length) cap e (by simp only [maxLen]; omega)
    generalize hcap : grownCap w (xs.length + ys.length) cap e = nc at hrun hge hcl
    generalize hnr : ((row0 ++ row).toArray ++ Builtin.zeroCells (toV T (zeroCells T)).cells (nc - (xs.length + ys.length))) = nr at hrun
    have hzl : (toV T (zeroCells T)).cells.size = T.n := by
      have := zeroCells_length T
      cases T <;> simp [toV, Ty.isAgg, Value.cells, this] <;> rfl
    have hnsz : nr.size = nc * T.n := by
      rw [← hnr]
      simp only [Array.size_append, List.size_toArray, List.length_append, size_zeroCells, hzl, hl0, hlr]
      rw [← Nat.add_mul, ← Nat.add_mul]
      congr 1
      omega
    have hb1 := heap_alloc_new w.drew (.cells nr e)
    have hg : Below w.heap.size w (w.drew.alloc (.cells nr e)) := (Below.refl _ _).drew.alloc (Nat.le_refl _) _
    have hext : Ext M w M (w.drew.alloc (.cells nr e)) := fun b' o m =>
      ⟨m, fun v hv => by rw [hg.cell (p := ⟨b', o, none⟩) (cell_lt hv)]; exact hv⟩
    refine ⟨_, _, hrun, hext, hg.mono hb0, ?_, by simp, ?_, ?_, ?_, .inl ⟨fun b' hlt => hg.block b' hlt, ?_⟩⟩
    · intro b' o m
      simp
      have := hm b' o m
      omega
    · refine ⟨some ⟨w.heap.size, 0, none⟩, nc, row0 ++ row, by simp, by simpa using hge, hcl, (fun h => by cases h), (h3.mono (fun _ _ r => r.ext hext)).append (hr.mono (fun _ _ r => r.ext hext)), fun a0 ha hc => ?_⟩
      cases ha
      refine ⟨w.heap.size, nr, e, rfl, hB2 _ (Nat.le_refl _), ⟨_, fzOk_zero, hb1⟩, Nat.le_of_eq hnsz.symm, fun j hj => ?_, fun o m => by have := hm _ _ m; omega⟩
      rw [← hnr, Array.getElem?_append_left (by simpa using hj)]
      simp
    · intro b' hlt _
      exact hg.block b' hlt
    · intro b' hb'
      right
      simp only [wob] at hb'
      split at hb'
      · cases hb'
      · have := Option.some.inj hb'; omega
    · intro b' hb'
      simp only [wob] at hb'
      split at hb'
      · cases hb'
      · have := Option.some.inj hb'; omega

/-- zeros, appended to nil -/
theorem append_mk {t u ty e : TypeId} {T : Ty} {i : TypeInfo} (ht : P.underlying t = some (.slice e)) (hu : P.underlying u = some (.int .i64)) (hi : P.info? e = some i) (hsz : i.size = T.n) (hz : i.zero = some (toV T (zeroCells T))) (hby : i.bytes ≤ 2048) (hn : 1 ≤ T.n) {b0 : Nat} {B : Nat → Prop} (hB2 : ∀ b, w.heap.size ≤ b → B b)
    {z : T.den} (hzd : zeroD T = some z) {n : Int} (h1 : 1 ≤ n) (h2 : n ≤ (lim : Int)) (hm : ∀ b o, M b o → b < w.heap.size) (hb0 : b0 ≤ w.heap.size) :
    ∃ v' w', (Builtin.append_ #[t, u] ty #[.slice none 0 0, .int .i64 n]).run P w = .ok v' w' ∧ Ext M w M w' ∧ Below b0 w w' ∧ (∀ b o, M b o → b < w'.heap.size) ∧ w.heap.size ≤ w'.heap.size ∧
      RowX B M w' T (List.replicate n.toNat z) v' ∧ (∀ b, b < w.heap.size → w'.heap[b]? = w.heap[b]?) ∧ (∀ b, wob v' = some b → w.heap.size ≤ b) := by
  obtain ⟨k, rfl⟩ := Int.eq_ofNat_of_zero_le (show 0 ≤ n by omega)
  have hk : k ≤ lim := by omega
  have hk1 : 1 ≤ k := by omega
  have hbb : k * i.bytes ≤ 140737488355328 := by
    have := Nat.mul_le_mul hk hby
    simp only [lim] at this
    omega
  have hzs : (toV T (zeroCells T)).cells = (zeroCells T).toArray := toV_cells (zero_rep (M := M) (w := w) hzd)
  have hzl := zeroCells_length T
  have hfit := growslice_fits (need := k) (old := 0) (by omega) hbb
  have hrun : (Builtin.append_ #[t, u] ty #[.slice none 0 0, .int .i64 (k : Int)]).run P w = .ok (.slice (some ⟨w.heap.size, 0, none⟩) k (grownCap w k 0 e)) (w.drew.alloc (.cells (Builtin.zeroCells (toV T (zeroCells T)).cells k ++ Builtin.zeroCells (toV T (zeroCells T)).cells (grownCap w k 0 e - k)) e)) := by
    simp only [lim] at hk
    have hw : IntKind.i64.wrap (k : Int) = k := by simp [IntKind.wrap, IntKind.signed, IntKind.bits]; omega
    have c1 : ¬ ((k : Int) < 0) := by omega
    have c2 : ¬ (281474976710656 < (k : Int) * (i.bytes : Int)) := by
      have : ((k * i.bytes : Nat) : Int) ≤ 140737488355328 := by omega
      rw [Int.natCast_mul] at this
      omega
    have c4 : k ≠ 0 := by omega
    have c6 : ¬ (9223372036854775807 < (k : Int)) := by omega
    have c7 : ¬ (281474976710656 < Builtin.nextslicecap k 0 * i.bytes) := by omega
    simp [Builtin.append_, run_underlying ht, run_underlying hu, sizeOf, typeInfo, zeroValue, hi, hz, hsz, asInt, asIntOf, hw, c1, c2, c4, c6, c7, Question.forced, newRow, grownCap, run_firstCells_none]
    exact fun h0 => absurd (Nat.mul_pos hk1 hn) (by omega)
  generalize hcap : grownCap w k 0 e = nc at hrun
  have hge : k ≤ nc := hcap ▸ grownCap_ge w k 0 e
  have hcl : nc ≤ maxLen := hcap ▸ grownCap_le_maxLen w k 0 e (by simp only [maxLen, lim] at *; omega)
  have hzc : ∀ m, (Builtin.zeroCells (toV T (zeroCells T)).cells m).toList = (List.replicate m (zeroCells T)).flatten := by
    intro m
    have := made_list (zeroCells T).toArray (by simp only [List.size_toArray, hzl]; exact hn) m
    rw [hzs]
    exact this
  generalize hnr : (Builtin.zeroCells (toV T (zeroCells T)).cells k ++ Builtin.zeroCells (toV T (zeroCells T)).cells (nc - k)) = nr at hrun
  have hnl : nr.toList = (List.replicate k (zeroCells T)).flatten ++ (List.replicate (nc - k) (zeroCells T)).flatten := by rw [← hnr, Array.toList_append, hzc, hzc]
  have hnsz : nr.size = nc * T.n := by
    rw [← Array.length_toList, hnl]
    simp [hzl]
    rw [← Nat.add_mul]
    congr 1
    omega
  have hb1 := heap_alloc_new w.drew (.cells nr e)
  have hg : Below w.heap.size w (w.drew.alloc (.cells nr e)) := (Below.refl _ _).drew.alloc (Nat.le_refl _) _
  have hext : Ext M w M (w.drew.alloc (.cells nr e)) := fun b' o m =>
    ⟨m, fun v hv => by rw [hg.cell (p := ⟨b', o, none⟩) (cell_lt hv)]; exact hv⟩
  have hrep : Rep M (w.drew.alloc (.cells nr e)) (.arr k T) (zeroCells (.arr k T)) (List.replicate k z) := zero_rep (t := .arr k T) (by simp only [zeroD, hzd, Option.bind_some])
  refine ⟨_, _, hrun, hext, hg.mono hb0, ?_, by simp, ?_, fun b' hlt => hg.block b' hlt, ?_⟩
  · intro b' o m
    simp
    have := hm b' o m
    omega
  · rw [Int.toNat_natCast]
    refine ⟨some ⟨w.heap.size, 0, none⟩, nc, (List.replicate k (zeroCells T)).flatten, by simp, by simpa using hge, hcl, (fun h => by cases h), hrep.2, fun a0 ha hc => ?_⟩
    cases ha
    refine ⟨w.heap.size, nr, e, rfl, hB2 _ (Nat.le_refl _), ⟨_, fzOk_zero, hb1⟩, Nat.le_of_eq hnsz.symm, fun j hj => ?_, fun o m => by have := hm _ _ m; omega⟩
    rw [← Array.getElem?_toList, hnl, List.getElem?_append_left hj]
  · intro b' hb'
    simp only [wob] at hb'
    split at hb'
    · cases hb'
    · have := Option.some.inj hb'; omega
end
end Go.Lift
