/- Each operation, in order. -/
import Derived.Test.YtnhiaoabhjjegaaLiftK
import Derived.Laws.CopyOwn
namespace Go.Lift
open Go.RowKit

section
variable {P : Program} {E : Env} {el : TypeId → Option TypeId} {Q : Exit → Act → World → Prop} {o : Oper} {w0 : World} {M0 : Own} {N : Nat} {M M' : Own} {β : Nat → Nat} {τ : Nat → Value} {fr : Fr} {a : Act} {w w' : World} {av : AV}

/-- what an operation may do to the frame -/
def OStep (P : Program) (Q : Exit → Act → World → Prop) (w0 : World) (M0 : Own) (N : Nat) (o : Oper) (a : Act) (w : World) (fr' : Fr) : Prop :=
  ∀ K : Act → World → Prop, (∀ a' w', Sim P w0 M0 N fr' a' w' → K a' w') → o.wp P a w K Q

theorem ostep_run {fr' : Fr} {v : Value} (hr : (execOp a.eval o).run P w = .ok (.value v) w') (hs : Sim P w0 M0 N fr' (a.put o.dst v) w') : OStep P Q w0 M0 N o a w fr' := by
  intro K hK
  unfold Oper.wp
  rw [hr]
  exact hK _ _ hs

theorem ostep_val (hE : EnvOk P E el) (s : SimX P w0 M0 N M β τ fr a w) (hd : ∀ d, o.dst = some d → d < N) (hv : opV E o fr some = some av) (hl : OwnLive fr av) : OStep P Q w0 M0 N o a w (setS fr o.dst av) := by
  intro K hK
  refine opV_sound hE s hv K fun v w' M' hg hav => ?_
  exact hK _ _ ⟨M', β, τ, (s.grow hg).set o.dst hd hav hl⟩

theorem srcTV_ok {e : Ty} {x : AV} {ys : List e.den} {v : Value} {tab : List (TypeId × Ty)} {u : TypeId} (h : srcTV (lk u tab) e x = some ys) (hx : AOk M w β τ fr.l x v) (htab : TabOk P tab) (hn : 1 ≤ e.n) :
    ∃ row, Src P e.n u v ys.length row w ∧ Seq (Rep M w e) row ys := by
  unfold srcTV at h
  split at h
  · rename_i t zs _
    obtain ⟨hc, h⟩ := bif_some h
    have := TV.as_eq h
    cases this
    obtain ⟨e', hu, _⟩ := (htab _ _ (tyIs_eq hc)).slice
    obtain ⟨ad, cap, row, hv, _, _, _, hs, hrow⟩ := hx.1.slice
    have hl : row.length = List.length ys * e.n := hs.length (fun _ _ r => r.length)
    refine ⟨row, ?_, hs⟩
    rw [hv]
    rcases hrow with hz | ⟨b, o', rfl, hrow⟩
    · have hz' : List.length ys = 0 := hz
      have : row = [] := List.eq_nil_of_length_eq_zero (by rw [hl, hz']; simp)
      subst this
      have e0 : ys = [] := List.eq_nil_of_length_eq_zero hz'
      subst e0
      cases ad with
      | none => exact Src.ofNil w hu cap
      | some ad => exact Src.ofSlice w hu ad 0 cap [] (by simp) (fun j u hj => by simp at hj) (fun u hu => by cases hu)
    · refine Src.ofSlice w hu _ _ cap row hl (fun j u hj => ?_) ?_
      · have hlt : j < row.length := (List.getElem?_eq_some_iff.1 hj).1
        rw [addr_add, (hrow j hlt).1, hj]
      · have oc : ∀ {cs : List Value} {xs : List e.den}, Seq (Rep M w e) cs xs → ∀ v ∈ cs, v.oneCell' = true := by
          intro cs xs
          induction xs generalizing cs with
          | nil => intro s; simp only [Seq] at s; subst s; simp
          | cons x xs ih =>
            rintro ⟨c1, c2, rfl, r, s⟩ v hv
            rcases List.mem_append.1 hv with hv | hv
            · exact r.oneCell v hv
            · exact ih s v hv
        exact oc hs
  · rename_i zs _
    obtain ⟨hc, h⟩ := bif_some h
    have := TV.as_eq h
    cases this
    have hu := (htab _ _ (tyIs_eq hc)).str
    obtain ⟨sb, hv, rfl, _⟩ := hx.1.str
    refine ⟨byteCells sb, ?_, ?_⟩
    · rw [hv]
      have := Src.ofString (P := P) w hu sb
      have z1 : sb.data.size = sb.size := rfl
      simpa [Ty.n, z1] using this
    · have := Seq.of_ints (M := M) (w := w) (k := .u8) (xs := sb.data.toList.map fun b => (b.toNat : Int)) (fun x hx => by
        obtain ⟨b, _, rfl⟩ := List.mem_map.1 hx
        have := UInt8.toNat_lt b
        simp [IntKind.min, IntKind.max, IntKind.signed, IntKind.bits]; omega)
      rw [List.map_map] at this
      exact this
  · cases h

theorem append_run {t u ty e : TypeId} {T : Ty} {i : TypeInfo} (ht : P.underlying t = some (.slice e)) (hi : P.info? e = some i) (hsz : i.size = T.n) (hz : i.zero = some (toV T (zeroCells T))) (hby : i.bytes ≤ 2048) (hn : 1 ≤ T.n)
    {xs ys : List T.den} {v x : Value} {row : List Value} (hm : ∀ b o, M b o → b < w.heap.size) (hv : VOk M w (.slice T) xs v) (hs : Src P T.n u x ys.length row w) (hr : Seq (Rep M w T) row ys) (hlim : xs.length + ys.length ≤ lim)
    (htip : TipOk P w0 w M v e) (hbel : Below w0.heap.size w0 w) (hnew : ∀ b o, M b o → M0 b o ∨ w0.heap.size ≤ b) :
    ∃ v' w' M', (Builtin.append_ #[t, u] ty #[v, x]).run P w = .ok v' w' ∧ Ext M w M' w' ∧ Below w0.heap.size w0 w' ∧ (∀ b o, M' b o → b < w'.heap.size) ∧ (∀ b o, M' b o → M0 b o ∨ w0.heap.size ≤ b) ∧
      VOk M' w' (.slice T) (xs ++ ys) v' ∧ TipOk P w0 w' M' v' e ∧ (∀ b, b < w.heap.size → wb v ≠ some b → w'.heap[b]? = w.heap[b]? ∧ ∀ o, M' b o → M b o) ∧ (∀ b, wb v' = some b → wb v = some b ∨ w.heap.size ≤ b) := by
  obtain ⟨ad, cap, row0, rfl, h1, h2, hz0, h3, h4⟩ := hv.slice
  have hl0 : row0.length = xs.length * T.n := h3.length (fun _ _ r => r.length)
  have hlr : row.length = ys.length * T.n := hr.length (fun _ _ r => r.length)
  simp only [lim] at hlim
  by_cases hroom : xs.length + ys.length ≤ cap
  · by_cases hy : ys.length = 0
    · -- nothing is appended
      have hys : ys = [] := List.eq_nil_of_length_eq_zero hy
      subst hys
      have hrow : row = [] := List.eq_nil_of_length_eq_zero (by rw [hlr]; simp)
      subst hrow
      have hc := hs.cells
      have hlen := hs.len w
      refine ⟨_, w, M, ?_, Ext.refl M w, hbel, hm, hnew, by simpa using hv, htip, fun b _ _ => ⟨rfl, fun _ h => h⟩, fun b hb => .inl hb⟩
      rcases hs.kind with ⟨e', hk⟩ | hk <;>
        (simp [Builtin.append_, run_underlying ht, run_underlying hk, sizeOf, typeInfo, hi, hsz, hlen, show xs.length ≤ cap from h1]
         simp only [List.length_nil] at hc
         cases ad with
         | none => simp [hc]
         | some ad => simp [hc, storeCells])
    · -- in place
      have hwb : ∃ a0, ad = some a0 ∧ wb (.slice ad xs.length cap) = some a0.block := by
        cases ad with
        | none => exfalso; have := hz0 rfl; omega
        | some a0 => exact ⟨a0, rfl, by simp only [wb]; rw [if_pos (by omega)]⟩
      obtain ⟨a0, rfl, hw⟩ := hwb
      obtain ⟨n', cap', cur, i', e1, e2, e3, e4, e5, e6, e7, e8⟩ := htip _ hw
      obtain ⟨b, o0, sp⟩ := a0
      simp only [Value.slice.injEq, Option.some.injEq, Addr.mk.injEq] at e1
      obtain ⟨⟨_, rfl, rfl⟩, rfl, rfl⟩ := e1
      simp only at e2 e3 e8 hw
      obtain rfl : i' = i := Option.some.inj (e6.symm.trans hi)
      have hblt : b < w.heap.size := (Array.getElem?_eq_some_iff.1 e3).1
      have hmul : xs.length * T.n + ys.length * T.n ≤ cap * T.n := by rw [← Nat.add_mul]; exact Nat.mul_le_mul_right _ hroom
      rw [hsz] at e7 e8
      have hst := run_storeCells_at P b (xs.length * T.n) e row 0 cur w e3 (by omega) hs.one
      simp only [Nat.add_zero] at hst
      generalize hnr : (cur.toList.take (xs.length * T.n) ++ row ++ cur.toList.drop (xs.length * T.n + row.length)).toArray = nr at hst
      have hcell0 : ∀ o, w.cell? ⟨b, o, none⟩ = cur[o]? := fun o => cell_of_row _ _ _ _ _ _ e3
      have e3' := setRow_heap w b cur nr e _ e3
      have hcell1 : ∀ o, (w.setRow b nr).cell? ⟨b, o, none⟩ = nr[o]? := fun o => cell_of_row _ _ _ _ _ _ e3'
      have hlow : ∀ o, o < xs.length * T.n → nr[o]? = cur[o]? := by
        intro o ho
        rw [← hnr]
        simp only [List.getElem?_toArray, List.append_assoc]
        rw [List.getElem?_append_left (by simp; omega), List.getElem?_take, if_pos ho]
        simp
      have hmid : ∀ j, j < row.length → nr[xs.length * T.n + j]? = row[j]? := by
        intro j hj
        rw [← hnr]
        simp only [List.getElem?_toArray, List.append_assoc]
        rw [List.getElem?_append_right (by simp; omega), List.getElem?_append_left (by simp; omega)]
        congr 1
        simp
        omega
      have hnsz : nr.size = cap * T.n := by
        rw [← hnr]
        simp
        omega
      have hother : ∀ k, k ≠ b → (w.setRow b nr).heap[k]? = w.heap[k]? := fun k hk => setRow_other w b k nr hk
      have hext : Ext M w (fun b' o => M b' o ∨ (b' = b ∧ o < (xs.length + ys.length) * T.n)) (w.setRow b nr) := by
        intro b' o m
        refine ⟨.inl m, fun u hu => ?_⟩
        by_cases hb : b' = b
        · subst hb
          have ho : o < xs.length * T.n := by
            rcases Nat.lt_or_ge o (xs.length * T.n) with h | h
            · exact h
            · exact absurd m (e8 o h)
          rw [hcell1, hlow o ho, ← hcell0]
          exact hu
        · rw [World.cell?_of_block (w := w) (hother b' hb)]
          exact hu
      refine ⟨.slice (some ⟨b, 0, none⟩) (xs.length + ys.length) cap, w.setRow b nr, fun b' o => M b' o ∨ (b' = b ∧ o < (xs.length + ys.length) * T.n), ?_, hext, below_setRow hbel e2 _, ?_, ?_, ?_, ?_, ?_, ?_⟩
      · have hc := hs.cells
        have hlen := hs.len w
        rcases hs.kind with ⟨e', hk⟩ | hk <;>
          simp [Builtin.append_, run_underlying ht, run_underlying hk, sizeOf, typeInfo, hi, hsz, hlen, hroom, hc, addr_add, hst]
      · intro b' o m
        rw [size_setRow]
        exact m.elim (hm b' o) (fun m => by rw [m.1]; exact hblt)
      · intro b' o m
        exact m.elim (hnew b' o) (fun m => by rw [m.1]; exact .inr e2)
      · refine ⟨[.slice (some ⟨b, 0, none⟩) (xs.length + ys.length) cap], rfl, some ⟨b, 0, none⟩, cap, row0 ++ row, by simp, by simpa using hroom, h2, (fun h => by cases h), ?_, .inr ⟨b, 0, rfl, ?_⟩⟩
        · exact (h3.mono (fun _ _ r => r.ext hext)).append (hr.mono (fun _ _ r => r.ext hext))
        · have hrow0 : ∀ i, i < row0.length → cur[i]? = row0[i]? := by
            intro i hi'
            rcases h4 with h4 | ⟨b1, o1, h4, h5⟩
            · have : row0.length = 0 := by rw [hl0, h4]; simp
              omega
            · simp only [Option.some.injEq, Addr.mk.injEq] at h4
              obtain ⟨rfl, rfl, _⟩ := h4
              have := (h5 i hi').1
              rw [Nat.zero_add, hcell0] at this
              exact this
          intro i hi'
          simp only [List.length_append] at hi'
          refine ⟨?_, .inr ⟨rfl, by rw [Nat.add_mul]; omega⟩⟩
          rw [Nat.zero_add, hcell1]
          by_cases hlt : i < row0.length
          · rw [List.getElem?_append_left hlt, hlow i (by omega), hrow0 i hlt]
          · rw [List.getElem?_append_right (by omega), ← hmid (i - row0.length) (by omega)]
            congr 1
            omega
      · intro b' hb'
        have : b' = b := by
          simp only [wb] at hb'
          split at hb'
          · exact (Option.some.inj hb').symm
          · cases hb'
        subst this
        exact ⟨_, cap, nr, i', rfl, e2, e3', hroom, h2, hi, by rw [hnsz, hsz], fun o ho m => m.elim (fun m => e8 o (by rw [hsz, Nat.add_mul] at ho; omega) m) (fun m => by rw [hsz] at ho; omega)⟩
      · intro b' _ hne
        have hb : b' ≠ b := fun h => hne (by rw [h]; exact hw)
        exact ⟨hother b' hb, fun o m => m.elim id (fun m => absurd m.1 hb)⟩
      · intro b' hb'
        left
        simp only [wb] at hb' ⊢
        split at hb'
        · rw [if_pos (by omega)]; exact hb'
        · cases hb'
  · -- a new row
    have hold : (Builtin.firstCells i.size xs.length (.slice ad xs.length cap)).run P w.drew = .ok row0.toArray w.drew := by
      cases ad with
      | none =>
        have hx0 : xs.length = 0 := by have := hz0 rfl; omega
        have : row0 = [] := List.eq_nil_of_length_eq_zero (by rw [hl0, hx0]; simp)
        subst this
        exact run_firstCells_none w.drew i.size xs.length xs.length cap
      | some a0 =>
        refine run_firstCells_some w.drew i.size xs.length a0 xs.length cap row0 (by rw [hsz]; exact hl0) (fun j u hj => ?_)
        have hlt : j < row0.length := (List.getElem?_eq_some_iff.1 hj).1
        rcases h4 with h4 | ⟨b1, o1, h4, h5⟩
        · have : row0.length = 0 := by rw [hl0, h4]; simp
          omega
        · cases h4
          rw [addr_add]
          exact (h5 j hlt).1.trans hj
    have hbb : (xs.length + ys.length) * i.bytes ≤ 140737488355328 := by
      have := Nat.mul_le_mul hlim hby
      omega
    have hrun := run_append_grow_src (P := P) w t u ty e i _ ht hi hz ad xs.length cap row0 hold x ys.length row (by rw [hsz]; exact hs) (by omega) (by omega) (growslice_fits (by omega) hbb)
    have hge := grownCap_ge w (xs.length + ys.length) cap e
    have hcl := grownCap_le_maxLen w (xs.length + ys.length) cap e (by simp only [maxLen]; omega)
    generalize hcap : grownCap w (xs.length + ys.length) cap e = nc at hrun hge hcl
    generalize hnr : ((row0 ++ row).toArray ++ Builtin.zeroCells (toV T (zeroCells T)).cells (nc - (xs.length + ys.length))) = nr at hrun
    have hzl : (toV T (zeroCells T)).cells.size = T.n := by
      have := zeroCells_length T
      cases T <;> simp [toV, Ty.isAgg, Value.cells, this] <;> rfl
    have hnsz : nr.size = nc * T.n := by
      rw [← hnr]
      simp only [Array.size_append, List.size_toArray, List.length_append, size_zeroCells, hzl, hl0, hlr]
      rw [← Nat.add_mul, ← Nat.add_mul]
      congr 1
      omega
    have hb1 := heap_alloc_new w.drew (.cells nr e)
    have hg : Below w.heap.size w (w.drew.alloc (.cells nr e)) := (Below.refl _ _).drew.alloc (Nat.le_refl _) _
    have hext : Ext M w (fun b' o => M b' o ∨ (b' = w.heap.size ∧ o < (xs.length + ys.length) * T.n)) (w.drew.alloc (.cells nr e)) := fun b' o m =>
      ⟨.inl m, fun v hv => by rw [hg.cell (p := ⟨b', o, none⟩) (cell_lt hv)]; exact hv⟩
    refine ⟨_, _, fun b' o => M b' o ∨ (b' = w.heap.size ∧ o < (xs.length + ys.length) * T.n), hrun, hext, hbel.trans (hg.mono hbel.size), ?_, ?_, ?_, ?_, ?_, ?_⟩
    · intro b' o m
      simp
      exact m.elim (fun m => by have := hm b' o m; omega) (fun m => by omega)
    · intro b' o m
      exact m.elim (hnew b' o) (fun m => by rw [m.1]; exact .inr hbel.size)
    · refine ⟨[.slice (some ⟨w.heap.size, 0, none⟩) (xs.length + ys.length) nc], rfl, some ⟨w.heap.size, 0, none⟩, nc, row0 ++ row, by simp, by simpa using hge, hcl, (fun h => by cases h), ?_, .inr ⟨_, 0, rfl, ?_⟩⟩
      · exact (h3.mono (fun _ _ r => r.ext hext)).append (hr.mono (fun _ _ r => r.ext hext))
      · intro j hj
        refine ⟨?_, .inr ⟨rfl, by simp only [List.length_append] at hj; rw [Nat.add_mul]; omega⟩⟩
        rw [Nat.zero_add, show (w.drew.alloc (.cells nr e)).cell? ⟨w.heap.size, j, none⟩ = nr[j]? from cell_of_row _ _ _ _ _ _ hb1, ← hnr, Array.getElem?_append_left (by simpa using hj)]
        simp
    · intro b' hb'
      have : b' = w.heap.size := by
        simp only [wb] at hb'
        split at hb'
        · exact (Option.some.inj hb').symm
        · cases hb'
      subst this
      exact ⟨_, nc, nr, i, rfl, hbel.size, hb1, hge, hcl, hi, by rw [hnsz, hsz], fun o ho m => m.elim (fun m => by have := hm _ _ m; omega) (fun m => by rw [hsz] at ho; omega)⟩
    · intro b' hlt _
      exact ⟨hg.block b' hlt, fun o m => m.elim id (fun m => by omega)⟩
    · intro b' hb'
      right
      simp only [wb] at hb'
      split at hb'
      · have := Option.some.inj hb'; omega
      · cases hb'

/-- a store into a local -/
theorem SimX.setLoc (s : SimX P w0 M0 N M β τ fr a w) {id : Nat} {e : Bool × TV} {p : List Step} {off : Nat} {t' : Ty} {v : TV} {d : List Value} {z : e.2.1.den} (he : lk id fr.l = some e) (hm : e.1 = true) (ho : offP e.2.1 p = some (off, t'))
    (hz : setP v e.2.1 e.2.2 p = some z) (hd : Rep M w v.1 d v.2) :
    ∃ w', (storeCells ⟨β id, off, none⟩ d).run P w = .ok () w' ∧ Sim P w0 M0 N { fr with l := setL id (true, ⟨e.2.1, z⟩) fr.l } a w' := by
  obtain ⟨l1, ⟨cs, T, l2, l3⟩, l4, l5⟩ := s.lo id e he
  obtain ⟨c0, c1, c2, e1, h2, h3, h4⟩ := setP_rep hd hz ho l3
  have hst := run_storeCells_at P (β id) off T d 0 cs.toArray w l2 (by simp [e1]; omega) hd.oneCell
  have hnr : (cs.toArray.toList.take (off + 0) ++ d ++ cs.toArray.toList.drop (off + 0 + d.length)).toArray = (c0 ++ (d ++ c2)).toArray := by
    simp only [Nat.add_zero, e1]
    have h1 : (c0 ++ (c1 ++ c2)).take off = c0 := by rw [← h2]; exact List.take_left
    have h5 : (c0 ++ (c1 ++ c2)).drop (off + d.length) = c2 := by
      rw [← h2, ← h3, ← List.append_assoc, ← List.length_append]; exact List.drop_left
    rw [h1, h5, List.append_assoc]
  rw [hnr] at hst
  have hnm := l4 hm
  have hother : ∀ k, k ≠ β id → (w.setRow (β id) (c0 ++ (d ++ c2)).toArray).heap[k]? = w.heap[k]? := fun k hk => setRow_other w _ k _ hk
  have hext : Ext M w M (w.setRow (β id) (c0 ++ (d ++ c2)).toArray) := by
    intro b' o m
    refine ⟨m, fun u hu => ?_⟩
    have hb : b' ≠ β id := fun h => by subst h; exact hnm o m
    rw [World.cell?_of_block (w := w) (hother b' hb)]
    exact hu
  have hlk : ∀ j, lk j (setL id (true, ⟨e.2.1, z⟩) fr.l) = if j = id then some (true, ⟨e.2.1, z⟩) else lk j fr.l := fun j => by
    rw [lk_setL]; split <;> simp_all
  refine ⟨_, hst, M, β, τ, ?_⟩
  exact {
    df := s.df, sz := s.sz, bel := below_setRow s.bel l1 _, mex := s.mex, gk := s.gk, mnew := s.mnew
    mlt := fun b o m => by rw [size_setRow]; exact s.mlt b o m
    sl := fun i av h => by
      obtain ⟨v', hv, r⟩ := s.sl i av h
      refine ⟨v', hv, ?_⟩
      have r' := r.ext hext
      cases av with
      | loc j q =>
        obtain ⟨e', o2, t2, g1, g2, g3⟩ := r'
        by_cases hj : j = id
        · subst hj
          obtain rfl : e' = e := Option.some.inj (g1.symm.trans he)
          exact ⟨(true, ⟨e'.2.1, z⟩), o2, t2, by rw [hlk]; simp, g2, g3⟩
        · exact ⟨e', o2, t2, by rw [hlk, if_neg hj]; exact g1, g2, g3⟩
      | _ => exact r'
    lo := fun j e' h => by
      rw [hlk] at h
      split at h
      · rename_i hj
        subst hj
        cases h
        exact ⟨l1, ⟨_, T, setRow_heap w _ _ _ T _ l2, h4.ext hext⟩, fun _ o m => hnm o m, (fun hf => by cases hf)⟩
      · rename_i hj
        obtain ⟨k1, ⟨cs', T', k2, k3⟩, k4, k5⟩ := s.lo j e' h
        exact ⟨k1, ⟨cs', T', by rw [hother _ (fun hb => hj (s.ld j id e' e h he hb))]; exact k2, k3.ext hext⟩, k4, k5⟩
    ld := fun i j e1 e2 h h' hb => by
      have hs : ∀ i e1, lk i (setL id (true, ⟨e.2.1, z⟩) fr.l) = some e1 → ∃ e1', lk i fr.l = some e1' := fun i e1 h => by
        rw [hlk] at h; split at h
        · rename_i hi; subst hi; exact ⟨e, he⟩
        · exact ⟨e1, h⟩
      obtain ⟨e1', h⟩ := hs i e1 h
      obtain ⟨e2', h'⟩ := hs j e2 h'
      exact s.ld i j e1' e2' h h' hb
    ti := fun k e' h b hb => by
      obtain ⟨n, cap, cur, i, g1, g2, g3, g4, g5, g6, g7, g8⟩ := s.ti k e' h b hb
      exact ⟨n, cap, cur, i, g1, g2, by rw [hother b (fun hx => s.tl k e' id e b h hb he hx.symm)]; exact g3, g4, g5, g6, g7, g8⟩
    tl := fun k e' j y b h hb hy => by
      rw [hlk] at hy
      split at hy
      · rename_i hj; subst hj; exact s.tl k e' j e b h hb he
      · exact s.tl k e' j y b h hb hy
    tt := s.tt }

theorem dflt (hE : EnvOk P E el) (s : SimX P w0 M0 N M β τ fr a w) (hd : ∀ d, o.dst = some d → d < N) {α : Type} {k : Fr → Option α} {r : α} (h : (opV E o fr fun av => k (setS fr o.dst av)) = some r) :
    ∃ fr', k fr' = some r ∧ OStep P Q w0 M0 N o a w fr' := by
  obtain ⟨av, h1, h2, h3⟩ := opV_par.out _ _ _ h
  exact ⟨_, h3, ostep_val hE s hd (h2 _ some) h1⟩

theorem opK_sound (hE : EnvOk P E el) (s : SimX P w0 M0 N M β τ fr a w) (hd : ∀ d, o.dst = some d → d < N) {α : Type} {k : Fr → Option α} {r : α} (h : opK E el o fr k = some r) :
    ∃ fr', k fr' = some r ∧ OStep P Q w0 M0 N o a w fr' := by
  obtain ⟨dst, op, type, pos, after, guard⟩ := o
  cases op with
  | assign x =>
    cases dst with
    | none => exact dflt hE s hd h
    | some d =>
      have hdN := hd d rfl
      have hx := evT_ok s (lk type E.tab) x
      have hexec : (execOp a.eval ⟨some d, .assign x, type, pos, after, guard⟩).run P w = .ok (.value (a.eval x)) w := by simp only [execOp]; rfl
      have plain : ∀ av, evT (lk type E.tab) x fr = av → OwnLive fr av → k (setS fr (some d) av) = some r → ∃ fr', k fr' = some r ∧ OStep P Q w0 M0 N ⟨some d, .assign x, type, pos, after, guard⟩ a w fr' := by
        intro av hav hl hk
        refine ⟨_, hk, ostep_run hexec ⟨M, β, τ, s.set (some d) (fun i hi => by cases hi; exact hdN) (hav ▸ hx) hl⟩⟩
      simp only [opK, ev] at h
      generalize hy : evT (lk type E.tab) x fr = y at h hx
      rcases y with _ | ⟨⟨t, v⟩, tip⟩ | ⟨id, p⟩ | l
      · exact plain _ hy OwnLive.any h
      · cases tip with
        | own j e =>
          have hlive := evT_live hy
          exact ⟨_, h, ostep_run hexec ⟨M, β, _, s.assignOwn hdN hx.1 hx.2 hlive⟩⟩
        | no => cases t <;> exact plain _ hy OwnLive.no h
        | full =>
          cases t with
          | slice t =>
            simp only at h
            split at h
            · rename_i e he
              obtain ⟨s1, hn⟩ := s.untag d
              obtain ⟨b, n, hv⟩ := hx.2
              have hwb : wb (a.eval x) = none := by rw [hv]; exact wb_full b n
              refine ⟨_, h, ostep_run hexec ⟨M, β, _, s1.setOwn hdN hx.1 hn (tipOk_full hwb) (fun b hb => ?_) (fun b hb => ?_)⟩⟩
              · rw [hwb] at hb; cases hb
              · rw [hwb] at hb; cases hb
            · cases h
          | _ => exact plain _ hy OwnLive.full h
      · exact plain _ hy OwnLive.loc h
      · exact plain _ hy OwnLive.tup h
  | alloc t =>
    cases dst with
    | none => exact dflt hE s hd h
    | some d =>
      simp only [opK] at h
      obtain ⟨ty, hty, h⟩ := Option.bind_eq_some_iff.1 h
      obtain ⟨x, hx, h⟩ := Option.bind_eq_some_iff.1 h
      obtain ⟨i, hi, hs, hz, _⟩ := (hE.tab _ _ hty).info
      have hr := zero_rep (M := M) (w := w) hx
      have hc := toV_cells hr
      refine ⟨_, h, ostep_run (v := .pointer (some ⟨w.heap.size, 0, none⟩)) (w' := w.alloc (.cells (zeroCells ty).toArray t)) ?_ (s.newLoc (hd d rfl) hr)⟩
      simp [execOp, Instr.alloc, zeroValue, typeInfo, hi, hz, newVar, newRow, hc]
  | box t x =>
    cases dst with
    | none => exact dflt hE s hd h
    | some d =>
      simp only [opK, ev] at h
      have hx := evT_ok s (lk t E.tab) x
      generalize evT (lk t E.tab) x fr = y at h hx
      rcases y with _ | ⟨v, tip⟩ | ⟨id, p⟩ | l
      · cases h
      · obtain ⟨_, h⟩ := bif_some h
        obtain ⟨cs, hv, hr⟩ := hx.1
        have hc := toV_cells hr
        refine ⟨_, h, ostep_run (v := .pointer (some ⟨w.heap.size, 0, none⟩)) (w' := w.alloc (.cells cs.toArray t)) ?_ (s.newLoc (hd d rfl) hr)⟩
        simp [execOp, Instr.box, newVar, newRow, hv, hc]
      · cases h
      · cases h
  | store t x y =>
    cases dst with
    | some d => exact dflt hE s hd h
    | none =>
      simp only [opK, ev] at h
      have hx := evT_ok s (lk t E.tab) x
      have hy := evT_ok s (lk t E.tab) y
      generalize evT (lk t E.tab) x fr = vx at h hx
      generalize evT (lk t E.tab) y fr = vy at h hy
      rcases vx with _ | ⟨v, tip⟩ | ⟨id, p⟩ | l <;> first | (cases h; done) | skip
      obtain ⟨e, he, h⟩ := Option.bind_eq_some_iff.1 h
      obtain ⟨hm, h⟩ := bif_some h
      rcases vy with _ | ⟨v, tip⟩ | ⟨id', p'⟩ | l <;> first | (cases h; done) | skip
      obtain ⟨hc, h⟩ := bif_some h
      obtain ⟨z, hz, h⟩ := Option.bind_eq_some_iff.1 h
      obtain ⟨e', off, t', g1, g2, g3⟩ := hx
      obtain rfl : e' = e := Option.some.inj (g1.symm.trans he)
      obtain ⟨cs, hv, hr⟩ := hy.1
      obtain ⟨w', hst, hsim⟩ := s.setLoc he hm g2 hz hr
      refine ⟨_, h, fun K hK => ?_⟩
      have hrun : (execOp a.eval ⟨none, .store t x y, type, pos, after, guard⟩).run P w = .ok .skip w' := by
        have hcells := toV_cells hr
        rw [← hv] at hcells
        have hsz := (hE.tab _ _ (tyIs_eq hc)).sizeOf w
        simp only [execOp, Sem.run_bind, Instr.storeAt, g3, Instr.sureAddr, Sem.run_pure, Result.andThen_ok, storeVar, hcells, hsz, List.size_toArray, hr.length, ne_eq, not_true_eq_false, if_false, hst]
      unfold Oper.wp
      rw [hrun]
      exact hK _ _ hsim
  | slice T x lo hi mx =>
    simp only [opK, ev] at h
    split at h
    · rename_i id p heq
      obtain ⟨M', β', τ', s'⟩ := s.shutL id
      obtain ⟨av, h1, h2, h3⟩ := opV_par.out _ _ _ h
      exact ⟨_, h3, ostep_val hE s' hd (h2 _ some) h1⟩
    · exact dflt hE s hd h
  | call c =>
    obtain ⟨callee, args, argTypes⟩ := c
    cases callee with
    | builtin b =>
      cases b with
      | append =>
        cases dst with
        | none => exact dflt hE s hd h
        | some d =>
          simp only [opK, ev] at h
          split at h
          case h_2 => cases h
          rename_i sx x t u hargs hts
          split at h
          case h_2 => cases h
          rename_i e ty xs tip hel hev
          obtain ⟨hc, h⟩ := bif_some h
          simp only [Bool.and_eq_true] at hc
          obtain ⟨ys, hys, h⟩ := Option.bind_eq_some_iff.1 h
          obtain ⟨hlim, h⟩ := bif_some h
          have hlim' := Nat.le_of_ble_eq_true hlim
          have hn := Nat.le_of_ble_eq_true hc.2.2
          have hx := evT_ok s (lk t E.tab) sx
          rw [hev] at hx
          obtain ⟨row, hsrc, hseq⟩ := srcTV_ok hys (evT_ok s (lk u E.tab) x) hE.tab hn
          obtain ⟨i, hi, hsz, hz, hby⟩ := (hE.tab _ _ (tyIs_eq hc.2.1)).info
          have hu := hE.el t e hel
          have hargs' : args = #[sx, x] := by rw [← Array.toArray_toList (xs := args), hargs]
          have hts' : argTypes = #[t, u] := by rw [← Array.toArray_toList (xs := argTypes), hts]
          have hexec : ∀ v w', (Builtin.append_ #[t, u] type #[a.eval sx, a.eval x]).run P w = .ok v w' → (execOp a.eval ⟨some d, .call ⟨.builtin .append, args, argTypes⟩, type, pos, after, guard⟩).run P w = .ok (.value v) w' := by
            intro v w' hr
            subst hargs' hts'
            simp only [execOp, resolve, pure_bind, invoke, builtin, Sem.run_bind]
            rw [show Array.map a.eval #[sx, x] = #[a.eval sx, a.eval x] by simp, hr]
            rfl
          have fin : ∀ (fr1 : Fr) (τ1 : Nat → Value), SimX P w0 M0 N M β τ1 fr1 a w → (∀ e, ¬ Live fr1.s d e) → TipOk P w0 w M (a.eval sx) e →
              (∀ b, wb (a.eval sx) = some b → (∀ k e', Live fr1.s k e' → wb (τ1 k) ≠ some b) ∧ ∀ id y, lk id fr1.l = some y → β id ≠ b) →
              OStep P Q w0 M0 N ⟨some d, .call ⟨.builtin .append, args, argTypes⟩, type, pos, after, guard⟩ a w (setS fr1 (some d) (.val ⟨.slice ty, List.append xs ys⟩ (.own d e))) := by
            intro fr1 τ1 s1 hnl htip hdis
            obtain ⟨v', w', M', hrun, hext, hbel, hmlt, hmnew, hvok, htip', hblk, hwb'⟩ := append_run (t := t) (u := u) (ty := type) hu hi hsz hz hby hn s.mlt hx.1 hsrc hseq hlim' htip s.bel s.mnew
            have hloc : ∀ id y, lk id fr1.l = some y → β id < w.heap.size ∧ wb (a.eval sx) ≠ some (β id) := by
              intro id y hy
              obtain ⟨_, ⟨_, _, h2, _⟩, _⟩ := s1.lo id y hy
              exact ⟨(Array.getElem?_eq_some_iff.1 h2).1, fun hw => (hdis _ hw).2 id y hy rfl⟩
            have hlv : ∀ k e' b, Live fr1.s k e' → wb (τ1 k) = some b → b < w.heap.size ∧ wb (a.eval sx) ≠ some b := by
              intro k e' b hk hb
              obtain ⟨_, _, _, _, _, _, h3, _⟩ := s1.ti k e' hk b hb
              exact ⟨(Array.getElem?_eq_some_iff.1 h3).1, fun hw => (hdis _ hw).1 k e' hk hb⟩
            have s2 : SimX P w0 M0 N M' β τ1 fr1 a w' := s1.step hext hbel hmlt hmnew
              (fun id y hy => hblk _ (hloc id y hy).1 (hloc id y hy).2)
              (fun k e' b hk hb => hblk _ (hlv k e' b hk hb).1 (hlv k e' b hk hb).2)
            refine ostep_run (hexec v' w' hrun) ⟨M', β, _, s2.setOwn (hd d rfl) hvok hnl htip' ?_ ?_⟩
            · intro b hb id y hy hbe
              subst hbe
              rcases hwb' _ hb with hw | hw
              · exact (hloc id y hy).2 hw
              · have := (hloc id y hy).1; omega
            · intro b hb k e' hk hbe
              rcases hwb' _ hb with hw | hw
              · exact (hlv k e' b hk hbe).2 hw
              · have := (hlv k e' b hk hbe).1; omega
          cases tip with
          | no => cases h
          | full =>
            obtain ⟨s1, hnl⟩ := s.untag d
            obtain ⟨b0, n0, hv⟩ := hx.2
            have hwb : wb (a.eval sx) = none := by rw [hv]; exact wb_full b0 n0
            exact ⟨_, h, fin _ _ s1 hnl (tipOk_full hwb) (fun b hb => by rw [hwb] at hb; cases hb)⟩
          | own j e' =>
            obtain ⟨he, hfin⟩ := bif_some h
            clear h
            have he' := Nat.eq_of_beq_eq_true he
            subst he'
            have hlive := evT_live hev
            have hvj : a.eval sx = τ j := hx.2
            obtain ⟨s1, hn1⟩ := s.untag j
            obtain ⟨s2, hn2⟩ := s1.untag d
            refine ⟨_, hfin, fin _ _ s2 hn2 (by rw [hvj]; exact s.ti j e hlive) ?_⟩
            intro b hb
            rw [hvj] at hb
            refine ⟨fun k e' hk hbe => ?_, fun id y hy => s.tl j e id y b hlive hb hy⟩
            have hk1 := live_untag hk
            have hk2 := live_untag hk1
            have hne : j ≠ k := fun hjk => by subst hjk; exact hn1 e' hk1
            exact s.tt j e k e' hlive hk2 hne b hb hbe
      | _ => exact dflt hE s hd h
    | _ => exact dflt hE s hd h
  | _ => exact dflt hE s hd h
end
end Go.Lift
