/- Literals; all operations that give a value. -/
import Derived.Test.YtlmhokakghbciaaLiftI
import Derived.Great.BuildSlice
namespace Go.Lift
open Go.RowKit

section
variable {P : Program} {E : Env} {el : TypeId → Option TypeId} {Q : Exit → Act → World → Prop} {o : Oper} {w0 : World} {M0 : Own} {N : Nat} {M : Own} {β : Nat → Nat} {τ : Nat → Value} {fr : Fr} {a : Act} {w : World} {av : AV}

theorem partsTV_ok (s : SimX P w0 M0 N M β τ fr a w) {t : Ty} : ∀ {i : Nat} {ps : List (Nat × Operand)} {ys : List t.den}, partsTV t fr i ps = some ys →
    ∃ vs : List Value, ps.map (fun p => (p.1, a.eval p.2)) = (vs.zipIdx i).map (fun x => (x.2, x.1)) ∧ vs.length = ys.length ∧ (∀ v ∈ vs, v.cells.size = t.n) ∧ Seq (Rep M w t) (vs.flatMap fun v => v.cells.toList) ys
  | i, [], ys, h => by simp [partsTV] at h; subst h; exact ⟨[], by simp [Seq]⟩
  | i, (j, x) :: r, ys, h => by
    unfold partsTV at h
    cases hc : Nat.beq i j with
    | false => simp [hc] at h
    | true =>
    simp only [hc, cond_true] at h
    have hij := Nat.eq_of_beq_eq_true hc
    subst hij
    have hx := evT_ok s (some t) x
    split at h
    · rename_i v _ heq
      rw [heq] at hx
      simp only [Option.bind_eq_some_iff] at h
      obtain ⟨y, hy, ys', hys, h⟩ := h
      cases h
      obtain rfl := TV.as_eq hy
      obtain ⟨vs, e1, e2, e3, e4⟩ := partsTV_ok s hys
      obtain ⟨cs, hv, hr⟩ := hx.1
      have hcells : (a.eval x).cells = cs.toArray := by rw [hv]; exact toV_cells hr
      refine ⟨a.eval x :: vs, by simp [e1, List.zipIdx_cons], by simp [e2], ?_, ?_⟩
      · intro v hv'
        rcases List.mem_cons.1 hv' with rfl | hv'
        · rw [hcells]; simpa using hr.length
        · exact e3 v hv'
      · simp only [List.flatMap_cons]
        exact ⟨_, _, rfl, by rw [hcells]; exact hr, e4⟩
    · cases h

theorem zeroCells_length : ∀ (t : Ty), (zeroCells t).length = t.n
  | .int _ | .bool | .str | .slice _ | .unit | .ptr _ | .ifc | .mp _ _ | .fn | .nes _ => rfl
  | .arr n e => by simp [zeroCells, Ty.n, zeroCells_length e]
  | .pair a b => by simp [zeroCells, Ty.n, zeroCells_length a, zeroCells_length b]

theorem zero_rep : ∀ {t : Ty} {x : t.den}, zeroD t = some x → Rep M w t (zeroCells t) x := by
  intro t
  induction t with
  | int k => intro x h2; simp only [zeroD, Option.some.injEq] at h2; subst h2; exact ⟨rfl, by cases k <;> decide, by cases k <;> decide⟩
  | bool => intro x h2; simp only [zeroD, Option.some.injEq] at h2; subst h2; rfl
  | str => intro x h2; simp only [zeroD, Option.some.injEq] at h2; subst h2; exact ⟨_, rfl, rfl, by simp [maxLen]⟩
  | slice e ih => intro x h2; simp only [zeroD, Option.some.injEq] at h2; subst h2; exact ⟨none, 0, [], rfl, by simp, by simp [maxLen], (fun _ => rfl), rfl, .inl rfl⟩
  | arr n e ih =>
    intro x h2
    simp only [zeroD, Option.bind_eq_some_iff] at h2
    obtain ⟨y, hy, h2⟩ := h2
    cases h2
    have hr := ih hy
    refine ⟨by simp, ?_⟩
    simp only [zeroCells]
    clear ih hy
    induction n with
    | zero => simp [Seq]
    | succ n ihn => simp only [List.replicate_succ, List.flatten_cons]; exact ⟨zeroCells e, _, rfl, hr, ihn⟩
  | unit => intro x h2; rfl
  | pair a b iha ihb =>
    intro x h2
    simp only [zeroD, Option.bind_eq_some_iff] at h2
    obtain ⟨y, hy, z, hz, h2⟩ := h2
    cases h2
    exact ⟨zeroCells a, zeroCells b, rfl, iha hy, ihb hz⟩
  | ptr e ih => intro x h2; simp [zeroD] at h2
  | ifc => intro x h2; simp only [zeroD, Option.some.injEq] at h2; subst h2; exact ⟨_, rfl, rfl⟩
  | mp _ _ => intro x h2; simp [zeroD] at h2
  | fn => intro x h2; simp [zeroD] at h2
  | nes e ih => intro x h2; simp only [zeroD, Option.some.injEq] at h2; subst h2; exact ⟨⟨none, 0, [], rfl, by simp, by simp [maxLen], (fun _ => rfl), rfl, .inl rfl⟩, fun _ => rfl⟩

theorem fold_part (vs : List Value) : ∀ (j off : Nat) (pre old post : List Value), old.length = vs.length → pre.length = off + j →
    (vs.zipIdx j).foldl (fun cs x => cs.setIfInBounds (off + x.2) x.1) (pre ++ (old ++ post)).toArray = (pre ++ (vs ++ post)).toArray := by
  induction vs with
  | nil => intro j off pre old post h1 h2; have : old = [] := List.eq_nil_of_length_eq_zero (by simpa using h1); subst this; simp
  | cons v vs ih =>
    intro j off pre old post h1 h2
    cases old with
    | nil => simp at h1
    | cons u old =>
      simp only [List.zipIdx_cons, List.foldl_cons]
      have e : (pre ++ (u :: old ++ post)).toArray.setIfInBounds (off + j) v = ((pre ++ [v]) ++ (old ++ post)).toArray := by
        rw [← h2]
        simp
      rw [e, ih (j + 1) off (pre ++ [v]) old post (by simpa using h1) (by simp [h2]; omega)]
      simp

theorem fill_one {place : Nat → Option (Nat × Nat)} {i off : Nat} {v : Value} {rest : List (Nat × Value)} {pre old post : List Value} (hp : place i = some (off, old.length)) (hv : v.cells.size = old.length) (ho : pre.length = off) :
    Instr.fill place (pre ++ (old ++ post)).toArray ((i, v) :: rest) = Instr.fill place (pre ++ (v.cells.toList ++ post)).toArray rest := by
  simp only [Instr.fill, hp]
  rw [if_neg (by simp [hv]; omega)]
  congr 1
  have := fold_part v.cells.toList 0 off pre old post (by simpa using hv.symm) (by simpa using ho)
  rw [← Array.foldl_toList, Array.toList_zipIdx]
  exact this

/-- the places of the fields of a struct, from one on -/
def Places (place : Nat → Option (Nat × Nat)) : Nat → Nat → Ty → Prop
  | i, off, .pair a b => place i = some (off, a.n) ∧ Places place (i + 1) (off + a.n) b
  | _, _, _ => True

theorem build_fill (s : SimX P w0 M0 N M β τ fr a w) {place : Nat → Option (Nat × Nat)} : ∀ {t : Ty} {i : Nat} {ps : List (Nat × Operand)} {y : t.den} {pre : List Value}, buildTV fr t i ps = some y → Places place i pre.length t →
    ∃ cs, Instr.fill place (pre ++ zeroCells t).toArray (ps.map fun p => (p.1, a.eval p.2)) = some (pre ++ cs).toArray ∧ Rep M w t cs y := by
  intro t
  induction t with
  | unit =>
    intro i ps y pre h _
    cases ps with
    | nil => exact ⟨[], by simp [Instr.fill, zeroCells], rfl⟩
    | cons p r => simp [buildTV] at h
  | pair c b iha ihb =>
    intro i ps y pre h hp
    obtain ⟨hp1, hp2⟩ := hp
    have skip : ∀ {ps' : List (Nat × Operand)} {x : c.den} {y' : b.den}, zeroD c = some x → buildTV fr b (i + 1) ps' = some y' →
        ∃ cs, Instr.fill place (pre ++ zeroCells (.pair c b)).toArray (ps'.map fun p => (p.1, a.eval p.2)) = some (pre ++ cs).toArray ∧ Rep M w (.pair c b) cs (x, y') := by
      intro ps' x y' hx hy
      have hr := zero_rep (M := M) (w := w) hx
      obtain ⟨cs, h1, h2⟩ := ihb (pre := pre ++ zeroCells c) hy (by rw [List.length_append, hr.length]; exact hp2)
      exact ⟨zeroCells c ++ cs, by rw [zeroCells, ← List.append_assoc, h1, List.append_assoc], zeroCells c, cs, rfl, hr, h2⟩
    cases ps with
    | nil =>
      simp only [buildTV, Option.bind_eq_some_iff] at h
      obtain ⟨x, hx, y', hy, h⟩ := h
      cases h
      exact skip hx hy
    | cons p r =>
      obtain ⟨j, op⟩ := p
      unfold buildTV at h
      cases hb : Nat.beq i j with
      | false =>
        simp only [hb, cond_false, Option.bind_eq_some_iff] at h
        obtain ⟨x, hx, y', hy, h⟩ := h
        cases h
        exact skip hx hy
      | true =>
        have hij := Nat.eq_of_beq_eq_true hb
        subst hij
        simp only [hb, cond_true] at h
        have hx := evT_ok s (some c) op
        split at h
        · rename_i v _ heq
          rw [heq] at hx
          simp only [Option.bind_eq_some_iff] at h
          obtain ⟨x, hxx, y', hy, h⟩ := h
          cases h
          obtain rfl := TV.as_eq hxx
          obtain ⟨cx, hv, hr⟩ := hx.1
          have hcells : (a.eval op).cells = cx.toArray := by rw [hv]; exact toV_cells hr
          obtain ⟨cs, h1, h2⟩ := ihb (pre := pre ++ cx) hy (by rw [List.length_append, hr.length]; exact hp2)
          refine ⟨cx ++ cs, ?_, cx, cs, rfl, hr, h2⟩
          simp only [List.map_cons, zeroCells]
          rw [fill_one (old := zeroCells c) (by rw [zeroCells_length]; exact hp1) (by rw [hcells, zeroCells_length]; simpa using hr.length) rfl, hcells]
          rw [← List.append_assoc, h1, List.append_assoc]
        · cases h
  | _ => intro i ps y pre h; cases ps <;> simp [buildTV] at h

theorem okFs_places {tab : List (TypeId × Ty)} (htab : TabOk P tab) : ∀ {t : Ty} {fs : List Field} {off i : Nat} {pre : List (Nat × Nat)}, okU.okFs tab fs off t = true → pre.length = i →
    ∃ places, fs.mapM (fun f => (P.info? f.type).map fun i => (f.offset, i.size)) = some places ∧ Places ((pre ++ places).toArray[·]?) i off t := by
  intro t
  induction t with
  | unit =>
    intro fs off i pre h hi
    cases fs with
    | nil => exact ⟨[], by simp, trivial⟩
    | cons f fs => simp [okU.okFs] at h
  | pair c b iha ihb =>
    intro fs off i pre h hi
    cases fs with
    | nil => simp [okU.okFs] at h
    | cons f fs =>
      simp only [okU.okFs, Bool.and_eq_true, decide_eq_true_eq, beq_iff_eq, bne_iff_ne] at h
      obtain ⟨⟨⟨⟨h1, h2⟩, h3⟩, h4⟩, h5⟩ := h
      obtain ⟨ii, hii, hsz, _⟩ := (htab _ _ h1).info
      obtain ⟨places, hp, hq⟩ := ihb (i := i + 1) (pre := pre ++ [(f.offset, c.n)]) h5 (by simp [hi])
      refine ⟨(f.offset, c.n) :: places, by simp [List.mapM_cons, hii, hsz, hp], ?_, ?_⟩
      · simp [← hi, h2]
      · simpa using hq
  | _ => intro fs off i pre h; cases fs <;> simp [okU.okFs] at h

theorem build_sound (hE : EnvOk P E el) (s : SimX P w0 M0 N M β τ fr a w) {T : TypeId} {parts : Array (Nat × Operand)} (hop : o.op = .build T parts) (h : opV E o fr some = some av) : QOp P Q o a w M β τ fr.l av := by
  unfold opV at h
  simp only [hop, Option.bind_eq_some_iff] at h
  obtain ⟨ty, hty, h⟩ := h
  have hT := hE.tab _ _ hty
  obtain ⟨it, hit, hsz, hzero, _⟩ := hT.info
  have he : execOp a.eval o = (do pure (Next.value (← Instr.build T (parts.map fun (i, x) => (i, a.eval x))))) := by simp only [execOp, hop]
  have hparts : (parts.map fun (i, x) => (i, a.eval x)).toList = parts.toList.map fun p => (p.1, a.eval p.2) := by simp
  have struct : ∀ {fs : Array Field}, P.underlying T = some (.struct fs) → okU.okFs E.tab fs.toList 0 ty = true → ty.isAgg = true → (buildTV fr ty 0 parts.toList).bind (fun y => some (AV.val ⟨ty, y⟩ .no)) = some av → QOp P Q o a w M β τ fr.l av := by
    intro fs hu hfs hag h
    simp only [Option.bind_eq_some_iff] at h
    obtain ⟨y, hy, h⟩ := h
    cases h
    obtain ⟨places, hp1, hp2⟩ := okFs_places hE.tab (pre := []) hfs rfl
    obtain ⟨cs, h1, h2⟩ := build_fill s (place := (places.toArray[·]?)) (pre := []) hy (by simpa using hp2)
    refine q_val s.mlt (exec_v he (run_build w T _ cs.toArray ?_)) ⟨⟨cs, ?_, h2⟩, trivial⟩
    · simp only [Program.built, hit, hu, hzero, hp1, hparts]
      simp only [List.nil_append] at h1
      rw [toV, if_pos hag]
      exact h1
    · simp only [toV, hag, if_true]
  cases ty with
  | arr n e =>
    cases hemp : parts.toList.isEmpty with
    | true =>
      rw [hemp] at h
      simp only [cond_true] at h
      obtain ⟨y, hy, h⟩ := Option.bind_eq_some_iff.1 h
      cases h
      obtain ⟨e', hu, hl, _⟩ := hT.arr
      obtain ⟨ie, hie, hes, _⟩ := (hE.tab _ _ hl).info
      have hnil : parts.toList = [] := by simpa using hemp
      refine q_val s.mlt (v := toV (.arr n e) (zeroCells (.arr n e))) (exec_v he ?_) ⟨⟨_, rfl, zero_rep hy⟩, trivial⟩
      have := run_build (P := P) w T (parts.map fun (i, x) => (i, a.eval x)) (zeroCells (.arr n e)).toArray (by
        simp only [Program.built, hit, hu, hzero, hie, hparts, hnil, List.map_nil]
        simp [toV, Ty.isAgg, Value.cells, Instr.fill])
      simpa [toV, Ty.isAgg] using this
    | false =>
    rw [hemp] at h
    simp only [cond_false] at h
    replace h := Option.bind_eq_some_iff.1 h
    obtain ⟨ys, hys, h⟩ := h
    obtain ⟨hc, h⟩ := bif_some h
    cases h
    simp only [Bool.and_eq_true] at hc
    have hlen := Nat.eq_of_beq_eq_true hc.1
    obtain ⟨e', hu, hl, _⟩ := hT.arr
    obtain ⟨ie, hie, hes, _⟩ := (hE.tab _ _ hl).info
    obtain ⟨vs, e1, e2, e3, e4⟩ := partsTV_ok s hys
    have hzl := zeroCells_length (.arr n e)
    simp only [Ty.n] at hzl
    refine q_val s.mlt (v := .agg (vs.flatMap fun v => v.cells.toList).toArray) (exec_v he (run_build w T _ _ ?_)) ⟨⟨vs.flatMap fun v => v.cells.toList, rfl, hlen, e4⟩, trivial⟩
    simp only [Program.built, hit, hu, hzero, hie, hes, hparts, e1]
    exact Great.fill_whole (Nat.le_of_ble_eq_true hc.2) vs _ e3 (by simp only [toV, Ty.isAgg, if_true, Value.cells, List.size_toArray, hzl]; rw [e2, hlen])
  | unit => obtain ⟨fs, hu, ⟨hfs, _⟩, _⟩ := hT.unit; exact struct hu hfs rfl h
  | pair c b => obtain ⟨fs, hu, ⟨hfs, _⟩, _⟩ := hT.pair; exact struct hu hfs rfl h
  | _ =>
    exfalso
    obtain ⟨y, hy, _⟩ := Option.bind_eq_some_iff.1 h
    cases hp : parts.toList <;> rw [hp] at hy <;> simp [buildTV] at hy

theorem buildSlice_sound (hE : EnvOk P E el) (s : SimX P w0 M0 N M β τ fr a w) {T : TypeId} {n : Nat} {parts : Array (Nat × Operand)} (hop : o.op = .buildSlice T n parts) (h : opV E o fr some = some av) : QOp P Q o a w M β τ fr.l av := by
  unfold opV at h
  simp only [hop, Option.bind_eq_some_iff] at h
  obtain ⟨ty, hty, h⟩ := h
  have hT := hE.tab _ _ hty
  have he : execOp a.eval o = (do pure (Next.value (← Instr.buildSlice T n (parts.map fun (i, x) => (i, a.eval x))))) := by simp only [execOp, hop]
  have hparts : (parts.map fun (i, x) => (i, a.eval x)).toList = parts.toList.map fun p => (p.1, a.eval p.2) := by simp
  cases ty with
  | slice e =>
    replace h := Option.bind_eq_some_iff.1 h
    obtain ⟨ys, hys, h⟩ := h
    obtain ⟨hc, h⟩ := bif_some h
    cases h
    simp only [Bool.and_eq_true] at hc
    have hlen : List.length ys = n := Nat.eq_of_beq_eq_true hc.1
    have hn := Nat.le_of_ble_eq_true hc.2.1
    obtain ⟨e', hu, hl⟩ := hT.slice
    obtain ⟨ie, hie, hes, hez, _⟩ := (hE.tab _ _ hl).info
    obtain ⟨vs, e1, e2, e3, e4⟩ := partsTV_ok s hys
    have e2' : vs.length = n := by rw [e2]; exact hlen
    have hpos := Nat.le_of_ble_eq_true hc.2.2.1
    have hsm := Nat.le_of_ble_eq_true hc.2.2.2
    have key : ∃ cells : Array Value, (Instr.buildSlice T n (parts.map fun (i, x) => (i, a.eval x))).run P w = .ok (.slice (some ⟨w.heap.size, 0, none⟩) n n) (w.alloc (.cells cells e')) ∧ cells.toList = vs.flatMap fun v => v.cells.toList := by
      by_cases hp : n * ie.size = 0
      · have hn0 : n = 0 := by
          rw [hes] at hp
          rcases Nat.mul_eq_zero.1 hp with h | h <;> omega
        have hvs : vs = [] := List.eq_nil_of_length_eq_zero (by rw [e2', hn0])
        subst hvs
        have hpz : parts = #[] := by
          have : parts.toList = [] := by simpa using e1
          exact Array.toList_eq_nil_iff.1 this
        subst hpz hn0
        exact ⟨(Array.range 0).map fun _ => default, by simp [Instr.buildSlice, run_underlying hu, sizeOf, typeInfo, hie, newRow, Instr.fill], by simp⟩
      · have hfill := Great.fill_whole (s := ie.size) (by omega) vs ((Array.range (n * ie.size)).map ((toV e (zeroCells e)).cells[· % (toV e (zeroCells e)).cells.size]!)) (by rw [hes]; exact e3) (by simp [e2'])
        exact ⟨_, run_buildSlice w T e' n _ _ ie _ hu hie hez (by rw [hes]; omega) hp (by rw [hparts, e1]; exact hfill), by simp⟩
    obtain ⟨cells, hrun, hcells⟩ := key
    refine q_run (M' := fun b o => M b o ∨ (b = w.heap.size ∧ o < cells.size)) (exec_v he hrun)
      ⟨(Below.refl _ _).alloc (Nat.le_refl _) _, fun _ _ m => .inl m, fun b o m => m.elim .inl (fun m => .inr (by omega)), fun b o m => m.elim (fun m => by have := s.mlt b o m; simp; omega) (fun m => by simp; omega)⟩ ⟨?_, ⟨_, _, rfl⟩⟩
    have hext : Ext M w (fun b o => M b o ∨ (b = w.heap.size ∧ o < cells.size)) (w.alloc (.cells cells e')) := fun b o m => ⟨.inl m, fun v hv => by rw [((Below.refl _ _).alloc (Nat.le_refl _) (.cells cells e')).cell (p := ⟨b, o, none⟩) (cell_lt hv)]; exact hv⟩
    refine ⟨[.slice (some ⟨w.heap.size, 0, none⟩) n n], rfl, some ⟨w.heap.size, 0, none⟩, n, cells.toList, by rw [hlen], by rw [hlen]; exact Nat.le_refl _, by simp only [maxLen]; omega, (fun h => by cases h), ?_, .inr ⟨_, _, rfl, ?_⟩⟩
    · rw [hcells]
      exact e4.mono (fun _ _ r => r.ext hext)
    · intro i hi
      refine ⟨?_, .inr ⟨rfl, by simpa using hi⟩⟩
      rw [Nat.zero_add, cell_of_row _ _ _ _ _ _ (heap_alloc_new w _)]
      simp
  | _ => simp at h

theorem made_list (zs : Array Value) (h : 0 < zs.size) : ∀ n : Nat, (madeCells zs (n * zs.size)).toList = (List.replicate n zs.toList).flatten
  | 0 => by simp [madeCells]
  | n + 1 => by
    have ih := made_list zs h n
    simp only [madeCells, Array.toList_map, Array.toList_range] at ih ⊢
    rw [Nat.add_mul, Nat.one_mul, Nat.add_comm, List.range_add, List.map_append, List.replicate_succ, List.flatten_cons, ← ih, List.map_map]
    congr 1
    · refine List.ext_getElem (by simp) fun i h1 h2 => ?_
      simp only [List.length_map, List.length_range] at h1
      simp only [List.getElem_map, List.getElem_range, Nat.mod_eq_of_lt h1, Array.getElem_toList]
      exact getElem!_pos zs i h1
    · refine List.map_congr_left fun i _ => ?_
      simp only [Function.comp_apply, Nat.add_mod_left]

theorem makeSlice_sound (hE : EnvOk P E el) (s : SimX P w0 M0 N M β τ fr a w) {T : TypeId} {l c : Operand} (hop : o.op = .makeSlice T l c) (h : opV E o fr some = some av) : QOp P Q o a w M β τ fr.l av := by
  unfold opV at h
  simp only [hop, Option.bind_eq_some_iff] at h
  obtain ⟨n, hn, m, hm, ty, hty, h⟩ := h
  have hT := hE.tab _ _ hty
  have he : execOp a.eval o = (do pure (Next.value (← Instr.makeSlice T (a.eval l) (a.eval c)))) := by simp only [execOp, hop]
  obtain ⟨kl, hl, _⟩ := intOf_some hn (evT_ok s _ l)
  obtain ⟨kc, hc, _⟩ := intOf_some hm (evT_ok s _ c)
  cases ty with
  | slice e =>
    simp only at h
    obtain ⟨hc1, h⟩ := bif_some h
    obtain ⟨z, hz, h⟩ := Option.bind_eq_some_iff.1 h
    rw [hE.rep] at h
    cases h
    simp only [Bool.and_eq_true, decide_eq_true_eq] at hc1
    obtain ⟨h0, rfl, hlim, hpos⟩ := hc1
    have hpos := Nat.le_of_ble_eq_true hpos
    obtain ⟨e', hu, hle⟩ := hT.slice
    obtain ⟨ie, hie, hes, hez, hby⟩ := (hE.tab _ _ hle).info
    obtain ⟨k, rfl⟩ := Int.eq_ofNat_of_zero_le h0
    have hk : k ≤ 68719476736 := by omega
    have hzs : (toV e (zeroCells e)).cells = (zeroCells e).toArray := toV_cells (zero_rep (M := M) (w := w) hz)
    have hrun := run_make (P := P) w T e' ie _ hu hie hez kl kc (k : Int) (k : Int) h0 (Int.le_refl _) (by
      have h1 : ie.bytes * k ≤ 2048 * 68719476736 := Nat.mul_le_mul hby hk
      have h2 : ((ie.bytes * k : Nat) : Int) ≤ 281474976710656 := by omega
      rwa [Int.natCast_mul] at h2) (by omega)
    rw [← hl, ← hc, hzs, hes] at hrun
    simp only [Int.toNat_natCast] at hrun ⊢
    have hzl := zeroCells_length e
    have hcells : (madeCells (zeroCells e).toArray (k * e.n)).toList = (List.replicate k (zeroCells e)).flatten := by
      have := made_list (zeroCells e).toArray (by simp only [List.size_toArray, hzl]; exact hpos) k
      simpa only [List.size_toArray, hzl] using this
    generalize madeCells (zeroCells e).toArray (k * e.n) = cells at hrun hcells
    refine q_run (M' := fun b o => M b o ∨ (b = w.heap.size ∧ o < cells.size)) (exec_v he hrun)
      ⟨(Below.refl _ _).alloc (Nat.le_refl _) _, fun _ _ m => .inl m, fun b o m => m.elim .inl (fun m => .inr (by omega)), fun b o m => m.elim (fun m => by have := s.mlt b o m; simp; omega) (fun m => by simp; omega)⟩ ⟨?_, ⟨_, _, rfl⟩⟩
    have hrep : Rep (fun b o => M b o ∨ (b = w.heap.size ∧ o < cells.size)) (w.alloc (.cells cells e')) (.arr k e) (zeroCells (.arr k e)) (List.replicate k z) := zero_rep (t := .arr k e) (by simp only [zeroD, hz, Option.bind_some])
    refine ⟨[.slice (some ⟨w.heap.size, 0, none⟩) k k], rfl, some ⟨w.heap.size, 0, none⟩, k, cells.toList, by simp, by simp, by simp only [maxLen]; omega, (fun h => by cases h), ?_, .inr ⟨_, _, rfl, ?_⟩⟩
    · rw [hcells]
      exact hrep.2
    · intro i hi
      refine ⟨?_, .inr ⟨rfl, by simpa using hi⟩⟩
      rw [Nat.zero_add, cell_of_row _ _ _ _ _ _ (heap_alloc_new w _)]
      simp
  | _ => simp at h

theorem extract_sound (s : SimX P w0 M0 N M β τ fr a w) {t : Operand} {i : Nat} (hop : o.op = .extract t i) (h : opV E o fr some = some av) : QOp P Q o a w M β τ fr.l av := by
  unfold opV at h
  simp only [hop, ev] at h
  have he : execOp a.eval o = (do pure (Next.value (← Instr.extract (a.eval t) i))) := by simp only [execOp, hop]
  split at h
  · rename_i l heq
    obtain ⟨v, hv, h⟩ := Option.bind_eq_some_iff.1 h
    cases h
    obtain ⟨vs, e1, _, hall⟩ := evT_tup s heq
    obtain ⟨u, hu, hr⟩ := hall i v hv
    refine q_val s.mlt (v := u) (exec_v he ?_) ⟨hr, trivial⟩
    rw [e1]
    simp [Instr.extract, hu]
  · cases h


structure Par (Φ : AV → Prop) (f : (β : Type) → (AV → Option β) → Option β) : Prop where
  out : ∀ (α : Type) (k : AV → Option α) (r : α), f α k = some r → ∃ av, Φ av ∧ (∀ (β : Type) (k' : AV → Option β), f β k' = k' av) ∧ k av = some r

theorem Par.ret {Φ : AV → Prop} {av : AV} (h : Φ av) : Par Φ (fun _ k => k av) := ⟨fun _ _ _ hk => ⟨av, h, fun _ _ => rfl, hk⟩⟩
theorem Par.none {Φ : AV → Prop} : Par Φ (fun _ _ => Option.none) := ⟨fun _ _ _ hk => by cases hk⟩
theorem Par.bind {Φ : AV → Prop} {γ : Type} {x : Option γ} {g : (β : Type) → γ → (AV → Option β) → Option β} (h : ∀ y, Par Φ (fun β k => g β y k)) : Par Φ (fun β k => x.bind fun y => g β y k) := ⟨fun _ k r hk => by
  cases x with
  | none => cases hk
  | some y => exact (h y).out _ k r hk⟩
theorem Par.bif {Φ : AV → Prop} {c : Bool} {f g : (β : Type) → (AV → Option β) → Option β} (hf : Par Φ f) (hg : Par Φ g) : Par Φ (fun β k => bif c then f β k else g β k) := ⟨fun _ k r hk => by
  cases c with
  | true => exact hf.out _ k r hk
  | false => exact hg.out _ k r hk⟩
theorem Par.ite {Φ : AV → Prop} {c : Prop} [Decidable c] {f g : (β : Type) → (AV → Option β) → Option β} (hf : Par Φ f) (hg : Par Φ g) : Par Φ (fun β k => if c then f β k else g β k) := ⟨fun _ k r hk => by
  by_cases hc : c
  · simp only [if_pos hc] at hk ⊢; exact hf.out _ k r hk
  · simp only [if_neg hc] at hk ⊢; exact hg.out _ k r hk⟩

def OwnLive (fr : Fr) (av : AV) : Prop := ∀ x k e, av = .val x (.own k e) → Live fr.s k e

theorem OwnLive.no {v : TV} : OwnLive fr (.val v .no) := fun _ _ _ h => by cases h
theorem OwnLive.full {v : TV} : OwnLive fr (.val v .full) := fun _ _ _ h => by cases h
theorem OwnLive.loc {id : Nat} {p : List Step} : OwnLive fr (.loc id p) := fun _ _ _ h => by cases h
theorem OwnLive.tup {l : List TV} : OwnLive fr (.tup l) := fun _ _ _ h => by cases h
theorem OwnLive.any : OwnLive fr .any := fun _ _ _ h => by cases h
theorem OwnLive.res {rs : List Ty} {r : resDen rs} : OwnLive fr (resAV rs r) := by
  match rs, r with
  | [], _ => exact OwnLive.any
  | [t], _ => exact OwnLive.no
  | t :: u :: ts, _ => exact OwnLive.tup
theorem OwnLive.ev {E : Env} {t : TypeId} {x : Operand} : OwnLive fr (ev E t x fr) := fun _ _ _ h => evT_live h

theorem binK_par {tt : Option Ty} {op : BinOp} {x y : AV} : Par (OwnLive fr) (fun _ k => binK tt op x y k) := by
  have aux : ∀ (t u : Ty) (a : t.den) (b : u.den), Par (OwnLive fr) (fun _ k => bif t.isAgg && (t.flat && (Nat.ble t.dep 99 && tyIs tt t)) then (TV.as t ⟨u, b⟩).bind fun b => (match op with | .eql => k (AV.val ⟨.bool, eqD t a b⟩ .no) | .neq => k (.val ⟨.bool, !(eqD t a b)⟩ .no) | _ => Option.none) else Option.none) := by
    intro t u a b
    refine Par.bif (Par.bind fun _ => ?_) Par.none
    cases op <;> first | exact Par.ret OwnLive.no | exact Par.none
  rcases x with _ | ⟨⟨t, a⟩, p⟩ | ⟨id, p⟩ | l
  · exact Par.none
  · rcases y with _ | ⟨⟨u, b⟩, q⟩ | ⟨id, q⟩ | l
    · cases t <;> exact Par.none
    · cases t with
      | int kx =>
        cases u with
        | int ky =>
          simp only [binK]
          unfold iopK
          cases op <;> first
            | exact Par.bif Par.none (Par.ret OwnLive.no)
            | exact Par.ite (Par.ret OwnLive.no) Par.none
            | exact Par.ite (Par.bif Par.none (Par.ret OwnLive.no)) Par.none
            | exact Par.none
        | _ => exact aux _ _ a b
      | bool =>
        cases u with
        | bool =>
          simp only [binK]
          refine Par.bif ?_ Par.none
          cases op <;> first | exact Par.ret OwnLive.no | exact Par.none
        | _ => exact aux _ _ a b
      | str =>
        cases u with
        | str =>
          simp only [binK]
          cases op <;> first | exact Par.ret OwnLive.no | exact Par.bif (Par.ret OwnLive.no) Par.none | exact Par.none
        | _ => exact aux _ _ a b
      | _ => exact aux _ _ a b
    · cases t <;> exact Par.none
    · cases t <;> exact Par.none
  · exact Par.none
  · exact Par.none

theorem ifcK_par {tt : Option Ty} {op : BinOp} {x : AV} : Par (OwnLive fr) (fun _ k => ifcK tt op x k) := by
  rcases x with _ | ⟨⟨t, a⟩, p⟩ | ⟨id, p⟩ | l
  · exact Par.none
  · cases t <;> first | exact Par.none | skip
    refine Par.bif ?_ Par.none
    cases op <;> first | exact Par.ret OwnLive.no | exact Par.none
  · exact Par.none
  · exact Par.none

theorem ifc2K_par {tab : List (TypeId × Ty)} {tt : Option Ty} {op : BinOp} {x y : AV} : Par (OwnLive fr) (fun _ k => ifc2K tab tt op x y k (binK tt op x y k)) := by
  by_cases h : ∃ a p b q, x = .val ⟨.ifc, a⟩ p ∧ y = .val ⟨.ifc, b⟩ q
  · obtain ⟨a, p, b, q, rfl, rfl⟩ := h
    simp only [ifc2K]
    refine Par.bif (Par.bind fun _ => Par.bind fun _ => ?_) Par.none
    cases op <;> first | exact Par.ret OwnLive.no | exact Par.none
  · have : (fun (γ : Type) (k : AV → Option γ) => ifc2K tab tt op x y k (binK tt op x y k)) = fun γ k => binK tt op x y k := by
      funext γ k
      unfold ifc2K
      split
      · exact (h ⟨_, _, _, _, rfl, rfl⟩).elim
      · rfl
    rw [this]
    exact binK_par

theorem mkI_par {T : TypeId} {tt : Option Ty} {x : AV} : Par (OwnLive fr) (fun _ k => mkI T tt x k) := by
  unfold mkI
  split
  · split
    · exact Par.ret OwnLive.no
    · exact Par.none
  · exact Par.none

theorem unK_par {op : UnOp} {x : AV} : Par (OwnLive fr) (fun _ k => unK op x k) := by
  rcases x with _ | ⟨⟨t, a⟩, p⟩ | ⟨id, p⟩ | l
  · cases op <;> exact Par.none
  · cases op <;> cases t <;> first | exact Par.none | exact Par.ret OwnLive.no
  · cases op <;> exact Par.none
  · cases op <;> exact Par.none

theorem convK_par {s d : Option Ty} {x : AV} : Par (OwnLive fr) (fun _ k => convK s d x k) := by
  rcases d with _ | d
  · exact Par.none
  rcases x with _ | ⟨⟨t, a⟩, p⟩ | ⟨id, p⟩ | l
  · cases d <;> first | exact Par.none | (rename_i e; cases e <;> first | exact Par.none | (rename_i k; cases k <;> exact Par.none))
  · cases d with
    | int k => cases t <;> first | exact Par.none | exact Par.bif (Par.ret OwnLive.no) Par.none
    | str => cases t with
      | str => exact Par.bif (Par.ret OwnLive.no) Par.none
      | int k => exact Par.bif (Par.ret OwnLive.no) Par.none
      | slice e => cases e with
        | int k => cases k <;> first | exact Par.none | exact Par.bif (Par.ret OwnLive.no) Par.none
        | _ => exact Par.none
      | _ => exact Par.none
    | slice e => cases e with
      | int k => cases k <;> first | exact Par.none | (cases t <;> first | exact Par.none | exact Par.bif (Par.ret OwnLive.no) Par.none)
      | _ => exact Par.none
    | _ => exact Par.none
  · cases d <;> first | exact Par.none | (rename_i e; cases e <;> first | exact Par.none | (rename_i k; cases k <;> exact Par.none))
  · cases d <;> first | exact Par.none | (rename_i e; cases e <;> first | exact Par.none | (rename_i k; cases k <;> exact Par.none))

theorem lenK_par {s : Option Ty} {x : AV} : Par (OwnLive fr) (fun _ k => lenK s x k) := by
  rcases x with _ | ⟨⟨t, a⟩, p⟩ | ⟨id, p⟩ | l
  · exact Par.none
  · cases t <;> first | exact Par.none | exact Par.bif (Par.ret OwnLive.no) Par.none
  · exact Par.none
  · exact Par.none

theorem cutK_par {Φ : AV → Prop} {γ : Type} {xs : List γ} {lo hi : Option AV} {g : List γ → AV} (h : ∀ ys, Φ (g ys)) : Par Φ (fun _ k => cutK xs lo hi fun ys => k (g ys)) := by
  cases lo with
  | none => cases hi with
    | none => exact Par.ret (h _)
    | some b => exact Par.bind fun _ => Par.bif (Par.ret (h _)) Par.none
  | some a => cases hi with
    | none => exact Par.bind fun _ => Par.bif (Par.ret (h _)) Par.none
    | some b => exact Par.bind fun _ => Par.bind fun _ => Par.bif (Par.ret (h _)) Par.none

theorem minK_par {x y : AV} : Par (OwnLive fr) (fun _ k => minK x y k) := by
  rcases x with _ | ⟨⟨t, a⟩, p⟩ | ⟨id, p⟩ | l <;> rcases y with _ | ⟨⟨u, b⟩, q⟩ | ⟨id', q⟩ | l' <;> first
    | exact Par.none
    | (cases t <;> first | exact Par.none | (cases u <;> first | exact Par.none | exact Par.ite (Par.ret OwnLive.no) Par.none))
theorem maxK_par {x y : AV} : Par (OwnLive fr) (fun _ k => maxK x y k) := by
  rcases x with _ | ⟨⟨t, a⟩, p⟩ | ⟨id, p⟩ | l <;> rcases y with _ | ⟨⟨u, b⟩, q⟩ | ⟨id', q⟩ | l' <;> first
    | exact Par.none
    | (cases t <;> first | exact Par.none | (cases u <;> first | exact Par.none | exact Par.ite (Par.ret OwnLive.no) Par.none))

theorem opV_par : Par (OwnLive fr) (fun _ k => opV E o fr k) := by
  obtain ⟨dst, op, type, pos, after, guard⟩ := o
  cases op with
  | move x => exact Par.ret OwnLive.ev
  | assign x => exact Par.ret OwnLive.ev
  | pick c a b =>
    simp only [opV]
    generalize hc : ev E type c fr = y
    rcases y with _ | ⟨⟨t, v⟩, p⟩ | ⟨id, p⟩ | l <;> first | exact Par.none | skip
    cases t <;> first | exact Par.none | exact Par.bif (Par.ret OwnLive.ev) (Par.ret OwnLive.ev)
  | binOp op t x y u => exact Par.bif ifcK_par ifc2K_par
  | makeInterface T x => exact mkI_par
  | unOp op t x => exact unK_par
  | convert s d x => exact convK_par
  | nilCheck x =>
    simp only [opV]
    generalize hc : ev E type x fr = y
    rcases y with _ | ⟨⟨t, v⟩, p⟩ | ⟨id, p⟩ | l <;> first | exact Par.none | exact Par.ret OwnLive.loc | skip
    cases t <;> first | exact Par.none | exact Par.ret OwnLive.no
  | load T x =>
    simp only [opV, getK_eq]
    generalize hc : ev E type x fr = y
    rcases y with _ | ⟨⟨t, v⟩, p⟩ | ⟨id, p⟩ | l <;> first | exact Par.none | exact Par.bind fun _ => Par.bind fun _ => Par.bif (Par.ret OwnLive.no) Par.none | skip
    cases t <;> first | exact Par.none | exact Par.bif (Par.ret OwnLive.no) Par.none
  | fieldAddr T x f =>
    simp only [opV]
    generalize hc : ev E type x fr = y
    rcases y with _ | ⟨⟨t, v⟩, p⟩ | ⟨id, p⟩ | l <;> first | exact Par.none | skip
    · cases t <;> first | exact Par.none | exact Par.bif (Par.bind fun _ => Par.ret OwnLive.no) Par.none
    · refine Par.bind fun e => ?_
      cases typP e.2.1 p with
      | none => exact Par.none
      | some t => exact Par.bif (Par.ret OwnLive.loc) Par.none
  | field T x f =>
    simp only [opV]
    generalize hc : ev E type x fr = y
    rcases y with _ | ⟨⟨t, v⟩, p⟩ | ⟨id, p⟩ | l <;> first | exact Par.none | exact Par.bif (Par.bind fun _ => Par.ret OwnLive.no) Par.none
  | indexAddr T x i =>
    simp only [opV]
    refine Par.bind fun i => ?_
    generalize hc : ev E type x fr = y
    rcases y with _ | ⟨⟨t, v⟩, p⟩ | ⟨id, p⟩ | l <;> first | exact Par.none | skip
    · cases t with
      | slice e => exact Par.bif (Par.bind fun _ => Par.ret OwnLive.no) Par.none
      | ptr t => cases t <;> first | exact Par.none | exact Par.bif (Par.bind fun _ => Par.ret OwnLive.no) Par.none
      | _ => exact Par.none
    · refine Par.bind fun e => ?_
      cases typP e.2.1 p with
      | none => exact Par.none
      | some t => cases t <;> first | exact Par.none | exact Par.bif (Par.bif (Par.ret OwnLive.loc) Par.none) Par.none
  | index T x i =>
    simp only [opV]
    refine Par.bind fun i => ?_
    generalize hc : ev E T x fr = y
    rcases y with _ | ⟨⟨t, v⟩, p⟩ | ⟨id, p⟩ | l <;> first | exact Par.none | skip
    cases t <;> first | exact Par.none | exact Par.bif (Par.bind fun _ => Par.ret OwnLive.no) Par.none
  | slice T x lo hi mx =>
    cases mx with
    | some m => exact Par.none
    | none =>
      simp only [opV]
      generalize hc : ev E type x fr = y
      rcases y with _ | ⟨⟨t, v⟩, p⟩ | ⟨id, p⟩ | l <;> first | exact Par.none | skip
      · cases t with
        | slice e => exact Par.bif (cutK_par fun _ => OwnLive.no) Par.none
        | str => exact Par.bif (cutK_par fun _ => OwnLive.no) Par.none
        | ptr t => cases t <;> first | exact Par.none | exact Par.bif (cutK_par fun _ => OwnLive.no) Par.none
        | _ => exact Par.none
      · cases p with
        | cons _ _ => exact Par.none
        | nil =>
          refine Par.bind fun e => Par.bif Par.none ?_
          obtain ⟨m, t, v⟩ := e
          cases t <;> first | exact Par.none | exact Par.bif (cutK_par fun _ => OwnLive.no) Par.none
  | extract t i =>
    simp only [opV]
    generalize hc : ev E type t fr = y
    rcases y with _ | ⟨⟨t, v⟩, p⟩ | ⟨id, p⟩ | l <;> first | exact Par.none | exact Par.bind fun _ => Par.ret OwnLive.no
  | build t parts =>
    simp only [opV]
    refine Par.bind fun ty => ?_
    cases ty <;> first | exact Par.bind fun _ => Par.ret OwnLive.no | exact Par.bif (Par.bind fun _ => Par.ret OwnLive.no) (Par.bind fun _ => Par.bif (Par.ret OwnLive.no) Par.none)
  | buildSlice t n parts =>
    simp only [opV]
    refine Par.bind fun ty => ?_
    cases ty <;> first | exact Par.none | exact Par.bind fun _ => Par.bif (Par.ret OwnLive.full) Par.none
  | makeSlice t l c =>
    simp only [opV]
    refine Par.bind fun n => Par.bind fun m => Par.bind fun ty => ?_
    cases ty <;> first | exact Par.none | exact Par.bif (Par.bind fun _ => Par.ret OwnLive.full) Par.none
  | call c =>
    obtain ⟨callee, args, argTypes⟩ := c
    cases callee with
    | invoke r m => exact Par.none
    | value f =>
      cases f with
      | func f => exact Par.bind fun _ => Par.bif Par.none (Par.bind fun _ => Par.bind fun _ => Par.bind fun _ => Par.ret OwnLive.res)
      | _ => exact Par.none
    | builtin b =>
      cases b with
      | len =>
        simp only [opV]
        rcases args.toList with _ | ⟨x, _ | ⟨y, r⟩⟩ <;> rcases argTypes.toList with _ | ⟨t, _ | ⟨u, q⟩⟩ <;> first | exact Par.none | exact lenK_par
      | min =>
        simp only [opV]
        rcases args.toList with _ | ⟨x, _ | ⟨y, _ | ⟨z, r⟩⟩⟩ <;> rcases argTypes.toList with _ | ⟨t, _ | ⟨u, _ | ⟨v, q⟩⟩⟩ <;> first | exact Par.none | exact minK_par
      | max =>
        simp only [opV]
        rcases args.toList with _ | ⟨x, _ | ⟨y, _ | ⟨z, r⟩⟩⟩ <;> rcases argTypes.toList with _ | ⟨t, _ | ⟨u, _ | ⟨v, q⟩⟩⟩ <;> first | exact Par.none | exact maxK_par
      | _ => exact Par.none
  | _ => exact Par.none

theorem mm_range {k : IntKind} {m n : Int} (c : Prop) [Decidable c] (hm : k.min ≤ m ∧ m ≤ k.max) (hn : k.min ≤ n ∧ n ≤ k.max) : k.min ≤ (if c then n else m) ∧ (if c then n else m) ≤ k.max := by
  split <;> assumption

theorem opV_sound (hE : EnvOk P E el) (s : SimX P w0 M0 N M β τ fr a w) (h : opV E o fr some = some av) : QOp P Q o a w M β τ fr.l av := by
  have hmove : ∀ (x : Operand), execOp a.eval o = pure (Next.value (a.eval x)) → evT (lk o.type E.tab) x fr = av → QOp P Q o a w M β τ fr.l av := by
    intro x he hav
    exact q_val s.mlt (v := a.eval x) (by rw [he]; rfl) (hav ▸ evT_ok s _ x)
  cases hop : o.op with
  | move x =>
    unfold opV at h
    simp only [hop, ev, Option.some.injEq] at h
    exact hmove x (by simp only [execOp, hop]) h
  | assign x =>
    unfold opV at h
    simp only [hop, ev, Option.some.injEq] at h
    exact hmove x (by simp only [execOp, hop]) h
  | pick c x y =>
    unfold opV at h
    simp only [hop, ev] at h
    split at h
    · rename_i b _ heq
      have hb := (evT_val s heq).1.bool
      cases b with
      | true =>
        simp only [cond_true, Option.some.injEq] at h
        exact hmove x (by simp only [execOp, hop, hb, asBool]; rfl) h
      | false =>
        simp only [cond_false, Option.some.injEq] at h
        exact hmove y (by simp only [execOp, hop, hb, asBool]; rfl) h
    · cases h
  | binOp op t x y u =>
    unfold opV at h
    simp only [hop] at h
    have he : execOp a.eval o = (do pure (Next.value (← (do eqGuard op t x y (a.eval x) (a.eval y); binOp op t (a.eval x) (a.eval y) : Sem Value)))) := by simp only [execOp, hop]
    cases hn : isNilC y with
    | true =>
      rw [hn] at h
      obtain ⟨v, hv, hr⟩ := ifc_sound (P := P) (t := t) (xo := x) (yo := y) (vy := a.eval y) hE.tab hn (fun v e => by subst e; rfl) h (evT_ok s _ x)
      exact q_val s.mlt (exec_v he hv) hr
    | false =>
      rw [hn] at h
      obtain ⟨v, hv, hr⟩ := ifc2_sound (P := P) (t := t) (xo := x) (yo := y) hE.tab h (evT_ok s _ x) (evT_ok s _ y) fun h => bin_sound (P := P) (t := t) (xo := x) (yo := y) hE.tab h (evT_ok s _ x) (evT_ok s _ y)
      exact q_val s.mlt (exec_v he hv) hr
  | makeInterface T x =>
    unfold opV at h
    simp only [hop] at h
    obtain ⟨v, hv, hr⟩ := mkI_sound (P := P) hE.tab h (evT_ok s _ x)
    exact q_val s.mlt (exec_v (by simp only [execOp, hop]) hv) hr
  | unOp op t x =>
    unfold opV at h
    simp only [hop] at h
    obtain ⟨v, hv, hr⟩ := un_sound (P := P) h (evT_ok s _ x)
    exact q_val s.mlt (exec_v (by simp only [execOp, hop]) hv) hr
  | convert src dst x =>
    unfold opV at h
    simp only [hop] at h
    obtain ⟨v, w', M', hv, hg, hr⟩ := conv_sound hE.tab s.mlt h (evT_ok s _ x)
    exact q_run (exec_v (by simp only [execOp, hop]) hv) hg hr
  | nilCheck x =>
    unfold opV at h
    simp only [hop, ev] at h
    have hx := evT_ok s (lk o.type E.tab) x
    split at h
    · rename_i id p heq
      cases h
      rw [heq] at hx
      obtain ⟨e, off, t', h1, h2, h3⟩ := hx
      exact q_val s.mlt (v := a.eval x) (by simp only [execOp, hop, h3]; rfl) ⟨e, off, t', h1, h2, h3⟩
    · rename_i t y _ heq
      cases h
      rw [heq] at hx
      obtain ⟨b, off, row, h3, _⟩ := hx.1.ptr
      exact q_val s.mlt (v := a.eval x) (by simp only [execOp, hop, h3]; rfl) ⟨hx.1, trivial⟩
    · cases h
  | load T x => exact load_sound hE s hop h
  | fieldAddr T x f => exact fieldAddr_sound hE s hop h
  | field T x f => exact field_sound hE s hop h
  | indexAddr T x i => exact indexAddr_sound hE s hop h
  | index T x i => exact index_sound hE s hop h
  | slice T x lo hi mx =>
    cases mx with
    | none => exact slice_sound hE s hop h
    | some m => unfold opV at h; simp [hop] at h
  | extract t i => exact extract_sound s hop h
  | build T parts => exact build_sound hE s hop h
  | buildSlice T n parts => exact buildSlice_sound hE s hop h
  | makeSlice T l c => exact makeSlice_sound hE s hop h
  | call c =>
    obtain ⟨callee, args, argTypes⟩ := c
    have hexec : ∀ b, callee = .builtin b → (∀ (sem : Sem Value), builtin b argTypes o.type (args.map fun | .const _ => true | _ => false) (args.map a.eval) = (do pure (Next.value (← sem))) → execOp a.eval o = (do pure (Next.value (← sem)))) := by
      intro b hb sem hs
      subst hb
      simp only [execOp, hop, resolve, pure_bind, invoke]
      exact hs
    cases callee with
    | invoke r m => unfold opV at h; simp [hop] at h
    | value f =>
      cases f with
      | func f =>
        unfold opV at h
        simp only [hop] at h
        obtain ⟨fn, hf, h⟩ := Option.bind_eq_some_iff.1 h
        obtain ⟨hc, h⟩ := bif_some' h
        obtain ⟨vs, hv, h⟩ := Option.bind_eq_some_iff.1 h
        obtain ⟨x, hx, h⟩ := Option.bind_eq_some_iff.1 h
        obtain ⟨r, hr, h⟩ := Option.bind_eq_some_iff.1 h
        cases h
        refine call_sound hE s hop hf ?_ hv hx hr
        intro hl
        rw [hl] at hc
        simpa using hc
      | _ => unfold opV at h; simp [hop] at h
    | builtin b =>
      have two : ∀ {x y : Operand}, args.toList = [x, y] → args = #[x, y] := fun h => by rw [← Array.toArray_toList (xs := args), h]
      have one : ∀ {x : Operand}, args.toList = [x] → args = #[x] := fun h => by rw [← Array.toArray_toList (xs := args), h]
      have oneT : ∀ {x : TypeId}, argTypes.toList = [x] → argTypes = #[x] := fun h => by rw [← Array.toArray_toList (xs := argTypes), h]
      cases b with
      | len =>
        unfold opV at h
        simp only [hop] at h
        split at h
        · rename_i x t hx ht
          obtain ⟨v, hv, hr⟩ := len_sound (P := P) (ty := o.type) hE.tab h (evT_ok s _ x)
          refine q_val s.mlt (exec_v (hexec .len rfl (Builtin.len_ argTypes o.type (args.map a.eval)) rfl) ?_) hr
          rw [one hx, oneT ht, show Array.map a.eval #[x] = #[a.eval x] from by simp]
          exact hv
        · cases h
      | min =>
        unfold opV at h
        simp only [hop] at h
        split at h
        · rename_i x y t u hx ht
          unfold minK at h
          split at h
          · rename_i kx m _ ky n _ h1 h2
            obtain ⟨hk, h⟩ := ite_some h
            cases h
            subst hk
            obtain ⟨e1, r1⟩ := (evT_val s h1).1.int
            obtain ⟨e2, r2⟩ := (evT_val s h2).1.int
            refine q_val s.mlt (exec_v (hexec .min rfl (Builtin.min_ argTypes o.type (args.map a.eval)) rfl) ?_) ⟨VOk.mk_int (mm_range (n < m) r1 r2), trivial⟩
            rw [two hx]
            simp only [List.map_toArray, List.map_cons, List.map_nil, e1, e2]
            exact run_min_int2 w _ _ _ _ _ _
          · cases h
        · cases h
      | max =>
        unfold opV at h
        simp only [hop] at h
        split at h
        · rename_i x y t u hx ht
          unfold maxK at h
          split at h
          · rename_i kx m _ ky n _ h1 h2
            obtain ⟨hk, h⟩ := ite_some h
            cases h
            subst hk
            obtain ⟨e1, r1⟩ := (evT_val s h1).1.int
            obtain ⟨e2, r2⟩ := (evT_val s h2).1.int
            refine q_val s.mlt (exec_v (hexec .max rfl (Builtin.max_ argTypes o.type (args.map a.eval)) rfl) ?_) ⟨VOk.mk_int (mm_range (n > m) r1 r2), trivial⟩
            rw [two hx]
            simp only [List.map_toArray, List.map_cons, List.map_nil, e1, e2]
            exact run_max_int2 w _ _ _ _ _ _
          · cases h
        · cases h
      | _ => unfold opV at h; simp [hop] at h
  | _ => unfold opV at h; simp [hop] at h
end
end Go.Lift
