/- What a law is handed stands for typed arguments; and behind the call the arguments read as they did. -/
import Derived.Test.YtnhiaoabhjjegaaLiftQ
import Derived.ProofKit
import Derived.OpenShut
import Derived.ShutString
import Derived.ChangeOld
import Derived.Carry
namespace Go.Lift
open Go.RowKit Go.ChangeShapes Go.WideShapes Go.ChangeMaps

def Ty.plain : Ty → Bool
  | .int _ | .bool | .str | .unit => true
  | .slice e => decide (0 < e.n) && e.plain
  | .arr _ e => e.plain
  | .pair a b => a.plain && b.plain
  | .ptr _ => false
  | .ifc => false
  | .mp _ _ => false
  | .fn => false

section
variable {H : Type} {enc : TypeId × Value → H} {P : Program} {w : World} {tab : List (TypeId × Ty)} {sp : Nat → Bool} {held : Bool}

def AllM (w : World) : Own := fun b _ => b < w.heap.size

theorem TOk.cellsOf {tid : TypeId} {t : Ty} (h : TOk P tab tid t) : P.cellsOf tid = t.n := by
  obtain ⟨i, hi, hs, _⟩ := h.info
  simp [Program.cellsOf, hi, hs]

theorem wf_range {k : IntKind} {n : Int} (h : (Lit.int k n).wf = true) : k.min ≤ n ∧ n ≤ k.max := by
  simpa [Lit.wf] using h

theorem cells_add {w : World} {base : Nat} {a : Addr} {j n : Nat} {l : List Value} (h : w.cells? base (a.add j) n = some l) : l.length = n ∧ ∀ i, i < n → w.cell? (a.add (j + i)) = l[i]? := by
  unfold World.cells? at h
  split at h
  · refine ⟨by simpa using mapM_some_length h, fun i hi => ?_⟩
    have := mapM_some_get h i i (by simp [hi])
    rw [← this]
    by_cases hj : j = 0 <;> by_cases h0 : i = 0 <;> simp [Addr.add, hj, h0, Nat.add_assoc]
  · cases h

theorem seq_one {α : Type} {R : List Value → α → Prop} {c : List Value} {x : α} (h : R c x) : Seq R c [x] := ⟨c, [], by simp, h, rfl⟩

/-- a list of cells is that list -/
theorem slice_open {e : Ty} {te : TypeId} (he : TOk P tab te e) (hn : 0 < e.n) {m : Nat} {a : Addr}
    (ih : ∀ cs x, DataW.trod enc P w 0 sp held m te cs = some x → ∃ X, Rep (AllM w) w e cs X) {len : Nat} {elems : List (DataW H × List MemPlace)} (hlen : elems.length = len)
    (h : ∀ i, i < len → (w.cells? 0 (a.add (i * P.cellsOf te)) (P.cellsOf te)).bind (DataW.trod enc P w 0 sp held m te) = elems[i]?) : ∀ j, j ≤ len →
    ∃ (row : List Value) (xs : List e.den), xs.length = j ∧ Seq (Rep (AllM w) w e) row xs ∧ ∀ i, i < row.length → w.cell? (a.add i) = row[i]?
  | 0, _ => ⟨[], [], rfl, rfl, by simp⟩
  | j + 1, hj => by
    obtain ⟨row, xs, h1, h2, h3⟩ := slice_open he hn ih hlen h j (by omega)
    have h4 := h j (by omega)
    rw [List.getElem?_eq_getElem (by omega), he.cellsOf] at h4
    obtain ⟨l, hl, ht⟩ := Option.bind_eq_some_iff.1 h4
    obtain ⟨X, hX⟩ := ih _ _ ht
    obtain ⟨l1, l2⟩ := cells_add hl
    have hr := h2.length (fun _ _ => Rep.length)
    refine ⟨row ++ l, xs ++ [X], by simp [h1], h2.append (seq_one hX), fun i hi => ?_⟩
    by_cases hlt : i < row.length
    · rw [List.getElem?_append_left hlt]; exact h3 i hlt
    · rw [List.getElem?_append_right (by omega)]
      simp only [List.length_append] at hi
      rw [← l2 (i - row.length) (by omega), hr, h1]
      congr 2
      rw [h1] at hr
      omega

theorem arr_open {e : Ty} {te : TypeId} (he : TOk P tab te e) {m : Nat} (ih : ∀ cs x, DataW.trod enc P w 0 sp held m te cs = some x → ∃ X, Rep (AllM w) w e cs X) {cs : List Value} {n : Nat} {ys : List (DataW H × List MemPlace)} (hl : ys.length = n)
    (h : ∀ i, i < n → DataW.trod enc P w 0 sp held m te ((cs.drop (i * P.cellsOf te)).take (P.cellsOf te)) = ys[i]?) : ∀ j, j ≤ n →
    ∃ (xs : List e.den), xs.length = j ∧ Seq (Rep (AllM w) w e) (cs.take (j * e.n)) xs
  | 0, _ => ⟨[], rfl, by simp [Seq]⟩
  | j + 1, hj => by
    obtain ⟨xs, h1, h2⟩ := arr_open he ih hl h j (by omega)
    have h4 := h j (by omega)
    rw [List.getElem?_eq_getElem (by omega), he.cellsOf] at h4
    obtain ⟨X, hX⟩ := ih _ _ h4
    refine ⟨xs ++ [X], by simp [h1], ?_⟩
    rw [Nat.add_mul, Nat.one_mul, List.take_add]
    exact h2.append (seq_one hX)

theorem open_all (htab : TabOk P tab) : ∀ (T : Ty), T.plain = true →
    (∀ tid fuel cs x, lk tid tab = some T → DataW.trod enc P w 0 sp held fuel tid cs = some x → ∃ X, Rep (AllM w) w T cs X) ∧
    (∀ (fs : List Field) (off m : Nat) (cs : List Value), okU.okFs tab fs off T = true → (∀ f ∈ fs, ∃ y, DataW.trod enc P w 0 sp held m f.type ((cs.drop f.offset).take (P.cellsOf f.type)) = some y) → ∃ X, Rep (AllM w) w T ((cs.drop off).take T.n) X)
  | .int k, _ => ⟨fun tid fuel cs x ht h => by
      obtain ⟨n, rfl, _, hw⟩ := DataW.trod_int (htab _ _ ht).int h
      exact ⟨n, rfl, wf_range hw⟩, fun fs off m cs h => by cases fs <;> simp [okU.okFs] at h⟩
  | .bool, _ => ⟨fun tid fuel cs x ht h => by
      obtain ⟨n, rfl, _⟩ := DataW.trod_bool (htab _ _ ht).bool h
      exact ⟨n, rfl⟩, fun fs off m cs h => by cases fs <;> simp [okU.okFs] at h⟩
  | .str, _ => ⟨fun tid fuel cs x ht h => by
      obtain ⟨s, rfl, _, hw⟩ := DataW.trod_string (htab _ _ ht).str h
      exact ⟨_, s, rfl, rfl, hw⟩, fun fs off m cs h => by cases fs <;> simp [okU.okFs] at h⟩
  | .slice e, hp => by
      simp only [Ty.plain, Bool.and_eq_true, decide_eq_true_eq] at hp
      refine ⟨fun tid fuel cs x ht h => ?_, fun fs off m cs h => by cases fs <;> simp [okU.okFs] at h⟩
      obtain ⟨te, hu, he⟩ := (htab _ _ ht).slice
      rcases DataW.trod_slice hu h with ⟨rfl, _⟩ | ⟨a, len, cap, elems, rest, m, rfl, rfl, _, _, hl, hc, hlen, hel, _, _⟩
      · exact ⟨[], none, 0, [], rfl, by simp, by simp, fun _ => rfl, rfl, .inl rfl⟩
      · obtain ⟨row, xs, h1, h2, h3⟩ := slice_open (htab _ _ he) hp.1 (fun cs x h => (open_all htab e hp.2).1 te m cs x he h) hlen hel len (Nat.le_refl _)
        subst h1
        refine ⟨xs, some a, cap, row, rfl, hl, hc, (fun h => by cases h), h2, ?_⟩
        by_cases h0 : xs.length = 0
        · exact .inl h0
        · right
          have hr := h2.length (fun _ _ => Rep.length)
          have hpos : 0 < row.length := by rw [hr]; exact Nat.mul_pos (by omega) hp.1
          obtain ⟨b, o, spot⟩ := a
          have hs : spot = none := by
            have := h3 0 hpos
            rw [List.getElem?_eq_getElem hpos] at this
            simpa [Addr.add] using World.cell?_spot this
          subst hs
          refine ⟨b, o, rfl, fun i hi => ?_⟩
          have h4 := h3 i hi
          rw [addr_add] at h4
          refine ⟨h4, ?_⟩
          rw [List.getElem?_eq_getElem hi] at h4
          exact cell_lt h4
  | .arr n e, hp => by
      simp only [Ty.plain] at hp
      refine ⟨fun tid fuel cs x ht h => ?_, fun fs off m cs h => by cases fs <;> simp [okU.okFs] at h⟩
      obtain ⟨te, hu, he, _⟩ := (htab _ _ ht).arr
      obtain ⟨ys, m, rfl, _, hl, hys, hy⟩ := DataW.trod_array hu h
      obtain ⟨xs, h1, h2⟩ := arr_open (htab _ _ he) (fun cs x h => (open_all htab e hp).1 te m cs x he h) hys hy n (Nat.le_refl _)
      rw [(htab _ _ ht).cellsOf] at hl
      rw [List.take_of_length_le (by simp [hl, Ty.n])] at h2
      exact ⟨xs, h1, h2⟩
  | .unit, _ => by
      refine ⟨fun tid fuel cs x ht h => ?_, fun fs off m cs h _ => ⟨(), by simp [Rep, Ty.n]⟩⟩
      obtain ⟨fs, hu, _⟩ := (htab _ _ ht).unit
      obtain ⟨_, _, _, _, hl, _⟩ := DataW.trod_struct hu h
      rw [(htab _ _ ht).cellsOf] at hl
      exact ⟨(), by simpa [Rep, Ty.n] using hl⟩
  | .pair a b, hp => by
      simp only [Ty.plain, Bool.and_eq_true] at hp
      have hB : ∀ (fs : List Field) (off m : Nat) (cs : List Value), okU.okFs tab fs off (.pair a b) = true → (∀ f ∈ fs, ∃ y, DataW.trod enc P w 0 sp held m f.type ((cs.drop f.offset).take (P.cellsOf f.type)) = some y) → ∃ X, Rep (AllM w) w (.pair a b) ((cs.drop off).take (Ty.pair a b).n) X := by
        intro fs off m cs h hf
        cases fs with
        | nil => simp [okU.okFs] at h
        | cons f fs =>
          simp only [okU.okFs, Bool.and_eq_true, decide_eq_true_eq, beq_iff_eq] at h
          obtain ⟨⟨⟨⟨ha, ho⟩, _⟩, _⟩, hfs⟩ := h
          obtain ⟨y, hy⟩ := hf f (by simp)
          rw [ho, (htab _ _ ha).cellsOf] at hy
          obtain ⟨X, hX⟩ := (open_all htab a hp.1).1 _ _ _ _ ha hy
          obtain ⟨Y, hY⟩ := (open_all htab b hp.2).2 fs (off + a.n) m cs hfs (fun g hg => hf g (by simp [hg]))
          refine ⟨(X, Y), _, _, ?_, hX, hY⟩
          rw [Ty.n, List.take_add, List.drop_drop]
      refine ⟨fun tid fuel cs x ht h => ?_, hB⟩
      obtain ⟨fs, hu, ⟨hfs, _⟩, _⟩ := (htab _ _ ht).pair
      obtain ⟨xs, m, rfl, _, hl, hxs, hx⟩ := DataW.trod_struct hu h
      obtain ⟨X, hX⟩ := hB fs.toList 0 m cs hfs (fun f hf => by
        obtain ⟨i, hi⟩ := List.getElem?_of_mem hf
        have hi' : fs[i]? = some f := by simpa using hi
        have hlt : i < xs.length := by rw [hxs]; exact (Array.getElem?_eq_some_iff.1 hi').1
        have := hx i f hi'
        rw [List.getElem?_eq_getElem hlt] at this
        exact ⟨_, this⟩)
      rw [(htab _ _ ht).cellsOf] at hl
      rw [List.drop_zero, List.take_of_length_le (Nat.le_of_eq hl)] at hX
      exact ⟨X, hX⟩

theorem val_open (htab : TabOk P tab) {tid : TypeId} {T : Ty} {v : Value} {d : DataW H} {p : List MemPlace} {r : Reach} {b0 : Nat} (ht : lk tid tab = some T) (hp : T.plain = true)
    (hval : Value.okWide P w r b0 tid v) (h : DataW.Trod enc P w 0 sp held tid v d p) : ∃ X, VOk (AllM w) w T X v := by
  obtain ⟨fuel, h⟩ := h
  have hT := htab _ _ ht
  obtain ⟨X, hX⟩ := (open_all htab T hp).1 _ _ _ _ ht h
  refine ⟨X, _, ?_, hX⟩
  match T, hT with
  | .int k, hT => obtain ⟨n, rfl⟩ := okWide_int hT.int hval; rfl
  | .bool, hT => obtain ⟨n, rfl⟩ := okWide_bool hT.bool hval; rfl
  | .str, hT => obtain ⟨n, rfl⟩ := okWide_string hT.str hval; rfl
  | .slice e, hT => obtain ⟨te, hu, _⟩ := hT.slice; obtain ⟨a, l, c, rfl⟩ := okWide_slice hu hval; rfl
  | .ptr e, hT => simp [Ty.plain] at hp
  | .ifc, hT => simp [Ty.plain] at hp
  | .mp _ _, hT => simp [Ty.plain] at hp
  | .fn, hT => simp [Ty.plain] at hp
  | .arr n e, hT =>
    obtain ⟨te, hu, _⟩ := hT.arr
    simp only [Value.okWide, hu] at hval
    obtain ⟨cs, rfl, _⟩ := hval
    simp [toV, Ty.isAgg, Value.cells]
  | .unit, hT =>
    obtain ⟨fs, hu, _⟩ := hT.unit
    simp only [Value.okWide, hu] at hval
    obtain ⟨cs, rfl, _⟩ := hval
    simp [toV, Ty.isAgg, Value.cells]
  | .pair a b, hT =>
    obtain ⟨fs, hu, _⟩ := hT.pair
    simp only [Value.okWide, hu] at hval
    obtain ⟨cs, rfl, _⟩ := hval
    simp [toV, Ty.isAgg, Value.cells]

theorem args_open (htab : TabOk P tab) {r : Reach} {b0 : Nat} : ∀ {ts : List TypeId} {ps : List Ty} {args : List Value} {ds : List (DataW H)} {p : List MemPlace}, ts.map (fun t => lk t tab) = ps.map some → ps.all Ty.plain = true →
    (∀ (j : Nat) t v, ts[j]? = some t → args[j]? = some v → Value.okWide P w r b0 t v) → DataW.TrodAll enc P w 0 sp held ts args ds p →
    ∃ vs, ArgsOk (AllM w) w vs args ∧ vs.map (·.1) = ps
  | [], [], args, ds, p, _, _, _, h => by
    obtain ⟨rfl, _⟩ := trodAll_nil h
    exact ⟨[], trivial, rfl⟩
  | [], _ :: _, _, _, _, h, _, _, _ => by simp at h
  | _ :: _, [], _, _, _, h, _, _, _ => by simp at h
  | t :: ts, T :: ps, args, ds, p, h, hp, hv, hd => by
    obtain ⟨v, vs', d, ds', q, q', rfl, rfl, rfl, h1, h2⟩ := trodAll_cons hd
    simp only [List.map_cons, List.cons.injEq] at h
    simp only [List.all_cons, Bool.and_eq_true] at hp
    obtain ⟨X, hX⟩ := val_open htab h.1 hp.1 (hv 0 t v rfl rfl) h1
    obtain ⟨vs, g1, g2⟩ := args_open htab h.2 hp.2 (fun j t v ht hvv => hv (j + 1) t v (by simpa using ht) (by simpa using hvv)) h2
    exact ⟨⟨T, X⟩ :: vs, ⟨hX, g1⟩, by simp [g2]⟩

theorem pack_of : ∀ {ps : List Ty} {vs : List TV}, vs.map (·.1) = ps → ∃ x, packL ps vs = some x
  | [], [], _ => ⟨(), rfl⟩
  | [], _ :: _, h => by simp at h
  | [t], [v], h => by
    simp only [List.map_cons, List.map_nil, List.cons.injEq, and_true] at h
    subst h
    exact ⟨v.2, by simp [packL, TV.as]⟩
  | [t], [], h => by simp at h
  | [t], _ :: _ :: _, h => by simp at h
  | t :: u :: ts, [], h => by simp at h
  | t :: u :: ts, v :: vs, h => by
    simp only [List.map_cons, List.cons.injEq] at h
    obtain ⟨rfl, h⟩ := h
    obtain ⟨y, hy⟩ := pack_of (ps := u :: ts) h
    exact ⟨(v.2, y), by simp [packL, TV.as, hy]⟩

/-- behind the call the arguments read as they did -/
theorem trodAll_below (hl : laidOutB P = true) {W W' : World} (hb : Below W.heap.size W W') : ∀ {ts : List TypeId} {vs : List Value} {ds : List (DataW H)} {ps : List MemPlace}, (ts.all fun t => P.readableRec t && decide (t < P.types.size)) = true →
    DataW.TrodAll enc P W 0 (fun _ => true) true ts vs ds ps → (∀ x ∈ ps, x.block < W.heap.size) → DataW.TrodAll enc P W' 0 (fun b => decide (b < W.heap.size)) true ts vs ds ps
  | [], [], [], _, _, h, _ => h
  | t :: ts, v :: vs, d :: ds, ps, ht, h, hlt => by
    obtain ⟨p, q, h1, h2, rfl⟩ := h
    simp only [List.all_cons, Bool.and_eq_true, decide_eq_true_eq] at ht
    exact ⟨p, q, Below.trod hl ht.1.1 ht.1.2 h1 hb (fun x hx => hlt x (by simp [hx])), trodAll_below hl hb ht.2 h2 (fun x hx => hlt x (by simp [hx])), rfl⟩
  | [], _ :: _, _, _, _, h, _ => h.elim
  | [], [], _ :: _, _, _, h, _ => h.elim
  | _ :: _, [], _, _, _, h, _ => h.elim
  | _ :: _, _ :: _, [], _, _, h, _ => h.elim

theorem trodAll_length : ∀ {ts : List TypeId} {vs : List Value} {ds : List (DataW H)} {ps : List MemPlace} {b : Nat}, DataW.TrodAll enc P w b sp held ts vs ds ps → ds.length = ts.length
  | [], [], [], _, _, _ => rfl
  | t :: ts, v :: vs, d :: ds, _, _, h => by obtain ⟨p, q, _, h2, _⟩ := h; simp [trodAll_length h2]
  | [], _ :: _, _, _, _, h => h.elim
  | [], [], _ :: _, _, _, h => h.elim
  | _ :: _, [], _, _, _, h => h.elim
  | _ :: _, _ :: _, [], _, _, h => h.elim

/-- a law that is true for all typed arguments -/
theorem law_run {E : Env} (htab : TabOk P E.tab) {f : FuncId} {fn : Fn} (hL : Lifts P f fn) (hT : ∀ x, WfL fn.ps x → (fn.F x).map (resAV fn.rs) = some (.val ⟨.bool, true⟩ .no)) {ts : List TypeId} {args : Array Value} {ds : List (DataW H)} {p : List MemPlace} {r : Reach} {b0 : Nat}
    (hts : ts.map (fun t => lk t E.tab) = fn.ps.map some) (hpl : fn.ps.all Ty.plain = true) (hv : ∀ (j : Nat) t v, ts[j]? = some t → args[j]? = some v → Value.okWide P w r b0 t v) (h : DataW.TrodAll enc P w 0 (fun _ => true) true ts args.toList ds p) (hG : GlOk (AllM w) w) :
    Calls P f args w fun e w' => e = .returned (.bool true) ∧ Below w.heap.size w w' := by
  obtain ⟨vs, h1, h2⟩ := args_open htab hts hpl (fun j t v h1 h2 => hv j t v h1 (by simpa using h2)) h
  obtain ⟨x, hx⟩ := pack_of h2
  have h3 := hT x (args_wf hx h1)
  obtain ⟨r, hr, h4⟩ := Option.map_eq_some_iff.1 h3
  have hc := (hL.calls w (AllM w) args.toList vs x r (fun b o m => m) hG h1 hx hr)
  rw [Array.toArray_toList] at hc
  refine hc.mono ?_
  rintro e w' ⟨v, M', rfl, hg, hres⟩
  have h5 := hres (fun _ => 0) (fun _ => undef) []
  rw [h4] at h5
  obtain ⟨⟨cs, rfl, h6⟩, _⟩ := h5
  have : cs = [.bool true] := h6
  subst this
  exact ⟨rfl, hg.bel⟩
end
end Go.Lift
