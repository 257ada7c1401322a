/- Maps: what is found at a key, and what is put there. -/
import Derived.Test.YtlmhokakghbciaaRiJ
import Derived.MapKept
import Derived.ChangeMaps
namespace Go.Lift
open Go.RowKit Go.MapKept

section
variable {P : Program} {tab : List (TypeId × Ty)} {M M' : Own} {w w' w'' : World} {kt vt : Ty}

/-- types of keys that are one value -/
def keyOne : Ty → Bool
  | .int _ => true
  | .bool => true
  | .str => true
  | _ => false

theorem keyTy_or (h : keyTy kt = true) : keyOne kt = true ∨ ∃ n e, kt = .arr n e ∧ n ≤ 100 ∧ keyOne e = true := by
  cases kt <;> simp [keyTy] at h <;> try exact .inl rfl
  rename_i n e
  refine .inr ⟨n, e, rfl, h.1, ?_⟩
  cases e <;> simp at h <;> rfl

theorem keyOne_flat (h : keyOne kt = true) : kt.flat = true := by cases kt <;> simp [keyOne] at h <;> rfl
theorem keyTy_flat (h : keyTy kt = true) : kt.flat = true := by
  rcases keyTy_or h with h | ⟨n, e, rfl, _, h⟩
  · exact keyOne_flat h
  · simpa [Ty.flat] using keyOne_flat h

theorem keyOne_is (h : keyOne kt = true) {k : TypeId} (hT : TOk P tab k kt) {x : kt.den} {v : Value} (hv : VOk M w kt x v) : ∃ d, P.underlying k = some d ∧ IsKey d v := by
  obtain ⟨cs, rfl, hr⟩ := hv
  cases kt <;> simp [keyOne] at h
  · obtain ⟨rfl, _⟩ := hr; exact ⟨_, hT.int, rfl⟩
  · have hr' : cs = [.bool x] := hr
    subst hr'; exact ⟨_, hT.bool, trivial⟩
  · obtain ⟨s, rfl, _⟩ := hr; exact ⟨_, hT.str, trivial⟩

theorem bytes_of_ints {a b : ByteArray} (h : a.data.toList.map (fun b => (b.toNat : Int)) = b.data.toList.map (fun b => (b.toNat : Int))) : a = b := by
  have : a.data.toList = b.data.toList := by
    refine List.map_inj_right (fun x y e => ?_) |>.1 h
    exact UInt8.toNat_inj.1 (Int.ofNat.inj e)
  cases a; cases b
  simp at this
  simpa using this

theorem keyOne_inj (h : keyOne kt = true) {x y : kt.den} {v u : Value} (hv : VOk M w kt x v) (hu : VOk M' w' kt y u) : v = u ↔ x = y := by
  obtain ⟨cs, rfl, hr⟩ := hv
  obtain ⟨ds, rfl, hs⟩ := hu
  cases kt <;> simp [keyOne] at h
  · obtain ⟨rfl, _⟩ := hr; obtain ⟨rfl, _⟩ := hs; simp [toV, Ty.isAgg]
  · have hr' : cs = [.bool x] := hr
    have hs' : ds = [.bool y] := hs
    subst hr' hs'; simp [toV, Ty.isAgg]
  · obtain ⟨s, rfl, e1, _⟩ := hr; obtain ⟨s', rfl, e2, _⟩ := hs
    simp only [toV, Ty.isAgg, List.headD, Bool.false_eq_true, if_false, Value.string.injEq]
    constructor
    · rintro rfl; rw [e1, e2]
    · intro e; rw [e1, e2] at e; exact bytes_of_ints e

theorem seq_inj {α : Type} {R R' : List Value → α → Prop} (h : ∀ cs ds x y, R cs x → R' ds y → (cs = ds ↔ x = y)) (h1 : ∀ cs x, R cs x → cs.length = 1) (h2 : ∀ cs x, R' cs x → cs.length = 1) : ∀ {cs ds : List Value} {xs ys : List α}, Seq R cs xs → Seq R' ds ys → (cs = ds ↔ xs = ys)
  | _, _, [], [], s, t => by simp only [Seq] at s t; subst s t; simp
  | _, _, [], y :: ys, s, ⟨c1, c2, e, r, t⟩ => by simp only [Seq] at s; subst s e; have := h2 _ _ r; cases c1 <;> simp at this ⊢
  | _, _, x :: xs, [], ⟨c1, c2, e, r, t⟩, s => by simp only [Seq] at s; subst s e; have := h1 _ _ r; cases c1 <;> simp at this ⊢
  | _, _, x :: xs, y :: ys, ⟨c1, c2, e, r, s⟩, ⟨d1, d2, e', r', s'⟩ => by
    subst e e'
    have l1 := h1 _ _ r
    have l2 := h2 _ _ r'
    constructor
    · intro e
      obtain ⟨e1, e2⟩ := List.append_inj e (by rw [l1, l2])
      rw [(h _ _ _ _ r r').1 e1, (seq_inj h h1 h2 s s').1 e2]
    · intro e
      cases e
      rw [(h _ _ _ _ r r').2 rfl, (seq_inj h h1 h2 s s').2 rfl]

theorem one_n (h : keyOne kt = true) : kt.n = 1 ∧ kt.isAgg = false := by cases kt <;> simp [keyOne] at h <;> exact ⟨rfl, rfl⟩

theorem key_inj (h : keyTy kt = true) {x y : kt.den} {v u : Value} (hv : VOk M w kt x v) (hu : VOk M' w' kt y u) : v = u ↔ x = y := by
  rcases keyTy_or h with h | ⟨n, e, rfl, _, h⟩
  · exact keyOne_inj h hv hu
  · obtain ⟨cs, rfl, hr⟩ := hv
    obtain ⟨ds, rfl, hs⟩ := hu
    have := seq_inj (R := Rep M w e) (R' := Rep M' w' e) (fun cs ds x y r s => by
      have h1 := keyOne_inj h (⟨cs, rfl, r⟩ : VOk M w e x (toV e cs)) (⟨ds, rfl, s⟩ : VOk M' w' e y (toV e ds))
      rw [← h1]
      have l1 := r.length
      have l2 := s.length
      rw [(one_n h).1] at l1 l2
      obtain ⟨c, rfl⟩ := List.length_eq_one_iff.1 l1
      obtain ⟨d, rfl⟩ := List.length_eq_one_iff.1 l2
      simp [toV, (one_n h).2]) (fun cs x r => by rw [r.length, (one_n h).1]) (fun cs x r => by rw [r.length, (one_n h).1]) hr.2 hs.2
    simpa [toV, Ty.isAgg] using this

theorem sameBits_one (h : keyOne kt = true) {x : kt.den} {v : Value} (hv : VOk M w kt x v) (n : Nat) : Instr.sameBits n v v = true := by
  obtain ⟨cs, rfl, hr⟩ := hv
  cases kt <;> simp [keyOne] at h
  · obtain ⟨rfl, _⟩ := hr; simp [toV, Ty.isAgg, Instr.sameBits]
  · have hr' : cs = [.bool x] := hr
    subst hr'; simp [toV, Ty.isAgg, Instr.sameBits]
  · obtain ⟨s, rfl, _⟩ := hr; simp [toV, Ty.isAgg, Instr.sameBits, bytes_beq]

theorem sameBits_key (h : keyTy kt = true) {x : kt.den} {v : Value} (hv : VOk M w kt x v) (n : Nat) : Instr.sameBits (n + 1) v v = true := by
  rcases keyTy_or h with h | ⟨m, e, rfl, _, h⟩
  · exact sameBits_one h hv _
  · obtain ⟨cs, rfl, hr⟩ := hv
    have : ∀ {cs : List Value} {xs : List e.den}, Seq (Rep M w e) cs xs → (cs.zip cs).all (fun p => Instr.sameBits n p.1 p.2) = true := by
      intro cs xs
      induction xs generalizing cs with
      | nil => intro s; simp only [Seq] at s; subst s; rfl
      | cons x xs ih =>
        rintro ⟨c1, c2, rfl, r, s⟩
        have l1 := r.length
        rw [(one_n h).1] at l1
        obtain ⟨c, rfl⟩ := List.length_eq_one_iff.1 l1
        have h1 := sameBits_one h (⟨[c], rfl, r⟩ : VOk M w e x (toV e [c])) n
        simp [toV, (one_n h).2] at h1
        simp [h1]
        simpa using ih s
    have h2 := this hr.2
    simp only [toV, Ty.isAgg, if_true, Instr.sameBits]
    simpa using h2

theorem keyStays (h : keyTy kt = true) {x : kt.den} {v : Value} (hv : VOk M w kt x v) : (Instr.keyThatStays v v).run P w' = .ok v w' := by
  simp [Instr.keyThatStays, sameBits_key h hv]

theorem checkKey_ok (htab : TabOk P tab) (h : keyTy kt = true) {k : TypeId} (hT : TOk P tab k kt) {x : kt.den} {v : Value} (hv : VOk M w kt x v) (em : Bool) (d : Nat) : (Instr.checkKey em (d + 2) k v).run P w' = .ok () w' := by
  rcases keyTy_or h with h | ⟨m, e, rfl, _, h⟩
  · obtain ⟨ds, h1, h2⟩ := keyOne_is h hT hv
    exact run_checkKey h1 h2 em (d + 1)
  · obtain ⟨cs, rfl, hr⟩ := hv
    obtain ⟨te, hu, hl, _⟩ := hT.arr
    have he := htab te e hl
    obtain ⟨hlen, hr⟩ := hr
    simp only [toV, Ty.isAgg, if_true]
    rw [Instr.checkKey]
    simp only [Sem.run_bind, run_underlying hu, Result.andThen_ok]
    simp only [Std.Legacy.Range.forIn_eq_forIn_range', Std.Legacy.Range.size, Nat.sub_zero, Nat.add_one_sub_one, Nat.div_one]
    have each : ∀ i ∈ List.range' 0 m, ∃ a, (part te cs.toArray (i * e.n)).run P w' = .ok a w' ∧ (Instr.checkKey em (d + 1) te a).run P w' = .ok () w' := by
      intro i hi
      have hi' : i < List.length x := by rw [hlen]; simpa using hi
      obtain ⟨c0, c1, c2, e1, e2, e3⟩ := hr.at (fun _ _ r => r.length) i (List.getElem?_eq_getElem hi')
      refine ⟨_, part_run2 he e1 e3.length e2.symm w', ?_⟩
      obtain ⟨ds, h1, h2⟩ := keyOne_is h he (⟨c1, rfl, e3⟩ : VOk M w e _ (toV e c1))
      exact run_checkKey h1 h2 em d
    generalize List.range' 0 m = is at each
    induction is with
    | nil => simp
    | cons j is ih =>
      obtain ⟨a, p1, p2⟩ := each j (by simp)
      simp only [List.forIn_cons, Sem.run_bind, he.sizeOf, Result.andThen_ok, p1, p2, Sem.run_pure]
      exact ih (fun y hy => each y (by simp [hy]))

/-- where a key is found -/
def fndI (x : kt.den) : List MapEntry → List (kt.den × vt.den) → Nat → Option (Nat × Value)
  | e :: es, p :: ps, j => bif eqD kt x p.1 then some (j, e.val) else fndI x es ps (j + 1)
  | _, _, _ => none

theorem fndI_none {x : kt.den} : ∀ {es : List MapEntry} {ps : List (kt.den × vt.den)} {j : Nat}, fndI x es ps j = none → EntsOk M w kt vt es ps → (∀ z, atK x z ps = (z, false)) ∧ ∀ y, putK x y ps = ps ++ [(x, y)]
  | [], [], _, _, _ => ⟨fun _ => rfl, fun _ => rfl⟩
  | e :: es, p :: ps, j, h, r => by
    simp only [fndI] at h
    cases hc : eqD kt x p.1 with
    | true => simp [hc] at h
    | false =>
      simp only [hc, cond_false] at h
      obtain ⟨h1, h2⟩ := fndI_none h r.2
      exact ⟨fun z => by simp [atK, hc, h1], fun y => by simp [putK, hc, h2]⟩
  | [], _ :: _, _, _, r => r.elim
  | _ :: _, [], _, _, r => r.elim

theorem fndI_some {x : kt.den} : ∀ {es : List MapEntry} {ps : List (kt.den × vt.den)} {j i : Nat} {u : Value}, fndI x es ps j = some (i, u) → EntsOk M w kt vt es ps →
    ∃ n e p, i = j + n ∧ es[n]? = some e ∧ ps[n]? = some p ∧ e.val = u ∧ x = p.1 ∧ EntOk M w kt vt e p ∧ (∀ z, atK x z ps = (p.2, true)) ∧ ∀ y, putK x y ps = ps.set n (x, y)
  | e :: es, p :: ps, j, i, u, h, r => by
    simp only [fndI] at h
    cases hc : eqD kt x p.1 with
    | true =>
      simp only [hc, cond_true, Option.some.injEq, Prod.mk.injEq] at h
      exact ⟨0, e, p, by omega, rfl, rfl, h.2, eqD_iff.1 hc, r.1, fun z => by simp [atK, hc], fun y => by simp [putK, hc]⟩
    | false =>
      simp only [hc, cond_false] at h
      obtain ⟨n, e', p', h1, h2, h3, h4, h5, h6, h7, h8⟩ := fndI_some h r.2
      exact ⟨n + 1, e', p', by omega, by simpa using h2, by simpa using h3, h4, h5, h6, fun z => by simp [atK, hc, h7], fun y => by simp [putK, hc, h8]⟩
  | [], [], _, _, _, h, _ => by cases h
  | [], _ :: _, _, _, _, _, r => r.elim
  | _ :: _, [], _, _, _, _, r => r.elim

theorem findNow_ok (h : keyOne kt = true) {d : TypeDesc} {x : kt.den} {v : Value} (hv : VOk M' w' kt x v) (hd : IsKey d v) (hds : ∀ {y : kt.den} {u : Value}, VOk M w kt y u → IsKey d u) :
    ∀ {es : List MapEntry} {ps : List (kt.den × vt.den)} (j : Nat), EntsOk M w kt vt es ps → Instr.findNow d v es j = some (fndI x es ps j)
  | [], [], _, _ => rfl
  | e :: es, p :: ps, j, r => by
    obtain ⟨b, h1, h2⟩ := sameNow_of_keys hd (hds r.1.1)
    have h3 : b = eqD kt x p.1 := by rw [Bool.eq_iff_iff, h2, eqD_iff, keyOne_inj h hv r.1.1]
    simp only [Instr.findNow, fndI, h1, h3]
    cases eqD kt x p.1 with
    | true => rfl
    | false => exact findNow_ok h hv hd hds (j + 1) r.2
  | [], _ :: _, _, r => r.elim
  | _ :: _, [], _, r => r.elim

theorem findAsking_ok (htab : TabOk P tab) (h : keyTy kt = true) {k : TypeId} (hT : TOk P tab k kt) {x : kt.den} {v : Value} (hv : VOk M' w' kt x v) :
    ∀ {es : List MapEntry} {ps : List (kt.den × vt.den)} (j : Nat), EntsOk M w kt vt es ps → (Instr.findAsking k v es j).run P w'' = .ok (fndI x es ps j) w''
  | [], [], _, _ => rfl
  | e :: es, p :: ps, j, r => by
    obtain ⟨cs, rfl, hr⟩ := hv
    obtain ⟨ds, hk, hs⟩ := r.1.1
    have hdep : kt.dep ≤ Op.maxDepth := by
      rcases keyTy_or h with h | ⟨n, e, rfl, _, h⟩
      · cases kt <;> simp [keyOne] at h <;> simp [Ty.dep, Op.maxDepth]
      · cases e <;> simp [keyOne] at h <;> simp [Ty.dep, Op.maxDepth]
    obtain ⟨b, h1, h2⟩ := (equalIn_run htab (u := w') (u' := w) (M := M') (M' := M) kt (keyTy_flat h)).1 Op.maxDepth k cs ds x p.1 w'' hdep hT hr hs
    have h3 : b = eqD kt x p.1 := by rw [Bool.eq_iff_iff, h2, eqD_iff]
    subst h3
    simp only [Instr.findAsking, fndI, Sem.run_bind, Op.equal, hk, h1, Result.andThen_ok]
    cases eqD kt x p.1 with
    | true => rfl
    | false => exact findAsking_ok htab h hT ⟨cs, rfl, hr⟩ (j + 1) r.2
  | [], _ :: _, _, r => r.elim
  | _ :: _, [], _, r => r.elim

theorem findKey_ok (htab : TabOk P tab) (h : keyTy kt = true) {k : TypeId} (hT : TOk P tab k kt) {x : kt.den} {v : Value} (hv : VOk M' w' kt x v) {es : List MapEntry} {ps : List (kt.den × vt.den)} (he : EntsOk M w kt vt es ps) :
    (Instr.findKey k v es).run P w'' = .ok (fndI x es ps 0) w'' := by
  rcases keyTy_or h with h1 | ⟨n, e, rfl, _, h1⟩
  · obtain ⟨d, h2, h3⟩ := keyOne_is h1 hT hv
    refine run_findKey h2 (findNow_ok h1 hv h3 (fun hu => ?_) 0 he)
    obtain ⟨d', h4, h5⟩ := keyOne_is h1 hT hu
    rw [h2] at h4
    cases h4
    exact h5
  · obtain ⟨te, hu, _⟩ := hT.arr
    have : Instr.findNow (.array n te) v es 0 = none ∨ es = [] := by
      cases es with
      | nil => exact .inr rfl
      | cons e es => left; simp [Instr.findNow, Instr.sameNow]
    rcases this with h2 | rfl
    · simp only [Instr.findKey, Sem.run_bind, run_underlying hu, Result.andThen_ok, h2]
      exact findAsking_ok htab h hT hv 0 he
    · cases ps with
      | nil => simp [Instr.findKey, run_underlying hu, Instr.findNow, fndI]
      | cons => exact he.elim

theorem lookup_run (htab : TabOk P tab) (h : keyTy kt = true) {t : TypeId} (ht : TOk P tab t (.mp kt vt)) {x : kt.den} {v : Value} (hv : VOk M' w' kt x v) {b : Nat} {arr : Array MapEntry} {clock : Nat} {ps : List (kt.den × vt.den)} (hb : w.heap[b]? = some (.map arr clock)) (he : EntsOk M w kt vt arr.toList ps) {z : vt.den} (hz : zeroD vt = some z) (c : Bool) :
    ∃ u, (Instr.lookup t (.map (some b)) v c).run P w = .ok (if c then .tuple #[u, .bool (atK x z ps).2] else u) w ∧ VOk M w vt (atK x z ps).1 u := by
  obtain ⟨k, e, hu, hk, hl⟩ := ht.mp
  have hT := htab k kt hk
  obtain ⟨i, hi, _, hzi, _⟩ := (htab e vt hl).info
  have hck : (Instr.checkKey arr.isEmpty 10000 k v).run P w = .ok () w := checkKey_ok (w' := w) htab h hT hv arr.isEmpty 9998
  have hf := findKey_ok (w'' := w) htab h hT hv he
  have hzr : VOk M w vt z (toV vt (zeroCells vt)) := ⟨_, rfl, zero_rep hz⟩
  cases hr : fndI x arr.toList ps 0 with
  | none =>
    have := (fndI_none hr he).1 z
    rw [hr] at hf
    refine ⟨toV vt (zeroCells vt), ?_, by rw [this]; exact hzr⟩
    rw [this]
    cases c <;> simp [Instr.lookup, run_underlying hu, MapKept.run_getObj_map hb, hck, hf, zeroValue, typeInfo, hi, hzi]
  | some q =>
    obtain ⟨n, e', p, h1, h2, h3, h4, h5, h6, h7, h8⟩ := fndI_some (u := q.2) (i := q.1) hr he
    rw [hr] at hf
    refine ⟨q.2, ?_, by rw [h7 z, ← h4]; exact h6.2⟩
    rw [h7 z]
    cases c <;> simp [Instr.lookup, run_underlying hu, MapKept.run_getObj_map hb, hck, hf]

theorem entsOk_len : ∀ {es : List MapEntry} {ps : List (kt.den × vt.den)}, EntsOk M w kt vt es ps → es.length = ps.length
  | [], [], _ => rfl
  | _ :: _, _ :: _, r => by simp [entsOk_len r.2]
  | [], _ :: _, r => r.elim
  | _ :: _, [], r => r.elim
theorem entsOk_snoc {e : MapEntry} {p : kt.den × vt.den} (hp : EntOk M w kt vt e p) : ∀ {es : List MapEntry} {ps : List (kt.den × vt.den)}, EntsOk M w kt vt es ps → EntsOk M w kt vt (es ++ [e]) (ps ++ [p])
  | [], [], _ => ⟨hp, trivial⟩
  | _ :: _, _ :: _, r => ⟨r.1, entsOk_snoc hp r.2⟩
  | [], _ :: _, r => r.elim
  | _ :: _, [], r => r.elim
theorem entsOk_set {e : MapEntry} {p : kt.den × vt.den} (hp : EntOk M w kt vt e p) : ∀ {es : List MapEntry} {ps : List (kt.den × vt.den)} (n : Nat), EntsOk M w kt vt es ps → EntsOk M w kt vt (es.set n e) (ps.set n p)
  | [], [], _, _ => trivial
  | _ :: _, _ :: _, 0, r => ⟨hp, r.2⟩
  | _ :: _, _ :: _, n + 1, r => ⟨r.1, entsOk_set hp n r.2⟩
  | [], _ :: _, _, r => r.elim
  | _ :: _, [], _, r => r.elim

theorem update_run (htab : TabOk P tab) (h : keyTy kt = true) {t : TypeId} (ht : TOk P tab t (.mp kt vt)) {x : kt.den} {y : vt.den} {v u : Value} (hv : VOk M w kt x v) (hy : VOk M w vt y u) {b : Nat} {arr : Array MapEntry} {clock : Nat} {ps : List (kt.den × vt.den)} (hb : w.heap[b]? = some (.map arr clock)) (he : EntsOk M w kt vt arr.toList ps) :
    ∃ arr' clock', (Instr.mapUpdate t (.map (some b)) v u).run P w = .ok () { w with heap := w.heap.setIfInBounds b (.map arr' clock') } ∧ EntsOk M w kt vt arr'.toList (putK x y ps) := by
  obtain ⟨k, e, hu, hk, hl⟩ := ht.mp
  have hT := htab k kt hk
  have hck : (Instr.checkKey false 10000 k v).run P w = .ok () w := checkKey_ok (w' := w) htab h hT hv false 9998
  have hf := findKey_ok (w'' := w) htab h hT hv he
  cases hr : fndI x arr.toList ps 0 with
  | none =>
    have := (fndI_none hr he).2 y
    rw [hr] at hf
    refine ⟨arr.push ⟨v, u, clock⟩, clock + 1, ?_, by rw [this]; simpa using entsOk_snoc ⟨hv, hy⟩ he⟩
    simp [Instr.mapUpdate, run_underlying hu, MapKept.run_getObj_map hb, hck, hf, MapKept.run_setObj_map _ hb]
  | some q =>
    obtain ⟨n, e', p, h1, h2, h3, h4, h5, h6, h7, h8⟩ := fndI_some (u := q.2) (i := q.1) hr he
    rw [hr] at hf
    have hq : q.1 = n := by omega
    have hkv : e'.key = v := (key_inj h h6.1 hv).2 h5.symm
    have hn : n < arr.size := by simpa using (List.getElem?_eq_some_iff.1 h2).1
    have hn2 : arr[n]? = some e' := by simpa using h2
    refine ⟨arr.modify n fun e => { e with key := v, val := u }, clock, ?_, ?_⟩
    · simp [Instr.mapUpdate, run_underlying hu, MapKept.run_getObj_map hb, hck, hf, MapKept.run_setObj_map _ hb, hq, hn2, hkv, keyStays h hv]
    · rw [h8 y]
      have : (arr.modify n fun e => { e with key := v, val := u }).toList = arr.toList.set n { e' with key := v, val := u } := by
        apply List.ext_getElem?
        intro i
        have h9 : arr[n] = e' := (Array.getElem?_eq_some_iff.1 hn2).2
        by_cases hi : i = n
        · subst hi
          simp [hn, h9]
        · simp [Ne.symm hi]
      rw [this]
      exact entsOk_set ⟨hv, hy⟩ n he
end
end Go.Lift
