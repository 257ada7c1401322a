/- What is appended to a slice of one's own that lives on. -/
import Derived.Test.YtlmhokakghbciaaRiQ
namespace Go.Lift
open Go.RowKit

section
variable {P : Program} {E : Env2} {Q : Exit → Act → World → Prop} {o : Oper} {w0 : World} {M0 : Bs} {N : Nat} {M M' : Own} {β β' : Nat → Nat} {τ τ' : Nat → Value} {st st' : St} {a : Act} {as : List Act} {w w' : World} {id : Nat}

/-- a slice of one's own grows in its place: who held it holds a part of the longer one -/
theorem Sm.fwd (s : Sm w0 M0 N M β τ st a as w) {old : Nat} {e : Ty} {xs ys : List e.den} (hl : lk old st.l = some (.row e xs)) (hid : lk id st.l = none) {ad : Option Addr} {cap : Nat} (hv : τ old = .slice ad xs.length cap)
    (hext : Ext M w M w') (hbel : Below w0.heap.size w0 w') (hlt : ∀ b o, M b o → b < w'.heap.size) (hoth : ∀ b, b < w.heap.size → wob (τ old) ≠ some b → w'.heap[b]? = w.heap[b]?) (hx : RowX (ownB w0 M0) M w' e (xs ++ ys) (.slice ad (xs.length + ys.length) cap)) :
    Sm w0 M0 N M (fun j => if j = id then β old else β j) (fun j => if j = id then .slice ad (xs.length + ys.length) cap else τ j) (addN id (.row e (xs ++ ys)) (frzSt old (fwdF old id xs.length) st)) a as w' := by
  have hne : id ≠ old := fun h => by rw [h, hl] at hid; cases hid
  have hwob : wob (.slice ad (xs.length + ys.length) cap) = wob (τ old) := by rw [hv]; cases ad <;> rfl
  have hlk : ∀ j, lk j (addN id (.row e (xs ++ ys)) (frzSt old (fwdF old id xs.length) st)).l = if j = id then some (.row e (xs ++ ys)) else if j = old then none else (lk j st.l).map (mapOF (fwdF old id xs.length)) := by
    intro j
    simp only [addN, lk_cons]
    split
    · rfl
    · exact frz_lk old (fwdF old id xs.length) st j
  have hin : ∀ {j ob}, lk j st.l = some ob → j ≠ id := fun h h' => by rw [h', hid] at h; cases h
  have hcap : xs.length + ys.length ≤ cap := by
    obtain ⟨_, _, _, e1, e2, _⟩ := hx
    injection e1 with h1 h2 h3
    rw [h3]
    simpa using e2
  have hF : ∀ rv m cs, RR M w β τ st.l rv m cs → RR M w' (fun j => if j = id then β old else β j) (fun j => if j = id then .slice ad (xs.length + ys.length) cap else τ j) (addN id (.row e (xs ++ ys)) (frzSt old (fwdF old id xs.length) st)).l (fwdF old id xs.length rv) m cs := by
    refine RR.subR hext ?_ ?_ ?_ ?_ ?_
    · intro j m cs r
      simp only [RR] at r
      obtain ⟨h1, u, t, zs, rfl, ho, hl', hu⟩ := r
      by_cases hj : j = old
      · subst hj
        rw [show Nat.beq j j = true by simp, cond_true]
        simp only [RR]
        refine ⟨h1, u, e, xs ++ ys, rfl, ho, by rw [hlk, if_pos rfl], Nat.zero_le _, by simp, ?_⟩
        simp only [if_true]
        refine ⟨ad, _, cap, ad, cap, rfl, by rw [hu, hv]; simp, ⟨by omega, by omega⟩, fun _ => ?_⟩
        cases ad <;> simp [Addr.add]
      · have hb : Nat.beq j old = false := by cases hb : Nat.beq j old with | false => rfl | true => exact absurd (Nat.eq_of_beq_eq_true hb) hj
        rw [hb, cond_false]
        simp only [RR]
        exact ⟨h1, u, t, zs, rfl, ho, by rw [hlk, if_neg (hin hl'), if_neg hj, hl']; rfl, by rw [if_neg (hin hl')]; exact hu⟩
    · intro j lo hi m cs r
      simp only [RR] at r
      obtain ⟨h1, u, t, zs, rfl, ho, hl', h2, h3, hu⟩ := r
      by_cases hj : j = old
      · subst hj
        rw [show Nat.beq j j = true by simp, cond_true]
        cases hl.symm.trans hl'
        simp only [RR]
        refine ⟨h1, u, e, xs ++ ys, rfl, ho, by rw [hlk, if_pos rfl], h2, by simp; omega, ?_⟩
        simp only [if_true]
        obtain ⟨a1, len1, cap1, a', c, e1, e2, h3', h4⟩ := hu
        rw [hv] at e1
        cases e1
        exact ⟨ad, _, cap, a', c, rfl, e2, h3', h4⟩
      · have hb : Nat.beq j old = false := by cases hb : Nat.beq j old with | false => rfl | true => exact absurd (Nat.eq_of_beq_eq_true hb) hj
        rw [hb, cond_false]
        simp only [RR]
        exact ⟨h1, u, t, zs, rfl, ho, by rw [hlk, if_neg (hin hl'), if_neg hj, hl']; rfl, h2, h3, by rw [if_neg (hin hl')]; exact hu⟩
    · intro j p m cs r
      simp only [RR] at r
      obtain ⟨h1, u, ob, off, t', rfl, ho, hl', h2, hu⟩ := r
      by_cases hj : j = old
      · subst hj
        rw [show Nat.beq j j = true by simp, cond_true]
        obtain rfl := Option.some.inj (hl.symm.trans hl')
        simp only [RR]
        refine ⟨h1, u, .row e (xs ++ ys), off, t', rfl, ho, by rw [hlk, if_pos rfl], ?_, by simp only [if_true]; exact hu⟩
        cases p with
        | nil => simp [Ob.shape, offS] at h2
        | cons st p =>
          cases st with
          | fld i => simp [Ob.shape, offS] at h2
          | idx i =>
            simp only [Ob.shape, offS] at h2 ⊢
            obtain ⟨h3, h2⟩ := ite_some h2
            rw [if_pos ⟨h3.1, by simp; omega⟩]
            exact h2
      · have hb : Nat.beq j old = false := by cases hb : Nat.beq j old with | false => rfl | true => exact absurd (Nat.eq_of_beq_eq_true hb) hj
        rw [hb, cond_false]
        simp only [RR]
        exact ⟨h1, u, mapOF _ ob, off, t', rfl, ho, by rw [hlk, if_neg (hin hl'), if_neg hj, hl']; rfl, by rw [mapOF_shape]; exact h2, by rw [if_neg (hin hl')]; exact hu⟩
    · intro j m cs r
      simp only [RR] at r ⊢
      obtain ⟨h1, u, kt, vt, es, rfl, ho, hl', hu⟩ := r
      have hj : j ≠ old := fun h => by subst h; rw [hl] at hl'; cases hl'
      exact ⟨h1, u, kt, vt, es, rfl, ho, by rw [hlk, if_neg (hin hl'), if_neg hj, hl']; rfl, by rw [if_neg (hin hl')]; exact hu⟩
    · intro j m cs r
      simp only [RR] at r ⊢
      obtain ⟨h1, u, con, q, rfl, ho, hl', hu⟩ := r
      have hj : j ≠ old := fun h => by subst h; rw [hl] at hl'; cases hl'
      exact ⟨h1, u, _, q, rfl, ho, by rw [hlk, if_neg (hin hl'), if_neg hj, hl']; rfl, by rw [if_neg (hin hl')]; exact hu⟩
  have hbk : ∀ {j ob}, j ≠ id → blk (fun j => if j = id then β old else β j) (fun j => if j = id then .slice ad (xs.length + ys.length) cap else τ j) j (mapOF (fwdF old id xs.length) ob) = blk β τ j ob := by
    intro j ob hj
    rw [blk_mapOF]
    cases ob <;> simp [blk, hj]
  have heap : ∀ {j ob b}, lk j st.l = some ob → j ≠ old → blk β τ j ob = some b → w'.heap[b]? = w.heap[b]? := by
    intro j ob b h hj hb
    refine hoth b (s.block h hb).1 fun h2 => hj ?_
    exact s.dj j old ob _ b h hl hb h2
  exact {
    df := s.df, sz := s.sz, bel := hbel, mlt := hlt, mex := s.mex, gk := s.gk
    gx := s.gx.trans hext
    kp := fun b k => by
      obtain ⟨⟨k1, k2⟩, k3⟩ := s.kp b k
      have h := hoth b k2 fun h2 => (s.block hl h2).2.1.2 k
      refine ⟨⟨h.trans k1, ?_⟩, k3⟩
      rw [Array.getElem?_eq_getElem k2] at h
      exact (Array.getElem?_eq_some_iff.1 h).1
    mnew := s.mnew
    fr := s.fr.mapF hF
    fs := s.fs.mapF hF
    ob := fun j ob h => by
      rw [hlk] at h
      split at h
      · rename_i hj
        subst hj
        cases h
        refine ⟨by simp only [if_true]; exact hx, fun b hb => ?_⟩
        simp only [if_true] at hb ⊢
        rw [hwob] at hb
        exact (s.ob old _ hl).2 b hb
      · rename_i hj
        split at h
        · cases h
        · rename_i hj2
          obtain ⟨o0, h1, rfl⟩ := Option.map_eq_some_iff.1 h
          have ho := s.ob j o0 h1
          cases o0 with
          | var ty con =>
            obtain ⟨l1, ⟨cs, T, l2, l3⟩, l4⟩ := ho
            have hb : (fun j => if j = id then β old else β j) j = β j := if_neg hj
            exact ⟨by rw [hb]; exact l1, ⟨cs, T, by rw [hb, heap h1 hj2 rfl]; exact l2, hF _ _ _ l3⟩, by rw [hb]; exact l4⟩
          | row t zs =>
            have hb : (fun j => if j = id then β old else β j) j = β j := if_neg hj
            have ht : (fun j => if j = id then (.slice ad (xs.length + ys.length) cap : Value) else τ j) j = τ j := if_neg hj
            refine ⟨by rw [ht]; exact ho.1.ext hext fun b hb => ⟨heap h1 hj2 hb, fun _ m => m⟩, fun b hb2 => ?_⟩
            rw [ht] at hb2
            rw [hb]
            exact ho.2 b hb2
          | mp kt vt es =>
            obtain ⟨l1, ⟨arr, clock, l2, l3⟩, l4⟩ := ho
            have hb : (fun j => if j = id then β old else β j) j = β j := if_neg hj
            exact ⟨by rw [hb]; exact l1, ⟨arr, clock, by rw [hb, heap h1 hj2 rfl]; exact l2, l3.ext hext⟩, by rw [hb]; exact l4⟩
          | lp con q =>
            obtain ⟨l1, ⟨r, l2, l3, m, l5⟩, l4⟩ := ho
            have hb : (fun j => if j = id then β old else β j) j = β j := if_neg hj
            exact ⟨by rw [hb]; exact l1, ⟨r, by rw [hb, heap h1 hj2 rfl]; exact l2, l3, m, hF _ _ _ l5⟩, by rw [hb]; exact l4⟩
    dj := fun j j' ob ob' b h h' hb hb' => by
      have one : ∀ {j ob}, (if j = id then some (Ob.row e (xs ++ ys)) else if j = old then none else (lk j st.l).map (mapOF (fwdF old id xs.length))) = some ob → blk (fun j => if j = id then β old else β j) (fun j => if j = id then .slice ad (xs.length + ys.length) cap else τ j) j ob = some b → (j = id ∧ blk β τ old (.row e xs) = some b) ∨ (j ≠ id ∧ j ≠ old ∧ ∃ o0, lk j st.l = some o0 ∧ blk β τ j o0 = some b) := by
        intro i o hh hbb
        by_cases hj : i = id
        · rw [if_pos hj] at hh
          obtain rfl := Option.some.inj hh
          left
          refine ⟨hj, ?_⟩
          simp only [blk, hj, if_true] at hbb ⊢
          rw [hwob] at hbb
          exact hbb
        · rw [if_neg hj] at hh
          by_cases hj2 : i = old
          · rw [if_pos hj2] at hh; cases hh
          · rw [if_neg hj2] at hh
            obtain ⟨o0, h1, rfl⟩ := Option.map_eq_some_iff.1 hh
            rw [hbk hj] at hbb
            exact .inr ⟨hj, hj2, o0, h1, hbb⟩
      rw [hlk] at h h'
      rcases one h hb with ⟨rfl, h1⟩ | ⟨_, hj2, o0, h1, h2⟩
      · rcases one h' hb' with ⟨rfl, _⟩ | ⟨_, hj2, o0', h1', h2'⟩
        · rfl
        · exact absurd (s.dj _ _ _ _ b h1' hl h2' h1) hj2
      · rcases one h' hb' with ⟨rfl, h1'⟩ | ⟨_, _, o0', h1', h2'⟩
        · exact absurd (s.dj _ _ _ _ b h1 hl h2 h1') hj2
        · exact s.dj _ _ _ _ b h1 h1' h2 h2' }

theorem fork_sound (hE : Env2Ok P E) (s : Sim2 w0 M0 N st a as w) (hd : ∀ d, o.dst = some d → d < N) {args : Array Operand} {argTypes : Array TypeId} {d : Nat} (hop : o.op = .call { callee := .builtin .append, args := args, argTypes := argTypes }) (hdst : o.dst = some d)
    {α : Type} [DecidableEq α] {k : St → Option α} {r : α} (h : forkK E args argTypes d st k = some r) : ROp P Q w0 M0 N o a as w k r := by
  obtain ⟨M, β, τ, s⟩ := s
  intro K hK
  unfold forkK at h
  split at h
  case h_2 => cases h
  rename_i sx x t u hargs hts
  split at h
  case h_2 => cases h
  rename_i e hty
  split at h
  case h_2 => cases h
  rename_i old hold
  split at h
  case h_2 => cases h
  rename_i t' xs0 hl
  obtain ⟨xs, hxs, h'⟩ := Option.bind_eq_some_iff.1 h
  clear h
  obtain ⟨ys, hys, h⟩ := Option.bind_eq_some_iff.1 h'
  clear h'
  have := TV.as_eq hxs
  cases this
  obtain ⟨hc, h'⟩ := bif_some h
  clear h
  simp only [Bool.and_eq_true] at hc
  simp only [withN_eq] at h'
  split at h'
  case h_2 => cases h'
  rename_i hfree
  obtain ⟨hA, hB⟩ := bothC_some h'
  have hn := Nat.le_of_ble_eq_true hc.1
  have hlim := Nat.le_of_ble_eq_true hc.2
  have hrv := evR_ok s.glob s.fr (some (.slice e)) sx
  rw [hold] at hrv
  obtain ⟨_, _, hl2, hu0⟩ := row_inv hrv
  have hrow := (s.ob old _ hl).1
  rw [← hu0] at hrow
  obtain ⟨row, hsrc, hseq⟩ := srcR_ok s hE.tab hys hn (evR_ok s.glob s.fr _ x)
  obtain ⟨e', hu, hle⟩ := (hE.tab _ _ hty).slice
  obtain ⟨i, hi, hsz, hz, hby⟩ := (hE.tab _ _ hle).info
  obtain ⟨v', w', hrun, hext, hbel, hmlt, hsize, hx', hoth, hwob', hway⟩ := append_x (t := t) (u := u) (ty := o.type) hu hi hsz hz hby hn (B := ownB w0 M0) (fun b h => h.1) (fun b h => s.new h) s.mlt hrow hsrc hseq (.inl hlim) s.bel.size
  have hargs' : args = #[sx, x] := by rw [← Array.toArray_toList (xs := args), hargs]
  have hts' : argTypes = #[t, u] := by rw [← Array.toArray_toList (xs := argTypes), hts]
  have hexec : (execOp a.eval o).run P w = .ok (.value v') w' := by
    simp only [execOp, hop, resolve, pure_bind, invoke, builtin, Sem.run_bind]
    rw [hargs', hts', show Array.map a.eval #[sx, x] = #[a.eval sx, a.eval x] by simp, hrun]
    rfl
  unfold Oper.wp
  rw [hexec]
  rcases hway with ⟨hall, hnew⟩ | ⟨ad, cap, e1, e2⟩
  · -- to a new place
    have s2 := s.addG (ob := .row e (xs ++ ys)) (bn := (wob v').getD 0) (v := v') hfree hext (s.bel.trans hbel) hmlt s.mnew (fun b k => ⟨hall b (s.kp b k).1.2, fun _ h => h⟩) (fun j ob b hl hb => by
      have hlt := (s.block hl hb).1
      refine ⟨hall b hlt, fun _ m => m, fun hw => ?_⟩
      have := hnew b hw
      omega) (fun β' τ' h1 h2 hm => ⟨by rw [h2]; exact hx', fun b hb => by rw [h2] at hb; rw [h1]; simp [hb]⟩)
    refine hK _ _ _ hA ?_
    rw [hdst]
    refine ⟨_, _, _, s2.set (some d) (fun i hi => by cases hi; exact hd d hdst) ?_⟩
    simp only [RR, addN]
    refine ⟨rfl, v', e, xs ++ ys, rfl, ?_, by simp [lk_cons], by simp⟩
    obtain ⟨_, _, _, e1, _⟩ := hx'
    rw [e1]
    rfl
  · -- in its place
    subst e2
    have e3 : τ old = .slice ad xs.length cap := by rw [← hu0]; exact e1
    have s2 := s.fwd (id := newId st d) hl hfree e3 hext (s.bel.trans hbel) hmlt (fun b hb hne => hoth b hb (by rw [hu0]; exact hne)) hx'
    refine hK _ _ _ hB ?_
    rw [hdst]
    refine ⟨_, _, _, s2.set (some d) (fun i hi => by cases hi; exact hd d hdst) ?_⟩
    simp only [RR, addN]
    exact ⟨rfl, _, e, xs ++ ys, rfl, rfl, by simp [lk_cons], by simp⟩
end
end Go.Lift
