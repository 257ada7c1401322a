/- Loops over functions: the fence of a round, operations in it, and what is known where they begin and end. -/
import Derived.Test.YtlmhokakghbciaaRiU
import Derived.Test.YtlmhokakghbciaaRiS
import Derived.RangeFuncOwn
import Derived.OrdersIn
import Derived.LoopNIn
import Derived.TacticsIn
namespace Go.Lift
open Go.RowKit

/-- any function, any depth; in a round, or not -/
def fen (ro : Option Nat) : Fence := { fn := fun _ => True, depth := none, alive := false, round := ro }
theorem fen_room {ro : Option Nat} (n : Nat) : (fen ro).room n := fun d hd => by cases hd

def noDf (o : Oper) : Prop := ∀ c, o.op ≠ .defer c
theorem noDf_of {id : Nat} {ops : Array Oper} {draw : Bool} (h : noRF (.region id ops draw) = true) {o : Oper} (ho : o ∈ ops.toList) : noDf o := by
  intro c hc
  simp only [noRF] at h
  have := List.all_eq_true.1 h o ho
  simp [hc] at this

section
variable {P : Program} {Q : Exit → Act → World → Prop} {o : Oper} {a : Act} {w : World} {K : Act → World → Prop} {ro : Option Nat} {n : Nat}

theorem callsIn_fen {f : FuncId} {args : Array Value} {R : Ending → World → Prop} : CallsIn (fen ro) n P f args w R ↔ Calls P f args w R := callsIn_wide (n := n) (P := P) (f := f) (args := args) (w := w) (R := R)

theorem rowsIn_fen {row : String} {args : Array Value} {R : Value → World → Prop} (h : Rows P row args w R) : RowsIn (fen ro) n P row args w R :=
  fun c cs _ => let ⟨v, w', r, s⟩ := h c cs; ⟨v, w', r, stepsIn_wide.2 s⟩

theorem wpIn_of_wp (hro : ro = none ∨ noDf o) (h : o.wp P a w K Q) : o.wpIn (fen ro) n P a w K Q := by
  have hs : o.semAt (fen ro).round a.eval = execOp a.eval o := by
    rcases hro with rfl | h
    · rfl
    · exact Oper.semAt_eq _ _ _ h
  refine ⟨fun _ _ => trivial, ?_⟩
  rw [hs]
  unfold Oper.wp at h
  generalize (execOp a.eval o).run P w = r at *
  cases r with
  | ok x w' =>
    cases x <;> simp only [Oper.upon, Oper.uponIn] at h ⊢ <;>
      first
        | exact h
        | exact ⟨fun hd => absurd hd (by simp [fen]), callsIn_fen.2 h⟩
        | exact ⟨fun hd => absurd hd (by simp [fen]), rowsIn_fen h⟩
        | exact h.elim
  | halt x w' => cases x <;> simp only [Oper.upon, Oper.uponIn] at h ⊢ <;> first | exact h | exact h.elim

theorem wpAnyIn_of_S {ops : Array Oper} (hro : ro = none ∨ ∀ o ∈ ops.toList, noDf o) : ∀ (fuel : Nat) (listed : Array Bool) (a : Act) (w : World), wpAnyS P ops Q fuel listed a w → wpAnyIn (fen ro) n P .any ops Q fuel listed a w
  | 0, _, _, _, h => h
  | fuel + 1, listed, a, w, h => by
    refine ⟨h.1, fun i hi => ?_⟩
    obtain ⟨_, o, ho, _⟩ := mem_ready.1 hi
    have hg := h.2 i hi o ho
    unfold wpOpIn
    unfold GStep at hg
    simp only [ho]
    have hmem : o ∈ ops.toList := Array.mem_toList_iff.2 (Array.mem_of_getElem? ho)
    split
    · rename_i hw
      rw [if_pos hw] at hg
      exact Oper.wpIn_mono (fun a w hh => wpAnyIn_of_S hro fuel _ a w hh) (wpIn_of_wp (hro.imp id fun h => h o hmem) hg)
    · rename_i hw
      rw [if_neg hw] at hg
      exact ⟨fun _ _ => trivial, wpAnyIn_of_S hro fuel _ _ _ hg⟩
end

section
variable {P : Program} {E : Env2} {Q : Exit → Act → World → Prop} {o : Oper} {w0 : World} {M0 M0' M0'' : Bs} {N : Nat} {M M' : Own} {β β' : Nat → Nat} {τ τ' : Nat → Value} {L : List (Nat × Ob)} {st st' : St} {a a' : Act} {as : List Act} {w w' : World} {id : Nat} {b0 b0' : Nat → Prop}

/-! ### The beginning of what is known is moved -/
structure Sub (M0 M0' : Bs) : Prop where
  m : M0'.M = M0.M
  k0 : M0'.kp0 = M0.kp0
  ex : Ext M0.M1 M0.w1 M0'.M1 M0'.w1
  kp : ∀ b, M0.kp b → M0'.kp b ∧ M0'.w1.heap[b]? = M0.w1.heap[b]? ∧ ∀ o, M0'.M1 b o → M0.M1 b o
theorem Sub.refl (M0 : Bs) : Sub M0 M0 := ⟨rfl, rfl, Ext.refl _ _, fun _ h => ⟨h, rfl, fun _ m => m⟩⟩
theorem Sub.trans (h : Sub M0 M0') (h' : Sub M0' M0'') : Sub M0 M0'' :=
  ⟨h'.m.trans h.m, h'.k0.trans h.k0, h.ex.trans h'.ex, fun b hb => by
    obtain ⟨k1, k2, k3⟩ := h.kp b hb
    obtain ⟨g1, g2, g3⟩ := h'.kp b k1
    exact ⟨g1, g2.trans k2, fun o m => k3 o (g3 o m)⟩⟩

theorem ObOk.own {ob : Ob} (h : ObOk b0 M w β τ L id ob) (hb : ∀ b, blk β τ id ob = some b → b0 b → b0' b) : ObOk b0' M w β τ L id ob := by
  cases ob with
  | var t c => exact ⟨hb _ rfl h.1, h.2⟩
  | mp kt vt es => exact ⟨hb _ rfl h.1, h.2⟩
  | lp c q => exact ⟨hb _ rfl h.1, h.2⟩
  | row t xs =>
    obtain ⟨⟨a, cap, row, h0, h1, h2, h3, h4, h5⟩, h6⟩ := h
    refine ⟨⟨a, cap, row, h0, h1, h2, h3, h4, fun a0 ha hc => ?_⟩, h6⟩
    obtain ⟨b, cur, T, e, g1, g2⟩ := h5 a0 ha hc
    refine ⟨b, cur, T, e, hb b ?_ g1, g2⟩
    simp only [blk, h0, ha, e, wob]
    rw [if_neg (by omega)]

theorem Sm.unsub (s : Sm w0 M0' N M β τ st a as w) (h : Sub M0 M0') (ht : a'.tmps = a.tmps) (hd : DfOk w0 M0 a'.defers) : Sm w0 M0 N M β τ st a' as w where
  df := hd
  sz := by rw [ht]; exact s.sz
  bel := s.bel
  mlt := s.mlt
  mex := fun b o m => s.mex b o (by rw [h.m]; exact m)
  gk := by have := s.gk; rw [h.m] at this; exact this
  gx := h.ex.trans s.gx
  kp := fun b k => by
    obtain ⟨k1, k2, k3⟩ := h.kp b k
    obtain ⟨⟨g1, g2⟩, g3⟩ := s.kp b k1
    exact ⟨⟨g1.trans k2, g2⟩, fun o m => k3 o (g3 o m)⟩
  mnew := fun b o m => by have := s.mnew b o m; rw [h.m] at this; exact this
  fr := fun i rv hi => by rw [ht]; exact s.fr i rv hi
  fs := s.fs
  ob := fun id ob hl => (s.ob id ob hl).own fun b _ hb => ⟨hb.1, fun k => hb.2 (h.kp b k).1⟩
  dj := s.dj

/-- a mark is set -/
def addD (M0 : Bs) (M : Own) (w : World) (D : Nat) : Bs := { M := M0.M, M1 := M, w1 := w, kp := fun b => M0.kp b ∨ b = D, kp0 := M0.kp0 }
theorem Sm.sub_addD (s : Sm w0 M0 N M β τ st a as w) (D : Nat) : Sub M0 (addD M0 M w D) :=
  ⟨rfl, rfl, s.gx, fun b k => ⟨.inl k, (s.kp b k).1.1, (s.kp b k).2⟩⟩
theorem Sm.marked (s : Sm w0 M0 N M β τ st a as w) {D : Nat} (h0 : w0.heap.size ≤ D) (hk : ¬ M0.kp D) (hh : w.heap[D]? = some (.deferred (some []))) (hM : ∀ o, ¬ M D o) (hb : ∀ id ob, lk id st.l = some ob → blk β τ id ob ≠ some D) :
    Sm w0 (addD M0 M w D) N M β τ st { a with defers := mark D :: a.defers } as w where
  df := by
    obtain ⟨h1, l, e, nd, hl⟩ := s.df
    refine ⟨fun b h => .inl (h1 b h), D :: l, by simp [e], List.nodup_cons.2 ⟨fun hm => hk (hl D hm).2.1.1, nd⟩, fun D' hD' => ?_⟩
    rcases List.mem_cons.1 hD' with rfl | hD'
    · exact ⟨h0, ⟨.inr rfl, fun h => hk (h1 _ h)⟩, hh, hM⟩
    · obtain ⟨g1, g2, g3, g4⟩ := hl D' hD'
      obtain ⟨⟨k1, k2⟩, k3⟩ := s.kp D' g2.1
      exact ⟨g1, ⟨.inl g2.1, g2.2⟩, k1.trans g3, fun o m => g4 o (k3 o m)⟩
  sz := s.sz
  bel := s.bel
  mlt := s.mlt
  mex := s.mex
  gk := s.gk
  gx := Ext.refl M w
  kp := fun b k => by
    refine ⟨⟨rfl, ?_⟩, fun _ m => m⟩
    rcases k with k | rfl
    · exact (s.kp b k).1.2
    · exact (Array.getElem?_eq_some_iff.1 hh).1
  mnew := s.mnew
  fr := s.fr
  fs := s.fs
  ob := fun id ob hl => (s.ob id ob hl).own fun b hbl hb' => ⟨hb'.1, fun k => k.elim hb'.2 fun e => hb id ob hl (e ▸ hbl)⟩
  dj := s.dj

/-! ### A block that is no cells is written -/
theorem putObj_ext {b : Nat} {o : Obj} (hM : ∀ o, ¬ M b o) : Ext M w M (w.putObj b o) := by
  intro b' o' m
  refine ⟨m, fun u hu => ?_⟩
  have hne : b' ≠ b := fun e => by subst e; exact hM o' m
  rw [World.cell?_of_block (w := w) (World.putObj_heap_other hne)]
  exact hu
theorem putObj_below {b : Nat} {o : Obj} (h : Below w0.heap.size w0 w) (hb : w0.heap.size ≤ b) : Below w0.heap.size w0 (w.putObj b o) :=
  h.trans ⟨rfl, rfl, rfl, by simp, fun b' hb' => World.putObj_heap_other (by omega)⟩

theorem Sm.putO (s : Sm w0 M0 N M β τ st a as w) {b : Nat} (o : Obj) (hb : w0.heap.size ≤ b) (hk : ¬ M0.kp b) (hM : ∀ o, ¬ M b o) (hbl : ∀ id ob, lk id st.l = some ob → blk β τ id ob ≠ some b) : Sm w0 M0 N M β τ st a as (w.putObj b o) := by
  refine s.gen (f := some) (st' := st) (putObj_ext hM) (putObj_below s.bel hb) (fun b' o' m => by simpa using s.mlt b' o' m) s.mnew (fun b' k => ⟨World.putObj_heap_other (fun e => hk (e ▸ k)), fun _ h => h⟩) MapOk.refl (mapSl_some _).symm (mapKs_some _).symm ?_ s.dj
  intro id ob h
  have := ObOk.map (f := some) (putObj_ext (o := o) (w := w) hM) MapOk.refl rfl h (s.ob id ob h) fun b' hb' => ⟨World.putObj_heap_other fun e => hbl id ob h (e ▸ hb'), fun _ h => h⟩
  rwa [mapOb_some] at this

def takeW (w : World) : List Nat → World
  | [] => w
  | D :: l => takeW (w.putObj D (.deferred none)) l
theorem Sm.takes : ∀ (l : List Nat) {w : World}, Sm w0 M0 N M β τ st a as w → (∀ D ∈ l, w0.heap.size ≤ D ∧ ¬ M0.kp D ∧ (∀ o, ¬ M D o) ∧ ∀ id ob, lk id st.l = some ob → blk β τ id ob ≠ some D) → Sm w0 M0 N M β τ st a as (takeW w l)
  | [], _, s, _ => s
  | D :: l, w, s, h => by
    obtain ⟨h1, h2, h3, h4⟩ := h D (by simp)
    exact Sm.takes l (s.putO _ h1 h2 h3 h4) fun D' hD' => h D' (by simp [hD'])

/-- the record of a loop is written -/
theorem Sm.setLp (s : Sm w0 M0 N M β τ st a as w) {id : Nat} {con : RV} {q q' : LQ} {r r' : Loop} (hl : lk id st.l = some (.lp con q)) (hb : w.heap[β id]? = some (.loop r)) (hr : r'.tmps = r.tmps) (hq : LqOk q' r') :
    Sm w0 M0 N M β τ (setOb id (.lp con q') st) a as (w.putObj (β id) (.loop r')) := by
  have hbk : blk β τ id (Ob.lp con q) = some (β id) := rfl
  obtain ⟨k1, k2, k3, _⟩ := s.block hl hbk
  have hext : Ext M w M (w.putObj (β id) (.loop r')) := putObj_ext k3
  have hlk : ∀ j, lk j (setA id (Ob.lp con q') st.l) = if j = id then some (.lp con q') else lk j st.l := fun j => by rw [lk_setA, hl]; split <;> simp
  have hm : MapOk some st.l β τ (setA id (Ob.lp con q') st.l) β τ := by
    intro i j o hf hi
    cases hf
    by_cases h : i = id
    · subst h
      obtain rfl := Option.some.inj (hi.symm.trans hl)
      exact ⟨.lp con q', by rw [hlk]; simp, rfl, rfl, rfl⟩
    · exact ⟨o, by rw [hlk, if_neg h]; exact hi, rfl, rfl, rfl⟩
  refine s.gen (f := some) (st' := setOb id (.lp con q') st) hext (putObj_below s.bel k2.1) (fun b o m => by simpa using s.mlt b o m) s.mnew (fun b' k => ⟨World.putObj_heap_other (fun e => k2.2 (e ▸ k)), fun _ h => h⟩) hm (mapSl_some _).symm (mapKs_some _).symm ?_ ?_
  · intro j o h
    simp only [setOb] at h
    rw [hlk] at h
    split at h
    · rename_i hj
      subst hj
      cases h
      obtain ⟨_, ⟨r0, g1, g2, m, g3⟩, _⟩ := s.ob j _ hl
      obtain rfl : r0 = r := by have := g1.symm.trans hb; simpa using this
      exact ⟨k2, ⟨r', World.putObj_heap_same k1, hq, m, by rw [hr]; exact (g3.ext hext).keep hm⟩, k3⟩
    · rename_i hj
      have := ObOk.map (f := some) hext hm rfl h (s.ob j o h) fun b' hb2 => ⟨World.putObj_heap_other fun e => hj (s.dj j id o _ (β id) h hl (e ▸ hb2) hbk), fun _ h => h⟩
      rwa [mapOb_some] at this
  · intro j j' o o' b2 h h' hb1 hb2
    simp only [setOb] at h h'
    rw [hlk] at h h'
    have fixd : ∀ {j o}, (if j = id then some (Ob.lp con q') else lk j st.l) = some o → blk β τ j o = some b2 → ∃ o0, lk j st.l = some o0 ∧ blk β τ j o0 = some b2 := by
      intro j o hh hb2
      by_cases hj : j = id
      · rw [if_pos hj] at hh
        subst hj
        obtain rfl := Option.some.inj hh
        exact ⟨_, hl, hb2⟩
      · rw [if_neg hj] at hh
        exact ⟨o, hh, hb2⟩
    obtain ⟨o0, g1, g2⟩ := fixd h hb1
    obtain ⟨o0', g1', g2'⟩ := fixd h' hb2
    exact s.dj j j' o0 o0' b2 g1 g1' g2 g2'

/-- the frame in which a loop's name stands -/
def witY (l : Nat) : Act := { tmps := #[.func (.yield l) #[] #[]], defers := [] }

theorem topL_ok {l : Nat} (s : Sm w0 M0 N M β τ st a (witY l :: as) w) {t : Nat × RV × LQ} (h : topL st = some t) :
    β t.1 = l ∧ lk t.1 st.l = some (.lp t.2.1 t.2.2) ∧ ∃ r, w.heap[l]? = some (.loop r) ∧ LqOk t.2.2 r ∧ ∃ m, RR M w β τ st.l t.2.1 .li (r.tmps.toList.take m) := by
  have hfs := s.fs
  unfold topL at h
  cases hk : st.k with
  | nil => rw [hk] at h; cases h
  | cons p k =>
    rw [hk] at h hfs
    obtain ⟨b, sl⟩ := p
    simp only at h
    split at h
    · rename_i id hid
      split at h
      · rename_i con q hl
        cases h
        obtain ⟨u, hu, hr⟩ := hfs.1 0 _ hid
        simp only [RR] at hr
        obtain ⟨_, u', con', q', e, _, hl', hu'⟩ := hr
        cases e
        have hβ : β id = l := by
          simp only [witY] at hu
          have : u = .func (.yield l) #[] #[] := by simpa using hu.symm
          rw [hu'] at this
          simpa using this
        obtain ⟨_, ⟨r, g1, g2, m, g3⟩, _⟩ := s.ob id _ hl
        exact ⟨hβ, hl, r, by rw [← hβ]; exact g1, g2, m, g3⟩
      · cases h
    · cases h

/-! ### Slots of a round -/
theorem conS_ok {s : List (Nat × RV)} (hs : FrOk M w β τ L s a) : ∀ (n i : Nat), i + n ≤ a.tmps.size → RR M w β τ L (conS s i n) .li ((a.tmps.toList.drop i).take n)
  | 0, i, _ => by simp [conS, RR]
  | n + 1, i, h => by
    have hi : i < a.tmps.toList.length := by simp; omega
    have ih := conS_ok hs n (i + 1) (by omega)
    rw [List.drop_eq_getElem_cons hi, List.take_succ_cons]
    simp only [conS, RR]
    refine ⟨_, _, rfl, ?_, ih⟩
    cases hl : lk i s with
    | none => exact ⟨_, rfl⟩
    | some rv =>
      obtain ⟨u, hu, hr⟩ := hs i rv hl
      have : a.tmps.toList[i] = u := by
        have h2 := (Array.getElem?_eq_some_iff.1 hu).2
        simpa using h2
      rw [this]
      exact hr

theorem maxS_lk : ∀ {s : List (Nat × RV)} {p : Nat × RV}, p ∈ s → p.1 < maxS s
  | q :: s, p, h => by
    simp only [maxS]
    rcases List.mem_cons.1 h with rfl | h
    · cases hb : Nat.ble (maxS s) p.1 with
      | true => simp
      | false =>
        have : ¬ maxS s ≤ p.1 := fun h => by rw [Nat.ble_eq_true_of_le h] at hb; cases hb
        simp; omega
    · have := maxS_lk h
      cases hb : Nat.ble (maxS s) q.1 with
      | true => have := Nat.le_of_ble_eq_true hb; simp; omega
      | false => simpa using this
theorem lk_of_mem {α : Type} : ∀ {s : List (Nat × α)} {p : Nat × α}, p ∈ s → ∃ v, lk p.1 s = some v
  | q :: s, p, h => by
    rw [lk_cons]
    by_cases e : p.1 = q.1
    · exact ⟨q.2, by rw [if_pos e]⟩
    · rw [if_neg e]
      rcases List.mem_cons.1 h with rfl | h
      · exact absurd rfl e
      · exact lk_of_mem h
theorem maxS_le {n : Nat} : ∀ {s : List (Nat × RV)}, (∀ p ∈ s, p.1 < n) → maxS s ≤ n
  | [], _ => by simp [maxS]
  | q :: s, h => by
    simp only [maxS]
    have h1 := h q (by simp)
    have h2 := maxS_le (n := n) (s := s) fun p hp => h p (by simp [hp])
    cases Nat.ble (maxS s) q.1 with
    | true => simp; omega
    | false => simpa using h2

theorem slotsC_ok : ∀ {con : RV} {i : Nat} {us : List Value}, RR M w β τ L con .li us → ∀ j rv, lk j (slotsC i con) = some rv → i ≤ j ∧ ∃ u, us[j - i]? = some u ∧ RR M w β τ L rv .sl [u] := by
  intro con
  induction con with
  | pair x y _ ih =>
    intro i us r j rv h
    simp only [RR] at r
    obtain ⟨u, us', rfl, r1, r2⟩ := r
    have next : lk j (slotsC (i + 1) y) = some rv → i ≤ j ∧ ∃ u', (u :: us')[j - i]? = some u' ∧ RR M w β τ L rv .sl [u'] := by
      intro h
      obtain ⟨h1, u', h2, h3⟩ := ih r2 j rv h
      refine ⟨by omega, u', ?_, h3⟩
      rw [show j - i = (j - (i + 1)) + 1 by omega]
      simpa using h2
    have here : lk j ((i, x) :: slotsC (i + 1) y) = some rv → i ≤ j ∧ ∃ u', (u :: us')[j - i]? = some u' ∧ RR M w β τ L rv .sl [u'] := by
      intro h'
      rw [lk_cons] at h'
      by_cases e : j = i
      · rw [if_pos e] at h'
        obtain rfl := Option.some.inj h'
        subst e
        exact ⟨Nat.le_refl _, u, by simp, r1⟩
      · rw [if_neg e] at h'
        exact next h'
    cases x with
    | any => exact next h
    | _ => exact here h
  | _ => intro i us r j rv h; simp [slotsC, lk] at h

theorem setPs_ok : ∀ {ps : List Tmp} {rvs : List RV} {us : List Value} {s : List (Nat × RV)} {tmps : Array Value}, Rel2 M w β τ L rvs us → ps.all (Nat.blt · tmps.size) = true → FrOk M w β τ L s { tmps := tmps, defers := [] } →
    FrOk M w β τ L (setPs ps rvs s) { tmps := (ps.zip us).foldl (fun t p => t.setIfInBounds p.1 p.2) tmps, defers := [] }
  | [], _, _, _, _, _, _, h => by simpa [setPs] using h
  | p :: ps, [], [], _, _, _, _, h => by simpa [setPs] using h
  | p :: ps, [], _ :: _, _, _, r, _, _ => r.elim
  | p :: ps, _ :: _, [], _, _, r, _, _ => r.elim
  | p :: ps, rv :: rvs, u :: us, s, tmps, r, hp, h => by
    simp only [List.all_cons, Bool.and_eq_true] at hp
    have hlt : p < tmps.size := Nat.lt_of_lt_of_le (Nat.lt_succ_self _) (Nat.le_of_ble_eq_true hp.1)
    simp only [setPs, List.zip_cons_cons, List.foldl_cons]
    refine setPs_ok r.2 (by simpa using hp.2) ?_
    intro i rv' hi
    rw [lk_cons] at hi
    split at hi
    · rename_i e
      try dsimp only at e
      subst e
      cases hi
      exact ⟨u, by simp [hlt], r.1⟩
    · rename_i e
      try dsimp only at e
      obtain ⟨u', h1, h2⟩ := h i rv' hi
      exact ⟨u', by rw [Array.getElem?_setIfInBounds_ne (Ne.symm e)]; exact h1, h2⟩
end

/-! ### Elements are set to zero -/
section
variable {P : Program} {E : Env2} {Q : Exit → Act → World → Prop} {o : Oper} {w0 : World} {M0 : Bs} {N : Nat} {M : Own} {β : Nat → Nat} {τ : Nat → Value} {st : St} {a : Act} {as : List Act} {w : World}

theorem partR_ok (s : Sm w0 M0 N M β τ st a as w) {rv : RV} {u : Value} {p : Nat × Nat × Nat} (h : partR st.l rv = some p) (r : RR M w β τ st.l rv .sl [u]) : ∃ t xs, lk p.1 st.l = some (.row t xs) ∧ p.2.1 ≤ p.2.2 ∧ p.2.2 ≤ List.length xs ∧ SubH t.n p.2.1 p.2.2 (τ p.1) u := by
  unfold partR at h
  split at h
  · rename_i id
    obtain ⟨t, xs, hl, hu⟩ := row_inv r
    rw [hl] at h
    cases h
    refine ⟨t, xs, hl, Nat.zero_le _, Nat.le_refl _, ?_⟩
    rw [hu]
    exact subH_full (s.ob _ _ hl).1
  · cases h
    obtain ⟨t, xs, hl, h1, h2, h3⟩ := sub_inv r
    exact ⟨t, xs, hl, h1, h2, h3⟩
  · cases h

theorem Seq.zeros {e : Ty} {z : e.den} (hz : zeroD e = some z) : ∀ n : Nat, Seq (Rep M w e) (List.replicate n (zeroCells e)).flatten (List.replicate n z)
  | 0 => by simp [Seq]
  | n + 1 => by
    simp only [List.replicate_succ, List.flatten_cons]
    exact ⟨_, _, rfl, zero_rep hz, Seq.zeros hz n⟩

theorem Sm.putRow (s : Sm w0 M0 N M β τ st a as w) {id : Nat} {t : Ty} {xs : List t.den} {ds : List t.den} {d : List Value} {lo hi : Nat} {u : Value} (hl : lk id st.l = some (.row t xs)) (h0 : 0 < ds.length) (hlt : lo + ds.length ≤ hi) (hhi : hi ≤ xs.length) (hzs : Seq (Rep M w t) d ds) (hu : SubH t.n lo hi (τ id) u) :
    ∃ ad cap w', u = .slice (some ad) (hi - lo) cap ∧ (storeCells ad d).run P w = .ok () w' ∧ Sm w0 M0 N M β τ (setOb id (.row t (xs.take lo ++ (ds ++ xs.drop (lo + ds.length)))) st) a as w' := by
  obtain ⟨⟨ad, cap, row, g0, g1, g2, g3, g4, g5⟩, g6⟩ := s.ob id _ hl
  have hpos : 0 < cap := by omega
  obtain ⟨a0, rfl⟩ : ∃ a0, ad = some a0 := by
    cases ad with
    | none => have := g3 rfl; omega
    | some a0 => exact ⟨a0, rfl⟩
  obtain ⟨b, cur, T, rfl, k1, ⟨fz, kz, k2⟩, k3, k4, k5⟩ := g5 a0 rfl hpos
  have hwob : wob (τ id) = some b := by rw [g0]; simp [wob]; omega
  obtain ⟨a1, len1, cap1, a', c, e1, rfl, ⟨hc1, hc2⟩, h6⟩ := hu
  rw [g0] at e1
  cases e1
  have h7 := h6 (by omega)
  subst h7
  have hzl : d.length = ds.length * t.n := hzs.length (fun _ _ r => Rep.length r)
  have hone : ∀ v ∈ d, v.oneCell' = true := seq_oneCell hzs
  have hrl : row.length = xs.length * t.n := g4.length (fun _ _ r => r.length)
  generalize hq : lo + ds.length = q at hlt
  have hqx : q ≤ xs.length := by omega
  have hmul : q * t.n ≤ xs.length * t.n := Nat.mul_le_mul_right _ hqx
  have hmul2 : lo * t.n + ds.length * t.n = q * t.n := by rw [← Nat.add_mul, hq]
  have hcs : xs.length * t.n ≤ cur.size := Nat.le_trans (Nat.mul_le_mul_right _ g1) k3
  have hst := run_storeCells_fz P b (lo * t.n) T d 0 cur w k2 kz (by omega) hone
  simp only [Nat.add_zero] at hst
  generalize hnr : (cur.toList.take (lo * t.n) ++ d ++ cur.toList.drop (lo * t.n + d.length)).toArray = nr at hst
  obtain ⟨c0, c1, e2, l2, s0, _⟩ := g4.cut (fun _ _ r => Rep.length r) lo (by omega)
  obtain ⟨d0, d1, e3, l3, _, s1⟩ := g4.cut (fun _ _ r => Rep.length r) q hqx
  have hnrow : c0 ++ (d ++ d1) = row.take (lo * t.n) ++ (d ++ row.drop (q * t.n)) := by
    rw [show row.take (lo * t.n) = c0 by rw [e2, ← l2]; exact List.take_left, show row.drop (q * t.n) = d1 by rw [e3, ← l3]; exact List.drop_left]
  have hkey : RowX (ownB w0 M0) M (w.setRow b nr) t (xs.take lo ++ (ds ++ xs.drop q)) (τ id) := by
    have hlen : (xs.take lo ++ (ds ++ xs.drop q)).length = xs.length := by simp; omega
    refine ⟨some ⟨b, 0, none⟩, cap, c0 ++ (d ++ d1), by rw [hlen]; exact g0, by rw [hlen]; exact g1, g2, g3, ?_, fun a0 ha hc => ?_⟩
    · exact (s0.append (hzs.append s1)).mono fun _ _ r => r.ext (ext_setRow _ k5)
    · cases ha
      have hns : nr.size = cur.size := by rw [← hnr]; simp; omega
      refine ⟨b, _, T, rfl, k1, ⟨fz, by rw [hns]; exact kz, setRow_heap w _ _ _ T _ k2⟩, by rw [hns]; exact k3, fun j hj => ?_, k5⟩
      have hlt : j < row.length := by
        rw [hnrow] at hj
        simp at hj
        omega
      rw [hnrow, ← hnr]
      simp only [List.getElem?_toArray, List.append_assoc]
      by_cases h1 : j < lo * t.n
      · rw [List.getElem?_append_left (by simp; omega), List.getElem?_append_left (by simp; omega), List.getElem?_take, List.getElem?_take, if_pos h1, if_pos h1]
        simpa using k4 j hlt
      · have e5 : (cur.toList.take (lo * t.n)).length = lo * t.n := by simp; omega
        have e6 : (row.take (lo * t.n)).length = lo * t.n := by simp; omega
        rw [mid_get e5 (by omega), mid_get e6 (by omega)]
        by_cases h2 : j - lo * t.n < d.length
        · rw [List.getElem?_append_left h2, List.getElem?_append_left h2]
        · rw [List.getElem?_append_right (by omega), List.getElem?_append_right (by omega), List.getElem?_drop, List.getElem?_drop]
          rw [show lo * t.n + d.length + (j - lo * t.n - d.length) = j by omega, show q * t.n + (j - lo * t.n - d.length) = j by omega]
          simpa using k4 j hlt
  have hadd : (Option.map (fun x => x.add (lo * t.n)) (some (⟨b, 0, none⟩ : Addr))) = some ⟨b, lo * t.n, none⟩ := by simp [addr_add]
  refine ⟨⟨b, lo * t.n, none⟩, c, w.setRow b nr, by rw [← hadd], hst, ?_⟩
  refine s.write (b := b) (ob' := .row t (xs.take lo ++ (ds ++ xs.drop q))) hl hwob ?_ hwob nr fun _ => ⟨hkey, g6⟩
  simp only [Ob.shape, Prod.mk.injEq, true_and]
  simp
  omega

theorem Sm.clrRow (s : Sm w0 M0 N M β τ st a as w) {id : Nat} {t : Ty} {xs : List t.den} {z : t.den} {lo hi : Nat} {u : Value} (hl : lk id st.l = some (.row t xs)) (hlt : lo < hi) (hhi : hi ≤ xs.length) (hz : zeroD t = some z) (hu : SubH t.n lo hi (τ id) u) :
    ∃ ad cap w', u = .slice (some ad) (hi - lo) cap ∧ (storeCells ad (List.replicate (hi - lo) (zeroCells t)).flatten).run P w = .ok () w' ∧ Sm w0 M0 N M β τ (setOb id (.row t (xs.take lo ++ (List.replicate (hi - lo) z ++ xs.drop hi))) st) a as w' := by
  have h := s.putRow (P := P) (ds := List.replicate (hi - lo) z) (lo := lo) (hi := hi) hl (by simp; omega) (by simp; omega) hhi (Seq.zeros hz (hi - lo)) hu
  rw [show lo + (List.replicate (hi - lo) z).length = hi by simp; omega] at h
  exact h

theorem clrK_pc {args : Array Operand} {ts : Array TypeId} : PC (fun β (k : Nat × Ob → Option β) => clrK E args ts st fun id ob => k (id, ob)) := by
  unfold clrK
  split
  · split
    · refine PC.bind (X := Nat × Ob) fun p => ?_
      split
      · exact PC.bind fun xs => PC.bind fun z => PC.bif (PC.ret _) PC.none
      · exact PC.none
    · exact PC.none
  · exact PC.none

theorem clr_sound (hE : Env2Ok P E) (s : Sim2 w0 M0 N st a as w) {args : Array Operand} {argTypes : Array TypeId} (hop : o.op = .call { callee := .builtin .clear, args := args, argTypes := argTypes }) (hdst : o.dst = none) {α : Type} {k : St → Option α} {r : α}
    (h : (clrK E args argTypes st fun id ob => k (setOb id ob st)) = some r) : ROp P Q w0 M0 N o a as w k r := by
  obtain ⟨M, β, τ, s⟩ := s
  intro K hK
  obtain ⟨⟨i, ob⟩, h1, h2⟩ := clrK_pc _ (fun q : Nat × Ob => k (setOb q.1 q.2 st)) _ h
  have h3 := h1 _ some
  unfold clrK at h3
  split at h3
  case h_2 => cases h3
  rename_i x t hargs hts
  split at h3
  case h_2 => cases h3
  rename_i e hty
  obtain ⟨p, hp, h3a⟩ := Option.bind_eq_some_iff.1 h3
  clear h3
  obtain ⟨t', xs0, hl, g1, g2, hu⟩ := partR_ok s hp (evR_ok s.glob s.fr (some (.slice e)) x)
  rw [hl] at h3a
  obtain ⟨xs, hxs, h3b⟩ := Option.bind_eq_some_iff.1 h3a
  clear h3a
  have := TV.as_eq hxs
  cases this
  obtain ⟨z, hz, h4⟩ := Option.bind_eq_some_iff.1 h3b
  clear h3b
  obtain ⟨hc, h5⟩ := bif_some h4
  rw [hE.rep] at h5
  cases h5
  have hargs' : args = #[x] := by rw [← Array.toArray_toList (xs := args), hargs]
  have hts' : argTypes = #[t] := by rw [← Array.toArray_toList (xs := argTypes), hts]
  obtain ⟨e', hun, hle⟩ := (hE.tab _ _ hty).slice
  obtain ⟨ie, hie, hes, hez, _⟩ := (hE.tab _ _ hle).info
  have hpos := Nat.le_of_ble_eq_true hc
  have hzs : (toV e (zeroCells e)).cells = (zeroCells e).toArray := toV_cells (zero_rep (M := M) (w := w) hz)
  have hzl := zeroCells_length e
  have fin : ∀ w', (Builtin.clear_ #[t] o.type #[a.eval x]).run P w = .ok (.tuple #[]) w' → Sm w0 M0 N M β τ (setOb p.1 (.row e (List.append (List.take p.2.1 xs) (List.append (List.replicate (p.2.2 - p.2.1) z) (List.drop p.2.2 xs)))) st) a as w' → o.wp P a w K Q := by
    intro w' hrun s'
    have hexec : (execOp a.eval o).run P w = .ok (.value (.tuple #[])) w' := by
      simp only [execOp, hop, resolve, pure_bind, invoke, builtin, Sem.run_bind]
      rw [hargs', hts', show Array.map a.eval #[x] = #[a.eval x] by simp, hrun]
      rfl
    unfold Oper.wp
    rw [hexec]
    show K (a.put o.dst _) w'
    rw [hdst]
    exact hK _ _ _ h2 ⟨M, β, τ, s'⟩
  by_cases hlt : p.2.1 < p.2.2
  · obtain ⟨ad, cap, w', e1, e2, e3⟩ := s.clrRow (P := P) hl hlt g2 hz hu
    refine fin w' ?_ e3
    have hcl : (Builtin.zeroCells (zeroCells e).toArray (p.2.2 - p.2.1)).toList = (List.replicate (p.2.2 - p.2.1) (zeroCells e)).flatten := by
      have := made_list (zeroCells e).toArray (by simp only [List.size_toArray, hzl]; exact hpos) (p.2.2 - p.2.1)
      exact this
    obtain ⟨m, hm⟩ : ∃ m, p.2.2 - p.2.1 = m + 1 := ⟨p.2.2 - p.2.1 - 1, by omega⟩
    rw [e1]
    rw [hm] at hcl e2 ⊢
    simp [Builtin.clear_, run_underlying hun, zeroValue, typeInfo, hie, hez, hzs, hcl, e2]
  · have hz0 : p.2.2 - p.2.1 = 0 := by omega
    have heq : p.2.2 = p.2.1 := by omega
    refine fin w ?_ ?_
    · obtain ⟨a1, len1, cap1, a', c, e1, hv, _⟩ := hu
      rw [hv, hz0]
      cases a' <;> simp [Builtin.clear_, run_underlying hun]
    · have hxs' : List.append (List.take p.2.1 xs) (List.append (List.replicate (p.2.2 - p.2.1) z) (List.drop p.2.2 xs)) = xs := by
        rw [hz0, heq]
        show List.take p.2.1 xs ++ ([] ++ List.drop p.2.1 xs) = xs
        simp
      rw [hxs']
      refine s.lks (fun _ => rfl) (fun j => ?_) rfl
      simp only [setOb]
      rw [lk_setA, hl]
      split
      · rename_i e; rw [e]; exact hl
      · rfl
/-! ### Elements are copied -/
theorem srcR_cells (s : Sm w0 M0 N M β τ st a as w) {tab : List (TypeId × Ty)} {e : Ty} {rv : RV} {u : TypeId} {v : Value} {ys : List e.den} (hu' : lk u tab = some (.slice e)) (h : srcR tab u st.l e rv = some ys) (r : RR M w β τ st.l rv .sl [v]) :
    ∃ a' cap row, v = .slice a' ys.length cap ∧ Seq (Rep M w e) row ys ∧ (ys.length = 0 ∨ ∃ ad : Addr, a' = some ad ∧ ∀ j, j < row.length → w.cell? (ad.add j) = row[j]?) := by
  unfold srcR at h
  split at h
  · rename_i t zs
    obtain ⟨hc, h⟩ := bif_some h
    have := TV.as_eq h
    cases this
    obtain ⟨u', e1, hv⟩ := r
    cases e1
    obtain ⟨ad, cap, row, hv, _, _, _, hs, hrow⟩ := hv.slice
    refine ⟨_, _, row, hv, hs, ?_⟩
    rcases hrow with hz | ⟨b, o', rfl, hrow⟩
    · exact .inl hz
    · exact .inr ⟨_, rfl, fun j hj => by rw [addr_add]; exact (hrow j hj).1⟩
  · rename_i zs
    obtain ⟨hc, h⟩ := bif_some h
    have := tyIs_eq hc
    rw [hu'] at this
    cases this
  · rename_i t
    obtain ⟨hc, h⟩ := bif_some h
    have := TV.as_eq h
    cases this
    have r' : [v] = [Value.slice none 0 0] := r
    cases r'
    exact ⟨none, 0, [], rfl, rfl, .inl rfl⟩
  · rename_i i
    obtain ⟨t, xs, hl, hu⟩ := row_inv r
    simp only [hl] at h
    obtain ⟨hc, h⟩ := bif_some h
    have := TV.as_eq h
    cases this
    have ho := (s.ob i _ hl).1
    obtain ⟨a', cap', row', h1, h2, h3⟩ := rowX_cells ho (Nat.zero_le _) (Nat.le_refl _) (subH_full ho)
    simp only [List.take_length, List.drop_zero, Nat.sub_zero] at h1 h2 h3
    exact ⟨a', cap', row', by rw [hu, h1], h2, h3⟩
  · rename_i i lo hi
    obtain ⟨t, xs, hl, g1, g2, hu⟩ := sub_inv r
    simp only [hl] at h
    obtain ⟨hc, h⟩ := bif_some h
    have := TV.as_eq h
    cases this
    have ho := (s.ob i _ hl).1
    obtain ⟨a', cap', row', h1, h2, h3⟩ := rowX_cells ho g1 g2 hu
    have hlen : ((xs.take hi).drop lo).length = hi - lo := by simp; omega
    exact ⟨a', cap', row', by rw [h1, hlen], h2, by rw [hlen]; exact h3⟩
  · cases h

theorem cpyK_pc {args : Array Operand} {ts : Array TypeId} : PC (fun β (k : Nat × Ob × Nat → Option β) => cpyK E args ts st fun id ob n => k (id, ob, n)) := by
  unfold cpyK
  split
  · split
    · refine PC.bif (PC.bind (X := Nat × Ob × Nat) fun p => ?_) PC.none
      split
      · exact PC.bind fun xs => PC.bind fun ys => PC.ret _
      · exact PC.none
    · exact PC.none
  · exact PC.none

theorem cpy_sound (hE : Env2Ok P E) (s : Sim2 w0 M0 N st a as w) (hd : ∀ d, o.dst = some d → d < N) {args : Array Operand} {argTypes : Array TypeId} (hop : o.op = .call { callee := .builtin .copy, args := args, argTypes := argTypes }) {α : Type} {k : St → Option α} {r : α}
    (h : (cpyK E args argTypes st fun id ob n => k (setR (setOb id ob st) o.dst (.val ⟨.int .i64, (n : Int)⟩))) = some r) : ROp P Q w0 M0 N o a as w k r := by
  obtain ⟨M, β, τ, s⟩ := s
  intro K hK
  obtain ⟨⟨i, ob, n⟩, h1, h2⟩ := cpyK_pc _ (fun q : Nat × Ob × Nat => k (setR (setOb q.1 q.2.1 st) o.dst (.val ⟨.int .i64, (q.2.2 : Int)⟩))) _ h
  have h3 := h1 _ some
  unfold cpyK at h3
  split at h3
  case h_2 => cases h3
  rename_i x y t u hargs hts
  split at h3
  case h_2 => cases h3
  rename_i e hty
  obtain ⟨hc, h3⟩ := bif_some h3
  have hut := tyIs_eq hc
  obtain ⟨p, hp, h3a⟩ := Option.bind_eq_some_iff.1 h3
  clear h3
  obtain ⟨t', xs0, hl, g1, g2, hu⟩ := partR_ok s hp (evR_ok s.glob s.fr (some (.slice e)) x)
  rw [hl] at h3a
  obtain ⟨xs, hxs, h3b⟩ := Option.bind_eq_some_iff.1 h3a
  clear h3a
  have := TV.as_eq hxs
  cases this
  obtain ⟨ys, hys, h5⟩ := Option.bind_eq_some_iff.1 h3b
  clear h3b
  cases h5
  have hargs' : args = #[x, y] := by rw [← Array.toArray_toList (xs := args), hargs]
  have hts' : argTypes = #[t, u] := by rw [← Array.toArray_toList (xs := argTypes), hts]
  obtain ⟨e', hun, hle⟩ := (hE.tab _ _ hty).slice
  obtain ⟨ie, hie, hes, hez, _⟩ := (hE.tab _ _ hle).info
  obtain ⟨a', cap, row, hv, hseq, hrow⟩ := srcR_cells s hut hys (evR_ok s.glob s.fr _ y)
  generalize hm : Nat.min (p.2.2 - p.2.1) ys.length = m at h2
  have hm1 : m ≤ ys.length := by rw [← hm]; exact Nat.min_le_right _ _
  have hm2 : m ≤ p.2.2 - p.2.1 := by rw [← hm]; exact Nat.min_le_left _ _
  have hds : List.take (p.2.2 - p.2.1) ys = ys.take m := by
    rcases Nat.le_total (p.2.2 - p.2.1) ys.length with hh | hh
    · rw [show m = p.2.2 - p.2.1 by rw [← hm]; exact Nat.min_eq_left hh]
    · rw [List.take_of_length_le hh, show m = ys.length by rw [← hm]; exact Nat.min_eq_right hh, List.take_length]
  have hmc : Nat.min ys.length (p.2.2 - p.2.1) = m := by rw [← hm]; exact Nat.min_comm _ _
  have hmx : m ≤ 9223372036854775807 := by
    obtain ⟨⟨_, _, _, _, q1, q2, _⟩, _⟩ := s.ob _ _ hl
    have : maxLen ≤ 9223372036854775807 := by decide
    omega
  obtain ⟨c0, c1, e2, l2, s0, _⟩ := hseq.cut (fun _ _ r => Rep.length r) m hm1
  have fin : ∀ w', (Builtin.copy_ #[t, u] o.type #[a.eval x, a.eval y]).run P w = .ok (goInt m) w' → Sm w0 M0 N M β τ (setOb p.1 (.row e (List.append (List.take p.2.1 xs) (List.append (List.take (p.2.2 - p.2.1) ys) (List.drop (p.2.1 + m) xs)))) st) a as w' → o.wp P a w K Q := by
    intro w' hrun s'
    have hexec : (execOp a.eval o).run P w = .ok (.value (goInt m)) w' := by
      simp only [execOp, hop, resolve, pure_bind, invoke, builtin, Sem.run_bind]
      rw [hargs', hts', show Array.map a.eval #[x, y] = #[a.eval x, a.eval y] by simp, hrun]
      rfl
    unfold Oper.wp
    rw [hexec]
    refine hK _ _ _ h2 ⟨M, β, τ, s'.set o.dst hd ⟨goInt m, rfl, ?_⟩⟩
    have z1 : (-9223372036854775808 : Int) ≤ (m : Int) := by omega
    have z2 : (m : Int) ≤ 9223372036854775807 := by omega
    exact ⟨[goInt m], rfl, rfl, z1, z2⟩
  have hload : (Builtin.firstCells ie.size m (a.eval y)).run P w = .ok c0.toArray w := by
    rw [hv]
    cases a' with
    | none =>
      rcases hrow with hz | ⟨ad, hz, _⟩
      · have : m = 0 := by omega
        subst this
        have : c0 = [] := List.eq_nil_of_length_eq_zero (by rw [l2]; simp)
        subst this
        exact run_firstCells_none w ie.size 0 _ _
      · cases hz
    | some ad =>
      refine run_firstCells_some w ie.size m ad _ _ c0 (by rw [l2, hes]) fun j v hj => ?_
      rcases hrow with hz | ⟨ad', hz, hr⟩
      · have : m = 0 := by omega
        subst this
        have : c0 = [] := List.eq_nil_of_length_eq_zero (by rw [l2]; simp)
        subst this
        simp at hj
      · cases hz
        have hlt := (List.getElem?_eq_some_iff.1 hj).1
        rw [hr j (by rw [e2]; simp; omega), e2, List.getElem?_append_left hlt, hj]
  have hx : ∃ ax cx, a.eval x = .slice ax (p.2.2 - p.2.1) cx := by
    obtain ⟨a1, len1, cap1, a2, c2, _, hv2, _⟩ := hu
    exact ⟨a2, c2, hv2⟩
  by_cases h0 : 0 < m
  · have hdl : (ys.take m).length = m := by simp; omega
    obtain ⟨ad, cx, w', e1, hst, s'⟩ := s.putRow (P := P) (ds := ys.take m) (d := c0) hl (by omega) (by omega) g2 s0 hu
    rw [hdl] at s'
    refine fin w' ?_ (by rw [hds]; exact s')
    rw [e1] at *
    have hlen : ∀ w' : World, (Builtin.lenOf (a.eval y)).run P w' = .ok ys.length w' := fun _ => by rw [hv]; rfl
    simp [Builtin.copy_, run_underlying hun, hlen, hmc, sizeOf, typeInfo, hie, hload, hst]
  · have hm0 : m = 0 := by omega
    subst hm0
    have hc0 : c0 = [] := List.eq_nil_of_length_eq_zero (by rw [l2]; simp)
    subst hc0
    refine fin w ?_ ?_
    · obtain ⟨ax, cx, hx⟩ := hx
      have hlen : ∀ w' : World, (Builtin.lenOf (a.eval y)).run P w' = .ok ys.length w' := fun _ => by rw [hv]; rfl
      rw [hx]
      cases ax <;> simp [Builtin.copy_, run_underlying hun, hlen, hmc, sizeOf, typeInfo, hie, hload, storeCells]
    · have hxs' : List.append (List.take p.2.1 xs) (List.append (List.take (p.2.2 - p.2.1) ys) (List.drop (p.2.1 + 0) xs)) = xs := by
        rw [hds]
        show List.take p.2.1 xs ++ (ys.take 0 ++ List.drop (p.2.1 + 0) xs) = xs
        simp
      rw [hxs']
      refine s.lks (fun _ => rfl) (fun j => ?_) rfl
      simp only [setOb]
      rw [lk_setA, hl]
      split
      · rename_i e; rw [e]; exact hl
      · rfl

end

/-! ### A slice whose end is cut off -/
section
variable {w0 : World} {M0 : Bs} {N : Nat} {st : St} {a : Act} {as : List Act} {w : World}
theorem reroot_sim (s : Sim2 w0 M0 N st a as w) (i : Nat) : Sim2 w0 M0 N (reroot st i) a as w := by
  unfold reroot
  split
  · rename_i id lo hi hi0
    cases hb : Nat.beq lo 0 with
    | false => exact s
    | true =>
      simp only [cond_true]
      split
      · rename_i t xs hl
        have hlo := Nat.eq_of_beq_eq_true hb
        subst hlo
        obtain ⟨M, β, τ, s⟩ := s
        obtain ⟨u, hu, hr⟩ := s.fr i _ hi0
        have hu1 : u.oneCell' = true := by
          simp only [RR] at hr
          obtain ⟨_, u', _, _, e, h1, _⟩ := hr
          cases e
          exact h1
        obtain ⟨hx, hbl⟩ := dstR_ok s (e := t) (xs := (List.take hi xs, some id)) (by
          have : TV.as (.slice t) ⟨.slice t, xs⟩ = some xs := by simp [TV.as]
          simp only [dstR, hl, Nat.beq_refl, cond_true]
          rw [this]
          rfl) hr
        have hi' : i < N := by rw [← s.sz]; exact (Array.getElem?_eq_some_iff.1 hu).1
        have hlt : i < a.tmps.size := (Array.getElem?_eq_some_iff.1 hu).1
        have sk := s.kill id
        have hfree : lk id (killSt id st).l = none := by rw [kill_lk, if_pos rfl]
        have s2 := sk.addG (ob := .row t (List.take hi xs)) (bn := (wob u).getD 0) (v := u) hfree (Ext.refl _ _) s.bel s.mlt s.mnew (fun _ _ => ⟨rfl, fun _ m => m⟩)
          (fun j ob b hj hb' => ⟨rfl, fun _ m => m, fun hw => by
            simp only [nblk] at hw
            obtain ⟨i2, ob2, e2, l2, b2⟩ := hbl b hw
            cases e2
            obtain ⟨hne, o0, h1, rfl⟩ := kill_inv hj
            rw [blk_map] at hb'
            exact hne (s.dj j _ o0 ob2 b h1 l2 hb' b2)⟩)
          (fun β' τ' h1 h2 _ => ⟨by rw [h2]; exact hx, fun b hb' => by rw [h2] at hb'; rw [h1, hb']; rfl⟩)
        have s3 := s2.set (some i) (fun j hj => by cases hj; exact hi') (rv := .row id) (v := u) (by
          simp only [RR]
          exact ⟨rfl, u, t, List.take hi xs, rfl, hu1, by simp [addN, lk_cons], by simp⟩)
        have : a.put (some i) u = a := by
          simp only [Act.put]
          rw [show a.tmps.setIfInBounds i u = a.tmps from ?_]
          apply Array.ext_getElem?
          intro j
          by_cases hj : j = i
          · subst hj
            rw [hu]
            simp [hlt]
          · rw [Array.getElem?_setIfInBounds_ne (Ne.symm hj)]
        rw [this] at s3
        exact ⟨M, _, _, s3⟩
      · exact s
  · exact s
theorem reroots_sim : ∀ (l : List Nat) {st : St}, Sim2 w0 M0 N st a as w → Sim2 w0 M0 N (l.foldl reroot st) a as w
  | [], _, s => s
  | i :: l, _, s => reroots_sim l (reroot_sim s i)
end

/-! ### A function that leaves with marks -/
section
variable {P : Program}
theorem step_take {fr : Frame} {cs : List Frame} {w : World} {D : Nat} {ds : List Deferred} (hm : fr.mode = .returning) (hd : fr.defers = mark D :: ds) (hh : w.heap[D]? = some (.deferred (some []))) :
    step P (lone fr cs w) = .next (lone { fr with defers := ds } cs (w.putObj D (.deferred none))) :=
  step_lone_go (by simp [Go.stepG, unwind, hm, hd, mark, Sem.runT_eq, run_takeDeferred hh, Go.GStep.bare_after])

theorem steps_takes : ∀ (l : List Nat) {fr : Frame} {cs : List Frame} {w : World}, fr.mode = .returning → fr.defers = l.map mark → l.Nodup → (∀ D ∈ l, w.heap[D]? = some (.deferred (some []))) → Steps P (lone fr cs w) (lone { fr with defers := [] } cs (takeW w l))
  | [], fr, cs, w, _, hd, _, _ => by
    have : { fr with defers := [] } = fr := by cases fr; simp_all
    rw [this]
    exact Steps.refl _ _
  | D :: l, fr, cs, w, hm, hd, hn, hh => by
    obtain ⟨h1, h2⟩ := List.nodup_cons.1 hn
    refine .head (step_take hm hd (hh D (by simp))) ?_
    exact steps_takes l (fr := { fr with defers := l.map mark }) hm rfl h2 fun D' hD' => by
      have hne : D' ≠ D := fun e => by subst e; exact h1 hD'
      rw [World.putObj_heap_other hne]
      exact hh D' (by simp [hD'])

def bodyM (P : Program) (fn : Func) (R : Ending → World → Prop) : Exit → Act → World → Prop
  | .normal, a, w | .ret, a, w => ∃ l : List Nat, a.defers = l.map mark ∧ l.Nodup ∧ (∀ D ∈ l, w.heap[D]? = some (.deferred (some []))) ∧ ∃ v, (results fn a.tmps).run P (takeW w l) = .ok v (takeW w l) ∧ R (.returned v) (takeW w l)
  | _, _, _ => False

theorem calls_of_wpM {f : FuncId} {fn : Func} {c : Code} {args : Array Value} {w : World} {R : Ending → World → Prop} (hf : P.funcs[f]? = some fn) (hb : fn.body = some c)
    (h : c.wp P (bodyM P fn R) { tmps := args ++ Array.replicate (fn.ntmps - args.size) undef, defers := [] } w) : Calls P f args w R := by
  intro cs
  let b : Frame := { (default : Frame) with fn := f, kind := .normal }
  have henter : Frame.enter P f args .normal =
      b.at { tmps := args ++ Array.replicate (fn.ntmps - args.size) undef, defers := [] } [.code c] := by
    simp [Frame.enter, Frame.at, hf, hb, b]
  obtain ⟨e, a', w', hq, harr⟩ := h b [] cs
  rw [← henter] at harr
  cases e with
  | normal =>
    obtain ⟨l, hd, hn, hh, v, hr, hR⟩ := hq
    have h2 := Steps.trans harr (.head step_end (steps_takes (P := P) l (fr := { b.at a' [] with mode := .returning }) (cs := cs) rfl hd hn hh))
    exact ⟨.returned v, takeW w' l, _, hR, h2, rfl, rfl, rfl, rfl, fn, hf, hr⟩
  | ret =>
    obtain ⟨l, hd, hn, hh, v, hr, hR⟩ := hq
    obtain ⟨todo, hs⟩ := harr
    have h2 := Steps.trans hs (steps_takes (P := P) l (fr := { b.at a' todo with mode := .returning }) (cs := cs) rfl hd hn hh)
    exact ⟨.returned v, takeW w' l, _, hR, h2, rfl, rfl, rfl, rfl, fn, hf, hr⟩
  | exit id => exact hq.elim
  | goto l => exact hq.elim
  | panic ch => exact hq.elim
  | outgrown => exact hq.elim
end

/-! ### A region whose order is open, the last operation behind all others -/
section
variable {P : Program} {Q Q' : Exit → Act → World → Prop} {ro : Option Nat} {n : Nat}

theorem wpIn_upon {F : Fence} {o : Oper} {a : Act} {w : World} {K : Act → World → Prop} (hq : ∀ e a w, e ≠ .normal → Q' e a w → Q e a w) (h : o.wpIn F n P a w K Q') : o.wpIn F n P a w K Q := by
  have hl : LetsOut Q' → LetsOut Q := fun ⟨a, w, h⟩ => ⟨a, w, hq _ _ _ (by simp) h⟩
  unfold Oper.wpIn at *
  refine ⟨h.1, ?_⟩
  have hh := h.2
  generalize (o.semAt F.round a.eval).run P w = r at *
  cases r with
  | ok x w' =>
    cases x <;> simp only [Oper.uponIn] at hh ⊢ <;>
      first
        | exact hh
        | exact ⟨hh.1, CallsIn.mono hh.2 (fun e w'' he => by cases e <;> first | exact he | exact hl he | exact hq _ _ _ (by simp) he)⟩
        | exact ⟨hh.1, RoundIn.mono hh.2 (fun e w'' he => by cases e <;> first | exact he | exact hl he | exact hq _ _ _ (by simp) he)⟩
  | halt x w' => cases x <;> simp only [Oper.uponIn] at hh ⊢ <;> first | exact hh | exact hq _ _ _ (by simp) hh

def lastQ (P : Program) (ro : Option Nat) (n : Nat) (o : Oper) (Q : Exit → Act → World → Prop) : Exit → Act → World → Prop
  | .normal, a, w => o.wpIn (fen ro) n P a w (fun a w => Q .normal a w) Q
  | e, a, w => Q e a w

theorem ready_some {ops : Array Oper} (hbk : backOk ops = true) {listed : Array Bool} (hsz : listed.size = ops.size) {j : Nat} (hj : j < ops.size) (hl : Lst listed j = false) : Region.ready .any ops listed ≠ [] := by
  have hback : ∀ (i : Nat) (o : Oper) (e : Edge), ops[i]? = some o → e ∈ o.after → Region.binds .any e = true → e.on < i := by
    intro i o e ho he hb
    have hm : (o, i) ∈ ops.toList.zipIdx 0 := by rw [List.mk_mem_zipIdx_iff_getElem?]; simpa using ho
    have := List.all_eq_true.1 (List.all_eq_true.1 hbk _ hm) e (by simpa using he)
    simp only [hb, Bool.not_true, Bool.false_or] at this
    exact Nat.lt_of_lt_of_le (Nat.lt_succ_self _) (Nat.le_of_ble_eq_true this)
  obtain ⟨i, h1, h2, h3⟩ := least (p := fun i => Lst listed i = false) j hl
  have hi : i < ops.size := by omega
  have : i ∈ Region.ready .any ops listed := by
    refine mem_ready.2 ⟨by rw [lst_true (by omega)]; exact h2, ops[i], by simp [hi], fun e he hb => ?_⟩
    have hlt := hback i ops[i] e (by simp [hi]) he hb
    have := h3 e.on hlt
    show Lst listed e.on = true
    simpa using this
  exact List.ne_nil_of_mem this

theorem lst_push (listed : Array Bool) (i : Nat) : Lst (listed.push false) i = Lst listed i := by
  unfold Lst
  rw [Array.getD_eq_getD_getElem?, Array.getD_eq_getD_getElem?, Array.getElem?_push]
  split
  · rename_i h
    subst h
    simp
  · rfl

theorem lastIn {ops0 : Array Oper} {o : Oper} (hro : ro = none ∨ ∀ x ∈ (ops0.push o).toList, noDf x) (hbk : backOk (ops0.push o) = true) (hall : ∀ j, j < ops0.size → ((befL (ops0.push o).toList []).getD ops0.size 0).testBit j = true) (hg : o.guard = none)
    (hgd : ∀ (i : Nat) (x : Oper) (j : Nat) (wnt : Bool), ops0[i]? = some x → x.guard = some (j, wnt) → j < ops0.size) :
    ∀ (fuel : Nat) (listed : Array Bool) (a : Act) (w : World), listed.size = ops0.size → Clos (befL (ops0.push o).toList []) (Lst (listed.push false)) → fuel + cnt (Lst listed) ops0.size = ops0.size →
      wpAnyS P ops0 (lastQ P ro n o Q) fuel listed a w → wpAnyIn (fen ro) n P .any (ops0.push o) Q (fuel + 1) (listed.push false) a w := by
  intro fuel
  induction fuel with
  | zero =>
    intro listed a w hsz hc hf h
    have hcnt := cnt_all ops0.size (by omega : cnt (Lst listed) ops0.size = ops0.size)
    refine ⟨fun hr => absurd hr (ready_some hbk (by simp [hsz]) (j := ops0.size) (by simp) (by rw [lst_push]; unfold Lst; simp [← hsz])), fun i hi => ?_⟩
    obtain ⟨h1, x, hx, he⟩ := mem_ready.1 hi
    have hi' : i < ops0.size + 1 := by
      have := (Array.getElem?_eq_some_iff.1 hx).1
      simpa using this
    rw [lst_true (by simp [hsz]; omega), lst_push] at h1
    have hin : i = ops0.size := by
      apply Classical.byContradiction
      intro hne
      rw [hcnt i (by omega)] at h1
      cases h1
    subst hin
    unfold wpOpIn
    simp only [Array.getElem?_push_size, Region.wanted, hg, if_true]
    refine Oper.wpIn_mono (fun a w hh => ⟨?_, hh⟩) h.2
    apply List.eq_nil_iff_forall_not_mem.2
    intro j hj
    obtain ⟨k1, y, hy, _⟩ := mem_ready.1 hj
    have hj' : j < ops0.size + 1 := by
      have := (Array.getElem?_eq_some_iff.1 hy).1
      simpa using this
    rw [lst_true (by simp [hsz]; omega), lst_set (by simp [hsz])] at k1
    by_cases hjn : j = ops0.size
    · rw [if_pos hjn] at k1; cases k1
    · rw [if_neg hjn, lst_push, hcnt j (by omega)] at k1; cases k1
  | succ fuel ih =>
    intro listed a w hsz hc hf h
    refine ⟨fun hr => absurd hr (ready_some hbk (by simp [hsz]) (j := ops0.size) (by simp) (by rw [lst_push]; unfold Lst; simp [← hsz])), fun i hi => ?_⟩
    obtain ⟨h1, x, hx, he⟩ := mem_ready.1 hi
    have hi' : i < ops0.size + 1 := by
      have := (Array.getElem?_eq_some_iff.1 hx).1
      simpa using this
    rw [lst_true (by simp [hsz]; omega), lst_push] at h1
    have hin : i ≠ ops0.size := by
      intro e
      subst e
      have : cnt (Lst listed) ops0.size = ops0.size := cnt_full _ fun j hj => by
        have := ready_pred hc hi (hall j hj)
        rwa [lst_push] at this
      omega
    have hil : i < ops0.size := by omega
    have hx0 : ops0[i]? = some x := by
      rw [Array.getElem?_push_lt hil] at hx
      rw [← hx]
      simp [hil]
    have hr0 : i ∈ Region.ready .any ops0 listed := by
      refine mem_ready.2 ⟨by rw [lst_true (by omega)]; exact h1, x, hx0, fun e he' hb => ?_⟩
      have := he e he' hb
      change Lst (listed.push false) e.on = true at this
      rw [lst_push] at this
      exact this
    have hS := h.2 i hr0 x hx0
    have hset : (listed.push false).setIfInBounds i true = (listed.setIfInBounds i true).push false := by
      apply Array.ext_getElem?
      intro j
      simp only [Array.getElem?_setIfInBounds, Array.getElem?_push, Array.size_setIfInBounds, Array.size_push]
      by_cases hj : i = j
      · subst hj
        simp [hsz, hil, hin, show i < ops0.size + 1 by omega]
      · simp [hj]
    have hcl : Clos (befL (ops0.push o).toList []) (Lst ((listed.setIfInBounds i true).push false)) := by
      rw [← hset]
      intro y m hy hb
      rw [lst_set (by simp [hsz]; omega)] at hy ⊢
      split
      · rfl
      · by_cases hyi : y = i
        · subst hyi; exact ready_pred hc hi hb
        · rw [if_neg hyi] at hy
          exact hc y m hy hb
    have hcn : fuel + cnt (Lst (listed.setIfInBounds i true)) ops0.size = ops0.size := by
      rw [cnt_set h1 (by rw [lst_set (by omega)]; simp) (fun x hx => by rw [lst_set (by omega), if_neg hx]) ops0.size hil]
      omega
    have hyl : Region.wanted x (yielded (ops0.push o) a.tmps) = Region.wanted x (yielded ops0 a.tmps) := by
      unfold Region.wanted
      split
      · rfl
      · rename_i j wnt hgx
        have hj := hgd i x j wnt hx0 hgx
        unfold yielded
        rw [Array.getElem?_push_lt hj]
        simp [hj]
    unfold wpOpIn
    simp only [hx, hyl]
    unfold GStep at hS
    have hmem : x ∈ (ops0.push o).toList := Array.mem_toList_iff.2 (Array.mem_of_getElem? hx)
    have next : ∀ a w, wpAnyS P ops0 (lastQ P ro n o Q) fuel (listed.setIfInBounds i true) a w → wpAnyIn (fen ro) n P .any (ops0.push o) Q (fuel + 1) ((listed.push false).setIfInBounds i true) a w := fun a w hh => by
      rw [hset]
      exact ih _ a w (by simp [hsz]) hcl hcn hh
    split
    · rename_i hw
      rw [if_pos hw] at hS
      refine wpIn_upon (Q' := lastQ P ro n o Q) (fun e a w he hh => ?_) (Oper.wpIn_mono next (wpIn_of_wp (hro.imp id fun h => h x hmem) hS))
      cases e <;> first | exact absurd rfl he | exact hh
    · rename_i hw
      rw [if_neg hw] at hS
      exact ⟨fun _ _ => trivial, next _ _ hS⟩
end
end Go.Lift
