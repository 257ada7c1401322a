/- The reference's depths; the laws FlowMasks, FlowDepths and FlowWalk. -/
import Derived.Test.YtkklpkkhepcaiaaDoorFlowI
set_option linter.unusedVariables false
set_option linter.unusedSimpArgs false
set_option maxRecDepth 100000
namespace Go.Proofs.YtkklpkkhepcaiaaDoor
open Go.Lift

/-! ### lists of depths -/
def da (d : List Int) (i : Nat) : Int := d.getD i 0
theorem da_set {d : List Int} {i j : Nat} {v : Int} (h : j < d.length) : da (d.set j v) i = if i = j then v else da d i := by
  unfold da
  rw [List.getD_eq_getElem?_getD, get_set h]
  split <;> simp [List.getD_eq_getElem?_getD]
theorem da_get {d : List Int} {i : Nat} (h : i < d.length) : d[i]? = some (da d i) := getD_at h 0
theorem da_at {d : List Int} {i : Nat} (h : i < d.length) : nth d (Int.toNat (i : Int)) = some (da d i) := nth_at (da_get h)
theorem da_getI {d : List Int} {i : Nat} (h : i < d.length) : getI d (i : Int) = some (da d i) := getI_lt (da_get h)
theorem set_id {α : Type} {d : List α} {j : Nat} {v : α} (h : d[j]? = some v) : d.set j v = d := by
  apply List.ext_getElem?
  intro i
  rw [get_set (List.getElem?_eq_some_iff.1 h).1]
  split
  · rename_i e; subst e; exact h.symm
  · rfl
theorem da_ext {a b : List Int} (hl : a.length = b.length) (h : ∀ i, i < a.length → da a i = da b i) : a = b := by
  apply List.ext_getElem?
  intro i
  by_cases hi : i < a.length
  · rw [da_get hi, da_get (by omega), h i hi]
  · rw [List.getElem?_eq_none (by omega), List.getElem?_eq_none (by omega)]

/-! ### what is asked of depths -/
structure Right (g : Nat → List Nat) (W : Nat → Int) (n : Nat) (D : Nat → Int) : Prop where
  z : D 0 = 0
  e : ∀ i j, Rc g i → j ∈ g i → D j = D i + W i ∧ 0 ≤ D j ∧ D j ≤ 4096 ∧ (j = n - 1 → D j = 0)
theorem Right.bd {g : Nat → List Nat} {W : Nat → Int} {n : Nat} {D : Nat → Int} (h : Right g W n D) {i : Nat} (hi : Rc g i) : 0 ≤ D i ∧ D i ≤ 4096 := by
  cases hi with
  | zero => rw [h.z]; omega
  | step hi hj => have := h.e _ _ hi hj; omega
theorem Right.last {g : Nat → List Nat} {W : Nat → Int} {n : Nat} {D : Nat → Int} (h : Right g W n D) (hi : Rc g (n - 1)) : D (n - 1) = 0 := by
  generalize hm : n - 1 = m at hi
  cases hi with
  | zero => exact h.z
  | step hi hj => exact (h.e _ _ hi hj).2.2.2 hm.symm
theorem Right.uniq {g : Nat → List Nat} {W : Nat → Int} {n : Nat} {D E : Nat → Int} (h : Right g W n D) (h' : Right g W n E) {i : Nat} (hi : Rc g i) : D i = E i := by
  induction hi with
  | zero => rw [h.z, h'.z]
  | step hi hj ih => rw [(h.e _ _ hi hj).1, (h'.e _ _ hi hj).1, ih]

structure DP (g : Nat → List Nat) (W : Nat → Int) (n : Nat) (dep : List Int) (kn : List Bool) : Prop where
  ld : dep.length = n
  lk : kn.length = n
  k0 : kn[0]? = some true
  d0 : da dep 0 = 0
  kr : ∀ i, kn[i]? = some true → Rc g i ∧ 0 ≤ da dep i ∧ da dep i ≤ 4096 ∧ ∀ D, Right g W n D → da dep i = D i
  un : ∀ i, kn[i]? = some false → da dep i = 0
def EgD (W : Nat → Int) (dep : List Int) (kn : List Bool) (i j : Nat) : Prop := kn[i]? = some true ∧ kn[j]? = some true ∧ da dep j = da dep i + W i

section
variable {g : Nat → List Nat} {W : Nat → Int} {n f j : Nat} {dep : List Int} {kn : List Bool}

theorem kn_set (hj : j < kn.length) {i : Nat} : (kn.set j true)[i]? = some true ↔ i = j ∨ kn[i]? = some true := by
  rw [get_set hj]
  split
  · rename_i e; simp [e]
  · rename_i e; simp [e]
theorem da_keep (h : DP g W n dep kn) (hjn : j < n) {d : Int} (hk : kn[j]? = some true → da dep j = d) {a : Nat} (ha : kn[a]? = some true) : da (dep.set j d) a = da dep a := by
  rw [da_set (by rw [h.ld]; exact hjn)]
  split
  · rename_i e; subst e; exact (hk ha).symm
  · rfl

theorem DP.step (h : DP g W n dep kn) (hf : kn[f]? = some true) (hj : j ∈ g f) (hjn : j < n) (h0 : 0 ≤ da dep f + W f) (h1 : da dep f + W f ≤ 4096) (hk : kn[j]? = some true → da dep j = da dep f + W f) : DP g W n (dep.set j (da dep f + W f)) (kn.set j true) where
  ld := by simp [h.ld]
  lk := by simp [h.lk]
  k0 := (kn_set (by rw [h.lk]; exact hjn)).2 (.inr h.k0)
  d0 := by rw [da_keep h hjn hk h.k0]; exact h.d0
  kr := fun i hi => by
    have hrf := (h.kr f hf).1
    rcases (kn_set (by rw [h.lk]; exact hjn)).1 hi with rfl | hi
    · rw [da_set (by rw [h.ld]; exact hjn), if_pos rfl]
      exact ⟨.step hrf hj, h0, h1, fun D hD => by rw [(hD.e f i hrf hj).1, (h.kr f hf).2.2.2 D hD]⟩
    · rw [da_keep h hjn hk hi]
      exact h.kr i hi
  un := fun i hi => by
    rw [get_set (by rw [h.lk]; exact hjn)] at hi
    split at hi
    · cases hi
    · rename_i e
      rw [da_set (by rw [h.ld]; exact hjn), if_neg e]
      exact h.un i hi
theorem EgD.step (h : DP g W n dep kn) (hf : kn[f]? = some true) (hjn : j < n) (hk : kn[j]? = some true → da dep j = da dep f + W f) :
    (∀ a b, EgD W dep kn a b → EgD W (dep.set j (da dep f + W f)) (kn.set j true) a b) ∧ EgD W (dep.set j (da dep f + W f)) (kn.set j true) f j := by
  have up : ∀ i, kn[i]? = some true → (kn.set j true)[i]? = some true := fun i hi => (kn_set (by rw [h.lk]; exact hjn)).2 (.inr hi)
  constructor
  · rintro a b ⟨ha, hb, e⟩
    refine ⟨up a ha, up b hb, ?_⟩
    rw [da_keep h hjn hk ha, da_keep h hjn hk hb]
    exact e
  · refine ⟨up f hf, (kn_set (by rw [h.lk]; exact hjn)).2 (.inl rfl), ?_⟩
    rw [da_keep h hjn hk hf, da_set (by rw [h.ld]; exact hjn), if_pos rfl]

/-- depths that are right say what the next one is -/
theorem DP.next (h : DP g W n dep kn) (hf : kn[f]? = some true) (hj : j ∈ g f) {D : Nat → Int} (hD : Right g W n D) :
    (0 ≤ da dep f + W f ∧ da dep f + W f ≤ 4096) ∧ (j = n - 1 → da dep f + W f = 0) ∧ (kn[j]? = some true → da dep j = da dep f + W f) := by
  have h1 := h.kr f hf
  have h2 := hD.e f j h1.1 hj
  rw [h1.2.2.2 D hD, ← h2.1]
  exact ⟨⟨h2.2.1, h2.2.2.1⟩, h2.2.2.2, fun hk => (h.kr j hk).2.2.2 D hD⟩
end

def IsD (l : List Ins) (bs dep : List Int) : Prop := dep.length = l.length ∧ ∃ D, Right (G l) (da bs) l.length D ∧ ∀ i, i < l.length → (Rc (G l) i → da dep i = D i) ∧ (¬ Rc (G l) i → da dep i = 0)
theorem IsD.same {l : List Ins} {bs a b : List Int} (h : IsD l bs a) (h' : IsD l bs b) : a = b := by
  obtain ⟨h1, D, h2, h3⟩ := h
  obtain ⟨g1, E, g2, g3⟩ := h'
  refine da_ext (by omega) fun i hi => ?_
  by_cases e : Rc (G l) i
  · rw [(h3 i (by omega)).1 e, (g3 i (by omega)).1 e, h2.uniq g2 e]
  · rw [(h3 i (by omega)).2 e, (g3 i (by omega)).2 e]

theorem DP.isD {l : List Ins} {bs dep : List Int} {kn : List Bool} (h : DP (G l) (da bs) l.length dep kn) (hn : da dep (l.length - 1) = 0) (hd : ∀ i, Rc (G l) i → kn[i]? = some true ∧ ∀ j ∈ G l i, EgD (da bs) dep kn i j) : IsD l bs dep := by
  refine ⟨h.ld, da dep, ⟨h.d0, fun i j hi hj => ?_⟩, fun i hi => ⟨fun _ => rfl, fun hr => ?_⟩⟩
  · obtain ⟨_, h1, h2⟩ := (hd i hi).2 j hj
    have := h.kr j h1
    exact ⟨h2, this.2.1, this.2.2.1, fun e => by rw [e]; exact hn⟩
  · rcases bool_at (m := kn) (j := i) (by rw [h.lk]; exact hi) with hb | hb
    · exact absurd (h.kr i hb).1 hr
    · exact h.un i hb

def byOk (bs : List Int) : Bool := bs.all fun b => decide (-4096 ≤ b) && decide (b ≤ 4096)
theorem by_at {bs : List Int} (h : byOk bs = true) (i : Nat) : -4096 ≤ da bs i ∧ da bs i ≤ 4096 := by
  by_cases hi : i < bs.length
  · have := all_at.1 h i _ (da_get hi)
    simpa using this
  · unfold da
    rw [List.getD_eq_getElem?_getD, List.getElem?_eq_none (by omega)]
    simp

def DepthsR (l : List Ins) (bs : List Int) (r : Option (List Int × Int)) : Prop :=
  if okC l = true then (if bs.length = l.length ∧ byOk bs = true then (∃ dep, r = some (dep, 0) ∧ IsD l bs dep) ∨ ((∀ D, ¬ Right (G l) (da bs) l.length D) ∧ r = some ([], 36)) else r = some ([], 2)) else r = some ([], 8)
theorem DepthsR.same {l : List Ins} {bs : List Int} {a b : Option (List Int × Int)} (h : DepthsR l bs a) (h' : DepthsR l bs b) : a = b := by
  unfold DepthsR at h h'
  split at h
  · rename_i e
    rw [if_pos e] at h'
    split at h
    · rename_i e2
      rw [if_pos e2] at h'
      rcases h with ⟨x, rfl, hx⟩ | ⟨hn, rfl⟩
      · rcases h' with ⟨y, rfl, hy⟩ | ⟨hn, rfl⟩
        · rw [hx.same hy]
        · obtain ⟨_, D, hD, _⟩ := hx
          exact absurd hD (hn D)
      · rcases h' with ⟨y, rfl, hy⟩ | ⟨_, rfl⟩
        · obtain ⟨_, D, hD, _⟩ := hy
          exact absurd hD (hn D)
        · rfl
    · rename_i e2
      rw [if_neg e2] at h'
      rw [h, h']
  · rename_i e
    rw [if_neg e] at h'
    rw [h, h']

theorem DP.start {g : Nat → List Nat} {W : Nat → Int} {n : Nat} (hn : 1 ≤ n) : DP g W n (List.replicate n 0) ((List.replicate n false).set 0 true) := by
  have z : ∀ i, da (List.replicate n (0 : Int)) i = 0 := fun i => by
    simp only [da, List.getD_eq_getElem?_getD, List.getElem?_replicate]
    split <;> rfl
  refine ⟨by simp, by simp, by rw [get_set (by simp; omega), if_pos rfl], z 0, fun i hi => ?_, fun i _ => z i⟩
  have := start_at hn hi
  subst this
  rw [z]
  exact ⟨.zero, by omega, by omega, fun D hD => hD.z.symm⟩

/-! ### the program's -/
theorem isTooFar_eq (b : Int) : cflow_isTooFar b = some (!(decide (-4096 ≤ b) && decide (b ≤ 4096))) := by
  show nflow_isTooFar b = _
  unfold nflow_isTooFar
  by_cases h : b < -4096
  · rw [decide_eq_true h, decide_eq_false (show ¬ -4096 ≤ b by omega)]; rfl
  · rw [decide_eq_false h, decide_eq_true (show -4096 ≤ b by omega)]
    by_cases h2 : b > 4096
    · rw [decide_eq_true h2, decide_eq_false (show ¬ b ≤ 4096 by omega)]; rfl
    · rw [decide_eq_false h2, decide_eq_true (show b ≤ 4096 by omega)]; rfl
theorem isDepth_eq (d : Int) (j n : Nat) (h1 : 1 ≤ n) (h2 : n ≤ 1000000) : cflow_isDepth (d, (j : Int), (n : Int)) = some (if j = n - 1 then decide (d = 0) else decide (0 ≤ d ∧ d ≤ 4096)) := by
  show nflow_isDepth (d, (j : Int), (n : Int)) = _
  unfold nflow_isDepth
  dsimp only
  rw [last_w h1 h2]
  by_cases e : j = n - 1
  · rw [if_pos e, show ((j : Int) == ((n - 1 : Nat) : Int)) = true by simp [e], cond_true, beqd]
  · rw [if_neg e, show ((j : Int) == ((n - 1 : Nat) : Int)) = false by simp; omega, cond_false]
    by_cases a : 0 ≤ d
    · rw [decide_eq_true (show d ≥ 0 from a), cond_true]
      simp [a]
    · rw [decide_eq_false (show ¬ d ≥ 0 from a), cond_false, decide_eq_false (fun h => a h.1)]

def DR (l : List Ins) (bs : List Int) (r : Option (List Int × Int)) : Prop := (∃ dep, r = some (dep, 0) ∧ IsD l bs dep) ∨ ((∀ D, ¬ Right (G l) (da bs) l.length D) ∧ r = some ([], 36))

theorem depths_main {l : List Ins} (h : okC l = true) {bs : List Int} (hl : bs.length = l.length) (hb : byOk bs = true) (self0) : DR l bs (iterV (gflow_Depths_1 (fun _ => List.replicate) big self0) big (l, bs, ([] : List Int), (0 : Int), List.replicate l.length (0 : Int), (List.replicate l.length false).set 0 true, l, (List.replicate l.length false).set 0 true, ([0] : List Int))) := by
  obtain ⟨h1, h2, hok, hlast⟩ := okC_parts h
  have hr : ∀ i, Rc (G l) i → i < l.length := fun i hi => hi.lt h
  refine while_post (g := gflow_Depths_1 (fun _ => List.replicate) big self0)
    (fun v => ∃ dep kn met p, v = (l, bs, ([] : List Int), (0 : Int), dep, kn, l, met, ints p) ∧ met.length = l.length ∧ DP (G l) (da bs) l.length dep kn ∧ da dep (l.length - 1) = 0 ∧ DI (G l) (EgD (da bs) dep kn) (fun i => kn[i]? = some true) met p none ∧ μ2 met p ≤ 401)
    (fun v => 2 * v.2.2.2.2.2.2.2.1.count false + v.2.2.2.2.2.2.2.2.length) (DR l bs) ?_ big _ ?_ ?_
  · rintro self v ⟨dep, kn, met, p, rfl, hm, hp, hz, hd, hμ⟩ ih
    show DR l bs (hflow_Depths_1 (fun _ => List.replicate) (iterV (gflow_Depths_2 (fun _ => List.replicate) big self0 self) big) self0 self (l, bs, ([] : List Int), (0 : Int), dep, kn, l, met, ints p))
    unfold hflow_Depths_1
    dsimp only
    rcases List.eq_nil_or_concat p with rfl | ⟨p, f, rfl⟩
    · simp only [ints_len, List.length_nil]
      rw [show decide (((0 : Nat) : Int) > 0) = false from rfl, cond_false]
      exact .inl ⟨dep, rfl, hp.isD hz fun i hi => (hd.done i hi).2⟩
    · have hpl : p.length ≤ 1000 := by simp [μ2] at hμ; omega
      simp only [List.concat_eq_append] at hd hμ ih ⊢
      obtain ⟨e1, e2, e3⟩ := stack_last p f (by omega)
      have hrf : Rc (G l) f := hd.rc f (hd.pm f (by simp))
      have hkf : kn[f]? = some true := hd.kn f (hd.pm f (by simp))
      have hf : f < l.length := hr f hrf
      rw [e1]
      rw [decide_eq_true (show (List.length (ints (p ++ [f])) : Int) > 0 by rw [ints_len, List.length_append]; simp only [List.length_cons, List.length_nil]; omega), cond_true]
      rw [show (decide ((0 : Int) ≤ (p.length : Int)) && decide ((p.length : Int) < (List.length (ints (p ++ [f])) : Int))) = true by rw [ints_len]; simp; omega, cond_true]
      rw [e2, Option.bind_some]
      rw [show (decide ((0 : Int) ≤ (p.length : Int)) && decide ((p.length : Int) ≤ (List.length (ints (p ++ [f])) : Int))) = true by rw [ints_len]; simp; omega, cond_true]
      rw [behind_eq h hf, Option.bind_some, e3]
      have hgl := G_len l f
      rw [ints_len (G l f)]
      refine range_post (σ := List Int × List Bool × List Bool × List Nat) (g := gflow_Depths_2 (fun _ => List.replicate) big self0 self) (n := (G l f).length) (fun s k => ((f : Int), ints (G l f), ((G l f).length : Int), (k : Int), l, bs, ([] : List Int), (0 : Int), s.1, s.2.1, l, s.2.2.1, ints s.2.2.2))
        (fun k s => s.2.2.1.length = l.length ∧ DP (G l) (da bs) l.length s.1 s.2.1 ∧ da s.1 (l.length - 1) = 0 ∧ DI (G l) (EgD (da bs) s.1 s.2.1) (fun i => s.2.1[i]? = some true) s.2.2.1 s.2.2.2 (some (f, k)) ∧ s.2.1[f]? = some true ∧ μ2 s.2.2.1 s.2.2.2 + 1 ≤ μ2 met (p ++ [f]))
        (DR l bs) ?_ ?_ (G l f).length 0 big (by simp) (big_gt2 (by omega)) (dep, kn, met, p) ⟨hm, hp, hz, hd.pop, hkf, by simp [μ2]; omega⟩
      · rintro self1 ⟨dep, kn, mt, q⟩ ⟨f1, f2, f3, f4, f5, f6⟩
        dsimp only at f1 f2 f3 f4 f5 f6
        show DR l bs (hflow_Depths_2 (fun _ => List.replicate) self0 self self1 _)
        unfold hflow_Depths_2
        dsimp only
        rw [decide_eq_false (by omega), cond_false]
        refine ih _ ⟨dep, kn, mt, q, rfl, f1, f2, f3, f4.fin, by omega⟩ ?_
        show 2 * mt.count false + (ints q).length < 2 * met.count false + (ints (p ++ [f])).length
        rw [ints_len, ints_len]
        unfold μ2 at f6
        omega
      · rintro self1 ⟨dep, kn, mt, q⟩ k hk ⟨f1, f2, f3, f4, f5, f6⟩
        dsimp only at f1 f2 f3 f4 f5 f6
        have hj : (G l f)[k]? = some (G l f)[k] := List.getElem?_eq_getElem hk
        have hjm : (G l f)[k] ∈ G l f := List.getElem_mem hk
        have hjl := G_lt h hf hjm
        generalize (G l f)[k] = j at *
        have hb1 := by_at hb f
        have hk1 := f2.kr f f5
        have hnext : ∀ D, Right (G l) (da bs) l.length D → _ := fun D hD => f2.next f5 hjm hD
        have hgd := fun hk => EgD.step f2 f5 hjl hk
        have hpd := fun a b c => f2.step f5 hjm hjl a b c
        have hw : IntKind.i64.wrap (da dep f + da bs f) = da dep f + da bs f := w64 (by omega) (by omega)
        have hld := f2.ld
        have hlk := f2.lk
        show (∃ s', _ ∧ hflow_Depths_2 (fun _ => List.replicate) self0 self self1 ((f : Int), ints (G l f), ((G l f).length : Int), (k : Int), l, bs, ([] : List Int), (0 : Int), dep, kn, l, mt, ints q) = _) ∨ DR l bs (hflow_Depths_2 (fun _ => List.replicate) self0 self self1 ((f : Int), ints (G l f), ((G l f).length : Int), (k : Int), l, bs, ([] : List Int), (0 : Int), dep, kn, l, mt, ints q))
        generalize hX : hflow_Depths_2 (fun _ => List.replicate) self0 self self1 ((f : Int), ints (G l f), ((G l f).length : Int), (k : Int), l, bs, ([] : List Int), (0 : Int), dep, kn, l, mt, ints q) = X
        have hql : q.length ≤ 1000 := by simp only [μ2] at f6 hμ; omega
        have hlim : (Nat.ble 1 1 && Nat.ble (List.length (ints q) + List.length ([(j : Int)] : List Int)) lim) = true := by
          rw [b11, ble_lim (by rw [ints_len]; simp; omega)]; rfl
        unfold hflow_Depths_2 at hX
        dsimp only at hX
        rw [decide_eq_true (show (k : Int) < ((G l f).length : Int) by omega), cond_true, getI_lt (ints_at hj), Option.bind_some] at hX
        simp only [hld, hlk, f1, in_r hf, in_r hjl, cond_true, da_at (show f < dep.length by omega), da_at (show j < dep.length by omega), da_getI (show f < bs.length by omega), Option.bind_some, hw, isDepth_eq _ j l.length h1 (by omega), hlim, List.length_set] at hX
        rw [w64 (z := (k : Int) + 1) (by omega) (by omega), Int.toNat_natCast, nth_get, nth_get] at hX
        generalize da dep f + da bs f = d at *
        by_cases hD : (if j = l.length - 1 then decide (d = 0) else decide (0 ≤ d ∧ d ≤ 4096)) = true
        · rw [hD] at hX
          have hd0 : (0 ≤ d ∧ d ≤ 4096) ∧ (j = l.length - 1 → d = 0) := by
            split at hD
            · have := of_decide_eq_true hD; omega
            · rename_i e
              have := of_decide_eq_true hD
              exact ⟨this, fun e2 => absurd e2 e⟩
          have good : (kn[j]? = some true → da dep j = d) → X = ((mt[j]?).bind fun b => bif !b then self1 ((f : Int), ints (G l f), ((G l f).length : Int), ((k + 1 : Nat) : Int), l, bs, ([] : List Int), (0 : Int), dep.set j d, kn.set j true, l, mt.set j true, ints q ++ [(j : Int)]) else self1 ((f : Int), ints (G l f), ((G l f).length : Int), ((k + 1 : Nat) : Int), l, bs, ([] : List Int), (0 : Int), dep.set j d, kn.set j true, l, mt, ints q)) → (∃ s' : List Int × List Bool × List Bool × List Nat, (s'.2.2.1.length = l.length ∧ DP (G l) (da bs) l.length s'.1 s'.2.1 ∧ da s'.1 (l.length - 1) = 0 ∧ DI (G l) (EgD (da bs) s'.1 s'.2.1) (fun i => s'.2.1[i]? = some true) s'.2.2.1 s'.2.2.2 (some (f, k + 1)) ∧ s'.2.1[f]? = some true ∧ μ2 s'.2.2.1 s'.2.2.2 + 1 ≤ μ2 met (p ++ [f])) ∧ X = self1 ((f : Int), ints (G l f), ((G l f).length : Int), ((k + 1 : Nat) : Int), l, bs, ([] : List Int), (0 : Int), s'.1, s'.2.1, l, s'.2.2.1, ints s'.2.2.2)) ∨ DR l bs X := fun hkn hx => by
            left
            have hE := hgd hkn
            have hS := hpd hd0.1.1 hd0.1.2 hkn
            have hz2 : da (dep.set j d) (l.length - 1) = 0 := by
              rw [da_set (by omega)]
              split
              · rename_i e; exact hd0.2 e.symm
              · exact f3
            have hkj : (kn.set j true)[j]? = some true := (kn_set (by omega)).2 (.inl rfl)
            have hkf2 : (kn.set j true)[f]? = some true := (kn_set (by omega)).2 (.inr f5)
            have hK : ∀ a, kn[a]? = some true → (kn.set j true)[a]? = some true := fun a ha => (kn_set (by omega)).2 (.inr ha)
            rcases bool_at (m := mt) (j := j) (by omega) with hb | hb
            · refine ⟨(dep.set j d, kn.set j true, mt, q), ⟨f1, hS, hz2, f4.old hj hE.1 hK hE.2 hb, hkf2, f6⟩, ?_⟩
              rw [hx, hb]
              rfl
            · have hc := count_new hb
              refine ⟨(dep.set j d, kn.set j true, mt.set j true, q ++ [j]), ⟨by simp [f1], hS, hz2, f4.new hj hE.1 hK hE.2 hkj hb, hkf2, ?_⟩, ?_⟩
              · simp only [μ2, List.length_append, List.length_cons, List.length_nil] at f6 ⊢
                omega
              · rw [hx, hb, ints_snoc]
                rfl
          rcases bool_at (m := kn) (j := j) (by omega) with hb | hb
          · rw [hb] at hX
            simp only [Option.bind_some, Bool.not_true, cond_false, cond_true] at hX
            by_cases e : da dep j = d
            · rw [show (da dep j != d) = false by simp [e], cond_false] at hX
              exact good (fun _ => e) hX.symm
            · right
              refine .inr ⟨fun D hD => e ((hnext D hD).2.2 hb), ?_⟩
              rw [show (da dep j != d) = true by simpa using e, cond_true] at hX
              exact hX.symm
          · rw [hb] at hX
            simp only [Option.bind_some, Bool.not_true, cond_false, cond_true] at hX
            exact good (fun e => by rw [hb] at e; cases e) hX.symm
        · right
          refine .inr ⟨fun D hD2 => hD ?_, ?_⟩
          · have := hnext D hD2
            split
            · rename_i e; exact decide_eq_true (this.2.1 e)
            · exact decide_eq_true this.1
          · rw [Bool.not_eq_true] at hD
            rw [hD] at hX
            exact hX.symm
  · have := start_count l.length h1
    have hs := DP.start (g := G l) (W := da bs) h1
    refine ⟨_, _, _, [0], rfl, by simp, hs, ?_, DI.start h1 hs.k0, ?_⟩
    · simp only [da, List.getD_eq_getElem?_getD, List.getElem?_replicate]
      split <;> rfl
    · simp only [μ2, List.length_cons, List.length_nil]
      omega
  · have := start_count l.length h1
    refine big_gt2 ?_
    show 2 * ((List.replicate l.length false).set 0 true).count false + 1 ≤ _
    omega

theorem Depths_eq (l : List Ins) (bs : List Int) : DepthsR l bs (cflow_Depths (l, bs)) := by
  show DepthsR l bs (nflow_Depths (fun _ => List.replicate) (iterV (gflow_Depths_0 (fun _ => List.replicate) big) big) (l, bs))
  unfold nflow_Depths DepthsR
  dsimp only
  rw [Check7_eq, Option.bind_some]
  by_cases h : okC l = true
  · obtain ⟨h1, h2, hok, hlast⟩ := okC_parts h
    rw [if_pos h, if_pos h, show ((0 : Int) != 0) = false from rfl, cond_false]
    by_cases hl : bs.length = l.length
    · rw [show ((bs.length : Int) != (l.length : Int)) = false by rw [hl]; simp, cond_false]
      refine range_post (σ := Unit) (g := gflow_Depths_0 (fun _ => List.replicate) big) (n := bs.length) (fun _ i => (bs, (bs.length : Int), (i : Int), l, bs, ([] : List Int), (0 : Int), false)) (fun i _ => ∀ k b, k < i → bs[k]? = some b → (decide (-4096 ≤ b) && decide (b ≤ 4096)) = true) (fun r => if bs.length = l.length ∧ byOk bs = true then (∃ dep, r = some (dep, 0) ∧ IsD l bs dep) ∨ ((∀ D, ¬ Right (G l) (da bs) l.length D) ∧ r = some ([], 36)) else r = some ([], 2)) ?_ ?_ bs.length 0 big (by simp) (big_gt2 (by omega)) () (fun k b hk => absurd hk (Nat.not_lt_zero _))
      · rintro self _ hI
        have hb : byOk bs = true := all_at.2 fun k b hk => hI k b (List.getElem?_eq_some_iff.1 hk).1 hk
        rw [if_pos ⟨hl, hb⟩]
        show DR l bs (hflow_Depths_0 (fun _ => List.replicate) (iterV (gflow_Depths_1 (fun _ => List.replicate) big self) big) self _)
        unfold hflow_Depths_0
        dsimp only
        rw [decide_eq_false (show ¬ (bs.length : Int) < (bs.length : Int) by omega), cond_false]
        simp only [mk_ok (show l.length ≤ 68719476736 by omega), start_lt h1, cond_true, cond_false, Int.toNat_natCast, Int.toNat_zero]
        exact depths_main h hl hb self
      · rintro self _ i hi hI
        have hx : bs[i]? = some bs[i] := List.getElem?_eq_getElem hi
        have e0 : gflow_Depths_0 (fun _ => List.replicate) big self (bs, (bs.length : Int), (i : Int), l, bs, ([] : List Int), (0 : Int), false) = hflow_Depths_0 (fun _ => List.replicate) (iterV (gflow_Depths_1 (fun _ => List.replicate) big self) big) self (bs, (bs.length : Int), (i : Int), l, bs, ([] : List Int), (0 : Int), false) := rfl
        rw [e0]
        unfold hflow_Depths_0
        dsimp only
        rw [decide_eq_true (show (i : Int) < (bs.length : Int) by omega), cond_true, getI_lt hx, Option.bind_some, isTooFar_eq, Option.bind_some, w64 (z := (i : Int) + 1) (by omega) (by omega)]
        cases e : (decide (-4096 ≤ bs[i]) && decide (bs[i] ≤ 4096)) with
        | true =>
          left
          refine ⟨(), fun k b hk hkb => ?_, rfl⟩
          by_cases e2 : k = i
          · subst e2
            rw [hx] at hkb
            cases hkb
            exact e
          · exact hI k b (by omega) hkb
        | false =>
          right
          rw [if_neg (fun hh => by rw [all_at.1 hh.2 i _ hx] at e; cases e), decide_eq_true (show (i : Int) ≥ 0 by omega)]
          rfl
    · rw [show ((bs.length : Int) != (l.length : Int)) = true by simp; omega, cond_true, if_neg (fun e => hl e.1)]
  · rw [if_neg h, if_neg h]
    rfl
end Go.Proofs.YtkklpkkhepcaiaaDoor

set_option linter.unusedVariables false
set_option linter.unusedSimpArgs false
set_option maxRecDepth 100000
namespace Go.Proofs.YtkklpkkhepcaiaaDoor
open Go.Lift

def RR (l : List Ins) (bs : List Int) (r : Option (List Int × Bool)) : Prop := (∃ dep, r = some (dep, true) ∧ IsD l bs dep) ∨ ((∀ D, ¬ Right (G l) (da bs) l.length D) ∧ ∃ dep, r = some (dep, false))

theorem Deep_eq {l : List Ins} (h : okC l = true) {bs : List Int} (hl : bs.length = l.length) (hb : byOk bs = true) : RR l bs (cref07_Deep (l, bs)) := by
  obtain ⟨h1, h2, hok, hlast⟩ := okC_parts h
  have hr : ∀ i, Rc (G l) i → i < l.length := fun i hi => hi.lt h
  show RR l bs (nref07_Deep (fun _ => List.replicate) (iterV (gref07_Deep_0 (fun _ => List.replicate) big) big) (l, bs))
  unfold nref07_Deep
  simp only [mk_ok (show l.length ≤ 68719476736 by omega), start_lt h1, cond_true, Int.toNat_natCast, Int.toNat_zero]
  refine while_post (g := gref07_Deep_0 (fun _ => List.replicate) big)
    (fun v => ∃ ch dep kn, v = (l, bs, ch, dep, kn) ∧ DP (G l) (da bs) l.length dep kn ∧ (ch = false → ∀ i j, kn[i]? = some true → j ∈ G l i → EgD (da bs) dep kn i j))
    (fun v => 2 * v.2.2.2.2.count false + (if v.2.2.1 then 1 else 0)) (RR l bs) ?_ big _ ?_ ?_
  · rintro self v ⟨ch, dep, kn, rfl, hp, hc⟩ ih
    show RR l bs (href07_Deep_0 (fun _ => List.replicate) (iterV (gref07_Deep_1 (fun _ => List.replicate) big self) big) self (l, bs, ch, dep, kn))
    unfold href07_Deep_0
    dsimp only
    cases ch with
    | false =>
      have hc := hc rfl
      rw [cond_false, last_w h1 (show l.length ≤ 1000000 by omega), hp.ld, in_r (show l.length - 1 < l.length by omega), cond_true, da_at (show l.length - 1 < dep.length by rw [hp.ld]; omega), Option.bind_some]
      have all : ∀ i, Rc (G l) i → kn[i]? = some true := fun i hi => by
        induction hi with
        | zero => exact hp.k0
        | step hi hj ih' => exact (hc _ _ ih' hj).2.1
      by_cases hz : da dep (l.length - 1) = 0
      · left
        exact ⟨dep, by rw [hz]; rfl, hp.isD hz fun i hi => ⟨all i hi, fun j hj => hc i j (all i hi) hj⟩⟩
      · right
        refine ⟨fun D hD => hz ?_, dep, by rw [show (da dep (l.length - 1) == 0) = false by simpa using hz]⟩
        rcases bool_at (m := kn) (j := l.length - 1) (by rw [hp.lk]; omega) with hb | hb
        · have := hp.kr _ hb
          rw [this.2.2.2 D hD]
          exact hD.last this.1
        · exact hp.un _ hb
    | true =>
      rw [cond_true]
      refine range_post (σ := Bool × List Int × List Bool) (g := gref07_Deep_1 (fun _ => List.replicate) big self) (n := l.length) (fun s i => (l, bs, s.1, (i : Int), s.2.1, s.2.2))
        (fun i s => DP (G l) (da bs) l.length s.2.1 s.2.2 ∧ s.2.2.count false ≤ kn.count false ∧ (s.1 = true → s.2.2.count false < kn.count false) ∧ (s.1 = false → ∀ a b, a < i → s.2.2[a]? = some true → b ∈ G l a → EgD (da bs) s.2.1 s.2.2 a b))
        (RR l bs) ?_ ?_ l.length 0 big (by simp) (big_gt2 (by omega)) (false, dep, kn) ⟨hp, Nat.le_refl _, (fun e => nomatch e), fun _ a b ha => absurd ha (Nat.not_lt_zero _)⟩
      · rintro self1 ⟨c, d, t⟩ ⟨g1, g2, g3, g4⟩
        dsimp only at g1 g2 g3 g4
        show RR l bs (href07_Deep_1 (fun _ => List.replicate) _ self self1 (l, bs, c, (l.length : Int), d, t))
        unfold href07_Deep_1
        dsimp only
        rw [decide_eq_false (by omega), cond_false]
        refine ih _ ⟨c, d, t, rfl, g1, fun hf a b ha hb => g4 hf a b ?_ ha hb⟩ ?_
        · exact hr a (g1.kr a ha).1
        · show 2 * t.count false + (if c then 1 else 0) < 2 * kn.count false + 1
          cases c with
          | false => simp only [Bool.false_eq_true, if_false]; omega
          | true => have := g3 rfl; simp only [if_true]; omega
      · rintro self1 ⟨c, d, t⟩ i hi ⟨g1, g2, g3, g4⟩
        dsimp only at g1 g2 g3 g4
        show (∃ s' : Bool × List Int × List Bool, _ ∧ href07_Deep_1 (fun _ => List.replicate) (iterV (gref07_Deep_2 (fun _ => List.replicate) big self self1) big) self self1 (l, bs, c, (i : Int), d, t) = _) ∨ RR l bs (href07_Deep_1 (fun _ => List.replicate) (iterV (gref07_Deep_2 (fun _ => List.replicate) big self self1) big) self self1 (l, bs, c, (i : Int), d, t))
        unfold href07_Deep_1
        dsimp only
        rw [decide_eq_true (show (i : Int) < (l.length : Int) by omega), cond_true, Behind_eq h hi, Option.bind_some]
        have hgl := G_len l i
        refine range_post (σ := Bool × List Int × List Bool) (g := gref07_Deep_2 (fun _ => List.replicate) big self self1) (n := (G l i).length) (fun s k => (l, bs, s.1, (i : Int), (k : Int), s.2.1, s.2.2, ints (G l i)))
          (fun k s => (DP (G l) (da bs) l.length s.2.1 s.2.2 ∧ s.2.2.count false ≤ kn.count false ∧ (s.1 = true → s.2.2.count false < kn.count false) ∧ (s.1 = false → ∀ a b, a < i → s.2.2[a]? = some true → b ∈ G l a → EgD (da bs) s.2.1 s.2.2 a b)) ∧ (s.1 = false → s.2.2[i]? = some true → ∀ b ∈ (G l i).take k, EgD (da bs) s.2.1 s.2.2 i b))
          (fun r => (∃ s' : Bool × List Int × List Bool, (DP (G l) (da bs) l.length s'.2.1 s'.2.2 ∧ s'.2.2.count false ≤ kn.count false ∧ (s'.1 = true → s'.2.2.count false < kn.count false) ∧ (s'.1 = false → ∀ a b, a < i + 1 → s'.2.2[a]? = some true → b ∈ G l a → EgD (da bs) s'.2.1 s'.2.2 a b)) ∧ r = self1 (l, bs, s'.1, ((i + 1 : Nat) : Int), s'.2.1, s'.2.2)) ∨ RR l bs r)
          ?_ ?_ (G l i).length 0 big (by simp) (big_gt2 (by omega)) (c, d, t) ⟨⟨g1, g2, g3, g4⟩, fun _ _ b hb => by simp at hb⟩
        · rintro self2 ⟨c, d, t⟩ ⟨⟨g1, g2, g3, g4⟩, g5⟩
          dsimp only at g1 g2 g3 g4 g5
          left
          show ∃ s' : Bool × List Int × List Bool, _ ∧ href07_Deep_2 (fun _ => List.replicate) self self1 self2 (l, bs, c, (i : Int), ((G l i).length : Int), d, t, ints (G l i)) = _
          unfold href07_Deep_2
          dsimp only
          rw [ints_len (G l i), decide_eq_false (by omega), cond_false, w64 (by omega) (by omega)]
          refine ⟨(c, d, t), ⟨g1, g2, g3, fun hf a b ha h3 hbm => ?_⟩, rfl⟩
          by_cases e : a = i
          · subst e
            exact g5 hf h3 b (by rw [List.take_length]; exact hbm)
          · exact g4 hf a b (by omega) h3 hbm
        · rintro self2 ⟨c, d, t⟩ k hk ⟨⟨g1, g2, g3, g4⟩, g5⟩
          dsimp only at g1 g2 g3 g4 g5
          have hj : (G l i)[k]? = some (G l i)[k] := List.getElem?_eq_getElem hk
          have hjm : (G l i)[k] ∈ G l i := List.getElem_mem hk
          have hjl := G_lt h hi hjm
          generalize (G l i)[k] = j at *
          have hld := g1.ld
          have hlk := g1.lk
          have hb1 := by_at hb i
          have hgk := nth_at (ints_at hj)
          show (∃ s' : Bool × List Int × List Bool, _ ∧ href07_Deep_2 (fun _ => List.replicate) self self1 self2 (l, bs, c, (i : Int), (k : Int), d, t, ints (G l i)) = _) ∨ ((∃ s' : Bool × List Int × List Bool, _ ∧ href07_Deep_2 (fun _ => List.replicate) self self1 self2 (l, bs, c, (i : Int), (k : Int), d, t, ints (G l i)) = _) ∨ RR l bs (href07_Deep_2 (fun _ => List.replicate) self self1 self2 (l, bs, c, (i : Int), (k : Int), d, t, ints (G l i))))
          generalize hX : href07_Deep_2 (fun _ => List.replicate) self self1 self2 (l, bs, c, (i : Int), (k : Int), d, t, ints (G l i)) = X
          unfold href07_Deep_2 at hX
          dsimp only at hX
          simp only [ints_len, hld, hlk, in_r hi, in_r hk, in_r hjl, cond_true, hgk, da_at (show i < d.length by omega), da_at (show j < d.length by omega), da_getI (show i < bs.length by omega), Option.bind_some, List.length_set] at hX
          rw [decide_eq_true (show (k : Int) < ((G l i).length : Int) by omega), cond_true, w64 (z := (k : Int) + 1) (by omega) (by omega), w64 (z := (i : Int) + 1) (by omega) (by omega), Int.toNat_natCast, Int.toNat_natCast, nth_get, nth_get] at hX
          rcases bool_at (m := t) (j := i) (by omega) with hbi | hbi
          · have hk1 := g1.kr i hbi
            have hnext := fun D (hD : Right (G l) (da bs) l.length D) => g1.next hbi hjm hD
            have hgd := fun hk => EgD.step g1 hbi hjl hk
            have hpd := fun a b c => g1.step hbi hjm hjl a b c
            have hw : IntKind.i64.wrap (da d i + da bs i) = da d i + da bs i := w64 (by omega) (by omega)
            rw [hbi, hw] at hX
            simp only [Option.bind_some, cond_true] at hX
            generalize da d i + da bs i = v at *
            have bad : (¬ (0 ≤ v ∧ v ≤ 4096) ∨ (t[j]? = some true ∧ da d j ≠ v)) → X = some ([], false) → RR l bs X := fun hbad hx => by
              refine .inr ⟨fun D hD => ?_, [], hx⟩
              have := hnext D hD
              rcases hbad with hbad | ⟨hb1, hb2⟩
              · exact hbad this.1
              · exact hb2 (this.2.2 hb1)
            rcases bool_at (m := t) (j := j) (by omega) with hbj | hbj
            · rw [hbj] at hX
              simp only [Option.bind_some, Bool.not_true, cond_false, cond_true] at hX
              by_cases e : da d j = v
              · have hv := g1.kr j hbj
                rw [show (da d j != v) = false by simp [e], cond_false, decide_eq_false (by omega), cond_false, decide_eq_false (by omega), cond_false] at hX
                left
                refine ⟨(c, d, t), ⟨⟨g1, g2, g3, g4⟩, fun hf h3 b hbm => ?_⟩, hX.symm⟩
                rcases take_mem hj hbm with h5 | rfl
                · exact g5 hf h3 b h5
                · have := (hgd (fun _ => e)).2
                  rw [set_id hbj, set_id (show d[b]? = some v by rw [da_get (by omega), e])] at this
                  exact this
              · rw [show (da d j != v) = true by simpa using e, cond_true] at hX
                exact .inr (.inr (bad (.inr ⟨hbj, e⟩) hX.symm))
            · rw [hbj] at hX
              simp only [Option.bind_some, Bool.not_false, cond_false, cond_true] at hX
              by_cases a : v < 0
              · rw [decide_eq_true a, cond_true] at hX
                exact .inr (.inr (bad (.inl (by omega)) hX.symm))
              by_cases b : v > 4096
              · rw [decide_eq_false a, cond_false, decide_eq_true b, cond_true] at hX
                exact .inr (.inr (bad (.inl (by omega)) hX.symm))
              rw [decide_eq_false a, cond_false, decide_eq_false b, cond_false] at hX
              left
              have hkn : t[j]? = some true → da d j = v := fun e => by rw [hbj] at e; cases e
              have hcn := count_new hbj
              refine ⟨(true, d.set j v, t.set j true), ⟨⟨hpd (by omega) (by omega) hkn, (show (t.set j true).count false ≤ kn.count false by omega), (fun _ => show (t.set j true).count false < kn.count false by omega), (fun e => nomatch e)⟩, (fun e => nomatch e)⟩, hX.symm⟩
          · right
            left
            rw [hbi] at hX
            simp only [Option.bind_some, cond_false] at hX
            refine ⟨(c, d, t), ⟨g1, g2, g3, fun hf a b ha h3 hbm => ?_⟩, hX.symm⟩
            by_cases e : a = i
            · subst e
              rw [hbi] at h3
              cases h3
            · exact g4 hf a b (by omega) h3 hbm
  · exact ⟨true, _, _, rfl, DP.start h1, fun e => by cases e⟩
  · have := start_count l.length h1
    refine big_gt2 ?_
    show 2 * ((List.replicate l.length false).set 0 true).count false + 1 ≤ _
    omega

theorem Added_eq (l : List Ins) (bs : List Int) (hm : bs.length ≤ 1000000 ∨ bs.length ≠ l.length) : cref07_Added (l, bs) = some (decide (bs.length = l.length) && byOk bs) := by
  show nref07_Added (iterV (gref07_Added_0 big) big) (l, bs) = _
  unfold nref07_Added
  dsimp only
  by_cases hl : bs.length = l.length
  · rw [show ((bs.length : Int) != (l.length : Int)) = false by rw [hl]; simp, cond_false, decide_eq_true hl, Bool.true_and]
    have hm := hm.resolve_right (fun e => e hl)
    refine range_post (σ := Unit) (g := gref07_Added_0 big) (n := bs.length) (fun _ i => (bs, (i : Int))) (fun i _ => ∀ k b, k < i → bs[k]? = some b → (decide (-4096 ≤ b) && decide (b ≤ 4096)) = true) (fun r => r = some (byOk bs)) ?_ ?_ bs.length 0 big (by simp) (big_gt2 (by omega)) () (fun k b hk => absurd hk (Nat.not_lt_zero _))
    · rintro self _ hI
      have hb : byOk bs = true := all_at.2 fun k b hk => hI k b (List.getElem?_eq_some_iff.1 hk).1 hk
      rw [hb]
      show href07_Added_0 self _ = _
      unfold href07_Added_0
      dsimp only
      rw [decide_eq_false (by omega), cond_false]
    · rintro self _ i hi hI
      have hx : bs[i]? = some bs[i] := List.getElem?_eq_getElem hi
      have e0 : gref07_Added_0 big self (bs, (i : Int)) = href07_Added_0 self (bs, (i : Int)) := rfl
      rw [e0]
      unfold href07_Added_0
      dsimp only
      rw [decide_eq_true (show (i : Int) < (bs.length : Int) by omega), cond_true]
      simp only [getI_lt hx, Option.bind_some]
      rw [w64 (z := (i : Int) + 1) (by omega) (by omega)]
      have bad : (decide (-4096 ≤ bs[i]) && decide (bs[i] ≤ 4096)) = false → byOk bs = false := fun e => by
        cases hh : byOk bs with
        | false => rfl
        | true => rw [all_at.1 hh i _ hx] at e; cases e
      by_cases a : bs[i] < -4096
      · right
        rw [bad (by rw [decide_eq_false (show ¬ -4096 ≤ bs[i] by omega)]; rfl), decide_eq_true a]
        rfl
      by_cases b : bs[i] > 4096
      · right
        rw [bad (by rw [decide_eq_false (show ¬ bs[i] ≤ 4096 by omega), Bool.and_false]), decide_eq_false a, decide_eq_true b]
        rfl
      left
      refine ⟨(), fun k v hk hkb => ?_, by rw [decide_eq_false a, decide_eq_false b]; rfl⟩
      by_cases e2 : k = i
      · subst e2
        rw [hx] at hkb
        cases hkb
        rw [decide_eq_true (show -4096 ≤ bs[k] by omega), decide_eq_true (show bs[k] ≤ 4096 by omega)]
        rfl
      · exact hI k v (by omega) hkb
  · rw [show ((bs.length : Int) != (l.length : Int)) = true by simp; omega, cond_true, decide_eq_false hl]
    rfl

theorem rDepths_eq {l : List Ins} (hw : WfC l) (bs : List Int) : DepthsR l bs (cref07_Depths (l, bs)) := by
  show DepthsR l bs (nref07_Depths (l, bs))
  unfold nref07_Depths DepthsR
  dsimp only
  rw [rCheck7_eq l hw, Option.bind_some]
  by_cases h : okC l = true
  · obtain ⟨h1, h2, _, _⟩ := okC_parts h
    rw [if_pos h, if_pos h, show ((0 : Int) != 0) = false from rfl, cond_false, Added_eq _ _ (by omega), Option.bind_some]
    by_cases hb : bs.length = l.length ∧ byOk bs = true
    · rw [if_pos hb, decide_eq_true hb.1, hb.2]
      simp only [Bool.and_self, Bool.not_true, cond_false]
      rcases Deep_eq h hb.1 hb.2 with ⟨dep, e, hd⟩ | ⟨hn, dep, e⟩
      · left
        exact ⟨dep, by rw [e]; rfl, hd⟩
      · right
        exact ⟨hn, by rw [e]; rfl⟩
    · rw [if_neg hb, show (decide (bs.length = l.length) && byOk bs) = false by
        cases e1 : byOk bs with
        | false => rw [Bool.and_false]
        | true => rw [Bool.and_true, decide_eq_false fun e => hb ⟨e, e1⟩]]
      rfl
  · rw [if_neg h, if_neg h]
    rfl

/-! ### FlowMasks -/
theorem MasksR.ex {l : List Ins} {p s : Int} {r : Option (List Int × Int)} (h : MasksR l p s r) : ∃ a e, r = some (a, e) ∧ a.length ≤ 1000 := by
  unfold MasksR at h
  split at h
  · rename_i ho
    split at h
    · obtain ⟨fs, e, hm⟩ := h
      have := (okC_parts ho).2.1
      have := hm.1
      exact ⟨_, _, e, by rw [ints_len]; omega⟩
    · exact ⟨_, _, h, by simp⟩
  · exact ⟨_, _, h, by simp⟩
theorem DepthsR.ex {l : List Ins} {bs : List Int} {r : Option (List Int × Int)} (h : DepthsR l bs r) : ∃ a e, r = some (a, e) ∧ a.length ≤ 1000 := by
  unfold DepthsR at h
  split at h
  · rename_i ho
    split at h
    · rcases h with ⟨dep, e, hm⟩ | ⟨_, e⟩
      · have := (okC_parts ho).2.1
        have := hm.1
        exact ⟨_, _, e, by omega⟩
      · exact ⟨_, _, e, by simp⟩
    · exact ⟨_, _, h, by simp⟩
  · exact ⟨_, _, h, by simp⟩

theorem masks_true7 (x : Y0 × Int × Int × Y1) (w : WfL [Z3, Z1, Z1, Z4] x) : claw07_FlowMasks x = some true := by
  obtain ⟨l, p, s, bs⟩ := x
  have hw : WfC l := wf_code w.1
  show nlaw07_FlowMasks (l, p, s, bs) = _
  unfold nlaw07_FlowMasks
  dsimp only
  rw [Great_eq, Option.bind_some]
  cases hg : great l with
  | true => rfl
  | false =>
    have hl := great_len hg
    rw [cond_false]
    by_cases hbl : bs.length > 210
    · rw [decide_eq_true (show (bs.length : Int) > 210 by omega)]
      rfl
    · rw [decide_eq_false (show ¬ (bs.length : Int) > 210 by omega), cond_false, copy_ok (by omega), cond_true, copy1_ok (by omega), cond_true]
      have hM := (Masks_eq (l := l) p s).same (rMasks_eq hw p s)
      obtain ⟨a, ea, h1, h2⟩ := (rMasks_eq hw p s).ex
      have hD := (Depths_eq l bs).same (rDepths_eq hw bs)
      obtain ⟨b, eb, h3, h4⟩ := (rDepths_eq hw bs).ex
      rw [hM, h1, Option.bind_some, Option.bind_some, hD, show List.append ([] : Y1) bs = bs from rfl, h3, Option.bind_some, Option.bind_some]
      dsimp only
      rw [SameMasks_eq _ _ h2, Option.bind_some, rSameInts_eq _ _ h4, rSameInts_eq _ _ (by omega)]
      simp only [decide_true, cond_true, beq_self_eq_true, Option.bind_some]
      show ((cref07_Same (l, List.append [] l)).bind fun x10 => bif x10 then some true else some false) = some true
      rw [show List.append [] l = l from rfl, Same7_eq l (by omega)]
      rfl

/-! ### FlowDepths -/
theorem deep_eq {l : List Ins} (h : okC l = true) {bs : List Int} (hl : bs.length = l.length) (hb : byOk bs = true) (d : List Int) :
    ((d.length = l.length ∧ da d (l.length - 1) = 0 ∧ Right (G l) (da bs) l.length (da d)) → claw07_deep (l, bs, d) = some true) ∧ (¬ (d.length = l.length ∧ da d (l.length - 1) = 0 ∧ Right (G l) (da bs) l.length (da d)) → claw07_deep (l, bs, d) = some false) := by
  obtain ⟨h1, h2, hok, hlast⟩ := okC_parts h
  show (_ → nlaw07_deep (iterV (glaw07_deep_0 big) big) (l, bs, d) = _) ∧ (_ → nlaw07_deep (iterV (glaw07_deep_0 big) big) (l, bs, d) = _)
  unfold nlaw07_deep
  dsimp only
  by_cases hd : d.length = l.length
  · rw [show ((d.length : Int) != (l.length : Int)) = false by rw [hd]; simp, cond_false, show getI d 0 = some (da d 0) from da_getI (i := 0) (show 0 < d.length by omega), Option.bind_some]
    by_cases e0 : da d 0 = 0
    · rw [show (da d 0 != 0) = false by simp [e0], cond_false, last_w h1 (by omega), da_getI (show l.length - 1 < d.length by omega), Option.bind_some]
      by_cases en : da d (l.length - 1) = 0
      · rw [show (da d (l.length - 1) != 0) = false by simp [en], cond_false, Led_eq h, Option.bind_some]
        refine range_post (σ := Unit) (g := glaw07_deep_0 big) (n := l.length) (fun _ i => (l, bs, d, (i : Int), ledL l)) (fun i _ => ∀ a, a < i → Rc (G l) a → (0 ≤ da d a ∧ da d a ≤ 4096) ∧ ∀ b ∈ G l a, da d b = da d a + da bs a)
          (fun r => ((d.length = l.length ∧ da d (l.length - 1) = 0 ∧ Right (G l) (da bs) l.length (da d)) → r = some true) ∧ (¬ (d.length = l.length ∧ da d (l.length - 1) = 0 ∧ Right (G l) (da bs) l.length (da d)) → r = some false)) ?_ ?_ l.length 0 big (by simp) (big_gt2 (by omega)) () (fun a ha => absurd ha (Nat.not_lt_zero _))
        · rintro self _ hI
          have hR : Right (G l) (da bs) l.length (da d) := ⟨e0, fun i j hi hj => by
            have h3 := hI i (hi.lt h) hi
            have h4 := hI j ((Rc.step hi hj).lt h) (.step hi hj)
            exact ⟨h3.2 j hj, h4.1.1, h4.1.2, fun e => by rw [e]; exact en⟩⟩
          refine ⟨fun _ => ?_, fun hn => absurd ⟨hd, en, hR⟩ hn⟩
          show hlaw07_deep_0 _ self _ = _
          unfold hlaw07_deep_0
          dsimp only
          rw [decide_eq_false (by omega), cond_false]
        · rintro self _ i hi hI
          have e1 : glaw07_deep_0 big self (l, bs, d, (i : Int), ledL l) = hlaw07_deep_0 (iterV (glaw07_deep_1 big self) big) self (l, bs, d, (i : Int), ledL l) := rfl
          rw [e1]
          unfold hlaw07_deep_0
          dsimp only
          rw [decide_eq_true (show (i : Int) < (l.length : Int) by omega), cond_true]
          simp only [ledL_len, in_r hi, cond_true, Behind_eq h hi, Option.bind_some, da_getI (show i < d.length by omega)]
          rw [show nth (ledL l) (Int.toNat (i : Int)) = (ledL l)[i]? by rw [nth_get, Int.toNat_natCast]]
          have hgl := G_len l i
          have inner : (Rc (G l) i → 0 ≤ da d i ∧ da d i ≤ 4096) → (∃ s' : Unit, (∀ a, a < i + 1 → Rc (G l) a → (0 ≤ da d a ∧ da d a ≤ 4096) ∧ ∀ b ∈ G l a, da d b = da d a + da bs a) ∧ iterV (glaw07_deep_1 big self) big (l, bs, d, (i : Int), 0, ledL l, ints (G l i)) = self (l, bs, d, ((i + 1 : Nat) : Int), ledL l)) ∨ (((d.length = l.length ∧ da d (l.length - 1) = 0 ∧ Right (G l) (da bs) l.length (da d)) → iterV (glaw07_deep_1 big self) big (l, bs, d, (i : Int), 0, ledL l, ints (G l i)) = some true) ∧ (¬ (d.length = l.length ∧ da d (l.length - 1) = 0 ∧ Right (G l) (da bs) l.length (da d)) → iterV (glaw07_deep_1 big self) big (l, bs, d, (i : Int), 0, ledL l, ints (G l i)) = some false)) := by
            intro hin
            refine range_post (σ := Unit) (g := glaw07_deep_1 big self) (n := (G l i).length) (fun _ k => (l, bs, d, (i : Int), (k : Int), ledL l, ints (G l i))) (fun k _ => Rc (G l) i → ∀ b ∈ (G l i).take k, da d b = da d i + da bs i)
              (fun r => (∃ s' : Unit, (∀ a, a < i + 1 → Rc (G l) a → (0 ≤ da d a ∧ da d a ≤ 4096) ∧ ∀ b ∈ G l a, da d b = da d a + da bs a) ∧ r = self (l, bs, d, ((i + 1 : Nat) : Int), ledL l)) ∨ (((d.length = l.length ∧ da d (l.length - 1) = 0 ∧ Right (G l) (da bs) l.length (da d)) → r = some true) ∧ (¬ (d.length = l.length ∧ da d (l.length - 1) = 0 ∧ Right (G l) (da bs) l.length (da d)) → r = some false))) ?_ ?_ (G l i).length 0 big (by simp) (big_gt2 (by omega)) () (fun _ b hb => by simp at hb)
            · rintro self1 _ hJ
              left
              refine ⟨(), fun a ha hra => ?_, ?_⟩
              · by_cases e : a = i
                · subst e
                  refine ⟨hin hra, fun b hb => hJ hra b (by rw [List.take_length]; exact hb)⟩
                · exact hI a (by omega) hra
              · show hlaw07_deep_1 self self1 _ = _
                unfold hlaw07_deep_1
                dsimp only
                rw [ints_len (G l i), decide_eq_false (by omega), cond_false, w64 (by omega) (by omega)]
                rfl
            · rintro self1 _ k hk hJ
              have hj : (G l i)[k]? = some (G l i)[k] := List.getElem?_eq_getElem hk
              have hjm : (G l i)[k] ∈ G l i := List.getElem_mem hk
              have hjl := G_lt h hi hjm
              generalize (G l i)[k] = j at *
              have hb1 := by_at hb i
              have e2 : glaw07_deep_1 big self self1 (l, bs, d, (i : Int), (k : Int), ledL l, ints (G l i)) = hlaw07_deep_1 self self1 (l, bs, d, (i : Int), (k : Int), ledL l, ints (G l i)) := rfl
              rw [e2]
              unfold hlaw07_deep_1
              dsimp only
              simp only [ints_len, ledL_len, in_r hi, in_r hk, cond_true, nth_at (ints_at hj), da_getI (show i < d.length by omega), da_getI (show j < d.length by omega), da_getI (show i < bs.length by omega), Option.bind_some]
              rw [decide_eq_true (show (k : Int) < ((G l i).length : Int) by omega), cond_true, w64 (z := (k : Int) + 1) (by omega) (by omega), w64 (z := (i : Int) + 1) (by omega) (by omega), show nth (ledL l) (Int.toNat (i : Int)) = (ledL l)[i]? by rw [nth_get, Int.toNat_natCast]]
              by_cases hri : Rc (G l) i
              · have hbd := hin hri
                rw [(ledL_at hi).2 hri, Option.bind_some, cond_true, w64 (z := da d i + da bs i) (by omega) (by omega)]
                by_cases e : da d j = da d i + da bs i
                · left
                  refine ⟨(), fun hri b hb => ?_, ?_⟩
                  · rcases take_mem hj hb with h3 | rfl
                    · exact hJ hri b h3
                    · exact e
                  · rw [show (da d j != da d i + da bs i) = false by simp [e], cond_false]
                    rfl
                · right
                  right
                  refine ⟨fun hh => absurd (hh.2.2.e i j hri hjm).1 e, fun _ => ?_⟩
                  rw [show (da d j != da d i + da bs i) = true by simpa using e]
                  rfl
              · right
                left
                rw [(ledL_false hi).2 hri, Option.bind_some, cond_false]
                refine ⟨(), fun a ha hra => ?_, rfl⟩
                exact hI a (by
                  have : a ≠ i := fun e => hri (e ▸ hra)
                  omega) hra
          by_cases hri : Rc (G l) i
          · rw [(ledL_at hi).2 hri, Option.bind_some, cond_true]
            by_cases a : da d i < 0
            · right
              rw [decide_eq_true a]
              exact ⟨fun hh => by have := hh.2.2.bd hri; omega, fun _ => rfl⟩
            by_cases b : da d i > 4096
            · right
              rw [decide_eq_false a, decide_eq_true b]
              exact ⟨fun hh => by have := hh.2.2.bd hri; omega, fun _ => rfl⟩
            rw [decide_eq_false a, decide_eq_false b, cond_false, cond_false]
            exact inner fun _ => by omega
          · rw [(ledL_false hi).2 hri, Option.bind_some, cond_false]
            exact inner fun e => absurd e hri
      · rw [show (da d (l.length - 1) != 0) = true by simpa using en]
        exact ⟨fun hh => absurd hh.2.1 en, fun _ => rfl⟩
    · rw [show (da d 0 != 0) = true by simpa using e0]
      exact ⟨fun hh => absurd hh.2.2.z e0, fun _ => rfl⟩
  · rw [show ((d.length : Int) != (l.length : Int)) = true by simp; omega]
    exact ⟨fun hh => absurd hh.1 hd, fun _ => rfl⟩

theorem IsD.right {l : List Ins} (h : okC l = true) {bs dep : List Int} (hd : IsD l bs dep) : dep.length = l.length ∧ da dep (l.length - 1) = 0 ∧ Right (G l) (da bs) l.length (da dep) := by
  obtain ⟨h1, _⟩ := okC_parts h
  obtain ⟨g1, D, g2, g3⟩ := hd
  have hr : ∀ i, Rc (G l) i → da dep i = D i := fun i hi => (g3 i (hi.lt h)).1 hi
  refine ⟨g1, ?_, ⟨by rw [hr 0 .zero, g2.z], fun i j hi hj => ?_⟩⟩
  · by_cases e : Rc (G l) (l.length - 1)
    · rw [hr _ e]; exact g2.last e
    · exact (g3 _ (by omega)).2 e
  · rw [hr j (.step hi hj), hr i hi]
    exact g2.e i j hi hj

theorem depths_true7 (x : Y0 × Y1 × Y1) (w : WfL [Z3, Z4, Z4] x) : claw07_FlowDepths x = some true := by
  obtain ⟨l, bs, d⟩ := x
  have hw : WfC l := wf_code w.1
  show nlaw07_FlowDepths (iterV (glaw07_FlowDepths_0 big) big) (l, bs, d) = _
  unfold nlaw07_FlowDepths
  dsimp only
  rw [fit_eq l hw, Option.bind_some, alive07]
  cases hfit : (!great l && okC l) with
  | false => rfl
  | true =>
    simp only [Bool.and_eq_true, Bool.not_eq_true'] at hfit
    obtain ⟨hgr, h⟩ := hfit
    obtain ⟨h1, h2, hok, hlast⟩ := okC_parts h
    rw [Bool.not_true, cond_false, Added_eq _ _ (by omega), Option.bind_some]
    by_cases hb : bs.length = l.length ∧ byOk bs = true
    · have hD := Depths_eq l bs
      unfold DepthsR at hD
      rw [if_pos h, if_pos hb] at hD
      rw [decide_eq_true hb.1, hb.2]
      simp only [Bool.and_self, Bool.not_true, cond_false]
      have hdp := deep_eq h hb.1 hb.2
      rcases hD with ⟨dep, e, hd⟩ | ⟨hn, e⟩
      · have hdr := hd.right h
        rw [e, Option.bind_some]
        dsimp only
        rw [show ((0 : Int) != 0) = false from rfl, cond_false, (hdp dep).1 hdr, Option.bind_some, Bool.not_true, cond_false, Led_eq h, Option.bind_some]
        obtain ⟨fl, hfl, hfl2⟩ : ∃ fl, claw07_deep (l, bs, d) = some fl ∧ (fl = true → d.length = l.length ∧ da d (l.length - 1) = 0 ∧ Right (G l) (da bs) l.length (da d)) := by
          by_cases hh : d.length = l.length ∧ da d (l.length - 1) = 0 ∧ Right (G l) (da bs) l.length (da d)
          · exact ⟨true, (hdp d).1 hh, fun _ => hh⟩
          · exact ⟨false, (hdp d).2 hh, fun e => by cases e⟩
        rw [hfl, Option.bind_some]
        have hzero : ∀ i, i < l.length → ¬ Rc (G l) i → da dep i = 0 := fun i hi hr => by
          obtain ⟨_, D, _, g3⟩ := hd
          exact (g3 i hi).2 hr
        refine range_post (σ := Unit) (g := glaw07_FlowDepths_0 big) (n := l.length) (fun _ i => (l, d, fl, (i : Int), dep, ledL l)) (fun i _ => True) (fun r => r = some true) ?_ ?_ l.length 0 big (by simp) (big_gt2 (by omega)) () trivial
        · rintro self _ _
          show hlaw07_FlowDepths_0 self _ = _
          unfold hlaw07_FlowDepths_0
          dsimp only
          rw [decide_eq_false (by omega), cond_false, alive07]
          rfl
        · rintro self _ i hi _
          left
          refine ⟨(), trivial, ?_⟩
          show hlaw07_FlowDepths_0 self _ = _
          unfold hlaw07_FlowDepths_0
          dsimp only
          rw [decide_eq_true (show (i : Int) < (l.length : Int) by omega), cond_true]
          have hdl := hdr.1
          simp only [ledL_len, hdl, in_r hi, cond_true, da_at (show i < dep.length by omega), Option.bind_some]
          rw [w64 (z := (i : Int) + 1) (by omega) (by omega), show nth (ledL l) (Int.toNat (i : Int)) = (ledL l)[i]? by rw [nth_get, Int.toNat_natCast]]
          by_cases hri : Rc (G l) i
          · rw [(ledL_at hi).2 hri]
            simp only [Option.bind_some, Bool.not_true, cond_false, cond_true]
            cases fl with
            | false => rfl
            | true =>
              obtain ⟨k1, k2, k3⟩ := hfl2 rfl
              rw [cond_true, da_getI (show i < d.length by omega), Option.bind_some, k3.uniq hdr.2.2 hri, show (da dep i != da dep i) = false by simp]
              rfl
          · rw [(ledL_false hi).2 hri]
            simp only [Option.bind_some, Bool.not_false, cond_false, cond_true, hzero i hi hri]
            rfl
      · rw [e, Option.bind_some]
        dsimp only
        rw [(hdp d).2 fun hh => hn _ hh.2.2]
        rfl
    · rw [show (decide (bs.length = l.length) && byOk bs) = false by
        cases e1 : byOk bs with
        | false => rw [Bool.and_false]
        | true => rw [Bool.and_true, decide_eq_false fun e => hb ⟨e, e1⟩]]
      rfl

/-! ### FlowWalk -/
theorem walk_loop {l : List Ins} (h : okC l = true) (hw : WfC l) {bs : List Int} (hl : bs.length = l.length) (hb : byOk bs = true) {pk : List Int} (hpk : pk.length ≤ 200) {P A : Nat} (hP : P < 65536) (hA : A < 65536) {fs : List Nat} (hm : IsM l (wm l) P A fs) {e : Int} {dep : List Int} (he : e = 0 → dep.length = l.length ∧ Right (G l) (da bs) l.length (da dep)) :
    iterV (glaw07_FlowWalk_0 big) big (l, bs, pk, e, 0, (P : Int), 0, 0, ints fs, reachL l, dep) = some true := by
  obtain ⟨h1, h2, hok, hlast⟩ := okC_parts h
  have hW := wm16 h
  have hfl := hm.1
  have hf16 := hm.up h hA
  have hH := hm.hold h
  refine range_post (σ := Nat × Nat × Int) (g := glaw07_FlowWalk_0 big) (n := pk.length + 1) (fun s i => (l, bs, pk, e, (s.1 : Int), (s.2.1 : Int), s.2.2, (i : Int), ints fs, reachL l, dep))
    (fun i s => Rc (G l) s.1 ∧ s.2.1 < 65536 ∧ Sb (ma fs s.1) s.2.1 ∧ (e = 0 → da dep s.1 = s.2.2)) (fun r => r = some true) ?_ ?_ (pk.length + 1) 0 big (by simp) (big_gt2 (by omega)) (0, P, 0) ⟨.zero, hP, hH.p, fun h0 => (he h0).2.z⟩
  · rintro self ⟨a, m, d⟩ _
    show hlaw07_FlowWalk_0 self _ = _
    unfold hlaw07_FlowWalk_0
    dsimp only
    rw [decide_eq_false (by omega), cond_false, alive07]
    rfl
  · rintro self ⟨a, m, d⟩ i hi ⟨i1, i2, i3, i4⟩
    dsimp only at i1 i2 i3 i4
    have ha := i1.lt h
    have hx : l[a]? = some l[a] := List.getElem?_eq_getElem ha
    have hwx := hw _ (List.getElem_mem ha)
    have hwr : cref07_Written l[a] = some ((ma (wm l) a : Nat) : Int) := by rw [Written_eq (hok a _ hx).1 hwx.1 hwx.2, wm_get hx]
    have hN : cflow_Next (l, (a : Int)) = some (ints (G l a), 0) := by rw [Next_eq, if_pos h, if_pos ⟨by omega, by omega⟩, Int.toNat_natCast]
    have hR : nth (reachL l) (Int.toNat (a : Int)) = some true := by rw [nth_get, Int.toNat_natCast]; exact (reachL_at h ha).2 (.inl i1)
    have hb1 := by_at hb a
    have hgl := G_len l a
    have e0 : glaw07_FlowWalk_0 big self (l, bs, pk, e, (a : Int), (m : Int), d, (i : Int), ints fs, reachL l, dep) = hlaw07_FlowWalk_0 self (l, bs, pk, e, (a : Int), (m : Int), d, (i : Int), ints fs, reachL l, dep) := rfl
    show (∃ s' : Nat × Nat × Int, _ ∧ glaw07_FlowWalk_0 big self (l, bs, pk, e, (a : Int), (m : Int), d, (i : Int), ints fs, reachL l, dep) = _) ∨ glaw07_FlowWalk_0 big self (l, bs, pk, e, (a : Int), (m : Int), d, (i : Int), ints fs, reachL l, dep) = some true
    rw [e0]
    generalize hX : hlaw07_FlowWalk_0 self (l, bs, pk, e, (a : Int), (m : Int), d, (i : Int), ints fs, reachL l, dep) = X
    have key : X = (bif ((G l a).length : Int) == 0 then some true else bif ((i : Int) == (pk.length : Int)) then some true else (getI pk (i : Int)).bind fun x => bif decide (x < 0) then some true else
        (getI (ints (G l a)) (x.tmod ((G l a).length : Int))).bind fun j => bif decide (j < 0) then some false else bif decide (j ≥ (l.length : Int)) then some false else
          self (l, bs, pk, e, j, ((m ||| ma (wm l) a : Nat) : Int), IntKind.i64.wrap (d + da bs a), ((i + 1 : Nat) : Int), ints fs, reachL l, dep)) := by
      rw [← hX]
      unfold hlaw07_FlowWalk_0
      dsimp only
      rw [decide_eq_true (show (i : Int) ≤ (pk.length : Int) by omega), cond_true]
      simp only [ints_len, hfl, reachL_len, in_r ha, cond_true, ma_at (show a < fs.length by omega), hR, hN, Option.bind_some, bandNot (hf16 a) (Nat.lt_trans i2 (by decide)), diff_zero.2 i3, getI_lt hx, hwr, bor i2 (hW a), da_getI (show a < bs.length by omega), alive07, show (((0 : Nat) : Int) != 0) = false from rfl, show ((0 : Int) != 0) = false from rfl, cond_false, Bool.not_true]
      rw [w64 (z := (i : Int) + 1) (by omega) (by omega)]
      have fin : ∀ (c : Bool) (Y Z : Option Bool), (c = true → Y = Z) → (c = false → Y = Z) → Y = Z := fun c Y Z a b => by cases c; exact b rfl; exact a rfl
      by_cases ee : e = 0
      · obtain ⟨k1, k2⟩ := he ee
        rw [show (e == 0) = true by simp [ee], cond_true, k1, in_r ha, cond_true, da_at (show a < dep.length by omega), Option.bind_some, i4 ee, show (d != d) = false by simp, cond_false]
        cases hz : (((G l a).length : Int) == 0) with
        | true => rfl
        | false =>
          rw [cond_false, cond_false]
          cases ((i : Int) == (pk.length : Int)) with
          | true => rfl
          | false =>
            rw [cond_false, cond_false]
            cases getI pk (i : Int) with
            | none => rfl
            | some x => rfl
      · rw [show (e == 0) = false by simpa using ee, cond_false]
        cases hz : (((G l a).length : Int) == 0) with
        | true => rfl
        | false =>
          rw [cond_false, cond_false]
          cases ((i : Int) == (pk.length : Int)) with
          | true => rfl
          | false =>
            rw [cond_false, cond_false]
            cases getI pk (i : Int) with
            | none => rfl
            | some x => rfl
    rw [key]
    by_cases hz : (G l a).length = 0
    · right
      rw [show (((G l a).length : Int) == 0) = true by rw [hz]; rfl]
      rfl
    rw [show (((G l a).length : Int) == 0) = false by simp; intro e; rw [e] at hz; exact hz rfl, cond_false]
    by_cases hip : i = pk.length
    · right
      rw [show ((i : Int) == (pk.length : Int)) = true by simp [hip]]
      rfl
    rw [show ((i : Int) == (pk.length : Int)) = false by simp; omega, cond_false, getI_lt (List.getElem?_eq_getElem (show i < pk.length by omega)), Option.bind_some]
    by_cases hn : pk[i]'(by omega) < 0
    · right
      rw [decide_eq_true hn]
      rfl
    rw [decide_eq_false hn, cond_false]
    generalize pk[i]'(by omega) = x at *
    have hx0 : 0 ≤ x := by omega
    have ht : x.tmod ((G l a).length : Int) = ((x.toNat % (G l a).length : Nat) : Int) := by
      rw [Int.tmod_eq_emod_of_nonneg hx0, Int.natCast_emod, Int.toNat_of_nonneg hx0]
    have hk : x.toNat % (G l a).length < (G l a).length := Nat.mod_lt _ (by omega)
    have hj : (G l a)[x.toNat % (G l a).length]? = some (G l a)[x.toNat % (G l a).length] := List.getElem?_eq_getElem hk
    have hjm : (G l a)[x.toNat % (G l a).length] ∈ G l a := List.getElem_mem hk
    have hjl := G_lt h ha hjm
    rw [ht, getI_lt (ints_at hj), Option.bind_some]
    generalize (G l a)[x.toNat % (G l a).length] = j at *
    rw [decide_eq_false (show ¬ (j : Int) < 0 by omega), decide_eq_false (show ¬ (j : Int) ≥ (l.length : Int) by omega), cond_false, cond_false]
    left
    refine ⟨(j, m ||| ma (wm l) a, IntKind.i64.wrap (d + da bs a)), ⟨.step i1 hjm, or16 i2 (hW a), (hH.e a j i1 hjm).trans (Sb.or i3), fun h0 => ?_⟩, rfl⟩
    obtain ⟨k1, k2⟩ := he h0
    have hbd := k2.bd i1
    have h4 := i4 h0
    dsimp only
    rw [← h4, w64 (by omega) (by omega)]
    exact (k2.e a j i1 hjm).1

theorem walk_true7 (x : Y0 × Int × Int × Y1 × Y1) (w : WfL [Z3, Z1, Z1, Z4, Z4] x) : claw07_FlowWalk x = some true := by
  obtain ⟨l, p, s, bs, pk⟩ := x
  have hw : WfC l := wf_code w.1
  show nlaw07_FlowWalk (iterV (glaw07_FlowWalk_0 big) big) (l, p, s, bs, pk) = _
  unfold nlaw07_FlowWalk
  dsimp only
  rw [fit_eq l hw, Option.bind_some, alive07]
  cases hfit : (!great l && okC l) with
  | false => rfl
  | true =>
    simp only [Bool.and_eq_true, Bool.not_eq_true'] at hfit
    obtain ⟨hgr, h⟩ := hfit
    obtain ⟨h1, h2, hok, hlast⟩ := okC_parts h
    rw [Bool.not_true, cond_false, Fits_eq h hw, Option.bind_some]
    have hM := Masks_eq (l := l) p s
    unfold MasksR at hM
    rw [if_pos h] at hM
    by_cases hf : fitR l p s = 0
    · rw [if_pos hf] at hM
      obtain ⟨⟨p0, ps, s16⟩, _⟩ := fitR_zero.1 hf
      obtain ⟨fs, e, hm⟩ := hM
      have hA : low s < 65536 := least16 s16
      have hP : low p < 65536 := least16 (by omega)
      have hleP := least_eq p0 (show p ≤ 16 by omega)
      rw [show 2 ^ p.toNat - 1 = low p from rfl] at hleP
      rw [hf, show ((0 : Int) != 0) = false from rfl, cond_false, Added_eq _ _ (by omega), Option.bind_some]
      by_cases hb : bs.length = l.length ∧ byOk bs = true
      · rw [decide_eq_true hb.1, hb.2]
        simp only [Bool.and_self, Bool.not_true, cond_false]
        by_cases hpk : pk.length > 200
        · rw [decide_eq_true (show (pk.length : Int) > 200 by omega)]
          rfl
        · rw [decide_eq_false (show ¬ (pk.length : Int) > 200 by omega), cond_false, e, Option.bind_some, Reached_eq, if_pos h, Option.bind_some]
          have hD := Depths_eq l bs
          unfold DepthsR at hD
          rw [if_pos h, if_pos hb] at hD
          have hfl := hm.1
          have hwalk := fun (e : Int) (dep : List Int) he => walk_loop h hw hb.1 hb.2 (pk := pk) (by omega) hP hA hm (e := e) (dep := dep) he
          rcases hD with ⟨dep, ed, hd⟩ | ⟨hn, ed⟩
          · have hdr := hd.right h
            rw [ed, Option.bind_some]
            dsimp only
            rw [ints_len, hfl, reachL_len, hdr.1, hleP, Option.bind_some]
            rw [show ((l.length : Int) != (l.length : Int)) = false by simp]
            exact hwalk 0 dep fun _ => ⟨hdr.1, hdr.2.2⟩
          · rw [ed, Option.bind_some]
            dsimp only
            rw [ints_len, hfl, reachL_len, hleP, Option.bind_some]
            rw [show ((l.length : Int) != (l.length : Int)) = false by simp]
            exact hwalk 36 [] fun e => by cases e
      · rw [show (decide (bs.length = l.length) && byOk bs) = false by
          cases e1 : byOk bs with
          | false => rw [Bool.and_false]
          | true => rw [Bool.and_true, decide_eq_false fun e => hb ⟨e, e1⟩]]
        rfl
    · rw [show (fitR l p s != 0) = true by simpa using hf]
      rfl
end Go.Proofs.YtkklpkkhepcaiaaDoor
