/- Regions whose order is open, in the wider reading: whatever the order, what the frame says holds. -/
import Derived.Test.YtlmhokakghbciaaRiT
namespace Go.Lift
open Go.RowKit

/-! ### The last one that writes -/
section
variable {V : Type} {sel sel' : Nat → Bool} {f : Nat → Option V}

def lastW (sel : Nat → Bool) (f : Nat → Option V) : Nat → Option V
  | 0 => none
  | n + 1 => if sel n = true ∧ (f n).isSome = true then f n else lastW sel f n

theorem lastW_congr : ∀ {n : Nat}, (∀ j, j < n → (f j).isSome = true → sel j = sel' j) → lastW sel f n = lastW sel' f n
  | 0, _ => rfl
  | n + 1, h => by
    simp only [lastW]
    rw [lastW_congr fun j hj => h j (by omega)]
    cases hf : (f n).isSome with
    | false => simp
    | true => rw [h n (by omega) hf]
theorem lastW_hit {v : V} {i : Nat} : ∀ {n : Nat}, i < n → sel i = true → f i = some v → (∀ j, i < j → j < n → sel j = true → f j = none) → lastW sel f n = some v
  | 0, h, _, _, _ => by omega
  | n + 1, h, hs, hv, hn => by
    simp only [lastW]
    by_cases hi : i = n
    · subst hi
      rw [if_pos ⟨hs, by rw [hv]; rfl⟩]
      exact hv
    · rw [if_neg, lastW_hit (by omega) hs hv fun j h1 h2 => hn j h1 (by omega)]
      rintro ⟨h1, h2⟩
      rw [hn n (by omega) (by omega) h1] at h2
      cases h2
end

section
variable {V : Type} {f : Nat → Option V}
theorem lastW_none {sel : Nat → Bool} : ∀ {n : Nat}, (∀ j, j < n → sel j = false) → lastW sel f n = none
  | 0, _ => rfl
  | n + 1, h => by
    simp only [lastW]
    rw [if_neg (by rw [h n (by omega)]; simp), lastW_none fun j hj => h j (by omega)]
theorem lastW_inv {sel : Nat → Bool} : ∀ {n : Nat}, ((∀ j, j < n → sel j = true → f j = none) ∧ lastW sel f n = none) ∨ ∃ w, w < n ∧ sel w = true ∧ lastW sel f n = f w ∧ (f w).isSome = true ∧ ∀ j, w < j → j < n → sel j = true → f j = none
  | 0 => .inl ⟨fun j hj => by omega, rfl⟩
  | n + 1 => by
    simp only [lastW]
    by_cases h : sel n = true ∧ (f n).isSome = true
    · exact .inr ⟨n, by omega, h.1, by rw [if_pos h], h.2, fun j h1 h2 => by omega⟩
    · rw [if_neg h]
      have hn : sel n = true → f n = none := fun hs => by
        cases hf : f n with
        | none => rfl
        | some v => exact absurd ⟨hs, by rw [hf]; rfl⟩ h
      rcases lastW_inv (sel := sel) (n := n) with ⟨h1, h2⟩ | ⟨w, h1, h2, h3, h4, h5⟩
      · refine .inl ⟨fun j hj hs => ?_, h2⟩
        rcases Nat.lt_or_ge j n with hlt | hge
        · exact h1 j hlt hs
        · have : j = n := by omega
          subst this; exact hn hs
      · refine .inr ⟨w, by omega, h2, h3, h4, fun j hj1 hj2 hs => ?_⟩
        rcases Nat.lt_or_ge j n with hlt | hge
        · exact h5 j hj1 hlt hs
        · have : j = n := by omega
          subst this; exact hn hs
/-- what stood there before, if nobody wrote it since -/
theorem lastW_back {base : Option V} {v : V} {i j n : Nat} (hji : j ≤ i) (_ : i ≤ n) (h : (lastW (fun m => decide (m < i)) f n).or base = some v) (hl : ∀ w, j ≤ w → w < i → f w = some v → False) : (lastW (fun m => decide (m < j)) f n).or base = some v := by
  rcases lastW_inv (sel := fun m => decide (m < i)) (f := f) (n := n) with ⟨h1, h2⟩ | ⟨w, h1, h2, h3, h4, h5⟩
  · rw [h2] at h
    rcases lastW_inv (sel := fun m => decide (m < j)) (f := f) (n := n) with ⟨_, g2⟩ | ⟨w, g1, g2, g3, g4, _⟩
    · rw [g2]; exact h
    · rw [h1 w g1 (by simp at g2 ⊢; omega)] at g4; cases g4
  · rw [h3] at h
    have hw : w < i := by simpa using h2
    cases hf : f w with
    | none => rw [hf] at h4; cases h4
    | some u =>
      rw [hf] at h
      have hu : u = v := by simpa using h
      subst hu
      have hwj : w < j := by
        rcases Nat.lt_or_ge w j with hlt | hge
        · exact hlt
        · exact (hl w hge hw hf).elim
      rw [lastW_hit (sel := fun m => decide (m < j)) h1 (by simpa using hwj) hf fun m hm1 hm2 hm3 => h5 m hm1 hm2 (by simp at hm3 ⊢; omega)]
      rfl
end

def eS (e : Eff2) (s : Nat) : Option RV := if e.d = some s then some e.rv else none
def eO (e : Eff2) (id : Nat) : Option Ob := match e.o with
  | some p => if p.1 = id then some p.2 else none
  | none => none

/-! ### Names that are taken away -/
def killFo : Option Nat → Nat → Option Nat
  | some d => killF d
  | none => some

theorem killO_s (kl : Option Nat) (st : St) (x : Nat) : lk x (killO kl st).s = (lk x st.s).map (mapR (killFo kl)) := by
  cases kl with
  | none => cases h : lk x st.s <;> simp [killO, killFo, mapR_some, h]
  | some d => simp only [killO, killSt, killFo, mapSl, lk_mapA]
theorem killO_l (kl : Option Nat) (st : St) (i : Nat) : lk i (killO kl st).l = if kl = some i then none else (lk i st.l).map (mapOb (killFo kl)) := by
  cases kl with
  | none => cases h : lk i st.l <;> simp [killO, killFo, mapOb_some, h]
  | some d =>
    simp only [killO, killFo, kill_lk, Option.some.injEq]
    by_cases h : i = d
    · subst h; simp
    · rw [if_neg h, if_neg (fun e => h e.symm)]
theorem killO_k (kl : Option Nat) (st : St) : (killO kl st).k = mapKs (killFo kl) st.k := by
  cases kl with
  | none => simp [killO, killFo, mapKs, mapSl, mapR_some]
  | some d => rfl
theorem killO_b (kl : Option Nat) (st : St) : (killO kl st).b = st.b := by cases kl <;> rfl

theorem apE_s (e : Eff2) (st : St) (s : Nat) : lk s (apE e st).s = (eS e s).or ((lk s st.s).map (mapR (killFo e.kl))) := by
  rw [← killO_s]
  unfold apE eS
  cases h : e.d with
  | none => simp
  | some d =>
    simp only [lk_cons, Option.some.injEq]
    by_cases hd : s = d
    · subst hd; simp
    · rw [if_neg hd, if_neg (fun h => hd h.symm)]; rfl
theorem apE_l (e : Eff2) (st : St) (i : Nat) : lk i (apE e st).l = (eO e i).or (if e.kl = some i then none else (lk i st.l).map (mapOb (killFo e.kl))) := by
  rw [← killO_l]
  unfold apE eO
  cases h : e.o with
  | none => simp
  | some p =>
    obtain ⟨j, ob⟩ := p
    simp only [lk_cons]
    by_cases hd : i = j
    · subst hd; simp
    · rw [if_neg hd, if_neg (fun h => hd h.symm)]; rfl
theorem apE_k (e : Eff2) (st : St) : (apE e st).k = mapKs (killFo e.kl) st.k := killO_k e.kl st
theorem apE_b (e : Eff2) (st : St) : (apE e st).b = st.b := killO_b e.kl st

theorem mapR_comp (f g : Nat → Option Nat) : ∀ rv, mapR f (mapR g rv) = mapR (fun i => (g i).bind f) rv := by
  intro rv
  induction rv with
  | row i => simp only [mapR]; cases g i <;> rfl
  | sub i lo hi => simp only [mapR]; cases g i <;> rfl
  | loc i p => simp only [mapR]; cases g i <;> rfl
  | mp i => simp only [mapR]; cases g i <;> rfl
  | yl i => simp only [mapR]; cases g i <;> rfl
  | clo h c ih => simp only [mapR, ih]
  | pair a b iha ihb => simp only [mapR, iha, ihb]
  | agg t r ih => simp only [mapR, ih]
  | tup r ih => simp only [mapR, ih]
  | _ => rfl
theorem mapR_congr {f g : Nat → Option Nat} : ∀ rv, (∀ i, hasId i rv = true → f i = g i) → mapR f rv = mapR g rv := by
  intro rv
  induction rv with
  | row i => intro h; simp only [mapR, h i (by simp [hasId])]
  | sub i lo hi => intro h; simp only [mapR, h i (by simp [hasId])]
  | loc i p => intro h; simp only [mapR, h i (by simp [hasId])]
  | mp i => intro h; simp only [mapR, h i (by simp [hasId])]
  | yl i => intro h; simp only [mapR, h i (by simp [hasId])]
  | clo _ c ih => intro h; simp only [mapR, ih h]
  | pair a b iha ihb => intro h; simp only [mapR, iha fun i hi => h i (by simp [hasId, hi]), ihb fun i hi => h i (by simp [hasId, hi])]
  | agg t r ih => intro h; simp only [mapR, ih h]
  | tup r ih => intro h; simp only [mapR, ih h]
  | _ => intro _; rfl
theorem mapR_keep {f : Nat → Option Nat} {rv : RV} (h : ∀ i, hasId i rv = true → f i = some i) : mapR f rv = rv := (mapR_congr rv h).trans (mapR_some rv)
theorem hasId_in {C : List Nat} {id : Nat} : ∀ {rv : RV}, inC C rv = true → hasId id rv = true → id ∈ C := by
  intro rv
  induction rv with
  | row i => intro h h'; have := Nat.eq_of_beq_eq_true h'; subst this; exact any_mem.1 h
  | sub i lo hi => intro h h'; have := Nat.eq_of_beq_eq_true h'; subst this; exact any_mem.1 h
  | loc i p => intro h h'; have := Nat.eq_of_beq_eq_true h'; subst this; exact any_mem.1 h
  | mp i => intro h h'; have := Nat.eq_of_beq_eq_true h'; subst this; exact any_mem.1 h
  | yl i => intro h h'; have := Nat.eq_of_beq_eq_true h'; subst this; exact any_mem.1 h
  | clo _ c ih => intro h h'; exact ih h h'
  | pair a b iha ihb =>
    intro h h'
    simp only [inC, Bool.and_eq_true] at h
    simp only [hasId, Bool.or_eq_true] at h'
    exact h'.elim (iha h.1) (ihb h.2)
  | agg t r ih => intro h h'; exact ih h h'
  | tup r ih => intro h h'; exact ih h h'
  | _ => intro _ h'; cases h'
theorem hasId_map {f : Nat → Option Nat} {id : Nat} (hf : f id = some id) : ∀ {rv : RV}, hasId id rv = true → hasId id (mapR f rv) = true := by
  intro rv
  induction rv with
  | row i => intro h; have := Nat.eq_of_beq_eq_true h; subst this; simp only [mapR, hf]; exact h
  | sub i lo hi => intro h; have := Nat.eq_of_beq_eq_true h; subst this; simp only [mapR, hf]; exact h
  | loc i p => intro h; have := Nat.eq_of_beq_eq_true h; subst this; simp only [mapR, hf]; exact h
  | mp i => intro h; have := Nat.eq_of_beq_eq_true h; subst this; simp only [mapR, hf]; exact h
  | yl i => intro h; have := Nat.eq_of_beq_eq_true h; subst this; simp only [mapR, hf]; exact h
  | clo _ c ih => intro h; exact ih h
  | pair a b iha ihb =>
    intro h
    simp only [hasId, Bool.or_eq_true] at h
    simp only [mapR, hasId, Bool.or_eq_true]
    exact h.imp iha ihb
  | agg t r ih => intro h; exact ih h
  | tup r ih => intro h; exact ih h
  | _ => intro h; cases h

theorem mapOb_comp (f g : Nat → Option Nat) (o : Ob) : mapOb f (mapOb g o) = mapOb (fun i => (g i).bind f) o := by
  cases o with
  | var t c => simp only [mapOb, mapR_comp]
  | row t xs => rfl
  | mp kt vt es => rfl
  | lp c q => simp only [mapOb, mapR_comp]
theorem mapOb_congr {f g : Nat → Option Nat} (o : Ob) (h : ∀ i, hasOb i o = true → f i = g i) : mapOb f o = mapOb g o := by
  cases o with
  | var t c => simp only [mapOb, mapR_congr c h]
  | row t xs => rfl
  | mp kt vt es => rfl
  | lp c q => simp only [mapOb, mapR_congr c h]
theorem mapOb_keep {f : Nat → Option Nat} {o : Ob} (h : ∀ i, hasOb i o = true → f i = some i) : mapOb f o = o := (mapOb_congr o h).trans (mapOb_some o)
theorem hasOb_map {f : Nat → Option Nat} {id : Nat} (hf : f id = some id) {o : Ob} (h : hasOb id o = true) : hasOb id (mapOb f o) = true := by
  cases o with
  | var t c => exact hasId_map hf h
  | row t xs => cases h
  | mp kt vt es => cases h
  | lp c q => exact hasId_map hf h
theorem mapKs_comp (f g : Nat → Option Nat) (k : List (Nat × List (Nat × RV))) : mapKs f (mapKs g k) = mapKs (fun i => (g i).bind f) k := by
  simp only [mapKs, mapSl, List.map_map]
  refine List.map_congr_left fun p _ => ?_
  simp only [Function.comp, List.map_map]
  congr 1
  refine List.map_congr_left fun q _ => ?_
  simp only [Function.comp, mapR_comp]

/-- the names that the chosen effects take away -/
def Kd (sel : Nat → Bool) (kf : Nat → Option Nat) (n id : Nat) : Bool := (List.range n).any fun j => sel j && decide (kf j = some id)
theorem Kd_iff {sel : Nat → Bool} {kf : Nat → Option Nat} {n id : Nat} : Kd sel kf n id = true ↔ ∃ j, j < n ∧ sel j = true ∧ kf j = some id := by
  simp only [Kd, List.any_eq_true, List.mem_range, Bool.and_eq_true, decide_eq_true_eq]
def Kf (sel : Nat → Bool) (kf : Nat → Option Nat) (n id : Nat) : Option Nat := if Kd sel kf n id = true then none else some id

theorem Kd_step {sel sel' : Nat → Bool} {kf : Nat → Option Nat} {n i : Nat} (hi : i < n) (hsel : ∀ j, sel' j = if j = i then true else sel j) (id : Nat) : Kd sel' kf n id = true ↔ Kd sel kf n id = true ∨ kf i = some id := by
  rw [Kd_iff, Kd_iff]
  constructor
  · rintro ⟨j, h1, h2, h3⟩
    rw [hsel] at h2
    by_cases hj : j = i
    · subst hj; exact .inr h3
    · rw [if_neg hj] at h2; exact .inl ⟨j, h1, h2, h3⟩
  · rintro (⟨j, h1, h2, h3⟩ | h)
    · exact ⟨j, h1, by rw [hsel, h2]; simp, h3⟩
    · exact ⟨i, hi, by rw [hsel]; simp, h⟩
theorem Kf_step {sel sel' : Nat → Bool} {kf : Nat → Option Nat} {n i : Nat} (hi : i < n) (hsel : ∀ j, sel' j = if j = i then true else sel j) (id : Nat) : (Kf sel kf n id).bind (killFo (kf i)) = Kf sel' kf n id := by
  have h := Kd_step (kf := kf) hi hsel id
  unfold Kf
  by_cases h1 : Kd sel kf n id = true
  · rw [if_pos h1, if_pos (h.2 (.inl h1))]; rfl
  · rw [if_neg h1, Option.bind_some]
    by_cases h2 : kf i = some id
    · rw [if_pos (h.2 (.inr h2)), h2]
      simp [killFo, killF]
    · rw [if_neg (fun h3 => (h.1 h3).elim h1 h2)]
      cases hk : kf i with
      | none => rfl
      | some d => exact killF_ne fun e => h2 (by rw [hk, e])

theorem Kd_none {sel : Nat → Bool} {kf : Nat → Option Nat} {n : Nat} (h : ∀ j, j < n → sel j = false) (id : Nat) : Kd sel kf n id = false := by
  cases hb : Kd sel kf n id with
  | false => rfl
  | true =>
    obtain ⟨j, h1, h2, _⟩ := Kd_iff.1 hb
    rw [h j h1] at h2
    cases h2
theorem Kf_keep {sel : Nat → Bool} {kf : Nat → Option Nat} {n id : Nat} (h : Kd sel kf n id = false) : Kf sel kf n id = some id := by
  unfold Kf
  rw [if_neg (by rw [h]; simp)]
theorem Kf_congr {sel sel' : Nat → Bool} {kf : Nat → Option Nat} {n id : Nat} (h : Kd sel kf n id = Kd sel' kf n id) : Kf sel kf n id = Kf sel' kf n id := by
  unfold Kf
  rw [h]

/-- a frame behind those effects that are chosen -/
structure Tells (sel : Nat → Bool) (n : Nat) (ef : Nat → Eff2) (st0 X : St) : Prop where
  s : ∀ s, lk s X.s = ((lastW sel (fun j => eS (ef j) s) n).or (lk s st0.s)).map (mapR (Kf sel (fun j => (ef j).kl) n))
  l : ∀ i, lk i X.l = if Kd sel (fun j => (ef j).kl) n i = true then none else ((lastW sel (fun j => eO (ef j) i) n).or (lk i st0.l)).map (mapOb (Kf sel (fun j => (ef j).kl) n))
  k : X.k = mapKs (Kf sel (fun j => (ef j).kl) n) st0.k
  b : X.b = st0.b

theorem Tells.init {sel : Nat → Bool} {n : Nat} {ef : Nat → Eff2} {st0 : St} (h : ∀ j, j < n → sel j = false) : Tells sel n ef st0 st0 where
  s := fun s => by
    rw [lastW_none h]
    show lk s st0.s = Option.map _ (lk s st0.s)
    cases lk s st0.s with
    | none => rfl
    | some v => exact congrArg some (mapR_keep fun i _ => Kf_keep (Kd_none h i)).symm
  l := fun s => by
    rw [lastW_none h, if_neg (by rw [Kd_none h]; simp)]
    show lk s st0.l = Option.map _ (lk s st0.l)
    cases lk s st0.l with
    | none => rfl
    | some v => exact congrArg some (mapOb_keep fun i _ => Kf_keep (Kd_none h i)).symm
  k := by
    have : Kf sel (fun j => (ef j).kl) n = some := funext fun i => Kf_keep (Kd_none h i)
    rw [this]
    simp [mapKs, mapSl, mapR_some]
  b := rfl

theorem Tells.step {sel sel' : Nat → Bool} {n i : Nat} {ef : Nat → Eff2} {st0 X : St} (h : Tells sel n ef st0 X) (hi : i < n) (hsel : ∀ j, sel' j = if j = i then true else sel j) (hni : sel i = false)
    (hs : ∀ j s, i < j → j < n → sel j = true → (eS (ef i) s).isSome = true → eS (ef j) s = none) (hl : ∀ j s, i < j → j < n → sel j = true → (eO (ef i) s).isSome = true → eO (ef j) s = none)
    (hv : ∀ x v id, eS (ef i) x = some v → hasId id v = true → Kd sel' (fun j => (ef j).kl) n id = false) (ho : ∀ y ob, eO (ef i) y = some ob → Kd sel' (fun j => (ef j).kl) n y = false ∧ ∀ id, hasOb id ob = true → Kd sel' (fun j => (ef j).kl) n id = false) : Tells sel' n ef st0 (apE (ef i) X) where
  s := by
    intro s
    rw [apE_s, h.s]
    cases hvs : eS (ef i) s with
    | some v =>
      rw [lastW_hit (sel := sel') hi (by rw [hsel]; simp) hvs fun j h1 h2 h3 => hs j s h1 h2 (by rw [hsel, if_neg (by omega)] at h3; exact h3) (by rw [hvs]; rfl)]
      show some v = some (mapR _ v)
      rw [mapR_keep]
      intro id hid
      unfold Kf
      rw [if_neg (by rw [hv s v id hvs hid]; simp)]
    | none =>
      rw [lastW_congr (sel := sel') (sel' := sel) fun j hj hsome => ?_]
      · rw [Option.map_map]
        show Option.map _ _ = Option.map _ _
        congr 1
        funext rv
        simp only [Function.comp, mapR_comp]
        congr 1
        funext id
        exact Kf_step (kf := fun j => (ef j).kl) hi hsel id
      · rw [hsel]
        split
        · rename_i e; subst e; rw [hvs] at hsome; cases hsome
        · rfl
  l := by
    intro s
    rw [apE_l, h.l]
    cases hvs : eO (ef i) s with
    | some v =>
      obtain ⟨k1, k2⟩ := ho s v hvs
      rw [lastW_hit (sel := sel') hi (by rw [hsel]; simp) hvs fun j h1 h2 h3 => hl j s h1 h2 (by rw [hsel, if_neg (by omega)] at h3; exact h3) (by rw [hvs]; rfl), if_neg (show ¬ Kd sel' (fun j => (ef j).kl) n s = true by rw [k1]; simp)]
      show some v = some (mapOb _ v)
      rw [mapOb_keep]
      intro id hid
      unfold Kf
      rw [if_neg (by rw [k2 id hid]; simp)]
    | none =>
      have hk := Kd_step (kf := fun j => (ef j).kl) hi hsel s
      rw [lastW_congr (sel := sel') (sel' := sel) fun j hj hsome => ?_]
      · show (if (ef i).kl = some s then none else _) = _
        by_cases h1 : Kd sel (fun j => (ef j).kl) n s = true
        · rw [if_pos h1, if_pos (hk.2 (.inl h1))]; simp
        · by_cases h2 : (ef i).kl = some s
          · rw [if_pos h2, if_pos (hk.2 (.inr h2))]
          · rw [if_neg h1, if_neg h2, if_neg (fun h3 => (hk.1 h3).elim h1 h2), Option.map_map]
            congr 1
            funext rv
            simp only [Function.comp, mapOb_comp]
            congr 1
            funext id
            exact Kf_step (kf := fun j => (ef j).kl) hi hsel id
      · rw [hsel]
        split
        · rename_i e; subst e; rw [hvs] at hsome; cases hsome
        · rfl
  k := by
    rw [apE_k, h.k, mapKs_comp]
    congr 1
    funext id
    exact Kf_step (kf := fun j => (ef j).kl) hi hsel id
  b := by rw [apE_b, h.b]

section
variable {P : Program} {E : Env2} {Q : Exit → Act → World → Prop} {o : Oper} {w0 : World} {M0 : Bs} {N : Nat} {M M' : Own} {β β' : Nat → Nat} {τ τ' : Nat → Value} {st st' : St} {a : Act} {as : List Act} {w w' : World} {id : Nat}

theorem RR.lks {L L' : List (Nat × Ob)} (h : ∀ i, lk i L = lk i L') {rv : RV} {m : Mo} {cs : List Value} (r : RR M w β τ L rv m cs) : RR M w β τ L' rv m cs :=
  r.keep fun i j ob e hl => by
    cases e
    exact ⟨ob, by rw [← h]; exact hl, rfl, rfl, rfl⟩
theorem FsOk.lks {L L' : List (Nat × Ob)} (h : ∀ i, lk i L = lk i L') : ∀ {k : List (Nat × List (Nat × RV))} {as : List Act}, FsOk M w β τ L k as → FsOk M w β τ L' k as
  | [], [], _ => trivial
  | _ :: _, _ :: _, hh => ⟨fun i rv hi => by obtain ⟨u, h1, h2⟩ := hh.1 i rv hi; exact ⟨u, h1, h2.lks h⟩, FsOk.lks h hh.2⟩
  | [], _ :: _, hh => hh.elim
  | _ :: _, [], hh => hh.elim

theorem Sm.lks (s : Sm w0 M0 N M β τ st a as w) (hs : ∀ i, lk i st.s = lk i st'.s) (hl : ∀ i, lk i st.l = lk i st'.l) (hk : st.k = st'.k) : Sm w0 M0 N M β τ st' a as w where
  df := s.df
  sz := s.sz
  bel := s.bel
  mlt := s.mlt
  mex := s.mex
  gk := s.gk
  gx := s.gx
  kp := s.kp
  mnew := s.mnew
  fr := fun i rv hi => by
    obtain ⟨u, h1, h2⟩ := s.fr i rv (by rw [hs]; exact hi)
    exact ⟨u, h1, h2.lks hl⟩
  fs := hk ▸ s.fs.lks hl
  ob := fun i ob hi => by
    have := s.ob i ob (by rw [hl]; exact hi)
    cases ob with
    | var ty con =>
      obtain ⟨h1, ⟨cs, T, h2, h3⟩, h4⟩ := this
      exact ⟨h1, ⟨cs, T, h2, h3.lks hl⟩, h4⟩
    | row ty xs => exact this
    | mp kt vt es => exact this
    | lp c q =>
      obtain ⟨h1, ⟨r, h2, h3, m, h5⟩, h4⟩ := this
      exact ⟨h1, ⟨r, h2, h3, m, h5.lks hl⟩, h4⟩
  dj := fun i j ob ob' b h1 h2 => s.dj i j ob ob' b (by rw [hl]; exact h1) (by rw [hl]; exact h2)

theorem Sim2.lks (s : Sim2 w0 M0 N st a as w) (hs : ∀ i, lk i st.s = lk i st'.s) (hl : ∀ i, lk i st.l = lk i st'.l) (hk : st.k = st'.k) : Sim2 w0 M0 N st' a as w := by
  obtain ⟨M, β, τ, s⟩ := s
  exact ⟨M, β, τ, s.lks hs hl hk⟩

theorem setBR_same (g : Nat) (b : Bool) : ∀ (s : List (Nat × RV)), lk g s = some (.val ⟨.bool, b⟩) → setBR g b s = s
  | [], h => by simp [lk] at h
  | (j, x) :: r, h => by
    rw [lk_cons] at h
    simp only [setBR]
    split at h
    · rename_i e
      subst e
      cases h
      simp
    · rename_i e
      have : Nat.beq g j = false := by cases hb : Nat.beq g j with | false => rfl | true => exact absurd (Nat.eq_of_beq_eq_true hb) e
      simp only [this, cond_false, setBR_same g b r h]

theorem guardK_inv {ops : Array Oper} {α : Type} {run skip : St → Option α} {r : α} (h : guardK ops o st run skip = some r) :
    (run st = some r ∧ ∀ (γ : Type) (k' : Eff2 → Option γ), stepG E ops o st k' = stepD E o st k') ∨ (skip st = some r ∧ ∀ (γ : Type) (k' : Eff2 → Option γ), stepG E ops o st k' = k' ⟨o.dst, .tup .unit, none, none⟩) := by
  unfold guardK at h
  cases hg : o.guard with
  | none =>
    simp only [hg] at h
    exact .inl ⟨h, fun γ k' => by simp only [stepG, hg]⟩
  | some p =>
    obtain ⟨j, want⟩ := p
    simp only [hg] at h
    cases hs : guardSlot ops o with
    | none => rw [hs] at h; cases h
    | some g =>
      simp only [hs] at h
      split at h
      · rename_i b hl
        cases b with
        | true =>
          rw [setBR_same g true _ hl] at h
          cases want with
          | true => exact .inl ⟨h, fun γ k' => by simp only [stepG, hg, hs, hl, cond_true]⟩
          | false => exact .inr ⟨h, fun γ k' => by simp only [stepG, hg, hs, hl, cond_true, cond_false]⟩
        | false =>
          rw [setBR_same g false _ hl] at h
          cases want with
          | true => exact .inr ⟨h, fun γ k' => by simp only [stepG, hg, hs, hl, cond_true, cond_false]⟩
          | false => exact .inl ⟨h, fun γ k' => by simp only [stepG, hg, hs, hl, cond_false]⟩
      · rename_i hl
        exact .inr ⟨h, fun γ k' => by simp only [stepG, hg, hs, hl]⟩
      · cases h

/-! ### One operation -/
theorem appK_pc {args : Array Operand} {ts : Array TypeId} : PC (fun β (k : ((e : Ty) × List e.den × Option Nat) → Option β) => appK E args ts st fun e z old => k ⟨e, z, old⟩) := by
  unfold appK
  split
  · split
    · rename_i sx x t u _ _ _ e _
      exact PC.bind (X := (e : Ty) × List e.den × Option Nat) fun xs => srcN_pc (X := (e : Ty) × List e.den × Option Nat) (g := fun β ys k => bif Nat.ble 1 e.n && Nat.ble (List.length xs.1 + List.length ys) (limE E e) then k ⟨e, List.append xs.1 ys, xs.2⟩ else none) (fun ys => PC.bif (PC.ret _) PC.none) (PC.bind fun ys => PC.bif (PC.ret _) PC.none)
    · exact PC.none
  · exact PC.none

theorem stepD_pc : PC (fun β (k : Eff2 → Option β) => stepD E o st k) := by
  unfold stepD
  split
  · exact (storeK_pc (E := E) (st := st)).comp (F := fun β (k : Nat × Ob → Option β) => storeK E _ _ _ st fun id ob => k (id, ob)) (Y := Eff2) (G := fun β (q : Nat × Ob) (k : Eff2 → Option β) => k (⟨none, .any, some q, none⟩ : Eff2)) fun q => PC.ret _
  · exact (mapK_pc (E := E) (st := st)).comp (F := fun β (k : Nat × Ob → Option β) => mapK E _ _ _ _ st fun id ob => k (id, ob)) (Y := Eff2) (G := fun β (q : Nat × Ob) (k : Eff2 → Option β) => k (⟨none, .any, some q, none⟩ : Eff2)) fun q => PC.ret _
  · rename_i args ts d _ _
    simp only [withN_eq]
    split
    · exact (appK_pc (E := E) (st := st) (args := args) (ts := ts)).comp (F := fun β (k : ((e : Ty) × List e.den × Option Nat) → Option β) => appK E args ts st fun e z old => k ⟨e, z, old⟩) (Y := Eff2) (G := fun β (q : (e : Ty) × List e.den × Option Nat) (k : Eff2 → Option β) => k (⟨some d, .row (newId st d), some (newId st d, .row q.1 q.2.1), q.2.2⟩ : Eff2)) fun q => PC.ret _
    · exact PC.none
  · rename_i t n parts d _ _
    simp only [withN_eq]
    split
    · split
      · exact (opP_pc (E := E) (o := o) (st := st) (id := newId st d)).comp (F := fun β (k : RV × Option Ob → Option β) => opP E o st (newId st d) fun rv ob => k (rv, ob)) (Y := Eff2) (G := fun β (q : RV × Option Ob) (k : Eff2 → Option β) => k (⟨some d, q.1, q.2.map fun ob => (newId st d, ob), none⟩ : Eff2)) fun q => PC.ret _
      · rename_i old _ _
        exact (buildC_pc (E := E) (st := st) (t := t) (n := n) (parts := parts.toList) (id := old)).comp (F := fun β (k : ((e : Ty) × List e.den) → Option β) => buildC E t n parts.toList old st fun e z => k ⟨e, z⟩) (Y := Eff2) (G := fun β (q : (e : Ty) × List e.den) (k : Eff2 → Option β) => k (⟨some d, .row (newId st d), some (newId st d, .row q.1 q.2), some old⟩ : Eff2)) fun q => PC.ret _
    · exact PC.none
  · rename_i d _ _ _
    simp only [withN_eq]
    refine recOr_pc (fun c a t r => (recK_pc (E := E) (st := st)).comp (F := fun β (k : Nat × Ob × RV → Option β) => recK E c a t r st fun id ob rv => k (id, ob, rv)) (Y := Eff2) (G := fun β (q : Nat × Ob × RV) (k : Eff2 → Option β) => k (⟨some d, q.2.2, bif c.ro then none else some (q.1, q.2.1), none⟩ : Eff2)) fun q => PC.ret _) ?_
    split
    · exact recOr_pc (fun c a t r => (giveK_pc (E := E) (st := st)).comp (F := fun β (k : ((e : Ty) × List e.den × Option Nat) → Option β) => giveK E c a t r st fun e z old => k ⟨e, z, old⟩) (Y := Eff2) (G := fun β (q : (e : Ty) × List e.den × Option Nat) (k : Eff2 → Option β) => k (⟨some d, .row (newId st d), some (newId st d, .row q.1 q.2.1), q.2.2⟩ : Eff2)) fun q => PC.ret _) ((opP_pc (E := E) (o := o) (st := st) (id := newId st d)).comp (F := fun β (k : RV × Option Ob → Option β) => opP E o st (newId st d) fun rv ob => k (rv, ob)) (Y := Eff2) (G := fun β (q : RV × Option Ob) (k : Eff2 → Option β) => k (⟨some d, q.1, q.2.map fun ob => (newId st d, ob), none⟩ : Eff2)) fun q => PC.ret _)
    · exact PC.none
  · exact PC.none

theorem stepG_pc {ops : Array Oper} : PC (fun β (k : Eff2 → Option β) => stepG E ops o st k) := by
  unfold stepG
  split
  · exact stepD_pc
  · split
    · split
      · exact PC.bif (PC.bif stepD_pc (PC.ret _)) (PC.bif (PC.ret _) stepD_pc)
      · exact PC.ret _
      · exact PC.none
    · exact PC.none

theorem stepD_sound (hE : Env2Ok P E) (s : Sim2 w0 M0 N st a as w) (hd : ∀ d, o.dst = some d → d < N) {e : Eff2} (h : stepD E o st some = some e) : OSt P Q w0 M0 N o a as w (apE e st) := by
  unfold stepD at h
  split at h
  · rename_i t x y hop hdst
    obtain ⟨⟨i, ob⟩, h1, h2⟩ := storeK_pc (E := E) (st := st) _ (fun q : Nat × Ob => some (⟨none, .any, some q, none⟩ : Eff2)) _ h
    cases h2
    obtain ⟨g1, g2⟩ := storeK_sound (Q := Q) hE s hop hdst (h1 _ some)
    intro K hK
    refine g1 K fun a' w' hs => hK a' w' (hs.lks (fun _ => rfl) (fun j => ?_) rfl)
    simp only [setOb, apE]
    rw [lk_setA, lk_cons]
    split
    · cases hl : lk i st.l with
      | none => rw [hl] at g2; cases g2
      | some _ => rfl
    · rfl
  · rename_i t m x y hop hdst
    obtain ⟨⟨i, ob⟩, h1, h2⟩ := mapK_pc (E := E) (st := st) _ (fun q : Nat × Ob => some (⟨none, .any, some q, none⟩ : Eff2)) _ h
    cases h2
    obtain ⟨g1, g2⟩ := mapK_sound (Q := Q) hE s hop hdst (h1 _ some)
    intro K hK
    refine g1 K fun a' w' hs => hK a' w' (hs.lks (fun _ => rfl) (fun j => ?_) rfl)
    simp only [setOb, apE]
    rw [lk_setA, lk_cons]
    split
    · cases hl : lk i st.l with
      | none => rw [hl] at g2; cases g2
      | some _ => rfl
    · rfl
  · rename_i args ts d hop hdst
    simp only [withN_eq] at h
    split at h
    · rename_i hnone
      obtain ⟨⟨t, z, old⟩, h1, h2⟩ := appK_pc (E := E) (st := st) (args := args) (ts := ts) _ (fun q : (e : Ty) × List e.den × Option Nat => some (⟨some d, .row (newId st d), some (newId st d, .row q.1 q.2.1), q.2.2⟩ : Eff2)) _ h
      cases h2
      intro K hK
      have hfree : lk (newId st d) (killO old st).l = none := by
        rw [killO_l, hnone]
        split <;> rfl
      have hf2 : freeId (newId st d) (killO old st) = killO old st := by unfold freeId; rw [hfree]
      letI : DecidableEq St := fun _ _ => Classical.propDecidable _
      have heff : effR (α := St) E (fun _ _ _ => none) ⟨[], [], [], [], [], [], [], [], []⟩ o st some = some (setR (addN (newId st d) (.row t z) (killO old st)) (some d) (.row (newId st d))) := by
        unfold effR
        simp only [hop, hdst, withN_eq]
        exact (h1 St (fun q => some (setR (addN (newId st d) (.row q.1 q.2.1) (freeId (newId st d) (killO q.2.2 st))) (some d) (.row (newId st d))))).trans (by simp only [hf2])
      refine append_sound (Q := Q) hE s hd hop hdst rfl heff K fun st' a' w' he hs => ?_
      cases he
      exact hK a' w' (hs.lks (fun _ => rfl) (fun _ => rfl) rfl)
    · cases h
  · rename_i t n parts d hop hdst
    simp only [withN_eq] at h
    split at h
    · rename_i hnone
      split at h
      · obtain ⟨⟨rv, ob⟩, h1, h2⟩ := opP_pc (E := E) (o := o) (st := st) (id := newId st d) _ (fun q : RV × Option Ob => some (⟨some d, q.1, q.2.map fun ob => (newId st d, ob), none⟩ : Eff2)) _ h
        cases h2
        obtain ⟨M, β, τ, s⟩ := s
        intro K hK
        refine opP_sound (Q := Q) hE s hd hnone (h1 _ some) K fun a' w' hs => hK a' w' ?_
        refine hs.lks (fun j => ?_) (fun j => ?_) ?_
        · cases ob <;> (rw [hdst]; rfl)
        · cases ob <;> (rw [hdst]; rfl)
        · cases ob <;> (rw [hdst]; rfl)
      · rename_i old _ _
        obtain ⟨⟨e0, z⟩, h1, h2⟩ := buildC_pc (E := E) (st := st) (t := t) (n := n) (parts := parts.toList) (id := old) _ (fun q : (e : Ty) × List e.den => some (⟨some d, .row (newId st d), some (newId st d, .row q.1 q.2), some old⟩ : Eff2)) _ h
        cases h2
        obtain ⟨M, β, τ, s⟩ := s
        intro K hK
        refine buildC_sound (Q := Q) hE s hd hnone hop (h1 _ some) K fun a' w' hs => hK a' w' (hs.lks (fun j => ?_) (fun j => ?_) ?_)
        · rw [hdst]; rfl
        · rw [hdst]; rfl
        · rw [hdst]; rfl
    · cases h
  · rename_i d hdst _ _
    simp only [withN_eq] at h
    rcases recOr_inv h with ⟨f, args, ts, g, caps, c, hop, hf, hc, h⟩ | h
    · obtain ⟨⟨i, ob, rv⟩, h1, h2⟩ := recK_pc (E := E) (st := st) _ (fun q : Nat × Ob × RV => some (⟨some d, q.2.2, bif c.ro then none else some (q.1, q.2.1), none⟩ : Eff2)) _ h
      cases h2
      obtain ⟨M, β, τ, s⟩ := s
      intro K hK
      refine (rec_sound (Q := Q) hE s hop hf hc (h1 _ some) K fun M' v w' s' r' => hK _ _ ?_).2
      refine Sim2.lks ⟨M', β, τ, s'.set o.dst hd r'⟩ (fun j => by rw [hdst]; rfl) (fun j => ?_) (by rw [hdst]; rfl)
      have hsome := (rec_sound (Q := Q) hE s hop hf hc (h1 _ some) (fun _ _ => True) fun _ _ _ _ _ => trivial).1
      rw [hdst]
      cases hro : c.ro with
      | true =>
        have hsame := hsome.2 hro
        simp only [setR, setOb, apE, cond_true]
        rw [lk_setA, hsame]
        split
        · rename_i e; rw [e]; exact hsame.symm
        · rfl
      | false =>
      replace hsome := hsome.1
      simp only [setR, setOb, apE, cond_false]
      rw [lk_setA, lk_cons]
      split
      · cases hl : lk i st.l with
        | none => rw [hl] at hsome; cases hsome
        | some _ => rfl
      · rfl
    split at h
    · rename_i hnone
      rcases recOr_inv h with ⟨f, args, ts, g, caps, c, hop, hf, hc, h⟩ | h
      · obtain ⟨q, h1, h2⟩ := giveK_pc (E := E) (st := st) _ (fun q : (e : Ty) × List e.den × Option Nat => some (⟨some d, .row (newId st d), some (newId st d, .row q.1 q.2.1), q.2.2⟩ : Eff2)) _ h
        cases h2
        intro K hK
        refine give_sound (Q := Q) hE s hd hop hf hc hdst (h1 _ some) K fun a' w' hs => ?_
        have hfree : lk (newId st d) (killO q.2.2 st).l = none := by
          rw [killO_l, hnone]
          split <;> rfl
        have hf2 : freeId (newId st d) (killO q.2.2 st) = killO q.2.2 st := by unfold freeId; rw [hfree]
        rw [hf2] at hs
        exact hK a' w' (hs.lks (fun _ => rfl) (fun _ => rfl) rfl)
      obtain ⟨⟨rv, ob⟩, h1, h2⟩ := opP_pc (E := E) (o := o) (st := st) (id := newId st d) _ (fun q : RV × Option Ob => some (⟨some d, q.1, q.2.map fun ob => (newId st d, ob), none⟩ : Eff2)) _ h
      cases h2
      obtain ⟨M, β, τ, s⟩ := s
      intro K hK
      refine opP_sound (Q := Q) hE s hd hnone (h1 _ some) K fun a' w' hs => hK a' w' ?_
      refine hs.lks (fun j => ?_) (fun j => ?_) ?_
      · cases ob <;> (rw [hdst]; rfl)
      · cases ob <;> (rw [hdst]; rfl)
      · cases ob <;> (rw [hdst]; rfl)
    · cases h
  · cases h

theorem yielded_ok3 (s : Sm w0 M0 N M β τ st a as w) {ops : Array Oper} {j g : Nat} {b : Bool} (hg : (ops[j]?).bind (·.dst) = some g) (hl : lk g st.s = some (.val ⟨.bool, b⟩)) : yielded ops a.tmps j = some b := by
  obtain ⟨u, hu, u', e, hv⟩ := s.fr g _ hl
  cases e
  have hb := hv.bool
  simp [yielded, hg, hu, hb]

theorem tup_unit : RR M w β τ st.l (.tup .unit) .sl [undef] := by
  simp only [RR]
  exact ⟨trivial, [], rfl, rfl⟩
theorem yielded_none (s : Sm w0 M0 N M β τ st a as w) {ops : Array Oper} {j g : Nat} (hg : (ops[j]?).bind (·.dst) = some g) (hl : lk g st.s = some (.tup .unit)) : yielded ops a.tmps j = none := by
  obtain ⟨u, hu, r⟩ := s.fr g _ hl
  simp only [RR] at r
  obtain ⟨_, us, e, h⟩ := r
  subst h
  cases e
  simp [yielded, hg, hu]

theorem stepG_sound (hE : Env2Ok P E) (s : Sim2 w0 M0 N st a as w) (hd : ∀ d, o.dst = some d → d < N) {ops : Array Oper} {e : Eff2} (h : stepG E ops o st some = some e) (K : Act → World → Prop) (hK : ∀ a' w', Sim2 w0 M0 N (apE e st) a' as w' → K a' w') : GStep P Q ops o a w K := by
  unfold GStep
  unfold stepG at h
  split at h
  · rename_i hg
    simp only [Region.wanted, hg, if_true]
    exact stepD_sound (Q := Q) hE s hd h K hK
  · rename_i j want hg
    split at h
    · rename_i g hgd
      simp only [guardSlot, hg] at hgd
      split at h
      · rename_i b hlk
        have hy : yielded ops a.tmps j = some b := by
          obtain ⟨M, β, τ, s⟩ := s
          exact yielded_ok3 s hgd hlk
        have run : stepD E o st some = some e → Region.wanted o (yielded ops a.tmps) = true → (if Region.wanted o (yielded ops a.tmps) then o.wp P a w K Q else K (a.put o.dst undef) w) := by
          intro h hw
          rw [if_pos hw]
          exact stepD_sound (Q := Q) hE s hd h K hK
        have skip : some (⟨o.dst, .tup .unit, none, none⟩ : Eff2) = some e → Region.wanted o (yielded ops a.tmps) = false → (if Region.wanted o (yielded ops a.tmps) then o.wp P a w K Q else K (a.put o.dst undef) w) := by
          intro h hw
          cases h
          rw [if_neg (by simp [hw])]
          obtain ⟨M, β, τ, s⟩ := s
          refine hK _ _ ⟨M, β, τ, (s.set o.dst hd (rv := .tup .unit) tup_unit).lks (fun j => ?_) (fun j => ?_) ?_⟩
          · unfold setR apE; cases o.dst <;> rfl
          · unfold setR apE; cases o.dst <;> rfl
          · unfold setR apE; cases o.dst <;> rfl
        cases b with
        | true =>
          cases want with
          | true => exact run h (by simp [Region.wanted, hg, hy])
          | false => exact skip h (by simp [Region.wanted, hg, hy])
        | false =>
          cases want with
          | true => exact skip h (by simp [Region.wanted, hg, hy])
          | false => exact run h (by simp [Region.wanted, hg, hy])
      · rename_i hlk
        obtain ⟨M, β, τ, s⟩ := s
        have hy := yielded_none s hgd hlk
        have hw : Region.wanted o (yielded ops a.tmps) = false := by simp [Region.wanted, hg, hy]
        cases h
        rw [if_neg (by simp [hw])]
        refine hK _ _ ⟨M, β, τ, (s.set o.dst hd (rv := .tup .unit) tup_unit).lks (fun j => ?_) (fun j => ?_) ?_⟩
        · unfold setR apE; cases o.dst <;> rfl
        · unfold setR apE; cases o.dst <;> rfl
        · unfold setR apE; cases o.dst <;> rfl
      · cases h
    · cases h

theorem stepD_loc {S C : List Nat} (h : Ag S C st st') (hS : ∀ i ∈ slotsOf o, i ∈ S) (hid : ∀ d, o.dst = some d → newId st d ∈ C) {α : Type} (k : Eff2 → Option α) : stepD E o st k = stepD E o st' k := by
  unfold stepD
  split
  · rename_i t x y hop hdst
    exact storeK_loc h (fun i hi => hS i (slots_mem (by simp [hop, Op.operands, hi]))) (fun i hi => hS i (slots_mem (by simp [hop, Op.operands, hi]))) _
  · rename_i t m x y hop hdst
    exact mapK_loc h (fun i hi => hS i (slots_mem (by simp [hop, Op.operands, hi]))) (fun i hi => hS i (slots_mem (by simp [hop, Op.operands, hi]))) (fun i hi => hS i (slots_mem (by simp [hop, Op.operands, hi]))) _
  · rename_i args ts d hop hdst
    have hb : newId st' d = newId st d := by simp only [newId, withN_eq, h.b]
    simp only [withN_eq]
    rw [hb, ← h.l _ (hid d hdst)]
    split
    · exact appK_loc h (fun i hi => hS i (slots_mem (by simp [hop, Op.operands, Call.operands]; simpa using hi))) _
    · rfl
  · rename_i t n parts d hop hdst
    have hb : newId st' d = newId st d := by simp only [newId, withN_eq, h.b]
    simp only [withN_eq]
    rw [hb, ← h.l _ (hid d hdst), ← opIds_loc h hS]
    have hin := opIds_in h hS
    split
    · split
      · exact opP_loc h hS _ _
      · rename_i old r heq
        refine buildC_loc h (fun i hi => hS i (slots_mem ?_)) (hin old (by rw [heq]; simp)) _
        rw [hop]
        simp only [Op.operands]
        simpa using hi
    · rfl
  · rename_i d hdst _ _
    have hb : newId st' d = newId st d := by simp only [newId, withN_eq, h.b]
    simp only [withN_eq]
    rw [hb, ← h.l _ (hid d hdst)]
    refine recOr_loc h hS ?_ fun c args ts caps h1 h2 => recK_loc h h1 h2 _
    split
    · exact recOr_loc h hS (opP_loc h hS _ _) fun c args ts caps h1 _ => giveK_loc h h1 _
    · rfl
  · rfl
theorem stepG_loc {S C : List Nat} (h : Ag S C st st') {ops : Array Oper} (hS : ∀ i ∈ slotsOf o ++ (guardSlot ops o).toList, i ∈ S) (hid : ∀ d, o.dst = some d → newId st d ∈ C) {α : Type} (k : Eff2 → Option α) : stepG E ops o st k = stepG E ops o st' k := by
  have hd := fun k => stepD_loc (E := E) (α := α) h (fun i hi => hS i (List.mem_append_left _ hi)) hid k
  unfold stepG
  split
  · exact hd k
  · split
    · rename_i g hg
      rw [← h.s g (hS g (by rw [hg]; simp)), hd k]
    · rfl

/-! ### All of them, in the text's order -/
theorem okRc_at {b : List Nat} {i : Nat} {q : Rc} : ∀ (k : Nat) (l : List Rc), okRc b i q k l = true → ∀ (m : Nat) (p : Rc), l[m]? = some p → memO p.kl q.ob = false ∧ ((b.getD i 0).testBit (k + m) = true ∨ indep p q = true)
  | _, [], _, m, p, hp => by simp at hp
  | k, p0 :: r, h, m, p, hp => by
    simp only [okRc, Bool.and_eq_true, Bool.or_eq_true, Bool.not_eq_true'] at h
    cases m with
    | zero =>
      simp only [List.getElem?_cons_zero, Option.some.injEq] at hp
      subst hp
      exact ⟨h.1, h.2.1⟩
    | succ m =>
      have := okRc_at (k + 1) r h.2.2 m p (by simpa using hp)
      rw [show k + (m + 1) = k + 1 + m by omega]
      exact this

structure Can (E : Env2) (ops : Array Oper) (b : List Nat) (ef : Nat → Eff2) (sf : Nat → St) (rf : Nat → Rc) (j : Nat) (o : Oper) : Prop where
  next : sf (j + 1) = apE (ef j) (sf j)
  gives : ∀ (γ : Type) (k' : Eff2 → Option γ), stepG E ops o (sf j) k' = k' (ef j)
  rc : rf j = rcOf ops o (sf j) (ef j)
  ok : ∀ m, m < j → memO (rf m).kl (rf j).ob = false ∧ ((b.getD j 0).testBit m = true ∨ indep (rf m) (rf j) = true)
  cl : closedB (rf j).ob (sf j).l = true
  inn : opsIn (rf j).ob (rf j).rd (sf j) = true
  rvi : inC (rf j).ob (ef j).rv = true
  obi : inOb (rf j).ob (ef j).o = true
  own : ownK (rf j).ob (ef j) = true

theorem opsD_can {ops : Array Oper} {b : List Nat} {α : Type} {kn : St → Option α} {r : α} : ∀ (l : List Oper) (i : Nat) (rcs : List Rc) (st : St), opsD E ops b i l rcs st kn = some r → rcs.length = i →
    ∃ (ef : Nat → Eff2) (sf : Nat → St) (rf : Nat → Rc), sf i = st ∧ (∀ j, j < i → rcs[j]? = some (rf j)) ∧ kn (sf (i + l.length)) = some r ∧ ∀ m o, l[m]? = some o → Can E ops b ef sf rf (i + m) o
  | [], i, rcs, st, h, hl => by
    refine ⟨fun _ => ⟨none, .any, none, none⟩, fun _ => st, fun j => rcs.getD j ⟨[], [], none, none, none, [], []⟩, rfl, fun j hj => ?_, h, fun m o hm => by simp at hm⟩
    have : j < rcs.length := by omega
    simp [this]
  | o :: rest, i, rcs, st, h, hl => by
    simp only [opsD] at h
    obtain ⟨e, h1, h2⟩ : ∃ e, (∀ (γ : Type) (k' : Eff2 → Option γ), stepG E ops o st k' = k' e) ∧ (bif okRc b i (rcOf ops o st e) 0 rcs && okE (rcOf ops o st e) e st then opsD E ops b (i + 1) rest (rcs ++ [rcOf ops o st e]) (apE e st) kn else none) = some r := by
      rcases guardK_inv (E := E) h with ⟨h1, h2⟩ | ⟨h1, h2⟩
      · obtain ⟨e, g1, g2⟩ := stepD_pc (E := E) (o := o) (st := st) _ _ _ h1
        exact ⟨e, fun γ k' => (h2 γ k').trans (g1 γ k'), g2⟩
      · exact ⟨_, h2, h1⟩
    obtain ⟨hc, h2⟩ := bif_some h2
    simp only [okE, Bool.and_eq_true] at hc
    obtain ⟨c1, c2, c3, c4, c5, c6⟩ := hc
    obtain ⟨ef, sf, rf, g1, g2, g3, g4⟩ := opsD_can rest (i + 1) (rcs ++ [rcOf ops o st e]) (apE e st) h2 (by simp [hl])
    have hri : rf i = rcOf ops o st e := by
      have := g2 i (by omega)
      rw [List.getElem?_append_right (by omega)] at this
      simp [hl] at this
      exact this.symm
    have hrj : ∀ j, j < i → rcs[j]? = some (rf j) := fun j hj => by
      have := g2 j (by omega)
      rwa [List.getElem?_append_left (by omega)] at this
    refine ⟨fun j => if j = i then e else ef j, fun j => if j = i then st else sf j, rf, by simp, hrj, ?_, ?_⟩
    · have : i + (o :: rest).length ≠ i := by simp
      simp only [if_neg this]
      rw [show i + (o :: rest).length = i + 1 + rest.length by simp; omega]
      exact g3
    · intro m o' hm
      cases m with
      | zero =>
        simp only [List.getElem?_cons_zero, Option.some.injEq] at hm
        subst hm
        refine ⟨?_, ?_, ?_, ?_, ?_, ?_, ?_, ?_, ?_⟩
        · simp [g1]
        · intro γ k'; simpa using h1 γ k'
        · simp [hri]
        · intro m hmi
          simp only [Nat.add_zero] at hmi ⊢
          have := okRc_at 0 rcs c1 m (rf m) (hrj m hmi)
          rw [Nat.zero_add] at this
          rw [hri]
          exact this
        · simp only [Nat.add_zero, if_true]; rw [hri]; exact c2
        · simp only [Nat.add_zero, if_true]; rw [hri]; exact c3
        · simp only [Nat.add_zero, if_true]; rw [hri]; exact c4
        · simp only [Nat.add_zero, if_true]; rw [hri]; exact c5
        · simp only [Nat.add_zero, if_true]; rw [hri]; exact c6
      | succ m =>
        have := g4 m o' (by simpa using hm)
        have e1 : i + (m + 1) = i + 1 + m := by omega
        have e2 : i + 1 + m ≠ i := by omega
        have e3 : i + 1 + m + 1 ≠ i := by omega
        rw [e1]
        refine ⟨?_, ?_, ?_, this.ok, ?_, ?_, ?_, ?_, ?_⟩
        · simp only [if_neg e2, if_neg e3]; exact this.next
        · simp only [if_neg e2]; exact this.gives
        · simp only [if_neg e2]; exact this.rc
        · simp only [if_neg e2]; exact this.cl
        · simp only [if_neg e2]; exact this.inn
        · simp only [if_neg e2]; exact this.rvi
        · simp only [if_neg e2]; exact this.obi
        · simp only [if_neg e2]; exact this.own

theorem memO_eq {x : Option Nat} {l : List Nat} {i : Nat} (h : x = some i) (hi : i ∈ l) : memO x l = true := by
  subst h
  exact any_mem.2 hi
theorem memO_false {x : Option Nat} {l : List Nat} {i : Nat} (h : memO x l = false) (hx : x = some i) (hi : i ∈ l) : False := by
  rw [memO_eq hx hi] at h
  cases h
theorem sameO_eq {x y : Option Nat} {i : Nat} (h : x = some i) (h' : y = some i) : sameO x y = true := by
  subst h h'
  simp [sameO]
theorem meets_of {l m : List Nat} {i : Nat} (h : i ∈ l) (h' : i ∈ m) : meets l m = true := List.any_eq_true.2 ⟨i, h, any_mem.2 h'⟩
theorem lk_mem {α : Type} {i : Nat} {x : α} : ∀ {l : List (Nat × α)}, lk i l = some x → (i, x) ∈ l
  | [], h => by simp [lk] at h
  | (j, y) :: r, h => by
    rw [lk_cons] at h
    split at h
    · rename_i e; subst e; cases h; simp
    · exact List.mem_cons_of_mem _ (lk_mem h)
theorem withId_of {α : Type} {p : Nat → α → Bool} {id i : Nat} {x : α} {o : Option Nat} {l : List (Nat × α)} (ho : o = some id) (h : lk i l = some x) (hp : p id x = true) : i ∈ withId p o l := by
  subst ho
  simp only [withId, List.mem_map, List.mem_filter]
  exact ⟨(i, x), ⟨lk_mem h, hp⟩, rfl⟩

theorem eS_d {e : Eff2} {s : Nat} (h : (eS e s).isSome = true) : e.d = some s := by
  unfold eS at h
  split at h
  · assumption
  · cases h
theorem eS_v {e : Eff2} {s : Nat} {v : RV} (h : eS e s = some v) : v = e.rv := by
  unfold eS at h
  split at h
  · cases h; rfl
  · cases h
theorem eO_v {e : Eff2} {s : Nat} {ob : Ob} (h : eO e s = some ob) : e.o = some (s, ob) := by
  unfold eO at h
  split at h
  · rename_i p hp
    split at h
    · rename_i e'; cases h; rw [hp, ← e']
    · cases h
  · cases h
theorem eO_w {e : Eff2} {s : Nat} (h : (eO e s).isSome = true) : e.o.map (·.1) = some s := by
  cases hh : eO e s with
  | none => rw [hh] at h; cases h
  | some ob => rw [eO_v hh]; rfl

/-- a region whose order is open -/
theorem drawR_sound (hE : Env2Ok P E) {ops : Array Oper} {α : Type} {kn : St → Option α} {r : α} (hbk : backOk ops = true) (hd : ∀ (i : Nat) (o : Oper), ops[i]? = some o → ∀ d, o.dst = some d → d < N)
    (hQ : ∀ st a w, kn st = some r → Sim2 w0 M0 N st a as w → Q .normal a w) {st0 : St} {a : Act} {w : World} (h : opsD E ops (befL ops.toList []) 0 ops.toList [] st0 kn = some r) (s : Sim2 w0 M0 N st0 a as w) :
    wpAnyS P ops Q ops.size (Array.replicate ops.size false) a w := by
  have hback : ∀ (i : Nat) (o : Oper) (e : Edge), ops[i]? = some o → e ∈ o.after → Region.binds .any e = true → e.on < i := by
    intro i o e ho he hb
    have hm : (o, i) ∈ ops.toList.zipIdx 0 := by rw [List.mk_mem_zipIdx_iff_getElem?]; simpa using ho
    have := List.all_eq_true.1 (List.all_eq_true.1 hbk _ hm) e (by simpa using he)
    simp only [hb, Bool.not_true, Bool.false_or] at this
    exact Nat.lt_of_lt_of_le (Nat.lt_succ_self _) (Nat.le_of_ble_eq_true this)
  obtain ⟨ef, sf, rf, g1, _, g3, g4⟩ := opsD_can ops.toList 0 [] st0 h rfl
  simp only [Nat.zero_add, Array.length_toList] at g3 g4
  have can : ∀ j, j < ops.size → Can E ops (befL ops.toList []) ef sf rf j ops[j]! := fun j hj => g4 j _ (by simp [hj])
  have rcd : ∀ j, j < ops.size → (rf j).d = (ef j).d ∧ (rf j).w = (ef j).o.map (·.1) ∧ (rf j).kl = (ef j).kl ∧ (rf j).ts = withId hasId (ef j).kl (sf j).s ∧ (rf j).tb = withId hasOb (ef j).kl (sf j).l := fun j hj => by rw [(can j hj).rc]; exact ⟨rfl, rfl, rfl, rfl, rfl⟩
  -- what effects hold
  have frv : ∀ j id, j < ops.size → hasId id (ef j).rv = true → id ∈ (rf j).ob := fun j id hj hh => hasId_in (can j hj).rvi hh
  have fob : ∀ j y ob, j < ops.size → (ef j).o = some (y, ob) → y ∈ (rf j).ob ∧ ∀ id, hasOb id ob = true → id ∈ (rf j).ob := by
    intro j y ob hj ho
    have := (can j hj).obi
    rw [ho] at this
    cases ob with
    | var t c =>
      simp only [inOb, Bool.and_eq_true] at this
      exact ⟨any_mem.1 this.1, fun id hid => hasId_in this.2 hid⟩
    | row t xs => exact ⟨any_mem.1 this, fun id hid => by cases hid⟩
    | mp kt vt es => exact ⟨any_mem.1 this, fun id hid => by cases hid⟩
    | lp c q =>
      simp only [inOb, Bool.and_eq_true] at this
      exact ⟨any_mem.1 this.1, fun id hid => hasId_in this.2 hid⟩
  have fkl : ∀ j id, j < ops.size → (ef j).kl = some id → id ∈ (rf j).ob ∧ hasId id (ef j).rv = false ∧ ∀ y ob, (ef j).o = some (y, ob) → y ≠ id ∧ hasOb id ob = false := by
    intro j id hj hk
    have := (can j hj).own
    simp only [ownK, hk, Bool.and_eq_true, Bool.not_eq_true'] at this
    refine ⟨any_mem.1 this.1, this.2.1, fun y ob ho => ?_⟩
    have h2 := this.2.2
    rw [ho] at h2
    simp only [Bool.and_eq_true, Bool.not_eq_true'] at h2
    exact ⟨fun e => by subst e; simp at h2, h2.2⟩
  have fc1 : ∀ m j id, m < j → j < ops.size → (ef m).kl = some id → id ∉ (rf j).ob := fun m j id hm hj hk hin =>
    memO_false ((can j hj).ok m hm).1 ((rcd m (by omega)).2.2.1.trans hk) hin
  -- two that clash are in order
  have ord : ∀ j k, j < k → k < ops.size → indep (rf j) (rf k) = false → ((befL ops.toList []).getD k 0).testBit j = true := by
    intro j k hjk hk hi
    rcases ((can k hk).ok j hjk).2 with h | h
    · exact h
    · rw [hi] at h; cases h
  have ind : ∀ {p q : Rc}, (memO p.d q.rd = true ∨ memO q.d p.rd = true ∨ sameO p.d q.d = true ∨ memO p.w q.ob = true ∨ memO q.w p.ob = true ∨ sameO p.w q.w = true ∨ memO q.kl p.ob = true ∨ meets p.ts q.rd = true ∨ meets p.tb q.ob = true) → indep p q = false := by
    intro p q h
    simp only [indep]
    rcases h with h | h | h | h | h | h | h | h | h <;> simp [h]
  -- what is written is not taken away
  have fresh : ∀ (sel sel' : Nat → Bool) (i : Nat), i < ops.size → (∀ j, sel' j = if j = i then true else sel j) → (∀ j id, i < j → j < ops.size → sel j = true → (ef j).kl = some id → id ∉ (rf i).ob) →
      ∀ id, id ∈ (rf i).ob → (ef i).kl ≠ some id → Kd sel' (fun j => (ef j).kl) ops.size id = false := by
    intro sel sel' i hi hsel hlate id hid hown
    cases hb : Kd sel' (fun j => (ef j).kl) ops.size id with
    | false => rfl
    | true =>
      obtain ⟨j, h1, h2, h3⟩ := Kd_iff.1 hb
      rw [hsel] at h2
      by_cases hji : j = i
      · subst hji; exact absurd h3 hown
      · rw [if_neg hji] at h2
        rcases Nat.lt_or_ge j i with hlt | hge
        · exact absurd hid (fc1 j i id hlt hi h3)
        · exact absurd hid (hlate j id (by omega) h1 h2 h3)
  have stepT : ∀ (sel sel' : Nat → Bool) (X : St) (i : Nat), i < ops.size → Tells sel ops.size ef st0 X → sel i = false → (∀ j, sel' j = if j = i then true else sel j) → (∀ j id, i < j → j < ops.size → sel j = true → (ef j).kl = some id → id ∉ (rf i).ob) →
      (∀ j s, i < j → j < ops.size → sel j = true → (eS (ef i) s).isSome = true → eS (ef j) s = none) → (∀ j s, i < j → j < ops.size → sel j = true → (eO (ef i) s).isSome = true → eO (ef j) s = none) → Tells sel' ops.size ef st0 (apE (ef i) X) := by
    intro sel sel' X i hi hT hni hsel hlate hs hl
    have hf := fresh sel sel' i hi hsel hlate
    refine hT.step hi hsel hni hs hl (fun x v id hx hid => ?_) (fun y ob hy => ?_)
    · have := eS_v hx
      subst this
      exact hf id (frv i id hi hid) fun hk => by rw [(fkl i id hi hk).2.1] at hid; cases hid
    · have ho := eO_v hy
      obtain ⟨k1, k2⟩ := fob i y ob hi ho
      exact ⟨hf y k1 fun hk => ((fkl i y hi hk).2.2 y ob ho).1 rfl, fun id hid => hf id (k2 id hid) fun hk => by rw [((fkl i id hi hk).2.2 y ob ho).2] at hid; cases hid⟩
  -- the frames in the text's order
  have sfT : ∀ m, m ≤ ops.size → Tells (fun j => decide (j < m)) ops.size ef st0 (sf m) := by
    intro m
    induction m with
    | zero =>
      intro _
      rw [g1]
      exact Tells.init fun j _ => by simp
    | succ m ih =>
      intro hm
      rw [(can m (by omega)).next]
      refine stepT _ _ (sf m) m (by omega) (ih (by omega)) (by simp) (fun j => ?_) (fun j id h1 _ h3 _ => ?_) (fun j s h1 _ h3 _ => ?_) (fun j s h1 _ h3 _ => ?_)
      · by_cases hj : j = m
        · subst hj; simp
        · rw [if_neg hj]; congr 1; simp; omega
      · simp at h3; omega
      · simp at h3; omega
      · simp at h3; omega
  -- a name is taken away once
  have once : ∀ j id, j < ops.size → (ef j).kl = some id → Kd (fun m => decide (m < j)) (fun j => (ef j).kl) ops.size id = false := by
    intro j id hj hk
    cases hb : Kd (fun m => decide (m < j)) (fun j => (ef j).kl) ops.size id with
    | false => rfl
    | true =>
      obtain ⟨m, h1, h2, h3⟩ := Kd_iff.1 hb
      exact absurd (fkl j id hj hk).1 (fc1 m j id (by simpa using h2) hj h3)
  have main : ∀ (fuel : Nat) (listed : Array Bool) (a : Act) (w : World) (X : St), listed.size = ops.size → Clos (befL ops.toList []) (Lst listed) → fuel + cnt (Lst listed) ops.size = ops.size → Tells (Lst listed) ops.size ef st0 X →
      Sim2 w0 M0 N X a as w → wpAnyS P ops Q fuel listed a w := by
    intro fuel
    induction fuel with
    | zero =>
      intro listed a w X hsz hc hf hT s
      have hall := cnt_all ops.size (by omega : cnt (Lst listed) ops.size = ops.size)
      refine ⟨?_, ?_⟩
      · apply List.eq_nil_iff_forall_not_mem.2
        intro j hj
        obtain ⟨h1, o, ho, _⟩ := mem_ready.1 hj
        have hj' : j < ops.size := (Array.getElem?_eq_some_iff.1 ho).1
        rw [lst_true (by omega), hall j hj'] at h1
        cases h1
      · have hE' := sfT ops.size (Nat.le_refl _)
        have hkd : ∀ id, Kd (Lst listed) (fun j => (ef j).kl) ops.size id = Kd (fun j => decide (j < ops.size)) (fun j => (ef j).kl) ops.size id := by
          intro id
          rw [Bool.eq_iff_iff, Kd_iff, Kd_iff]
          exact ⟨fun ⟨j, h1, _, h3⟩ => ⟨j, h1, by simpa using h1, h3⟩, fun ⟨j, h1, _, h3⟩ => ⟨j, h1, hall j h1, h3⟩⟩
        have hkf : Kf (Lst listed) (fun j => (ef j).kl) ops.size = Kf (fun j => decide (j < ops.size)) (fun j => (ef j).kl) ops.size := funext fun id => Kf_congr (hkd id)
        refine hQ _ a w g3 (s.lks (fun i => ?_) (fun i => ?_) ?_)
        · rw [hT.s, hE'.s, hkf, lastW_congr (sel := Lst listed) (sel' := fun j => decide (j < ops.size)) fun j hj _ => by rw [hall j hj]; simp [hj]]
        · rw [hT.l, hE'.l, hkf, hkd, lastW_congr (sel := Lst listed) (sel' := fun j => decide (j < ops.size)) fun j hj _ => by rw [hall j hj]; simp [hj]]
        · rw [hT.k, hE'.k, hkf]
    | succ fuel ih =>
      intro listed a w X hsz hc hf hT s
      obtain ⟨j, hj, hjl⟩ : ∃ j, j < ops.size ∧ Lst listed j = false := by
        apply Classical.byContradiction
        intro hne
        have : cnt (Lst listed) ops.size = ops.size := cnt_full _ fun j hj => by
          cases hl : Lst listed j with
          | true => rfl
          | false => exact absurd ⟨j, hj, hl⟩ hne
        omega
      have hready : Region.ready .any ops listed ≠ [] := by
        obtain ⟨i, h1, h2, h3⟩ := least (p := fun i => Lst listed i = false) j hjl
        have hi : i < ops.size := by omega
        have : i ∈ Region.ready .any ops listed := by
          refine mem_ready.2 ⟨by rw [lst_true (by omega)]; exact h2, ops[i], by simp [hi], fun e he hb => ?_⟩
          have hlt := hback i ops[i] e (by simp [hi]) he hb
          have := h3 e.on hlt
          show Lst listed e.on = true
          simpa using this
        exact List.ne_nil_of_mem this
      refine ⟨fun hr => absurd hr hready, fun i hi => ?_⟩
      obtain ⟨h1, o, ho, he⟩ := mem_ready.1 hi
      have hi' : i < ops.size := (Array.getElem?_eq_some_iff.1 ho).1
      have hoi : ops[i]! = o := by
        rw [getElem!_pos ops i hi']
        exact (Array.getElem?_eq_some_iff.1 ho).2
      rw [lst_true (by omega)] at h1
      have hpred : ∀ m, ((befL ops.toList []).getD i 0).testBit m = true → Lst listed m = true := fun m hb => ready_pred hc hi hb
      have hsucc : ∀ m, ((befL ops.toList []).getD m 0).testBit i = true → Lst listed m = false := by
        intro m hb
        cases hl : Lst listed m with
        | false => rfl
        | true => rw [hc m i hl hb] at h1; cases h1
      have hcan := can i hi'
      rw [hoi] at hcan
      have hSi := sfT i (by omega)
      -- who comes later and clashes has not been yet; who came before and clashes has
      have late : ∀ k, i < k → k < ops.size → indep (rf i) (rf k) = false → Lst listed k = false := fun k hik hk hind => hsucc k (ord i k hik hk hind)
      have early : ∀ k, k < i → indep (rf k) (rf i) = false → Lst listed k = true := fun k hki hind => hpred k (ord k i hki hi' hind)
      have hlate : ∀ j id, i < j → j < ops.size → Lst listed j = true → (ef j).kl = some id → id ∉ (rf i).ob := by
        intro j id hij hj hl hk hin
        rw [late j hij hj (ind (.inr (.inr (.inr (.inr (.inr (.inr (.inl (memO_eq ((rcd j hj).2.2.1.trans hk) hin))))))))) ] at hl
        cases hl
      -- who wrote what is looked at
      have hsel : ∀ k, k < ops.size → (∃ x, (ef k).d = some x ∧ x ∈ (rf i).rd) ∨ (∃ x, (ef k).o.map (·.1) = some x ∧ x ∈ (rf i).ob) → decide (k < i) = Lst listed k := by
        intro k hk hw
        obtain ⟨r1, r2, _⟩ := rcd k hk
        rcases Nat.lt_trichotomy k i with hki | hki | hki
        · rw [early k hki (ind ?_)]
          · simp [hki]
          · rcases hw with ⟨x, h1, h2⟩ | ⟨x, h1, h2⟩
            · exact .inl (memO_eq (r1.trans h1) h2)
            · exact .inr (.inr (.inr (.inl (memO_eq (r2.trans h1) h2))))
        · subst hki
          rw [h1]; simp
        · rw [late k hki hk (ind ?_)]
          · simp; omega
          · rcases hw with ⟨x, h1, h2⟩ | ⟨x, h1, h2⟩
            · exact .inr (.inl (memO_eq (r1.trans h1) h2))
            · exact .inr (.inr (.inr (.inr (.inl (memO_eq (r2.trans h1) h2)))))
      -- names that stand in what is looked at
      have kdS : ∀ x, x ∈ (rf i).rd → ∀ v, (lastW (fun j => decide (j < i)) (fun j => eS (ef j) x) ops.size).or (lk x st0.s) = some v → ∀ id, hasId id v = true → Kd (fun j => decide (j < i)) (fun j => (ef j).kl) ops.size id = Kd (Lst listed) (fun j => (ef j).kl) ops.size id := by
        intro x hx v hv id hid
        rw [Bool.eq_iff_iff]
        constructor
        · intro hb
          obtain ⟨j, j1, j2, j3⟩ := Kd_iff.1 hb
          have hji : j < i := by simpa using j2
          refine Kd_iff.2 ⟨j, j1, ?_, j3⟩
          have hvj := lastW_back (j := j) (by omega) (by omega) hv (fun w hw1 hw2 hw3 => by
            have := eS_v hw3
            subst this
            rcases Nat.lt_or_ge j w with hlt | hge
            · exact fc1 j w id hlt (by omega) j3 (frv w id (by omega) hid)
            · have : w = j := by omega
              subst this
              rw [(fkl w id j1 j3).2.1] at hid
              cases hid)
          have hsj := (sfT j (by omega)).s x
          rw [hvj] at hsj
          have hmem : x ∈ (rf j).ts := by
            rw [(rcd j j1).2.2.2.1]
            exact withId_of j3 hsj (hasId_map (Kf_keep (once j id j1 j3)) hid)
          exact early j hji (ind (.inr (.inr (.inr (.inr (.inr (.inr (.inr (.inl (meets_of hmem hx))))))))))
        · intro hb
          obtain ⟨j, j1, j2, j3⟩ := Kd_iff.1 hb
          rcases Nat.lt_trichotomy j i with hji | hji | hji
          · exact Kd_iff.2 ⟨j, j1, by simpa using hji, j3⟩
          · subst hji; rw [h1] at j2; cases j2
          · cases hn : Kd (fun j => decide (j < i)) (fun j => (ef j).kl) ops.size id with
            | true => rfl
            | false =>
              exfalso
              have hsi := hSi.s x
              rw [hv] at hsi
              have hin := List.all_eq_true.1 hcan.inn x hx
              rw [hsi] at hin
              exact hlate j id hji j1 j2 j3 (hasId_in hin (hasId_map (Kf_keep hn) hid))
      have kdY : ∀ y, y ∈ (rf i).ob → Kd (fun j => decide (j < i)) (fun j => (ef j).kl) ops.size y = false ∧ Kd (Lst listed) (fun j => (ef j).kl) ops.size y = false := by
        intro y hy
        constructor
        · cases hb : Kd (fun j => decide (j < i)) (fun j => (ef j).kl) ops.size y with
          | false => rfl
          | true =>
            obtain ⟨j, j1, j2, j3⟩ := Kd_iff.1 hb
            exact absurd hy (fc1 j i y (by simpa using j2) hi' j3)
        · cases hb : Kd (Lst listed) (fun j => (ef j).kl) ops.size y with
          | false => rfl
          | true =>
            obtain ⟨j, j1, j2, j3⟩ := Kd_iff.1 hb
            rcases Nat.lt_trichotomy j i with hji | hji | hji
            · exact absurd hy (fc1 j i y hji hi' j3)
            · subst hji; rw [h1] at j2; cases j2
            · exact absurd hy (hlate j y hji j1 j2 j3)
      have kdO : ∀ y, y ∈ (rf i).ob → ∀ v, (lastW (fun j => decide (j < i)) (fun j => eO (ef j) y) ops.size).or (lk y st0.l) = some v → ∀ id, hasOb id v = true → Kd (fun j => decide (j < i)) (fun j => (ef j).kl) ops.size id = Kd (Lst listed) (fun j => (ef j).kl) ops.size id := by
        intro y hy v hv id hid
        rw [Bool.eq_iff_iff]
        constructor
        · intro hb
          obtain ⟨j, j1, j2, j3⟩ := Kd_iff.1 hb
          have hji : j < i := by simpa using j2
          refine Kd_iff.2 ⟨j, j1, ?_, j3⟩
          have hvj := lastW_back (j := j) (by omega) (by omega) hv (fun w hw1 hw2 hw3 => by
            have hwo := eO_v hw3
            rcases Nat.lt_or_ge j w with hlt | hge
            · exact fc1 j w id hlt (by omega) j3 ((fob w y v (by omega) hwo).2 id hid)
            · have : w = j := by omega
              subst this
              rw [((fkl w id j1 j3).2.2 y v hwo).2] at hid
              cases hid)
          have hsj := (sfT j (by omega)).l y
          have hkj : Kd (fun m => decide (m < j)) (fun j => (ef j).kl) ops.size y = false := by
            cases hb2 : Kd (fun m => decide (m < j)) (fun j => (ef j).kl) ops.size y with
            | false => rfl
            | true =>
              obtain ⟨m, m1, m2, m3⟩ := Kd_iff.1 hb2
              have : m < j := by simpa using m2
              exact absurd hy (fc1 m i y (by omega) hi' m3)
          rw [hvj, if_neg (by rw [hkj]; simp)] at hsj
          have hmem : y ∈ (rf j).tb := by
            rw [(rcd j j1).2.2.2.2]
            exact withId_of j3 hsj (hasOb_map (Kf_keep (once j id j1 j3)) hid)
          exact early j hji (ind (.inr (.inr (.inr (.inr (.inr (.inr (.inr (.inr (meets_of hmem hy))))))))))
        · intro hb
          obtain ⟨j, j1, j2, j3⟩ := Kd_iff.1 hb
          rcases Nat.lt_trichotomy j i with hji | hji | hji
          · exact Kd_iff.2 ⟨j, j1, by simpa using hji, j3⟩
          · subst hji; rw [h1] at j2; cases j2
          · cases hn : Kd (fun j => decide (j < i)) (fun j => (ef j).kl) ops.size id with
            | true => rfl
            | false =>
              exfalso
              have hsi := hSi.l y
              rw [hv, if_neg (by rw [(kdY y hy).1]; simp)] at hsi
              have hin := List.all_eq_true.1 hcan.cl y hy
              rw [hsi] at hin
              cases v with
              | row t xs => cases hid
              | mp kt vt es => cases hid
              | var t c =>
                exact hlate j id hji j1 j2 j3 (hasId_in (rv := mapR _ c) hin (hasId_map (Kf_keep hn) hid))
              | lp c q =>
                exact hlate j id hji j1 j2 j3 (hasId_in (rv := mapR _ c) hin (hasId_map (Kf_keep hn) hid))
      have hAg : Ag (rf i).rd (rf i).ob (sf i) X := {
        s := fun x hx => by
          rw [hT.s, hSi.s, ← lastW_congr (sel := fun j => decide (j < i)) (sel' := Lst listed) fun k hk hsome => hsel k hk (.inl ⟨x, eS_d hsome, hx⟩)]
          cases hv : (lastW (fun j => decide (j < i)) (fun j => eS (ef j) x) ops.size).or (lk x st0.s) with
          | none => rfl
          | some v => exact congrArg some (mapR_congr v fun id hid => Kf_congr (kdS x hx v hv id hid))
        l := fun x hx => by
          rw [hT.l, hSi.l, ← lastW_congr (sel := fun j => decide (j < i)) (sel' := Lst listed) fun k hk hsome => hsel k hk (.inr ⟨x, eO_w hsome, hx⟩), if_neg (by rw [(kdY x hx).1]; simp), if_neg (by rw [(kdY x hx).2]; simp)]
          cases hv : (lastW (fun j => decide (j < i)) (fun j => eO (ef j) x) ops.size).or (lk x st0.l) with
          | none => rfl
          | some v => exact congrArg some (mapOb_congr v fun id hid => Kf_congr (kdO x hx v hv id hid))
        b := by rw [hT.b, hSi.b]
        n := fun x hx rv hl => by
          have := List.all_eq_true.1 hcan.inn x hx
          rw [hl] at this
          exact this
        c := fun x hx ty con hl => by
          have := List.all_eq_true.1 hcan.cl x hx
          rw [hl] at this
          exact this
        y := fun x hx con q hl => by
          have := List.all_eq_true.1 hcan.cl x hx
          rw [hl] at this
          exact this }
      have hrd : (rf i).rd = slotsOf o ++ (guardSlot ops o).toList := by rw [hcan.rc]; rfl
      have hob : ∀ d, o.dst = some d → newId (sf i) d ∈ (rf i).ob := fun d hdd => by
        rw [hcan.rc]
        simp only [rcOf, hdd]
        simp
      have hstep : stepG E ops o X some = some (ef i) := by
        rw [← stepG_loc hAg (by rw [hrd]; exact fun _ h => h) hob]
        exact hcan.gives _ some
      intro o' ho'
      obtain rfl := Option.some.inj (ho.symm.trans ho')
      refine stepG_sound hE s (hd i o ho) hstep _ fun a' w' s' => ?_
      refine ih _ a' w' (apE (ef i) X) (by simp [hsz]) ?_ ?_ ?_ s'
      · intro x m hx hb
        rw [lst_set (by omega)] at hx ⊢
        split
        · rfl
        · split at hx
          · rename_i hxi; subst hxi; exact hpred m hb
          · exact hc x m hx hb
      · rw [cnt_set h1 (by rw [lst_set (by omega)]; simp) (fun x hx => by rw [lst_set (by omega), if_neg hx]) ops.size hi']
        omega
      · refine stepT _ _ X i hi' hT h1 (fun k => lst_set (by omega) k) hlate (fun k x hik hk hlk hsome => ?_) (fun k x hik hk hlk hsome => ?_)
        · cases hn : eS (ef k) x with
          | none => rfl
          | some v =>
            rw [late k hik hk (ind (.inr (.inr (.inl (sameO_eq ((rcd i hi').1.trans (eS_d hsome)) ((rcd k hk).1.trans (eS_d (by rw [hn]; rfl))))))))] at hlk
            cases hlk
        · cases hn : eO (ef k) x with
          | none => rfl
          | some v =>
            rw [late k hik hk (ind (.inr (.inr (.inr (.inr (.inr (.inl (sameO_eq ((rcd i hi').2.1.trans (eO_w hsome)) ((rcd k hk).2.1.trans (eO_w (by rw [hn]; rfl)))))))))))] at hlk
            cases hlk
  have hinit : ∀ i, Lst (Array.replicate ops.size false) i = false := by
    intro i
    unfold Lst
    by_cases hi : i < ops.size <;> simp [hi]
  refine main ops.size _ a w st0 (by simp) (fun i m hi => by rw [hinit] at hi; cases hi) ?_ (Tells.init fun j _ => hinit j) s
  have : ∀ n, cnt (Lst (Array.replicate ops.size false)) n = 0 := by
    intro n
    induction n with
    | zero => rfl
    | succ n ih => simp [cnt, ih, hinit]
  rw [this]
  omega
end
end Go.Lift
