/- A region whose order is left open: whatever the order, what the typed frame says holds. -/
import Derived.Test.YtnhiaoabhjjegaaLiftN
namespace Go.Lift
open Go.RowKit

theorem least {p : Nat → Prop} [DecidablePred p] : ∀ j, p j → ∃ i, i ≤ j ∧ p i ∧ ∀ m, m < i → ¬ p m := by
  intro j
  induction j using Nat.strongRecOn with
  | ind j ih =>
    intro hj
    by_cases h : ∃ m, m < j ∧ p m
    · obtain ⟨m, h1, h2⟩ := h
      obtain ⟨i, g1, g2, g3⟩ := ih m h1 h2
      exact ⟨i, by omega, g2, g3⟩
    · exact ⟨j, Nat.le_refl _, hj, fun m hm hp => h ⟨m, hm, hp⟩⟩

section
variable {P : Program} {E : Env} {el : TypeId → Option TypeId} {Q : Exit → Act → World → Prop} {w0 : World} {M0 : Own} {N : Nat}

theorem Live.congr {s s' : List (Nat × AV)} (h : ∀ i, lk i s = lk i s') {k : Nat} {e : TypeId} (hl : Live s k e) : Live s' k e := by
  obtain ⟨i, v, hi⟩ := hl
  exact ⟨i, v, by rw [← h]; exact hi⟩

theorem SimX.congr {fr fr' : Fr} {a : Act} {w : World} {M : Own} {β : Nat → Nat} {τ : Nat → Value} (s : SimX P w0 M0 N M β τ fr a w) (hl : fr.l = fr'.l) (h : ∀ i, lk i fr.s = lk i fr'.s) : SimX P w0 M0 N M β τ fr' a w := by
  obtain ⟨fs, l⟩ := fr
  obtain ⟨fs', l'⟩ := fr'
  simp only at hl h
  subst hl
  have hc : ∀ {k e}, Live fs' k e → Live fs k e := fun hk => hk.congr fun i => (h i).symm
  exact {
    df := s.df, sz := s.sz, bel := s.bel, mlt := s.mlt, mex := s.mex, gk := s.gk, mnew := s.mnew, lo := s.lo, ld := s.ld
    sl := fun i av hi => s.sl i av (by simp only; rw [h]; exact hi)
    ti := fun k e hk => s.ti k e (hc hk)
    tl := fun k e id x b hk => s.tl k e id x b (hc hk)
    tt := fun k e k' e' hk hk' => s.tt k e k' e' (hc hk) (hc hk') }
theorem Sim.congr {fr fr' : Fr} {a : Act} {w : World} (s : Sim P w0 M0 N fr a w) (hl : fr.l = fr'.l) (h : ∀ i, lk i fr.s = lk i fr'.s) : Sim P w0 M0 N fr' a w := by
  obtain ⟨M, β, τ, s⟩ := s
  exact ⟨M, β, τ, s.congr hl h⟩

theorem wpOp_of_G {ops : Array Oper} {i : Nat} {o : Oper} {a : Act} {w : World} {K : Act → World → Prop} (ho : ops[i]? = some o) (h : GStep P Q ops o a w K) : wpOp P ops Q i K a w := by
  unfold wpOp
  unfold GStep at h
  simp only [ho]
  split
  · rename_i hw; rw [if_pos hw] at h; exact .inl h
  · rename_i hw; rw [if_neg hw] at h; exact h

theorem eff_step (hE : EnvOk P E el) {ops : Array Oper} {o : Oper} {fr : Fr} {a : Act} {w : World} {av : AV} (he : Eff E ops o fr av) (s : Sim P w0 M0 N fr a w) (hd : ∀ d, o.dst = some d → d < N) (K : Act → World → Prop)
    (hK : ∀ a' w', Sim P w0 M0 N (setS fr o.dst av) a' w' → K a' w') : GStep P Q ops o a w K := by
  obtain ⟨M, β, τ, s⟩ := s
  unfold GStep
  have run : (∀ (β : Type) (k' : AV → Option β), opV E o fr k' = k' av) → o.wp P a w K Q := by
    intro hv
    have hs := hv _ some
    obtain ⟨av', h1, h2, h3⟩ := (opV_par (E := E) (fr := fr) (o := o)).out _ some av hs
    obtain rfl : av' = av := Option.some.inj h3
    exact ostep_val (Q := Q) hE s hd hs h1 K hK
  unfold Eff at he
  split at he
  · rename_i hg
    simp only [Region.wanted, hg, if_true]
    exact run he
  · rename_i j want hg
    obtain ⟨g, b, h1, h2, h3⟩ := he
    have hy := yielded_ok s h1 h2
    simp only [Region.wanted, hg, hy]
    split at h3
    · rename_i hb
      subst hb
      simp only [beq_self_eq_true, if_true]
      exact run h3
    · rename_i hb
      subst h3
      rw [if_neg (by simpa using hb)]
      exact hK _ _ ⟨M, β, τ, s.set o.dst hd trivial OwnLive.any⟩

def Lst (listed : Array Bool) (i : Nat) : Bool := listed.getD i false

theorem lst_set {listed : Array Bool} {i : Nat} (hi : i < listed.size) (j : Nat) : Lst (listed.setIfInBounds i true) j = if j = i then true else Lst listed j := by
  unfold Lst
  by_cases h : j = i
  · subst h; simp [hi]
  · rw [if_neg h, getD_set_ne false (Ne.symm h)]

theorem lst_true {listed : Array Bool} {i : Nat} (hi : i < listed.size) : listed.getD i true = Lst listed i := by
  unfold Lst
  simp [hi]

def Clos (b : List Nat) (f : Nat → Bool) : Prop := ∀ i m, f i = true → (b.getD i 0).testBit m = true → f m = true

theorem ready_pred {ops : Array Oper} {listed : Array Bool} {i m : Nat} (hc : Clos (befL ops.toList []) (Lst listed)) (hi : i ∈ Region.ready .any ops listed) (hb : ((befL ops.toList []).getD i 0).testBit m = true) : Lst listed m = true := by
  obtain ⟨_, o, ho, he⟩ := mem_ready.1 hi
  obtain ⟨e, h1, h2, h3⟩ := befL_spec (l := ops.toList) (by simpa using ho) hb
  have hl := he e h1 h2
  rcases h3 with rfl | h3
  · exact hl
  · exact hc _ _ hl h3

theorem bits_lt {ops : Array Oper} (hback : ∀ (i : Nat) (o : Oper) (e : Edge), ops[i]? = some o → e ∈ o.after → Region.binds .any e = true → e.on < i) : ∀ i m, ((befL ops.toList []).getD i 0).testBit m = true → m < i := by
  intro i
  induction i using Nat.strongRecOn with
  | ind i ih =>
    intro m h
    cases ho : ops[i]? with
    | none =>
      obtain ⟨ms, h1, h2⟩ := befL_app ops.toList []
      have hlen : (befL ops.toList []).length = ops.size := by rw [h1]; simp [h2]
      have : ops.size ≤ i := by simpa using ho
      simp [List.getD_eq_getElem?_getD, List.getElem?_eq_none (show (befL ops.toList []).length ≤ i by omega)] at h
    | some o =>
      obtain ⟨e, h1, h2, h3⟩ := befL_spec (l := ops.toList) (by simpa using ho) h
      have hlt := hback i o e ho h1 h2
      rcases h3 with rfl | h3
      · exact hlt
      · have := ih e.on hlt m h3; omega

theorem draw_tail (hE : EnvOk P E el) {ops : Array Oper} {α : Type} {kn : Fr → Option α} {r : α} {nA : Nat} (hd : ∀ (i : Nat) (o : Oper), ops[i]? = some o → ∀ d, o.dst = some d → d < N)
    (hback : ∀ (i : Nat) (o : Oper) (e : Edge), ops[i]? = some o → e ∈ o.after → Region.binds .any e = true → e.on < i) (htail : ∀ j, j < ops.size → nA ≤ j → (befL ops.toList []).getD j 0 = 2 ^ j - 1)
    (hQ : ∀ fr a w, kn fr = some r → Sim P w0 M0 N fr a w → Q .normal a w) : ∀ (fuel m : Nat) (listed : Array Bool) (fr : Fr) (a : Act) (w : World), listed.size = ops.size → (∀ j, j < ops.size → Lst listed j = decide (j < m)) → nA ≤ m → m ≤ ops.size →
      fuel + m = ops.size → opsK E el ops (ops.toList.drop m) fr kn = some r → Sim P w0 M0 N fr a w → wpAny P .any ops Q fuel listed a w := by
  intro fuel
  induction fuel with
  | zero =>
    intro m listed fr a w hsz hl _ _ hf h s
    have hm : m = ops.size := by omega
    subst hm
    refine ⟨?_, ?_⟩
    · apply List.eq_nil_iff_forall_not_mem.2
      intro j hj
      obtain ⟨h1, o, ho, _⟩ := mem_ready.1 hj
      have hj' : j < ops.size := (Array.getElem?_eq_some_iff.1 ho).1
      rw [lst_true (by omega), hl j hj'] at h1
      simp [hj'] at h1
    · rw [List.drop_eq_nil_of_le (by simp)] at h
      exact hQ fr a w h s
  | succ fuel ih =>
    intro m listed fr a w hsz hl hnA hmn hf h s
    have hm : m < ops.size := by omega
    obtain ⟨o, ho⟩ : ∃ o, ops[m]? = some o := ⟨ops[m], by simp [hm]⟩
    have hready : m ∈ Region.ready .any ops listed := by
      refine mem_ready.2 ⟨by rw [lst_true (by omega), hl m hm]; simp, o, ho, fun e he hb => ?_⟩
      have := hback m o e ho he hb
      show Lst listed e.on = true
      rw [hl e.on (by omega)]
      simp [this]
    refine ⟨(fun hr => by rw [hr] at hready; cases hready), fun i hi => ?_⟩
    obtain ⟨h1, o', ho', he⟩ := mem_ready.1 hi
    have hi' : i < ops.size := (Array.getElem?_eq_some_iff.1 ho').1
    have him : i = m := by
      rw [lst_true (by omega), hl i hi'] at h1
      have hge : m ≤ i := by simpa using h1
      rcases Nat.lt_or_ge m i with hlt | hge'
      · exfalso
        have hb : ((befL ops.toList []).getD i 0).testBit m = true := by
          rw [htail i hi' (by omega)]
          simp [Nat.testBit_two_pow_sub_one, hlt]
        obtain ⟨e, g1, g2, g3⟩ := befL_spec (l := ops.toList) (by simpa using ho') hb
        have hle : Lst listed e.on = true := he e g1 g2
        have hon : e.on < i := hback i o' e ho' g1 g2
        rw [hl e.on (by omega)] at hle
        have hlt2 : e.on < m := by simpa using hle
        rcases g3 with g3 | g3
        · omega
        · have := bits_lt hback _ _ g3; omega
      · omega
    subst him
    obtain rfl : o' = o := Option.some.inj (ho'.symm.trans ho)
    have hdrop : ops.toList.drop i = o' :: ops.toList.drop (i + 1) := by
      rw [List.drop_eq_getElem_cons (by simpa using hm)]
      congr 1
      have := (Array.getElem?_eq_some_iff.1 ho).2
      simpa using this
    rw [hdrop] at h
    refine wpOp_of_G ho' (opsK_cons hE h s (hd i o' ho') _ fun fr' a' w' h' s' => ?_)
    refine ih (i + 1) _ fr' a' w' (by simp [hsz]) (fun j hj => ?_) (by omega) (by omega) (by omega) h' s'
    rw [lst_set (by omega), hl j hj]
    by_cases hji : j = i
    · subst hji; simp
    · rw [if_neg hji]
      congr 1
      simp
      omega

theorem draw_sound (hE : EnvOk P E el) {ops : Array Oper} {α : Type} {kn : Fr → Option α} {r : α} {nA : Nat} (hnA : nA ≤ ops.size) (hok : drawOk ops (befL ops.toList []) nA = true) (hd : ∀ (i : Nat) (o : Oper), ops[i]? = some o → ∀ d, o.dst = some d → d < N)
    (hQ : ∀ fr a w, kn fr = some r → Sim P w0 M0 N fr a w → Q .normal a w) {fr0 : Fr} {a : Act} {w : World} (h : opsA E ops (ops.toList.take nA) fr0 (fun fr => opsK E el ops (ops.toList.drop nA) fr kn) = some r) (s : Sim P w0 M0 N fr0 a w) :
    wpAny P .any ops Q ops.size (Array.replicate ops.size false) a w := by
  simp only [drawOk, Bool.and_eq_true] at hok
  obtain ⟨_, hpairs, htail, hbk⟩ := hok
  have hback : ∀ (i : Nat) (o : Oper) (e : Edge), ops[i]? = some o → e ∈ o.after → Region.binds .any e = true → e.on < i := by
    intro i o e ho he hb
    have hm : (o, i) ∈ ops.toList.zipIdx 0 := by rw [List.mk_mem_zipIdx_iff_getElem?]; simpa using ho
    have := List.all_eq_true.1 (List.all_eq_true.1 hbk _ hm) e (by simpa using he)
    simp only [hb, Bool.not_true, Bool.false_or] at this
    exact Nat.lt_of_lt_of_le (Nat.lt_succ_self _) (Nat.le_of_ble_eq_true this)
  have htail' : ∀ j, j < ops.size → nA ≤ j → (befL ops.toList []).getD j 0 = 2 ^ j - 1 := by
    intro j hj hn
    have := List.all_eq_true.1 htail j (List.mem_range.2 hj)
    simp only [Bool.or_eq_true] at this
    rcases this with h | h
    · have := Nat.le_of_ble_eq_true h; omega
    · exact Nat.eq_of_beq_eq_true h
  obtain ⟨avs, hv, hlen, hk⟩ := opsA_vals _ _ h
  generalize hL : (ops.toList.take nA).zip avs = L at *
  have hLlen : (ops.toList.take nA).length = nA := by simp; omega
  have hLat : ∀ i o av, L[i]? = some (o, av) → ops[i]? = some o ∧ avs[i]? = some av ∧ i < nA := by
    intro i o av hi
    rw [← hL, List.getElem?_zip_eq_some] at hi
    obtain ⟨h1, h2⟩ := hi
    rw [List.getElem?_take] at h1
    split at h1
    · rename_i hlt; exact ⟨by simpa using h1, h2, hlt⟩
    · cases h1
  have hclash : ∀ i k o p, ops[i]? = some o → ops[k]? = some p → i < k → k < nA → clash ops o p = true → ((befL ops.toList []).getD k 0).testBit i = true := by
    intro i k o p ho hp hik hk hc
    refine pairsOk_spec _ [] 0 hpairs rfl i k o p ?_ ?_ hik (Nat.zero_le _) hc
    · simp only [List.nil_append, List.getElem?_take]; rw [if_pos (by omega)]; simpa using ho
    · simp only [List.nil_append, List.getElem?_take]; rw [if_pos hk]; simpa using hp
  have main : ∀ (fuel : Nat) (listed : Array Bool) (a : Act) (w : World), listed.size = ops.size → Clos (befL ops.toList []) (Lst listed) → (∀ j, nA ≤ j → j < ops.size → Lst listed j = false) → fuel + cnt (Lst listed) ops.size = ops.size →
      Sim P w0 M0 N (fsel (Lst listed) 0 L fr0) a w → wpAny P .any ops Q fuel listed a w := by
    intro fuel
    induction fuel with
    | zero =>
      intro listed a w hsz hc hun hf s
      have hall := cnt_all ops.size (by omega : cnt (Lst listed) ops.size = ops.size)
      have hn : nA = ops.size := by
        rcases Nat.lt_or_ge nA ops.size with h | h
        · have := hun nA (Nat.le_refl _) h; rw [hall nA h] at this; cases this
        · omega
      rw [← hL, fsel_all _ _ 0 fr0 (fun j _ hj => hall j (by omega)) hlen] at s
      exact draw_tail hE hd hback htail' hQ 0 ops.size listed _ a w hsz (fun j hj => by rw [hall j hj]; simp [hj]) (by omega) (Nat.le_refl _) (by omega) ((show List.drop ops.size ops.toList = List.drop nA ops.toList by rw [hn]) ▸ hk) s
    | succ fuel ih =>
      intro listed a w hsz hc hun hf s
      by_cases hA : ∀ j, j < nA → Lst listed j = true
      · rw [← hL, fsel_all _ _ 0 fr0 (fun j _ hj => hA j (by omega)) hlen] at s
        have hcnt : cnt (Lst listed) ops.size = nA := by
          have key : ∀ n, nA ≤ n → n ≤ ops.size → cnt (Lst listed) n = nA := by
            intro n
            induction n with
            | zero => intro h1 _; simp only [cnt]; omega
            | succ n ihn =>
              intro h1 h2
              simp only [cnt]
              by_cases h3 : nA ≤ n
              · rw [ihn h3 (by omega), hun n h3 (by omega)]; simp
              · have h4 : nA = n + 1 := by omega
                rw [cnt_full n fun i hi => hA i (by omega), hA n (by omega)]
                simp [h4]
          exact key ops.size hnA (Nat.le_refl _)
        refine draw_tail hE hd hback htail' hQ (fuel + 1) nA listed _ a w hsz (fun j hj => ?_) (Nat.le_refl _) hnA (by omega) hk s
        by_cases hj' : j < nA
        · rw [hA j hj']; simp [hj']
        · rw [hun j (by omega) hj]; simp [hj']
      · obtain ⟨j, hj, hjl⟩ : ∃ j, j < nA ∧ Lst listed j = false := by
          apply Classical.byContradiction
          intro hne
          exact hA fun j hj => by
            cases hl : Lst listed j with
            | true => rfl
            | false => exact absurd ⟨j, hj, hl⟩ hne
        have hready : Region.ready .any ops listed ≠ [] := by
          obtain ⟨i, h1, h2, h3⟩ := least (p := fun i => Lst listed i = false) j hjl
          have hi : i < ops.size := by omega
          have : i ∈ Region.ready .any ops listed := by
            refine mem_ready.2 ⟨by rw [lst_true (by omega)]; exact h2, ops[i], by simp [hi], fun e he hb => ?_⟩
            have hlt := hback i ops[i] e (by simp [hi]) he hb
            have := h3 e.on hlt
            show Lst listed e.on = true
            simpa using this
          exact List.ne_nil_of_mem this
        refine ⟨fun hr => absurd hr hready, fun i hi => ?_⟩
        obtain ⟨h1, o, ho, he⟩ := mem_ready.1 hi
        have hi' : i < ops.size := (Array.getElem?_eq_some_iff.1 ho).1
        rw [lst_true (by omega)] at h1
        have hiA : i < nA := by
          rcases Nat.lt_or_ge i nA with h | h
          · exact h
          · exfalso
            have hb : ((befL ops.toList []).getD i 0).testBit j = true := by
              rw [htail' i hi' h]
              simp [Nat.testBit_two_pow_sub_one]; omega
            rw [ready_pred hc hi hb] at hjl
            cases hjl
        obtain ⟨av, hav⟩ : ∃ av, avs[i]? = some av := ⟨avs[i]'(by omega), by simp⟩
        have hpred : ∀ m, ((befL ops.toList []).getD i 0).testBit m = true → Lst listed m = true := fun m hb => ready_pred hc hi hb
        have hsucc : ∀ m, ((befL ops.toList []).getD m 0).testBit i = true → Lst listed m = false := by
          intro m hb
          cases hl : Lst listed m with
          | false => rfl
          | true => rw [hc m i hl hb] at h1; cases h1
        have heff := vals_at _ _ fr0 0 i o av hv (by rw [List.getElem?_take, if_pos hiA]; simpa using ho) hav
        rw [hL, Nat.zero_add] at heff
        have hsel : ∀ s, s ∈ readsOf ops o → wsel (fun j => decide (j < i)) s 0 L = wsel (Lst listed) s 0 L := by
          intro s hs
          refine wsel_congr L 0 fun k p pv hp hpd => ?_
          obtain ⟨hpo, _, hkA⟩ := hLat k p pv hp
          rw [Nat.zero_add]
          rcases Nat.lt_trichotomy k i with hki | hki | hki
          · have hcl : clash ops p o = true := by
              simp only [clash, Bool.or_eq_true, List.any_eq_true]
              exact .inl (.inr ⟨s, hs, by rw [hpd]; simp [sameSlot]⟩)
            rw [hpred k (hclash k i p o hpo ho hki hiA hcl)]
            simp [hki]
          · subst hki
            rw [h1]; simp
          · have hcl : clash ops o p = true := by
              simp only [clash, Bool.or_eq_true, List.any_eq_true]
              exact .inr ⟨s, hs, by rw [hpd]; simp [sameSlot]⟩
            rw [hsucc k (hclash i k o p ho hpo hki hkA hcl)]
            simp; omega
        have heff' : Eff E ops o (fsel (Lst listed) 0 L fr0) av := by
          refine heff.congr (by rw [fsel_l, fsel_l]) fun s hs => ?_
          rw [fsel_lk, fsel_lk, hsel s hs]
        refine wpOp_of_G ho (eff_step hE heff' s (hd i o ho) _ fun a' w' s' => ?_)
        refine ih _ a' w' (by simp [hsz]) ?_ ?_ ?_ ?_
        · intro x m hx hb
          rw [lst_set (by omega)] at hx ⊢
          split
          · rfl
          · split at hx
            · rename_i hxi; subst hxi; exact hpred m hb
            · exact hc x m hx hb
        · intro x h2 h3
          rw [lst_set (by omega), if_neg (by omega)]
          exact hun x h2 h3
        · rw [cnt_set h1 (by rw [lst_set (by omega)]; simp) (fun x hx => by rw [lst_set (by omega), if_neg hx]) ops.size hi']
          omega
        · refine s'.congr (by rw [setS_l, fsel_l, fsel_l]) fun s => ?_
          rw [setS_lk, fsel_lk, fsel_lk]
          have hLi : L[i]? = some (o, av) := by
            rw [← hL, List.getElem?_zip_eq_some]
            exact ⟨by rw [List.getElem?_take, if_pos hiA]; simpa using ho, hav⟩
          by_cases hds : o.dst = some s
          · rw [if_pos hds]
            have key : ∀ (L' : List (Oper × AV)) (k : Nat), (∀ x p pv, L'[x]? = some (p, pv) → p.dst = some s → k + x ≠ i → Lst (listed.setIfInBounds i true) (k + x) = true → k + x < i) → (∃ x, k + x = i ∧ L'[x]? = some (o, av)) → wsel (Lst (listed.setIfInBounds i true)) s k L' = some av := by
              intro L'
              induction L' with
              | nil => rintro k _ ⟨x, _, hx⟩; simp at hx
              | cons q L' ihL =>
                rintro k hw ⟨x, hx1, hx2⟩
                obtain ⟨q1, q2⟩ := q
                simp only [wsel]
                cases x with
                | zero =>
                  simp only [List.getElem?_cons_zero, Option.some.injEq, Prod.mk.injEq] at hx2
                  obtain ⟨rfl, rfl⟩ := hx2
                  have hnone : wsel (Lst (listed.setIfInBounds i true)) s (k + 1) L' = none := by
                    have : ∀ (L'' : List (Oper × AV)) (k' : Nat), i < k' → (∀ x p pv, L''[x]? = some (p, pv) → p.dst = some s → Lst (listed.setIfInBounds i true) (k' + x) = true → k' + x < i) → wsel (Lst (listed.setIfInBounds i true)) s k' L'' = none := by
                      intro L''
                      induction L'' with
                      | nil => intro _ _ _; rfl
                      | cons q L'' ihn =>
                        intro k' hk' hw'
                        obtain ⟨q1', q2'⟩ := q
                        simp only [wsel]
                        rw [ihn (k' + 1) (by omega) fun x p pv hx hp hs => by
                          have := hw' (x + 1) p pv (by simpa using hx) hp (by rw [show k' + (x + 1) = k' + 1 + x by omega]; exact hs)
                          omega]
                        simp only
                        rw [if_neg]
                        rintro ⟨g1, g2⟩
                        have := hw' 0 q1' q2' (by simp) g2 (by simpa using g1)
                        omega
                    refine this L' (k + 1) (by omega) fun x p pv hx hp hs => ?_
                    have := hw (x + 1) p pv (by simpa using hx) hp (by omega) (by rw [show k + (x + 1) = k + 1 + x by omega]; exact hs)
                    omega
                  rw [hnone]
                  simp only
                  rw [if_pos ⟨by rw [show k = i by omega, lst_set (by omega)]; simp, hds⟩]
                | succ x =>
                  rw [ihL (k + 1) (fun x p pv hx hp hne hs => by
                    have := hw (x + 1) p pv (by simpa using hx) hp (by omega) (by rw [show k + (x + 1) = k + 1 + x by omega]; exact hs)
                    omega) ⟨x, by omega, by simpa using hx2⟩]
            rw [key L 0 (fun x p pv hx hp hne hs => ?_) ⟨i, by omega, hLi⟩]
            rw [Nat.zero_add] at hs hne ⊢
            rw [lst_set (by omega), if_neg hne] at hs
            obtain ⟨hpo, _, hxA⟩ := hLat x p pv hx
            rcases Nat.lt_trichotomy x i with hxi | hxi | hxi
            · exact hxi
            · exact absurd hxi hne
            · have hcl : clash ops o p = true := by
                simp only [clash, Bool.or_eq_true]
                exact .inl (.inl (by rw [hds, hp]; simp [sameSlot]))
              rw [hsucc x (hclash i x o p ho hpo hxi hxA hcl)] at hs
              cases hs
          · rw [if_neg hds]
            rw [wsel_congr (sel := Lst listed) (sel' := Lst (listed.setIfInBounds i true)) L 0 fun x p pv hx hp => by
              rw [Nat.zero_add, lst_set (by omega)]
              by_cases hxi : x = i
              · subst hxi
                rw [hLi] at hx
                cases hx
                exact absurd hp hds
              · rw [if_neg hxi]]
  have hinit : ∀ i, Lst (Array.replicate ops.size false) i = false := by
    intro i
    unfold Lst
    by_cases hi : i < ops.size <;> simp [hi]
  refine main ops.size _ a w (by simp) (fun i m hi => by rw [hinit] at hi; cases hi) (fun j _ _ => hinit j) ?_ ?_
  · have : cnt (Lst (Array.replicate ops.size false)) ops.size = 0 := by
      have : ∀ n, cnt (Lst (Array.replicate ops.size false)) n = 0 := by
        intro n
        induction n with
        | zero => rfl
        | succ n ih => simp [cnt, ih, hinit]
      exact this _
    omega
  · rw [fsel_none L 0 fr0 fun j _ => hinit j]
    exact s
end
end Go.Lift
