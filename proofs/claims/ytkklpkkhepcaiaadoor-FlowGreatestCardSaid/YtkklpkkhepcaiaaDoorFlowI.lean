/- The law FlowGreatest. -/
import Derived.Test.YtkklpkkhepcaiaaDoorFlowG
set_option linter.unusedVariables false
set_option linter.unusedSimpArgs false
set_option maxRecDepth 100000
namespace Go.Proofs.YtkklpkkhepcaiaaDoor
open Go.Lift

/-! ### what the instructions write -/
def wm (l : List Ins) : List Nat := l.map fun x => maskN (wS x)
theorem wm_len (l : List Ins) : (wm l).length = l.length := by simp [wm]
theorem wm_get {l : List Ins} {i : Nat} {x : Ins} (h : l[i]? = some x) : ma (wm l) i = maskN (wS x) := by
  unfold ma wm
  rw [List.getD_eq_getElem?_getD, List.getElem?_map, h]
  rfl
theorem wm16 {l : List Ins} (h : okC l = true) (i : Nat) : ma (wm l) i < 65536 := by
  by_cases hi : i < l.length
  · have hx : l[i]? = some l[i] := List.getElem?_eq_getElem hi
    rw [wm_get hx]
    obtain ⟨_, hs, _, _⟩ := slo_of ((okC_parts h).2.2.1 i _ hx).1
    exact fold16 hs (by decide)
  · unfold ma
    rw [List.getD_eq_getElem?_getD, List.getElem?_eq_none (by rw [wm_len]; omega)]
    decide

/-- the masks that are given: greatest where a way leads, nothing at the end and where no way leads -/
def IsM (l : List Ins) (ws : List Nat) (P A : Nat) (fs : List Nat) : Prop := fs.length = l.length ∧ ∃ m, IsG (G l) (ma ws) P A m ∧ ∀ i, i < l.length → (Rc (G l) i → i ≠ l.length - 1 → ma fs i = m i) ∧ (¬ Rc (G l) i ∨ i = l.length - 1 → ma fs i = 0)
theorem IsM.same {l : List Ins} {ws : List Nat} {P A : Nat} {a b : List Nat} (h : IsM l ws P A a) (h' : IsM l ws P A b) : a = b := by
  obtain ⟨h1, m, h2, h3⟩ := h
  obtain ⟨g1, k, g2, g3⟩ := h'
  refine ma_ext (by omega) fun i hi => ?_
  by_cases e : Rc (G l) i ∧ i ≠ l.length - 1
  · rw [(h3 i (by omega)).1 e.1 e.2, (g3 i (by omega)).1 e.1 e.2]
    exact (g2.2 m h2.1 i e.1).antisymm (h2.2 k g2.1 i e.1)
  · have : ¬ Rc (G l) i ∨ i = l.length - 1 := by
      by_cases e1 : Rc (G l) i
      · exact .inr (by by_cases e2 : i = l.length - 1; exact e2; exact absurd ⟨e1, e2⟩ e)
      · exact .inl e1
    rw [(h3 i (by omega)).2 this, (g3 i (by omega)).2 this]

abbrev low (n : Int) : Nat := 2 ^ n.toNat - 1

theorem Live_eq {l : List Ins} (h : okC l = true) (hw : WfC l) {p s : Int} (hp : 0 ≤ p) (hps : p ≤ s) (hs : s ≤ 16) : ∃ fs, cref07_Live (l, p, s) = some (ints fs) ∧ IsM l (wm l) (low p) (low s) fs := by
  obtain ⟨h1, h2, hok, hlast⟩ := okC_parts h
  have hr : ∀ i, Rc (G l) i → i < l.length := fun i hi => hi.lt h
  have hA : low s < 65536 := least16 hs
  have hPA : Sb (low p) (low s) := least_sb hps
  have hW := wm16 h
  have hwl := wm_len l
  have hleP := least_eq hp (show p ≤ 16 by omega)
  have hleA := least_eq (show 0 ≤ s by omega) hs
  rw [show 2 ^ p.toNat - 1 = low p from rfl] at hleP
  rw [show 2 ^ s.toNat - 1 = low s from rfl] at hleA
  generalize low p = P at *
  generalize low s = A at *
  show ∃ fs, nref07_Live (fun _ => List.replicate) (iterV (gref07_Live_0 (fun _ => List.replicate) big) big) (l, p, s) = _ ∧ _
  unfold nref07_Live
  simp only [mk_ok (show l.length ≤ 68719476736 by omega), cond_true, Int.toNat_natCast, Led_eq h, Option.bind_some]
  rw [show List.replicate l.length (0 : Int) = ints (List.replicate l.length 0) by simp [ints]]
  refine range_post (σ := List Nat) (g := gref07_Live_0 (fun _ => List.replicate) big) (n := l.length) (fun t i => (l, p, s, (i : Int), ledL l, ints t)) (fun k t => t.length = l.length ∧ ∀ i, i < k → ma t i = A) (fun r => ∃ fs, r = some (ints fs) ∧ IsM l (wm l) P A fs) ?_ ?_ l.length 0 big (by simp) (big_gt2 (by omega)) _ ⟨by simp, fun i hi => absurd hi (Nat.not_lt_zero _)⟩
  · rintro self0 t ⟨g1, g2⟩
    show ∃ fs, href07_Live_0 (fun _ => List.replicate) (iterV (gref07_Live_1 (fun _ => List.replicate) big self0) big) self0 _ = _ ∧ _
    unfold href07_Live_0
    dsimp only
    rw [decide_eq_false (by omega), cond_false, hleP, Option.bind_some, ints_len, show (decide ((0 : Int) ≤ 0) && decide ((0 : Int) < (t.length : Int))) = true by simp; omega, cond_true, Int.toNat_zero, ints_set]
    have hst : MI (G l) (ma (wm l)) P A l.length (t.set 0 P) := MI.start g1 h1 hPA (fun i hi _ => g2 i hi) (fun i hi => by rw [g2 i hi]; exact .refl _) hr
    refine while_post (g := gref07_Live_1 (fun _ => List.replicate) big self0)
      (fun v => ∃ ms ch, v = (l, ch, ledL l, ints ms) ∧ MI (G l) (ma (wm l)) P A l.length ms ∧ ∀ i j, Rc (G l) i → j ∈ G l i → EgM (ma (wm l)) ms ch i j)
      (fun v => 2 * (v.2.2.2.map Int.toNat).sum + (if v.2.1 then 1 else 0)) (fun r => ∃ fs, r = some (ints fs) ∧ IsM l (wm l) P A fs) ?_ big _ ?_ ?_
    · rintro self v ⟨ms, ch, rfl, m1, m3⟩ ih
      show ∃ fs, href07_Live_1 (fun _ => List.replicate) (iterV (gref07_Live_2 (fun _ => List.replicate) big self0 self) big) (iterV (gref07_Live_4 (fun _ => List.replicate) big self0 self) big) self0 self (l, ch, ledL l, ints ms) = _ ∧ _
      unfold href07_Live_1
      dsimp only
      cases ch with
      | false =>
        rw [cond_false]
        have hG : IsG (G l) (ma (wm l)) P A (ma ms) := m1.done hr fun i j hi hj => (m3 i j hi hj).resolve_left (by simp)
        refine range_post (σ := List Nat) (g := gref07_Live_4 (fun _ => List.replicate) big self0 self) (n := l.length) (fun t i => (l, (i : Int), ledL l, ints t)) (fun k t => t.length = l.length ∧ ∀ i, (k ≤ i → ma t i = ma ms i) ∧ (i < k → (Rc (G l) i → i ≠ l.length - 1 → ma t i = ma ms i) ∧ (¬ Rc (G l) i ∨ i = l.length - 1 → ma t i = 0))) (fun r => ∃ fs, r = some (ints fs) ∧ IsM l (wm l) P A fs) ?_ ?_ l.length 0 big (by simp) (big_gt2 (by omega)) ms ⟨m1.len, fun i => ⟨fun _ => rfl, fun hi => absurd hi (Nat.not_lt_zero _)⟩⟩
        · rintro self1 t ⟨f1, f2⟩
          show ∃ fs, href07_Live_4 (fun _ => List.replicate) self0 self self1 _ = _ ∧ _
          unfold href07_Live_4
          dsimp only
          rw [decide_eq_false (by omega), cond_false]
          exact ⟨t, rfl, f1, ma ms, hG, fun i hi => (f2 i).2 hi⟩
        · rintro self1 t i hi ⟨f1, f2⟩
          left
          show ∃ s', _ ∧ href07_Live_4 (fun _ => List.replicate) self0 self self1 _ = _
          unfold href07_Live_4
          dsimp only
          simp only [ints_len, ledL_len, f1, in_r hi, cond_true, last_w h1 (show l.length ≤ 1000000 by omega)]
          rw [decide_eq_true (show (i : Int) < (l.length : Int) by omega), cond_true, w64 (z := (i : Int) + 1) (by omega) (by omega), Int.toNat_natCast, nth_get, show (0 : Int) = ((0 : Nat) : Int) from rfl, ints_set]
          have zero : (¬ Rc (G l) i ∨ i = l.length - 1) → (t.set i 0).length = l.length ∧ ∀ a, (i + 1 ≤ a → ma (t.set i 0) a = ma ms a) ∧ (a < i + 1 → (Rc (G l) a → a ≠ l.length - 1 → ma (t.set i 0) a = ma ms a) ∧ (¬ Rc (G l) a ∨ a = l.length - 1 → ma (t.set i 0) a = 0)) := fun hz => by
            refine ⟨by simp [f1], fun a => ?_⟩
            rw [ma_set (by omega)]
            by_cases e : a = i
            · subst e
              rw [if_pos rfl]
              refine ⟨fun e => by omega, fun _ => ⟨fun e1 e2 => ?_, fun _ => rfl⟩⟩
              rcases hz with hz | hz
              · exact absurd e1 hz
              · exact absurd hz e2
            · rw [if_neg e]
              exact ⟨fun e => (f2 a).1 (by omega), fun e => (f2 a).2 (by omega)⟩
          by_cases hri : Rc (G l) i
          · rw [(ledL_at hi).2 hri]
            by_cases e : i = l.length - 1
            · refine ⟨t.set i 0, zero (.inr e), ?_⟩
              rw [show ((i : Int) == ((l.length - 1 : Nat) : Int)) = true by simp [e]]
              rfl
            · refine ⟨t, ⟨f1, fun a => ⟨fun ha => (f2 a).1 (by omega), fun ha => ?_⟩⟩, ?_⟩
              · by_cases e3 : a = i
                · subst e3
                  exact ⟨fun _ _ => (f2 a).1 (Nat.le_refl _), fun hz => hz.elim (fun hz => absurd hri hz) fun hz => absurd hz e⟩
                · exact (f2 a).2 (by omega)
              · rw [show ((i : Int) == ((l.length - 1 : Nat) : Int)) = false by simp; omega]
                rfl
          · rw [(ledL_false hi).2 hri]
            exact ⟨t.set i 0, zero (.inl hri), rfl⟩
      | true =>
        rw [cond_true]
        refine range_post (σ := List Nat × Bool) (g := gref07_Live_2 (fun _ => List.replicate) big self0 self) (n := l.length) (fun t i => (l, t.2, (i : Int), ledL l, ints t.1))
          (fun i t => SW (G l) (ma (wm l)) P A l.length ms.sum t.1 t.2 ∧ ∀ a b, a < i → Rc (G l) a → b ∈ G l a → EgM (ma (wm l)) t.1 t.2 a b)
          (fun r => ∃ fs, r = some (ints fs) ∧ IsM l (wm l) P A fs) ?_ ?_ l.length 0 big (by simp) (big_gt2 (by omega)) (ms, false) ⟨⟨m1, Nat.le_refl _, (fun e => nomatch e)⟩, fun a b ha => absurd ha (Nat.not_lt_zero _)⟩
        · rintro self1 ⟨m, c⟩ ⟨f1, f2⟩
          dsimp only at f1 f2
          show ∃ fs, href07_Live_2 (fun _ => List.replicate) _ self0 self self1 (l, c, (l.length : Int), ledL l, ints m) = _ ∧ _
          unfold href07_Live_2
          dsimp only
          rw [decide_eq_false (by omega), cond_false]
          refine ih _ ⟨m, c, rfl, f1.mi, fun i j hi hj => f2 i j (hr i hi) hi hj⟩ ?_
          show 2 * ((ints m).map Int.toNat).sum + (if c then 1 else 0) < 2 * ((ints ms).map Int.toNat).sum + 1
          rw [ints_nat, ints_nat]
          have h3 := f1.le
          cases c with
          | false => simp only [Bool.false_eq_true, if_false]; omega
          | true => have := f1.lt rfl; simp only [if_true]; omega
        · rintro self1 ⟨m, c⟩ i hi ⟨f1, f2⟩
          dsimp only at f1 f2
          left
          show ∃ s' : List Nat × Bool, _ ∧ href07_Live_2 (fun _ => List.replicate) (iterV (gref07_Live_3 (fun _ => List.replicate) big self0 self self1) big) self0 self self1 (l, c, (i : Int), ledL l, ints m) = _
          unfold href07_Live_2
          dsimp only
          rw [decide_eq_true (show (i : Int) < (l.length : Int) by omega), cond_true, Behind_eq h hi, Option.bind_some]
          have hgl := G_len l i
          refine range_post (σ := List Nat × Bool) (g := gref07_Live_3 (fun _ => List.replicate) big self0 self self1) (n := (G l i).length) (fun t k => (l, t.2, (i : Int), (k : Int), ledL l, ints t.1, ints (G l i)))
            (fun k t => (SW (G l) (ma (wm l)) P A l.length ms.sum t.1 t.2 ∧ ∀ a b, a < i → Rc (G l) a → b ∈ G l a → EgM (ma (wm l)) t.1 t.2 a b) ∧ (Rc (G l) i → ∀ b ∈ (G l i).take k, EgM (ma (wm l)) t.1 t.2 i b))
            (fun r => ∃ s' : List Nat × Bool, (SW (G l) (ma (wm l)) P A l.length ms.sum s'.1 s'.2 ∧ ∀ a b, a < i + 1 → Rc (G l) a → b ∈ G l a → EgM (ma (wm l)) s'.1 s'.2 a b) ∧ r = self1 (l, s'.2, ((i + 1 : Nat) : Int), ledL l, ints s'.1))
            ?_ ?_ (G l i).length 0 big (by simp) (big_gt2 (by omega)) (m, c) ⟨⟨f1, f2⟩, fun _ b hb => by simp at hb⟩
          · rintro self2 ⟨m, c⟩ ⟨⟨f1, f2⟩, f3⟩
            dsimp only at f1 f2 f3
            show ∃ s' : List Nat × Bool, _ ∧ href07_Live_3 (fun _ => List.replicate) self0 self self1 self2 (l, c, (i : Int), ((G l i).length : Int), ledL l, ints m, ints (G l i)) = _
            unfold href07_Live_3
            dsimp only
            rw [ints_len (G l i), decide_eq_false (by omega), cond_false, w64 (by omega) (by omega)]
            refine ⟨(m, c), ⟨f1, fun a b ha hra hb => ?_⟩, rfl⟩
            by_cases e : a = i
            · subst e
              exact f3 hra b (by rw [List.take_length]; exact hb)
            · exact f2 a b (by omega) hra hb
          · rintro self2 ⟨m, c⟩ k hk ⟨⟨f1, f2⟩, f3⟩
            dsimp only at f1 f2 f3
            have hj : (G l i)[k]? = some (G l i)[k] := List.getElem?_eq_getElem hk
            have hjm : (G l i)[k] ∈ G l i := List.getElem_mem hk
            have hjl := G_lt h hi hjm
            generalize (G l i)[k] = j at *
            have hml : m.length = l.length := f1.mi.len
            have b16 : ∀ i, i < l.length → ma m i < 65536 := fun i hi => Nat.lt_of_le_of_lt (f1.mi.up i hi).le hA
            have hor : ma m i ||| ma (wm l) i < 65536 := or16 (b16 i hi) (hW i)
            have hx : l[i]? = some l[i] := List.getElem?_eq_getElem hi
            have hwx := hw _ (List.getElem_mem hi)
            have hwr : cref07_Written l[i] = some ((ma (wm l) i : Nat) : Int) := by rw [Written_eq (hok i _ hx).1 hwx.1 hwx.2, wm_get hx]
            have hgk := nth_at (ints_at hj)
            have e0 : gref07_Live_3 (fun _ => List.replicate) big self0 self self1 self2 (l, c, (i : Int), (k : Int), ledL l, ints m, ints (G l i)) = href07_Live_3 (fun _ => List.replicate) self0 self self1 self2 (l, c, (i : Int), (k : Int), ledL l, ints m, ints (G l i)) := rfl
            dsimp only
            rw [e0]
            unfold href07_Live_3
            dsimp only
            simp only [ints_len, ledL_len, hml, in_r hi, in_r hk, in_r hjl, cond_true, hgk, ma_at (show i < m.length by omega), ma_at (show j < m.length by omega), getI_lt hx, hwr, Option.bind_some, bor (b16 i hi) (hW i), band (b16 j hjl) hor]
            rw [decide_eq_true (show (k : Int) < ((G l i).length : Int) by omega), cond_true, w64 (z := (k : Int) + 1) (by omega) (by omega), w64 (z := (i : Int) + 1) (by omega) (by omega), show nth (ledL l) (Int.toNat (i : Int)) = (ledL l)[i]? by rw [nth_get, Int.toNat_natCast], Int.toNat_natCast, ints_set]
            by_cases hri : Rc (G l) i
            · left
              have hE := eg_step (W := ma (wm l)) (f := i) (show j < m.length by omega) c
              have hS := f1.step hri hjm hjl
              refine ⟨(m.set j (nw (ma (wm l)) m i j), c || decide (df (ma (wm l)) m i j ≠ 0)), ⟨⟨hS, fun a b ha hra hb => hE.1 _ _ (f2 a b ha hra hb)⟩, fun hri b hb => ?_⟩, ?_⟩
              · rcases take_mem hj hb with h3 | rfl
                · exact hE.1 _ _ (f3 hri b h3)
                · exact hE.2
              · rw [(ledL_at hi).2 hri, Option.bind_some, cond_true]
                by_cases e : df (ma (wm l)) m i j = 0
                · have e2 := df_nw.1 e
                  rw [show (((ma m j &&& (ma m i ||| ma (wm l) i) : Nat) : Int) != ((ma m j : Nat) : Int)) = false by
                    rw [show ma m j &&& (ma m i ||| ma (wm l) i) = ma m j from e2]; simp]
                  dsimp only
                  rw [e, e2, ma_same (by omega)]
                  simp
                · have e2 : ma m j &&& (ma m i ||| ma (wm l) i) ≠ ma m j := fun e2 => e (df_nw.2 e2)
                  rw [show (((ma m j &&& (ma m i ||| ma (wm l) i) : Nat) : Int) != ((ma m j : Nat) : Int)) = true by
                    simp only [bne_iff_ne, ne_eq, Int.natCast_inj]; exact e2]
                  rw [show decide (df (ma (wm l)) m i j ≠ 0) = true by simpa using e, Bool.or_true]
                  rfl
            · right
              rw [(ledL_false hi).2 hri, Option.bind_some, cond_false]
              refine ⟨(m, c), ⟨f1, fun a b ha hra hb => ?_⟩, rfl⟩
              exact f2 a b (by
                have : a ≠ i := fun e => hri (e ▸ hra)
                omega) hra hb
    · exact ⟨t.set 0 P, true, rfl, hst, fun i j hi hj => .inl rfl⟩
    · refine big_gt2 ?_
      have := hst.sum h2 hA
      show 2 * ((ints (t.set 0 P)).map Int.toNat).sum + 1 ≤ _
      rw [ints_nat]
      omega
  · rintro self0 t i hi ⟨g1, g2⟩
    left
    show ∃ s', _ ∧ href07_Live_0 (fun _ => List.replicate) _ self0 _ = _
    unfold href07_Live_0
    dsimp only
    simp only [ints_len, g1, in_r hi, cond_true, hleA, Option.bind_some]
    rw [decide_eq_true (show (i : Int) < (l.length : Int) by omega), cond_true, w64 (z := (i : Int) + 1) (by omega) (by omega), Int.toNat_natCast, ints_set]
    refine ⟨t.set i A, ⟨by simp [g1], fun a ha => ?_⟩, rfl⟩
    rw [ma_set (by omega)]
    split
    · rfl
    · exact g2 a (by omega)

/-! ### Masks -/
def MasksR (l : List Ins) (p s : Int) (r : Option (List Int × Int)) : Prop :=
  if okC l = true then (if fitR l p s = 0 then ∃ fs, r = some (ints fs, 0) ∧ IsM l (wm l) (low p) (low s) fs else r = some ([], fitR l p s)) else r = some ([], 8)
theorem fitR_zero {l : List Ins} {p s : Int} : fitR l p s = 0 ↔ (0 ≤ p ∧ p ≤ s ∧ s ≤ 16) ∧ l.all (lowS s) = true := by
  unfold fitR
  split
  · constructor
    · intro e; omega
    · intro e; omega
  · split
    · rename_i h1 h2
      simp [h2]
      omega
    · rename_i h1 h2
      simp [h2]

theorem rMasks_eq {l : List Ins} (hw : WfC l) (p s : Int) : MasksR l p s (cref07_Masks (l, p, s)) := by
  show MasksR l p s (nref07_Masks (l, p, s))
  unfold nref07_Masks MasksR
  dsimp only
  rw [rCheck7_eq l hw, Option.bind_some]
  by_cases h : okC l = true
  · rw [if_pos h, if_pos h, show ((0 : Int) != 0) = false from rfl, cond_false, Fits_eq h hw, Option.bind_some]
    by_cases hf : fitR l p s = 0
    · rw [if_pos hf, hf, show ((0 : Int) != 0) = false from rfl, cond_false]
      obtain ⟨⟨f1, f2, f3⟩, _⟩ := fitR_zero.1 hf
      obtain ⟨fs, e, hm⟩ := Live_eq h hw f1 f2 f3
      rw [e]
      exact ⟨fs, rfl, hm⟩
    · rw [if_neg hf, show (fitR l p s != 0) = true by simpa using hf]
      rfl
  · rw [if_neg h, if_neg h]
    rfl

theorem Masks_eq {l : List Ins} (p s : Int) : MasksR l p s (cflow_Masks (l, p, s)) := by
  show MasksR l p s (nflow_Masks (fun _ => List.replicate) (iterV (gflow_Masks_0 (fun _ => List.replicate) big) big) (l, p, s))
  unfold nflow_Masks
  dsimp only
  rw [Check7_eq, Option.bind_some]
  by_cases h : okC l = true
  · obtain ⟨h1, h2, hok, hlast⟩ := okC_parts h
    have hfit : ∀ r, (if fitR l p s = 0 then ∃ fs, r = some (ints fs, (0 : Int)) ∧ IsM l (wm l) (low p) (low s) fs else r = some ([], fitR l p s)) → MasksR l p s r := fun r hr => by
      unfold MasksR
      rw [if_pos h]
      exact hr
    refine hfit _ ?_
    rw [if_pos h, show ((0 : Int) != 0) = false from rfl, cond_false]
    have two : (s < 0 ∨ s > 16 ∨ p < 0 ∨ p > s) → fitR l p s = 2 := fun e => by unfold fitR; rw [if_pos e]
    by_cases a : p < 0
    · rw [two (by omega), if_neg (by omega), decide_eq_true a]; rfl
    by_cases b : p > s
    · rw [two (by omega), if_neg (by omega), decide_eq_false a, decide_eq_true b]; rfl
    by_cases c : s > 16
    · rw [two (by omega), if_neg (by omega), decide_eq_false a, decide_eq_false b, decide_eq_true c]; rfl
    have hfr : fitR l p s = if l.all (lowS s) then 0 else 16 := by unfold fitR; rw [if_neg (by omega)]
    rw [decide_eq_false a, decide_eq_false b, decide_eq_false c]
    simp only [cond_false, mk_ok (show l.length ≤ 68719476736 by omega), cond_true, Int.toNat_natCast]
    rw [show List.replicate l.length (0 : Int) = ints (List.replicate l.length 0) by simp [ints]]
    refine range_post (σ := List Nat) (g := gflow_Masks_0 (fun _ => List.replicate) big) (n := l.length) (fun t i => (l, p, s, l, (l.length : Int), (i : Int), ints t))
      (fun k t => t.length = l.length ∧ ∀ i x, i < k → l[i]? = some x → lowS s x = true ∧ ma t i = maskN (wS x))
      (fun r => if fitR l p s = 0 then ∃ fs, r = some (ints fs, (0 : Int)) ∧ IsM l (wm l) (low p) (low s) fs else r = some ([], fitR l p s)) ?_ ?_ l.length 0 big (by simp) (big_gt2 (by omega)) _ ⟨by simp, fun i x hi => absurd hi (Nat.not_lt_zero _)⟩
    · rintro self t ⟨g1, g2⟩
      have hall : l.all (lowS s) = true := all_at.2 fun k x hk => (g2 k x (List.getElem?_eq_some_iff.1 hk).1 hk).1
      have ht : t = wm l := ma_ext (by rw [wm_len]; exact g1) fun i hi => by
        have hx : l[i]? = some (l[i]'(by omega)) := List.getElem?_eq_getElem (by omega)
        rw [(g2 i _ (by omega) hx).2, wm_get hx]
      subst ht
      rw [hfr, if_pos hall, if_pos rfl]
      show ∃ fs, hflow_Masks_0 (fun _ => List.replicate) self _ = _ ∧ _
      unfold hflow_Masks_0
      dsimp only
      rw [decide_eq_false (by omega), cond_false, first_eq (by omega) (by omega), Option.bind_some, first_eq (by omega) (by omega), Option.bind_some]
      obtain ⟨ms, e, m1, m2, m3⟩ := greatest_eq h (wm_len l) (wm16 h) (least16 (n := s) (by omega)) (least_sb (m := p) (n := s) (by omega))
      rw [e, Option.bind_some, ints_len, m1, last_w h1 (by omega), in_r (show l.length - 1 < l.length by omega), cond_true, Int.toNat_natCast, show (0 : Int) = ((0 : Nat) : Int) from rfl, ints_set]
      refine ⟨_, rfl, by simp [m1], ma ms, m3, fun i hi => ?_⟩
      rw [ma_set (by omega)]
      by_cases e2 : i = l.length - 1
      · rw [if_pos e2]
        exact ⟨fun _ h3 => absurd e2 h3, fun _ => rfl⟩
      · rw [if_neg e2]
        exact ⟨fun _ _ => rfl, fun hz => m2 i (hz.resolve_right e2)⟩
    · rintro self t i hi ⟨g1, g2⟩
      have hx : l[i]? = some l[i] := List.getElem?_eq_getElem hi
      have ho := (hok i _ hx).1
      obtain ⟨sr, sw, lr, lw⟩ := slo_of ho
      have e0 : gflow_Masks_0 (fun _ => List.replicate) big self (l, p, s, l, (l.length : Int), (i : Int), ints t) = hflow_Masks_0 (fun _ => List.replicate) self (l, p, s, l, (l.length : Int), (i : Int), ints t) := rfl
      rw [e0]
      unfold hflow_Masks_0
      dsimp only
      rw [decide_eq_true (show (i : Int) < (l.length : Int) by omega), cond_true, getI_lt hx, Option.bind_some, Slots_eq, Option.bind_some, if_pos ho]
      rw [show rsL (rol l[i].1) (vals l[i]) = rS l[i] from rfl, show wsL (rol l[i].1) (vals l[i]) = wS l[i] from rfl]
      dsimp only
      rw [below_eq _ _ (by omega), Option.bind_some, below_eq _ _ (by omega), Option.bind_some, maskOf_eq _ sw (by omega), Option.bind_some]
      have bad : lowS s l[i] = false → fitR l p s = 16 := fun e => by
        rw [hfr, if_neg fun hh => by rw [all_at.1 hh i _ hx] at e; cases e]
      cases e1 : (rS l[i]).all fun v => decide (v < s) with
      | false =>
        right
        rw [bad (by simp [lowS, e1]), if_neg (by decide)]
        rfl
      | true =>
        cases e2 : (wS l[i]).all fun v => decide (v < s) with
        | false =>
          right
          rw [bad (by simp only [lowS, e1, e2]; rfl), if_neg (by decide)]
          rfl
        | true =>
          left
          refine ⟨t.set i (maskN (wS l[i])), ⟨by simp [g1], fun a x ha hxa => ?_⟩, ?_⟩
          · rw [ma_set (by omega)]
            by_cases e : a = i
            · subst e
              rw [hx] at hxa
              cases hxa
              exact ⟨by simp only [lowS, e1, e2]; rfl, if_pos rfl⟩
            · rw [if_neg e]
              exact g2 a x (by omega) hxa
          · simp only [Bool.not_true, cond_false, ints_len, g1, in_r hi, cond_true]
            rw [w64 (z := (i : Int) + 1) (by omega) (by omega), Int.toNat_natCast, ints_set]
            rfl
  · unfold MasksR
    rw [if_neg h, if_neg h]
    rfl
theorem MasksR.same {l : List Ins} {p s : Int} {a b : Option (List Int × Int)} (h : MasksR l p s a) (h' : MasksR l p s b) : a = b := by
  unfold MasksR at h h'
  split at h
  · rename_i e
    rw [if_pos e] at h'
    split at h
    · rename_i e2
      rw [if_pos e2] at h'
      obtain ⟨x, rfl, hx⟩ := h
      obtain ⟨y, rfl, hy⟩ := h'
      rw [hx.same hy]
    · rename_i e2
      rw [if_neg e2] at h'
      rw [h, h']
  · rename_i e
    rw [if_neg e] at h'
    rw [h, h']
end Go.Proofs.YtkklpkkhepcaiaaDoor

set_option linter.unusedVariables false
set_option linter.unusedSimpArgs false
set_option maxRecDepth 100000
namespace Go.Proofs.YtkklpkkhepcaiaaDoor
open Go.Lift

structure Hold (l : List Ins) (P : Nat) (ms : List Nat) : Prop where
  len : ms.length = l.length
  p : Sb (ma ms 0) P
  e : ∀ i j, Rc (G l) i → j ∈ G l i → Sb (ma ms j) (ma ms i ||| ma (wm l) i)

theorem holds_eq {l : List Ins} (h : okC l = true) (hw : WfC l) {p : Int} (hp : 0 ≤ p) (hp2 : p ≤ 16) {ms : List Nat} (h16 : ∀ i, ma ms i < 65536) : (Hold l (low p) ms → claw07_holds (l, p, ints ms) = some true) ∧ (¬ Hold l (low p) ms → claw07_holds (l, p, ints ms) = some false) := by
  obtain ⟨h1, h2, hok, hlast⟩ := okC_parts h
  have hW := wm16 h
  have hleP := least_eq hp hp2
  have hP16 : low p < 65536 := least16 hp2
  rw [show 2 ^ p.toNat - 1 = low p from rfl] at hleP
  generalize low p = P at *
  have yes : ∀ {r : Option Bool}, Hold l P ms → r = some true → (Hold l P ms → r = some true) ∧ (¬ Hold l P ms → r = some false) := fun hh e => ⟨fun _ => e, fun hn => absurd hh hn⟩
  have no : ∀ {r : Option Bool}, ¬ Hold l P ms → r = some false → (Hold l P ms → r = some true) ∧ (¬ Hold l P ms → r = some false) := fun hh e => ⟨fun hn => absurd hn hh, fun _ => e⟩
  show (_ → nlaw07_holds (iterV (glaw07_holds_0 big) big) (l, p, ints ms) = _) ∧ (_ → nlaw07_holds (iterV (glaw07_holds_0 big) big) (l, p, ints ms) = _)
  unfold nlaw07_holds
  dsimp only
  rw [ints_len]
  by_cases hl : ms.length = l.length
  · rw [show ((ms.length : Int) != (l.length : Int)) = false by rw [hl]; simp, cond_false, show getI (ints ms) 0 = some ((ma ms 0 : Nat) : Int) from ma_getI (i := 0) (show 0 < ms.length by omega), Option.bind_some, hleP, Option.bind_some, bandNot (h16 0) (Nat.lt_trans hP16 (by decide))]
    by_cases e0 : diff (ma ms 0) P = 0
    · rw [e0, show (((0 : Nat) : Int) != 0) = false from rfl, cond_false, Led_eq h, Option.bind_some]
      refine range_post (σ := Unit) (g := glaw07_holds_0 big) (n := l.length) (fun _ i => (l, ints ms, (i : Int), ledL l)) (fun i _ => ∀ a b, a < i → Rc (G l) a → b ∈ G l a → Sb (ma ms b) (ma ms a ||| ma (wm l) a)) (fun r => (Hold l P ms → r = some true) ∧ (¬ Hold l P ms → r = some false)) ?_ ?_ l.length 0 big (by simp) (big_gt2 (by omega)) () (fun a b ha => absurd ha (Nat.not_lt_zero _))
      · rintro self _ hI
        have hh : Hold l P ms := ⟨hl, diff_zero.1 e0, fun i j hi hj => hI i j (hi.lt h) hi hj⟩
        refine yes hh ?_
        show hlaw07_holds_0 _ self _ = _
        unfold hlaw07_holds_0
        dsimp only
        rw [decide_eq_false (by omega), cond_false]
      · rintro self _ i hi hI
        have e1 : glaw07_holds_0 big self (l, ints ms, (i : Int), ledL l) = hlaw07_holds_0 (iterV (glaw07_holds_1 big self) big) self (l, ints ms, (i : Int), ledL l) := rfl
        rw [e1]
        unfold hlaw07_holds_0
        dsimp only
        rw [decide_eq_true (show (i : Int) < (l.length : Int) by omega), cond_true, Behind_eq h hi, Option.bind_some]
        have hgl := G_len l i
        refine range_post (σ := Unit) (g := glaw07_holds_1 big self) (n := (G l i).length) (fun _ k => (l, ints ms, (i : Int), (k : Int), ledL l, ints (G l i))) (fun k _ => Rc (G l) i → ∀ b ∈ (G l i).take k, Sb (ma ms b) (ma ms i ||| ma (wm l) i))
          (fun r => (∃ s' : Unit, (∀ a b, a < i + 1 → Rc (G l) a → b ∈ G l a → Sb (ma ms b) (ma ms a ||| ma (wm l) a)) ∧ r = self (l, ints ms, ((i + 1 : Nat) : Int), ledL l)) ∨ ((Hold l P ms → r = some true) ∧ (¬ Hold l P ms → r = some false))) ?_ ?_ (G l i).length 0 big (by simp) (big_gt2 (by omega)) () (fun _ b hb => by simp at hb)
        · rintro self1 _ hJ
          left
          refine ⟨(), fun a b ha hra hb => ?_, ?_⟩
          · by_cases e : a = i
            · subst e
              exact hJ hra b (by rw [List.take_length]; exact hb)
            · exact hI a b (by omega) hra hb
          · show hlaw07_holds_1 self self1 _ = _
            unfold hlaw07_holds_1
            dsimp only
            rw [ints_len (G l i), decide_eq_false (by omega), cond_false, w64 (by omega) (by omega)]
            rfl
        · rintro self1 _ k hk hJ
          have hj : (G l i)[k]? = some (G l i)[k] := List.getElem?_eq_getElem hk
          have hjm : (G l i)[k] ∈ G l i := List.getElem_mem hk
          have hjl := G_lt h hi hjm
          generalize (G l i)[k] = j at *
          have hx : l[i]? = some l[i] := List.getElem?_eq_getElem hi
          have hwx := hw _ (List.getElem_mem hi)
          have hwr : cref07_Written l[i] = some ((ma (wm l) i : Nat) : Int) := by rw [Written_eq (hok i _ hx).1 hwx.1 hwx.2, wm_get hx]
          have hor : ma ms i ||| ma (wm l) i < 65536 := or16 (h16 i) (hW i)
          have e2 : glaw07_holds_1 big self self1 (l, ints ms, (i : Int), (k : Int), ledL l, ints (G l i)) = hlaw07_holds_1 self self1 (l, ints ms, (i : Int), (k : Int), ledL l, ints (G l i)) := rfl
          rw [e2]
          unfold hlaw07_holds_1
          dsimp only
          simp only [ints_len, ledL_len, in_r hi, in_r hk, cond_true, nth_at (ints_at hj), ma_getI (show i < ms.length by omega), ma_getI (show j < ms.length by omega), getI_lt hx, hwr, Option.bind_some, bor (h16 i) (hW i), bandNot (h16 j) (Nat.lt_trans hor (by decide))]
          rw [decide_eq_true (show (k : Int) < ((G l i).length : Int) by omega), cond_true, w64 (z := (k : Int) + 1) (by omega) (by omega), w64 (z := (i : Int) + 1) (by omega) (by omega), show nth (ledL l) (Int.toNat (i : Int)) = (ledL l)[i]? by rw [nth_get, Int.toNat_natCast], bne_nat]
          by_cases hri : Rc (G l) i
          · rw [(ledL_at hi).2 hri, Option.bind_some, cond_true]
            by_cases e : diff (ma ms j) (ma ms i ||| ma (wm l) i) = 0
            · left
              refine ⟨(), fun hri b hb => ?_, ?_⟩
              · rcases take_mem hj hb with h3 | rfl
                · exact hJ hri b h3
                · exact diff_zero.1 e
              · rw [decide_eq_false (by simpa using e), cond_false]
                rfl
            · right
              right
              refine no (fun hh => e (diff_zero.2 (hh.e i j hri hjm))) ?_
              rw [decide_eq_true (by simpa using e)]
              rfl
          · right
            left
            rw [(ledL_false hi).2 hri, Option.bind_some, cond_false]
            refine ⟨(), fun a b ha hra hb => ?_, rfl⟩
            exact hI a b (by
              have : a ≠ i := fun e => hri (e ▸ hra)
              omega) hra hb
    · refine no (fun hh => e0 (diff_zero.2 hh.p)) ?_
      rw [bne_nat, decide_eq_true (by simpa using e0)]
      rfl
  · refine no (fun hh => hl hh.len) ?_
    rw [show ((ms.length : Int) != (l.length : Int)) = true by simp; omega]
    rfl

/-! ### the law -/
theorem IsM.hold {l : List Ins} (h : okC l = true) {P A : Nat} {fs : List Nat} (hm : IsM l (wm l) P A fs) : Hold l P fs := by
  obtain ⟨h1, h2, hok, hlast⟩ := okC_parts h
  obtain ⟨g1, m, g2, g3⟩ := hm
  have z : ma fs (l.length - 1) = 0 := (g3 _ (by omega)).2 (.inr rfl)
  have gn : G l (l.length - 1) = [] := by
    simp only [G, hlast]
    rfl
  refine ⟨g1, ?_, fun i j hi hj => ?_⟩
  · by_cases e : 0 = l.length - 1
    · rw [e, z]; exact .zero _
    · rw [(g3 0 (by omega)).1 .zero e]; exact g2.1.p
  · have hil := hi.lt h
    have hjl := G_lt h hil hj
    have hin : i ≠ l.length - 1 := fun e => by
      subst e
      rw [gn] at hj
      cases hj
    by_cases e : j = l.length - 1
    · rw [e, z]; exact .zero _
    · rw [(g3 i hil).1 hi hin, (g3 j hjl).1 (.step hi hj) e]
      exact g2.1.e i j hi hj
theorem IsM.up {l : List Ins} (h : okC l = true) {P A : Nat} {fs : List Nat} (hm : IsM l (wm l) P A fs) (hA : A < 65536) (i : Nat) : ma fs i < 65536 := by
  obtain ⟨g1, m, g2, g3⟩ := hm
  by_cases hi : i < l.length
  · by_cases e : Rc (G l) i ∧ i ≠ l.length - 1
    · rw [(g3 i hi).1 e.1 e.2]
      exact Nat.lt_of_le_of_lt (g2.1.a i e.1).le hA
    · have : ¬ Rc (G l) i ∨ i = l.length - 1 := by
        by_cases e1 : Rc (G l) i
        · exact .inr (by by_cases e2 : i = l.length - 1; exact e2; exact absurd ⟨e1, e2⟩ e)
        · exact .inl e1
      rw [(g3 i hi).2 this]
      decide
  · unfold ma
    rw [List.getD_eq_getElem?_getD, List.getElem?_eq_none (by omega)]
    decide

theorem ints_of : ∀ {g : List Int}, (∀ x ∈ g, 0 ≤ x ∧ x ≤ 18446744073709551615) → ∃ q : List Nat, g = ints q ∧ ∀ i, ma q i < 2 ^ IntKind.u64.bits
  | [], _ => ⟨[], rfl, fun i => by simp [ma]; decide⟩
  | x :: g, h => by
    obtain ⟨q, e, hq⟩ := ints_of (g := g) fun y hy => h y (by simp [hy])
    have hx := h x (by simp)
    refine ⟨x.toNat :: q, by rw [ints, List.map_cons, Int.toNat_of_nonneg hx.1, ← ints, ← e], fun i => ?_⟩
    cases i with
    | zero => simp only [ma, List.getD_cons_zero]; have : x.toNat ≤ 18446744073709551615 := by omega
              exact Nat.lt_of_le_of_lt this (by decide)
    | succ i => simpa [ma] using hq i

theorem ma_take {t : List Nat} {n i : Nat} (h : i < n) : ma (t.take n) i = ma t i := by
  unfold ma
  rw [List.getD_eq_getElem?_getD, List.getD_eq_getElem?_getD, List.getElem?_take_of_lt h]

theorem copy1_big {l : List Int} (h : l.length ≤ 17592186044416) : (Nat.ble 1 1 && Nat.ble (List.length ([] : Y1) + List.length l) lim8) = true := by
  rw [b11, show Nat.ble (List.length ([] : Y1) + List.length l) lim8 = true from Nat.ble_eq_true_of_le (show 0 + l.length ≤ 17592186044416 by omega)]; rfl
theorem sz_u64 {l : List Int} (h : Sz (.slice (.int .u64)) l) : l.length ≤ 17592186044416 := by
  simp only [Sz, reachBytes, show IntKind.u64.bits = 64 from rfl] at h
  omega

theorem greatest_true7 (x : Y0 × Int × Int × Y1) (w : WfL [Z3, Z1, Z1, Z2] x) (hsz : SzL [Z3, Z1, Z1, Z2] x) : claw07_FlowGreatest x = some true := by
  obtain ⟨l, p, s, g⟩ := x
  have hw : WfC l := wf_code w.1
  have wg := w.2.2.2
  show nlaw07_FlowGreatest (iterV (glaw07_FlowGreatest_0 big) big) (l, p, s, g) = _
  unfold nlaw07_FlowGreatest
  dsimp only
  rw [fit_eq l hw, Option.bind_some, alive07]
  cases hfit : (!great l && okC l) with
  | false => rfl
  | true =>
    simp only [Bool.and_eq_true, Bool.not_eq_true'] at hfit
    obtain ⟨hgr, h⟩ := hfit
    obtain ⟨h1, h2, hok, hlast⟩ := okC_parts h
    rw [Bool.not_true, cond_false, Fits_eq h hw, Option.bind_some]
    have hM := Masks_eq (l := l) p s
    unfold MasksR at hM
    rw [if_pos h] at hM
    by_cases hf : fitR l p s = 0
    · rw [if_pos hf] at hM
      obtain ⟨⟨p0, ps, s16⟩, _⟩ := fitR_zero.1 hf
      obtain ⟨fs, e, hm⟩ := hM
      have hA : low s < 65536 := least16 s16
      have hPA : Sb (low p) (low s) := least_sb ps
      have hleP := least_eq p0 (show p ≤ 16 by omega)
      have hleA := least_eq (show 0 ≤ s by omega) s16
      rw [show 2 ^ p.toNat - 1 = low p from rfl] at hleP
      rw [show 2 ^ s.toNat - 1 = low s from rfl] at hleA
      have hH := holds_eq h hw p0 (show p ≤ 16 by omega) (ms := fs) (hm.up h hA)
      have hfs16 := hm.up h hA
      rw [hf, show ((0 : Int) != 0) = false from rfl, cond_false, e, Option.bind_some]
      dsimp only
      rw [show ((0 : Int) != 0) = false from rfl, cond_false, hH.1 (hm.hold h), Option.bind_some, Bool.not_true, cond_false]
      have hHg := fun (ms : List Nat) (h16 : ∀ i, ma ms i < 65536) => holds_eq h hw p0 (show p ≤ 16 by omega) (ms := ms) h16
      generalize low p = P at *
      generalize low s = A at *
      obtain ⟨g1, m, g2, g3⟩ := hm
      have z : ma fs (l.length - 1) = 0 := (g3 _ (by omega)).2 (.inr rfl)
      simp only [last_w h1 (show l.length ≤ 1000000 by omega), ints_len, g1, in_r (show l.length - 1 < l.length by omega), cond_true, ma_at (show l.length - 1 < fs.length by omega), z, Option.bind_some, show (((0 : Nat) : Int) != 0) = false from rfl, cond_false, Led_eq h, hleP]
      have wg' : ∀ y ∈ g, 0 ≤ y ∧ y ≤ 18446744073709551615 := fun y hy => wg.2 y hy
      have wl : g.length ≤ 17592186044416 := sz_u64 hsz.2.2.2
      obtain ⟨q, rfl, hq⟩ := ints_of wg'
      rw [ints_len] at wl
      have main : iterV (glaw07_FlowGreatest_0 big) big (l, p, s, ints q, 0, ints fs, ledL l) = some true := by
        refine range_post (σ := Unit) (g := glaw07_FlowGreatest_0 big) (n := l.length) (fun _ i => (l, p, s, ints q, (i : Int), ints fs, ledL l)) (fun i _ => True) (fun r => r = some true) ?_ ?_ l.length 0 big (by simp) (big_gt2 (by omega)) () trivial
        · rintro self _ _
          show hlaw07_FlowGreatest_0 (iterV (glaw07_FlowGreatest_1 big self) big) (iterV (glaw07_FlowGreatest_3 big self) big) self _ = _
          unfold hlaw07_FlowGreatest_0
          dsimp only
          rw [decide_eq_false (by omega), cond_false, copy1_big (by rw [ints_len]; exact wl), cond_true, show List.append ([] : Y1) (ints q) = ints q from rfl, ints_len]
          have fin : ∀ u : List Nat, u.length = l.length → (∀ i, i < l.length → Sb (ma u i) A) → Hold l P u → ∀ i, i < l.length - 1 → Rc (G l) i → diff (ma u i) (ma fs i) = 0 := fun u hu1 hu2 hu3 i hi hri => by
            rw [(g3 i (by omega)).1 hri (by omega)]
            exact diff_zero.2 (g2.2 (ma u) ⟨hu3.p, fun i hi => hu2 i (hi.lt h), hu3.e⟩ i hri)
          have cut : ∀ k (u : List Nat), u.length = q.length → (∀ i, ma u i = if i < k then ma q i &&& A else ma q i) → ∀ i, ma u i < 2 ^ IntKind.u64.bits := fun k u hu1 hu2 i => by
            rw [hu2 i]
            split
            · exact Nat.lt_of_le_of_lt Nat.and_le_left (hq i)
            · exact hq i
          by_cases hlen : q.length > l.length
          · rw [decide_eq_true (show (q.length : Int) > (l.length : Int) by omega), cond_true, show (decide ((0 : Int) ≤ (l.length : Int)) && decide ((l.length : Int) ≤ (q.length : Int))) = true by simp; omega, cond_true, Int.toNat_natCast]
            refine range_post (σ := List Nat) (g := glaw07_FlowGreatest_1 big self) (n := l.length) (fun u i => (l, p, s, 0, l.length, (i : Int), ints fs, ledL l, ints u)) (fun k u => u.length = q.length ∧ ∀ i, ma u i = if i < k then ma q i &&& A else ma q i) (fun r => r = some true) ?_ ?_ l.length 0 big (by simp) (big_gt2 (by omega)) q ⟨rfl, fun i => by rw [if_neg (Nat.not_lt_zero _)]⟩
            · rintro self1 u ⟨u1, u2⟩
              show hlaw07_FlowGreatest_1 (iterV (glaw07_FlowGreatest_2 big self self1) big) self self1 _ = _
              unfold hlaw07_FlowGreatest_1
              dsimp only
              have eW : List.drop 0 (List.take l.length (ints u)) = ints (u.take l.length) := by simp [ints]
              have u3 : (u.take l.length).length = l.length := by simp; omega
              rw [eW, ints_len, u3, decide_eq_false (by omega), cond_false]
              have hu16 : ∀ i, ma (u.take l.length) i < 65536 := fun i => by
                by_cases hi : i < l.length
                · rw [ma_take hi, u2, if_pos hi]
                  exact Nat.lt_of_le_of_lt Nat.and_le_right hA
                · unfold ma
                  rw [List.getD_eq_getElem?_getD, List.getElem?_eq_none (by omega)]
                  decide
              have hHu := hHg (u.take l.length) hu16
              by_cases hh : Hold l P (u.take l.length)
              · rw [hHu.1 hh, Option.bind_some, Bool.not_true, cond_false]
                have hd := fin _ u3 (fun i hi => by rw [ma_take hi, u2, if_pos hi]; exact .and_right _ _) hh
                refine range_post (σ := Unit) (g := glaw07_FlowGreatest_2 big self self1) (n := l.length - 1) (fun _ i => (l, 0, l.length, (i : Int), ints fs, ledL l, ints u)) (fun i _ => True) (fun r => r = some true) ?_ ?_ (l.length - 1) 0 big (by simp) (big_gt2 (by omega)) () trivial
                · rintro self2 _ _
                  show hlaw07_FlowGreatest_2 self self1 self2 _ = _
                  unfold hlaw07_FlowGreatest_2
                  dsimp only
                  rw [last_w h1 (by omega), decide_eq_false (by omega), cond_false, alive07]
                  rfl
                · rintro self2 _ i hi _
                  left
                  refine ⟨(), trivial, ?_⟩
                  show hlaw07_FlowGreatest_2 self self1 self2 _ = _
                  unfold hlaw07_FlowGreatest_2
                  dsimp only
                  have eI : Int.toNat (((0 : Nat) : Int) + (i : Int)) = Int.toNat (i : Int) := by omega
                  rw [last_w h1 (by omega), decide_eq_true (show (i : Int) < ((l.length - 1 : Nat) : Int) by omega), cond_true, ledL_len, in_r (show i < l.length by omega), cond_true, w64 (z := (i : Int) + 1) (by omega) (by omega), show nth (ledL l) (Int.toNat (i : Int)) = (ledL l)[i]? by rw [nth_get, Int.toNat_natCast]]
                  by_cases hri : Rc (G l) i
                  · rw [(ledL_at (by omega)).2 hri, Option.bind_some, cond_true, show (decide ((0 : Int) ≤ (i : Int)) && decide ((i : Int) < (l.length : Int) - ((0 : Nat) : Int))) = true by simp; omega, cond_true, eI, ma_at (show i < u.length by omega), Option.bind_some, ints_len, g1, in_r (show i < l.length by omega), cond_true, ma_at (show i < fs.length by omega), Option.bind_some]
                    have hu := hu16 i
                    have hdi := hd i hi hri
                    rw [ma_take (show i < l.length by omega)] at hu hdi
                    rw [bandNot hu (Nat.lt_trans (hfs16 i) (by decide)), hdi]
                    rfl
                  · rw [(ledL_false (by omega)).2 hri]
                    rfl
              · rw [hHu.2 hh, alive07]
                rfl
            · rintro self1 u i hi ⟨u1, u2⟩
              left
              refine ⟨u.set i (ma q i &&& A), ⟨by simp [u1], fun a => ?_⟩, ?_⟩
              · rw [ma_set (by omega), u2 a]
                by_cases e : a = i
                · subst e; simp
                · rw [if_neg e]
                  by_cases e2 : a < i
                  · rw [if_pos e2, if_pos (by omega)]
                  · rw [if_neg e2, if_neg (by omega)]
              · show hlaw07_FlowGreatest_1 (iterV (glaw07_FlowGreatest_2 big self self1) big) self self1 _ = _
                unfold hlaw07_FlowGreatest_1
                dsimp only
                have eW : List.drop 0 (List.take l.length (ints u)) = ints (u.take l.length) := by simp [ints]
                have u3 : (u.take l.length).length = l.length := by simp; omega
                have eI : Int.toNat (((0 : Nat) : Int) + (i : Int)) = Int.toNat (i : Int) := by omega
                rw [eW, ints_len, u3, decide_eq_true (show (i : Int) < (l.length : Int) by omega), cond_true, show (decide ((0 : Int) ≤ (i : Int)) && decide ((i : Int) < (l.length : Int) - ((0 : Nat) : Int))) = true by simp; omega, cond_true, eI, ma_at (show i < u.length by omega), Option.bind_some, hleA, Option.bind_some, cond_true, bits_and rfl (cut i u u1 u2 i) (two16 hA), w64 (z := (i : Int) + 1) (by omega) (by omega), Int.toNat_natCast, ints_set, u2 i, if_neg (Nat.lt_irrefl _)]
                rfl
          · rw [decide_eq_false (show ¬ (q.length : Int) > (l.length : Int) by omega), cond_false]
            refine range_post (σ := List Nat) (g := glaw07_FlowGreatest_3 big self) (n := q.length) (fun u i => (l, p, s, (i : Int), ints fs, ledL l, ints u)) (fun k u => u.length = q.length ∧ ∀ i, ma u i = if i < k then ma q i &&& A else ma q i) (fun r => r = some true) ?_ ?_ q.length 0 big (by simp) (big_gt2 (by omega)) q ⟨rfl, fun i => by rw [if_neg (Nat.not_lt_zero _)]⟩
            · rintro self1 u ⟨u1, u2⟩
              show hlaw07_FlowGreatest_3 (iterV (glaw07_FlowGreatest_4 big self self1) big) self self1 _ = _
              unfold hlaw07_FlowGreatest_3
              dsimp only
              rw [ints_len, u1, decide_eq_false (by omega), cond_false]
              have hu16 : ∀ i, ma u i < 65536 := fun i => by
                by_cases hi : i < q.length
                · rw [u2, if_pos hi]
                  exact Nat.lt_of_le_of_lt Nat.and_le_right hA
                · unfold ma
                  rw [List.getD_eq_getElem?_getD, List.getElem?_eq_none (by omega)]
                  decide
              have hHu := hHg u hu16
              by_cases hh : Hold l P u
              · rw [hHu.1 hh, Option.bind_some, Bool.not_true, cond_false]
                have u3 := hh.len
                have hd := fin _ u3 (fun i hi => by rw [u2, if_pos (by omega)]; exact .and_right _ _) hh
                refine range_post (σ := Unit) (g := glaw07_FlowGreatest_4 big self self1) (n := l.length - 1) (fun _ i => (l, (i : Int), ints fs, ledL l, ints u)) (fun i _ => True) (fun r => r = some true) ?_ ?_ (l.length - 1) 0 big (by simp) (big_gt2 (by omega)) () trivial
                · rintro self2 _ _
                  show hlaw07_FlowGreatest_4 self self1 self2 _ = _
                  unfold hlaw07_FlowGreatest_4
                  dsimp only
                  rw [last_w h1 (by omega), decide_eq_false (by omega), cond_false, alive07]
                  rfl
                · rintro self2 _ i hi _
                  left
                  refine ⟨(), trivial, ?_⟩
                  show hlaw07_FlowGreatest_4 self self1 self2 _ = _
                  unfold hlaw07_FlowGreatest_4
                  dsimp only
                  rw [last_w h1 (by omega), decide_eq_true (show (i : Int) < ((l.length - 1 : Nat) : Int) by omega), cond_true, ledL_len, in_r (show i < l.length by omega), cond_true, w64 (z := (i : Int) + 1) (by omega) (by omega), show nth (ledL l) (Int.toNat (i : Int)) = (ledL l)[i]? by rw [nth_get, Int.toNat_natCast]]
                  by_cases hri : Rc (G l) i
                  · rw [(ledL_at (by omega)).2 hri, Option.bind_some, cond_true, ints_len, u3, in_r (show i < l.length by omega), cond_true, ma_at (show i < u.length by omega), Option.bind_some, ints_len, g1, in_r (show i < l.length by omega), cond_true, ma_at (show i < fs.length by omega), Option.bind_some, bandNot (hu16 i) (Nat.lt_trans (hfs16 i) (by decide)), hd i hi hri]
                    rfl
                  · rw [(ledL_false (by omega)).2 hri]
                    rfl
              · rw [hHu.2 hh, alive07]
                rfl
            · rintro self1 u i hi ⟨u1, u2⟩
              left
              refine ⟨u.set i (ma q i &&& A), ⟨by simp [u1], fun a => ?_⟩, ?_⟩
              · rw [ma_set (by omega), u2 a]
                by_cases e : a = i
                · subst e; simp
                · rw [if_neg e]
                  by_cases e2 : a < i
                  · rw [if_pos e2, if_pos (by omega)]
                  · rw [if_neg e2, if_neg (by omega)]
              · show hlaw07_FlowGreatest_3 (iterV (glaw07_FlowGreatest_4 big self self1) big) self self1 _ = _
                unfold hlaw07_FlowGreatest_3
                dsimp only
                rw [ints_len, u1, in_r hi, decide_eq_true (show (i : Int) < (q.length : Int) by omega), cond_true, cond_true, ma_at (show i < u.length by omega), Option.bind_some, hleA, Option.bind_some, cond_true, bits_and rfl (cut i u u1 u2 i) (two16 hA), w64 (z := (i : Int) + 1) (by omega) (by omega), Int.toNat_natCast, ints_set, u2 i, if_neg (Nat.lt_irrefl _)]
                rfl
        · rintro self _ i hi _
          left
          refine ⟨(), trivial, ?_⟩
          show hlaw07_FlowGreatest_0 _ _ self _ = _
          unfold hlaw07_FlowGreatest_0
          dsimp only
          rw [ledL_len, in_r hi, decide_eq_true (show (i : Int) < (l.length : Int) by omega), cond_true, cond_true, w64 (z := (i : Int) + 1) (by omega) (by omega), show nth (ledL l) (Int.toNat (i : Int)) = (ledL l)[i]? by rw [nth_get, Int.toNat_natCast]]
          by_cases hri : Rc (G l) i
          · rw [(ledL_at hi).2 hri]
            rfl
          · rw [(ledL_false hi).2 hri, Option.bind_some, Bool.not_false, cond_true, ints_len, g1, in_r hi, cond_true, ma_at (show i < fs.length by omega), (g3 i hi).2 (.inl hri)]
            rfl
      by_cases hn : l.length = 1
      · rw [decide_eq_false (show ¬ (l.length : Int) > 1 by omega), cond_false]
        exact main
      · rw [decide_eq_true (show (l.length : Int) > 1 by omega), cond_true, show (decide ((0 : Int) ≤ 0) && decide ((0 : Int) < (l.length : Int))) = true by simp; omega, cond_true, show nth (ints fs) (Int.toNat 0) = some ((ma fs 0 : Nat) : Int) from ma_at (i := 0) (show 0 < fs.length by omega), Option.bind_some]
        rw [(g3 0 (by omega)).1 .zero (by omega), g2.1.p.antisymm (g2.base hPA 0 .zero)]
        rw [show (((P : Nat) : Int) != ((P : Nat) : Int)) = false by simp, cond_false]
        exact main
    · rw [show (fitR l p s != 0) = true by simpa using hf]
      rfl
end Go.Proofs.YtkklpkkhepcaiaaDoor
