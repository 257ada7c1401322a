/- Layer 5: padding and cells are all of a type; alignments; arrays and structs; alike types. -/
import Derived.Test.YtnhiaoabhjjegaaLayF
set_option linter.unusedVariables false
set_option linter.unusedSimpArgs false
set_option maxRecDepth 100000
namespace Go.Proofs.Ytnhiaoabhjjegaa
open Go.Lift

theorem fit5_eq (l : List Typ) (i : Int) : ∃ b, claw05_fit (l, i) = some b ∧ (b = true → errS l i = 0) := by
  show ∃ b, nlaw05_fit _ = some b ∧ _
  unfold nlaw05_fit
  dsimp only
  obtain ⟨b, h1, h2⟩ := rGreat_eq l
  rw [h1, Option.bind_some]
  cases b with
  | true => exact ⟨false, rfl, fun h => by cases h⟩
  | false =>
    rw [Bool.not_false, cond_true, rAsked5_eq l (fun t ht => by have := (h2 rfl).2 t ht; omega), Option.bind_some]
    exact ⟨_, rfl, fun h => of_decide_eq_true h⟩

theorem Size_ok {l : List Typ} {i : Int} (h : errS l i = 0) : clayout_Size (l, i) = some (sz (exS l) i, (al (exS l) i, 0)) := by rw [Size_eq, if_pos h]
theorem Cells_ok {l : List Typ} {i : Int} (h : errS l i = 0) : clayout_Cells (l, i) = some (CS l i 0, 0) := by rw [Cells_eq, if_pos h, h]
theorem Padding_ok {l : List Typ} {i : Int} (h : errS l i = 0) : clayout_Padding (l, i) = some (padS (exS l) (CS l i 0) 0 (sz (exS l) i), 0) := by rw [Padding_eq, if_pos h, h]

/-- a cell of a type that is not too large -/
theorem cell_err {l : List Typ} {i : Int} (h : errS l i = 0) {c : Cel} (hc : c ∈ CS l i 0) : errS l c.2.1 = 0 := by
  obtain ⟨hv, h0, h1, hs⟩ := errS_ok h
  have hm := (CS_mem hv h0 h1 0 c hc).1
  have htile := CS_tile hv h0 h1 0
  rw [Int.zero_add] at htile
  have hpos : ∀ c ∈ CS l i 0, 1 ≤ sz (exS l) c.2.1 := fun c hc => by
    have := (CS_mem hv h0 h1 0 c hc).1
    exact (ext_ok hv this.1 this.2).1
  have := tile_low htile hpos c hc
  exact errS_zero hv hm.1 hm.2 (by omega)

/-! ### padding and cells are all of a type -/
theorem parts_inner (self0) (l : List Typ) (c : Cel) (cs : List Cel) (p : List Int) (size e : Int) (k N : Nat) (hk : k < 1000) (hN : N ≤ 1000) (h0 : 0 ≤ c.1) (h1 : c.1 ≤ e) (h2 : e ≤ N) (f : Nat → Int) (hf : ∀ m : Nat, c.1 ≤ m → m < e → f m = 0) :
    iterV (glaw05_LayoutParts_1 (fun _ => List.replicate) big self0) big (l, size, e, (k : Int), c.1, cs, p, (List.range N).map f) = self0 (l, size, e, ((k + 1 : Nat) : Int), cs, p, (List.range N).map fun (m : Nat) => if c.1 ≤ m ∧ (m : Int) < e then 1 else f m) := by
  have := range_post (g := glaw05_LayoutParts_1 (fun _ => List.replicate) big self0) (n := (e - c.1).toNat) (fun (s : List Int) (j : Nat) => (l, size, e, (k : Int), c.1 + (j : Int), cs, p, s)) (fun j s => s = (List.range N).map fun (m : Nat) => if c.1 ≤ m ∧ (m : Int) < c.1 + j then 1 else f m) (fun q => q = self0 (l, size, e, ((k + 1 : Nat) : Int), cs, p, (List.range N).map fun (m : Nat) => if c.1 ≤ m ∧ (m : Int) < e then 1 else f m)) ?_ ?_
    (e - c.1).toNat 0 big (by simp) (by unfold big; omega) ((List.range N).map f) (map_same fun m hm => by rw [if_neg (by omega)])
  · simpa using this
  · rintro self s rfl
    show hlaw05_LayoutParts_1 _ self0 self _ = _
    unfold hlaw05_LayoutParts_1
    dsimp only
    rw [decide_eq_false (by omega), cond_false, wrap_i64 (n := (k : Int) + 1) (by omega) (by omega), show c.1 + ((e - c.1).toNat : Int) = e by omega]
    rfl
  · rintro self s j hj rfl
    left
    refine ⟨_, rfl, ?_⟩
    show hlaw05_LayoutParts_1 _ self0 self _ = _
    unfold hlaw05_LayoutParts_1
    dsimp only
    have hx : (c.1 + (j : Int)).toNat < N := by omega
    have hl : ((List.range N).map fun (m : Nat) => if c.1 ≤ m ∧ (m : Int) < c.1 + j then (1 : Int) else f m).length = N := by simp
    rw [decide_eq_true (by omega), cond_true, hl, decide_eq_true (by omega), decide_eq_true (by omega), Bool.true_and, cond_true, nth_map _ hx, Option.bind_some, if_neg (by omega), hf _ (by omega) (by omega), wrap_i64 (n := (0 : Int) + 1) (by decide) (by decide), set_map, cond_true, wrap_i64 (n := c.1 + (j : Int) + 1) (by omega) (by omega)]
    rw [Int.natCast_succ, ← Int.add_assoc]
    rw [show ((List.range N).map fun (m : Nat) => if m = (c.1 + (j : Int)).toNat then (0 : Int) + 1 else if c.1 ≤ m ∧ (m : Int) < c.1 + j then 1 else f m) = (List.range N).map fun (m : Nat) => if c.1 ≤ m ∧ (m : Int) < c.1 + j + 1 then 1 else f m from map_same fun m hm => by
      by_cases e1 : m = (c.1 + (j : Int)).toNat
      · rw [if_pos e1, if_pos (by omega)]; rfl
      · rw [if_neg e1]
        by_cases e2 : c.1 ≤ m ∧ (m : Int) < c.1 + j
        · rw [if_pos e2, if_pos (by omega)]
        · rw [if_neg e2, if_neg (by omega)]]

theorem parts_ones (s0 s1) (N : Nat) (hN : N ≤ 1000) : iterV (glaw05_LayoutParts_3 (fun _ => List.replicate) big s0 s1) big ((N : Int), 0, (List.range N).map fun _ => (1 : Int)) = some true := by
  refine range_post (g := glaw05_LayoutParts_3 (fun _ => List.replicate) big s0 s1) (n := N) (fun (_ : Unit) (j : Nat) => ((N : Int), (j : Int), (List.range N).map fun _ => (1 : Int))) (fun _ _ => True) (fun q => q = some true) ?_ ?_
    N 0 big (by simp) (by unfold big; omega) () trivial
  · intro self _ _
    show hlaw05_LayoutParts_3 _ _ _ self _ = _
    unfold hlaw05_LayoutParts_3
    dsimp only
    rw [decide_eq_false (by omega), cond_false, alive5_true]; rfl
  · intro self _ j hj _
    left
    refine ⟨(), trivial, ?_⟩
    have hl : ((List.range N).map fun _ => (1 : Int)).length = N := by simp
    show hlaw05_LayoutParts_3 _ _ _ self _ = _
    unfold hlaw05_LayoutParts_3
    dsimp only
    rw [decide_eq_true (by omega), cond_true, hl, decide_eq_true (by omega), Bool.true_and, decide_eq_true (by omega), cond_true, Int.toNat_natCast, nth_map _ hj, Option.bind_some, wrap_succ hj (by have := maxLen_ge; omega)]
    rfl

theorem parts_pad (s0) (N : Nat) (hN : N ≤ 1000) (q : Int → Bool) :
    iterV (glaw05_LayoutParts_2 (fun _ => List.replicate) big s0) big ((N : Int), 0, (rng 0 N).filter q, (List.range N).map fun (m : Nat) => if q m then (0 : Int) else 1) = some true := by
  have hpl : ((rng 0 N).filter q).length ≤ N := by
    have := List.length_filter_le q (rng 0 N)
    rw [rng_len] at this
    omega
  have hmem : ∀ x, x ∈ (rng 0 N).filter q ↔ (0 ≤ x ∧ x < N) ∧ q x = true := fun x => by rw [List.mem_filter, mem_rng]
  have hord : ((rng 0 N).filter q).Pairwise (· < ·) := by
    apply List.Pairwise.filter
    unfold rng
    rw [List.pairwise_map]
    exact List.pairwise_lt_range.imp fun h => by omega
  have hget := List.pairwise_iff_getElem.1 hord
  generalize (rng 0 (N : Int)).filter q = p at *
  refine range_post (g := glaw05_LayoutParts_2 (fun _ => List.replicate) big s0) (n := p.length) (fun (s : List Int) (j : Nat) => ((N : Int), (j : Int), p, s)) (fun j s => s = (List.range N).map fun (m : Nat) => if q m = true ∧ (m : Int) ∉ p.take j then (0 : Int) else 1) (fun q => q = some true) ?_ ?_
    p.length 0 big (by simp) (by unfold big; omega) _ (map_same fun m _ => by simp)
  · rintro self s rfl
    show hlaw05_LayoutParts_2 _ _ _ self _ = _
    unfold hlaw05_LayoutParts_2
    dsimp only
    rw [decide_eq_false (by omega), cond_false]
    rw [show ((List.range N).map fun (m : Nat) => if q m = true ∧ (m : Int) ∉ p.take p.length then (0 : Int) else 1) = (List.range N).map fun _ => (1 : Int) from map_same fun m hm => by
      rw [List.take_length, if_neg]
      rintro ⟨h1, h2⟩
      exact h2 ((hmem m).2 ⟨⟨by omega, by omega⟩, h1⟩)]
    exact parts_ones s0 self N hN
  · rintro self s j hj rfl
    left
    refine ⟨_, rfl, ?_⟩
    obtain ⟨⟨hp0, hp1⟩, hpq⟩ := (hmem p[j]).1 (List.getElem_mem hj)
    have hx : (p[j]).toNat < N := by omega
    have hxi : (((p[j]).toNat : Nat) : Int) = p[j] := by omega
    have hnot : p[j] ∉ p.take j := by
      intro h
      obtain ⟨a, ha, e⟩ := List.mem_take_iff_getElem.1 h
      have := hget a j (by omega) hj (by omega)
      omega
    have ep : nth p (Int.toNat (j : Int)) = some p[j] := List.getElem?_eq_getElem hj
    have hl : ((List.range N).map fun (m : Nat) => if q m = true ∧ (m : Int) ∉ p.take j then (0 : Int) else 1).length = N := by simp
    have hset : (((List.range N).map fun (m : Nat) => if q m = true ∧ (m : Int) ∉ p.take j then (0 : Int) else 1).set (p[j]).toNat 1) = (List.range N).map fun (m : Nat) => if q m = true ∧ (m : Int) ∉ p.take (j + 1) then (0 : Int) else 1 := by
      rw [set_map]
      refine map_same fun m hm => ?_
      rw [List.take_succ_eq_append_getElem hj]
      by_cases e : m = (p[j]).toNat
      · rw [if_pos e, if_neg]
        rintro ⟨_, h⟩
        exact h (by rw [e, hxi]; exact List.mem_append_right _ (List.mem_singleton.2 rfl))
      · rw [if_neg e]
        have hne : (m : Int) ≠ p[j] := by omega
        have hiff : ((m : Int) ∈ p.take j ++ [p[j]]) ↔ (m : Int) ∈ p.take j := by rw [List.mem_append, List.mem_singleton]; exact ⟨fun h => h.resolve_right hne, .inl⟩
        simp only [hiff]
    have hnth : nth ((List.range N).map fun (m : Nat) => if q m = true ∧ (m : Int) ∉ p.take j then (0 : Int) else 1) (p[j]).toNat = some 0 := by
      rw [nth_map _ hx, hxi, if_pos ⟨hpq, hnot⟩]
    have d1 : decide ((j : Int) < (p.length : Int)) = true := decide_eq_true (by omega)
    have d2 : decide (0 ≤ (j : Int)) = true := decide_eq_true (by omega)
    have d3 : decide (p[j] < 0) = false := decide_eq_false (by omega)
    have d4 : decide (p[j] ≥ (N : Int)) = false := decide_eq_false (by omega)
    have d5 : decide (0 ≤ p[j]) = true := decide_eq_true hp0
    have d6 : decide (p[j] < (N : Int)) = true := decide_eq_true hp1
    have hw : IntKind.i64.wrap ((0 : Int) + 1) = 1 := rfl
    rw [← hset]
    show hlaw05_LayoutParts_2 _ _ _ self _ = _
    unfold hlaw05_LayoutParts_2
    dsimp only
    simp only [d1, d2, Bool.and_self, cond_true, ep, Option.bind_some, d3, cond_false, d4, hl, d5, d6, hnth, hw]
    rw [wrap_succ hj (by have := maxLen_ge; omega)]
    by_cases hj0 : j = 0
    · subst hj0
      rw [decide_eq_false (by omega), cond_false]
    · have e1 : IntKind.i64.wrap ((j : Int) - 1) = ((j - 1 : Nat) : Int) := by rw [wrap_i64 (by omega) (by omega)]; omega
      have ep1 : nth p (Int.toNat ((j - 1 : Nat) : Int)) = some (p[j - 1]'(by omega)) := List.getElem?_eq_getElem (by omega)
      have hlt := hget (j - 1) j (by omega) hj (by omega)
      rw [decide_eq_true (by omega), cond_true, e1, decide_eq_true (by omega), decide_eq_true (by omega), Bool.and_self, cond_true, ep1, Option.bind_some, decide_eq_false (by omega), cond_false]

theorem parts_true : ∀ x, claw05_LayoutParts x = some true := by
  rintro ⟨l, i⟩
  show nlaw05_LayoutParts _ (iterV (glaw05_LayoutParts_0 _ big) big) _ = _
  unfold nlaw05_LayoutParts
  dsimp only
  obtain ⟨b, hf, hfb⟩ := fit5_eq l i
  rw [hf, Option.bind_some]
  cases b with
  | false => rw [Bool.not_false, cond_true, alive5_true]; rfl
  | true =>
    have he := hfb rfl
    obtain ⟨hv, h0, h1, hs⟩ := errS_ok he
    have hlen := hv.1
    have hext := ext_ok hv h0 h1
    have hcl := CS_len hv h0 h1 0
    have htile := CS_tile hv h0 h1 0
    rw [Int.zero_add] at htile
    have hmem := CS_mem hv h0 h1 0
    have herr := fun c (hc : c ∈ CS l i 0) => cell_err he hc
    rw [Bool.not_true, cond_false, Size_ok he, Option.bind_some, Cells_ok he, Option.bind_some, Padding_ok he, Option.bind_some]
    generalize CS l i 0 = cs at *
    have hpos : ∀ c ∈ cs, 1 ≤ sz (exS l) c.2.1 := fun c hc => (ext_ok hv (hmem c hc).1.1 (hmem c hc).1.2).1
    have hlow := tile_low htile hpos
    rw [padS_filter htile hpos]
    dsimp only
    obtain ⟨N, hN, hN2⟩ : ∃ N : Nat, sz (exS l) i = N ∧ N ≤ 256 := ⟨(sz (exS l) i).toNat, by omega, by omega⟩
    rw [hN] at hlow htile hcl ⊢
    rw [show ((0 : Int) != 0) = false from rfl, cond_false, cond_false, cond_false, decide_eq_false (by omega), cond_false, decide_eq_false (by omega), cond_false, decide_eq_true (by omega), decide_eq_true (by omega), decide_eq_true (by omega)]
    simp only [Bool.and_true, cond_true]
    rw [Int.toNat_natCast, rep_map]
    refine range_post (g := glaw05_LayoutParts_0 (fun _ => List.replicate) big) (n := cs.length) (fun (s : Int × List Int) (k : Nat) => (l, (N : Int), s.1, (k : Int), cs, (rng 0 N).filter (fun n => !cov (exS l) cs n), s.2)) (fun k s => 0 ≤ s.1 ∧ Tile (exS l) (cs.drop k) s.1 N ∧ (s.2 = (List.range N).map fun (m : Nat) => if cov (exS l) (cs.take k) m then (1 : Int) else 0) ∧ ∀ m, cov (exS l) (cs.take k) m = true → m < s.1) (fun q => q = some true) ?_ ?_
      cs.length 0 big (by simp) (by unfold big; omega) (0, (List.range N).map fun _ => (0 : Int)) ⟨Int.le_refl _, htile, map_same fun m _ => rfl, fun m h => by simp [cov] at h⟩
    · rintro self ⟨e, s⟩ ⟨i1, i2, i3, i4⟩
      dsimp only at i1 i2 i3 i4
      subst i3
      rw [List.take_length]
      show hlaw05_LayoutParts_0 _ _ _ self _ = _
      unfold hlaw05_LayoutParts_0
      dsimp only
      rw [decide_eq_false (by omega), cond_false]
      have := parts_pad self N (by omega) (fun n => !cov (exS l) cs n)
      rw [show ((List.range N).map fun (m : Nat) => if cov (exS l) cs m then (1 : Int) else 0) = (List.range N).map fun (m : Nat) => if (!cov (exS l) cs m) = true then (0 : Int) else 1 from map_same fun m _ => by
        cases cov (exS l) cs (m : Int) <;> rfl]
      exact this
    · rintro self ⟨e, s⟩ k hk ⟨i1, i2, i3, i4⟩
      dsimp only at i1 i2 i3 i4
      subst i3
      have hd : cs.drop k = cs[k] :: cs.drop (k + 1) := List.drop_eq_getElem_cons hk
      rw [hd] at i2
      have hck := List.getElem_mem hk
      have hm := hmem _ hck
      have hp := hpos _ hck
      have hl := hlow _ hck
      obtain ⟨t, ht, hnc⟩ := hm.2
      have hparts : partsS t = [] := by
        unfold partsS
        unfold isC at hnc
        rw [if_neg fun h => hnc (.inl h), if_neg fun h => hnc (.inr h)]
      have h3 := i2.1
      left
      refine ⟨(cs[k].1 + sz (exS l) cs[k].2.1, (List.range N).map fun (m : Nat) => if cov (exS l) (cs.take (k + 1)) m then (1 : Int) else 0), ⟨by dsimp only; omega, i2.2, rfl, ?_⟩, ?_⟩
      · dsimp only
        intro m hmm
        rw [List.take_succ_eq_append_getElem hk, cov_snoc, Bool.or_eq_true, Bool.and_eq_true, decide_eq_true_eq, decide_eq_true_eq] at hmm
        rcases hmm with hmm | hmm
        · have := i4 m hmm; omega
        · omega
      · have ek : nth cs (Int.toNat (k : Int)) = some cs[k] := List.getElem?_eq_getElem hk
        have d1 : decide ((k : Int) < (cs.length : Int)) = true := decide_eq_true (by omega)
        have d2 : decide (0 ≤ (k : Int)) = true := decide_eq_true (by omega)
        have d3 : decide ((cs[k]).2.1 < 0) = false := decide_eq_false (by omega)
        have d4 : decide ((cs[k]).2.1 ≥ (l.length : Int)) = false := decide_eq_false (by omega)
        have d5 : decide (sz (exS l) (cs[k]).2.1 < 1) = false := decide_eq_false (by omega)
        have d6 : decide ((cs[k]).1 < e) = false := decide_eq_false (by omega)
        have w1 : IntKind.i64.wrap ((N : Int) - sz (exS l) (cs[k]).2.1) = (N : Int) - sz (exS l) (cs[k]).2.1 := wrap_i64 (by omega) (by omega)
        have w2 : IntKind.i64.wrap ((cs[k]).1 + sz (exS l) (cs[k]).2.1) = (cs[k]).1 + sz (exS l) (cs[k]).2.1 := wrap_i64 (by omega) (by omega)
        have d7 : decide ((cs[k]).1 > (N : Int) - sz (exS l) (cs[k]).2.1) = false := decide_eq_false (by omega)
        have d8 : ((0 : Int) != 0) = false := rfl
        show hlaw05_LayoutParts_0 _ _ _ self _ = _
        unfold hlaw05_LayoutParts_0
        dsimp only
        simp only [d1, d2, Bool.and_self, cond_true, ek, Option.bind_some, d3, d4, cond_false, ht, rParts_ok (built_at hv.2.1 ht), hparts, Size_ok (herr _ hck), d8, d5, d6, w1, d7, w2]
        rw [show decide ((List.length ([] : List Int) : Int) > 0) = false from rfl, cond_false]
        refine (parts_inner self l cs[k] cs _ N (cs[k].1 + sz (exS l) cs[k].2.1) k N (by omega) (by omega) (by omega) (by omega) (by omega) _ (fun m hm1 hm2 => ?_)).trans ?_
        · rw [if_neg]
          intro h
          have := i4 _ h
          omega
        · congr 7
          refine map_same fun m _ => ?_
          rw [List.take_succ_eq_append_getElem hk, cov_snoc]
          by_cases hb : (cs[k]).1 ≤ (m : Int) ∧ (m : Int) < (cs[k]).1 + sz (exS l) (cs[k]).2.1
          · rw [if_pos hb, decide_eq_true hb.1, decide_eq_true hb.2, Bool.and_self, Bool.or_true, if_pos rfl]
          · rw [if_neg hb]
            have : (decide ((cs[k]).1 ≤ (m : Int)) && decide ((m : Int) < (cs[k]).1 + sz (exS l) (cs[k]).2.1)) = false := by
              rw [Bool.eq_false_iff]
              intro h
              rw [Bool.and_eq_true, decide_eq_true_eq, decide_eq_true_eq] at h
              exact hb h
            rw [this, Bool.or_false]

/-! ### alignments -/
theorem tmod_zero {a b : Int} (h : a ∣ b) : (b.tmod a != 0) = false := by
  rw [Int.tmod_eq_zero_of_dvd h]; rfl

theorem aligned_loop {l : List Typ} {i : Int} (he : errS l i = 0) : iterV (glaw05_LayoutAligned_0 big) big (l, al (exS l) i, 1, 0, CS l i 0) = some true := by
  obtain ⟨hv, h0, h1, hs⟩ := errS_ok he
  have hext := ext_ok hv h0 h1
  have hcl := CS_len hv h0 h1 0
  have hmem := CS_mem hv h0 h1 0
  have herr := fun c (hc : c ∈ CS l i 0) => cell_err he hc
  obtain ⟨hal, c0, hc0, hc1⟩ := CS_al hv h0 h1 0
  generalize CS l i 0 = cs at *
  refine range_post (g := glaw05_LayoutAligned_0 big) (n := cs.length) (fun (m : Int) (k : Nat) => (l, al (exS l) i, m, (k : Int), cs)) (fun k m => 1 ≤ m ∧ m ≤ al (exS l) i ∧ ∀ c ∈ cs.take k, al (exS l) c.2.1 ≤ m) (fun q => q = some true) ?_ ?_
    cs.length 0 big (by simp) (by unfold big; omega) 1 ⟨Int.le_refl _, by rcases hext.2.2.1 with h | h <;> omega, by simp⟩
  · rintro self m ⟨i1, i2, i3⟩
    rw [List.take_length] at i3
    have := i3 c0 hc0
    have hm : al (exS l) i = m := by omega
    show hlaw05_LayoutAligned_0 self _ = _
    unfold hlaw05_LayoutAligned_0
    dsimp only
    rw [decide_eq_false (by omega), cond_false, show (al (exS l) i == m) = true from decide_eq_true hm, cond_true, alive5_true]
    rfl
  · rintro self m k hk ⟨i1, i2, i3⟩
    have hck := List.getElem_mem hk
    have hm := hmem _ hck
    have hx := ext_ok hv hm.1.1 hm.1.2
    have ha := hal _ hck
    left
    refine ⟨max m (al (exS l) cs[k].2.1), ⟨by omega, by omega, ?_⟩, ?_⟩
    · rw [List.take_succ_eq_append_getElem hk]
      intro c hc
      rcases List.mem_append.1 hc with hc | hc
      · have := i3 c hc; omega
      · rw [List.mem_singleton.1 hc]; omega
    · have ek : nth cs (Int.toNat (k : Int)) = some cs[k] := List.getElem?_eq_getElem hk
      have d1 : decide ((k : Int) < (cs.length : Int)) = true := decide_eq_true (by omega)
      have d2 : decide (0 ≤ (k : Int)) = true := decide_eq_true (by omega)
      have d3 : decide ((cs[k]).2.1 < 0) = false := decide_eq_false (by omega)
      have d4 : decide ((cs[k]).2.1 ≥ (l.length : Int)) = false := decide_eq_false (by omega)
      have d5 : decide (al (exS l) (cs[k]).2.1 < 1) = false := decide_eq_false (by rcases hx.2.2.1 with h | h <;> omega)
      have d6 : (al (exS l) (cs[k]).2.1 == 0) = false := decide_eq_false (by rcases hx.2.2.1 with h | h <;> omega)
      have d7 := tmod_zero (ha.2 (Int.dvd_zero _))
      have d8 : ((0 : Int) != 0) = false := rfl
      show hlaw05_LayoutAligned_0 self _ = _
      unfold hlaw05_LayoutAligned_0
      dsimp only
      simp only [d1, d2, Bool.and_self, cond_true, ek, Option.bind_some, d3, d4, cond_false, Size_ok (herr _ hck), d8, d5, d6, d7]
      rw [wrap_succ hk (by have := maxLen_ge; omega), max_if]

theorem aligned_true : ∀ x, claw05_LayoutAligned x = some true := by
  rintro ⟨l, i⟩
  show nlaw05_LayoutAligned (iterV (glaw05_LayoutAligned_0 big) big) _ = _
  unfold nlaw05_LayoutAligned
  dsimp only
  obtain ⟨b, hf, hfb⟩ := fit5_eq l i
  rw [hf, Option.bind_some]
  cases b with
  | false => rw [Bool.not_false, cond_true, alive5_true]; rfl
  | true =>
    have he := hfb rfl
    obtain ⟨hv, h0, h1, hs⟩ := errS_ok he
    have hext := ext_ok hv h0 h1
    rw [Bool.not_true, cond_false, Size_ok he, Option.bind_some, Cells_ok he, Option.bind_some]
    dsimp only
    rw [show ((0 : Int) != 0) = false from rfl, cond_false, cond_false, tmod_zero hext.2.2.2, aligned_loop he]
    rcases hext.2.2.1 with h | h <;> rw [h] <;> rfl

/-! ### arrays and structs -/
theorem moved_eq (a : List Cel) (d : Int) (ha : a.length ≤ 1000) (hb : ∀ c ∈ a, -1000000 ≤ c.1 + d ∧ c.1 + d ≤ 1000000) : claw05_moved (a, d) = some (a.map (shift d)) := by
  show nlaw05_moved (iterV (glaw05_moved_0 big) big) _ = _
  unfold nlaw05_moved
  dsimp only
  refine range_post (g := glaw05_moved_0 big) (n := a.length) (fun (r : List Cel) (k : Nat) => (a, d, (k : Int), r)) (fun k r => r = (a.take k).map (shift d)) (fun q => q = some (a.map (shift d))) ?_ ?_
    a.length 0 big (by simp) (by unfold big; omega) _ (by simp)
  · rintro self r rfl
    rw [List.take_length]
    show hlaw05_moved_0 self _ = _
    unfold hlaw05_moved_0
    dsimp only
    rw [decide_eq_false (by omega), cond_false]
  · rintro self r k hk rfl
    left
    refine ⟨_, rfl, ?_⟩
    have := hb _ (List.getElem_mem hk)
    rw [List.take_succ_eq_append_getElem hk, List.map_append]
    show hlaw05_moved_0 self _ = _
    unfold hlaw05_moved_0
    dsimp only
    rw [decide_eq_true (by omega), cond_true, getI_at hk, Option.bind_some, Option.bind_some, wrap_i64 (n := (a[k]).1 + d) (by omega) (by omega), ble_k rfl (by rw [List.length_map, List.length_singleton, List.length_take]; omega), cond_true, wrap_succ hk (by have := maxLen_ge; omega)]
    rfl

theorem moved_cells {l : List Typ} (hv : Valid l) {i : Int} (h0 : 0 ≤ i) (h1 : i < l.length) (hs : sz (exS l) i ≤ 256) {d : Int} (hd0 : 0 ≤ d) (hd1 : d ≤ 256) : claw05_moved (CS l i 0, d) = some (CS l i (0 + d)) := by
  have hcl := CS_len hv h0 h1 0
  have htile := CS_tile hv h0 h1 0
  have hpos : ∀ c ∈ CS l i 0, 1 ≤ sz (exS l) c.2.1 := fun c hc => by
    have := (CS_mem hv h0 h1 0 c hc).1
    exact (ext_ok hv this.1 this.2).1
  have hlow := tile_low htile hpos
  rw [moved_eq _ _ (by omega) (fun c hc => by have h1 := hlow c hc; have h2 := hpos c hc; omega), CS_shift hv h0 h1]

theorem sub_err {l : List Typ} {i : Int} (he : errS l i = 0) {t : Typ} (ht : getI l i = some t) (hk : isC t) {j : Nat} (hj : j < cnt t) : errS l (sub t j) = 0 := by
  obtain ⟨hv, h0, h1, hs⟩ := errS_ok he
  have h2 := sub_lt hv.2.1 ht hk hj
  have h3 := off_ok hv ht hk hj
  exact errS_zero hv h2.1 (by omega) (by omega)

theorem made_arr {l : List Typ} {i : Int} (he : errS l i = 0) {t : Typ} (ht : getI l i = some t) (h6 : t.1 = 6) : iterV (glaw05_LayoutMade_0 big) big (l, i, sz (exS l) t.2.1, 0, CS l i 0, [], CS l t.2.1 0) = some true := by
  obtain ⟨hv, h0, h1, hs⟩ := errS_ok he
  have hc : isC t := .inl h6
  have hbt := built_at hv.2.1 ht
  have hx := built_arr hbt h6
  have hcl := CS_len hv h0 h1 0
  have hcnt : (cnt t : Int) = t.2.2.1 := by unfold cnt; rw [if_pos h6]; omega
  have es : ∀ j, sub t j = t.2.1 := fun j => by unfold sub; rw [if_pos h6]
  refine range_post (g := glaw05_LayoutMade_0 big) (n := cnt t) (fun (r : List Cel) (k : Nat) => (l, i, sz (exS l) t.2.1, (k : Int), CS l i 0, r, CS l t.2.1 0)) (fun k r => r = cellsTo l t 0 k) (fun q => q = some true) ?_ ?_
    (cnt t) 0 big (by simp) (by unfold big; omega) _ (by simp [cellsTo])
  · rintro self r rfl
    show hlaw05_LayoutMade_0 self _ = _
    unfold hlaw05_LayoutMade_0
    dsimp only
    rw [ht, Option.bind_some, decide_eq_false (by omega), cond_false, ← CS_comp hv.2.1 ht hc, rSame_refl _ (by omega), Option.bind_some, cond_true, alive5_true]
    rfl
  · rintro self r j hj rfl
    left
    refine ⟨_, rfl, ?_⟩
    have ho := off_ok hv ht hc hj
    have hsj := sub_ok hv ht hc hj
    have hlt := sub_lt hv.2.1 ht hc hj
    have hcl' := cellsTo_len hv ht hc 0 j (by omega)
    have hsl := CS_len hv (i := sub t j) hlt.1 (by omega) (0 + off (exS l) t j)
    have e2 : (j : Int) * sz (exS l) t.2.1 = off (exS l) t j := by unfold off; rw [if_pos h6]
    have hmv := moved_cells hv (i := sub t j) hlt.1 (by omega) (by omega) ho.1 (by omega : off (exS l) t j ≤ 256)
    rw [cellsTo_succ]
    rw [es j] at ho hsj hsl hmv ⊢
    show hlaw05_LayoutMade_0 self _ = _
    unfold hlaw05_LayoutMade_0
    dsimp only
    rw [ht, Option.bind_some, decide_eq_true (by omega), cond_true, e2, wrap_i64 (n := off (exS l) t j) (by omega) (by omega), hmv, Option.bind_some, ble_k rfl (by omega), cond_true, wrap_succ hj (by have := maxLen_ge; omega)]
    rfl

theorem made_str {l : List Typ} {i : Int} (he : errS l i = 0) {t : Typ} (ht : getI l i = some t) (h5 : t.1 = 5) : iterV (glaw05_LayoutMade_1 big) big (l, i, 0, CS l i 0, [], (togS (exS l) t.2.2.2.1).1) = some true := by
  obtain ⟨hv, h0, h1, hs⟩ := errS_ok he
  have hc : isC t := .inr h5
  have hbt := built_at hv.2.1 ht
  have hx := built_str hbt h5
  have hcl := CS_len hv h0 h1 0
  have hat := togS_len (exS l) t.2.2.2.1
  have hcnt : cnt t = t.2.2.2.1.length := by unfold cnt; rw [if_neg (by omega)]
  refine range_post (g := glaw05_LayoutMade_1 big) (n := cnt t) (fun (r : List Cel) (k : Nat) => (l, i, (k : Int), CS l i 0, r, (togS (exS l) t.2.2.2.1).1)) (fun k r => r = cellsTo l t 0 k) (fun q => q = some true) ?_ ?_
    (cnt t) 0 big (by simp) (by unfold big; omega) _ (by simp [cellsTo])
  · rintro self r rfl
    show hlaw05_LayoutMade_1 self _ = _
    unfold hlaw05_LayoutMade_1
    dsimp only
    rw [decide_eq_false (by omega), cond_false, ← CS_comp hv.2.1 ht hc, rSame_refl _ (by omega), Option.bind_some, cond_true, alive5_true]
    rfl
  · rintro self r j hj rfl
    left
    refine ⟨_, rfl, ?_⟩
    have hj' : j < t.2.2.2.1.length := by omega
    have ho := off_ok hv ht hc hj
    have hsj := sub_ok hv ht hc hj
    have hlt := sub_lt hv.2.1 ht hc hj
    have hcl' := cellsTo_len hv ht hc 0 j (by omega)
    have hsl := CS_len hv (i := sub t j) hlt.1 (by omega) (0 + off (exS l) t j)
    have e1 := sub_fld h5 hj'
    have hoff : ∀ j : Nat, (togS (exS l) t.2.2.2.1).1.getD (Int.toNat (j : Int)) 0 = off (exS l) t j := fun j => by unfold off; rw [if_neg (by omega), Int.toNat_natCast]
    have hmv := moved_cells hv (i := sub t j) hlt.1 (by omega) (by omega) ho.1 (by omega : off (exS l) t j ≤ 256)
    have hn := nth_getD (a := (togS (exS l) t.2.2.2.1).1) (e := (j : Int)) (by omega) (by omega)
    rw [hoff] at hn
    have hcells := Cells_ok (sub_err he ht hc hj)
    rw [cellsTo_succ]
    have d1 : decide ((j : Int) < ((togS (exS l) t.2.2.2.1).1.length : Int)) = true := decide_eq_true (by omega)
    have d2 : decide (0 ≤ (j : Int)) = true := decide_eq_true (by omega)
    have d3 : ((0 : Int) != 0) = false := rfl
    have hsucc := wrap_succ hj (by have := maxLen_ge; omega)
    have hble : (Nat.ble 1 2 && Nat.ble ((cellsTo l t 0 j).length + (CS l (sub t j) (0 + off (exS l) t j)).length) lim) = true := ble_k rfl (by omega)
    rw [e1] at hcells hmv hble ⊢
    show hlaw05_LayoutMade_1 self _ = _
    unfold hlaw05_LayoutMade_1
    dsimp only
    simp only [d1, d2, Bool.and_self, cond_true, ht, Option.bind_some, getI_at hj', hcells, d3, cond_false, hn, hmv, hble, hsucc]
    by_cases hj0 : j = 0
    · subst hj0
      rw [decide_eq_false (by omega), cond_false]
      rfl
    · have ew : IntKind.i64.wrap ((j : Int) - 1) = ((j - 1 : Nat) : Int) := by rw [wrap_i64 (by omega) (by omega)]; omega
      have hn1 := nth_getD (a := (togS (exS l) t.2.2.2.1).1) (e := ((j - 1 : Nat) : Int)) (by omega) (by omega)
      rw [hoff] at hn1
      have hle : off (exS l) t (j - 1) ≤ off (exS l) t j := by
        have s1 := comp_step hv ht hc (j := j - 1) (by omega)
        have s2 := comp_step hv ht hc hj
        have s3 := sub_ok hv ht hc (j := j - 1) (by omega)
        rw [show j - 1 + 1 = j by omega] at s1
        omega
      rw [decide_eq_true (by omega), cond_true, ew, decide_eq_true (by omega), decide_eq_true (by omega), Bool.and_self, cond_true, hn1, Option.bind_some, decide_eq_false (by omega), cond_false]
      rfl

theorem made_true : ∀ x, claw05_LayoutMade x = some true := by
  rintro ⟨l, i⟩
  show nlaw05_LayoutMade (iterV (glaw05_LayoutMade_0 big) big) (iterV (glaw05_LayoutMade_1 big) big) _ = _
  unfold nlaw05_LayoutMade
  dsimp only
  obtain ⟨b, hf, hfb⟩ := fit5_eq l i
  rw [hf, Option.bind_some]
  cases b with
  | false => rw [Bool.not_false, cond_true, alive5_true]; rfl
  | true =>
    have he := hfb rfl
    obtain ⟨hv, h0, h1, hs⟩ := errS_ok he
    obtain ⟨t, ht⟩ := getI_in h0 h1
    have hbt := built_at hv.2.1 ht
    have ex := ext_at hv.2.1 ht
    have d0 : ((0 : Int) != 0) = false := rfl
    have hne : ∀ x : Int, (x != x) = false := fun x => by simp
    simp only [Bool.not_true, cond_false, Cells_ok he, Option.bind_some, Size_ok he, d0, ht]
    by_cases h6 : t.1 = 6
    · have hc : isC t := .inl h6
      have hx := built_arr hbt h6
      have hpos := cnt_pos hc hbt
      have hse := sub_err he ht hc (j := 0) (by omega)
      rw [show sub t 0 = t.2.1 by unfold sub; rw [if_pos h6]] at hse
      have hs6 : ext (exS l) i = (t.2.2.1 * sz (exS l) t.2.1, (al (exS l) t.2.1, ())) := by
        rw [ex]; unfold extOne; rw [if_neg (by omega), if_neg (by omega), if_neg (by omega), if_pos h6]
      have e1 : sz (exS l) i = t.2.2.1 * sz (exS l) t.2.1 := by unfold sz; rw [hs6]
      have e2 : al (exS l) i = al (exS l) t.2.1 := by unfold al; rw [hs6]
      have hb := (ext_ok hv h0 h1).1
      have w : IntKind.i64.wrap (sz (exS l) t.2.1 * t.2.2.1) = sz (exS l) i := by rw [Int.mul_comm, ← e1]; exact wrap_i64 (by omega) (by omega)
      simp only [Cells_ok hse, Size_ok hse, Option.bind_some, d0, cond_false, w, e2, hne, made_arr he ht h6]
      rw [show (t.1 == 6) = true from decide_eq_true h6, cond_true]
    rw [show (t.1 == 6) = false from decide_eq_false h6, cond_false]
    by_cases h5 : t.1 = 5
    · have hc : isC t := .inr h5
      have hx := built_str hbt h5
      have hs5 : ext (exS l) i = (upS (togS (exS l) t.2.2.2.1).2.1 (togS (exS l) t.2.2.2.1).2.2, ((togS (exS l) t.2.2.2.1).2.2, ())) := by
        rw [ex]; unfold extOne; rw [if_neg (by omega), if_neg (by omega), if_neg (by omega), if_neg h6, if_pos h5]
      have e1 : upS (togS (exS l) t.2.2.2.1).2.1 (togS (exS l) t.2.2.2.1).2.2 = sz (exS l) i := by unfold sz; rw [hs5]
      have e2 : (togS (exS l) t.2.2.2.1).2.2 = al (exS l) i := by unfold al; rw [hs5]
      have hcnt : cnt t = t.2.2.2.1.length := by unfold cnt; rw [if_neg h6]
      have heo : errO l t.2.2.2.1 = 0 := by
        unfold errO
        rw [if_pos hv, if_pos (by omega), if_pos (fun f hf => by have := hx.2 f hf; omega), if_pos]
        intro f hf
        obtain ⟨j, hj, rfl⟩ := List.getElem_of_mem hf
        have := errS_ok (sub_err he ht hc (j := j) (by omega))
        rw [sub_fld h5 hj] at this
        exact this.2.2.2
      have hat := togS_len (exS l) t.2.2.2.1
      rw [show (t.1 == 5) = true from decide_eq_true h5, cond_true, Offsets_eq, if_pos heo, Option.bind_some]
      dsimp only
      rw [e1, e2]
      simp only [d0, hne, cond_false, Option.bind_some, hat, made_str he ht h5]
    · rw [show (t.1 == 5) = false from decide_eq_false h5, cond_false, CS_leaf ht (fun h => by rcases h with h | h <;> omega), rSame_refl _ (by simp), Option.bind_some, cond_true, alive5_true]
      rfl

/-! ### alike types -/
theorem alike5_loop {l : List Typ} (hv : Valid l) {x y : List Cel} (hx : x.length ≤ 1000) (hmx : ∀ c ∈ x, 0 ≤ c.2.1 ∧ c.2.1 < l.length) (hmy : ∀ c ∈ y, 0 ≤ c.2.1 ∧ c.2.1 < l.length) (h : All2 (fun c d => c.1 = d.1 ∧ Alike l c.2.1 d.2.1) x y) : iterV (glaw05_LayoutAlike_0 big) big (l, 0, x, y) = some true := by
  have hl := h.len
  refine range_post (g := glaw05_LayoutAlike_0 big) (n := x.length) (fun (_ : Unit) (k : Nat) => (l, (k : Int), x, y)) (fun _ _ => True) (fun q => q = some true) ?_ ?_
    x.length 0 big (by simp) (by unfold big; omega) () trivial
  · intro self _ _
    show hlaw05_LayoutAlike_0 self _ = _
    unfold hlaw05_LayoutAlike_0
    dsimp only
    rw [decide_eq_false (by omega), cond_false, alive5_true]; rfl
  · intro self _ k hk _
    left
    refine ⟨(), trivial, ?_⟩
    have hk' : k < y.length := by omega
    have hm1 := hmx _ (List.getElem_mem hk)
    have hm2 := hmy _ (List.getElem_mem hk')
    obtain ⟨h1, h2⟩ := h.at k hk hk'
    obtain ⟨b, g1, g2⟩ := Same_eq hv hm1.1 hm1.2 hm2.1 hm2.2
    have hb : b = true := g2.2 h2
    subst hb
    have e1 : nth x (Int.toNat (k : Int)) = some x[k] := List.getElem?_eq_getElem hk
    have e2 : nth y (Int.toNat (k : Int)) = some y[k] := List.getElem?_eq_getElem hk'
    have d1 : decide ((k : Int) < (x.length : Int)) = true := decide_eq_true (by omega)
    have d2 : decide (0 ≤ (k : Int)) = true := decide_eq_true (by omega)
    have d3 : decide ((k : Int) < (y.length : Int)) = true := decide_eq_true (by omega)
    have d4 : ((x[k]).1 != (y[k]).1) = false := by rw [h1]; simp
    have d5 : ((0 : Int) != 0) = false := rfl
    show hlaw05_LayoutAlike_0 self _ = _
    unfold hlaw05_LayoutAlike_0
    dsimp only
    simp only [d1, d2, d3, Bool.and_self, cond_true, e1, e2, Option.bind_some, g1, d4, d5, cond_false, Bool.not_true]
    rw [wrap_succ hk (by have := maxLen_ge; omega)]

theorem alike5_true : ∀ x, claw05_LayoutAlike x = some true := by
  rintro ⟨l, i, k⟩
  show nlaw05_LayoutAlike (iterV (glaw05_LayoutAlike_0 big) big) _ = _
  unfold nlaw05_LayoutAlike
  dsimp only
  obtain ⟨b, hf, hfb⟩ := fit5_eq l i
  rw [hf, Option.bind_some]
  cases b with
  | false => rw [Bool.not_false, cond_true, alive5_true]; rfl
  | true =>
    have he := hfb rfl
    rw [Bool.not_true, cond_false]
    obtain ⟨b, hf, hfb⟩ := fit5_eq l k
    rw [hf, Option.bind_some]
    cases b with
    | false => rw [Bool.not_false, cond_true, alive5_true]; rfl
    | true =>
      have hek := hfb rfl
      obtain ⟨hv, h0, h1, hs⟩ := errS_ok he
      obtain ⟨_, h2, h3, hs2⟩ := errS_ok hek
      obtain ⟨b, g1, g2⟩ := Same_eq hv h0 h1 h2 h3
      have d0 : ((0 : Int) != 0) = false := rfl
      have hne : ∀ x : Int, (x != x) = false := fun x => by simp
      rw [Bool.not_true, cond_false, g1, Option.bind_some]
      dsimp only
      rw [d0, cond_false]
      cases b with
      | false =>
        rw [Bool.not_false, cond_true, show ((0 : Int) == 0) = true from rfl, cond_true, alive5_true]
        rfl
      | true =>
        have hal := g2.1 rfl
        have hx := ext_alike hv h0 h1 k h2 h3 hal
        have e1 : sz (exS l) i = sz (exS l) k := by unfold sz; rw [hx]
        have e2 : al (exS l) i = al (exS l) k := by unfold al; rw [hx]
        have hcs := CS_alike hv h0 h1 k h2 h3 hal 0
        have hm1 := fun c hc => (CS_mem hv h0 h1 0 c hc).1
        have hm2 := fun c hc => (CS_mem hv h2 h3 0 c hc).1
        have hpad := padS_alike hv hm1 hm2 hcs 0 (sz (exS l) i)
        have hcl := CS_len hv h0 h1 0
        have hpl := padS_len he
        have hlen := hcs.len
        simp only [Bool.not_true, cond_false, Size_ok he, Size_ok hek, Cells_ok he, Cells_ok hek, Padding_ok he, Padding_ok hek, Option.bind_some, d0]
        rw [← e1, ← e2, ← hpad, ← hlen, rSameInts_eq _ _ (by omega), Option.bind_some, decide_eq_true rfl, alike5_loop hv (by omega) hm1 hm2 hcs]
        simp only [hne, cond_false, Bool.not_true]
end Go.Proofs.Ytnhiaoabhjjegaa
