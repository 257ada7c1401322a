/- Layer 5: what the program says of sizes, offsets, cells and padding is what the reference says. -/
import Derived.Test.YtnhiaoabhjjegaaLayE
import Derived.Test.YtnhiaoabhjjegaaLayL
set_option linter.unusedVariables false
set_option linter.unusedSimpArgs false
set_option maxRecDepth 100000
namespace Go.Proofs.Ytnhiaoabhjjegaa
open Go.Lift

theorem alive5_true : claw05_alive () = some true := by decide +kernel

theorem padS_len {l : List Typ} {i : Int} (h : errS l i = 0) : (padS (exS l) (CS l i 0) 0 (sz (exS l) i)).length ≤ 256 := by
  obtain ⟨hv, h0, h1, hs⟩ := errS_ok h
  have htile := CS_tile hv h0 h1 0
  rw [Int.zero_add] at htile
  have hpos : ∀ c ∈ CS l i 0, 1 ≤ sz (exS l) c.2.1 := fun c hc => by
    have := (CS_mem hv h0 h1 0 c hc).1
    exact (ext_ok hv this.1 this.2).1
  rw [padS_filter htile hpos]
  have h2 := List.length_filter_le (fun n => !cov (exS l) (CS l i 0) n) (rng 0 (sz (exS l) i))
  rw [rng_len] at h2
  omega

theorem sizes_true : ∀ x, claw05_LayoutSizes x = some true := by
  rintro ⟨l, i, fs, n⟩
  show nlaw05_LayoutSizes _ = _
  unfold nlaw05_LayoutSizes
  dsimp only
  obtain ⟨b, hg, hgb⟩ := rGreat_eq l
  rw [hg, Option.bind_some]
  cases b with
  | true => rfl
  | false =>
    obtain ⟨hl, hf⟩ := hgb rfl
    have hf' : ∀ t ∈ l, t.2.2.2.1.length ≤ 1000 := fun t ht => by have := hf t ht; omega
    rw [cond_false]
    by_cases hn : fs.length ≤ 20
    · have ea : List.append [] fs = fs := rfl
      rw [decide_eq_false (by omega), cond_false, rTwin_eq l (by omega) hf', Option.bind_some, ble_k rfl (by simp; omega), cond_true, ea, Size_eq, Option.bind_some, rSize_eq l hf', Option.bind_some, Offsets_eq, Option.bind_some, rOffsets_eq l hf', Option.bind_some, Round_eq, Option.bind_some, rRound_eq, Option.bind_some]
      have hlen : (if errO l fs = 0 then ((togS (exS l) fs).1, (upS (togS (exS l) fs).2.1 (togS (exS l) fs).2.2, ((togS (exS l) fs).2.2, (0 : Int)))) else ([], (0, (0, errO l fs)))).1.length ≤ 1000 := by
        split
        · show (togS (exS l) fs).1.length ≤ 1000
          rw [togS_len]; omega
        · simp
      generalize (if errS l i = 0 then (sz (exS l) i, (al (exS l) i, (0 : Int))) else (0, (0, errS l i))) = A
      generalize (if errO l fs = 0 then ((togS (exS l) fs).1, (upS (togS (exS l) fs).2.1 (togS (exS l) fs).2.2, ((togS (exS l) fs).2.2, (0 : Int)))) else ([], (0, (0, errO l fs)))) = B at *
      generalize (if n < 0 ∨ n > 1073741824 then ((0 : Int), (2 : Int)) else (upS n 8, 0)) = C
      have he : ∀ x : Int, (x == x) = true := fun x => by simp
      simp only [he, cond_true, rSameInts_eq _ _ hlen, Option.bind_some, decide_true, rSameTable_refl l (by omega) hf', rSameFields_refl fs (by omega)]
    · rw [decide_eq_true (by omega), cond_true]

theorem cells_true : ∀ x, claw05_LayoutCells x = some true := by
  rintro ⟨l, i⟩
  show nlaw05_LayoutCells _ = _
  unfold nlaw05_LayoutCells
  dsimp only
  obtain ⟨b, hg, hgb⟩ := rGreat_eq l
  rw [hg, Option.bind_some]
  cases b with
  | true => rfl
  | false =>
    obtain ⟨hl, hf⟩ := hgb rfl
    have hf' : ∀ t ∈ l, t.2.2.2.1.length ≤ 1000 := fun t ht => by have := hf t ht; omega
    rw [cond_false, Cells_eq, Option.bind_some, rCells_eq l hf', Option.bind_some, Padding_eq, Option.bind_some, rPadding_eq l hf', Option.bind_some]
    have h1 : (if errS l i = 0 then CS l i 0 else []).length ≤ 1000 := by
      split
      · rename_i h
        obtain ⟨hv, h0, h1, hs⟩ := errS_ok h
        have := CS_len hv h0 h1 0
        omega
      · simp
    have h2 : (if errS l i = 0 then padS (exS l) (CS l i 0) 0 (sz (exS l) i) else []).length ≤ 1000 := by
      split
      · rename_i h
        have := padS_len h
        omega
      · simp
    have he : ∀ x : Int, (x == x) = true := fun x => by simp
    simp only [rSame_refl _ h1, he, cond_true, rSameInts_eq _ _ h2, Option.bind_some, decide_true]
end Go.Proofs.Ytnhiaoabhjjegaa
