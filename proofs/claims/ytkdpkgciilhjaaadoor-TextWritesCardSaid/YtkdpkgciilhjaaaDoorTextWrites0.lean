/- The law TextWrites of layer 3 is true for all typed arguments. -/
import Derived.Test.YtkdpkgciilhjaaaDoorTextS
import Derived.Test.YtkdpkgciilhjaaaDoorTextL
set_option linter.unusedVariables false
set_option linter.unusedSimpArgs false
set_option maxRecDepth 100000
namespace Go.Proofs.YtkdpkgciilhjaaaDoor
open Go.Lift

theorem great_some (l : List (List Int)) (hl : l.length ≤ maxLen) : ∃ b, cref03_Great l = some b := by
  have hm := maxLen_ge'
  show ∃ b, nref03_Great (iterV (gref03_Great_0 big) big) l = some b
  unfold nref03_Great
  by_cases h : l.length ≤ 70
  · rw [decide_eq_false (by omega), cond_false]
    have := range_run (g := gref03_Great_0 big) (xs := l) (fun (_ : Unit) (i : Nat) => (l, (i : Int))) (fun x s k => bif decide ((List.length x : Int) > 500) then some true else k s)
      (fun _ => some false) (by
        intro self b
        show href03_Great_0 self _ = _
        unfold href03_Great_0
        dsimp only
        rw [decide_eq_false (by omega), cond_false]) (by
        intro self b i hi
        show href03_Great_0 self _ = _
        unfold href03_Great_0
        dsimp only
        rw [decide_eq_true (by omega), cond_true, getI_at hi, Option.bind_some, wrap_succ hi hl]) l.length 0 big (by omega) (by have := maxLen_big; omega) ()
    rw [List.drop_zero] at this
    have e : ∀ m : List (List Int), ∃ b, foldC (fun (x : List Int) (s : Unit) (k : Unit → Option Bool) => bif decide ((List.length x : Int) > 500) then some true else k s) (fun _ => some false) m () = some b := by
      intro m
      induction m with
      | nil => exact ⟨_, rfl⟩
      | cons x m ih =>
        show ∃ b, (bif decide ((List.length x : Int) > 500) then some true else foldC _ _ m ()) = some b
        cases decide ((List.length x : Int) > 500)
        · exact ih
        · exact ⟨_, rfl⟩
    obtain ⟨b, hb⟩ := e l
    exact ⟨b, this.trans hb⟩
  · rw [decide_eq_true (by omega)]
    exact ⟨_, rfl⟩

theorem writes_true (x : Int × Int × (List Int) × (List (List Int))) (w : WfL [(.int .i64), (.int .u64), .str, (.slice .str)] x) : claw03_TextWrites x = some true := by
  obtain ⟨i, n, s, l⟩ := x
  obtain ⟨hi, hn, hs, hl⟩ := w
  have hi0 : -9223372036854775808 ≤ i := by simpa using hi.1
  have hi1 : i ≤ 9223372036854775807 := by simpa using hi.2
  obtain ⟨u, rfl⟩ : ∃ u : Nat, n = (u : Int) := ⟨n.toNat, (Int.toNat_of_nonneg (by simpa using hn.1)).symm⟩
  have hu : u < 18446744073709551616 := by
    have : (u : Int) ≤ 18446744073709551615 := by simpa using hn.2
    omega
  have hsb : Bytes s := hs.2
  have hlb : ∀ y ∈ l, Bytes y := fun y hy => (hl.2 y hy).2
  have hll : l.length ≤ maxLen := hl.1
  show nlaw03_TextWrites (i, (u : Int), s, l) = _
  unfold nlaw03_TextWrites
  dsimp only
  by_cases h : s.length ≤ 500
  · rw [decide_eq_false (by omega), cond_false]
    obtain ⟨g, hg⟩ := great_some l hll
    rw [hg, Option.bind_some]
    cases g with
    | true => rfl
    | false =>
      rw [cond_false, quote_eq s hsb, Option.bind_some, rquote_eq s hsb, Option.bind_some, list_eq l hlb, Option.bind_some, rlist_eq l hlb hll, Option.bind_some, number_eq, Option.bind_some, rnumber_eq i hi0 hi1, Option.bind_some]
      rw [show eqD .str (decI i) (decI i) = true from eqD_self _ _, cond_true, hex_eq u hu, Option.bind_some, rhex_eq u hu, Option.bind_some]
      rw [show eqD .str ([48, 120] ++ dN 16 u) ([48, 120] ++ dN 16 u) = true from eqD_self _ _, cond_true]
      generalize (if s.length ≤ 400 then (inQ s, (0 : Int)) else ([], 4)) = q
      generalize (if Short l then (listed l, (0 : Int)) else ([], 4)) = m
      rw [show eqD .str q.1 q.1 = true from eqD_self _ _, show eqD .str m.1 m.1 = true from eqD_self _ _]
      simp
  · rw [decide_eq_true (by omega)]; rfl
end Go.Proofs.YtkdpkgciilhjaaaDoor
