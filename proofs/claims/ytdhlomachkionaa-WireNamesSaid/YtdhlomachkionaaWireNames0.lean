/- WireNames: the examples, the greatest numbers, limits and errors. -/
import Derived.Test.YtdhlomachkionaaWireBack0
set_option linter.unusedVariables false
set_option linter.unusedSimpArgs false
set_option maxRecDepth 100000
namespace Go.Proofs.Ytdhlomachkionaa
open Go.Lift

def Bad (c : Cur) : Prop := ¬ Valid c ∧ Bytes c.1
theorem names_loop (cs : List Cur) (hcs : ∀ c ∈ cs, Bad c) (hl : cs.length ≤ 100) (r : Option Bool) (hend : ∀ self, glaw02_WireNames_0 (fun _ => List.replicate) big self ((cs.length : Int), cs) = r) :
    iterV (glaw02_WireNames_0 (fun _ => List.replicate) big) big ((0 : Int), cs) = r := by
  have key := range_run (xs := cs) (g := glaw02_WireNames_0 (fun _ => List.replicate) big) (fun (_ : Unit) i => ((i : Int), cs)) (fun _ _ k => k ()) (fun _ => r) (fun self _ => hend self) ?_ cs.length 0 big (by omega) (big_lt (by rw [maxLen_eq]; omega)) ()
  · refine key.trans ?_
    rw [List.drop_zero]
    have : ∀ l : List Cur, foldC (fun (_ : Cur) (_ : Unit) (k : Unit → Option Bool) => k ()) (fun _ => r) l () = r := by
      intro l
      induction l with
      | nil => rfl
      | cons _ _ ih => exact ih
    exact this cs
  · intro self _ i hi
    obtain ⟨hv, hb⟩ := hcs cs[i] (List.getElem_mem hi)
    have g0 : decide ((i : Int) < (cs.length : Int)) = true := decide_eq_true (by omega)
    have g1 : decide ((0 : Int) ≤ (i : Int)) = true := decide_eq_true (by omega)
    have g2 : nth cs i = some cs[i] := List.getElem?_eq_getElem hi
    have g3 : IntKind.i64.wrap ((i : Int) + 1) = ((i + 1 : Nat) : Int) := by rw [wrap_i64 (by omega) (by omega)]; simp
    have e1 : cwire_Left cs[i] = some (0, 8) := by rw [Left_eq, if_neg hv]
    have e2 : cwire_Unfixed (cs[i], (3 : Int)) = some (zc, 0, 8) := by rw [unfixed_eq _ _ hb, if_pos hv]
    have e3 : cwire_Unvary (cs[i], (0 : Int)) = some (zc, 0, 8) := by rw [unvary_eq _ _ hb, if_neg hv]
    have e4 : cwire_Unsigned cs[i] = some (zc, 0, 8) := by rw [unsigned_eq _ hb, if_neg hv]; rfl
    have e5 : cwire_Untext (cs[i], (-1 : Int)) = some (zc, [], 8) := by rw [untext_eq _ _ hb, outt, if_pos hv]
    have g8 : ((8 : Int) != (8 : Int)) = false := rfl
    simp only [glaw02_WireNames_0, hlaw02_WireNames_0, g0, g1, cond_true, Bool.and_self, Int.toNat_natCast, g2, Option.bind_some, e1, e2, e3, e4, e5, g8, cond_false, g3]

theorem names_true (x : Unit) (w : WfL [] x) : claw02_WireNames x = some true := by
  show nlaw02_WireNames (fun _ => List.replicate) (iterV (glaw02_WireNames_0 (fun _ => List.replicate) big) big) () = some true
  have g : (decide ((0 : Int) ≤ (200001 : Int)) && (decide ((200001 : Int) ≤ (200001 : Int)) && (decide ((200001 : Int) ≤ 68719476736) && true))) = true := by decide
  have hlen : (List.replicate (Int.toNat 200001) (0 : Int)).length = 200001 := by rw [List.length_replicate]; rfl
  have hby : Bytes (List.replicate (Int.toNat 200001) (0 : Int)) := fun c hc => by rw [(List.mem_replicate.1 hc).2]; decide
  have hn : cwire_New (List.replicate (Int.toNat 200001) (0 : Int)) = some (([], (0, ())), 4) := by rw [new_eq, hlen]; rfl
  have ht : cwire_Text (List.replicate (Int.toNat 200001) (0 : Int)) = some ([], 4) := by rw [text_eq, hlen]; rfl
  have last : ∀ (n : Int) (cs : List Cur) self, n = (cs.length : Int) → glaw02_WireNames_0 (fun _ => List.replicate) big self (n, cs) = some true := by
    intro n cs self hn'
    have g0 : decide (n < (cs.length : Int)) = false := decide_eq_false (by omega)
    simp only [glaw02_WireNames_0, hlaw02_WireNames_0, g0, cond_false, g, cond_true, hn, ht, Option.bind_some]
    refine Eq.trans ?_ (rfl : some true = some true)
    kernel_rfl
  unfold nlaw02_WireNames
  dsimp only
  rw [g, cond_true]
  refine names_loop _ ?_ (by simp only [List.length_cons, List.length_nil]; omega) _ fun self => last _ _ self rfl
  intro c hc
  simp only [List.mem_cons, List.not_mem_nil, or_false] at hc
  rcases hc with rfl | rfl | rfl | rfl | rfl
  · exact ⟨by decide, by decide⟩
  · exact ⟨by decide, by decide⟩
  · exact ⟨by decide, by decide⟩
  · exact ⟨fun h => by have := h.1; simp only [hlen] at this; omega, hby⟩
  · exact ⟨by decide, by decide⟩
end Go.Proofs.Ytdhlomachkionaa
