/- BumpPuts, for all arguments: Put and Texts of package bump return what the reference of layer 14 says, errors among it, and heap and bytes stay as they are. -/
import Derived.Test.YtlmhokakghbciaaBmpG
import Derived.Test.YtlmhokakghbciaaRows
import Derived.WalkKit
import Derived.ProofKit
import Derived.OpenShut
import Derived.ChangeOld
import Derived.Below
set_option linter.unusedVariables false
namespace Go.Proofs.Ytlmhokakghbciaa
open Go.Lift

/-! ### the law BumpPuts -/
namespace bumpPuts
open Go.ChangeShapes Go.WideShapes Go.ChangeAt Go.RowKit
theorem own : ownKnob Try.prog.godebug = none := by kernel_rfl
theorem laidOut : laidOutB Try.prog = true := by kernel_rfl

set_option maxRecDepth 100000 in
theorem lifted (os : Os) (started : os.Started) (H : Type) (enc : TypeId × Value → H) :
    ReturnsInHanded {} Try.checked os 4 .any (Rows.bumpPutsSpec.pre6 enc Try.prog Try.f4 Rows.bumpPutsRow.domain false) (Rows.bumpPutsSpec.post enc Try.prog Try.f4 false true false false) := by
  refine returnsInHanded_of_change (C := Try.checked) own started (by kernel_rfl) Try.func4
    (ChangeSpec.witness6 (enc := enc) (C := Try.checked) false ⟨#[], #[.agg #[.int .u64 0, .slice none 0 0], .slice none 0 0, .int .i64 0, .slice none 0 0], []⟩ 8 (by kernel_rfl) (by kernel_rfl) (by kernel_rfl) (by kernel_rfl)) ?_
  intro W base args ds gs before hval0 hW hcnd _
  have hval : ∀ (j : Nat) t v, Try.f4.params[j]? = some t → args[j]? = some v → Value.okWide Try.prog W .any base t v := hval0
  have hW' := hW
  obtain ⟨p, q, hA0, hV, rfl, hfz, hnd⟩ := hW
  have hA : DataW.TrodAll enc Try.prog W 0 (fun _ => true) true Try.f4.params.toList args.toList ds p := hA0
  have hlt : ∀ x ∈ p, x.block < W.heap.size := hA.lt
  have hlen : ds.length = 4 := trodAll_length hA
  obtain ⟨rfl, rfl⟩ := trodVars_none hV
  refine (law_run2 (fn := Glaw14_BumpPuts) (tab := tab) tabOk Llaw14_BumpPuts (fun x w => ⟨true, by
    have h : Glaw14_BumpPuts.F x = some true := by
      dsimp only [Glaw14_BumpPuts]
      exact Bp.puts_true14 x w
    exact h, rfl⟩) (ts := Try.f4.params.toList) (by kernel_rfl) (by kernel_rfl) (fun j t v h h' => hval j t v (by rw [← Array.getElem?_toList]; exact h) h') hA ⟨fun g v h => by simp [Go.Lift.glTab, Go.Lift.lk] at h, fun g h => by simp [Go.Lift.glInts] at h⟩).mono fun e W' ⟨he, bel⟩ => ?_
  subst he
  have hB := trodAll_below laidOut bel (by kernel_rfl) hA hlt
  match ds, hlen with
  | [d0, d1, d2, d3], _ => exact ⟨_, rfl, _, _, _, [], _, [], hW', trodAll_mk1 (shut_bool Try.underlying4 _), hB, rfl, bel.frame _, fun h => by cases h⟩

theorem over : Rows.bumpPutsRow.holds Try.pinned (OpenSpec.ofChange Rows.bumpPutsSpec) :=
  OpenClaim.holds_of_wide 4 Try.f4 rfl rfl rfl rfl rfl rfl rfl ⟨rfl, rfl, rfl, rfl, rfl⟩ rfl rfl rfl rfl rfl (by kernel_rfl) Try.func4 (by kernel_rfl)
    (of_decide_eq_true (by kernel_rfl)) (by unfold Func.isWrapper; first | (rw [if_pos (by decide +kernel)]; kernel_rfl) | (rw [if_neg (by decide +kernel)]; exact ⟨rfl, rfl⟩))
    (fun os started H enc _ => lifted os started H enc)

theorem proved : Rows.BumpPutsSaid := over
end bumpPuts
#print axioms bumpPuts.proved
end Go.Proofs.Ytlmhokakghbciaa
