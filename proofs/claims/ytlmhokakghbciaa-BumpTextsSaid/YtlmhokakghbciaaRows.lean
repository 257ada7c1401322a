/-
  No cell of these rows narrows 'for every input' (looked for: loops, veiled, ifaces, maps, wideKeys, modest, calm, conditions, laid).
  DERIVED. THE GIVEN ROWS OF THIS SEAT. 6 by the template 'for every input the law returns true; each argument reads behind the call as it read before'; 0 by the template 'total and deterministic' (their statements: YtlmhokakghbciaaTotals.lean).
  GIVEN WITH THE SEED: the statements are not yours to turn. If you find one false, say at which input.
  Laid BY PROGRAM, IN A SANDBOX (cutbox-rows.mjs): the forced cells as the released guide's own fill.sh prints them over the translation 6470e7372c712a17… (all of the seat's roots in one cut). By AI agents, Wed Nov 11 2026. No macro, syntax, notation, axiom, sorry.
-/
import Derived.Test.YtlmhokakghbciaaChecked
import GoSem.Claim
import GoSem.ClaimJoined
import GoSem.ClaimMapViews
import Derived.JoinedTies
import Derived.KernelRfl
namespace Go.Proofs.Ytlmhokakghbciaa
/- THE CELL 'sum', in the pinned program and in every row, IS THE sha256 OF THE DUMP (.gsa) THAT YtlmhokakghbciaaProg.lean LOADS. Nothing in Lean hashes anything: it is a label: what it is worth is what the hold of that sum in a sandbox is worth. -/
noncomputable def Try.pinned : Pinned := { name := "ytlmhokakghbciaa", sum := "6470e7372c712a17cc79be78dc09216a2d24b3d0b8c1b7f6aa5943350c644119", checked := Try.checked }
namespace Rows
def none {H : Type} : Left H := { results := [], args := [] }

/-- 'wreckagelaw14.BumpAllocs': WHATEVER THE INPUT: true; the input reads as it did. -/
def bumpAllocsSpec : ChangeSpec := { name := "bumpAllocs", fn := fun _ => fun
  | [d1, d2, d3] => { results := [.lit (.bool true)], args := [d1, d2, d3] }
  | _ => none }
def bumpAllocsRow : OpenClaim := { program := "ytlmhokakghbciaa", sum := "6470e7372c712a17cc79be78dc09216a2d24b3d0b8c1b7f6aa5943350c644119", func := "wreckage/wreckagelaw14.BumpAllocs", spec := "bumpAllocs", apart := false }
def BumpAllocsSaid : Prop := bumpAllocsRow.holds Try.pinned (OpenSpec.ofChange bumpAllocsSpec)

/-- ITS FALSE NEIGHBOUR: 'it returns false'. Refute it at one input. -/
def bumpAllocsWrong : ChangeSpec := { name := "bumpAllocs", fn := fun _ => fun
  | [d1, d2, d3] => { results := [.lit (.bool false)], args := [d1, d2, d3] }
  | _ => none }
def BumpAllocsWrongFalsely : Prop := bumpAllocsRow.holds Try.pinned (OpenSpec.ofChange bumpAllocsWrong)

/-- 'wreckagelaw14.BumpPuts': WHATEVER THE INPUT: true; the input reads as it did. -/
def bumpPutsSpec : ChangeSpec := { name := "bumpPuts", fn := fun _ => fun
  | [d1, d2, d3, d4] => { results := [.lit (.bool true)], args := [d1, d2, d3, d4] }
  | _ => none }
def bumpPutsRow : OpenClaim := { program := "ytlmhokakghbciaa", sum := "6470e7372c712a17cc79be78dc09216a2d24b3d0b8c1b7f6aa5943350c644119", func := "wreckage/wreckagelaw14.BumpPuts", spec := "bumpPuts", apart := false }
def BumpPutsSaid : Prop := bumpPutsRow.holds Try.pinned (OpenSpec.ofChange bumpPutsSpec)

/-- ITS FALSE NEIGHBOUR: 'it returns false'. Refute it at one input. -/
def bumpPutsWrong : ChangeSpec := { name := "bumpPuts", fn := fun _ => fun
  | [d1, d2, d3, d4] => { results := [.lit (.bool false)], args := [d1, d2, d3, d4] }
  | _ => none }
def BumpPutsWrongFalsely : Prop := bumpPutsRow.holds Try.pinned (OpenSpec.ofChange bumpPutsWrong)

/-- 'wreckagelaw14.BumpNames': WHATEVER THE INPUT: true; the input reads as it did. -/
def bumpNamesSpec : ChangeSpec := { name := "bumpNames", fn := fun _ => fun
  | [] => { results := [.lit (.bool true)], args := [] }
  | _ => none }
def bumpNamesRow : OpenClaim := { program := "ytlmhokakghbciaa", sum := "6470e7372c712a17cc79be78dc09216a2d24b3d0b8c1b7f6aa5943350c644119", func := "wreckage/wreckagelaw14.BumpNames", spec := "bumpNames", apart := false }
def BumpNamesSaid : Prop := bumpNamesRow.holds Try.pinned (OpenSpec.ofChange bumpNamesSpec)

/-- ITS FALSE NEIGHBOUR: 'it returns false'. Refute it at one input. -/
def bumpNamesWrong : ChangeSpec := { name := "bumpNames", fn := fun _ => fun
  | [] => { results := [.lit (.bool false)], args := [] }
  | _ => none }
def BumpNamesWrongFalsely : Prop := bumpNamesRow.holds Try.pinned (OpenSpec.ofChange bumpNamesWrong)

/-- 'wreckagelaw14.BumpApart': WHATEVER THE INPUT: true; the input reads as it did. -/
def bumpApartSpec : ChangeSpec := { name := "bumpApart", fn := fun _ => fun
  | [d1, d2] => { results := [.lit (.bool true)], args := [d1, d2] }
  | _ => none }
def bumpApartRow : OpenClaim := { program := "ytlmhokakghbciaa", sum := "6470e7372c712a17cc79be78dc09216a2d24b3d0b8c1b7f6aa5943350c644119", func := "wreckage/wreckagelaw14.BumpApart", spec := "bumpApart", apart := false }
def BumpApartSaid : Prop := bumpApartRow.holds Try.pinned (OpenSpec.ofChange bumpApartSpec)

/-- ITS FALSE NEIGHBOUR: 'it returns false'. Refute it at one input. -/
def bumpApartWrong : ChangeSpec := { name := "bumpApart", fn := fun _ => fun
  | [d1, d2] => { results := [.lit (.bool false)], args := [d1, d2] }
  | _ => none }
def BumpApartWrongFalsely : Prop := bumpApartRow.holds Try.pinned (OpenSpec.ofChange bumpApartWrong)

/-- 'wreckagelaw14.BumpRoom': WHATEVER THE INPUT: true; the input reads as it did. -/
def bumpRoomSpec : ChangeSpec := { name := "bumpRoom", fn := fun _ => fun
  | [d1, d2, d3] => { results := [.lit (.bool true)], args := [d1, d2, d3] }
  | _ => none }
def bumpRoomRow : OpenClaim := { program := "ytlmhokakghbciaa", sum := "6470e7372c712a17cc79be78dc09216a2d24b3d0b8c1b7f6aa5943350c644119", func := "wreckage/wreckagelaw14.BumpRoom", spec := "bumpRoom", apart := false }
def BumpRoomSaid : Prop := bumpRoomRow.holds Try.pinned (OpenSpec.ofChange bumpRoomSpec)

/-- ITS FALSE NEIGHBOUR: 'it returns false'. Refute it at one input. -/
def bumpRoomWrong : ChangeSpec := { name := "bumpRoom", fn := fun _ => fun
  | [d1, d2, d3] => { results := [.lit (.bool false)], args := [d1, d2, d3] }
  | _ => none }
def BumpRoomWrongFalsely : Prop := bumpRoomRow.holds Try.pinned (OpenSpec.ofChange bumpRoomWrong)

/-- 'wreckagelaw14.BumpTexts': WHATEVER THE INPUT: true; the input reads as it did. -/
def bumpTextsSpec : ChangeSpec := { name := "bumpTexts", fn := fun _ => fun
  | [d1, d2, d3] => { results := [.lit (.bool true)], args := [d1, d2, d3] }
  | _ => none }
def bumpTextsRow : OpenClaim := { program := "ytlmhokakghbciaa", sum := "6470e7372c712a17cc79be78dc09216a2d24b3d0b8c1b7f6aa5943350c644119", func := "wreckage/wreckagelaw14.BumpTexts", spec := "bumpTexts", apart := false }
def BumpTextsSaid : Prop := bumpTextsRow.holds Try.pinned (OpenSpec.ofChange bumpTextsSpec)

/-- ITS FALSE NEIGHBOUR: 'it returns false'. Refute it at one input. -/
def bumpTextsWrong : ChangeSpec := { name := "bumpTexts", fn := fun _ => fun
  | [d1, d2, d3] => { results := [.lit (.bool false)], args := [d1, d2, d3] }
  | _ => none }
def BumpTextsWrongFalsely : Prop := bumpTextsRow.holds Try.pinned (OpenSpec.ofChange bumpTextsWrong)

/- THE SECOND FORM. 'bulk': how many values and letters a reading holds, each counted each time it is reached (what is shared counts as often as it is met; a slice's spare places count too). A statement '..UptoSaid' is the law's where the arguments, and the package variables that the reading takes, are together of bulk at most 1048576: NARROWER than '..Said'. Prove '..Said' where nothing that the law and all that it calls make is longer than what came in: it says more and counts as full. Else prove '..UptoSaid'. A law counts once. -/
mutual
def uptoBulk {H : Type} : DataW H → Nat
  | .lit (.string bytes) => bytes.length + 1
  | .lit _ => 1
  | .nil => 1
  | .ptr d => uptoBulk d + 1
  | .slice elems spare => uptoBulkAll elems + uptoBulkAll spare + 1
  | .agg parts => uptoBulkAll parts + 1
  | .iface _ d => uptoBulk d + 1
  | .map entries => uptoBulkEntries entries + 1
  | .held _ => 1
def uptoBulkAll {H : Type} : List (DataW H) → Nat
  | [] => 0
  | d :: r => uptoBulk d + uptoBulkAll r
def uptoBulkEntries {H : Type} : List (Lit × DataW H) → Nat
  | [] => 0
  | x :: r => uptoBulkEntry x + uptoBulkEntries r
def uptoBulkEntry {H : Type} : Lit × DataW H → Nat
  | (.string bytes, d) => bytes.length + uptoBulk d + 1
  | (_, d) => uptoBulk d + 1
 end
def uptoSmall : (H : Type) → List (DataW H) → Bool := fun _ ds => decide (uptoBulkAll ds ≤ 1048576)
def OpenSpec.upto (s : _root_.Go.ChangeSpec) : _root_.Go.OpenSpec := { _root_.Go.OpenSpec.ofChange s with cond := some uptoSmall }

/-- 'wreckagelaw14.BumpAllocs', WHERE WHAT IT READS IS OF BULK AT MOST 1048576: true; the input reads as it did. -/
def bumpAllocsUptoRow : OpenClaim := { program := "ytlmhokakghbciaa", sum := "6470e7372c712a17cc79be78dc09216a2d24b3d0b8c1b7f6aa5943350c644119", func := "wreckage/wreckagelaw14.BumpAllocs", spec := "bumpAllocs", apart := false, narrowed := true }
def BumpAllocsUptoSaid : Prop := bumpAllocsUptoRow.holds Try.pinned (OpenSpec.upto bumpAllocsSpec)

/-- 'wreckagelaw14.BumpPuts', WHERE WHAT IT READS IS OF BULK AT MOST 1048576: true; the input reads as it did. -/
def bumpPutsUptoRow : OpenClaim := { program := "ytlmhokakghbciaa", sum := "6470e7372c712a17cc79be78dc09216a2d24b3d0b8c1b7f6aa5943350c644119", func := "wreckage/wreckagelaw14.BumpPuts", spec := "bumpPuts", apart := false, narrowed := true }
def BumpPutsUptoSaid : Prop := bumpPutsUptoRow.holds Try.pinned (OpenSpec.upto bumpPutsSpec)

/-- 'wreckagelaw14.BumpNames', WHERE WHAT IT READS IS OF BULK AT MOST 1048576: true; the input reads as it did. -/
def bumpNamesUptoRow : OpenClaim := { program := "ytlmhokakghbciaa", sum := "6470e7372c712a17cc79be78dc09216a2d24b3d0b8c1b7f6aa5943350c644119", func := "wreckage/wreckagelaw14.BumpNames", spec := "bumpNames", apart := false, narrowed := true }
def BumpNamesUptoSaid : Prop := bumpNamesUptoRow.holds Try.pinned (OpenSpec.upto bumpNamesSpec)

/-- 'wreckagelaw14.BumpApart', WHERE WHAT IT READS IS OF BULK AT MOST 1048576: true; the input reads as it did. -/
def bumpApartUptoRow : OpenClaim := { program := "ytlmhokakghbciaa", sum := "6470e7372c712a17cc79be78dc09216a2d24b3d0b8c1b7f6aa5943350c644119", func := "wreckage/wreckagelaw14.BumpApart", spec := "bumpApart", apart := false, narrowed := true }
def BumpApartUptoSaid : Prop := bumpApartUptoRow.holds Try.pinned (OpenSpec.upto bumpApartSpec)

/-- 'wreckagelaw14.BumpRoom', WHERE WHAT IT READS IS OF BULK AT MOST 1048576: true; the input reads as it did. -/
def bumpRoomUptoRow : OpenClaim := { program := "ytlmhokakghbciaa", sum := "6470e7372c712a17cc79be78dc09216a2d24b3d0b8c1b7f6aa5943350c644119", func := "wreckage/wreckagelaw14.BumpRoom", spec := "bumpRoom", apart := false, narrowed := true }
def BumpRoomUptoSaid : Prop := bumpRoomUptoRow.holds Try.pinned (OpenSpec.upto bumpRoomSpec)

/-- 'wreckagelaw14.BumpTexts', WHERE WHAT IT READS IS OF BULK AT MOST 1048576: true; the input reads as it did. -/
def bumpTextsUptoRow : OpenClaim := { program := "ytlmhokakghbciaa", sum := "6470e7372c712a17cc79be78dc09216a2d24b3d0b8c1b7f6aa5943350c644119", func := "wreckage/wreckagelaw14.BumpTexts", spec := "bumpTexts", apart := false, narrowed := true }
def BumpTextsUptoSaid : Prop := bumpTextsUptoRow.holds Try.pinned (OpenSpec.upto bumpTextsSpec)

end Rows
end Go.Proofs.Ytlmhokakghbciaa
